/- A cluster in memory: what a node hands out; elements of rows that are stored into. (Written by mksim.py.) -/
import Derived.Test.YtmiijlecfiddmaaGreatNNM01
import Derived.Test.YtmiijlecfiddmaaGreatNNM10
import Derived.Test.YtmiijlecfiddmaaGreatNNM26
import Derived.Test.YtmiijlecfiddmaaGreatNNM29
set_option linter.unusedVariables false
set_option linter.unusedSimpArgs false
set_option maxRecDepth 100000
set_option maxHeartbeats 200000
namespace Go.Proofs.YtmiijlecfiddmaaGreat
open Go.RowKit
section
variable {J : Nat → Prop} {w w' X : World} {lab lab' : Nat → Nat} {S : Sim} {L : SimL}
theorem Sp.put {T : TypeId} {sz : Nat} {A : Option Addr} {n c : Nat} {vs : List Value} (h : Sp T sz w A n c vs) {g off : Nat} (e : A = some ⟨g,off,none⟩) (i : Nat) (v : Value) : Sp T sz (w.setCell ⟨g,off + i,none⟩ v) A n c (vs.set i v) := by
 refine ⟨by rw [List.length_set]; exact h.1,h.2.1,h.2.2.1,fun a ea => ?_⟩;obtain ⟨g2,off2,cur,e2,hg,hs,hc⟩ := h.2.2.2 a ea;rw [e] at ea;injection ea with ea;rw [<- ea] at e2;injection e2 with e3 e4;subst e3 e4;refine ⟨g,off,cur.setIfInBounds (off + i) v,ea.symm,setCell_at w ⟨g,off + i,none⟩ v cur T (0,0) rfl hg,by rw [Array.size_setIfInBounds]; exact hs,fun j u hu => ?_⟩
 by_cases hij : i = j
 · subst hij
   have hl : i < vs.length := by
    have := (List.getElem?_eq_some_iff.1 hu).1
    rwa [List.length_set] at this
   rw [List.getElem?_set_self hl] at hu;have h1 := hc i _ (List.getElem?_eq_getElem hl);have h2 := (Array.getElem?_eq_some_iff.1 h1).1;rw [Array.getElem?_setIfInBounds_self_of_lt h2];exact hu
 · rw [List.getElem?_set_ne hij] at hu;rw [Array.getElem?_setIfInBounds_ne (by omega)];exact hc j u hu
theorem Row.put {i : Nat} {T : TypeId} {sz : Nat} {A : Option Addr} {n c : Nat} {vs : List Value} (h : Row w lab i T sz A n c vs) {g off : Nat} (e : A = some ⟨g,off,none⟩) (j : Nat) (v : Value) : Row (w.setCell ⟨g,off + j,none⟩ v) lab i T sz A n c (vs.set j v) := ⟨h.sp.put e j v,h.lb⟩
theorem qfP {β : Type} (f : Nat -> List β) (z : Nat) (hz : ∀ k,(f k).length = z) : ∀ (n k : Nat),k < n -> ∀ (f' : Nat -> List β),(∀ j,j ≠ k -> f' j = f j) -> (f' k).length = z -> ∀ i,((List.range n).flatMap f')[i]? = if k * z <= i /\ i < k * z + z then (f' k)[i - k * z]? else ((List.range n).flatMap f)[i]? := by
 intro n
 induction n with
 | zero => intro k hk; exact absurd hk (by omega)
 | succ n ih =>
   intro k hk f' hf hl i
   have hlen : ∀ (g : Nat -> List β),(∀ j,j < n -> (g j).length = z) -> ((List.range n).flatMap g).length = n * z := by
    intro g hg
    have : ∀ m,m <= n -> ((List.range m).flatMap g).length = m * z := by
     intro m
     induction m with
     | zero => intro _; simp
     | succ m im =>
       intro hm;rw [List.range_succ,List.flatMap_append,List.length_append,im (by omega),List.flatMap_cons,List.flatMap_nil,List.append_nil,hg m (by omega),Nat.succ_mul]
    exact this n nlq
   have hl' : ∀ j,j < n -> (f' j).length = z := fun j hj => by
    by_cases hjk : j = k
    · rw [hjk]; exact hl
    · rw [hf j hjk]; exact hz j
   rw [List.range_succ,List.flatMap_append,List.flatMap_append,List.flatMap_cons,List.flatMap_nil,List.append_nil,List.flatMap_cons,List.flatMap_nil,List.append_nil]
   by_cases hkn : k = n
   · subst hkn
     have e1 : (List.range k).flatMap f' = (List.range k).flatMap f := by
      have : ∀ m,m <= k -> (List.range m).flatMap f' = (List.range m).flatMap f := by
       intro m
       induction m with
       | zero => intro _; rfl
       | succ m im =>
         intro hm;rw [List.range_succ,List.flatMap_append,List.flatMap_append,im (by omega)]
         congr 1
         simp [hf m (by omega)]
      exact this k nlq
     rw [e1]
     by_cases hi : i < k * z
     · rw [if_neg (by omega),List.getElem?_append_left (by rw [hlen f fun j _ => hz j]; exact hi),List.getElem?_append_left (by rw [hlen f fun j _ => hz j]; exact hi)]
     · rw [List.getElem?_append_right (by rw [hlen f fun j _ => hz j]; omega),hlen f fun j _ => hz j]
       by_cases hi2 : i < k * z + z
       · rw [if_pos ⟨by omega,hi2⟩]
       · rw [if_neg (by omega),List.getElem?_eq_none (by rw [hl]; omega),List.getElem?_append_right (by rw [hlen f fun j _ => hz j]; omega),List.getElem?_eq_none (by rw [hlen f fun j _ => hz j,hz k]; omega)]
   · have hkl : k < n := by omega
     rw [hf n (fun e => hkn e.symm)];have hm : (k + 1) * z <= n * z := Nat.mul_le_mul_right _ hkl;rw [Nat.succ_mul] at hm
     by_cases hi : i < n * z
     · rw [List.getElem?_append_left (by rw [hlen f' hl']; exact hi),List.getElem?_append_left (by rw [hlen f fun j _ => hz j]; exact hi)];exact ih k hkl f' hf hl i
     · rw [List.getElem?_append_right (by rw [hlen f' hl']; omega),hlen f' hl',if_neg (by omega),List.getElem?_append_right (by rw [hlen f fun j _ => hz j]; omega),hlen f fun j _ => hz j]
theorem map_set {n k : Nat} (f : Nat -> Value) (v : Value) (f' : Nat -> Value) (hf : ∀ j,j ≠ k -> f' j = f j) (hk : f' k = v) : ((List.range n).map f).set k v = (List.range n).map f' := by
 apply List.ext_getElem?
 intro i
 by_cases hik : k = i
 · subst hik
   by_cases hkn : k < n
   · rw [List.getElem?_set_self (by simpa using hkn)]
     simp [hkn,hk]
   · rw [List.getElem?_eq_none (by simp; omega),List.getElem?_eq_none (by simp; omega)]
 · rw [List.getElem?_set_ne hik];simp only [List.getElem?_map]
   by_cases hin : i < n
   · simp [hin,hf i (fun e => hik e.symm)]
   · simp [hin]
theorem qa2 {β : Type} (f : Nat -> List β) (z : Nat) (hz : ∀ k,(f k).length = z) (n : Nat) : ((List.range n).flatMap f).length = n * z := by
 induction n with
 | zero => simp
 | succ n ih => rw [List.range_succ,List.flatMap_append,List.length_append,ih,List.flatMap_cons,List.flatMap_nil,List.append_nil,hz n,Nat.succ_mul]
theorem qin {ht hv : Nat -> Int} {n k : Nat} (hk : k < n) (t v : Int) : ((qal ht hv n).set (k * 2) (.int .i64 t)).set (k * 2 + 1) (.int .i64 v) = qal (Sim.upd ht k t) (Sim.upd hv k v) n := by
 apply List.ext_getElem?
 intro i;have hlen : (qal ht hv n).length = n * 2 := qa2 _ 2 (fun _ => rfl) n;have hm : (k + 1) * 2 <= n * 2 := Nat.mul_le_mul_right _ hk;unfold qal at *;rw [qfP (fun j => [Value.int .i64 (ht j), .int .i64 (hv j)]) 2 (fun _ => rfl) n k hk (fun j => [Value.int .i64 (Sim.upd ht k t j), .int .i64 (Sim.upd hv k v j)]) (fun j hj => by rw [upd_ne _ _ hj,upd_ne _ _ hj]) rfl i]
 by_cases h0 : i = k * 2
 · subst h0;rw [List.getElem?_set_ne (by omega),List.getElem?_set_self (by omega),if_pos (by omega),Nat.sub_self,qm,qm]
   rfl
 · by_cases h1 : i = k * 2 + 1
   · subst h1;rw [List.getElem?_set_self (by rw [List.length_set]; omega),if_pos (by omega),show k * 2 + 1 - k * 2 = 1 by omega,qm,qm]
     rfl
   · rw [List.getElem?_set_ne (by omega),List.getElem?_set_ne (by omega),if_neg (by omega)]
theorem qio {sn : Nat -> Ent} {sE : Nat -> Option Addr} {sc : Nat -> Nat} {n k : Nat} (hk : k < n) (x : Ent) (E : Option Addr) (c : Nat) : (((qac sn sE sc n).set (k * 3) (.int .i64 x.i)).set (k * 3 + 1) (.int .i64 x.t)).set (k * 3 + 2) (.slice E x.d.length c) = qac (Sim.upd sn k x) (Sim.upd sE k E) (Sim.upd sc k c) n := by
 apply List.ext_getElem?
 intro i;have hlen : (qac sn sE sc n).length = n * 3 := qa2 _ 3 (fun _ => rfl) n;have hm : (k + 1) * 3 <= n * 3 := Nat.mul_le_mul_right _ hk;unfold qac at *;rw [qfP (fun j => [Value.int .i64 (sn j).i, .int .i64 (sn j).t, .slice (sE j) (sn j).d.length (sc j)]) 3 (fun _ => rfl) n k hk (fun j => [Value.int .i64 (Sim.upd sn k x j).i, .int .i64 (Sim.upd sn k x j).t, .slice (Sim.upd sE k E j) (Sim.upd sn k x j).d.length (Sim.upd sc k c j)]) (fun j hj => by rw [upd_ne _ _ hj,upd_ne _ _ hj,upd_ne _ _ hj]) rfl i]
 by_cases h0 : i = k * 3
 · subst h0;rw [List.getElem?_set_ne (by omega),List.getElem?_set_ne (by omega),List.getElem?_set_self (by omega),if_pos (by omega),Nat.sub_self,qm,qm,qm]
   rfl
 · by_cases h1 : i = k * 3 + 1
   · subst h1;rw [List.getElem?_set_ne (by omega),List.getElem?_set_self (by rw [List.length_set]; omega),if_pos (by omega),show k * 3 + 1 - k * 3 = 1 by omega,qm,qm,qm]
     rfl
   · by_cases h2 : i = k * 3 + 2
     · subst h2;rw [List.getElem?_set_self (by rw [List.length_set,List.length_set]; omega),if_pos (by omega),show k * 3 + 2 - k * 3 = 2 by omega,qm,qm,qm]
       rfl
     · rw [List.getElem?_set_ne (by omega),List.getElem?_set_ne (by omega),List.getElem?_set_ne (by omega),if_neg (by omega)]
theorem qh.hardPut (h : qh w S L lab) {k : Nat} (hk : k < S.n) {g off : Nat} (e : L.Ah = some ⟨g,off,none⟩) (t v : Int) :
 qh ((w.setCell ⟨g,off + k * 2,none⟩ (.int .i64 t)).setCell ⟨g,off + k * 2 + 1,none⟩ (.int .i64 v)) { S with ht := Sim.upd S.ht k t,hv := Sim.upd S.hv k v } L lab /\ Turn (fun i => i = 3) w ((w.setCell ⟨g,off + k * 2,none⟩ (.int .i64 t)).setCell ⟨g,off + k * 2 + 1,none⟩ (.int .i64 v)) lab lab := by
 have hg := h.h.lb g ⟨off,e⟩;have t1 : Turn (fun i => i = 3) w (w.setCell ⟨g,off + k * 2,none⟩ (.int .i64 t)) lab lab := qj h.lim hg;have t2 : Turn (fun i => i = 3) (w.setCell ⟨g,off + k * 2,none⟩ (.int .i64 t)) ((w.setCell ⟨g,off + k * 2,none⟩ (.int .i64 t)).setCell ⟨g,off + k * 2 + 1,none⟩ (.int .i64 v)) lab lab := qj t1.lim hg;have tt := t1.trans t2 (by decide);refine ⟨?_,tt⟩;have hr := (h.h.put e (k * 2) (.int .i64 t)).put e (k * 2 + 1) (.int .i64 v);rw [qin hk,<- Nat.add_assoc] at hr
 exact {
  lim := tt.lim,
  row := (tt.same _ (hlt h.row) (by rw [h.me]; exact (by decide : ¬ 1 = 3))).trans h.row,
  me := (tt.old _ (hlt h.row) (by rw [h.me]; exact (by decide : ¬ 1 = 3))).trans h.me,
  r := h.r.move tt (by decide : ¬ 2 = 3),
  h := hr,
  s := h.s.move tt (by decide : ¬ 4 = 3),
  sd := fun j hj => (h.sd j hj).1.moved (h.sd j hj).2 tt (by decide : ¬ 0 = 3),
  l := h.l.move tt (by decide : ¬ 5 = 3),
  ld := fun j hj => (h.ld j hj).moved tt (by decide : ¬ 0 = 3),
  n := h.n.move tt (by decide : ¬ 6 = 3),
  nm := h.nm,
  nd := fun x hx => (h.nd x hx).moved tt (by decide : ¬ 0 = 3),
  t := h.t.move tt (by decide : ¬ 7 = 3),
  d := h.d.move tt (by decide : ¬ 8 = 3),
  a := h.a.move tt (by decide : ¬ 9 = 3),
  am := h.am,
  ad := fun x hx => (h.ad x hx).moved tt (by decide : ¬ 0 = 3),
  q := h.q.move tt (by decide : ¬ 10 = 3),
  nodes := fun j hj => (h.nodes j hj).move tt (by omega) (by omega) }
theorem qh.snapPut (h : qh w S L lab) {k : Nat} (hk : k < S.n) {g off : Nat} (e : L.As = some ⟨g,off,none⟩) (x : Ent) (E : Option Addr) (c : Nat) (hE : Lies w E x.d.length c x.d) (hz : 0 < x.d.length -> ∀ g o,E = some ⟨g,o,none⟩ -> lab g = 0) :
 qh (((w.setCell ⟨g,off + k * 3,none⟩ (.int .i64 x.i)).setCell ⟨g,off + k * 3 + 1,none⟩ (.int .i64 x.t)).setCell ⟨g,off + k * 3 + 2,none⟩ (.slice E x.d.length c)) { S with sn := Sim.upd S.sn k x } { L with sE := Sim.upd L.sE k E,sc := Sim.upd L.sc k c } lab /\ Turn (fun i => i = 4) w (((w.setCell ⟨g,off + k * 3,none⟩ (.int .i64 x.i)).setCell ⟨g,off + k * 3 + 1,none⟩ (.int .i64 x.t)).setCell ⟨g,off + k * 3 + 2,none⟩ (.slice E x.d.length c)) lab lab := by
 have hg := h.s.lb g ⟨off,e⟩;have t1 : Turn (fun i => i = 4) w (w.setCell ⟨g,off + k * 3,none⟩ (.int .i64 x.i)) lab lab := qj h.lim hg;have t2 : Turn (fun i => i = 4) (w.setCell ⟨g,off + k * 3,none⟩ (.int .i64 x.i)) ((w.setCell ⟨g,off + k * 3,none⟩ (.int .i64 x.i)).setCell ⟨g,off + k * 3 + 1,none⟩ (.int .i64 x.t)) lab lab := qj t1.lim hg;have t3 : Turn (fun i => i = 4) ((w.setCell ⟨g,off + k * 3,none⟩ (.int .i64 x.i)).setCell ⟨g,off + k * 3 + 1,none⟩ (.int .i64 x.t)) (((w.setCell ⟨g,off + k * 3,none⟩ (.int .i64 x.i)).setCell ⟨g,off + k * 3 + 1,none⟩ (.int .i64 x.t)).setCell ⟨g,off + k * 3 + 2,none⟩ (.slice E x.d.length c)) lab lab := qj t2.lim hg;have tt := (t1.trans t2 (by decide)).trans t3 (by decide);refine ⟨?_,tt⟩;have hr := ((h.s.put e (k * 3) (.int .i64 x.i)).put e (k * 3 + 1) (.int .i64 x.t)).put e (k * 3 + 2) (.slice E x.d.length c);rw [qio hk,<- Nat.add_assoc,<- Nat.add_assoc] at hr
 have hsd : ∀ j,j < S.n -> Lies w (Sim.upd L.sE k E j) (Sim.upd S.sn k x j).d.length (Sim.upd L.sc k c j) (Sim.upd S.sn k x j).d /\ (0 < (Sim.upd S.sn k x j).d.length -> ∀ g o,Sim.upd L.sE k E j = some ⟨g,o,none⟩ -> lab g = 0) := fun j hj => by
  by_cases hjk : j = k
  · subst hjk;rw [qm,qm,qm];exact ⟨hE,hz⟩
  · rw [upd_ne _ _ hjk,upd_ne _ _ hjk,upd_ne _ _ hjk];exact h.sd j hj
 exact {
  lim := tt.lim,
  row := (tt.same _ (hlt h.row) (by rw [h.me]; exact (by decide : ¬ 1 = 4))).trans h.row,
  me := (tt.old _ (hlt h.row) (by rw [h.me]; exact (by decide : ¬ 1 = 4))).trans h.me,
  r := h.r.move tt (by decide : ¬ 2 = 4),
  h := h.h.move tt (by decide : ¬ 3 = 4),
  s := hr,
  sd := fun j hj => (hsd j hj).1.moved (hsd j hj).2 tt (by decide),
  l := h.l.move tt (by decide : ¬ 5 = 4),
  ld := fun j hj => (h.ld j hj).moved tt (by decide : ¬ 0 = 4),
  n := h.n.move tt (by decide : ¬ 6 = 4),
  nm := h.nm,
  nd := fun x hx => (h.nd x hx).moved tt (by decide : ¬ 0 = 4),
  t := h.t.move tt (by decide : ¬ 7 = 4),
  d := h.d.move tt (by decide : ¬ 8 = 4),
  a := h.a.move tt (by decide : ¬ 9 = 4),
  am := h.am,
  ad := fun x hx => (h.ad x hx).moved tt (by decide : ¬ 0 = 4),
  q := h.q.move tt (by decide : ¬ 10 = 4),
  nodes := fun j hj => (h.nodes j hj).move tt (by omega) (by omega) }
theorem qh.logPut (h : qh w S L lab) {k : Nat} (hk : k < S.n) {g off : Nat} (e : L.Al = some ⟨g,off,none⟩) (l : List Ent) (A : Option Addr) (c : Nat) (hA : Ents w (fun b => lab b = 0) A l.length c l) :
 qh (w.setCell ⟨g,off + k,none⟩ (.slice A l.length c)) { S with lg := Sim.upd S.lg k l } { L with lA := Sim.upd L.lA k A,lc := Sim.upd L.lc k c } lab /\ Turn (fun i => i = 5) w (w.setCell ⟨g,off + k,none⟩ (.slice A l.length c)) lab lab := by
 have hg := h.l.lb g ⟨off,e⟩;have tt : Turn (fun i => i = 5) w (w.setCell ⟨g,off + k,none⟩ (.slice A l.length c)) lab lab := qj h.lim hg;refine ⟨?_,tt⟩;have hr := h.l.put e k (.slice A l.length c);have hvs : (logs S.lg L.lA L.lc S.n).set k (.slice A l.length c) = logs (Sim.upd S.lg k l) (Sim.upd L.lA k A) (Sim.upd L.lc k c) S.n := map_set _ _ _ (fun j hj => by rw [upd_ne _ _ hj,upd_ne _ _ hj,upd_ne _ _ hj]) (by rw [qm,qm,qm]);rw [hvs] at hr
 have hld : ∀ j,j < S.n -> Ents w (fun b => lab b = 0) (Sim.upd L.lA k A j) (Sim.upd S.lg k l j).length (Sim.upd L.lc k c j) (Sim.upd S.lg k l j) := fun j hj => by
  by_cases hjk : j = k
  · subst hjk;rw [qm,qm,qm];exact hA
  · rw [upd_ne _ _ hjk,upd_ne _ _ hjk,upd_ne _ _ hjk];exact h.ld j hj
 exact {
  lim := tt.lim,
  row := (tt.same _ (hlt h.row) (by rw [h.me]; exact (by decide : ¬ 1 = 5))).trans h.row,
  me := (tt.old _ (hlt h.row) (by rw [h.me]; exact (by decide : ¬ 1 = 5))).trans h.me,
  r := h.r.move tt (by decide : ¬ 2 = 5),
  h := h.h.move tt (by decide : ¬ 3 = 5),
  s := h.s.move tt (by decide : ¬ 4 = 5),
  sd := fun j hj => (h.sd j hj).1.moved (h.sd j hj).2 tt (by decide : ¬ 0 = 5),
  l := hr,
  ld := fun j hj => (hld j hj).moved tt (by decide),
  n := h.n.move tt (by decide : ¬ 6 = 5),
  nm := h.nm,
  nd := fun x hx => (h.nd x hx).moved tt (by decide : ¬ 0 = 5),
  t := h.t.move tt (by decide : ¬ 7 = 5),
  d := h.d.move tt (by decide : ¬ 8 = 5),
  a := h.a.move tt (by decide : ¬ 9 = 5),
  am := h.am,
  ad := fun x hx => (h.ad x hx).moved tt (by decide : ¬ 0 = 5),
  q := h.q.move tt (by decide : ¬ 10 = 5),
  nodes := fun j hj => (h.nodes j hj).move tt (by omega) (by omega) }
theorem qh.ptrPut (h : qh w S L lab) {k : Nat} (hk : k < S.n) {g off : Nat} (e : L.Ar = some ⟨g,off,none⟩) (p : Nat) (N : Node) {W : World} {q : Ptrs} {s : Nat} {xs : List MLay} {K : Nat -> Prop} (hb : Below w.heap.size w W) (R : RfAt W p N (fun b => b < w.heap.size) q s xs K) (hf : frel N.lg s) :
 ∃ lab',qh (W.setCell ⟨g,off + k,none⟩ (ptrV p)) { S with r := Sim.upd S.r k N } { L with ps := Sim.upd L.ps k p } lab' /\ Turn (fun i => i = 2 \/ i = 11 + k) w (W.setCell ⟨g,off + k,none⟩ (ptrV p)) lab lab' := by
 obtain ⟨lab1,hl1⟩ : ∃ lab1 : Nat -> Nat,∀ b,lab1 b = if w.heap.size <= b /\ b < W.heap.size then 11 + k else if lab b = 11 + k then 0 else lab b := ⟨fun b => if w.heap.size <= b /\ b < W.heap.size then 11 + k else if lab b = 11 + k then 0 else lab b,fun _ => rfl⟩
 have t0 : Turn (fun i => i = 11 + k) w W lab lab1 := by
  refine ⟨hb.os,hb.tape,hb.output,hb.size,fun b h1 _ => hb.block b h1,fun b h1 h2 => by rw [hl1,if_neg (by omega),if_neg h2],fun b h1 h2 => by rw [hl1,if_neg (by omega),if_pos h2]; exact .inr rfl,fun b h1 => ?_,fun b h1 => ?_⟩
  · rw [hl1]
    by_cases h3 : w.heap.size <= b /\ b < W.heap.size
    · rw [if_pos h3]; exact .inl rfl
    · rw [if_neg h3,h.lim b h1]; exact .inr (if_neg (by omega))
  · have := hb.size;rw [hl1,if_neg (by omega),h.lim b (by omega)];exact if_neg (by omega)
 have hrr := h.r.move t0 (by omega);have hg := hrr.lb g ⟨off,e⟩;have t1 : Turn (fun i => i = 2) W (W.setCell ⟨g,off + k,none⟩ (ptrV p)) lab1 lab1 := qj t0.lim hg;have tt : Turn (fun i => i = 2 \/ i = 11 + k) w (W.setCell ⟨g,off + k,none⟩ (ptrV p)) lab lab1 := (t0.wide fun i e => .inr e).trans (t1.wide fun i e => .inl e) (by omega);refine ⟨lab1,?_,tt⟩;have hr := hrr.put e k (ptrV p);have hvs : (ptrs L.ps S.n).set k (ptrV p) = ptrs (Sim.upd L.ps k p) S.n := map_set _ _ _ (fun j hj => by rw [upd_ne _ _ hj]) (by rw [qm]);rw [hvs] at hr
 have R2 : qaj W lab1 (11 + k) p N := ⟨q,s,xs,K,R.less fun b hb2 => by
  obtain ⟨h1,h2⟩ := hb2;show b < w.heap.size;rw [hl1] at h2
  by_cases h3 : w.heap.size <= b
  · rw [if_pos ⟨h3,h1⟩] at h2;exact absurd rfl h2
  · omega,hf⟩
 exact {
  lim := tt.lim,
  row := (tt.same _ (hlt h.row) (by rw [h.me]; exact (by omega : ¬ (1 = 2 \/ 1 = 11 + k)))).trans h.row,
  me := (tt.old _ (hlt h.row) (by rw [h.me]; exact (by omega : ¬ (1 = 2 \/ 1 = 11 + k)))).trans h.me,
  r := hr,
  h := h.h.move tt (by omega : ¬ (3 = 2 \/ 3 = 11 + k)),
  s := h.s.move tt (by omega : ¬ (4 = 2 \/ 4 = 11 + k)),
  sd := fun j hj => (h.sd j hj).1.moved (h.sd j hj).2 tt (by omega : ¬ (0 = 2 \/ 0 = 11 + k)),
  l := h.l.move tt (by omega : ¬ (5 = 2 \/ 5 = 11 + k)),
  ld := fun j hj => (h.ld j hj).moved tt (by omega : ¬ (0 = 2 \/ 0 = 11 + k)),
  n := h.n.move tt (by omega : ¬ (6 = 2 \/ 6 = 11 + k)),
  nm := h.nm,
  nd := fun x hx => (h.nd x hx).moved tt (by omega : ¬ (0 = 2 \/ 0 = 11 + k)),
  t := h.t.move tt (by omega : ¬ (7 = 2 \/ 7 = 11 + k)),
  d := h.d.move tt (by omega : ¬ (8 = 2 \/ 8 = 11 + k)),
  a := h.a.move tt (by omega : ¬ (9 = 2 \/ 9 = 11 + k)),
  am := h.am,
  ad := fun x hx => (h.ad x hx).moved tt (by omega : ¬ (0 = 2 \/ 0 = 11 + k)),
  q := h.q.move tt (by omega : ¬ (10 = 2 \/ 10 = 11 + k)),
  nodes := fun j hj => by
   by_cases hjk : j = k
   · subst hjk;show qaj _ lab1 (11 + j) (Sim.upd L.ps j p j) (Sim.upd S.r j N j);rw [qm,qm];exact R2.move t1 (by omega) (by omega)
   · show qaj _ lab1 (11 + j) (Sim.upd L.ps k p j) (Sim.upd S.r k N j);rw [upd_ne _ _ hjk,upd_ne _ _ hjk]
     exact (h.nodes j hj).move tt (by omega) (by omega) }
theorem qh.took (h : qh w S L lab) {k : Nat} (hk : k < S.n) {q : Ptrs} {s' : Nat} {xs : List MLay} {K : Nat -> Prop} (R : RfAt w (L.ps k) (S.r k) (fun b => b < w.heap.size /\ lab b ≠ 11 + k) q s' xs K) {K' : Nat -> Prop} {q' : Ptrs} {s2 : Nat}
 (R' : RfAt w' (L.ps k) (S.r k).took.1 (fun b => ((b < w.heap.size /\ lab b ≠ 11 + k) \/ w.heap.size <= b) \/ Pay (S.r k).sn.d.length q.E K b \/ blk q.M b \/ blk q.T b) q' s2 [] K') (hf : frel (S.r k).took.1.lg s2)
 (hkp : qf (fun b => b < w.heap.size /\ lab b ≠ 11 + k) w w') :
 ∃ lab',qh w' { S with r := Sim.upd S.r k (S.r k).took.1 } L lab' /\ Turn (fun i => i = 11 + k) w w' lab lab' /\ (∀ b,Pay (S.r k).sn.d.length q.E K b \/ blk q.M b \/ blk q.T b \/ w.heap.size <= b -> lab' b = 0) := by
 classical
 have hown : ∀ b,Pay (S.r k).sn.d.length q.E K b \/ blk q.M b \/ blk q.T b -> b < w.heap.size /\ lab b = 11 + k := fun b hb => by
  have h1 : ¬ (b < w.heap.size /\ lab b ≠ 11 + k) /\ b < w.heap.size := by
   rcases hb with hb | hb | hb
   · exact ⟨(R.kz b hb.1).1,(R.kz b hb.1).2.2⟩
   · exact ⟨(R.mz b hb).1,R.mss.lt hb⟩
   · exact ⟨(R.tz b hb).1,R.tds.lt hb⟩
  exact ⟨h1.2,Classical.byContradiction fun e => h1.1 ⟨h1.2,e⟩⟩
 obtain ⟨lab',hl⟩ : ∃ lab' : Nat -> Nat,∀ b,lab' b = if (Pay (S.r k).sn.d.length q.E K b \/ blk q.M b \/ blk q.T b \/ w.heap.size <= b) then 0 else lab b := ⟨fun b => if (Pay (S.r k).sn.d.length q.E K b \/ blk q.M b \/ blk q.T b \/ w.heap.size <= b) then 0 else lab b,fun _ => rfl⟩
 have t : Turn (fun i => i = 11 + k) w w' lab lab' := by
  refine ⟨hkp.os,hkp.tape,hkp.output,hkp.size,fun b hb hj => hkp.block b hb ⟨hb,hj⟩,fun b hb hj => ?_,fun b hb hj => ?_,fun b hb => ?_,fun b hb => ?_⟩
  · rw [hl,if_neg];rintro (e | e | e | e)
    · exact hj (hown b (.inl e)).2
    · exact hj (hown b (.inr (.inl e))).2
    · exact hj (hown b (.inr (.inr e))).2
    · omega
  · rw [hl]
    split
    · exact .inr rfl
    · exact .inl hj
  · rw [hl,if_pos (.inr (.inr (.inr hb)))];exact .inr rfl
  · rw [hl,if_pos (.inr (.inr (.inr (Nat.le_trans hkp.size hb))))]
 have nJ : ∀ i,¬ 10 < i -> ¬ i = 11 + k := fun i hi => by omega
 refine ⟨lab',?_,t,fun b hb => by rw [hl,if_pos hb]⟩
 exact {
  lim := t.lim,
  row := (t.same _ (hlt h.row) (by rw [h.me]; exact (nJ 1 (by decide)))).trans h.row,
  me := (t.old _ (hlt h.row) (by rw [h.me]; exact (nJ 1 (by decide)))).trans h.me,
  r := h.r.move t (nJ 2 (by decide)),
  h := h.h.move t (nJ 3 (by decide)),
  s := h.s.move t (nJ 4 (by decide)),
  sd := fun j hj => (h.sd j hj).1.moved (h.sd j hj).2 t (nJ 0 (by decide)),
  l := h.l.move t (nJ 5 (by decide)),
  ld := fun j hj => (h.ld j hj).moved t (nJ 0 (by decide)),
  n := h.n.move t (nJ 6 (by decide)),
  nm := h.nm,
  nd := fun x hx => (h.nd x hx).moved t (nJ 0 (by decide)),
  t := h.t.move t (nJ 7 (by decide)),
  d := h.d.move t (nJ 8 (by decide)),
  a := h.a.move t (nJ 9 (by decide)),
  am := h.am,
  ad := fun x hx => (h.ad x hx).moved t (nJ 0 (by decide)),
  q := h.q.move t (nJ 10 (by decide)),
  nodes := fun j hj => by
   by_cases hjk : j = k
   · subst hjk;refine ⟨q',s2,[],K',?_,?_⟩
     · show RfAt w' (L.ps j) (Sim.upd S.r j _ j) _ q' s2 [] K';rw [qm];refine R'.less fun b hb => ?_;obtain ⟨h1,h2⟩ := hb;rw [hl] at h2
       by_cases h3 : Pay (S.r j).sn.d.length q.E K b \/ blk q.M b \/ blk q.T b \/ w.heap.size <= b
       · rcases h3 with e | e | e | e
         · exact .inr (.inl e)
         · exact .inr (.inr (.inl e))
         · exact .inr (.inr (.inr e))
         · exact .inl (.inr e)
       · rw [if_neg h3] at h2;exact .inl (.inl ⟨Nat.lt_of_not_le fun e => h3 (.inr (.inr (.inr e))),h2⟩)
     · show frel (Sim.upd S.r j _ j).lg s2;rw [qm];exact hf
   · show qaj w' _ (11 + j) (L.ps j) (Sim.upd S.r k _ j);rw [upd_ne _ _ hjk]
     exact (h.nodes j hj).move t (by omega) (by omega) }
end
end Go.Proofs.YtmiijlecfiddmaaGreat
set_option linter.unusedVariables false
set_option linter.unusedSimpArgs false
set_option maxRecDepth 100000
set_option maxHeartbeats 1600000
namespace Go.Proofs.YtmiijlecfiddmaaGreat
open Go.RowKit
theorem qfQ {xs : List Lay} {ls : List Ent} (hm : xs.map (·.e) = ls) {j : Nat} (hj : j < ls.length) : ∃ A c,(rowOf xs)[j * 3 + 0]? = some (.int .i64 ls[j].i) /\ (rowOf xs)[j * 3 + 1]? = some (.int .i64 ls[j].t) /\ (rowOf xs)[j * 3 + 2]? = some (.slice A ls[j].d.length c) /\ (⟨ls[j],A,c⟩ : Lay) ∈ xs := by
 subst hm
 induction xs generalizing j with
 | nil => exact absurd hj (by simp)
 | cons x xs ih =>
   cases j with
   | zero => exact ⟨x.A,x.c,rfl,rfl,rfl,by simp⟩
   | succ j =>
     obtain ⟨A,c,h0,h1,h2,h3⟩ := ih (j := j) (by simpa using hj)
     have e : ∀ i,(rowOf (x :: xs))[(j + 1) * 3 + i]? = (rowOf xs)[j * 3 + i]? := fun i => by
      rw [qb4,List.getElem?_append_right (by show 3 <= _; omega)]
      congr 1
      show (j + 1) * 3 + i - 3 = _;omega
     exact ⟨A,c,(e 0).trans h0,(e 1).trans h1,(e 2).trans h2,List.mem_cons_of_mem _ h3⟩
theorem Ents.lay_at {w : World} {Z : Nat -> Prop} {A : Option Addr} {len cap : Nat} {ls : List Ent} (h : Ents w Z A len cap ls) (j : Nat) (hj : j < ls.length) : ∃ g off E c,A = some ⟨g,off,none⟩ /\ (g < w.heap.size /\ Z g) /\ w.cell? ⟨g,off + j * 3,none⟩ = some (.int .i64 ls[j].i) /\ w.cell? ⟨g,off + j * 3 + 1,none⟩ = some (.int .i64 ls[j].t) /\ w.cell? ⟨g,off + j * 3 + 2,none⟩ = some (.slice E ls[j].d.length c) /\ qs w Z ⟨ls[j],E,c⟩ := by
 obtain ⟨g,off,e,hg,hz,hc⟩ := h.2.2.2 (by rw [<- h.1]; omega);obtain ⟨E,c,c0,c1,c2,h1,h2,h3⟩ := hc j hj;exact ⟨g,off,E,c,e,⟨hg,hz⟩,c0,c1,c2,h1,h2,h3⟩
theorem qkQ {w : World} {Z : Nat -> Prop} {A : Option Addr} {n c : Nat} {ys : List Lay} (h : Sp 78 3 w A n c (rowOf ys)) (hn : ys.length = n) (hok : ∀ x ∈ ys,qs w Z x) : Ents w (fun _ => True) A n c (ys.map (·.e)) := by
 refine ⟨by rw [List.length_map]; exact hn,h.2.1,h.2.2.1,fun h0 => ?_⟩;obtain ⟨g,off,e,hg,_,_⟩ := h.at_ (by omega) 0 h0;refine ⟨g,off,e,hg,trivial,fun j hj => ?_⟩
 have hj' : j < n := by rw [<- hn]; simpa using hj
 obtain ⟨g2,off2,e2,_,hc,_⟩ := h.at_ (by omega) j hj';rw [e] at e2;injection e2 with e2;injection e2 with e3 e4;subst e3 e4;obtain ⟨A',c',r0,r1,r2,hm⟩ := qfQ (xs := ys) rfl hj;have m0 := hc 0 (by omega) _ r0;have hl := hok _ hm;exact ⟨A',c',by simpa using m0,hc 1 (by omega) _ r1,hc 2 (by omega) _ r2,hl.1,hl.2.1,fun _ _ _ _ => trivial⟩
theorem qjM {w : World} {Z : Nat -> Prop} {A : Option Addr} {n c : Nat} {ys : List Lay} (h : Sp 78 3 w A n c (rowOf ys)) (hn : ys.length = n) (hok : ∀ x ∈ ys,qs w Z x) (hA : ∀ b,blk A b -> Z b) : Ents w Z A n c (ys.map (·.e)) := by
 refine ⟨by rw [List.length_map]; exact hn,h.2.1,h.2.2.1,fun h0 => ?_⟩;obtain ⟨g,off,e,hg,_,_⟩ := h.at_ (by omega) 0 h0;refine ⟨g,off,e,hg,hA g ⟨off,e⟩,fun j hj => ?_⟩
 have hj' : j < n := by rw [<- hn]; simpa using hj
 obtain ⟨g2,off2,e2,_,hc,_⟩ := h.at_ (by omega) j hj';rw [e] at e2;injection e2 with e2;injection e2 with e3 e4;subst e3 e4;obtain ⟨A',c',r0,r1,r2,hm⟩ := qfQ (xs := ys) rfl hj;have m0 := hc 0 (by omega) _ r0;have hl := hok _ hm;exact ⟨A',c',by simpa using m0,hc 1 (by omega) _ r1,hc 2 (by omega) _ r2,hl.1,hl.2.1,hl.2.2⟩
theorem qh.front {w : World} {S : Sim} {L : SimL} {lab : Nat -> Nat} (h : qh w S L lab) {i : Nat} (hi : i <= S.all.length) : Ents w (fun _ => True) L.Aa (S.all.take i).length L.ca (S.all.take i) := by
 have h1 := h.a.sp.take (k := i) hi;rw [<- qdk] at h1
 have hl : L.ys.length = S.all.length := by rw [<- h.am,List.length_map]
 have h2 := qkQ h1 (by rw [List.length_take]; omega) (fun x hx => h.ad x (List.mem_of_mem_take hx));rw [List.map_take,h.am] at h2
 rwa [List.length_take,Nat.min_eq_left hi]
theorem qaP {α β : Type} (f : α -> List β) (z : Nat) (hz : ∀ a,(f a).length = z) : ∀ (l : List α) (i : Nat) (hi : i < l.length) (j : Nat),j < z -> (l.flatMap f)[i * z + j]? = (f l[i])[j]?
 | [],i,hi,_,_ => absurd hi (by simp)
 | a :: l,0,_,j,hj => by
   rw [List.flatMap_cons,Nat.zero_mul,Nat.zero_add,List.getElem?_append_left (by rw [hz]; exact hj)]
   rfl
 | a :: l,i + 1,hi,j,hj => by
   rw [List.flatMap_cons,List.getElem?_append_right (by rw [hz,Nat.succ_mul]; omega),hz,show (i + 1) * z + j - z = i * z + j by rw [Nat.succ_mul]; omega];exact qaP f z hz l i (by simpa using hi) j hj
theorem qjN {l ms : List Msg} {i r : Nat} (hi : i < ms.length) : l ++ (ms.take (i + 1)).take r = if i < r then (l ++ (ms.take i).take r) ++ [ms[i]] else l ++ (ms.take i).take r := by
 by_cases h : i < r
 · rw [if_pos h,List.append_assoc]
   congr 1
   rw [List.take_take,List.take_take,Nat.min_eq_right (by omega),Nat.min_eq_right (by omega),List.take_succ_eq_append_getElem hi]
 · rw [if_neg h,List.take_take,List.take_take,Nat.min_eq_left (by omega),Nat.min_eq_left (by omega)]
structure Handed where
 N : Node
 q : Ptrs
 xs : List MLay
 FA : Option Addr
 fc : Nat
 EA : Option Addr
 ec : Nat
abbrev outC (o : Handed) : Array Value :=
 #[.int .i64 o.N.ht, .int .i64 o.N.hv, .slice o.FA o.N.lg.changed.length o.fc, .int .i64 o.N.took.2.sn.i, .int .i64 o.N.took.2.sn.t, .slice o.EA o.N.took.2.sn.d.length o.ec, .slice o.q.M o.N.ms.length o.q.cM, .slice o.q.T o.N.td.length o.q.cT]
structure Kp (w W : World) (S : Sim) (L0 L : SimL) (lab0 lab : Nat -> Nat) (bx rb : Nat) (o : Handed) : Prop where
 at_ : qh W S L lab
 g : L.g = L0.g
 t : Turn (fun i => i ≠ 0) w W lab0 lab
 out : W.heap[bx]? = some (.cells (outC o) 44)
 ob : lab bx = 0
 res : W.heap[rb]? = some (.cells #[.int .i64 0, .int .i64 0, .slice none 0 0, .int .i64 0, .int .i64 0, .slice none 0 0, .slice none 0 0, .slice none 0 0] 44)
 rl : lab rb = 9999
 few : S.n <= 3
 m : Row W lab 0 51 13 o.q.M o.N.ms.length o.q.cM (mrow o.xs)
 mm : o.xs.map (·.m) = o.N.ms
 mx : ∀ x ∈ o.xs,qo W (fun b => lab b = 0) x.m x.A x.cA x.E x.cE
 td : Row W lab 0 96 2 o.q.T o.N.td.length o.q.cT (rrow o.N.td)
 fr : Ents W (fun b => lab b = 0) o.FA o.N.lg.changed.length o.fc o.N.lg.changed
 ea : Lies W o.EA o.N.took.2.sn.d.length o.ec o.N.took.2.sn.d
 ez : 0 < o.N.took.2.sn.d.length -> ∀ g f,o.EA = some ⟨g,f,none⟩ -> lab g = 0
section
variable {J : Nat → Prop} {w W W' : World} {S S' : Sim} {L0 L L' : SimL} {lab0 lab lab' : Nat → Nat} {bx rb : Nat} {o : Handed}
theorem Kp.move (h : Kp w W S L0 L lab0 lab bx rb o) (A : qh W' S' L' lab') (hg : L'.g = L.g) (t : Turn J W W' lab lab') (hJ : ¬ J 0) (hn : S'.n = S.n := by rfl) (hJ9 : ¬ J 9999 := by decide) : Kp w W' S' L0 L' lab0 lab' bx rb o where
 at_ := A
 g := hg.trans h.g
 t := h.t.trans (t.wide fun i hi e => hJ (e ▸ hi)) (fun e => e rfl)
 out := (t.same _ (hlt h.out) (by rw [h.ob]; exact hJ)).trans h.out
 ob := (t.old _ (hlt h.out) (by rw [h.ob]; exact hJ)).trans h.ob
 res := (t.same _ (hlt h.res) (by rw [h.rl]; exact hJ9)).trans h.res
 rl := (t.old _ (hlt h.res) (by rw [h.rl]; exact hJ9)).trans h.rl
 few := by rw [hn]; exact h.few
 m := h.m.move t hJ
 mm := h.mm
 mx x hx := (h.mx x hx).moved t hJ
 td := h.td.move t hJ
 fr := h.fr.moved t hJ
 ea := (h.ea.moved h.ez t hJ).1
 ez := (h.ea.moved h.ez t hJ).2
theorem Kp.below (h : Kp w W S L0 L lab0 lab bx rb o) (hb : Below W.heap.size W W') : Kp w W' S L0 L lab0 lab bx rb o :=
 h.move (J := fun _ => False) (h.at_.below hb) rfl (Turn.below hb h.at_.lim) (fun e => e) rfl (fun e => e)
theorem Kp.head (h : Kp w W S L0 L lab0 lab bx rb o) : W.heap[L0.g]? = some (.cells (simC S L) 73) := by
 have := h.at_.row
 rwa [h.g] at this
/-- What is handed back. -/
theorem Kp.back (h : Kp w W S L0 L lab0 lab bx rb o) : ((((((((W.setCell ⟨rb,0,none⟩ (.int .i64 o.N.ht)).setCell ⟨rb,1,none⟩ (.int .i64 o.N.hv)).setCell ⟨rb,2,none⟩ (.slice o.FA o.N.lg.changed.length o.fc)).setCell ⟨rb,3,none⟩ (.int .i64 o.N.took.2.sn.i)).setCell ⟨rb,4,none⟩ (.int .i64 o.N.took.2.sn.t)).setCell ⟨rb,5,none⟩ (.slice o.EA o.N.took.2.sn.d.length o.ec)).setCell ⟨rb,6,none⟩ (.slice o.q.M o.N.ms.length o.q.cM)).setCell ⟨rb,7,none⟩ (.slice o.q.T o.N.td.length o.q.cT)).heap[rb]? = some (.cells (outC o) 44) /\ qh ((((((((W.setCell ⟨rb,0,none⟩ (.int .i64 o.N.ht)).setCell ⟨rb,1,none⟩ (.int .i64 o.N.hv)).setCell ⟨rb,2,none⟩ (.slice o.FA o.N.lg.changed.length o.fc)).setCell ⟨rb,3,none⟩ (.int .i64 o.N.took.2.sn.i)).setCell ⟨rb,4,none⟩ (.int .i64 o.N.took.2.sn.t)).setCell ⟨rb,5,none⟩ (.slice o.EA o.N.took.2.sn.d.length o.ec)).setCell ⟨rb,6,none⟩ (.slice o.q.M o.N.ms.length o.q.cM)).setCell ⟨rb,7,none⟩ (.slice o.q.T o.N.td.length o.q.cT)) S L lab /\ Turn (fun i => i = 9999) W ((((((((W.setCell ⟨rb,0,none⟩ (.int .i64 o.N.ht)).setCell ⟨rb,1,none⟩ (.int .i64 o.N.hv)).setCell ⟨rb,2,none⟩ (.slice o.FA o.N.lg.changed.length o.fc)).setCell ⟨rb,3,none⟩ (.int .i64 o.N.took.2.sn.i)).setCell ⟨rb,4,none⟩ (.int .i64 o.N.took.2.sn.t)).setCell ⟨rb,5,none⟩ (.slice o.EA o.N.took.2.sn.d.length o.ec)).setCell ⟨rb,6,none⟩ (.slice o.q.M o.N.ms.length o.q.cM)).setCell ⟨rb,7,none⟩ (.slice o.q.T o.N.td.length o.q.cT)) lab lab := by
 have t0 := qj (i := 9999) (j := 0) (v := .int .i64 o.N.ht) h.at_.lim h.rl;have t1 := qj (i := 9999) (j := 1) (v := .int .i64 o.N.hv) t0.lim h.rl;have t2 := qj (i := 9999) (j := 2) (v := .slice o.FA o.N.lg.changed.length o.fc) t1.lim h.rl;have t3 := qj (i := 9999) (j := 3) (v := .int .i64 o.N.took.2.sn.i) t2.lim h.rl;have t4 := qj (i := 9999) (j := 4) (v := .int .i64 o.N.took.2.sn.t) t3.lim h.rl;have t5 := qj (i := 9999) (j := 5) (v := .slice o.EA o.N.took.2.sn.d.length o.ec) t4.lim h.rl;have t6 := qj (i := 9999) (j := 6) (v := .slice o.q.M o.N.ms.length o.q.cM) t5.lim h.rl;have t7 := qj (i := 9999) (j := 7) (v := .slice o.q.T o.N.td.length o.q.cT) t6.lim h.rl;have tt := ((((((t0.trans t1 (by decide)).trans t2 (by decide)).trans t3 (by decide)).trans t4 (by decide)).trans t5 (by decide)).trans t6 (by decide)).trans t7 (by decide);have r0 : (W.setCell ⟨rb,0,none⟩ (.int .i64 o.N.ht)).heap[rb]? = some (.cells #[.int .i64 o.N.ht, .int .i64 0, .slice none 0 0, .int .i64 0, .int .i64 0, .slice none 0 0, .slice none 0 0, .slice none 0 0] 44) := setCell_at _ ⟨rb,0,none⟩ (.int .i64 o.N.ht) _ _ _ rfl h.res;have r1 := stq 1 (.int .i64 o.N.hv) r0;have r2 := stq 2 (.slice o.FA o.N.lg.changed.length o.fc) r1;have r3 := stq 3 (.int .i64 o.N.took.2.sn.i) r2;have r4 := stq 4 (.int .i64 o.N.took.2.sn.t) r3;have r5 := stq 5 (.slice o.EA o.N.took.2.sn.d.length o.ec) r4;have r6 := stq 6 (.slice o.q.M o.N.ms.length o.q.cM) r5;have r7 := stq 7 (.slice o.q.T o.N.td.length o.q.cT) r6;refine ⟨r7,h.at_.move tt (fun i hi => by omega) (fun k hk => by have := h.few; omega),tt⟩
theorem qfR {w : World} {ob : Obj} {lab : Nat -> Nat} (hl : ∀ b,w.heap.size <= b -> lab b = 0) : Turn (fun i => i = 9999) w (w.alloc ob) lab (fun b => if b = w.heap.size then 9999 else lab b) where
 os := rfl
 tape := rfl
 output := rfl
 size := by simp
 same b hb _ := Below.heap_alloc _ _ _ hb
 old b hb _ := if_neg (by omega)
 own b hb hj := .inl (by show (if b = w.heap.size then 9999 else lab b) = 9999; rw [if_neg (by omega)]; exact hj)
 new b hb := by
  show (if b = w.heap.size then 9999 else lab b) = 9999 \/ (if b = w.heap.size then 9999 else lab b) = 0
  split
  · exact .inl rfl
  · exact .inr (hl b hb)
 lim b hb := by
  have h1 : w.heap.size + 1 <= b := by simpa using hb
  show (if b = w.heap.size then 9999 else lab b) = 0;rw [if_neg (by omega)];exact hl b (by omega)
theorem qjO {S : Sim} {k : Nat} (h : 0 < (S.r k).took.2.sn.i) : (S.keep k).1 = { { { { S with r := Sim.upd S.r k (S.r k).took.1 } with ht := Sim.upd S.ht k (S.r k).ht,hv := Sim.upd S.hv k (S.r k).hv } with sn := Sim.upd S.sn k (S.r k).took.2.sn } with lg := Sim.upd S.lg k ((S.r k).took.1.part ((S.r k).took.2.sn.i + 1) 1099511627776),net := S.net ++ (S.r k).ms.take (100 - S.net.length) } := by
 unfold Sim.keep;dsimp only;rw [if_pos h]
 rfl
theorem qkR {S : Sim} {k : Nat} (h : ¬ 0 < (S.r k).took.2.sn.i) (h2 : (S.r k).lg.changed = []) : (S.keep k).1 = { { { S with r := Sim.upd S.r k (S.r k).took.1 } with ht := Sim.upd S.ht k (S.r k).ht,hv := Sim.upd S.hv k (S.r k).hv } with net := S.net ++ (S.r k).ms.take (100 - S.net.length) } := by
 unfold Sim.keep;dsimp only;rw [if_neg h,show (S.r k).took.2.fr = [] from h2]
 rfl
theorem qhc {S : Sim} {k : Nat} {e : Ent} {l : List Ent} (h : ¬ 0 < (S.r k).took.2.sn.i) (h2 : (S.r k).lg.changed = e :: l) : (S.keep k).1 = { { { S with r := Sim.upd S.r k (S.r k).took.1 } with ht := Sim.upd S.ht k (S.r k).ht,hv := Sim.upd S.hv k (S.r k).hv } with lg := Sim.upd S.lg k ((S.lg k).filter (fun x => decide (x.i < e.i)) ++ (e :: l)),net := S.net ++ (S.r k).ms.take (100 - S.net.length) } := by
 unfold Sim.keep;dsimp only;rw [if_neg h,show (S.r k).took.2.fr = e :: l from h2]
 rfl
end
end Go.Proofs.YtmiijlecfiddmaaGreat
