/- The vault's reset, by its contract. -/
import Derived.Test.YtogbhedbgcmckaaGreatNNM14
import Derived.Test.YtogbhedbgcmckaaGreatNNM13
import Derived.Deep.RegionWith
import Derived.Laws.OwnMore
import Derived.Test.YtogbhedbgcmckaaGreatNNM01
import Derived.Test.YtogbhedbgcmckaaGreatNNM02
set_option linter.unusedVariables false
set_option linter.unusedSimpArgs false
set_option maxRecDepth 100000
set_option maxHeartbeats 6400000
namespace Go.Proofs.YtogbhedbgcmckaaGreat
open Go.RowKit
theorem Recs.within {w : World} {B : Nat} {A : Option Addr} {len cap : Nat} {ls : List (List UInt8)} (h : Recs w (B <= ·) A len cap ls) : Recs w (fun k => B <= k /\ k < w.heap.size) A len cap ls := by
 refine ⟨h.1,h.2.1,h.2.2.1,fun h0 => ?_⟩;obtain ⟨g,off,e,hg,hz,hc⟩ := h.2.2.2 h0;refine ⟨g,off,e,hg,⟨hz,hg⟩,fun j hj => ?_⟩;obtain ⟨v,hv,E,c,ev,hc,hl,hz2⟩ := hc j hj;refine ⟨v,hv,E,c,ev,hc,hl,fun h1 q o eq => ⟨hz2 h1 q o eq,?_⟩⟩;obtain ⟨q',o',eq',hlt,_⟩ := hl.2.2.2 h1;rw [eq] at eq';injection eq' with eq';injection eq' with e1 _;omega
def VDid (w w' : World) (v j d : Nat) (D : Dsk) (was : Hd) (n : Int) (Z : Nat -> Prop) : Prop := Vt w' v j d D was n Z /\ qa (fun k => Z k /\ k ≠ j /\ k ≠ v) w w'
section
variable {w w1 w' : World} {v j d : Nat} {D D' : Dsk} {was was' : Hd} {n n' : Int} {Z : Nat → Prop}
theorem VDid.trans {w2 : World} {D2 : Dsk} {was2 : Hd} {n2 : Int} (h : VDid w w' v j d D was n Z) (k : VDid w' w2 v j d D2 was2 n2 Z) : VDid w w2 v j d D2 was2 n2 Z := ⟨k.1,h.2.trans k.2⟩
theorem VDid.refl (h : Vt w v j d D was n Z) : VDid w w v j d D was n Z := ⟨h,qa.refl _ _⟩
theorem VDid.low (h : VDid w1 w' v j d D was n Z) (hb : Below w.heap.size w w1) : VDid w w' v j d D was n Z := ⟨h.1,(qb hb (Nat.le_refl _)).trans h.2⟩
theorem Vt.ldid (h : Vt w v j d D was n Z) (hb : Below w.heap.size w w1) (hd : LDid w1 w' j d D' nWal n' (fun k => Z k \/ w.heap.size <= k /\ k < w1.heap.size)) : VDid w w' v j d D' was n' Z := by
 have hk : qa (fun k => Z k /\ k ≠ j) w w' := (qb hb (Nat.le_refl _)).trans (hd.2.mono fun k hk => ⟨.inl hk.1,hk.2⟩);refine ⟨⟨(hk.block v h.lt ⟨h.own,h.ne⟩).trans h.box,⟨hd.1.box,hd.1.dk.less fun k hk => .inl hk,h.lg.own⟩,h.own,h.ne⟩,hk.mono fun k hk => ⟨hk.1,hk.2.1⟩⟩
end
theorem qhv (w : World) (v j d : Nat) (D : Dsk) (was : Hd) (n : Int) (Z : Nat -> Prop) (hV : Vt w v j d D was n Z) (h : Hd) (hh : rightH h = true) (Y : Nat -> Prop) (A : Option Addr) (len cap : Nat) (l : List Ent) (hE : Ents w Y A len cap l) (hm : len <= 20000) (hr : ∀ x ∈ l,rightE x = true) :
 Calls Tryz.prog 61 #[.pointer (some ⟨v,0,none⟩), .agg #[.int .i64 h.t, .int .i64 h.v], .slice A len cap] w fun e w' => e = .returned (.int .i64 (((D.reset nWal (qy h l)).2 : Nat) : Int)) /\ VDid w w' v j d (D.reset nWal (qy h l)).1 was (cnt (D.reset nWal (qy h l)) n ((len + 1 : Nat) : Int)) Z := by
 have hll := hE.1;have hb0 : Below w.heap.size w (w.alloc (.cells #[.int .i64 h.t, .int .i64 h.v] 54)) := (Below.refl _ _).alloc (Nat.le_refl _) _;have hr0 := heap_alloc_new w (.cells #[.int .i64 h.t, .int .i64 h.v] 54)
 have hz0 : (w.alloc (.cells #[.int .i64 h.t, .int .i64 h.v] 54)).heap.size = w.heap.size + 1 := by simp
 have hHR := fun W => qcc h hh W
 have hER := fun W (hW : Below w.heap.size w W) => qbH Y A len cap l W (hE.below hW (Nat.le_refl _)) (by omega) hr
 have hRS := fun W (hW : Below w.heap.size w W) A1 c1 (hrow : qn W w.heap.size (.slice A1 ((qy h l).length) c1) (qy h l)) => qiw W j d D nWal n _ (hV.wide hW).lg A1 _ c1 (qy h l) ((hrow.recs.within).mono fun k hk => .inr hk) (by show (qy h l).length <= _; unfold qy; rw [List.length_cons,List.length_map]; omega) (qgn hr) (by show (3 : Nat) <= _; omega)
 have hal : (qy h l).length = 1 + len := by unfold qy; rw [List.length_cons,List.length_map]; omega
 rw [hal] at hRS;unfold Dsk.reset;generalize D.replaced nWal ⟨(framesL (qy h l)).toArray⟩ = R at *;obtain ⟨_,v1,_,_⟩ := (hV.below hb0).cells;obtain ⟨⟨x0,x1⟩,_⟩ := row2 hr0;have hvl := hV.lt;have HV := Lib.hid hV
 have hlen : (l.map entRec).length = len := by rw [List.length_map]; exact hll
 have HLE := Lib.hid hlen;clear hE hr hV hr0 hll hal hlen
 go_enter Tryz.func61,Tryz.ntmps61
 go_wp2;generalize w.alloc (.cells #[.int .i64 h.t, .int .i64 h.v] 54) = W0 at *
 have hst : ∀ W W',Below W0.heap.size W0 W -> Below W.heap.size W W' -> Below W0.heap.size W0 W' /\ W'.cell? ⟨v,1,none⟩ = some (jptr j) /\ W'.cell? ⟨w.heap.size,0,none⟩ = some (.int .i64 h.t) /\ W'.cell? ⟨w.heap.size,1,none⟩ = some (.int .i64 h.v) := fun W W' h1 h2 => by
  have h3 := h1.trans (h2.mono h1.size);exact ⟨h3,(h3.cell (p := ⟨v,1,none⟩) (by show v < _; omega)).trans v1,(h3.cell (p := ⟨w.heap.size,0,none⟩) (by show w.heap.size < _; omega)).trans x0,(h3.cell (p := ⟨w.heap.size,1,none⟩) (by show w.heap.size < _; omega)).trans x1⟩
 have hB0 := (Below.refl W0.heap.size W0).drew
 have hlow : ∀ W,Below W0.heap.size W0 W -> Below w.heap.size w W := fun W hW => hb0.trans (hW.mono hb0.size)
 have hst2 : ∀ (W w' : World) (D' : Dsk) (n' : Int),Below W0.heap.size W0 W -> LDid W w' j d D' nWal n' (fun k => Z k \/ w.heap.size <= k /\ k < W.heap.size) -> w'.cell? ⟨v,1,none⟩ = some (jptr j) /\ w'.cell? ⟨w.heap.size,0,none⟩ = some (.int .i64 h.t) /\ w'.cell? ⟨w.heap.size,1,none⟩ = some (.int .i64 h.v) := fun W w' D' n' h1 h2 => by
  have hV' : Vt w v j d D was n Z := HV;have hs := h1.size;obtain ⟨_,q1,q2,q3⟩ := hst W W h1 (Below.refl _ _);have k1 := h2.2.block v (by omega) ⟨.inl hV'.own,hV'.ne⟩;have k2 := h2.2.block w.heap.size (by omega) ⟨.inr ⟨Nat.le_refl _,by omega⟩,fun e => by have := hV'.lg.lt; omega⟩;exact ⟨(World.cell?_of_block k1).trans q1,(World.cell?_of_block k2).trans q2,(World.cell?_of_block k2).trans q3⟩
 go_region_held3 (fun w' => w'.cell? ⟨v,1,none⟩ = some (jptr j) /\ w'.cell? ⟨w.heap.size,0,none⟩ = some (.int .i64 h.t) /\ w'.cell? ⟨w.heap.size,1,none⟩ = some (.int .i64 h.v))
  (first | exact hS10 | exact hS9.2 | exact hS8.2 | exact hS7.2 | (exact ⟨v1,x0,x1⟩) | (exact (hst _ _ hS8.1 ((Below.refl _ _).alloc (Nat.le_refl _) _)).2) | (exact (hst _ _ hS7.1 ((Below.refl _ _).alloc (Nat.le_refl _) _)).2) | (go_keep; done))
  (first
    | (go_at_call 112
       refine (hHR _).mono ?_;rintro e w7 ⟨A7,c7,rfl,ho7',hb7⟩;have ho7 : Owns 5 w7 w.heap.size (.slice A7 (qq h).length c7) (qq h) := ho7'.rebase fun k hk => Nat.le_trans hb0.size (ho7'.lt k hk).1
       have hS7 := hst _ w7 hB0 hb7)
    | (go_at_call 113
       refine (hER _ (hlow _ (by first | exact hS7.1 | exact hS7.1.alloc hS7.1.size _))).mono ?_;rintro e w8 ⟨A8,c8,rfl,hrow8,hb8⟩
       have hS8 := hst _ w8 (by first | exact hS7.1 | exact hS7.1.alloc hS7.1.size _) hb8)
    | (have hrr := qj2 ho7 rfl (hlow _ hS7.1).size hb8 hrow8 HLE
       refine qam _ (by rfl) _ _ (by rfl) w.heap.size _ [qq h] A8 len c8 (l.map entRec) (by rfl) (by rfl) (hlow _ hS8.1).size hrr.1 hrr.2 (1 + len) (by rfl) (by omega) ?_;intro A9 c9 w9 hrow9 hg9;have hb9 : Below W0.heap.size W0 w9 := hS8.1.grown hg9 hS8.1.size (fun q hq => by injection hq with hq; have e : w7.heap.size = q := hq; have := hS7.1.size; omega)
       have hS9 := hst _ _ hb9 (Below.refl _ _))
    | (have hrr := qj3 ho7 rfl (hlow _ hS7.1).size hb8 hrow8 HLE
       refine qam _ (by rfl) _ _ (by rfl) w.heap.size _ [qq h] A8 len c8 (l.map entRec) (by rfl) (by rfl) (by simp; have := (hlow _ hS8.1).size; omega) hrr.1 hrr.2 (1 + len) (by rfl) (by omega) ?_;intro A9 c9 w9 hrow9 hg9;have hb9 : Below W0.heap.size W0 w9 := (hS8.1.alloc hS8.1.size _).grown hg9 (by simp; have := hS8.1.size; omega) (fun q hq => by injection hq with hq; have e : w8.heap.size = q := hq; have := hS8.1.size; omega)
       have hS9 := hst _ _ hb9 (Below.refl _ _))
    | (go_at_call 111
       refine (hRS _ (hlow _ hS9.1) A9 c9 hrow9).mono ?_;rintro e w10 ⟨rfl,hd10⟩;have hS10 := hst2 _ _ _ _ hS9.1 hd10
       have HD10 := Lib.hid (Vt.ldid HV (hlow _ hS9.1) hd10)))
 all_goals
  go_wp2;go_ret;have hd : VDid w w10 v j d R.1 was (cnt R n ((1 + len : Nat) : Int)) Z := HD10;rw [Nat.add_comm] at hd;exact ⟨rfl,hd⟩
end Go.Proofs.YtogbhedbgcmckaaGreat
set_option linter.unusedVariables false
set_option linter.unusedSimpArgs false
set_option maxRecDepth 100000
set_option maxHeartbeats 200000
namespace Go.Proofs.YtogbhedbgcmckaaGreat
theorem qcP : ∀ {l : List Ent},qM l -> ∀ k (hk : k + 1 < l.length),l[k + 1].i = l[k].i + 1 /\ l[k].t <= l[k + 1].t
 | [],_,k,hk => by simp at hk
 | [a],_,k,hk => by simp at hk
 | a :: b :: l,h,0,_ => h.1
 | a :: b :: l,h,k + 1,hk => qcP (l := b :: l) h.2 k (by simpa using hk)
theorem qaf {l : List Ent} (h : qM l) : ∀ k (hk : k < l.length) (h0 : 0 < l.length),l[k].i = l[0].i + k
 | 0,_,_ => by simp
 | k + 1,hk,h0 => by
   have := (qcP h k hk).1;have := qaf h k (by omega) h0;omega
theorem qgo {l : List Ent} {e : Ent} (h : qM l) (hl : ∀ (h0 : 0 < l.length),e.i = l[l.length - 1].i + 1 /\ l[l.length - 1].t <= e.t) : qM (l ++ [e]) := by
 refine qed fun k hk => ?_;rw [List.length_append,List.length_singleton] at hk
 by_cases hlt : k + 1 < l.length
 · rw [List.getElem_append_left hlt,List.getElem_append_left (by omega)];exact qcP h k hlt
 · have h0 : 0 < l.length := by omega
   obtain rfl : k = l.length - 1 := by omega
   rw [List.getElem_append_right (by omega),List.getElem_append_left (by omega)];simp only [List.getElem_singleton];exact hl h0
theorem qcz {l : List Ent} (h : qM l) (i : Int) (m : Nat) (hm : m <= l.length) (hhi : ∀ j (hj : j < l.length),m <= j -> i <= l[j].i) (hlo : ∀ (h0 : 0 < m),l[m - 1].i < i) : l.filter (fun g => decide (g.i < i)) = l.take m := by
 have h1 : (l.take m).filter (fun g => decide (g.i < i)) = l.take m := by
  rw [List.filter_eq_self];intro x hx;obtain ⟨k,hk,rfl⟩ := List.getElem_of_mem hx;rw [List.length_take] at hk;rw [List.getElem_take]
  have h0 : 0 < m := by omega
  have a := qaf h k (by omega) (by omega);have b := qaf h (m - 1) (by omega) (by omega);have c := hlo h0;exact decide_eq_true (by omega)
 have h2 : (l.drop m).filter (fun g => decide (g.i < i)) = [] := by
  rw [List.filter_eq_nil_iff];intro x hx;obtain ⟨k,hk,rfl⟩ := List.getElem_of_mem hx;rw [List.length_drop] at hk;rw [List.getElem_drop];have := hhi (m + k) (by omega) (by omega);simp;omega
 have h3 : l.filter (fun g => decide (g.i < i)) = (l.take m ++ l.drop m).filter (fun g => decide (g.i < i)) := by rw [List.take_append_drop]
 rw [h3,List.filter_append,h1,h2,List.append_nil]
theorem qd1 {l : List Ent} (h : qM l) (e : Ent) (m : Nat) (hm : m <= l.length) (hhi : ∀ j (hj : j < l.length),m <= j -> e.i <= l[j].i) (hlo : ∀ (h0 : 0 < m),l[m - 1].i < e.i) :
 putE l e = if h0 : 0 < m then (if l[m - 1].i = e.i - 1 /\ l[m - 1].t <= e.t then some (l.take m ++ [e]) else none) else some [e] := by
 unfold putE;rw [qcz h e.i m hm hhi hlo]
 by_cases h0 : 0 < m
 · rw [dif_pos h0,if_neg]
   · have : (l.take m).getLast? = some l[m - 1] := by
      rw [List.getLast?_eq_getElem?,List.length_take,List.getElem?_take,if_pos (by omega)]
      have e1 : min m l.length - 1 = m - 1 := by omega
      rw [e1,List.getElem?_eq_getElem (by omega)]
     rw [this]
   · cases l with
     | nil => simp
     | cons f t =>
       have a := qaf h (m - 1) (by omega) (by simp);have b := hlo h0;simp only [List.getElem_cons_zero] at a;simp;omega
 · obtain rfl : m = 0 := by omega
   rw [dif_neg h0,List.take_zero]
   have key : ∀ b : Bool,(if b = true then some [e] else (match ([] : List Ent).getLast? with | none => some [e] | some f => if f.i = e.i - 1 /\ f.t <= e.t then some ([] ++ [e]) else none)) = some [e] := by
    intro b
    cases b <;> rfl
   exact key _
theorem qkK {i t : Int} {e : Ent} (hr : rightE e = true) : runB i t [e] = decide (i = e.i - 1 /\ t <= e.t) := by
 have key : qa0 i t [e] 0 = decide (i = e.i - 1 /\ t <= e.t) := by
  rw [qeY i t [e] 0 (by simp)];have h2 : rightB ([e][0]).i ([e][0]).t ([e][0]).d.length = true := hr;rw [h2];simp only [qbo,qbp,if_pos,List.getElem_cons_zero,Bool.true_and]
  apply Bool.eq_iff_iff.2
  simp only [Bool.and_eq_true,decide_eq_true_eq];omega
 unfold runB
 simp [key]
theorem qiz {l m : List Ent} {e : Ent} (h : qM l) (hp : putE l e = some m) : qM m := by
 obtain ⟨k,hk,hhi,hlo⟩ : ∃ k,k <= l.length /\ (∀ j (hj : j < l.length),k <= j -> e.i <= l[j].i) /\ (∀ (h0 : 0 < k) (hk : k <= l.length),(l[k - 1]'(by omega)).i < e.i) := by
  clear hp
  have : ∀ q,q <= l.length -> (∀ j (hj : j < l.length),q <= j -> e.i <= l[j].i) -> ∃ k,k <= l.length /\ (∀ j (hj : j < l.length),k <= j -> e.i <= l[j].i) /\ (∀ (h0 : 0 < k) (hk : k <= l.length),(l[k - 1]'(by omega)).i < e.i) := by
   intro q
   induction q with
   | zero => exact fun h1 h2 => ⟨0,h1,h2,fun h0 => absurd h0 (by omega)⟩
   | succ q ih =>
     intro h1 h2
     by_cases hc : l[q].i < e.i
     · exact ⟨q + 1,h1,h2,fun _ _ => hc⟩
     · refine ih (by omega) fun j hj hqj => ?_;rcases Nat.eq_or_lt_of_le hqj with rfl | hlt
       · omega
       · exact h2 j hj hlt
  exact this l.length (Nat.le_refl _) fun j hj h1 => absurd hj (by omega)
 rw [qd1 h e k hk hhi (fun h0 => hlo h0 hk)] at hp
 by_cases h0 : 0 < k
 · rw [dif_pos h0] at hp
   split at hp
   · rename_i hc;injection hp with hp;subst hp;refine qgo (qdc (m := l.drop k) (by rw [List.take_append_drop]; exact h)) fun h1 => ?_
     have e1 : (l.take k).length = k := by rw [List.length_take]; omega
     simp only [e1,List.getElem_take];exact ⟨by omega,hc.2⟩
   · cases hp
 · rw [dif_neg h0] at hp;injection hp with hp;subst hp;exact ⟨trivial,trivial⟩
theorem qfB {q p : Hd × List Ent} {r : List UInt8} (h : tellOne q r = some p) (hq : qM q.2) : qM p.2 := by
 unfold tellOne at h
 split at h
 · split at h
   · injection h with h;subst h;exact hq
   · cases h
 · split at h
   · split at h
     · obtain ⟨l,hl,rfl⟩ := Option.map_eq_some_iff.1 h;exact qiz hq hl
     · cases h
   · cases h
theorem qbk : ∀ (ls : List (List UInt8)) {q p : Hd × List Ent},qD q ls = some p -> qM q.2 -> qM p.2
 | [],q,p,h,hq => by rw [qcH] at h; injection h with h; subst h; exact hq
 | r :: ls,q,p,h,hq => by
   rw [qaO] at h;obtain ⟨k,hk,h⟩ := Option.bind_eq_some_iff.1 h;exact qbk ls h (qfB hk hq)
theorem qhw {ls : List (List UInt8)} {h : Hd} {l : List Ent} (ht : tells ls = some (h,l)) : qM l := qbk ls (p := (h,l)) ht trivial
theorem qgp {s : Ent} {l : List Ent} (h : qM l) (n : Nat) (hn : n < l.length) (hi : l[n].i = s.i) (ht : l[n].t = s.t) : qT s l = l.drop (n + 1) := by
 have hw : qeU s l = true := by
  unfold qeU;rw [Bool.or_eq_true];refine .inr (List.any_eq_true.2 ⟨l[n],List.getElem_mem hn,?_⟩);rw [decide_eq_true hi,decide_eq_true ht]
  rfl
 have h3 := qcz h (s.i + 1) (n + 1) (by omega) (fun j hj hq => by
  have a := qaf h n hn (by omega);have b := qaf h j hj (by omega)
  omega) (fun h0 => by show l[n].i < _; omega)
 have h4 : (l.drop (n + 1)).filter (fun g => decide (s.i < g.i)) = l.drop (n + 1) := by
  rw [List.filter_eq_self];intro x hx;obtain ⟨k,hk,rfl⟩ := List.getElem_of_mem hx;rw [List.length_drop] at hk;rw [List.getElem_drop];have a := qaf h n hn (by omega);have b := qaf h (n + 1 + k) (by omega) (by omega);exact decide_eq_true (by omega)
 have h5 : (l.take (n + 1)).filter (fun g => decide (s.i < g.i)) = [] := by
  rw [List.filter_eq_nil_iff];intro x hx;obtain ⟨k,hk,rfl⟩ := List.getElem_of_mem hx;rw [List.length_take] at hk;rw [List.getElem_take];have a := qaf h n hn (by omega);have b := qaf h k (by omega) (by omega);simp;omega
 have h6 : l.filter (fun g => decide (s.i < g.i)) = (l.take (n + 1) ++ l.drop (n + 1)).filter (fun g => decide (s.i < g.i)) := by rw [List.take_append_drop]
 unfold qT;rw [if_pos hw,h6,List.filter_append,h5,h4,List.nil_append]
def qdM (s : Ent) (l : List Ent) : Bool := match l with | [] => false | f :: _ => decide (f.i = s.i + 1)
theorem qeN {s : Ent} {l : List Ent} (h : qM l) (hno : ∀ n (hn : n < l.length),¬ (l[n].i = s.i /\ l[n].t = s.t)) : qT s l = if qdM s l = true then l else [] := by
 have ha : l.any (fun g => decide (g.i = s.i) && decide (g.t = s.t)) = false := by
  rw [List.any_eq_false];intro x hx;obtain ⟨k,hk,rfl⟩ := List.getElem_of_mem hx;have := hno k hk;simp;intro a b;exact this ⟨a,b⟩
 have hw : qeU s l = qdM s l := by
  show (qdM s l || _) = _;rw [ha,Bool.or_false]
 unfold qT;rw [hw]
 by_cases hc : qdM s l = true
 · rw [if_pos hc,if_pos hc]
   cases l with
   | nil => rfl
   | cons f t =>
     have hc' : f.i = s.i + 1 := of_decide_eq_true hc;rw [List.filter_eq_self];intro x hx;obtain ⟨k,hk,rfl⟩ := List.getElem_of_mem hx;have := qaf h k hk (by simp);simp only [List.getElem_cons_zero] at this;exact decide_eq_true (by omega)
 · rw [if_neg hc,if_neg hc]
end Go.Proofs.YtogbhedbgcmckaaGreat
set_option linter.unusedVariables false
set_option linter.unusedSimpArgs false
set_option maxRecDepth 100000
set_option maxHeartbeats 200000
namespace Go.Proofs.YtogbhedbgcmckaaGreat
open Go.RowKit
end Go.Proofs.YtogbhedbgcmckaaGreat
set_option linter.unusedVariables false
set_option linter.unusedSimpArgs false
set_option maxRecDepth 100000
set_option maxHeartbeats 200000
namespace Go.Proofs.YtogbhedbgcmckaaGreat
open Go.RowKit
structure Lay where
 e : Ent
 A : Option Addr
 c : Nat
def cells3 (x : Lay) : List Value := [.int .i64 x.e.i, .int .i64 x.e.t, .slice x.A x.e.d.length x.c]
def rowOf (xs : List Lay) : List Value := xs.flatMap cells3
theorem qbt (x : Lay) (xs : List Lay) : rowOf (x :: xs) = cells3 x ++ rowOf xs := rfl
theorem qu (xs : List Lay) : (rowOf xs).length = xs.length * 3 := by
 induction xs with
 | nil => rfl
 | cons x xs ih =>
   rw [qbt,List.length_append,ih,List.length_cons]
   simp [cells3]
   omega
theorem qco (xs : List Lay) : ∀ (j r : Nat) (hj : j < xs.length),r < 3 -> (rowOf xs)[j * 3 + r]? = (cells3 xs[j])[r]? := by
 induction xs with
 | nil => intro j r hj; simp at hj
 | cons x xs ih =>
   intro j r hj hr;rw [qbt]
   cases j with
   | zero =>
     rw [List.getElem?_append_left (by simp [cells3]; omega)];simp
   | succ j =>
     rw [List.getElem?_append_right (by simp [cells3]; omega)];rw [show (j + 1) * 3 + r - (cells3 x).length = j * 3 + r by simp [cells3]; omega];rw [ih j r (by simpa using hj) hr];simp
theorem qer (xs : List Lay) : ∀ u ∈ rowOf xs,u.oneCell' = true := by
 intro u hu;obtain ⟨x,_,hx⟩ := List.mem_flatMap.1 hu;simp only [cells3,List.mem_cons,List.not_mem_nil,or_false] at hx
 rcases hx with rfl | rfl | rfl <;> rfl
def qs (w : World) (Z : Nat -> Prop) (x : Lay) : Prop :=
 x.c <= x.c /\ Lies w x.A x.e.d.length x.c x.e.d /\ (0 < x.e.d.length -> ∀ q o,x.A = some ⟨q,o,none⟩ -> Z q)
theorem qs.mono {w : World} {Z Z' : Nat -> Prop} {x : Lay} (h : qs w Z x) (hz : ∀ k,Z k -> Z' k) : qs w Z' x := ⟨h.1,h.2.1,fun h0 q o e => hz _ (h.2.2 h0 q o e)⟩
theorem qs.keep {w w' : World} {Z : Nat -> Prop} {x : Lay} (h : qs w Z x) (hs : w.heap.size <= w'.heap.size) (hk : ∀ k,k < w.heap.size -> Z k -> w'.heap[k]? = w.heap[k]?) : qs w' Z x :=
 ⟨h.1,h.2.1.keep hs fun h0 g off e hg => hk g hg (h.2.2 h0 g off e),h.2.2⟩
theorem Ents.lays {w : World} {Z : Nat -> Prop} {A : Option Addr} {len cap : Nat} {ls : List Ent} (h : Ents w Z A len cap ls) :
 ∃ xs : List Lay,xs.map (·.e) = ls /\ (∀ x ∈ xs,qs w Z x) /\ (∀ a,A = some a -> ∀ j u,(rowOf xs)[j]? = some u -> w.cell? (a.add j) = some u) := by
 by_cases h0 : 0 < len
 · obtain ⟨g,off,rfl,hg,hz,hc⟩ := h.2.2.2 h0
   obtain ⟨X,hX⟩ := Classical.axiomOfChoice (r := fun j (x : Option Addr × Nat) => ∀ (hj : j < ls.length),w.cell? ⟨g,off + j * 3,none⟩ = some (.int .i64 ls[j].i) /\ w.cell? ⟨g,off + j * 3 + 1,none⟩ = some (.int .i64 ls[j].t) /\ w.cell? ⟨g,off + j * 3 + 2,none⟩ = some (.slice x.1 ls[j].d.length x.2) /\ qs w Z ⟨ls[j],x.1,x.2⟩) (fun j => by
    by_cases hj : j < ls.length
    · obtain ⟨E,c,c0,c1,c2,hm,hl,hzE⟩ := hc j hj;exact ⟨(E,c),fun _ => ⟨c0,c1,c2,hm,hl,hzE⟩⟩
    · exact ⟨(none,0),fun h => absurd h hj⟩)
   have hxl : ((List.range ls.length).map fun j => (⟨ls.getD j ⟨0,0,[]⟩,(X j).1,(X j).2⟩ : Lay)).length = ls.length := by simp
   refine ⟨(List.range ls.length).map fun j => ⟨ls.getD j ⟨0,0,[]⟩,(X j).1,(X j).2⟩,?_,?_,?_⟩
   · apply List.ext_getElem
     · simp
     · intro j h1 h2
       simp [List.getD_eq_getElem?_getD,List.getElem?_eq_getElem h2]
   · intro x hx;obtain ⟨j,hj,rfl⟩ := List.mem_map.1 hx
     have hj' : j < ls.length := by simpa using hj
     have := (hX j hj').2.2.2
     simpa [List.getD_eq_getElem?_getD,List.getElem?_eq_getElem hj'] using this
   · intro a ea j u hu;injection ea with ea;subst ea;rw [Addr.add_lit]
     have hjl : j < ls.length * 3 := by
      have := (List.getElem?_eq_some_iff.1 hu).1;rw [qu,hxl] at this;exact this
     have hq : j / 3 < ls.length := by omega
     have hat := qco _ (j / 3) (j % 3) (by rw [hxl]; exact hq) (Nat.mod_lt _ (by omega))
     rw [show j / 3 * 3 + j % 3 = j by omega,hu] at hat
     obtain ⟨c0,c1,c2,_⟩ := hX (j / 3) hq
     simp only [List.getElem_map,List.getElem_range,List.getD_eq_getElem?_getD,List.getElem?_eq_getElem hq,Option.getD_some,cells3] at hat
     have h3 : j % 3 = 0 \/ j % 3 = 1 \/ j % 3 = 2 := by omega
     rcases h3 with h3 | h3 | h3
     · rw [h3] at hat
       injection hat with hat
       rw [hat,show off + j = off + j / 3 * 3 by omega];exact c0
     · rw [h3] at hat
       injection hat with hat
       rw [hat,show off + j = off + j / 3 * 3 + 1 by omega];exact c1
     · rw [h3] at hat
       injection hat with hat
       rw [hat,show off + j = off + j / 3 * 3 + 2 by omega];exact c2
 · have hl := h.1;obtain rfl : ls = [] := List.eq_nil_of_length_eq_zero (by omega);exact ⟨[],rfl,fun x hx => by simp at hx,fun a _ j u hu => by simp [rowOf] at hu⟩
theorem Ents.ofRow {w : World} {Z : Nat -> Prop} {base g n cap : Nat} {T : TypeId} {xs : List Lay} (h : w.ownsRow base T 3 (.slice (some ⟨g,0,none⟩) n cap) n (rowOf xs)) (hn : xs.length = n) (hz : Z g) (hok : ∀ x ∈ xs,qs w Z x) :
 Ents w Z (some ⟨g,0,none⟩) n cap (xs.map (·.e)) := by
 have hg : g < w.heap.size := (World.ownsRow.lt h g rfl).2
 have hcap : n <= cap := by
  rcases h.2 with ⟨h',_⟩ | ⟨g',cap',cur,h',_,_,hnc,_⟩
  · simp at h'
  · simp only [Value.slice.injEq,Option.some.injEq,Addr.mk.injEq,and_true,true_and] at h';obtain ⟨rfl,rfl⟩ := h';exact hnc
 refine ⟨by simpa using hn,hcap,(fun e => by cases e),fun _ => ⟨g,0,rfl,hg,hz,fun j hj => ?_⟩⟩
 have hj' : j < xs.length := by simpa using hj
 have hcell : ∀ r,r < 3 -> w.cell? ⟨g,j * 3 + r,none⟩ = (cells3 xs[j])[r]? := fun r hr => by
  rw [World.ownsRow.cellAt h (j * 3 + r) (by omega),qco xs j r hj' hr]
 obtain ⟨hm,hl,hzE⟩ := hok xs[j] (List.getElem_mem hj');simp only [List.getElem_map];refine ⟨xs[j].A,xs[j].c,?_,?_,?_,hm,hl,hzE⟩
 · rw [Nat.zero_add]; exact hcell 0 (by omega)
 · rw [Nat.zero_add]; exact hcell 1 (by omega)
 · rw [Nat.zero_add]; exact hcell 2 (by omega)
theorem qes {w w' : World} {base : Nat} {e : TypeId} {size : Nat} {v : Value} {n : Nat} {xs : List Value} (h : w.ownsRow base e size v n xs) (hk : ∀ g,v.ownBlock = some g -> w'.heap[g]? = w.heap[g]?) : w'.ownsRow base e size v n xs := by
 rcases h.2 with ⟨e,h0⟩ | ⟨g,cap,cur,e,hb,hg,r⟩
 · exact ⟨h.1, .inl ⟨e,h0⟩⟩
 · exact ⟨h.1, .inr ⟨g,cap,cur,e,hb,(hk g (by rw [e]; rfl)).trans hg,r⟩⟩
theorem qa8 : (Tryz.prog.info? 117).map (fun i => (i.zero,i.size,i.bytes)) = some (some (.agg #[.int .i64 0, .int .i64 0, .slice none 0 0]),3,40) := by kernel_rfl
theorem qbu (w : World) : (Go.sizeOf 117).run Tryz.prog w = .ok 3 w := by
 obtain ⟨i,hi,_,hs,_⟩ := info_parts qa8
 simp [Go.sizeOf,typeInfo,hi,hs]
def qhx (g off cap : Nat) : Option Addr := if cap = 1 then some ⟨g,off,none⟩ else some ⟨g,off + 3,none⟩
theorem Ents.rest {w : World} {Z : Nat -> Prop} {g off n cap : Nat} {ls : List Ent} (h : Ents w Z (some ⟨g,off,none⟩) n cap ls) (h1 : 1 <= n) : Ents w Z (qhx g off cap) (n - 1) (cap - 1) (ls.drop 1) := by
 have hl := h.1;have hc := h.2.1;refine ⟨by simp; omega,by omega,(fun e => by unfold qhx at e; split at e <;> cases e),fun h0 => ?_⟩;obtain ⟨g',off',e,hg,hz,hcell⟩ := h.2.2.2 (by omega);injection e with e;injection e with e1 e2;subst e1 e2;refine ⟨g,off + 3,by unfold qhx; rw [if_neg (by omega)],hg,hz,fun j hj => ?_⟩
 have hj' : 1 + j < ls.length := by simp at hj; omega
 obtain ⟨E,c,c0,c1,c2,r⟩ := hcell (1 + j) hj';simp only [List.getElem_drop];exact ⟨E,c,by rw [show off + 3 + j * 3 = off + (1 + j) * 3 by omega]; exact c0,by rw [show off + 3 + j * 3 + 1 = off + (1 + j) * 3 + 1 by omega]; exact c1,by rw [show off + 3 + j * 3 + 2 = off + (1 + j) * 3 + 2 by omega]; exact c2,r⟩
end Go.Proofs.YtogbhedbgcmckaaGreat
set_option linter.unusedVariables false
set_option linter.unusedSimpArgs false
set_option maxRecDepth 100000
set_option maxHeartbeats 200000
namespace Go.Proofs.YtogbhedbgcmckaaGreat
open Go.RowKit
end Go.Proofs.YtogbhedbgcmckaaGreat
set_option linter.unusedVariables false
set_option linter.unusedSimpArgs false
set_option maxRecDepth 100000
set_option maxHeartbeats 3200000
namespace Go.Proofs.YtogbhedbgcmckaaGreat
open Go.RowKit
theorem qdv (Z : Nat -> Prop) (A : Option Addr) (len cap : Nat) (ls : List Ent) (i t : Int) (w : World) (h : Ents w Z A len cap ls) (hm : len <= maxLen) :
 Calls Tryz.prog 60 #[.int .i64 i, .int .i64 t, .slice A len cap] w fun e w' => e = .returned (.bool (runB i t ls)) /\ Below w.heap.size w w' := by
 unfold maxLen at hm;have hll := h.1
 go_enter Tryz.func60,Tryz.ntmps60
 go_wp2
 go_loopg [0,1,8,11] len (fun g ii tt r kk wr => ∃ k : Nat,k + g = len /\ kk = .int .i64 (k : Int) /\ ii = .int .i64 (qbo i ls k) /\ tt = .int .i64 (qbp t ls k) /\ (∀ j,j < k -> qa0 i t ls j = true) /\ Below w.heap.size w wr)
 case atStart => exact ⟨0,by omega,rfl,rfl,rfl,fun j hj => absurd hj (by omega),Below.refl _ _⟩
 case round =>
  obtain ⟨k,hk,rfl,rfl,rfl,hall,hb⟩ := hrel
  by_cases hlt : k < len
  · have hlt' : (k : Int) < (len : Int) := by omega
    have hbelow := h.below hb (Nat.le_refl _);obtain ⟨g,off,E,c,rfl,hg,x0,x1,x2,hl⟩ := hbelow.at_ k hlt;have hst := qeY i t ls k (by omega);have hnx := qh3 i t ls k (by omega);have HNI := Lib.hid hnx.1;have HNT := Lib.hid hnx.2;clear hnx;generalize hpT : qbp t ls k = T at *;generalize hpI : qbo i ls k = I at *;generalize (ls[k]'(by omega)) = a at *;obtain ⟨ai,at_,ad⟩ := a;dsimp only at *
    have hR := fun W => qbf ai at_ E ad.length c W
    have hri := qaj ai at_ ad.length;have hA1 := (Below.refl wr.heap.size wr).alloc (Nat.le_refl _) (.cells #[.int .i64 ai, .int .i64 at_, .slice E ad.length c] 117);have hr1 := heap_alloc_new wr (.cells #[.int .i64 ai, .int .i64 at_, .slice E ad.length c] 117);have hbA : Below w.heap.size w (wr.alloc (.cells #[.int .i64 ai, .int .i64 at_, .slice E ad.length c] 117)) := hb.trans (hA1.mono hb.size);generalize ad.length = n at *;obtain ⟨⟨y0,y1,y2⟩,_⟩ := row3 hr1;have HALL := Lib.hid hall;have HK := Lib.hid hk
    have hsz : wr.heap.size < (wr.alloc (.cells #[.int .i64 ai, .int .i64 at_, .slice E n c] 117)).heap.size := by simp
    cases hb2 : rightB ai at_ n with
    | false =>
      rw [hb2] at hR hst;rw [Bool.false_and] at hst;have HF := Lib.hid (qdV (i := i) (t := t) (l := ls) k (by omega) hst);clear hst hpT hpI hri hall hk hbelow h hl hb2
      go_wp2_with fail
      refine (hR _).mono ?_;rintro e w1 ⟨rfl,hb1⟩;have hbw : Below w.heap.size w w1 := hbA.trans (hb1.mono hbA.size);go_wp2;go_ret;exact ⟨by have e : runB i t ls = false := HF; rw [e]; rfl,hbw⟩
    | true =>
      rw [hb2,Bool.true_and] at hst;rw [hb2] at hR;have hrr := hri.1 hb2;clear hpT hpI hri hall hk hbelow h hl hb2 hb
      go_wp2_with fail
      refine (hR _).mono ?_;rintro e w1 ⟨rfl,hb1⟩;have hbw : Below w.heap.size w w1 := hbA.trans (hb1.mono hbA.size);obtain ⟨⟨z0,z1,z2⟩,_⟩ := row3 ((hb1.block _ hsz).trans hr1);obtain ⟨J,hJ⟩ := exq (ai - 1)
      have q4 : wrap64 (ai - 1) = J := by rw [<- hJ,<- IntWalk.i64_left]; exact IntWalk.i64_in _ (by omega)
      clear hR x0 x1 x2 y0 y1 y2 hr1 hA1 hb1 hbA hsz
      by_cases hI : ai = I + 1
      · have hJI : J = I := by omega
        subst hJI;rw [decide_eq_true hI,Bool.and_true] at hst;clear hI hJ
        by_cases hT : T <= at_
        · have q1 : (at_ < T) = False := eq_false (by omega);have HST := Lib.hid (hst.trans (decide_eq_true hT));clear hst hT hrr;go_wp2
          go_big_quiet (fail)
          go_wp2
          go_roundg (gk - 1)
          case measure => have : k + gk = len := HK; omega
          case rel => exact ⟨k + 1,by have : k + gk = len := HK; omega,by go_num,by have e : qbo i ls (k + 1) = ai := HNI; rw [e],by have e : qbp t ls (k + 1) = at_ := HNT; rw [e],fun j hj => by
           rcases Nat.lt_or_ge j k with h1 | h1
           · exact (HALL : ∀ j,j < k -> qa0 i t ls j = true) j h1
           · have e : j = k := by omega
             rw [e]; exact HST,below_drewN hbw _⟩
        · have q1 : at_ < T := by omega
          have HF := Lib.hid (qdV (i := i) (t := t) (l := ls) k (by omega) (by rw [hst,decide_eq_false hT]));clear hst hT hrr;go_wp2;go_ret;exact ⟨by have e : runB i t ls = false := HF; rw [e]; rfl,hbw⟩
      · have hJI : ¬ J = I := by omega
        have q5 : (J != I) = true := by simp [hJI]
        have q6 : (J = I) = False := eq_false hJI;have HF := Lib.hid (qdV (i := i) (t := t) (l := ls) k (by omega) (by rw [hst,decide_eq_false hI,Bool.and_false]));clear hst hrr hI hJ hJI;go_wp2;go_ret;exact ⟨by have e : runB i t ls = false := HF; rw [e]; rfl,hbw⟩
  · obtain rfl : k = len := by omega
    have hdec : decide ((k : Int) < (k : Int)) = false := decide_eq_false (by omega);have HT := Lib.hid (qjt (i := i) (t := t) (l := ls) (fun j hj => hall j (by omega)));clear h hall hk hm;go_wp2;go_ret;exact ⟨by have e : runB i t ls = true := HT; rw [e]; rfl,hb⟩
end Go.Proofs.YtogbhedbgcmckaaGreat
set_option linter.unusedVariables false
set_option linter.unusedSimpArgs false
set_option maxRecDepth 100000
set_option maxHeartbeats 200000
namespace Go.Proofs.YtogbhedbgcmckaaGreat
open Go.RowKit
theorem qI {B : Nat} {a w : World} (h : Below B a w) (n : Nat) : Below B a (w.drewN n) := ⟨h.os,h.tape,h.output,h.size,h.block⟩
def qz (w : World) (B : Nat) (Y : Nat -> Prop) (v : Value) (l : List Ent) : Prop :=
 ∃ xs : List Lay,w.ownsRow B 117 3 v l.length (rowOf xs) /\ (∀ g,v.ownBlock = some g -> Y g) /\ xs.map (·.e) = l /\ ∀ x ∈ xs,qs w (fun q => Y q /\ v.ownBlock ≠ some q) x
section
variable {w w' : World} {B : Nat} {Y Y' : Nat → Prop} {v : Value} {l : List Ent}
theorem qz.nil (w : World) (B : Nat) (Y : Nat -> Prop) : qz w B Y (.slice none 0 0) [] := ⟨[],World.ownsRow_nil _ _ _ _,(fun g e => by cases e),rfl,fun x hx => by cases hx⟩
theorem qz.keep (h : qz w B Y v l) (hs : w.heap.size <= w'.heap.size) (hk : ∀ k,k < w.heap.size -> Y k -> w'.heap[k]? = w.heap[k]?) : qz w' B Y v l := by
 obtain ⟨xs,ho,hy,hx,hl⟩ := h;exact ⟨xs,qes ho fun g hg => hk g (ho.lt g hg).2 (hy g hg),hy,hx,fun x hx => (hl x hx).keep hs fun k hk' hz => hk k hk' hz.1⟩
theorem qz.below (h : qz w B Y v l) (hb : Below w.heap.size w w') : qz w' B Y v l := h.keep hb.size fun k hk _ => hb.block k hk
theorem qz.mono (h : qz w B Y v l) (hy : ∀ k,Y k -> Y' k) : qz w B Y' v l := by
 obtain ⟨xs,ho,h1,hx,hl⟩ := h;exact ⟨xs,ho,fun g hg => hy g (h1 g hg),hx,fun x hx => (hl x hx).mono fun k hk => ⟨hy k hk.1,hk.2⟩⟩
theorem qz.form (h : qz w B Y v l) : ∃ A c,v = .slice A l.length c := by
 obtain ⟨xs,ho,_,_,_⟩ := h;rcases ho.2 with ⟨rfl,h0⟩ | ⟨g,cap,cur,rfl,_⟩
 · exact ⟨none,0,by rw [h0]⟩
 · exact ⟨_,_,rfl⟩
theorem qz.cap {A : Option Addr} {n c : Nat} (h : qz w B Y (.slice A n c) l) : n = l.length /\ n <= c /\ c <= maxLen /\ (A = none -> c = 0) := by
 obtain ⟨xs,ho,_,_,_⟩ := h;rcases ho.2 with ⟨e,h0⟩ | ⟨g,cap,cur,e,_,_,h1,h2,_⟩
 · injection e with e1 e2 e3;subst e1 e2 e3;exact ⟨h0.symm,Nat.le_refl _,Nat.zero_le _,fun _ => rfl⟩
 · injection e with e1 e2 e3;subst e1 e2 e3;exact ⟨rfl,h1,h2,fun h => by cases h⟩
theorem qhy (xs : List Lay) : ∀ m,(rowOf xs).take (m * 3) = rowOf (xs.take m) := by
 induction xs with
 | nil => intro m; simp [rowOf]
 | cons x xs ih =>
   intro m
   cases m with
   | zero => simp [rowOf]
   | succ m =>
     rw [List.take_succ_cons,qbt,qbt,List.take_append,show (m + 1) * 3 - (cells3 x).length = m * 3 by simp [cells3]; omega,ih m,List.take_of_length_le (by simp [cells3]; omega)]
theorem qz.take {A : Option Addr} {n c : Nat} (h : qz w B Y (.slice A n c) l) (m : Nat) (hm : m <= l.length) : qz w B Y (.slice A m c) (l.take m) := by
 have hcap := h.cap;obtain ⟨xs,ho,hy,hx,hl⟩ := h
 have hlen : (l.take m).length = m := by rw [List.length_take]; omega
 have hxl : xs.length = l.length := by rw [<- hx,List.length_map]
 refine ⟨xs.take m,?_,fun g hg => hy g (by rw [<- hg]; exact qcZ _ _ _ _ _),by rw [<- hx,List.map_take],fun x hx => ?_⟩
 · rw [hlen];refine ⟨by rw [qu,List.length_take]; omega,?_⟩;rcases ho.2 with ⟨e,h0⟩ | ⟨g,cap,cur,e,hb,hg,h1,h2,h3,h4⟩
   · injection e with e1 e2 e3;subst e1 e3;exact .inl ⟨by rw [show m = 0 by omega],by omega⟩
   · injection e with e1 e2 e3;subst e1 e3;refine .inr ⟨g,c,cur,rfl,hb,hg,by omega,h2,h3,?_⟩;rw [<- qhy,<- h4,List.take_take]
     congr 1
     omega
 · have := hl x (List.mem_of_mem_take hx)
   exact this.mono fun k hk => ⟨hk.1,fun e => hk.2 (by rw [<- e]; exact qcZ _ _ _ _ _)⟩
theorem qz.ents {A : Option Addr} {n c : Nat} (h : qz w B Y (.slice A n c) l) : Ents w Y A l.length c l := by
 have hcap := h.cap;obtain ⟨xs,ho,hy,hx,hl⟩ := h;have hn := hcap.1;subst hn
 cases A with
 | none =>
   have h0 : l = [] := List.eq_nil_of_length_eq_zero (by have := hcap.2.2.2 rfl; omega);subst h0;exact ⟨rfl,hcap.2.1,fun _ => hcap.2.2.2 rfl,fun h => absurd h (by simp)⟩
 | some a =>
   obtain ⟨g,off,spot⟩ := a;rcases ho.2 with ⟨e,h0⟩ | ⟨g',cap,cur,e,hb,_⟩
   · cases e
   · injection e with e1 e2 e3;injection e1 with e1;injection e1 with e4 e5 e6;subst e4 e5 e6
     have := Ents.ofRow ho (by rw [<- hx,List.length_map]) (Z := Y) (hy _ rfl) fun x hx => (hl x hx).mono fun k hk => hk.1
     rw [hx] at this;exact this
theorem qz.more {w1 : World} {g cap : Nat} {x : Ent} {A : Option Addr} {c : Nat} (hw : w.heap.size <= w1.heap.size) (hb : ∀ k,k < w.heap.size -> Y k -> w1.heap[k]? = w.heap[k]?) (hx : qs w1 (fun q => Y q /\ v.ownBlock ≠ some q) ⟨x,A,c⟩)
 (xs : List Lay) (hxs : xs.map (·.e) = l) (hok : ∀ x ∈ xs,qs w (fun q => Y q /\ v.ownBlock ≠ some q) x) (hyv : ∀ g,v.ownBlock = some g -> Y g) (hn : Y w1.heap.size) (hxd : 0 < x.d.length -> ∀ q o,A = some ⟨q,o,none⟩ -> q < w1.heap.size)
 (ho : w'.ownsRow B 117 3 (.slice (some ⟨g,0,none⟩) (l.length + 1) cap) (l.length + 1) (rowOf xs ++ rowOf [⟨x,A,c⟩])) (hg : w1.grownBy w' v.ownBlock) (hq : v.ownBlock = some g \/ g = w1.heap.size) :
 qz w' B Y (.slice (some ⟨g,0,none⟩) (l.length + 1) cap) (l ++ [x]) := by
 have key : ∀ {y : Lay},qs w1 (fun q => Y q /\ v.ownBlock ≠ some q) y -> (0 < y.e.d.length -> ∀ q o,y.A = some ⟨q,o,none⟩ -> q < w1.heap.size) -> qs w' (fun q => Y q /\ (Value.slice (some ⟨g,0,none⟩) (l.length + 1) cap).ownBlock ≠ some q) y := by
  intro y hy hlt;refine ⟨hy.1,hy.2.1.keep hg.size fun h0 q o e hq1 => hg.block q hq1 fun er => (hy.2.2 h0 q o e).2 er.symm,fun h0 q o e => ⟨(hy.2.2 h0 q o e).1,fun er => ?_⟩⟩;injection er with er;have er : g = q := er;subst er;rcases hq with hq | hq
  · exact (hy.2.2 h0 g o e).2 hq
  · have := hlt h0 g o e; omega
 refine ⟨xs ++ [⟨x,A,c⟩],?_,fun k hk => ?_,by rw [List.map_append,hxs]; rfl,fun y hy => ?_⟩
 · have e : rowOf (xs ++ [⟨x,A,c⟩]) = rowOf xs ++ rowOf [⟨x,A,c⟩] := by unfold rowOf; rw [List.flatMap_append]
   rw [e,List.length_append,List.length_singleton];exact ho
 · injection hk with hk;have hk : g = k := hk;subst hk;rcases hq with hq | hq
   · exact hyv g hq
   · rw [hq]; exact hn
 · rcases List.mem_append.1 hy with hy | hy
   · have h1 := hok y hy
     have h2 : qs w1 (fun q => Y q /\ v.ownBlock ≠ some q) y := h1.keep hw fun k hk hz => hb k hk hz.1
     refine key h2 fun h0 q o e => ?_;obtain ⟨q',o',e',hlt,_⟩ := h1.2.1.2.2.2 h0;rw [e] at e';injection e' with e';injection e' with e1 _;omega
   · rw [List.mem_singleton.1 hy];exact key hx hxd
end
structure Tld (w : World) (b B : Nat) (h : Hd) (A : Option Addr) (c : Nat) (l : List Ent) : Prop where
 box : w.heap[b]? = some (.cells #[.int .i64 h.t, .int .i64 h.v, .slice A l.length c] 131)
 row : qz w B (fun q => B <= q /\ q ≠ b) (.slice A l.length c) l
 lo : B <= b
theorem Tld.below {w w' : World} {b B : Nat} {h : Hd} {A : Option Addr} {c : Nat} {l : List Ent} (hT : Tld w b B h A c l) (hb : Below w.heap.size w w') : Tld w' b B h A c l :=
 ⟨(hb.block _ (hlt hT.box)).trans hT.box,hT.row.below hb,hT.lo⟩
theorem qj4 {W : World} {x : Ent} {E : Option Addr} {ec : Nat} (hl : Lies W E x.d.length ec x.d) (hec : ec <= maxLen) : Ents (W.alloc (.cells #[.int .i64 x.i, .int .i64 x.t, .slice E x.d.length ec] 117)) (fun _ => True) (some ⟨W.heap.size,0,none⟩) 1 1 [x] := by
 refine ⟨rfl,Nat.le_refl _,(fun h => by cases h),fun _ => ⟨W.heap.size,0,rfl,by simp,trivial,fun j hj => ?_⟩⟩
 obtain rfl : j = 0 := by simpa using hj
 obtain ⟨⟨a0,a1,a2⟩,_⟩ := row3 (heap_alloc_new W (.cells #[.int .i64 x.i, .int .i64 x.t, .slice E x.d.length ec] 117));exact ⟨E,ec,a0,a1,a2,Nat.le_refl _,hl.below ((Below.refl W.heap.size W).alloc (Nat.le_refl _) _) (Nat.le_refl _),fun _ _ _ _ => trivial⟩
theorem qhz (A : Option Addr) (len cap n : Nat) (hn : n <= cap) (W : World) :
 (Instr.slice 22 (.slice A len cap) none (some (.int .i64 (n : Int))) none).run Tryz.prog W = .ok (.slice A n cap) W := by
 have ht := Tryz.underlying22
 have ht' : Tryz.prog.underlying 22 = some (.slice (Tryz.prog.elem 22)) := by simp [Program.elem,ht]
 have he : Tryz.prog.elem 22 = 117 := by simp [Program.elem,ht]
 rw [run_slice_h W 22 _ _ _ ht' .i64 _ (by omega) (by omega),he,qbu]
 cases A <;> simp [Result.andThen,sliced,Addr.add]
end Go.Proofs.YtogbhedbgcmckaaGreat
