/- The program's ways to put an entry in its place and to leave out what stands behind a snap. Plain mathematics. -/
import Derived.Test.YtmeoooojmhhahaaGreatTVauP1
import Derived.ArgAppend
set_option linter.unusedVariables false
set_option linter.unusedSimpArgs false
set_option maxRecDepth 100000
set_option maxHeartbeats 3200000
namespace Go.Proofs.YtmeoooojmhhahaaGreat
theorem qdZ : ∀ {l : List Ent},qW l -> ∀ k (hk : k + 1 < l.length),l[k + 1].i = l[k].i + 1 /\ l[k].t <= l[k + 1].t
 | [],_,k,hk => by simp at hk
 | [a],_,k,hk => by simp at hk
 | a :: b :: l,h,0,_ => h.1
 | a :: b :: l,h,k + 1,hk => qdZ (l := b :: l) h.2 k (by simpa using hk)
theorem qaK {l : List Ent} (h : qW l) : ∀ k (hk : k < l.length) (h0 : 0 < l.length),l[k].i = l[0].i + k
 | 0,_,_ => by simp
 | k + 1,hk,h0 => by
   have := (qdZ h k hk).1
   have := qaK h k (by omega) h0
   omega
theorem qh6 {l : List Ent} {e : Ent} (h : qW l) (hl : ∀ (h0 : 0 < l.length),e.i = l[l.length - 1].i + 1 /\ l[l.length - 1].t <= e.t) : qW (l ++ [e]) := by
 refine qgh fun k hk => ?_
 rw [List.length_append,List.length_singleton] at hk
 by_cases hlt : k + 1 < l.length
 · rw [List.getElem_append_left hlt,List.getElem_append_left (by omega)]
   exact qdZ h k hlt
 · have h0 : 0 < l.length := by omega
   obtain rfl : k = l.length - 1 := by omega
   rw [List.getElem_append_right (by omega),List.getElem_append_left (by omega)]
   simp only [List.getElem_singleton]
   exact hl h0
theorem qdF {l : List Ent} (h : qW l) (i : Int) (m : Nat) (hm : m <= l.length) (hhi : ∀ j (hj : j < l.length),m <= j -> i <= l[j].i) (hlo : ∀ (h0 : 0 < m),l[m - 1].i < i) : l.filter (fun g => decide (g.i < i)) = l.take m := by
 have h1 : (l.take m).filter (fun g => decide (g.i < i)) = l.take m := by
  rw [List.filter_eq_self]
  intro x hx
  obtain ⟨k,hk,rfl⟩ := List.getElem_of_mem hx
  rw [List.length_take] at hk
  rw [List.getElem_take]
  have h0 : 0 < m := by omega
  have a := qaK h k (by omega) (by omega)
  have b := qaK h (m - 1) (by omega) (by omega)
  have c := hlo h0
  exact decide_eq_true (by omega)
 have h2 : (l.drop m).filter (fun g => decide (g.i < i)) = [] := by
  rw [List.filter_eq_nil_iff]
  intro x hx
  obtain ⟨k,hk,rfl⟩ := List.getElem_of_mem hx
  rw [List.length_drop] at hk
  rw [List.getElem_drop]
  have := hhi (m + k) (by omega) (by omega)
  simp
  omega
 have h3 : l.filter (fun g => decide (g.i < i)) = (l.take m ++ l.drop m).filter (fun g => decide (g.i < i)) := by rw [List.take_append_drop]
 rw [h3,List.filter_append,h1,h2,List.append_nil]
theorem qfS {l : List Ent} (h : qW l) (e : Ent) (m : Nat) (hm : m <= l.length) (hhi : ∀ j (hj : j < l.length),m <= j -> e.i <= l[j].i) (hlo : ∀ (h0 : 0 < m),l[m - 1].i < e.i) :
 putE l e = if h0 : 0 < m then (if l[m - 1].i = e.i - 1 /\ l[m - 1].t <= e.t then some (l.take m ++ [e]) else none) else some [e] := by
 unfold putE
 rw [qdF h e.i m hm hhi hlo]
 by_cases h0 : 0 < m
 · rw [dif_pos h0,if_neg]
   · have : (l.take m).getLast? = some l[m - 1] := by
      rw [List.getLast?_eq_getElem?,List.length_take,List.getElem?_take,if_pos (by omega)]
      have e1 : min m l.length - 1 = m - 1 := by omega
      rw [e1,List.getElem?_eq_getElem (by omega)]
     rw [this]
   · cases l with
     | nil => simp
     | cons f t =>
       have a := qaK h (m - 1) (by omega) (by simp)
       have b := hlo h0
       simp only [List.getElem_cons_zero] at a
       simp
       omega
 · obtain rfl : m = 0 := by omega
   rw [dif_neg h0,List.take_zero]
   have key : ∀ b : Bool,(if b = true then some [e] else (match ([] : List Ent).getLast? with | none => some [e] | some f => if f.i = e.i - 1 /\ f.t <= e.t then some ([] ++ [e]) else none)) = some [e] := by
    intro b
    cases b <;> rfl
   exact key _
theorem qlS {i t : Int} {e : Ent} (hr : rightE e = true) : runB i t [e] = decide (i = e.i - 1 /\ t <= e.t) := by
 have key : qbE i t [e] 0 = decide (i = e.i - 1 /\ t <= e.t) := by
  rw [qct i t [e] 0 (by simp)]
  have h2 : rightB ([e][0]).i ([e][0]).t ([e][0]).d.length = true := hr
  rw [h2]
  simp only [qa5,qbg,if_pos,List.getElem_cons_zero,Bool.true_and]
  apply Bool.eq_iff_iff.2
  simp only [Bool.and_eq_true,decide_eq_true_eq]
  omega
 unfold runB
 simp [key]
theorem qkh {l m : List Ent} {e : Ent} (h : qW l) (hp : putE l e = some m) : qW m := by
 obtain ⟨k,hk,hhi,hlo⟩ : ∃ k,k <= l.length /\ (∀ j (hj : j < l.length),k <= j -> e.i <= l[j].i) /\ (∀ (h0 : 0 < k) (hk : k <= l.length),(l[k - 1]'(by omega)).i < e.i) := by
  clear hp
  have : ∀ q,q <= l.length -> (∀ j (hj : j < l.length),q <= j -> e.i <= l[j].i) -> ∃ k,k <= l.length /\ (∀ j (hj : j < l.length),k <= j -> e.i <= l[j].i) /\ (∀ (h0 : 0 < k) (hk : k <= l.length),(l[k - 1]'(by omega)).i < e.i) := by
   intro q
   induction q with
   | zero => exact fun h1 h2 => ⟨0,h1,h2,fun h0 => absurd h0 (by omega)⟩
   | succ q ih =>
     intro h1 h2
     by_cases hc : l[q].i < e.i
     · exact ⟨q + 1,h1,h2,fun _ _ => hc⟩
     · refine ih (by omega) fun j hj hqj => ?_
       rcases Nat.eq_or_lt_of_le hqj with rfl | hlt
       · omega
       · exact h2 j hj hlt
  exact this l.length nlq fun j hj h1 => absurd hj (by omega)
 rw [qfS h e k hk hhi (fun h0 => hlo h0 hk)] at hp
 by_cases h0 : 0 < k
 · rw [dif_pos h0] at hp
   split at hp
   · rename_i hc
     injection hp with hp
     subst hp
     refine qh6 (qer (m := l.drop k) (by rw [List.take_append_drop]; exact h)) fun h1 => ?_
     have e1 : (l.take k).length = k := by rw [List.length_take]; omega
     simp only [e1,List.getElem_take]
     exact ⟨by omega,hc.2⟩
   · cases hp
 · rw [dif_neg h0] at hp
   injection hp with hp
   subst hp
   exact ⟨trivial,trivial⟩
theorem qhx {q p : Hd × List Ent} {r : List UInt8} (h : tellOne q r = some p) (hq : qW q.2) : qW p.2 := by
 unfold tellOne at h
 split at h
 · split at h
   · injection h with h
     subst h
     exact hq
   · cases h
 · split at h
   · split at h
     · obtain ⟨l,hl,rfl⟩ := Option.map_eq_some_iff.1 h
       exact qkh hq hl
     · cases h
   · cases h
theorem qb6 : ∀ (ls : List (List UInt8)) {q p : Hd × List Ent},qA q ls = some p -> qW q.2 -> qW p.2
 | [],q,p,h,hq => by rw [qdV] at h; injection h with h; subst h; exact hq
 | r :: ls,q,p,h,hq => by
   rw [qa3] at h
   obtain ⟨k,hk,h⟩ := Option.bind_eq_some_iff.1 h
   exact qb6 ls h (qhx hk hq)
theorem qjb {ls : List (List UInt8)} {h : Hd} {l : List Ent} (ht : tells ls = some (h,l)) : qW l := qb6 ls (p := (h,l)) ht trivial
theorem qh7 {s : Ent} {l : List Ent} (h : qW l) (n : Nat) (hn : n < l.length) (hi : l[n].i = s.i) (ht : l[n].t = s.t) : qs s l = l.drop (n + 1) := by
 have hw : qbZ s l = true := by
  unfold qbZ
  rw [Bool.or_eq_true]
  refine .inr (List.any_eq_true.2 ⟨l[n],List.getElem_mem hn,?_⟩)
  rw [decide_eq_true hi,decide_eq_true ht]
  rfl
 have h3 := qdF h (s.i + 1) (n + 1) (by omega) (fun j hj hq => by
  have a := qaK h n hn (by omega)
  have b := qaK h j hj (by omega)
  omega) (fun h0 => by show l[n].i < _; omega)
 have h4 : (l.drop (n + 1)).filter (fun g => decide (s.i < g.i)) = l.drop (n + 1) := by
  rw [List.filter_eq_self]
  intro x hx
  obtain ⟨k,hk,rfl⟩ := List.getElem_of_mem hx
  rw [List.length_drop] at hk
  rw [List.getElem_drop]
  have a := qaK h n hn (by omega)
  have b := qaK h (n + 1 + k) (by omega) (by omega)
  exact decide_eq_true (by omega)
 have h5 : (l.take (n + 1)).filter (fun g => decide (s.i < g.i)) = [] := by
  rw [List.filter_eq_nil_iff]
  intro x hx
  obtain ⟨k,hk,rfl⟩ := List.getElem_of_mem hx
  rw [List.length_take] at hk
  rw [List.getElem_take]
  have a := qaK h n hn (by omega)
  have b := qaK h k (by omega) (by omega)
  simp
  omega
 have h6 : l.filter (fun g => decide (s.i < g.i)) = (l.take (n + 1) ++ l.drop (n + 1)).filter (fun g => decide (s.i < g.i)) := by rw [List.take_append_drop]
 unfold qs
 rw [if_pos hw,h6,List.filter_append,h5,h4,List.nil_append]
def qfu (s : Ent) (l : List Ent) : Bool := match l with | [] => false | f :: _ => decide (f.i = s.i + 1)
theorem qgK {s : Ent} {l : List Ent} (h : qW l) (hno : ∀ n (hn : n < l.length),¬ (l[n].i = s.i /\ l[n].t = s.t)) : qs s l = if qfu s l = true then l else [] := by
 have ha : l.any (fun g => decide (g.i = s.i) && decide (g.t = s.t)) = false := by
  rw [List.any_eq_false]
  intro x hx
  obtain ⟨k,hk,rfl⟩ := List.getElem_of_mem hx
  have := hno k hk
  simp
  intro a b
  exact this ⟨a,b⟩
 have hw : qbZ s l = qfu s l := by
  show (qfu s l || _) = _
  rw [ha,Bool.or_false]
 unfold qs
 rw [hw]
 by_cases hc : qfu s l = true
 · rw [if_pos hc,if_pos hc]
   cases l with
   | nil => rfl
   | cons f t =>
     have hc' : f.i = s.i + 1 := of_decide_eq_true hc
     rw [List.filter_eq_self]
     intro x hx
     obtain ⟨k,hk,rfl⟩ := List.getElem_of_mem hx
     have := qaK h k hk (by simp)
     simp only [List.getElem_cons_zero] at this
     exact decide_eq_true (by omega)
 · rw [if_neg hc,if_neg hc]
end Go.Proofs.YtmeoooojmhhahaaGreat
namespace Go.Proofs.YtmeoooojmhhahaaGreat
open Go.RowKit
theorem qO {B : Nat} {a w : World} (h : Below B a w) (n : Nat) : Below B a (w.drewN n) := ⟨h.os,h.tape,h.output,h.size,h.block⟩
def qF (w : World) (B : Nat) (Y : Nat -> Prop) (v : Value) (l : List Ent) : Prop :=
 ∃ xs : List Lay,w.ownsRow B 69 3 v l.length (rowOf xs) /\ (∀ g,v.ownBlock = some g -> Y g) /\ xs.map (·.e) = l /\ ∀ x ∈ xs,qZ w (fun q => Y q /\ v.ownBlock ≠ some q) x
section
variable {w w' : World} {B : Nat} {Y Y' : Nat → Prop} {v : Value} {l : List Ent}
theorem qF.nil (w : World) (B : Nat) (Y : Nat -> Prop) : qF w B Y (.slice none 0 0) [] := ⟨[],World.ownsRow_nil _ _ _ _,(fun g e => by cases e),rfl,fun x hx => by cases hx⟩
theorem qF.keep (h : qF w B Y v l) (hs : w.heap.size <= w'.heap.size) (hk : ∀ k,k < w.heap.size -> Y k -> w'.heap[k]? = w.heap[k]?) : qF w' B Y v l := by
 obtain ⟨xs,ho,hy,hx,hl⟩ := h
 exact ⟨xs,qaa ho fun g hg => hk g (ho.lt g hg).2 (hy g hg),hy,hx,fun x hx => (hl x hx).keep hs fun k hk' hz => hk k hk' hz.1⟩
theorem qF.below (h : qF w B Y v l) (hb : Below w.heap.size w w') : qF w' B Y v l := h.keep hb.size fun k hk _ => hb.block k hk
theorem qF.mono (h : qF w B Y v l) (hy : ∀ k,Y k -> Y' k) : qF w B Y' v l := by
 obtain ⟨xs,ho,h1,hx,hl⟩ := h
 exact ⟨xs,ho,fun g hg => hy g (h1 g hg),hx,fun x hx => (hl x hx).mono fun k hk => ⟨hy k hk.1,hk.2⟩⟩
theorem qF.form (h : qF w B Y v l) : ∃ A c,v = .slice A l.length c := by
 obtain ⟨xs,ho,_,_,_⟩ := h
 rcases ho.2 with ⟨rfl,h0⟩ | ⟨g,cap,cur,rfl,_⟩
 · exact ⟨none,0,by rw [h0]⟩
 · exact ⟨_,_,rfl⟩
theorem qF.cap {A : Option Addr} {n c : Nat} (h : qF w B Y (.slice A n c) l) : n = l.length /\ n <= c /\ c <= maxLen /\ (A = none -> c = 0) := by
 obtain ⟨xs,ho,_,_,_⟩ := h
 rcases ho.2 with ⟨e,h0⟩ | ⟨g,cap,cur,e,_,_,h1,h2,_⟩
 · injection e with e1 e2 e3
   subst e1 e2 e3
   exact ⟨h0.symm,nlq,Nat.zero_le _,fun _ => rfl⟩
 · injection e with e1 e2 e3
   subst e1 e2 e3
   exact ⟨rfl,h1,h2,fun h => by cases h⟩
theorem qjc (xs : List Lay) : ∀ m,(rowOf xs).take (m * 3) = rowOf (xs.take m) := by
 induction xs with
 | nil => intro m; simp [rowOf]
 | cons x xs ih =>
   intro m
   cases m with
   | zero => simp [rowOf]
   | succ m =>
     rw [List.take_succ_cons,qcc,qcc,List.take_append,show (m + 1) * 3 - (cells3 x).length = m * 3 by simp [cells3]; omega,ih m,List.take_of_length_le (by simp [cells3]; omega)]
theorem qF.take {A : Option Addr} {n c : Nat} (h : qF w B Y (.slice A n c) l) (m : Nat) (hm : m <= l.length) : qF w B Y (.slice A m c) (l.take m) := by
 have hcap := h.cap
 obtain ⟨xs,ho,hy,hx,hl⟩ := h
 have hlen : (l.take m).length = m := by rw [List.length_take]; omega
 have hxl : xs.length = l.length := by rw [<- hx,List.length_map]
 refine ⟨xs.take m,?_,fun g hg => hy g (by rw [<- hg]; exact qd8 _ _ _ _ _),by rw [<- hx,List.map_take],fun x hx => ?_⟩
 · rw [hlen]
   refine ⟨by rw [qau,List.length_take]; omega,?_⟩
   rcases ho.2 with ⟨e,h0⟩ | ⟨g,cap,cur,e,hb,hg,h1,h2,h3,h4⟩
   · injection e with e1 e2 e3
     subst e1 e3
     exact .inl ⟨by rw [show m = 0 by omega],by omega⟩
   · injection e with e1 e2 e3
     subst e1 e3
     refine .inr ⟨g,c,cur,rfl,hb,hg,by omega,h2,h3,?_⟩
     rw [<- qjc,<- h4,List.take_take]
     congr 1
     omega
 · have := hl x (List.mem_of_mem_take hx)
   exact this.mono fun k hk => ⟨hk.1,fun e => hk.2 (by rw [<- e]; exact qd8 _ _ _ _ _)⟩
theorem qF.ents {A : Option Addr} {n c : Nat} (h : qF w B Y (.slice A n c) l) : Ents w Y A l.length c l := by
 have hcap := h.cap
 obtain ⟨xs,ho,hy,hx,hl⟩ := h
 have hn := hcap.1
 subst hn
 cases A with
 | none =>
   have h0 : l = [] := List.eq_nil_of_length_eq_zero (by have := hcap.2.2.2 rfl; omega)
   subst h0
   exact ⟨rfl,hcap.2.1,fun _ => hcap.2.2.2 rfl,fun h => absurd h (by simp)⟩
 | some a =>
   obtain ⟨g,off,spot⟩ := a
   rcases ho.2 with ⟨e,h0⟩ | ⟨g',cap,cur,e,hb,_⟩
   · cases e
   · injection e with e1 e2 e3
     injection e1 with e1
     injection e1 with e4 e5 e6
     subst e4 e5 e6
     have := Ents.ofRow ho (by rw [<- hx,List.length_map]) (Z := Y) (hy _ rfl) fun x hx => (hl x hx).mono fun k hk => hk.1
     rw [hx] at this
     exact this
theorem qF.more {w1 : World} {g cap : Nat} {x : Ent} {A : Option Addr} {c : Nat} (hw : w.heap.size <= w1.heap.size) (hb : ∀ k,k < w.heap.size -> Y k -> w1.heap[k]? = w.heap[k]?) (hx : qZ w1 (fun q => Y q /\ v.ownBlock ≠ some q) ⟨x,A,c⟩)
 (xs : List Lay) (hxs : xs.map (·.e) = l) (hok : ∀ x ∈ xs,qZ w (fun q => Y q /\ v.ownBlock ≠ some q) x) (hyv : ∀ g,v.ownBlock = some g -> Y g) (hn : Y w1.heap.size) (hxd : 0 < x.d.length -> ∀ q o,A = some ⟨q,o,none⟩ -> q < w1.heap.size)
 (ho : w'.ownsRow B 69 3 (.slice (some ⟨g,0,none⟩) (l.length + 1) cap) (l.length + 1) (rowOf xs ++ rowOf [⟨x,A,c⟩])) (hg : w1.grownBy w' v.ownBlock) (hq : v.ownBlock = some g \/ g = w1.heap.size) :
 qF w' B Y (.slice (some ⟨g,0,none⟩) (l.length + 1) cap) (l ++ [x]) := by
 have key : ∀ {y : Lay},qZ w1 (fun q => Y q /\ v.ownBlock ≠ some q) y -> (0 < y.e.d.length -> ∀ q o,y.A = some ⟨q,o,none⟩ -> q < w1.heap.size) -> qZ w' (fun q => Y q /\ (Value.slice (some ⟨g,0,none⟩) (l.length + 1) cap).ownBlock ≠ some q) y := by
  intro y hy hlt
  refine ⟨hy.1,hy.2.1.keep hg.size fun h0 q o e hq1 => hg.block q hq1 fun er => (hy.2.2 h0 q o e).2 er.symm,fun h0 q o e => ⟨(hy.2.2 h0 q o e).1,fun er => ?_⟩⟩
  injection er with er
  have er : g = q := er
  subst er
  rcases hq with hq | hq
  · exact (hy.2.2 h0 g o e).2 hq
  · have := hlt h0 g o e; omega
 refine ⟨xs ++ [⟨x,A,c⟩],?_,fun k hk => ?_,by rw [List.map_append,hxs]; rfl,fun y hy => ?_⟩
 · have e : rowOf (xs ++ [⟨x,A,c⟩]) = rowOf xs ++ rowOf [⟨x,A,c⟩] := by unfold rowOf; rw [List.flatMap_append]
   rw [e,List.length_append,List.length_singleton]
   exact ho
 · injection hk with hk
   have hk : g = k := hk
   subst hk
   rcases hq with hq | hq
   · exact hyv g hq
   · rw [hq]; exact hn
 · rcases List.mem_append.1 hy with hy | hy
   · have h1 := hok y hy
     have h2 : qZ w1 (fun q => Y q /\ v.ownBlock ≠ some q) y := h1.keep hw fun k hk hz => hb k hk hz.1
     refine key h2 fun h0 q o e => ?_
     obtain ⟨q',o',e',hlt,_⟩ := h1.2.1.2.2.2 h0
     rw [e] at e'
     injection e' with e'
     injection e' with e1 _
     omega
   · rw [List.mem_singleton.1 hy]
     exact key hx hxd
end
structure Tld (w : World) (b B : Nat) (h : Hd) (A : Option Addr) (c : Nat) (l : List Ent) : Prop where
 box : w.heap[b]? = some (.cells #[.int .i64 h.t, .int .i64 h.v, .slice A l.length c] 101)
 row : qF w B (fun q => B <= q /\ q ≠ b) (.slice A l.length c) l
 lo : B <= b
theorem Tld.below {w w' : World} {b B : Nat} {h : Hd} {A : Option Addr} {c : Nat} {l : List Ent} (hT : Tld w b B h A c l) (hb : Below w.heap.size w w') : Tld w' b B h A c l :=
 ⟨(hb.block _ (hlt hT.box)).trans hT.box,hT.row.below hb,hT.lo⟩
theorem qhy {W : World} {x : Ent} {E : Option Addr} {ec : Nat} (hl : Lies W E x.d.length ec x.d) (hec : ec <= maxLen) : Ents (W.alloc (.cells #[.int .i64 x.i, .int .i64 x.t, .slice E x.d.length ec] 69)) (fun _ => True) (some ⟨W.heap.size,0,none⟩) 1 1 [x] := by
 refine ⟨rfl,nlq,(fun h => by cases h),fun _ => ⟨W.heap.size,0,rfl,by simp,trivial,fun j hj => ?_⟩⟩
 obtain rfl : j = 0 := by simpa using hj
 obtain ⟨⟨a0,a1,a2⟩,_⟩ := row3 (heap_alloc_new W (.cells #[.int .i64 x.i, .int .i64 x.t, .slice E x.d.length ec] 69))
 exact ⟨E,ec,a0,a1,a2,hec,hl.below ((Below.refl W.heap.size W).alloc nlq _) nlq,fun _ _ _ _ => trivial⟩
theorem qjd (A : Option Addr) (len cap n : Nat) (hn : n <= cap) (W : World) :
 (Instr.slice 36 (.slice A len cap) none (some (.int .i64 (n : Int))) none).run Tryz.prog W = .ok (.slice A n cap) W := by
 have ht := Tryz.underlying36
 have ht' : Tryz.prog.underlying 36 = some (.slice (Tryz.prog.elem 36)) := by simp [Program.elem,ht]
 have he : Tryz.prog.elem 36 = 69 := by simp [Program.elem,ht]
 rw [run_slice_h W 36 _ _ _ ht' .i64 _ (by omega) (by omega),he,qe9]
 cases A <;> simp [Result.andThen,sliced,Addr.add]
end Go.Proofs.YtmeoooojmhhahaaGreat
namespace Go.Proofs.YtmeoooojmhhahaaGreat
open Go.RowKit
theorem qd0 (xs ys : List Lay) : rowOf (xs ++ ys) = rowOf xs ++ rowOf ys := by simp [rowOf]
theorem ql9 {w : World} {g off : Nat} {xs : List Lay} (hc : ∀ j u,(rowOf xs)[j]? = some u -> w.cell? ((⟨g,off,none⟩ : Addr).add j) = some u) (k : Nat) (hk : k < xs.length) :
 w.cell? ⟨g,off + k * 3,none⟩ = some (.int .i64 xs[k].e.i) /\ w.cell? ⟨g,off + k * 3 + 1,none⟩ = some (.int .i64 xs[k].e.t) /\ w.cell? ⟨g,off + k * 3 + 2,none⟩ = some (.slice xs[k].A xs[k].e.d.length xs[k].c) := by
 have h : ∀ r (hr : r < 3),w.cell? ⟨g,off + (k * 3 + r),none⟩ = (cells3 xs[k])[r]? := fun r hr => by
  have e := qdp xs k r hk hr
  have hl : r < (cells3 xs[k]).length := by simp [cells3]; omega
  rw [List.getElem?_eq_getElem hl] at e ⊢
  have := hc _ _ e
  rwa [Addr.add_lit] at this
 exact ⟨h 0 (by omega),h 1 (by omega),h 2 (by omega)⟩
def blkS (A : Option Addr) (q : Nat) : Prop := ∃ o,A = some ⟨q,o,none⟩
theorem qgl (g o q : Nat) : blkS (some ⟨g,o,none⟩) q ↔ q = g := by
 constructor
 · rintro ⟨o',e⟩
   injection e with e
   injection e with e1
   exact e1.symm
 · rintro rfl
   exact ⟨o,rfl⟩
theorem qki (q : Nat) : ¬ blkS none q := fun ⟨o,e⟩ => by cases e
def Spot (w : World) (A : Option Addr) (n cap : Nat) (xs : List Lay) : Prop :=
 xs.length = n /\ n <= cap /\ cap <= maxLen /\ (A = none -> cap = 0) /\ ∀ a,A = some a -> ∃ g off cur,a = ⟨g,off,none⟩ /\ w.heap[g]? = some (.cells cur 69 (0,0)) /\ off + cap * 3 <= cur.size /\ ∀ j u,(rowOf xs)[j]? = some u -> cur[off + j]? = some u
section
variable {w w' : World} {A : Option Addr} {n cap : Nat} {xs ys : List Lay}
theorem Spot.keep (h : Spot w A n cap xs) (hk : ∀ q,blkS A q -> w'.heap[q]? = w.heap[q]?) : Spot w' A n cap xs := by
 refine ⟨h.1,h.2.1,h.2.2.1,h.2.2.2.1,fun a e => ?_⟩
 obtain ⟨g,off,cur,rfl,hg,r⟩ := h.2.2.2.2 a e
 exact ⟨g,off,cur,rfl,(hk g ⟨off,e⟩).trans hg,r⟩
theorem Spot.lt (h : Spot w A n cap xs) {q : Nat} (hq : blkS A q) : q < w.heap.size := by
 obtain ⟨o,e⟩ := hq
 obtain ⟨g,off,cur,e2,hg,_⟩ := h.2.2.2.2 _ e
 injection e2 with e2
 subst e2
 exact hlt hg
theorem Spot.cells (h : Spot w A n cap xs) {a : Addr} (e : A = some a) : ∀ j u,(rowOf xs)[j]? = some u -> w.cell? (a.add j) = some u := fun j u hu => by
 obtain ⟨g,off,cur,rfl,hg,_,hc⟩ := h.2.2.2.2 a e
 rw [Addr.add_lit,cell_of_row w g _ cur _ _ hg]
 exact hc j u hu
theorem Spot.ents {Z : Nat -> Prop} (h : Spot w A n cap xs) (hz : ∀ q,blkS A q -> Z q) (hok : ∀ x ∈ xs,qZ w Z x) : Ents w Z A n cap (xs.map (·.e)) := by
 refine ⟨by rw [List.length_map]; exact h.1,h.2.1,h.2.2.2.1,fun h0 => ?_⟩
 cases A with
 | none => have := h.2.2.2.1 rfl; have := h.2.1; omega
 | some a =>
   obtain ⟨g,off,cur,rfl,hg,hs,hc⟩ := h.2.2.2.2 a rfl
   refine ⟨g,off,rfl,hlt hg,hz g ⟨off,rfl⟩,fun j hj => ?_⟩
   have hj' : j < xs.length := by simpa using hj
   obtain ⟨c0,c1,c2⟩ := ql9 (w := w) (g := g) (off := off) (xs := xs) (h.cells rfl) j hj'
   obtain ⟨hm,hl,hzE⟩ := hok _ (List.getElem_mem hj')
   simp only [List.getElem_map]
   exact ⟨_,_,c0,c1,c2,hm,hl,hzE⟩
theorem qh8 (xs : List Lay) (k : Nat) : rowOf (xs.take k) = (rowOf xs).take (k * 3) := by
 have h : rowOf xs = rowOf (xs.take k) ++ rowOf (xs.drop k) := by rw [<- qd0,List.take_append_drop]
 rcases Nat.lt_or_ge k xs.length with hk | hk
 · have hl : (rowOf (xs.take k)).length = k * 3 := by rw [qau,List.length_take]; omega
   have e := List.take_left' (l₂ := rowOf (xs.drop k)) hl
   rw [<- h] at e
   exact e.symm
 · rw [List.take_of_length_le hk,List.take_of_length_le (by rw [qau]; omega)]
theorem qje (xs : List Lay) (k : Nat) : rowOf (xs.drop k) = (rowOf xs).drop (k * 3) := by
 have h : rowOf xs = rowOf (xs.take k) ++ rowOf (xs.drop k) := by rw [<- qd0,List.take_append_drop]
 rcases Nat.lt_or_ge k xs.length with hk | hk
 · have hl : (rowOf (xs.take k)).length = k * 3 := by rw [qau,List.length_take]; omega
   have e := List.drop_left' (l₂ := rowOf (xs.drop k)) hl
   rw [<- h] at e
   exact e.symm
 · rw [List.drop_of_length_le hk,List.drop_of_length_le (by rw [qau]; omega)]
   rfl
theorem Spot.take (h : Spot w A n cap xs) {k : Nat} (hk : k <= n) : Spot w A k cap (xs.take k) := by
 have h1 := h.1
 have h2 := h.2.1
 refine ⟨by rw [List.length_take]; omega,by omega,h.2.2.1,h.2.2.2.1,fun a e => ?_⟩
 obtain ⟨g,off,cur,rfl,hg,hs,hc⟩ := h.2.2.2.2 a e
 refine ⟨g,off,cur,rfl,hg,hs,fun j u hu => hc j u ?_⟩
 rw [qh8] at hu
 rw [List.getElem?_take] at hu
 split at hu
 · exact hu
 · cases hu
def qba (A : Option Addr) (cap k : Nat) : Option Addr := if cap = k then A else A.map (·.add (k * 3))
theorem qh9 {k : Nat} (q : Nat) (hA : ∀ a,A = some a -> a.spot = none) : blkS (qba A cap k) q ↔ blkS A q := by
 unfold qba
 split
 · exact Iff.rfl
 · cases A with
   | none => exact Iff.rfl
   | some a =>
     obtain ⟨g,o,sp⟩ := a
     obtain rfl : sp = none := hA _ rfl
     rw [Option.map_some,Addr.add_lit,qgl,qgl]
theorem Spot.spotless (h : Spot w A n cap xs) : ∀ a,A = some a -> a.spot = none := fun a e => by
 obtain ⟨g,off,cur,rfl,_⟩ := h.2.2.2.2 a e
 rfl
theorem Spot.drop (h : Spot w A n cap xs) {k : Nat} (hk : k <= n) : Spot w (qba A cap k) (n - k) (cap - k) (xs.drop k) := by
 have h1 := h.1
 have h2 := h.2.1
 refine ⟨by rw [List.length_drop]; omega,by omega,Nat.le_trans (Nat.sub_le _ _) h.2.2.1,fun e => ?_,fun a e => ?_⟩
 · unfold qba at e
   split at e
   · omega
   · cases A with
     | none => have := h.2.2.2.1 rfl; omega
     | some a => cases e
 · cases A with
   | none => unfold qba at e; split at e <;> cases e
   | some b =>
     obtain ⟨g,off,cur,rfl,hg,hs,hc⟩ := h.2.2.2.2 b rfl
     unfold qba at e
     split at e
     · injection e with e
       subst e
       refine ⟨g,off,cur,rfl,hg,by omega,fun j u hu => ?_⟩
       have hl : j < (rowOf (xs.drop k)).length := (List.getElem?_eq_some_iff.1 hu).1
       rw [qau,List.length_drop] at hl
       omega
     · rw [Option.map_some,Addr.add_lit] at e
       injection e with e
       subst e
       refine ⟨g,off + k * 3,cur,rfl,hg,by omega,fun j u hu => ?_⟩
       rw [qje,List.getElem?_drop] at hu
       rw [Nat.add_assoc]
       exact hc _ _ hu
theorem qjf {k : Nat} (hk : k <= n) (hn : n <= cap) (W : World) : (Instr.slice 36 (.slice A n cap) (some (.int .i64 (k : Int))) none none).run Tryz.prog W = .ok (.slice (qba A cap k) (n - k) (cap - k)) W := by
 have ht := Tryz.underlying36
 have ht' : Tryz.prog.underlying 36 = some (.slice (Tryz.prog.elem 36)) := by simp [Program.elem,ht]
 have he : Tryz.prog.elem 36 = 69 := by simp [Program.elem,ht]
 rw [run_slice_l W 36 _ _ _ ht' .i64 _ (by omega) (by omega),he,qe9]
 simp [Result.andThen,sliced,qba]
end
section
variable {w : World} {A : Option Addr} {n cap : Nat} {xs ys : List Lay}
end
def qz (w : World) (Y : Nat -> Prop) (A : Option Addr) (n cap : Nat) (l : List Ent) : Prop :=
 ∃ xs : List Lay,Spot w A n cap xs /\ (∀ q,blkS A q -> Y q) /\ xs.map (·.e) = l /\ ∀ x ∈ xs,qZ w (fun q => Y q /\ ¬ blkS A q) x
section
variable {w w' : World} {Y Y' : Nat → Prop} {A : Option Addr} {n cap : Nat} {l : List Ent}
theorem qz.nil (w : World) (Y : Nat -> Prop) : qz w Y none 0 0 [] :=
 ⟨[],⟨rfl,nlq,Nat.zero_le _,fun _ => rfl,fun a e => by cases e⟩,fun q h => absurd h (qki q),rfl,fun x hx => by cases hx⟩
theorem qz.keep (h : qz w Y A n cap l) (hs : w.heap.size <= w'.heap.size) (hk : ∀ k,k < w.heap.size -> Y k -> w'.heap[k]? = w.heap[k]?) : qz w' Y A n cap l := by
 obtain ⟨xs,ho,hy,hx,hl⟩ := h
 exact ⟨xs,ho.keep fun q hq => hk q (ho.lt hq) (hy q hq),hy,hx,fun x hx => (hl x hx).keep hs fun k hk' hz => hk k hk' hz.1⟩
theorem qz.below (h : qz w Y A n cap l) (hb : Below w.heap.size w w') : qz w' Y A n cap l := h.keep hb.size fun k hk _ => hb.block k hk
theorem qz.mono (h : qz w Y A n cap l) (hy : ∀ k,Y k -> Y' k) : qz w Y' A n cap l := by
 obtain ⟨xs,ho,h1,hx,hl⟩ := h
 exact ⟨xs,ho,fun g hg => hy g (h1 g hg),hx,fun x hx => (hl x hx).mono fun k hk => ⟨hy k hk.1,hk.2⟩⟩
theorem qz.len (h : qz w Y A n cap l) : n = l.length /\ n <= cap /\ cap <= maxLen := by
 obtain ⟨xs,ho,_,hx,_⟩ := h
 exact ⟨by rw [<- hx,List.length_map]; exact ho.1.symm,ho.2.1,ho.2.2.1⟩
theorem qz.ents (h : qz w Y A n cap l) : Ents w Y A n cap l := by
 obtain ⟨xs,ho,hy,hx,hl⟩ := h
 have := ho.ents (Z := Y) hy fun x hx => (hl x hx).mono fun k hk => hk.1
 rw [hx] at this
 exact this
theorem qz.drop (h : qz w Y A n cap l) {k : Nat} (hk : k <= n) : qz w Y (qba A cap k) (n - k) (cap - k) (l.drop k) := by
 obtain ⟨xs,ho,hy,hx,hl⟩ := h
 have hb : ∀ q,blkS (qba A cap k) q ↔ blkS A q := fun q => qh9 q ho.spotless
 refine ⟨xs.drop k,ho.drop hk,fun q hq => hy q ((hb q).1 hq),by rw [<- hx,List.map_drop],fun x hx => (hl x (List.mem_of_mem_drop hx)).mono fun q hq => ⟨hq.1,fun h => hq.2 ((hb q).1 h)⟩⟩
theorem qF.spot {B : Nat} (h : qF w B Y (.slice A n cap) l) : qz w Y A n cap l := by
 have hcap := h.cap
 obtain ⟨xs,ho,hy,hx,hl⟩ := h
 have hn := hcap.1
 subst hn
 have hob : ∀ q,blkS A q -> (Value.slice A l.length cap).ownBlock = some q := fun q ⟨o,e⟩ => by rw [e]; rfl
 refine ⟨xs,⟨by rw [<- hx,List.length_map],hcap.2.1,hcap.2.2.1,hcap.2.2.2,fun a e => ?_⟩,fun q hq => hy q (hob q hq),hx,fun x hx => (hl x hx).mono fun q hq => ⟨hq.1,fun hb => hq.2 (hob q hb)⟩⟩
 rcases ho.2 with ⟨e2,h0⟩ | ⟨g,cap',cur,e2,hb,hg,h1,h2,h3,h4⟩
 · injection e2 with e2
   rw [e2] at e
   cases e
 · injection e2 with e2 e3 e4
   rw [e2] at e
   injection e with e
   subst e4
   refine ⟨g,0,cur,e.symm,hg,by omega,fun j u hu => ?_⟩
   rw [<- h4,List.getElem?_take] at hu
   split at hu
   · rw [Nat.zero_add]; simpa using hu
   · cases hu
end
end Go.Proofs.YtmeoooojmhhahaaGreat
namespace Go.Proofs.YtmeoooojmhhahaaGreat
open Go.RowKit
def qhz (w : World) (b B : Nat) (h : Hd) (l : List Ent) (x : Ent) (e : Ending) (w' : World) : Prop :=
 qc (· < B) w w' /\ match putE l x with
  | some m => e = .returned (.bool true) /\ ∃ A' c',Tld w' b B h A' c' m
  | none => e = .returned (.bool false)
structure PlAt (w wr : World) (b B : Nat) (h : Hd) (A : Option Addr) (c : Nat) (l : List Ent) (x : Ent) (E : Option Addr) (ec : Nat) : Prop where
 tld : Tld wr b B h A c l
 box : wr.heap[w.heap.size]? = some (.cells #[.int .i64 x.i, .int .i64 x.t, .slice E x.d.length ec] 69)
 below : Below w.heap.size w wr
theorem PlAt.next {w wr w2 : World} {b B : Nat} {h : Hd} {A : Option Addr} {c : Nat} {l : List Ent} {x : Ent} {E : Option Addr} {ec : Nat} (hP : PlAt w wr b B h A c l x E ec) (hb : Below wr.heap.size wr w2) : PlAt w w2 b B h A c l x E ec :=
 ⟨hP.tld.below hb,(hb.block _ (hlt hP.box)).trans hP.box,hP.below.trans (hb.mono hP.below.size)⟩
structure qee (W : World) (b B : Nat) (A : Option Addr) (m c : Nat) (lm : List Ent) (xs : List Lay) : Prop where
 own : W.ownsRow B 69 3 (.slice A m c) m (rowOf xs)
 yv : ∀ g,(Value.slice A m c).ownBlock = some g -> B <= g /\ g ≠ b
 map : xs.map (·.e) = lm
 ok : ∀ x ∈ xs,qZ W (fun q => (B <= q /\ q ≠ b) /\ (Value.slice A m c).ownBlock ≠ some q) x
theorem qee.below {w W : World} {b B : Nat} {A : Option Addr} {m c : Nat} {lm : List Ent} {xs : List Lay} (h : qee w b B A m c lm xs) (hb : Below w.heap.size w W) : qee W b B A m c lm xs :=
 ⟨qaa h.own fun g hg => hb.block g (h.own.lt g hg).2,h.yv,h.map,fun x hx => (h.ok x hx).keep hb.size fun k hk _ => hb.block k hk⟩
theorem Tld.rowAt {w : World} {b B : Nat} {h : Hd} {A : Option Addr} {c : Nat} {l : List Ent} (hT : Tld w b B h A c l) (m : Nat) (hm : m <= l.length) : ∃ xs,qee w b B A m c (l.take m) xs := by
 obtain ⟨xs,ho,hyv,hxs,hok⟩ := hT.row.take m hm
 have hlm : (l.take m).length = m := by rw [List.length_take]; omega
 rw [hlm] at ho
 exact ⟨xs,ho,hyv,hxs,hok⟩
theorem qgm {w wr W w8 : World} {b B : Nat} {h : Hd} {A : Option Addr} {c : Nat} {l : List Ent} {x : Ent} {E : Option Addr} {ec m g cap : Nat} (hP : PlAt w wr b B h A c l x E ec) (hbw : b < w.heap.size) (hW : Below wr.heap.size wr W) (hm : m <= l.length) (hput : putE l x = some (l.take m ++ [x]))
 (hd : Lies w E x.d.length ec x.d) (hec : ec <= maxLen) (hdz : 0 < x.d.length -> ∀ q o,E = some ⟨q,o,none⟩ -> B <= q /\ (Value.slice A l.length c).ownBlock ≠ some q /\ q ≠ b)
 (xs : List Lay) (hra : qee W b B A m c (l.take m) xs)
 (ho : w8.ownsRow B 69 3 (.slice (some ⟨g,0,none⟩) (m + 1) cap) (m + 1) (rowOf xs ++ [.int .i64 x.i, .int .i64 x.t, .slice E x.d.length ec]))
 (hg : (W.alloc (.cells #[.int .i64 x.i, .int .i64 x.t, .slice E x.d.length ec] 69)).grownBy w8 (Value.slice A m c).ownBlock) (hq : (Value.slice A m c).ownBlock = some g \/ g = W.heap.size + 1) :
 qhz w b B h l x (.returned (.bool true)) (w8.setCell ⟨b,2,none⟩ (.slice (some ⟨g,0,none⟩) (m + 1) cap)) := by
 have hxs := hra.map
 have hyv := hra.yv
 have hok := hra.ok
 have hs1 := hP.below.size
 have hs2 := hW.size
 have hlo := hP.tld.lo
 have hbW : Below w.heap.size w W := hP.below.trans (hW.mono hs1)
 have hA : Below W.heap.size W (W.alloc (.cells #[.int .i64 x.i, .int .i64 x.t, .slice E x.d.length ec] 69)) := blq.alloc nlq _
 have hsz : (W.alloc (.cells #[.int .i64 x.i, .int .i64 x.t, .slice E x.d.length ec] 69)).heap.size = W.heap.size + 1 := by simp
 have hlt' : ∀ q o,0 < x.d.length -> E = some ⟨q,o,none⟩ -> q < w.heap.size := fun q o h0 e => by
  obtain ⟨q',o',e',hq,_⟩ := hd.2.2.2 h0
  rw [e] at e'
  injection e' with e'
  injection e' with e1 _
  omega
 have hlm : (l.take m).length = m := by rw [List.length_take]; omega
 have hrow : qF w8 B (fun q => B <= q /\ q ≠ b) (.slice (some ⟨g,0,none⟩) ((l.take m).length + 1) cap) (l.take m ++ [x]) := by
  refine qF.more (w := W) (w1 := W.alloc (.cells #[.int .i64 x.i, .int .i64 x.t, .slice E x.d.length ec] 69)) (v := .slice A m c) (A := E) (c := ec) hA.size (fun k hk _ => hA.block k hk) ⟨hec,hd.below (hbW.trans (hA.mono hbW.size)) nlq,fun h0 q o e => ?_⟩ xs hxs hok hyv ⟨by rw [hsz]; omega,by rw [hsz]; omega⟩ (fun h0 q o e => by rw [hsz]; have := hlt' q o h0 e; omega) (by rw [hlm]; exact ho) hg (by rw [hsz]; exact hq)
  have h1 := hdz h0 q o e
  exact ⟨⟨h1.1,h1.2.2⟩,fun er => h1.2.1 (by rw [<- er]; exact qd8 _ _ _ _ _)⟩
 have hbox8 : w8.heap[b]? = some (.cells #[.int .i64 h.t, .int .i64 h.v, .slice A l.length c] 101) := by
  rw [hg.block b (by rw [hsz]; omega) (fun e => (hyv b e.symm).2 rfl),hA.block b (by omega),hW.block b (by omega)]
  exact hP.tld.box
 unfold qhz
 rw [hput]
 refine ⟨?_,rfl,some ⟨g,0,none⟩,cap,⟨?_,?_,hlo⟩⟩
 · have k1 : qc (· < B) w (W.alloc (.cells #[.int .i64 x.i, .int .i64 x.t, .slice E x.d.length ec] 69)) := qe (hbW.trans (hA.mono hbW.size)) nlq
   have k2 : qc (· < B) (W.alloc (.cells #[.int .i64 x.i, .int .i64 x.t, .slice E x.d.length ec] 69)) w8 := qc1 hg fun k hk => by have := (hyv k hk).1; show ¬ k < B; omega
   exact (k1.trans k2).trans (qo _ _ _ (by show ¬ b < B; omega))
 · have e : (l.take m ++ [x]).length = m + 1 := by rw [List.length_append,hlm,List.length_singleton]
   rw [e]
   exact setCell_at w8 ⟨b,2,none⟩ _ _ _ _ rfl hbox8
 · have e : (l.take m ++ [x]).length = m + 1 := by rw [List.length_append,hlm,List.length_singleton]
   rw [e]
   rw [hlm] at hrow
   exact hrow.keep (by simp) fun k hk hy => Below.heap_setCell _ _ _ _ (by exact hy.2)
theorem qix {w wr W w8 : World} {b B : Nat} {h : Hd} {A : Option Addr} {c : Nat} {l : List Ent} {x : Ent} {E : Option Addr} {ec m : Nat} {lm : List Ent} {xs : List Lay} {C : Obj} (hP : PlAt w wr b B h A c l x E ec) (hbw : b < w.heap.size) (hW : Below wr.heap.size wr W) (hra : qee W b B A m c lm xs) (hg : (W.alloc C).grownBy w8 (Value.slice A m c).ownBlock) :
 w8.heap[b]? = some (.cells #[.int .i64 h.t, .int .i64 h.v, .slice A l.length c] 101) := by
 have hs1 := hP.below.size
 have hs2 := hW.size
 have hA : Below W.heap.size W (W.alloc C) := blq.alloc nlq _
 rw [hg.block b (by simp; omega) (fun e => (hra.yv b e.symm).2 rfl),hA.block b (by omega),hW.block b (by omega)]
 exact hP.tld.box
theorem qkj (w : World) (b B : Nat) (h : Hd) (A : Option Addr) (c : Nat) (l : List Ent) (x : Ent) (E : Option Addr) (ec : Nat) (hT : Tld w b B h A c l) (hx : rightE x = true) (hg : qW l) (hlen : l.length <= 100000) (hd : Lies w E x.d.length ec x.d) (hec : ec <= maxLen)
 (hdz : 0 < x.d.length -> ∀ q o,E = some ⟨q,o,none⟩ -> B <= q /\ (Value.slice A l.length c).ownBlock ≠ some q /\ q ≠ b) :
 Calls Tryz.prog 139 #[.pointer (some ⟨b,0,none⟩),entV x.i x.t E x.d.length ec] w (qhz w b B h l x) := by
 have hb0 : Below w.heap.size w (w.alloc (.cells #[.int .i64 x.i, .int .i64 x.t, .slice E x.d.length ec] 69)) := blq.alloc nlq _
 have hP0 : PlAt w (w.alloc (.cells #[.int .i64 x.i, .int .i64 x.t, .slice E x.d.length ec] 69)) b B h A c l x E ec := ⟨hT.below hb0,heap_alloc_new _ _,hb0⟩
 obtain ⟨⟨t0,t1,t2⟩,_⟩ := row3 hP0.tld.box
 have hcap := hT.row.cap
 go_enter Tryz.func139,Tryz.ntmps139
 go_wp2
 clear t0 t1 t2
 go_loopg [5] l.length (fun g v wr => ∃ m : Nat,m = g /\ m <= l.length /\ v = .slice A m c /\ Hid (∀ j (hj : j < l.length),m <= j -> x.i <= l[j].i) /\ PlAt w wr b B h A c l x E ec)
 case atStart => exact ⟨_,rfl,nlq,rfl,⟨fun j hj hm => absurd hj (by omega)⟩,hP0⟩
 case round =>
  clear hP0 hb0
  obtain ⟨m,hmg,hm,rfl,HI,hP⟩ := hrel
  have HM := Lib.hid hmg
  clear hmg
  by_cases h0 : 0 < m
  · obtain ⟨k,hk⟩ : ∃ k,Hid (m = k + 1) := ⟨m - 1,⟨by omega⟩⟩
    have hkl : k < l.length := by have := hk.out; omega
    obtain ⟨g,off,F,fc,hA,hgl,c0,c1,c2,_⟩ := hP.tld.row.ents.at_ k hkl
    subst hA
    obtain ⟨⟨x0,x1,x2⟩,_⟩ := row3 hP.box
    have e1 : IntKind.i64.wrap ((m : Int) - 1) = (k : Int) := by rw [IntWalk.i64_in _ (by have := hk.out; omega)]; have := hk.out; omega
    have e2 : wrap64 ((m : Int) - 1) = (k : Int) := by have := e1; rw [IntWalk.i64_left] at this; exact this
    have hkm : k < m := by have := hk.out; omega
    have hd1 : decide (0 < m) = true := decide_eq_true h0
    have hd2 : decide (k < m) = true := decide_eq_true hkm
    have hsl := fun W => qjd (some ⟨g,off,none⟩) m c k (by omega) W
    by_cases hge : x.i <= l[k].i
    · have HG := Lib.hid hge
      have HN := Lib.hid (show ∀ j (hj : j < l.length),k <= j -> x.i <= l[j].i from fun j hj hkj => by
       rcases Nat.eq_or_lt_of_le hkj with rfl | hlt
       · exact hge
       · exact HI.out j hj (by have := hk.out; omega))
      have HP := Lib.hid hP
      generalize l[k] = y at *
      obtain ⟨yi,yt,yd⟩ := y
      dsimp only at *
      clear HI hP c1 c2 hkl
      have HMM := Lib.hid hm
      clear hm
      go_wp2
      go_quiet (fail)
      go_wp2
      go_roundg (gk - 1)
      case measure => have e : m = gk := HM; omega
      case rel => exact ⟨k,by have e : m = gk := HM; have := hk.out; omega,by have e : m <= l.length := HMM; omega,rfl,⟨HN.out⟩,PlAt.next HP (qO blq _)⟩
    · have hput := qfS hg x m hm HI.out (fun h0 => by
       have e : m - 1 = k := by have := hk.out; omega
       have e2 : l[m - 1]'(by omega) = l[k] := by congr 1
       rw [e2]; omega)
      rw [dif_pos h0] at hput
      have e2 : l[m - 1]'(by omega) = l[k] := by congr 1; have := hk.out; omega
      rw [e2] at hput
      have hrun := fun i t => qlS (i := i) (t := t) hx
      obtain ⟨xs,hra⟩ := hP.tld.rowAt m hm
      generalize l[k] = y at *
      obtain ⟨yi,yt,yd⟩ := y
      dsimp only at *
      have hge' : (x.i <= yi) = False := eq_false hge
      have hdge : decide (x.i <= yi) = false := decide_eq_false hge
      have hR := fun W (hW : Below w.heap.size w W) => qeM (fun _ => True) (some ⟨W.heap.size,0,none⟩) 1 1 [x] yi yt _ (qhy (hd.below hW nlq) hec) (by unfold maxLen; omega)
      rw [hrun] at hR
      obtain ⟨q,hq⟩ : ∃ q,Hid (decide (yi = x.i - 1 /\ yt <= x.t) = q) := ⟨_,⟨rfl⟩⟩
      rw [hq.out] at hR
      have HPut := Lib.hid hput
      have HP := Lib.hid hP
      have HMM := Lib.hid hm
      have hbw := hP.below
      clear hput hP hm hrun e2 c2 hge hsl
      go_wp2
      go_quiet (fail)
      have hP5 := PlAt.next HP (qO blq nq)
      have c05 : (wr.drewN nq).cell? ⟨g,off + k * 3,none⟩ = some (.int .i64 yi) := c0
      have c15 : (wr.drewN nq).cell? ⟨g,off + k * 3 + 1,none⟩ = some (.int .i64 yt) := c1
      have hra5 := hra.below (qO blq nq)
      clear hra
      have hB5 : Below wr.heap.size wr (wr.drewN nq) := qO blq nq
      generalize wr.drewN nq = W5 at *
      have hgl5 : g < W5.heap.size := Nat.lt_of_lt_of_le hgl hB5.size
      have hbw5 := hP5.below
      obtain ⟨⟨y0,y1,y2⟩,_⟩ := row3 hP5.box
      have hbx := hlt hP5.box
      have hst : ∀ W W',Below W5.heap.size W5 W -> Below W.heap.size W W' -> Below W5.heap.size W5 W' /\ W'.cell? ⟨g,off + k * 3,none⟩ = some (.int .i64 yi) /\ W'.cell? ⟨g,off + k * 3 + 1,none⟩ = some (.int .i64 yt) /\ W'.cell? ⟨w.heap.size,0,none⟩ = some (.int .i64 x.i) /\ W'.cell? ⟨w.heap.size,1,none⟩ = some (.int .i64 x.t) /\ W'.cell? ⟨w.heap.size,2,none⟩ = some (.slice E x.d.length ec) := fun W W' h1 h2 => by
       have h3 := h1.trans (h2.mono h1.size)
       exact ⟨h3,(h3.cell (p := ⟨g,off + k * 3,none⟩) hgl5).trans c05,(h3.cell (p := ⟨g,off + k * 3 + 1,none⟩) hgl5).trans c15,(h3.cell (p := ⟨w.heap.size,0,none⟩) hbx).trans y0,(h3.cell (p := ⟨w.heap.size,1,none⟩) hbx).trans y1,(h3.cell (p := ⟨w.heap.size,2,none⟩) hbx).trans y2⟩
      have hB0 := (Below.refl W5.heap.size W5).drew
      have hR5 := fun W (hW : Below W5.heap.size W5 W) => hR W (hbw5.trans (hW.mono hbw5.size))
      have HP5 := Lib.hid hP5
      clear hR c0 c1 x0 x1 x2 HP hP5
      go_wp2
      go_region_held3 (fun w' => Below W5.heap.size W5 w' /\ w'.cell? ⟨g,off + k * 3,none⟩ = some (.int .i64 yi) /\ w'.cell? ⟨g,off + k * 3 + 1,none⟩ = some (.int .i64 yt) /\ w'.cell? ⟨w.heap.size,0,none⟩ = some (.int .i64 x.i) /\ w'.cell? ⟨w.heap.size,1,none⟩ = some (.int .i64 x.t) /\ w'.cell? ⟨w.heap.size,2,none⟩ = some (.slice E x.d.length ec))
       (first | exact hS7 | (exact ⟨hB0,c05,c15,y0,y1,y2⟩) | (exact hst _ _ hB0 (blq.alloc nlq _)) | (go_keep; done))
       (first
         | (go_at_call 41
            refine (hR5 _ hB0).mono ?_
            rintro e w7 ⟨rfl,hb7⟩
            have hS7 := hst _ w7 (hB0.alloc nlq _) hb7))
      have hra7 := hra5.below hS7.1
      have ho7 := hra7.own
      have HRA := Lib.hid hra7
      have hlo := hT.lo
      have hbW := hlt hT.box
      have hs7 := hS7.1.size
      have hbws := hbw5.size
      obtain ⟨hB7,z0,z1,z2,z3,z4⟩ := hS7
      clear hb7 hst hR5 hB0 c05 c15 y0 y1 y2 hra5
      obtain ⟨i0,hi0,hz0,hz1,hz2⟩ := info_parts qdq
      cases q with
      | true =>
        have HPT := Lib.hid (show putE l x = some (l.take m ++ [x]) by
         have e : putE l x = _ := HPut
         rw [e,if_pos (of_decide_eq_true hq.out)])
        have hm' : m <= l.length := HMM
        clear HPut hq
        go_wp2_with (first
         | (at_builtin; refine wpList_append_lies _ rfl _ _ 36 rfl B 69 i0 _ 3 40 Tryz.underlying36 hi0 hz0 hz1 hz2 rfl (by omega) (.slice (some ⟨g,off,none⟩) m c) m (rowOf xs) rfl (ho7.alloc _) ⟨w7.heap.size,0,none⟩ 1 1 [.int .i64 x.i, .int .i64 x.t, .slice E x.d.length ec] rfl rfl (World.news_of_block (heap_alloc_new w7 _)) (by simp [Value.oneCell']) (by omega) (by unfold maxLen; omega) (by omega) (by simp; omega) (w7.heap.size + 1) (by simp) ?_
            intro g2 cap3 w8 ho8 hgr8 hat8 hlt8
            have hb8 := qix HP5.out hbW hB7 HRA.out hgr8
            obtain ⟨⟨p0,p1,p2⟩,⟨f0,f1,f2⟩⟩ := row3 hb8
            have HO8 := Lib.hid ho8
            have HG8 := Lib.hid hgr8
            have HA8 := Lib.hid hat8
            clear hb8 ho8 hgr8 hat8 hlt8)
         | fail)
        go_ret
        exact qgm HP5.out hbW hB7 HMM.out HPT.out hd hec hdz xs HRA.out HO8.out HG8.out HA8.out
      | false =>
        have HPT := Lib.hid (show putE l x = none by
         have e : putE l x = _ := HPut
         rw [e,if_neg (of_decide_eq_false hq.out)])
        clear HPut hq
        go_wp2
        go_ret
        refine ⟨?_,?_⟩
        · exact (qe (hbw5.trans (hB7.mono hbw5.size)) nlq).mono fun k hk => hk
        · rw [HPT.out]
          rfl
  · obtain rfl : m = 0 := by omega
    have hput := qfS hg x 0 hm HI.out (fun h0 => absurd h0 (by omega))
    rw [dif_neg (by omega)] at hput
    have HPT := Lib.hid (show putE l x = some (l.take 0 ++ [x]) by rw [hput]; rfl)
    obtain ⟨xs,hra⟩ := hP.tld.rowAt 0 hm
    have HP := Lib.hid hP
    have HMM := Lib.hid hm
    have hlo := hT.lo
    have hbW := hlt hT.box
    have hbws := hP.below.size
    have hbox := hP.box
    clear hput hP hm HI HM h0
    go_wp2
    go_quiet (fail)
    have hB5 : Below wr.heap.size wr (wr.drewN nq) := qO blq _
    generalize wr.drewN nq = W5 at *
    go_wp2
    go_quiet (fail)
    have hB7 : Below wr.heap.size wr (W5.drewN nq) := qO hB5 _
    clear hB5
    generalize W5.drewN nq = w7 at *
    obtain ⟨⟨z0,z1,z2⟩,_⟩ := row3 ((hB7.block _ (hlt hbox)).trans hbox)
    have hra7 := hra.below hB7
    have ho7 := hra7.own
    have HRA := Lib.hid hra7
    have hs7 := hB7.size
    clear hra hbox hra7
    obtain ⟨i0,hi0,hz0,hz1,hz2⟩ := info_parts qdq
    go_wp2_with (first
     | (at_builtin; refine wpList_append_lies _ rfl _ _ 36 rfl B 69 i0 _ 3 40 Tryz.underlying36 hi0 hz0 hz1 hz2 rfl (by omega) (.slice A 0 c) 0 (rowOf xs) rfl (ho7.alloc _) ⟨w7.heap.size,0,none⟩ 1 1 [.int .i64 x.i, .int .i64 x.t, .slice E x.d.length ec] rfl rfl (World.news_of_block (heap_alloc_new w7 _)) (by simp [Value.oneCell']) (by omega) (by unfold maxLen; omega) (by omega) (by simp; omega) (w7.heap.size + 1) (by simp) ?_
        intro g2 cap3 w8 ho8 hgr8 hat8 hlt8
        have hb8 := qix HP hbW hB7 HRA hgr8
        obtain ⟨⟨p0,p1,p2⟩,⟨f0,f1,f2⟩⟩ := row3 hb8
        have HO8 := Lib.hid ho8
        have HG8 := Lib.hid hgr8
        have HA8 := Lib.hid hat8
        clear hb8 ho8 hgr8 hat8 hlt8)
     | fail)
    go_ret
    exact qgm HP hbW hB7 HMM HPT.out hd hec hdz xs HRA HO8.out HG8.out HA8.out
end Go.Proofs.YtmeoooojmhhahaaGreat
