/- Sorting that leaves what is alike in its order, told by places. Plain mathematics. -/
import Derived.Test.YtcoddkbbgmjckaaRows
namespace Go.Proofs.Ytcoddkbbgmjckaa
set_option linter.unusedVariables false
namespace Sor
variable {α : Type}

def Up (key : α → Int) (l : List α) : Prop := l.Pairwise fun a b => key a ≤ key b
/-- The same things, those alike in the same order. -/
def St (key : α → Int) (l t : List α) : Prop := ∀ r, l.filter (fun x => decide (key x = r)) = t.filter fun x => decide (key x = r)

section
variable {key : α → Int} {a b c d l t u : List α}
theorem St.refl (l : List α) : St key l l := fun _ => rfl
theorem St.symm (h : St key l t) : St key t l := fun r => (h r).symm
theorem St.trans (h : St key l t) (k : St key t u) : St key l u := fun r => (h r).trans (k r)
theorem St.app (h : St key a b) (k : St key c d) : St key (a ++ c) (b ++ d) := fun r => by rw [List.filter_append, List.filter_append, h r, k r]
theorem filter_none {p : α → Bool} (h : ∀ x ∈ l, p x = false) : l.filter p = [] := List.filter_eq_nil_iff.2 fun x hx => by rw [h x hx]; exact Bool.false_ne_true
theorem St.swap (h : ∀ x ∈ a, ∀ y ∈ b, key x ≠ key y) : St key (a ++ b) (b ++ a) := fun r => by
  rw [List.filter_append, List.filter_append]
  by_cases hx : ∃ x ∈ a, key x = r
  · obtain ⟨x, hx, rfl⟩ := hx
    rw [filter_none (l := b) fun y hy => decide_eq_false fun e => h x hx y hy e.symm]
    simp
  · rw [filter_none (l := a) fun x hx' => decide_eq_false fun e => hx ⟨x, hx', e⟩]
    simp
theorem St.mem (h : St key l t) {x : α} (hx : x ∈ l) : x ∈ t := by
  have h1 : x ∈ l.filter fun y => decide (key y = key x) := List.mem_filter.2 ⟨hx, decide_eq_true rfl⟩
  rw [h] at h1
  exact (List.mem_filter.1 h1).1
/-- There is one such order. -/
theorem St.unique : ∀ {l t : List α}, Up key l → Up key t → St key l t → l = t
  | [], [], _, _, _ => rfl
  | [], y :: t, _, _, h => absurd (h.symm.mem (List.mem_cons_self ..)) (by simp)
  | x :: l, [], _, _, h => absurd (h.mem (List.mem_cons_self ..)) (by simp)
  | x :: l, y :: t, hl, ht, h => by
    obtain ⟨xl, hl'⟩ := List.pairwise_cons.1 hl
    obtain ⟨yt, ht'⟩ := List.pairwise_cons.1 ht
    have h1 : key x ≤ key y := by
      rcases List.mem_cons.1 (h.symm.mem (List.mem_cons_self ..)) with e | h1
      · rw [e]; exact Int.le_refl _
      · exact xl y h1
    have h2 : key y ≤ key x := by
      rcases List.mem_cons.1 (h.mem (List.mem_cons_self ..)) with e | h1
      · rw [e]; exact Int.le_refl _
      · exact yt x h1
    have e : key y = key x := by omega
    have h3 := h (key x)
    rw [List.filter_cons, List.filter_cons, if_pos (decide_eq_true rfl), if_pos (decide_eq_true e)] at h3
    injection h3 with e1 h3
    subst e1
    congr 1
    refine St.unique hl' ht' fun r => ?_
    by_cases hr : key x = r
    · subst hr; exact h3
    · have h4 := h r
      rw [List.filter_cons, List.filter_cons, if_neg (by simpa using hr), if_neg (by simpa using hr)] at h4
      exact h4
end

/-- The key at a place. -/
def kA (key : α → Int) (l : List α) (k : Nat) : Int := match l[k]? with | some x => key x | none => 0
/-- Rising from one place on up to another one. -/
def UpIn (key : α → Int) (l : List α) (a b : Nat) : Prop := ∀ i j, a ≤ i → i ≤ j → j < b → kA key l i ≤ kA key l j
/-- All but what stands from one place on up to another one is as it was. -/
def Off (a b : Nat) (l t : List α) : Prop := t.length = l.length ∧ ∀ k, k < a ∨ b ≤ k → t[k]? = l[k]?

section
variable {key : α → Int} {l t u : List α} {a b c d m i j k : Nat}
theorem kA_get (hk : k < l.length) : kA key l k = key l[k] := by unfold kA; rw [List.getElem?_eq_getElem hk]
theorem kA_of (h : t[k]? = l[j]?) : kA key t k = kA key l j := by unfold kA; rw [h]
theorem Off.refl (a b : Nat) (l : List α) : Off a b l l := ⟨rfl, fun _ _ => rfl⟩
theorem Off.trans (h : Off a b l t) (g : Off a b t u) : Off a b l u := ⟨g.1.trans h.1, fun k hk => (g.2 k hk).trans (h.2 k hk)⟩
theorem Off.wide (h : Off a b l t) (hc : c ≤ a) (hd : b ≤ d) : Off c d l t := ⟨h.1, fun k hk => h.2 k (by omega)⟩
theorem Off.kk (h : Off a b l t) (hk : k < a ∨ b ≤ k) : kA key t k = kA key l k := kA_of (h.2 k hk)
theorem UpIn.sub (h : UpIn key l a b) (hc : a ≤ c) (hd : d ≤ b) : UpIn key l c d := fun i j h1 h2 h3 => h i j (by omega) h2 (by omega)
theorem UpIn.off (h : UpIn key l c d) (g : Off a b l t) (hd : d ≤ a ∨ b ≤ c) : UpIn key t c d := fun i j h1 h2 h3 => by
  rw [g.kk (by omega), g.kk (by omega)]
  exact h i j h1 h2 h3
theorem UpIn.one (l : List α) (h : b ≤ a + 1) : UpIn key l a b := fun i j h1 h2 h3 => by
  obtain rfl : i = j := by omega
  exact Int.le_refl _
theorem UpIn.up (h : UpIn key l 0 b) (hb : l.length ≤ b) : Up key l := by
  refine List.pairwise_iff_getElem.2 fun i j hi hj hij => ?_
  have := h i j (Nat.zero_le _) (by omega) (by omega)
  rw [kA_get hi, kA_get hj] at this
  exact this

/-- Two neighbouring stretches are exchanged. -/
def Rot (a m b : Nat) (l t : List α) : Prop := t.length = l.length ∧ (∀ k, k < a ∨ b ≤ k → t[k]? = l[k]?) ∧ (∀ k, a ≤ k → k < a + (b - m) → t[k]? = l[k + (m - a)]?) ∧ ∀ k, a + (b - m) ≤ k → k < b → t[k]? = l[k - (b - m)]?
theorem Rot.off (h : Rot a m b l t) : Off a b l t := ⟨h.1, h.2.1⟩
theorem Rot.lists (h : Rot a m b l t) (h1 : a ≤ m) (h2 : m ≤ b) (h3 : b ≤ l.length) : t = l.take a ++ ((l.drop m).take (b - m) ++ ((l.drop a).take (m - a) ++ l.drop b)) := by
  obtain ⟨e0, e1, e2, e3⟩ := h
  refine List.ext_getElem? fun k => ?_
  have l1 : (l.take a).length = a := by rw [List.length_take]; omega
  have l2 : ((l.drop m).take (b - m)).length = b - m := by rw [List.length_take, List.length_drop]; omega
  have l3 : ((l.drop a).take (m - a)).length = m - a := by rw [List.length_take, List.length_drop]; omega
  by_cases k1 : k < a
  · rw [e1 k (.inl k1), List.getElem?_append_left (by omega), List.getElem?_take, if_pos k1]
  · rw [List.getElem?_append_right (by omega), l1]
    by_cases k2 : k < a + (b - m)
    · rw [e2 k (by omega) k2, List.getElem?_append_left (by omega), List.getElem?_take, if_pos (by omega), List.getElem?_drop]
      congr 1 <;> omega
    · rw [List.getElem?_append_right (by omega), l2]
      by_cases k3 : k < b
      · rw [e3 k (by omega) k3, List.getElem?_append_left (by omega), List.getElem?_take, if_pos (by omega), List.getElem?_drop]
        congr 1 <;> omega
      · rw [e1 k (by omega), List.getElem?_append_right (by omega), l3, List.getElem?_drop]
        congr 1 <;> omega
theorem cut3 (l : List α) (h1 : a ≤ m) (h2 : m ≤ b) : l = l.take a ++ ((l.drop a).take (m - a) ++ ((l.drop m).take (b - m) ++ l.drop b)) := by
  have e1 : (l.drop m).take (b - m) ++ l.drop b = l.drop m := by
    have := List.take_append_drop (b - m) (l.drop m)
    rw [List.drop_drop, show m + (b - m) = b by omega] at this
    exact this
  have e2 : (l.drop a).take (m - a) ++ l.drop m = l.drop a := by
    have := List.take_append_drop (m - a) (l.drop a)
    rw [List.drop_drop, show a + (m - a) = m by omega] at this
    exact this
  rw [e1, e2, List.take_append_drop]
theorem Rot.st (h : Rot a m b l t) (h1 : a ≤ m) (h2 : m ≤ b) (h3 : b ≤ l.length) (hk : ∀ i j, a ≤ i → i < m → m ≤ j → j < b → kA key l i ≠ kA key l j) : St key l t := by
  rw [h.lists h1 h2 h3]
  conv => lhs; rw [cut3 l h1 h2]
  refine (St.refl _).app ?_
  rw [← List.append_assoc, ← List.append_assoc]
  refine St.app (St.swap fun x hx y hy => ?_) (St.refl _)
  obtain ⟨i, hi, rfl⟩ := List.mem_iff_getElem.1 hx
  obtain ⟨j, hj, rfl⟩ := List.mem_iff_getElem.1 hy
  rw [List.length_take, List.length_drop] at hi hj
  rw [List.getElem_take, List.getElem_drop, List.getElem_take, List.getElem_drop]
  have := hk (a + i) (m + j) (by omega) (by omega) (by omega) (by omega)
  rw [kA_get (by omega), kA_get (by omega)] at this
  exact this

/-- Two things exchanged. -/
def Swp (i j : Nat) (l t : List α) : Prop := t.length = l.length ∧ t[i]? = l[j]? ∧ t[j]? = l[i]? ∧ ∀ k, k ≠ i → k ≠ j → t[k]? = l[k]?
theorem Swp.set (hi : i < l.length) (hj : j < l.length) : Swp i j l ((l.set i l[j]).set j l[i]) := by
  refine ⟨by rw [List.length_set, List.length_set], ?_, ?_, fun k h1 h2 => ?_⟩
  · rw [List.getElem?_set, List.getElem?_set, List.length_set]
    by_cases e : j = i
    · subst e; simp [hi]
    · rw [if_neg e, if_pos rfl, if_pos hi, List.getElem?_eq_getElem hj]
  · rw [List.getElem?_set, List.length_set, if_pos rfl, if_pos hj, List.getElem?_eq_getElem hi]
  · rw [List.getElem?_set, if_neg (by omega), List.getElem?_set, if_neg (by omega)]
theorem Swp.symm (h : Swp i j l t) : Swp j i l t := ⟨h.1, h.2.2.1, h.2.1, fun k h1 h2 => h.2.2.2 k h2 h1⟩
theorem Swp.rot (h : Swp i (i + 1) l t) : Rot i (i + 1) (i + 2) l t := by
  obtain ⟨e0, e1, e2, e3⟩ := h
  refine ⟨e0, fun k hk => e3 k (by omega) (by omega), fun k h1 h2 => ?_, fun k h1 h2 => ?_⟩
  · obtain rfl : k = i := by omega
    rw [e1]; congr 1 <;> omega
  · obtain rfl : k = i + 1 := by omega
    rw [e2]; congr 1 <;> omega
theorem Swp.st (h : Swp i (i + 1) l t) (hl : i + 1 < l.length) (hk : kA key l i ≠ kA key l (i + 1)) : St key l t :=
  h.rot.st (by omega) (by omega) (by omega) fun p q h1 h2 h3 h4 => by
    obtain rfl : p = i := by omega
    obtain rfl : q = p + 1 := by omega
    exact hk
theorem Swp.kk (h : Swp i j l t) : kA key t i = kA key l j ∧ kA key t j = kA key l i ∧ ∀ k, k ≠ i → k ≠ j → kA key t k = kA key l k := ⟨kA_of h.2.1, kA_of h.2.2.1, fun k h1 h2 => kA_of (h.2.2.2 k h1 h2)⟩
theorem Swp.off (h : Swp i j l t) (h1 : a ≤ i) (h2 : i < b) (h3 : a ≤ j) (h4 : j < b) : Off a b l t := ⟨h.1, fun k hk => h.2.2.2 k (by omega) (by omega)⟩

/-- Sorting by insertion: what stands at j goes down. -/
structure Ins (key : α → Int) (a i j : Nat) (l0 l : List α) : Prop where
  lo : a ≤ j
  hi : j ≤ i
  off : Off a (i + 1) l0 l
  st : St key l0 l
  up : ∀ p q, a ≤ p → p < q → q ≤ i → p ≠ j → q ≠ j → kA key l p ≤ kA key l q
  gt : ∀ q, j < q → q ≤ i → kA key l j < kA key l q
theorem Ins.start (h : UpIn key l a i) (ha : a ≤ i) : Ins key a i i l l :=
  ⟨ha, Nat.le_refl _, Off.refl _ _ _, St.refl _, fun p q h1 h2 h3 h4 h5 => h p q h1 (by omega) (by omega), fun q h1 h2 => by omega⟩
theorem Ins.step {l0 : List α} (h : Ins key a i (j + 1) l0 l) (hs : Swp j (j + 1) l t) (ha : a ≤ j) (hl : i < l.length) (hk : kA key l (j + 1) < kA key l j) : Ins key a i j l0 t := by
  obtain ⟨k1, k2, k3⟩ := hs.kk (key := key)
  have hhi := h.hi
  refine ⟨ha, by omega, h.off.trans (hs.off ha (by omega) (by omega) (by omega)), h.st.trans (hs.st (by omega) (by omega)), fun p q h1 h2 h3 h4 h5 => ?_, fun q h1 h2 => ?_⟩
  · by_cases e : p = j + 1
    · subst e
      rw [k2, k3 q (by omega) (by omega)]
      exact h.up j q ha (by omega) h3 (by omega) (by omega)
    · rw [k3 p h4 e]
      by_cases e2 : q = j + 1
      · subst e2
        rw [k2]
        exact h.up p j h1 (by omega) (by omega) e (by omega)
      · rw [k3 q h5 e2]
        exact h.up p q h1 h2 h3 e e2
  · rw [k1]
    by_cases e2 : q = j + 1
    · subst e2; rw [k2]; exact hk
    · rw [k3 q (by omega) e2]
      exact h.gt q (by omega) h2
theorem Ins.done {l0 : List α} (h : Ins key a i j l0 l) (hd : j = a ∨ kA key l (j - 1) ≤ kA key l j) : UpIn key l a (i + 1) := fun p q h1 h2 h3 => by
  by_cases e : p = q
  · subst e; exact Int.le_refl _
  by_cases e1 : p = j
  · subst e1; exact Int.le_of_lt (h.gt q (by omega) (by omega))
  by_cases e2 : q = j
  · subst e2
    have hlo := h.lo
    have hd' : kA key l (q - 1) ≤ kA key l q := by
      rcases hd with hd | hd
      · omega
      · exact hd
    by_cases e3 : p = q - 1
    · subst e3; exact hd'
    · exact Int.le_trans (h.up p (q - 1) h1 (by omega) (by omega) e1 (by omega)) hd'
  · exact h.up p q h1 (by omega) (by omega) e1 e2

/-- What stretches were merged to. -/
structure Mrg (key : α → Int) (a b : Nat) (l t : List α) : Prop where
  off : Off a b l t
  st : St key l t
  up : UpIn key t a b

/-- The first thing goes up to its place. -/
structure UpW (key : α → Int) (a k : Nat) (l t : List α) : Prop where
  off : Off a (k + 1) l t
  st : St key l t
  at_ : t[k]? = l[a]?
  lo : ∀ q, a ≤ q → q < k → t[q]? = l[q + 1]?
theorem UpW.start (l : List α) (a : Nat) : UpW key a a l l := ⟨Off.refl _ _ _, St.refl _, rfl, fun q h1 h2 => by omega⟩
theorem UpW.step {v : List α} (h : UpW key a k l t) (hs : Swp k (k + 1) t v) (ha : a ≤ k) (hl : k + 1 < l.length) (hk : kA key l (k + 1) < kA key l a) : UpW key a (k + 1) l v := by
  obtain ⟨e0, e1, e2, e3⟩ := hs
  have f1 : kA key t k = kA key l a := kA_of h.at_
  have f2 : kA key t (k + 1) = kA key l (k + 1) := h.off.kk (by omega)
  have hs : Swp k (k + 1) t v := ⟨e0, e1, e2, e3⟩
  refine ⟨(h.off.wide (Nat.le_refl _) (by omega)).trans (hs.off ha (by omega) (by omega) (by omega)), h.st.trans (hs.st (by rw [h.off.1]; omega) (by omega)), e2.trans h.at_, fun q h1 h2 => ?_⟩
  by_cases e : q = k
  · subst e
    rw [e1]
    exact h.off.2 _ (by omega)
  · rw [e3 q e (by omega)]
    exact h.lo q h1 (by omega)
/-- One thing ahead of a rising stretch, of which all below i are below it. -/
theorem UpW.done (h : UpW key a (i - 1) l t) (hs : UpIn key l (a + 1) b) (ha : a < i) (hi : i ≤ b) (hlo : ∀ q, a < q → q < i → kA key l q < kA key l a) (hhi : ∀ q, i ≤ q → q < b → kA key l a ≤ kA key l q) : Mrg key a b l t := by
  refine ⟨h.off.wide (Nat.le_refl _) (by omega), h.st, fun p q h1 h2 h3 => ?_⟩
  have f1 : kA key t (i - 1) = kA key l a := kA_of h.at_
  have f2 : ∀ q, a ≤ q → q < i - 1 → kA key t q = kA key l (q + 1) := fun q g1 g2 => kA_of (h.lo q g1 g2)
  have f3 : ∀ q, i - 1 < q → kA key t q = kA key l q := fun q g => h.off.kk (by omega)
  by_cases p1 : p < i - 1
  · rw [f2 p h1 p1]
    by_cases q1 : q < i - 1
    · rw [f2 q (by omega) q1]; exact hs _ _ (by omega) (by omega) (by omega)
    · by_cases q2 : q = i - 1
      · subst q2; rw [f1]; exact Int.le_of_lt (hlo _ (by omega) (by omega))
      · rw [f3 q (by omega)]; exact hs _ _ (by omega) (by omega) (by omega)
  · by_cases p2 : p = i - 1
    · subst p2
      rw [f1]
      by_cases q2 : q = i - 1
      · subst q2; rw [f1]; exact Int.le_refl _
      · rw [f3 q (by omega)]; exact hhi q (by omega) h3
    · rw [f3 p (by omega), f3 q (by omega)]; exact hs _ _ (by omega) (by omega) (by omega)

/-- The last thing goes down to its place. -/
structure DnW (key : α → Int) (m k : Nat) (l t : List α) : Prop where
  le : k ≤ m
  off : Off k (m + 1) l t
  st : St key l t
  at_ : t[k]? = l[m]?
  hi : ∀ q, k < q → q ≤ m → t[q]? = l[q - 1]?
theorem DnW.start (l : List α) (m : Nat) : DnW key m m l l := ⟨Nat.le_refl _, Off.refl _ _ _, St.refl _, rfl, fun q h1 h2 => by omega⟩
theorem DnW.step {v : List α} (h : DnW key m (k + 1) l t) (hs : Swp k (k + 1) t v) (hl : m < l.length) (hk : kA key l m < kA key l k) : DnW key m k l v := by
  obtain ⟨e0, e1, e2, e3⟩ := hs
  have hle := h.le
  have f1 : kA key t (k + 1) = kA key l m := kA_of h.at_
  have f2 : kA key t k = kA key l k := h.off.kk (by omega)
  have hs : Swp k (k + 1) t v := ⟨e0, e1, e2, e3⟩
  refine ⟨by omega, (h.off.wide (by omega) (Nat.le_refl _)).trans (hs.off (Nat.le_refl _) (by omega) (by omega) (by omega)), h.st.trans (hs.st (by rw [h.off.1]; omega) (by omega)), e1.trans h.at_, fun q h1 h2 => ?_⟩
  by_cases e : q = k + 1
  · subst e
    rw [e2]
    exact h.off.2 _ (by omega)
  · rw [e3 q (by omega) e]
    exact h.hi q (by omega) h2
theorem DnW.done (h : DnW key m i l t) (hs : UpIn key l a m) (ha : a ≤ i) (hlo : ∀ q, a ≤ q → q < i → kA key l q ≤ kA key l m) (hhi : ∀ q, i ≤ q → q < m → kA key l m < kA key l q) : Mrg key a (m + 1) l t := by
  have him := h.le
  refine ⟨h.off.wide ha (Nat.le_refl _), h.st, fun p q h1 h2 h3 => ?_⟩
  have f1 : kA key t i = kA key l m := kA_of h.at_
  have f2 : ∀ q, q < i → kA key t q = kA key l q := fun q g => h.off.kk (by omega)
  have f3 : ∀ q, i < q → q ≤ m → kA key t q = kA key l (q - 1) := fun q g1 g2 => kA_of (h.hi q g1 g2)
  by_cases q1 : q < i
  · rw [f2 p (by omega), f2 q q1]; exact hs _ _ h1 h2 (by omega)
  · by_cases q2 : q = i
    · subst q2
      rw [f1]
      by_cases p2 : p = q
      · subst p2; rw [f1]; exact Int.le_refl _
      · rw [f2 p (by omega)]; exact hlo p h1 (by omega)
    · rw [f3 q (by omega) (by omega)]
      by_cases p1 : p < i
      · rw [f2 p p1]; exact hs _ _ h1 (by omega) (by omega)
      · by_cases p2 : p = i
        · subst p2; rw [f1]; exact Int.le_of_lt (hhi _ (by omega) (by omega))
        · rw [f3 p (by omega) (by omega)]; exact hs _ _ (by omega) (by omega) (by omega)

/-- Merging by halves: s is the place that was searched for, e the one that mirrors it; behind the exchange both halves are merged by themselves. -/
structure Half (key : α → Int) (a m b md s e : Nat) (l : List α) : Prop where
  sum : s + e = md + m
  lo : a ≤ s
  sm : s ≤ m
  sd : s ≤ md
  me : m ≤ e
  eb : e ≤ b
  dm : md ≤ e
  lt : s < m → m < e → kA key l (e - 1) < kA key l s
  ge : a < s → e < b → kA key l (s - 1) ≤ kA key l e
theorem Half.st {md s e : Nat} (h : Half key a m b md s e l) (hx : UpIn key l a m) (hy : UpIn key l m b) (hr : Rot s m e l t) (hb : b ≤ l.length) : St key l t :=
  hr.st h.sm h.me (Nat.le_trans h.eb hb) fun i j h1 h2 h3 h4 ee => by
    have := h.lt (by omega) (by omega)
    have := hx s i h.lo h1 h2
    have := hy j (e - 1) h3 (by omega) (by have := h.eb; omega)
    omega
/-- What the exchange makes: two rising stretches in each half, and all of the lower half are at most what the upper half has. -/
structure Four (key : α → Int) (a b md s e : Nat) (l : List α) : Prop where
  u1 : UpIn key l a s
  u2 : UpIn key l s md
  u3 : UpIn key l md e
  u4 : UpIn key l e b
  le : ∀ i j, a ≤ i → i < md → md ≤ j → j < b → kA key l i ≤ kA key l j
theorem Half.four {md s e : Nat} (h : Half key a m b md s e l) (hx : UpIn key l a m) (hy : UpIn key l m b) (hr : Rot s m e l t) : Four key a b md s e t := by
  obtain ⟨h0, h1, h2, h3, h4, h5, h6, h7, h8⟩ := h
  obtain ⟨e0, e1, e2, e3⟩ := hr
  have f1 : ∀ k, k < s ∨ e ≤ k → kA key t k = kA key l k := fun k hk => kA_of (e1 k hk)
  have f2 : ∀ k, s ≤ k → k < md → kA key t k = kA key l (k + (m - s)) := fun k g1 g2 => kA_of (e2 k g1 (by omega))
  have f3 : ∀ k, md ≤ k → k < e → kA key t k = kA key l (k - (e - m)) := fun k g1 g2 => kA_of (e3 k (by omega) g2)
  refine ⟨fun i j g1 g2 g3 => ?_, fun i j g1 g2 g3 => ?_, fun i j g1 g2 g3 => ?_, fun i j g1 g2 g3 => ?_, fun i j g1 g2 g3 g4 => ?_⟩
  · rw [f1 i (by omega), f1 j (by omega)]; exact hx _ _ g1 g2 (by omega)
  · rw [f2 i g1 (by omega), f2 j (by omega) g3]; exact hy _ _ (by omega) (by omega) (by omega)
  · rw [f3 i g1 (by omega), f3 j (by omega) g3]; exact hx _ _ (by omega) (by omega) (by omega)
  · rw [f1 i (by omega), f1 j (by omega)]; exact hy _ _ (by omega) g2 g3
  · by_cases i1 : i < s
    · rw [f1 i (by omega)]
      by_cases j1 : j < e
      · rw [f3 j g3 j1]; exact hx _ _ g1 (by omega) (by omega)
      · rw [f1 j (by omega)]
        have g5 := h8 (by omega) (by omega)
        have g6 := hx i (s - 1) g1 (by omega) (by omega)
        have g7 := hy e j (by omega) (by omega) g4
        omega
    · rw [f2 i (by omega) g2]
      by_cases j1 : j < e
      · rw [f3 j g3 j1]
        have g5 := h7 (by omega) (by omega)
        have g6 := hx s (j - (e - m)) h1 (by omega) (by omega)
        have g7 := hy (i + (m - s)) (e - 1) (by omega) (by omega) (by omega)
        omega
      · rw [f1 j (by omega)]; exact hy _ _ (by omega) (by omega) g4
/-- No exchange is wanted where there is nothing to exchange. -/
theorem Rot.none (l : List α) (h : ¬ (a < m ∧ m < b)) (h1 : a ≤ m) (h2 : m ≤ b) : Rot a m b l l :=
  ⟨rfl, fun _ _ => rfl, fun k g1 g2 => by congr 1 <;> omega, fun k g1 g2 => by congr 1 <;> omega⟩
theorem St.len (h : t.length = l.length) : t.length = l.length := h
theorem kA_mem (hk : k < l.length) : ∃ x ∈ l, kA key l k = key x := ⟨l[k], List.getElem_mem hk, kA_get hk⟩

/-- Within a stretch the keys that are there stay the same ones. -/
theorem in_keys (h : Off a b l t) (hs : St key l t) (hb : b ≤ l.length) (hk : a ≤ k) (hk2 : k < b) : ∃ q, a ≤ q ∧ q < b ∧ kA key t k = kA key l q := by
  have hl := h.1
  have p1 : l.take a = t.take a := List.ext_getElem? fun i => by
    rw [List.getElem?_take, List.getElem?_take]
    split
    · rw [h.2 i (by omega)]
    · rfl
  have p2 : l.drop b = t.drop b := List.ext_getElem? fun i => by rw [List.getElem?_drop, List.getElem?_drop, h.2 _ (by omega)]
  have hm : t[k]'(by omega) ∈ (t.drop a).take (b - a) := by
    refine List.mem_iff_getElem.2 ⟨k - a, by rw [List.length_take, List.length_drop]; omega, ?_⟩
    rw [List.getElem_take, List.getElem_drop]
    congr 1 <;> omega
  have hs2 : St key ((t.drop a).take (b - a)) ((l.drop a).take (b - a)) := fun r => by
    have h1 := hs r
    have c1 := cut3 (a := a) (m := a) (b := b) l (Nat.le_refl _) (by omega)
    have c2 := cut3 (a := a) (m := a) (b := b) t (Nat.le_refl _) (by omega)
    rw [Nat.sub_self, List.take_zero, List.nil_append] at c1 c2
    rw [c1, c2] at h1
    simp only [List.filter_append] at h1
    rw [p1, p2] at h1
    exact (List.append_cancel_right (List.append_cancel_left h1)).symm
  obtain ⟨q, hq, e⟩ := List.mem_iff_getElem.1 (hs2.mem hm)
  rw [List.length_take, List.length_drop] at hq
  rw [List.getElem_take, List.getElem_drop] at e
  refine ⟨a + q, by omega, by omega, ?_⟩
  rw [kA_get (by omega), kA_get (by omega), e]

/-- Both halves merged: all is. -/
theorem Four.done {md s e : Nat} {l1 l2 l3 : List α} (h : Four key a b md s e l1) (h1 : Off a md l1 l2) (s1 : St key l1 l2) (u1 : UpIn key l2 a md) (h2 : Off md b l2 l3) (s2 : St key l2 l3) (u2 : UpIn key l3 md b) (hb : b ≤ l1.length) (ha : a ≤ md) (hm : md ≤ b) : UpIn key l3 a b := fun i j g1 g2 g3 => by
  by_cases j1 : j < md
  · rw [h2.kk (by omega), h2.kk (by omega)]; exact u1 i j g1 g2 j1
  · by_cases i1 : i < md
    · obtain ⟨p, p1, p2, p3⟩ := in_keys h1 s1 (by omega) g1 i1
      obtain ⟨q, q1, q2, q3⟩ := in_keys h2 s2 (by rw [h1.1]; omega) (show md ≤ j by omega) g3
      rw [h2.kk (by omega), p3, q3, h1.kk (by omega)]
      exact h.le p q p1 p2 q1 q2
    · exact u2 i j (by omega) g2 g3

/-- All stretches of so many are rising. -/
def Ch (key : α → Int) (bs : Nat) (l : List α) : Prop := ∀ s, UpIn key l (s * bs) (min (s * bs + bs) l.length)
theorem Ch.up {bs : Nat} (h : Ch key bs l) (hb : l.length ≤ bs) : Up key l := by
  have := h 0
  rw [Nat.zero_mul, Nat.zero_add, Nat.min_eq_right hb] at this
  exact this.up (Nat.le_refl _)
/-- The first so many great stretches are rising, and small ones behind them. -/
structure Two (key : α → Int) (bs t : Nat) (l : List α) : Prop where
  big : ∀ s, s < t → UpIn key l (s * (2 * bs)) (s * (2 * bs) + 2 * bs)
  sml : ∀ s, t * 2 ≤ s → UpIn key l (s * bs) (min (s * bs + bs) l.length)
theorem Ch.two {bs : Nat} (h : Ch key bs l) : Two key bs 0 l := ⟨fun s hs => by omega, fun s _ => h s⟩
theorem dbl (t bs : Nat) : t * (2 * bs) = t * 2 * bs := by rw [Nat.mul_assoc]
theorem Two.lo {bs n : Nat} (h : Two key bs n l) (hb : n * (2 * bs) + bs ≤ l.length) : UpIn key l (n * (2 * bs)) (n * (2 * bs) + bs) := by
  have := h.sml (n * 2) (Nat.le_refl _)
  rw [← dbl, Nat.min_eq_left hb] at this
  exact this
theorem Two.hi {bs n : Nat} (h : Two key bs n l) : UpIn key l (n * (2 * bs) + bs) (min (n * (2 * bs) + 2 * bs) l.length) := by
  have := h.sml (n * 2 + 1) (by omega)
  rw [Nat.succ_mul, ← dbl, show n * (2 * bs) + bs + bs = n * (2 * bs) + 2 * bs by omega] at this
  exact this
theorem mul_le {a b : Nat} (c : Nat) (h : a ≤ b) : a * c ≤ b * c := Nat.mul_le_mul_right c h
theorem Two.step {bs n : Nat} (h : Two key bs n l) (hm : Mrg key (n * (2 * bs)) (n * (2 * bs) + 2 * bs) l t) (hb : n * (2 * bs) + 2 * bs ≤ l.length) : Two key bs (n + 1) t := by
  refine ⟨fun s hs => ?_, fun s hs => ?_⟩
  · by_cases e : s = n
    · subst e; exact hm.up
    · refine (h.big s (by omega)).off hm.off (.inl ?_)
      have := mul_le (2 * bs) (show s + 1 ≤ n by omega)
      rw [Nat.succ_mul] at this
      exact this
  · rw [hm.off.1]
    refine (h.sml s (by omega)).off hm.off (.inr ?_)
    have := mul_le bs hs
    rw [← dbl, Nat.succ_mul] at this
    exact this
theorem Two.done {bs n : Nat} (h : Two key bs n l) (hm : Mrg key (n * (2 * bs)) l.length l t) (hb : l.length < n * (2 * bs) + 2 * bs) : Ch key (2 * bs) t := fun s => by
  rw [hm.off.1]
  by_cases e : s < n
  · have h1 := mul_le (2 * bs) (show s + 1 ≤ n by omega)
    rw [Nat.succ_mul] at h1
    exact ((h.big s e).off hm.off (.inl h1)).sub (Nat.le_refl _) (Nat.min_le_left _ _)
  · by_cases e2 : s = n
    · subst e2; exact hm.up.sub (Nat.le_refl _) (Nat.min_le_right _ _)
    · have h1 := mul_le (2 * bs) (show n + 1 ≤ s by omega)
      rw [Nat.succ_mul] at h1
      exact UpIn.one _ (by omega)
/-- Nothing behind the last small stretch: it is what it was. -/
theorem Two.last {bs n : Nat} (h : Two key bs n l) (hb : l.length ≤ n * (2 * bs) + bs) : UpIn key l (n * (2 * bs)) l.length := by
  have := h.sml (n * 2) (Nat.le_refl _)
  rw [← dbl, Nat.min_eq_right hb] at this
  exact this
/-- The first so many stretches are rising. -/
theorem ch_of {n bs : Nat} (h : ∀ s, s < n → UpIn key l (s * bs) (s * bs + bs)) (hl : UpIn key l (n * bs) l.length) (hb : l.length ≤ n * bs + bs) : Ch key bs l := fun s => by
  by_cases e : s < n
  · exact (h s e).sub (Nat.le_refl _) (Nat.min_le_left _ _)
  · by_cases e2 : s = n
    · subst e2; exact hl.sub (Nat.le_refl _) (Nat.min_le_right _ _)
    · have h1 := mul_le bs (show n + 1 ≤ s by omega)
      rw [Nat.succ_mul] at h1
      exact UpIn.one _ (by omega)

/-- Exchanging stretches of one length, step by step. -/
structure Swr (a b n k : Nat) (l t : List α) : Prop where
  len : t.length = l.length
  lo : ∀ q, a ≤ q → q < a + k → t[q]? = l[q - a + b]?
  hi : ∀ q, b ≤ q → q < b + k → t[q]? = l[q - b + a]?
  off : ∀ q, ¬ (a ≤ q ∧ q < a + k) → ¬ (b ≤ q ∧ q < b + k) → t[q]? = l[q]?
theorem Swr.start (a b n : Nat) (l : List α) : Swr a b n 0 l l := ⟨rfl, fun q h1 h2 => by omega, fun q h1 h2 => by omega, fun _ _ _ => rfl⟩
theorem Swr.step {n : Nat} {v : List α} (h : Swr a b n k l t) (hs : Swp (a + k) (b + k) t v) (hk : k < n) (hab : a + n ≤ b) : Swr a b n (k + 1) l v := by
  obtain ⟨e0, e1, e2, e3⟩ := hs
  refine ⟨e0.trans h.len, fun q h1 h2 => ?_, fun q h1 h2 => ?_, fun q h1 h2 => ?_⟩
  · by_cases e : q = a + k
    · subst e
      rw [e1, h.off _ (by omega) (by omega)]
      congr 1 <;> omega
    · rw [e3 q e (by omega)]; exact h.lo q h1 (by omega)
  · by_cases e : q = b + k
    · subst e
      rw [e2, h.off _ (by omega) (by omega)]
      congr 1 <;> omega
    · rw [e3 q (by omega) e]; exact h.hi q h1 (by omega)
  · rw [e3 q (by omega) (by omega)]; exact h.off q (by omega) (by omega)
/-- What is left to exchange: a stretch of i ahead of m, one of j from m on. -/
structure Rtg (a m b i j : Nat) (l t : List α) : Prop where
  ip : 0 < i
  jp : 0 < j
  ai : a + i ≤ m
  jb : m + j ≤ b
  go : ∀ u, Rot (m - i) m (m + j) t u → Rot a m b l u
theorem Rtg.start (l : List α) (h1 : a < m) (h2 : m < b) : Rtg a m b (m - a) (b - m) l l :=
  ⟨by omega, by omega, by omega, by omega, fun u h => by rw [show m - (m - a) = a by omega, show m + (b - m) = b by omega] at h; exact h⟩
theorem Rtg.left {v : List α} (h : Rtg a m b i j l t) (hs : Swr (m - i) m j j t v) (hij : j < i) : Rtg a m b (i - j) j l v := by
  obtain ⟨h1, h2, h3, h4, h5⟩ := h
  obtain ⟨s1, s2, s3, s4⟩ := hs
  refine ⟨by omega, h2, by omega, h4, fun u hu => h5 u ?_⟩
  obtain ⟨r1, r2, r3, r4⟩ := hu
  refine ⟨r1.trans s1, fun k hk => ?_, fun k k1 k2 => ?_, fun k k1 k2 => ?_⟩
  · rw [r2 k (by omega), s4 k (by omega) (by omega)]
  · rw [r2 k (by omega), s2 k (by omega) (by omega)]
    congr 1 <;> omega
  · by_cases k3 : k < m - (i - j) + j
    · rw [r3 k (by omega) (by omega), s3 _ (by omega) (by omega)]
      congr 1 <;> omega
    · rw [r4 k (by omega) (by omega), s4 _ (by omega) (by omega)]
theorem Rtg.right {v : List α} (h : Rtg a m b i j l t) (hs : Swr (m - i) (m + j - i) i i t v) (hij : i < j) : Rtg a m b i (j - i) l v := by
  obtain ⟨h1, h2, h3, h4, h5⟩ := h
  obtain ⟨s1, s2, s3, s4⟩ := hs
  refine ⟨h1, by omega, h3, by omega, fun u hu => h5 u ?_⟩
  obtain ⟨r1, r2, r3, r4⟩ := hu
  refine ⟨r1.trans s1, fun k hk => ?_, fun k k1 k2 => ?_, fun k k1 k2 => ?_⟩
  · rw [r2 k (by omega), s4 k (by omega) (by omega)]
  · by_cases k3 : k < m - i + (j - i)
    · rw [r3 k (by omega) (by omega), s4 _ (by omega) (by omega)]
    · rw [r4 k (by omega) (by omega), s2 _ (by omega) (by omega)]
      congr 1 <;> omega
  · rw [r2 k (by omega), s3 _ (by omega) (by omega)]
    congr 1 <;> omega
theorem Rtg.done {v : List α} (h : Rtg a m b i i l t) (hs : Swr (m - i) m i i t v) : Rot a m b l v := by
  obtain ⟨h1, h2, h3, h4, h5⟩ := h
  obtain ⟨s1, s2, s3, s4⟩ := hs
  refine h5 v ⟨s1, fun k hk => s4 k (by omega) (by omega), fun k k1 k2 => ?_, fun k k1 k2 => ?_⟩
  · rw [s2 k (by omega) (by omega)]; congr 1 <;> omega
  · rw [s3 k (by omega) (by omega)]; congr 1 <;> omega
end
end Sor
end Go.Proofs.Ytcoddkbbgmjckaa
