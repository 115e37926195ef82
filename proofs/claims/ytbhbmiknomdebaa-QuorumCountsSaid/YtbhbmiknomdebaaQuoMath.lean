/- More than half: what is reached. Plain mathematics. -/
import Derived.WalkKit
namespace Go.Proofs.Ytbhbmiknomdebaa
set_option linter.unusedVariables false
set_option linter.unusedSimpArgs false

/-- How many aren't below. -/
def cnt (l : List Int) (x : Int) : Nat := l.countP fun y => decide (x ≤ y)

/-- What one more of them makes of the greatest so far. -/
def stepQ (l : List Int) (s : Option Int) (x : Int) : Option Int := if l.length / 2 < cnt l x ∧ (∀ b, s = some b → b < x) then some x else s

def reachO (l : List Int) (k : Nat) : Option Int := (l.take k).foldl (stepQ l) none
def reach (l : List Int) : Int := (reachO l l.length).getD 0

theorem reachO_succ {l : List Int} {k : Nat} (hk : k < l.length) : reachO l (k + 1) = stepQ l (reachO l k) l[k] := by
  unfold reachO
  rw [List.take_succ_eq_append_getElem hk, List.foldl_append]
  rfl

/-- What is so of the greatest so far. -/
def Best (l m : List Int) (s : Option Int) : Prop := (∀ b, s = some b → b ∈ m ∧ l.length / 2 < cnt l b ∧ ∀ x ∈ m, l.length / 2 < cnt l x → x ≤ b) ∧ (s = none → ∀ x ∈ m, ¬ l.length / 2 < cnt l x)

theorem best_step {l m : List Int} {s : Option Int} (h : Best l m s) (x : Int) : Best l (m ++ [x]) (stepQ l s x) := by
  unfold stepQ
  by_cases hx : l.length / 2 < cnt l x ∧ (∀ b, s = some b → b < x)
  · rw [if_pos hx]
    refine ⟨fun b hb => ?_, fun e => by cases e⟩
    injection hb with hb
    subst hb
    refine ⟨by simp, hx.1, fun y hy hc => ?_⟩
    rcases List.mem_append.1 hy with hy | hy
    · cases hs : s with
      | none => exact absurd hc (h.2 hs y hy)
      | some b =>
        have h1 := (h.1 b hs).2.2 y hy hc
        have h2 := hx.2 b hs
        omega
    · rw [List.mem_singleton.1 hy]; omega
  · rw [if_neg hx]
    refine ⟨fun b hb => ?_, fun e => ?_⟩
    · obtain ⟨h1, h2, h3⟩ := h.1 b hb
      refine ⟨List.mem_append_left _ h1, h2, fun y hy hc => ?_⟩
      rcases List.mem_append.1 hy with hy | hy
      · exact h3 y hy hc
      · rw [List.mem_singleton.1 hy] at hc ⊢
        rcases Int.lt_or_le b x with h4 | h4
        · exact absurd ⟨hc, fun b' hb' => by rw [hb] at hb'; injection hb' with hb'; rw [← hb']; exact h4⟩ hx
        · exact h4
    · intro y hy
      rcases List.mem_append.1 hy with hy | hy
      · exact h.2 e y hy
      · rw [List.mem_singleton.1 hy]
        intro hc
        exact hx ⟨hc, fun b' hb' => by rw [e] at hb'; cases hb'⟩

theorem best_all (l : List Int) : ∀ k, k ≤ l.length → Best l (l.take k) (reachO l k)
  | 0, _ => ⟨fun b hb => by simp [reachO] at hb, fun _ x hx => by simp at hx⟩
  | k + 1, hk => by
    rw [reachO_succ (by omega), List.take_succ_eq_append_getElem (by omega)]
    exact best_step (best_all l k (by omega)) _

/-- The least one isn't above any. -/
theorem least (l : List Int) (h : 0 < l.length) : ∃ x ∈ l, ∀ y ∈ l, x ≤ y := by
  induction l with
  | nil => simp at h
  | cons a l ih =>
    rcases Nat.eq_zero_or_pos l.length with h0 | h0
    · rw [List.eq_nil_of_length_eq_zero h0]
      exact ⟨a, by simp, fun y hy => by rw [List.mem_singleton.1 hy]; omega⟩
    · obtain ⟨x, hx, hall⟩ := ih h0
      rcases Int.lt_or_le a x with h1 | h1
      · exact ⟨a, by simp, fun y hy => by
          rcases List.mem_cons.1 hy with rfl | hy
          · omega
          · have := hall y hy; omega⟩
      · exact ⟨x, List.mem_cons_of_mem _ hx, fun y hy => by
          rcases List.mem_cons.1 hy with rfl | hy
          · exact h1
          · exact hall y hy⟩

theorem cnt_all {l : List Int} {x : Int} (h : ∀ y ∈ l, x ≤ y) : cnt l x = l.length := by
  unfold cnt
  rw [List.countP_eq_length]
  exact fun y hy => decide_eq_true (h y hy)

/-- What is reached is the greatest that more than half aren't below. -/
theorem reach_is {l : List Int} (h : 0 < l.length) : reach l ∈ l ∧ l.length / 2 < cnt l (reach l) ∧ ∀ x ∈ l, l.length / 2 < cnt l x → x ≤ reach l := by
  have hb := best_all l l.length (Nat.le_refl _)
  rw [List.take_length] at hb
  unfold reach
  cases hr : reachO l l.length with
  | none =>
    obtain ⟨x, hx, hall⟩ := least l h
    have := hb.2 hr x hx
    rw [cnt_all hall] at this
    omega
  | some b => exact hb.1 b hr

theorem reach_nil : reach [] = 0 := rfl

theorem reach_of {l : List Int} (h : 0 < l.length) {v : Int} (h1 : v ∈ l) (h2 : l.length / 2 < cnt l v) (h3 : ∀ x ∈ l, l.length / 2 < cnt l x → x ≤ v) : reach l = v := by
  obtain ⟨a, b, c⟩ := reach_is h
  have := c v h1 h2
  have := h3 _ a b
  omega

theorem cnt_perm {l m : List Int} (h : l.Perm m) (x : Int) : cnt l x = cnt m x := h.countP_eq _

theorem cnt_parts (l : List Int) (k : Nat) (x : Int) : cnt l x = cnt (l.take k) x + cnt (l.drop k) x := by
  unfold cnt
  rw [← List.countP_append, List.take_append_drop]

/-- In order, it is the one in the middle. -/
theorem reach_sorted {l s : List Int} (hp : s.Perm l) (hs : s.Pairwise fun a b => a ≤ b) (h : 0 < l.length) {m : Nat} (hm : m = (l.length - 1) / 2) (hml : m < s.length) : reach l = s[m] := by
  have hle := hp.length_eq
  have hsplit : s = s.take m ++ s[m] :: s.drop (m + 1) := by rw [← List.drop_eq_getElem_cons hml, List.take_append_drop]
  have hup : ∀ y ∈ s.drop m, s[m] ≤ y := by
    rw [List.drop_eq_getElem_cons hml]
    intro y hy
    rcases List.mem_cons.1 hy with rfl | hy
    · omega
    · have hs' := hs
      rw [hsplit] at hs'
      exact (List.pairwise_cons.1 (List.pairwise_append.1 hs').2.1).1 y hy
  refine reach_of h (hp.mem_iff.1 (List.getElem_mem hml)) ?_ fun x hx hc => ?_
  · rw [← cnt_perm hp]
    rw [cnt_parts s m, cnt_all hup, List.length_drop]
    omega
  · rcases Int.lt_or_le s[m] x with h1 | h1
    · exfalso
      rw [← cnt_perm hp] at hc
      have e := cnt_parts s (m + 1) x
      have e0 : cnt (s.take (m + 1)) x = 0 := by
        unfold cnt
        rw [List.countP_eq_zero]
        intro y hy
        rw [List.take_succ_eq_append_getElem hml] at hy
        simp only [decide_eq_true_eq]
        rcases List.mem_append.1 hy with hy | hy
        · have hs' := hs
          rw [hsplit] at hs'
          have := (List.pairwise_append.1 hs').2.2 y hy s[m] (List.mem_cons_self ..)
          omega
        · rw [List.mem_singleton.1 hy]; omega
      have e1 : cnt (s.drop (m + 1)) x ≤ (s.drop (m + 1)).length := List.countP_le_length
      rw [List.length_drop] at e1
      omega
    · exact h1

theorem cnt_set {l : List Int} {k : Nat} (hk : k < l.length) {y : Int} (hy : l[k] ≤ y) (x : Int) : cnt l x ≤ cnt (l.set k y) x := by
  have e : l = l.take k ++ l[k] :: l.drop (k + 1) := by rw [← List.drop_eq_getElem_cons hk, List.take_append_drop]
  have e2 : l.set k y = l.take k ++ y :: l.drop (k + 1) := List.set_eq_take_append_cons_drop .. |>.trans (by rw [if_pos hk])
  have h1 : cnt l x = cnt (l.take k) x + cnt (l[k] :: l.drop (k + 1)) x := by
    unfold cnt
    rw [← List.countP_append, ← e]
  rw [h1, e2]
  unfold cnt
  rw [List.countP_append, List.countP_cons, List.countP_cons]
  have : (if (decide (x ≤ l[k])) = true then 1 else 0) ≤ (if (decide (x ≤ y)) = true then 1 else 0) := by
    by_cases h : x ≤ l[k]
    · rw [if_pos (decide_eq_true h), if_pos (decide_eq_true (show x ≤ y by omega))]; exact Nat.le_refl _
    · rw [if_neg (by simpa using h)]; exact Nat.zero_le _
  omega

/-- Of those that more than half aren't below there is one among them. -/
theorem above {l : List Int} {v : Int} (h : l.length / 2 < cnt l v) : ∃ y ∈ l, v ≤ y ∧ l.length / 2 < cnt l y := by
  have hp : 0 < (l.filter fun y => decide (v ≤ y)).length := by
    rw [← List.countP_eq_length_filter]
    have : cnt l v = l.countP fun y => decide (v ≤ y) := rfl
    omega
  obtain ⟨y, hy, hall⟩ := least _ hp
  obtain ⟨h1, h2⟩ := List.mem_filter.1 hy
  refine ⟨y, h1, by simpa using h2, ?_⟩
  have : cnt l v ≤ cnt l y := by
    unfold cnt
    refine List.countP_mono_left fun z hz hv => decide_eq_true (hall z (List.mem_filter.2 ⟨hz, hv⟩))
  omega

/-- More of one can't change it but upwards. -/
theorem reach_more {l : List Int} {k : Nat} (hk : k < l.length) {y : Int} (hy : l[k] ≤ y) : reach l ≤ reach (l.set k y) := by
  obtain ⟨a, b, c⟩ := reach_is (l := l) (by omega)
  obtain ⟨a', b', c'⟩ := reach_is (l := l.set k y) (by simp; omega)
  have h1 := cnt_set hk hy (reach l)
  have hl : (l.set k y).length = l.length := List.length_set
  obtain ⟨z, hz, h2, h3⟩ := above (l := l.set k y) (v := reach l) (by rw [hl]; omega)
  have := c' z hz h3
  omega

/- counts -/
def wonB (k n : Int) : Bool := decide (1 ≤ n) && (decide (0 ≤ k) && (decide (k ≤ n) && decide (n - k < k)))
def lostB (k n : Int) : Bool := decide (1 ≤ n) && (decide (0 ≤ k) && (decide (k ≤ n) && decide (n - k ≤ k)))

theorem never_both (yes no n : Int) (h1 : wonB yes n = true) (h2 : lostB no n = true) : n - yes < no := by
  simp only [wonB, lostB, Bool.and_eq_true, decide_eq_true_eq] at h1 h2
  omega

end Go.Proofs.Ytbhbmiknomdebaa
