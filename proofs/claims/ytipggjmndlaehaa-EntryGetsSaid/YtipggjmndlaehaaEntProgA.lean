/- The program's placed, Right, RightHard, RightSnap, each by its contract. -/
import Derived.Test.YtipggjmndlaehaaEntRefA
namespace Go.Proofs.Ytipggjmndlaehaa
open Go.RowKit
set_option linter.unusedVariables false
set_option linter.unusedSimpArgs false

def placedB (i t : Int) : Bool := numB i && numB t

theorem rightB_placed (i t : Int) (n : Nat) : rightB i t n = (placedB i t && decide (n ≤ 12000)) := rfl

theorem placed_is (i t : Int) (w : World) : Calls Try.prog 38 #[.int .i64 i, .int .i64 t] w fun e w' => e = .returned (.bool (placedB i t)) ∧ w = w' := by
  unfold placedB numB
  by_cases h1 : 1 ≤ i
  · rw [decide_eq_true h1, Bool.true_and]
    by_cases h2 : i ≤ 1099511627776
    · rw [decide_eq_true h2, Bool.true_and]
      by_cases h3 : 1 ≤ t
      · rw [decide_eq_true h3, Bool.true_and]
        go_enter Try.func38, Try.ntmps38
        go_wp2
        go_ret
        exact ⟨rfl, rfl⟩
      · have e1 : decide (1 ≤ t) = false := decide_eq_false h3
        have e2 : (1 ≤ t) = False := eq_false h3
        rw [e1, Bool.false_and]
        clear h3
        go_enter Try.func38, Try.ntmps38
        go_wp2
        go_ret
        exact ⟨rfl, rfl⟩
    · have e1 : decide (i ≤ 1099511627776) = false := decide_eq_false h2
      have e2 : (i ≤ 1099511627776) = False := eq_false h2
      rw [e1, Bool.false_and]
      clear h2
      go_enter Try.func38, Try.ntmps38
      go_wp2
      go_ret
      exact ⟨rfl, rfl⟩
  · have e1 : decide (1 ≤ i) = false := decide_eq_false h1
    have e2 : (1 ≤ i) = False := eq_false h1
    rw [e1, Bool.false_and, Bool.false_and]
    clear h1
    go_enter Try.func38, Try.ntmps38
    go_wp2
    go_ret
    exact ⟨rfl, rfl⟩

theorem rightP_is (i t : Int) (A : Option Addr) (n c : Nat) (w : World) : Calls Try.prog 9 #[entV i t A n c] w fun e w' => e = .returned (.bool (rightB i t n)) ∧ Below w.heap.size w w' := by
  have hi := fun W => placed_is i t W
  have hb : Below w.heap.size w (w.alloc (.cells #[.int .i64 i, .int .i64 t, .slice A n c] 31)) := (Below.refl _ _).alloc (Nat.le_refl _) _
  rw [rightB_placed]
  generalize placedB i t = bi at *
  cases bi with
  | false =>
    go_enter Try.func9, Try.ntmps9
    go_wp2_with fail
    refine (hi _).mono ?_
    rintro e w1 ⟨rfl, rfl⟩
    go_wp2
    go_ret
    exact ⟨rfl, hb⟩
  | true =>
    go_enter Try.func9, Try.ntmps9
    go_wp2_with fail
    refine (hi _).mono ?_
    rintro e w1 ⟨rfl, rfl⟩
    go_wp2
    go_ret
    refine ⟨?_, hb⟩
    show Ending.returned (.bool (decide ((n : Int) ≤ 12000))) = _
    rw [le_lit n 12000 12000 rfl]
    rfl

theorem hardP_is (t v : Int) (w : World) : Calls Try.prog 13 #[.agg #[.int .i64 t, .int .i64 v]] w fun e w' => e = .returned (.bool (hardB t v)) ∧ Below w.heap.size w w' := by
  have hb : Below w.heap.size w (w.alloc (.cells #[.int .i64 t, .int .i64 v] 24)) := (Below.refl _ _).alloc (Nat.le_refl _) _
  unfold hardB
  have hv : decide (v ≤ 2) = decide (v < 3) := by
    apply Bool.eq_iff_iff.2
    simp
    omega
  rw [hv]
  clear hv
  by_cases h1 : 0 ≤ t
  · rw [decide_eq_true h1, Bool.true_and]
    by_cases h2 : t ≤ 1099511627776
    · rw [decide_eq_true h2, Bool.true_and]
      by_cases h3 : -1 ≤ v
      · rw [decide_eq_true h3, Bool.true_and]
        go_enter Try.func13, Try.ntmps13
        go_wp2
        go_ret
        exact ⟨rfl, hb⟩
      · have e1 : decide (-1 ≤ v) = false := decide_eq_false h3
        have e2 : (-1 ≤ v) = False := eq_false h3
        rw [e1, Bool.false_and]
        clear h3
        go_enter Try.func13, Try.ntmps13
        go_wp2
        go_ret
        exact ⟨rfl, hb⟩
    · have e1 : decide (t ≤ 1099511627776) = false := decide_eq_false h2
      have e2 : (t ≤ 1099511627776) = False := eq_false h2
      rw [e1, Bool.false_and]
      clear h2
      go_enter Try.func13, Try.ntmps13
      go_wp2
      go_ret
      exact ⟨rfl, hb⟩
  · have e1 : decide (0 ≤ t) = false := decide_eq_false h1
    have e2 : (0 ≤ t) = False := eq_false h1
    rw [e1, Bool.false_and]
    clear h1
    go_enter Try.func13, Try.ntmps13
    go_wp2
    go_ret
    exact ⟨rfl, hb⟩

theorem snapP_is (i t : Int) (A : Option Addr) (n c : Nat) (w : World) : Calls Try.prog 15 #[entV i t A n c] w fun e w' => e = .returned (.bool (snapB i t n)) ∧ Below w.heap.size w w' := by
  have hi := fun W => placed_is i t W
  have hb : Below w.heap.size w (w.alloc (.cells #[.int .i64 i, .int .i64 t, .slice A n c] 27)) := (Below.refl _ _).alloc (Nat.le_refl _) _
  have hs : snapB i t n = if i = 0 ∧ t = 0 then decide (n = 0) else placedB i t && decide (n ≤ 50000) := rfl
  rw [hs]
  clear hs
  by_cases h0 : i = 0 ∧ t = 0
  · rw [if_pos h0]
    obtain ⟨rfl, rfl⟩ := h0
    clear hi
    go_enter Try.func15, Try.ntmps15
    go_wp2
    go_ret
    refine ⟨?_, hb⟩
    show Ending.returned (.bool ((n : Int) == 0)) = _
    rw [eq_zero]
  · rw [if_neg h0]
    generalize placedB i t = bi at *
    have hif : (i == 0) = false ∨ (i = 0 ∧ (t == 0) = false ∧ (t = 0) = False) := by
      by_cases h : i = 0
      · refine .inr ⟨h, ?_, eq_false fun e => h0 ⟨h, e⟩⟩
        exact beq_eq_false_iff_ne.2 fun e => h0 ⟨h, e⟩
      · exact .inl (beq_eq_false_iff_ne.2 h)
    clear h0
    rcases hif with hif | ⟨rfl, htf, htf2⟩
    all_goals
      cases bi
      · go_enter Try.func15, Try.ntmps15
        go_wp2_with fail
        refine (hi _).mono ?_
        rintro e w1 ⟨rfl, rfl⟩
        go_wp2
        go_ret
        exact ⟨rfl, hb⟩
      · go_enter Try.func15, Try.ntmps15
        go_wp2_with fail
        refine (hi _).mono ?_
        rintro e w1 ⟨rfl, rfl⟩
        go_wp2
        go_ret
        refine ⟨?_, hb⟩
        show Ending.returned (.bool (decide ((n : Int) ≤ 50000))) = _
        rw [le_lit n 50000 50000 rfl]
        rfl

end Go.Proofs.Ytipggjmndlaehaa
