/- The document's number, Right, Hard, Snap, each by its contract. -/
import Derived.Test.YtipggjmndlaehaaEntMath
import Derived.Test.YtipggjmndlaehaaBytArgs
import Derived.BigQuiet
import Derived.Lib.Hide
namespace Go.Proofs.Ytipggjmndlaehaa
open Go.RowKit
set_option linter.unusedVariables false
set_option linter.unusedSimpArgs false

abbrev entV (i t : Int) (A : Option Addr) (n c : Nat) : Value := .agg #[.int .i64 i, .int .i64 t, .slice A n c]

theorem le_lit (n m : Nat) (z : Int) (h : z = (m : Int)) : decide ((n : Int) ≤ z) = decide (n ≤ m) := by
  subst h
  apply Bool.eq_iff_iff.2
  simp

theorem eq_zero (n : Nat) : ((n : Int) == 0) = decide (n = 0) := by
  apply Bool.eq_iff_iff.2
  simp

theorem numR_is (n : Int) (w : World) : Calls Try.prog 39 #[.int .i64 n] w fun e w' => e = .returned (.bool (numB n)) ∧ w = w' := by
  unfold numB
  by_cases h1 : 1 ≤ n
  · have e1 : decide (1 ≤ n) = true := decide_eq_true h1
    rw [e1, Bool.true_and]
    go_enter Try.func39, Try.ntmps39
    go_wp2
    go_ret
    exact ⟨rfl, rfl⟩
  · have e1 : decide (1 ≤ n) = false := decide_eq_false h1
    have e2 : (1 ≤ n) = False := eq_false h1
    rw [e1, Bool.false_and]
    clear h1
    go_enter Try.func39, Try.ntmps39
    go_wp2
    go_ret
    exact ⟨rfl, rfl⟩

theorem rightR_is (i t : Int) (A : Option Addr) (n c : Nat) (w : World) : Calls Try.prog 10 #[entV i t A n c] w fun e w' => e = .returned (.bool (rightB i t n)) ∧ Below w.heap.size w w' := by
  have hi := fun W => numR_is i W
  have ht := fun W => numR_is t W
  have hb : Below w.heap.size w (w.alloc (.cells #[.int .i64 i, .int .i64 t, .slice A n c] 31)) := (Below.refl _ _).alloc (Nat.le_refl _) _
  unfold rightB
  generalize numB i = bi at *
  generalize numB t = bt at *
  cases bi with
  | false =>
    go_enter Try.func10, Try.ntmps10
    go_wp2_with fail
    refine (hi _).mono ?_
    rintro e w1 ⟨rfl, rfl⟩
    go_wp2
    go_ret
    exact ⟨rfl, hb⟩
  | true =>
    cases bt with
    | false =>
      go_enter Try.func10, Try.ntmps10
      go_wp2_with fail
      refine (hi _).mono ?_
      rintro e w1 ⟨rfl, rfl⟩
      go_wp2_with fail
      refine (ht _).mono ?_
      rintro e w1 ⟨rfl, rfl⟩
      go_wp2
      go_ret
      exact ⟨rfl, hb⟩
    | true =>
      go_enter Try.func10, Try.ntmps10
      go_wp2_with fail
      refine (hi _).mono ?_
      rintro e w1 ⟨rfl, rfl⟩
      go_wp2_with fail
      refine (ht _).mono ?_
      rintro e w1 ⟨rfl, rfl⟩
      go_wp2
      go_ret
      refine ⟨?_, hb⟩
      show Ending.returned (.bool (decide ((n : Int) ≤ 12000))) = _
      rw [le_lit n 12000 12000 rfl]
      rfl

theorem hardR_is (t v : Int) (w : World) : Calls Try.prog 14 #[.agg #[.int .i64 t, .int .i64 v]] w fun e w' => e = .returned (.bool (hardB t v)) ∧ Below w.heap.size w w' := by
  have hb : Below w.heap.size w (w.alloc (.cells #[.int .i64 t, .int .i64 v] 24)) := (Below.refl _ _).alloc (Nat.le_refl _) _
  unfold hardB
  by_cases h1 : 0 ≤ t
  · rw [decide_eq_true h1, Bool.true_and]
    by_cases h2 : t ≤ 1099511627776
    · rw [decide_eq_true h2, Bool.true_and]
      by_cases h3 : -1 ≤ v
      · rw [decide_eq_true h3, Bool.true_and]
        go_enter Try.func14, Try.ntmps14
        go_wp2
        go_ret
        exact ⟨rfl, hb⟩
      · have e1 : decide (-1 ≤ v) = false := decide_eq_false h3
        have e2 : (-1 ≤ v) = False := eq_false h3
        rw [e1, Bool.false_and]
        clear h3
        go_enter Try.func14, Try.ntmps14
        go_wp2
        go_ret
        exact ⟨rfl, hb⟩
    · have e1 : decide (t ≤ 1099511627776) = false := decide_eq_false h2
      have e2 : (t ≤ 1099511627776) = False := eq_false h2
      rw [e1, Bool.false_and]
      clear h2
      go_enter Try.func14, Try.ntmps14
      go_wp2
      go_ret
      exact ⟨rfl, hb⟩
  · have e1 : decide (0 ≤ t) = false := decide_eq_false h1
    have e2 : (0 ≤ t) = False := eq_false h1
    rw [e1, Bool.false_and]
    clear h1
    go_enter Try.func14, Try.ntmps14
    go_wp2
    go_ret
    exact ⟨rfl, hb⟩

theorem snapR_is (i t : Int) (A : Option Addr) (n c : Nat) (w : World) : Calls Try.prog 16 #[entV i t A n c] w fun e w' => e = .returned (.bool (snapB i t n)) ∧ Below w.heap.size w w' := by
  have hi := fun W => numR_is i W
  have ht := fun W => numR_is t W
  have hb : Below w.heap.size w (w.alloc (.cells #[.int .i64 i, .int .i64 t, .slice A n c] 27)) := (Below.refl _ _).alloc (Nat.le_refl _) _
  unfold snapB
  by_cases h0 : i = 0 ∧ t = 0
  · rw [if_pos h0]
    obtain ⟨rfl, rfl⟩ := h0
    clear hi ht
    go_enter Try.func16, Try.ntmps16
    go_wp2
    go_ret
    refine ⟨?_, hb⟩
    show Ending.returned (.bool ((n : Int) == 0)) = _
    rw [eq_zero]
  · rw [if_neg h0]
    generalize numB i = bi at *
    generalize numB t = bt at *
    have hif : (i == 0) = false ∨ (i = 0 ∧ (t == 0) = false ∧ (t = 0) = False) := by
      by_cases h : i = 0
      · refine .inr ⟨h, ?_, eq_false fun e => h0 ⟨h, e⟩⟩
        exact beq_eq_false_iff_ne.2 fun e => h0 ⟨h, e⟩
      · exact .inl (beq_eq_false_iff_ne.2 h)
    clear h0
    rcases hif with hif | ⟨rfl, htf, htf2⟩
    all_goals
      cases bi
      · go_enter Try.func16, Try.ntmps16
        go_wp2_with fail
        refine (hi _).mono ?_
        rintro e w1 ⟨rfl, rfl⟩
        go_wp2
        go_ret
        exact ⟨rfl, hb⟩
      · cases bt
        · go_enter Try.func16, Try.ntmps16
          go_wp2_with fail
          refine (hi _).mono ?_
          rintro e w1 ⟨rfl, rfl⟩
          go_wp2_with fail
          refine (ht _).mono ?_
          rintro e w1 ⟨rfl, rfl⟩
          go_wp2
          go_ret
          exact ⟨rfl, hb⟩
        · go_enter Try.func16, Try.ntmps16
          go_wp2_with fail
          refine (hi _).mono ?_
          rintro e w1 ⟨rfl, rfl⟩
          go_wp2_with fail
          refine (ht _).mono ?_
          rintro e w1 ⟨rfl, rfl⟩
          go_wp2
          go_ret
          refine ⟨?_, hb⟩
          show Ending.returned (.bool (decide ((n : Int) ≤ 50000))) = _
          rw [le_lit n 50000 50000 rfl]
          rfl

end Go.Proofs.Ytipggjmndlaehaa
