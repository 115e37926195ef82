/- The document's number, Right, Hard, Snap, each by its contract. -/
import Derived.Test.YtlanjlboipnpfaaEntMath
import Derived.Test.YtlanjlboipnpfaaBytArgs
import Derived.BigQuiet
import Derived.Lib.Hide
namespace Go.Proofs.Ytlanjlboipnpfaa
open Go.RowKit
set_option linter.unusedVariables false
set_option linter.unusedSimpArgs false

abbrev entV (i t : Int) (A : Option Addr) (n c : Nat) : Value := .agg #[.int .i64 i, .int .i64 t, .slice A n c]

theorem le_lit (n m : Nat) (z : Int) (h : z = (m : Int)) : decide ((n : Int) ≤ z) = decide (n ≤ m) := by
  subst h
  apply Bool.eq_iff_iff.2
  simp

theorem eq_zero (n : Nat) : ((n : Int) == 0) = decide (n = 0) := by
  apply Bool.eq_iff_iff.2
  simp

theorem numR_is (n : Int) (w : World) : Calls Try.prog 50 #[.int .i64 n] w fun e w' => e = .returned (.bool (numB n)) ∧ w = w' := by
  unfold numB
  by_cases h1 : 1 ≤ n
  · have e1 : decide (1 ≤ n) = true := decide_eq_true h1
    rw [e1, Bool.true_and]
    go_enter Try.func50, Try.ntmps50
    go_wp2
    go_ret
    exact ⟨rfl, rfl⟩
  · have e1 : decide (1 ≤ n) = false := decide_eq_false h1
    have e2 : (1 ≤ n) = False := eq_false h1
    rw [e1, Bool.false_and]
    clear h1
    go_enter Try.func50, Try.ntmps50
    go_wp2
    go_ret
    exact ⟨rfl, rfl⟩

theorem rightR_is (i t : Int) (A : Option Addr) (n c : Nat) (w : World) : Calls Try.prog 46 #[entV i t A n c] w fun e w' => e = .returned (.bool (rightB i t n)) ∧ Below w.heap.size w w' := by
  have hi := fun W => numR_is i W
  have ht := fun W => numR_is t W
  have hb : Below w.heap.size w (w.alloc (.cells #[.int .i64 i, .int .i64 t, .slice A n c] 43)) := (Below.refl _ _).alloc (Nat.le_refl _) _
  unfold rightB
  generalize numB i = bi at *
  generalize numB t = bt at *
  cases bi with
  | false =>
    go_enter Try.func46, Try.ntmps46
    go_wp2_with fail
    refine (hi _).mono ?_
    rintro e w1 ⟨rfl, rfl⟩
    go_wp2
    go_ret
    exact ⟨rfl, hb⟩
  | true =>
    cases bt with
    | false =>
      go_enter Try.func46, Try.ntmps46
      go_wp2_with fail
      refine (hi _).mono ?_
      rintro e w1 ⟨rfl, rfl⟩
      go_wp2_with fail
      refine (ht _).mono ?_
      rintro e w1 ⟨rfl, rfl⟩
      go_wp2
      go_ret
      exact ⟨rfl, hb⟩
    | true =>
      go_enter Try.func46, Try.ntmps46
      go_wp2_with fail
      refine (hi _).mono ?_
      rintro e w1 ⟨rfl, rfl⟩
      go_wp2_with fail
      refine (ht _).mono ?_
      rintro e w1 ⟨rfl, rfl⟩
      go_wp2
      go_ret
      refine ⟨?_, hb⟩
      show Ending.returned (.bool (decide ((n : Int) ≤ 12000))) = _
      rw [le_lit n 12000 12000 rfl]
      rfl

end Go.Proofs.Ytlanjlboipnpfaa
