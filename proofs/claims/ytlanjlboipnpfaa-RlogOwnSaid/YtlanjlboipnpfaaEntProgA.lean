/- The program's placed, Right, RightHard, RightSnap, each by its contract. -/
import Derived.Test.YtlanjlboipnpfaaEntRefA
namespace Go.Proofs.Ytlanjlboipnpfaa
open Go.RowKit
set_option linter.unusedVariables false
set_option linter.unusedSimpArgs false

def placedB (i t : Int) : Bool := numB i && numB t

theorem rightB_placed (i t : Int) (n : Nat) : rightB i t n = (placedB i t && decide (n ≤ 12000)) := rfl

theorem placed_is (i t : Int) (w : World) : Calls Try.prog 48 #[.int .i64 i, .int .i64 t] w fun e w' => e = .returned (.bool (placedB i t)) ∧ w = w' := by
  unfold placedB numB
  by_cases h1 : 1 ≤ i
  · rw [decide_eq_true h1, Bool.true_and]
    by_cases h2 : i ≤ 1099511627776
    · rw [decide_eq_true h2, Bool.true_and]
      by_cases h3 : 1 ≤ t
      · rw [decide_eq_true h3, Bool.true_and]
        go_enter Try.func48, Try.ntmps48
        go_wp2
        go_ret
        exact ⟨rfl, rfl⟩
      · have e1 : decide (1 ≤ t) = false := decide_eq_false h3
        have e2 : (1 ≤ t) = False := eq_false h3
        rw [e1, Bool.false_and]
        clear h3
        go_enter Try.func48, Try.ntmps48
        go_wp2
        go_ret
        exact ⟨rfl, rfl⟩
    · have e1 : decide (i ≤ 1099511627776) = false := decide_eq_false h2
      have e2 : (i ≤ 1099511627776) = False := eq_false h2
      rw [e1, Bool.false_and]
      clear h2
      go_enter Try.func48, Try.ntmps48
      go_wp2
      go_ret
      exact ⟨rfl, rfl⟩
  · have e1 : decide (1 ≤ i) = false := decide_eq_false h1
    have e2 : (1 ≤ i) = False := eq_false h1
    rw [e1, Bool.false_and, Bool.false_and]
    clear h1
    go_enter Try.func48, Try.ntmps48
    go_wp2
    go_ret
    exact ⟨rfl, rfl⟩

theorem rightP_is (i t : Int) (A : Option Addr) (n c : Nat) (w : World) : Calls Try.prog 41 #[entV i t A n c] w fun e w' => e = .returned (.bool (rightB i t n)) ∧ Below w.heap.size w w' := by
  have hi := fun W => placed_is i t W
  have hb : Below w.heap.size w (w.alloc (.cells #[.int .i64 i, .int .i64 t, .slice A n c] 43)) := (Below.refl _ _).alloc (Nat.le_refl _) _
  rw [rightB_placed]
  generalize placedB i t = bi at *
  cases bi with
  | false =>
    go_enter Try.func41, Try.ntmps41
    go_wp2_with fail
    refine (hi _).mono ?_
    rintro e w1 ⟨rfl, rfl⟩
    go_wp2
    go_ret
    exact ⟨rfl, hb⟩
  | true =>
    go_enter Try.func41, Try.ntmps41
    go_wp2_with fail
    refine (hi _).mono ?_
    rintro e w1 ⟨rfl, rfl⟩
    go_wp2
    go_ret
    refine ⟨?_, hb⟩
    show Ending.returned (.bool (decide ((n : Int) ≤ 12000))) = _
    rw [le_lit n 12000 12000 rfl]
    rfl

end Go.Proofs.Ytlanjlboipnpfaa
