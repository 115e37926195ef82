/- The program's Won, Lost. -/
import Derived.Test.YtbhbmiknomdebaaQuoOps
namespace Go.Proofs.Ytbhbmiknomdebaa
open Go.RowKit
set_option linter.unusedVariables false
set_option linter.unusedSimpArgs false

/-- Whether k may be some of n. -/
def someB (k n : Int) : Bool := decide (1 ≤ n) && (decide (0 ≤ k) && decide (k ≤ n))

theorem some_is (k n : Int) (w : World) : Calls Try.prog 15 #[.int .i64 k, .int .i64 n] w fun e w' => e = .returned (.bool (someB k n)) ∧ w = w' := by
  unfold someB
  by_cases h1 : 1 ≤ n
  · rw [decide_eq_true h1, Bool.true_and]
    by_cases h2 : 0 ≤ k
    · rw [decide_eq_true h2, Bool.true_and]
      go_enter Try.func15, Try.ntmps15
      go_wp2
      go_ret
      exact ⟨rfl, rfl⟩
    · have e1 : decide (0 ≤ k) = false := decide_eq_false h2
      have e2 : (0 ≤ k) = False := eq_false h2
      rw [e1, Bool.false_and]
      clear h2
      go_enter Try.func15, Try.ntmps15
      go_wp2
      go_ret
      exact ⟨rfl, rfl⟩
  · have e1 : decide (1 ≤ n) = false := decide_eq_false h1
    have e2 : (1 ≤ n) = False := eq_false h1
    rw [e1, Bool.false_and]
    clear h1
    go_enter Try.func15, Try.ntmps15
    go_wp2
    go_ret
    exact ⟨rfl, rfl⟩

theorem won_some {k n : Int} (h : someB k n = true) : wonB k n = decide (n - k < k) := by
  simp only [someB, Bool.and_eq_true, decide_eq_true_eq] at h
  simp [wonB, h.1, h.2.1, h.2.2]

theorem won_none {k n : Int} (h : someB k n = false) : wonB k n = false := by
  cases hw : wonB k n with
  | false => rfl
  | true =>
    simp only [wonB, Bool.and_eq_true, decide_eq_true_eq] at hw
    simp [someB, hw.1, hw.2.1, hw.2.2.1] at h

theorem lost_none {k n : Int} (h : someB k n = false) : lostB k n = false := by
  cases hw : lostB k n with
  | false => rfl
  | true =>
    simp only [lostB, Bool.and_eq_true, decide_eq_true_eq] at hw
    simp [someB, hw.1, hw.2.1, hw.2.2.1] at h

theorem lost_some {k n : Int} (h : someB k n = true) : lostB k n = !wonB (n - k) n := by
  simp only [someB, Bool.and_eq_true, decide_eq_true_eq] at h
  obtain ⟨h1, h2, h3⟩ := h
  have a : decide (n - k ≤ k) = !decide (n - (n - k) < n - k) := by
    by_cases hh : n - k ≤ k
    · rw [decide_eq_true hh, decide_eq_false (by omega)]; rfl
    · rw [decide_eq_false hh, decide_eq_true (by omega)]; rfl
  unfold lostB wonB
  rw [decide_eq_true h1, decide_eq_true h2, decide_eq_true h3, decide_eq_true (show 0 ≤ n - k by omega), decide_eq_true (show n - k ≤ n by omega), Bool.true_and, Bool.true_and, Bool.true_and, Bool.true_and, Bool.true_and, Bool.true_and, a]

theorem won_is (k n : Int) (hn : n ≤ 9223372036854775807) (w : World) : Calls Try.prog 9 #[.int .i64 k, .int .i64 n] w fun e w' => e = .returned (.bool (wonB k n)) ∧ w = w' := by
  have hS := fun W => some_is k n W
  cases hs : someB k n with
  | false =>
    rw [won_none hs]
    rw [hs] at hS
    clear hs hn
    go_enter Try.func9, Try.ntmps9
    go_wp2_with fail
    refine (hS _).mono ?_
    rintro e w1 ⟨rfl, rfl⟩
    clear hS
    go_wp2
    go_ret
    exact ⟨rfl, rfl⟩
  | true =>
    rw [won_some hs]
    obtain ⟨J, hJ⟩ : ∃ J, J = n - k := ⟨_, rfl⟩
    have m1 : wrap64 (n - k) = J := by
      simp only [someB, Bool.and_eq_true, decide_eq_true_eq] at hs
      rw [hJ, ← IntWalk.i64_left, IntWalk.i64_in _ (by omega)]
    rw [← hJ]
    rw [hs] at hS
    clear hJ hn hs
    go_enter Try.func9, Try.ntmps9
    go_wp2_with fail
    refine (hS _).mono ?_
    rintro e w1 ⟨rfl, rfl⟩
    clear hS
    go_wp2
    go_ret
    exact ⟨rfl, rfl⟩

theorem lost_is (k n : Int) (hn : n ≤ 9223372036854775807) (w : World) : Calls Try.prog 10 #[.int .i64 k, .int .i64 n] w fun e w' => e = .returned (.bool (lostB k n)) ∧ w = w' := by
  have hS := fun W => some_is k n W
  cases hs : someB k n with
  | false =>
    rw [lost_none hs]
    rw [hs] at hS
    clear hs hn
    go_enter Try.func10, Try.ntmps10
    go_wp2_with fail
    refine (hS _).mono ?_
    rintro e w1 ⟨rfl, rfl⟩
    clear hS
    go_wp2
    go_ret
    exact ⟨rfl, rfl⟩
  | true =>
    rw [lost_some hs]
    obtain ⟨J, hJ⟩ : ∃ J, J = n - k := ⟨_, rfl⟩
    have m1 : wrap64 (n - k) = J := by
      simp only [someB, Bool.and_eq_true, decide_eq_true_eq] at hs
      rw [hJ, ← IntWalk.i64_left, IntWalk.i64_in _ (by omega)]
    rw [← hJ]
    have hW := fun W => won_is J n hn W
    generalize wonB J n = b at *
    rw [hs] at hS
    clear hJ hn hs
    go_enter Try.func10, Try.ntmps10
    go_wp2_with fail
    refine (hS _).mono ?_
    rintro e w1 ⟨rfl, rfl⟩
    clear hS
    go_wp2_with fail
    first
      | refine (hW _).mono ?_
      | (rw [m1]; refine (hW _).mono ?_)
    rintro e w1 ⟨rfl, rfl⟩
    clear hW
    cases b with
    | false => go_wp2; go_ret; exact ⟨rfl, rfl⟩
    | true => go_wp2; go_ret; exact ⟨rfl, rfl⟩

end Go.Proofs.Ytbhbmiknomdebaa
