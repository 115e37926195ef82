/- The program's rightBase, Base, Last, place, Term, Newer, each by its contract. -/
import Derived.Test.YtlanjlboipnpfaaLogLg
import Derived.Test.YtlanjlboipnpfaaLogRefA
import Derived.RegionTactic
import Derived.StillTailTactics
import Derived.Outline
namespace Go.Proofs.Ytlanjlboipnpfaa
open Go.RowKit
set_option linter.unusedVariables false
set_option linter.unusedSimpArgs false

theorem rightBaseP_is (i t : Int) (w : World) : Calls Try.prog 25 #[.int .i64 i, .int .i64 t] w fun e w' => e = .returned (.bool (RL.base i t)) ∧ w = w' := by
  unfold RL.base
  by_cases h1 : 0 ≤ i
  · rw [decide_eq_true h1, Bool.true_and]
    by_cases h2 : i ≤ 1099511627776
    · rw [decide_eq_true h2, Bool.true_and]
      by_cases h3 : 0 ≤ t
      · rw [decide_eq_true h3, Bool.true_and]
        go_enter Try.func25, Try.ntmps25
        go_wp2
        go_ret
        exact ⟨rfl, rfl⟩
      · have e1 : decide (0 ≤ t) = false := decide_eq_false h3
        have e2 : (0 ≤ t) = False := eq_false h3
        rw [e1, Bool.false_and]
        clear h3
        go_enter Try.func25, Try.ntmps25
        go_wp2
        go_ret
        exact ⟨rfl, rfl⟩
    · have e1 : decide (i ≤ 1099511627776) = false := decide_eq_false h2
      have e2 : (i ≤ 1099511627776) = False := eq_false h2
      rw [e1, Bool.false_and]
      clear h2
      go_enter Try.func25, Try.ntmps25
      go_wp2
      go_ret
      exact ⟨rfl, rfl⟩
  · have e1 : decide (0 ≤ i) = false := decide_eq_false h1
    have e2 : (0 ≤ i) = False := eq_false h1
    rw [e1, Bool.false_and]
    clear h1
    go_enter Try.func25, Try.ntmps25
    go_wp2
    go_ret
    exact ⟨rfl, rfl⟩

theorem baseP_nil (w : World) : Calls Try.prog 30 #[.pointer none] w fun e w' => e = .returned (.tuple #[.int .i64 0, .int .i64 0]) ∧ w = w' := by
  go_enter Try.func30, Try.ntmps30
  go_wp2
  go_ret2
  exact ⟨rfl, rfl⟩

theorem baseP_any {w : World} {p : Nat} {r : RL} {s : Nat} {A : Option Addr} {n c : Nat} (h : Rd w p r s A n c) : Calls Try.prog 30 #[ptrV p] w fun e w' => e = .returned (.tuple #[.int .i64 r.i, .int .i64 r.t]) ∧ Below w.heap.size w w' := by
  obtain ⟨c0, c1, c2, c3⟩ := h.cells
  clear h
  go_enter Try.func30, Try.ntmps30
  go_wp2
  go_big_quiet (fail)
  go_wp2
  go_ret2
  exact ⟨rfl, below_drewN (Below.refl _ _) _⟩

theorem lastP_nil (w : World) : Calls Try.prog 14 #[.pointer none] w fun e w' => e = .returned (.tuple #[.int .i64 0, .int .i64 0]) ∧ w = w' := by
  have hB := fun W => baseP_nil W
  go_enter Try.func14, Try.ntmps14
  go_wp2_with fail
  refine (hB _).mono ?_
  rintro e w1 ⟨rfl, rfl⟩
  go_wp2
  go_ret2
  exact ⟨rfl, rfl⟩

set_option maxRecDepth 100000 in
set_option maxHeartbeats 1600000 in
theorem lastP_any {w : World} {p : Nat} {r : RL} {s : Nat} {A : Option Addr} {n c : Nat} (h : Rd w p r s A n c) (hm : n ≤ 1000000) : Calls Try.prog 14 #[ptrV p] w fun e w' => e = .returned (.tuple #[.int .i64 r.lastI, .int .i64 r.lastT]) ∧ Below w.heap.size w w' := by
  obtain ⟨c0, c1, c2, c3⟩ := h.cells
  have hll := h.ents.1
  by_cases h0 : n = 0
  · subst h0
    obtain ⟨e1, e2⟩ := last_none (r := r) (List.eq_nil_of_length_eq_zero hll)
    rw [e1, e2]
    have hB := baseP_any h
    clear h hll e1 e2
    go_enter Try.func14, Try.ntmps14
    go_wp2_with fail
    refine hB.mono ?_
    rintro e w1 ⟨rfl, hb1⟩
    go_wp2
    go_ret2
    exact ⟨rfl, hb1⟩
  · obtain ⟨e1, e2⟩ := last_some (r := r) (by omega)
    obtain ⟨m, hmm⟩ : ∃ m, m = n - 1 := ⟨_, rfl⟩
    have hl2 : r.l.length - 1 = m := by omega
    simp only [hl2] at e1 e2
    rw [e1, e2]
    obtain ⟨g, off, E, k, rfl, hg, x0, x1, x2, _⟩ := h.ents.at_ m (by omega)
    have hne : ((n : Int) == 0) = false := beq_eq_false_iff_ne.2 (by omega)
    have hne2 : ((n : Int) = 0) = False := eq_false (by omega)
    have hw : wrap64 ((n : Int) - 1) = (m : Int) := by rw [← IntWalk.i64_left, IntWalk.i64_in _ (by omega)]; omega
    have hw2 : IntKind.i64.wrap ((n : Int) - 1) = (m : Int) := by rw [IntWalk.i64_in _ (by omega)]; omega
    have hlt1 : (m : Int) < (n : Int) := by omega
    have hlt2 : m < n := by omega
    generalize (r.l[m]'(by omega)) = a at *
    obtain ⟨ai, at_, ad⟩ := a
    dsimp only at *
    have hp := hlt h.row
    have hb2 : Below w.heap.size w (w.alloc (.cells #[.int .i64 ai, .int .i64 at_, .slice E ad.length k] 43)).drew := ((Below.refl _ _).alloc (Nat.le_refl _) _).drew
    clear h hm h0 hll e1 e2 hl2 hmm
    go_enter Try.func14, Try.ntmps14
    go_wp2
    go_region
    all_goals
      go_wp2
      go_big_quiet (fail)
      go_wp2
      go_ret2
      exact ⟨rfl, below_drewN hb2 _⟩

end Go.Proofs.Ytlanjlboipnpfaa
