/- May a version be? By the document and by the program. (Written by mkver.py.) -/
import Derived.Test.YtmihijlegacjdaaHisMem
namespace Go.Proofs.Ytmihijlegacjdaa
open Go.RowKit
set_option linter.unusedVariables false
set_option linter.unusedSimpArgs false
attribute [local go_sem] Oper.semAt_some

set_option maxRecDepth 100000 in
set_option maxHeartbeats 1600000 in
theorem verR_any (x : Ver) (w : World) : Calls Try.prog 24 #[verV x] w fun e w' => e = .returned (.bool (His.verB x)) ∧ Below w.heap.size w w' := by
  obtain ⟨r, k, m, v, s, l, g⟩ := x
  dsimp only [verV]
  have hb : Below w.heap.size w (w.alloc (.cells #[.int .i64 r, .int .i64 k, .int .i64 m, .int .i64 v, .string s, .int .i64 l, .bool g] 26)) := (Below.refl _ _).alloc (Nat.le_refl _) _
  have hV : His.verB ⟨r, k, m, v, s, l, g⟩ = if r < 1 ∨ 1099511627776 < r ∨ m < 1 ∨ 1099511627776 < m then false else if g = true then decide (k = 0 ∧ v = 0 ∧ l = 0 ∧ s.size = 0) else decide (1 ≤ k ∧ k ≤ m ∧ 1 ≤ v ∧ v ≤ 1099511627776 ∧ s.size ≤ 40 ∧ -1099511627776 ≤ l ∧ l ≤ 1099511627776) := rfl
  rw [hV]
  clear hV
  by_cases h0 : r < 1
  · have e0 : decide (r < 1) = true := decide_eq_true h0
    rw [if_pos (by omega)]
    clear h0
    go_enter Try.func24, Try.ntmps24
    go_wp2
    go_ret
    exact ⟨rfl, hb⟩
  have e0 : decide (r < 1) = false := decide_eq_false h0
  by_cases h1 : 1099511627776 < r
  · have e1 : decide (1099511627776 < r) = true := decide_eq_true h1
    rw [if_pos (by omega)]
    clear h0 h1
    go_enter Try.func24, Try.ntmps24
    go_wp2
    go_ret
    exact ⟨rfl, hb⟩
  have e1 : decide (1099511627776 < r) = false := decide_eq_false h1
  by_cases h2 : m < 1
  · have e2 : decide (m < 1) = true := decide_eq_true h2
    rw [if_pos (by omega)]
    clear h0 h1 h2
    go_enter Try.func24, Try.ntmps24
    go_wp2
    go_ret
    exact ⟨rfl, hb⟩
  have e2 : decide (m < 1) = false := decide_eq_false h2
  by_cases h3 : 1099511627776 < m
  · have e3 : decide (1099511627776 < m) = true := decide_eq_true h3
    rw [if_pos (by omega)]
    clear h0 h1 h2 h3
    go_enter Try.func24, Try.ntmps24
    go_wp2
    go_ret
    exact ⟨rfl, hb⟩
  have e3 : decide (1099511627776 < m) = false := decide_eq_false h3
  rw [if_neg (by omega)]
  cases g with
  | true =>
    rw [if_pos rfl]
    by_cases h4 : k = 0
    case neg =>
      have e4 : (k == 0) = false := by simpa using h4
      rw [decide_eq_false (by omega)]
      clear h0 h1 h2 h3 h4
      go_enter Try.func24, Try.ntmps24
      go_wp2
      go_ret
      exact ⟨rfl, hb⟩
    have e4 : (k == 0) = true := by simp [h4]
    by_cases h5 : v = 0
    case neg =>
      have e5 : (v == 0) = false := by simpa using h5
      rw [decide_eq_false (by omega)]
      clear h0 h1 h2 h3 h4 h5
      go_enter Try.func24, Try.ntmps24
      go_wp2
      go_ret
      exact ⟨rfl, hb⟩
    have e5 : (v == 0) = true := by simp [h5]
    by_cases h6 : l = 0
    case neg =>
      have e6 : (l == 0) = false := by simpa using h6
      rw [decide_eq_false (by omega)]
      clear h0 h1 h2 h3 h4 h5 h6
      go_enter Try.func24, Try.ntmps24
      go_wp2
      go_ret
      exact ⟨rfl, hb⟩
    have e6 : (l == 0) = true := by simp [h6]
    by_cases h7 : s.size = 0
    case neg =>
      have e7 : ((s.size : Int) == 0) = false := beq_eq_false_iff_ne.2 (by omega)
      rw [decide_eq_false (by omega)]
      clear h0 h1 h2 h3 h4 h5 h6 h7
      go_enter Try.func24, Try.ntmps24
      go_wp2
      go_ret
      exact ⟨rfl, hb⟩
    have e7 : ((s.size : Int) == 0) = true := by simp [h7]
    rw [decide_eq_true (by omega)]
    clear h0 h1 h2 h3 h4 h5 h6 h7
    go_enter Try.func24, Try.ntmps24
    go_wp2
    go_ret
    exact ⟨rfl, hb⟩
  | false =>
    rw [if_neg (by decide)]
    by_cases h4 : 1 ≤ k
    case neg =>
      have e4 : decide (1 ≤ k) = false := decide_eq_false (by omega)
      rw [decide_eq_false (by omega)]
      clear h0 h1 h2 h3 h4
      go_enter Try.func24, Try.ntmps24
      go_wp2
      go_ret
      exact ⟨rfl, hb⟩
    have e4 : decide (1 ≤ k) = true := decide_eq_true (by omega)
    by_cases h5 : k ≤ m
    case neg =>
      have e5 : decide (k ≤ m) = false := decide_eq_false (by omega)
      rw [decide_eq_false (by omega)]
      clear h0 h1 h2 h3 h4 h5
      go_enter Try.func24, Try.ntmps24
      go_wp2
      go_ret
      exact ⟨rfl, hb⟩
    have e5 : decide (k ≤ m) = true := decide_eq_true (by omega)
    by_cases h6 : 1 ≤ v
    case neg =>
      have e6 : decide (1 ≤ v) = false := decide_eq_false (by omega)
      rw [decide_eq_false (by omega)]
      clear h0 h1 h2 h3 h4 h5 h6
      go_enter Try.func24, Try.ntmps24
      go_wp2
      go_ret
      exact ⟨rfl, hb⟩
    have e6 : decide (1 ≤ v) = true := decide_eq_true (by omega)
    by_cases h7 : v ≤ 1099511627776
    case neg =>
      have e7 : decide (v ≤ 1099511627776) = false := decide_eq_false (by omega)
      rw [decide_eq_false (by omega)]
      clear h0 h1 h2 h3 h4 h5 h6 h7
      go_enter Try.func24, Try.ntmps24
      go_wp2
      go_ret
      exact ⟨rfl, hb⟩
    have e7 : decide (v ≤ 1099511627776) = true := decide_eq_true (by omega)
    by_cases h8 : s.size ≤ 40
    case neg =>
      have e8 : decide ((s.size : Int) ≤ 40) = false := decide_eq_false (by omega)
      rw [decide_eq_false (by omega)]
      clear h0 h1 h2 h3 h4 h5 h6 h7 h8
      go_enter Try.func24, Try.ntmps24
      go_wp2
      go_ret
      exact ⟨rfl, hb⟩
    have e8 : decide ((s.size : Int) ≤ 40) = true := decide_eq_true (by omega)
    by_cases h9 : -1099511627776 ≤ l
    case neg =>
      have e9 : decide (-1099511627776 ≤ l) = false := decide_eq_false (by omega)
      rw [decide_eq_false (by omega)]
      clear h0 h1 h2 h3 h4 h5 h6 h7 h8 h9
      go_enter Try.func24, Try.ntmps24
      go_wp2
      go_ret
      exact ⟨rfl, hb⟩
    have e9 : decide (-1099511627776 ≤ l) = true := decide_eq_true (by omega)
    by_cases h10 : l ≤ 1099511627776
    case neg =>
      have e10 : decide (l ≤ 1099511627776) = false := decide_eq_false (by omega)
      rw [decide_eq_false (by omega)]
      clear h0 h1 h2 h3 h4 h5 h6 h7 h8 h9 h10
      go_enter Try.func24, Try.ntmps24
      go_wp2
      go_ret
      exact ⟨rfl, hb⟩
    have e10 : decide (l ≤ 1099511627776) = true := decide_eq_true (by omega)
    rw [decide_eq_true (by omega)]
    clear h0 h1 h2 h3 h4 h5 h6 h7 h8 h9 h10
    go_enter Try.func24, Try.ntmps24
    go_wp2
    go_ret
    exact ⟨rfl, hb⟩

end Go.Proofs.Ytmihijlegacjdaa
