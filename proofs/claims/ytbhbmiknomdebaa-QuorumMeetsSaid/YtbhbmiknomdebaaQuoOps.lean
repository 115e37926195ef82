/- The program's calls as the laws want them; the laws' own first question; QuorumCounts' walk. -/
import Derived.Test.YtbhbmiknomdebaaQuoRef
namespace Go.Proofs.Ytbhbmiknomdebaa
open Go.RowKit
set_option linter.unusedVariables false
set_option linter.unusedSimpArgs false

/-- A number that an int64 holds. -/
abbrev In64 (x : Int) : Prop := -9223372036854775808 ≤ x ∧ x ≤ 9223372036854775807

/-- What the laws want of the program. -/
structure QuoOps : Prop where
  reached : ∀ (w : World) (A : Option Addr) (len cap : Nat) (l : List Int), Nums w A len l → len ≤ cap → (A = none → cap = 0) → len ≤ 100 → (∀ x ∈ l, In64 x) → Calls Try.prog 7 #[.slice A len cap] w fun e w' => e = .returned (.int .i64 (reach l)) ∧ Below w.heap.size w w'
  won : ∀ (k n : Int) (w : World), In64 k → In64 n → Calls Try.prog 9 #[.int .i64 k, .int .i64 n] w fun e w' => e = .returned (.bool (wonB k n)) ∧ Below w.heap.size w w'
  lost : ∀ (k n : Int) (w : World), In64 k → In64 n → Calls Try.prog 10 #[.int .i64 k, .int .i64 n] w fun e w' => e = .returned (.bool (lostB k n)) ∧ Below w.heap.size w w'

theorem nums_three (w : World) (a b c : Int) (T : TypeId) : Nums (w.alloc (.cells #[.int .i64 a, .int .i64 b, .int .i64 c] T)) (some ⟨w.heap.size, 0, none⟩) 3 [a, b, c] := by
  refine ⟨rfl, fun _ => ⟨w.heap.size, 0, rfl, by simp, fun j hj => ?_⟩⟩
  rw [cell_of_row _ _ _ _ _ _ (heap_alloc_new w _), Nat.zero_add]
  match j, hj with
  | 0, _ => rfl
  | 1, _ => rfl
  | 2, _ => rfl

theorem awake_reach : reach [3, 1, 2] = 2 := by decide +kernel

theorem awake9_any (O : QuoOps) (w : World) : Calls Try.prog 6 #[] w fun e w' => e = .returned (.bool true) ∧ Below w.heap.size w w' := by
  have hR := O.reached _ _ 3 3 _ (nums_three w 3 1 2 2) (Nat.le_refl _) (fun e => by cases e) (by omega) (fun x hx => by simp at hx; rcases hx with rfl | rfl | rfl <;> omega)
  rw [awake_reach] at hR
  have hW := fun W => O.won 2 3 W (by omega) (by omega)
  have hL := fun W => O.lost 2 3 W (by omega) (by omega)
  rw [show wonB 2 3 = true by decide] at hW
  rw [show lostB 2 3 = true by decide] at hL
  have hb := (Below.refl w.heap.size w).alloc (Nat.le_refl _) (.cells #[.int .i64 3, .int .i64 1, .int .i64 2] 2)
  go_enter Try.func6, Try.ntmps6
  go_wp2_with fail
  refine hR.mono ?_
  rintro e w1 ⟨rfl, hb1⟩
  replace hb := hb.trans (hb1.mono hb.size)
  clear hR hb1
  go_wp2_with fail
  refine (hW _).mono ?_
  rintro e w2 ⟨rfl, hb2⟩
  replace hb := hb.trans (hb2.mono hb.size)
  clear hW hb2
  go_wp2_with fail
  refine (hL _).mono ?_
  rintro e w3 ⟨rfl, hb3⟩
  replace hb := hb.trans (hb3.mono hb.size)
  go_wp2
  go_ret
  exact ⟨rfl, hb⟩

theorem counts_walk (O : QuoOps) (yes no n : Int) (h1 : In64 yes) (h2 : In64 no) (h3 : In64 n) (w : World) :
    Calls Try.prog 4 #[.int .i64 yes, .int .i64 no, .int .i64 n] w fun e w' => e = .returned (.bool true) ∧ Below w.heap.size w w' := by
  have hA := fun W => awake9_any O W
  have hW := fun W => O.won yes n W h1 h3
  have hL := fun W => O.lost no n W h2 h3
  have hWR := fun W => wonR_is yes n h3.2 W
  have hLR := fun W => lostR_is no n h3.2 W
  have hnb := never_both yes no n
  have hin : wonB yes n = true → wrap64 (n - yes) = n - yes := fun h => by
    simp only [wonB, Bool.and_eq_true, decide_eq_true_eq] at h
    rw [← IntWalk.i64_left, IntWalk.i64_in _ (by omega)]
  generalize wonB yes n = a at *
  generalize lostB no n = b at *
  clear h1 h2 h3
  go_enter Try.func4, Try.ntmps4
  go_wp2_with fail
  refine (hA _).mono ?_
  rintro e w1 ⟨rfl, hb⟩
  go_wp2_with fail
  refine (hW _).mono ?_
  rintro e w2 ⟨rfl, hb2⟩
  replace hb := hb.trans (hb2.mono hb.size)
  go_wp2_with fail
  refine (hL _).mono ?_
  rintro e w3 ⟨rfl, hb3⟩
  replace hb := hb.trans (hb3.mono hb.size)
  go_wp2_with fail
  refine (hWR _).mono ?_
  rintro e w4 ⟨rfl, rfl⟩
  go_wp2_with fail
  refine (hLR _).mono ?_
  rintro e w4 ⟨rfl, rfl⟩
  clear hA hW hL hWR hLR hb2 hb3
  cases a with
  | false =>
    go_wp2
    go_ret
    exact ⟨rfl, hb⟩
  | true =>
    cases b with
    | false =>
      go_wp2
      go_ret
      exact ⟨rfl, hb⟩
    | true =>
      have hlt := hnb rfl rfl
      have m1 := hin rfl
      have M1 := Lib.hid m1
      clear hnb hin m1
      go_wp2
      go_ret
      refine ⟨?_, hb⟩
      first
        | rfl
        | (show Ending.returned (.bool (decide (wrap64 (n - yes) < no))) = _
           rw [M1.out, decide_eq_true hlt])

end Go.Proofs.Ytbhbmiknomdebaa
