/- The laws' own first question. -/
import Derived.Test.YtjmcbnoofonanaaOctRefA
import Derived.Test.YtjmcbnoofonanaaOctInB
import Derived.Deep.QuietTactic
import Derived.Deep.RegionWith
namespace Go.Proofs.Ytjmcbnoofonanaa
open Go.RowKit
set_option linter.unusedVariables false

theorem textN_ab : textN (some [0, 0, 0, 2, 97, 98]) 2 = ([97, 98], some []) := by decide

set_option maxRecDepth 100000 in
theorem awake_any (w : World) : Calls Try.prog 8 #[] w fun e w' => e = .returned (.bool true) ∧ Below w.heap.size w w' := by
  have ho := out_new w (· < w.heap.size) (fun k h => h)
  have hT := text_any ⟨#[97, 98]⟩ (by decide) _ w.heap.size [] (· < w.heap.size) ho (fun k h => Nat.lt_trans h (by simp))
  have eL : ([] ++ textOf (⟨#[97, 98]⟩ : ByteArray).data.toList : List UInt8) = [0, 0, 0, 2, 97, 98] := by decide
  rw [eL] at hT
  have hb0 : Below w.heap.size w (w.alloc (.cells #[.slice none 0 0, .bool false] 26)) := (Below.refl _ _).alloc (Nat.le_refl _) _
  go_enter Try.func8, Try.ntmps8
  go_wp2_with (first
    | (go_at_call 23; refine hT.mono ?_; rintro e w1 ⟨rfl, h1, k1⟩; have hb1 := below_keeps hb0 k1 (fun i hi => hi) (by simp))
    | (go_at_call 11; refine (end_fits _ _ [0, 0, 0, 2, 97, 98] _ h1 (by decide)).mono ?_; rintro e w2 ⟨A, cap, rfl, hl, _, hb2⟩; have hs : (convert 24 9 (.slice A 6 cap)).run Try.prog w2 = .ok (.string ⟨#[0, 0, 0, 2, 97, 98]⟩) w2 := hl.text Try.underlying24 Try.underlying5 Try.underlying9; replace hb2 := hb1.trans (hb2.mono hb1.size))
    | (go_at_call 12; refine (newIn_any A 6 cap [0, 0, 0, 2, 97, 98] _ (· < w.heap.size) (fun k h => Nat.lt_of_lt_of_le h hb2.size) hl (by decide)).mono ?_; rintro e w3 ⟨i, rfl, hi, hb3⟩; replace hb3 := hb2.trans (hb3.mono hb2.size))
    | (go_at_call 21; refine (textIn_any 2 (by omega) _ _ _ _ hi (by decide)).mono ?_; rw [textN_ab]; rintro e w4 ⟨rfl, h4, k4⟩; have hb4 := below_keeps hb3 k4 (fun i hi => hi) hb3.size))
  go_ret
  exact ⟨rfl, hb4⟩

end Go.Proofs.Ytjmcbnoofonanaa
