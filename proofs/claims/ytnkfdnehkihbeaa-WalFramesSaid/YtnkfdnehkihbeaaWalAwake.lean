/- The laws' own first question. -/
import Derived.Test.YtnkfdnehkihbeaaWalProgD
import Derived.Test.YtnkfdnehkihbeaaWalProgE
import Derived.Lib.SlBytesConst
namespace Go.Proofs.Ytnkfdnehkihbeaa
open Go.RowKit
set_option linter.unusedVariables false
set_option linter.unusedSimpArgs false

theorem frame_lies {w : World} {base n cap : Nat} {A : Option Addr} {l : List UInt8} (h : Owns 5 w base (.slice A n cap) l) : Lies w A n cap l := by
  obtain ⟨A', cap', e, hl, _⟩ := lies_of_owns h
  injection e with e1 e2 e3
  subst e1 e2 e3
  exact hl

set_option maxRecDepth 100000 in
set_option maxHeartbeats 1000000 in
theorem awake_any (w : World) : Calls Try.prog 9 #[] w fun e w' => e = .returned (.bool true) ∧ Below w.heap.size w w' := by
  have kc := fun (w : World) (C : Array Value) (n c : Nat) => Lib.run_convert_bytes_const (P := Try.prog) w 22 5 C n c Try.underlying22 Try.underlying5
  have hsc : scanL (frameL [97]) = ([[97]], 9) := by
    have := scanL_all [[97]] (fun r hr => by rw [List.mem_singleton.1 hr]; decide)
    have e : framesL [[97]] = frameL [97] := by simp [framesL]
    rw [e, frameL_length] at this
    exact this
  go_enter Try.func9, Try.ntmps9
  go_wp2_with fail
  have hl0 := lies_row w [97] #[.int .u8 97] 5 (1, 2) 1 rfl (by
    intro j hj
    match j, hj with
    | 0, _ => rfl)
  refine (frame_any _ 1 1 [97] _ hl0 (by unfold maxLen; omega) (by omega)).mono ?_
  rintro e w1 ⟨A1, cap1, rfl, ho1, hb1⟩
  have hbw1 : Below w.heap.size w w1 := ((Below.refl w.heap.size w).alloc (Nat.le_refl _) _).trans (hb1.mono (by simp))
  have hl1 := frame_lies ho1
  clear ho1 hb1 kc
  change Lies w1 A1 9 cap1 (frameL [97]) at hl1
  go_wp2_with fail
  refine (scan_any A1 9 cap1 _ _ hl1 (by omega)).mono ?_
  rintro e w2 ⟨A2, cap2, rfl, hr2, hb2⟩
  rw [hsc] at hr2 ⊢
  have hbw2 : Below w.heap.size w w2 := hbw1.trans (hb2.mono hbw1.size)
  obtain ⟨g, off, E, c, rfl, hg, _, hc, _, hlE⟩ := hr2.at_ 0 (by decide)
  have hcv : (convert 22 9 (.slice E 1 c)).run Try.prog w2 = .ok (.string ⟨#[97]⟩) w2 := hlE.text Try.underlying22 Try.underlying5 Try.underlying9
  change w2.cell? ⟨g, off, none⟩ = some (.slice E 1 c) at hc
  clear hr2 hlE hl1 hb2 hbw1 hsc
  go_wp2
  go_ret
  exact ⟨rfl, hbw2⟩

end Go.Proofs.Ytnkfdnehkihbeaa
