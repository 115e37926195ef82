/- Frame of the program, by its contract. -/
import Derived.Test.YtnkfdnehkihbeaaWalProgC
import Derived.Test.YtnkfdnehkihbeaaClone
namespace Go.Proofs.Ytnkfdnehkihbeaa
open Go.RowKit
set_option linter.unusedVariables false
set_option linter.unusedSimpArgs false

theorem frame_any (A : Option Addr) (len cap : Nat) (l : List UInt8) (w : World) (hl : Lies w A len cap l) (hc : cap ≤ maxLen) (h6 : len ≤ 60000) :
    Calls Try.prog 10 #[.slice A len cap] w fun e w' => ∃ A' cap', e = .returned (.tuple #[.slice A' (l.length + 8) cap', .int .i64 0]) ∧ Owns 5 w' w.heap.size (.slice A' (l.length + 8) cap') (frameL l) ∧ Below w.heap.size w w' := by
  have hll := hl.1
  have hR := Recs.one w (fun _ => True) A len cap l 22 (0, 0) hll.symm hc hl (fun _ _ _ _ => trivial) trivial
  have hF := frames_any _ _ _ _ _ _ hR (by omega) (fun r hr => (List.mem_singleton.1 hr) ▸ (by omega))
  have e1 : framesL [l] = frameL l := by simp [framesL]
  rw [e1, frameL_length] at hF
  clear hR
  go_enter Try.func10, Try.ntmps10
  go_wp2_with (first
    | (go_at_call 25
       refine hF.mono ?_
       rintro e w1 ⟨A1, cap1, rfl, ho, hb⟩)
    | fail)
  refine bodyPost_ret (results_tmp2 rfl _ _ _) rfl ?_
  refine ⟨A1, cap1, by rw [hll]; rfl, ho.rebase fun k hk => ?_, ((Below.refl w.heap.size w).alloc (Nat.le_refl _) _).trans (hb.mono (by simp))⟩
  have := (ho.lt k hk).1
  simp at this
  omega

theorem frame_long (A : Option Addr) (len cap : Nat) (l : List UInt8) (w : World) (hl : Lies w A len cap l) (hc : cap ≤ maxLen) (h6 : 60000 < len) :
    Calls Try.prog 10 #[.slice A len cap] w fun e w' => e = .returned (.tuple #[.slice none 0 0, .int .i64 3]) ∧ Below w.heap.size w w' := by
  have hll := hl.1
  have hR := Recs.one w (fun _ => True) A len cap l 22 (0, 0) hll.symm hc hl (fun _ _ _ _ => trivial) trivial
  have hF := frames_long _ _ _ _ _ _ hR (by omega) (fun h => by have := h l (by simp); omega)
  clear hR
  go_enter Try.func10, Try.ntmps10
  go_wp2_with (first
    | (go_at_call 25
       refine hF.mono ?_
       rintro e w1 ⟨rfl, rfl⟩)
    | fail)
  refine bodyPost_ret (results_tmp2 rfl _ _ _) rfl ?_
  exact ⟨rfl, (Below.refl w.heap.size w).alloc (Nat.le_refl _) _⟩

end Go.Proofs.Ytnkfdnehkihbeaa
