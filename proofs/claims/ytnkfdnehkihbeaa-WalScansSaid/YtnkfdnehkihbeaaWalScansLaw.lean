/- WalScans: from any bytes just the records are told with whose frames they begin. For every input. -/
import Derived.Test.YtnkfdnehkihbeaaWalScans
import Derived.Test.YtnkfdnehkihbeaaLawEnd
import Derived.ChangeMaps5
import Derived.BigQuiet
namespace Go.Proofs.Ytnkfdnehkihbeaa.walScans
open Go.ChangeShapes Go.WideShapes Go.ChangeAt Go.RowKit Go.Proofs.Ytnkfdnehkihbeaa
set_option linter.unusedVariables false
set_option linter.unusedSimpArgs false

theorem own : ownKnob Try.prog.godebug = none := by kernel_rfl

set_option maxRecDepth 100000 in
theorem lifted (os : Os) (started : os.Started) (H : Type) (enc : TypeId × Value → H) :
    ReturnsInHanded {} Try.checked os 4 .any (Rows.walScansSpec.pre6 enc Try.prog Try.f4 Rows.walScansRow.domain false) (Rows.walScansSpec.post enc Try.prog Try.f4 false true false false) := by
  refine returnsInHanded_of_change (C := Try.checked) own started (by kernel_rfl) Try.func4
    (ChangeSpec.witness6 (enc := enc) (C := Try.checked) false ⟨#[], #[.slice none 0 0], []⟩ 8 (by kernel_rfl) (by kernel_rfl) (by kernel_rfl) (by kernel_rfl)) ?_
  intro W base args ds gs before hval0 hW hcnd _
  have hval : ∀ (j : Nat) t v, Try.f4.params[j]? = some t → args[j]? = some v → Value.okWide Try.prog W .any base t v := hval0
  have hW' := hW
  obtain ⟨p, q, hA0, hV, rfl, hfz, hnd⟩ := hW
  have hA : DataW.TrodAll enc Try.prog W 0 (fun _ => true) true Try.f4.params.toList args.toList ds p := hA0
  rw [Try.params4] at hA hval
  obtain ⟨v0, vs0, d0, ds0, p0, q0, hargs, rfl, rfl, h0, r0⟩ := trodAll_cons hA
  obtain ⟨rfl, rfl, rfl⟩ := trodAll_nil r0
  obtain rfl : args = #[v0] := by cases args; simp_all
  obtain ⟨rfl, rfl⟩ := trodVars_none hV
  obtain ⟨A0, len0, cap0, L0, rfl, hlc0, hm0, hbl0⟩ := arg_bytes (hval 0 22 v0 rfl rfl) h0 (fun x hx => hW'.lt x (by simp [hx]))
  have fin : ∀ W', Below W.heap.size W W' → Rows.walScansSpec.post enc Try.prog Try.f4 false true false false W #[.slice A0 len0 cap0] (.bool true) W' :=
    fun W' hb => law_end (by kernel_rfl) (by decide +kernel) rfl rfl Try.underlying4 hW' rfl rfl rfl hb
  exact (walScans.walk A0 len0 cap0 L0 W ⟨hbl0.1, hlc0, hbl0.2⟩ hm0).mono fun e W' ⟨he, hb⟩ => ⟨_, he, fin W' hb⟩

theorem over : Rows.walScansRow.holds Try.pinned (OpenSpec.ofChange Rows.walScansSpec) :=
  OpenClaim.holds_of_wide 4 Try.f4 rfl rfl rfl rfl rfl rfl rfl ⟨rfl, rfl, rfl, rfl, rfl⟩ rfl rfl rfl rfl rfl (by kernel_rfl) Try.func4 (by kernel_rfl)
    (of_decide_eq_true (by kernel_rfl)) (by unfold Func.isWrapper; first | (rw [if_pos (by decide +kernel)]; kernel_rfl) | (rw [if_neg (by decide +kernel)]; exact ⟨rfl, rfl⟩))
    (fun os started H enc _ => lifted os started H enc)

theorem proved : Rows.WalScansSaid := over


end Go.Proofs.Ytnkfdnehkihbeaa.walScans
