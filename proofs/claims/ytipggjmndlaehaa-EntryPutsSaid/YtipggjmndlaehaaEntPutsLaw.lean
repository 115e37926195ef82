/- EntryPuts: an entry, what is hard, and a snap have the bytes that the document says, and are taken from them as they were, if they are right. For every input. -/
import Derived.Test.YtipggjmndlaehaaEntPuts
import Derived.Test.YtipggjmndlaehaaEntArgs
import Derived.Test.YtipggjmndlaehaaLawEnd
import Derived.ChangeMaps5
import Derived.BigQuiet
namespace Go.Proofs.Ytipggjmndlaehaa.entryPuts
open Go.ChangeShapes Go.WideShapes Go.ChangeAt Go.RowKit Go.Proofs.Ytipggjmndlaehaa
set_option linter.unusedVariables false
set_option linter.unusedSimpArgs false

theorem own : ownKnob Try.prog.godebug = none := by kernel_rfl

set_option maxRecDepth 100000 in
theorem lifted (os : Os) (started : os.Started) (H : Type) (enc : TypeId × Value → H) :
    ReturnsInHanded {} Try.checked os 4 .any (Rows.entryPutsSpec.pre6 enc Try.prog Try.f4 Rows.entryPutsRow.domain false) (Rows.entryPutsSpec.post enc Try.prog Try.f4 false true false false) := by
  refine returnsInHanded_of_change (C := Try.checked) own started (by kernel_rfl) Try.func4
    (ChangeSpec.witness6 (enc := enc) (C := Try.checked) false ⟨#[], #[.agg #[.int .i64 0, .int .i64 0, .slice none 0 0], .agg #[.int .i64 0, .int .i64 0], .agg #[.int .i64 0, .int .i64 0, .slice none 0 0]], []⟩ 8 (by kernel_rfl) (by kernel_rfl) (by kernel_rfl) (by kernel_rfl)) ?_
  intro W base args ds gs before hval0 hW hcnd _
  have hval : ∀ (j : Nat) t v, Try.f4.params[j]? = some t → args[j]? = some v → Value.okWide Try.prog W .any base t v := hval0
  have hW' := hW
  obtain ⟨p, q, hA0, hV, rfl, hfz, hnd⟩ := hW
  have hA : DataW.TrodAll enc Try.prog W 0 (fun _ => true) true Try.f4.params.toList args.toList ds p := hA0
  rw [Try.params4] at hA hval
  obtain ⟨v0, vs0, d0, ds0, p0, q0, hargs, rfl, rfl, h0, r0⟩ := trodAll_cons hA
  obtain ⟨v1, vs1, d1, ds1, p1, q1, rfl, rfl, rfl, h1, r1⟩ := trodAll_cons r0
  obtain ⟨v2, vs2, d2, ds2, p2, q2, rfl, rfl, rfl, h2, r2⟩ := trodAll_cons r1
  obtain ⟨rfl, rfl, rfl⟩ := trodAll_nil r2
  obtain rfl : args = #[v0, v1, v2] := by cases args; simp_all
  obtain ⟨rfl, rfl⟩ := trodVars_none hV
  obtain ⟨i0, t0, A0, n0, c0, l0, rfl, hm0, hl0, hz0⟩ := arg_ent Try.underlying31 (by kernel_rfl) (by kernel_rfl) rfl rfl rfl (hval 0 31 v0 rfl rfl) h0 (fun x hx => hW'.lt x (by simp [hx]))
  obtain ⟨x1, y1, rfl⟩ := arg_hard (hval 1 24 v1 rfl rfl) h1
  obtain ⟨i2, t2, A2, n2, c2, l2, rfl, hm2, hl2, hz2⟩ := arg_ent Try.underlying27 (by kernel_rfl) (by kernel_rfl) rfl rfl rfl (hval 2 27 v2 rfl rfl) h2 (fun x hx => hW'.lt x (by simp [hx]))
  have fin : ∀ W', Below W.heap.size W W' → Rows.entryPutsSpec.post enc Try.prog Try.f4 false true false false W #[.agg #[.int .i64 i0, .int .i64 t0, .slice A0 n0 c0], .agg #[.int .i64 x1, .int .i64 y1], .agg #[.int .i64 i2, .int .i64 t2, .slice A2 n2 c2]] (.bool true) W' :=
    fun W' hb => law_end (by kernel_rfl) (by decide +kernel) rfl rfl Try.underlying4 hW' rfl rfl rfl hb
  exact (entryPuts.walk i0 t0 A0 n0 c0 l0 x1 y1 i2 t2 A2 n2 c2 l2 W (Nat.le_trans hl0.2.1 hm0) (Nat.le_trans hl2.2.1 hm2) hl0 hl2 hz0 hz2).mono fun e W' ⟨he, hb⟩ => ⟨_, he, fin W' hb⟩

theorem over : Rows.entryPutsRow.holds Try.pinned (OpenSpec.ofChange Rows.entryPutsSpec) :=
  OpenClaim.holds_of_wide 4 Try.f4 rfl rfl rfl rfl rfl rfl rfl ⟨rfl, rfl, rfl, rfl, rfl⟩ rfl rfl rfl rfl rfl (by kernel_rfl) Try.func4 (by kernel_rfl)
    (of_decide_eq_true (by kernel_rfl)) (by unfold Func.isWrapper; first | (rw [if_pos (by decide +kernel)]; kernel_rfl) | (rw [if_neg (by decide +kernel)]; exact ⟨rfl, rfl⟩))
    (fun os started H enc _ => lifted os started H enc)

theorem proved : Rows.EntryPutsSaid := over


end Go.Proofs.Ytipggjmndlaehaa.entryPuts
