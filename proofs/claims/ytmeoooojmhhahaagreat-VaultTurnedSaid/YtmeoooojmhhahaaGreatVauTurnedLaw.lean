/- VaultTurned: a snap one of whose bytes, but those of its length, became another one is not taken for one: the vault is not opened. For every input. -/
import Derived.Test.YtmeoooojmhhahaaGreatVauTrn
import Derived.Test.YtmeoooojmhhahaaGreatEntP
import Derived.Test.YtmeoooojmhhahaaGreatCmn
import Derived.ChangeMaps5
import Derived.BigQuiet
namespace Go.Proofs.YtmeoooojmhhahaaGreat.vauTurned
open Go.ChangeShapes Go.WideShapes Go.ChangeAt Go.RowKit Go.Proofs.YtmeoooojmhhahaaGreat
set_option linter.unusedVariables false
set_option linter.unusedSimpArgs false

theorem own : ownKnob Tryz.prog.godebug = none := by kernel_rfl

set_option maxRecDepth 100000 in
theorem lifted (os : Os) (started : os.Started) (H : Type) (enc : TypeId × Value → H) :
    ReturnsInHanded {} Tryz.checked os 7 .any (Rows.vaultTurnedSpec.pre6 enc Tryz.prog Tryz.f7 Rows.vaultTurnedRow.domain false) (Rows.vaultTurnedSpec.post enc Tryz.prog Tryz.f7 false true false false) := by
  refine returnsInHanded_of_change (C := Tryz.checked) own started (by kernel_rfl) Tryz.func7
    (ChangeSpec.witness6 (enc := enc) (C := Tryz.checked) false ⟨#[], #[.agg #[.int .i64 0, .int .i64 0], .agg #[.int .i64 0, .int .i64 0, .slice none 0 0], .int .u16 0, .int .u8 0], []⟩ 8 (by kernel_rfl) (by kernel_rfl) (by kernel_rfl) (by kernel_rfl)) ?_
  intro W base args ds gs before hval0 hW hcnd _
  have hval : ∀ (j : Nat) t v, Tryz.f7.params[j]? = some t → args[j]? = some v → Value.okWide Tryz.prog W .any base t v := hval0
  have hW' := hW
  obtain ⟨p, q, hA0, hV, rfl, hfz, hnd⟩ := hW
  have hA : DataW.TrodAll enc Tryz.prog W 0 (fun _ => true) true Tryz.f7.params.toList args.toList ds p := hA0
  rw [Tryz.params7] at hA hval
  obtain ⟨v0, vs0, d0, ds0, p0, q0, hargs, rfl, rfl, h0, r0⟩ := trodAll_cons hA
  obtain ⟨v1, vs1, d1, ds1, p1, q1, rfl, rfl, rfl, h1, r1⟩ := trodAll_cons r0
  obtain ⟨v2, vs2, d2, ds2, p2, q2, rfl, rfl, rfl, h2, r2⟩ := trodAll_cons r1
  obtain ⟨v3, vs3, d3, ds3, p3, q3, rfl, rfl, rfl, h3, r3⟩ := trodAll_cons r2
  obtain ⟨rfl, rfl, rfl⟩ := trodAll_nil r3
  obtain rfl : args = #[v0, v1, v2, v3] := by cases args; simp_all
  obtain ⟨rfl, rfl⟩ := trodVars_none hV
  obtain ⟨x0, y0, rfl⟩ := arg_hard (hval 0 32 v0 rfl rfl) h0
  obtain ⟨i1, t1, A1, n1, c1, l1, rfl, hm1, hl1, hz1⟩ := arg_ent Tryz.underlying35 (by kernel_rfl) (by kernel_rfl) rfl rfl rfl (hval 1 35 v1 rfl rfl) h1 (fun x hx => hW'.lt x (by simp [hx]))
  obtain ⟨a2, rfl, rfl, rfl, w2⟩ := open_int Tryz.underlying22 (hval 2 22 v2 rfl rfl) h2
  obtain ⟨a3, rfl, rfl, rfl, w3⟩ := open_int Tryz.underlying5 (hval 3 5 v3 rfl rfl) h3
  have fin : ∀ W', Below W.heap.size W W' → Rows.vaultTurnedSpec.post enc Tryz.prog Tryz.f7 false true false false W #[.agg #[.int .i64 x0, .int .i64 y0], .agg #[.int .i64 i1, .int .i64 t1, .slice A1 n1 c1], .int .u16 a2, .int .u8 a3] (.bool true) W' :=
    fun W' hb => law_end (by kernel_rfl) (by decide +kernel) rfl rfl Tryz.underlying4 hW' rfl rfl rfl hb
  obtain rfl : l1.length = n1 := hl1.1
  have r2 : 0 ≤ a2 ∧ a2 ≤ 65535 := by simpa [Lit.wf, IntKind.min, IntKind.max, IntKind.bits, IntKind.signed] using w2
  have r3 := wf_u8' w3
  exact (vauTurned.walk ⟨x0, y0⟩ ⟨i1, t1, l1⟩ A1 c1 a2 a3 W hl1 r2 ⟨r3.1, by omega⟩).mono fun e W' ⟨he, hb⟩ => ⟨_, he, fin W' hb⟩

theorem over : Rows.vaultTurnedRow.holds Tryz.pinned (OpenSpec.ofChange Rows.vaultTurnedSpec) :=
  OpenClaim.holds_of_wide 7 Tryz.f7 rfl rfl rfl rfl rfl rfl rfl ⟨rfl, rfl, rfl, rfl, rfl⟩ rfl rfl rfl rfl rfl (by kernel_rfl) Tryz.func7 (by kernel_rfl)
    (of_decide_eq_true (by kernel_rfl)) (by unfold Func.isWrapper; first | (rw [if_pos (by decide +kernel)]; kernel_rfl) | (rw [if_neg (by decide +kernel)]; exact ⟨rfl, rfl⟩))
    (fun os started H enc _ => lifted os started H enc)

theorem proved : Rows.VaultTurnedSaid := over


end Go.Proofs.YtmeoooojmhhahaaGreat.vauTurned
