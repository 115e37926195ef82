/- VaultGoesOn: wherever the power went within a Keep, an opened vault goes on: what is saved in it then is there when it is opened once more. For every input. -/
import Derived.Test.YtmeoooojmhhahaaGreatVauGoB
import Derived.Test.YtmeoooojmhhahaaGreatEntP
import Derived.Test.YtmeoooojmhhahaaGreatCmn
import Derived.ChangeMaps5
import Derived.BigQuiet
namespace Go.Proofs.YtmeoooojmhhahaaGreat.vauGoesOn
open Go.ChangeShapes Go.WideShapes Go.ChangeAt Go.RowKit Go.Proofs.YtmeoooojmhhahaaGreat
set_option linter.unusedVariables false
set_option linter.unusedSimpArgs false

theorem own : ownKnob Tryz.prog.godebug = none := by kernel_rfl

set_option maxRecDepth 100000 in
theorem lifted (os : Os) (started : os.Started) (H : Type) (enc : TypeId × Value → H) :
    ReturnsInHanded {} Tryz.checked os 8 .any (Rows.vaultGoesOnSpec.pre6 enc Tryz.prog Tryz.f8 Rows.vaultGoesOnRow.domain false) (Rows.vaultGoesOnSpec.post enc Tryz.prog Tryz.f8 false true false false) := by
  refine returnsInHanded_of_change_sized (C := Tryz.checked) own started (by kernel_rfl) Tryz.func8
    (ChangeSpec.witness6 (enc := enc) (C := Tryz.checked) false ⟨#[], #[.agg #[.int .i64 0, .int .i64 0], .slice none 0 0, .agg #[.int .i64 0, .int .i64 0], .agg #[.int .i64 0, .int .i64 0, .slice none 0 0], .int .u8 0, .slice none 0 0, .int .i64 0, .int .u8 0], []⟩ 8 (by kernel_rfl) (by kernel_rfl) (by kernel_rfl) (by kernel_rfl)) ?_
  intro W base args ds gs before hval0 hW hcnd hsz0 _
  have hsz : (DataW.weightsEach Tryz.prog (Tryz.f8.params.toList ++ Rows.vaultGoesOnSpec.plain.varTypes Tryz.prog) (ds ++ gs)).all (· ≤ reachBytes) = true := hsz0
  have hval : ∀ (j : Nat) t v, Tryz.f8.params[j]? = some t → args[j]? = some v → Value.okWide Tryz.prog W .any base t v := hval0
  have hW' := hW
  obtain ⟨p, q, hA0, hV, rfl, hfz, hnd⟩ := hW
  have hA : DataW.TrodAll enc Tryz.prog W 0 (fun _ => true) true Tryz.f8.params.toList args.toList ds p := hA0
  rw [Tryz.params8] at hA hval hsz
  obtain ⟨v0, vs0, d0, ds0, p0, q0, hargs, rfl, rfl, h0, r0⟩ := trodAll_cons hA
  obtain ⟨v1, vs1, d1, ds1, p1, q1, rfl, rfl, rfl, h1, r1⟩ := trodAll_cons r0
  obtain ⟨v2, vs2, d2, ds2, p2, q2, rfl, rfl, rfl, h2, r2⟩ := trodAll_cons r1
  obtain ⟨v3, vs3, d3, ds3, p3, q3, rfl, rfl, rfl, h3, r3⟩ := trodAll_cons r2
  obtain ⟨v4, vs4, d4, ds4, p4, q4, rfl, rfl, rfl, h4, r4⟩ := trodAll_cons r3
  obtain ⟨v5, vs5, d5, ds5, p5, q5, rfl, rfl, rfl, h5, r5⟩ := trodAll_cons r4
  obtain ⟨v6, vs6, d6, ds6, p6, q6, rfl, rfl, rfl, h6, r6⟩ := trodAll_cons r5
  obtain ⟨v7, vs7, d7, ds7, p7, q7, rfl, rfl, rfl, h7, r7⟩ := trodAll_cons r6
  obtain ⟨rfl, rfl, rfl⟩ := trodAll_nil r7
  obtain rfl : args = #[v0, v1, v2, v3, v4, v5, v6, v7] := by cases args; simp_all
  obtain ⟨rfl, rfl⟩ := trodVars_none hV
  obtain ⟨x0, y0, rfl⟩ := arg_hard (hval 0 32 v0 rfl rfl) h0
  obtain ⟨A1, len1, cap1, ls1, rfl, hm1, hents1, hw1⟩ := arg_ents (hval 1 36 v1 rfl rfl) h1 (fun x hx => hW'.lt x (by simp [hx]))
  obtain ⟨x2, y2, rfl⟩ := arg_hard (hval 2 32 v2 rfl rfl) h2
  obtain ⟨i3, t3, A3, n3, c3, l3, rfl, hm3, hl3, hz3⟩ := arg_ent Tryz.underlying35 (by kernel_rfl) (by kernel_rfl) rfl rfl rfl (hval 3 35 v3 rfl rfl) h3 (fun x hx => hW'.lt x (by simp [hx]))
  obtain ⟨a4, rfl, rfl, rfl, w4⟩ := open_int Tryz.underlying5 (hval 4 5 v4 rfl rfl) h4
  obtain ⟨A5, len5, cap5, Z5, rfl, hlc5, hm5, hrow5, hwz5⟩ := arg_ints Tryz.underlying51 Tryz.underlying3 (by kernel_rfl) (hval 5 51 v5 rfl rfl) h5 (fun x hx => hW'.lt x (by simp [hx]))
  obtain ⟨a6, rfl, rfl, rfl, w6⟩ := open_int Tryz.underlying2 (hval 6 2 v6 rfl rfl) h6
  obtain ⟨a7, rfl, rfl, rfl, w7⟩ := open_int Tryz.underlying5 (hval 7 5 v7 rfl rfl) h7
  have fin : ∀ W', Below W.heap.size W W' → Rows.vaultGoesOnSpec.post enc Tryz.prog Tryz.f8 false true false false W #[.agg #[.int .i64 x0, .int .i64 y0], .slice A1 len1 cap1, .agg #[.int .i64 x2, .int .i64 y2], .agg #[.int .i64 i3, .int .i64 t3, .slice A3 n3 c3], .int .u8 a4, .slice A5 len5 cap5, .int .i64 a6, .int .u8 a7] (.bool true) W' :=
    fun W' hb => law_end (by kernel_rfl) (by decide +kernel) rfl rfl Tryz.underlying4 hW' rfl rfl rfl hb
  have hd1 := hw1 fun n hn => by simpa using List.all_eq_true.1 hsz _ (DataW.weights_mem_each (j := 1) rfl rfl n hn)
  obtain rfl : l3.length = n3 := hl3.1
  exact (vauGoesOn.walk ⟨x0, y0⟩ A1 len1 cap1 ls1 ⟨x2, y2⟩ i3 t3 l3 A3 c3 a4 A5 len5 cap5 Z5 a6 a7 W hl3 hents1 (Nat.le_trans hents1.2.1 hm1) hd1 (wf_u8' w4) (wf_u8' w7) (wf_i64' w6) ⟨fun j hj => wf_i64' (hwz5 j hj), hrow5⟩ hlc5).mono fun e W' ⟨he, hb⟩ => ⟨_, he, fin W' hb⟩

theorem over : Rows.vaultGoesOnRow.holds Tryz.pinned (OpenSpec.ofChange Rows.vaultGoesOnSpec) :=
  OpenClaim.holds_of_wide 8 Tryz.f8 rfl rfl rfl rfl rfl rfl rfl ⟨rfl, rfl, rfl, rfl, rfl⟩ rfl rfl rfl rfl rfl (by kernel_rfl) Tryz.func8 (by kernel_rfl)
    (of_decide_eq_true (by kernel_rfl)) (by unfold Func.isWrapper; first | (rw [if_pos (by decide +kernel)]; kernel_rfl) | (rw [if_neg (by decide +kernel)]; exact ⟨rfl, rfl⟩))
    (fun os started H enc _ => lifted os started H enc)

theorem proved : Rows.VaultGoesOnSaid := over


end Go.Proofs.YtmeoooojmhhahaaGreat.vauGoesOn
