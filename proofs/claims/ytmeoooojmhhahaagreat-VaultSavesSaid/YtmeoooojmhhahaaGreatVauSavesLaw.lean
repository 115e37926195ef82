/- VaultSaves: wherever the power goes within a Save, an opened vault has all that it had, and of what was under way what is hard, or that and the first entries; all of it, if it answered OK. For every input. -/
import Derived.Test.YtmeoooojmhhahaaGreatVauSavB
import Derived.Test.YtmeoooojmhhahaaGreatEntP
import Derived.Test.YtmeoooojmhhahaaGreatCmn
import Derived.ChangeMaps5
import Derived.BigQuiet
namespace Go.Proofs.YtmeoooojmhhahaaGreat.vauSaves
open Go.ChangeShapes Go.WideShapes Go.ChangeAt Go.RowKit Go.Proofs.YtmeoooojmhhahaaGreat
set_option linter.unusedVariables false
set_option linter.unusedSimpArgs false

theorem own : ownKnob Tryz.prog.godebug = none := by kernel_rfl

set_option maxRecDepth 100000 in
theorem lifted (os : Os) (started : os.Started) (H : Type) (enc : TypeId × Value → H) :
    ReturnsInHanded {} Tryz.checked os 4 .any (Rows.vaultSavesSpec.pre6 enc Tryz.prog Tryz.f4 Rows.vaultSavesRow.domain false) (Rows.vaultSavesSpec.post enc Tryz.prog Tryz.f4 false true false false) := by
  refine returnsInHanded_of_change_sized (C := Tryz.checked) own started (by kernel_rfl) Tryz.func4
    (ChangeSpec.witness6 (enc := enc) (C := Tryz.checked) false ⟨#[], #[.agg #[.int .i64 0, .int .i64 0], .agg #[.int .i64 0, .int .i64 0, .slice none 0 0], .slice none 0 0, .agg #[.int .i64 0, .int .i64 0], .slice none 0 0, .int .u8 0, .int .i64 0], []⟩ 8 (by kernel_rfl) (by kernel_rfl) (by kernel_rfl) (by kernel_rfl)) ?_
  intro W base args ds gs before hval0 hW hcnd hsz0 _
  have hsz : (DataW.weightsEach Tryz.prog (Tryz.f4.params.toList ++ Rows.vaultSavesSpec.plain.varTypes Tryz.prog) (ds ++ gs)).all (· ≤ reachBytes) = true := hsz0
  have hval : ∀ (j : Nat) t v, Tryz.f4.params[j]? = some t → args[j]? = some v → Value.okWide Tryz.prog W .any base t v := hval0
  have hW' := hW
  obtain ⟨p, q, hA0, hV, rfl, hfz, hnd⟩ := hW
  have hA : DataW.TrodAll enc Tryz.prog W 0 (fun _ => true) true Tryz.f4.params.toList args.toList ds p := hA0
  rw [Tryz.params4] at hA hval hsz
  obtain ⟨v0, vs0, d0, ds0, p0, q0, hargs, rfl, rfl, h0, r0⟩ := trodAll_cons hA
  obtain ⟨v1, vs1, d1, ds1, p1, q1, rfl, rfl, rfl, h1, r1⟩ := trodAll_cons r0
  obtain ⟨v2, vs2, d2, ds2, p2, q2, rfl, rfl, rfl, h2, r2⟩ := trodAll_cons r1
  obtain ⟨v3, vs3, d3, ds3, p3, q3, rfl, rfl, rfl, h3, r3⟩ := trodAll_cons r2
  obtain ⟨v4, vs4, d4, ds4, p4, q4, rfl, rfl, rfl, h4, r4⟩ := trodAll_cons r3
  obtain ⟨v5, vs5, d5, ds5, p5, q5, rfl, rfl, rfl, h5, r5⟩ := trodAll_cons r4
  obtain ⟨v6, vs6, d6, ds6, p6, q6, rfl, rfl, rfl, h6, r6⟩ := trodAll_cons r5
  obtain ⟨rfl, rfl, rfl⟩ := trodAll_nil r6
  obtain rfl : args = #[v0, v1, v2, v3, v4, v5, v6] := by cases args; simp_all
  obtain ⟨rfl, rfl⟩ := trodVars_none hV
  obtain ⟨x0, y0, rfl⟩ := arg_hard (hval 0 32 v0 rfl rfl) h0
  obtain ⟨i1, t1, A1, n1, c1, l1, rfl, hm1, hl1, hz1⟩ := arg_ent Tryz.underlying35 (by kernel_rfl) (by kernel_rfl) rfl rfl rfl (hval 1 35 v1 rfl rfl) h1 (fun x hx => hW'.lt x (by simp [hx]))
  obtain ⟨A2, len2, cap2, ls2, rfl, hm2, hents2, hw2⟩ := arg_ents (hval 2 36 v2 rfl rfl) h2 (fun x hx => hW'.lt x (by simp [hx]))
  obtain ⟨x3, y3, rfl⟩ := arg_hard (hval 3 32 v3 rfl rfl) h3
  obtain ⟨A4, len4, cap4, ls4, rfl, hm4, hents4, hw4⟩ := arg_ents (hval 4 36 v4 rfl rfl) h4 (fun x hx => hW'.lt x (by simp [hx]))
  obtain ⟨a5, rfl, rfl, rfl, w5⟩ := open_int Tryz.underlying5 (hval 5 5 v5 rfl rfl) h5
  obtain ⟨a6, rfl, rfl, rfl, w6⟩ := open_int Tryz.underlying3 (hval 6 3 v6 rfl rfl) h6
  have fin : ∀ W', Below W.heap.size W W' → Rows.vaultSavesSpec.post enc Tryz.prog Tryz.f4 false true false false W #[.agg #[.int .i64 x0, .int .i64 y0], .agg #[.int .i64 i1, .int .i64 t1, .slice A1 n1 c1], .slice A2 len2 cap2, .agg #[.int .i64 x3, .int .i64 y3], .slice A4 len4 cap4, .int .u8 a5, .int .i64 a6] (.bool true) W' :=
    fun W' hb => law_end (by kernel_rfl) (by decide +kernel) rfl rfl Tryz.underlying4 hW' rfl rfl rfl hb
  have hd2 := hw2 fun n hn => by simpa using List.all_eq_true.1 hsz _ (DataW.weights_mem_each (j := 2) rfl rfl n hn)
  have hd4 := hw4 fun n hn => by simpa using List.all_eq_true.1 hsz _ (DataW.weights_mem_each (j := 4) rfl rfl n hn)
  obtain rfl : l1.length = n1 := hl1.1
  exact (vauSaves.walk ⟨x0, y0⟩ ⟨i1, t1, l1⟩ A1 c1 A2 len2 cap2 ls2 ⟨x3, y3⟩ A4 len4 cap4 ls4 a5 a6 W hl1 hents2 hents4 (Nat.le_trans hents2.2.1 hm2) (Nat.le_trans hents4.2.1 hm4) hd2 hd4 (wf_u8' w5) (wf_i64' w6)).mono fun e W' ⟨he, hb⟩ => ⟨_, he, fin W' hb⟩

theorem over : Rows.vaultSavesRow.holds Tryz.pinned (OpenSpec.ofChange Rows.vaultSavesSpec) :=
  OpenClaim.holds_of_wide 4 Tryz.f4 rfl rfl rfl rfl rfl rfl rfl ⟨rfl, rfl, rfl, rfl, rfl⟩ rfl rfl rfl rfl rfl (by kernel_rfl) Tryz.func4 (by kernel_rfl)
    (of_decide_eq_true (by kernel_rfl)) (by unfold Func.isWrapper; first | (rw [if_pos (by decide +kernel)]; kernel_rfl) | (rw [if_neg (by decide +kernel)]; exact ⟨rfl, rfl⟩))
    (fun os started H enc _ => lifted os started H enc)

theorem proved : Rows.VaultSavesSaid := over


end Go.Proofs.YtmeoooojmhhahaaGreat.vauSaves
