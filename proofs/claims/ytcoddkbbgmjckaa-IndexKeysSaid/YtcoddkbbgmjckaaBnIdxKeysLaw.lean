/- IndexKeys: a range and a key are what the document says. For every input. -/
import Derived.Test.YtcoddkbbgmjckaaBn27
import Derived.Test.YtcoddkbbgmjckaaBn18
import Derived.Test.YtcoddkbbgmjckaaBn46
import Derived.ChangeMaps5
import Derived.BigQuiet
namespace Go.Proofs.Ytcoddkbbgmjckaa
open Go.RowKit
set_option linter.unusedVariables false
set_option linter.unusedSimpArgs false
attribute [local go_sem] Oper.semAt_some

set_option maxRecDepth 100000 in
set_option maxHeartbeats 6400000 in
theorem indexKeys_walk (S : Says) (a b k : ByteArray) (w : World) (ha : a.size ≤ maxLen) (hb : b.size ≤ maxLen) (hk : k.size ≤ maxLen) :
    Calls Try.prog 3 #[.string a, .string b, .string k] w fun e w' => e = .returned (.bool true) ∧ Below w.heap.size w w' := by
  have H0 := Lib.hid (show Below w.heap.size w w from Below.refl _ _)
  have HZ := Lib.hid (And.intro ha (And.intro hb hk))
  clear ha hb hk
  go_enter Try.func3, Try.ntmps3
  obtain ⟨n1, y1⟩ : ∃ n1, IntKind.i64.wrap ((a.size : Int) + (b.size : Int)) = n1 := ⟨_, rfl⟩
  obtain ⟨n2, y2⟩ : ∃ n2, IntKind.i64.wrap (n1 + (k.size : Int)) = n2 := ⟨_, rfl⟩
  have hC := awake15_any S w
  go_wp2_with fail
  refine hC.mono ?_
  rintro e w1 ⟨rfl, hbq⟩
  replace H0 := Lib.hid (H0.out.trans (hbq.mono H0.out.size))
  clear hC hbq
  by_cases hg : 500 < n2
  · have e5 : decide (500 < n2) = true := decide_eq_true hg
    clear hg
    have hC := awake15_any S w1
    go_wp2_with fail
    refine hC.mono ?_
    rintro e w2 ⟨rfl, hbq⟩
    replace H0 := Lib.hid (H0.out.trans (hbq.mono H0.out.size))
    clear hC hbq
    have hbz := H0.out
    go_wp2
    go_ret
    exact ⟨rfl, hbz⟩
  have e5 : decide (500 < n2) = false := decide_eq_false hg
  clear hg
  obtain ⟨b1, hb1⟩ : ∃ b1, Idx.keyB k = b1 := ⟨_, rfl⟩
  obtain ⟨b2, hb2⟩ : ∃ b2, Idx.rangeB a b = b2 := ⟨_, rfl⟩
  obtain ⟨b3, hb3⟩ : ∃ b3, Idx.inB a b k = b3 := ⟨_, rfl⟩
  have HB3 := Lib.hid (And.intro hb1 (And.intro hb2 hb3))
  clear hb1 hb2 hb3
  have hC := S.key k w1 HZ.out.2.2
  rw [HB3.out.1] at hC
  go_wp2_with fail
  refine hC.mono ?_
  rintro e w2 ⟨rfl, hbq⟩
  replace H0 := Lib.hid (H0.out.trans (hbq.mono H0.out.size))
  clear hC hbq
  have hC := keyR_any k HZ.out.2.2 w2
  rw [HB3.out.1] at hC
  go_wp2_with fail
  refine hC.mono ?_
  rintro e vw2 ⟨rfl, rfl⟩
  clear hC
  have hC := S.range a b vw2 HZ.out.1 HZ.out.2.1
  rw [HB3.out.2.1] at hC
  go_wp2_with fail
  refine hC.mono ?_
  rintro e w3 ⟨rfl, hbq⟩
  replace H0 := Lib.hid (H0.out.trans (hbq.mono H0.out.size))
  clear hC hbq
  have hC := rangeR_any a b HZ.out.1 HZ.out.2.1 w3
  rw [HB3.out.2.1] at hC
  go_wp2_with fail
  refine hC.mono ?_
  rintro e vw3 ⟨rfl, rfl⟩
  clear hC
  have hC := S.inn a b k vw3 HZ.out.1 HZ.out.2.1 HZ.out.2.2
  rw [HB3.out.2.2] at hC
  go_wp2_with fail
  refine hC.mono ?_
  rintro e w4 ⟨rfl, hbq⟩
  replace H0 := Lib.hid (H0.out.trans (hbq.mono H0.out.size))
  clear hC hbq
  have hC := inR_any a b k HZ.out.1 HZ.out.2.1 HZ.out.2.2 w4
  rw [HB3.out.2.2] at hC
  go_wp2_with fail
  refine hC.mono ?_
  rintro e vw4 ⟨rfl, rfl⟩
  clear hC
  have hbz := H0.out
  go_wp2
  go_ret
  exact ⟨rfl, hbz⟩


end Go.Proofs.Ytcoddkbbgmjckaa

namespace Go.Proofs.Ytcoddkbbgmjckaa.indexKeys
open Go.ChangeShapes Go.WideShapes Go.ChangeAt Go.RowKit Go.Proofs.Ytcoddkbbgmjckaa
set_option linter.unusedVariables false
set_option linter.unusedSimpArgs false

theorem own : ownKnob Try.prog.godebug = none := by kernel_rfl

set_option maxRecDepth 100000 in
theorem lifted (os : Os) (started : os.Started) (H : Type) (enc : TypeId × Value → H) :
    ReturnsInHanded {} Try.checked os 3 .any (Rows.indexKeysSpec.pre6 enc Try.prog Try.f3 Rows.indexKeysRow.domain false) (Rows.indexKeysSpec.post enc Try.prog Try.f3 false true false false) := by
  refine returnsInHanded_of_change (C := Try.checked) own started (by kernel_rfl) Try.func3
    (ChangeSpec.witness6 (enc := enc) (C := Try.checked) false ⟨#[], #[.string ⟨#[]⟩, .string ⟨#[]⟩, .string ⟨#[]⟩], []⟩ 8 (by kernel_rfl) (by kernel_rfl) (by kernel_rfl) (by kernel_rfl)) ?_
  intro W base args ds gs before hval0 hW hcnd _
  have hval : ∀ (j : Nat) t v, Try.f3.params[j]? = some t → args[j]? = some v → Value.okWide Try.prog W .any base t v := hval0
  have hW' := hW
  obtain ⟨p, q, hA0, hV, rfl, hfz, hnd⟩ := hW
  have hA : DataW.TrodAll enc Try.prog W 0 (fun _ => true) true Try.f3.params.toList args.toList ds p := hA0
  rw [Try.params3] at hA hval
  obtain ⟨v0, vs0, d0, ds0, p0, q0, hargs, rfl, rfl, h0, r0⟩ := trodAll_cons hA
  obtain ⟨v1, vs1, d1, ds1, p1, q1, rfl, rfl, rfl, h1, r1⟩ := trodAll_cons r0
  obtain ⟨v2, vs2, d2, ds2, p2, q2, rfl, rfl, rfl, h2, r2⟩ := trodAll_cons r1
  obtain ⟨rfl, rfl, rfl⟩ := trodAll_nil r2
  obtain rfl : args = #[v0, v1, v2] := by cases args; simp_all
  obtain ⟨rfl, rfl⟩ := trodVars_none hV
  obtain ⟨s0, rfl, rfl, rfl, ws0⟩ := ChangeMaps.open_string Try.underlying9 (hval 0 9 v0 rfl rfl) h0
  obtain ⟨s1, rfl, rfl, rfl, ws1⟩ := ChangeMaps.open_string Try.underlying9 (hval 1 9 v1 rfl rfl) h1
  obtain ⟨s2, rfl, rfl, rfl, ws2⟩ := ChangeMaps.open_string Try.underlying9 (hval 2 9 v2 rfl rfl) h2
  have fin : ∀ W', Below W.heap.size W W' → Rows.indexKeysSpec.post enc Try.prog Try.f3 false true false false W #[.string s0, .string s1, .string s2] (.bool true) W' :=
    fun W' hb => law_end (by kernel_rfl) (by decide +kernel) rfl rfl Try.underlying4 hW' rfl rfl rfl hb
  exact (indexKeys_walk says s0 s1 s2 W ws0 ws1 ws2).mono fun e W' ⟨he, hb⟩ => ⟨_, he, fin W' hb⟩

theorem over : Rows.indexKeysRow.holds Try.pinned (OpenSpec.ofChange Rows.indexKeysSpec) :=
  OpenClaim.holds_of_wide 3 Try.f3 rfl rfl rfl rfl rfl rfl rfl ⟨rfl, rfl, rfl, rfl, rfl⟩ rfl rfl rfl rfl rfl (by kernel_rfl) Try.func3 (by kernel_rfl)
    (of_decide_eq_true (by kernel_rfl)) (by unfold Func.isWrapper; first | (rw [if_pos (by decide +kernel)]; kernel_rfl) | (rw [if_neg (by decide +kernel)]; exact ⟨rfl, rfl⟩))
    (fun os started H enc _ => lifted os started H enc)

theorem proved : Rows.IndexKeysSaid := over


end Go.Proofs.Ytcoddkbbgmjckaa.indexKeys
