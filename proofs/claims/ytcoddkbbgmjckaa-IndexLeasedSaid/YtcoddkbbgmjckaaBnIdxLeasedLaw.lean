/- IndexLeased: the keys that a lease has are what the document says. For every input. -/
import Derived.Test.YtcoddkbbgmjckaaBn27
import Derived.Test.YtcoddkbbgmjckaaBn18
import Derived.Test.YtcoddkbbgmjckaaBn46
import Derived.ChangeMaps5
import Derived.BigQuiet
namespace Go.Proofs.Ytcoddkbbgmjckaa
open Go.RowKit
set_option linter.unusedVariables false
set_option linter.unusedSimpArgs false
attribute [local go_sem] Oper.semAt_some

set_option maxRecDepth 100000 in
set_option maxHeartbeats 6400000 in
theorem indexLeased_walk (S : Says) (A : Option Addr) (len cap : Nat) (K : Nat → Idx.IAct) (le : Int) (w : World) (hA : IActs w A len K) (hm : len ≤ maxLen) (hs : ∀ j, j < len → IActWf (K j)) :
    Calls Try.prog 10 #[.slice A len cap, .int .i64 le] w fun e w' => e = .returned (.bool true) ∧ Below w.heap.size w w' := by
  have HV := Lib.hid (And.intro hA hs)
  clear hA hs
  have H0 := Lib.hid (show Below w.heap.size w w from Below.refl _ _)
  go_enter Try.func10, Try.ntmps10
  have hC := awake15_any S w
  go_wp2_with fail
  refine hC.mono ?_
  rintro e w1 ⟨rfl, hbq⟩
  replace H0 := Lib.hid (H0.out.trans (hbq.mono H0.out.size))
  clear hC hbq
  have hC := fewI_any A len cap K 60 w1 (HV.out.1.below H0.out) hm HV.out.2 (by omega)
  go_wp2_with fail
  refine hC.mono ?_
  rintro e w1' ⟨b0, rfl, hb40, rfl⟩
  clear hC
  cases b0 with
  | false =>
    have hC := awake15_any S w1
    go_wp2_with fail
    refine hC.mono ?_
    rintro e w2 ⟨rfl, hbq⟩
    replace H0 := Lib.hid (H0.out.trans (hbq.mono H0.out.size))
    clear hC hbq
    have hbz := H0.out
    go_wp2
    go_ret
    exact ⟨rfl, hbz⟩
  | true =>
    obtain ⟨h60, hsh⟩ := hb40 rfl
    have HS := Lib.hid hsh
    clear hb40 hsh
    have hC := made15_any S A len cap K w1 (HV.out.1.below H0.out) (by omega) HS.out
    go_wp2_with fail
    refine hC.mono ?_
    rintro e w2 ⟨u, R, n, c, xs, rfl, hM, hbq⟩
    replace H0 := Lib.hid (H0.out.trans (hbq.mono H0.out.size))
    have HI := Lib.hid hM
    clear hM
    clear hC hbq
    have HF := Lib.hid (runK_fit K (show len ≤ 100 by omega))
    obtain ⟨l, hl⟩ : ∃ l, runK K len = l := ⟨_, rfl⟩
    rw [hl] at HI HF
    clear hl
    obtain ⟨W3, hW⟩ : ∃ W, w2.alloc (.cells #[.pointer u] 32) = W := ⟨_, rfl⟩
    have hbq : Below w2.heap.size w2 W3 := by rw [← hW]; exact (Below.refl _ _).alloc (Nat.le_refl _) _
    have hrq : Box W3 w2.heap.size u := by rw [← hW]; exact heap_alloc_new _ _
    have HW := Lib.hid hW
    clear hW
    replace H0 := Lib.hid (H0.out.trans (hbq.mono H0.out.size))
    replace HI := Lib.hid (HI.out.below hbq)
    have HX := Lib.hid hrq
    clear hbq hrq
    go_upto_region 4 with fail
    rw [HW.out]
    clear HW
    have hC := S.leased u l le W3 HI.out.ix HF.out
    have bHX := HX.out.cell
    go_wp2_with fail
    refine hC.mono ?_
    rintro e w4 ⟨R1, n1, c1, rfl, hO, hbq⟩
    clear bHX
    replace H0 := Lib.hid (H0.out.trans (hbq.mono H0.out.size))
    replace HX := Lib.hid (HX.out.below hbq)
    replace HI := Lib.hid (HI.out.below hbq)
    have HO1 := Lib.hid (show OwnR 9 1 _ w4 R1 n1 c1 (rowS (Idx.leasedI l le)) from hO)
    clear hO
    clear hC hbq
    have hC := leasedR15_any R n c xs le w4 (HI.out.g HF.out)
    rw [HI.out.e] at hC
    have bHX := HX.out.cell
    go_wp2_with fail
    refine hC.mono ?_
    rintro e w5 ⟨R2, n2, c2, rfl, hO, hn, hbq⟩
    clear bHX
    replace H0 := Lib.hid (H0.out.trans (hbq.mono H0.out.size))
    replace HX := Lib.hid (HX.out.below hbq)
    replace HI := Lib.hid (HI.out.below hbq)
    replace HO1 := Lib.hid (HO1.out.next hbq)
    clear hn
    have HO2 := Lib.hid (show OwnR 9 1 _ w5 R2 n2 c2 (rowS (Idx.leasedI l le)) from hO)
    clear hO
    clear hC hbq
    have hn1 : (Idx.leasedI l le).length = n1 := by have h1 := HO1.out.sp.1; rw [rowS_len] at h1; omega
    have hn2 : (Idx.leasedI l le).length = n2 := by have h1 := HO2.out.sp.1; rw [rowS_len] at h1; omega
    obtain rfl : n1 = n2 := by omega
    clear hn2
    have hnb : n1 ≤ 1000 := by rw [← hn1]; unfold Idx.leasedI; rw [List.length_map]; exact Nat.le_trans (List.length_filter_le _ _) HF.out.n
    obtain ⟨L, hL⟩ : ∃ L, Idx.leasedI l le = L := ⟨_, rfl⟩
    rw [hL] at HO1 HO2 hn1
    clear hL
    have e9 : ((n1 : Int) != (n1 : Int)) = false := by simp
    go_wp2_with fail
    go_loopw [40] (fun v40 wr => ∃ k : Nat, k ≤ n1 ∧ v40 = .int .i64 (k : Int) ∧ Below w5.heap.size w5 wr) (fun v40 _ => n1 - (intOf v40).toNat)
    case atStart => exact ⟨0, Nat.zero_le _, rfl, Below.refl _ _⟩
    case round =>
      obtain ⟨k, hk, rfl, hb⟩ := hrel
      have HB1 := Lib.hid hb
      clear hb
      by_cases hlt : k < n1
      · have l1 : decide ((k : Int) < (n1 : Int)) = true := decide_eq_true (by omega)
        have k4 : (k : Int) < (n1 : Int) := by omega
        obtain ⟨g, off, rfl, hg, hc, _⟩ := (HO1.out.next HB1.out).sp.at_ (by omega) k hlt
        obtain ⟨g2, off2, rfl, hg2, hc2, _⟩ := (HO2.out.next HB1.out).sp.at_ (by omega) k hlt
        have hx : (rowS L)[k * 1 + 0]? = some (.string (L[k]'(by omega))) := by unfold rowS; rw [Nat.mul_one, Nat.add_zero, List.getElem?_map, List.getElem?_eq_getElem (by omega)]; rfl
        have d1 := hc 0 (by omega) _ hx
        have d2 := hc2 0 (by omega) _ hx
        rw [Nat.mul_one, Nat.add_zero] at d1 d2
        obtain ⟨sk, hsk⟩ : ∃ sk, L[k]'(by omega) = sk := ⟨_, rfl⟩
        rw [hsk] at d1 d2
        clear hc hc2 hx hsk
        go_wp2_with fail
        go_big_quiet (fail)
        go_wp2
        go_roundw
        case rel => exact ⟨k + 1, by omega, by go_num, below_drewN HB1.out _⟩
        case measure =>
          simp [intOf]
          omega
      · obtain rfl : k = n1 := by omega
        have l1 : decide ((k : Int) < (k : Int)) = false := decide_eq_false (by omega)
        have hbz := H0.out.trans (HB1.out.mono H0.out.size)
        go_wp2
        go_ret
        exact ⟨rfl, hbz⟩


end Go.Proofs.Ytcoddkbbgmjckaa

namespace Go.Proofs.Ytcoddkbbgmjckaa.indexLeased
open Go.ChangeShapes Go.WideShapes Go.ChangeAt Go.RowKit Go.Proofs.Ytcoddkbbgmjckaa
set_option linter.unusedVariables false
set_option linter.unusedSimpArgs false

theorem own : ownKnob Try.prog.godebug = none := by kernel_rfl

set_option maxRecDepth 100000 in
theorem lifted (os : Os) (started : os.Started) (H : Type) (enc : TypeId × Value → H) :
    ReturnsInHanded {} Try.checked os 10 .any (Rows.indexLeasedSpec.pre6 enc Try.prog Try.f10 Rows.indexLeasedRow.domain false) (Rows.indexLeasedSpec.post enc Try.prog Try.f10 false true false false) := by
  refine returnsInHanded_of_change (C := Try.checked) own started (by kernel_rfl) Try.func10
    (ChangeSpec.witness6 (enc := enc) (C := Try.checked) false ⟨#[], #[.slice none 0 0, .int .i64 0], []⟩ 8 (by kernel_rfl) (by kernel_rfl) (by kernel_rfl) (by kernel_rfl)) ?_
  intro W base args ds gs before hval0 hW hcnd _
  have hval : ∀ (j : Nat) t v, Try.f10.params[j]? = some t → args[j]? = some v → Value.okWide Try.prog W .any base t v := hval0
  have hW' := hW
  obtain ⟨p, q, hA0, hV, rfl, hfz, hnd⟩ := hW
  have hA : DataW.TrodAll enc Try.prog W 0 (fun _ => true) true Try.f10.params.toList args.toList ds p := hA0
  rw [Try.params10] at hA hval
  obtain ⟨v0, vs0, d0, ds0, p0, q0, hargs, rfl, rfl, h0, r0⟩ := trodAll_cons hA
  obtain ⟨v1, vs1, d1, ds1, p1, q1, rfl, rfl, rfl, h1, r1⟩ := trodAll_cons r0
  obtain ⟨rfl, rfl, rfl⟩ := trodAll_nil r1
  obtain rfl : args = #[v0, v1] := by cases args; simp_all
  obtain ⟨rfl, rfl⟩ := trodVars_none hV
  obtain ⟨A0, len0, cap0, K0, rfl, hlc0, hm0, ha0, hw0⟩ := arg_iacts (hval 0 26 v0 rfl rfl) h0 (fun x hx => hW'.lt x (by simp [hx]))
  obtain ⟨a1, rfl, rfl, rfl, w1⟩ := open_int Try.underlying2 (hval 1 2 v1 rfl rfl) h1
  have fin : ∀ W', Below W.heap.size W W' → Rows.indexLeasedSpec.post enc Try.prog Try.f10 false true false false W #[.slice A0 len0 cap0, .int .i64 a1] (.bool true) W' :=
    fun W' hb => law_end (by kernel_rfl) (by decide +kernel) rfl rfl Try.underlying4 hW' rfl rfl rfl hb
  exact (indexLeased_walk says A0 len0 cap0 K0 a1 W ha0 (Nat.le_trans hlc0 hm0) hw0).mono fun e W' ⟨he, hb⟩ => ⟨_, he, fin W' hb⟩

theorem over : Rows.indexLeasedRow.holds Try.pinned (OpenSpec.ofChange Rows.indexLeasedSpec) :=
  OpenClaim.holds_of_wide 10 Try.f10 rfl rfl rfl rfl rfl rfl rfl ⟨rfl, rfl, rfl, rfl, rfl⟩ rfl rfl rfl rfl rfl (by kernel_rfl) Try.func10 (by kernel_rfl)
    (of_decide_eq_true (by kernel_rfl)) (by unfold Func.isWrapper; first | (rw [if_pos (by decide +kernel)]; kernel_rfl) | (rw [if_neg (by decide +kernel)]; exact ⟨rfl, rfl⟩))
    (fun os started H enc _ => lifted os started H enc)

theorem proved : Rows.IndexLeasedSaid := over


end Go.Proofs.Ytcoddkbbgmjckaa.indexLeased
