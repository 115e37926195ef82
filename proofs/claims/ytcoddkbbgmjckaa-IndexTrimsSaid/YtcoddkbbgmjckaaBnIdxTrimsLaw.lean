/- IndexTrims: trimmed, an index answers the same of what is not below the floor. For every input. -/
import Derived.Test.YtcoddkbbgmjckaaBn27
import Derived.Test.YtcoddkbbgmjckaaBn18
import Derived.Test.YtcoddkbbgmjckaaBn46
import Derived.ChangeMaps5
import Derived.BigQuiet
namespace Go.Proofs.Ytcoddkbbgmjckaa
open Go.RowKit
set_option linter.unusedVariables false
set_option linter.unusedSimpArgs false
attribute [local go_sem] Oper.semAt_some

set_option maxRecDepth 100000 in
set_option maxHeartbeats 6400000 in
theorem indexTrims_walk (S : Says) (A : Option Addr) (len cap : Nat) (K : Nat → Idx.IAct) (f : Int) (q : IAsk) (w : World) (hA : IActs w A len K) (hm : len ≤ maxLen) (hs : ∀ j, j < len → IActWf (K j)) (hq : IAskWf q) :
    Calls Try.prog 9 #[.slice A len cap, .int .i64 f, iaskV q] w fun e w' => e = .returned (.bool true) ∧ Below w.heap.size w w' := by
  dsimp only [iaskV]
  obtain ⟨W1, hW1⟩ : ∃ W1, w.alloc (.cells #[.string q.a, .string q.e, .string q.p, .int .i64 q.r, .int .i64 q.s, .int .i64 q.t, .int .i64 q.n, .int .i64 q.l] 47) = W1 := ⟨_, rfl⟩
  have HE := Lib.hid (show Below w.heap.size w W1 by rw [← hW1]; exact (Below.refl _ _).alloc (Nat.le_refl _) _)
  have RQ := Lib.hid (show W1.heap[w.heap.size]? = some (.cells #[.string q.a, .string q.e, .string q.p, .int .i64 q.r, .int .i64 q.s, .int .i64 q.t, .int .i64 q.n, .int .i64 q.l] 47) by rw [← hW1]; exact heap_alloc_new w _)
  have HV := Lib.hid (And.intro (hA.below HE.out) hs)
  have HW := Lib.hid hW1
  clear hA hs hW1
  have H0 := Lib.hid (show Below W1.heap.size W1 W1 from Below.refl _ _)
  go_enter Try.func9, Try.ntmps9
  go_upto_region 1 with fail
  rw [HW.out]
  clear HW
  have hC := awake15_any S W1
  go_wp2_with fail
  refine hC.mono ?_
  rintro e w1 ⟨rfl, hbq⟩
  replace H0 := Lib.hid (H0.out.trans (hbq.mono H0.out.size))
  replace RQ := Lib.hid ((hbq.block _ (hlt RQ.out)).trans RQ.out)
  clear hC hbq
  have hC := fewI_any A len cap K 60 w1 (HV.out.1.below H0.out) hm HV.out.2 (by omega)
  go_wp2_with fail
  refine hC.mono ?_
  rintro e w1' ⟨b0, rfl, hb40, rfl⟩
  clear hC
  cases b0 with
  | false =>
    have hC := awake15_any S w1
    go_wp2_with fail
    refine hC.mono ?_
    rintro e w2 ⟨rfl, hbq⟩
    replace H0 := Lib.hid (H0.out.trans (hbq.mono H0.out.size))
    replace RQ := Lib.hid ((hbq.block _ (hlt RQ.out)).trans RQ.out)
    clear hC hbq
    have hbz := HE.out.trans (H0.out.mono HE.out.size)
    obtain ⟨q0, q1, q2, q3, q4, q5, q6, q7⟩ := (row8 RQ.out).1
    go_wp2
    go_ret
    exact ⟨rfl, hbz⟩
  | true =>
    obtain ⟨h60, hsh⟩ := hb40 rfl
    have HS := Lib.hid hsh
    clear hb40 hsh
    obtain ⟨n1, y1⟩ : ∃ n1, IntKind.i64.wrap ((q.a.size : Int) + (q.e.size : Int)) = n1 := ⟨_, rfl⟩
    by_cases hg : 500 < n1
    · have e5 : decide (500 < n1) = true := decide_eq_true hg
      clear hg
      have hC := fun W => awake15_any S W
      obtain ⟨q0, q1, q2, q3, q4, q5, q6, q7⟩ := (row8 RQ.out).1
      go_wp2_with fail
      refine (hC _).mono ?_
      rintro e w2 ⟨rfl, hbq⟩
      clear q0 q1 q2 q3 q4 q5 q6 q7
      replace H0 := Lib.hid (H0.out.trans (hbq.mono H0.out.size))
      replace RQ := Lib.hid ((hbq.block _ (hlt RQ.out)).trans RQ.out)
      clear hC hbq
      have hbz := HE.out.trans (H0.out.mono HE.out.size)
      obtain ⟨q0, q1, q2, q3, q4, q5, q6, q7⟩ := (row8 RQ.out).1
      go_wp2
      go_ret
      exact ⟨rfl, hbz⟩
    have e5 : decide (500 < n1) = false := decide_eq_false hg
    have HZ := Lib.hid (show q.a.size ≤ maxLen ∧ q.e.size ≤ maxLen from ⟨hq.a, hq.e⟩)
    clear hg
    have hC := made15_any S A len cap K w1 (HV.out.1.below H0.out) (by omega) HS.out
    obtain ⟨q0, q1, q2, q3, q4, q5, q6, q7⟩ := (row8 RQ.out).1
    go_wp2_with fail
    refine hC.mono ?_
    rintro e w2 ⟨u, R, n, c, xs, rfl, hM, hbq⟩
    clear q0 q1 q2 q3 q4 q5 q6 q7
    replace H0 := Lib.hid (H0.out.trans (hbq.mono H0.out.size))
    replace RQ := Lib.hid ((hbq.block _ (hlt RQ.out)).trans RQ.out)
    have HI := Lib.hid hM
    clear hM
    clear hC hbq
    have HF := Lib.hid (runK_fit K (show len ≤ 100 by omega))
    obtain ⟨l, hl⟩ : ∃ l, runK K len = l := ⟨_, rfl⟩
    rw [hl] at HI HF
    clear hl
    obtain ⟨W3, hW⟩ : ∃ W, w2.alloc (.cells #[.pointer u] 32) = W := ⟨_, rfl⟩
    have hbq : Below w2.heap.size w2 W3 := by rw [← hW]; exact (Below.refl _ _).alloc (Nat.le_refl _) _
    have hrq : Box W3 w2.heap.size u := by rw [← hW]; exact heap_alloc_new _ _
    have HW := Lib.hid hW
    clear hW
    replace H0 := Lib.hid (H0.out.trans (hbq.mono H0.out.size))
    replace RQ := Lib.hid ((hbq.block _ (hlt RQ.out)).trans RQ.out)
    replace HI := Lib.hid (HI.out.below hbq)
    have HX := Lib.hid hrq
    clear hbq hrq
    go_upto_region 4 with fail
    rw [HW.out]
    clear HW
    have htz := Idx.trim_sizes HF.out.wf f
    have HFt := Lib.hid (show Fit (Idx.trimI l f) from ⟨Idx.trim_wf HF.out.wf f, Nat.le_trans htz.1 HF.out.n, Nat.le_trans htz.2 HF.out.t⟩)
    clear htz
    have hC := S.trim u l f W3 HI.out.ix HF.out
    obtain ⟨q0, q1, q2, q3, q4, q5, q6, q7⟩ := (row8 RQ.out).1
    have bHX := HX.out.cell
    go_wp2_with fail
    refine hC.mono ?_
    rintro e w4 ⟨v, rfl, hD, hbq⟩
    clear q0 q1 q2 q3 q4 q5 q6 q7 bHX
    replace H0 := Lib.hid (H0.out.trans (hbq.mono H0.out.size))
    replace RQ := Lib.hid ((hbq.block _ (hlt RQ.out)).trans RQ.out)
    replace HX := Lib.hid (HX.out.below hbq)
    replace HI := Lib.hid (HI.out.below hbq)
    have HJ := Lib.hid hD
    clear hD
    clear hC hbq
    obtain ⟨W5, hW⟩ : ∃ W, w4.alloc (.cells #[.pointer v] 32) = W := ⟨_, rfl⟩
    have hbq : Below w4.heap.size w4 W5 := by rw [← hW]; exact (Below.refl _ _).alloc (Nat.le_refl _) _
    have hrq : Box W5 w4.heap.size v := by rw [← hW]; exact heap_alloc_new _ _
    have HW := Lib.hid hW
    clear hW
    replace H0 := Lib.hid (H0.out.trans (hbq.mono H0.out.size))
    replace RQ := Lib.hid ((hbq.block _ (hlt RQ.out)).trans RQ.out)
    replace HX := Lib.hid (HX.out.below hbq)
    replace HI := Lib.hid (HI.out.below hbq)
    replace HJ := Lib.hid (HJ.out.below hbq)
    have HYb := Lib.hid hrq
    clear hbq hrq
    go_upto_region 7 with fail
    rw [HW.out]
    clear HW
    have hC := of15_any S v (Idx.trimI l f) W5 HJ.out HFt.out
    obtain ⟨q0, q1, q2, q3, q4, q5, q6, q7⟩ := (row8 RQ.out).1
    have bHX := HX.out.cell
    have bHYb := HYb.out.cell
    go_wp2_with fail
    refine hC.mono ?_
    rintro e w6 ⟨R1, n1, c1, ys1, rfl, hO, hy, hbq⟩
    clear q0 q1 q2 q3 q4 q5 q6 q7 bHX bHYb
    replace H0 := Lib.hid (H0.out.trans (hbq.mono H0.out.size))
    replace RQ := Lib.hid ((hbq.block _ (hlt RQ.out)).trans RQ.out)
    replace HX := Lib.hid (HX.out.below hbq)
    replace HYb := Lib.hid (HYb.out.below hbq)
    replace HI := Lib.hid (HI.out.below hbq)
    replace HJ := Lib.hid (HJ.out.below hbq)
    have HB1 := Lib.hid (show Both w6 v R1 n1 c1 ys1 (Idx.trimI l f) from ⟨HJ.out, hO, hy⟩)
    clear hO hy
    clear hC hbq
    have hC := trimR15_any R n c xs f w6 (HI.out.g HF.out)
    rw [HI.out.e] at hC
    go_wp2_with fail
    refine hC.mono ?_
    rintro e w7 ⟨R2, n2, c2, ys2, rfl, hO, hy, hbq⟩
    replace H0 := Lib.hid (H0.out.trans (hbq.mono H0.out.size))
    replace RQ := Lib.hid ((hbq.block _ (hlt RQ.out)).trans RQ.out)
    replace HX := Lib.hid (HX.out.below hbq)
    replace HYb := Lib.hid (HYb.out.below hbq)
    replace HI := Lib.hid (HI.out.below hbq)
    replace HJ := Lib.hid (HJ.out.below hbq)
    replace HB1 := Lib.hid (HB1.out.below hbq)
    have HB2 := Lib.hid (show Both w7 v R2 n2 c2 ys2 (Idx.trimI l f) from ⟨HJ.out, hO, hy⟩)
    clear hO hy
    clear hC hbq
    have hC := same_keys15 (c1 := c1) (c2 := c2) HB1.out.dx HB2.out.dx HB1.out.e HB2.out.e HFt.out
    go_wp2_with fail
    refine hC.mono ?_
    rintro e w8 ⟨rfl, hbq⟩
    replace H0 := Lib.hid (H0.out.trans (hbq.mono H0.out.size))
    replace RQ := Lib.hid ((hbq.block _ (hlt RQ.out)).trans RQ.out)
    replace HX := Lib.hid (HX.out.below hbq)
    replace HYb := Lib.hid (HYb.out.below hbq)
    replace HI := Lib.hid (HI.out.below hbq)
    replace HJ := Lib.hid (HJ.out.below hbq)
    replace HB1 := Lib.hid (HB1.out.below hbq)
    replace HB2 := Lib.hid (HB2.out.below hbq)
    clear hC hbq
    have hC := of15_any S u l w8 HI.out.ix HF.out
    obtain ⟨q0, q1, q2, q3, q4, q5, q6, q7⟩ := (row8 RQ.out).1
    have bHX := HX.out.cell
    have bHYb := HYb.out.cell
    go_wp2_with fail
    refine hC.mono ?_
    rintro e w9 ⟨R3, n3, c3, ys3, rfl, hO, hy, hbq⟩
    clear q0 q1 q2 q3 q4 q5 q6 q7 bHX bHYb
    replace H0 := Lib.hid (H0.out.trans (hbq.mono H0.out.size))
    replace RQ := Lib.hid ((hbq.block _ (hlt RQ.out)).trans RQ.out)
    replace HX := Lib.hid (HX.out.below hbq)
    replace HYb := Lib.hid (HYb.out.below hbq)
    replace HI := Lib.hid (HI.out.below hbq)
    replace HJ := Lib.hid (HJ.out.below hbq)
    replace HB1 := Lib.hid (HB1.out.below hbq)
    replace HB2 := Lib.hid (HB2.out.below hbq)
    have HB3 := Lib.hid (show Both w9 u R3 n3 c3 ys3 l from ⟨HI.out.ix, hO, hy⟩)
    clear hO hy
    clear hC hbq
    have hC := same_keys15 (c1 := c3) (c2 := c) HB3.out.dx HI.out.dx HB3.out.e HI.out.e HF.out
    go_wp2_with fail
    refine hC.mono ?_
    rintro e w10 ⟨rfl, hbq⟩
    replace H0 := Lib.hid (H0.out.trans (hbq.mono H0.out.size))
    replace RQ := Lib.hid ((hbq.block _ (hlt RQ.out)).trans RQ.out)
    replace HX := Lib.hid (HX.out.below hbq)
    replace HYb := Lib.hid (HYb.out.below hbq)
    replace HI := Lib.hid (HI.out.below hbq)
    replace HJ := Lib.hid (HJ.out.below hbq)
    replace HB1 := Lib.hid (HB1.out.below hbq)
    replace HB2 := Lib.hid (HB2.out.below hbq)
    replace HB3 := Lib.hid (HB3.out.below hbq)
    clear hC hbq
    by_cases hfq : f ≤ q.r
    · have hmq : decide (f ≤ q.r) = true := decide_eq_true hfq
      have hat : Idx.atI (Idx.trimI l f) q.a q.e q.r q.n = Idx.atI l q.a q.e q.r q.n := by unfold Idx.atI; rw [Idx.items_trim HF.out.wf (by omega)]
      have HAT := Lib.hid hat
      clear hat
      have hC := S.at_ u l q.a q.e q.r q.n w10 HI.out.ix HF.out HZ.out.1 HZ.out.2
      obtain ⟨q0, q1, q2, q3, q4, q5, q6, q7⟩ := (row8 RQ.out).1
      have bHX := HX.out.cell
      have bHYb := HYb.out.cell
      go_wp2_with fail
      refine hC.mono ?_
      rintro e w11 ⟨R4, n4, c4, rfl, hO, hbq⟩
      clear q0 q1 q2 q3 q4 q5 q6 q7 bHX bHYb
      replace H0 := Lib.hid (H0.out.trans (hbq.mono H0.out.size))
      replace RQ := Lib.hid ((hbq.block _ (hlt RQ.out)).trans RQ.out)
      replace HX := Lib.hid (HX.out.below hbq)
      replace HYb := Lib.hid (HYb.out.below hbq)
      replace HI := Lib.hid (HI.out.below hbq)
      replace HJ := Lib.hid (HJ.out.below hbq)
      replace HB1 := Lib.hid (HB1.out.below hbq)
      replace HB2 := Lib.hid (HB2.out.below hbq)
      replace HB3 := Lib.hid (HB3.out.below hbq)
      have HO4 := Lib.hid (show OwnI _ w11 R4 n4 c4 (Idx.atI l q.a q.e q.r q.n).1 from hO)
      clear hO
      clear hC hbq
      have hC := S.at_ v (Idx.trimI l f) q.a q.e q.r q.n w11 HJ.out HFt.out HZ.out.1 HZ.out.2
      rw [HAT.out] at hC
      obtain ⟨q0, q1, q2, q3, q4, q5, q6, q7⟩ := (row8 RQ.out).1
      have bHX := HX.out.cell
      have bHYb := HYb.out.cell
      go_wp2_with fail
      refine hC.mono ?_
      rintro e w12 ⟨R5, n5, c5, rfl, hO, hbq⟩
      clear q0 q1 q2 q3 q4 q5 q6 q7 bHX bHYb
      replace H0 := Lib.hid (H0.out.trans (hbq.mono H0.out.size))
      replace RQ := Lib.hid ((hbq.block _ (hlt RQ.out)).trans RQ.out)
      replace HX := Lib.hid (HX.out.below hbq)
      replace HYb := Lib.hid (HYb.out.below hbq)
      replace HI := Lib.hid (HI.out.below hbq)
      replace HJ := Lib.hid (HJ.out.below hbq)
      replace HB1 := Lib.hid (HB1.out.below hbq)
      replace HB2 := Lib.hid (HB2.out.below hbq)
      replace HB3 := Lib.hid (HB3.out.below hbq)
      replace HO4 := Lib.hid (HO4.out.next hbq)
      have HO5 := Lib.hid (show OwnI _ w12 R5 n5 c5 (Idx.atI l q.a q.e q.r q.n).1 from hO)
      clear hO
      clear hC hbq
      have hC := same_items (c1 := c4) (c2 := c5) HO4.out.sp.items HO5.out.sp.items rfl (by have := at_len l q.a q.e q.r q.n; have := HF.out.n; omega)
      go_wp2_with fail
      refine hC.mono ?_
      rintro e w13 ⟨rfl, hbq⟩
      replace H0 := Lib.hid (H0.out.trans (hbq.mono H0.out.size))
      replace RQ := Lib.hid ((hbq.block _ (hlt RQ.out)).trans RQ.out)
      replace HX := Lib.hid (HX.out.below hbq)
      replace HYb := Lib.hid (HYb.out.below hbq)
      replace HI := Lib.hid (HI.out.below hbq)
      replace HJ := Lib.hid (HJ.out.below hbq)
      replace HB1 := Lib.hid (HB1.out.below hbq)
      replace HB2 := Lib.hid (HB2.out.below hbq)
      replace HB3 := Lib.hid (HB3.out.below hbq)
      replace HO4 := Lib.hid (HO4.out.next hbq)
      replace HO5 := Lib.hid (HO5.out.next hbq)
      clear hC hbq
      by_cases hsf : q.s ≤ f
      · have e6 : decide (q.s ≤ f) = true := decide_eq_true hsf
        go_upto_region 13 with fail
        refine wp_region_held_drew (S := (fun w' => w'.cell? ⟨w2.heap.size, 0, none⟩ = some (.pointer u) ∧ w'.cell? ⟨w4.heap.size, 0, none⟩ = some (.pointer v) ∧ w'.cell? ⟨w.heap.size, 0, none⟩ = some (.string q.a) ∧ w'.cell? ⟨w.heap.size, 1, none⟩ = some (.string q.e) ∧ w'.cell? ⟨w.heap.size, 4, none⟩ = some (.int .i64 q.s) ∧ w'.cell? ⟨w.heap.size, 5, none⟩ = some (.int .i64 q.t) ∧ w'.cell? ⟨w.heap.size, 6, none⟩ = some (.int .i64 q.n))) (by kernel_rfl) ⟨HX.out.cell, HYb.out.cell, (row8 RQ.out).1.1, (row8 RQ.out).1.2.1, (row8 RQ.out).1.2.2.2.2.1, (row8 RQ.out).1.2.2.2.2.2.1, (row8 RQ.out).1.2.2.2.2.2.2.1⟩ (fun hHeld => ?_)
        refine lsq 32 ?_
        refine tkq 0 ?_
        refine tkq 1 ?_
        refine tkq 2 ?_
        refine tkq 3 ?_
        refine tkq 4 ?_
        refine tuq 5 ?_
        refine tuq 6 ?_
        refine tuq 7 ?_
        refine tuq 8 ?_
        refine tuq 9 ?_
        refine tuq 10 ?_
        refine tuq 11 ?_
        refine tuq 12 ?_
        refine tuq 13 ?_
        refine tuq 14 ?_
        refine tuq 15 ?_
        refine tuq 16 ?_
        refine tuq 17 ?_
        refine tuq 18 ?_
        refine tuq 19 ?_
        refine tuq 20 ?_
        refine tuq 21 ?_
        refine tuq 22 ?_
        refine tuq 23 ?_
        refine tuq 24 ?_
        refine tuq 25 ?_
        refine tuq 26 ?_
        refine tuq 27 ?_
        refine tuq 28 ?_
        refine tuq 29 ?_
        refine tkq 30 ?_
        refine tkq 31 ?_
        refine dnq ?_
        clear hHeld
        have hbz := HE.out.trans (H0.out.mono HE.out.size)
        go_wp2
        go_ret
        exact ⟨rfl, hbz.drew⟩
      · have e6 : decide (q.s ≤ f) = false := decide_eq_false hsf
        have hct : Idx.changesI (Idx.trimI l f) q.a q.e q.s q.t q.n = Idx.changesI l q.a q.e q.s q.t q.n := by unfold Idx.changesI; rw [Idx.all_trim HF.out.wf (by omega)]
        have HCT := Lib.hid hct
        clear hct
        go_upto_region 13 with fail
        refine wp_region_held_drew (S := (fun w' => w'.cell? ⟨w2.heap.size, 0, none⟩ = some (.pointer u) ∧ w'.cell? ⟨w4.heap.size, 0, none⟩ = some (.pointer v) ∧ w'.cell? ⟨w.heap.size, 0, none⟩ = some (.string q.a) ∧ w'.cell? ⟨w.heap.size, 1, none⟩ = some (.string q.e) ∧ w'.cell? ⟨w.heap.size, 4, none⟩ = some (.int .i64 q.s) ∧ w'.cell? ⟨w.heap.size, 5, none⟩ = some (.int .i64 q.t) ∧ w'.cell? ⟨w.heap.size, 6, none⟩ = some (.int .i64 q.n))) (by kernel_rfl) ⟨HX.out.cell, HYb.out.cell, (row8 RQ.out).1.1, (row8 RQ.out).1.2.1, (row8 RQ.out).1.2.2.2.2.1, (row8 RQ.out).1.2.2.2.2.2.1, (row8 RQ.out).1.2.2.2.2.2.2.1⟩ (fun hHeld => ?_)
        refine lsq 32 ?_
        refine tkq 0 ?_
        refine tkq 1 ?_
        refine tkq 2 ?_
        refine tkq 3 ?_
        refine tkq 4 ?_
        refine tkq 5 ?_
        refine tkq 6 ?_
        refine tkq 7 ?_
        refine tkq 8 ?_
        refine tkq 9 ?_
        refine tkq 10 ?_
        refine tkq 11 ?_
        refine tkq 12 ?_
        refine tkq 13 ?_
        refine tkq 14 ?_
        refine tkq 15 ?_
        refine tkq 17 ?_
        refine tkq 18 ?_
        refine tkq 19 ?_
        refine tkq 20 ?_
        refine tkq 21 ?_
        refine tkq 22 ?_
        refine tkq 23 ?_
        refine tkq 24 ?_
        refine tkq 25 ?_
        refine tkq 26 ?_
        refine tkq 27 ?_
        have hI4 := HI.out.below (show Below w13.heap.size w13 w13.drew from (Below.refl _ _).drew)
        have hC := S.changes u l q.a q.e q.s q.t q.n w13.drew hI4.ix HF.out HZ.out.1 HZ.out.2
        refine rdq1 16 fun KK hK => ?_
        go_simp
        refine hC.mono ?_
        rintro e w30 ⟨R6, n6, c6, ys6, rfl, hO, hy, hbq⟩
        have hbq := show Below w13.heap.size w13 w30 from ⟨hbq.os, hbq.tape, hbq.output, hbq.size, hbq.block⟩
        replace H0 := Lib.hid (H0.out.trans (hbq.mono H0.out.size))
        replace RQ := Lib.hid ((hbq.block _ (hlt RQ.out)).trans RQ.out)
        replace HX := Lib.hid (HX.out.below hbq)
        replace HYb := Lib.hid (HYb.out.below hbq)
        replace HI := Lib.hid (HI.out.below hbq)
        replace HJ := Lib.hid (HJ.out.below hbq)
        replace HB1 := Lib.hid (HB1.out.below hbq)
        replace HB2 := Lib.hid (HB2.out.below hbq)
        replace HB3 := Lib.hid (HB3.out.below hbq)
        replace HO4 := Lib.hid (HO4.out.next hbq)
        replace HO5 := Lib.hid (HO5.out.next hbq)
        have HO6 := Lib.hid (show OwnB _ w30 R6 n6 c6 ys6 from hO)
        have HE6 := Lib.hid (show bats ys6 = (Idx.changesI l q.a q.e q.s q.t q.n) from hy)
        clear hO hy
        refine hK.out _ _ ⟨HX.out.cell, HYb.out.cell, (row8 RQ.out).1.1, (row8 RQ.out).1.2.1, (row8 RQ.out).1.2.2.2.2.1, (row8 RQ.out).1.2.2.2.2.2.1, (row8 RQ.out).1.2.2.2.2.2.2.1⟩ ?_
        clear hK KK hHeld
        intro hHeld
        try simp only [lpq]
        clear hC hbq hI4
        have hC := S.changes v (Idx.trimI l f) q.a q.e q.s q.t q.n w30 HJ.out HFt.out HZ.out.1 HZ.out.2
        rw [HCT.out] at hC
        refine rdq1 28 fun KK hK => ?_
        go_simp
        refine hC.mono ?_
        rintro e w31 ⟨R7, n7, c7, ys7, rfl, hO, hy, hbq⟩
        replace H0 := Lib.hid (H0.out.trans (hbq.mono H0.out.size))
        replace RQ := Lib.hid ((hbq.block _ (hlt RQ.out)).trans RQ.out)
        replace HX := Lib.hid (HX.out.below hbq)
        replace HYb := Lib.hid (HYb.out.below hbq)
        replace HI := Lib.hid (HI.out.below hbq)
        replace HJ := Lib.hid (HJ.out.below hbq)
        replace HB1 := Lib.hid (HB1.out.below hbq)
        replace HB2 := Lib.hid (HB2.out.below hbq)
        replace HB3 := Lib.hid (HB3.out.below hbq)
        replace HO4 := Lib.hid (HO4.out.next hbq)
        replace HO5 := Lib.hid (HO5.out.next hbq)
        replace HO6 := Lib.hid (HO6.out.next hbq)
        have HO7 := Lib.hid (show OwnB _ w31 R7 n7 c7 ys7 from hO)
        have HE7 := Lib.hid (show bats ys7 = (Idx.changesI l q.a q.e q.s q.t q.n) from hy)
        clear hO hy
        refine hK.out _ _ ⟨HX.out.cell, HYb.out.cell, (row8 RQ.out).1.1, (row8 RQ.out).1.2.1, (row8 RQ.out).1.2.2.2.2.1, (row8 RQ.out).1.2.2.2.2.2.1, (row8 RQ.out).1.2.2.2.2.2.2.1⟩ ?_
        clear hK KK hHeld
        intro hHeld
        try simp only [lpq]
        clear hC hbq
        have hC := same_bats (c1 := c6) (c2 := c7) HO6.out.ba HO7.out.ba HE6.out HE7.out (Nat.le_trans (chg_small HF.out _ _ _ _ _).1 (by omega)) (chg_small HF.out _ _ _ _ _).2
        refine rdq1 29 fun KK hK => ?_
        go_simp
        refine hC.mono ?_
        rintro e w32 ⟨rfl, hbq⟩
        replace H0 := Lib.hid (H0.out.trans (hbq.mono H0.out.size))
        replace RQ := Lib.hid ((hbq.block _ (hlt RQ.out)).trans RQ.out)
        replace HX := Lib.hid (HX.out.below hbq)
        replace HYb := Lib.hid (HYb.out.below hbq)
        replace HI := Lib.hid (HI.out.below hbq)
        replace HJ := Lib.hid (HJ.out.below hbq)
        replace HB1 := Lib.hid (HB1.out.below hbq)
        replace HB2 := Lib.hid (HB2.out.below hbq)
        replace HB3 := Lib.hid (HB3.out.below hbq)
        replace HO4 := Lib.hid (HO4.out.next hbq)
        replace HO5 := Lib.hid (HO5.out.next hbq)
        replace HO6 := Lib.hid (HO6.out.next hbq)
        replace HO7 := Lib.hid (HO7.out.next hbq)
        refine hK.out _ _ ⟨HX.out.cell, HYb.out.cell, (row8 RQ.out).1.1, (row8 RQ.out).1.2.1, (row8 RQ.out).1.2.2.2.2.1, (row8 RQ.out).1.2.2.2.2.2.1, (row8 RQ.out).1.2.2.2.2.2.2.1⟩ ?_
        clear hK KK hHeld
        intro hHeld
        try simp only [lpq]
        clear hC hbq
        refine tkq 30 ?_
        refine tkq 31 ?_
        refine dnq ?_
        clear hHeld
        have hbz := HE.out.trans (H0.out.mono HE.out.size)
        go_wp2
        go_ret
        exact ⟨rfl, hbz⟩
    · have hmq : decide (f ≤ q.r) = false := decide_eq_false hfq
      have hql : q.r < f := by omega
      have hqn : ¬ q.r = f := by omega
      have hat : Idx.atI (Idx.trimI l f) q.a q.e f q.n = Idx.atI l q.a q.e f q.n := by unfold Idx.atI; rw [Idx.items_trim HF.out.wf (by omega)]
      have HAT := Lib.hid hat
      clear hat
      have hC := S.at_ u l q.a q.e f q.n w10 HI.out.ix HF.out HZ.out.1 HZ.out.2
      obtain ⟨q0, q1, q2, q3, q4, q5, q6, q7⟩ := (row8 RQ.out).1
      have bHX := HX.out.cell
      have bHYb := HYb.out.cell
      go_wp2_with fail
      refine hC.mono ?_
      rintro e w11 ⟨R4, n4, c4, rfl, hO, hbq⟩
      clear q0 q1 q2 q3 q4 q5 q6 q7 bHX bHYb
      replace H0 := Lib.hid (H0.out.trans (hbq.mono H0.out.size))
      replace RQ := Lib.hid ((hbq.block _ (hlt RQ.out)).trans RQ.out)
      replace HX := Lib.hid (HX.out.below hbq)
      replace HYb := Lib.hid (HYb.out.below hbq)
      replace HI := Lib.hid (HI.out.below hbq)
      replace HJ := Lib.hid (HJ.out.below hbq)
      replace HB1 := Lib.hid (HB1.out.below hbq)
      replace HB2 := Lib.hid (HB2.out.below hbq)
      replace HB3 := Lib.hid (HB3.out.below hbq)
      have HO4 := Lib.hid (show OwnI _ w11 R4 n4 c4 (Idx.atI l q.a q.e f q.n).1 from hO)
      clear hO
      clear hC hbq
      have hC := S.at_ v (Idx.trimI l f) q.a q.e f q.n w11 HJ.out HFt.out HZ.out.1 HZ.out.2
      rw [HAT.out] at hC
      obtain ⟨q0, q1, q2, q3, q4, q5, q6, q7⟩ := (row8 RQ.out).1
      have bHX := HX.out.cell
      have bHYb := HYb.out.cell
      go_wp2_with fail
      refine hC.mono ?_
      rintro e w12 ⟨R5, n5, c5, rfl, hO, hbq⟩
      clear q0 q1 q2 q3 q4 q5 q6 q7 bHX bHYb
      replace H0 := Lib.hid (H0.out.trans (hbq.mono H0.out.size))
      replace RQ := Lib.hid ((hbq.block _ (hlt RQ.out)).trans RQ.out)
      replace HX := Lib.hid (HX.out.below hbq)
      replace HYb := Lib.hid (HYb.out.below hbq)
      replace HI := Lib.hid (HI.out.below hbq)
      replace HJ := Lib.hid (HJ.out.below hbq)
      replace HB1 := Lib.hid (HB1.out.below hbq)
      replace HB2 := Lib.hid (HB2.out.below hbq)
      replace HB3 := Lib.hid (HB3.out.below hbq)
      replace HO4 := Lib.hid (HO4.out.next hbq)
      have HO5 := Lib.hid (show OwnI _ w12 R5 n5 c5 (Idx.atI l q.a q.e f q.n).1 from hO)
      clear hO
      clear hC hbq
      have hC := same_items (c1 := c4) (c2 := c5) HO4.out.sp.items HO5.out.sp.items rfl (by have := at_len l q.a q.e f q.n; have := HF.out.n; omega)
      go_wp2_with fail
      refine hC.mono ?_
      rintro e w13 ⟨rfl, hbq⟩
      replace H0 := Lib.hid (H0.out.trans (hbq.mono H0.out.size))
      replace RQ := Lib.hid ((hbq.block _ (hlt RQ.out)).trans RQ.out)
      replace HX := Lib.hid (HX.out.below hbq)
      replace HYb := Lib.hid (HYb.out.below hbq)
      replace HI := Lib.hid (HI.out.below hbq)
      replace HJ := Lib.hid (HJ.out.below hbq)
      replace HB1 := Lib.hid (HB1.out.below hbq)
      replace HB2 := Lib.hid (HB2.out.below hbq)
      replace HB3 := Lib.hid (HB3.out.below hbq)
      replace HO4 := Lib.hid (HO4.out.next hbq)
      replace HO5 := Lib.hid (HO5.out.next hbq)
      clear hC hbq
      by_cases hsf : q.s ≤ f
      · have e6 : decide (q.s ≤ f) = true := decide_eq_true hsf
        go_upto_region 13 with fail
        refine wp_region_held_drew (S := (fun w' => w'.cell? ⟨w2.heap.size, 0, none⟩ = some (.pointer u) ∧ w'.cell? ⟨w4.heap.size, 0, none⟩ = some (.pointer v) ∧ w'.cell? ⟨w.heap.size, 0, none⟩ = some (.string q.a) ∧ w'.cell? ⟨w.heap.size, 1, none⟩ = some (.string q.e) ∧ w'.cell? ⟨w.heap.size, 4, none⟩ = some (.int .i64 q.s) ∧ w'.cell? ⟨w.heap.size, 5, none⟩ = some (.int .i64 q.t) ∧ w'.cell? ⟨w.heap.size, 6, none⟩ = some (.int .i64 q.n))) (by kernel_rfl) ⟨HX.out.cell, HYb.out.cell, (row8 RQ.out).1.1, (row8 RQ.out).1.2.1, (row8 RQ.out).1.2.2.2.2.1, (row8 RQ.out).1.2.2.2.2.2.1, (row8 RQ.out).1.2.2.2.2.2.2.1⟩ (fun hHeld => ?_)
        refine lsq 32 ?_
        refine tkq 0 ?_
        refine tkq 1 ?_
        refine tkq 2 ?_
        refine tkq 3 ?_
        refine tkq 4 ?_
        refine tuq 5 ?_
        refine tuq 6 ?_
        refine tuq 7 ?_
        refine tuq 8 ?_
        refine tuq 9 ?_
        refine tuq 10 ?_
        refine tuq 11 ?_
        refine tuq 12 ?_
        refine tuq 13 ?_
        refine tuq 14 ?_
        refine tuq 15 ?_
        refine tuq 16 ?_
        refine tuq 17 ?_
        refine tuq 18 ?_
        refine tuq 19 ?_
        refine tuq 20 ?_
        refine tuq 21 ?_
        refine tuq 22 ?_
        refine tuq 23 ?_
        refine tuq 24 ?_
        refine tuq 25 ?_
        refine tuq 26 ?_
        refine tuq 27 ?_
        refine tuq 28 ?_
        refine tuq 29 ?_
        refine tkq 30 ?_
        refine tkq 31 ?_
        refine dnq ?_
        clear hHeld
        have hbz := HE.out.trans (H0.out.mono HE.out.size)
        go_wp2
        go_ret
        exact ⟨rfl, hbz.drew⟩
      · have e6 : decide (q.s ≤ f) = false := decide_eq_false hsf
        have hct : Idx.changesI (Idx.trimI l f) q.a q.e q.s q.t q.n = Idx.changesI l q.a q.e q.s q.t q.n := by unfold Idx.changesI; rw [Idx.all_trim HF.out.wf (by omega)]
        have HCT := Lib.hid hct
        clear hct
        go_upto_region 13 with fail
        refine wp_region_held_drew (S := (fun w' => w'.cell? ⟨w2.heap.size, 0, none⟩ = some (.pointer u) ∧ w'.cell? ⟨w4.heap.size, 0, none⟩ = some (.pointer v) ∧ w'.cell? ⟨w.heap.size, 0, none⟩ = some (.string q.a) ∧ w'.cell? ⟨w.heap.size, 1, none⟩ = some (.string q.e) ∧ w'.cell? ⟨w.heap.size, 4, none⟩ = some (.int .i64 q.s) ∧ w'.cell? ⟨w.heap.size, 5, none⟩ = some (.int .i64 q.t) ∧ w'.cell? ⟨w.heap.size, 6, none⟩ = some (.int .i64 q.n))) (by kernel_rfl) ⟨HX.out.cell, HYb.out.cell, (row8 RQ.out).1.1, (row8 RQ.out).1.2.1, (row8 RQ.out).1.2.2.2.2.1, (row8 RQ.out).1.2.2.2.2.2.1, (row8 RQ.out).1.2.2.2.2.2.2.1⟩ (fun hHeld => ?_)
        refine lsq 32 ?_
        refine tkq 0 ?_
        refine tkq 1 ?_
        refine tkq 2 ?_
        refine tkq 3 ?_
        refine tkq 4 ?_
        refine tkq 5 ?_
        refine tkq 6 ?_
        refine tkq 7 ?_
        refine tkq 8 ?_
        refine tkq 9 ?_
        refine tkq 10 ?_
        refine tkq 11 ?_
        refine tkq 12 ?_
        refine tkq 13 ?_
        refine tkq 14 ?_
        refine tkq 15 ?_
        refine tkq 17 ?_
        refine tkq 18 ?_
        refine tkq 19 ?_
        refine tkq 20 ?_
        refine tkq 21 ?_
        refine tkq 22 ?_
        refine tkq 23 ?_
        refine tkq 24 ?_
        refine tkq 25 ?_
        refine tkq 26 ?_
        refine tkq 27 ?_
        have hI4 := HI.out.below (show Below w13.heap.size w13 w13.drew from (Below.refl _ _).drew)
        have hC := S.changes u l q.a q.e q.s q.t q.n w13.drew hI4.ix HF.out HZ.out.1 HZ.out.2
        refine rdq1 16 fun KK hK => ?_
        go_simp
        refine hC.mono ?_
        rintro e w30 ⟨R6, n6, c6, ys6, rfl, hO, hy, hbq⟩
        have hbq := show Below w13.heap.size w13 w30 from ⟨hbq.os, hbq.tape, hbq.output, hbq.size, hbq.block⟩
        replace H0 := Lib.hid (H0.out.trans (hbq.mono H0.out.size))
        replace RQ := Lib.hid ((hbq.block _ (hlt RQ.out)).trans RQ.out)
        replace HX := Lib.hid (HX.out.below hbq)
        replace HYb := Lib.hid (HYb.out.below hbq)
        replace HI := Lib.hid (HI.out.below hbq)
        replace HJ := Lib.hid (HJ.out.below hbq)
        replace HB1 := Lib.hid (HB1.out.below hbq)
        replace HB2 := Lib.hid (HB2.out.below hbq)
        replace HB3 := Lib.hid (HB3.out.below hbq)
        replace HO4 := Lib.hid (HO4.out.next hbq)
        replace HO5 := Lib.hid (HO5.out.next hbq)
        have HO6 := Lib.hid (show OwnB _ w30 R6 n6 c6 ys6 from hO)
        have HE6 := Lib.hid (show bats ys6 = (Idx.changesI l q.a q.e q.s q.t q.n) from hy)
        clear hO hy
        refine hK.out _ _ ⟨HX.out.cell, HYb.out.cell, (row8 RQ.out).1.1, (row8 RQ.out).1.2.1, (row8 RQ.out).1.2.2.2.2.1, (row8 RQ.out).1.2.2.2.2.2.1, (row8 RQ.out).1.2.2.2.2.2.2.1⟩ ?_
        clear hK KK hHeld
        intro hHeld
        try simp only [lpq]
        clear hC hbq hI4
        have hC := S.changes v (Idx.trimI l f) q.a q.e q.s q.t q.n w30 HJ.out HFt.out HZ.out.1 HZ.out.2
        rw [HCT.out] at hC
        refine rdq1 28 fun KK hK => ?_
        go_simp
        refine hC.mono ?_
        rintro e w31 ⟨R7, n7, c7, ys7, rfl, hO, hy, hbq⟩
        replace H0 := Lib.hid (H0.out.trans (hbq.mono H0.out.size))
        replace RQ := Lib.hid ((hbq.block _ (hlt RQ.out)).trans RQ.out)
        replace HX := Lib.hid (HX.out.below hbq)
        replace HYb := Lib.hid (HYb.out.below hbq)
        replace HI := Lib.hid (HI.out.below hbq)
        replace HJ := Lib.hid (HJ.out.below hbq)
        replace HB1 := Lib.hid (HB1.out.below hbq)
        replace HB2 := Lib.hid (HB2.out.below hbq)
        replace HB3 := Lib.hid (HB3.out.below hbq)
        replace HO4 := Lib.hid (HO4.out.next hbq)
        replace HO5 := Lib.hid (HO5.out.next hbq)
        replace HO6 := Lib.hid (HO6.out.next hbq)
        have HO7 := Lib.hid (show OwnB _ w31 R7 n7 c7 ys7 from hO)
        have HE7 := Lib.hid (show bats ys7 = (Idx.changesI l q.a q.e q.s q.t q.n) from hy)
        clear hO hy
        refine hK.out _ _ ⟨HX.out.cell, HYb.out.cell, (row8 RQ.out).1.1, (row8 RQ.out).1.2.1, (row8 RQ.out).1.2.2.2.2.1, (row8 RQ.out).1.2.2.2.2.2.1, (row8 RQ.out).1.2.2.2.2.2.2.1⟩ ?_
        clear hK KK hHeld
        intro hHeld
        try simp only [lpq]
        clear hC hbq
        have hC := same_bats (c1 := c6) (c2 := c7) HO6.out.ba HO7.out.ba HE6.out HE7.out (Nat.le_trans (chg_small HF.out _ _ _ _ _).1 (by omega)) (chg_small HF.out _ _ _ _ _).2
        refine rdq1 29 fun KK hK => ?_
        go_simp
        refine hC.mono ?_
        rintro e w32 ⟨rfl, hbq⟩
        replace H0 := Lib.hid (H0.out.trans (hbq.mono H0.out.size))
        replace RQ := Lib.hid ((hbq.block _ (hlt RQ.out)).trans RQ.out)
        replace HX := Lib.hid (HX.out.below hbq)
        replace HYb := Lib.hid (HYb.out.below hbq)
        replace HI := Lib.hid (HI.out.below hbq)
        replace HJ := Lib.hid (HJ.out.below hbq)
        replace HB1 := Lib.hid (HB1.out.below hbq)
        replace HB2 := Lib.hid (HB2.out.below hbq)
        replace HB3 := Lib.hid (HB3.out.below hbq)
        replace HO4 := Lib.hid (HO4.out.next hbq)
        replace HO5 := Lib.hid (HO5.out.next hbq)
        replace HO6 := Lib.hid (HO6.out.next hbq)
        replace HO7 := Lib.hid (HO7.out.next hbq)
        refine hK.out _ _ ⟨HX.out.cell, HYb.out.cell, (row8 RQ.out).1.1, (row8 RQ.out).1.2.1, (row8 RQ.out).1.2.2.2.2.1, (row8 RQ.out).1.2.2.2.2.2.1, (row8 RQ.out).1.2.2.2.2.2.2.1⟩ ?_
        clear hK KK hHeld
        intro hHeld
        try simp only [lpq]
        clear hC hbq
        refine tkq 30 ?_
        refine tkq 31 ?_
        refine dnq ?_
        clear hHeld
        have hbz := HE.out.trans (H0.out.mono HE.out.size)
        go_wp2
        go_ret
        exact ⟨rfl, hbz⟩


end Go.Proofs.Ytcoddkbbgmjckaa

namespace Go.Proofs.Ytcoddkbbgmjckaa.indexTrims
open Go.ChangeShapes Go.WideShapes Go.ChangeAt Go.RowKit Go.Proofs.Ytcoddkbbgmjckaa
set_option linter.unusedVariables false
set_option linter.unusedSimpArgs false

theorem own : ownKnob Try.prog.godebug = none := by kernel_rfl

set_option maxRecDepth 100000 in
theorem lifted (os : Os) (started : os.Started) (H : Type) (enc : TypeId × Value → H) :
    ReturnsInHanded {} Try.checked os 9 .any (Rows.indexTrimsSpec.pre6 enc Try.prog Try.f9 Rows.indexTrimsRow.domain false) (Rows.indexTrimsSpec.post enc Try.prog Try.f9 false true false false) := by
  refine returnsInHanded_of_change (C := Try.checked) own started (by kernel_rfl) Try.func9
    (ChangeSpec.witness6 (enc := enc) (C := Try.checked) false ⟨#[], #[.slice none 0 0, .int .i64 0, .agg #[.string ⟨#[]⟩, .string ⟨#[]⟩, .string ⟨#[]⟩, .int .i64 0, .int .i64 0, .int .i64 0, .int .i64 0, .int .i64 0]], []⟩ 8 (by kernel_rfl) (by kernel_rfl) (by kernel_rfl) (by kernel_rfl)) ?_
  intro W base args ds gs before hval0 hW hcnd _
  have hval : ∀ (j : Nat) t v, Try.f9.params[j]? = some t → args[j]? = some v → Value.okWide Try.prog W .any base t v := hval0
  have hW' := hW
  obtain ⟨p, q, hA0, hV, rfl, hfz, hnd⟩ := hW
  have hA : DataW.TrodAll enc Try.prog W 0 (fun _ => true) true Try.f9.params.toList args.toList ds p := hA0
  rw [Try.params9] at hA hval
  obtain ⟨v0, vs0, d0, ds0, p0, q0, hargs, rfl, rfl, h0, r0⟩ := trodAll_cons hA
  obtain ⟨v1, vs1, d1, ds1, p1, q1, rfl, rfl, rfl, h1, r1⟩ := trodAll_cons r0
  obtain ⟨v2, vs2, d2, ds2, p2, q2, rfl, rfl, rfl, h2, r2⟩ := trodAll_cons r1
  obtain ⟨rfl, rfl, rfl⟩ := trodAll_nil r2
  obtain rfl : args = #[v0, v1, v2] := by cases args; simp_all
  obtain ⟨rfl, rfl⟩ := trodVars_none hV
  obtain ⟨A0, len0, cap0, K0, rfl, hlc0, hm0, ha0, hw0⟩ := arg_iacts (hval 0 26 v0 rfl rfl) h0 (fun x hx => hW'.lt x (by simp [hx]))
  obtain ⟨a1, rfl, rfl, rfl, w1⟩ := open_int Try.underlying2 (hval 1 2 v1 rfl rfl) h1
  obtain ⟨q2, rfl, hq2⟩ := arg_iask (hval 2 47 v2 rfl rfl) h2 (fun x hx => hW'.lt x (by simp [hx]))
  have fin : ∀ W', Below W.heap.size W W' → Rows.indexTrimsSpec.post enc Try.prog Try.f9 false true false false W #[.slice A0 len0 cap0, .int .i64 a1, iaskV q2] (.bool true) W' :=
    fun W' hb => law_end (by kernel_rfl) (by decide +kernel) rfl rfl Try.underlying4 hW' rfl rfl rfl hb
  exact (indexTrims_walk says A0 len0 cap0 K0 a1 q2 W ha0 (Nat.le_trans hlc0 hm0) hw0 hq2).mono fun e W' ⟨he, hb⟩ => ⟨_, he, fin W' hb⟩

theorem over : Rows.indexTrimsRow.holds Try.pinned (OpenSpec.ofChange Rows.indexTrimsSpec) :=
  OpenClaim.holds_of_wide 9 Try.f9 rfl rfl rfl rfl rfl rfl rfl ⟨rfl, rfl, rfl, rfl, rfl⟩ rfl rfl rfl rfl rfl (by kernel_rfl) Try.func9 (by kernel_rfl)
    (of_decide_eq_true (by kernel_rfl)) (by unfold Func.isWrapper; first | (rw [if_pos (by decide +kernel)]; kernel_rfl) | (rw [if_neg (by decide +kernel)]; exact ⟨rfl, rfl⟩))
    (fun os started H enc _ => lifted os started H enc)

theorem proved : Rows.IndexTrimsSaid := over


end Go.Proofs.Ytcoddkbbgmjckaa.indexTrims
