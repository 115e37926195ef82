/- HistTrims's walk. (Written by mkwalk.py.) -/
import Derived.Test.YtmihijlegacjdaaHisMade
namespace Go.Proofs.Ytmihijlegacjdaa
open Go.RowKit
set_option linter.unusedVariables false
set_option linter.unusedSimpArgs false
attribute [local go_sem] Oper.semAt_some

set_option maxRecDepth 100000 in
set_option maxHeartbeats 6400000 in
theorem histTrims_walk (A : Option Addr) (len cap : Nat) (K : Nat → HAct) (f hi rev : Int) (w : World) (hA : HActs w A len K) (hm : len ≤ maxLen) (hs : ∀ j, j < len → HActWf (K j)) :
    Calls Try.prog 6 #[.slice A len cap, .int .i64 f, .int .i64 hi, .int .i64 rev] w fun e w' => e = .returned (.bool true) ∧ Below w.heap.size w w' := by
  have HV := Lib.hid (And.intro hA hs)
  clear hA hs
  go_enter Try.func6, Try.ntmps6
  go_wp2_with fail
  refine (awake14_any _).mono ?_
  rintro e w1 ⟨rfl, hb1⟩
  have hF := fewActs_any A len cap K w1 (HV.out.1.below hb1) hm HV.out.2
  have HB := Lib.hid hb1
  clear hb1
  go_wp2_with fail
  refine hF.mono ?_
  rintro e w1' ⟨b, rfl, hb40, rfl⟩
  cases b with
  | false =>
    go_wp2_with fail
    refine (awake14_any _).mono ?_
    rintro e w8 ⟨rfl, hb8⟩
    have hbz := HB.out.trans (hb8.mono HB.out.size)
    go_wp2
    go_ret
    exact ⟨rfl, hbz⟩
  | true =>
    have h40 := hb40 rfl
    clear hF hb40
    go_wp2_with fail
    go_loopw [9, 26] (fun v9 v26 wr => ∃ k : Nat, k ≤ len ∧ v26 = .int .i64 (k : Int) ∧ ∃ R n c, v9 = .slice R n c ∧ MadeH w wr K k R n c) (fun _ v26 _ => len - (intOf v26).toNat)
    case atStart => exact ⟨0, Nat.zero_le _, rfl, none, 0, 0, rfl, MadeH.start K HB.out⟩
    case round =>
      obtain ⟨k, hk, rfl, R, n, c, rfl, hM⟩ := hrel
      by_cases hlt : k < len
      · have l1 : decide ((k : Int) < (len : Int)) = true := decide_eq_true (by omega)
        have k4 : (k : Int) < (len : Int) := by omega
        obtain ⟨g, off, rfl, c0, c1, c2, c3, c4, c5, c6, c7, c8, c9, c10, c11⟩ := (HV.out.1.below hM.b).cells hlt
        have hD := hM.do_ (by omega)
        dsimp only [hactV] at hD
        clear hM
        go_wp2_with fail
        refine hD.mono ?_
        rintro e w2 ⟨R2, n2, c2', rfl, hM2⟩
        have HM := Lib.hid hM2
        clear hM2 hD c0 c1 c2 c3 c4 c5 c6 c7 c8 c9 c10 c11
        go_wp2
        go_roundw
        case rel => exact ⟨k + 1, by omega, by go_num, R2, n2, c2', rfl, HM.out⟩
        case measure =>
          simp [intOf]
          omega
      · obtain rfl : k = len := by omega
        have l1 : decide ((k : Int) < (k : Int)) = false := decide_eq_false (by omega)
        have hn := hM.len
        have HM := Lib.hid hM
        have HR := Lib.hid (His.run_right K k)
        obtain ⟨l, hl⟩ : ∃ l, His.runL K k = l := ⟨_, rfl⟩
        have HM := Lib.hid (show Vers wr R n l ∧ n ≤ c ∧ Below w.heap.size w wr from ⟨by rw [← hl]; exact hM.v, hM.c, hM.b⟩)
        have HR := Lib.hid (show His.Right l by rw [← hl]; exact His.run_right K k)
        clear hM hl
        have Hwr := Lib.hid (show Below wr.heap.size wr wr from Below.refl _ _)
        have HVS := Lib.hid (show ∀ W, Below wr.heap.size wr W → Vers W R n l from fun W hW => HM.out.1.below hW)
        have hR2 := His.trim_right HR.out f
        have hC := trimP_any R n c l f wr (HVS.out _ Hwr.out) HM.out.2.1 (by omega)
        go_wp2_with fail
        refine hC.mono ?_
        rintro e wx1 ⟨R1, n1, c1, rfl, hO, hbq⟩
        have Hwx1 := Lib.hid (Hwr.out.trans (hbq.mono Hwr.out.size))
        clear hC hbq
        have HO1 := Lib.hid (show Own14 _ wx1 R1 n1 c1 (His.trimL l f) from hO)
        clear hO
        have hC := trimR_any R n c l f wx1 (HVS.out _ Hwx1.out) (by omega)
        go_wp2_with fail
        refine hC.mono ?_
        rintro e wx2 ⟨R2, n2, c2, rfl, hO, hbq⟩
        have Hwx2 := Lib.hid (Hwx1.out.trans (hbq.mono Hwx1.out.size))
        replace HO1 := Lib.hid (HO1.out.next hbq)
        clear hC hbq
        have HO2 := Lib.hid (show Own14 _ wx2 R2 n2 c2 (His.trimL l f) from hO)
        clear hO
        have hC := same_own (c1 := c1) (c2 := c2) HO1.out.sp.vers HO2.out.sp.vers rfl (by have := His.trim_len l f; have := HM.out.1.1; omega)
        go_wp2_with fail
        refine hC.mono ?_
        rintro e wx3 ⟨rfl, hbq⟩
        have Hwx3 := Lib.hid (Hwx2.out.trans (hbq.mono Hwx2.out.size))
        replace HO1 := Lib.hid (HO1.out.next hbq)
        replace HO2 := Lib.hid (HO2.out.next hbq)
        clear hC hbq
        have hn1 : n1 ≤ 40 := by have := His.trim_len l f; have := HM.out.1.1; have := HO1.out.len; omega
        by_cases hhf : f ≤ hi
        · have e1 : decide (f ≤ hi) = true := decide_eq_true hhf
          have htt := Lib.hid (His.trim_trim HR.out hhf)
          have hC := trimP_any R1 n1 c1 (His.trimL l f) hi wx3 HO1.out.sp.vers HO1.out.sp.2.1 (by omega)
          go_wp2_with fail
          refine hC.mono ?_
          rintro e wx4 ⟨R3, n3, c3, rfl, hO, hbq⟩
          have Hwx4 := Lib.hid (Hwx3.out.trans (hbq.mono Hwx3.out.size))
          replace HO1 := Lib.hid (HO1.out.next hbq)
          replace HO2 := Lib.hid (HO2.out.next hbq)
          clear hC hbq
          have HO3 := Lib.hid (show Own14 _ wx4 R3 n3 c3 (His.trimL (His.trimL l f) hi) from hO)
          clear hO
          have hC := trimP_any R n c l hi wx4 (HVS.out _ Hwx4.out) HM.out.2.1 (by omega)
          go_wp2_with fail
          refine hC.mono ?_
          rintro e wx5 ⟨R4, n4, c4, rfl, hO, hbq⟩
          have Hwx5 := Lib.hid (Hwx4.out.trans (hbq.mono Hwx4.out.size))
          replace HO1 := Lib.hid (HO1.out.next hbq)
          replace HO2 := Lib.hid (HO2.out.next hbq)
          replace HO3 := Lib.hid (HO3.out.next hbq)
          clear hC hbq
          have HO4 := Lib.hid (show Own14 _ wx5 R4 n4 c4 (His.trimL l hi) from hO)
          clear hO
          have hC := same_own (c1 := c3) (c2 := c4) HO3.out.sp.vers HO4.out.sp.vers htt.out (by rw [htt.out]; have := His.trim_len l hi; have := HM.out.1.1; omega)
          go_wp2_with fail
          refine hC.mono ?_
          rintro e wx6 ⟨rfl, hbq⟩
          have Hwx6 := Lib.hid (Hwx5.out.trans (hbq.mono Hwx5.out.size))
          replace HO1 := Lib.hid (HO1.out.next hbq)
          replace HO2 := Lib.hid (HO2.out.next hbq)
          replace HO3 := Lib.hid (HO3.out.next hbq)
          replace HO4 := Lib.hid (HO4.out.next hbq)
          clear hC hbq
          by_cases hrf : rev < f
          · have e2 : decide (rev < f) = true := decide_eq_true hrf
            have hbz := HM.out.2.2.trans (Hwx6.out.mono HM.out.2.2.size)
            go_wp2
            go_ret
            exact ⟨rfl, hbz⟩
          · have e2 : decide (rev < f) = false := decide_eq_false hrf
            obtain ⟨y, b, hyb⟩ := at_form (His.atL l rev)
            have hat := His.at_trim HR.out (f := f) (r := rev) (by omega)
            have HY := Lib.hid (And.intro hyb hat)
            clear hyb hat
            have hC := atP_any R n c l rev wx6 (HVS.out _ Hwx6.out) HM.out.2.1 (by omega)
            rw [HY.out.1] at hC
            go_wp2_with fail
            refine hC.mono ?_
            rintro e wx7 ⟨rfl, hbq⟩
            have Hwx7 := Lib.hid (Hwx6.out.trans (hbq.mono Hwx6.out.size))
            replace HO1 := Lib.hid (HO1.out.next hbq)
            replace HO2 := Lib.hid (HO2.out.next hbq)
            replace HO3 := Lib.hid (HO3.out.next hbq)
            replace HO4 := Lib.hid (HO4.out.next hbq)
            clear hC hbq
            obtain ⟨Wx8, hW⟩ : ∃ W, wx7.alloc (.cells #[.int .i64 y.r, .int .i64 y.k, .int .i64 y.m, .int .i64 y.v, .string y.s, .int .i64 y.l, .bool y.g] 26) = W := ⟨_, rfl⟩
            have hbq : Below wx7.heap.size wx7 Wx8 := by rw [← hW]; exact (Below.refl _ _).alloc (Nat.le_refl _) _
            have hrq : Wx8.heap[wx7.heap.size]? = some (.cells #[.int .i64 y.r, .int .i64 y.k, .int .i64 y.m, .int .i64 y.v, .string y.s, .int .i64 y.l, .bool y.g] 26) := by rw [← hW]; exact heap_alloc_new _ _
            have HW := Lib.hid hW
            clear hW
            have HWx8 := Lib.hid (Hwx7.out.trans (hbq.mono Hwx7.out.size))
            replace HO1 := Lib.hid (HO1.out.next hbq)
            replace HO2 := Lib.hid (HO2.out.next hbq)
            replace HO3 := Lib.hid (HO3.out.next hbq)
            replace HO4 := Lib.hid (HO4.out.next hbq)
            have RW0 := Lib.hid hrq
            clear hbq hrq
            go_upto_region 17 with fail
            rw [HW.out]
            clear HW
            have hC := atP_any R1 n1 c1 (His.trimL l f) rev Wx8 HO1.out.sp.vers HO1.out.sp.2.1 (by omega)
            rw [HY.out.2, HY.out.1] at hC
            go_wp2_with fail
            refine hC.mono ?_
            rintro e wx9 ⟨rfl, hbq⟩
            have Hwx9 := Lib.hid (HWx8.out.trans (hbq.mono HWx8.out.size))
            replace RW0 := Lib.hid ((hbq.block _ (hlq RW0.out)).trans RW0.out)
            replace HO1 := Lib.hid (HO1.out.next hbq)
            replace HO2 := Lib.hid (HO2.out.next hbq)
            replace HO3 := Lib.hid (HO3.out.next hbq)
            replace HO4 := Lib.hid (HO4.out.next hbq)
            clear hC hbq
            obtain ⟨Wx10, hW⟩ : ∃ W, wx9.alloc (.cells #[.int .i64 y.r, .int .i64 y.k, .int .i64 y.m, .int .i64 y.v, .string y.s, .int .i64 y.l, .bool y.g] 26) = W := ⟨_, rfl⟩
            have hbq : Below wx9.heap.size wx9 Wx10 := by rw [← hW]; exact (Below.refl _ _).alloc (Nat.le_refl _) _
            have hrq : Wx10.heap[wx9.heap.size]? = some (.cells #[.int .i64 y.r, .int .i64 y.k, .int .i64 y.m, .int .i64 y.v, .string y.s, .int .i64 y.l, .bool y.g] 26) := by rw [← hW]; exact heap_alloc_new _ _
            have HW := Lib.hid hW
            clear hW
            have HWx10 := Lib.hid (Hwx9.out.trans (hbq.mono Hwx9.out.size))
            replace RW0 := Lib.hid ((hbq.block _ (hlq RW0.out)).trans RW0.out)
            replace HO1 := Lib.hid (HO1.out.next hbq)
            replace HO2 := Lib.hid (HO2.out.next hbq)
            replace HO3 := Lib.hid (HO3.out.next hbq)
            replace HO4 := Lib.hid (HO4.out.next hbq)
            have RW1 := Lib.hid hrq
            clear hbq hrq
            go_upto_region 18 with fail
            rw [HW.out]
            clear HW
            obtain ⟨z0_0, z0_1, z0_2, z0_3, z0_4, z0_5, z0_6⟩ := (row7 RW0.out).1
            obtain ⟨z1_0, z1_1, z1_2, z1_3, z1_4, z1_5, z1_6⟩ := (row7 RW1.out).1
            have f1 := fun W => ver_eql y y W
            rw [decide_eq_true (rfl : y = y)] at f1
            dsimp only [verV] at f1
            have f3 := ver_guard
            have hbz := HM.out.2.2.trans (HWx10.out.mono HM.out.2.2.size)
            go_wp2
            go_ret
            exact ⟨rfl, hbz⟩
        · have e1 : decide (f ≤ hi) = false := decide_eq_false hhf
          by_cases hrf : rev < f
          · have e2 : decide (rev < f) = true := decide_eq_true hrf
            have hbz := HM.out.2.2.trans (Hwx3.out.mono HM.out.2.2.size)
            go_wp2
            go_ret
            exact ⟨rfl, hbz⟩
          · have e2 : decide (rev < f) = false := decide_eq_false hrf
            obtain ⟨y, b, hyb⟩ := at_form (His.atL l rev)
            have hat := His.at_trim HR.out (f := f) (r := rev) (by omega)
            have HY := Lib.hid (And.intro hyb hat)
            clear hyb hat
            have hC := atP_any R n c l rev wx3 (HVS.out _ Hwx3.out) HM.out.2.1 (by omega)
            rw [HY.out.1] at hC
            go_wp2_with fail
            refine hC.mono ?_
            rintro e wx4 ⟨rfl, hbq⟩
            have Hwx4 := Lib.hid (Hwx3.out.trans (hbq.mono Hwx3.out.size))
            replace HO1 := Lib.hid (HO1.out.next hbq)
            replace HO2 := Lib.hid (HO2.out.next hbq)
            clear hC hbq
            obtain ⟨Wx5, hW⟩ : ∃ W, wx4.alloc (.cells #[.int .i64 y.r, .int .i64 y.k, .int .i64 y.m, .int .i64 y.v, .string y.s, .int .i64 y.l, .bool y.g] 26) = W := ⟨_, rfl⟩
            have hbq : Below wx4.heap.size wx4 Wx5 := by rw [← hW]; exact (Below.refl _ _).alloc (Nat.le_refl _) _
            have hrq : Wx5.heap[wx4.heap.size]? = some (.cells #[.int .i64 y.r, .int .i64 y.k, .int .i64 y.m, .int .i64 y.v, .string y.s, .int .i64 y.l, .bool y.g] 26) := by rw [← hW]; exact heap_alloc_new _ _
            have HW := Lib.hid hW
            clear hW
            have HWx5 := Lib.hid (Hwx4.out.trans (hbq.mono Hwx4.out.size))
            replace HO1 := Lib.hid (HO1.out.next hbq)
            replace HO2 := Lib.hid (HO2.out.next hbq)
            have RW0 := Lib.hid hrq
            clear hbq hrq
            go_upto_region 17 with fail
            rw [HW.out]
            clear HW
            have hC := atP_any R1 n1 c1 (His.trimL l f) rev Wx5 HO1.out.sp.vers HO1.out.sp.2.1 (by omega)
            rw [HY.out.2, HY.out.1] at hC
            go_wp2_with fail
            refine hC.mono ?_
            rintro e wx6 ⟨rfl, hbq⟩
            have Hwx6 := Lib.hid (HWx5.out.trans (hbq.mono HWx5.out.size))
            replace RW0 := Lib.hid ((hbq.block _ (hlq RW0.out)).trans RW0.out)
            replace HO1 := Lib.hid (HO1.out.next hbq)
            replace HO2 := Lib.hid (HO2.out.next hbq)
            clear hC hbq
            obtain ⟨Wx7, hW⟩ : ∃ W, wx6.alloc (.cells #[.int .i64 y.r, .int .i64 y.k, .int .i64 y.m, .int .i64 y.v, .string y.s, .int .i64 y.l, .bool y.g] 26) = W := ⟨_, rfl⟩
            have hbq : Below wx6.heap.size wx6 Wx7 := by rw [← hW]; exact (Below.refl _ _).alloc (Nat.le_refl _) _
            have hrq : Wx7.heap[wx6.heap.size]? = some (.cells #[.int .i64 y.r, .int .i64 y.k, .int .i64 y.m, .int .i64 y.v, .string y.s, .int .i64 y.l, .bool y.g] 26) := by rw [← hW]; exact heap_alloc_new _ _
            have HW := Lib.hid hW
            clear hW
            have HWx7 := Lib.hid (Hwx6.out.trans (hbq.mono Hwx6.out.size))
            replace RW0 := Lib.hid ((hbq.block _ (hlq RW0.out)).trans RW0.out)
            replace HO1 := Lib.hid (HO1.out.next hbq)
            replace HO2 := Lib.hid (HO2.out.next hbq)
            have RW1 := Lib.hid hrq
            clear hbq hrq
            go_upto_region 18 with fail
            rw [HW.out]
            clear HW
            obtain ⟨z0_0, z0_1, z0_2, z0_3, z0_4, z0_5, z0_6⟩ := (row7 RW0.out).1
            obtain ⟨z1_0, z1_1, z1_2, z1_3, z1_4, z1_5, z1_6⟩ := (row7 RW1.out).1
            have f1 := fun W => ver_eql y y W
            rw [decide_eq_true (rfl : y = y)] at f1
            dsimp only [verV] at f1
            have f3 := ver_guard
            have hbz := HM.out.2.2.trans (HWx7.out.mono HM.out.2.2.size)
            go_wp2
            go_ret
            exact ⟨rfl, hbz⟩


end Go.Proofs.Ytmihijlegacjdaa
