/- HistReads's walk. (Written by mkwalk.py.) -/
import Derived.Test.YtmihijlegacjdaaHisMade
namespace Go.Proofs.Ytmihijlegacjdaa
open Go.RowKit
set_option linter.unusedVariables false
set_option linter.unusedSimpArgs false
attribute [local go_sem] Oper.semAt_some

set_option maxRecDepth 100000 in
set_option maxHeartbeats 6400000 in
theorem histReads_walk (A : Option Addr) (len cap : Nat) (K : Nat → HAct) (rev a z : Int) (w : World) (hA : HActs w A len K) (hm : len ≤ maxLen) (hs : ∀ j, j < len → HActWf (K j)) :
    Calls Try.prog 5 #[.slice A len cap, .int .i64 rev, .int .i64 a, .int .i64 z] w fun e w' => e = .returned (.bool true) ∧ Below w.heap.size w w' := by
  have HV := Lib.hid (And.intro hA hs)
  clear hA hs
  go_enter Try.func5, Try.ntmps5
  go_wp2_with fail
  refine (awake14_any _).mono ?_
  rintro e w1 ⟨rfl, hb1⟩
  have hF := fewActs_any A len cap K w1 (HV.out.1.below hb1) hm HV.out.2
  have HB := Lib.hid hb1
  clear hb1
  go_wp2_with fail
  refine hF.mono ?_
  rintro e w1' ⟨b, rfl, hb40, rfl⟩
  cases b with
  | false =>
    go_wp2_with fail
    refine (awake14_any _).mono ?_
    rintro e w8 ⟨rfl, hb8⟩
    have hbz := HB.out.trans (hb8.mono HB.out.size)
    go_wp2
    go_ret
    exact ⟨rfl, hbz⟩
  | true =>
    have h40 := hb40 rfl
    clear hF hb40
    go_wp2_with fail
    go_loopw [9, 29] (fun v9 v29 wr => ∃ k : Nat, k ≤ len ∧ v29 = .int .i64 (k : Int) ∧ ∃ R n c, v9 = .slice R n c ∧ MadeH w wr K k R n c) (fun _ v29 _ => len - (intOf v29).toNat)
    case atStart => exact ⟨0, Nat.zero_le _, rfl, none, 0, 0, rfl, MadeH.start K HB.out⟩
    case round =>
      obtain ⟨k, hk, rfl, R, n, c, rfl, hM⟩ := hrel
      by_cases hlt : k < len
      · have l1 : decide ((k : Int) < (len : Int)) = true := decide_eq_true (by omega)
        have k4 : (k : Int) < (len : Int) := by omega
        obtain ⟨g, off, rfl, c0, c1, c2, c3, c4, c5, c6, c7, c8, c9, c10, c11⟩ := (HV.out.1.below hM.b).cells hlt
        have hD := hM.do_ (by omega)
        dsimp only [hactV] at hD
        clear hM
        go_wp2_with fail
        refine hD.mono ?_
        rintro e w2 ⟨R2, n2, c2', rfl, hM2⟩
        have HM := Lib.hid hM2
        clear hM2 hD c0 c1 c2 c3 c4 c5 c6 c7 c8 c9 c10 c11
        go_wp2
        go_roundw
        case rel => exact ⟨k + 1, by omega, by go_num, R2, n2, c2', rfl, HM.out⟩
        case measure =>
          simp [intOf]
          omega
      · obtain rfl : k = len := by omega
        have l1 : decide ((k : Int) < (k : Int)) = false := decide_eq_false (by omega)
        have hn := hM.len
        have HM := Lib.hid hM
        have HR := Lib.hid (His.run_right K k)
        obtain ⟨l, hl⟩ : ∃ l, His.runL K k = l := ⟨_, rfl⟩
        have HM := Lib.hid (show Vers wr R n l ∧ n ≤ c ∧ Below w.heap.size w wr from ⟨by rw [← hl]; exact hM.v, hM.c, hM.b⟩)
        have HR := Lib.hid (show His.Right l by rw [← hl]; exact His.run_right K k)
        clear hM hl
        have Hwr := Lib.hid (show Below wr.heap.size wr wr from Below.refl _ _)
        have HVS := Lib.hid (show ∀ W, Below wr.heap.size wr W → Vers W R n l from fun W hW => HM.out.1.below hW)
        obtain ⟨y, b, hyb⟩ := at_form (His.atL l rev)
        obtain ⟨y2, b2, hyb2⟩ := at_form (His.atL l 1099511627776)
        have hlv := His.live_top HR.out
        have HY := Lib.hid (And.intro hyb (And.intro hyb2 hlv))
        clear hyb hyb2 hlv
        have hC := atP_any R n c l rev wr (HVS.out _ Hwr.out) HM.out.2.1 (by omega)
        rw [HY.out.1] at hC
        go_wp2_with fail
        refine hC.mono ?_
        rintro e wx1 ⟨rfl, hbq⟩
        have Hwx1 := Lib.hid (Hwr.out.trans (hbq.mono Hwr.out.size))
        clear hC hbq
        obtain ⟨Wx2, hW⟩ : ∃ W, wx1.alloc (.cells #[.int .i64 y.r, .int .i64 y.k, .int .i64 y.m, .int .i64 y.v, .string y.s, .int .i64 y.l, .bool y.g] 26) = W := ⟨_, rfl⟩
        have hbq : Below wx1.heap.size wx1 Wx2 := by rw [← hW]; exact (Below.refl _ _).alloc (Nat.le_refl _) _
        have hrq : Wx2.heap[wx1.heap.size]? = some (.cells #[.int .i64 y.r, .int .i64 y.k, .int .i64 y.m, .int .i64 y.v, .string y.s, .int .i64 y.l, .bool y.g] 26) := by rw [← hW]; exact heap_alloc_new _ _
        have HW := Lib.hid hW
        clear hW
        have HWx2 := Lib.hid (Hwx1.out.trans (hbq.mono Hwx1.out.size))
        have RW0 := Lib.hid hrq
        clear hbq hrq
        go_upto_region 10 with fail
        rw [HW.out]
        clear HW
        have hC := atR_any R n c l rev Wx2 (HVS.out _ HWx2.out) (by omega)
        rw [HY.out.1] at hC
        go_wp2_with fail
        refine hC.mono ?_
        rintro e wx3 ⟨rfl, hbq⟩
        have Hwx3 := Lib.hid (HWx2.out.trans (hbq.mono HWx2.out.size))
        replace RW0 := Lib.hid ((hbq.block _ (hlq RW0.out)).trans RW0.out)
        clear hC hbq
        obtain ⟨Wx4, hW⟩ : ∃ W, wx3.alloc (.cells #[.int .i64 y.r, .int .i64 y.k, .int .i64 y.m, .int .i64 y.v, .string y.s, .int .i64 y.l, .bool y.g] 26) = W := ⟨_, rfl⟩
        have hbq : Below wx3.heap.size wx3 Wx4 := by rw [← hW]; exact (Below.refl _ _).alloc (Nat.le_refl _) _
        have hrq : Wx4.heap[wx3.heap.size]? = some (.cells #[.int .i64 y.r, .int .i64 y.k, .int .i64 y.m, .int .i64 y.v, .string y.s, .int .i64 y.l, .bool y.g] 26) := by rw [← hW]; exact heap_alloc_new _ _
        have HW := Lib.hid hW
        clear hW
        have HWx4 := Lib.hid (Hwx3.out.trans (hbq.mono Hwx3.out.size))
        replace RW0 := Lib.hid ((hbq.block _ (hlq RW0.out)).trans RW0.out)
        have RW1 := Lib.hid hrq
        clear hbq hrq
        go_upto_region 11 with fail
        rw [HW.out]
        clear HW
        have hC := liveP_any R n c l Wx4 (HVS.out _ HWx4.out) HM.out.2.1 (by omega)
        rw [HY.out.2.2, HY.out.2.1] at hC
        go_wp2_with fail
        refine hC.mono ?_
        rintro e wx5 ⟨rfl, hbq⟩
        have Hwx5 := Lib.hid (HWx4.out.trans (hbq.mono HWx4.out.size))
        replace RW0 := Lib.hid ((hbq.block _ (hlq RW0.out)).trans RW0.out)
        replace RW1 := Lib.hid ((hbq.block _ (hlq RW1.out)).trans RW1.out)
        clear hC hbq
        obtain ⟨Wx6, hW⟩ : ∃ W, wx5.alloc (.cells #[.int .i64 y2.r, .int .i64 y2.k, .int .i64 y2.m, .int .i64 y2.v, .string y2.s, .int .i64 y2.l, .bool y2.g] 26) = W := ⟨_, rfl⟩
        have hbq : Below wx5.heap.size wx5 Wx6 := by rw [← hW]; exact (Below.refl _ _).alloc (Nat.le_refl _) _
        have hrq : Wx6.heap[wx5.heap.size]? = some (.cells #[.int .i64 y2.r, .int .i64 y2.k, .int .i64 y2.m, .int .i64 y2.v, .string y2.s, .int .i64 y2.l, .bool y2.g] 26) := by rw [← hW]; exact heap_alloc_new _ _
        have HW := Lib.hid hW
        clear hW
        have HWx6 := Lib.hid (Hwx5.out.trans (hbq.mono Hwx5.out.size))
        replace RW0 := Lib.hid ((hbq.block _ (hlq RW0.out)).trans RW0.out)
        replace RW1 := Lib.hid ((hbq.block _ (hlq RW1.out)).trans RW1.out)
        have RW2 := Lib.hid hrq
        clear hbq hrq
        go_upto_region 12 with fail
        rw [HW.out]
        clear HW
        have hC := atR_any R n c l 1099511627776 Wx6 (HVS.out _ HWx6.out) (by omega)
        rw [HY.out.2.1] at hC
        go_wp2_with fail
        refine hC.mono ?_
        rintro e wx7 ⟨rfl, hbq⟩
        have Hwx7 := Lib.hid (HWx6.out.trans (hbq.mono HWx6.out.size))
        replace RW0 := Lib.hid ((hbq.block _ (hlq RW0.out)).trans RW0.out)
        replace RW1 := Lib.hid ((hbq.block _ (hlq RW1.out)).trans RW1.out)
        replace RW2 := Lib.hid ((hbq.block _ (hlq RW2.out)).trans RW2.out)
        clear hC hbq
        obtain ⟨Wx8, hW⟩ : ∃ W, wx7.alloc (.cells #[.int .i64 y2.r, .int .i64 y2.k, .int .i64 y2.m, .int .i64 y2.v, .string y2.s, .int .i64 y2.l, .bool y2.g] 26) = W := ⟨_, rfl⟩
        have hbq : Below wx7.heap.size wx7 Wx8 := by rw [← hW]; exact (Below.refl _ _).alloc (Nat.le_refl _) _
        have hrq : Wx8.heap[wx7.heap.size]? = some (.cells #[.int .i64 y2.r, .int .i64 y2.k, .int .i64 y2.m, .int .i64 y2.v, .string y2.s, .int .i64 y2.l, .bool y2.g] 26) := by rw [← hW]; exact heap_alloc_new _ _
        have HW := Lib.hid hW
        clear hW
        have HWx8 := Lib.hid (Hwx7.out.trans (hbq.mono Hwx7.out.size))
        replace RW0 := Lib.hid ((hbq.block _ (hlq RW0.out)).trans RW0.out)
        replace RW1 := Lib.hid ((hbq.block _ (hlq RW1.out)).trans RW1.out)
        replace RW2 := Lib.hid ((hbq.block _ (hlq RW2.out)).trans RW2.out)
        have RW3 := Lib.hid hrq
        clear hbq hrq
        go_upto_region 13 with fail
        rw [HW.out]
        clear HW
        obtain ⟨z0_0, z0_1, z0_2, z0_3, z0_4, z0_5, z0_6⟩ := (row7 RW0.out).1
        obtain ⟨z1_0, z1_1, z1_2, z1_3, z1_4, z1_5, z1_6⟩ := (row7 RW1.out).1
        obtain ⟨z2_0, z2_1, z2_2, z2_3, z2_4, z2_5, z2_6⟩ := (row7 RW2.out).1
        obtain ⟨z3_0, z3_1, z3_2, z3_3, z3_4, z3_5, z3_6⟩ := (row7 RW3.out).1
        have f1 := fun W => ver_eql y y W
        rw [decide_eq_true (rfl : y = y)] at f1
        dsimp only [verV] at f1
        have f2 := fun W => ver_eql y2 y2 W
        rw [decide_eq_true (rfl : y2 = y2)] at f2
        dsimp only [verV] at f2
        have f3 := ver_guard
        have hC := sinceP_any R n c l a z Wx8 (HVS.out _ HWx8.out) HM.out.2.1 (by omega)
        go_wp2_with fail
        refine hC.mono ?_
        rintro e wx9 ⟨R1, n1, c1, rfl, hO, hbq⟩
        have Hwx9 := Lib.hid (HWx8.out.trans (hbq.mono HWx8.out.size))
        replace RW0 := Lib.hid ((hbq.block _ (hlq RW0.out)).trans RW0.out)
        replace RW1 := Lib.hid ((hbq.block _ (hlq RW1.out)).trans RW1.out)
        replace RW2 := Lib.hid ((hbq.block _ (hlq RW2.out)).trans RW2.out)
        replace RW3 := Lib.hid ((hbq.block _ (hlq RW3.out)).trans RW3.out)
        clear hC hbq
        have HO1 := Lib.hid (show Own14 _ wx9 R1 n1 c1 (His.sinceL l a z) from hO)
        clear hO
        clear z0_0 z0_1 z0_2 z0_3 z0_4 z0_5 z0_6 z1_0 z1_1 z1_2 z1_3 z1_4 z1_5 z1_6 z2_0 z2_1 z2_2 z2_3 z2_4 z2_5 z2_6 z3_0 z3_1 z3_2 z3_3 z3_4 z3_5 z3_6 f1 f2 f3
        have hC := sinceR_any R n c l a z wx9 (HVS.out _ Hwx9.out) (by omega)
        go_wp2_with fail
        refine hC.mono ?_
        rintro e wx10 ⟨R2, n2, c2, rfl, hO, hbq⟩
        have Hwx10 := Lib.hid (Hwx9.out.trans (hbq.mono Hwx9.out.size))
        replace RW0 := Lib.hid ((hbq.block _ (hlq RW0.out)).trans RW0.out)
        replace RW1 := Lib.hid ((hbq.block _ (hlq RW1.out)).trans RW1.out)
        replace RW2 := Lib.hid ((hbq.block _ (hlq RW2.out)).trans RW2.out)
        replace RW3 := Lib.hid ((hbq.block _ (hlq RW3.out)).trans RW3.out)
        replace HO1 := Lib.hid (HO1.out.next hbq)
        clear hC hbq
        have HO2 := Lib.hid (show Own14 _ wx10 R2 n2 c2 (His.sinceL l a z) from hO)
        clear hO
        have hC := same_own (c1 := c1) (c2 := c2) HO1.out.sp.vers HO2.out.sp.vers rfl (by have := His.since_len l a z; have := HM.out.1.1; omega)
        go_wp2_with fail
        refine hC.mono ?_
        rintro e wx11 ⟨rfl, hbq⟩
        have Hwx11 := Lib.hid (Hwx10.out.trans (hbq.mono Hwx10.out.size))
        replace RW0 := Lib.hid ((hbq.block _ (hlq RW0.out)).trans RW0.out)
        replace RW1 := Lib.hid ((hbq.block _ (hlq RW1.out)).trans RW1.out)
        replace RW2 := Lib.hid ((hbq.block _ (hlq RW2.out)).trans RW2.out)
        replace RW3 := Lib.hid ((hbq.block _ (hlq RW3.out)).trans RW3.out)
        replace HO1 := Lib.hid (HO1.out.next hbq)
        replace HO2 := Lib.hid (HO2.out.next hbq)
        clear hC hbq
        have hbz := HM.out.2.2.trans (Hwx11.out.mono HM.out.2.2.size)
        go_wp2
        go_ret
        exact ⟨rfl, hbz⟩


end Go.Proofs.Ytmihijlegacjdaa
