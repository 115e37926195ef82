/- HistRight's walk. (Written by mkwalk.py.) -/
import Derived.Test.YtmihijlegacjdaaHisMade
namespace Go.Proofs.Ytmihijlegacjdaa
open Go.RowKit
set_option linter.unusedVariables false
set_option linter.unusedSimpArgs false
attribute [local go_sem] Oper.semAt_some

set_option maxRecDepth 100000 in
set_option maxHeartbeats 6400000 in
theorem histRight_walk (A : Option Addr) (len cap : Nat) (l : List Ver) (rev : Int) (w : World) (h : Vers w A len l) (hlc : len ≤ cap) (hm : len ≤ maxLen) (hs : ∀ x ∈ l, VerWf x) :
    Calls Try.prog 3 #[.slice A len cap, .int .i64 rev] w fun e w' => e = .returned (.bool true) ∧ Below w.heap.size w w' := by
  have HVS := Lib.hid (show ∀ W, Below w.heap.size w W → Vers W A len l from fun W hW => h.below hW)
  have hz := fun x hx => (hs x hx).s
  clear h hs
  go_enter Try.func3, Try.ntmps3
  go_wp2_with fail
  refine (awake14_any _).mono ?_
  rintro e w1 ⟨rfl, hb1⟩
  have hF := fewR14_any A len cap l w1 (HVS.out w1 hb1) hm hz
  have HB := Lib.hid hb1
  clear hb1 hz
  go_wp2_with fail
  refine hF.mono ?_
  rintro e w1' ⟨b, rfl, hb40, rfl⟩
  cases b with
  | false =>
    go_wp2_with fail
    refine (awake14_any _).mono ?_
    rintro e w8 ⟨rfl, hb8⟩
    have hbz := HB.out.trans (hb8.mono HB.out.size)
    go_wp2
    go_ret
    exact ⟨rfl, hbz⟩
  | true =>
    have h40 := hb40 rfl
    have hll := (HVS.out w1 HB.out).1
    clear hF hb40
    cases hq : His.rightL l with
    | true =>
      obtain ⟨y, b, hyb⟩ := at_form (His.atL l rev)
      have HY := Lib.hid hyb
      clear hyb
      have Hw1 := Lib.hid (show Below w.heap.size w w1 from HB.out)
      have hC := rightR_any A len cap l w1 (HVS.out _ Hw1.out) (by unfold maxLen; omega)
      rw [hq] at hC
      go_wp2_with fail
      refine hC.mono ?_
      rintro e wx1 ⟨rfl, hbq⟩
      have Hwx1 := Lib.hid (Hw1.out.trans (hbq.mono Hw1.out.size))
      clear hC hbq
      have hC := rightP_any A len cap l wx1 (HVS.out _ Hwx1.out) hlc (by omega)
      rw [hq] at hC
      go_wp2_with fail
      refine hC.mono ?_
      rintro e wx2 ⟨rfl, hbq⟩
      have Hwx2 := Lib.hid (Hwx1.out.trans (hbq.mono Hwx1.out.size))
      clear hC hbq
      have hC := atP_any A len cap l rev wx2 (HVS.out _ Hwx2.out) hlc (by omega)
      rw [HY.out] at hC
      go_wp2_with fail
      refine hC.mono ?_
      rintro e wx3 ⟨rfl, hbq⟩
      have Hwx3 := Lib.hid (Hwx2.out.trans (hbq.mono Hwx2.out.size))
      clear hC hbq
      obtain ⟨Wx4, hW⟩ : ∃ W, wx3.alloc (.cells #[.int .i64 y.r, .int .i64 y.k, .int .i64 y.m, .int .i64 y.v, .string y.s, .int .i64 y.l, .bool y.g] 26) = W := ⟨_, rfl⟩
      have hbq : Below wx3.heap.size wx3 Wx4 := by rw [← hW]; exact (Below.refl _ _).alloc (Nat.le_refl _) _
      have hrq : Wx4.heap[wx3.heap.size]? = some (.cells #[.int .i64 y.r, .int .i64 y.k, .int .i64 y.m, .int .i64 y.v, .string y.s, .int .i64 y.l, .bool y.g] 26) := by rw [← hW]; exact heap_alloc_new _ _
      have HW := Lib.hid hW
      clear hW
      have HWx4 := Lib.hid (Hwx3.out.trans (hbq.mono Hwx3.out.size))
      have RW0 := Lib.hid hrq
      clear hbq hrq
      go_upto_region 7 with fail
      rw [HW.out]
      clear HW
      have hC := atR_any A len cap l rev Wx4 (HVS.out _ HWx4.out) (by omega)
      rw [HY.out] at hC
      go_wp2_with fail
      refine hC.mono ?_
      rintro e wx5 ⟨rfl, hbq⟩
      have Hwx5 := Lib.hid (HWx4.out.trans (hbq.mono HWx4.out.size))
      replace RW0 := Lib.hid ((hbq.block _ (hlq RW0.out)).trans RW0.out)
      clear hC hbq
      obtain ⟨Wx6, hW⟩ : ∃ W, wx5.alloc (.cells #[.int .i64 y.r, .int .i64 y.k, .int .i64 y.m, .int .i64 y.v, .string y.s, .int .i64 y.l, .bool y.g] 26) = W := ⟨_, rfl⟩
      have hbq : Below wx5.heap.size wx5 Wx6 := by rw [← hW]; exact (Below.refl _ _).alloc (Nat.le_refl _) _
      have hrq : Wx6.heap[wx5.heap.size]? = some (.cells #[.int .i64 y.r, .int .i64 y.k, .int .i64 y.m, .int .i64 y.v, .string y.s, .int .i64 y.l, .bool y.g] 26) := by rw [← hW]; exact heap_alloc_new _ _
      have HW := Lib.hid hW
      clear hW
      have HWx6 := Lib.hid (Hwx5.out.trans (hbq.mono Hwx5.out.size))
      replace RW0 := Lib.hid ((hbq.block _ (hlq RW0.out)).trans RW0.out)
      have RW1 := Lib.hid hrq
      clear hbq hrq
      go_upto_region 8 with fail
      rw [HW.out]
      clear HW
      obtain ⟨z0_0, z0_1, z0_2, z0_3, z0_4, z0_5, z0_6⟩ := (row7 RW0.out).1
      obtain ⟨z1_0, z1_1, z1_2, z1_3, z1_4, z1_5, z1_6⟩ := (row7 RW1.out).1
      have f1 := fun W => ver_eql y y W
      rw [decide_eq_true (rfl : y = y)] at f1
      dsimp only [verV] at f1
      have f3 := ver_guard
      have hbz := HWx6.out
      go_wp2
      go_ret
      exact ⟨rfl, hbz⟩
    | false =>
      have HY := Lib.hid (show His.atL l rev = none from if_neg (by rw [hq]; decide))
      have Hw1 := Lib.hid (show Below w.heap.size w w1 from HB.out)
      have hC := rightR_any A len cap l w1 (HVS.out _ Hw1.out) (by unfold maxLen; omega)
      rw [hq] at hC
      go_wp2_with fail
      refine hC.mono ?_
      rintro e wx1 ⟨rfl, hbq⟩
      have Hwx1 := Lib.hid (Hw1.out.trans (hbq.mono Hw1.out.size))
      clear hC hbq
      have hC := rightP_any A len cap l wx1 (HVS.out _ Hwx1.out) hlc (by omega)
      rw [hq] at hC
      go_wp2_with fail
      refine hC.mono ?_
      rintro e wx2 ⟨rfl, hbq⟩
      have Hwx2 := Lib.hid (Hwx1.out.trans (hbq.mono Hwx1.out.size))
      clear hC hbq
      have hC := atP_any A len cap l rev wx2 (HVS.out _ Hwx2.out) hlc (by omega)
      rw [HY.out] at hC
      unfold atV at hC
      dsimp only [verV, Option.getD, Option.isSome, His.none_] at hC
      go_wp2_with fail
      refine hC.mono ?_
      rintro e wx3 ⟨rfl, hbq⟩
      have Hwx3 := Lib.hid (Hwx2.out.trans (hbq.mono Hwx2.out.size))
      clear hC hbq
      obtain ⟨Wx4, hW⟩ : ∃ W, wx3.alloc (.cells #[.int .i64 0, .int .i64 0, .int .i64 0, .int .i64 0, .string ⟨#[]⟩, .int .i64 0, .bool false] 26) = W := ⟨_, rfl⟩
      have hbq : Below wx3.heap.size wx3 Wx4 := by rw [← hW]; exact (Below.refl _ _).alloc (Nat.le_refl _) _
      have hrq : Wx4.heap[wx3.heap.size]? = some (.cells #[.int .i64 0, .int .i64 0, .int .i64 0, .int .i64 0, .string ⟨#[]⟩, .int .i64 0, .bool false] 26) := by rw [← hW]; exact heap_alloc_new _ _
      have HW := Lib.hid hW
      clear hW
      have HWx4 := Lib.hid (Hwx3.out.trans (hbq.mono Hwx3.out.size))
      have RW0 := Lib.hid hrq
      clear hbq hrq
      go_upto_region 7 with fail
      rw [HW.out]
      clear HW
      have hC := atR_any A len cap l rev Wx4 (HVS.out _ HWx4.out) (by omega)
      rw [HY.out] at hC
      unfold atV at hC
      dsimp only [verV, Option.getD, Option.isSome, His.none_] at hC
      go_wp2_with fail
      refine hC.mono ?_
      rintro e wx5 ⟨rfl, hbq⟩
      have Hwx5 := Lib.hid (HWx4.out.trans (hbq.mono HWx4.out.size))
      replace RW0 := Lib.hid ((hbq.block _ (hlq RW0.out)).trans RW0.out)
      clear hC hbq
      obtain ⟨Wx6, hW⟩ : ∃ W, wx5.alloc (.cells #[.int .i64 0, .int .i64 0, .int .i64 0, .int .i64 0, .string ⟨#[]⟩, .int .i64 0, .bool false] 26) = W := ⟨_, rfl⟩
      have hbq : Below wx5.heap.size wx5 Wx6 := by rw [← hW]; exact (Below.refl _ _).alloc (Nat.le_refl _) _
      have hrq : Wx6.heap[wx5.heap.size]? = some (.cells #[.int .i64 0, .int .i64 0, .int .i64 0, .int .i64 0, .string ⟨#[]⟩, .int .i64 0, .bool false] 26) := by rw [← hW]; exact heap_alloc_new _ _
      have HW := Lib.hid hW
      clear hW
      have HWx6 := Lib.hid (Hwx5.out.trans (hbq.mono Hwx5.out.size))
      replace RW0 := Lib.hid ((hbq.block _ (hlq RW0.out)).trans RW0.out)
      have RW1 := Lib.hid hrq
      clear hbq hrq
      go_upto_region 8 with fail
      rw [HW.out]
      clear HW
      obtain ⟨z0_0, z0_1, z0_2, z0_3, z0_4, z0_5, z0_6⟩ := (row7 RW0.out).1
      obtain ⟨z1_0, z1_1, z1_2, z1_3, z1_4, z1_5, z1_6⟩ := (row7 RW1.out).1
      have f1 := fun W => ver_eql His.none_ His.none_ W
      rw [decide_eq_true (rfl : His.none_ = His.none_)] at f1
      dsimp only [verV, His.none_] at f1
      have f3 := ver_guard
      have hC := sinceP_any A len cap l 0 rev Wx6 (HVS.out _ HWx6.out) hlc (by omega)
      go_wp2_with fail
      refine hC.mono ?_
      rintro e wx7 ⟨R1, n1, c1, rfl, hO, hbq⟩
      have Hwx7 := Lib.hid (HWx6.out.trans (hbq.mono HWx6.out.size))
      replace RW0 := Lib.hid ((hbq.block _ (hlq RW0.out)).trans RW0.out)
      replace RW1 := Lib.hid ((hbq.block _ (hlq RW1.out)).trans RW1.out)
      obtain rfl : n1 = 0 := by have h1 := hO.len; rw [show His.sinceL l 0 rev = [] from if_neg (by rw [hq]; decide)] at h1; exact h1.symm
      clear hO
      clear hC hbq
      have hC := trimP_any A len cap l rev wx7 (HVS.out _ Hwx7.out) hlc (by omega)
      go_wp2_with fail
      refine hC.mono ?_
      rintro e wx8 ⟨R2, n2, c2, rfl, hO, hbq⟩
      have Hwx8 := Lib.hid (Hwx7.out.trans (hbq.mono Hwx7.out.size))
      replace RW0 := Lib.hid ((hbq.block _ (hlq RW0.out)).trans RW0.out)
      replace RW1 := Lib.hid ((hbq.block _ (hlq RW1.out)).trans RW1.out)
      obtain rfl : n2 = 0 := by have h1 := hO.len; rw [show His.trimL l rev = [] from if_neg (by rw [hq]; decide)] at h1; exact h1.symm
      clear hO
      clear hC hbq
      have hbz := Hwx8.out
      go_wp2
      go_ret
      exact ⟨rfl, hbz⟩


end Go.Proofs.Ytmihijlegacjdaa
