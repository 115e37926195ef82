/- The program's Live and At, by their contracts. (Written by mkpe.py.) -/
import Derived.Test.YtcoddkbbgmjckaaBn29
import Derived.Test.YtcoddkbbgmjckaaBn12
namespace Go.Proofs.Ytcoddkbbgmjckaa
open Go.RowKit
set_option linter.unusedVariables false
set_option linter.unusedSimpArgs false
attribute [local go_sem] Oper.semAt_some

set_option maxRecDepth 100000 in
set_option maxHeartbeats 3200000 in
theorem liveP_any (A : Option Addr) (len cap : Nat) (l : List Ver) (w : World) (h : Vers w A len l) (hlc : len ≤ cap) (hm : len ≤ 900000) :
    Calls Try.prog 54 #[.slice A len cap] w fun e w' => e = .returned (atV (His.liveL l)) ∧ Below w.heap.size w w' := by
  have hll := h.1
  obtain ⟨W1, hW1⟩ : ∃ W1, w.alloc (.cells #[.int .i64 0, .int .i64 0, .int .i64 0, .int .i64 0, .string ⟨#[]⟩, .int .i64 0, .bool false] 37) = W1 := ⟨_, rfl⟩
  have hb1 : Below w.heap.size w W1 := by rw [← hW1]; exact (Below.refl _ _).alloc (Nat.le_refl _) _
  have hr1 : W1.heap[w.heap.size]? = some (.cells #[.int .i64 0, .int .i64 0, .int .i64 0, .int .i64 0, .string ⟨#[]⟩, .int .i64 0, .bool false] 37) := by rw [← hW1]; exact heap_alloc_new w _
  have hRt := rightP_any A len cap l W1 (h.below hb1) hlc hm
  have HH := Lib.hid (And.intro h (And.intro hb1 hr1))
  clear h hb1 hr1
  cases hq : His.rightL l with
  | false =>
    rw [hq] at hRt
    have HE := Lib.hid (show His.liveL l = none from if_neg (by rw [hq]; decide))
    clear hq
    go_enter Try.func54, Try.ntmps54
    go_wp2_with fail
    try rw [hW1]
    refine hRt.mono ?_
    rintro e w2 ⟨rfl, hb2⟩
    have hb := HH.out.2.1.trans (hb2.mono HH.out.2.1.size)
    have hr2 := (hb2.block _ (hlq HH.out.2.2)).trans HH.out.2.2
    have HZ := Lib.hid (And.intro (setRow_heap w2 _ _ #[.int .i64 0, .int .i64 0, .int .i64 0, .int .i64 0, .string ⟨#[]⟩, .int .i64 0, .bool false] _ _ hr2) (below_setRow hb (Nat.le_refl _) #[.int .i64 0, .int .i64 0, .int .i64 0, .int .i64 0, .string ⟨#[]⟩, .int .i64 0, .bool false]))
    clear hRt hb2 hb hW1
    go_wp2_with (refine wpList_store_row rfl _ _ _ rfl w.heap.size #[.int .i64 0, .int .i64 0, .int .i64 0, .int .i64 0, .string ⟨#[]⟩, .int .i64 0, .bool false] (by rfl) (by rfl) _ _ hr2 (by kernel_rfl) rfl (by first | rfl | kernel_rfl) ?_)
    refine bodyPost_ret (res_cell_tmp' (n := w.heap.size) rfl rfl HZ.out.1 Try.underlying37 rfl (by kernel_rfl)) rfl ?_
    exact ⟨by rw [HE.out]; rfl, HZ.out.2⟩
  | true =>
    rw [hq] at hRt
    have HR := Lib.hid hq
    clear hq
    go_enter Try.func54, Try.ntmps54
    go_wp2_with fail
    try rw [hW1]
    refine hRt.mono ?_
    rintro e w2 ⟨rfl, hb2⟩
    have hb := HH.out.2.1.trans (hb2.mono HH.out.2.1.size)
    have hr2 := (hb2.block _ (hlq HH.out.2.2)).trans HH.out.2.2
    have H2 := Lib.hid (And.intro hb hr2)
    clear hRt hb2 hb hr2 hW1
    have HE := Lib.hid (show His.liveL l = His.liveO l.getLast? from if_pos HR.out)
    have hL := lastP_any A len cap l w2 (HH.out.1.below H2.out.1) hm
    obtain ⟨o, ho⟩ : ∃ o, His.liveO l.getLast? = o := ⟨_, rfl⟩
    rw [ho] at hL HE
    clear ho
    unfold atV at hL
    dsimp only [verV] at hL
    have hQ : atV o = .tuple #[verV (o.getD His.none_), .bool o.isSome] := rfl
    obtain ⟨y, hy⟩ : ∃ y, o.getD His.none_ = y := ⟨_, rfl⟩
    obtain ⟨b, hb⟩ : ∃ b, o.isSome = b := ⟨_, rfl⟩
    rw [hy, hb] at hL hQ
    obtain ⟨yr, yk, ym, yv, ys, yl, yg⟩ := y
    dsimp only at hL
    dsimp only [verV] at hQ
    have HQ := Lib.hid hQ
    clear hy hb hQ
    go_wp2_with fail
    refine hL.mono ?_
    rintro e w3 ⟨rfl, hb3⟩
    have hb := H2.out.1.trans (hb3.mono H2.out.1.size)
    have hr3 := (hb3.block _ (hlq H2.out.2)).trans H2.out.2
    have HZ := Lib.hid (And.intro (setRow_heap w3 _ _ #[.int .i64 yr, .int .i64 yk, .int .i64 ym, .int .i64 yv, .string ys, .int .i64 yl, .bool yg] _ _ hr3) (below_setRow hb (Nat.le_refl _) #[.int .i64 yr, .int .i64 yk, .int .i64 ym, .int .i64 yv, .string ys, .int .i64 yl, .bool yg]))
    clear hL hb3 hb
    go_wp2_with (refine wpList_store_row rfl _ _ _ rfl w.heap.size #[.int .i64 yr, .int .i64 yk, .int .i64 ym, .int .i64 yv, .string ys, .int .i64 yl, .bool yg] (by rfl) (by rfl) _ _ hr3 (by kernel_rfl) rfl (by first | rfl | kernel_rfl) ?_)
    refine bodyPost_ret (res_cell_tmp' (n := w.heap.size) rfl rfl HZ.out.1 Try.underlying37 rfl (by kernel_rfl)) rfl ?_
    exact ⟨by rw [HE.out, HQ.out]; rfl, HZ.out.2⟩

set_option maxRecDepth 100000 in
set_option maxHeartbeats 3200000 in
theorem atP_any (A : Option Addr) (len cap : Nat) (l : List Ver) (rev : Int) (w : World) (h : Vers w A len l) (hlc : len ≤ cap) (hm : len ≤ 900000) :
    Calls Try.prog 58 #[.slice A len cap, .int .i64 rev] w fun e w' => e = .returned (atV (His.atL l rev)) ∧ Below w.heap.size w w' := by
  have hll := h.1
  obtain ⟨W1, hW1⟩ : ∃ W1, w.alloc (.cells #[.int .i64 0, .int .i64 0, .int .i64 0, .int .i64 0, .string ⟨#[]⟩, .int .i64 0, .bool false] 37) = W1 := ⟨_, rfl⟩
  have hb1 : Below w.heap.size w W1 := by rw [← hW1]; exact (Below.refl _ _).alloc (Nat.le_refl _) _
  have hr1 : W1.heap[w.heap.size]? = some (.cells #[.int .i64 0, .int .i64 0, .int .i64 0, .int .i64 0, .string ⟨#[]⟩, .int .i64 0, .bool false] 37) := by rw [← hW1]; exact heap_alloc_new w _
  have hRt := rightP_any A len cap l W1 (h.below hb1) hlc hm
  have HH := Lib.hid (And.intro h (And.intro hb1 hr1))
  clear h hb1 hr1
  cases hq : His.rightL l with
  | false =>
    rw [hq] at hRt
    have HE := Lib.hid (show His.atL l rev = none from if_neg (by rw [hq]; decide))
    clear hq
    go_enter Try.func58, Try.ntmps58
    go_wp2_with fail
    try rw [hW1]
    refine hRt.mono ?_
    rintro e w2 ⟨rfl, hb2⟩
    have hb := HH.out.2.1.trans (hb2.mono HH.out.2.1.size)
    have hr2 := (hb2.block _ (hlq HH.out.2.2)).trans HH.out.2.2
    have HZ := Lib.hid (And.intro (setRow_heap w2 _ _ #[.int .i64 0, .int .i64 0, .int .i64 0, .int .i64 0, .string ⟨#[]⟩, .int .i64 0, .bool false] _ _ hr2) (below_setRow hb (Nat.le_refl _) #[.int .i64 0, .int .i64 0, .int .i64 0, .int .i64 0, .string ⟨#[]⟩, .int .i64 0, .bool false]))
    clear hRt hb2 hb hW1
    go_wp2_with (refine wpList_store_row rfl _ _ _ rfl w.heap.size #[.int .i64 0, .int .i64 0, .int .i64 0, .int .i64 0, .string ⟨#[]⟩, .int .i64 0, .bool false] (by rfl) (by rfl) _ _ hr2 (by kernel_rfl) rfl (by first | rfl | kernel_rfl) ?_)
    refine bodyPost_ret (res_cell_tmp' (n := w.heap.size) rfl rfl HZ.out.1 Try.underlying37 rfl (by kernel_rfl)) rfl ?_
    exact ⟨by rw [HE.out]; rfl, HZ.out.2⟩
  | true =>
    rw [hq] at hRt
    have HR := Lib.hid hq
    clear hq
    go_enter Try.func58, Try.ntmps58
    go_wp2_with fail
    try rw [hW1]
    refine hRt.mono ?_
    rintro e w2 ⟨rfl, hb2⟩
    have hb := HH.out.2.1.trans (hb2.mono HH.out.2.1.size)
    have hr2 := (hb2.block _ (hlq HH.out.2.2)).trans HH.out.2.2
    have H2 := Lib.hid (And.intro hb hr2)
    clear hRt hb2 hb hr2 hW1
    have hU := uptoP_any A len cap l rev w2 (HH.out.1.below H2.out.1) hm
    go_wp2_with fail
    refine hU.mono ?_
    rintro e w2' ⟨k, rfl, hk, rfl⟩
    have hkl := hk.le
    have hsl := fun W => slice_to (A := A) (n := len) (cap := cap) elem_ver (k := k) (by omega) W
    have HE := Lib.hid (show His.atL l rev = His.liveO (l.take k).getLast? from hk.at_ ((His.right_iff l).1 HR.out))
    have hL := lastP_any A k cap (l.take k) w2 ((HH.out.1.below H2.out.1).take (by omega)) (by omega)
    obtain ⟨o, ho⟩ : ∃ o, His.liveO (l.take k).getLast? = o := ⟨_, rfl⟩
    rw [ho] at hL HE
    clear ho hk hU
    unfold atV at hL
    dsimp only [verV] at hL
    have hQ : atV o = .tuple #[verV (o.getD His.none_), .bool o.isSome] := rfl
    obtain ⟨y, hy⟩ : ∃ y, o.getD His.none_ = y := ⟨_, rfl⟩
    obtain ⟨b, hb⟩ : ∃ b, o.isSome = b := ⟨_, rfl⟩
    rw [hy, hb] at hL hQ
    obtain ⟨yr, yk, ym, yv, ys, yl, yg⟩ := y
    dsimp only at hL
    dsimp only [verV] at hQ
    have HQ := Lib.hid hQ
    clear hy hb hQ
    go_wp2_with fail
    refine hL.mono ?_
    rintro e w3 ⟨rfl, hb3⟩
    have hb := H2.out.1.trans (hb3.mono H2.out.1.size)
    have hr3 := (hb3.block _ (hlq H2.out.2)).trans H2.out.2
    have HZ := Lib.hid (And.intro (setRow_heap w3 _ _ #[.int .i64 yr, .int .i64 yk, .int .i64 ym, .int .i64 yv, .string ys, .int .i64 yl, .bool yg] _ _ hr3) (below_setRow hb (Nat.le_refl _) #[.int .i64 yr, .int .i64 yk, .int .i64 ym, .int .i64 yv, .string ys, .int .i64 yl, .bool yg]))
    clear hL hb3 hb
    go_wp2_with (refine wpList_store_row rfl _ _ _ rfl w.heap.size #[.int .i64 yr, .int .i64 yk, .int .i64 ym, .int .i64 yv, .string ys, .int .i64 yl, .bool yg] (by rfl) (by rfl) _ _ hr3 (by kernel_rfl) rfl (by first | rfl | kernel_rfl) ?_)
    refine bodyPost_ret (res_cell_tmp' (n := w.heap.size) rfl rfl HZ.out.1 Try.underlying37 rfl (by kernel_rfl)) rfl ?_
    exact ⟨by rw [HE.out, HQ.out]; rfl, HZ.out.2⟩

end Go.Proofs.Ytcoddkbbgmjckaa

namespace Go.Proofs.Ytcoddkbbgmjckaa
open Go.RowKit
set_option linter.unusedVariables false
set_option linter.unusedSimpArgs false
attribute [local go_sem] Oper.semAt_some

namespace His
theorem live_mem {l : List Ver} {y : Ver} (h : liveL l = some y) : rightL l = true ∧ y ∈ l := by
  unfold liveL at h
  split at h
  · rename_i hr
    refine ⟨hr, ?_⟩
    cases hl : l.getLast? with
    | none => rw [hl] at h; cases h
    | some z =>
      rw [hl] at h
      have hz := List.mem_of_getLast? hl
      unfold liveO at h
      dsimp only at h
      split at h
      · cases h
      · injection h with h
        subst h
        exact hz
  · cases h

theorem live_v {l : List Ver} {y : Ver} (h : liveL l = some y) : y.v ≤ 1099511627776 ∧ -9223372036854775808 ≤ y.v := by
  obtain ⟨hr, hm⟩ := live_mem h
  have hv := ((right_iff l).1 hr).ver y hm
  refine ⟨?_, (ver_v hv).1⟩
  unfold verB top at hv
  split at hv
  · cases hv
  · split at hv
    · have := of_decide_eq_true hv
      omega
    · have := of_decide_eq_true hv
      omega
end His

set_option maxRecDepth 100000 in
set_option maxHeartbeats 3200000 in
theorem putP_any (A : Option Addr) (len cap : Nat) (l : List Ver) (r m : Int) (s : ByteArray) (le : Int) (w : World) (h : Vers w A len l) (hlc : len ≤ cap) (hm : len ≤ 900000) :
    Calls Try.prog 76 #[.slice A len cap, .int .i64 r, .int .i64 m, .string s, .int .i64 le] w fun e w' => ∃ R n c, e = .returned (.tuple #[.slice R n c, .int .i64 (His.errO (His.putL l r m s le))]) ∧ Own14 w w' R n c ((His.putL l r m s le).getD []) ∧ Below w.heap.size w w' := by
  obtain ⟨W1, hW1⟩ : ∃ W1, w.alloc (.cells #[.int .i64 r, .int .i64 m, .int .i64 m, .int .i64 1, .string s, .int .i64 le, .bool false] 37) = W1 := ⟨_, rfl⟩
  have hb1 : Below w.heap.size w W1 := by rw [← hW1]; exact (Below.refl _ _).alloc (Nat.le_refl _) _
  have hr1 : W1.heap[w.heap.size]? = some (.cells #[.int .i64 r, .int .i64 m, .int .i64 m, .int .i64 1, .string s, .int .i64 le, .bool false] 37) := by rw [← hW1]; exact heap_alloc_new w _
  have hL := liveP_any A len cap l W1 (h.below hb1) hlc hm
  have hadd := fun (x : Ver) (W : World) (hW : Below w.heap.size w W) => addP_any A len cap l x W (h.below hW) hlc hm
  have HA := Lib.hid hadd
  have HH := Lib.hid (And.intro hb1 hr1)
  have HW := Lib.hid hW1
  clear h hb1 hr1 hadd hW1
  have hput := His.put_is l r m s le
  have hlv := fun y => His.live_v (l := l) (y := y)
  unfold His.putW at hput
  unfold atV at hL
  dsimp only [verV] at hL
  cases ho : His.liveL l with
  | none =>
    rw [ho] at hL hput
    have HE := Lib.hid hput
    dsimp only [Option.getD, Option.isSome, His.none_] at hL
    clear hlv ho hput
    go_enter Try.func76, Try.ntmps76
    go_upto_region 2 with fail
    rw [HW.out]
    go_wp2_with fail
    refine hL.mono ?_
    rintro e w2 ⟨rfl, hb2⟩
    have hb := HH.out.1.trans (hb2.mono HH.out.1.size)
    have hr2 := (hb2.block _ (hlq HH.out.2)).trans HH.out.2
    obtain ⟨W3, hW3⟩ : ∃ W3, w2.alloc (.cells #[.int .i64 0, .int .i64 0, .int .i64 0, .int .i64 0, .string ⟨#[]⟩, .int .i64 0, .bool false] 37) = W3 := ⟨_, rfl⟩
    have hb3 : Below w.heap.size w W3 := by rw [← hW3]; exact hb.alloc hb.size _
    have hr3 : W3.heap[w.heap.size]? = some (.cells #[.int .i64 r, .int .i64 m, .int .i64 m, .int .i64 1, .string s, .int .i64 le, .bool false] 37) := by rw [← hW3]; exact (Below.heap_alloc _ _ _ (hlq hr2)).trans hr2
    obtain ⟨x0, x1, x2, x3, x4, x5, x6⟩ := (row7 hr3).1
    have hA := HA.out ⟨r, m, m, 1, s, le, false⟩ W3 hb3
    have H3 := Lib.hid hb3
    clear hL hb2 hb hr2 hb3 hr3
    have HW3 := Lib.hid hW3
    clear hW3
    go_upto_region 3 with fail
    rw [HW3.out]
    go_wp2_with fail
    refine hA.mono ?_
    rintro e w4 ⟨R, n, c, rfl, hO, hb4⟩
    have HZ := Lib.hid (And.intro (hO.from H3.out.size) (H3.out.trans (hb4.mono H3.out.size)))
    clear hO hb4 hA
    go_wp2
    refine bodyPost_ret (results_tmp2 rfl _ _ _) rfl ?_
    exact ⟨R, n, c, by rw [HE.out]; rfl, by rw [HE.out]; exact HZ.out.1, HZ.out.2⟩
  | some y =>
    rw [ho] at hL hput
    obtain ⟨hy1, hy2⟩ := hlv y ho
    have HE := Lib.hid hput
    dsimp only [Option.getD, Option.isSome] at hL
    clear hlv ho hput
    obtain ⟨yr, yk, ym, yv, ys, yl, yg⟩ := y
    dsimp only at hL hy1 hy2
    have k5 : IntKind.i64.wrap (yv + 1) = yv + 1 := IntWalk.i64_in _ (by omega)
    go_enter Try.func76, Try.ntmps76
    go_upto_region 2 with fail
    rw [HW.out]
    go_wp2_with fail
    refine hL.mono ?_
    rintro e w2 ⟨rfl, hb2⟩
    have hb := HH.out.1.trans (hb2.mono HH.out.1.size)
    have hr2 := (hb2.block _ (hlq HH.out.2)).trans HH.out.2
    obtain ⟨W3, hW3⟩ : ∃ W3, w2.alloc (.cells #[.int .i64 yr, .int .i64 yk, .int .i64 ym, .int .i64 yv, .string ys, .int .i64 yl, .bool yg] 37) = W3 := ⟨_, rfl⟩
    have hb3 : Below w.heap.size w W3 := by rw [← hW3]; exact hb.alloc hb.size _
    have hr3 : W3.heap[w.heap.size]? = some (.cells #[.int .i64 r, .int .i64 m, .int .i64 m, .int .i64 1, .string s, .int .i64 le, .bool false] 37) := by rw [← hW3]; exact (Below.heap_alloc _ _ _ (hlq hr2)).trans hr2
    have hy3 : W3.heap[w2.heap.size]? = some (.cells #[.int .i64 yr, .int .i64 yk, .int .i64 ym, .int .i64 yv, .string ys, .int .i64 yl, .bool yg] 37) := by rw [← hW3]; exact heap_alloc_new w2 _
    have hlt2 := hlq hr2
    have H3 := Lib.hid (And.intro hb3 (And.intro hr3 hlt2))
    clear hL hb2 hb hr2 hb3
    have HW3 := Lib.hid hW3
    clear hW3
    go_upto_region 4 with fail
    rw [HW3.out]
    obtain ⟨c0, c1, c2, c3, c4, c5, c6⟩ := (row7 hy3).1
    have x1 := (row7 hr3).1.2.1
    have f1 : W3.drew.frozen? ⟨w.heap.size, 1, none⟩ = false := (row7 hr3).2.2.1
    have hfar : ∀ (W : World) (j : Nat) (v : Value) (o : Nat), (W.setCell ⟨w.heap.size, j, none⟩ v).cell? ⟨w2.heap.size, o, none⟩ = W.cell? ⟨w2.heap.size, o, none⟩ := fun W j v o => World.cell?_of_block (Below.heap_setCell _ _ _ _ (by show w2.heap.size ≠ w.heap.size; omega))
    have HF := Lib.hid hfar
    clear hr3 hfar hlt2
    refine wp_region_held_drew (S := (fun w' => w'.cell? ⟨w2.heap.size, 1, none⟩ = some (.int .i64 yk) ∧ w'.cell? ⟨w2.heap.size, 3, none⟩ = some (.int .i64 yv))) (by kernel_rfl) ⟨c1, c3⟩ (fun hHeld => ?_)
    clear c0 c1 c2 c3 c4 c5 c6 hy3
    refine lsq 9 ?_
    refine tkq 0 ?_
    refine tkq 1 ?_
    refine tkq 2 ?_
    refine tkq 3 ?_
    refine tkq 4 ?_
    refine tkq 5 ?_
    refine rdq1 6 fun KK hK => ?_
    go_simp
    refine hK.out _ _ ⟨(HF.out _ _ _ _).trans hHeld.1, (HF.out _ _ _ _).trans hHeld.2⟩ ?_
    clear hK KK hHeld f1 x1
    intro hHeld
    try simp only [lpq]
    obtain ⟨W4, hW4⟩ : ∃ W4, (W3.setCell ⟨w.heap.size, 1, none⟩ (.int .i64 yk)).drew = W4 := ⟨_, rfl⟩
    rw [hW4] at hHeld ⊢
    have hr4 : W4.heap[w.heap.size]? = some (.cells #[.int .i64 r, .int .i64 yk, .int .i64 m, .int .i64 1, .string s, .int .i64 le, .bool false] 37) := by rw [← hW4]; exact setCell_at W3 ⟨w.heap.size, 1, none⟩ (.int .i64 yk) _ _ _ rfl H3.out.2.1
    have hb4 : Below w.heap.size w W4 := by rw [← hW4]; exact (H3.out.1.setCell (p := ⟨w.heap.size, 1, none⟩) (Nat.le_refl _) _).drew
    have x3 := (row7 hr4).1.2.2.2.1
    have f3 := (row7 hr4).2.2.2.2.1
    clear hW4
    refine tkq 7 ?_
    refine rdq1 8 fun KK hK => ?_
    go_simp
    refine hK.out _ _ ⟨(HF.out _ _ _ _).trans hHeld.1, (HF.out _ _ _ _).trans hHeld.2⟩ ?_
    clear hK KK hHeld f3 x3
    intro hHeld
    try simp only [lpq]
    refine dnq ?_
    obtain ⟨W9, hW9⟩ : ∃ W9, W4.setCell ⟨w.heap.size, 3, none⟩ (.int .i64 (yv + 1)) = W9 := ⟨_, rfl⟩
    rw [hW9]
    have hr9 : W9.heap[w.heap.size]? = some (.cells #[.int .i64 r, .int .i64 yk, .int .i64 m, .int .i64 (yv + 1), .string s, .int .i64 le, .bool false] 37) := by rw [← hW9]; exact setCell_at W4 ⟨w.heap.size, 3, none⟩ (.int .i64 (yv + 1)) _ _ _ rfl hr4
    have hb9 : Below w.heap.size w W9 := by rw [← hW9]; exact hb4.setCell (p := ⟨w.heap.size, 3, none⟩) (Nat.le_refl _) _
    obtain ⟨x0, x1, x2, x3, x4, x5, x6⟩ := (row7 hr9).1
    have hA := HA.out ⟨r, yk, m, yv + 1, s, le, false⟩ W9 hb9
    have H9 := Lib.hid hb9
    clear hW9 hr4 hr9 hb4 hb9 hHeld
    go_wp2_with fail
    refine hA.mono ?_
    rintro e w5 ⟨R, n, c, rfl, hO, hb5⟩
    have HZ := Lib.hid (And.intro (hO.from H9.out.size) (H9.out.trans (hb5.mono H9.out.size)))
    clear hO hb5 hA
    go_wp2
    refine bodyPost_ret (results_tmp2 rfl _ _ _) rfl ?_
    exact ⟨R, n, c, by rw [HE.out]; rfl, by rw [HE.out]; exact HZ.out.1, HZ.out.2⟩

set_option maxRecDepth 100000 in
set_option maxHeartbeats 3200000 in
theorem delP_any (A : Option Addr) (len cap : Nat) (l : List Ver) (r m : Int) (w : World) (h : Vers w A len l) (hlc : len ≤ cap) (hm : len ≤ 900000) :
    Calls Try.prog 78 #[.slice A len cap, .int .i64 r, .int .i64 m] w fun e w' => ∃ R n c, e = .returned (.tuple #[.slice R n c, .int .i64 (His.delL l r m).2]) ∧ Own14 w w' R n c (His.delL l r m).1 ∧ Below w.heap.size w w' := by
  have hA := addP_any A len cap l (His.goneV r m) w h hlc hm
  have hL := fun W (hW : Below w.heap.size w W) => liveP_any A len cap l W (h.below hW) hlc hm
  have HV := Lib.hid hL
  have hdel := His.del_is l r m
  clear h hL
  have hg : (⟨r, 0, m, 0, ⟨#[]⟩, 0, true⟩ : Ver) = His.goneV r m := rfl
  dsimp only [verV, His.goneV] at hA
  rw [hg] at hA
  cases ho : His.addL l (His.goneV r m) with
  | none =>
    rw [ho] at hdel hA
    have HE := Lib.hid hdel
    clear hdel ho
    rw [show His.errO none = 1 from rfl] at hA
    go_enter Try.func78, Try.ntmps78
    go_wp2_with fail
    refine hA.mono ?_
    rintro e w2 ⟨R, n, c, rfl, hO, hb2⟩
    have HB := Lib.hid hb2
    clear hA hb2 hO
    go_wp2
    refine bodyPost_ret (results_tmp2 rfl _ _ _) rfl ?_
    exact ⟨none, 0, 0, by rw [HE.out]; rfl, by rw [HE.out]; exact Own14.none _ _, HB.out⟩
  | some o =>
    rw [ho] at hdel hA
    rw [show His.errO (some o) = 0 from rfl] at hA
    clear ho
    go_enter Try.func78, Try.ntmps78
    go_wp2_with fail
    refine hA.mono ?_
    rintro e w2 ⟨R, n, c, rfl, hO, hb2⟩
    have hL := HV.out w2 hb2
    have HB := Lib.hid (And.intro hb2 hO)
    clear hA hb2 hO
    unfold atV at hL
    dsimp only [verV] at hL
    cases hv : His.liveL l with
    | none =>
      rw [hv] at hdel hL
      have HE := Lib.hid hdel
      dsimp only [Option.getD, Option.isSome, His.none_] at hL
      clear hdel hv
      go_wp2_with fail
      refine hL.mono ?_
      rintro e w3 ⟨rfl, hb3⟩
      have hb := HB.out.1.trans (hb3.mono HB.out.1.size)
      have hbz := hb.alloc (o := .cells #[.int .i64 0, .int .i64 0, .int .i64 0, .int .i64 0, .string ⟨#[]⟩, .int .i64 0, .bool false] 37) hb.size
      have HZ := Lib.hid hbz
      clear hL hb3 hb hbz
      go_wp2
      refine bodyPost_ret (results_tmp2 rfl _ _ _) rfl ?_
      exact ⟨none, 0, 0, by rw [HE.out]; rfl, by rw [HE.out]; exact Own14.none _ _, HZ.out⟩
    | some y =>
      rw [hv] at hdel hL
      have HE := Lib.hid hdel
      dsimp only [Option.getD, Option.isSome] at hL
      clear hdel hv
      go_wp2_with fail
      refine hL.mono ?_
      rintro e w3 ⟨rfl, hb3⟩
      have hb := HB.out.1.trans (hb3.mono HB.out.1.size)
      have hbz := hb.alloc (o := .cells #[.int .i64 y.r, .int .i64 y.k, .int .i64 y.m, .int .i64 y.v, .string y.s, .int .i64 y.l, .bool y.g] 37) hb.size
      have hbz3 := hb3.alloc (o := .cells #[.int .i64 y.r, .int .i64 y.k, .int .i64 y.m, .int .i64 y.v, .string y.s, .int .i64 y.l, .bool y.g] 37) hb3.size
      have HZ := Lib.hid (And.intro (HB.out.2.next hbz3) hbz)
      clear hL hb3 hb hbz hbz3
      go_wp2
      refine bodyPost_ret (results_tmp2 rfl _ _ _) rfl ?_
      exact ⟨R, n, c, by rw [HE.out]; rfl, by rw [HE.out]; exact HZ.out.1, HZ.out.2⟩

end Go.Proofs.Ytcoddkbbgmjckaa
