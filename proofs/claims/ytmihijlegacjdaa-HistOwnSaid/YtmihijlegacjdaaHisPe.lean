/- The program's Live and At, by their contracts. (Written by mkpe.py.) -/
import Derived.Test.YtmihijlegacjdaaHisPd
namespace Go.Proofs.Ytmihijlegacjdaa
open Go.RowKit
set_option linter.unusedVariables false
set_option linter.unusedSimpArgs false
attribute [local go_sem] Oper.semAt_some

set_option maxRecDepth 100000 in
set_option maxHeartbeats 3200000 in
theorem liveP_any (A : Option Addr) (len cap : Nat) (l : List Ver) (w : World) (h : Vers w A len l) (hlc : len ≤ cap) (hm : len ≤ 900000) :
    Calls Try.prog 19 #[.slice A len cap] w fun e w' => e = .returned (atV (His.liveL l)) ∧ Below w.heap.size w w' := by
  have hll := h.1
  obtain ⟨W1, hW1⟩ : ∃ W1, w.alloc (.cells #[.int .i64 0, .int .i64 0, .int .i64 0, .int .i64 0, .string ⟨#[]⟩, .int .i64 0, .bool false] 26) = W1 := ⟨_, rfl⟩
  have hb1 : Below w.heap.size w W1 := by rw [← hW1]; exact (Below.refl _ _).alloc (Nat.le_refl _) _
  have hr1 : W1.heap[w.heap.size]? = some (.cells #[.int .i64 0, .int .i64 0, .int .i64 0, .int .i64 0, .string ⟨#[]⟩, .int .i64 0, .bool false] 26) := by rw [← hW1]; exact heap_alloc_new w _
  have hRt := rightP_any A len cap l W1 (h.below hb1) hlc hm
  have HH := Lib.hid (And.intro h (And.intro hb1 hr1))
  clear h hb1 hr1
  cases hq : His.rightL l with
  | false =>
    rw [hq] at hRt
    have HE := Lib.hid (show His.liveL l = none from if_neg (by rw [hq]; decide))
    clear hq
    go_enter Try.func19, Try.ntmps19
    go_wp2_with fail
    try rw [hW1]
    refine hRt.mono ?_
    rintro e w2 ⟨rfl, hb2⟩
    have hb := HH.out.2.1.trans (hb2.mono HH.out.2.1.size)
    have hr2 := (hb2.block _ (hlq HH.out.2.2)).trans HH.out.2.2
    have HZ := Lib.hid (And.intro (setRow_heap w2 _ _ #[.int .i64 0, .int .i64 0, .int .i64 0, .int .i64 0, .string ⟨#[]⟩, .int .i64 0, .bool false] _ _ hr2) (below_setRow hb (Nat.le_refl _) #[.int .i64 0, .int .i64 0, .int .i64 0, .int .i64 0, .string ⟨#[]⟩, .int .i64 0, .bool false]))
    clear hRt hb2 hb hW1
    go_wp2_with (refine wpList_store_row rfl _ _ _ rfl w.heap.size #[.int .i64 0, .int .i64 0, .int .i64 0, .int .i64 0, .string ⟨#[]⟩, .int .i64 0, .bool false] (by rfl) (by rfl) _ _ hr2 (by kernel_rfl) rfl (by first | rfl | kernel_rfl) ?_)
    refine bodyPost_ret (res_cell_tmp' (n := w.heap.size) rfl rfl HZ.out.1 Try.underlying26 rfl (by kernel_rfl)) rfl ?_
    exact ⟨by rw [HE.out]; rfl, HZ.out.2⟩
  | true =>
    rw [hq] at hRt
    have HR := Lib.hid hq
    clear hq
    go_enter Try.func19, Try.ntmps19
    go_wp2_with fail
    try rw [hW1]
    refine hRt.mono ?_
    rintro e w2 ⟨rfl, hb2⟩
    have hb := HH.out.2.1.trans (hb2.mono HH.out.2.1.size)
    have hr2 := (hb2.block _ (hlq HH.out.2.2)).trans HH.out.2.2
    have H2 := Lib.hid (And.intro hb hr2)
    clear hRt hb2 hb hr2 hW1
    have HE := Lib.hid (show His.liveL l = His.liveO l.getLast? from if_pos HR.out)
    have hL := lastP_any A len cap l w2 (HH.out.1.below H2.out.1) hm
    obtain ⟨o, ho⟩ : ∃ o, His.liveO l.getLast? = o := ⟨_, rfl⟩
    rw [ho] at hL HE
    clear ho
    unfold atV at hL
    dsimp only [verV] at hL
    have hQ : atV o = .tuple #[verV (o.getD His.none_), .bool o.isSome] := rfl
    obtain ⟨y, hy⟩ : ∃ y, o.getD His.none_ = y := ⟨_, rfl⟩
    obtain ⟨b, hb⟩ : ∃ b, o.isSome = b := ⟨_, rfl⟩
    rw [hy, hb] at hL hQ
    obtain ⟨yr, yk, ym, yv, ys, yl, yg⟩ := y
    dsimp only at hL
    dsimp only [verV] at hQ
    have HQ := Lib.hid hQ
    clear hy hb hQ
    go_wp2_with fail
    refine hL.mono ?_
    rintro e w3 ⟨rfl, hb3⟩
    have hb := H2.out.1.trans (hb3.mono H2.out.1.size)
    have hr3 := (hb3.block _ (hlq H2.out.2)).trans H2.out.2
    have HZ := Lib.hid (And.intro (setRow_heap w3 _ _ #[.int .i64 yr, .int .i64 yk, .int .i64 ym, .int .i64 yv, .string ys, .int .i64 yl, .bool yg] _ _ hr3) (below_setRow hb (Nat.le_refl _) #[.int .i64 yr, .int .i64 yk, .int .i64 ym, .int .i64 yv, .string ys, .int .i64 yl, .bool yg]))
    clear hL hb3 hb
    go_wp2_with (refine wpList_store_row rfl _ _ _ rfl w.heap.size #[.int .i64 yr, .int .i64 yk, .int .i64 ym, .int .i64 yv, .string ys, .int .i64 yl, .bool yg] (by rfl) (by rfl) _ _ hr3 (by kernel_rfl) rfl (by first | rfl | kernel_rfl) ?_)
    refine bodyPost_ret (res_cell_tmp' (n := w.heap.size) rfl rfl HZ.out.1 Try.underlying26 rfl (by kernel_rfl)) rfl ?_
    exact ⟨by rw [HE.out, HQ.out]; rfl, HZ.out.2⟩

set_option maxRecDepth 100000 in
set_option maxHeartbeats 3200000 in
theorem atP_any (A : Option Addr) (len cap : Nat) (l : List Ver) (rev : Int) (w : World) (h : Vers w A len l) (hlc : len ≤ cap) (hm : len ≤ 900000) :
    Calls Try.prog 13 #[.slice A len cap, .int .i64 rev] w fun e w' => e = .returned (atV (His.atL l rev)) ∧ Below w.heap.size w w' := by
  have hll := h.1
  obtain ⟨W1, hW1⟩ : ∃ W1, w.alloc (.cells #[.int .i64 0, .int .i64 0, .int .i64 0, .int .i64 0, .string ⟨#[]⟩, .int .i64 0, .bool false] 26) = W1 := ⟨_, rfl⟩
  have hb1 : Below w.heap.size w W1 := by rw [← hW1]; exact (Below.refl _ _).alloc (Nat.le_refl _) _
  have hr1 : W1.heap[w.heap.size]? = some (.cells #[.int .i64 0, .int .i64 0, .int .i64 0, .int .i64 0, .string ⟨#[]⟩, .int .i64 0, .bool false] 26) := by rw [← hW1]; exact heap_alloc_new w _
  have hRt := rightP_any A len cap l W1 (h.below hb1) hlc hm
  have HH := Lib.hid (And.intro h (And.intro hb1 hr1))
  clear h hb1 hr1
  cases hq : His.rightL l with
  | false =>
    rw [hq] at hRt
    have HE := Lib.hid (show His.atL l rev = none from if_neg (by rw [hq]; decide))
    clear hq
    go_enter Try.func13, Try.ntmps13
    go_wp2_with fail
    try rw [hW1]
    refine hRt.mono ?_
    rintro e w2 ⟨rfl, hb2⟩
    have hb := HH.out.2.1.trans (hb2.mono HH.out.2.1.size)
    have hr2 := (hb2.block _ (hlq HH.out.2.2)).trans HH.out.2.2
    have HZ := Lib.hid (And.intro (setRow_heap w2 _ _ #[.int .i64 0, .int .i64 0, .int .i64 0, .int .i64 0, .string ⟨#[]⟩, .int .i64 0, .bool false] _ _ hr2) (below_setRow hb (Nat.le_refl _) #[.int .i64 0, .int .i64 0, .int .i64 0, .int .i64 0, .string ⟨#[]⟩, .int .i64 0, .bool false]))
    clear hRt hb2 hb hW1
    go_wp2_with (refine wpList_store_row rfl _ _ _ rfl w.heap.size #[.int .i64 0, .int .i64 0, .int .i64 0, .int .i64 0, .string ⟨#[]⟩, .int .i64 0, .bool false] (by rfl) (by rfl) _ _ hr2 (by kernel_rfl) rfl (by first | rfl | kernel_rfl) ?_)
    refine bodyPost_ret (res_cell_tmp' (n := w.heap.size) rfl rfl HZ.out.1 Try.underlying26 rfl (by kernel_rfl)) rfl ?_
    exact ⟨by rw [HE.out]; rfl, HZ.out.2⟩
  | true =>
    rw [hq] at hRt
    have HR := Lib.hid hq
    clear hq
    go_enter Try.func13, Try.ntmps13
    go_wp2_with fail
    try rw [hW1]
    refine hRt.mono ?_
    rintro e w2 ⟨rfl, hb2⟩
    have hb := HH.out.2.1.trans (hb2.mono HH.out.2.1.size)
    have hr2 := (hb2.block _ (hlq HH.out.2.2)).trans HH.out.2.2
    have H2 := Lib.hid (And.intro hb hr2)
    clear hRt hb2 hb hr2 hW1
    have hU := uptoP_any A len cap l rev w2 (HH.out.1.below H2.out.1) hm
    go_wp2_with fail
    refine hU.mono ?_
    rintro e w2' ⟨k, rfl, hk, rfl⟩
    have hkl := hk.le
    have hsl := fun W => slice_to (A := A) (n := len) (cap := cap) elem_ver (k := k) (by omega) W
    have HE := Lib.hid (show His.atL l rev = His.liveO (l.take k).getLast? from hk.at_ ((His.right_iff l).1 HR.out))
    have hL := lastP_any A k cap (l.take k) w2 ((HH.out.1.below H2.out.1).take (by omega)) (by omega)
    obtain ⟨o, ho⟩ : ∃ o, His.liveO (l.take k).getLast? = o := ⟨_, rfl⟩
    rw [ho] at hL HE
    clear ho hk hU
    unfold atV at hL
    dsimp only [verV] at hL
    have hQ : atV o = .tuple #[verV (o.getD His.none_), .bool o.isSome] := rfl
    obtain ⟨y, hy⟩ : ∃ y, o.getD His.none_ = y := ⟨_, rfl⟩
    obtain ⟨b, hb⟩ : ∃ b, o.isSome = b := ⟨_, rfl⟩
    rw [hy, hb] at hL hQ
    obtain ⟨yr, yk, ym, yv, ys, yl, yg⟩ := y
    dsimp only at hL
    dsimp only [verV] at hQ
    have HQ := Lib.hid hQ
    clear hy hb hQ
    go_wp2_with fail
    refine hL.mono ?_
    rintro e w3 ⟨rfl, hb3⟩
    have hb := H2.out.1.trans (hb3.mono H2.out.1.size)
    have hr3 := (hb3.block _ (hlq H2.out.2)).trans H2.out.2
    have HZ := Lib.hid (And.intro (setRow_heap w3 _ _ #[.int .i64 yr, .int .i64 yk, .int .i64 ym, .int .i64 yv, .string ys, .int .i64 yl, .bool yg] _ _ hr3) (below_setRow hb (Nat.le_refl _) #[.int .i64 yr, .int .i64 yk, .int .i64 ym, .int .i64 yv, .string ys, .int .i64 yl, .bool yg]))
    clear hL hb3 hb
    go_wp2_with (refine wpList_store_row rfl _ _ _ rfl w.heap.size #[.int .i64 yr, .int .i64 yk, .int .i64 ym, .int .i64 yv, .string ys, .int .i64 yl, .bool yg] (by rfl) (by rfl) _ _ hr3 (by kernel_rfl) rfl (by first | rfl | kernel_rfl) ?_)
    refine bodyPost_ret (res_cell_tmp' (n := w.heap.size) rfl rfl HZ.out.1 Try.underlying26 rfl (by kernel_rfl)) rfl ?_
    exact ⟨by rw [HE.out, HQ.out]; rfl, HZ.out.2⟩

end Go.Proofs.Ytmihijlegacjdaa
