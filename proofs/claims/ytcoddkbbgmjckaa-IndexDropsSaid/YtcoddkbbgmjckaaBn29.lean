/- The program's behind, last and upTo, by their contracts. -/
import Derived.Test.YtcoddkbbgmjckaaBn28
import Derived.Laws.MakeOwn
namespace Go.Proofs.Ytcoddkbbgmjckaa
open Go.RowKit
set_option linter.unusedVariables false
set_option linter.unusedSimpArgs false
attribute [local go_sem] Oper.semAt_some

set_option maxRecDepth 100000 in
set_option maxHeartbeats 3200000 in
theorem behP_any (A : Option Addr) (len cap : Nat) (l : List Ver) (x : Ver) (w : World) (h : Vers w A len l) (hm : len ≤ 900000) :
    Calls Try.prog 101 #[.slice A len cap, verV x] w fun e w' => e = .returned (.bool (His.behB l x)) ∧ Below w.heap.size w w' := by
  have hll := h.1
  have hbx : Below w.heap.size w (w.alloc (.cells #[.int .i64 x.r, .int .i64 x.k, .int .i64 x.m, .int .i64 x.v, .string x.s, .int .i64 x.l, .bool x.g] 37)) := (Below.refl _ _).alloc (Nat.le_refl _) _
  have hc1 := heap_alloc_new w (.cells #[.int .i64 x.r, .int .i64 x.k, .int .i64 x.m, .int .i64 x.v, .string x.s, .int .i64 x.l, .bool x.g] 37)
  have hv1 := h.below hbx
  dsimp only [verV]
  by_cases h0 : len = 0
  · obtain rfl : l = [] := List.eq_nil_of_length_eq_zero (by omega)
    have l1 : ((len : Int) == 0) = true := by rw [h0]; rfl
    clear h hv1 hc1
    go_enter Try.func101, Try.ntmps101
    go_wp2
    go_ret
    exact ⟨rfl, hbx⟩
  · have l1 : ((len : Int) == 0) = false := beq_eq_false_iff_ne.2 (by omega)
    have l2 : (len == 0) = false := beq_eq_false_iff_ne.2 h0
    have k3 : IntKind.i64.wrap ((len : Int) - 1) = ((len - 1 : Nat) : Int) := by rw [IntWalk.i64_in _ (by omega)]; omega
    have k4 : ((len - 1 : Nat) : Int) < (len : Int) := by omega
    obtain ⟨g, off, rfl, hg, hc⟩ := hv1.2 (by omega)
    obtain ⟨c0, c1, c2, c3, c4, c5, c6⟩ := hc (len - 1) (by omega)
    have hlast : l.getLast? = l[len - 1]? := by rw [List.getLast?_eq_getElem?, hll]
    rw [List.getElem?_eq_getElem (show len - 1 < l.length by omega)] at hlast
    obtain ⟨y, hy⟩ : ∃ y, l[len - 1]'(by omega) = y := ⟨_, rfl⟩
    rw [hy] at c0 c1 c2 c3 c4 c5 c6 hlast
    have hbeh : His.behB l x = decide (y.r < x.r ∧ y.m < x.m) := by unfold His.behB; rw [hlast]; rfl
    have hb2 : Below w.heap.size w ((w.alloc (.cells #[.int .i64 x.r, .int .i64 x.k, .int .i64 x.m, .int .i64 x.v, .string x.s, .int .i64 x.l, .bool x.g] 37)).alloc (.cells #[.int .i64 y.r, .int .i64 y.k, .int .i64 y.m, .int .i64 y.v, .string y.s, .int .i64 y.l, .bool y.g] 37)) := hbx.alloc hbx.size _
    obtain ⟨x0, x1, x2, x3, x4, x5, x6⟩ := (row7 hc1).1
    have HB := Lib.hid hb2
    clear hc hy hlast h hv1 hbx hb2 hc1
    generalize len - 1 = k' at *
    by_cases h1 : y.r < x.r
    · have e1 : decide (y.r < x.r) = true := decide_eq_true h1
      by_cases h2 : y.m < x.m
      · have e2 : decide (y.m < x.m) = true := decide_eq_true h2
        have HE := Lib.hid (hbeh.trans (decide_eq_true ⟨h1, h2⟩))
        clear hbeh h1 h2
        go_enter Try.func101, Try.ntmps101
        go_wp2
        go_ret
        exact ⟨by rw [HE.out]; rfl, HB.out⟩
      · have e2 : decide (y.m < x.m) = false := decide_eq_false h2
        have HE := Lib.hid (hbeh.trans (decide_eq_false fun q => h2 q.2))
        clear hbeh h1 h2
        go_enter Try.func101, Try.ntmps101
        go_wp2
        go_ret
        exact ⟨by rw [HE.out]; rfl, HB.out⟩
    · have e1 : decide (y.r < x.r) = false := decide_eq_false h1
      have HE := Lib.hid (hbeh.trans (decide_eq_false fun q => h1 q.1))
      clear hbeh h1
      go_enter Try.func101, Try.ntmps101
      go_wp2
      go_ret
      exact ⟨by rw [HE.out]; rfl, HB.out⟩

set_option maxRecDepth 100000 in
set_option maxHeartbeats 3200000 in
theorem lastP_any (A : Option Addr) (len cap : Nat) (l : List Ver) (w : World) (h : Vers w A len l) (hm : len ≤ 900000) :
    Calls Try.prog 85 #[.slice A len cap] w fun e w' => e = .returned (atV (His.liveO l.getLast?)) ∧ Below w.heap.size w w' := by
  have hll := h.1
  obtain ⟨W1, hW1⟩ : ∃ W1, w.alloc (.cells #[.int .i64 0, .int .i64 0, .int .i64 0, .int .i64 0, .string ⟨#[]⟩, .int .i64 0, .bool false] 37) = W1 := ⟨_, rfl⟩
  have hb1 : Below w.heap.size w W1 := by rw [← hW1]; exact (Below.refl _ _).alloc (Nat.le_refl _) _
  have hr1 : W1.heap[w.heap.size]? = some (.cells #[.int .i64 0, .int .i64 0, .int .i64 0, .int .i64 0, .string ⟨#[]⟩, .int .i64 0, .bool false] 37) := by rw [← hW1]; exact heap_alloc_new w _
  have hv1 := h.below hb1
  clear h
  have hz : (W1.setRow w.heap.size #[.int .i64 0, .int .i64 0, .int .i64 0, .int .i64 0, .string ⟨#[]⟩, .int .i64 0, .bool false]).heap[w.heap.size]? = some (.cells #[.int .i64 0, .int .i64 0, .int .i64 0, .int .i64 0, .string ⟨#[]⟩, .int .i64 0, .bool false] 37) := setRow_heap W1 _ _ _ _ _ hr1
  by_cases h0 : len = 0
  · obtain rfl : l = [] := List.eq_nil_of_length_eq_zero (by omega)
    have l1 : ((len : Int) == 0) = true := by rw [h0]; rfl
    have HZ := Lib.hid (And.intro hz (below_setRow hb1 (Nat.le_refl _) #[.int .i64 0, .int .i64 0, .int .i64 0, .int .i64 0, .string ⟨#[]⟩, .int .i64 0, .bool false]))
    clear hv1 hz hb1
    go_enter Try.func85, Try.ntmps85
    go_upto_region 1 with fail
    try rw [hW1]
    clear hW1
    go_wp2_with (refine wpList_store_row rfl _ _ _ rfl w.heap.size #[.int .i64 0, .int .i64 0, .int .i64 0, .int .i64 0, .string ⟨#[]⟩, .int .i64 0, .bool false] (by rfl) (by rfl) _ _ hr1 (by kernel_rfl) rfl (by first | rfl | kernel_rfl) ?_)
    refine bodyPost_ret (res_cell_tmp' (n := w.heap.size) rfl rfl HZ.out.1 Try.underlying37 rfl (by kernel_rfl)) rfl ?_
    exact ⟨rfl, HZ.out.2⟩
  · have l1 : ((len : Int) == 0) = false := beq_eq_false_iff_ne.2 (by omega)
    have l2 : (len == 0) = false := beq_eq_false_iff_ne.2 h0
    have k3 : IntKind.i64.wrap ((len : Int) - 1) = ((len - 1 : Nat) : Int) := by rw [IntWalk.i64_in _ (by omega)]; omega
    have k4 : ((len - 1 : Nat) : Int) < (len : Int) := by omega
    obtain ⟨g, off, rfl, hg, hc⟩ := hv1.2 (by omega)
    obtain ⟨c0, c1, c2, c3, c4, c5, c6⟩ := hc (len - 1) (by omega)
    have hlast : l.getLast? = l[len - 1]? := by rw [List.getLast?_eq_getElem?, hll]
    rw [List.getElem?_eq_getElem (show len - 1 < l.length by omega)] at hlast
    obtain ⟨y, hy⟩ : ∃ y, l[len - 1]'(by omega) = y := ⟨_, rfl⟩
    rw [hy] at c0 c1 c2 c3 c4 c5 c6 hlast
    clear hc hy hv1
    generalize len - 1 = k' at *
    cases hyg : y.g with
    | true =>
      have HE := Lib.hid (show His.liveO l.getLast? = none by rw [hlast]; exact if_pos hyg)
      have HZ := Lib.hid (And.intro hz (below_setRow hb1 (Nat.le_refl _) #[.int .i64 0, .int .i64 0, .int .i64 0, .int .i64 0, .string ⟨#[]⟩, .int .i64 0, .bool false]))
      rw [hyg] at c6
      clear hz hb1 hlast hyg
      go_enter Try.func85, Try.ntmps85
      go_upto_region 1 with fail
      try rw [hW1]
      clear hW1
      go_wp2_with (refine wpList_store_row rfl _ _ _ rfl w.heap.size #[.int .i64 0, .int .i64 0, .int .i64 0, .int .i64 0, .string ⟨#[]⟩, .int .i64 0, .bool false] (by rfl) (by rfl) _ _ hr1 (by kernel_rfl) rfl (by first | rfl | kernel_rfl) ?_)
      refine bodyPost_ret (res_cell_tmp' (n := w.heap.size) rfl rfl HZ.out.1 Try.underlying37 rfl (by kernel_rfl)) rfl ?_
      exact ⟨by rw [HE.out]; rfl, HZ.out.2⟩
    | false =>
      have HE := Lib.hid (show His.liveO l.getLast? = some y by rw [hlast]; exact if_neg (by rw [hyg]; decide))
      have hxv : verV y = .agg #[.int .i64 y.r, .int .i64 y.k, .int .i64 y.m, .int .i64 y.v, .string y.s, .int .i64 y.l, .bool false] := by rw [← hyg]
      rw [hyg] at c6
      have hz2 : (W1.setRow w.heap.size #[.int .i64 y.r, .int .i64 y.k, .int .i64 y.m, .int .i64 y.v, .string y.s, .int .i64 y.l, .bool false]).heap[w.heap.size]? = some (.cells #[.int .i64 y.r, .int .i64 y.k, .int .i64 y.m, .int .i64 y.v, .string y.s, .int .i64 y.l, .bool false] 37) := setRow_heap W1 _ _ _ _ _ hr1
      have HZ2 := Lib.hid (And.intro hz2 (And.intro (below_setRow hb1 (Nat.le_refl _) #[.int .i64 y.r, .int .i64 y.k, .int .i64 y.m, .int .i64 y.v, .string y.s, .int .i64 y.l, .bool false]) hxv))
      clear hz hz2 hb1 hlast hyg hxv
      go_enter Try.func85, Try.ntmps85
      go_upto_region 1 with fail
      try rw [hW1]
      clear hW1
      go_wp2_with (refine wpList_store_row rfl _ _ _ rfl w.heap.size #[.int .i64 y.r, .int .i64 y.k, .int .i64 y.m, .int .i64 y.v, .string y.s, .int .i64 y.l, .bool false] (by rfl) (by rfl) _ _ hr1 (by kernel_rfl) rfl (by first | rfl | kernel_rfl) ?_)
      refine bodyPost_ret (res_cell_tmp' (n := w.heap.size) rfl rfl HZ2.out.1 Try.underlying37 rfl (by kernel_rfl)) rfl ?_
      refine ⟨?_, HZ2.out.2.1⟩
      rw [HE.out]
      show _ = Ending.returned (.tuple #[verV y, .bool true])
      rw [HZ2.out.2.2]
      rfl

set_option maxRecDepth 100000 in
set_option maxHeartbeats 3200000 in
theorem uptoP_any (A : Option Addr) (len cap : Nat) (l : List Ver) (rev : Int) (w : World) (h : Vers w A len l) (hm : len ≤ 900000) :
    Calls Try.prog 87 #[.slice A len cap, .int .i64 rev] w fun e w' => ∃ k : Nat, e = .returned (.int .i64 (k : Int)) ∧ His.UpTo l rev k ∧ w = w' := by
  have hll := h.1
  have HV := Lib.hid h
  clear h
  go_enter Try.func87, Try.ntmps87
  go_wp2_with fail
  go_loopw [5] (fun v5 wr => ∃ k : Nat, k ≤ len ∧ v5 = .int .i64 (k : Int) ∧ wr = w ∧ ∀ j (hj : j < l.length), j < k → l[j].r ≤ rev) (fun v5 _ => len - (intOf v5).toNat)
  case atStart => exact ⟨0, Nat.zero_le _, rfl, rfl, fun j _ hj => absurd hj (by omega)⟩
  case round =>
    obtain ⟨k, hk, rfl, rfl, hall⟩ := hrel
    have HALL := Lib.hid hall
    clear hall
    by_cases hlt : k < len
    · have l1 : decide ((k : Int) < (len : Int)) = true := decide_eq_true (by omega)
      have k4 : (k : Int) < (len : Int) := by omega
      obtain ⟨g, off, rfl, hg, hc⟩ := HV.out.2 (by omega)
      have c0 := (hc k (by omega)).1
      obtain ⟨x, hx⟩ : ∃ x, l[k]'(by omega) = x := ⟨_, rfl⟩
      rw [hx] at c0
      have HX := Lib.hid hx
      clear hc hx
      by_cases h1 : x.r ≤ rev
      · have e1 : decide (x.r ≤ rev) = true := decide_eq_true h1
        have HL := Lib.hid h1
        clear h1
        go_wp2
        go_roundw
        case rel => exact ⟨k + 1, by omega, by go_num, by first | rfl | trivial, fun j hj hjk => by
          by_cases e : j = k
          · subst e
            rw [HX.out]
            exact HL.out
          · exact HALL.out j hj (by omega)⟩
        case measure =>
          simp [intOf]
          omega
      · have e1 : decide (x.r ≤ rev) = false := decide_eq_false h1
        have HL := Lib.hid h1
        clear h1
        go_wp2
        go_ret
        exact ⟨k, rfl, ⟨by omega, HALL.out, fun hk' => by rw [HX.out]; have := HL.out; omega⟩, rfl⟩
    · obtain rfl : k = len := by omega
      have l1 : decide ((k : Int) < (k : Int)) = false := decide_eq_false (by omega)
      go_wp2
      go_ret
      exact ⟨k, rfl, ⟨by omega, HALL.out, fun hk' => absurd hk' (by omega)⟩, rfl⟩

end Go.Proofs.Ytcoddkbbgmjckaa

namespace Go.Proofs.Ytcoddkbbgmjckaa
open Go.RowKit
set_option linter.unusedVariables false
set_option linter.unusedSimpArgs false
attribute [local go_sem] Oper.semAt_some

theorem Vers.take {w : World} {A : Option Addr} {len : Nat} {l : List Ver} (h : Vers w A len l) {k : Nat} (hk : k ≤ len) : Vers w A k (l.take k) := by
  have hll := h.1
  refine ⟨by rw [List.length_take]; omega, fun h0 => ?_⟩
  obtain ⟨g, off, e, hg, hc⟩ := h.2 (by omega)
  refine ⟨g, off, e, hg, fun j hj => ?_⟩
  rw [List.length_take] at hj
  rw [List.getElem_take]
  exact hc j (by omega)

set_option maxRecDepth 100000 in
set_option maxHeartbeats 3200000 in
theorem rightP_any (A : Option Addr) (len cap : Nat) (l : List Ver) (w : World) (h : Vers w A len l) (hlc : len ≤ cap) (hm : len ≤ 900000) :
    Calls Try.prog 84 #[.slice A len cap] w fun e w' => e = .returned (.bool (His.rightL l)) ∧ Below w.heap.size w w' := by
  have hll := h.1
  have HV := Lib.hid h
  clear h
  go_enter Try.func84, Try.ntmps84
  go_wp2_with fail
  go_loopw [7] (fun v7 wr => ∃ k : Nat, k ≤ len ∧ v7 = .int .i64 (k : Int) ∧ Below w.heap.size w wr ∧ ∀ i, i < k → His.stepH l i = true) (fun v7 _ => len - (intOf v7).toNat)
  case atStart => exact ⟨0, Nat.zero_le _, rfl, Below.refl _ _, fun i hi => absurd hi (by omega)⟩
  case round =>
    obtain ⟨k, hk, rfl, hb, hall⟩ := hrel
    have HALL := Lib.hid hall
    have HB := Lib.hid hb
    have hbel := HV.out.below hb
    clear hall hb
    by_cases hlt : k < len
    · have l1 : decide ((k : Int) < (len : Int)) = true := decide_eq_true (by omega)
      have k4 : (k : Int) < (len : Int) := by omega
      obtain ⟨g, off, rfl, hg, hc⟩ := hbel.2 (by omega)
      obtain ⟨c0, c1, c2, c3, c4, c5, c6⟩ := hc k (by omega)
      have hsl : ∀ W, (Instr.slice 58 (.slice (some ⟨g, off, none⟩) len cap) none (some (.int .i64 (k : Int))) none).run Try.prog W = .ok (.slice (some ⟨g, off, none⟩) k cap) W := fun W => slice_to elem_ver (by omega) W
      have hst := His.step_beh l k (by omega)
      obtain ⟨x, hx⟩ : ∃ x, l[k]'(by omega) = x := ⟨_, rfl⟩
      rw [hx] at c0 c1 c2 c3 c4 c5 c6 hst
      have hV := fun W => verP_any x W
      have hBe := fun W (hW : Below w.heap.size w W) => behP_any (some ⟨g, off, none⟩) k cap (l.take k) x W ((HV.out.below hW).take (by omega)) (by omega)
      clear hc hbel hx
      obtain ⟨xr, xk, xm, xv, xs, xl, xg⟩ := x
      dsimp only [verV] at hV hBe c0 c1 c2 c3 c4 c5 c6
      generalize (⟨xr, xk, xm, xv, xs, xl, xg⟩ : Ver) = x at *
      have HBe := Lib.hid hBe
      clear hBe
      obtain ⟨W1, hW1⟩ : ∃ W1, wr.alloc (.cells #[.int .i64 xr, .int .i64 xk, .int .i64 xm, .int .i64 xv, .string xs, .int .i64 xl, .bool xg] 37) = W1 := ⟨_, rfl⟩
      have hb1 : Below w.heap.size w W1 := by rw [← hW1]; exact HB.out.alloc HB.out.size _
      have hr1 : W1.heap[wr.heap.size]? = some (.cells #[.int .i64 xr, .int .i64 xk, .int .i64 xm, .int .i64 xv, .string xs, .int .i64 xl, .bool xg] 37) := by rw [← hW1]; exact heap_alloc_new wr _
      have HB1 := Lib.hid (And.intro hb1 hr1)
      clear hb1 hr1
      go_upto_region 4 with fail
      try rw [hW1]
      refine wp_region_held_drew (S := (fun w' => w'.cell? ⟨wr.heap.size, 0, none⟩ = some (.int .i64 xr) ∧ w'.cell? ⟨wr.heap.size, 1, none⟩ = some (.int .i64 xk) ∧ w'.cell? ⟨wr.heap.size, 2, none⟩ = some (.int .i64 xm) ∧ w'.cell? ⟨wr.heap.size, 3, none⟩ = some (.int .i64 xv) ∧ w'.cell? ⟨wr.heap.size, 4, none⟩ = some (.string xs) ∧ w'.cell? ⟨wr.heap.size, 5, none⟩ = some (.int .i64 xl) ∧ w'.cell? ⟨wr.heap.size, 6, none⟩ = some (.bool xg))) (by kernel_rfl) (row7 HB1.out.2).1 (fun hHeld => ?_)
      refine lsq 11 ?_
      refine tkq 0 ?_
      clear c0 c1 c2 c3 c4 c5 c6 hW1
      cases hvb : His.verB x with
      | false =>
        rw [hvb] at hV
        have HF := Lib.hid (His.right_no (l := l) k (by omega) (by rw [hst, hvb, Bool.false_and]))
        clear hst hvb
        refine rdq1 1 fun KK hK => ?_
        go_simp
        refine (hV _).mono ?_
        rintro e w1 ⟨rfl, hb1⟩
        have hb1 := show Below W1.heap.size W1 w1 from ⟨hb1.os, hb1.tape, hb1.output, hb1.size, hb1.block⟩
        have hbw := HB1.out.1.trans (hb1.mono HB1.out.1.size)
        refine hK.out _ _ (row7 ((hb1.block _ (hlq HB1.out.2)).trans HB1.out.2)).1 ?_
        clear hK KK hHeld hb1
        intro hHeld
        try simp only [lpq]
        refine tkq 2 ?_
        refine tkq 3 ?_
        refine tuq 4 ?_
        refine tuq 5 ?_
        refine tuq 6 ?_
        refine tuq 7 ?_
        refine tuq 8 ?_
        refine tuq 9 ?_
        refine tkq 10 ?_
        refine dnq ?_
        go_wp2
        go_ret
        exact ⟨by rw [HF.out]; rfl, hbw⟩
      | true =>
        rw [hvb] at hV
        rw [hvb, Bool.true_and] at hst
        clear hvb
        refine rdq1 1 fun KK hK => ?_
        go_simp
        refine (hV _).mono ?_
        rintro e w1 ⟨rfl, hb1⟩
        have hb1 := show Below W1.heap.size W1 w1 from ⟨hb1.os, hb1.tape, hb1.output, hb1.size, hb1.block⟩
        have hbw := HB1.out.1.trans (hb1.mono HB1.out.1.size)
        have hr2 := (hb1.block _ (hlq HB1.out.2)).trans HB1.out.2
        have hB2 := HBe.out w1 hbw
        refine hK.out _ _ (row7 hr2).1 ?_
        clear hK KK hHeld hb1 hV
        intro hHeld
        try simp only [lpq]
        refine tkq 2 ?_
        refine tkq 3 ?_
        refine tkq 4 ?_
        refine tkq 5 ?_
        refine tkq 6 ?_
        refine tkq 7 ?_
        cases hbe : His.behB (l.take k) x with
        | false =>
          rw [hbe] at hB2
          have HF := Lib.hid (His.right_no (l := l) k (by omega) (by rw [hst, hbe]))
          clear hst hbe
          refine rdq1 8 fun KK hK => ?_
          go_simp
          refine hB2.mono ?_
          rintro e w2 ⟨rfl, hb2⟩
          have hbw2 := hbw.trans (hb2.mono hbw.size)
          refine hK.out _ _ (row7 ((hb2.block _ (hlq hr2)).trans hr2)).1 ?_
          clear hK KK hHeld hb2 hB2
          intro hHeld
          try simp only [lpq]
          refine tkq 9 ?_
          refine tkq 10 ?_
          refine dnq ?_
          go_wp2
          go_ret
          exact ⟨by rw [HF.out]; rfl, hbw2⟩
        | true =>
          rw [hbe] at hB2
          have HST := Lib.hid (hst.trans hbe)
          clear hst hbe
          refine rdq1 8 fun KK hK => ?_
          go_simp
          refine hB2.mono ?_
          rintro e w2 ⟨rfl, hb2⟩
          have hbw2 := hbw.trans (hb2.mono hbw.size)
          refine hK.out _ _ (row7 ((hb2.block _ (hlq hr2)).trans hr2)).1 ?_
          clear hK KK hHeld hb2 hB2
          intro hHeld
          try simp only [lpq]
          refine tkq 9 ?_
          refine tkq 10 ?_
          refine dnq ?_
          go_wp2
          go_roundw
          case rel => exact ⟨k + 1, by omega, by go_num, hbw2, fun i hi => by
            rcases Nat.lt_or_ge i k with h1 | h1
            · exact HALL.out i h1
            · obtain rfl : i = k := by omega
              exact HST.out⟩
          case measure =>
            simp [intOf]
            omega
    · obtain rfl : k = len := by omega
      have l1 : decide ((k : Int) < (k : Int)) = false := decide_eq_false (by omega)
      have HT := Lib.hid (His.right_yes (l := l) fun j hj => HALL.out j (by omega))
      clear hbel
      go_wp2
      go_ret
      exact ⟨by rw [HT.out]; rfl, HB.out⟩

end Go.Proofs.Ytcoddkbbgmjckaa

namespace Go.Proofs.Ytcoddkbbgmjckaa
open Go.RowKit
set_option linter.unusedVariables false
set_option linter.unusedSimpArgs false
attribute [local go_sem] Oper.semAt_some

/-- Which error. -/
def His.errO (o : Option (List Ver)) : Int := if o.isSome = true then 0 else 1

theorem make_sp {ts T : TypeId} {z : Value} {sz bytes : Nat} (Ee : Elem ts T z sz bytes) (n : Nat) (hn : n ≤ 1000000) (w1 : World) : (Instr.makeSlice ts (.int .i64 0) (.int .i64 (n : Int))).run Try.prog w1 = .ok (.slice (some ⟨w1.heap.size, 0, none⟩) 0 n) (w1.alloc (.cells (madeCells z.cells (n * sz)) T)) := by
  obtain ⟨i0, hi0, hz0, hz1, hz2⟩ := info_parts Ee.info
  have hfew := Ee.few
  have hb : n * bytes ≤ 1000000 * 1000 := Nat.mul_le_mul hn hfew
  have := run_make (P := Try.prog) w1 ts T i0 _ Ee.sl hi0 hz0 .i64 .i64 0 (n : Int) (Int.le_refl _) (by omega) (by rw [hz2, Int.mul_comm]; omega) (by omega)
  rw [hz1] at this
  exact this

theorem Sp.made {T : TypeId} {sz : Nat} {w : World} {g n : Nat} {zc : Array Value} (h : w.heap[g]? = some (.cells (madeCells zc (n * sz)) T)) : Sp T sz w (some ⟨g, 0, none⟩) 0 n [] :=
  ⟨by simp, Nat.zero_le _, (fun e => by cases e), fun a e => ⟨g, 0, _, by injection e with e; exact e.symm, h, by rw [size_madeCells]; omega, fun j u hu => by simp at hu⟩⟩

theorem Vers.none_ {w : World} {A : Option Addr} {len : Nat} {l : List Ver} (h : Vers w A len l) : A = none → len = 0 := fun e => by
  subst e
  rcases Nat.eq_zero_or_pos len with h0 | h0
  · exact h0
  · obtain ⟨g, o, e, _⟩ := h.2 h0
    cases e

set_option maxRecDepth 100000 in
set_option maxHeartbeats 3200000 in
theorem addP_any (A : Option Addr) (len cap : Nat) (l : List Ver) (x : Ver) (w : World) (h : Vers w A len l) (hlc : len ≤ cap) (hm : len ≤ 900000) :
    Calls Try.prog 81 #[.slice A len cap, verV x] w fun e w' => ∃ R n c, e = .returned (.tuple #[.slice R n c, .int .i64 (His.errO (His.addL l x))]) ∧ Own14 w w' R n c ((His.addL l x).getD []) ∧ Below w.heap.size w w' := by
  have hll := h.1
  have hVt := fun W => verP_any x W
  have hBt := fun W (hW : Below w.heap.size w W) => behP_any A len cap l x W (h.below hW) hm
  obtain ⟨xr, xk, xm, xv, xs, xl, xg⟩ := x
  obtain ⟨x, hx⟩ : ∃ x : Ver, (⟨xr, xk, xm, xv, xs, xl, xg⟩ : Ver) = x := ⟨_, rfl⟩
  have hxc : verC x = [.int .i64 xr, .int .i64 xk, .int .i64 xm, .int .i64 xv, .string xs, .int .i64 xl, .bool xg] := by rw [← hx]; rfl
  dsimp only [verV] at hVt hBt ⊢
  rw [hx] at hVt hBt ⊢
  obtain ⟨W1, hW1⟩ : ∃ W1, w.alloc (.cells #[.int .i64 xr, .int .i64 xk, .int .i64 xm, .int .i64 xv, .string xs, .int .i64 xl, .bool xg] 37) = W1 := ⟨_, rfl⟩
  have hb1 : Below w.heap.size w W1 := by rw [← hW1]; exact (Below.refl _ _).alloc (Nat.le_refl _) _
  have hr1 : W1.heap[w.heap.size]? = some (.cells #[.int .i64 xr, .int .i64 xk, .int .i64 xm, .int .i64 xv, .string xs, .int .i64 xl, .bool xg] 37) := by rw [← hW1]; exact heap_alloc_new w _
  have hs1 : W1.heap.size = w.heap.size + 1 := by rw [← hW1]; simp
  have hRt := rightP_any A len cap l W1 (h.below hb1) hlc hm
  have h1c : ∀ u ∈ ([.int .i64 xr, .int .i64 xk, .int .i64 xm, .int .i64 xv, .string xs, .int .i64 xl, .bool xg] : List Value), u.oneCell' = true := fun u hu => rowH_one u x (by rw [hxc]; exact hu)
  have hrw : (rowH l).length = len * 7 := by rw [rowH_len, hll]
  have HH := Lib.hid (And.intro h (And.intro hxc (And.intro hb1 (And.intro hr1 hs1))))
  have HB := Lib.hid hBt
  clear h hb1 hr1 hs1 hx hxc hBt
  cases hq : His.rightL l with
  | false =>
    rw [hq] at hRt
    have HE := Lib.hid (show His.addL l x = none from His.add_no (.inl hq))
    clear hq
    go_enter Try.func81, Try.ntmps81
    go_wp2_with fail
    try rw [hW1]
    refine hRt.mono ?_
    rintro e w2 ⟨rfl, hb2⟩
    have hb := HH.out.2.2.1.trans (hb2.mono HH.out.2.2.1.size)
    go_wp2
    refine bodyPost_ret (results_tmp2 rfl _ _ _) rfl ?_
    exact ⟨none, 0, 0, by rw [HE.out]; rfl, by rw [HE.out]; exact Own14.none _ _, hb⟩
  | true =>
    rw [hq] at hRt
    go_enter Try.func81, Try.ntmps81
    go_wp2_with fail
    try rw [hW1]
    refine hRt.mono ?_
    rintro e w2 ⟨rfl, hb2⟩
    have hb := HH.out.2.2.1.trans (hb2.mono HH.out.2.2.1.size)
    have hr2 := (hb2.block _ (hlq HH.out.2.2.2.1)).trans HH.out.2.2.2.1
    obtain ⟨x0, x1, x2, x3, x4, x5, x6⟩ := (row7 hr2).1
    have H2 := Lib.hid (And.intro hb hr2)
    clear hRt hb2 hb hr2 hW1
    cases hv : His.verB x with
    | false =>
      rw [hv] at hVt
      have HE := Lib.hid (show His.addL l x = none from His.add_no (.inr (.inl hv)))
      clear hv hq
      go_wp2_with fail
      refine (hVt _).mono ?_
      rintro e w3 ⟨rfl, hb3⟩
      have hb := H2.out.1.trans (hb3.mono H2.out.1.size)
      clear x0 x1 x2 x3 x4 x5 x6
      go_wp2
      refine bodyPost_ret (results_tmp2 rfl _ _ _) rfl ?_
      exact ⟨none, 0, 0, by rw [HE.out]; rfl, by rw [HE.out]; exact Own14.none _ _, hb⟩
    | true =>
      rw [hv] at hVt
      go_wp2_with fail
      refine (hVt _).mono ?_
      rintro e w3 ⟨rfl, hb3⟩
      have hb := H2.out.1.trans (hb3.mono H2.out.1.size)
      have hr3 := (hb3.block _ (hlq H2.out.2)).trans H2.out.2
      have hB3 := HB.out w3 hb
      have H3 := Lib.hid (And.intro hb hr3)
      clear x0 x1 x2 x3 x4 x5 x6
      obtain ⟨x0, x1, x2, x3, x4, x5, x6⟩ := (row7 hr3).1
      clear hVt hb3 hb hr3
      cases hbe : His.behB l x with
      | false =>
        rw [hbe] at hB3
        have HE := Lib.hid (show His.addL l x = none from His.add_no (.inr (.inr hbe)))
        clear hv hq hbe
        go_wp2_with fail
        refine hB3.mono ?_
        rintro e w4 ⟨rfl, hb4⟩
        have hb := H3.out.1.trans (hb4.mono H3.out.1.size)
        clear x0 x1 x2 x3 x4 x5 x6
        go_wp2
        refine bodyPost_ret (results_tmp2 rfl _ _ _) rfl ?_
        exact ⟨none, 0, 0, by rw [HE.out]; rfl, by rw [HE.out]; exact Own14.none _ _, hb⟩
      | true =>
        rw [hbe] at hB3
        have HE := Lib.hid (His.add_yes hq hv hbe)
        clear hv hq hbe
        obtain ⟨n1, hn1⟩ : ∃ n1, len + 1 = n1 := ⟨_, rfl⟩
        have k3 : IntKind.i64.wrap ((len : Int) + 1) = (n1 : Int) := by rw [IntWalk.i64_in _ (by omega)]; omega
        have hmk := fun W => make_sp elem_ver n1 (by omega) W
        dsimp only [Value.cells] at hmk
        go_wp2_with fail
        refine hB3.mono ?_
        rintro e w4 ⟨rfl, hb4⟩
        have hb := H3.out.1.trans (hb4.mono H3.out.1.size)
        have hr4 := (hb4.block _ (hlq H3.out.2)).trans H3.out.2
        clear x0 x1 x2 x3 x4 x5 x6
        have H4 := Lib.hid (And.intro hb hr4)
        clear hB3 hb4 hb hr4
        go_upto_region 4 with fail
        obtain ⟨W5, hW5⟩ : ∃ W5, w4.alloc (.cells (madeCells #[.int .i64 0, .int .i64 0, .int .i64 0, .int .i64 0, .string ⟨#[]⟩, .int .i64 0, .bool false] (n1 * 7)) 37) = W5 := ⟨_, rfl⟩
        rw [hW5]
        have hb5 : Below w.heap.size w W5 := by rw [← hW5]; exact H4.out.1.alloc H4.out.1.size _
        have hz5 : W5.heap[w4.heap.size]? = some (.cells (madeCells #[.int .i64 0, .int .i64 0, .int .i64 0, .int .i64 0, .string ⟨#[]⟩, .int .i64 0, .bool false] (n1 * 7)) 37) := by rw [← hW5]; exact heap_alloc_new w4 _
        have hr5 : W5.heap[w.heap.size]? = some (.cells #[.int .i64 xr, .int .i64 xk, .int .i64 xm, .int .i64 xv, .string xs, .int .i64 xl, .bool xg] 37) := by rw [← hW5]; exact (Below.heap_alloc _ _ _ (hlq H4.out.2)).trans H4.out.2
        have hs5 : W5.heap.size = w4.heap.size + 1 := by rw [← hW5]; simp
        have hs4 := hlq H4.out.2
        have hv5 := HH.out.1.below hb5
        have H5 := Lib.hid (And.intro (Sp.made hz5) (And.intro hv5 (And.intro hb5 (And.intro hr5 hz5))))
        clear hmk hW5 hb5 hz5 hr5 hv5
        go_upto_region 5 with (at_builtin
                               go_loud (refine wpList_append_sp elem_ver _ rfl _ _ rfl (some ⟨w4.heap.size, 0, none⟩) 0 n1 [] rfl (H5.out.1.keep fun q hq => (show Below W5.heap.size W5 _ from (by repeat (first | exact Below.refl _ _ | apply Below.drew | apply below_drewN | refine Below.alloc ?_ (by simp) _))).block q (H5.out.1.lt hq)) A len cap (rowH l) rfl H5.out.2.1.none_ hrw (rowH_ones l) (fun b e => (H5.out.2.1.below (show Below W5.heap.size W5 _ from (by repeat (first | exact Below.refl _ _ | apply Below.drew | apply below_drewN | refine Below.alloc ?_ (by simp) _)))).cells e) (by omega) ?_)
                               rw [Nat.zero_add, List.nil_append]
                               intro A6 c6 w6 hsp6 hA6 hg6)
        have hb6 : Below w.heap.size w w6 := hg6.below H5.out.2.2.1 H5.out.2.2.1.size (fun q hq => by rw [blk_some] at hq; omega)
        have hr6 := (hg6.block w.heap.size (by omega) (fun e => by rw [blk_some] at e; omega)).trans H5.out.2.2.2.1
        have hO6 : Own14 w w6 A6 len c6 l := ⟨hsp6, fun q hq => by
          rcases hA6 q hq with h1 | h1
          · rw [blk_some] at h1; omega
          · omega⟩
        obtain ⟨x0, x1, x2, x3, x4, x5, x6⟩ := (row7 hr6).1
        have H6 := Lib.hid (And.intro hO6 hb6)
        clear hsp6 hA6 hg6 hb6 hr6 hO6
        go_wp2_with (at_builtin
                     go_loud (refine wpList_append_sp elem_ver _ rfl _ _ rfl A6 len c6 (rowH l) rfl (H6.out.1.sp.keep fun q hq => (show Below w6.heap.size w6 _ from (by repeat (first | exact Below.refl _ _ | apply Below.drew | apply below_drewN | refine Below.alloc ?_ (by simp) _))).block q (H6.out.1.sp.lt hq)) _ 1 1 [.int .i64 xr, .int .i64 xk, .int .i64 xm, .int .i64 xv, .string xs, .int .i64 xl, .bool xg] rfl (fun e => by cases e) rfl h1c (fun b e => by cases e; exact cells_lit (C := [.int .i64 xr, .int .i64 xk, .int .i64 xm, .int .i64 xv, .string xs, .int .i64 xl, .bool xg]) (heap_alloc_new _ _)) (by omega) ?_)
                     intro A8 c8 w8 hsp8 hA8 hg8
                     have hP := H6.out.1.push (x := x) H6.out.2 (show Below w6.heap.size w6 _ from (by repeat (first | exact Below.refl _ _ | apply Below.drew | apply below_drewN | refine Below.alloc ?_ (by simp) _))) hg8 (by rw [HH.out.2.1]; exact hsp8) hA8)
        refine bodyPost_ret (results_tmp2 rfl _ _ _) rfl ?_
        exact ⟨A8, n1, c8, by rw [HE.out]; rfl, by rw [HE.out, ← hn1]; exact hP.1, hP.2⟩

end Go.Proofs.Ytcoddkbbgmjckaa
