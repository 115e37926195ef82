/- The program's behind, last and upTo, by their contracts. -/
import Derived.Test.YtmihijlegacjdaaHisPa
namespace Go.Proofs.Ytmihijlegacjdaa
open Go.RowKit
set_option linter.unusedVariables false
set_option linter.unusedSimpArgs false
attribute [local go_sem] Oper.semAt_some

set_option maxRecDepth 100000 in
set_option maxHeartbeats 3200000 in
theorem behP_any (A : Option Addr) (len cap : Nat) (l : List Ver) (x : Ver) (w : World) (h : Vers w A len l) (hm : len ≤ 900000) :
    Calls Try.prog 26 #[.slice A len cap, verV x] w fun e w' => e = .returned (.bool (His.behB l x)) ∧ Below w.heap.size w w' := by
  have hll := h.1
  have hbx : Below w.heap.size w (w.alloc (.cells #[.int .i64 x.r, .int .i64 x.k, .int .i64 x.m, .int .i64 x.v, .string x.s, .int .i64 x.l, .bool x.g] 26)) := (Below.refl _ _).alloc (Nat.le_refl _) _
  have hc1 := heap_alloc_new w (.cells #[.int .i64 x.r, .int .i64 x.k, .int .i64 x.m, .int .i64 x.v, .string x.s, .int .i64 x.l, .bool x.g] 26)
  have hv1 := h.below hbx
  dsimp only [verV]
  by_cases h0 : len = 0
  · obtain rfl : l = [] := List.eq_nil_of_length_eq_zero (by omega)
    have l1 : ((len : Int) == 0) = true := by rw [h0]; rfl
    clear h hv1 hc1
    go_enter Try.func26, Try.ntmps26
    go_wp2
    go_ret
    exact ⟨rfl, hbx⟩
  · have l1 : ((len : Int) == 0) = false := beq_eq_false_iff_ne.2 (by omega)
    have l2 : (len == 0) = false := beq_eq_false_iff_ne.2 h0
    have k3 : IntKind.i64.wrap ((len : Int) - 1) = ((len - 1 : Nat) : Int) := by rw [IntWalk.i64_in _ (by omega)]; omega
    have k4 : ((len - 1 : Nat) : Int) < (len : Int) := by omega
    obtain ⟨g, off, rfl, hg, hc⟩ := hv1.2 (by omega)
    obtain ⟨c0, c1, c2, c3, c4, c5, c6⟩ := hc (len - 1) (by omega)
    have hlast : l.getLast? = l[len - 1]? := by rw [List.getLast?_eq_getElem?, hll]
    rw [List.getElem?_eq_getElem (show len - 1 < l.length by omega)] at hlast
    obtain ⟨y, hy⟩ : ∃ y, l[len - 1]'(by omega) = y := ⟨_, rfl⟩
    rw [hy] at c0 c1 c2 c3 c4 c5 c6 hlast
    have hbeh : His.behB l x = decide (y.r < x.r ∧ y.m < x.m) := by unfold His.behB; rw [hlast]; rfl
    have hb2 : Below w.heap.size w ((w.alloc (.cells #[.int .i64 x.r, .int .i64 x.k, .int .i64 x.m, .int .i64 x.v, .string x.s, .int .i64 x.l, .bool x.g] 26)).alloc (.cells #[.int .i64 y.r, .int .i64 y.k, .int .i64 y.m, .int .i64 y.v, .string y.s, .int .i64 y.l, .bool y.g] 26)) := hbx.alloc hbx.size _
    obtain ⟨x0, x1, x2, x3, x4, x5, x6⟩ := (row7 hc1).1
    have HB := Lib.hid hb2
    clear hc hy hlast h hv1 hbx hb2 hc1
    generalize len - 1 = k' at *
    by_cases h1 : y.r < x.r
    · have e1 : decide (y.r < x.r) = true := decide_eq_true h1
      by_cases h2 : y.m < x.m
      · have e2 : decide (y.m < x.m) = true := decide_eq_true h2
        have HE := Lib.hid (hbeh.trans (decide_eq_true ⟨h1, h2⟩))
        clear hbeh h1 h2
        go_enter Try.func26, Try.ntmps26
        go_wp2
        go_ret
        exact ⟨by rw [HE.out]; rfl, HB.out⟩
      · have e2 : decide (y.m < x.m) = false := decide_eq_false h2
        have HE := Lib.hid (hbeh.trans (decide_eq_false fun q => h2 q.2))
        clear hbeh h1 h2
        go_enter Try.func26, Try.ntmps26
        go_wp2
        go_ret
        exact ⟨by rw [HE.out]; rfl, HB.out⟩
    · have e1 : decide (y.r < x.r) = false := decide_eq_false h1
      have HE := Lib.hid (hbeh.trans (decide_eq_false fun q => h1 q.1))
      clear hbeh h1
      go_enter Try.func26, Try.ntmps26
      go_wp2
      go_ret
      exact ⟨by rw [HE.out]; rfl, HB.out⟩

set_option maxRecDepth 100000 in
set_option maxHeartbeats 3200000 in
theorem lastP_any (A : Option Addr) (len cap : Nat) (l : List Ver) (w : World) (h : Vers w A len l) (hm : len ≤ 900000) :
    Calls Try.prog 27 #[.slice A len cap] w fun e w' => e = .returned (atV (His.liveO l.getLast?)) ∧ Below w.heap.size w w' := by
  have hll := h.1
  obtain ⟨W1, hW1⟩ : ∃ W1, w.alloc (.cells #[.int .i64 0, .int .i64 0, .int .i64 0, .int .i64 0, .string ⟨#[]⟩, .int .i64 0, .bool false] 26) = W1 := ⟨_, rfl⟩
  have hb1 : Below w.heap.size w W1 := by rw [← hW1]; exact (Below.refl _ _).alloc (Nat.le_refl _) _
  have hr1 : W1.heap[w.heap.size]? = some (.cells #[.int .i64 0, .int .i64 0, .int .i64 0, .int .i64 0, .string ⟨#[]⟩, .int .i64 0, .bool false] 26) := by rw [← hW1]; exact heap_alloc_new w _
  have hv1 := h.below hb1
  clear h
  have hz : (W1.setRow w.heap.size #[.int .i64 0, .int .i64 0, .int .i64 0, .int .i64 0, .string ⟨#[]⟩, .int .i64 0, .bool false]).heap[w.heap.size]? = some (.cells #[.int .i64 0, .int .i64 0, .int .i64 0, .int .i64 0, .string ⟨#[]⟩, .int .i64 0, .bool false] 26) := setRow_heap W1 _ _ _ _ _ hr1
  by_cases h0 : len = 0
  · obtain rfl : l = [] := List.eq_nil_of_length_eq_zero (by omega)
    have l1 : ((len : Int) == 0) = true := by rw [h0]; rfl
    have HZ := Lib.hid (And.intro hz (below_setRow hb1 (Nat.le_refl _) #[.int .i64 0, .int .i64 0, .int .i64 0, .int .i64 0, .string ⟨#[]⟩, .int .i64 0, .bool false]))
    clear hv1 hz hb1
    go_enter Try.func27, Try.ntmps27
    go_upto_region 1 with fail
    try rw [hW1]
    clear hW1
    go_wp2_with (refine wpList_store_row rfl _ _ _ rfl w.heap.size #[.int .i64 0, .int .i64 0, .int .i64 0, .int .i64 0, .string ⟨#[]⟩, .int .i64 0, .bool false] (by rfl) (by rfl) _ _ hr1 (by kernel_rfl) rfl (by first | rfl | kernel_rfl) ?_)
    refine bodyPost_ret (res_cell_tmp' (n := w.heap.size) rfl rfl HZ.out.1 Try.underlying26 rfl (by kernel_rfl)) rfl ?_
    exact ⟨rfl, HZ.out.2⟩
  · have l1 : ((len : Int) == 0) = false := beq_eq_false_iff_ne.2 (by omega)
    have l2 : (len == 0) = false := beq_eq_false_iff_ne.2 h0
    have k3 : IntKind.i64.wrap ((len : Int) - 1) = ((len - 1 : Nat) : Int) := by rw [IntWalk.i64_in _ (by omega)]; omega
    have k4 : ((len - 1 : Nat) : Int) < (len : Int) := by omega
    obtain ⟨g, off, rfl, hg, hc⟩ := hv1.2 (by omega)
    obtain ⟨c0, c1, c2, c3, c4, c5, c6⟩ := hc (len - 1) (by omega)
    have hlast : l.getLast? = l[len - 1]? := by rw [List.getLast?_eq_getElem?, hll]
    rw [List.getElem?_eq_getElem (show len - 1 < l.length by omega)] at hlast
    obtain ⟨y, hy⟩ : ∃ y, l[len - 1]'(by omega) = y := ⟨_, rfl⟩
    rw [hy] at c0 c1 c2 c3 c4 c5 c6 hlast
    clear hc hy hv1
    generalize len - 1 = k' at *
    cases hyg : y.g with
    | true =>
      have HE := Lib.hid (show His.liveO l.getLast? = none by rw [hlast]; exact if_pos hyg)
      have HZ := Lib.hid (And.intro hz (below_setRow hb1 (Nat.le_refl _) #[.int .i64 0, .int .i64 0, .int .i64 0, .int .i64 0, .string ⟨#[]⟩, .int .i64 0, .bool false]))
      rw [hyg] at c6
      clear hz hb1 hlast hyg
      go_enter Try.func27, Try.ntmps27
      go_upto_region 1 with fail
      try rw [hW1]
      clear hW1
      go_wp2_with (refine wpList_store_row rfl _ _ _ rfl w.heap.size #[.int .i64 0, .int .i64 0, .int .i64 0, .int .i64 0, .string ⟨#[]⟩, .int .i64 0, .bool false] (by rfl) (by rfl) _ _ hr1 (by kernel_rfl) rfl (by first | rfl | kernel_rfl) ?_)
      refine bodyPost_ret (res_cell_tmp' (n := w.heap.size) rfl rfl HZ.out.1 Try.underlying26 rfl (by kernel_rfl)) rfl ?_
      exact ⟨by rw [HE.out]; rfl, HZ.out.2⟩
    | false =>
      have HE := Lib.hid (show His.liveO l.getLast? = some y by rw [hlast]; exact if_neg (by rw [hyg]; decide))
      have hxv : verV y = .agg #[.int .i64 y.r, .int .i64 y.k, .int .i64 y.m, .int .i64 y.v, .string y.s, .int .i64 y.l, .bool false] := by rw [← hyg]
      rw [hyg] at c6
      have hz2 : (W1.setRow w.heap.size #[.int .i64 y.r, .int .i64 y.k, .int .i64 y.m, .int .i64 y.v, .string y.s, .int .i64 y.l, .bool false]).heap[w.heap.size]? = some (.cells #[.int .i64 y.r, .int .i64 y.k, .int .i64 y.m, .int .i64 y.v, .string y.s, .int .i64 y.l, .bool false] 26) := setRow_heap W1 _ _ _ _ _ hr1
      have HZ2 := Lib.hid (And.intro hz2 (And.intro (below_setRow hb1 (Nat.le_refl _) #[.int .i64 y.r, .int .i64 y.k, .int .i64 y.m, .int .i64 y.v, .string y.s, .int .i64 y.l, .bool false]) hxv))
      clear hz hz2 hb1 hlast hyg hxv
      go_enter Try.func27, Try.ntmps27
      go_upto_region 1 with fail
      try rw [hW1]
      clear hW1
      go_wp2_with (refine wpList_store_row rfl _ _ _ rfl w.heap.size #[.int .i64 y.r, .int .i64 y.k, .int .i64 y.m, .int .i64 y.v, .string y.s, .int .i64 y.l, .bool false] (by rfl) (by rfl) _ _ hr1 (by kernel_rfl) rfl (by first | rfl | kernel_rfl) ?_)
      refine bodyPost_ret (res_cell_tmp' (n := w.heap.size) rfl rfl HZ2.out.1 Try.underlying26 rfl (by kernel_rfl)) rfl ?_
      refine ⟨?_, HZ2.out.2.1⟩
      rw [HE.out]
      show _ = Ending.returned (.tuple #[verV y, .bool true])
      rw [HZ2.out.2.2]
      rfl

set_option maxRecDepth 100000 in
set_option maxHeartbeats 3200000 in
theorem uptoP_any (A : Option Addr) (len cap : Nat) (l : List Ver) (rev : Int) (w : World) (h : Vers w A len l) (hm : len ≤ 900000) :
    Calls Try.prog 28 #[.slice A len cap, .int .i64 rev] w fun e w' => ∃ k : Nat, e = .returned (.int .i64 (k : Int)) ∧ His.UpTo l rev k ∧ w = w' := by
  have hll := h.1
  have HV := Lib.hid h
  clear h
  go_enter Try.func28, Try.ntmps28
  go_wp2_with fail
  go_loopw [5] (fun v5 wr => ∃ k : Nat, k ≤ len ∧ v5 = .int .i64 (k : Int) ∧ wr = w ∧ ∀ j (hj : j < l.length), j < k → l[j].r ≤ rev) (fun v5 _ => len - (intOf v5).toNat)
  case atStart => exact ⟨0, Nat.zero_le _, rfl, rfl, fun j _ hj => absurd hj (by omega)⟩
  case round =>
    obtain ⟨k, hk, rfl, rfl, hall⟩ := hrel
    have HALL := Lib.hid hall
    clear hall
    by_cases hlt : k < len
    · have l1 : decide ((k : Int) < (len : Int)) = true := decide_eq_true (by omega)
      have k4 : (k : Int) < (len : Int) := by omega
      obtain ⟨g, off, rfl, hg, hc⟩ := HV.out.2 (by omega)
      have c0 := (hc k (by omega)).1
      obtain ⟨x, hx⟩ : ∃ x, l[k]'(by omega) = x := ⟨_, rfl⟩
      rw [hx] at c0
      have HX := Lib.hid hx
      clear hc hx
      by_cases h1 : x.r ≤ rev
      · have e1 : decide (x.r ≤ rev) = true := decide_eq_true h1
        have HL := Lib.hid h1
        clear h1
        go_wp2
        go_roundw
        case rel => exact ⟨k + 1, by omega, by go_num, by first | rfl | trivial, fun j hj hjk => by
          by_cases e : j = k
          · subst e
            rw [HX.out]
            exact HL.out
          · exact HALL.out j hj (by omega)⟩
        case measure =>
          simp [intOf]
          omega
      · have e1 : decide (x.r ≤ rev) = false := decide_eq_false h1
        have HL := Lib.hid h1
        clear h1
        go_wp2
        go_ret
        exact ⟨k, rfl, ⟨by omega, HALL.out, fun hk' => by rw [HX.out]; have := HL.out; omega⟩, rfl⟩
    · obtain rfl : k = len := by omega
      have l1 : decide ((k : Int) < (k : Int)) = false := decide_eq_false (by omega)
      go_wp2
      go_ret
      exact ⟨k, rfl, ⟨by omega, HALL.out, fun hk' => absurd hk' (by omega)⟩, rfl⟩

end Go.Proofs.Ytmihijlegacjdaa
