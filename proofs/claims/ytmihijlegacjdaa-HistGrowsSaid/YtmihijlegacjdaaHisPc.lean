/- The program's Right, by its contract. (Written by mkpc.py.) -/
import Derived.Test.YtmihijlegacjdaaHisPb
namespace Go.Proofs.Ytmihijlegacjdaa
open Go.RowKit
set_option linter.unusedVariables false
set_option linter.unusedSimpArgs false
attribute [local go_sem] Oper.semAt_some

theorem Vers.take {w : World} {A : Option Addr} {len : Nat} {l : List Ver} (h : Vers w A len l) {k : Nat} (hk : k ≤ len) : Vers w A k (l.take k) := by
  have hll := h.1
  refine ⟨by rw [List.length_take]; omega, fun h0 => ?_⟩
  obtain ⟨g, off, e, hg, hc⟩ := h.2 (by omega)
  refine ⟨g, off, e, hg, fun j hj => ?_⟩
  rw [List.length_take] at hj
  rw [List.getElem_take]
  exact hc j (by omega)

set_option maxRecDepth 100000 in
set_option maxHeartbeats 3200000 in
theorem rightP_any (A : Option Addr) (len cap : Nat) (l : List Ver) (w : World) (h : Vers w A len l) (hlc : len ≤ cap) (hm : len ≤ 900000) :
    Calls Try.prog 12 #[.slice A len cap] w fun e w' => e = .returned (.bool (His.rightL l)) ∧ Below w.heap.size w w' := by
  have hll := h.1
  have HV := Lib.hid h
  clear h
  go_enter Try.func12, Try.ntmps12
  go_wp2_with fail
  go_loopw [7] (fun v7 wr => ∃ k : Nat, k ≤ len ∧ v7 = .int .i64 (k : Int) ∧ Below w.heap.size w wr ∧ ∀ i, i < k → His.stepH l i = true) (fun v7 _ => len - (intOf v7).toNat)
  case atStart => exact ⟨0, Nat.zero_le _, rfl, Below.refl _ _, fun i hi => absurd hi (by omega)⟩
  case round =>
    obtain ⟨k, hk, rfl, hb, hall⟩ := hrel
    have HALL := Lib.hid hall
    have HB := Lib.hid hb
    have hbel := HV.out.below hb
    clear hall hb
    by_cases hlt : k < len
    · have l1 : decide ((k : Int) < (len : Int)) = true := decide_eq_true (by omega)
      have k4 : (k : Int) < (len : Int) := by omega
      obtain ⟨g, off, rfl, hg, hc⟩ := hbel.2 (by omega)
      obtain ⟨c0, c1, c2, c3, c4, c5, c6⟩ := hc k (by omega)
      have hsl : ∀ W, (Instr.slice 22 (.slice (some ⟨g, off, none⟩) len cap) none (some (.int .i64 (k : Int))) none).run Try.prog W = .ok (.slice (some ⟨g, off, none⟩) k cap) W := fun W => slice_to elem_ver (by omega) W
      have hst := His.step_beh l k (by omega)
      obtain ⟨x, hx⟩ : ∃ x, l[k]'(by omega) = x := ⟨_, rfl⟩
      rw [hx] at c0 c1 c2 c3 c4 c5 c6 hst
      have hV := fun W => verP_any x W
      have hBe := fun W (hW : Below w.heap.size w W) => behP_any (some ⟨g, off, none⟩) k cap (l.take k) x W ((HV.out.below hW).take (by omega)) (by omega)
      clear hc hbel hx
      obtain ⟨xr, xk, xm, xv, xs, xl, xg⟩ := x
      dsimp only [verV] at hV hBe c0 c1 c2 c3 c4 c5 c6
      generalize (⟨xr, xk, xm, xv, xs, xl, xg⟩ : Ver) = x at *
      have HBe := Lib.hid hBe
      clear hBe
      obtain ⟨W1, hW1⟩ : ∃ W1, wr.alloc (.cells #[.int .i64 xr, .int .i64 xk, .int .i64 xm, .int .i64 xv, .string xs, .int .i64 xl, .bool xg] 26) = W1 := ⟨_, rfl⟩
      have hb1 : Below w.heap.size w W1 := by rw [← hW1]; exact HB.out.alloc HB.out.size _
      have hr1 : W1.heap[wr.heap.size]? = some (.cells #[.int .i64 xr, .int .i64 xk, .int .i64 xm, .int .i64 xv, .string xs, .int .i64 xl, .bool xg] 26) := by rw [← hW1]; exact heap_alloc_new wr _
      have HB1 := Lib.hid (And.intro hb1 hr1)
      clear hb1 hr1
      go_upto_region 4 with fail
      try rw [hW1]
      refine wp_region_held_drew (S := (fun w' => w'.cell? ⟨wr.heap.size, 0, none⟩ = some (.int .i64 xr) ∧ w'.cell? ⟨wr.heap.size, 1, none⟩ = some (.int .i64 xk) ∧ w'.cell? ⟨wr.heap.size, 2, none⟩ = some (.int .i64 xm) ∧ w'.cell? ⟨wr.heap.size, 3, none⟩ = some (.int .i64 xv) ∧ w'.cell? ⟨wr.heap.size, 4, none⟩ = some (.string xs) ∧ w'.cell? ⟨wr.heap.size, 5, none⟩ = some (.int .i64 xl) ∧ w'.cell? ⟨wr.heap.size, 6, none⟩ = some (.bool xg))) (by kernel_rfl) (row7 HB1.out.2).1 (fun hHeld => ?_)
      refine lsq 11 ?_
      refine tkq 0 ?_
      clear c0 c1 c2 c3 c4 c5 c6 hW1
      cases hvb : His.verB x with
      | false =>
        rw [hvb] at hV
        have HF := Lib.hid (His.right_no (l := l) k (by omega) (by rw [hst, hvb, Bool.false_and]))
        clear hst hvb
        refine rdq1 1 fun KK hK => ?_
        go_simp
        refine (hV _).mono ?_
        rintro e w1 ⟨rfl, hb1⟩
        have hb1 := show Below W1.heap.size W1 w1 from ⟨hb1.os, hb1.tape, hb1.output, hb1.size, hb1.block⟩
        have hbw := HB1.out.1.trans (hb1.mono HB1.out.1.size)
        refine hK.out _ _ (row7 ((hb1.block _ (hlq HB1.out.2)).trans HB1.out.2)).1 ?_
        clear hK KK hHeld hb1
        intro hHeld
        try simp only [lpq]
        refine tkq 2 ?_
        refine tkq 3 ?_
        refine tuq 4 ?_
        refine tuq 5 ?_
        refine tuq 6 ?_
        refine tuq 7 ?_
        refine tuq 8 ?_
        refine tuq 9 ?_
        refine tkq 10 ?_
        refine dnq ?_
        go_wp2
        go_ret
        exact ⟨by rw [HF.out]; rfl, hbw⟩
      | true =>
        rw [hvb] at hV
        rw [hvb, Bool.true_and] at hst
        clear hvb
        refine rdq1 1 fun KK hK => ?_
        go_simp
        refine (hV _).mono ?_
        rintro e w1 ⟨rfl, hb1⟩
        have hb1 := show Below W1.heap.size W1 w1 from ⟨hb1.os, hb1.tape, hb1.output, hb1.size, hb1.block⟩
        have hbw := HB1.out.1.trans (hb1.mono HB1.out.1.size)
        have hr2 := (hb1.block _ (hlq HB1.out.2)).trans HB1.out.2
        have hB2 := HBe.out w1 hbw
        refine hK.out _ _ (row7 hr2).1 ?_
        clear hK KK hHeld hb1 hV
        intro hHeld
        try simp only [lpq]
        refine tkq 2 ?_
        refine tkq 3 ?_
        refine tkq 4 ?_
        refine tkq 5 ?_
        refine tkq 6 ?_
        refine tkq 7 ?_
        cases hbe : His.behB (l.take k) x with
        | false =>
          rw [hbe] at hB2
          have HF := Lib.hid (His.right_no (l := l) k (by omega) (by rw [hst, hbe]))
          clear hst hbe
          refine rdq1 8 fun KK hK => ?_
          go_simp
          refine hB2.mono ?_
          rintro e w2 ⟨rfl, hb2⟩
          have hbw2 := hbw.trans (hb2.mono hbw.size)
          refine hK.out _ _ (row7 ((hb2.block _ (hlq hr2)).trans hr2)).1 ?_
          clear hK KK hHeld hb2 hB2
          intro hHeld
          try simp only [lpq]
          refine tkq 9 ?_
          refine tkq 10 ?_
          refine dnq ?_
          go_wp2
          go_ret
          exact ⟨by rw [HF.out]; rfl, hbw2⟩
        | true =>
          rw [hbe] at hB2
          have HST := Lib.hid (hst.trans hbe)
          clear hst hbe
          refine rdq1 8 fun KK hK => ?_
          go_simp
          refine hB2.mono ?_
          rintro e w2 ⟨rfl, hb2⟩
          have hbw2 := hbw.trans (hb2.mono hbw.size)
          refine hK.out _ _ (row7 ((hb2.block _ (hlq hr2)).trans hr2)).1 ?_
          clear hK KK hHeld hb2 hB2
          intro hHeld
          try simp only [lpq]
          refine tkq 9 ?_
          refine tkq 10 ?_
          refine dnq ?_
          go_wp2
          go_roundw
          case rel => exact ⟨k + 1, by omega, by go_num, hbw2, fun i hi => by
            rcases Nat.lt_or_ge i k with h1 | h1
            · exact HALL.out i h1
            · obtain rfl : i = k := by omega
              exact HST.out⟩
          case measure =>
            simp [intOf]
            omega
    · obtain rfl : k = len := by omega
      have l1 : decide ((k : Int) < (k : Int)) = false := decide_eq_false (by omega)
      have HT := Lib.hid (His.right_yes (l := l) fun j hj => HALL.out j (by omega))
      clear hbel
      go_wp2
      go_ret
      exact ⟨by rw [HT.out]; rfl, HB.out⟩

end Go.Proofs.Ytmihijlegacjdaa
