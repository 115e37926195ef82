/- The document's Reached, Won, Lost, each by its contract. -/
import Derived.Test.YtbhbmiknomdebaaQuoMath
import Derived.Test.YtbhbmiknomdebaaProg
import Derived.Test.YtbhbmiknomdebaaByt
import Derived.Deep.LoopGhost
import Derived.BigQuiet
import Derived.IntWalk
import Derived.Lib.Hide
namespace Go.Proofs.Ytbhbmiknomdebaa
open Go.RowKit
set_option linter.unusedVariables false
set_option linter.unusedSimpArgs false

/-- A slice of numbers that reads as these. -/
def Nums (w : World) (A : Option Addr) (len : Nat) (l : List Int) : Prop :=
  l.length = len ∧ (0 < len → ∃ g off, A = some ⟨g, off, none⟩ ∧ g < w.heap.size ∧ ∀ j (hj : j < l.length), w.cell? ⟨g, off + j, none⟩ = some (.int .i64 l[j]))

theorem Nums.below {w w' : World} {A : Option Addr} {len : Nat} {l : List Int} (h : Nums w A len l) (hb : Below w.heap.size w w') : Nums w' A len l := by
  refine ⟨h.1, fun h0 => ?_⟩
  obtain ⟨g, off, e, hg, hc⟩ := h.2 h0
  exact ⟨g, off, e, Nat.lt_of_lt_of_le hg hb.size, fun j hj => (hb.cell (p := ⟨g, off + j, none⟩) hg).trans (hc j hj)⟩

theorem cnt_zero (l : List Int) (x : Int) : cnt (l.take 0) x = 0 := rfl
theorem cnt_next {l : List Int} {i : Nat} (hi : i < l.length) (x : Int) : cnt (l.take (i + 1)) x = cnt (l.take i) x + if x ≤ l[i] then 1 else 0 := by
  unfold cnt
  rw [List.take_succ_eq_append_getElem hi, List.countP_append]
  by_cases h : x ≤ l[i]
  · rw [if_pos h]; simp [h]
  · rw [if_neg h]; simp [h]

theorem below_drewN {B : Nat} {w w' : World} (h : Below B w w') (n : Nat) : Below B w (w'.drewN n) := ⟨h.os, h.tape, h.output, h.size, h.block⟩

theorem wonR_is (k n : Int) (hn : n ≤ 9223372036854775807) (w : World) : Calls Try.prog 11 #[.int .i64 k, .int .i64 n] w fun e w' => e = .returned (.bool (wonB k n)) ∧ w = w' := by
  unfold wonB
  by_cases h1 : 1 ≤ n
  · rw [decide_eq_true h1, Bool.true_and]
    by_cases h2 : 0 ≤ k
    · rw [decide_eq_true h2, Bool.true_and]
      by_cases h3 : k ≤ n
      · rw [decide_eq_true h3, Bool.true_and]
        obtain ⟨J, hJ⟩ : ∃ J, J = n - k := ⟨_, rfl⟩
        have m1 : wrap64 (n - k) = J := by rw [hJ, ← IntWalk.i64_left, IntWalk.i64_in _ (by omega)]
        rw [← hJ]
        clear hJ hn
        go_enter Try.func11, Try.ntmps11
        go_wp2
        go_ret
        exact ⟨rfl, rfl⟩
      · have e1 : decide (k ≤ n) = false := decide_eq_false h3
        have e2 : (k ≤ n) = False := eq_false h3
        rw [e1, Bool.false_and]
        clear h3
        go_enter Try.func11, Try.ntmps11
        go_wp2
        go_ret
        exact ⟨rfl, rfl⟩
    · have e1 : decide (0 ≤ k) = false := decide_eq_false h2
      have e2 : (0 ≤ k) = False := eq_false h2
      rw [e1, Bool.false_and]
      clear h2
      go_enter Try.func11, Try.ntmps11
      go_wp2
      go_ret
      exact ⟨rfl, rfl⟩
  · have e1 : decide (1 ≤ n) = false := decide_eq_false h1
    have e2 : (1 ≤ n) = False := eq_false h1
    rw [e1, Bool.false_and]
    clear h1
    go_enter Try.func11, Try.ntmps11
    go_wp2
    go_ret
    exact ⟨rfl, rfl⟩

theorem lostR_is (k n : Int) (hn : n ≤ 9223372036854775807) (w : World) : Calls Try.prog 12 #[.int .i64 k, .int .i64 n] w fun e w' => e = .returned (.bool (lostB k n)) ∧ w = w' := by
  unfold lostB
  by_cases h1 : 1 ≤ n
  · rw [decide_eq_true h1, Bool.true_and]
    by_cases h2 : 0 ≤ k
    · rw [decide_eq_true h2, Bool.true_and]
      by_cases h3 : k ≤ n
      · rw [decide_eq_true h3, Bool.true_and]
        obtain ⟨J, hJ⟩ : ∃ J, J = n - k := ⟨_, rfl⟩
        have m1 : wrap64 (n - k) = J := by rw [hJ, ← IntWalk.i64_left, IntWalk.i64_in _ (by omega)]
        rw [← hJ]
        clear hJ hn
        go_enter Try.func12, Try.ntmps12
        go_wp2
        go_ret
        exact ⟨rfl, rfl⟩
      · have e1 : decide (k ≤ n) = false := decide_eq_false h3
        have e2 : (k ≤ n) = False := eq_false h3
        rw [e1, Bool.false_and]
        clear h3
        go_enter Try.func12, Try.ntmps12
        go_wp2
        go_ret
        exact ⟨rfl, rfl⟩
    · have e1 : decide (0 ≤ k) = false := decide_eq_false h2
      have e2 : (0 ≤ k) = False := eq_false h2
      rw [e1, Bool.false_and]
      clear h2
      go_enter Try.func12, Try.ntmps12
      go_wp2
      go_ret
      exact ⟨rfl, rfl⟩
  · have e1 : decide (1 ≤ n) = false := decide_eq_false h1
    have e2 : (1 ≤ n) = False := eq_false h1
    rw [e1, Bool.false_and]
    clear h1
    go_enter Try.func12, Try.ntmps12
    go_wp2
    go_ret
    exact ⟨rfl, rfl⟩

set_option maxRecDepth 100000 in
set_option maxHeartbeats 1600000 in
theorem reachedR_any (A : Option Addr) (len cap : Nat) (l : List Int) (w : World) (h : Nums w A len l) (hm : len ≤ 1000) :
    Calls Try.prog 8 #[.slice A len cap] w fun e w' => e = .returned (.int .i64 (reach l)) ∧ Below w.heap.size w w' := by
  have hll := h.1
  go_enter Try.func8, Try.ntmps8
  go_wp2
  go_loopg [3, 4, 5, 6, 7, 10] len (fun g v3 v4 s5 s6 s7 kk wr => ∃ k : Nat, k + g = len ∧ kk = .int .i64 (k : Int) ∧ v3 = .int .i64 ((reachO l k).getD 0) ∧ v4 = .bool (reachO l k).isSome ∧ Below w.heap.size w wr)
  case atStart => exact ⟨0, by omega, rfl, rfl, rfl, Below.refl _ _⟩
  case round =>
    obtain ⟨k, hk, rfl, rfl, rfl, hb⟩ := hrel
    by_cases hkl : k < len
    · have hkl' : (k : Int) < (len : Int) := by omega
      have hk2 : k < l.length := by omega
      obtain ⟨g, off, rfl, hg, hc⟩ := h.2 (by omega)
      have hcr := fun W (hW : Below w.heap.size w W) j (hj : j < l.length) => (hW.cell (p := ⟨g, off + j, none⟩) hg).trans (hc j hj)
      have hnext := reachO_succ hk2
      unfold stepQ at hnext
      generalize hx : (l[k]'hk2) = x at *
      have HX := Lib.hid hx
      generalize reachO l k = o at *
      have HNX := Lib.hid hnext
      have HK := Lib.hid hk
      clear hnext hk hx
      go_wp2
      obtain ⟨W0, rfl⟩ : ∃ W0, W0 = wr := ⟨_, rfl⟩
      obtain ⟨G0, rfl⟩ : ∃ G0, G0 = gk := ⟨_, rfl⟩
      go_loopg [6, 7, 15] len (fun g v6 s7 kk wq => ∃ i : Nat, i + g = len ∧ kk = .int .i64 (i : Int) ∧ v6 = .int .i64 ((cnt (l.take i) x : Nat) : Int) ∧ Below W0.heap.size W0 wq)
      case atStart => exact ⟨0, by omega, rfl, by rw [cnt_zero]; rfl, Below.refl _ _⟩
      case round =>
        obtain ⟨i, hi, rfl, rfl, hb2⟩ := hrel
        have HI := Lib.hid hi
        have hci : cnt (l.take i) x ≤ i := by
          unfold cnt
          refine Nat.le_trans List.countP_le_length ?_
          rw [List.length_take]; omega
        by_cases hil : i < len
        · have hil' : (i : Int) < (len : Int) := by omega
          have hi2 : i < l.length := by omega
          have y0 := hcr wr (hb.trans (hb2.mono hb.size)) i hi2
          have y1 := hcr wr (hb.trans (hb2.mono hb.size)) k hk2
          rw [HX.out] at y1
          have hn := cnt_next hi2 x
          generalize (l[i]'hi2) = y at *
          have HB2 := Lib.hid (fun m => below_drewN hb2 m)
          generalize cnt (l.take i) x = c at *
          by_cases hxy : x ≤ y
          · have q1 : decide (x ≤ y) = true := decide_eq_true hxy
            rw [if_pos hxy] at hn
            have HN := Lib.hid hn
            clear hn hcr hi hb2 h hc
            go_wp2_with fail
            go_big_quiet (fail)
            go_wp2
            go_roundg (gk - 1)
            case measure => have : i + gk = len := HI.out; omega
            case rel => exact ⟨i + 1, by have : i + gk = len := HI.out; omega, by go_num, by rw [HN.out]; go_num, HB2.out _⟩
          · have q1 : decide (x ≤ y) = false := decide_eq_false hxy
            have q2 : (x ≤ y) = False := eq_false hxy
            rw [if_neg hxy] at hn
            have HN := Lib.hid hn
            clear hn hcr hi hb2 h hc hxy
            go_wp2_with fail
            go_big_quiet (fail)
            go_wp2
            go_roundg (gk - 1)
            case measure => have : i + gk = len := HI.out; omega
            case rel => exact ⟨i + 1, by have : i + gk = len := HI.out; omega, by go_num, by rw [HN.out, Nat.add_zero], HB2.out _⟩
        · obtain rfl : i = len := by omega
          have hdec : decide ((i : Int) < (i : Int)) = false := decide_eq_false (by omega)
          have hbz := hb.trans (hb2.mono hb.size)
          have y1 := hcr wr hbz k hk2
          rw [HX.out] at y1
          have hct : cnt (l.take i) x = cnt l x := by rw [List.take_of_length_le (by omega)]
          have hcl : cnt l x ≤ i := by rw [← hct]; exact hci
          rw [hct]
          have HSN := Lib.hid (show reachO l (k + 1) = if i / 2 < cnt l x ∧ (∀ b, o = some b → b < x) then some x else o by rw [HNX.out, hll])
          generalize cnt l x = c at *
          have d1 : (i : Int) / 2 = ((i / 2 : Nat) : Int) := by omega
          generalize i / 2 = half at *
          clear hcr hi hb2 h hc hct hci hb
          by_cases hh : half < c
          · have q1 : (half : Int) < (c : Int) := by omega
            cases o with
            | none =>
              have HE := Lib.hid (show reachO l (k + 1) = some x by rw [HSN.out, if_pos ⟨hh, fun b hb => by cases hb⟩])
              clear hh
              go_wp2
              go_roundg (G0 - 1)
              case measure => have : k + G0 = i := HK.out; omega
              case rel => exact ⟨k + 1, by have : k + G0 = i := HK.out; omega, by go_num, by rw [HE.out] <;> rfl, by rw [HE.out] <;> rfl, hbz⟩
            | some b =>
              by_cases hbx : b < x
              · have HE := Lib.hid (show reachO l (k + 1) = some x by rw [HSN.out, if_pos ⟨hh, fun b' hb => by injection hb with hb; rw [← hb]; exact hbx⟩])
                clear hh
                go_wp2
                go_roundg (G0 - 1)
                case measure => have : k + G0 = i := HK.out; omega
                case rel => exact ⟨k + 1, by have : k + G0 = i := HK.out; omega, by go_num, by rw [HE.out] <;> rfl, by rw [HE.out] <;> rfl, hbz⟩
              · have HE := Lib.hid (show reachO l (k + 1) = some b by rw [HSN.out, if_neg fun h => hbx (h.2 b rfl)])
                have q2 : decide (b < x) = false := decide_eq_false hbx
                have q3 : (b < x) = False := eq_false hbx
                clear hh hbx
                go_wp2
                go_roundg (G0 - 1)
                case measure => have : k + G0 = i := HK.out; omega
                case rel => exact ⟨k + 1, by have : k + G0 = i := HK.out; omega, by go_num, by rw [HE.out] <;> rfl, by rw [HE.out] <;> rfl, hbz⟩
          · have HE := Lib.hid (show reachO l (k + 1) = o by rw [HSN.out, if_neg fun h => hh h.1])
            have q1 : ((half : Int) < (c : Int)) = False := eq_false (by omega)
            have q1d : decide ((half : Int) < (c : Int)) = false := decide_eq_false (by omega)
            have q1n : (half < c) = False := eq_false hh
            have q1nd : decide (half < c) = false := decide_eq_false hh
            clear hh
            go_wp2
            go_roundg (G0 - 1)
            case measure => have : k + G0 = i := HK.out; omega
            case rel => exact ⟨k + 1, by have : k + G0 = i := HK.out; omega, by go_num, by rw [HE.out], by rw [HE.out], hbz⟩
    · obtain rfl : k = len := by omega
      have hdec : decide ((k : Int) < (k : Int)) = false := decide_eq_false (by omega)
      have HR := Lib.hid (show (reachO l k).getD 0 = reach l by unfold reach; rw [h.1])
      clear h hk
      go_wp2
      go_ret
      exact ⟨by rw [← HR.out]; rfl, hb⟩

end Go.Proofs.Ytbhbmiknomdebaa
