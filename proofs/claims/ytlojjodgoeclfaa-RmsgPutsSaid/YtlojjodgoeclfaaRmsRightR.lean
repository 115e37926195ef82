/- The document's bare and Right, by their contracts; Few. -/
import Derived.Test.YtlojjodgoeclfaaRmsBareA
import Derived.Test.YtlojjodgoeclfaaRmsBareB
import Derived.Test.YtlojjodgoeclfaaRmsBareC
import Derived.Lib.Hide
import Derived.Deep.LoopGhost
import Derived.BigQuiet
namespace Go.Proofs.Ytlojjodgoeclfaa
open Go.RowKit
set_option linter.unusedVariables false
set_option linter.unusedSimpArgs false

theorem bareMR_any (k f o t i l c x : Int) (b : Bool) (A : Option Addr) (n cA : Nat) (si st : Int) (E : Option Addr) (sn cE : Nat) (w : World) (h1 : 1 ≤ k) (h7 : k ≤ 7) :
    Calls Try.prog 31 #[.agg (mC k f o t i l c x b A n cA si st E sn cE)] w fun e w' => e = .returned (.bool (bareB k i l c x b n si st sn)) ∧ Below w.heap.size w w' := by
  rcases (show k = 1 ∨ k = 2 ∨ k = 3 ∨ k = 4 ∨ k = 5 ∨ k = 6 ∨ k = 7 by omega) with rfl | rfl | rfl | rfl | rfl | rfl | rfl
  · exact bareR_1 f o t i l c x b A n cA si st E sn cE w
  · exact bareR_2 f o t i l c x b A n cA si st E sn cE w
  · exact bareR_3 f o t i l c x b A n cA si st E sn cE w
  · exact bareR_4 f o t i l c x b A n cA si st E sn cE w
  · exact bareR_5 f o t i l c x b A n cA si st E sn cE w
  · exact bareR_6 f o t i l c x b A n cA si st E sn cE w
  · exact bareR_7 f o t i l c x b A n cA si st E sn cE w

theorem late_no {t : Int} {es : List Ent} (k : Nat) (hk : k < es.length) (h : t < es[k].t) : lateB t es = false := by
  cases hr : lateB t es with
  | false => rfl
  | true =>
    have := of_decide_eq_true (List.all_eq_true.1 hr _ (List.getElem_mem hk))
    omega

theorem late_yes {t : Int} {es : List Ent} (h : ∀ k (hk : k < es.length), es[k].t ≤ t) : lateB t es = true := by
  refine List.all_eq_true.2 fun e he => ?_
  obtain ⟨j, hj, rfl⟩ := List.getElem_of_mem he
  exact decide_eq_true (h j hj)

def fewM (m : Msg) : Bool := fewE m.es 6 && decide (m.s.d.length ≤ 2000)

theorem fewM_any (m : Msg) (A : Option Addr) (cA : Nat) (E : Option Addr) (cE : Nat) (w : World) (Z : Nat → Prop) (h : MsgIn w Z m A cA E cE) (hd : ∀ e ∈ m.es, e.d.length ≤ 140737488355328) :
    Calls Try.prog 8 #[msgV m A cA E cE] w fun e w' => e = .returned (.bool (fewM m)) ∧ Below w.heap.size w w' := by
  have hlen := h.len
  obtain ⟨k, f, o, t, i, l, c, x, b, es, si, st, sd⟩ := m
  obtain ⟨he, _, hs, _⟩ := h
  unfold fewM
  dsimp only [msgV] at *
  have hb : Below w.heap.size w (w.alloc (.cells (mC k f o t i l c x b A es.length cA si st E sd.length cE) 27)) := (Below.refl _ _).alloc (Nat.le_refl _) _
  have hF := fewR_any Z A es.length cA es 6 _ (he.below hb (Nat.le_refl _)) hlen (by omega) hd
  have hsm := hs.2.1
  generalize es.length = n at *
  generalize sd.length = sn at *
  generalize fewE es 6 = q at *
  clear he hs hd hlen
  cases q with
  | false =>
    go_enter Try.func8, Try.ntmps8
    go_wp2_with fail
    refine hF.mono ?_
    rintro e w1 ⟨rfl, rfl⟩
    go_wp2
    go_ret
    exact ⟨rfl, hb⟩
  | true =>
    rw [Bool.true_and]
    go_enter Try.func8, Try.ntmps8
    go_wp2_with fail
    refine hF.mono ?_
    rintro e w1 ⟨rfl, rfl⟩
    go_wp2
    go_ret
    refine ⟨?_, hb⟩
    show Ending.returned (.bool (decide ((sn : Int) ≤ 2000))) = _
    rw [le_lit sn 2000 2000 rfl]

set_option maxRecDepth 100000 in
set_option maxHeartbeats 6400000 in
theorem rightMR_any (m : Msg) (A : Option Addr) (cA : Nat) (E : Option Addr) (cE : Nat) (w : World) (Z : Nat → Prop) (h : MsgIn w Z m A cA E cE) :
    Calls Try.prog 11 #[msgV m A cA E cE] w fun e w' => e = .returned (.bool (rightM m)) ∧ Below w.heap.size w w' := by
  have hlen := h.len
  obtain ⟨k, f, o, t, i, l, c, x, b, es, si, st, sd⟩ := m
  obtain ⟨he, _, hs, _⟩ := h
  obtain ⟨R, hR⟩ : ∃ R, rightM ⟨k, f, o, t, i, l, c, x, b, es, si, st, sd⟩ = R := ⟨_, rfl⟩
  rw [hR]
  unfold rightM at hR
  dsimp only [msgV] at *
  have hnm := hlen
  unfold maxLen at hnm
  have hb : Below w.heap.size w (w.alloc (.cells (mC k f o t i l c x b A es.length cA si st E sd.length cE) 27)) := (Below.refl _ _).alloc (Nat.le_refl _) _
  have hr0 := heap_alloc_new w (.cells (mC k f o t i l c x b A es.length cA si st E sd.length cE) 27)
  have hH := headB_iff k f o t
  by_cases p0 : 1 ≤ k
  case neg =>
    rw [Bool.eq_false_iff.2 (fun q => absurd (hH.1 q) (by omega)), Bool.false_and] at hR
    subst hR
    have q0 : k < 1 := by omega
    clear he hs hH p0
    go_enter Try.func11, Try.ntmps11
    try dsimp only [List.append]
    go_wp2
    go_ret
    exact ⟨rfl, hb⟩
  have q0 : (k < 1) = False := eq_false (by omega)
  have d0 : decide (k < 1) = false := decide_eq_false (by omega)
  by_cases p1 : k ≤ 7
  case neg =>
    rw [Bool.eq_false_iff.2 (fun q => absurd (hH.1 q) (by omega)), Bool.false_and] at hR
    subst hR
    have q1 : 7 < k := by omega
    clear he hs hH p1
    go_enter Try.func11, Try.ntmps11
    try dsimp only [List.append]
    go_wp2
    go_ret
    exact ⟨rfl, hb⟩
  have q1 : (7 < k) = False := eq_false (by omega)
  have d1 : decide (7 < k) = false := decide_eq_false (by omega)
  by_cases p2 : 0 ≤ f
  case neg =>
    rw [Bool.eq_false_iff.2 (fun q => absurd (hH.1 q) (by omega)), Bool.false_and] at hR
    subst hR
    have q2 : f < 0 := by omega
    clear he hs hH p2
    go_enter Try.func11, Try.ntmps11
    try dsimp only [List.append]
    go_wp2
    go_ret
    exact ⟨rfl, hb⟩
  have q2 : (f < 0) = False := eq_false (by omega)
  have d2 : decide (f < 0) = false := decide_eq_false (by omega)
  by_cases p3 : f ≤ 2
  case neg =>
    rw [Bool.eq_false_iff.2 (fun q => absurd (hH.1 q) (by omega)), Bool.false_and] at hR
    subst hR
    have q3 : 2 < f := by omega
    clear he hs hH p3
    go_enter Try.func11, Try.ntmps11
    try dsimp only [List.append]
    go_wp2
    go_ret
    exact ⟨rfl, hb⟩
  have q3 : (2 < f) = False := eq_false (by omega)
  have d3 : decide (2 < f) = false := decide_eq_false (by omega)
  by_cases p4 : 0 ≤ o
  case neg =>
    rw [Bool.eq_false_iff.2 (fun q => absurd (hH.1 q) (by omega)), Bool.false_and] at hR
    subst hR
    have q4 : o < 0 := by omega
    clear he hs hH p4
    go_enter Try.func11, Try.ntmps11
    try dsimp only [List.append]
    go_wp2
    go_ret
    exact ⟨rfl, hb⟩
  have q4 : (o < 0) = False := eq_false (by omega)
  have d4 : decide (o < 0) = false := decide_eq_false (by omega)
  by_cases p5 : o ≤ 2
  case neg =>
    rw [Bool.eq_false_iff.2 (fun q => absurd (hH.1 q) (by omega)), Bool.false_and] at hR
    subst hR
    have q5 : 2 < o := by omega
    clear he hs hH p5
    go_enter Try.func11, Try.ntmps11
    try dsimp only [List.append]
    go_wp2
    go_ret
    exact ⟨rfl, hb⟩
  have q5 : (2 < o) = False := eq_false (by omega)
  have d5 : decide (2 < o) = false := decide_eq_false (by omega)
  by_cases p6 : f ≠ o
  case neg =>
    rw [Bool.eq_false_iff.2 (fun q => absurd (hH.1 q) (by omega)), Bool.false_and] at hR
    subst hR
    obtain rfl : f = o := by omega
    clear he hs hH p6
    go_enter Try.func11, Try.ntmps11
    try dsimp only [List.append]
    go_wp2
    go_ret
    exact ⟨rfl, hb⟩
  have q6 : (f == o) = false := beq_eq_false_iff_ne.2 p6
  have d6 : (f = o) = False := eq_false p6
  by_cases p7 : 1 ≤ t
  case neg =>
    rw [Bool.eq_false_iff.2 (fun q => absurd (hH.1 q) (by omega)), Bool.false_and] at hR
    subst hR
    have q7 : t < 1 := by omega
    clear he hs hH p7
    go_enter Try.func11, Try.ntmps11
    try dsimp only [List.append]
    go_wp2
    go_ret
    exact ⟨rfl, hb⟩
  have q7 : (t < 1) = False := eq_false (by omega)
  have d7 : decide (t < 1) = false := decide_eq_false (by omega)
  rw [hH.2 ⟨p0, p1, p2, p3, p4, p5, p6, p7⟩, Bool.true_and] at hR
  have hB := bareMR_any k f o t i l c x b A es.length cA si st E sd.length cE (w.alloc (.cells (mC k f o t i l c x b A es.length cA si st E sd.length cE) 27)) p0 p1
  clear hH p0 p1 p2 p3 p4 p5 p6 p7
  unfold numsB at hR
  have hN1 := fun W => numberM_is t W
  have hN2 := fun W => numberM_is i W
  have hN3 := fun W => numberM_is l W
  have hN4 := fun W => numberM_is c W
  have hN5 := fun W => numberM_is x W
  generalize numZ t = z1 at *
  generalize numZ i = z2 at *
  generalize numZ l = z3 at *
  generalize numZ c = z4 at *
  generalize numZ x = z5 at *
  generalize bareB k i l c x b es.length si st sd.length = z6 at *
  cases z1
  case false =>
    obtain rfl : false = R := by rw [← hR]; simp
    clear he hs hB
    go_enter Try.func11, Try.ntmps11
    try dsimp only [List.append]
    go_wp2_with fail
    refine (hN1 _).mono ?_
    rintro e w1 ⟨rfl, rfl⟩
    go_wp2
    go_ret
    exact ⟨rfl, hb⟩
  cases z2
  case false =>
    obtain rfl : false = R := by rw [← hR]; simp
    clear he hs hB
    go_enter Try.func11, Try.ntmps11
    try dsimp only [List.append]
    go_wp2_with fail
    refine (hN1 _).mono ?_
    rintro e w1 ⟨rfl, rfl⟩
    go_wp2_with fail
    refine (hN2 _).mono ?_
    rintro e w2 ⟨rfl, rfl⟩
    go_wp2
    go_ret
    exact ⟨rfl, hb⟩
  cases z3
  case false =>
    obtain rfl : false = R := by rw [← hR]; simp
    clear he hs hB
    go_enter Try.func11, Try.ntmps11
    try dsimp only [List.append]
    go_wp2_with fail
    refine (hN1 _).mono ?_
    rintro e w1 ⟨rfl, rfl⟩
    go_wp2_with fail
    refine (hN2 _).mono ?_
    rintro e w2 ⟨rfl, rfl⟩
    go_wp2_with fail
    refine (hN3 _).mono ?_
    rintro e w3 ⟨rfl, rfl⟩
    go_wp2
    go_ret
    exact ⟨rfl, hb⟩
  cases z4
  case false =>
    obtain rfl : false = R := by rw [← hR]; simp
    clear he hs hB
    go_enter Try.func11, Try.ntmps11
    try dsimp only [List.append]
    go_wp2_with fail
    refine (hN1 _).mono ?_
    rintro e w1 ⟨rfl, rfl⟩
    go_wp2_with fail
    refine (hN2 _).mono ?_
    rintro e w2 ⟨rfl, rfl⟩
    go_wp2_with fail
    refine (hN3 _).mono ?_
    rintro e w3 ⟨rfl, rfl⟩
    go_wp2_with fail
    refine (hN4 _).mono ?_
    rintro e w4 ⟨rfl, rfl⟩
    go_wp2
    go_ret
    exact ⟨rfl, hb⟩
  cases z5
  case false =>
    obtain rfl : false = R := by rw [← hR]; simp
    clear he hs hB
    go_enter Try.func11, Try.ntmps11
    try dsimp only [List.append]
    go_wp2_with fail
    refine (hN1 _).mono ?_
    rintro e w1 ⟨rfl, rfl⟩
    go_wp2_with fail
    refine (hN2 _).mono ?_
    rintro e w2 ⟨rfl, rfl⟩
    go_wp2_with fail
    refine (hN3 _).mono ?_
    rintro e w3 ⟨rfl, rfl⟩
    go_wp2_with fail
    refine (hN4 _).mono ?_
    rintro e w4 ⟨rfl, rfl⟩
    go_wp2_with fail
    refine (hN5 _).mono ?_
    rintro e w5 ⟨rfl, rfl⟩
    go_wp2
    go_ret
    exact ⟨rfl, hb⟩
  cases z6
  case false =>
    obtain rfl : false = R := by rw [← hR]; simp
    clear he hs
    go_enter Try.func11, Try.ntmps11
    try dsimp only [List.append]
    go_wp2_with fail
    refine (hN1 _).mono ?_
    rintro e w1 ⟨rfl, rfl⟩
    go_wp2_with fail
    refine (hN2 _).mono ?_
    rintro e w2 ⟨rfl, rfl⟩
    go_wp2_with fail
    refine (hN3 _).mono ?_
    rintro e w3 ⟨rfl, rfl⟩
    go_wp2_with fail
    refine (hN4 _).mono ?_
    rintro e w4 ⟨rfl, rfl⟩
    go_wp2_with fail
    refine (hN5 _).mono ?_
    rintro e w5 ⟨rfl, rfl⟩
    go_wp2_with fail
    refine hB.mono ?_
    rintro e w6 ⟨rfl, hb6⟩
    go_wp2
    go_ret
    exact ⟨rfl, hb.trans (hb6.mono hb.size)⟩
  simp only [Bool.true_and] at hR
  by_cases h4 : es.length ≤ 4
  case neg =>
    rw [decide_eq_false h4, Bool.false_and, Bool.false_and] at hR
    subst hR
    have g4 : (4 : Int) < (es.length : Int) := by omega
    clear he hs
    go_enter Try.func11, Try.ntmps11
    try dsimp only [List.append]
    go_wp2_with fail
    refine (hN1 _).mono ?_
    rintro e w1 ⟨rfl, rfl⟩
    go_wp2_with fail
    refine (hN2 _).mono ?_
    rintro e w2 ⟨rfl, rfl⟩
    go_wp2_with fail
    refine (hN3 _).mono ?_
    rintro e w3 ⟨rfl, rfl⟩
    go_wp2_with fail
    refine (hN4 _).mono ?_
    rintro e w4 ⟨rfl, rfl⟩
    go_wp2_with fail
    refine (hN5 _).mono ?_
    rintro e w5 ⟨rfl, rfl⟩
    go_wp2_with fail
    refine hB.mono ?_
    rintro e w6 ⟨rfl, hb6⟩
    have hbw := hb.trans (hb6.mono hb.size)
    have hr6 := (hb6.block _ (hlt hr0)).trans hr0
    obtain ⟨⟨x0, x1, x2, x3, x4, x5, x6, x7, x8, x9, x10, x11, x12⟩, _⟩ := row13 hr6
    clear hr6 hb6 hB hr0
    go_wp2
    go_ret
    exact ⟨rfl, hbw⟩
  rw [decide_eq_true h4, Bool.true_and] at hR
  have g4 : ((4 : Int) < (es.length : Int)) = False := eq_false (by omega)
  have d4 : decide ((4 : Int) < (es.length : Int)) = false := decide_eq_false (by omega)
  have hRun := fun W (hW : Below w.heap.size w W) => runR_any Z A es.length cA es i l W (he.below hW (Nat.le_refl _)) hlen
  generalize runB i l es = z7 at *
  cases z7
  case false =>
    rw [Bool.false_and] at hR
    subst hR
    clear he hs
    go_enter Try.func11, Try.ntmps11
    try dsimp only [List.append]
    go_wp2_with fail
    refine (hN1 _).mono ?_
    rintro e w1 ⟨rfl, rfl⟩
    go_wp2_with fail
    refine (hN2 _).mono ?_
    rintro e w2 ⟨rfl, rfl⟩
    go_wp2_with fail
    refine (hN3 _).mono ?_
    rintro e w3 ⟨rfl, rfl⟩
    go_wp2_with fail
    refine (hN4 _).mono ?_
    rintro e w4 ⟨rfl, rfl⟩
    go_wp2_with fail
    refine (hN5 _).mono ?_
    rintro e w5 ⟨rfl, rfl⟩
    go_wp2_with fail
    refine hB.mono ?_
    rintro e w6 ⟨rfl, hb6⟩
    have hbw := hb.trans (hb6.mono hb.size)
    have hr6 := (hb6.block _ (hlt hr0)).trans hr0
    obtain ⟨⟨x0, x1, x2, x3, x4, x5, x6, x7, x8, x9, x10, x11, x12⟩, _⟩ := row13 hr6
    have hRun := hRun w6 hbw
    clear hr6 hb6 hB hr0
    go_wp2_with fail
    refine hRun.mono ?_
    rintro e w7 ⟨rfl, hb7⟩
    go_wp2
    go_ret
    exact ⟨rfl, hbw.trans (hb7.mono hbw.size)⟩
  rw [Bool.true_and] at hR
  have HR := Lib.hid hR
  clear hR
  go_enter Try.func11, Try.ntmps11
  try dsimp only [List.append]
  go_wp2_with fail
  refine (hN1 _).mono ?_
  rintro e w1 ⟨rfl, rfl⟩
  go_wp2_with fail
  refine (hN2 _).mono ?_
  rintro e w2 ⟨rfl, rfl⟩
  go_wp2_with fail
  refine (hN3 _).mono ?_
  rintro e w3 ⟨rfl, rfl⟩
  go_wp2_with fail
  refine (hN4 _).mono ?_
  rintro e w4 ⟨rfl, rfl⟩
  go_wp2_with fail
  refine (hN5 _).mono ?_
  rintro e w5 ⟨rfl, rfl⟩
  go_wp2_with fail
  refine hB.mono ?_
  rintro e w6 ⟨rfl, hb6⟩
  have hbw := hb.trans (hb6.mono hb.size)
  have hr6 := (hb6.block _ (hlt hr0)).trans hr0
  obtain ⟨⟨x0, x1, x2, x3, x4, x5, x6, x7, x8, x9, x10, x11, x12⟩, _⟩ := row13 hr6
  have hRun := hRun w6 hbw
  clear hb6 hB hr0
  go_wp2_with fail
  refine hRun.mono ?_
  rintro e w7 ⟨rfl, hb7⟩
  have hbw7 := hbw.trans (hb7.mono hbw.size)
  have hr7 := (hb7.block _ (hlt hr6)).trans hr6
  clear x0 x1 x2 x3 x4 x5 x6 x7 x8 x9 x10 x11 x12 hr6 hRun
  obtain ⟨⟨x0, x1, x2, x3, x4, x5, x6, x7, x8, x9, x10, x11, x12⟩, _⟩ := row13 hr7
  go_wp2
  go_loopg [3, 94] es.length (fun g kk ii wr => ∃ k : Nat, k + g = es.length ∧ ii = .int .i64 (k : Int) ∧ (∀ j (hj : j < es.length), j < k → es[j].t ≤ t) ∧ Below w7.heap.size w7 wr)
  case atStart => exact ⟨0, by omega, rfl, fun j hj h => absurd h (by omega), Below.refl _ _⟩
  case round =>
    obtain ⟨j, hj, rfl, hall, hb8⟩ := hrel
    have hbw8 := hbw7.trans (hb8.mono hbw7.size)
    have hr8 := (hb8.block _ (hlt hr7)).trans hr7
    have hz8 := hlt hr8
    clear x0 x1 x2 x3 x4 x5 x6 x7 x8 x9 x10 x11 x12 hr7
    obtain ⟨⟨x0, x1, x2, x3, x4, x5, x6, x7, x8, x9, x10, x11, x12⟩, _⟩ := row13 hr8
    have HB8 := Lib.hid hb8
    have HBW := Lib.hid hbw8
    have HJ := Lib.hid hj
    have HALL := Lib.hid hall
    by_cases hjl : j < es.length
    · have hlt' : (j : Int) < (es.length : Int) := by omega
      obtain ⟨g, off, F, cc, rfl, hg, y0, y1, y2, hly⟩ := (he.below hbw8 (Nat.le_refl _)).at_ j hjl
      obtain ⟨T, hT⟩ : ∃ T, es[j].t = T := ⟨_, rfl⟩
      rw [hT] at y1
      by_cases hl : T ≤ t
      · have q1 : (t < T) = False := eq_false (by omega)
        have q2 : decide (t < T) = false := decide_eq_false (by omega)
        have HL := Lib.hid (show es[j].t ≤ t by omega)
        clear hly he hs hall hb8 hbw8 hbw7 hr8 hj y0 y2 hT hbw hb7 hb hN1 hN2 hN3 hN4 hN5
        go_wp2
        go_big_quiet (fail)
        go_wp2
        go_roundg (gk - 1)
        case measure => have : j + gk = es.length := HJ; omega
        case rel => exact ⟨j + 1, by have : j + gk = es.length := HJ; omega, by go_num, fun i hi hij => by
          rcases Nat.lt_or_ge i j with h1 | h1
          · exact (show ∀ i (hi : i < es.length), i < j → es[i].t ≤ t from HALL) i hi h1
          · obtain rfl : i = j := by omega
            exact HL, below_drewN HB8 _⟩
      · have q1 : t < T := by omega
        have q2 : decide (t < T) = true := decide_eq_true q1
        have hno := late_no (t := t) j hjl (by omega)
        have HF := Lib.hid (show R = false by rw [← show (lateB t es && wholeB k si st sd.length) = R from HR, hno, Bool.false_and])
        clear hly he hs hall hb8 hbw8 hbw7 hr8 hj y0 y2 hT hbw hb7 hb hN1 hN2 hN3 hN4 hN5 hno
        go_wp2
        go_big_quiet (fail)
        go_wp2
        go_ret
        exact ⟨by rw [show R = false from HF]; rfl, below_drewN HBW _⟩
    · obtain rfl : j = es.length := by omega
      have hdec : decide ((es.length : Int) < (es.length : Int)) = false := decide_eq_false (by omega)
      have hyes := late_yes (t := t) (es := es) (fun i hi => hall i hi hi)
      have hW : wholeB k si st sd.length = R := by rw [← show (lateB t es && wholeB k si st sd.length) = R from HR, hyes, Bool.true_and]
      have hS := snapR_is si st E sd.length cE
      unfold wholeB at hW
      clear he hs hall hb8 hbw7 hr8 hj hbw hb7 hb hN1 hN2 hN3 hN4 hN5 hyes HR HALL
      by_cases h7 : k = 7
      · subst h7
        have e7 : ((7 : Int) != 7) = false := by decide
        simp only [ne_eq, not_true_eq_false, decide_false, Bool.false_or] at hW
        generalize snapB si st sd.length = z at *
        cases z with
        | false =>
          rw [Bool.false_and] at hW
          subst hW
          go_wp2_with fail
          refine (hS _).mono ?_
          rintro e w9 ⟨rfl, hb9⟩
          go_wp2
          go_ret
          exact ⟨rfl, hbw8.trans (hb9.mono hbw8.size)⟩
        | true =>
          rw [Bool.true_and] at hW
          go_wp2_with fail
          refine (hS _).mono ?_
          rintro e w9 ⟨rfl, hb9⟩
          have x10' := (hb9.cell (p := ⟨w.heap.size, 10, none⟩) hz8).trans x10
          clear hS x0 x1 x2 x3 x4 x5 x6 x7 x8 x9 x10 x11 x12
          by_cases h0 : 0 < si
          · rw [decide_eq_true h0] at hW
            subst hW
            go_wp2
            go_ret
            exact ⟨rfl, hbw8.trans (hb9.mono hbw8.size)⟩
          · rw [decide_eq_false h0] at hW
            subst hW
            have q0 : (0 < si) = False := eq_false h0
            clear h0
            go_wp2
            go_ret
            exact ⟨rfl, hbw8.trans (hb9.mono hbw8.size)⟩
      · have e7 : (k != 7) = true := by simp [h7]
        have e8 : (k = 7) = False := eq_false h7
        rw [decide_eq_true h7, Bool.true_or] at hW
        subst hW
        clear h7
        go_wp2
        go_ret
        exact ⟨rfl, hbw8⟩

end Go.Proofs.Ytlojjodgoeclfaa
