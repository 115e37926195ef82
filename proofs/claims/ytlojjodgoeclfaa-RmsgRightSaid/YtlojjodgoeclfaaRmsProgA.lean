/- The program's rightHead, rightNumbers, rightSnap, bare, by their contracts. -/
import Derived.Test.YtlojjodgoeclfaaRmsRow
import Derived.Lib.Hide
namespace Go.Proofs.Ytlojjodgoeclfaa
open Go.RowKit
set_option linter.unusedVariables false
set_option linter.unusedSimpArgs false

def headP (k f o t : Int) : Bool := headB k f o t && decide (t ≤ 1099511627776)

theorem headP_iff (k f o t : Int) : headP k f o t = true ↔ 1 ≤ k ∧ k ≤ 7 ∧ nodeB f = true ∧ nodeB o = true ∧ f ≠ o ∧ 1 ≤ t ∧ t ≤ 1099511627776 := by
  unfold headP nodeB
  rw [Bool.and_eq_true, headB_iff]
  simp
  omega

set_option maxRecDepth 100000 in
set_option maxHeartbeats 3200000 in
theorem headP_is (k f o t i l c x : Int) (b : Bool) (A : Option Addr) (n cA : Nat) (si st : Int) (E : Option Addr) (sn cE : Nat) (w : World) :
    Calls Try.prog 25 #[.agg (mC k f o t i l c x b A n cA si st E sn cE)] w fun e w' => e = .returned (.bool (headP k f o t)) ∧ Below w.heap.size w w' := by
  have hb : Below w.heap.size w (w.alloc (.cells (mC k f o t i l c x b A n cA si st E sn cE) 30)) := (Below.refl _ _).alloc (Nat.le_refl _) _
  have hH := headP_iff k f o t
  have hN1 := fun W => nodeP_is f W
  have hN2 := fun W => nodeP_is o W
  generalize headP k f o t = R at *
  by_cases p0 : 1 ≤ k
  case neg =>
    obtain rfl : R = false := by
      rw [Bool.eq_false_iff]
      intro q
      exact p0 (hH.1 q).1
    have e1 : decide (1 ≤ k) = false := decide_eq_false p0
    have e2 : (1 ≤ k) = False := eq_false p0
    clear hH p0
    go_enter Try.func25, Try.ntmps25
    try dsimp only [List.append]
    go_wp2
    go_ret
    exact ⟨rfl, hb⟩
  by_cases p1 : k ≤ 7
  case neg =>
    obtain rfl : R = false := by
      rw [Bool.eq_false_iff]
      intro q
      exact p1 (hH.1 q).2.1
    have e1 : decide (k ≤ 7) = false := decide_eq_false p1
    have e2 : (k ≤ 7) = False := eq_false p1
    clear hH p1
    go_enter Try.func25, Try.ntmps25
    try dsimp only [List.append]
    go_wp2
    go_ret
    exact ⟨rfl, hb⟩
  cases hz2 : nodeB f
  case false =>
    obtain rfl : R = false := by
      rw [Bool.eq_false_iff]
      intro q
      have := (hH.1 q).2.2.1
      rw [hz2] at this
      cases this
    rw [hz2] at hN1
    clear hH hz2
    go_enter Try.func25, Try.ntmps25
    try dsimp only [List.append]
    go_wp2_with fail
    refine (hN1 _).mono ?_
    rintro e w1 ⟨rfl, rfl⟩
    go_wp2
    go_ret
    exact ⟨rfl, hb⟩
  rw [hz2] at hN1
  cases hz3 : nodeB o
  case false =>
    obtain rfl : R = false := by
      rw [Bool.eq_false_iff]
      intro q
      have := (hH.1 q).2.2.2.1
      rw [hz3] at this
      cases this
    rw [hz3] at hN2
    clear hH hz3
    go_enter Try.func25, Try.ntmps25
    try dsimp only [List.append]
    go_wp2_with fail
    refine (hN1 _).mono ?_
    rintro e w1 ⟨rfl, rfl⟩
    go_wp2_with fail
    refine (hN2 _).mono ?_
    rintro e w2 ⟨rfl, rfl⟩
    go_wp2
    go_ret
    exact ⟨rfl, hb⟩
  rw [hz3] at hN2
  by_cases p4 : f ≠ o
  case neg =>
    obtain rfl : R = false := by
      rw [Bool.eq_false_iff]
      intro q
      exact p4 (hH.1 q).2.2.2.2.1
    obtain rfl : f = o := by omega
    clear hH p4
    go_enter Try.func25, Try.ntmps25
    try dsimp only [List.append]
    go_wp2_with fail
    refine (hN1 _).mono ?_
    rintro e w1 ⟨rfl, rfl⟩
    go_wp2_with fail
    refine (hN2 _).mono ?_
    rintro e w2 ⟨rfl, rfl⟩
    go_wp2
    go_ret
    exact ⟨rfl, hb⟩
  have q4 : (f == o) = false := beq_eq_false_iff_ne.2 p4
  have r4 : (f = o) = False := eq_false p4
  have s4 : (f != o) = true := by simp [p4]
  by_cases p5 : 1 ≤ t
  case neg =>
    obtain rfl : R = false := by
      rw [Bool.eq_false_iff]
      intro q
      exact p5 (hH.1 q).2.2.2.2.2.1
    have e1 : decide (1 ≤ t) = false := decide_eq_false p5
    have e2 : (1 ≤ t) = False := eq_false p5
    clear hH p5
    go_enter Try.func25, Try.ntmps25
    try dsimp only [List.append]
    go_wp2_with fail
    refine (hN1 _).mono ?_
    rintro e w1 ⟨rfl, rfl⟩
    go_wp2_with fail
    refine (hN2 _).mono ?_
    rintro e w2 ⟨rfl, rfl⟩
    go_wp2
    go_ret
    exact ⟨rfl, hb⟩
  by_cases p6 : t ≤ 1099511627776
  case neg =>
    obtain rfl : R = false := by
      rw [Bool.eq_false_iff]
      intro q
      exact p6 (hH.1 q).2.2.2.2.2.2
    have e1 : decide (t ≤ 1099511627776) = false := decide_eq_false p6
    have e2 : (t ≤ 1099511627776) = False := eq_false p6
    clear hH p6
    go_enter Try.func25, Try.ntmps25
    try dsimp only [List.append]
    go_wp2_with fail
    refine (hN1 _).mono ?_
    rintro e w1 ⟨rfl, rfl⟩
    go_wp2_with fail
    refine (hN2 _).mono ?_
    rintro e w2 ⟨rfl, rfl⟩
    go_wp2
    go_ret
    exact ⟨rfl, hb⟩
  obtain rfl : R = true := hH.2 ⟨p0, p1, hz2, hz3, p4, p5, p6⟩
  clear hH hz2 hz3
  go_enter Try.func25, Try.ntmps25
  try dsimp only [List.append]
  go_wp2_with fail
  refine (hN1 _).mono ?_
  rintro e w1 ⟨rfl, rfl⟩
  go_wp2_with fail
  refine (hN2 _).mono ?_
  rintro e w2 ⟨rfl, rfl⟩
  go_wp2
  go_ret
  exact ⟨rfl, hb⟩

def numsP (i l c x : Int) : Bool := numZ i && (numZ l && (numZ c && numZ x))

set_option maxRecDepth 100000 in
set_option maxHeartbeats 3200000 in
theorem numsP_is (k f o t i l c x : Int) (b : Bool) (A : Option Addr) (n cA : Nat) (si st : Int) (E : Option Addr) (sn cE : Nat) (w : World) :
    Calls Try.prog 26 #[.agg (mC k f o t i l c x b A n cA si st E sn cE)] w fun e w' => e = .returned (.bool (numsP i l c x)) ∧ Below w.heap.size w w' := by
  have hb : Below w.heap.size w (w.alloc (.cells (mC k f o t i l c x b A n cA si st E sn cE) 30)) := (Below.refl _ _).alloc (Nat.le_refl _) _
  unfold numsP
  have hN1 := fun W => numberP_is i W
  have hN2 := fun W => numberP_is l W
  have hN3 := fun W => numberP_is c W
  have hN4 := fun W => numberP_is x W
  generalize numZ i = z1 at *
  generalize numZ l = z2 at *
  generalize numZ c = z3 at *
  generalize numZ x = z4 at *
  cases z1
  case false =>
    rw [Bool.false_and]
    go_enter Try.func26, Try.ntmps26
    try dsimp only [List.append]
    go_wp2_with fail
    refine (hN1 _).mono ?_
    rintro e w1 ⟨rfl, rfl⟩
    go_wp2
    go_ret
    exact ⟨rfl, hb⟩
  rw [Bool.true_and]
  cases z2
  case false =>
    rw [Bool.false_and]
    go_enter Try.func26, Try.ntmps26
    try dsimp only [List.append]
    go_wp2_with fail
    refine (hN1 _).mono ?_
    rintro e w1 ⟨rfl, rfl⟩
    go_wp2_with fail
    refine (hN2 _).mono ?_
    rintro e w2 ⟨rfl, rfl⟩
    go_wp2
    go_ret
    exact ⟨rfl, hb⟩
  rw [Bool.true_and]
  cases z3
  case false =>
    rw [Bool.false_and]
    go_enter Try.func26, Try.ntmps26
    try dsimp only [List.append]
    go_wp2_with fail
    refine (hN1 _).mono ?_
    rintro e w1 ⟨rfl, rfl⟩
    go_wp2_with fail
    refine (hN2 _).mono ?_
    rintro e w2 ⟨rfl, rfl⟩
    go_wp2_with fail
    refine (hN3 _).mono ?_
    rintro e w3 ⟨rfl, rfl⟩
    go_wp2
    go_ret
    exact ⟨rfl, hb⟩
  rw [Bool.true_and]
  go_enter Try.func26, Try.ntmps26
  try dsimp only [List.append]
  go_wp2_with fail
  refine (hN1 _).mono ?_
  rintro e w1 ⟨rfl, rfl⟩
  go_wp2_with fail
  refine (hN2 _).mono ?_
  rintro e w2 ⟨rfl, rfl⟩
  go_wp2_with fail
  refine (hN3 _).mono ?_
  rintro e w3 ⟨rfl, rfl⟩
  go_wp2_with fail
  refine (hN4 _).mono ?_
  rintro e w4 ⟨rfl, rfl⟩
  go_wp2
  go_ret
  exact ⟨rfl, hb⟩

set_option maxRecDepth 100000 in
set_option maxHeartbeats 3200000 in
theorem snapOk_is (k f o t i l c x : Int) (b : Bool) (A : Option Addr) (n cA : Nat) (si st : Int) (E : Option Addr) (sn cE : Nat) (w : World) :
    Calls Try.prog 28 #[.agg (mC k f o t i l c x b A n cA si st E sn cE)] w fun e w' => e = .returned (.bool (snapOk k si st sn)) ∧ Below w.heap.size w w' := by
  have hb : Below w.heap.size w (w.alloc (.cells (mC k f o t i l c x b A n cA si st E sn cE) 30)) := (Below.refl _ _).alloc (Nat.le_refl _) _
  have hr0 := heap_alloc_new w (.cells (mC k f o t i l c x b A n cA si st E sn cE) 30)
  have hS := snapP_is si st E sn cE (w.alloc (.cells (mC k f o t i l c x b A n cA si st E sn cE) 30))
  unfold snapOk
  generalize snapB si st sn = z at *
  cases z with
  | false =>
    rw [Bool.false_and]
    clear hr0
    go_enter Try.func28, Try.ntmps28
    try dsimp only [List.append]
    go_wp2_with fail
    refine hS.mono ?_
    rintro e w1 ⟨rfl, hb1⟩
    go_wp2
    go_ret
    exact ⟨rfl, hb.trans (hb1.mono hb.size)⟩
  | true =>
    rw [Bool.true_and]
    by_cases h7 : k = 7
    · subst h7
      rw [decide_eq_false (by simp), Bool.false_or]
      have e7 : ((7 : Int) != 7) = false := by decide
      by_cases h0 : 0 < si
      · rw [decide_eq_true h0]
        go_enter Try.func28, Try.ntmps28
        try dsimp only [List.append]
        go_wp2_with fail
        refine hS.mono ?_
        rintro e w1 ⟨rfl, hb1⟩
        have hr1 := (hb1.block _ (hlt hr0)).trans hr0
        obtain ⟨⟨x0, x1, x2, x3, x4, x5, x6, x7, x8, x9, x10, x11, x12⟩, _⟩ := row13 hr1
        clear hS hr0 hr1
        go_wp2
        go_ret
        exact ⟨rfl, hb.trans (hb1.mono hb.size)⟩
      · rw [decide_eq_false h0]
        have q0 : (0 < si) = False := eq_false h0
        clear h0
        go_enter Try.func28, Try.ntmps28
        try dsimp only [List.append]
        go_wp2_with fail
        refine hS.mono ?_
        rintro e w1 ⟨rfl, hb1⟩
        have hr1 := (hb1.block _ (hlt hr0)).trans hr0
        obtain ⟨⟨x0, x1, x2, x3, x4, x5, x6, x7, x8, x9, x10, x11, x12⟩, _⟩ := row13 hr1
        clear hS hr0 hr1
        go_wp2
        go_ret
        exact ⟨rfl, hb.trans (hb1.mono hb.size)⟩
    · have e7 : (k != 7) = true := by simp [h7]
      have e8 : (k = 7) = False := eq_false h7
      rw [decide_eq_true h7, Bool.true_or]
      clear h7
      go_enter Try.func28, Try.ntmps28
      try dsimp only [List.append]
      go_wp2_with fail
      refine hS.mono ?_
      rintro e w1 ⟨rfl, hb1⟩
      have hr1 := (hb1.block _ (hlt hr0)).trans hr0
      obtain ⟨⟨x0, x1, x2, x3, x4, x5, x6, x7, x8, x9, x10, x11, x12⟩, _⟩ := row13 hr1
      clear hS hr0 hr1
      go_wp2
      go_ret
      exact ⟨rfl, hb.trans (hb1.mono hb.size)⟩

set_option maxRecDepth 100000 in
set_option maxHeartbeats 3200000 in
theorem bareP_1 (f o t i l c x : Int) (b : Bool) (A : Option Addr) (n cA : Nat) (si st : Int) (E : Option Addr) (sn cE : Nat) (w : World) :
    Calls Try.prog 29 #[.agg (mC 1 f o t i l c x b A n cA si st E sn cE)] w fun e w' => e = .returned (.agg (mC 1 f o t 0 0 c x b A n cA si st E sn cE)) ∧ Below w.heap.size w w' := by
  have hb : Below w.heap.size w ((w.alloc (.cells (mC 1 f o t 0 0 c x b A n cA si st E sn cE) 30)).alloc (.cells (mC 1 f o t 0 0 c x b A n cA si st E sn cE) 30)) := ((Below.refl _ _).alloc (Nat.le_refl _) _).alloc (by simp) _
  go_enter Try.func29, Try.ntmps29
  try dsimp only [List.append]
  go_wp2
  refine bodyPost_ret (res_cell (n := w.heap.size + 1) rfl rfl (heap_alloc2_new _ _ _) Try.underlying30 rfl (by kernel_rfl)) rfl ?_
  exact ⟨rfl, hb⟩

set_option maxRecDepth 100000 in
set_option maxHeartbeats 3200000 in
theorem bareP_2 (f o t i l c x : Int) (b : Bool) (A : Option Addr) (n cA : Nat) (si st : Int) (E : Option Addr) (sn cE : Nat) (w : World) :
    Calls Try.prog 29 #[.agg (mC 2 f o t i l c x b A n cA si st E sn cE)] w fun e w' => e = .returned (.agg (mC 2 f o t i l c x false A n cA si st E sn cE)) ∧ Below w.heap.size w w' := by
  have hb : Below w.heap.size w ((w.alloc (.cells (mC 2 f o t i l c x false A n cA si st E sn cE) 30)).alloc (.cells (mC 2 f o t i l c x false A n cA si st E sn cE) 30)) := ((Below.refl _ _).alloc (Nat.le_refl _) _).alloc (by simp) _
  go_enter Try.func29, Try.ntmps29
  try dsimp only [List.append]
  go_wp2
  refine bodyPost_ret (res_cell (n := w.heap.size + 1) rfl rfl (heap_alloc2_new _ _ _) Try.underlying30 rfl (by kernel_rfl)) rfl ?_
  exact ⟨rfl, hb⟩

set_option maxRecDepth 100000 in
set_option maxHeartbeats 3200000 in
theorem bareP_3 (f o t i l c x : Int) (b : Bool) (A : Option Addr) (n cA : Nat) (si st : Int) (E : Option Addr) (sn cE : Nat) (w : World) :
    Calls Try.prog 29 #[.agg (mC 3 f o t i l c x b A n cA si st E sn cE)] w fun e w' => e = .returned (.agg (mC 3 f o t 0 0 c x b A n cA si st E sn cE)) ∧ Below w.heap.size w w' := by
  have hb : Below w.heap.size w ((w.alloc (.cells (mC 3 f o t 0 0 c x b A n cA si st E sn cE) 30)).alloc (.cells (mC 3 f o t 0 0 c x b A n cA si st E sn cE) 30)) := ((Below.refl _ _).alloc (Nat.le_refl _) _).alloc (by simp) _
  go_enter Try.func29, Try.ntmps29
  try dsimp only [List.append]
  go_wp2
  refine bodyPost_ret (res_cell (n := w.heap.size + 1) rfl rfl (heap_alloc2_new _ _ _) Try.underlying30 rfl (by kernel_rfl)) rfl ?_
  exact ⟨rfl, hb⟩

set_option maxRecDepth 100000 in
set_option maxHeartbeats 3200000 in
theorem bareP_4 (f o t i l c x : Int) (b : Bool) (A : Option Addr) (n cA : Nat) (si st : Int) (E : Option Addr) (sn cE : Nat) (w : World) :
    Calls Try.prog 29 #[.agg (mC 4 f o t i l c x b A n cA si st E sn cE)] w fun e w' => e = .returned (.agg (mC 4 f o t i l c x false A n cA si st E sn cE)) ∧ Below w.heap.size w w' := by
  have hb : Below w.heap.size w ((w.alloc (.cells (mC 4 f o t i l c x false A n cA si st E sn cE) 30)).alloc (.cells (mC 4 f o t i l c x false A n cA si st E sn cE) 30)) := ((Below.refl _ _).alloc (Nat.le_refl _) _).alloc (by simp) _
  go_enter Try.func29, Try.ntmps29
  try dsimp only [List.append]
  go_wp2
  refine bodyPost_ret (res_cell (n := w.heap.size + 1) rfl rfl (heap_alloc2_new _ _ _) Try.underlying30 rfl (by kernel_rfl)) rfl ?_
  exact ⟨rfl, hb⟩

set_option maxRecDepth 100000 in
set_option maxHeartbeats 3200000 in
theorem bareP_5 (f o t i l c x : Int) (b : Bool) (A : Option Addr) (n cA : Nat) (si st : Int) (E : Option Addr) (sn cE : Nat) (w : World) :
    Calls Try.prog 29 #[.agg (mC 5 f o t i l c x b A n cA si st E sn cE)] w fun e w' => e = .returned (.agg (mC 5 f o t 0 0 0 0 b none 0 0 si st E sn cE)) ∧ Below w.heap.size w w' := by
  have hb : Below w.heap.size w ((w.alloc (.cells (mC 5 f o t 0 0 0 0 b none 0 0 si st E sn cE) 30)).alloc (.cells (mC 5 f o t 0 0 0 0 b none 0 0 si st E sn cE) 30)) := ((Below.refl _ _).alloc (Nat.le_refl _) _).alloc (by simp) _
  go_enter Try.func29, Try.ntmps29
  try dsimp only [List.append]
  go_wp2
  refine bodyPost_ret (res_cell (n := w.heap.size + 1) rfl rfl (heap_alloc2_new _ _ _) Try.underlying30 rfl (by kernel_rfl)) rfl ?_
  exact ⟨rfl, hb⟩

set_option maxRecDepth 100000 in
set_option maxHeartbeats 3200000 in
theorem bareP_6 (f o t i l c x : Int) (b : Bool) (A : Option Addr) (n cA : Nat) (si st : Int) (E : Option Addr) (sn cE : Nat) (w : World) :
    Calls Try.prog 29 #[.agg (mC 6 f o t i l c x b A n cA si st E sn cE)] w fun e w' => e = .returned (.agg (mC 6 f o t 0 l c 0 false A n cA si st E sn cE)) ∧ Below w.heap.size w w' := by
  have hb : Below w.heap.size w ((w.alloc (.cells (mC 6 f o t 0 l c 0 false A n cA si st E sn cE) 30)).alloc (.cells (mC 6 f o t 0 l c 0 false A n cA si st E sn cE) 30)) := ((Below.refl _ _).alloc (Nat.le_refl _) _).alloc (by simp) _
  go_enter Try.func29, Try.ntmps29
  try dsimp only [List.append]
  go_wp2
  refine bodyPost_ret (res_cell (n := w.heap.size + 1) rfl rfl (heap_alloc2_new _ _ _) Try.underlying30 rfl (by kernel_rfl)) rfl ?_
  exact ⟨rfl, hb⟩

set_option maxRecDepth 100000 in
set_option maxHeartbeats 3200000 in
theorem bareP_7 (f o t i l c x : Int) (b : Bool) (A : Option Addr) (n cA : Nat) (si st : Int) (E : Option Addr) (sn cE : Nat) (w : World) :
    Calls Try.prog 29 #[.agg (mC 7 f o t i l c x b A n cA si st E sn cE)] w fun e w' => e = .returned (.agg (mC 7 f o t i l c x b A n cA 0 0 none 0 0)) ∧ Below w.heap.size w w' := by
  have hb : Below w.heap.size w ((w.alloc (.cells (mC 7 f o t i l c x b A n cA 0 0 none 0 0) 30)).alloc (.cells (mC 7 f o t i l c x b A n cA 0 0 none 0 0) 30)) := ((Below.refl _ _).alloc (Nat.le_refl _) _).alloc (by simp) _
  go_enter Try.func29, Try.ntmps29
  try dsimp only [List.append]
  go_wp2
  refine bodyPost_ret (res_cell (n := w.heap.size + 1) rfl rfl (heap_alloc2_new _ _ _) Try.underlying30 rfl (by kernel_rfl)) rfl ?_
  exact ⟨rfl, hb⟩

end Go.Proofs.Ytlojjodgoeclfaa
