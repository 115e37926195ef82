/- A byte, a flag, a count, a number, a text of what is taken apart. -/
import Derived.Test.YtipggjmndlaehaaOctRefB
namespace Go.Proofs.Ytipggjmndlaehaa
open Go.RowKit
set_option linter.unusedVariables false
set_option linter.unusedSimpArgs false

theorem left_number (s : St) (n : Nat) {b : Nat} (h : left s ≤ b) : left (numberN s n).2 ≤ b := by
  unfold numberN takeN
  cases s with
  | none => simp [left]
  | some l =>
    simp only [left] at h
    simp only
    split
    · simp [left]; omega
    · simp [left]

set_option maxRecDepth 100000 in
set_option maxHeartbeats 6400000 in
theorem numR2_any (A : Option Addr) (cap : Nat) (s : St) (w : World) (h : RLies w A cap s) :
    Calls Try.prog 49 #[inv A cap s] w fun e w' => ∃ A' cap', e = .returned (.tuple #[.int .i64 (IntKind.i64.wrap ((numberN s 8).1 : Int)), inv A' cap' (numberN s 8).2]) ∧ (∀ w0, RLies w0 A cap s → RLies w0 A' cap' (numberN s 8).2) ∧ Below w.heap.size w w' := by
  have hb0 : Below w.heap.size w ((w.alloc (.cells #[.slice A (left s) cap, .bool s.isNone] 57)).alloc (.cells #[.slice none 0 0, .bool false] 57)) := ((Below.refl _ _).alloc (Nat.le_refl _) _).alloc (by simp) _
  have hm0 : ((w.alloc (.cells #[.slice A (left s) cap, .bool s.isNone] 57)).alloc (.cells #[.slice none 0 0, .bool false] 57)).heap[w.heap.size + 1]? = some (.cells #[.slice none 0 0, .bool false] 57) := heap_alloc2_new _ _ _
  have f0 : ((w.alloc (.cells #[.slice A (left s) cap, .bool s.isNone] 57)).alloc (.cells #[.slice none 0 0, .bool false] 57)).cell? ⟨w.heap.size, 0, none⟩ = some (.slice A (left s) cap) := by simp [go_sem]
  have f1 : ((w.alloc (.cells #[.slice A (left s) cap, .bool s.isNone] 57)).alloc (.cells #[.slice none 0 0, .bool false] 57)).cell? ⟨w.heap.size, 1, none⟩ = some (.bool s.isNone) := by simp [go_sem]
  have hN := numberR_any A cap s _ 8 (by omega) (h.below hb0 (Nat.le_refl _))
  generalize numberN s 8 = t at hN ⊢
  obtain ⟨v, s'⟩ := t
  simp only [inv] at hN ⊢
  generalize hW : ((w.alloc (.cells #[.slice A (left s) cap, .bool s.isNone] 57)).alloc (.cells #[.slice none 0 0, .bool false] 57)) = W at hb0 hm0 hN f0 f1
  go_enter Try.func49, Try.ntmps49
  go_wp2_with (
      go_at_call 60
      refine hN.mono ?_
      rintro e w1 ⟨A', cap', rfl, hr, hb⟩
      have hq : w.heap.size + 1 < w1.heap.size := Nat.lt_of_lt_of_le (hlt hm0) hb.size
      have hm1 : w1.heap[w.heap.size + 1]? = some (.cells #[.slice none 0 0, .bool false] 57) := (hb.block _ (hlt hm0)).trans hm0
      have hb1 : Below w.heap.size w w1 := hb0.trans (hb.mono hb0.size)
      have f4 : w1.cell? ⟨w.heap.size + 1, 0, none⟩ = some (.slice none 0 0) := by simp [World.cell?, hm1]
      have f5 : w1.cell? ⟨w.heap.size + 1, 1, none⟩ = some (.bool false) := by simp [World.cell?, hm1]
      have f6 : w1.frozen? ⟨w.heap.size + 1, 0, none⟩ = false := by simp [World.frozen?, hm1]
      have f7 : w1.frozen? ⟨w.heap.size + 1, 1, none⟩ = false := by simp [World.frozen?, hm1]
      clear hb hb0 hm0)
  go_region
  all_goals
    go_wp2
    refine bodyPost_ret (res_tmp_cell rfl _ _ (w.heap.size + 1) _ _ _ rfl ((Below.heap_alloc _ _ _ (by simpa using hq)).trans (two_set _ _ _ _ _ _ _ hm1))) rfl ?_
    exact ⟨A', cap', by rw [IntWalk.i64_left]; rfl, hr, (((hb1.setCell (by simp) _).setCell (by simp) _).alloc (by simp; omega) _).drew⟩

set_option maxRecDepth 100000 in
set_option maxHeartbeats 6400000 in
theorem countR2_any (A : Option Addr) (cap : Nat) (s : St) (w : World) (most : Int) (hm : -9223372036854775808 ≤ most ∧ most ≤ 9223372036854775807) (hL : left s ≤ 140737488355328) (h : RLies w A cap s) :
    Calls Try.prog 67 #[inv A cap s, .int .i64 most] w fun e w' => ∃ A' cap', e = .returned (.tuple #[.int .i64 ((countN s most).1 : Int), inv A' cap' (countN s most).2]) ∧ (∀ w0, RLies w0 A cap s → RLies w0 A' cap' (countN s most).2) ∧ Below w.heap.size w w' := by
  have hb0 : Below w.heap.size w ((w.alloc (.cells #[.slice A (left s) cap, .bool s.isNone] 57)).alloc (.cells #[.slice none 0 0, .bool false] 57)) := ((Below.refl _ _).alloc (Nat.le_refl _) _).alloc (by simp) _
  have hm0 : ((w.alloc (.cells #[.slice A (left s) cap, .bool s.isNone] 57)).alloc (.cells #[.slice none 0 0, .bool false] 57)).heap[w.heap.size + 1]? = some (.cells #[.slice none 0 0, .bool false] 57) := heap_alloc2_new _ _ _
  have f0 : ((w.alloc (.cells #[.slice A (left s) cap, .bool s.isNone] 57)).alloc (.cells #[.slice none 0 0, .bool false] 57)).cell? ⟨w.heap.size, 0, none⟩ = some (.slice A (left s) cap) := by simp [go_sem]
  have f1 : ((w.alloc (.cells #[.slice A (left s) cap, .bool s.isNone] 57)).alloc (.cells #[.slice none 0 0, .bool false] 57)).cell? ⟨w.heap.size, 1, none⟩ = some (.bool s.isNone) := by simp [go_sem]
  have hN := numberR_any A cap s _ 4 (by omega) (h.below hb0 (Nat.le_refl _))
  have hlt4 : (numberN s 4).1 < 4294967296 := numberN_lt s 4
  have hle := left_number s 4 hL
  unfold countN
  generalize numberN s 4 = t at hN hlt4 hle ⊢
  obtain ⟨v, s'⟩ := t
  simp only [inv] at hN hlt4 hle ⊢
  have vb : (v : Int) < 4294967296 := by omega
  have lb : (left s' : Int) ≤ 140737488355328 := by omega
  have e2 : IntKind.u64.wrap (left s' : Int) = (left s' : Int) := IntWalk.u64_in _ (by omega)
  generalize hW : ((w.alloc (.cells #[.slice A (left s) cap, .bool s.isNone] 57)).alloc (.cells #[.slice none 0 0, .bool false] 57)) = W at hb0 hm0 hN f0 f1
  by_cases c0 : most < 0
  · rw [if_pos (.inl c0)]
    go_enter Try.func67, Try.ntmps67
    go_wp2_with (
        go_at_call 60
        refine hN.mono ?_
        rintro e w1 ⟨A', cap', rfl, hr, hb⟩
        have hq : w.heap.size + 1 < w1.heap.size := Nat.lt_of_lt_of_le (hlt hm0) hb.size
        have hm1 : w1.heap[w.heap.size + 1]? = some (.cells #[.slice none 0 0, .bool false] 57) := (hb.block _ (hlt hm0)).trans hm0
        have hb1 : Below w.heap.size w w1 := hb0.trans (hb.mono hb0.size)
        have f4 : w1.cell? ⟨w.heap.size + 1, 0, none⟩ = some (.slice none 0 0) := by simp [World.cell?, hm1]
        have f5 : w1.cell? ⟨w.heap.size + 1, 1, none⟩ = some (.bool false) := by simp [World.cell?, hm1]
        have f6 : w1.frozen? ⟨w.heap.size + 1, 0, none⟩ = false := by simp [World.frozen?, hm1]
        have f7 : w1.frozen? ⟨w.heap.size + 1, 1, none⟩ = false := by simp [World.frozen?, hm1]
        clear hb hb0 hm0)
    refine bodyPost_ret (res_tmp_cell rfl _ _ (w.heap.size + 1) _ _ _ rfl ((Below.heap_alloc _ _ _ (by simpa using hq)).trans (two_set _ _ _ _ _ _ _ hm1))) rfl ?_
    exact ⟨none, 0, rfl, fun w0 _ => RLies.bad w0, ((hb1.setCell (by simp) _).setCell (by simp) _).alloc (by simp; omega) _⟩
  have e1 : IntKind.u64.wrap most = most := IntWalk.u64_in _ (by omega)
  by_cases c1 : most < (v : Int)
  · rw [if_pos (.inr (.inl c1))]
    go_enter Try.func67, Try.ntmps67
    go_wp2_with (
        go_at_call 60
        refine hN.mono ?_
        rintro e w1 ⟨A', cap', rfl, hr, hb⟩
        have hq : w.heap.size + 1 < w1.heap.size := Nat.lt_of_lt_of_le (hlt hm0) hb.size
        have hm1 : w1.heap[w.heap.size + 1]? = some (.cells #[.slice none 0 0, .bool false] 57) := (hb.block _ (hlt hm0)).trans hm0
        have hb1 : Below w.heap.size w w1 := hb0.trans (hb.mono hb0.size)
        have f4 : w1.cell? ⟨w.heap.size + 1, 0, none⟩ = some (.slice none 0 0) := by simp [World.cell?, hm1]
        have f5 : w1.cell? ⟨w.heap.size + 1, 1, none⟩ = some (.bool false) := by simp [World.cell?, hm1]
        have f6 : w1.frozen? ⟨w.heap.size + 1, 0, none⟩ = false := by simp [World.frozen?, hm1]
        have f7 : w1.frozen? ⟨w.heap.size + 1, 1, none⟩ = false := by simp [World.frozen?, hm1]
        clear hb hb0 hm0)
    refine bodyPost_ret (res_tmp_cell rfl _ _ (w.heap.size + 1) _ _ _ rfl ((Below.heap_alloc _ _ _ (by simpa using hq)).trans (two_set _ _ _ _ _ _ _ hm1))) rfl ?_
    exact ⟨none, 0, rfl, fun w0 _ => RLies.bad w0, ((hb1.setCell (by simp) _).setCell (by simp) _).alloc (by simp; omega) _⟩
  by_cases c2 : left s' < v
  · rw [if_pos (.inr (.inr c2))]
    have c2' : (left s' : Int) < (v : Int) := by omega
    go_enter Try.func67, Try.ntmps67
    go_wp2_with (
        go_at_call 60
        refine hN.mono ?_
        rintro e w1 ⟨A', cap', rfl, hr, hb⟩
        have hq : w.heap.size + 1 < w1.heap.size := Nat.lt_of_lt_of_le (hlt hm0) hb.size
        have hm1 : w1.heap[w.heap.size + 1]? = some (.cells #[.slice none 0 0, .bool false] 57) := (hb.block _ (hlt hm0)).trans hm0
        have hb1 : Below w.heap.size w w1 := hb0.trans (hb.mono hb0.size)
        have f4 : w1.cell? ⟨w.heap.size + 1, 0, none⟩ = some (.slice none 0 0) := by simp [World.cell?, hm1]
        have f5 : w1.cell? ⟨w.heap.size + 1, 1, none⟩ = some (.bool false) := by simp [World.cell?, hm1]
        have f6 : w1.frozen? ⟨w.heap.size + 1, 0, none⟩ = false := by simp [World.frozen?, hm1]
        have f7 : w1.frozen? ⟨w.heap.size + 1, 1, none⟩ = false := by simp [World.frozen?, hm1]
        clear hb hb0 hm0)
    refine bodyPost_ret (res_tmp_cell rfl _ _ (w.heap.size + 1) _ _ _ rfl ((Below.heap_alloc _ _ _ (by simpa using hq)).trans (two_set _ _ _ _ _ _ _ hm1))) rfl ?_
    exact ⟨none, 0, rfl, fun w0 _ => RLies.bad w0, ((hb1.setCell (by simp) _).setCell (by simp) _).alloc (by simp; omega) _⟩
  · rw [if_neg (by omega)]
    have d0 : decide (most < 0) = false := decide_eq_false c0
    have d1 : decide (most < (v : Int)) = false := decide_eq_false c1
    have d2 : decide (left s' < v) = false := decide_eq_false c2
    clear c0 c1 c2 hlt4 hle hL
    go_enter Try.func67, Try.ntmps67
    go_wp2_with (
        go_at_call 60
        refine hN.mono ?_
        rintro e w1 ⟨A', cap', rfl, hr, hb⟩
        have hq : w.heap.size + 1 < w1.heap.size := Nat.lt_of_lt_of_le (hlt hm0) hb.size
        have hm1 : w1.heap[w.heap.size + 1]? = some (.cells #[.slice none 0 0, .bool false] 57) := (hb.block _ (hlt hm0)).trans hm0
        have hb1 : Below w.heap.size w w1 := hb0.trans (hb.mono hb0.size)
        have f4 : w1.cell? ⟨w.heap.size + 1, 0, none⟩ = some (.slice none 0 0) := by simp [World.cell?, hm1]
        have f5 : w1.cell? ⟨w.heap.size + 1, 1, none⟩ = some (.bool false) := by simp [World.cell?, hm1]
        have f6 : w1.frozen? ⟨w.heap.size + 1, 0, none⟩ = false := by simp [World.frozen?, hm1]
        have f7 : w1.frozen? ⟨w.heap.size + 1, 1, none⟩ = false := by simp [World.frozen?, hm1]
        clear hb hb0 hm0)
    go_region
    all_goals
      go_wp2
      refine bodyPost_ret (res_tmp_cell rfl _ _ (w.heap.size + 1) _ _ _ rfl ((Below.heap_alloc _ _ _ (by simpa using hq)).trans (two_set _ _ _ _ _ _ _ hm1))) rfl ?_
      exact ⟨A', cap', rfl, hr, (((hb1.setCell (by simp) _).setCell (by simp) _).alloc (by simp; omega) _).drew⟩

set_option maxRecDepth 100000 in
set_option maxHeartbeats 6400000 in
theorem textR2_any (A : Option Addr) (cap : Nat) (s : St) (w : World) (most : Int) (hm : -9223372036854775808 ≤ most ∧ most ≤ 9223372036854775807) (hL : left s ≤ 140737488355328) (h : RLies w A cap s) :
    Calls Try.prog 59 #[inv A cap s, .int .i64 most] w fun e w' => ∃ A' cap', e = .returned (.tuple #[.string ⟨(textN s most).1.toArray⟩, inv A' cap' (textN s most).2]) ∧ (∀ w0, RLies w0 A cap s → RLies w0 A' cap' (textN s most).2) ∧ Below w.heap.size w w' := by
  have hb0 : Below w.heap.size w ((w.alloc (.cells #[.slice A (left s) cap, .bool s.isNone] 57)).alloc (.cells #[.slice none 0 0, .bool false] 57)) := ((Below.refl _ _).alloc (Nat.le_refl _) _).alloc (by simp) _
  have hm0 : ((w.alloc (.cells #[.slice A (left s) cap, .bool s.isNone] 57)).alloc (.cells #[.slice none 0 0, .bool false] 57)).heap[w.heap.size + 1]? = some (.cells #[.slice none 0 0, .bool false] 57) := heap_alloc2_new _ _ _
  have f0 : ((w.alloc (.cells #[.slice A (left s) cap, .bool s.isNone] 57)).alloc (.cells #[.slice none 0 0, .bool false] 57)).cell? ⟨w.heap.size, 0, none⟩ = some (.slice A (left s) cap) := by simp [go_sem]
  have f1 : ((w.alloc (.cells #[.slice A (left s) cap, .bool s.isNone] 57)).alloc (.cells #[.slice none 0 0, .bool false] 57)).cell? ⟨w.heap.size, 1, none⟩ = some (.bool s.isNone) := by simp [go_sem]
  have hN := countR2_any A cap s _ most hm hL (h.below hb0 (Nat.le_refl _))
  unfold textN
  generalize countN s most = t at hN ⊢
  obtain ⟨v, s1⟩ := t
  simp only at hN ⊢
  have hM := fun A1 cap1 w h => bytesR_any A1 cap1 s1 w v h
  generalize takeN s1 v = t at hM ⊢
  obtain ⟨l, s2⟩ := t
  simp only [inv] at hN hM ⊢
  generalize hW : ((w.alloc (.cells #[.slice A (left s) cap, .bool s.isNone] 57)).alloc (.cells #[.slice none 0 0, .bool false] 57)) = W at hb0 hm0 hN f0 f1
  go_enter Try.func59, Try.ntmps59
  go_wp2_with (
      go_at_call 67
      refine hN.mono ?_
      rintro e w1 ⟨A', cap', rfl, hr, hb⟩
      have hq : w.heap.size + 1 < w1.heap.size := Nat.lt_of_lt_of_le (hlt hm0) hb.size
      have hm1 : w1.heap[w.heap.size + 1]? = some (.cells #[.slice none 0 0, .bool false] 57) := (hb.block _ (hlt hm0)).trans hm0
      have hb1 : Below w.heap.size w w1 := hb0.trans (hb.mono hb0.size)
      have f4 : w1.cell? ⟨w.heap.size + 1, 0, none⟩ = some (.slice none 0 0) := by simp [World.cell?, hm1]
      have f5 : w1.cell? ⟨w.heap.size + 1, 1, none⟩ = some (.bool false) := by simp [World.cell?, hm1]
      have f6 : w1.frozen? ⟨w.heap.size + 1, 0, none⟩ = false := by simp [World.frozen?, hm1]
      have f7 : w1.frozen? ⟨w.heap.size + 1, 1, none⟩ = false := by simp [World.frozen?, hm1]
      clear hb hb0 hm0)
  refine (hM A' cap' _ ((hr w h).below (hb1.alloc (by omega) _) (Nat.le_refl _))).mono ?_
  rintro e w2 ⟨B, bl, bc, A2, cap2, rfl, hlr, hb2⟩
  have hX : (w1.alloc (.cells #[.slice A' (left s1) cap', .bool s1.isNone] 57)).heap[w1.heap.size]? = some (.cells #[.slice A' (left s1) cap', .bool s1.isNone] 57) := heap_alloc_new _ _
  have hq2 : w2.heap[w1.heap.size]? = some (.cells #[.slice A' (left s1) cap', .bool s1.isNone] 57) := (hb2.block _ (hlt hX)).trans hX
  have hm2 : w2.heap[w.heap.size + 1]? = some (.cells #[.slice none 0 0, .bool false] 57) := (hb2.block _ (Nat.lt_trans hq (hlt hX))).trans ((Below.heap_alloc _ _ _ hq).trans hm1)
  have hbw2 : Below w.heap.size w w2 := (hb1.alloc (by omega) _).trans (hb2.mono (by simp; omega))
  have hrr : ∀ w0, RLies w0 A cap s → Lies w0 B bl bc l ∧ RLies w0 A2 cap2 s2 := fun w0 h0 => hlr w0 (hr w0 h0)
  have g0 : w2.cell? ⟨w1.heap.size, 0, none⟩ = some (.slice A' (left s1) cap') := by simp [World.cell?, hq2]
  have g1 : w2.cell? ⟨w1.heap.size, 1, none⟩ = some (.bool s1.isNone) := by simp [World.cell?, hq2]
  have g2 : w2.frozen? ⟨w1.heap.size, 0, none⟩ = false := by simp [World.frozen?, hq2]
  have g3 : w2.frozen? ⟨w1.heap.size, 1, none⟩ = false := by simp [World.frozen?, hq2]
  have hm3 : ((w2.setCell ⟨w1.heap.size, 0, none⟩ (.slice A2 (left s2) cap2)).setCell ⟨w1.heap.size, 1, none⟩ (.bool s2.isNone)).heap[w.heap.size + 1]? = some (.cells #[.slice none 0 0, .bool false] 57) := (Below.heap_setCell _ _ _ _ (by simp; omega)).trans ((Below.heap_setCell _ _ _ _ (by simp; omega)).trans hm2)
  have hq3 : ((w2.setCell ⟨w1.heap.size, 0, none⟩ (.slice A2 (left s2) cap2)).setCell ⟨w1.heap.size, 1, none⟩ (.bool s2.isNone)).heap[w1.heap.size]? = some (.cells #[.slice A2 (left s2) cap2, .bool s2.isNone] 57) := two_set _ _ _ _ _ _ _ hq2
  have hb3 : Below w.heap.size w ((w2.setCell ⟨w1.heap.size, 0, none⟩ (.slice A2 (left s2) cap2)).setCell ⟨w1.heap.size, 1, none⟩ (.bool s2.isNone)) := (hbw2.setCell (by simp; omega) _).setCell (by simp; omega) _
  clear hb2 hX hlr hr hM hN hm2 hq2 hbw2 hb1 hm1 f4 f5 f6 f7
  go_wp2
  generalize ((w2.setCell ⟨w1.heap.size, 0, none⟩ (.slice A2 (left s2) cap2)).setCell ⟨w1.heap.size, 1, none⟩ (.bool s2.isNone)) = X at hm3 hq3 hb3 ⊢
  generalize w1.heap.size = q at hq hq3 g0 g1 g2 g3 ⊢
  have f2 : X.cell? ⟨q, 0, none⟩ = some (.slice A2 (left s2) cap2) := by simp [World.cell?, hq3]
  have f3 : X.cell? ⟨q, 1, none⟩ = some (.bool s2.isNone) := by simp [World.cell?, hq3]
  have f4 : X.cell? ⟨w.heap.size + 1, 0, none⟩ = some (.slice none 0 0) := by simp [World.cell?, hm3]
  have f5 : X.cell? ⟨w.heap.size + 1, 1, none⟩ = some (.bool false) := by simp [World.cell?, hm3]
  have f6 : X.frozen? ⟨w.heap.size + 1, 0, none⟩ = false := by simp [World.frozen?, hm3]
  have f7 : X.frozen? ⟨w.heap.size + 1, 1, none⟩ = false := by simp [World.frozen?, hm3]
  have ht := ((hrr w h).1.below hb3.drew (Nat.le_refl _)).text Try.underlying25 Try.underlying5 Try.underlying9
  go_region
  all_goals
    go_wp2
    refine bodyPost_ret (res_tmp_cell rfl _ _ (w.heap.size + 1) _ _ _ rfl (two_set _ _ _ _ _ _ _ hm3)) rfl ?_
    exact ⟨A2, cap2, rfl, fun w0 h0 => (hrr w0 h0).2, ((hb3.setCell (by simp) _).setCell (by simp) _).drew⟩

end Go.Proofs.Ytipggjmndlaehaa
