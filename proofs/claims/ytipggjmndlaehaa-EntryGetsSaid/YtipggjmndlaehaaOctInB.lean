/- What an In gives, each call by its contract. -/
import Derived.Test.YtipggjmndlaehaaOctInA
import Derived.Deep.Cut
namespace Go.Proofs.Ytipggjmndlaehaa
open Go.RowKit
set_option linter.unusedVariables false
set_option linter.unusedSimpArgs false

theorem or_byte (x : Nat) (b : UInt8) (hx : x < 72057594037927936) : bits BinOp.or IntKind.u64 (IntKind.u64.wrap ((x : Int) * 256)) (IntKind.u64.wrap (b.toNat : Int)) = ((x * 256 + b.toNat : Nat) : Int) := by
  have hb : b.toNat < 256 := b.toNat_lt
  rw [IntWalk.u64_in _ (by omega), IntWalk.u64_in _ (by omega)]
  rw [bits_join .u64 64 (by decide) (fun m h0 h1 => IntWalk.u64_in _ (by omega)) 8 _ _ (by omega) (by omega) (by omega) (by omega) (by omega) (by omega)]
  omega

theorem take_get (l : List UInt8) (k : Nat) (h : k < l.length) : l.take (k + 1) = l.take k ++ [l[k]] := by
  rw [List.take_add_one, List.getElem?_eq_getElem h]
  rfl

set_option maxHeartbeats 6400000 in
/-- The loop over bytes that lie somewhere. -/
theorem numberIn_any (n : Nat) (hn : n ≤ 8) (w : World) (i : Nat) (s : St) (Z : Nat → Prop) (h : In w i s Z) :
    Calls Try.prog 58 #[.pointer (some ⟨i, 0, none⟩), .int .i64 (n : Int)] w fun e w' => e = .returned (.int .u64 ((numberN s n).1 : Int)) ∧ In w' i (numberN s n).2 Z ∧ Keeps Z w w' := by
  have hN := next_any n w i s Z h
  have hlen := takeN_len s n
  unfold numberN
  generalize takeN s n = t at hN hlen
  obtain ⟨l, s'⟩ := t
  simp only at hN hlen ⊢
  go_enter Try.func58, Try.ntmps58
  go_wp2_with (go_at_call 65; refine hN.mono ?_; rintro e w1 ⟨A, len, cap, rfl, hl, hi, hk⟩)
  obtain rfl : l.length = len := hl.1
  go_loopg [5, 7, 12] l.length (fun g v u x wr => ∃ j : Nat, v = .int .u64 ((num (l.take j) : Nat) : Int) ∧ x = .int .i64 (j : Int) ∧ j + g = l.length ∧ wr = w1)
  case atStart => exact ⟨0, by simp [num], rfl, by omega, rfl⟩
  case round =>
    obtain ⟨j, rfl, rfl, hj, rfl⟩ := hrel
    have jb : (j : Int) ≤ 8 := by omega
    by_cases hlt : j < l.length
    · have hlt' : (j : Int) < (l.length : Int) := by omega
      obtain ⟨g, off, rfl, hg, hc⟩ := hl.cell j hlt
      have hx : num (l.take j) < 72057594037927936 := by
        have h1 := num_lt (l.take j)
        have h2 : 256 ^ (l.take j).length ≤ 256 ^ 7 := Nat.pow_le_pow_right (by omega) (by simp; omega)
        have h3 : (256 : Nat) ^ 7 = 72057594037927936 := by decide
        omega
      have hor := or_byte (num (l.take j)) l[j] hx
      have hnx : num (l.take j) * 256 + l[j].toNat = num (l.take (j + 1)) := by rw [take_get l j hlt, num_snoc]
      rw [hnx] at hor
      go_wp2
      go_roundg (gk - 1)
      case measure => omega
      case rel => exact ⟨j + 1, by first | rw [hor] | (rw [IntWalk.u64_in ((num (l.take j) : Int) * 256) (by omega)] at hor; rw [hor]), by go_num, by omega, rfl⟩
    · obtain rfl : j = l.length := by omega
      have hdec : decide ((l.length : Int) < (l.length : Int)) = false := decide_eq_false (by omega)
      go_wp2
      go_ret
      rw [List.take_length]
      exact ⟨rfl, hi, hk⟩

theorem numberIn_nil (n : Nat) (w : World) : Calls Try.prog 58 #[.pointer none, .int .i64 (n : Int)] w fun e w' => e = .returned (.int .u64 0) ∧ w = w' := by
  have hN := next_nil n w
  go_enter Try.func58, Try.ntmps58
  go_wp2_with (go_at_call 65; refine hN.mono ?_; rintro e w1 ⟨rfl, rfl⟩)
  go_loopg [5, 7, 12] 0 (fun g v u x wr => v = .int .u64 0 ∧ x = .int .i64 0 ∧ wr = w)
  case atStart => exact ⟨rfl, rfl, rfl⟩
  case round =>
    obtain ⟨rfl, rfl, rfl⟩ := hrel
    go_wp2
    go_ret
    exact ⟨rfl, rfl⟩

/- Byte, Flag, Num -/
theorem numIn_nil (w : World) : Calls Try.prog 47 #[.pointer none] w fun e w' => e = .returned (.int .i64 0) ∧ w = w' := by
  have hN := numberIn_nil 8 w
  go_enter Try.func47, Try.ntmps47
  go_wp2_with (go_at_call 58; refine hN.mono ?_; rintro e w1 ⟨rfl, rfl⟩)
  go_ret
  exact ⟨rfl, rfl⟩

theorem numIn_any (w : World) (i : Nat) (s : St) (Z : Nat → Prop) (h : In w i s Z) :
    Calls Try.prog 47 #[.pointer (some ⟨i, 0, none⟩)] w fun e w' => e = .returned (.int .i64 (IntKind.i64.wrap ((numberN s 8).1 : Int))) ∧ In w' i (numberN s 8).2 Z ∧ Keeps Z w w' := by
  have hN := numberIn_any 8 (by omega) w i s Z h
  generalize numberN s 8 = t at hN ⊢
  go_enter Try.func47, Try.ntmps47
  go_wp2_with (go_at_call 58; refine hN.mono ?_; rintro e w1 ⟨rfl, h1, h2⟩)
  go_ret
  exact ⟨by rw [IntWalk.i64_left]; rfl, h1, h2⟩

/- Count -/
theorem countIn_nil (most : Int) (hm : -9223372036854775808 ≤ most ∧ most ≤ 9223372036854775807) (w : World) : Calls Try.prog 66 #[.pointer none, .int .i64 most] w fun e w' => e = .returned (.int .i64 0) ∧ w = w' := by
  have hN := numberIn_nil 4 w
  by_cases h0 : most < 0
  · go_enter Try.func66, Try.ntmps66
    go_wp2_with (first
      | (go_at_call 58; refine hN.mono ?_; rintro e w1 ⟨rfl, rfl⟩)
      | (go_at_call 35; refine (left_nil _).mono ?_; rintro e w1 ⟨rfl, rfl⟩)
      | (go_at_call 57; refine (fail_nil _).mono ?_; rintro e w1 ⟨rfl, rfl⟩))
    go_ret
    exact ⟨rfl, rfl⟩
  · have e1 : IntKind.u64.wrap most = most := IntWalk.u64_in _ (by omega)
    go_enter Try.func66, Try.ntmps66
    go_wp2_with (first
      | (go_at_call 58; refine hN.mono ?_; rintro e w1 ⟨rfl, rfl⟩)
      | (go_at_call 35; refine (left_nil _).mono ?_; rintro e w1 ⟨rfl, rfl⟩)
      | (go_at_call 57; refine (fail_nil _).mono ?_; rintro e w1 ⟨rfl, rfl⟩))
    go_ret
    exact ⟨rfl, rfl⟩

set_option maxRecDepth 100000 in
set_option maxHeartbeats 6400000 in
theorem countIn_any (most : Int) (hm : -9223372036854775808 ≤ most ∧ most ≤ 9223372036854775807) (w : World) (i : Nat) (s : St) (Z : Nat → Prop) (h : In w i s Z) (hL : left s ≤ 140737488355328) :
    Calls Try.prog 66 #[.pointer (some ⟨i, 0, none⟩), .int .i64 most] w fun e w' => e = .returned (.int .i64 ((countN s most).1 : Int)) ∧ In w' i (countN s most).2 Z ∧ Keeps Z w w' := by
  have hN := numberIn_any 4 (by omega) w i s Z h
  have hlt : (numberN s 4).1 < 4294967296 := numberN_lt s 4
  have hle : left (numberN s 4).2 ≤ 140737488355328 := by
    unfold numberN takeN
    cases s with
    | none => simp [left]
    | some l =>
      simp only [left] at hL
      simp only
      split
      · simp [left]; omega
      · simp [left]
  unfold countN
  generalize numberN s 4 = t at hN hlt hle ⊢
  obtain ⟨v, s'⟩ := t
  simp only at hN hlt hle ⊢
  have vb : (v : Int) < 4294967296 := by omega
  have lb : (left s' : Int) ≤ 140737488355328 := by omega
  have e2 : IntKind.u64.wrap (left s' : Int) = (left s' : Int) := IntWalk.u64_in _ (by omega)
  have e3 : IntKind.i64.wrap (v : Int) = (v : Int) := IntWalk.i64_in _ (by omega)
  by_cases h0 : most < 0
  · rw [if_pos (.inl h0)]
    clear e2 e3
    go_enter Try.func66, Try.ntmps66
    go_wp2_with (first
      | (go_at_call 58; refine hN.mono ?_; rintro e w1 ⟨rfl, h1, k1⟩)
      | (go_at_call 35; refine (left_any _ _ _ _ h1).mono ?_; rintro e w2 ⟨rfl, rfl⟩)
      | (go_at_call 57; refine (fail_any _ _ _ _ h1).mono ?_; rintro e w2 ⟨rfl, h2, k2⟩))
    go_ret
    exact ⟨rfl, h2, k1.trans k2⟩
  · have e1 : IntKind.u64.wrap most = most := IntWalk.u64_in _ (by omega)
    by_cases c1 : most < (v : Int)
    · rw [if_pos (.inr (.inl c1))]
      clear e2 e3
      go_enter Try.func66, Try.ntmps66
      go_wp2_with (first
        | (go_at_call 58; refine hN.mono ?_; rintro e w1 ⟨rfl, h1, k1⟩)
        | (go_at_call 35; refine (left_any _ _ _ _ h1).mono ?_; rintro e w2 ⟨rfl, rfl⟩)
        | (go_at_call 57; refine (fail_any _ _ _ _ h1).mono ?_; rintro e w2 ⟨rfl, h2, k2⟩))
      go_ret
      exact ⟨rfl, h2, k1.trans k2⟩
    · by_cases c2 : left s' < v
      · have h2' : (left s' : Int) < (v : Int) := by omega
        rw [if_pos (.inr (.inr c2))]
        go_enter Try.func66, Try.ntmps66
        go_wp2_with (first
          | (go_at_call 58; refine hN.mono ?_; rintro e w1 ⟨rfl, h1, k1⟩)
          | (go_at_call 35; refine (left_any _ _ _ _ h1).mono ?_; rintro e w2 ⟨rfl, rfl⟩)
          | (go_at_call 57; refine (fail_any _ _ _ _ h1).mono ?_; rintro e w2 ⟨rfl, h2, k2⟩))
        go_ret
        exact ⟨rfl, h2, k1.trans k2⟩
      · have h2' : ¬ ((left s' : Int) < (v : Int)) := by omega
        rw [if_neg (by omega)]
        show Calls Try.prog 66 #[.pointer (some ⟨i, 0, none⟩), .int .i64 most] w fun e w' => e = .returned (.int .i64 (v : Int)) ∧ In w' i s' Z ∧ Keeps Z w w'
        have d0 : decide (most < 0) = false := decide_eq_false h0
        have d1 : decide (most < (v : Int)) = false := decide_eq_false c1
        have d2 : decide (left s' < v) = false := decide_eq_false c2
        clear h0 c1 c2 h2' hlt hle hL e3
        go_enter Try.func66, Try.ntmps66
        go_wp2_with (first
          | (go_at_call 58; refine hN.mono ?_; rintro e w1 ⟨rfl, h1, k1⟩)
          | (go_at_call 35; refine (left_any _ _ _ _ h1).mono ?_; rintro e w2 ⟨rfl, rfl⟩))
        go_ret
        exact ⟨rfl, h1, k1⟩

/- Text, Bytes -/
theorem bytesIn_nil (most : Int) (hm : -9223372036854775808 ≤ most ∧ most ≤ 9223372036854775807) (w : World) : Calls Try.prog 56 #[.pointer none, .int .i64 most] w fun e w' => ∃ A cap, e = .returned (.slice A 0 cap) ∧ Below w.heap.size w w' := by
  have hN := countIn_nil most hm w
  have hX : Calls Try.prog 65 #[.pointer none, .int .i64 0] w _ := next_nil 0 w
  have hC := clone_any none 0 0 [] w (Lies.nil w) (by simp)
  go_enter Try.func56, Try.ntmps56
  go_wp2_with (first
    | (go_at_call 66; refine hN.mono ?_; rintro e w1 ⟨rfl, rfl⟩)
    | (go_at_call 65; refine hX.mono ?_; rintro e w1 ⟨rfl, rfl⟩)
    | (go_at_call 42; refine hC.mono ?_; rintro e w1 ⟨v, rfl, ho, hb⟩))
  go_ret
  obtain ⟨A1, cap1, rfl, _⟩ := lies_of_owns ho
  exact ⟨A1, cap1, rfl, hb⟩

theorem bytesIn_any (most : Int) (hm : -9223372036854775808 ≤ most ∧ most ≤ 9223372036854775807) (w : World) (i : Nat) (s : St) (Z : Nat → Prop) (h : In w i s Z) (hL : left s ≤ 140737488355328) :
    Calls Try.prog 56 #[.pointer (some ⟨i, 0, none⟩), .int .i64 most] w fun e w' => ∃ A len cap, e = .returned (.slice A len cap) ∧ Lies w' A len cap (textN s most).1 ∧ Owns 5 w' w.heap.size (.slice A len cap) (textN s most).1 ∧ In w' i (textN s most).2 Z ∧ Keeps Z w w' := by
  have hlt : (textN s most).1.length ≤ 4294967296 := by
    have h1 : (numberN s 4).1 < 4294967296 := numberN_lt s 4
    have h2 : (countN s most).1 < 4294967296 := by unfold countN; split <;> first | exact h1 | simp
    have := takeN_len (countN s most).2 (countN s most).1
    unfold textN
    omega
  have hN := countIn_any most hm w i s Z h hL
  unfold textN at hlt ⊢
  generalize countN s most = t at hN hlt ⊢
  obtain ⟨n, s'⟩ := t
  simp only at hN hlt ⊢
  have hX := fun w h => next_any n w i s' Z h
  generalize takeN s' n = t at hX hlt ⊢
  obtain ⟨l, s''⟩ := t
  simp only at hX hlt ⊢
  go_enter Try.func56, Try.ntmps56
  go_wp2_with (first
    | (go_at_call 66; refine hN.mono ?_; rintro e w1 ⟨rfl, h1, k1⟩)
    | (go_at_call 65; refine (hX _ h1).mono ?_; rintro e w2 ⟨A, len, cap, rfl, hl, h2, k2⟩)
    | (go_at_call 42; refine (clone_any _ _ _ _ _ hl (by omega)).mono ?_; rintro e w3 ⟨v, rfl, ho, hb⟩))
  go_ret
  have hsz := Nat.le_trans k1.size k2.size
  obtain ⟨A1, cap1, rfl, hl1, _⟩ := lies_of_owns ho
  refine ⟨A1, _, cap1, rfl, hl1, ?_, h2.below hb (Nat.le_refl _), (k1.trans k2).trans (keeps_below hb (Nat.le_refl _))⟩
  refine ⟨ho.1, ?_⟩
  rcases ho.2 with ⟨e, h0⟩ | ⟨g, cap, cur, e, hb', r⟩
  · exact .inl ⟨e, h0⟩
  · exact .inr ⟨g, cap, cur, e, Nat.le_trans hsz hb', r⟩

end Go.Proofs.Ytipggjmndlaehaa
