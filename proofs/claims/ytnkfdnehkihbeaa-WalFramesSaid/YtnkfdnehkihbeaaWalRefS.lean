/- The document's sum, by its contract (cut out of L04's XSumA and XSumB). -/
import Derived.Test.YtnkfdnehkihbeaaBytArgs
import Derived.Test.YtnkfdnehkihbeaaWalSumP
import Derived.Test.YtnkfdnehkihbeaaRows
import Derived.WalkSpells
import Derived.WalkLawsBesides
import Derived.KernelRfl
import Derived.IntWalk
import Derived.Laws.BitsAllLaws
import Derived.Outline
namespace Go.Proofs.Ytnkfdnehkihbeaa
open Go.RowKit
set_option linter.unusedVariables false
set_option linter.unusedSimpArgs false

set_option maxHeartbeats 2000000 in
theorem moreR_any (s : Nat) (A : Option Addr) (len cap : Nat) (l : List UInt8) (w : World) (h : s < 4294967296) (hl : Lies w A len cap l) (hm : len ≤ maxLen) :
    Calls Try.prog 27 #[.int .u32 (s : Int), .slice A len cap] w fun e w' => e = .returned (.int .u32 ((moreN s l : Nat) : Int)) ∧ w = w' := by
  unfold maxLen at hm
  have hx := xorF s h
  have hc0 := xor_lt s 4294967295 h (by decide)
  have HM : Hid (moreN s l = overN l (s ^^^ 4294967295) ^^^ 4294967295) := ⟨rfl⟩
  generalize hc : s ^^^ 4294967295 = c at hx hc0 HM
  generalize moreN s l = m at HM ⊢
  clear hc
  go_enter Try.func27, Try.ntmps27
  go_wp2
  clear hx
  go_loop [5, 12] (fun r i => ∃ k : Nat, k ≤ len ∧ i = .int .i64 (k : Int) ∧ r = .int .u32 ((overN (l.take k) c : Nat) : Int)) (fun _ i => len - (intOf i).toNat)
  case atStart => exact ⟨0, by omega, rfl, rfl⟩
  case round =>
    obtain ⟨k, hk, rfl, rfl⟩ := hrel
    have hr := overN_lt (l.take k) c hc0
    have hll := hl.1
    by_cases hlt : k < len
    · have HS := over_one l k c (by omega)
      obtain ⟨g, off, rfl, _, hcell⟩ := hl.cell k (by omega)
      have hb := (l[k]).toNat_lt
      generalize l[k] = b at *
      have hx := u32_xor_nat (overN (l.take k) c) b.toNat hr (by omega)
      have HS2 : Hid (overN (l.take (k + 1)) c = bitsN 8 (overN (l.take k) c ^^^ b.toNat)) := ⟨HS⟩
      have hr2 := xor_lt _ b.toNat hr (by omega)
      have hb0 : (b.toNat : Int) % 4294967296 = (b.toNat : Int) := by omega
      have hb1 : (b.toNat : Int) ≤ 255 := by omega
      clear HS hll
      generalize overN (l.take k) c = q at *
      go_wp2
      clear hx
      generalize q ^^^ b.toNat = x at *
      go_loop [5, 22] (fun r i => ∃ j : Nat, j ≤ 8 ∧ i = .int .i64 (j : Int) ∧ r = .int .u32 ((bitsN j x : Nat) : Int)) (fun _ i => 8 - (intOf i).toNat)
      case atStart => exact ⟨0, by omega, rfl, rfl⟩
      case round =>
        obtain ⟨j, hj, rfl, rfl⟩ := hrel
        have hy := bitsN_lt j x hr2
        have HJ : Hid (bitsN (j + 1) x = bit1 (bitsN j x)) := ⟨rfl⟩
        by_cases hjl : j < 8
        · generalize hq : bitsN j x = y at *
          clear hq
          have e2 : ((y / 2 : Nat) : Int) = (y : Int) / 2 := by omega
          by_cases hm1 : y % 2 = 1
          · have hx := xorP (y / 2) (by omega)
            rw [e2] at hx
            have ha : (y : Int) % 2 = 1 := by omega
            go_wp2
            go_round
            case rel => exact ⟨j + 1, by omega, by go_num, by rw [HJ.out, bit1, if_pos hm1]⟩
            case measure => simp [intOf]; omega
          · have ha : (y : Int) % 2 = 0 := by omega
            go_wp2
            go_round
            case rel => exact ⟨j + 1, by omega, by go_num, by rw [HJ.out, bit1, if_neg hm1, e2]⟩
            case measure => simp [intOf]; omega
        · obtain rfl : j = 8 := by omega
          go_wp2
          go_round
          case rel => exact ⟨k + 1, by omega, by go_num, by rw [HS2.out]⟩
          case measure => simp [intOf]; omega
    · obtain rfl : k = len := by omega
      have hq : Hid (overN (l.take k) c = overN l c) := ⟨by rw [List.take_of_length_le (by omega)]⟩
      have hx := xorF _ hr
      clear hll
      go_wp2
      go_ret
      exact ⟨by rw [HM.out, hq.out]; rfl, rfl⟩

theorem ofR_any (A : Option Addr) (len cap : Nat) (l : List UInt8) (w : World) (hl : Lies w A len cap l) (hm : len ≤ maxLen) :
    Calls Try.prog 28 #[.slice A len cap] w fun e w' => e = .returned (.int .u32 ((moreN 0 l : Nat) : Int)) ∧ w = w' := by
  have hC := fun w hl => moreR_any 0 A len cap l w (by decide) hl hm
  generalize moreN 0 l = m at hC ⊢
  go_enter Try.func28, Try.ntmps28
  go_wp2_with (go_at_call 27; refine (hC _ hl).mono ?_; rintro e w2 ⟨rfl, rfl⟩)
  go_ret
  exact ⟨rfl, rfl⟩

end Go.Proofs.Ytnkfdnehkihbeaa
