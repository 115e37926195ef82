/- sum.More, sum.Of, each by its contract (cut out of L04's XSumB). -/
import Derived.Test.YtnkfdnehkihbeaaSumA
namespace Go.Proofs.Ytnkfdnehkihbeaa
open Go.RowKit
set_option linter.unusedVariables false
set_option linter.unusedSimpArgs false

theorem take_one (l : List UInt8) (k : Nat) (h : k < l.length) : l.take (k + 1) = l.take k ++ [l[k]] := by
  rw [List.take_succ_eq_append_getElem h]

theorem over_one (l : List UInt8) (k : Nat) (c : Nat) (h : k < l.length) : overN (l.take (k + 1)) c = bitsN 8 (overN (l.take k) c ^^^ (l[k]).toNat) := by
  rw [take_one l k h, overN_snoc]; rfl

set_option maxHeartbeats 1000000 in
theorem sumMore_any (s : Nat) (A : Option Addr) (len cap : Nat) (l : List UInt8) (w : World) (h : s < 4294967296) (hl : Lies w A len cap l) (hm : len ≤ maxLen) :
    Calls Try.prog 59 #[.int .u32 (s : Int), .slice A len cap] w fun e w' => e = .returned (.int .u32 ((moreN s l : Nat) : Int)) ∧ w = w' := by
  unfold maxLen at hm
  have hx := xorF' s h
  have hc0 := xor_lt s 4294967295 h (by decide)
  have HM : Hid (moreN s l = overN l (s ^^^ 4294967295) ^^^ 4294967295) := ⟨rfl⟩
  generalize hc : s ^^^ 4294967295 = c at hx hc0 HM
  generalize moreN s l = m at HM ⊢
  clear hc
  go_enter Try.func59, Try.ntmps59
  go_wp2
  clear hx
  go_loop [5, 12] (fun r i => ∃ k : Nat, k ≤ len ∧ i = .int .i64 (k : Int) ∧ r = .int .u32 ((overN (l.take k) c : Nat) : Int)) (fun _ i => len - (intOf i).toNat)
  case atStart => exact ⟨0, by omega, rfl, rfl⟩
  case round =>
    obtain ⟨k, hk, rfl, rfl⟩ := hrel
    have hr := overN_lt (l.take k) c hc0
    have hll := hl.1
    by_cases hlt : k < len
    · have HS := over_one l k c (by omega)
      obtain ⟨g, off, rfl, _, hcell⟩ := hl.cell k (by omega)
      have hb := (l[k]).toNat_lt
      generalize l[k] = b at *
      have hx := u32_xor_nat (overN (l.take k) c) b.toNat hr (by omega)
      have HS2 : Hid (overN (l.take (k + 1)) c = bitsN 8 (overN (l.take k) c ^^^ b.toNat)) := ⟨HS⟩
      have hr2 := xor_lt _ b.toNat hr (by omega)
      have hb0 : (b.toNat : Int) % 4294967296 = (b.toNat : Int) := by omega
      have hb1 : (b.toNat : Int) ≤ 255 := by omega
      clear HS hll
      generalize overN (l.take k) c = q at *
      go_wp2_with (go_at_call 68; refine (halved_any _ _ hr2).mono ?_; rintro e w2 ⟨rfl, rfl⟩)
      go_round
      case rel => exact ⟨k + 1, by omega, by go_num, by rw [HS2.out]⟩
      case measure => simp [intOf]; omega
    · obtain rfl : k = len := by omega
      have hq : Hid (overN (l.take k) c = overN l c) := ⟨by rw [List.take_of_length_le (by omega)]⟩
      have hx := xorF' _ hr
      clear hll
      go_wp2
      go_ret
      exact ⟨by rw [HM.out, hq.out]; rfl, rfl⟩

theorem sumOf_any (A : Option Addr) (len cap : Nat) (l : List UInt8) (w : World) (hl : Lies w A len cap l) (hm : len ≤ maxLen) :
    Calls Try.prog 60 #[.slice A len cap] w fun e w' => e = .returned (.int .u32 ((moreN 0 l : Nat) : Int)) ∧ w = w' := by
  have hC := fun w hl => sumMore_any 0 A len cap l w (by decide) hl hm
  generalize moreN 0 l = m at hC ⊢
  go_enter Try.func60, Try.ntmps60
  go_wp2_with (go_at_call 59; refine (hC _ hl).mono ?_; rintro e w2 ⟨rfl, rfl⟩)
  go_ret
  exact ⟨rfl, rfl⟩

end Go.Proofs.Ytnkfdnehkihbeaa
