/- halved, sum.More, sum.Of, the reference's More and Of, each by its contract. -/
import Derived.Test.YtnkfdnehkihbeaaByt
import Derived.Test.YtnkfdnehkihbeaaWalPure
import Derived.Test.YtnkfdnehkihbeaaRows
import Derived.WalkSpells
import Derived.WalkLawsBesides
import Derived.KernelRfl
import Derived.IntWalk
import Derived.Laws.BitsAllLaws
import Derived.Outline
namespace Go.Proofs.Ytnkfdnehkihbeaa
open Go.RowKit
set_option linter.unusedVariables false
set_option linter.unusedSimpArgs false

theorem and1 (r : Nat) (h : r < 4294967296) : bits .and .u32 (r : Int) 1 = ((r % 2 : Nat) : Int) := by
  have := u32_and_nat r 1 h (by decide)
  rw [nat_mask1] at this
  exact this

theorem xorP (r : Nat) (h : r < 4294967296) : bits .xor .u32 (r : Int) 3988292384 = ((r ^^^ 3988292384 : Nat) : Int) := u32_xor_nat r 3988292384 h (by decide)

theorem xorF (r : Nat) (h : r < 4294967296) : bits .xor .u32 (r : Int) 4294967295 = ((r ^^^ 4294967295 : Nat) : Int) := u32_xor_nat r 4294967295 h (by decide)

theorem xorF' (r : Nat) (h : r < 4294967296) : bits .xor .u32 IntKind.u32.max (r : Int) = ((r ^^^ 4294967295 : Nat) : Int) := by
  rw [Nat.xor_comm]; exact u32_xor_nat 4294967295 r (by decide) h

set_option maxHeartbeats 1000000 in
theorem halved_any (c : Nat) (w : World) (h : c < 4294967296) : Calls Try.prog 68 #[.int .u32 (c : Int)] w fun e w' => e = .returned (.int .u32 ((bitsN 8 c : Nat) : Int)) ∧ w = w' := by
  go_enter Try.func68, Try.ntmps68
  go_wp2
  go_loop [0, 4] (fun r i => ∃ k : Nat, k ≤ 8 ∧ i = .int .i64 (k : Int) ∧ r = .int .u32 ((bitsN k c : Nat) : Int)) (fun _ i => 8 - (intOf i).toNat)
  case atStart => exact ⟨0, by omega, rfl, rfl⟩
  case round =>
    obtain ⟨k, hk, rfl, rfl⟩ := hrel
    have hr := bitsN_lt k c h
    have hs : bitsN (k + 1) c = bit1 (bitsN k c) := rfl
    have HS : Hid (bitsN (k + 1) c = bit1 (bitsN k c)) := ⟨hs⟩
    clear hs
    by_cases hlt : k < 8
    · have ha := and1 _ hr
      generalize hq : bitsN k c = q at *
      clear hq
      by_cases hm : q % 2 = 1
      · have hx := xorP (q / 2) (by omega)
        rw [hm] at ha
        have e2 : ((q / 2 : Nat) : Int) = (q : Int) / 2 := by omega
        rw [e2] at hx
        go_wp2
        go_round
        case rel => exact ⟨k + 1, by omega, by go_num, by rw [HS.out, bit1, if_pos hm]⟩
        case measure => simp [intOf]; omega
      · have hm0 : q % 2 = 0 := by omega
        rw [hm0] at ha
        have e2 : ((q / 2 : Nat) : Int) = (q : Int) / 2 := by omega
        go_wp2
        go_round
        case rel => exact ⟨k + 1, by omega, by go_num, by rw [HS.out, bit1, if_neg hm, e2]⟩
        case measure => simp [intOf]; omega
    · obtain rfl : k = 8 := by omega
      go_wp2
      go_ret
      exact ⟨rfl, rfl⟩

end Go.Proofs.Ytnkfdnehkihbeaa
