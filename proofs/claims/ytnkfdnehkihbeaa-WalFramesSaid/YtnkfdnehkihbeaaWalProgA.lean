/- word, number, seal of the program, each by its contract. -/
import Derived.Test.YtnkfdnehkihbeaaWalSumP
import Derived.Test.YtnkfdnehkihbeaaWalPure
import Derived.Test.YtnkfdnehkihbeaaBytArgs
namespace Go.Proofs.Ytnkfdnehkihbeaa
open Go.RowKit
set_option linter.unusedVariables false
set_option linter.unusedSimpArgs false

theorem lies_row (w : World) (l : List UInt8) (C : Array Value) (T : TypeId) (fr : Nat × Nat) (n : Nat) (hn : l.length = n) (h : ∀ j (hj : j < l.length), C[j]? = some (u8 l[j])) : Lies (w.alloc (.cells C T fr)) (some ⟨w.heap.size, 0, none⟩) n n l := by
  refine ⟨hn, Nat.le_refl _, (fun h => by cases h), fun _ => ⟨w.heap.size, 0, rfl, by simp, fun j hj => ?_⟩⟩
  rw [cell_of_row _ _ _ _ _ _ (heap_alloc_new w _), Nat.zero_add]
  exact h j hj

theorem or_byte32 (x : Nat) (b : UInt8) (hx : x < 16777216) : bits BinOp.or IntKind.u32 ((x : Int) * 256) ((b.toNat : Int) % 4294967296) = ((x * 256 + b.toNat : Nat) : Int) := by
  have hb : b.toNat < 256 := b.toNat_lt
  rw [show (b.toNat : Int) % 4294967296 = (b.toNat : Int) by omega]
  rw [bits_join .u32 32 (by decide) (fun m h0 h1 => IntWalk.u32_in _ (by omega)) 8 _ _ (by omega) (by omega) (by omega) (by omega) (by omega) (by omega)]
  omega

theorem number_any (A : Option Addr) (len cap : Nat) (l : List UInt8) (w : World) (hl : Lies w A len cap l) (h4 : len ≤ 4) :
    Calls Try.prog 44 #[.slice A len cap] w fun e w' => e = .returned (.int .u32 ((num l : Nat) : Int)) ∧ w = w' := by
  go_enter Try.func44, Try.ntmps44
  go_wp2
  go_loop [3, 8] (fun r i => ∃ k : Nat, k ≤ len ∧ i = .int .i64 (k : Int) ∧ r = .int .u32 ((num (l.take k) : Nat) : Int)) (fun _ i => len - (intOf i).toNat)
  case atStart => exact ⟨0, by omega, rfl, by simp [num]⟩
  case round =>
    obtain ⟨k, hk, rfl, rfl⟩ := hrel
    have hll := hl.1
    by_cases hlt : k < len
    · obtain ⟨g, off, rfl, _, hcell⟩ := hl.cell k (by omega)
      have hx : num (l.take k) < 16777216 := by
        have h1 := num_lt (l.take k)
        have h2 : 256 ^ (l.take k).length ≤ 256 ^ 3 := Nat.pow_le_pow_right (by omega) (by simp; omega)
        have h3 : (256 : Nat) ^ 3 = 16777216 := by decide
        omega
      have hor := or_byte32 (num (l.take k)) l[k] hx
      have hnx : num (l.take k) * 256 + l[k].toNat = num (l.take (k + 1)) := by rw [take_one l k (by omega), num_snoc]
      rw [hnx] at hor
      clear hnx
      generalize l[k] = b at *
      obtain ⟨y, hy⟩ : ∃ y, Hid (num (l.take (k + 1)) = y) := ⟨_, ⟨rfl⟩⟩
      rw [hy.out] at hor
      generalize num (l.take k) = x at *
      go_wp2
      go_round
      case rel => exact ⟨k + 1, by omega, by go_num, by rw [hy.out]⟩
      case measure => simp [intOf]; omega
    · obtain rfl : k = len := by omega
      have hq : Hid (num (l.take k) = num l) := ⟨by rw [List.take_of_length_le (by omega)]⟩
      go_wp2
      go_ret
      exact ⟨by first | rfl | (rw [← hq.out]; rfl), rfl⟩

theorem seal_any (A B : Option Addr) (la ca lb cb : Nat) (l r : List UInt8) (w : World) (hl : Lies w A la ca l) (hr : Lies w B lb cb r) (h1 : la ≤ maxLen) (h2 : lb ≤ maxLen) :
    Calls Try.prog 43 #[.slice A la ca, .slice B lb cb] w fun e w' => e = .returned (.int .u32 ((moreN (moreN 0 l) r : Nat) : Int)) ∧ w = w' := by
  have hO := sumOf_any A la ca l w hl h1
  have hlt := moreN_lt 0 l (by omega)
  generalize moreN 0 l = q at *
  have hM := sumMore_any q B lb cb r w hlt hr h2
  generalize moreN q r = q2 at *
  go_enter Try.func43, Try.ntmps43
  go_wp2_with (first
    | (go_at_call 60; refine hO.mono ?_; rintro e w1 ⟨rfl, rfl⟩)
    | (go_at_call 59; refine hM.mono ?_; rintro e w1 ⟨rfl, rfl⟩))
  go_ret
  exact ⟨rfl, rfl⟩

theorem word_any (v : Nat) (hv : v < 4294967296) (w : World) :
    Calls Try.prog 42 #[.int .u32 (v : Int)] w fun e w' => ∃ g, e = .returned (.slice (some ⟨g, 0, none⟩) 4 4) ∧ Lies w' (some ⟨g, 0, none⟩) 4 4 (wide v 4) ∧ w.heap.size ≤ g ∧ Below w.heap.size w w' := by
  go_enter Try.func42, Try.ntmps42
  go_wp2
  go_ret
  refine ⟨w.heap.size, rfl, lies_row w (wide v 4) _ _ _ 4 (by simp) (fun j hj => ?_), Nat.le_refl _, (Below.refl _ _).alloc (Nat.le_refl _) _⟩
  have hj4 : j < 4 := by simpa using hj
  have e : wide v 4 = [UInt8.ofNat (v / 16777216), UInt8.ofNat (v / 65536), UInt8.ofNat (v / 256), UInt8.ofNat v] := by simp [wide]
  have c : ∀ z : Nat, ((UInt8.ofNat z).toNat : Int) = (z : Int) % 256 := fun z => by simp
  have d : (v : Int) / 16777216 % 256 = (v : Int) / 16777216 := by omega
  have c0 := c (v / 16777216)
  have c1 := c (v / 65536)
  have c2 := c (v / 256)
  have c3 := c v
  simp only [e]
  match j, hj4 with
  | 0, _ => simp only [List.getElem_cons_zero, u8, c0]; rw [← d]; rfl
  | 1, _ => simp only [List.getElem_cons_succ, List.getElem_cons_zero, u8, c1]; rfl
  | 2, _ => simp only [List.getElem_cons_succ, List.getElem_cons_zero, u8, c2]; rfl
  | 3, _ => simp only [List.getElem_cons_succ, List.getElem_cons_zero, u8, c3]; rfl

end Go.Proofs.Ytnkfdnehkihbeaa
