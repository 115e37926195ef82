/- The document's bytes of a number, by its contract (cut out of L03's XOctRefA). -/
import Derived.Test.YtnkfdnehkihbeaaBytArgs
import Derived.Test.YtnkfdnehkihbeaaClone
import Derived.Test.YtnkfdnehkihbeaaWalPure
import Derived.Test.YtnkfdnehkihbeaaRows
import Derived.WalkSpells
import Derived.WalkLawsBesides
import Derived.KernelRfl
import Derived.BigQuiet
import Derived.IntWalk
import Derived.Laws.ResultCell
import Derived.Deep.LoopGhost
namespace Go.Proofs.Ytnkfdnehkihbeaa
open Go.RowKit
set_option linter.unusedVariables false
set_option linter.unusedSimpArgs false

theorem set_wide (v n j : Nat) (hj : j < n) : (List.replicate (n - j) (0 : UInt8) ++ wide v j).set (n - 1 - j) (UInt8.ofNat (v / 256 ^ j)) = List.replicate (n - (j + 1)) 0 ++ wide v (j + 1) := by
  have e : n - j = (n - 1 - j) + 1 := by omega
  have e2 : n - (j + 1) = n - 1 - j := by omega
  rw [e, e2, List.replicate_succ', List.append_assoc, List.set_append_right _ _ (by simp)]
  simp [wide]

theorem Owns.putAt {T : TypeId} {w : World} {base g n cap : Nat} {l : List UInt8} (h : Owns T w base (.slice (some ⟨g, 0, none⟩) n cap) l) (hn : l.length = n) (j : Nat) (b : UInt8) :
    Owns T (w.setCell ⟨g, j, none⟩ (u8 b)) base (.slice (some ⟨g, 0, none⟩) n cap) (l.set j b) ∧ w.grownBy (w.setCell ⟨g, j, none⟩ (u8 b)) (some g) := by
  subst hn
  have := World.ownsRow.stored h j (u8 b)
  refine ⟨?_, this.2⟩
  unfold Owns
  rw [List.length_set]
  have e : cellsOf (l.set j b) = (cellsOf l).set j (u8 b) := by simp [cellsOf, List.map_set]
  rw [e]
  exact this.1

theorem quo_256 (x : Nat) (hv : x < 18446744073709551616) : IntKind.u64.wrap ((x : Int).tdiv 256) = (x : Int) / 256 := IntWalk.u64_quo _ _ (by omega)

set_option maxHeartbeats 6400000 in
theorem wideR_any (v : Nat) (hv : v < 18446744073709551616) (n : Nat) (hn : n ≤ 8) (w : World) :
    Calls Try.prog 26 #[.int .u64 (v : Int), .int .i64 (n : Int)] w fun e w' => ∃ A cap, e = .returned (.slice A n cap) ∧ Owns 5 w' w.heap.size (.slice A n cap) (wide v n) ∧ Below w.heap.size w w' := by
  obtain ⟨i0, hi0, hz0, hz1, hz2⟩ := info_parts info_u8
  have nb : (n : Int) ≤ 8 := by omega
  have e1 : IntKind.i64.wrap ((n : Int) - 1) = (n : Int) - 1 := IntWalk.i64_in _ (by omega)
  go_enter Try.func26, Try.ntmps26
  go_wp2_with (at_make; refine wpList_make_full _ rfl _ _ 22 rfl w.heap.size 5 i0 _ 1 Try.underlying22 hi0 hz0 hz1 _ _ _ _ n rfl rfl rfl rfl (by rw [hz2]; omega) (by unfold maxLen; omega) (Nat.le_refl _) ?_)
  intro w1 ho hg
  have hb1 := (Below.refl w.heap.size w).grown hg (Nat.le_refl _) (fun k e => by cases e)
  have ho1 : Owns 5 w1 w.heap.size (.slice (some ⟨w.heap.size, 0, none⟩) n n) (List.replicate n 0) := by
    unfold Owns
    have e : cellsOf (List.replicate n 0) = (madeCells #[.int .u8 0] n).toList := by rw [toList_madeCells_one]; simp [cellsOf]
    rw [e, List.length_replicate]
    simpa using ho
  clear ho hg
  go_wp2
  go_loopg [0, 6, 10] n (fun g x k z wr => ∃ j y : Nat, x = .int .u64 (y : Int) ∧ Hid (v / 256 ^ j = y) ∧ z = .int .i64 (j : Int) ∧ j + g = n ∧ Owns 5 wr w.heap.size (.slice (some ⟨w.heap.size, 0, none⟩) n n) (List.replicate (n - j) 0 ++ wide v j) ∧ Below w.heap.size w wr)
  case atStart => exact ⟨0, v, rfl, ⟨by simp⟩, rfl, by omega, by simpa [wide] using ho1, hb1⟩
  case round =>
    obtain ⟨j, y, rfl, hy, rfl, hj, ho, hb⟩ := hrel
    clear ho1 hb1
    by_cases hlt : j < n
    · have hlt' : (j : Int) < (n : Int) := by omega
      have hlen : (List.replicate (n - j) (0 : UInt8) ++ wide v j).length = n := by simp; omega
      have hcell := World.ownsRow.cellAt (h := by have := ho; unfold Owns at this; rw [hlen] at this; exact this) (n - 1 - j) (by omega)
      have hfr := World.ownsRow.frozenAt (h := by have := ho; unfold Owns at this; rw [hlen] at this; exact this) (n - 1 - j)
      have hset := ho.putAt hlen (n - 1 - j) (UInt8.ofNat (v / 256 ^ j))
      rw [set_wide v n j hlt, hy.out] at hset
      have hyv : y < 18446744073709551616 := Nat.lt_of_le_of_lt (hy.out ▸ Nat.div_le_self _ _) hv
      have hq := quo_256 y hyv
      have hy1 : Hid (v / 256 ^ (j + 1) = y / 256) := ⟨by rw [Nat.pow_succ, ← Nat.div_div_eq_div_mul, hy.out]⟩
      have hby : Hid ((y : Int) % 256 = ((UInt8.ofNat y).toNat : Int)) := ⟨by simp⟩
      have e2 : IntKind.i64.wrap ((n : Int) - 1 - (j : Int)) = ((n - 1 - j : Nat) : Int) := by rw [IntWalk.i64_in _ (by omega)]; omega
      have hc2 : (cellsOf (List.replicate (n - j) (0 : UInt8) ++ wide v j))[n - 1 - j]? = some (u8 ((List.replicate (n - j) (0 : UInt8) ++ wide v j)[n - 1 - j]'(by rw [hlen]; omega))) := by
        rw [List.getElem?_map, List.getElem?_eq_getElem (by rw [hlen]; omega)]
        rfl
      rw [hc2] at hcell
      generalize (List.replicate (n - j) (0 : UInt8) ++ wide v j)[n - 1 - j]'(by rw [hlen]; omega) = b at hcell
      clear hc2 ho
      go_wp2
      go_roundg (gk - 1)
      case measure => omega
      case rel =>
        refine ⟨j + 1, y / 256, by simp, hy1, by go_num, by omega, ?_, ?_⟩
        · rw [hby.out]; exact hset.1
        · rw [hby.out]; exact hb.grown hset.2 hb.size (fun k e => by injection e with e; omega)
    · obtain rfl : j = n := by omega
      have hdec : decide ((j : Int) < (j : Int)) = false := decide_eq_false (by omega)
      go_wp2
      go_ret
      exact ⟨_, _, rfl, by simpa using ho, hb⟩

end Go.Proofs.Ytnkfdnehkihbeaa
