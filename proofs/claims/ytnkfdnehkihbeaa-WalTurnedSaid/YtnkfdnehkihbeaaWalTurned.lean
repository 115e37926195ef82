/- WalTurned's walk. -/
import Derived.Test.YtnkfdnehkihbeaaWalAwake
import Derived.Test.YtnkfdnehkihbeaaWalTurn
import Derived.Test.YtnkfdnehkihbeaaSumArgs
import Derived.BigQuiet
import Derived.Deep.LoopGhost
import Derived.StillTailTactics
namespace Go.Proofs.Ytnkfdnehkihbeaa.walTurned
open Go.ChangeShapes Go.WideShapes Go.ChangeAt Go.RowKit Go.Proofs.Ytnkfdnehkihbeaa
set_option linter.unusedVariables false
set_option linter.unusedSimpArgs false

theorem xor2 (x y : UInt8) : bits .xor .u8 (x.toNat : Int) (y.toNat : Int) = ((x ^^^ y).toNat : Int) := by
  have hx := x.toNat_lt
  have hy := y.toNat_lt
  rw [u8_xor_nat _ _ (by omega) (by omega), ← UInt8.toNat_xor]

theorem four_cell (a b c e : UInt8) (j : Nat) (hj : j < 4) : (#[u8 a, u8 b, u8 c, u8 e] : Array Value)[j]? = some (u8 ([a, b, c, e][j]'hj)) := by
  match j, hj with
  | 0, _ | 1, _ | 2, _ | 3, _ => rfl

theorem over4_laid (l : List UInt8) (k : Nat) (a b c e : UInt8) : over4 l [a, b, c, e] k 4 = laid l k a b c e := by
  unfold over4 laid turnAt
  rw [List.append_assoc]
  congr 2
  apply List.take_of_length_le
  rw [List.length_zipWith]
  simp
  omega

set_option maxRecDepth 100000 in
set_option maxHeartbeats 3200000 in
theorem walk_no (A : Option Addr) (len cap : Nat) (a b c e : UInt8) (at_ : Int) (w : World) (hm : len ≤ maxLen) (hno : 3000 < len ∨ (a = 0 ∧ b = 0 ∧ c = 0 ∧ e = 0)) :
    Calls Try.prog 5 #[.slice A len cap, .agg #[u8 a, u8 b, u8 c, u8 e], .int .u16 at_] w fun e w' => e = .returned (.bool true) ∧ Below w.heap.size w w' := by
  have hb0 : Below w.heap.size w (w.alloc (.cells #[u8 a, u8 b, u8 c, u8 e] 38)) := (Below.refl _ _).alloc (Nat.le_refl _) _
  by_cases hs2 : 3000 < len
  · have hs2' : ((3000 : Int) < (len : Int)) := by omega
    go_enter Try.func5, Try.ntmps5
    go_wp2_with fail
    refine (awake_any _).mono ?_
    rintro e w1 ⟨rfl, hb1⟩
    go_wp2_with fail
    refine (awake_any _).mono ?_
    rintro e w2 ⟨rfl, hb2⟩
    go_wp2
    go_ret
    exact ⟨rfl, hb0.trans ((hb1.trans (hb2.mono hb1.size)).mono hb0.size)⟩
  · have hs2' : ¬ ((3000 : Int) < (len : Int)) := by omega
    obtain ⟨rfl, rfl, rfl, rfl⟩ : a = 0 ∧ b = 0 ∧ c = 0 ∧ e = 0 := by
      rcases hno with h | h
      · omega
      · exact h
    have hq := eq_four 0 0 0 0
    go_enter Try.func5, Try.ntmps5
    go_wp2_with fail
    refine (awake_any _).mono ?_
    rintro e w1 ⟨rfl, hb1⟩
    have c0 := (hb1.cell (p := ⟨w.heap.size, 0, none⟩) (by simp)).trans (cell_of_row _ _ 0 _ _ _ (heap_alloc_new w _))
    have c1 := (hb1.cell (p := ⟨w.heap.size, 1, none⟩) (by simp)).trans (cell_of_row _ _ 1 _ _ _ (heap_alloc_new w _))
    have c2 := (hb1.cell (p := ⟨w.heap.size, 2, none⟩) (by simp)).trans (cell_of_row _ _ 2 _ _ _ (heap_alloc_new w _))
    have c3 := (hb1.cell (p := ⟨w.heap.size, 3, none⟩) (by simp)).trans (cell_of_row _ _ 3 _ _ _ (heap_alloc_new w _))
    go_wp2_with fail
    refine (awake_any _).mono ?_
    rintro e w2 ⟨rfl, hb2⟩
    go_wp2
    go_ret
    exact ⟨rfl, hb0.trans ((hb1.trans (hb2.mono hb1.size)).mono hb0.size)⟩

set_option maxRecDepth 100000 in
set_option maxHeartbeats 3200000 in
theorem walk_yes (A : Option Addr) (len cap : Nat) (l : List UInt8) (a b c e : UInt8) (m : Nat) (w : World) (h : Lies w A len cap l) (hm : cap ≤ maxLen) (hs2 : len ≤ 3000) (hm16 : m ≤ 65535) (hne : ¬ (a = 0 ∧ b = 0 ∧ c = 0 ∧ e = 0)) :
    Calls Try.prog 5 #[.slice A len cap, .agg #[u8 a, u8 b, u8 c, u8 e], .int .u16 (m : Int)] w fun e w' => e = .returned (.bool true) ∧ Below w.heap.size w w' := by
  have e1 := h.1
  have hb0 : Below w.heap.size w (w.alloc (.cells #[u8 a, u8 b, u8 c, u8 e] 38)) := (Below.refl _ _).alloc (Nat.le_refl _) _
  have hq := eq_four a b c e
  rw [decide_eq_false hne] at hq
  have hs2' : ¬ ((3000 : Int) < (len : Int)) := by omega
  have hbl : [a, b, c, e].length = 4 := rfl
  go_enter Try.func5, Try.ntmps5
  go_wp2_with fail
  refine (awake_any _).mono ?_
  rintro e w1 ⟨rfl, hb1⟩
  have c0 := (hb1.cell (p := ⟨w.heap.size, 0, none⟩) (by simp)).trans (cell_of_row _ _ 0 _ _ _ (heap_alloc_new w _))
  have c1 := (hb1.cell (p := ⟨w.heap.size, 1, none⟩) (by simp)).trans (cell_of_row _ _ 1 _ _ _ (heap_alloc_new w _))
  have c2 := (hb1.cell (p := ⟨w.heap.size, 2, none⟩) (by simp)).trans (cell_of_row _ _ 2 _ _ _ (heap_alloc_new w _))
  have c3 := (hb1.cell (p := ⟨w.heap.size, 3, none⟩) (by simp)).trans (cell_of_row _ _ 3 _ _ _ (heap_alloc_new w _))
  have hw1 : w.heap.size < w1.heap.size := by have := hb1.size; simp at this; omega
  have hbw1 := hb0.trans (hb1.mono hb0.size)
  have f1 := h.below hbw1 (Nat.le_refl _)
  have hrow1 : w1.heap[w.heap.size]? = some (.cells #[Go.Proofs.Ytnkfdnehkihbeaa.u8 a, Go.Proofs.Ytnkfdnehkihbeaa.u8 b, Go.Proofs.Ytnkfdnehkihbeaa.u8 c, Go.Proofs.Ytnkfdnehkihbeaa.u8 e] 38 (0, 0)) := (hb1.block _ (by simp)).trans (heap_alloc_new w _)
  go_wp2_with fail
  refine (frame_any A len cap l w1 f1 hm (by omega)).mono ?_
  rintro e w2 ⟨A4, cap4, rfl, ho2, hb2⟩
  have hrow2 := (hb2.block _ hw1).trans hrow1
  have hbw2 := hbw1.trans (hb2.mono (by omega))
  have hfl := frameL_length l
  rw [e1] at hfl ho2
  obtain ⟨n, hn⟩ := Int.eq_ofNat_of_zero_le (show 0 ≤ (m : Int) % ((len : Int) + 1) from Int.emod_nonneg _ (by omega))
  have hnl : n < len + 1 := by have := Int.emod_lt_of_pos (m : Int) (show (0 : Int) < (len : Int) + 1 by omega); omega
  rw [e1]
  clear f1 hrow1 hb1 hb2 c0 c1 c2 c3 hq hbw1 hm h
  go_wp2
  have hkw : wrap64 (4 + (m : Int) % ((len : Int) + 8 - 7)) = ((4 + n : Nat) : Int) := by
    have e : (4 : Int) + (m : Int) % ((len : Int) + 8 - 7) = ((4 + n : Nat) : Int) := by
      rw [show (len : Int) + 8 - 7 = (len : Int) + 1 by omega, hn]
      omega
    rw [e]
    exact IntWalk.wrap64_in _ (by omega)
  rw [hkw]
  have hk4 : 4 ≤ 4 + n := by omega
  have hk8 : 4 + n + 4 ≤ (frameL l).length := by omega
  clear hkw hn hnl
  generalize 4 + n = k at *
  have hscan : (k = 4 ∨ 8 ≤ k) → scanL (over4 (frameL l) [a, b, c, e] k 4) = ([], 0) := fun hkk => by
    rw [over4_laid]
    exact scanL_none (laid_none l (by omega) k hkk (by omega) a b c e hne)
  have hoM : Owns 5 w2 w1.heap.size (.slice A4 (len + 8) cap4) (over4 (frameL l) [a, b, c, e] k 0) := by rw [over4_zero]; exact ho2
  clear ho2 hne
  generalize hbs : [a, b, c, e] = bs at hoM hbl hscan
  generalize w1.heap.size = n1 at hoM hw1 ⊢
  generalize frameL l = fl at hoM hscan hfl hk8
  go_loopg [44] 4 (fun g x wr => ∃ j : Nat, x = .int .i64 (j : Int) ∧ j + g = 4 ∧ Owns 5 wr n1 (.slice A4 (len + 8) cap4) (over4 fl bs k j) ∧ wr.heap[w.heap.size]? = some (.cells #[Go.Proofs.Ytnkfdnehkihbeaa.u8 a, Go.Proofs.Ytnkfdnehkihbeaa.u8 b, Go.Proofs.Ytnkfdnehkihbeaa.u8 c, Go.Proofs.Ytnkfdnehkihbeaa.u8 e] 38 (0, 0)) ∧ Below w.heap.size w wr)
  case atStart => exact ⟨0, rfl, by omega, hoM, hrow2, hbw2⟩
  case round =>
    clear hoM hrow2 hbw2
    obtain ⟨j, rfl, hj, hoM, hrow, hb⟩ := hrel
    by_cases hlt : j < 4
    · have hlt' : (j : Int) < 4 := by omega
      have hml := over4_length (l := fl) (bs := bs) (k := k) (j := j) (by omega) (by omega)
      obtain ⟨g, rfl, hg1, hg2, c1, c1f⟩ := hoM.at_ (k + j) (by omega)
      rw [over4_at (by omega) (by omega)] at c1
      have hnx := hoM.set (k + j) (by omega) (fl[k + j] ^^^ bs[j])
      rw [over4_next (by omega) (by omega)] at hnx
      have hx := xor2 fl[k + j] bs[j]
      have hbn := hb.setCell (p := ⟨g, k + j, none⟩) (by show w.heap.size ≤ g; omega) (Go.Proofs.Ytnkfdnehkihbeaa.u8 (fl[k + j] ^^^ bs[j]))
      have hrn : (wr.setCell ⟨g, k + j, none⟩ (Go.Proofs.Ytnkfdnehkihbeaa.u8 (fl[k + j] ^^^ bs[j]))).heap[w.heap.size]? = _ := (Below.heap_setCell _ _ _ _ (by show w.heap.size ≠ g; omega)).trans hrow
      have c2 : wr.cell? ⟨w.heap.size, j, none⟩ = some (Go.Proofs.Ytnkfdnehkihbeaa.u8 bs[j]) := by
        rw [cell_of_row _ _ j _ _ _ hrow]
        subst hbs
        exact four_cell a b c e j hlt
      have hnj : (k : Int) + (j : Int) < (len : Int) + 8 := by omega
      generalize fl[k + j] ^^^ bs[j] = y at hnx hx hbn hrn
      generalize fl[k + j] = y1 at c1 hx
      generalize bs[j] = y2 at c2 hx
      have hk16 : k ≤ 4000 := by omega
      clear hml hrow hoM hbs hk8 hscan hfl
      have hnj0 : (0 : Int) ≤ (k : Int) + (j : Int) := by omega
      have hww : IntKind.i64.wrap ((k : Int) + (j : Int)) = (k : Int) + (j : Int) := IntWalk.i64_in _ (by omega)
      have hnt : ((k : Int) + (j : Int)).toNat = k + j := by omega
      go_wp2
      go_still_tail 11, (by kernel_rfl)
      change wpList _ _ _ _ _ wr.drew
      go_wp2
      go_roundg (gk - 1)
      case measure => omega
      case rel => exact ⟨j + 1, by go_num, by omega, hnx, hrn, hbn.drew⟩
    · obtain rfl : j = 4 := by omega
      have hlen := over4_length (l := fl) (bs := bs) (k := k) (j := 4) (by omega) (by omega)
      have f4 := frame_lies hoM
      have hS := scan_any A4 (len + 8) cap4 _ wr f4 (by omega)
      unfold ScanP at hS
      clear f4 hlen hrow hoM
      by_cases hkk : k = 4 ∨ 8 ≤ k
      · rw [hscan hkk] at hS
        dsimp only at hS
        go_wp2_with fail
        refine hS.mono ?_
        rintro e w3 ⟨A5, cap5, rfl, _, hb3⟩
        have hbw3 := hb.trans (hb3.mono hb.size)
        rcases hkk with rfl | hkk
        · clear hS hscan hk4 hk8 hfl
          go_wp2
          go_ret
          exact ⟨rfl, hbw3⟩
        · have q1 : (4 : Int) < (k : Int) := by omega
          have q2 : ((k : Int) < 8) = False := eq_false (by omega)
          clear hS hscan hk4 hk8 hfl hkk
          go_wp2
          go_ret
          exact ⟨rfl, hbw3⟩
      · have q1 : (4 : Int) < (k : Int) := by omega
        have q2 : (k : Int) < 8 := by omega
        clear hscan
        generalize scanL (over4 fl bs k 4) = sc at hS
        go_wp2_with fail
        refine hS.mono ?_
        rintro e w3 ⟨A5, cap5, rfl, _, hb3⟩
        have hbw3 := hb.trans (hb3.mono hb.size)
        clear hS hk4 hk8 hfl hkk
        go_wp2
        go_ret
        exact ⟨rfl, hbw3⟩

theorem walk (A : Option Addr) (len cap : Nat) (l : List UInt8) (a b c e : UInt8) (z : Int) (w : World) (h : Lies w A len cap l) (hm : cap ≤ maxLen) (hz : (Lit.int .u16 z).wf = true) :
    Calls Try.prog 5 #[.slice A len cap, .agg #[u8 a, u8 b, u8 c, u8 e], .int .u16 z] w fun e w' => e = .returned (.bool true) ∧ Below w.heap.size w w' := by
  have r : 0 ≤ z ∧ z ≤ 65535 := by simpa [Lit.wf, IntKind.min, IntKind.max, IntKind.bits, IntKind.signed] using hz
  obtain ⟨m, rfl⟩ := Int.eq_ofNat_of_zero_le r.1
  by_cases hno : 3000 < len ∨ (a = 0 ∧ b = 0 ∧ c = 0 ∧ e = 0)
  · exact walk_no A len cap a b c e _ w (Nat.le_trans h.2.1 hm) hno
  · exact walk_yes A len cap l a b c e m w h hm (Nat.le_of_not_lt fun h => hno (.inl h)) (by omega) (fun h => hno (.inr h))

end Go.Proofs.Ytnkfdnehkihbeaa.walTurned
