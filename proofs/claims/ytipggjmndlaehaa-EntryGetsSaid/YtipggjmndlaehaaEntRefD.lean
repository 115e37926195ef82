/- The document's Bytes and SnapBytes, HardBytes, each by its contract. -/
import Derived.Test.YtipggjmndlaehaaEntRefC
import Derived.Test.YtipggjmndlaehaaRes
namespace Go.Proofs.Ytipggjmndlaehaa
open Go.RowKit
set_option linter.unusedVariables false
set_option linter.unusedSimpArgs false

/-- An entry's bytes; a snap's. -/
def entBytes (i t : Int) (d : List UInt8) : List UInt8 := if rightB i t d.length = true then threeL i t d else List.replicate 20 0
def snapBytes (i t : Int) (d : List UInt8) : List UInt8 := if snapB i t d.length = true then threeL i t d else List.replicate 20 0

theorem rightB_len {i t : Int} {n : Nat} (h : rightB i t n = true) : n ≤ 50000 := by
  have := (rightB_iff i t n).1 h
  omega

theorem snapB_len {i t : Int} {n : Nat} (h : snapB i t n = true) : n ≤ 50000 := by
  unfold snapB at h
  split at h
  · have := of_decide_eq_true h
    omega
  · simp only [Bool.and_eq_true, decide_eq_true_eq] at h
    exact h.2

theorem bytesE_any (i t : Int) (A : Option Addr) (n c : Nat) (d : List UInt8) (w : World) (h : Lies w A n c d) :
    Calls Try.prog 21 #[entV i t A n c] w fun e w' => ∃ A' c', e = .returned (.slice A' (entBytes i t d).length c') ∧ Owns 5 w' w.heap.size (.slice A' (entBytes i t d).length c') (entBytes i t d) ∧ Below w.heap.size w w' := by
  have hb : Below w.heap.size w (w.alloc (.cells #[.int .i64 i, .int .i64 t, .slice A n c] 31)) := (Below.refl _ _).alloc (Nat.le_refl _) _
  have hR := fun W => rightR_is i t A n c W
  have hd := h.1
  have hN : entBytes i t d = if rightB i t n = true then threeL i t d else List.replicate 20 0 := by unfold entBytes; rw [hd]
  have hle : rightB i t n = true → n ≤ 50000 := fun hq => rightB_len hq
  have hT := fun W (hW : Below w.heap.size w W) hq => threeR_any i t A n c d W (h.below hW (Nat.le_refl _)) hq
  rw [hN]
  generalize rightB i t n = b at *
  clear hN hd h
  cases b with
  | true =>
    have hq := hle rfl
    rw [if_pos rfl]
    generalize threeL i t d = R at *
    go_enter Try.func21, Try.ntmps21
    go_wp2_with fail
    refine (hR _).mono ?_
    rintro e w1 ⟨rfl, hb1⟩
    have hbw1 := hb.trans (hb1.mono hb.size)
    obtain ⟨⟨a0, a1, a2⟩, _⟩ := row3 ((hb1.block _ (by simp)).trans (heap_alloc_new w _))
    have hT1 := hT w1 hbw1 hq
    clear hT hR
    go_wp2_with fail
    refine hT1.mono ?_
    rintro e w2 ⟨A2, c2, rfl, ho2, hb2⟩
    go_wp2
    go_ret
    exact ⟨A2, c2, rfl, ho2.rebase fun k hk => Nat.le_trans hbw1.size (ho2.lt k hk).1, hbw1.trans (hb2.mono hbw1.size)⟩
  | false =>
    rw [if_neg (by simp)]
    obtain ⟨i0, hi0, hz0, hz1, hz2⟩ := info_parts info_u8
    clear hT hle
    go_enter Try.func21, Try.ntmps21
    go_wp2_with fail
    refine (hR _).mono ?_
    rintro e w1 ⟨rfl, hb1⟩
    have hbw1 := hb.trans (hb1.mono hb.size)
    clear hR
    go_wp2_with (at_make; refine wpList_make_full _ rfl _ _ 25 rfl w1.heap.size 5 i0 _ 1 Try.underlying25 hi0 hz0 hz1 _ _ _ _ 20 rfl rfl rfl rfl (by rw [hz2]; omega) (by unfold maxLen; omega) (Nat.le_refl _) ?_)
    intro w2 ho hg
    have ho1 : Owns 5 w2 w1.heap.size (.slice (some ⟨w1.heap.size, 0, none⟩) 20 20) (List.replicate 20 0) := by
      unfold Owns
      have e : cellsOf (List.replicate 20 0) = (madeCells #[.int .u8 0] 20).toList := by rw [toList_madeCells_one]; simp [cellsOf]
      rw [e, List.length_replicate]
      simpa using ho
    have hb2 := (Below.refl w1.heap.size w1).grown hg (Nat.le_refl _) (fun k e => by cases e)
    clear ho hg
    go_wp2
    go_ret
    exact ⟨_, _, rfl, ho1.rebase fun k hk => Nat.le_trans hbw1.size (ho1.lt k hk).1, hbw1.trans (hb2.mono hbw1.size)⟩

theorem bytesS_any (i t : Int) (A : Option Addr) (n c : Nat) (d : List UInt8) (w : World) (h : Lies w A n c d) :
    Calls Try.prog 23 #[entV i t A n c] w fun e w' => ∃ A' c', e = .returned (.slice A' (snapBytes i t d).length c') ∧ Owns 5 w' w.heap.size (.slice A' (snapBytes i t d).length c') (snapBytes i t d) ∧ Below w.heap.size w w' := by
  have hb : Below w.heap.size w (w.alloc (.cells #[.int .i64 i, .int .i64 t, .slice A n c] 27)) := (Below.refl _ _).alloc (Nat.le_refl _) _
  have hR := fun W => snapR_is i t A n c W
  have hd := h.1
  have hN : snapBytes i t d = if snapB i t n = true then threeL i t d else List.replicate 20 0 := by unfold snapBytes; rw [hd]
  have hle : snapB i t n = true → n ≤ 50000 := fun hq => snapB_len hq
  have hT := fun W (hW : Below w.heap.size w W) hq => threeR_any i t A n c d W (h.below hW (Nat.le_refl _)) hq
  rw [hN]
  generalize snapB i t n = b at *
  clear hN hd h
  cases b with
  | true =>
    have hq := hle rfl
    rw [if_pos rfl]
    generalize threeL i t d = R at *
    go_enter Try.func23, Try.ntmps23
    go_wp2_with fail
    refine (hR _).mono ?_
    rintro e w1 ⟨rfl, hb1⟩
    have hbw1 := hb.trans (hb1.mono hb.size)
    obtain ⟨⟨a0, a1, a2⟩, _⟩ := row3 ((hb1.block _ (by simp)).trans (heap_alloc_new w _))
    have hT1 := hT w1 hbw1 hq
    clear hT hR
    go_wp2_with fail
    refine hT1.mono ?_
    rintro e w2 ⟨A2, c2, rfl, ho2, hb2⟩
    go_wp2
    go_ret
    exact ⟨A2, c2, rfl, ho2.rebase fun k hk => Nat.le_trans hbw1.size (ho2.lt k hk).1, hbw1.trans (hb2.mono hbw1.size)⟩
  | false =>
    rw [if_neg (by simp)]
    obtain ⟨i0, hi0, hz0, hz1, hz2⟩ := info_parts info_u8
    clear hT hle
    go_enter Try.func23, Try.ntmps23
    go_wp2_with fail
    refine (hR _).mono ?_
    rintro e w1 ⟨rfl, hb1⟩
    have hbw1 := hb.trans (hb1.mono hb.size)
    clear hR
    go_wp2_with (at_make; refine wpList_make_full _ rfl _ _ 25 rfl w1.heap.size 5 i0 _ 1 Try.underlying25 hi0 hz0 hz1 _ _ _ _ 20 rfl rfl rfl rfl (by rw [hz2]; omega) (by unfold maxLen; omega) (Nat.le_refl _) ?_)
    intro w2 ho hg
    have ho1 : Owns 5 w2 w1.heap.size (.slice (some ⟨w1.heap.size, 0, none⟩) 20 20) (List.replicate 20 0) := by
      unfold Owns
      have e : cellsOf (List.replicate 20 0) = (madeCells #[.int .u8 0] 20).toList := by rw [toList_madeCells_one]; simp [cellsOf]
      rw [e, List.length_replicate]
      simpa using ho
    have hb2 := (Below.refl w1.heap.size w1).grown hg (Nat.le_refl _) (fun k e => by cases e)
    clear ho hg
    go_wp2
    go_ret
    exact ⟨_, _, rfl, ho1.rebase fun k hk => Nat.le_trans hbw1.size (ho1.lt k hk).1, hbw1.trans (hb2.mono hbw1.size)⟩

end Go.Proofs.Ytipggjmndlaehaa
