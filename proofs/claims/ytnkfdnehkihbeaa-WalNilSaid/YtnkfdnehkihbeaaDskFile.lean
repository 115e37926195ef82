/- What is done with one file: bytes.Clone, waits, first, more, copy, each by its contract. -/
import Derived.Test.YtnkfdnehkihbeaaDskFv
import Derived.Test.YtnkfdnehkihbeaaBytArgs
import Derived.Test.YtnkfdnehkihbeaaClone
import Derived.Test.YtnkfdnehkihbeaaRes
import Derived.Test.YtnkfdnehkihbeaaMapRFl
import Derived.StillTailTactics
import Derived.Deep.RegionHeld3
import Derived.Lib.Hide
import Derived.Deep.QuietTactic
import Derived.Deep.RegionLaw
namespace Go.Proofs.Ytnkfdnehkihbeaa
open Go.RowKit
set_option linter.unusedVariables false
set_option linter.unusedSimpArgs false

/-- A file's row: its bytes, from the head of a block of their own. -/
abbrev FRow (w : World) (base : Nat) (v : FV) : Prop := Owns 5 w base (fvS v) v.l

theorem FRow.lies {w : World} {base : Nat} {v : FV} (h : FRow w base v) : Lies w v.A v.l.length v.cap v.l := by
  obtain ⟨A, cap, e, hl, _⟩ := lies_of_owns h
  injection e with e1 e2 e3
  subst e1 e3
  exact hl

theorem waits_any (v : FV) (w : World) (h : v.safe ≤ v.l.length) (hl : v.l.length ≤ 4294967296) :
    Calls Try.prog 37 #[fvV v] w fun e w' => e = .returned (.int .i64 ((v.l.length : Int) - (v.safe : Int))) ∧ Below w.heap.size w w' := by
  have e1 : IntKind.i64.wrap ((v.l.length : Int) - (v.safe : Int)) = (v.l.length : Int) - (v.safe : Int) := IntWalk.i64_in _ (by omega)
  go_enter Try.func37, Try.ntmps37
  go_wp2
  go_ret
  exact ⟨rfl, (Below.refl _ _).alloc (Nat.le_refl _) _⟩

/-- A part of a row of one's own, from its head on. -/
theorem owns_take {T : TypeId} {w : World} {base : Nat} {A : Option Addr} {len cap : Nat} {l : List UInt8} (h : Owns T w base (.slice A len cap) l) (n : Nat) (hn : n ≤ l.length) : Owns T w base (.slice A n cap) (l.take n) := by
  have hlen : (l.take n).length = n := by simp; omega
  rcases h.2 with ⟨e, h0⟩ | ⟨g, cap', cur, e, hb, hg, hc, hm, hs, ht⟩
  · injection e with e1 e2 e3
    subst e1 e3
    have : n = 0 := by omega
    subst this
    exact ⟨by simp, .inl ⟨rfl, by simp⟩⟩
  · injection e with e1 e2 e3
    subst e1 e3
    refine ⟨by simp, .inr ⟨g, cap, cur, by rw [hlen], hb, hg, by rw [hlen]; omega, hm, hs, ?_⟩⟩
    have h2 := congrArg (fun q => q.take n) ht
    rw [hlen]
    simp only [List.take_take, Nat.mul_one] at h2 ⊢
    rw [show min n l.length = n by omega] at h2
    rw [h2]
    simp [cellsOf, List.map_take]


/-- The first bytes alone, all safe. -/
theorem first_any (v : FV) (n : Nat) (w : World) (h : FRow w 0 v) (hn : n ≤ v.l.length) (hl : v.l.length ≤ 4294967296) (hc : v.cap ≤ maxLen) :
    Calls Try.prog 40 #[fvV v, .int .i64 (n : Int)] w fun e w' => ∃ v', e = .returned (fvV v') ∧ v'.l = v.l.take n ∧ v'.safe = n ∧ FRow w' 0 v' ∧
      (∀ g, (fvS v').ownBlock = some g → (fvS v).ownBlock = some g ∨ w.heap.size ≤ g) ∧ Below w.heap.size w w' := by
  have hS := fun W => run_front (P := Try.prog) Try.underlying22 sizeOf_u8 v.A v.l.length v.cap n (by have := h.lies.2.1; omega) W
  have hlen : (v.l.take n).length = n := by simp; omega
  have ho := owns_take h n hn
  have hcl := fun w' (hb : Below w.heap.size w w') => clone_any v.A n v.cap (v.l.take n) w' ((h.lies.below hb (Nat.le_refl _)).take n hn) (by rw [hlen]; omega)
  by_cases hq : (n : Int) < wrap64 ((v.cap : Int) / 2)
  · go_enter Try.func40, Try.ntmps40
    go_wp2_with (first
      | (go_at_call 30
         refine (hcl _ (by repeat (first | exact Below.refl _ _ | refine Below.alloc ?_ (by simp <;> omega) _))).mono ?_
         rintro e w1 ⟨v1, rfl, ho1, hb1⟩
         obtain ⟨A1, cap1, rfl, hl1, hl2⟩ := lies_of_owns ho1
         have hr := (hb1.block (w.heap.size + 1) (by simp)).trans (heap_alloc2_new _ _ _)
         obtain ⟨⟨k0, k1⟩, ⟨k2, k3⟩⟩ := row2 hr
         have hz : w.heap.size + 1 < w1.heap.size := Go.Proofs.Ytnkfdnehkihbeaa.hlt hr
         have hb : Below w.heap.size w w1 := Tr.below_of hb1 (by repeat (first | exact Below.refl _ _ | refine Below.alloc ?_ (by simp <;> omega) _)))
      | fail)
    refine bodyPost_ret (res_cell (n := w.heap.size + 1) rfl rfl (set2_at _ _ _ _ _ _ _ hr) Try.underlying83 rfl (by kernel_rfl)) rfl ?_
    refine ⟨⟨A1, cap1, v.l.take n, n⟩, by simp [fvV, fvS, fvN, hlen], rfl, rfl, ?_, ?_, (hb.setCell (by simp <;> omega) _).setCell (by simp <;> omega) _⟩
    · refine Owns.rebase (Owns.keep ho1 fun g hg => ?_) (fun k _ => Nat.zero_le _)
      have := (ho1.lt g hg).1
      have hg' : g ≠ w.heap.size + 1 := by simp at this; omega
      exact (Below.heap_setCell _ _ _ _ (fun e => hg' e)).trans (Below.heap_setCell _ _ _ _ (fun e => hg' e))
    · intro g hg
      have := (ho1.lt g hg).1
      simp at this
      omega
  · go_enter Try.func40, Try.ntmps40
    go_wp2
    refine bodyPost_ret (res_cell (n := w.heap.size + 1) rfl rfl (heap_alloc2_new _ _ _) Try.underlying83 rfl (by kernel_rfl)) rfl ?_
    have hb : Below w.heap.size w ((w.alloc (.cells #[fvS v, fvN v] 83)).alloc (.cells #[.slice v.A n v.cap, .int .i64 (n : Int)] 83)) := ((Below.refl _ _).alloc (Nat.le_refl _) _).alloc (by simp) _
    refine ⟨⟨v.A, v.cap, v.l.take n, n⟩, by simp [fvV, fvS, fvN, hlen], rfl, rfl, ?_, ?_, hb⟩
    · show Owns _ _ _ (.slice v.A (v.l.take n).length v.cap) (v.l.take n)
      rw [hlen]
      exact Owns.keep ho fun g hg => hb.block g (ho.lt g hg).2
    · intro g hg
      left
      rw [← hg]
      exact own_blk _ _ _ _ _

/-- The file in memory of its own. -/
theorem copy_any (v : FV) (w : World) (h : FRow w 0 v) (hl : v.l.length ≤ 4294967296) :
    Calls Try.prog 47 #[fvV v] w fun e w' => ∃ v', e = .returned (fvV v') ∧ v'.l = v.l ∧ v'.safe = v.safe ∧ FRow w' w.heap.size v' ∧ Below w.heap.size w w' := by
  have hcl := fun w' (hb : Below w.heap.size w w') => clone_any v.A v.l.length v.cap v.l w' (h.lies.below hb (Nat.le_refl _)) (by omega)
  go_enter Try.func47, Try.ntmps47
  go_wp2
  go_region_with (first
    | (go_at_call 30
       refine (hcl _ (by repeat (first | exact Below.refl _ _ | apply Below.drew | refine Below.alloc ?_ (by simp <;> omega) _))).mono ?_
       rintro e w1 ⟨v1, rfl, ho1, hb1⟩
       obtain ⟨A1, cap1, rfl, hl1, hl2⟩ := lies_of_owns ho1
       have hr0 := (hb1.block w.heap.size (by simp <;> omega)).trans ((Below.heap_alloc _ _ _ (by simp)).trans (heap_alloc_new _ _))
       obtain ⟨⟨j0, j1⟩, _⟩ := row2 hr0
       have hr := (hb1.block (w.heap.size + 1) (by simp)).trans (heap_alloc2_new _ _ _)
       obtain ⟨⟨k0, k1⟩, ⟨k2, k3⟩⟩ := row2 hr
       have hz : w.heap.size + 1 < w1.heap.size := Go.Proofs.Ytnkfdnehkihbeaa.hlt hr
       have hb : Below w.heap.size w w1 := Tr.below_of hb1 (by repeat (first | exact Below.refl _ _ | apply Below.drew | refine Below.alloc ?_ (by simp <;> omega) _)))
    | fail)
  all_goals
    have hno : ∀ g, (Value.slice A1 v.l.length cap1).ownBlock = some g → w.heap.size ≤ g ∧ g ≠ w.heap.size + 1 := fun g hg => by have := (ho1.lt g hg).1; simp at this; omega
    go_wp2
    refine bodyPost_ret (res_cell (n := w.heap.size + 1) rfl rfl (set2_at _ _ _ _ _ _ _ hr) Try.underlying83 rfl (by kernel_rfl)) rfl ?_
    refine ⟨⟨A1, cap1, v.l, v.safe⟩, rfl, rfl, rfl, ?_, ?_⟩
    · exact Owns.rebase (Owns.keep ho1 fun g hg => (Below.heap_setCell _ _ _ _ (hno g hg).2).trans (Below.heap_setCell _ _ _ _ (hno g hg).2)) fun k hk => (hno k hk).1
    · repeat (first | exact hb | apply Below.drew | refine Below.setCell ?_ (by simp <;> omega) _)

/-- The file with bytes behind, which wait: in the spare room of its row, or in a new one. -/
theorem more_any (v : FV) (A : Option Addr) (len cap : Nat) (b : List UInt8) (w : World) (h : FRow w 0 v) (hA : Lies w A len cap b) (hl : (v.l ++ b).length ≤ 4294967296) :
    Calls Try.prog 61 #[fvV v, .slice A len cap] w fun e w' => ∃ v', e = .returned (fvV v') ∧ v'.l = v.l ++ b ∧ v'.safe = v.safe ∧ FRow w' 0 v' ∧ w.grownBy w' (fvS v).ownBlock ∧
      ((fvS v').ownBlock = (fvS v).ownBlock ∨ ∃ g, (fvS v').ownBlock = some g ∧ w.heap.size ≤ g) := by
  obtain ⟨i0, hi0, hz0, hz1, hz2⟩ := info_parts info_u8
  have hl2 : (v.l ++ b).length ≤ 140737488355328 := by omega
  have hX : ∀ w', Below w.heap.size w w' → FRow w' 0 v := fun w' hb => h.keep fun g hg => hb.block g (h.lt g hg).2
  have hAX : ∀ w', Below w.heap.size w w' → Lies w' A len cap b := fun w' hb => hA.below hb (Nat.le_refl _)
  have hnb : ∀ k, w.heap.size ≤ k → some k ≠ (fvS v).ownBlock := fun k hk e => by have := (h.lt k e.symm).2; omega
  have HB : Hid (Below w.heap.size w ((w.alloc (.cells #[fvS v, fvN v] 83)).alloc (.cells #[.slice none 0 0, .int .i64 0] 83)).drew) := ⟨(((Below.refl _ _).alloc (Nat.le_refl _) _).alloc (by simp) _).drew⟩
  go_enter Try.func61, Try.ntmps61
  go_wp2
  go_region_law
    ((refine step_append_bytes _ (by rfl) _ _ 22 (by rfl) 5 i0 Try.underlying22 hi0 hz0 hz1 hz2 0 (Nat.zero_le _) (fvS v) v.l (by rfl) (hX _ HB.out) A len cap b (by rfl) (hAX _ HB.out) hl2 ?_
      intro v1 w1 hr hg hb
      obtain ⟨A1, cap1, rfl, hl1, hl3⟩ := lies_of_owns hr
      have hr0 := (hg.block w.heap.size (by simp <;> omega) (hnb _ (Nat.le_refl _))).trans ((Below.heap_alloc _ _ _ (by simp)).trans (heap_alloc_new _ _))
      obtain ⟨⟨j0, j1⟩, _⟩ := row2 hr0
      have hr1 := (hg.block (w.heap.size + 1) (by simp) (hnb _ (by omega))).trans (heap_alloc2_new _ _ _)
      obtain ⟨⟨k0, k1⟩, ⟨k2, k3⟩⟩ := row2 hr1))
  all_goals
    have hno : ∀ g, (Value.slice A1 (v.l ++ b).length cap1).ownBlock = some g → g ≠ w.heap.size + 1 := fun g hg => by
      rintro rfl
      rcases hb with e | e
      · rw [hg] at e
        have := (h.lt _ e.symm).2
        omega
      · rw [hg] at e
        injection e with e
        simp at e
    go_wp2
    refine bodyPost_ret (res_cell (n := w.heap.size + 1) rfl rfl (set2_at _ _ _ _ _ _ _ hr1) Try.underlying83 rfl (by kernel_rfl)) rfl ?_
    refine ⟨⟨A1, cap1, v.l ++ b, v.safe⟩, by simp [fvV, fvS, fvN], rfl, rfl, ?_, ?_, ?_⟩
    · exact Owns.keep hr fun g hg => (Below.heap_setCell _ _ _ _ (hno g hg)).trans (Below.heap_setCell _ _ _ _ (hno g hg))
    · refine ⟨hg.os, hg.tape, hg.output, by have := hg.size; simp at this ⊢; omega, fun k hk hne => ?_⟩
      exact (Below.heap_setCell _ _ _ _ (by show k ≠ w.heap.size + 1; omega)).trans ((Below.heap_setCell _ _ _ _ (by show k ≠ w.heap.size + 1; omega)).trans ((hg.block k (Nat.lt_of_lt_of_le hk HB.out.size) hne).trans (HB.out.block k hk)))
    · rcases hb with e | e
      · exact .inl e
      · exact .inr ⟨_, e, by simp <;> omega⟩

end Go.Proofs.Ytnkfdnehkihbeaa
