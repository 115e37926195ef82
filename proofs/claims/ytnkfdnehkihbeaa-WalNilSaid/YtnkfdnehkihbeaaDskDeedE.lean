/- New, Read, Safe, Used, Lost, Fuse of the program's disk, each by its contract. -/
import Derived.Test.YtnkfdnehkihbeaaDskDeedD
namespace Go.Proofs.Ytnkfdnehkihbeaa
open Go.RowKit
set_option linter.unusedVariables false
set_option linter.unusedSimpArgs false

theorem new_any (room : Int) (w : World) (M Z : Nat → Prop) (h0 : 0 ≤ room) (h1 : room ≤ 1048576) (hM : ∀ k, M k → k < w.heap.size) (hZ : ∀ k, Z k → k < w.heap.size) :
    Calls Try.prog 16 #[.int .i64 room] w fun e w' => ∃ d, e = .returned (.tuple #[.pointer (some ⟨d, 0, none⟩), .int .i64 0]) ∧ DkG w' d ⟨room, [], false, 0, false⟩ M Z ∧ Below w.heap.size w w' := by
  have h0' : ¬ (room < 0) := by omega
  have h1' : ¬ (1048576 < room) := by omega
  have HX : Hid (DkG (w.alloc (.cells #[.int .i64 room, .int .i64 0, .pointer none, .int .i64 (-1), .bool false] 73)) w.heap.size ⟨room, [], false, 0, false⟩ M Z) := ⟨.nil, ⟨⟨none, heap_alloc_new _ _, rfl, fun k hk => .inr hk⟩, List.Pairwise.nil, rfl, (fun p hp => by cases hp), (fun a ha => by cases ha), ⟨fun e => by have := hM _ e; omega, fun e => by have := hZ _ e; omega⟩⟩⟩
  clear hM hZ
  go_enter Try.func16, Try.ntmps16
  go_wp2
  go_ret2
  exact ⟨_, rfl, HX.out, (Below.refl _ _).alloc (Nat.le_refl _) _⟩

theorem new_bad (room : Int) (w : World) (h : room < 0 ∨ 1048576 < room) : Calls Try.prog 16 #[.int .i64 room] w fun e w' => e = .returned (.tuple #[.pointer none, .int .i64 1]) ∧ w = w' := by
  have h' : room < 0 ∨ (0 ≤ room ∧ 1048576 < room) := by omega
  clear h
  rcases h' with h0 | ⟨h0, h1⟩
  all_goals
    go_enter Try.func16, Try.ntmps16
    go_wp2
    go_ret2
    exact ⟨rfl, rfl⟩

theorem used_any (w : World) (d : Nat) (D : Dsk) (M Z : Nat → Prop) (h : DkG w d D M Z) : Calls Try.prog 24 #[.pointer (some ⟨d, 0, none⟩)] w fun e w' => e = .returned (.int .i64 ((usedF D.l : Nat) : Int)) ∧ w = w' := by
  obtain ⟨t, h⟩ := h
  obtain ⟨u, hbx, _⟩ := h.box
  obtain ⟨⟨a0, a1, a2, a3, a4⟩, _⟩ := row5 hbx
  clear h hbx
  go_enter Try.func24, Try.ntmps24
  go_wp2
  go_ret
  exact ⟨rfl, rfl⟩

theorem fuse_any (w : World) (d : Nat) (D : Dsk) (M Z : Nat → Prop) (n : Int) (h : DkG w d D M Z) :
    Calls Try.prog 19 #[.pointer (some ⟨d, 0, none⟩), .int .i64 n] w fun e w' => e = .returned (.int .i64 (((D.fuse n).2 : Nat) : Int)) ∧ DkG w' d (D.fuse n).1 M Z ∧ Keeps (· ≠ d) w w' := by
  obtain ⟨t, h⟩ := h
  have HD := Lib.hid h
  have hR := ready_any w d D M Z noX t h none 0 [] (fun h => absurd h (by simp)) (by simp)
  rw [readyN_none] at hR
  have hd := h.lt
  obtain ⟨u, hbx, _⟩ := h.box
  obtain ⟨_, ⟨f0, f1, f2, f3, f4⟩⟩ := row5 hbx
  obtain ⟨⟨a0, a1, a2, a3, a4⟩, _⟩ := row5 hbx
  clear h
  cases hl : D.lost with
  | true =>
    rw [hl, if_pos rfl] at hR
    have HS : Hid (D.fuse n = (D, 5)) := ⟨by simp [Dsk.fuse, hl]⟩
    clear hl a0 a1 a2 a3 a4 f0 f1 f2 f3 f4 hbx
    go_enter Try.func19, Try.ntmps19
    go_wp2_with (first | (go_at_call 35; refine hR.mono ?_; rintro e w1 ⟨rfl, hb1⟩) | fail)
    go_ret
    exact ⟨by rw [HS.out]; rfl, by rw [HS.out]; exact ⟨t, HD.out.below hb1⟩, keeps_below hb1 (Nat.le_refl _)⟩
  | false =>
    rw [hl, if_neg (by decide)] at hR
    by_cases hn : n < 0
    · have HS : Hid (D.fuse n = (D, 1)) := ⟨by simp [Dsk.fuse, hl, hn]⟩
      clear hl a0 a1 a2 a3 a4 f0 f1 f2 f3 f4 hbx
      go_enter Try.func19, Try.ntmps19
      go_wp2_with (first | (go_at_call 35; refine hR.mono ?_; rintro e w1 ⟨rfl, hb1⟩) | fail)
      go_ret
      exact ⟨by rw [HS.out]; rfl, by rw [HS.out]; exact ⟨t, HD.out.below hb1⟩, keeps_below hb1 (Nat.le_refl _)⟩
    · have HS : Hid (D.fuse n = ({ D with set := true, n := n }, 0)) := ⟨by simp [Dsk.fuse, hl, hn]⟩
      have HX : ∀ w1, Below w.heap.size w w1 → Hid (Dt (w1.setCell ⟨d, 3, none⟩ (.int .i64 n)) d { D with set := true, n := n } M Z noX t) := fun w1 hb1 => ⟨by
        have h1 := HD.out.below hb1
        have hbx1 := (hb1.block d hd).trans hbx
        refine h1.turn (keeps_store _) (u := u) (by rw [setCell_at w1 ⟨d, 3, none⟩ _ _ _ _ rfl hbx1]; rfl) (fun cs hc => ?_) rfl
        rw [hbx1] at hc
        injection hc with hc
        injection hc with hc
        subst hc
        rfl⟩
      clear hbx
      go_enter Try.func19, Try.ntmps19
      go_wp2_with (first
        | (go_at_call 35; refine hR.mono ?_; rintro e w1 ⟨rfl, hb1⟩
           have b3 := (hb1.cell (p := ⟨d, 3, none⟩) hd).trans a3
           have q3 := (hb1.frozen (p := ⟨d, 3, none⟩) hd).trans f3)
        | fail)
      go_ret
      exact ⟨by rw [HS.out]; rfl, by rw [HS.out]; exact ⟨t, (HX w1 hb1).out⟩, (keeps_below hb1 (Nat.le_refl _)).trans (keeps_store _)⟩

theorem field_fv (x : FV) (w : World) : (Instr.field 83 (fvV x) 0).run Try.prog w = .ok (fvS x) w := by kernel_rfl

set_option maxRecDepth 100000 in
set_option maxHeartbeats 1000000 in
theorem read_any (w : World) (d : Nat) (D : Dsk) (M Z : Nat → Prop) (name : ByteArray) (h : DkG w d D M Z) (hg : Good D) :
    Calls Try.prog 32 #[.pointer (some ⟨d, 0, none⟩), .string name] w fun e w' => ∃ A cap, e = .returned (.tuple #[.slice A (D.read name).1.size cap, .int .i64 (((D.read name).2 : Nat) : Int)]) ∧
      Lies w' A (D.read name).1.size cap (D.read name).1.data.toList ∧ (∀ a, A = some a → w.heap.size ≤ a.block) ∧ Below w.heap.size w w' ∧ (∀ g off j, A = some ⟨g, off, none⟩ → w'.frozen? ⟨g, j, none⟩ = false) := by
  obtain ⟨t, h⟩ := h
  have HD := Lib.hid h
  go_enter Try.func32, Try.ntmps32
  go_wp2_with fail
  refine (finds_any w d D M Z noX t h name).mono ?_
  clear h
  rintro e w1 ⟨v, c, rfl, hF, hb1⟩
  have hb : Below w.heap.size w (w1.alloc (.cells #[fvS v, fvN v] 83)) := hb1.alloc hb1.size _
  rcases hF with ⟨hm, rfl, rfl⟩ | ⟨hm, hget, rfl, rfl⟩ | ⟨hm, hget2, rfl, hmem, hget⟩
  · have HS : Hid (D.read name = (ByteArray.empty, D.may name name)) := ⟨by simp [Dsk.read, hm]⟩
    generalize D.may name name = c at *
    have hm' : ¬ ((c : Int) = 0) := by omega
    go_wp2
    go_ret2
    rw [HS.out]
    exact ⟨none, 0, rfl, Lies.nil _, fun a e => (by cases e), hb, fun g off j e => (by cases e)⟩
  · have HS : Hid (D.read name = (ByteArray.empty, 6)) := ⟨by simp [Dsk.read, hm, hget]⟩
    go_wp2
    go_ret2
    rw [HS.out]
    exact ⟨none, 0, rfl, Lies.nil _, fun a e => (by cases e), hb, fun g off j e => (by cases e)⟩
  · have HS : Hid (D.read name = (⟨v.l.toArray⟩, 0)) := ⟨by simp only [Dsk.read, hm, hget]; rfl⟩
    have hvl : v.l.length ≤ 1048576 := by have := HD.out.len hmem; have := hg.usedN; omega
    have hrow := ((HD.out.below hb).row _ hmem (fun h => h)).own
    have hC := copy_any v _ hrow (by omega)
    clear hrow hmem hget hvl
    go_wp2_with (first
      | (go_at_call 47
         refine hC.mono ?_
         rintro e w2 ⟨v', rfl, hl', hs', hv', hb2⟩
         obtain ⟨A', c', l', s'⟩ := v'
         dsimp only at hl' hs'
         subst hl' hs'
         have hfd := field_fv ⟨A', c', v.l, v.safe⟩)
      | fail)
    go_ret2
    rw [HS.out]
    refine ⟨A', c', rfl, hv'.lies, fun a e => ?_, hb.trans (hb2.mono hb.size), fun g off j e => ?_⟩
    · subst e
      have hx := (hv'.lt a.block rfl).1
      exact Nat.le_trans hb.size hx
    · subst e
      rcases hv'.2 with ⟨e1, _⟩ | ⟨g', cap', cur, e1, _, hg, _⟩
      · cases e1
      · injection e1 with e1
        injection e1 with e1
        injection e1 with e1
        subst e1
        simp [World.frozen?, hg]

end Go.Proofs.Ytnkfdnehkihbeaa
