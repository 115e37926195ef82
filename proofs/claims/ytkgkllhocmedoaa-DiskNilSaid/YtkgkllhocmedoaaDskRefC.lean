/- The document's burn, may, done, each by its contract. -/
import Derived.Test.YtkgkllhocmedoaaDskRefB
import Derived.Deep.RegionWith
import Derived.Deep.RegionHeld3
namespace Go.Proofs.Ytkgkllhocmedoaa
open Go.RowKit
set_option linter.unusedVariables false
set_option linter.unusedSimpArgs false

theorem burn_l (D : Dsk) : D.burn.l = D.l := by
  unfold Dsk.burn; split
  · rfl
  · split <;> rfl
theorem burn_room (D : Dsk) : D.burn.room = D.room := by
  unfold Dsk.burn; split
  · rfl
  · split <;> rfl

set_option maxRecDepth 100000 in
set_option maxHeartbeats 3200000 in
theorem burnR_any (A : Option Addr) (cap : Nat) (D : Dsk) (w : World) (hn : -9223372036854775808 ≤ D.n ∧ D.n ≤ 9223372036854775807) :
    Calls Try.prog 51 #[diskV A cap D] w fun e w' => e = .returned (diskV A cap D.burn) ∧ Below w.heap.size w w' := by
  obtain ⟨room, l, set, n, lost⟩ := D
  dsimp only at *
  have hb : ∀ a b, Below w.heap.size w ((w.alloc a).alloc b) := fun a b => ((Below.refl _ _).alloc (Nat.le_refl _) _).alloc (by simp) _
  obtain ⟨h1, h2⟩ := hn
  cases set with
  | false =>
    have HD : Hid (Dsk.burn ⟨room, l, false, n, lost⟩ = ⟨room, l, false, n, lost⟩) := ⟨rfl⟩
    go_enter Try.func51, Try.ntmps51
    go_wp2
    refine bodyPost_ret (res_cell (n := w.heap.size + 1) rfl rfl (heap_alloc2_new _ _ _) Try.underlying31 rfl (by kernel_rfl)) rfl ?_
    exact ⟨by rw [HD.out], hb _ _⟩
  | true =>
    by_cases hz : n = 0
    · subst hz
      have HD : Hid (Dsk.burn ⟨room, l, true, 0, lost⟩ = ⟨room, l, true, 0, true⟩) := ⟨rfl⟩
      go_enter Try.func51, Try.ntmps51
      go_wp2
      refine bodyPost_ret (res_cell (n := w.heap.size + 1) rfl rfl (heap_alloc2_new _ _ _) Try.underlying31 rfl (by kernel_rfl)) rfl ?_
      exact ⟨by rw [HD.out], hb _ _⟩
    · have hz' : (n == 0) = false := by simpa using hz
      by_cases hp : 0 < n
      · have HD : Hid (Dsk.burn ⟨room, l, true, n, lost⟩ = ⟨room, l, true, n - 1, lost⟩) := ⟨by simp [Dsk.burn, hz, hp]⟩
        clear hz
        go_enter Try.func51, Try.ntmps51
        go_wp2
        refine bodyPost_ret (res_cell (n := w.heap.size + 1) rfl rfl (heap_alloc2_new _ _ _) Try.underlying31 rfl (by kernel_rfl)) rfl ?_
        exact ⟨by rw [HD.out], hb _ _⟩
      · have HD : Hid (Dsk.burn ⟨room, l, true, n, lost⟩ = ⟨room, l, true, n, lost⟩) := ⟨by simp [Dsk.burn, hz, hp]⟩
        clear hz
        go_enter Try.func51, Try.ntmps51
        go_wp2
        refine bodyPost_ret (res_cell (n := w.heap.size + 1) rfl rfl (heap_alloc2_new _ _ _) Try.underlying31 rfl (by kernel_rfl)) rfl ?_
        exact ⟨by rw [HD.out], hb _ _⟩

set_option maxHeartbeats 1000000 in
theorem mayR_any (A : Option Addr) (cap : Nat) (D : Dsk) (a b : ByteArray) (w : World) :
    Calls Try.prog 48 #[diskV A cap D, .string a, .string b] w fun e w' => e = .returned (.int .i64 ((D.may a b : Nat) : Int)) ∧ Below w.heap.size w w' := by
  obtain ⟨room, l, set, n, lost⟩ := D
  have hb : ∀ a, Below w.heap.size w (w.alloc a) := fun a => ((Below.refl _ _).alloc (Nat.le_refl _) _)
  have R1 := fun w => rightR_any a w
  have R2 := fun w => rightR_any b w
  cases lost with
  | true =>
    have HD : Hid (Dsk.may ⟨room, l, set, n, true⟩ a b = 5) := ⟨rfl⟩
    go_enter Try.func48, Try.ntmps48
    go_wp2
    go_ret
    exact ⟨by rw [HD.out]; rfl, hb _⟩
  | false =>
    have HD : Hid (Dsk.may ⟨room, l, set, n, false⟩ a b = if rightS a && rightS b then 0 else 1) := ⟨rfl⟩
    go_enter Try.func48, Try.ntmps48
    cases ha : rightS a with
    | false =>
      rw [ha] at R1
      have HE : Hid (Dsk.may ⟨room, l, set, n, false⟩ a b = 1) := ⟨by rw [HD.out, ha]; rfl⟩
      clear ha
      go_wp2_with fail
      refine (R1 _).mono ?_; rintro e w' ⟨rfl, rfl⟩
      go_wp2
      go_ret
      exact ⟨by rw [HE.out]; rfl, hb _⟩
    | true =>
      rw [ha] at R1
      cases hc : rightS b with
      | false =>
        rw [hc] at R2
        have HE : Hid (Dsk.may ⟨room, l, set, n, false⟩ a b = 1) := ⟨by rw [HD.out, ha, hc]; rfl⟩
        clear ha hc
        go_wp2_with fail
        refine (R1 _).mono ?_; rintro e w' ⟨rfl, rfl⟩
        go_wp2_with fail
        refine (R2 _).mono ?_; rintro e w' ⟨rfl, rfl⟩
        go_wp2
        go_ret
        exact ⟨by rw [HE.out]; rfl, hb _⟩
      | true =>
        rw [hc] at R2
        have HE : Hid (Dsk.may ⟨room, l, set, n, false⟩ a b = 0) := ⟨by rw [HD.out, ha, hc]; rfl⟩
        clear ha hc
        go_wp2_with fail
        refine (R1 _).mono ?_; rintro e w' ⟨rfl, rfl⟩
        go_wp2_with fail
        refine (R2 _).mono ?_; rintro e w' ⟨rfl, rfl⟩
        go_wp2
        go_ret
        exact ⟨by rw [HE.out]; rfl, hb _⟩

theorem putF_len (l : List Fil) (f : Fil) : (putF l f).length ≤ 2 * l.length + 1 := by
  have h1 := List.length_filter_le (fun g : Fil => ltS g.name f.name) l
  have h2 := List.length_filter_le (fun g : Fil => ltS f.name g.name) l
  unfold putF
  rw [List.length_append, List.length_append]
  split <;> simp <;> omega

set_option maxRecDepth 100000 in
set_option maxHeartbeats 6400000 in
theorem doneR_any (A : Option Addr) (cap : Nat) (D : Dsk) (f : Fil) (gone : ByteArray) (w : World) (h : RF w A cap D.l) (hl : D.l.length ≤ 400000000) (hn : -9223372036854775808 ≤ D.n ∧ D.n ≤ 9223372036854775807) :
    Calls Try.prog 52 #[diskV A cap D, filV f, .string gone] w fun e w' => ∃ A' cap', e = .returned (.tuple #[diskV A' cap' (D.done f gone).1, .int .i64 (((D.done f gone).2 : Nat) : Int)]) ∧ Got w A cap D.l w' A' cap' (D.done f gone).1.l := by
  obtain ⟨W, hW⟩ : ∃ W, W = ((w.alloc (.cells (diskC A cap D) 31)).alloc (.cells (filC f) 43)).alloc (.cells #[.int .i64 0, .slice none 0 0, .bool false, .int .i64 0, .bool false] 31) := ⟨_, rfl⟩
  have hbW : Below w.heap.size w W := by rw [hW]; exact (((Below.refl _ _).alloc (Nat.le_refl _) _).alloc (by simp) _).alloc (by simp; omega) _
  have hsW : W.heap.size = w.heap.size + 3 := by rw [hW]; simp
  have hm0 : W.heap[w.heap.size]? = some (.cells (diskC A cap D) 31) := by
    rw [hW, Below.heap_alloc _ _ _ (by simp; omega), Below.heap_alloc _ _ _ (by simp)]; exact heap_alloc_new _ _
  have hm1 : W.heap[w.heap.size + 1]? = some (.cells (filC f) 43) := by
    rw [hW, Below.heap_alloc _ _ _ (by simp)]; exact heap_alloc2_new _ _ _
  have hm2 : W.heap[w.heap.size + 1 + 1]? = some (.cells #[.int .i64 0, .slice none 0 0, .bool false, .int .i64 0, .bool false] 31) := by
    have := heap_alloc_new ((w.alloc (.cells (diskC A cap D) 31)).alloc (.cells (filC f) 43)) (.cells #[.int .i64 0, .slice none 0 0, .bool false, .int .i64 0, .bool false] 31)
    rw [World.size_alloc, World.size_alloc] at this
    rw [hW]; exact this
  have hB := burnR_any A cap D W hn
  have hel := burn_l D
  have hDone : Hid (D.done f gone = if D.burn.lost then (D.burn, 5) else ({ D.burn with l := putF (putF D.burn.l ⟨gone, ByteArray.empty, 0⟩) f }, 0)) := ⟨rfl⟩
  generalize D.done f gone = R at hDone ⊢
  generalize D.burn = E at hB hel hDone
  obtain ⟨eroom, el, eset, en, elost⟩ := E
  obtain ⟨room, l, set, n, lost⟩ := D
  obtain ⟨fname, fb, fsafe⟩ := f
  dsimp only at *
  obtain rfl := hel
  go_enter Try.func52, Try.ntmps52
  go_upto_if 11 with (first
    | (go_at_call 51
       rw [← hW]
       refine hB.mono ?_
       rintro e w1 ⟨rfl, hb1⟩
       have m0 := (hb1.block _ (by omega)).trans hm0
       have m1 := (hb1.block _ (by omega)).trans hm1
       have m2 := (hb1.block _ (by omega)).trans hm2
       obtain ⟨⟨a0, a1, a2, a3, a4⟩, ⟨b0, b1, b2, b3, b4⟩⟩ := row5 m0)
    | fail)
  obtain ⟨X, hX⟩ : ∃ X, X = ((((w1.setCell ⟨w.heap.size, 0, none⟩ (.int .i64 eroom)).setCell ⟨w.heap.size, 1, none⟩ (.slice A el.length cap)).setCell ⟨w.heap.size, 2, none⟩ (.bool eset)).setCell ⟨w.heap.size, 3, none⟩ (.int .i64 en)).setCell ⟨w.heap.size, 4, none⟩ (.bool elost) := ⟨_, rfl⟩
  have x0 : X.heap[w.heap.size]? = some (.cells #[.int .i64 eroom, .slice A el.length cap, .bool eset, .int .i64 en, .bool elost] 31) := by rw [hX]; exact set5_at _ _ _ _ _ _ _ _ _ _ _ _ _ m0
  have xo : ∀ k, k ≠ w.heap.size → X.heap[k]? = w1.heap[k]? := fun k hk => by
    rw [hX]; simp only [Below.heap_setCell _ _ _ _ (show k ≠ (⟨w.heap.size, 0, none⟩ : Addr).block from hk), Below.heap_setCell _ _ _ _ (show k ≠ (⟨w.heap.size, 1, none⟩ : Addr).block from hk), Below.heap_setCell _ _ _ _ (show k ≠ (⟨w.heap.size, 2, none⟩ : Addr).block from hk), Below.heap_setCell _ _ _ _ (show k ≠ (⟨w.heap.size, 3, none⟩ : Addr).block from hk), Below.heap_setCell _ _ _ _ (show k ≠ (⟨w.heap.size, 4, none⟩ : Addr).block from hk)]
  have x1 := (xo (w.heap.size + 1) (by omega)).trans m1
  have x2 := (xo (w.heap.size + 1 + 1) (by omega)).trans m2
  have hbX : Below w.heap.size w X := by
    rw [hX]
    repeat (refine Below.setCell ?_ (by show w.heap.size ≤ w.heap.size; exact Nat.le_refl _) _)
    exact hbW.trans (hb1.mono hbW.size)
  have hxs : w.heap.size + 3 ≤ X.heap.size := by rw [hX]; simp only [World.size_setCell]; have := hb1.size; omega
  rw [← hX]
  have hR := h.below hbX (Nat.le_refl _)
  clear hX xo m0 m1 m2 a0 a1 a2 a3 a4 b0 b1 b2 b3 b4 hb1 hm0 hm1 hm2 hW hbW hsW hB
  obtain ⟨⟨a0, a1, a2, a3, a4⟩, ⟨b0, b1, b2, b3, b4⟩⟩ := row5 x0
  obtain ⟨⟨c0, c1, c2, c3, c4⟩, ⟨d0, d1, d2, d3, d4⟩⟩ := row5 x2
  obtain ⟨⟨p0, p1, p2⟩, ⟨q0, q1, q2⟩⟩ := row3 x1
  cases elost with
  | true =>
    rw [if_pos rfl] at hDone
    have HX2 := Lib.hid x2
    clear x0 x1 x2
    go_wp2
    refine bodyPost_ret (res_cell_tmp' (n := w.heap.size + 1 + 1) rfl rfl (set5_at _ _ _ _ _ _ _ _ _ _ _ _ _ HX2.out) Try.underlying31 rfl (by kernel_rfl)) rfl ?_
    rw [hDone.out]
    have hbF : ∀ u0 u1 u2 u3 u4, Below w.heap.size w (((((X.setCell ⟨w.heap.size + 1 + 1, 0, none⟩ u0).setCell ⟨w.heap.size + 1 + 1, 1, none⟩ u1).setCell ⟨w.heap.size + 1 + 1, 2, none⟩ u2).setCell ⟨w.heap.size + 1 + 1, 3, none⟩ u3).setCell ⟨w.heap.size + 1 + 1, 4, none⟩ u4) := fun u0 u1 u2 u3 u4 => by
      repeat (refine Below.setCell ?_ (by show w.heap.size ≤ w.heap.size + 1 + 1; omega) _)
      exact hbX
    exact ⟨A, cap, rfl, Got.same (hbF _ _ _ _ _)⟩
  | false =>
    rw [if_neg (by decide)] at hDone
    have P1 := putR_any A cap ⟨eroom, el, eset, en, false⟩ ⟨gone, ByteArray.empty, 0⟩
    have hlp : (putF el ⟨gone, ByteArray.empty, 0⟩).length ≤ 1000000000 := Nat.le_trans (putF_len _ _) (by simp; omega)
    have P2 := fun (A' : Option Addr) (cap' : Nat) => putR_any A' cap' ⟨eroom, putF el ⟨gone, ByteArray.empty, 0⟩, eset, en, false⟩ ⟨fname, fb, fsafe⟩
    dsimp only at P1 P2
    generalize putF el ⟨gone, ByteArray.empty, 0⟩ = el2 at *
    go_wp2
    go_region_with (first
      | (go_at_call_of 50 (Value.slice A el.length cap)
         refine (P1 _ (h.below hbX.drew (Nat.le_refl _)) (by omega)).mono ?_
         rintro e w2 ⟨A2, cap2, rfl, hr2, hn2, hb2⟩
         have y1 := (hb2.block _ (by show w.heap.size + 1 < X.heap.size; omega)).trans x1
         have y2 := (hb2.block _ (by show w.heap.size + 1 + 1 < X.heap.size; omega)).trans x2
         have hbY : Below w.heap.size w w2 := hbX.drew.trans (hb2.mono (by show w.heap.size ≤ X.heap.size; omega))
         have hys : w.heap.size + 3 ≤ w2.heap.size := Nat.le_trans hxs hb2.size
         obtain ⟨⟨r0, r1, r2⟩, _⟩ := row3 y1)
      | (go_at_call 50
         refine (P2 A2 cap2 _ hr2 hlp).mono ?_
         rintro e w3 ⟨A3, cap3, rfl, hr3, hn3, hb3⟩
         have z2 := (hb3.block _ (by omega)).trans y2
         have hbZ : Below w.heap.size w w3 := hbY.trans (hb3.mono (by omega))
         have hzs : w.heap.size + 3 ≤ w3.heap.size := Nat.le_trans hys hb3.size
         obtain ⟨⟨k0, k1, k2, k3, k4⟩, ⟨l0, l1, l2, l3, l4⟩⟩ := row5 z2))
    all_goals
      go_wp2
      refine bodyPost_ret (res_cell_tmp' (n := w.heap.size + 1 + 1) rfl rfl (set5_at _ _ _ _ _ _ _ _ _ _ _ _ _ z2) Try.underlying31 rfl (by kernel_rfl)) rfl ?_
      rw [hDone.out]
      refine ⟨A3, cap3, rfl, ?_, .inr ⟨hr3.keepN hn3 (by simp) (fun g h1 h2 => ?_), hn3.mono (Nat.le_trans (by omega) hys)⟩⟩
      · repeat (refine Below.setCell ?_ (by show w.heap.size ≤ w.heap.size + 1 + 1; omega) _)
        exact hbZ
      · repeat (refine (Below.heap_setCell _ _ _ _ (by show g ≠ w.heap.size + 1 + 1; omega)).trans ?_)
        rfl

end Go.Proofs.Ytkgkllhocmedoaa
