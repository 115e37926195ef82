/- The document's SnapFrom, by its contract. -/
import Derived.Test.YtlojjodgoeclfaaEntRefH
namespace Go.Proofs.Ytlojjodgoeclfaa
open Go.RowKit
set_option linter.unusedVariables false
set_option linter.unusedSimpArgs false

set_option maxRecDepth 100000 in
set_option maxHeartbeats 3200000 in
theorem snapFromR_any (A : Option Addr) (cap : Nat) (s : St) (w : World) (hL : left s ≤ 140737488355328) (h : RLies w A cap s) :
    Calls Try.prog 56 #[inv A cap s] w fun e w' => ∃ D n c A' cap', e = .returned (.tuple #[entV (fromN snapB s 50000).i (fromN snapB s 50000).t D n c, inv A' cap' (fromN snapB s 50000).s]) ∧ Lies w' D n c (fromN snapB s 50000).d ∧ (0 < n → ∀ g off, D = some ⟨g, off, none⟩ → w.heap.size ≤ g) ∧ (∀ w0, RLies w0 A cap s → RLies w0 A' cap' (fromN snapB s 50000).s) ∧ Below w.heap.size w w' := by
  have h2 : Three3 25 w (((w.alloc (.cells #[.slice A (left s) cap, .bool s.isNone] 48)).alloc (.cells #[.int .i64 0, .int .i64 0, .slice none 0 0] 25)).alloc (.cells #[.slice none 0 0, .bool false] 48)) w.heap.size #[.slice A (left s) cap, .bool s.isNone] #[.int .i64 0, .int .i64 0, .slice none 0 0] #[.slice none 0 0, .bool false] :=
    ⟨(Below.heap_alloc _ _ _ (by simp; omega)).trans ((Below.heap_alloc _ _ _ (by simp)).trans (heap_alloc_new _ _)), (Below.heap_alloc _ _ _ (by simp)).trans (heap_alloc2_new _ _ _), by
      have := heap_alloc_new ((w.alloc (.cells #[.slice A (left s) cap, .bool s.isNone] 48)).alloc (.cells #[.int .i64 0, .int .i64 0, .slice none 0 0] 25)) (.cells #[.slice none 0 0, .bool false] 48)
      rwa [World.size_alloc, World.size_alloc] at this, (((Below.refl _ _).alloc (Nat.le_refl _) _).alloc (by simp) _).alloc (by simp; omega) _, Nat.le_refl _⟩
  have hT := fun W (hW : Below w.heap.size w W) => takenR_any A cap s W 50000 (by omega) hL (h.below hW (Nat.le_refl _))
  unfold fromN
  generalize takenN s 50000 = T at *
  obtain ⟨ti, tt, td, ts⟩ := T
  dsimp only at *
  obtain ⟨R, hR⟩ : ∃ R : FromL, R = if ts = none then ⟨0, 0, [], none⟩ else if snapB ti tt td.length = true then ⟨ti, tt, td, ts⟩ else ⟨0, 0, [], none⟩ := ⟨_, rfl⟩
  rw [← hR]
  simp only [inv] at *
  clear hL
  have HH := Lib.hid h
  have hleft : ∀ W, Below w.heap.size w W → RLies W A cap s := fun W hW => h.below hW (Nat.le_refl _)
  clear h
  generalize left s = nS at *
  generalize s.isNone = bS at *
  go_enter Try.func56, Try.ntmps56
  go_wp2_with fail
  refine (hT _ h2.below).mono ?_
  rintro e w1 ⟨A1, c1, rfl, hr1, hb1⟩
  have h3 := h2.step hb1
  have z9 := hlt h3.r2
  obtain ⟨⟨a0, a1⟩, ⟨f0, f1⟩⟩ := row2 h3.r0
  clear h2 hb1 hT
  have h4 := h3.store (.slice A1 (left ts) c1) (.bool ts.isNone)
  obtain ⟨c4, W4, hcv, hl4, hb4, hs4⟩ := conv_bytes ((w1.setCell ⟨w.heap.size, 0, none⟩ (.slice A1 (left ts) c1)).setCell ⟨w.heap.size, 1, none⟩ (.bool ts.isNone)) ⟨td.toArray⟩
  have h5 := h4.step hb4
  have hz4 : (⟨td.toArray⟩ : ByteArray).size = td.length := rfl
  have hd4 : (⟨td.toArray⟩ : ByteArray).data.toList = td := rfl
  rw [hz4] at hcv hl4
  have hsz : ((w1.setCell ⟨w.heap.size, 0, none⟩ (.slice A1 (left ts) c1)).setCell ⟨w.heap.size, 1, none⟩ (.bool ts.isNone)).heap.size = w1.heap.size := by simp
  rw [hsz] at hl4
  clear hsz
  rw [hd4] at hl4
  obtain ⟨⟨b0, b1⟩, ⟨g0, g1⟩⟩ := row2 h5.r0
  obtain ⟨⟨b2, b3, b4⟩, ⟨g2, g3, g4⟩⟩ := row3 h5.r1
  obtain ⟨⟨b5, b6⟩, ⟨g5, g6⟩⟩ := row2 h5.r2
  have z0 := hlt h5.r0
  have z1 := hlt h5.r1
  have z2 := hlt h5.r2
  cases ts with
  | none =>
    rw [if_pos rfl] at hR
    have HR := Lib.hid hR
    clear hR
    simp only [left, Option.isNone] at *
    have hA4 : Below W4.heap.size W4 (W4.alloc (.cells #[.int .i64 ti, .int .i64 tt, .slice (some ⟨w1.heap.size, 0, none⟩) td.length c4] 25)) := (Below.refl W4.heap.size W4).alloc (Nat.le_refl _) _
    have h7 := (h5.fin (.int .i64 0) (.int .i64 0) (.slice none 0 0) (.slice none 0 0) (.bool true)).step ((Below.refl _ _).alloc (Nat.le_refl _) (.cells #[.int .i64 ti, .int .i64 tt, .slice (some ⟨w1.heap.size, 0, none⟩) td.length c4] 25))
    go_wp2
    refine bodyPost_ret (res_cell2 rfl _ _ (w.heap.size + 1) (w.heap.size + 1 + 1) _ _ _ _ _ _ rfl rfl h7.r1 h7.r2 Try.underlying25 Try.underlying48 rfl rfl (by kernel_rfl) (by kernel_rfl)) rfl ?_
    have e : R = _ := HR
    rw [e]
    exact ⟨none, 0, 0, none, 0, rfl, Lies.nil _, fun h0 => absurd h0 (by omega), fun w0 _ => RLies.bad w0, h7.below⟩
  | some sl =>
    rw [if_neg (by simp)] at hR
    have hRt := fun W => snapR_is ti tt (some ⟨w1.heap.size, 0, none⟩) td.length c4 W
    have h8 := h5.step ((Below.refl W4.heap.size W4).alloc (Nat.le_refl _) (.cells #[.int .i64 ti, .int .i64 tt, .slice (some ⟨w1.heap.size, 0, none⟩) td.length c4] 25))
    have hr8 := heap_alloc_new W4 (.cells #[.int .i64 ti, .int .i64 tt, .slice (some ⟨w1.heap.size, 0, none⟩) td.length c4] 25)
    have hl8 := hl4.below ((Below.refl W4.heap.size W4).alloc (Nat.le_refl _) (.cells #[.int .i64 ti, .int .i64 tt, .slice (some ⟨w1.heap.size, 0, none⟩) td.length c4] 25)) (Nat.le_refl _)
    have z8 : W4.heap.size < (W4.alloc (.cells #[.int .i64 ti, .int .i64 tt, .slice (some ⟨w1.heap.size, 0, none⟩) td.length c4] 25)).heap.size := by simp
    generalize snapB ti tt td.length = b at *
    cases b with
    | false =>
      rw [if_neg (by simp)] at hR
      have HR := Lib.hid hR
      clear hR
      simp only [Option.isNone] at *
      go_wp2_with fail
      refine (hRt _).mono ?_
      rintro e w6 ⟨rfl, hb6⟩
      have h9 := h8.step hb6
      obtain ⟨⟨d0, d1⟩, ⟨e0, e1⟩⟩ := row2 h9.r0
      obtain ⟨⟨d2, d3, d4⟩, ⟨e2, e3, e4⟩⟩ := row3 h9.r1
      obtain ⟨⟨d5, d6⟩, ⟨e5, e6⟩⟩ := row2 h9.r2
      have h7 := h9.fin (.int .i64 0) (.int .i64 0) (.slice none 0 0) (.slice none 0 0) (.bool true)
      clear hRt hcv
      go_wp2
      refine bodyPost_ret (res_cell2 rfl _ _ (w.heap.size + 1) (w.heap.size + 1 + 1) _ _ _ _ _ _ rfl rfl h7.r1 h7.r2 Try.underlying25 Try.underlying48 rfl rfl (by kernel_rfl) (by kernel_rfl)) rfl ?_
      have e : R = _ := HR
      rw [e]
      exact ⟨none, 0, 0, none, 0, rfl, Lies.nil _, fun h0 => absurd h0 (by omega), fun w0 _ => RLies.bad w0, h7.below⟩
    | true =>
      rw [if_pos rfl] at hR
      have HR := Lib.hid hR
      clear hR
      simp only [Option.isNone] at *
      go_wp2_with fail
      refine (hRt _).mono ?_
      rintro e w6 ⟨rfl, hb6⟩
      have h9 := h8.step hb6
      obtain ⟨⟨d0, d1⟩, ⟨e0, e1⟩⟩ := row2 h9.r0
      obtain ⟨⟨d2, d3, d4⟩, ⟨e2, e3, e4⟩⟩ := row3 h9.r1
      obtain ⟨⟨d5, d6⟩, ⟨e5, e6⟩⟩ := row2 h9.r2
      obtain ⟨⟨d7, d8, d9⟩, _⟩ := row3 ((hb6.block _ z8).trans hr8)
      have hl9 := hl8.below hb6 (Nat.le_refl _)
      have h7 := h9.fin (.int .i64 ti) (.int .i64 tt) (.slice (some ⟨w1.heap.size, 0, none⟩) td.length c4) (.slice A1 (left (some sl)) c1) (.bool false)
      clear hRt hcv
      go_wp2
      go_region
      all_goals
        go_wp2
        refine bodyPost_ret (res_cell2 rfl _ _ (w.heap.size + 1) (w.heap.size + 1 + 1) _ _ _ _ _ _ rfl rfl h7.r1 h7.r2 Try.underlying25 Try.underlying48 rfl rfl (by kernel_rfl) (by kernel_rfl)) rfl ?_
        have e : R = _ := HR
        rw [e]
        exact ⟨some ⟨w1.heap.size, 0, none⟩, td.length, c4, A1, c1, rfl, (hl9.fin5 z9 _ _ _ _ _).drew, fun _ g off eg => by injection eg with eg; injection eg with eg; subst eg; omega, fun w0 h0 => hr1 w0 h0, h7.below.drew⟩

end Go.Proofs.Ytlojjodgoeclfaa
