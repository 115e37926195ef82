/- The program's GetSnap and GetHard, each by its contract. -/
import Derived.Test.YtipggjmndlaehaaEntProgE
import Derived.Test.YtipggjmndlaehaaEntRefJ
namespace Go.Proofs.Ytipggjmndlaehaa
open Go.RowKit
set_option linter.unusedVariables false
set_option linter.unusedSimpArgs false

set_option maxRecDepth 100000 in
set_option maxHeartbeats 3200000 in
theorem getS_any (w : World) (i : Nat) (s : St) (Z : Nat → Prop) (h : In w i s Z) (hZ : ∀ k, w.heap.size ≤ k → Z k) (hL : left s ≤ 140737488355328) :
    Calls Try.prog 29 #[.pointer (some ⟨i, 0, none⟩)] w fun e w' => ∃ D n c, e = .returned (entV (fromN snapB s 50000).i (fromN snapB s 50000).t D n c) ∧ Lies w' D n c (fromN snapB s 50000).d ∧ (0 < n → ∀ g off, D = some ⟨g, off, none⟩ → w.heap.size ≤ g) ∧ In w' i (fromN snapB s 50000).s Z ∧ Keeps Z w w' := by
  have h1 := h.below ((Below.refl w.heap.size w).alloc (Nat.le_refl _) (.cells #[.int .i64 0, .int .i64 0, .slice none 0 0] 27)) (Nat.le_refl _)
  have hr1 := heap_alloc_new w (.cells #[.int .i64 0, .int .i64 0, .slice none 0 0] 27)
  have hk1 : Keeps Z w (w.alloc (.cells #[.int .i64 0, .int .i64 0, .slice none 0 0] 27)) := keeps_alloc _ _
  have hs1 : (w.alloc (.cells #[.int .i64 0, .int .i64 0, .slice none 0 0] 27)).heap.size = w.heap.size + 1 := by simp
  have hzb : Z w.heap.size := hZ _ (Nat.le_refl _)
  have hib : i ≠ w.heap.size := Nat.ne_of_lt h.lt
  have hT := fun W (hW : In W i s Z) (hZ : ∀ k, W.heap.size ≤ k → Z k) => take3_any W i s Z 50000 (by omega) hW hZ hL
  unfold fromN
  generalize takenN s 50000 = T at *
  obtain ⟨ti, tt, td, ts⟩ := T
  dsimp only at *
  obtain ⟨R, hR⟩ : ∃ R : FromL, R = if ts = none then ⟨0, 0, [], none⟩ else if snapB ti tt td.length = true then ⟨ti, tt, td, ts⟩ else ⟨0, 0, [], none⟩ := ⟨_, rfl⟩
  rw [← hR]
  clear hL h
  go_enter Try.func29, Try.ntmps29
  go_wp2_with fail
  refine (hT _ h1 (fun k hk => hZ k (by omega))).mono ?_
  rintro e w1 ⟨D, n, c, rfl, hl1, hD1, h2, k2⟩
  have hr2 := (k2.block w.heap.size (by omega) hzb).trans hr1
  have hlb : w.heap.size < w1.heap.size := hlt hr2
  have hD0 : 0 < n → ∀ g off, D = some ⟨g, off, none⟩ → w.heap.size < g := fun h0 g off e => by have := hD1 h0 g off e; omega
  have hDz : 0 < n → ∀ g off, D = some ⟨g, off, none⟩ → Z g := fun h0 g off e => hZ g (Nat.le_of_lt (hD0 h0 g off e))
  have hkw1 : Keeps Z w w1 := hk1.trans k2
  have hn := hl1.1
  rw [hn] at hR
  have hZ1 : Z w1.heap.size := hZ _ (Nat.le_of_lt hlb)
  clear hT h1 k2 hk1 hr1 hs1 hD1 hn
  -- the entry in a block of its own
  have hA1 := (Below.refl w1.heap.size w1).alloc (Nat.le_refl _) (.cells #[.int .i64 ti, .int .i64 tt, .slice D n c] 27)
  have h3 := h2.below hA1 (Nat.le_refl _)
  have hr3 := (hA1.block w.heap.size hlb).trans hr2
  have hq3 := heap_alloc_new w1 (.cells #[.int .i64 ti, .int .i64 tt, .slice D n c] 27)
  have hl3 := hl1.below hA1 (Nat.le_refl _)
  have hkw3 : Keeps Z w (w1.alloc (.cells #[.int .i64 ti, .int .i64 tt, .slice D n c] 27)) := hkw1.trans (keeps_alloc _ _)
  clear h2 hl1 hA1 hr2 hkw1
  have hP := fun W => snapP_is ti tt D n c W
  generalize snapB ti tt n = r at *
  obtain ⟨⟨a0, a1, a2⟩, _⟩ := row3 hq3
  go_wp2_with fail
  refine (hP _).mono ?_
  rintro e w2 ⟨rfl, hb2⟩
  have h4 := h3.below hb2 (Nat.le_refl _)
  have hr4 := (hb2.block _ (hlt hr3)).trans hr3
  have hq4 := (hb2.block _ (hlt hq3)).trans hq3
  have hl4 := hl3.below hb2 (Nat.le_refl _)
  have hkw4 : Keeps Z w w2 := hkw3.trans (keeps_below hb2 (Nat.le_refl _))
  clear h3 hr3 hq3 hl3 hkw3 hb2 a0 a1 a2 hP
  have hS := sound_any r w2 i ts Z h4
  go_wp2_with fail
  refine hS.mono ?_
  rintro e w3 ⟨rfl, h5, k5⟩
  have hr5 := (k5.block _ (hlt hr4) hzb).trans hr4
  have hq5 := (k5.block _ (hlt hq4) hZ1).trans hq4
  have hl5 := hl4.keeps k5 hDz
  have hkw5 : Keeps Z w w3 := hkw4.trans k5
  clear hS h4 hr4 hq4 hl4 hkw4 k5
  obtain ⟨⟨a0, a1, a2⟩, ⟨f0, f1, f2⟩⟩ := row3 hr5
  obtain ⟨⟨b0, b1, b2⟩, _⟩ := row3 hq5
  by_cases hyes : r = true ∧ ∃ sl, ts = some sl
  · obtain ⟨rfl, sl, rfl⟩ := hyes
    rw [if_neg (by simp), if_pos rfl] at hR
    rw [if_pos rfl] at h5
    have hfin := Set3.fin (.int .i64 ti) (.int .i64 tt) (.slice D n c) hib hr5 h5 hzb hl5 hD0
    have HR := Lib.hid hR
    clear hR hr5 hq5 h5 hl5
    simp only [Option.isSome, Bool.true_and] at *
    go_wp2
    generalize hX : ((w3.setCell ⟨w.heap.size, 0, none⟩ (.int .i64 ti)).setCell ⟨w.heap.size, 1, none⟩ (.int .i64 tt)).setCell ⟨w.heap.size, 2, none⟩ (.slice D n c) = X at *
    refine bodyPost_ret (res_cell (n := w.heap.size) rfl rfl hfin.row Try.underlying27 rfl (by kernel_rfl)) rfl ?_
    have e : R = _ := HR
    rw [e]
    exact ⟨D, n, c, rfl, hfin.lies, fun h0 g off e => Nat.le_of_lt (hD0 h0 g off e), hfin.inn, hkw5.own3 hfin.keeps⟩
  · have hno : (r && ts.isSome) = false := by
      cases r with
      | false => rfl
      | true =>
        cases ts with
        | none => rfl
        | some l => exact absurd ⟨rfl, l, rfl⟩ hyes
    have hRz : R = ⟨0, 0, [], none⟩ := by
      rw [hR]
      cases r with
      | false => split <;> rfl
      | true =>
        cases ts with
        | none => rfl
        | some l => exact absurd ⟨rfl, l, rfl⟩ hyes
    have hsz : (if r = true then ts else none) = none := by
      cases r with
      | false => rfl
      | true =>
        cases ts with
        | none => rfl
        | some l => exact absurd ⟨rfl, l, rfl⟩ hyes
    rw [hsz] at h5
    have hfin := Set3.fin (.int .i64 0) (.int .i64 0) (.slice none 0 0) hib hr5 h5 hzb (Lies.nil w3) (fun h0 => absurd h0 (by omega))
    have HR := Lib.hid hRz
    clear hR hr5 hq5 h5 hl5 hyes hsz hRz
    generalize (r && ts.isSome) = q at *
    subst hno
    go_wp2
    generalize hX : ((w3.setCell ⟨w.heap.size, 0, none⟩ (.int .i64 0)).setCell ⟨w.heap.size, 1, none⟩ (.int .i64 0)).setCell ⟨w.heap.size, 2, none⟩ (.slice none 0 0) = X at *
    refine bodyPost_ret (res_cell (n := w.heap.size) rfl rfl hfin.row Try.underlying27 rfl (by kernel_rfl)) rfl ?_
    have e : R = _ := HR
    rw [e]
    exact ⟨none, 0, 0, rfl, hfin.lies, fun h0 => absurd h0 (by omega), hfin.inn, hkw5.own3 hfin.keeps⟩

end Go.Proofs.Ytipggjmndlaehaa
