/- The program's Get, by its contract. -/
import Derived.Test.YtlojjodgoeclfaaRmsGet
namespace Go.Proofs.Ytlojjodgoeclfaa
open Go.RowKit
set_option linter.unusedVariables false
set_option linter.unusedSimpArgs false

set_option maxRecDepth 100000 in
set_option maxHeartbeats 3200000 in
theorem getM_any (w : World) (p : Nat) (s : St) (Z : Nat → Prop) (h : In w p s Z) (hZ : ∀ k, w.heap.size ≤ k → Z k) (hL : left s ≤ 140737488355328) :
    Calls Try.prog 18 #[.pointer (some ⟨p, 0, none⟩)] w fun e w' => ∃ A cA E cE, e = .returned (msgV (fromM s).1 A cA E cE) ∧ MsgIn w' (fun k => w.heap.size ≤ k) (fromM s).1 A cA E cE ∧ In w' p (fromM s).2 Z ∧ Keeps Z w w' := by
  have hA0 := (Below.refl w.heap.size w).alloc (Nat.le_refl _) (.cells (mC 0 0 0 0 0 0 0 0 false none 0 0 0 0 none 0 0) 30)
  have hI := h.below hA0 (Nat.le_refl _)
  have hr0 := heap_alloc_new w (.cells (mC 0 0 0 0 0 0 0 0 false none 0 0 0 0 none 0 0) 30)
  have hk : Keeps Z w (w.alloc (.cells (mC 0 0 0 0 0 0 0 0 false none 0 0 0 0 none 0 0) 30)) := keeps_alloc _ _
  have hzb : Z w.heap.size := hZ _ (Nat.le_refl _)
  have hs0 : (w.alloc (.cells (mC 0 0 0 0 0 0 0 0 false none 0 0 0 0 none 0 0) 30)).heap.size = w.heap.size + 1 := by simp
  have hT := takeM_any _ p s Z hI (fun k hk => hZ k (by omega)) hL
  rw [hs0] at hT
  obtain ⟨F, hF⟩ : ∃ F, fromM s = F := ⟨_, rfl⟩
  rw [hF]
  unfold fromM at hF
  generalize takeM s = TK at *
  obtain ⟨m, ts⟩ := TK
  obtain ⟨FM, FS⟩ := F
  dsimp only at *
  have hRP := fun W A cA E cE (hM : MsgIn W (fun k => w.heap.size + 1 ≤ k) m A cA E cE) => rightMP_any m A cA E cE W _ hM
  generalize rightM m = q at *
  obtain ⟨k, f, o, t, i, l, c, x, b, es, si, st, sd⟩ := m
  dsimp only [msgV] at *
  clear h hA0 hI hL
  go_enter Try.func18, Try.ntmps18
  go_wp2_with fail
  refine hT.mono ?_
  rintro e w1 ⟨A, cA, E, cE, rfl, hM1, hI1, k1⟩
  have hr1 := (k1.block _ (by omega) hzb).trans hr0
  have hk1 := hk.trans k1
  have hA := (Below.refl w1.heap.size w1).alloc (Nat.le_refl _) (.cells (mC k f o t i l c x b A es.length cA si st E sd.length cE) 30)
  have hq2 := heap_alloc_new w1 (.cells (mC k f o t i l c x b A es.length cA si st E sd.length cE) 30)
  have hr2 := (hA.block _ (hlt hr1)).trans hr1
  have hM2 := hM1.below hA (Nat.le_refl _)
  have hI2 := hI1.below hA (Nat.le_refl _)
  have hk2 := hk1.trans (keeps_below hA (Nat.le_refl _))
  have hne : w.heap.size < w1.heap.size := hlt hr1
  have hR := hRP _ A cA E cE hM2
  clear hT hRP hM1 hI1 k1 hk hk1 hr0 hr1 hA hs0
  obtain ⟨⟨a0, a1, a2, a3, a4, a5, a6, a7, a8, a9, a10, a11, a12⟩, _⟩ := row13 hq2
  go_wp2_with fail
  refine hR.mono ?_
  rintro e w3 ⟨rfl, hb3⟩
  have hr3 := (hb3.block _ (hlt hr2)).trans hr2
  have hq3 := (hb3.block _ (hlt hq2)).trans hq2
  have hM3 := hM2.below hb3 (Nat.le_refl _)
  have hI3 := hI2.below hb3 (Nat.le_refl _)
  have hk3 := hk2.trans (keeps_below hb3 (Nat.le_refl _))
  clear hR hr2 hq2 hM2 hI2 hk2 hb3 a0 a1 a2 a3 a4 a5 a6 a7 a8 a9 a10 a11 a12
  cases q with
  | false =>
    rw [if_neg (by simp)] at hF
    obtain ⟨rfl, rfl⟩ := Prod.mk.inj hF
    clear hq3 hM3 hF
    go_wp2_with fail
    refine (fail_any w3 p ts Z hI3).mono ?_
    rintro e w4 ⟨rfl, hI4, k4⟩
    have hr4 := (k4.block _ (hlt hr3) hzb).trans hr3
    have hk4 := hk3.trans k4
    have hB := bad_any w4 p none Z hI4
    clear hr3 hI3 hk3 k4
    go_wp2_with fail
    refine hB.mono ?_
    rintro e w5 ⟨rfl, rfl⟩
    clear hB
    have hstf := set1_row (mC 0 0 0 0 0 0 0 0 false none 0 0 0 0 none 0 0) hr4 hI4 hzb
    go_wp2_with (refine wpList_store_row rfl _ _ _ rfl w.heap.size (mC 0 0 0 0 0 0 0 0 false none 0 0 0 0 none 0 0) (by rfl) (by rfl) _ _ hr4 (by kernel_rfl) rfl (by first | rfl | kernel_rfl | simp [Value.oneCell']) ?_)
    generalize hY : World.setRow _ _ _ = Y at *
    go_wp2
    refine bodyPost_ret (res_cell (n := w.heap.size) rfl rfl hstf.row Try.underlying30 rfl (by kernel_rfl)) rfl ?_
    exact ⟨none, 0, none, 0, rfl, MsgIn.zero _ _, hstf.inn, hk4.newer hstf.keeps (Nat.le_refl _)⟩
  | true =>
    have hB := bad_any w3 p ts Z hI3
    cases ts with
    | none =>
      rw [if_neg (by simp)] at hF
      obtain ⟨rfl, rfl⟩ := Prod.mk.inj hF
      clear hq3 hM3 hF
      go_wp2_with fail
      refine hB.mono ?_
      rintro e w5 ⟨rfl, rfl⟩
      clear hB
      have hstf := set1_row (mC 0 0 0 0 0 0 0 0 false none 0 0 0 0 none 0 0) hr3 hI3 hzb
      go_wp2_with (refine wpList_store_row rfl _ _ _ rfl w.heap.size (mC 0 0 0 0 0 0 0 0 false none 0 0 0 0 none 0 0) (by rfl) (by rfl) _ _ hr3 (by kernel_rfl) rfl (by first | rfl | kernel_rfl | simp [Value.oneCell']) ?_)
      generalize hY : World.setRow _ _ _ = Y at *
      go_wp2
      refine bodyPost_ret (res_cell (n := w.heap.size) rfl rfl hstf.row Try.underlying30 rfl (by kernel_rfl)) rfl ?_
      exact ⟨none, 0, none, 0, rfl, MsgIn.zero _ _, hstf.inn, hk3.newer hstf.keeps (Nat.le_refl _)⟩
    | some sl =>
      rw [if_pos ⟨by simp, rfl⟩] at hF
      obtain ⟨rfl, rfl⟩ := Prod.mk.inj hF
      clear hF
      go_wp2_with fail
      refine hB.mono ?_
      rintro e w5 ⟨rfl, rfl⟩
      clear hB
      obtain ⟨⟨a0, a1, a2, a3, a4, a5, a6, a7, a8, a9, a10, a11, a12⟩, _⟩ := row13 hq3
      have hstf := set1_row (mC k f o t i l c x b A es.length cA si st E sd.length cE) hr3 hI3 hzb
      go_wp2_with (refine wpList_store_row rfl _ _ _ rfl w.heap.size (mC k f o t i l c x b A es.length cA si st E sd.length cE) (by rfl) (by rfl) _ _ hr3 (by kernel_rfl) rfl (by first | rfl | kernel_rfl | simp [Value.oneCell']) ?_)
      generalize hY : World.setRow _ _ _ = Y at *
      go_wp2
      refine bodyPost_ret (res_cell (n := w.heap.size) rfl rfl hstf.row Try.underlying30 rfl (by kernel_rfl)) rfl ?_
      exact ⟨A, cA, E, cE, rfl, (hM3.keep (Nat.le_of_eq hstf.size.symm) fun k hk1 hk2 => hstf.keeps.block k hk1 (by omega)).mono fun k hk => Nat.le_of_succ_le hk, hstf.inn, hk3.newer hstf.keeps (Nat.le_refl _)⟩

end Go.Proofs.Ytlojjodgoeclfaa
