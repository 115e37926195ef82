/- VaultSaves' walk. (Written by mksav.py.) -/
import Derived.Test.YtmeoooojmhhahaaGreatVauSavA
import Derived.Deep.QuietTactic
namespace Go.Proofs.YtmeoooojmhhahaaGreat.vauSaves
open Go.ChangeShapes Go.WideShapes Go.ChangeAt Go.RowKit Go.Proofs.YtmeoooojmhhahaaGreat
set_option linter.unusedVariables false
set_option linter.unusedSimpArgs false

theorem wr_sum (a b m : Nat) (h : a + b = m) (hm : m ≤ 1000) : IntKind.i64.wrap ((a : Int) + (b : Int)) = (m : Int) ∧ wrap64 ((a : Int) + (b : Int)) = (m : Int) := by
  rw [IntWalk.wrap64_in _ (by omega), IntWalk.i64_in _ (by omega)]
  omega

theorem nm_facts (a b jj N M : Nat) (hN : a + jj = N) (hM : a + b = M) (hj : jj ≤ b) (ha : a ≤ 10) (hb : b ≤ 10) : IntKind.i64.wrap ((a : Int) + (b : Int)) = (M : Int) ∧ ((M < N) = False) ∧ (((M : Int) < (N : Int)) = False) ∧ ((N < a) = False) ∧ (((N : Int) < (a : Int)) = False) ∧ N ≤ M := by
  rw [IntWalk.i64_in _ (by omega)]
  exact ⟨by omega, eq_false (by omega), eq_false (by omega), eq_false (by omega), eq_false (by omega), by omega⟩

theorem hd_beq (a b : Hd) : (a.t == b.t && a.v == b.v) = decide (a = b) := by
  obtain ⟨at_, av⟩ := a
  obtain ⟨bt, bv⟩ := b
  by_cases h1 : at_ = bt <;> by_cases h2 : av = bv <;> simp [h1, h2]

set_option maxRecDepth 100000 in
set_option maxHeartbeats 6400000 in
theorem walk_no (h : Hd) (s : Ent) (B : Option Addr) (c : Nat) (A : Option Addr) (cap : Nat) (l : List Ent) (nx : Hd) (A2 : Option Addr) (cap2 : Nat) (more : List Ent) (fz : Nat) (kp : Int) (W : World) (hl : Lies W B s.d.length c s.d) (hE : Ents W (· < W.heap.size) A l.length cap l) (hE2 : Ents W (· < W.heap.size) A2 more.length cap2 more) (hm1 : l.length ≤ maxLen) (hm2 : more.length ≤ maxLen) (hd1 : ∀ e ∈ l, e.d.length ≤ 140737488355328) (hd2 : ∀ e ∈ more, e.d.length ≤ 140737488355328)
    (hno : fewE l 10 = false ∨ (fewE l 10 = true ∧ fewE more 10 = false) ∨ (fewE l 10 = true ∧ fewE more 10 = true ∧ 2000 < s.d.length) ∨ (fewE l 10 = true ∧ fewE more 10 = true ∧ s.d.length ≤ 2000 ∧ hardB h.t h.v = false) ∨ (fewE l 10 = true ∧ fewE more 10 = true ∧ s.d.length ≤ 2000 ∧ hardB h.t h.v = true ∧ hardB nx.t nx.v = false)) :
    Calls Tryz.prog 4 #[.agg #[.int .i64 h.t, .int .i64 h.v], entV s.i s.t B s.d.length c, .slice A l.length cap, .agg #[.int .i64 nx.t, .int .i64 nx.v], .slice A2 more.length cap2, .int .u8 (fz : Int), .int .i64 kp] W fun e w' => e = .returned (.bool true) ∧ Below W.heap.size W w' := by
  have hb0 : Below W.heap.size W (((W.alloc (.cells #[.int .i64 h.t, .int .i64 h.v] 32)).alloc (.cells #[.int .i64 s.i, .int .i64 s.t, .slice B s.d.length c] 35)).alloc (.cells #[.int .i64 nx.t, .int .i64 nx.v] 32)) := (((Below.refl _ _).alloc (Nat.le_refl _) _).alloc (by simp) _).alloc (by simp; omega) _
  have m0 : (((W.alloc (.cells #[.int .i64 h.t, .int .i64 h.v] 32)).alloc (.cells #[.int .i64 s.i, .int .i64 s.t, .slice B s.d.length c] 35)).alloc (.cells #[.int .i64 nx.t, .int .i64 nx.v] 32)).heap[W.heap.size]? = some (.cells #[.int .i64 h.t, .int .i64 h.v] 32) := (Below.heap_alloc _ _ _ (by simp; omega)).trans ((Below.heap_alloc _ _ _ (by simp)).trans (heap_alloc_new _ _))
  have m1 : (((W.alloc (.cells #[.int .i64 h.t, .int .i64 h.v] 32)).alloc (.cells #[.int .i64 s.i, .int .i64 s.t, .slice B s.d.length c] 35)).alloc (.cells #[.int .i64 nx.t, .int .i64 nx.v] 32)).heap[W.heap.size + 1]? = some (.cells #[.int .i64 s.i, .int .i64 s.t, .slice B s.d.length c] 35) := (Below.heap_alloc _ _ _ (by simp)).trans (heap_alloc2_new _ _ _)
  have m2 : (((W.alloc (.cells #[.int .i64 h.t, .int .i64 h.v] 32)).alloc (.cells #[.int .i64 s.i, .int .i64 s.t, .slice B s.d.length c] 35)).alloc (.cells #[.int .i64 nx.t, .int .i64 nx.v] 32)).heap[W.heap.size + 1 + 1]? = some (.cells #[.int .i64 nx.t, .int .i64 nx.v] 32) := by
    have := heap_alloc_new ((W.alloc (.cells #[.int .i64 h.t, .int .i64 h.v] 32)).alloc (.cells #[.int .i64 s.i, .int .i64 s.t, .slice B s.d.length c] 35)) (.cells #[.int .i64 nx.t, .int .i64 nx.v] 32)
    simp only [World.size_alloc] at this
    exact this
  have hF1 := fun w1 (hb : Below W.heap.size W w1) => fewR_any _ A l.length cap l 10 w1 (hE.below hb (Nat.le_refl _)) hm1 (by omega) hd1
  have hF2 := fun w1 (hb : Below W.heap.size W w1) => fewR_any _ A2 more.length cap2 more 10 w1 (hE2.below hb (Nat.le_refl _)) hm2 (by omega) hd2
  have hRH := fun W => hardR_is h.t h.v W
  have hRN := fun W => hardR_is nx.t nx.v W
  clear hl hE hE2 hm1 hm2 hd1 hd2
  rcases hno with h1 | ⟨h1, h2⟩ | ⟨h1, h2, h3⟩ | ⟨h1, h2, h3, h4⟩ | ⟨h1, h2, h3, h4, h5⟩
  · rw [h1] at hF1
    clear h1 hF2 hRH hRN
    go_enter Tryz.func4, Tryz.ntmps4
    go_wp2_with fail
    refine (awake10_any _).mono ?_
    rintro e w1 ⟨rfl, hb1⟩
    have hbw := hb0.trans (hb1.mono hb0.size)
    have m0 := (hb1.block _ (hlt m0)).trans m0
    have m1 := (hb1.block _ (hlt m1)).trans m1
    have m2 := (hb1.block _ (hlt m2)).trans m2
    obtain ⟨⟨y0, y1, y2⟩, _⟩ := row3 m1
    clear hb1 hb0
    have hFx := hF1 _ hbw
    go_wp2_with fail
    refine hFx.mono ?_
    rintro e wq ⟨rfl, rfl⟩
    clear hFx
    go_wp2_with fail
    refine (awake10_any _).mono ?_
    rintro e w3 ⟨rfl, hb3⟩
    go_wp2
    go_ret
    exact ⟨rfl, hbw.trans (hb3.mono hbw.size)⟩
  · rw [h1] at hF1
    rw [h2] at hF2
    clear h1 h2 hRH hRN
    go_enter Tryz.func4, Tryz.ntmps4
    go_wp2_with fail
    refine (awake10_any _).mono ?_
    rintro e w1 ⟨rfl, hb1⟩
    have hbw := hb0.trans (hb1.mono hb0.size)
    have m0 := (hb1.block _ (hlt m0)).trans m0
    have m1 := (hb1.block _ (hlt m1)).trans m1
    have m2 := (hb1.block _ (hlt m2)).trans m2
    obtain ⟨⟨y0, y1, y2⟩, _⟩ := row3 m1
    clear hb1 hb0
    have hFx := hF1 _ hbw
    go_wp2_with fail
    refine hFx.mono ?_
    rintro e wq ⟨rfl, rfl⟩
    clear hFx
    have hFx := hF2 _ hbw
    go_wp2_with fail
    refine hFx.mono ?_
    rintro e wq ⟨rfl, rfl⟩
    clear hFx
    go_wp2_with fail
    refine (awake10_any _).mono ?_
    rintro e w3 ⟨rfl, hb3⟩
    go_wp2
    go_ret
    exact ⟨rfl, hbw.trans (hb3.mono hbw.size)⟩
  · rw [h1] at hF1
    rw [h2] at hF2
    have hc : ((2000 : Int) < (s.d.length : Int)) = True := eq_true (by omega)
    clear h1 h2 h3 hRH hRN
    go_enter Tryz.func4, Tryz.ntmps4
    go_wp2_with fail
    refine (awake10_any _).mono ?_
    rintro e w1 ⟨rfl, hb1⟩
    have hbw := hb0.trans (hb1.mono hb0.size)
    have m0 := (hb1.block _ (hlt m0)).trans m0
    have m1 := (hb1.block _ (hlt m1)).trans m1
    have m2 := (hb1.block _ (hlt m2)).trans m2
    obtain ⟨⟨y0, y1, y2⟩, _⟩ := row3 m1
    clear hb1 hb0
    have hFx := hF1 _ hbw
    go_wp2_with fail
    refine hFx.mono ?_
    rintro e wq ⟨rfl, rfl⟩
    clear hFx
    have hFx := hF2 _ hbw
    go_wp2_with fail
    refine hFx.mono ?_
    rintro e wq ⟨rfl, rfl⟩
    clear hFx
    go_wp2_with fail
    refine (awake10_any _).mono ?_
    rintro e w3 ⟨rfl, hb3⟩
    go_wp2
    go_ret
    exact ⟨rfl, hbw.trans (hb3.mono hbw.size)⟩
  · rw [h1] at hF1
    rw [h2] at hF2
    rw [h4] at hRH
    have hc : ((2000 : Int) < (s.d.length : Int)) = False := eq_false (by omega)
    clear h1 h2 h3 h4 hRN
    go_enter Tryz.func4, Tryz.ntmps4
    go_wp2_with fail
    refine (awake10_any _).mono ?_
    rintro e w1 ⟨rfl, hb1⟩
    have hbw := hb0.trans (hb1.mono hb0.size)
    have m0 := (hb1.block _ (hlt m0)).trans m0
    have m1 := (hb1.block _ (hlt m1)).trans m1
    have m2 := (hb1.block _ (hlt m2)).trans m2
    obtain ⟨⟨y0, y1, y2⟩, _⟩ := row3 m1
    clear hb1 hb0
    have hFx := hF1 _ hbw
    go_wp2_with fail
    refine hFx.mono ?_
    rintro e wq ⟨rfl, rfl⟩
    clear hFx
    have hFx := hF2 _ hbw
    go_wp2_with fail
    refine hFx.mono ?_
    rintro e wq ⟨rfl, rfl⟩
    clear hFx
    obtain ⟨⟨x0, x1⟩, _⟩ := row2 m0
    go_wp2_with fail
    refine (hRH _).mono ?_
    rintro e wh4 ⟨rfl, hbx⟩
    have hbw := hbw.trans (hbx.mono hbw.size)
    have m0 := (hbx.block _ (hlt m0)).trans m0
    have m1 := (hbx.block _ (hlt m1)).trans m1
    have m2 := (hbx.block _ (hlt m2)).trans m2
    clear hbx x0 x1 y0 y1 y2
    obtain ⟨⟨y0, y1, y2⟩, _⟩ := row3 m1
    go_wp2_with fail
    refine (awake10_any _).mono ?_
    rintro e w3 ⟨rfl, hb3⟩
    go_wp2
    go_ret
    exact ⟨rfl, hbw.trans (hb3.mono hbw.size)⟩
  · rw [h1] at hF1
    rw [h2] at hF2
    rw [h4] at hRH
    rw [h5] at hRN
    have hc : ((2000 : Int) < (s.d.length : Int)) = False := eq_false (by omega)
    clear h1 h2 h3 h4 h5
    go_enter Tryz.func4, Tryz.ntmps4
    go_wp2_with fail
    refine (awake10_any _).mono ?_
    rintro e w1 ⟨rfl, hb1⟩
    have hbw := hb0.trans (hb1.mono hb0.size)
    have m0 := (hb1.block _ (hlt m0)).trans m0
    have m1 := (hb1.block _ (hlt m1)).trans m1
    have m2 := (hb1.block _ (hlt m2)).trans m2
    obtain ⟨⟨y0, y1, y2⟩, _⟩ := row3 m1
    clear hb1 hb0
    have hFx := hF1 _ hbw
    go_wp2_with fail
    refine hFx.mono ?_
    rintro e wq ⟨rfl, rfl⟩
    clear hFx
    have hFx := hF2 _ hbw
    go_wp2_with fail
    refine hFx.mono ?_
    rintro e wq ⟨rfl, rfl⟩
    clear hFx
    obtain ⟨⟨x0, x1⟩, _⟩ := row2 m0
    go_wp2_with fail
    refine (hRH _).mono ?_
    rintro e wh4 ⟨rfl, hbx⟩
    have hbw := hbw.trans (hbx.mono hbw.size)
    have m0 := (hbx.block _ (hlt m0)).trans m0
    have m1 := (hbx.block _ (hlt m1)).trans m1
    have m2 := (hbx.block _ (hlt m2)).trans m2
    clear hbx x0 x1 y0 y1 y2
    obtain ⟨⟨y0, y1, y2⟩, _⟩ := row3 m1
    obtain ⟨⟨x0, x1⟩, _⟩ := row2 m2
    go_wp2_with fail
    refine (hRN _).mono ?_
    rintro e wh5 ⟨rfl, hbx⟩
    have hbw := hbw.trans (hbx.mono hbw.size)
    have m0 := (hbx.block _ (hlt m0)).trans m0
    have m1 := (hbx.block _ (hlt m1)).trans m1
    have m2 := (hbx.block _ (hlt m2)).trans m2
    clear hbx x0 x1 y0 y1 y2
    obtain ⟨⟨y0, y1, y2⟩, _⟩ := row3 m1
    go_wp2_with fail
    refine (awake10_any _).mono ?_
    rintro e w3 ⟨rfl, hb3⟩
    go_wp2
    go_ret
    exact ⟨rfl, hbw.trans (hb3.mono hbw.size)⟩

set_option maxRecDepth 100000 in
set_option maxHeartbeats 60000000 in
theorem walk_yes (h : Hd) (s : Ent) (B : Option Addr) (c : Nat) (A : Option Addr) (cap : Nat) (l : List Ent) (nx : Hd) (A2 : Option Addr) (cap2 : Nat) (more : List Ent) (fz : Nat) (kp : Int) (W : World) (hl : Lies W B s.d.length c s.d) (hE : Ents W (· < W.heap.size) A l.length cap l) (hE2 : Ents W (· < W.heap.size) A2 more.length cap2 more) (hf1 : fewE l 10 = true) (hf2 : fewE more 10 = true) (hs : s.d.length ≤ 2000) (hh : hardB h.t h.v = true) (hnx : hardB nx.t nx.v = true) (hfz : fz < 256) (hkp : -9223372036854775808 ≤ kp ∧ kp ≤ 9223372036854775807) :
    Calls Tryz.prog 4 #[.agg #[.int .i64 h.t, .int .i64 h.v], entV s.i s.t B s.d.length c, .slice A l.length cap, .agg #[.int .i64 nx.t, .int .i64 nx.v], .slice A2 more.length cap2, .int .u8 (fz : Int), .int .i64 kp] W fun e w' => e = .returned (.bool true) ∧ Below W.heap.size W w' := by
  obtain ⟨hl1, hw1, hd1⟩ := few_parts hf1
  obtain ⟨hl2, hw2, hd2⟩ := few_parts hf2
  have hm1 : l.length ≤ maxLen := by unfold maxLen; omega
  have hm2 : more.length ≤ maxLen := by unfold maxLen; omega
  have hb0 : Below W.heap.size W (((W.alloc (.cells #[.int .i64 h.t, .int .i64 h.v] 32)).alloc (.cells #[.int .i64 s.i, .int .i64 s.t, .slice B s.d.length c] 35)).alloc (.cells #[.int .i64 nx.t, .int .i64 nx.v] 32)) := (((Below.refl _ _).alloc (Nat.le_refl _) _).alloc (by simp) _).alloc (by simp; omega) _
  have m0 : (((W.alloc (.cells #[.int .i64 h.t, .int .i64 h.v] 32)).alloc (.cells #[.int .i64 s.i, .int .i64 s.t, .slice B s.d.length c] 35)).alloc (.cells #[.int .i64 nx.t, .int .i64 nx.v] 32)).heap[W.heap.size]? = some (.cells #[.int .i64 h.t, .int .i64 h.v] 32) := (Below.heap_alloc _ _ _ (by simp; omega)).trans ((Below.heap_alloc _ _ _ (by simp)).trans (heap_alloc_new _ _))
  have m1 : (((W.alloc (.cells #[.int .i64 h.t, .int .i64 h.v] 32)).alloc (.cells #[.int .i64 s.i, .int .i64 s.t, .slice B s.d.length c] 35)).alloc (.cells #[.int .i64 nx.t, .int .i64 nx.v] 32)).heap[W.heap.size + 1]? = some (.cells #[.int .i64 s.i, .int .i64 s.t, .slice B s.d.length c] 35) := (Below.heap_alloc _ _ _ (by simp)).trans (heap_alloc2_new _ _ _)
  have m2 : (((W.alloc (.cells #[.int .i64 h.t, .int .i64 h.v] 32)).alloc (.cells #[.int .i64 s.i, .int .i64 s.t, .slice B s.d.length c] 35)).alloc (.cells #[.int .i64 nx.t, .int .i64 nx.v] 32)).heap[W.heap.size + 1 + 1]? = some (.cells #[.int .i64 nx.t, .int .i64 nx.v] 32) := by
    have := heap_alloc_new ((W.alloc (.cells #[.int .i64 h.t, .int .i64 h.v] 32)).alloc (.cells #[.int .i64 s.i, .int .i64 s.t, .slice B s.d.length c] 35)) (.cells #[.int .i64 nx.t, .int .i64 nx.v] 32)
    simp only [World.size_alloc] at this
    exact this
  have hF1 := fun w1 (hb : Below W.heap.size W w1) => fewR_any _ A l.length cap l 10 w1 (hE.below hb (Nat.le_refl _)) hm1 (by omega) hd1
  have hF2 := fun w1 (hb : Below W.heap.size W w1) => fewR_any _ A2 more.length cap2 more 10 w1 (hE2.below hb (Nat.le_refl _)) hm2 (by omega) hd2
  have hRH := fun W => hardR_is h.t h.v W
  have hRN := fun W => hardR_is nx.t nx.v W
  rw [hf1] at hF1
  rw [hf2] at hF2
  rw [hh] at hRH
  rw [hnx] at hRN
  have hc : ((2000 : Int) < (s.d.length : Int)) = False := eq_false (by omega)
  have hhr : rightH h = true := hh
  have hnr : rightH nx = true := hnx
  clear hd1 hd2 hm1 hm2 hh hnx hf2
  go_enter Tryz.func4, Tryz.ntmps4
  go_wp2_with fail
  refine (awake10_any _).mono ?_
  rintro e w1 ⟨rfl, hb1⟩
  have hbw := hb0.trans (hb1.mono hb0.size)
  have m0 := (hb1.block _ (hlt m0)).trans m0
  have m1 := (hb1.block _ (hlt m1)).trans m1
  have m2 := (hb1.block _ (hlt m2)).trans m2
  obtain ⟨⟨y0, y1, y2⟩, _⟩ := row3 m1
  clear hb1 hb0
  have hFx := hF1 _ hbw
  go_wp2_with fail
  refine hFx.mono ?_
  rintro e wq ⟨rfl, rfl⟩
  clear hFx
  have hFx := hF2 _ hbw
  go_wp2_with fail
  refine hFx.mono ?_
  rintro e wq ⟨rfl, rfl⟩
  clear hFx
  obtain ⟨⟨x0, x1⟩, _⟩ := row2 m0
  go_wp2_with fail
  refine (hRH _).mono ?_
  rintro e wh4 ⟨rfl, hbx⟩
  have hbw := hbw.trans (hbx.mono hbw.size)
  have m0 := (hbx.block _ (hlt m0)).trans m0
  have m1 := (hbx.block _ (hlt m1)).trans m1
  have m2 := (hbx.block _ (hlt m2)).trans m2
  clear hbx x0 x1 y0 y1 y2
  obtain ⟨⟨y0, y1, y2⟩, _⟩ := row3 m1
  obtain ⟨⟨x0, x1⟩, _⟩ := row2 m2
  go_wp2_with fail
  refine (hRN _).mono ?_
  rintro e wh5 ⟨rfl, hbx⟩
  have hbw := hbw.trans (hbx.mono hbw.size)
  have m0 := (hbx.block _ (hlt m0)).trans m0
  have m1 := (hbx.block _ (hlt m1)).trans m1
  have m2 := (hbx.block _ (hlt m2)).trans m2
  clear hbx x0 x1 y0 y1 y2
  obtain ⟨⟨y0, y1, y2⟩, _⟩ := row3 m1
  clear hRH hRN hF1 hF2 y0 y1 y2
  have hlG := hl.below hbw (Nat.le_refl _)
  have hEG := (hE.below hbw (Nat.le_refl _)).mono (Z' := (· < wh5.heap.size)) (fun k hk => Nat.lt_of_lt_of_le hk hbw.size)
  have hEG2 := (hE2.below hbw (Nat.le_refl _)).mono (Z' := (· < wh5.heap.size)) (fun k hk => Nat.lt_of_lt_of_le hk hbw.size)
  have hFil := filled_any wh5 h hhr s B c A l.length cap l hlG hEG hs hf1
  obtain ⟨⟨x0, x1⟩, _⟩ := row2 m0
  obtain ⟨⟨y0, y1, y2⟩, _⟩ := row3 m1
  go_wp2_with fail
  refine hFil.mono ?_
  rintro e w6 ⟨d, v, j, D, n, Z, x, ls, B6, c6, A6, cap6, S, L, hS, hL, rfl, C6, hn, hk, hlS, hzS, hEL⟩
  have hG2 := hlt m2
  have m2 := (C6.low.block _ hG2).trans m2
  have hwL : weigh L ≤ 40000 ∧ L.length ≤ 10 := by
    rw [hL]
    unfold seedL
    split
    · exact ⟨hw1, hl1⟩
    · exact ⟨Nat.zero_le _, Nat.zero_le _⟩
  clear hFil x0 x1 y0 y1 y2 m0 m1 hS hL hlG hEG hl hE hE2 hs hf1 hw1 hl1
  go_upto_region 4 with fail
  have ha7 : Below w6.heap.size w6 (w6.alloc (.cells #[.int .i64 h.t, .int .i64 h.v, .int .i64 S.i, .int .i64 S.t, .slice B6 S.d.length c6, .slice A6 L.length cap6] 47)) := (Below.refl _ _).alloc (Nat.le_refl _) _
  have b7 := heap_alloc_new w6 (.cells #[.int .i64 h.t, .int .i64 h.v, .int .i64 S.i, .int .i64 S.t, .slice B6 S.d.length c6, .slice A6 L.length cap6] 47)
  obtain ⟨Q, hQ⟩ : ∃ Q : Nat → Prop, Q = (fun k => Z k ∨ w6.heap.size ≤ k ∧ k < (w6.alloc (.cells #[.int .i64 h.t, .int .i64 h.v, .int .i64 S.i, .int .i64 S.t, .slice B6 S.d.length c6, .slice A6 L.length cap6] 47)).heap.size) := ⟨_, rfl⟩
  have C7 : Ctx wh5 (w6.alloc (.cells #[.int .i64 h.t, .int .i64 h.v, .int .i64 S.i, .int .i64 S.t, .slice B6 S.d.length c6, .slice A6 L.length cap6] 47)) v j d D h n Q := by rw [hQ]; exact C6.wide ha7
  have hzb : Q w6.heap.size := by rw [hQ]; exact .inr ⟨Nat.le_refl _, hlt b7⟩
  have hzn : Q (W.heap.size + 1 + 1) := by rw [hQ]; exact .inl (C6.all _ hG2)
  have m7 := (ha7.block _ (hlt m2)).trans m2
  have hbv : w6.heap.size ≠ v := by have := C6.vt.lt; omega
  have hbj : w6.heap.size ≠ j := by have := C6.vt.lg.lt; omega
  have hnv : W.heap.size + 1 + 1 ≠ v := by have := C6.newv; omega
  have hnj : W.heap.size + 1 + 1 ≠ j := by have := C6.newj; omega
  have hlow6 := C6.low
  have hsz6 := C6.low.size
  have hsz67 := ha7.size
  clear hQ
  generalize (w6.alloc (.cells #[.int .i64 h.t, .int .i64 h.v, .int .i64 S.i, .int .i64 S.t, .slice B6 S.d.length c6, .slice A6 L.length cap6] 47)) = w7 at *
  clear ha7 m2 C6
  obtain ⟨⟨b0, b1, b2, b3, b4, b5⟩, _⟩ := row6 b7
  go_quiet (fail)
  have C8 := C7.below (below_drewM (Below.refl w7.heap.size w7) nq)
  have b8 : (w7.drewN nq).heap[w6.heap.size]? = some (.cells #[.int .i64 h.t, .int .i64 h.v, .int .i64 S.i, .int .i64 S.t, .slice B6 S.d.length c6, .slice A6 L.length cap6] 47) := b7
  have m8 : (w7.drewN nq).heap[W.heap.size + 1 + 1]? = some (.cells #[.int .i64 nx.t, .int .i64 nx.v] 32) := m7
  clear b7 m7 C7 b0 b1 b2 b3 b4 b5
  generalize w7.drewN nq = w8 at *
  obtain ⟨⟨b0, b1, b2, b3, b4, b5⟩, _⟩ := row6 b8
  by_cases hL0 : L.length = 0
  · have e1 : decide (0 < L.length) = false := decide_eq_false (by omega)
    have e2 : (0 < L.length) = False := eq_false (by omega)
    have hLn : L = [] := List.length_eq_zero_iff.1 hL0
    have hrunL : runB S.i S.t more = true → runB S.i S.t (L ++ more) = true := fun hr => by rw [hLn]; exact hr
    clear hLn hL0
    have C9 := C8
    have b9 := b8
    have m9 := m8
    clear C8 b8 m8
    generalize w8 = w9 at *
    have hRr := runR_any _ A2 more.length cap2 more (S.i) (S.t) w9 (hEG2.below C9.low (Nat.le_refl _)) (by unfold maxLen; omega)
    cases hrun : runB (S.i) (S.t) more with
    | false =>
      rw [hrun] at hRr
      clear hrunL hk hlS hEL
      go_wp2_with fail
      refine hRr.mono ?_
      rintro e wr ⟨rfl, hbr⟩
      have Cr := C9.below hbr
      go_wp2
      go_ret
      exact ⟨rfl, hbw.trans (Cr.low.mono hbw.size)⟩
    | true =>
      rw [hrun] at hRr
      have hrn := hrunL hrun
      clear hrunL hrun
      go_wp2_with fail
      refine hRr.mono ?_
      rintro e wr ⟨rfl, hbr⟩
      have Cr := C9.below hbr
      have br := (hbr.block _ (hlt b9)).trans b9
      have mr := (hbr.block _ (hlt m9)).trans m9
      clear hRr hbr C9 b9 m9
      try clear b0 b1 b2 b3 b4 b5
      obtain ⟨m, hm⟩ : ∃ m, Hid (fz % 4 = m) := ⟨_, ⟨rfl⟩⟩
      have f1 : (fz : Int) % 4 = (m : Int) := by have := hm.out; omega
      have hm4 : m < 4 := by have := hm.out; omega
      have f2 : IntKind.i64.wrap (m : Int) = (m : Int) := IntWalk.i64_in _ (by omega)
      obtain ⟨u1, hkF⟩ := hk.fuse m
      have hFu := dsk_fuse wr d D _ Cr.vt.lg.dk (m : Int) (by omega)
      clear hk
      generalize D.fuse (m : Int) = RF at *
      obtain ⟨DF, eF⟩ := RF
      dsimp only at hFu u1 hkF
      subst u1
      have hlr := saveRecs_length h nx more
      have hws : ∀ j, weigh (L ++ more.take j) ≤ 80000 := fun j => by have := weigh_app L (more.take j); have := weigh_sub (List.take_sublist j more); omega
      have hwl : ∀ j, (L ++ more.take j).length ≤ 20 := fun j => by rw [List.length_append, List.length_take]; omega
      obtain ⟨D', a, jj, cS, cj, ca, cja, cfull⟩ := hkF.crash_save (h := nx) (more := more) hnr hrn (V := 60000 + (framesL (saveRecs h nx more)).length) rfl (fun a j => by have := allRecs_length a (L ++ more.take j); have := hws j; have := hwl j; omega) (fun _ => kp) 1
      have hus := saved_used hkF (h := nx) (more := more) hnr hrn (by omega) (fun _ => kp) 1
      have hSv := fun w10 (C : Ctx wh5 w10 v j d DF h n Q) => vsave_any w10 v j d DF h n _ C.vt nx _ A2 more.length cap2 more (C.ents hEG2) (by omega) (by omega)
      unfold SaveP at hSv
      clear hkF hrn hlr hws hwl
      generalize DF.saveV h nx more = RS at *
      obtain ⟨⟨D2, e10⟩, was2⟩ := RS
      dsimp only at hSv cS cfull hus
      go_wp2_with fail
      refine hFu.mono ?_
      rintro e w10 ⟨rfl, hd10⟩
      have C10 := Cr.did hd10
      have b10 := (hd10.2.block _ (hlt br) hzb).trans br
      have m10 := (hd10.2.block _ (hlt mr) hzn).trans mr
      have hS10 := hSv w10 C10
      clear hFu hd10 br mr Cr hSv
      obtain ⟨⟨x0, x1⟩, _⟩ := row2 m10
      go_wp2_with fail
      refine hS10.mono ?_
      rintro e w11 ⟨rfl, n11, _, _, hd11⟩
      have C11 := C10.vdid hd11
      have b11 := hd11.at b10 hzb hbj hbv
      have m11 := hd11.at m10 hzn hnj hnv
      clear hS10 hd11 b10 m10 C10 x0 x1
      have hal : Below w11.heap.size w11 (w11.alloc (.cells #[.int .i64 kp] 3)) := (Below.refl _ _).alloc (Nat.le_refl _) _
      have C12 := C11.wide hal
      have hdlt := C11.vt.lg.dk.dk.own.2
      have hRI : RI (w11.alloc (.cells #[.int .i64 kp] 3)) (some ⟨w11.heap.size, 0, none⟩) 1 (fun _ => kp) :=
        ⟨fun i _ => hkp, fun _ => ⟨_, 0, rfl, by simp, fun i hi => by
          obtain rfl : i = 0 := by omega
          exact (cell_of_row _ _ _ _ _ _ (heap_alloc_new w11 _)).trans rfl⟩⟩
      have hRs := dsk_restart _ d _ _ C12.vt.lg.dk (some ⟨w11.heap.size, 0, none⟩) 1 1 (fun _ => kp) hRI (by omega) (by omega) (fun _ a e => by
        injection e with e
        subst e
        intro e
        have : w11.heap.size = d := e
        omega)
      have b12 := (hal.block _ (hlt b11)).trans b11
      have m12 := (hal.block _ (hlt m11)).trans m11
      clear b11 m11 hRI hdlt C11
      generalize D2.restart (fun _ => kp) 1 = D3 at *
      go_wp2_with fail
      refine hRs.mono ?_
      rintro e w13 ⟨rfl, hd13⟩
      have C13 := C12.did hd13
      have b13 := (hd13.2.block _ (hlt b12) (.inl hzb)).trans b12
      have m13 := (hd13.2.block _ (hlt m12) (.inl hzn)).trans m12
      have hOp := open_known (U := 0) hus cS w13 d _ C13.vt.lg.dk
      clear hRs hd13 b12 m12 C12 hal hus cS
      go_wp2_with fail
      refine hOp.mono ?_
      rintro e w14 ⟨v2, j2, n2, Z2, Bs, bc, A14, c14, rfl, ho⟩
      have C14 := Ctx.opd ho C13.low C13.all
      have b14 := (ho.kp.block _ (hlt b13) (.inl hzb)).trans b13
      have m14 := (ho.kp.block _ (hlt m13) (.inl hzn)).trans m13
      have hoE := ho.ents.ents
      have hol := ho.lies
      dsimp only at hoE hol C14
      clear hOp ho b13 m13 C13
      have hNl : (L ++ more.take jj).length = L.length + jj := by rw [List.length_append, List.length_take]; omega
      have hlist : L ++ more.take jj = (L ++ more).take (L.length + jj) := by rw [List.take_append, List.take_of_length_le (l := L) (by omega), Nat.add_sub_cancel_left]
      rw [hNl] at hoE ⊢
      obtain ⟨N, hN⟩ : ∃ N, L.length + jj = N := ⟨_, rfl⟩
      obtain ⟨M, hM⟩ : ∃ M, L.length + more.length = M := ⟨_, rfl⟩
      have hMM := Lib.hid hM
      have hMl : (L ++ more).length = M := by rw [List.length_append]; exact hM
      rw [hN] at hoE hlist ⊢
      obtain ⟨s1, s3, s4, s5, s6, hNM⟩ := nm_facts L.length more.length jj N M hN hM cj hwL.2 hl2
      clear hNl
      by_cases he10 : e10 = 0
      · obtain ⟨hanx, hjm⟩ := cfull he10
        subst he10
        have han : a = nx := hanx
        clear cfull cja ca hanx
        by_cases hj0 : jj = 0
        · by_cases hah : a = h
          · have eH : (a.t == h.t && a.v == h.v) = true := by rw [hd_beq]; simp [hah]
            have eN : (a.t == nx.t && a.v == nx.v) = true := by rw [hd_beq]; simp [han]
            have z1 := neq_hardC a.t a.v h.t h.v
            have z2 := neq_hardC a.t a.v nx.t nx.v
            have z3 := eq_hardC a.t a.v nx.t nx.v
            rw [eH] at z1
            rw [eN] at z2 z3
            have q5 : (L.length < N) = False := eq_false (by omega)
            have q5i : ((L.length : Int) < (N : Int)) = False := eq_false (by omega)
            have q5d : decide (L.length < N) = false := decide_eq_false (by omega)
            have q7 : ((N : Int) == (M : Int)) = true := by rw [beq_iff_eq]; omega
            have q7b : ((N : Int) = (M : Int)) = True := eq_true (by omega)
            have q7c : (N = M) = True := eq_true (by omega)
            clear hah han eH eN
            have ha15 : Below w14.heap.size w14 ((w14.alloc (.cells #[.int .i64 a.t, .int .i64 a.v] 32)).alloc (.cells #[.int .i64 S.i, .int .i64 S.t, .slice Bs S.d.length bc] 35)) := ((Below.refl _ _).alloc (Nat.le_refl _) _).alloc (by simp) _
            have pa : ((w14.alloc (.cells #[.int .i64 a.t, .int .i64 a.v] 32)).alloc (.cells #[.int .i64 S.i, .int .i64 S.t, .slice Bs S.d.length bc] 35)).heap[w14.heap.size]? = some (.cells #[.int .i64 a.t, .int .i64 a.v] 32) := (Below.heap_alloc _ _ _ (by simp)).trans (heap_alloc_new _ _)
            have ps : ((w14.alloc (.cells #[.int .i64 a.t, .int .i64 a.v] 32)).alloc (.cells #[.int .i64 S.i, .int .i64 S.t, .slice Bs S.d.length bc] 35)).heap[w14.heap.size + 1]? = some (.cells #[.int .i64 S.i, .int .i64 S.t, .slice Bs S.d.length bc] 35) := heap_alloc2_new _ _ _
            have pb := (ha15.block _ (hlt b14)).trans b14
            have pm := (ha15.block _ (hlt m14)).trans m14
            have C15 := C14.below ha15
            have hS15 : Lies ((w14.alloc (.cells #[.int .i64 a.t, .int .i64 a.v] 32)).alloc (.cells #[.int .i64 S.i, .int .i64 S.t, .slice Bs S.d.length bc] 35)) B6 S.d.length c6 S.d := hlS.keep (by have := hlt pb; omega) fun h0 g off e _ => (C15.low.block g (hzS h0 g off e)).trans (hlow6.block g (hzS h0 g off e)).symm
            have hSm := sameSnapR_any S.i S.t Bs S.d.length bc S.d S.i S.t B6 S.d.length c6 S.d ((w14.alloc (.cells #[.int .i64 a.t, .int .i64 a.v] 32)).alloc (.cells #[.int .i64 S.i, .int .i64 S.t, .slice Bs S.d.length bc] 35)) (hol.below ha15 (Nat.le_refl _)) hS15
            rw [oneB_self] at hSm
            clear hS15 b14 m14
            obtain ⟨⟨p0, p1⟩, _⟩ := row2 pa
            obtain ⟨⟨o0, o1⟩, _⟩ := row2 pm
            obtain ⟨⟨b0, b1, b2, b3, b4, b5⟩, _⟩ := row6 pb
            obtain ⟨⟨r0, r1, r2⟩, _⟩ := row3 ps
            go_wp2_with fail
            refine hSm.mono ?_
            rintro e w16 ⟨rfl, hb16⟩
            clear p0 p1 o0 o1 b0 b1 b2 b3 b4 b5 r0 r1 r2
            have pa := (hb16.block _ (hlt pa)).trans pa
            have pm := (hb16.block _ (hlt pm)).trans pm
            have pb := (hb16.block _ (hlt pb)).trans pb
            have ps := (hb16.block _ (hlt ps)).trans ps
            have C16 := C15.below hb16
            have hb1416 : Below w14.heap.size w14 w16 := ha15.trans (hb16.mono ha15.size)
            clear hSm hb16 C15 ha15
            obtain ⟨⟨p0, p1⟩, _⟩ := row2 pa
            obtain ⟨⟨o0, o1⟩, _⟩ := row2 pm
            obtain ⟨⟨b0, b1, b2, b3, b4, b5⟩, _⟩ := row6 pb
            obtain ⟨⟨r0, r1, r2⟩, _⟩ := row3 ps
            have hfar := hlt pb
            obtain ⟨Y, hY⟩ : ∃ Y, Y = (fun k => k < wh5.heap.size ∨ w16.heap.size ≤ k) := ⟨_, rfl⟩
            have hY1 : ∀ k, w16.heap.size ≤ k → Y k := fun k hk => by rw [hY]; exact .inr hk
            have hY2 : ∀ k, k < wh5.heap.size → Y k := fun k hk => by rw [hY]; exact .inl hk
            have hG16 := C16.low.size
            have hA16 : Below w16.heap.size w16 (w16.alloc (.cells #[] 69)) := (Below.refl _ _).alloc (Nat.le_refl _) _
            have hEL16 : Ents (w16.alloc (.cells #[] 69)) (fun q => Y q ∧ (Value.slice (some ⟨w16.heap.size, 0, none⟩) 0 0).ownBlock ≠ some q) A6 L.length cap6 L :=
              (hEL.keep (by have := hA16.size; have := hlt pb; omega) fun q _ hq => (hA16.block q (Nat.lt_of_lt_of_le hq hG16)).trans ((C16.low.block q hq).trans (hlow6.block q hq).symm)).mono fun q hq => ⟨hY2 q hq, fun er => by injection er with er; have er : w16.heap.size = q := er; have : q < wh5.heap.size := hq; omega⟩
            go_wp2_with (first
              | (at_builtin
                 refine wpList_append_entrow _ rfl _ _ rfl w16.heap.size (by simp) Y (.slice (some ⟨w16.heap.size, 0, none⟩) 0 0) [] (EntRow.made w16 w16.heap.size (Nat.le_refl _) Y (hY1 _ (Nat.le_refl _))) rfl A6 L.length cap6 L hEL16 rfl (fun k hk => hY1 k (by simp at hk; omega)) (by simp; omega) L.length (by simp) L rfl ?_
                 intro A17 c17 w17 hrow17 hg17
                 have hb17 : Below w16.heap.size w16 w17 := hA16.grown hg17 hA16.size (fun q hq => by injection hq with hq; have hq : w16.heap.size = q := hq; omega)
                 have hEM17 : Ents w17 (fun q => Y q ∧ (Value.slice A17 L.length c17).ownBlock ≠ some q) A2 more.length cap2 more :=
                   ((hEG2.below C16.low (Nat.le_refl _)).below hb17 (Nat.le_refl _)).mono fun q hq => ⟨hY2 q hq, fun er => by obtain ⟨xs, ho, _⟩ := hrow17; have := (ho.lt q er).1; have : q < wh5.heap.size := hq; omega⟩)
              | (at_builtin
                 refine wpList_append_entrow _ rfl _ _ rfl w16.heap.size hb17.size Y (.slice A17 L.length c17) L hrow17 rfl A2 more.length cap2 more hEM17 rfl (fun k hk => hY1 k (Nat.le_trans hb17.size hk)) (by omega) M (by exact hMM.out) (L ++ more) rfl ?_
                 intro A18 c18 w18 hrow18 hg18
                 have hb18 : Below w16.heap.size w16 w18 := hb17.grown hg18 hb17.size (fun q hq => by obtain ⟨xs, ho, _⟩ := hrow17; exact (ho.lt q hq).1)
                 have hsl := fun W => run_frontE A18 M c18 N (by have := hrow18.cap; omega) W)
              | fail)
            clear p0 p1 o0 o1 b0 b1 b2 b3 b4 b5 r0 r1 r2
            have pa := (hb18.block _ (hlt pa)).trans pa
            have pm := (hb18.block _ (hlt pm)).trans pm
            have pb := (hb18.block _ (hlt pb)).trans pb
            have ps := (hb18.block _ (hlt ps)).trans ps
            have hb1418 := hb1416.trans (hb18.mono hb1416.size)
            have hc18 := hoE.below hb1418 (Nat.le_refl _)
            have ha18 := hrow18.ents
            rw [hMl] at ha18
            have hSa := sameR_any _ _ A14 N c14 _ A18 N c18 _ w18 hc18 (ha18.front N (by omega)) (by unfold maxLen; omega)
            rw [hlist, sameE_refl] at hSa
            have C18 := C16.below (hb18)
            clear hrow17 hrow18 hg17 hg18 hb17 hEM17 hEL16 hc18 ha18 hsl C16 hY1 hY2 hA16
            obtain ⟨⟨p0, p1⟩, _⟩ := row2 pa
            obtain ⟨⟨o0, o1⟩, _⟩ := row2 pm
            obtain ⟨⟨b0, b1, b2, b3, b4, b5⟩, _⟩ := row6 pb
            obtain ⟨⟨r0, r1, r2⟩, _⟩ := row3 ps
            go_wp2_with fail
            refine hSa.mono ?_
            rintro e w19 ⟨rfl, hb19⟩
            clear p0 p1 o0 o1 b0 b1 b2 b3 b4 b5 r0 r1 r2
            have pa := (hb19.block _ (hlt pa)).trans pa
            have pm := (hb19.block _ (hlt pm)).trans pm
            have pb := (hb19.block _ (hlt pb)).trans pb
            have ps := (hb19.block _ (hlt ps)).trans ps
            have C19 := C18.below hb19
            clear hSa hb19 C18
            obtain ⟨⟨p0, p1⟩, _⟩ := row2 pa
            obtain ⟨⟨o0, o1⟩, _⟩ := row2 pm
            obtain ⟨⟨b0, b1, b2, b3, b4, b5⟩, _⟩ := row6 pb
            obtain ⟨⟨r0, r1, r2⟩, _⟩ := row3 ps
            go_wp2
            go_ret
            exact ⟨rfl, hbw.trans (C19.low.mono hbw.size)⟩
          · have eH : (a.t == h.t && a.v == h.v) = false := by rw [hd_beq]; simp [hah]
            have eN : (a.t == nx.t && a.v == nx.v) = true := by rw [hd_beq]; simp [han]
            have z1 := neq_hardC a.t a.v h.t h.v
            have z2 := neq_hardC a.t a.v nx.t nx.v
            have z3 := eq_hardC a.t a.v nx.t nx.v
            rw [eH] at z1
            rw [eN] at z2 z3
            have q5 : (L.length < N) = False := eq_false (by omega)
            have q5i : ((L.length : Int) < (N : Int)) = False := eq_false (by omega)
            have q5d : decide (L.length < N) = false := decide_eq_false (by omega)
            have q7 : ((N : Int) == (M : Int)) = true := by rw [beq_iff_eq]; omega
            have q7b : ((N : Int) = (M : Int)) = True := eq_true (by omega)
            have q7c : (N = M) = True := eq_true (by omega)
            clear hah han eH eN
            have ha15 : Below w14.heap.size w14 ((w14.alloc (.cells #[.int .i64 a.t, .int .i64 a.v] 32)).alloc (.cells #[.int .i64 S.i, .int .i64 S.t, .slice Bs S.d.length bc] 35)) := ((Below.refl _ _).alloc (Nat.le_refl _) _).alloc (by simp) _
            have pa : ((w14.alloc (.cells #[.int .i64 a.t, .int .i64 a.v] 32)).alloc (.cells #[.int .i64 S.i, .int .i64 S.t, .slice Bs S.d.length bc] 35)).heap[w14.heap.size]? = some (.cells #[.int .i64 a.t, .int .i64 a.v] 32) := (Below.heap_alloc _ _ _ (by simp)).trans (heap_alloc_new _ _)
            have ps : ((w14.alloc (.cells #[.int .i64 a.t, .int .i64 a.v] 32)).alloc (.cells #[.int .i64 S.i, .int .i64 S.t, .slice Bs S.d.length bc] 35)).heap[w14.heap.size + 1]? = some (.cells #[.int .i64 S.i, .int .i64 S.t, .slice Bs S.d.length bc] 35) := heap_alloc2_new _ _ _
            have pb := (ha15.block _ (hlt b14)).trans b14
            have pm := (ha15.block _ (hlt m14)).trans m14
            have C15 := C14.below ha15
            have hS15 : Lies ((w14.alloc (.cells #[.int .i64 a.t, .int .i64 a.v] 32)).alloc (.cells #[.int .i64 S.i, .int .i64 S.t, .slice Bs S.d.length bc] 35)) B6 S.d.length c6 S.d := hlS.keep (by have := hlt pb; omega) fun h0 g off e _ => (C15.low.block g (hzS h0 g off e)).trans (hlow6.block g (hzS h0 g off e)).symm
            have hSm := sameSnapR_any S.i S.t Bs S.d.length bc S.d S.i S.t B6 S.d.length c6 S.d ((w14.alloc (.cells #[.int .i64 a.t, .int .i64 a.v] 32)).alloc (.cells #[.int .i64 S.i, .int .i64 S.t, .slice Bs S.d.length bc] 35)) (hol.below ha15 (Nat.le_refl _)) hS15
            rw [oneB_self] at hSm
            clear hS15 b14 m14
            obtain ⟨⟨p0, p1⟩, _⟩ := row2 pa
            obtain ⟨⟨o0, o1⟩, _⟩ := row2 pm
            obtain ⟨⟨b0, b1, b2, b3, b4, b5⟩, _⟩ := row6 pb
            obtain ⟨⟨r0, r1, r2⟩, _⟩ := row3 ps
            go_wp2_with fail
            refine hSm.mono ?_
            rintro e w16 ⟨rfl, hb16⟩
            clear p0 p1 o0 o1 b0 b1 b2 b3 b4 b5 r0 r1 r2
            have pa := (hb16.block _ (hlt pa)).trans pa
            have pm := (hb16.block _ (hlt pm)).trans pm
            have pb := (hb16.block _ (hlt pb)).trans pb
            have ps := (hb16.block _ (hlt ps)).trans ps
            have C16 := C15.below hb16
            have hb1416 : Below w14.heap.size w14 w16 := ha15.trans (hb16.mono ha15.size)
            clear hSm hb16 C15 ha15
            obtain ⟨⟨p0, p1⟩, _⟩ := row2 pa
            obtain ⟨⟨o0, o1⟩, _⟩ := row2 pm
            obtain ⟨⟨b0, b1, b2, b3, b4, b5⟩, _⟩ := row6 pb
            obtain ⟨⟨r0, r1, r2⟩, _⟩ := row3 ps
            have hfar := hlt pb
            obtain ⟨Y, hY⟩ : ∃ Y, Y = (fun k => k < wh5.heap.size ∨ w16.heap.size ≤ k) := ⟨_, rfl⟩
            have hY1 : ∀ k, w16.heap.size ≤ k → Y k := fun k hk => by rw [hY]; exact .inr hk
            have hY2 : ∀ k, k < wh5.heap.size → Y k := fun k hk => by rw [hY]; exact .inl hk
            have hG16 := C16.low.size
            have hA16 : Below w16.heap.size w16 (w16.alloc (.cells #[] 69)) := (Below.refl _ _).alloc (Nat.le_refl _) _
            have hEL16 : Ents (w16.alloc (.cells #[] 69)) (fun q => Y q ∧ (Value.slice (some ⟨w16.heap.size, 0, none⟩) 0 0).ownBlock ≠ some q) A6 L.length cap6 L :=
              (hEL.keep (by have := hA16.size; have := hlt pb; omega) fun q _ hq => (hA16.block q (Nat.lt_of_lt_of_le hq hG16)).trans ((C16.low.block q hq).trans (hlow6.block q hq).symm)).mono fun q hq => ⟨hY2 q hq, fun er => by injection er with er; have er : w16.heap.size = q := er; have : q < wh5.heap.size := hq; omega⟩
            go_wp2_with (first
              | (at_builtin
                 refine wpList_append_entrow _ rfl _ _ rfl w16.heap.size (by simp) Y (.slice (some ⟨w16.heap.size, 0, none⟩) 0 0) [] (EntRow.made w16 w16.heap.size (Nat.le_refl _) Y (hY1 _ (Nat.le_refl _))) rfl A6 L.length cap6 L hEL16 rfl (fun k hk => hY1 k (by simp at hk; omega)) (by simp; omega) L.length (by simp) L rfl ?_
                 intro A17 c17 w17 hrow17 hg17
                 have hb17 : Below w16.heap.size w16 w17 := hA16.grown hg17 hA16.size (fun q hq => by injection hq with hq; have hq : w16.heap.size = q := hq; omega)
                 have hEM17 : Ents w17 (fun q => Y q ∧ (Value.slice A17 L.length c17).ownBlock ≠ some q) A2 more.length cap2 more :=
                   ((hEG2.below C16.low (Nat.le_refl _)).below hb17 (Nat.le_refl _)).mono fun q hq => ⟨hY2 q hq, fun er => by obtain ⟨xs, ho, _⟩ := hrow17; have := (ho.lt q er).1; have : q < wh5.heap.size := hq; omega⟩)
              | (at_builtin
                 refine wpList_append_entrow _ rfl _ _ rfl w16.heap.size hb17.size Y (.slice A17 L.length c17) L hrow17 rfl A2 more.length cap2 more hEM17 rfl (fun k hk => hY1 k (Nat.le_trans hb17.size hk)) (by omega) M (by exact hMM.out) (L ++ more) rfl ?_
                 intro A18 c18 w18 hrow18 hg18
                 have hb18 : Below w16.heap.size w16 w18 := hb17.grown hg18 hb17.size (fun q hq => by obtain ⟨xs, ho, _⟩ := hrow17; exact (ho.lt q hq).1)
                 have hsl := fun W => run_frontE A18 M c18 N (by have := hrow18.cap; omega) W)
              | fail)
            clear p0 p1 o0 o1 b0 b1 b2 b3 b4 b5 r0 r1 r2
            have pa := (hb18.block _ (hlt pa)).trans pa
            have pm := (hb18.block _ (hlt pm)).trans pm
            have pb := (hb18.block _ (hlt pb)).trans pb
            have ps := (hb18.block _ (hlt ps)).trans ps
            have hb1418 := hb1416.trans (hb18.mono hb1416.size)
            have hc18 := hoE.below hb1418 (Nat.le_refl _)
            have ha18 := hrow18.ents
            rw [hMl] at ha18
            have hSa := sameR_any _ _ A14 N c14 _ A18 N c18 _ w18 hc18 (ha18.front N (by omega)) (by unfold maxLen; omega)
            rw [hlist, sameE_refl] at hSa
            have C18 := C16.below (hb18)
            clear hrow17 hrow18 hg17 hg18 hb17 hEM17 hEL16 hc18 ha18 hsl C16 hY1 hY2 hA16
            obtain ⟨⟨p0, p1⟩, _⟩ := row2 pa
            obtain ⟨⟨o0, o1⟩, _⟩ := row2 pm
            obtain ⟨⟨b0, b1, b2, b3, b4, b5⟩, _⟩ := row6 pb
            obtain ⟨⟨r0, r1, r2⟩, _⟩ := row3 ps
            go_wp2_with fail
            refine hSa.mono ?_
            rintro e w19 ⟨rfl, hb19⟩
            clear p0 p1 o0 o1 b0 b1 b2 b3 b4 b5 r0 r1 r2
            have pa := (hb19.block _ (hlt pa)).trans pa
            have pm := (hb19.block _ (hlt pm)).trans pm
            have pb := (hb19.block _ (hlt pb)).trans pb
            have ps := (hb19.block _ (hlt ps)).trans ps
            have C19 := C18.below hb19
            clear hSa hb19 C18
            obtain ⟨⟨p0, p1⟩, _⟩ := row2 pa
            obtain ⟨⟨o0, o1⟩, _⟩ := row2 pm
            obtain ⟨⟨b0, b1, b2, b3, b4, b5⟩, _⟩ := row6 pb
            obtain ⟨⟨r0, r1, r2⟩, _⟩ := row3 ps
            go_wp2
            go_ret
            exact ⟨rfl, hbw.trans (C19.low.mono hbw.size)⟩
        · by_cases hah : a = h
          · have eH : (a.t == h.t && a.v == h.v) = true := by rw [hd_beq]; simp [hah]
            have eN : (a.t == nx.t && a.v == nx.v) = true := by rw [hd_beq]; simp [han]
            have z1 := neq_hardC a.t a.v h.t h.v
            have z2 := neq_hardC a.t a.v nx.t nx.v
            have z3 := eq_hardC a.t a.v nx.t nx.v
            rw [eH] at z1
            rw [eN] at z2 z3
            have q5 : (L.length < N) = True := eq_true (by omega)
            have q5i : ((L.length : Int) < (N : Int)) = True := eq_true (by omega)
            have q5d : decide (L.length < N) = true := decide_eq_true (by omega)
            have q7 : ((N : Int) == (M : Int)) = true := by rw [beq_iff_eq]; omega
            have q7b : ((N : Int) = (M : Int)) = True := eq_true (by omega)
            have q7c : (N = M) = True := eq_true (by omega)
            clear hah han eH eN
            have ha15 : Below w14.heap.size w14 ((w14.alloc (.cells #[.int .i64 a.t, .int .i64 a.v] 32)).alloc (.cells #[.int .i64 S.i, .int .i64 S.t, .slice Bs S.d.length bc] 35)) := ((Below.refl _ _).alloc (Nat.le_refl _) _).alloc (by simp) _
            have pa : ((w14.alloc (.cells #[.int .i64 a.t, .int .i64 a.v] 32)).alloc (.cells #[.int .i64 S.i, .int .i64 S.t, .slice Bs S.d.length bc] 35)).heap[w14.heap.size]? = some (.cells #[.int .i64 a.t, .int .i64 a.v] 32) := (Below.heap_alloc _ _ _ (by simp)).trans (heap_alloc_new _ _)
            have ps : ((w14.alloc (.cells #[.int .i64 a.t, .int .i64 a.v] 32)).alloc (.cells #[.int .i64 S.i, .int .i64 S.t, .slice Bs S.d.length bc] 35)).heap[w14.heap.size + 1]? = some (.cells #[.int .i64 S.i, .int .i64 S.t, .slice Bs S.d.length bc] 35) := heap_alloc2_new _ _ _
            have pb := (ha15.block _ (hlt b14)).trans b14
            have pm := (ha15.block _ (hlt m14)).trans m14
            have C15 := C14.below ha15
            have hS15 : Lies ((w14.alloc (.cells #[.int .i64 a.t, .int .i64 a.v] 32)).alloc (.cells #[.int .i64 S.i, .int .i64 S.t, .slice Bs S.d.length bc] 35)) B6 S.d.length c6 S.d := hlS.keep (by have := hlt pb; omega) fun h0 g off e _ => (C15.low.block g (hzS h0 g off e)).trans (hlow6.block g (hzS h0 g off e)).symm
            have hSm := sameSnapR_any S.i S.t Bs S.d.length bc S.d S.i S.t B6 S.d.length c6 S.d ((w14.alloc (.cells #[.int .i64 a.t, .int .i64 a.v] 32)).alloc (.cells #[.int .i64 S.i, .int .i64 S.t, .slice Bs S.d.length bc] 35)) (hol.below ha15 (Nat.le_refl _)) hS15
            rw [oneB_self] at hSm
            clear hS15 b14 m14
            obtain ⟨⟨p0, p1⟩, _⟩ := row2 pa
            obtain ⟨⟨o0, o1⟩, _⟩ := row2 pm
            obtain ⟨⟨b0, b1, b2, b3, b4, b5⟩, _⟩ := row6 pb
            obtain ⟨⟨r0, r1, r2⟩, _⟩ := row3 ps
            go_wp2_with fail
            refine hSm.mono ?_
            rintro e w16 ⟨rfl, hb16⟩
            clear p0 p1 o0 o1 b0 b1 b2 b3 b4 b5 r0 r1 r2
            have pa := (hb16.block _ (hlt pa)).trans pa
            have pm := (hb16.block _ (hlt pm)).trans pm
            have pb := (hb16.block _ (hlt pb)).trans pb
            have ps := (hb16.block _ (hlt ps)).trans ps
            have C16 := C15.below hb16
            have hb1416 : Below w14.heap.size w14 w16 := ha15.trans (hb16.mono ha15.size)
            clear hSm hb16 C15 ha15
            obtain ⟨⟨p0, p1⟩, _⟩ := row2 pa
            obtain ⟨⟨o0, o1⟩, _⟩ := row2 pm
            obtain ⟨⟨b0, b1, b2, b3, b4, b5⟩, _⟩ := row6 pb
            obtain ⟨⟨r0, r1, r2⟩, _⟩ := row3 ps
            have hfar := hlt pb
            obtain ⟨Y, hY⟩ : ∃ Y, Y = (fun k => k < wh5.heap.size ∨ w16.heap.size ≤ k) := ⟨_, rfl⟩
            have hY1 : ∀ k, w16.heap.size ≤ k → Y k := fun k hk => by rw [hY]; exact .inr hk
            have hY2 : ∀ k, k < wh5.heap.size → Y k := fun k hk => by rw [hY]; exact .inl hk
            have hG16 := C16.low.size
            have hA16 : Below w16.heap.size w16 (w16.alloc (.cells #[] 69)) := (Below.refl _ _).alloc (Nat.le_refl _) _
            have hEL16 : Ents (w16.alloc (.cells #[] 69)) (fun q => Y q ∧ (Value.slice (some ⟨w16.heap.size, 0, none⟩) 0 0).ownBlock ≠ some q) A6 L.length cap6 L :=
              (hEL.keep (by have := hA16.size; have := hlt pb; omega) fun q _ hq => (hA16.block q (Nat.lt_of_lt_of_le hq hG16)).trans ((C16.low.block q hq).trans (hlow6.block q hq).symm)).mono fun q hq => ⟨hY2 q hq, fun er => by injection er with er; have er : w16.heap.size = q := er; have : q < wh5.heap.size := hq; omega⟩
            go_wp2_with (first
              | (at_builtin
                 refine wpList_append_entrow _ rfl _ _ rfl w16.heap.size (by simp) Y (.slice (some ⟨w16.heap.size, 0, none⟩) 0 0) [] (EntRow.made w16 w16.heap.size (Nat.le_refl _) Y (hY1 _ (Nat.le_refl _))) rfl A6 L.length cap6 L hEL16 rfl (fun k hk => hY1 k (by simp at hk; omega)) (by simp; omega) L.length (by simp) L rfl ?_
                 intro A17 c17 w17 hrow17 hg17
                 have hb17 : Below w16.heap.size w16 w17 := hA16.grown hg17 hA16.size (fun q hq => by injection hq with hq; have hq : w16.heap.size = q := hq; omega)
                 have hEM17 : Ents w17 (fun q => Y q ∧ (Value.slice A17 L.length c17).ownBlock ≠ some q) A2 more.length cap2 more :=
                   ((hEG2.below C16.low (Nat.le_refl _)).below hb17 (Nat.le_refl _)).mono fun q hq => ⟨hY2 q hq, fun er => by obtain ⟨xs, ho, _⟩ := hrow17; have := (ho.lt q er).1; have : q < wh5.heap.size := hq; omega⟩)
              | (at_builtin
                 refine wpList_append_entrow _ rfl _ _ rfl w16.heap.size hb17.size Y (.slice A17 L.length c17) L hrow17 rfl A2 more.length cap2 more hEM17 rfl (fun k hk => hY1 k (Nat.le_trans hb17.size hk)) (by omega) M (by exact hMM.out) (L ++ more) rfl ?_
                 intro A18 c18 w18 hrow18 hg18
                 have hb18 : Below w16.heap.size w16 w18 := hb17.grown hg18 hb17.size (fun q hq => by obtain ⟨xs, ho, _⟩ := hrow17; exact (ho.lt q hq).1)
                 have hsl := fun W => run_frontE A18 M c18 N (by have := hrow18.cap; omega) W)
              | fail)
            clear p0 p1 o0 o1 b0 b1 b2 b3 b4 b5 r0 r1 r2
            have pa := (hb18.block _ (hlt pa)).trans pa
            have pm := (hb18.block _ (hlt pm)).trans pm
            have pb := (hb18.block _ (hlt pb)).trans pb
            have ps := (hb18.block _ (hlt ps)).trans ps
            have hb1418 := hb1416.trans (hb18.mono hb1416.size)
            have hc18 := hoE.below hb1418 (Nat.le_refl _)
            have ha18 := hrow18.ents
            rw [hMl] at ha18
            have hSa := sameR_any _ _ A14 N c14 _ A18 N c18 _ w18 hc18 (ha18.front N (by omega)) (by unfold maxLen; omega)
            rw [hlist, sameE_refl] at hSa
            have C18 := C16.below (hb18)
            clear hrow17 hrow18 hg17 hg18 hb17 hEM17 hEL16 hc18 ha18 hsl C16 hY1 hY2 hA16
            obtain ⟨⟨p0, p1⟩, _⟩ := row2 pa
            obtain ⟨⟨o0, o1⟩, _⟩ := row2 pm
            obtain ⟨⟨b0, b1, b2, b3, b4, b5⟩, _⟩ := row6 pb
            obtain ⟨⟨r0, r1, r2⟩, _⟩ := row3 ps
            go_wp2_with fail
            refine hSa.mono ?_
            rintro e w19 ⟨rfl, hb19⟩
            clear p0 p1 o0 o1 b0 b1 b2 b3 b4 b5 r0 r1 r2
            have pa := (hb19.block _ (hlt pa)).trans pa
            have pm := (hb19.block _ (hlt pm)).trans pm
            have pb := (hb19.block _ (hlt pb)).trans pb
            have ps := (hb19.block _ (hlt ps)).trans ps
            have C19 := C18.below hb19
            clear hSa hb19 C18
            obtain ⟨⟨p0, p1⟩, _⟩ := row2 pa
            obtain ⟨⟨o0, o1⟩, _⟩ := row2 pm
            obtain ⟨⟨b0, b1, b2, b3, b4, b5⟩, _⟩ := row6 pb
            obtain ⟨⟨r0, r1, r2⟩, _⟩ := row3 ps
            go_wp2
            go_ret
            exact ⟨rfl, hbw.trans (C19.low.mono hbw.size)⟩
          · have eH : (a.t == h.t && a.v == h.v) = false := by rw [hd_beq]; simp [hah]
            have eN : (a.t == nx.t && a.v == nx.v) = true := by rw [hd_beq]; simp [han]
            have z1 := neq_hardC a.t a.v h.t h.v
            have z2 := neq_hardC a.t a.v nx.t nx.v
            have z3 := eq_hardC a.t a.v nx.t nx.v
            rw [eH] at z1
            rw [eN] at z2 z3
            have q5 : (L.length < N) = True := eq_true (by omega)
            have q5i : ((L.length : Int) < (N : Int)) = True := eq_true (by omega)
            have q5d : decide (L.length < N) = true := decide_eq_true (by omega)
            have q7 : ((N : Int) == (M : Int)) = true := by rw [beq_iff_eq]; omega
            have q7b : ((N : Int) = (M : Int)) = True := eq_true (by omega)
            have q7c : (N = M) = True := eq_true (by omega)
            clear hah han eH eN
            have ha15 : Below w14.heap.size w14 ((w14.alloc (.cells #[.int .i64 a.t, .int .i64 a.v] 32)).alloc (.cells #[.int .i64 S.i, .int .i64 S.t, .slice Bs S.d.length bc] 35)) := ((Below.refl _ _).alloc (Nat.le_refl _) _).alloc (by simp) _
            have pa : ((w14.alloc (.cells #[.int .i64 a.t, .int .i64 a.v] 32)).alloc (.cells #[.int .i64 S.i, .int .i64 S.t, .slice Bs S.d.length bc] 35)).heap[w14.heap.size]? = some (.cells #[.int .i64 a.t, .int .i64 a.v] 32) := (Below.heap_alloc _ _ _ (by simp)).trans (heap_alloc_new _ _)
            have ps : ((w14.alloc (.cells #[.int .i64 a.t, .int .i64 a.v] 32)).alloc (.cells #[.int .i64 S.i, .int .i64 S.t, .slice Bs S.d.length bc] 35)).heap[w14.heap.size + 1]? = some (.cells #[.int .i64 S.i, .int .i64 S.t, .slice Bs S.d.length bc] 35) := heap_alloc2_new _ _ _
            have pb := (ha15.block _ (hlt b14)).trans b14
            have pm := (ha15.block _ (hlt m14)).trans m14
            have C15 := C14.below ha15
            have hS15 : Lies ((w14.alloc (.cells #[.int .i64 a.t, .int .i64 a.v] 32)).alloc (.cells #[.int .i64 S.i, .int .i64 S.t, .slice Bs S.d.length bc] 35)) B6 S.d.length c6 S.d := hlS.keep (by have := hlt pb; omega) fun h0 g off e _ => (C15.low.block g (hzS h0 g off e)).trans (hlow6.block g (hzS h0 g off e)).symm
            have hSm := sameSnapR_any S.i S.t Bs S.d.length bc S.d S.i S.t B6 S.d.length c6 S.d ((w14.alloc (.cells #[.int .i64 a.t, .int .i64 a.v] 32)).alloc (.cells #[.int .i64 S.i, .int .i64 S.t, .slice Bs S.d.length bc] 35)) (hol.below ha15 (Nat.le_refl _)) hS15
            rw [oneB_self] at hSm
            clear hS15 b14 m14
            obtain ⟨⟨p0, p1⟩, _⟩ := row2 pa
            obtain ⟨⟨o0, o1⟩, _⟩ := row2 pm
            obtain ⟨⟨b0, b1, b2, b3, b4, b5⟩, _⟩ := row6 pb
            obtain ⟨⟨r0, r1, r2⟩, _⟩ := row3 ps
            go_wp2_with fail
            refine hSm.mono ?_
            rintro e w16 ⟨rfl, hb16⟩
            clear p0 p1 o0 o1 b0 b1 b2 b3 b4 b5 r0 r1 r2
            have pa := (hb16.block _ (hlt pa)).trans pa
            have pm := (hb16.block _ (hlt pm)).trans pm
            have pb := (hb16.block _ (hlt pb)).trans pb
            have ps := (hb16.block _ (hlt ps)).trans ps
            have C16 := C15.below hb16
            have hb1416 : Below w14.heap.size w14 w16 := ha15.trans (hb16.mono ha15.size)
            clear hSm hb16 C15 ha15
            obtain ⟨⟨p0, p1⟩, _⟩ := row2 pa
            obtain ⟨⟨o0, o1⟩, _⟩ := row2 pm
            obtain ⟨⟨b0, b1, b2, b3, b4, b5⟩, _⟩ := row6 pb
            obtain ⟨⟨r0, r1, r2⟩, _⟩ := row3 ps
            have hfar := hlt pb
            obtain ⟨Y, hY⟩ : ∃ Y, Y = (fun k => k < wh5.heap.size ∨ w16.heap.size ≤ k) := ⟨_, rfl⟩
            have hY1 : ∀ k, w16.heap.size ≤ k → Y k := fun k hk => by rw [hY]; exact .inr hk
            have hY2 : ∀ k, k < wh5.heap.size → Y k := fun k hk => by rw [hY]; exact .inl hk
            have hG16 := C16.low.size
            have hA16 : Below w16.heap.size w16 (w16.alloc (.cells #[] 69)) := (Below.refl _ _).alloc (Nat.le_refl _) _
            have hEL16 : Ents (w16.alloc (.cells #[] 69)) (fun q => Y q ∧ (Value.slice (some ⟨w16.heap.size, 0, none⟩) 0 0).ownBlock ≠ some q) A6 L.length cap6 L :=
              (hEL.keep (by have := hA16.size; have := hlt pb; omega) fun q _ hq => (hA16.block q (Nat.lt_of_lt_of_le hq hG16)).trans ((C16.low.block q hq).trans (hlow6.block q hq).symm)).mono fun q hq => ⟨hY2 q hq, fun er => by injection er with er; have er : w16.heap.size = q := er; have : q < wh5.heap.size := hq; omega⟩
            go_wp2_with (first
              | (at_builtin
                 refine wpList_append_entrow _ rfl _ _ rfl w16.heap.size (by simp) Y (.slice (some ⟨w16.heap.size, 0, none⟩) 0 0) [] (EntRow.made w16 w16.heap.size (Nat.le_refl _) Y (hY1 _ (Nat.le_refl _))) rfl A6 L.length cap6 L hEL16 rfl (fun k hk => hY1 k (by simp at hk; omega)) (by simp; omega) L.length (by simp) L rfl ?_
                 intro A17 c17 w17 hrow17 hg17
                 have hb17 : Below w16.heap.size w16 w17 := hA16.grown hg17 hA16.size (fun q hq => by injection hq with hq; have hq : w16.heap.size = q := hq; omega)
                 have hEM17 : Ents w17 (fun q => Y q ∧ (Value.slice A17 L.length c17).ownBlock ≠ some q) A2 more.length cap2 more :=
                   ((hEG2.below C16.low (Nat.le_refl _)).below hb17 (Nat.le_refl _)).mono fun q hq => ⟨hY2 q hq, fun er => by obtain ⟨xs, ho, _⟩ := hrow17; have := (ho.lt q er).1; have : q < wh5.heap.size := hq; omega⟩)
              | (at_builtin
                 refine wpList_append_entrow _ rfl _ _ rfl w16.heap.size hb17.size Y (.slice A17 L.length c17) L hrow17 rfl A2 more.length cap2 more hEM17 rfl (fun k hk => hY1 k (Nat.le_trans hb17.size hk)) (by omega) M (by exact hMM.out) (L ++ more) rfl ?_
                 intro A18 c18 w18 hrow18 hg18
                 have hb18 : Below w16.heap.size w16 w18 := hb17.grown hg18 hb17.size (fun q hq => by obtain ⟨xs, ho, _⟩ := hrow17; exact (ho.lt q hq).1)
                 have hsl := fun W => run_frontE A18 M c18 N (by have := hrow18.cap; omega) W)
              | fail)
            clear p0 p1 o0 o1 b0 b1 b2 b3 b4 b5 r0 r1 r2
            have pa := (hb18.block _ (hlt pa)).trans pa
            have pm := (hb18.block _ (hlt pm)).trans pm
            have pb := (hb18.block _ (hlt pb)).trans pb
            have ps := (hb18.block _ (hlt ps)).trans ps
            have hb1418 := hb1416.trans (hb18.mono hb1416.size)
            have hc18 := hoE.below hb1418 (Nat.le_refl _)
            have ha18 := hrow18.ents
            rw [hMl] at ha18
            have hSa := sameR_any _ _ A14 N c14 _ A18 N c18 _ w18 hc18 (ha18.front N (by omega)) (by unfold maxLen; omega)
            rw [hlist, sameE_refl] at hSa
            have C18 := C16.below (hb18)
            clear hrow17 hrow18 hg17 hg18 hb17 hEM17 hEL16 hc18 ha18 hsl C16 hY1 hY2 hA16
            obtain ⟨⟨p0, p1⟩, _⟩ := row2 pa
            obtain ⟨⟨o0, o1⟩, _⟩ := row2 pm
            obtain ⟨⟨b0, b1, b2, b3, b4, b5⟩, _⟩ := row6 pb
            obtain ⟨⟨r0, r1, r2⟩, _⟩ := row3 ps
            go_wp2_with fail
            refine hSa.mono ?_
            rintro e w19 ⟨rfl, hb19⟩
            clear p0 p1 o0 o1 b0 b1 b2 b3 b4 b5 r0 r1 r2
            have pa := (hb19.block _ (hlt pa)).trans pa
            have pm := (hb19.block _ (hlt pm)).trans pm
            have pb := (hb19.block _ (hlt pb)).trans pb
            have ps := (hb19.block _ (hlt ps)).trans ps
            have C19 := C18.below hb19
            clear hSa hb19 C18
            obtain ⟨⟨p0, p1⟩, _⟩ := row2 pa
            obtain ⟨⟨o0, o1⟩, _⟩ := row2 pm
            obtain ⟨⟨b0, b1, b2, b3, b4, b5⟩, _⟩ := row6 pb
            obtain ⟨⟨r0, r1, r2⟩, _⟩ := row3 ps
            go_wp2
            go_ret
            exact ⟨rfl, hbw.trans (C19.low.mono hbw.size)⟩
      · clear cfull
        by_cases hj0 : jj = 0
        · clear cja
          by_cases hah : a = h
          · by_cases han : a = nx
            · have eH : (a.t == h.t && a.v == h.v) = true := by rw [hd_beq]; simp [hah]
              have eN : (a.t == nx.t && a.v == nx.v) = true := by rw [hd_beq]; simp [han]
              have z1 := neq_hardC a.t a.v h.t h.v
              have z2 := neq_hardC a.t a.v nx.t nx.v
              have z3 := eq_hardC a.t a.v nx.t nx.v
              rw [eH] at z1
              rw [eN] at z2 z3
              have q5 : (L.length < N) = False := eq_false (by omega)
              have q5i : ((L.length : Int) < (N : Int)) = False := eq_false (by omega)
              have q5d : decide (L.length < N) = false := decide_eq_false (by omega)
              have q6 : ((e10 : Int) != 0) = true := by simp; omega
              have q6b : ((e10 : Int) = 0) = False := eq_false (by omega)
              clear hah han eH eN
              have ha15 : Below w14.heap.size w14 ((w14.alloc (.cells #[.int .i64 a.t, .int .i64 a.v] 32)).alloc (.cells #[.int .i64 S.i, .int .i64 S.t, .slice Bs S.d.length bc] 35)) := ((Below.refl _ _).alloc (Nat.le_refl _) _).alloc (by simp) _
              have pa : ((w14.alloc (.cells #[.int .i64 a.t, .int .i64 a.v] 32)).alloc (.cells #[.int .i64 S.i, .int .i64 S.t, .slice Bs S.d.length bc] 35)).heap[w14.heap.size]? = some (.cells #[.int .i64 a.t, .int .i64 a.v] 32) := (Below.heap_alloc _ _ _ (by simp)).trans (heap_alloc_new _ _)
              have ps : ((w14.alloc (.cells #[.int .i64 a.t, .int .i64 a.v] 32)).alloc (.cells #[.int .i64 S.i, .int .i64 S.t, .slice Bs S.d.length bc] 35)).heap[w14.heap.size + 1]? = some (.cells #[.int .i64 S.i, .int .i64 S.t, .slice Bs S.d.length bc] 35) := heap_alloc2_new _ _ _
              have pb := (ha15.block _ (hlt b14)).trans b14
              have pm := (ha15.block _ (hlt m14)).trans m14
              have C15 := C14.below ha15
              have hS15 : Lies ((w14.alloc (.cells #[.int .i64 a.t, .int .i64 a.v] 32)).alloc (.cells #[.int .i64 S.i, .int .i64 S.t, .slice Bs S.d.length bc] 35)) B6 S.d.length c6 S.d := hlS.keep (by have := hlt pb; omega) fun h0 g off e _ => (C15.low.block g (hzS h0 g off e)).trans (hlow6.block g (hzS h0 g off e)).symm
              have hSm := sameSnapR_any S.i S.t Bs S.d.length bc S.d S.i S.t B6 S.d.length c6 S.d ((w14.alloc (.cells #[.int .i64 a.t, .int .i64 a.v] 32)).alloc (.cells #[.int .i64 S.i, .int .i64 S.t, .slice Bs S.d.length bc] 35)) (hol.below ha15 (Nat.le_refl _)) hS15
              rw [oneB_self] at hSm
              clear hS15 b14 m14
              obtain ⟨⟨p0, p1⟩, _⟩ := row2 pa
              obtain ⟨⟨o0, o1⟩, _⟩ := row2 pm
              obtain ⟨⟨b0, b1, b2, b3, b4, b5⟩, _⟩ := row6 pb
              obtain ⟨⟨r0, r1, r2⟩, _⟩ := row3 ps
              go_wp2_with fail
              refine hSm.mono ?_
              rintro e w16 ⟨rfl, hb16⟩
              clear p0 p1 o0 o1 b0 b1 b2 b3 b4 b5 r0 r1 r2
              have pa := (hb16.block _ (hlt pa)).trans pa
              have pm := (hb16.block _ (hlt pm)).trans pm
              have pb := (hb16.block _ (hlt pb)).trans pb
              have ps := (hb16.block _ (hlt ps)).trans ps
              have C16 := C15.below hb16
              have hb1416 : Below w14.heap.size w14 w16 := ha15.trans (hb16.mono ha15.size)
              clear hSm hb16 C15 ha15
              obtain ⟨⟨p0, p1⟩, _⟩ := row2 pa
              obtain ⟨⟨o0, o1⟩, _⟩ := row2 pm
              obtain ⟨⟨b0, b1, b2, b3, b4, b5⟩, _⟩ := row6 pb
              obtain ⟨⟨r0, r1, r2⟩, _⟩ := row3 ps
              have hfar := hlt pb
              obtain ⟨Y, hY⟩ : ∃ Y, Y = (fun k => k < wh5.heap.size ∨ w16.heap.size ≤ k) := ⟨_, rfl⟩
              have hY1 : ∀ k, w16.heap.size ≤ k → Y k := fun k hk => by rw [hY]; exact .inr hk
              have hY2 : ∀ k, k < wh5.heap.size → Y k := fun k hk => by rw [hY]; exact .inl hk
              have hG16 := C16.low.size
              have hA16 : Below w16.heap.size w16 (w16.alloc (.cells #[] 69)) := (Below.refl _ _).alloc (Nat.le_refl _) _
              have hEL16 : Ents (w16.alloc (.cells #[] 69)) (fun q => Y q ∧ (Value.slice (some ⟨w16.heap.size, 0, none⟩) 0 0).ownBlock ≠ some q) A6 L.length cap6 L :=
                (hEL.keep (by have := hA16.size; have := hlt pb; omega) fun q _ hq => (hA16.block q (Nat.lt_of_lt_of_le hq hG16)).trans ((C16.low.block q hq).trans (hlow6.block q hq).symm)).mono fun q hq => ⟨hY2 q hq, fun er => by injection er with er; have er : w16.heap.size = q := er; have : q < wh5.heap.size := hq; omega⟩
              go_wp2_with (first
                | (at_builtin
                   refine wpList_append_entrow _ rfl _ _ rfl w16.heap.size (by simp) Y (.slice (some ⟨w16.heap.size, 0, none⟩) 0 0) [] (EntRow.made w16 w16.heap.size (Nat.le_refl _) Y (hY1 _ (Nat.le_refl _))) rfl A6 L.length cap6 L hEL16 rfl (fun k hk => hY1 k (by simp at hk; omega)) (by simp; omega) L.length (by simp) L rfl ?_
                   intro A17 c17 w17 hrow17 hg17
                   have hb17 : Below w16.heap.size w16 w17 := hA16.grown hg17 hA16.size (fun q hq => by injection hq with hq; have hq : w16.heap.size = q := hq; omega)
                   have hEM17 : Ents w17 (fun q => Y q ∧ (Value.slice A17 L.length c17).ownBlock ≠ some q) A2 more.length cap2 more :=
                     ((hEG2.below C16.low (Nat.le_refl _)).below hb17 (Nat.le_refl _)).mono fun q hq => ⟨hY2 q hq, fun er => by obtain ⟨xs, ho, _⟩ := hrow17; have := (ho.lt q er).1; have : q < wh5.heap.size := hq; omega⟩)
                | (at_builtin
                   refine wpList_append_entrow _ rfl _ _ rfl w16.heap.size hb17.size Y (.slice A17 L.length c17) L hrow17 rfl A2 more.length cap2 more hEM17 rfl (fun k hk => hY1 k (Nat.le_trans hb17.size hk)) (by omega) M (by exact hMM.out) (L ++ more) rfl ?_
                   intro A18 c18 w18 hrow18 hg18
                   have hb18 : Below w16.heap.size w16 w18 := hb17.grown hg18 hb17.size (fun q hq => by obtain ⟨xs, ho, _⟩ := hrow17; exact (ho.lt q hq).1)
                   have hsl := fun W => run_frontE A18 M c18 N (by have := hrow18.cap; omega) W)
                | fail)
              clear p0 p1 o0 o1 b0 b1 b2 b3 b4 b5 r0 r1 r2
              have pa := (hb18.block _ (hlt pa)).trans pa
              have pm := (hb18.block _ (hlt pm)).trans pm
              have pb := (hb18.block _ (hlt pb)).trans pb
              have ps := (hb18.block _ (hlt ps)).trans ps
              have hb1418 := hb1416.trans (hb18.mono hb1416.size)
              have hc18 := hoE.below hb1418 (Nat.le_refl _)
              have ha18 := hrow18.ents
              rw [hMl] at ha18
              have hSa := sameR_any _ _ A14 N c14 _ A18 N c18 _ w18 hc18 (ha18.front N (by omega)) (by unfold maxLen; omega)
              rw [hlist, sameE_refl] at hSa
              have C18 := C16.below (hb18)
              clear hrow17 hrow18 hg17 hg18 hb17 hEM17 hEL16 hc18 ha18 hsl C16 hY1 hY2 hA16
              obtain ⟨⟨p0, p1⟩, _⟩ := row2 pa
              obtain ⟨⟨o0, o1⟩, _⟩ := row2 pm
              obtain ⟨⟨b0, b1, b2, b3, b4, b5⟩, _⟩ := row6 pb
              obtain ⟨⟨r0, r1, r2⟩, _⟩ := row3 ps
              go_wp2_with fail
              refine hSa.mono ?_
              rintro e w19 ⟨rfl, hb19⟩
              clear p0 p1 o0 o1 b0 b1 b2 b3 b4 b5 r0 r1 r2
              have pa := (hb19.block _ (hlt pa)).trans pa
              have pm := (hb19.block _ (hlt pm)).trans pm
              have pb := (hb19.block _ (hlt pb)).trans pb
              have ps := (hb19.block _ (hlt ps)).trans ps
              have C19 := C18.below hb19
              clear hSa hb19 C18
              obtain ⟨⟨p0, p1⟩, _⟩ := row2 pa
              obtain ⟨⟨o0, o1⟩, _⟩ := row2 pm
              obtain ⟨⟨b0, b1, b2, b3, b4, b5⟩, _⟩ := row6 pb
              obtain ⟨⟨r0, r1, r2⟩, _⟩ := row3 ps
              go_wp2
              go_ret
              exact ⟨rfl, hbw.trans (C19.low.mono hbw.size)⟩
            · have eH : (a.t == h.t && a.v == h.v) = true := by rw [hd_beq]; simp [hah]
              have eN : (a.t == nx.t && a.v == nx.v) = false := by rw [hd_beq]; simp [han]
              have z1 := neq_hardC a.t a.v h.t h.v
              have z2 := neq_hardC a.t a.v nx.t nx.v
              have z3 := eq_hardC a.t a.v nx.t nx.v
              rw [eH] at z1
              rw [eN] at z2 z3
              have q5 : (L.length < N) = False := eq_false (by omega)
              have q5i : ((L.length : Int) < (N : Int)) = False := eq_false (by omega)
              have q5d : decide (L.length < N) = false := decide_eq_false (by omega)
              have q6 : ((e10 : Int) != 0) = true := by simp; omega
              have q6b : ((e10 : Int) = 0) = False := eq_false (by omega)
              clear hah han eH eN
              have ha15 : Below w14.heap.size w14 ((w14.alloc (.cells #[.int .i64 a.t, .int .i64 a.v] 32)).alloc (.cells #[.int .i64 S.i, .int .i64 S.t, .slice Bs S.d.length bc] 35)) := ((Below.refl _ _).alloc (Nat.le_refl _) _).alloc (by simp) _
              have pa : ((w14.alloc (.cells #[.int .i64 a.t, .int .i64 a.v] 32)).alloc (.cells #[.int .i64 S.i, .int .i64 S.t, .slice Bs S.d.length bc] 35)).heap[w14.heap.size]? = some (.cells #[.int .i64 a.t, .int .i64 a.v] 32) := (Below.heap_alloc _ _ _ (by simp)).trans (heap_alloc_new _ _)
              have ps : ((w14.alloc (.cells #[.int .i64 a.t, .int .i64 a.v] 32)).alloc (.cells #[.int .i64 S.i, .int .i64 S.t, .slice Bs S.d.length bc] 35)).heap[w14.heap.size + 1]? = some (.cells #[.int .i64 S.i, .int .i64 S.t, .slice Bs S.d.length bc] 35) := heap_alloc2_new _ _ _
              have pb := (ha15.block _ (hlt b14)).trans b14
              have pm := (ha15.block _ (hlt m14)).trans m14
              have C15 := C14.below ha15
              have hS15 : Lies ((w14.alloc (.cells #[.int .i64 a.t, .int .i64 a.v] 32)).alloc (.cells #[.int .i64 S.i, .int .i64 S.t, .slice Bs S.d.length bc] 35)) B6 S.d.length c6 S.d := hlS.keep (by have := hlt pb; omega) fun h0 g off e _ => (C15.low.block g (hzS h0 g off e)).trans (hlow6.block g (hzS h0 g off e)).symm
              have hSm := sameSnapR_any S.i S.t Bs S.d.length bc S.d S.i S.t B6 S.d.length c6 S.d ((w14.alloc (.cells #[.int .i64 a.t, .int .i64 a.v] 32)).alloc (.cells #[.int .i64 S.i, .int .i64 S.t, .slice Bs S.d.length bc] 35)) (hol.below ha15 (Nat.le_refl _)) hS15
              rw [oneB_self] at hSm
              clear hS15 b14 m14
              obtain ⟨⟨p0, p1⟩, _⟩ := row2 pa
              obtain ⟨⟨o0, o1⟩, _⟩ := row2 pm
              obtain ⟨⟨b0, b1, b2, b3, b4, b5⟩, _⟩ := row6 pb
              obtain ⟨⟨r0, r1, r2⟩, _⟩ := row3 ps
              go_wp2_with fail
              refine hSm.mono ?_
              rintro e w16 ⟨rfl, hb16⟩
              clear p0 p1 o0 o1 b0 b1 b2 b3 b4 b5 r0 r1 r2
              have pa := (hb16.block _ (hlt pa)).trans pa
              have pm := (hb16.block _ (hlt pm)).trans pm
              have pb := (hb16.block _ (hlt pb)).trans pb
              have ps := (hb16.block _ (hlt ps)).trans ps
              have C16 := C15.below hb16
              have hb1416 : Below w14.heap.size w14 w16 := ha15.trans (hb16.mono ha15.size)
              clear hSm hb16 C15 ha15
              obtain ⟨⟨p0, p1⟩, _⟩ := row2 pa
              obtain ⟨⟨o0, o1⟩, _⟩ := row2 pm
              obtain ⟨⟨b0, b1, b2, b3, b4, b5⟩, _⟩ := row6 pb
              obtain ⟨⟨r0, r1, r2⟩, _⟩ := row3 ps
              have hfar := hlt pb
              obtain ⟨Y, hY⟩ : ∃ Y, Y = (fun k => k < wh5.heap.size ∨ w16.heap.size ≤ k) := ⟨_, rfl⟩
              have hY1 : ∀ k, w16.heap.size ≤ k → Y k := fun k hk => by rw [hY]; exact .inr hk
              have hY2 : ∀ k, k < wh5.heap.size → Y k := fun k hk => by rw [hY]; exact .inl hk
              have hG16 := C16.low.size
              have hA16 : Below w16.heap.size w16 (w16.alloc (.cells #[] 69)) := (Below.refl _ _).alloc (Nat.le_refl _) _
              have hEL16 : Ents (w16.alloc (.cells #[] 69)) (fun q => Y q ∧ (Value.slice (some ⟨w16.heap.size, 0, none⟩) 0 0).ownBlock ≠ some q) A6 L.length cap6 L :=
                (hEL.keep (by have := hA16.size; have := hlt pb; omega) fun q _ hq => (hA16.block q (Nat.lt_of_lt_of_le hq hG16)).trans ((C16.low.block q hq).trans (hlow6.block q hq).symm)).mono fun q hq => ⟨hY2 q hq, fun er => by injection er with er; have er : w16.heap.size = q := er; have : q < wh5.heap.size := hq; omega⟩
              go_wp2_with (first
                | (at_builtin
                   refine wpList_append_entrow _ rfl _ _ rfl w16.heap.size (by simp) Y (.slice (some ⟨w16.heap.size, 0, none⟩) 0 0) [] (EntRow.made w16 w16.heap.size (Nat.le_refl _) Y (hY1 _ (Nat.le_refl _))) rfl A6 L.length cap6 L hEL16 rfl (fun k hk => hY1 k (by simp at hk; omega)) (by simp; omega) L.length (by simp) L rfl ?_
                   intro A17 c17 w17 hrow17 hg17
                   have hb17 : Below w16.heap.size w16 w17 := hA16.grown hg17 hA16.size (fun q hq => by injection hq with hq; have hq : w16.heap.size = q := hq; omega)
                   have hEM17 : Ents w17 (fun q => Y q ∧ (Value.slice A17 L.length c17).ownBlock ≠ some q) A2 more.length cap2 more :=
                     ((hEG2.below C16.low (Nat.le_refl _)).below hb17 (Nat.le_refl _)).mono fun q hq => ⟨hY2 q hq, fun er => by obtain ⟨xs, ho, _⟩ := hrow17; have := (ho.lt q er).1; have : q < wh5.heap.size := hq; omega⟩)
                | (at_builtin
                   refine wpList_append_entrow _ rfl _ _ rfl w16.heap.size hb17.size Y (.slice A17 L.length c17) L hrow17 rfl A2 more.length cap2 more hEM17 rfl (fun k hk => hY1 k (Nat.le_trans hb17.size hk)) (by omega) M (by exact hMM.out) (L ++ more) rfl ?_
                   intro A18 c18 w18 hrow18 hg18
                   have hb18 : Below w16.heap.size w16 w18 := hb17.grown hg18 hb17.size (fun q hq => by obtain ⟨xs, ho, _⟩ := hrow17; exact (ho.lt q hq).1)
                   have hsl := fun W => run_frontE A18 M c18 N (by have := hrow18.cap; omega) W)
                | fail)
              clear p0 p1 o0 o1 b0 b1 b2 b3 b4 b5 r0 r1 r2
              have pa := (hb18.block _ (hlt pa)).trans pa
              have pm := (hb18.block _ (hlt pm)).trans pm
              have pb := (hb18.block _ (hlt pb)).trans pb
              have ps := (hb18.block _ (hlt ps)).trans ps
              have hb1418 := hb1416.trans (hb18.mono hb1416.size)
              have hc18 := hoE.below hb1418 (Nat.le_refl _)
              have ha18 := hrow18.ents
              rw [hMl] at ha18
              have hSa := sameR_any _ _ A14 N c14 _ A18 N c18 _ w18 hc18 (ha18.front N (by omega)) (by unfold maxLen; omega)
              rw [hlist, sameE_refl] at hSa
              have C18 := C16.below (hb18)
              clear hrow17 hrow18 hg17 hg18 hb17 hEM17 hEL16 hc18 ha18 hsl C16 hY1 hY2 hA16
              obtain ⟨⟨p0, p1⟩, _⟩ := row2 pa
              obtain ⟨⟨o0, o1⟩, _⟩ := row2 pm
              obtain ⟨⟨b0, b1, b2, b3, b4, b5⟩, _⟩ := row6 pb
              obtain ⟨⟨r0, r1, r2⟩, _⟩ := row3 ps
              go_wp2_with fail
              refine hSa.mono ?_
              rintro e w19 ⟨rfl, hb19⟩
              clear p0 p1 o0 o1 b0 b1 b2 b3 b4 b5 r0 r1 r2
              have pa := (hb19.block _ (hlt pa)).trans pa
              have pm := (hb19.block _ (hlt pm)).trans pm
              have pb := (hb19.block _ (hlt pb)).trans pb
              have ps := (hb19.block _ (hlt ps)).trans ps
              have C19 := C18.below hb19
              clear hSa hb19 C18
              obtain ⟨⟨p0, p1⟩, _⟩ := row2 pa
              obtain ⟨⟨o0, o1⟩, _⟩ := row2 pm
              obtain ⟨⟨b0, b1, b2, b3, b4, b5⟩, _⟩ := row6 pb
              obtain ⟨⟨r0, r1, r2⟩, _⟩ := row3 ps
              go_wp2
              go_ret
              exact ⟨rfl, hbw.trans (C19.low.mono hbw.size)⟩
          · have han : a = nx := ca.resolve_left hah
            have eH : (a.t == h.t && a.v == h.v) = false := by rw [hd_beq]; simp [hah]
            have eN : (a.t == nx.t && a.v == nx.v) = true := by rw [hd_beq]; simp [han]
            have z1 := neq_hardC a.t a.v h.t h.v
            have z2 := neq_hardC a.t a.v nx.t nx.v
            have z3 := eq_hardC a.t a.v nx.t nx.v
            rw [eH] at z1
            rw [eN] at z2 z3
            have q5 : (L.length < N) = False := eq_false (by omega)
            have q5i : ((L.length : Int) < (N : Int)) = False := eq_false (by omega)
            have q5d : decide (L.length < N) = false := decide_eq_false (by omega)
            have q6 : ((e10 : Int) != 0) = true := by simp; omega
            have q6b : ((e10 : Int) = 0) = False := eq_false (by omega)
            clear hah han eH eN
            have ha15 : Below w14.heap.size w14 ((w14.alloc (.cells #[.int .i64 a.t, .int .i64 a.v] 32)).alloc (.cells #[.int .i64 S.i, .int .i64 S.t, .slice Bs S.d.length bc] 35)) := ((Below.refl _ _).alloc (Nat.le_refl _) _).alloc (by simp) _
            have pa : ((w14.alloc (.cells #[.int .i64 a.t, .int .i64 a.v] 32)).alloc (.cells #[.int .i64 S.i, .int .i64 S.t, .slice Bs S.d.length bc] 35)).heap[w14.heap.size]? = some (.cells #[.int .i64 a.t, .int .i64 a.v] 32) := (Below.heap_alloc _ _ _ (by simp)).trans (heap_alloc_new _ _)
            have ps : ((w14.alloc (.cells #[.int .i64 a.t, .int .i64 a.v] 32)).alloc (.cells #[.int .i64 S.i, .int .i64 S.t, .slice Bs S.d.length bc] 35)).heap[w14.heap.size + 1]? = some (.cells #[.int .i64 S.i, .int .i64 S.t, .slice Bs S.d.length bc] 35) := heap_alloc2_new _ _ _
            have pb := (ha15.block _ (hlt b14)).trans b14
            have pm := (ha15.block _ (hlt m14)).trans m14
            have C15 := C14.below ha15
            have hS15 : Lies ((w14.alloc (.cells #[.int .i64 a.t, .int .i64 a.v] 32)).alloc (.cells #[.int .i64 S.i, .int .i64 S.t, .slice Bs S.d.length bc] 35)) B6 S.d.length c6 S.d := hlS.keep (by have := hlt pb; omega) fun h0 g off e _ => (C15.low.block g (hzS h0 g off e)).trans (hlow6.block g (hzS h0 g off e)).symm
            have hSm := sameSnapR_any S.i S.t Bs S.d.length bc S.d S.i S.t B6 S.d.length c6 S.d ((w14.alloc (.cells #[.int .i64 a.t, .int .i64 a.v] 32)).alloc (.cells #[.int .i64 S.i, .int .i64 S.t, .slice Bs S.d.length bc] 35)) (hol.below ha15 (Nat.le_refl _)) hS15
            rw [oneB_self] at hSm
            clear hS15 b14 m14
            obtain ⟨⟨p0, p1⟩, _⟩ := row2 pa
            obtain ⟨⟨o0, o1⟩, _⟩ := row2 pm
            obtain ⟨⟨b0, b1, b2, b3, b4, b5⟩, _⟩ := row6 pb
            obtain ⟨⟨r0, r1, r2⟩, _⟩ := row3 ps
            go_wp2_with fail
            refine hSm.mono ?_
            rintro e w16 ⟨rfl, hb16⟩
            clear p0 p1 o0 o1 b0 b1 b2 b3 b4 b5 r0 r1 r2
            have pa := (hb16.block _ (hlt pa)).trans pa
            have pm := (hb16.block _ (hlt pm)).trans pm
            have pb := (hb16.block _ (hlt pb)).trans pb
            have ps := (hb16.block _ (hlt ps)).trans ps
            have C16 := C15.below hb16
            have hb1416 : Below w14.heap.size w14 w16 := ha15.trans (hb16.mono ha15.size)
            clear hSm hb16 C15 ha15
            obtain ⟨⟨p0, p1⟩, _⟩ := row2 pa
            obtain ⟨⟨o0, o1⟩, _⟩ := row2 pm
            obtain ⟨⟨b0, b1, b2, b3, b4, b5⟩, _⟩ := row6 pb
            obtain ⟨⟨r0, r1, r2⟩, _⟩ := row3 ps
            have hfar := hlt pb
            obtain ⟨Y, hY⟩ : ∃ Y, Y = (fun k => k < wh5.heap.size ∨ w16.heap.size ≤ k) := ⟨_, rfl⟩
            have hY1 : ∀ k, w16.heap.size ≤ k → Y k := fun k hk => by rw [hY]; exact .inr hk
            have hY2 : ∀ k, k < wh5.heap.size → Y k := fun k hk => by rw [hY]; exact .inl hk
            have hG16 := C16.low.size
            have hA16 : Below w16.heap.size w16 (w16.alloc (.cells #[] 69)) := (Below.refl _ _).alloc (Nat.le_refl _) _
            have hEL16 : Ents (w16.alloc (.cells #[] 69)) (fun q => Y q ∧ (Value.slice (some ⟨w16.heap.size, 0, none⟩) 0 0).ownBlock ≠ some q) A6 L.length cap6 L :=
              (hEL.keep (by have := hA16.size; have := hlt pb; omega) fun q _ hq => (hA16.block q (Nat.lt_of_lt_of_le hq hG16)).trans ((C16.low.block q hq).trans (hlow6.block q hq).symm)).mono fun q hq => ⟨hY2 q hq, fun er => by injection er with er; have er : w16.heap.size = q := er; have : q < wh5.heap.size := hq; omega⟩
            go_wp2_with (first
              | (at_builtin
                 refine wpList_append_entrow _ rfl _ _ rfl w16.heap.size (by simp) Y (.slice (some ⟨w16.heap.size, 0, none⟩) 0 0) [] (EntRow.made w16 w16.heap.size (Nat.le_refl _) Y (hY1 _ (Nat.le_refl _))) rfl A6 L.length cap6 L hEL16 rfl (fun k hk => hY1 k (by simp at hk; omega)) (by simp; omega) L.length (by simp) L rfl ?_
                 intro A17 c17 w17 hrow17 hg17
                 have hb17 : Below w16.heap.size w16 w17 := hA16.grown hg17 hA16.size (fun q hq => by injection hq with hq; have hq : w16.heap.size = q := hq; omega)
                 have hEM17 : Ents w17 (fun q => Y q ∧ (Value.slice A17 L.length c17).ownBlock ≠ some q) A2 more.length cap2 more :=
                   ((hEG2.below C16.low (Nat.le_refl _)).below hb17 (Nat.le_refl _)).mono fun q hq => ⟨hY2 q hq, fun er => by obtain ⟨xs, ho, _⟩ := hrow17; have := (ho.lt q er).1; have : q < wh5.heap.size := hq; omega⟩)
              | (at_builtin
                 refine wpList_append_entrow _ rfl _ _ rfl w16.heap.size hb17.size Y (.slice A17 L.length c17) L hrow17 rfl A2 more.length cap2 more hEM17 rfl (fun k hk => hY1 k (Nat.le_trans hb17.size hk)) (by omega) M (by exact hMM.out) (L ++ more) rfl ?_
                 intro A18 c18 w18 hrow18 hg18
                 have hb18 : Below w16.heap.size w16 w18 := hb17.grown hg18 hb17.size (fun q hq => by obtain ⟨xs, ho, _⟩ := hrow17; exact (ho.lt q hq).1)
                 have hsl := fun W => run_frontE A18 M c18 N (by have := hrow18.cap; omega) W)
              | fail)
            clear p0 p1 o0 o1 b0 b1 b2 b3 b4 b5 r0 r1 r2
            have pa := (hb18.block _ (hlt pa)).trans pa
            have pm := (hb18.block _ (hlt pm)).trans pm
            have pb := (hb18.block _ (hlt pb)).trans pb
            have ps := (hb18.block _ (hlt ps)).trans ps
            have hb1418 := hb1416.trans (hb18.mono hb1416.size)
            have hc18 := hoE.below hb1418 (Nat.le_refl _)
            have ha18 := hrow18.ents
            rw [hMl] at ha18
            have hSa := sameR_any _ _ A14 N c14 _ A18 N c18 _ w18 hc18 (ha18.front N (by omega)) (by unfold maxLen; omega)
            rw [hlist, sameE_refl] at hSa
            have C18 := C16.below (hb18)
            clear hrow17 hrow18 hg17 hg18 hb17 hEM17 hEL16 hc18 ha18 hsl C16 hY1 hY2 hA16
            obtain ⟨⟨p0, p1⟩, _⟩ := row2 pa
            obtain ⟨⟨o0, o1⟩, _⟩ := row2 pm
            obtain ⟨⟨b0, b1, b2, b3, b4, b5⟩, _⟩ := row6 pb
            obtain ⟨⟨r0, r1, r2⟩, _⟩ := row3 ps
            go_wp2_with fail
            refine hSa.mono ?_
            rintro e w19 ⟨rfl, hb19⟩
            clear p0 p1 o0 o1 b0 b1 b2 b3 b4 b5 r0 r1 r2
            have pa := (hb19.block _ (hlt pa)).trans pa
            have pm := (hb19.block _ (hlt pm)).trans pm
            have pb := (hb19.block _ (hlt pb)).trans pb
            have ps := (hb19.block _ (hlt ps)).trans ps
            have C19 := C18.below hb19
            clear hSa hb19 C18
            obtain ⟨⟨p0, p1⟩, _⟩ := row2 pa
            obtain ⟨⟨o0, o1⟩, _⟩ := row2 pm
            obtain ⟨⟨b0, b1, b2, b3, b4, b5⟩, _⟩ := row6 pb
            obtain ⟨⟨r0, r1, r2⟩, _⟩ := row3 ps
            go_wp2
            go_ret
            exact ⟨rfl, hbw.trans (C19.low.mono hbw.size)⟩
        · have han := cja (by omega)
          clear cja ca
          by_cases hah : a = h
          · have eH : (a.t == h.t && a.v == h.v) = true := by rw [hd_beq]; simp [hah]
            have eN : (a.t == nx.t && a.v == nx.v) = true := by rw [hd_beq]; simp [han]
            have z1 := neq_hardC a.t a.v h.t h.v
            have z2 := neq_hardC a.t a.v nx.t nx.v
            have z3 := eq_hardC a.t a.v nx.t nx.v
            rw [eH] at z1
            rw [eN] at z2 z3
            have q5 : (L.length < N) = True := eq_true (by omega)
            have q5i : ((L.length : Int) < (N : Int)) = True := eq_true (by omega)
            have q5d : decide (L.length < N) = true := decide_eq_true (by omega)
            have q6 : ((e10 : Int) != 0) = true := by simp; omega
            have q6b : ((e10 : Int) = 0) = False := eq_false (by omega)
            clear hah han eH eN
            have ha15 : Below w14.heap.size w14 ((w14.alloc (.cells #[.int .i64 a.t, .int .i64 a.v] 32)).alloc (.cells #[.int .i64 S.i, .int .i64 S.t, .slice Bs S.d.length bc] 35)) := ((Below.refl _ _).alloc (Nat.le_refl _) _).alloc (by simp) _
            have pa : ((w14.alloc (.cells #[.int .i64 a.t, .int .i64 a.v] 32)).alloc (.cells #[.int .i64 S.i, .int .i64 S.t, .slice Bs S.d.length bc] 35)).heap[w14.heap.size]? = some (.cells #[.int .i64 a.t, .int .i64 a.v] 32) := (Below.heap_alloc _ _ _ (by simp)).trans (heap_alloc_new _ _)
            have ps : ((w14.alloc (.cells #[.int .i64 a.t, .int .i64 a.v] 32)).alloc (.cells #[.int .i64 S.i, .int .i64 S.t, .slice Bs S.d.length bc] 35)).heap[w14.heap.size + 1]? = some (.cells #[.int .i64 S.i, .int .i64 S.t, .slice Bs S.d.length bc] 35) := heap_alloc2_new _ _ _
            have pb := (ha15.block _ (hlt b14)).trans b14
            have pm := (ha15.block _ (hlt m14)).trans m14
            have C15 := C14.below ha15
            have hS15 : Lies ((w14.alloc (.cells #[.int .i64 a.t, .int .i64 a.v] 32)).alloc (.cells #[.int .i64 S.i, .int .i64 S.t, .slice Bs S.d.length bc] 35)) B6 S.d.length c6 S.d := hlS.keep (by have := hlt pb; omega) fun h0 g off e _ => (C15.low.block g (hzS h0 g off e)).trans (hlow6.block g (hzS h0 g off e)).symm
            have hSm := sameSnapR_any S.i S.t Bs S.d.length bc S.d S.i S.t B6 S.d.length c6 S.d ((w14.alloc (.cells #[.int .i64 a.t, .int .i64 a.v] 32)).alloc (.cells #[.int .i64 S.i, .int .i64 S.t, .slice Bs S.d.length bc] 35)) (hol.below ha15 (Nat.le_refl _)) hS15
            rw [oneB_self] at hSm
            clear hS15 b14 m14
            obtain ⟨⟨p0, p1⟩, _⟩ := row2 pa
            obtain ⟨⟨o0, o1⟩, _⟩ := row2 pm
            obtain ⟨⟨b0, b1, b2, b3, b4, b5⟩, _⟩ := row6 pb
            obtain ⟨⟨r0, r1, r2⟩, _⟩ := row3 ps
            go_wp2_with fail
            refine hSm.mono ?_
            rintro e w16 ⟨rfl, hb16⟩
            clear p0 p1 o0 o1 b0 b1 b2 b3 b4 b5 r0 r1 r2
            have pa := (hb16.block _ (hlt pa)).trans pa
            have pm := (hb16.block _ (hlt pm)).trans pm
            have pb := (hb16.block _ (hlt pb)).trans pb
            have ps := (hb16.block _ (hlt ps)).trans ps
            have C16 := C15.below hb16
            have hb1416 : Below w14.heap.size w14 w16 := ha15.trans (hb16.mono ha15.size)
            clear hSm hb16 C15 ha15
            obtain ⟨⟨p0, p1⟩, _⟩ := row2 pa
            obtain ⟨⟨o0, o1⟩, _⟩ := row2 pm
            obtain ⟨⟨b0, b1, b2, b3, b4, b5⟩, _⟩ := row6 pb
            obtain ⟨⟨r0, r1, r2⟩, _⟩ := row3 ps
            have hfar := hlt pb
            obtain ⟨Y, hY⟩ : ∃ Y, Y = (fun k => k < wh5.heap.size ∨ w16.heap.size ≤ k) := ⟨_, rfl⟩
            have hY1 : ∀ k, w16.heap.size ≤ k → Y k := fun k hk => by rw [hY]; exact .inr hk
            have hY2 : ∀ k, k < wh5.heap.size → Y k := fun k hk => by rw [hY]; exact .inl hk
            have hG16 := C16.low.size
            have hA16 : Below w16.heap.size w16 (w16.alloc (.cells #[] 69)) := (Below.refl _ _).alloc (Nat.le_refl _) _
            have hEL16 : Ents (w16.alloc (.cells #[] 69)) (fun q => Y q ∧ (Value.slice (some ⟨w16.heap.size, 0, none⟩) 0 0).ownBlock ≠ some q) A6 L.length cap6 L :=
              (hEL.keep (by have := hA16.size; have := hlt pb; omega) fun q _ hq => (hA16.block q (Nat.lt_of_lt_of_le hq hG16)).trans ((C16.low.block q hq).trans (hlow6.block q hq).symm)).mono fun q hq => ⟨hY2 q hq, fun er => by injection er with er; have er : w16.heap.size = q := er; have : q < wh5.heap.size := hq; omega⟩
            go_wp2_with (first
              | (at_builtin
                 refine wpList_append_entrow _ rfl _ _ rfl w16.heap.size (by simp) Y (.slice (some ⟨w16.heap.size, 0, none⟩) 0 0) [] (EntRow.made w16 w16.heap.size (Nat.le_refl _) Y (hY1 _ (Nat.le_refl _))) rfl A6 L.length cap6 L hEL16 rfl (fun k hk => hY1 k (by simp at hk; omega)) (by simp; omega) L.length (by simp) L rfl ?_
                 intro A17 c17 w17 hrow17 hg17
                 have hb17 : Below w16.heap.size w16 w17 := hA16.grown hg17 hA16.size (fun q hq => by injection hq with hq; have hq : w16.heap.size = q := hq; omega)
                 have hEM17 : Ents w17 (fun q => Y q ∧ (Value.slice A17 L.length c17).ownBlock ≠ some q) A2 more.length cap2 more :=
                   ((hEG2.below C16.low (Nat.le_refl _)).below hb17 (Nat.le_refl _)).mono fun q hq => ⟨hY2 q hq, fun er => by obtain ⟨xs, ho, _⟩ := hrow17; have := (ho.lt q er).1; have : q < wh5.heap.size := hq; omega⟩)
              | (at_builtin
                 refine wpList_append_entrow _ rfl _ _ rfl w16.heap.size hb17.size Y (.slice A17 L.length c17) L hrow17 rfl A2 more.length cap2 more hEM17 rfl (fun k hk => hY1 k (Nat.le_trans hb17.size hk)) (by omega) M (by exact hMM.out) (L ++ more) rfl ?_
                 intro A18 c18 w18 hrow18 hg18
                 have hb18 : Below w16.heap.size w16 w18 := hb17.grown hg18 hb17.size (fun q hq => by obtain ⟨xs, ho, _⟩ := hrow17; exact (ho.lt q hq).1)
                 have hsl := fun W => run_frontE A18 M c18 N (by have := hrow18.cap; omega) W)
              | fail)
            clear p0 p1 o0 o1 b0 b1 b2 b3 b4 b5 r0 r1 r2
            have pa := (hb18.block _ (hlt pa)).trans pa
            have pm := (hb18.block _ (hlt pm)).trans pm
            have pb := (hb18.block _ (hlt pb)).trans pb
            have ps := (hb18.block _ (hlt ps)).trans ps
            have hb1418 := hb1416.trans (hb18.mono hb1416.size)
            have hc18 := hoE.below hb1418 (Nat.le_refl _)
            have ha18 := hrow18.ents
            rw [hMl] at ha18
            have hSa := sameR_any _ _ A14 N c14 _ A18 N c18 _ w18 hc18 (ha18.front N (by omega)) (by unfold maxLen; omega)
            rw [hlist, sameE_refl] at hSa
            have C18 := C16.below (hb18)
            clear hrow17 hrow18 hg17 hg18 hb17 hEM17 hEL16 hc18 ha18 hsl C16 hY1 hY2 hA16
            obtain ⟨⟨p0, p1⟩, _⟩ := row2 pa
            obtain ⟨⟨o0, o1⟩, _⟩ := row2 pm
            obtain ⟨⟨b0, b1, b2, b3, b4, b5⟩, _⟩ := row6 pb
            obtain ⟨⟨r0, r1, r2⟩, _⟩ := row3 ps
            go_wp2_with fail
            refine hSa.mono ?_
            rintro e w19 ⟨rfl, hb19⟩
            clear p0 p1 o0 o1 b0 b1 b2 b3 b4 b5 r0 r1 r2
            have pa := (hb19.block _ (hlt pa)).trans pa
            have pm := (hb19.block _ (hlt pm)).trans pm
            have pb := (hb19.block _ (hlt pb)).trans pb
            have ps := (hb19.block _ (hlt ps)).trans ps
            have C19 := C18.below hb19
            clear hSa hb19 C18
            obtain ⟨⟨p0, p1⟩, _⟩ := row2 pa
            obtain ⟨⟨o0, o1⟩, _⟩ := row2 pm
            obtain ⟨⟨b0, b1, b2, b3, b4, b5⟩, _⟩ := row6 pb
            obtain ⟨⟨r0, r1, r2⟩, _⟩ := row3 ps
            go_wp2
            go_ret
            exact ⟨rfl, hbw.trans (C19.low.mono hbw.size)⟩
          · have eH : (a.t == h.t && a.v == h.v) = false := by rw [hd_beq]; simp [hah]
            have eN : (a.t == nx.t && a.v == nx.v) = true := by rw [hd_beq]; simp [han]
            have z1 := neq_hardC a.t a.v h.t h.v
            have z2 := neq_hardC a.t a.v nx.t nx.v
            have z3 := eq_hardC a.t a.v nx.t nx.v
            rw [eH] at z1
            rw [eN] at z2 z3
            have q5 : (L.length < N) = True := eq_true (by omega)
            have q5i : ((L.length : Int) < (N : Int)) = True := eq_true (by omega)
            have q5d : decide (L.length < N) = true := decide_eq_true (by omega)
            have q6 : ((e10 : Int) != 0) = true := by simp; omega
            have q6b : ((e10 : Int) = 0) = False := eq_false (by omega)
            clear hah han eH eN
            have ha15 : Below w14.heap.size w14 ((w14.alloc (.cells #[.int .i64 a.t, .int .i64 a.v] 32)).alloc (.cells #[.int .i64 S.i, .int .i64 S.t, .slice Bs S.d.length bc] 35)) := ((Below.refl _ _).alloc (Nat.le_refl _) _).alloc (by simp) _
            have pa : ((w14.alloc (.cells #[.int .i64 a.t, .int .i64 a.v] 32)).alloc (.cells #[.int .i64 S.i, .int .i64 S.t, .slice Bs S.d.length bc] 35)).heap[w14.heap.size]? = some (.cells #[.int .i64 a.t, .int .i64 a.v] 32) := (Below.heap_alloc _ _ _ (by simp)).trans (heap_alloc_new _ _)
            have ps : ((w14.alloc (.cells #[.int .i64 a.t, .int .i64 a.v] 32)).alloc (.cells #[.int .i64 S.i, .int .i64 S.t, .slice Bs S.d.length bc] 35)).heap[w14.heap.size + 1]? = some (.cells #[.int .i64 S.i, .int .i64 S.t, .slice Bs S.d.length bc] 35) := heap_alloc2_new _ _ _
            have pb := (ha15.block _ (hlt b14)).trans b14
            have pm := (ha15.block _ (hlt m14)).trans m14
            have C15 := C14.below ha15
            have hS15 : Lies ((w14.alloc (.cells #[.int .i64 a.t, .int .i64 a.v] 32)).alloc (.cells #[.int .i64 S.i, .int .i64 S.t, .slice Bs S.d.length bc] 35)) B6 S.d.length c6 S.d := hlS.keep (by have := hlt pb; omega) fun h0 g off e _ => (C15.low.block g (hzS h0 g off e)).trans (hlow6.block g (hzS h0 g off e)).symm
            have hSm := sameSnapR_any S.i S.t Bs S.d.length bc S.d S.i S.t B6 S.d.length c6 S.d ((w14.alloc (.cells #[.int .i64 a.t, .int .i64 a.v] 32)).alloc (.cells #[.int .i64 S.i, .int .i64 S.t, .slice Bs S.d.length bc] 35)) (hol.below ha15 (Nat.le_refl _)) hS15
            rw [oneB_self] at hSm
            clear hS15 b14 m14
            obtain ⟨⟨p0, p1⟩, _⟩ := row2 pa
            obtain ⟨⟨o0, o1⟩, _⟩ := row2 pm
            obtain ⟨⟨b0, b1, b2, b3, b4, b5⟩, _⟩ := row6 pb
            obtain ⟨⟨r0, r1, r2⟩, _⟩ := row3 ps
            go_wp2_with fail
            refine hSm.mono ?_
            rintro e w16 ⟨rfl, hb16⟩
            clear p0 p1 o0 o1 b0 b1 b2 b3 b4 b5 r0 r1 r2
            have pa := (hb16.block _ (hlt pa)).trans pa
            have pm := (hb16.block _ (hlt pm)).trans pm
            have pb := (hb16.block _ (hlt pb)).trans pb
            have ps := (hb16.block _ (hlt ps)).trans ps
            have C16 := C15.below hb16
            have hb1416 : Below w14.heap.size w14 w16 := ha15.trans (hb16.mono ha15.size)
            clear hSm hb16 C15 ha15
            obtain ⟨⟨p0, p1⟩, _⟩ := row2 pa
            obtain ⟨⟨o0, o1⟩, _⟩ := row2 pm
            obtain ⟨⟨b0, b1, b2, b3, b4, b5⟩, _⟩ := row6 pb
            obtain ⟨⟨r0, r1, r2⟩, _⟩ := row3 ps
            have hfar := hlt pb
            obtain ⟨Y, hY⟩ : ∃ Y, Y = (fun k => k < wh5.heap.size ∨ w16.heap.size ≤ k) := ⟨_, rfl⟩
            have hY1 : ∀ k, w16.heap.size ≤ k → Y k := fun k hk => by rw [hY]; exact .inr hk
            have hY2 : ∀ k, k < wh5.heap.size → Y k := fun k hk => by rw [hY]; exact .inl hk
            have hG16 := C16.low.size
            have hA16 : Below w16.heap.size w16 (w16.alloc (.cells #[] 69)) := (Below.refl _ _).alloc (Nat.le_refl _) _
            have hEL16 : Ents (w16.alloc (.cells #[] 69)) (fun q => Y q ∧ (Value.slice (some ⟨w16.heap.size, 0, none⟩) 0 0).ownBlock ≠ some q) A6 L.length cap6 L :=
              (hEL.keep (by have := hA16.size; have := hlt pb; omega) fun q _ hq => (hA16.block q (Nat.lt_of_lt_of_le hq hG16)).trans ((C16.low.block q hq).trans (hlow6.block q hq).symm)).mono fun q hq => ⟨hY2 q hq, fun er => by injection er with er; have er : w16.heap.size = q := er; have : q < wh5.heap.size := hq; omega⟩
            go_wp2_with (first
              | (at_builtin
                 refine wpList_append_entrow _ rfl _ _ rfl w16.heap.size (by simp) Y (.slice (some ⟨w16.heap.size, 0, none⟩) 0 0) [] (EntRow.made w16 w16.heap.size (Nat.le_refl _) Y (hY1 _ (Nat.le_refl _))) rfl A6 L.length cap6 L hEL16 rfl (fun k hk => hY1 k (by simp at hk; omega)) (by simp; omega) L.length (by simp) L rfl ?_
                 intro A17 c17 w17 hrow17 hg17
                 have hb17 : Below w16.heap.size w16 w17 := hA16.grown hg17 hA16.size (fun q hq => by injection hq with hq; have hq : w16.heap.size = q := hq; omega)
                 have hEM17 : Ents w17 (fun q => Y q ∧ (Value.slice A17 L.length c17).ownBlock ≠ some q) A2 more.length cap2 more :=
                   ((hEG2.below C16.low (Nat.le_refl _)).below hb17 (Nat.le_refl _)).mono fun q hq => ⟨hY2 q hq, fun er => by obtain ⟨xs, ho, _⟩ := hrow17; have := (ho.lt q er).1; have : q < wh5.heap.size := hq; omega⟩)
              | (at_builtin
                 refine wpList_append_entrow _ rfl _ _ rfl w16.heap.size hb17.size Y (.slice A17 L.length c17) L hrow17 rfl A2 more.length cap2 more hEM17 rfl (fun k hk => hY1 k (Nat.le_trans hb17.size hk)) (by omega) M (by exact hMM.out) (L ++ more) rfl ?_
                 intro A18 c18 w18 hrow18 hg18
                 have hb18 : Below w16.heap.size w16 w18 := hb17.grown hg18 hb17.size (fun q hq => by obtain ⟨xs, ho, _⟩ := hrow17; exact (ho.lt q hq).1)
                 have hsl := fun W => run_frontE A18 M c18 N (by have := hrow18.cap; omega) W)
              | fail)
            clear p0 p1 o0 o1 b0 b1 b2 b3 b4 b5 r0 r1 r2
            have pa := (hb18.block _ (hlt pa)).trans pa
            have pm := (hb18.block _ (hlt pm)).trans pm
            have pb := (hb18.block _ (hlt pb)).trans pb
            have ps := (hb18.block _ (hlt ps)).trans ps
            have hb1418 := hb1416.trans (hb18.mono hb1416.size)
            have hc18 := hoE.below hb1418 (Nat.le_refl _)
            have ha18 := hrow18.ents
            rw [hMl] at ha18
            have hSa := sameR_any _ _ A14 N c14 _ A18 N c18 _ w18 hc18 (ha18.front N (by omega)) (by unfold maxLen; omega)
            rw [hlist, sameE_refl] at hSa
            have C18 := C16.below (hb18)
            clear hrow17 hrow18 hg17 hg18 hb17 hEM17 hEL16 hc18 ha18 hsl C16 hY1 hY2 hA16
            obtain ⟨⟨p0, p1⟩, _⟩ := row2 pa
            obtain ⟨⟨o0, o1⟩, _⟩ := row2 pm
            obtain ⟨⟨b0, b1, b2, b3, b4, b5⟩, _⟩ := row6 pb
            obtain ⟨⟨r0, r1, r2⟩, _⟩ := row3 ps
            go_wp2_with fail
            refine hSa.mono ?_
            rintro e w19 ⟨rfl, hb19⟩
            clear p0 p1 o0 o1 b0 b1 b2 b3 b4 b5 r0 r1 r2
            have pa := (hb19.block _ (hlt pa)).trans pa
            have pm := (hb19.block _ (hlt pm)).trans pm
            have pb := (hb19.block _ (hlt pb)).trans pb
            have ps := (hb19.block _ (hlt ps)).trans ps
            have C19 := C18.below hb19
            clear hSa hb19 C18
            obtain ⟨⟨p0, p1⟩, _⟩ := row2 pa
            obtain ⟨⟨o0, o1⟩, _⟩ := row2 pm
            obtain ⟨⟨b0, b1, b2, b3, b4, b5⟩, _⟩ := row6 pb
            obtain ⟨⟨r0, r1, r2⟩, _⟩ := row3 ps
            go_wp2
            go_ret
            exact ⟨rfl, hbw.trans (C19.low.mono hbw.size)⟩
  · obtain ⟨k, hkk⟩ : ∃ k, Hid (L.length = k + 1) := ⟨L.length - 1, ⟨by omega⟩⟩
    have hkl : k < L.length := by have := hkk.out; omega
    have e1 : decide (0 < L.length) = true := decide_eq_true (by omega)
    have e2 : (0 < L.length) = True := eq_true (by omega)
    have hlast := last_at S.i S.t (l := L) (by omega)
    have hidx : L[L.length - 1]'(by omega) = L[k] := by congr 1; have := hkk.out; omega
    rw [hidx] at hlast
    have hrunL : runB (L[k]).i (L[k]).t more = true → runB S.i S.t (L ++ more) = true := fun hr => runB_app hk.run (by rw [hlast.1, hlast.2]; exact hr)
    have hEL8 : Ents w8 (· < wh5.heap.size) A6 L.length cap6 L := hEL.keep (by have := hlt b8; omega) fun q _ hq => (C8.low.block q hq).trans (hlow6.block q hq).symm
    obtain ⟨g, off, EE, ec, rfl, hg, c0, c1, c2, _⟩ := hEL8.at_ k hkl
    have i1 : wrap64 ((L.length : Int) - 1) = (k : Int) := by have := hkk.out; rw [IntWalk.wrap64_in _ (by omega)]; omega
    have i2 : IntKind.i64.wrap ((L.length : Int) - 1) = (k : Int) := by have := hkk.out; rw [IntWalk.i64_in _ (by omega)]; omega
    have i3 : decide (k < L.length) = true := decide_eq_true hkl
    clear hlast hidx hL0
    generalize L[k] = y at *
    clear hEL8
    obtain ⟨yi, yt, yd⟩ := y
    dsimp only at c0 c1 c2 hrunL
    clear c2
    go_wp2
    go_quiet (fail)
    have C9 := C8.below (below_drewM (Below.refl w8.heap.size w8) nq)
    have b9 : (w8.drewN nq).heap[w6.heap.size]? = some (.cells #[.int .i64 h.t, .int .i64 h.v, .int .i64 S.i, .int .i64 S.t, .slice B6 S.d.length c6, .slice (some ⟨g, off, none⟩) L.length cap6] 47) := b8
    have m9 : (w8.drewN nq).heap[W.heap.size + 1 + 1]? = some (.cells #[.int .i64 nx.t, .int .i64 nx.v] 32) := m8
    clear b8 m8 C8 b0 b1 b2 b3 b4 b5 c0 c1
    generalize w8.drewN nq = w9 at *
    have hRr := runR_any _ A2 more.length cap2 more (yi) (yt) w9 (hEG2.below C9.low (Nat.le_refl _)) (by unfold maxLen; omega)
    cases hrun : runB (yi) (yt) more with
    | false =>
      rw [hrun] at hRr
      clear hrunL hk hlS hEL
      go_wp2_with fail
      refine hRr.mono ?_
      rintro e wr ⟨rfl, hbr⟩
      have Cr := C9.below hbr
      go_wp2
      go_ret
      exact ⟨rfl, hbw.trans (Cr.low.mono hbw.size)⟩
    | true =>
      rw [hrun] at hRr
      have hrn := hrunL hrun
      clear hrunL hrun
      go_wp2_with fail
      refine hRr.mono ?_
      rintro e wr ⟨rfl, hbr⟩
      have Cr := C9.below hbr
      have br := (hbr.block _ (hlt b9)).trans b9
      have mr := (hbr.block _ (hlt m9)).trans m9
      clear hRr hbr C9 b9 m9
      try clear b0 b1 b2 b3 b4 b5
      obtain ⟨m, hm⟩ : ∃ m, Hid (fz % 4 = m) := ⟨_, ⟨rfl⟩⟩
      have f1 : (fz : Int) % 4 = (m : Int) := by have := hm.out; omega
      have hm4 : m < 4 := by have := hm.out; omega
      have f2 : IntKind.i64.wrap (m : Int) = (m : Int) := IntWalk.i64_in _ (by omega)
      obtain ⟨u1, hkF⟩ := hk.fuse m
      have hFu := dsk_fuse wr d D _ Cr.vt.lg.dk (m : Int) (by omega)
      clear hk
      generalize D.fuse (m : Int) = RF at *
      obtain ⟨DF, eF⟩ := RF
      dsimp only at hFu u1 hkF
      subst u1
      have hlr := saveRecs_length h nx more
      have hws : ∀ j, weigh (L ++ more.take j) ≤ 80000 := fun j => by have := weigh_app L (more.take j); have := weigh_sub (List.take_sublist j more); omega
      have hwl : ∀ j, (L ++ more.take j).length ≤ 20 := fun j => by rw [List.length_append, List.length_take]; omega
      obtain ⟨D', a, jj, cS, cj, ca, cja, cfull⟩ := hkF.crash_save (h := nx) (more := more) hnr hrn (V := 60000 + (framesL (saveRecs h nx more)).length) rfl (fun a j => by have := allRecs_length a (L ++ more.take j); have := hws j; have := hwl j; omega) (fun _ => kp) 1
      have hus := saved_used hkF (h := nx) (more := more) hnr hrn (by omega) (fun _ => kp) 1
      have hSv := fun w10 (C : Ctx wh5 w10 v j d DF h n Q) => vsave_any w10 v j d DF h n _ C.vt nx _ A2 more.length cap2 more (C.ents hEG2) (by omega) (by omega)
      unfold SaveP at hSv
      clear hkF hrn hlr hws hwl
      generalize DF.saveV h nx more = RS at *
      obtain ⟨⟨D2, e10⟩, was2⟩ := RS
      dsimp only at hSv cS cfull hus
      go_wp2_with fail
      refine hFu.mono ?_
      rintro e w10 ⟨rfl, hd10⟩
      have C10 := Cr.did hd10
      have b10 := (hd10.2.block _ (hlt br) hzb).trans br
      have m10 := (hd10.2.block _ (hlt mr) hzn).trans mr
      have hS10 := hSv w10 C10
      clear hFu hd10 br mr Cr hSv
      obtain ⟨⟨x0, x1⟩, _⟩ := row2 m10
      go_wp2_with fail
      refine hS10.mono ?_
      rintro e w11 ⟨rfl, n11, _, _, hd11⟩
      have C11 := C10.vdid hd11
      have b11 := hd11.at b10 hzb hbj hbv
      have m11 := hd11.at m10 hzn hnj hnv
      clear hS10 hd11 b10 m10 C10 x0 x1
      have hal : Below w11.heap.size w11 (w11.alloc (.cells #[.int .i64 kp] 3)) := (Below.refl _ _).alloc (Nat.le_refl _) _
      have C12 := C11.wide hal
      have hdlt := C11.vt.lg.dk.dk.own.2
      have hRI : RI (w11.alloc (.cells #[.int .i64 kp] 3)) (some ⟨w11.heap.size, 0, none⟩) 1 (fun _ => kp) :=
        ⟨fun i _ => hkp, fun _ => ⟨_, 0, rfl, by simp, fun i hi => by
          obtain rfl : i = 0 := by omega
          exact (cell_of_row _ _ _ _ _ _ (heap_alloc_new w11 _)).trans rfl⟩⟩
      have hRs := dsk_restart _ d _ _ C12.vt.lg.dk (some ⟨w11.heap.size, 0, none⟩) 1 1 (fun _ => kp) hRI (by omega) (by omega) (fun _ a e => by
        injection e with e
        subst e
        intro e
        have : w11.heap.size = d := e
        omega)
      have b12 := (hal.block _ (hlt b11)).trans b11
      have m12 := (hal.block _ (hlt m11)).trans m11
      clear b11 m11 hRI hdlt C11
      generalize D2.restart (fun _ => kp) 1 = D3 at *
      go_wp2_with fail
      refine hRs.mono ?_
      rintro e w13 ⟨rfl, hd13⟩
      have C13 := C12.did hd13
      have b13 := (hd13.2.block _ (hlt b12) (.inl hzb)).trans b12
      have m13 := (hd13.2.block _ (hlt m12) (.inl hzn)).trans m12
      have hOp := open_known (U := 0) hus cS w13 d _ C13.vt.lg.dk
      clear hRs hd13 b12 m12 C12 hal hus cS
      go_wp2_with fail
      refine hOp.mono ?_
      rintro e w14 ⟨v2, j2, n2, Z2, Bs, bc, A14, c14, rfl, ho⟩
      have C14 := Ctx.opd ho C13.low C13.all
      have b14 := (ho.kp.block _ (hlt b13) (.inl hzb)).trans b13
      have m14 := (ho.kp.block _ (hlt m13) (.inl hzn)).trans m13
      have hoE := ho.ents.ents
      have hol := ho.lies
      dsimp only at hoE hol C14
      clear hOp ho b13 m13 C13
      have hNl : (L ++ more.take jj).length = L.length + jj := by rw [List.length_append, List.length_take]; omega
      have hlist : L ++ more.take jj = (L ++ more).take (L.length + jj) := by rw [List.take_append, List.take_of_length_le (l := L) (by omega), Nat.add_sub_cancel_left]
      rw [hNl] at hoE ⊢
      obtain ⟨N, hN⟩ : ∃ N, L.length + jj = N := ⟨_, rfl⟩
      obtain ⟨M, hM⟩ : ∃ M, L.length + more.length = M := ⟨_, rfl⟩
      have hMM := Lib.hid hM
      have hMl : (L ++ more).length = M := by rw [List.length_append]; exact hM
      rw [hN] at hoE hlist ⊢
      obtain ⟨s1, s3, s4, s5, s6, hNM⟩ := nm_facts L.length more.length jj N M hN hM cj hwL.2 hl2
      clear hNl
      by_cases he10 : e10 = 0
      · obtain ⟨hanx, hjm⟩ := cfull he10
        subst he10
        have han : a = nx := hanx
        clear cfull cja ca hanx
        by_cases hj0 : jj = 0
        · by_cases hah : a = h
          · have eH : (a.t == h.t && a.v == h.v) = true := by rw [hd_beq]; simp [hah]
            have eN : (a.t == nx.t && a.v == nx.v) = true := by rw [hd_beq]; simp [han]
            have z1 := neq_hardC a.t a.v h.t h.v
            have z2 := neq_hardC a.t a.v nx.t nx.v
            have z3 := eq_hardC a.t a.v nx.t nx.v
            rw [eH] at z1
            rw [eN] at z2 z3
            have q5 : (L.length < N) = False := eq_false (by omega)
            have q5i : ((L.length : Int) < (N : Int)) = False := eq_false (by omega)
            have q5d : decide (L.length < N) = false := decide_eq_false (by omega)
            have q7 : ((N : Int) == (M : Int)) = true := by rw [beq_iff_eq]; omega
            have q7b : ((N : Int) = (M : Int)) = True := eq_true (by omega)
            have q7c : (N = M) = True := eq_true (by omega)
            clear hah han eH eN
            have ha15 : Below w14.heap.size w14 ((w14.alloc (.cells #[.int .i64 a.t, .int .i64 a.v] 32)).alloc (.cells #[.int .i64 S.i, .int .i64 S.t, .slice Bs S.d.length bc] 35)) := ((Below.refl _ _).alloc (Nat.le_refl _) _).alloc (by simp) _
            have pa : ((w14.alloc (.cells #[.int .i64 a.t, .int .i64 a.v] 32)).alloc (.cells #[.int .i64 S.i, .int .i64 S.t, .slice Bs S.d.length bc] 35)).heap[w14.heap.size]? = some (.cells #[.int .i64 a.t, .int .i64 a.v] 32) := (Below.heap_alloc _ _ _ (by simp)).trans (heap_alloc_new _ _)
            have ps : ((w14.alloc (.cells #[.int .i64 a.t, .int .i64 a.v] 32)).alloc (.cells #[.int .i64 S.i, .int .i64 S.t, .slice Bs S.d.length bc] 35)).heap[w14.heap.size + 1]? = some (.cells #[.int .i64 S.i, .int .i64 S.t, .slice Bs S.d.length bc] 35) := heap_alloc2_new _ _ _
            have pb := (ha15.block _ (hlt b14)).trans b14
            have pm := (ha15.block _ (hlt m14)).trans m14
            have C15 := C14.below ha15
            have hS15 : Lies ((w14.alloc (.cells #[.int .i64 a.t, .int .i64 a.v] 32)).alloc (.cells #[.int .i64 S.i, .int .i64 S.t, .slice Bs S.d.length bc] 35)) B6 S.d.length c6 S.d := hlS.keep (by have := hlt pb; omega) fun h0 g off e _ => (C15.low.block g (hzS h0 g off e)).trans (hlow6.block g (hzS h0 g off e)).symm
            have hSm := sameSnapR_any S.i S.t Bs S.d.length bc S.d S.i S.t B6 S.d.length c6 S.d ((w14.alloc (.cells #[.int .i64 a.t, .int .i64 a.v] 32)).alloc (.cells #[.int .i64 S.i, .int .i64 S.t, .slice Bs S.d.length bc] 35)) (hol.below ha15 (Nat.le_refl _)) hS15
            rw [oneB_self] at hSm
            clear hS15 b14 m14
            obtain ⟨⟨p0, p1⟩, _⟩ := row2 pa
            obtain ⟨⟨o0, o1⟩, _⟩ := row2 pm
            obtain ⟨⟨b0, b1, b2, b3, b4, b5⟩, _⟩ := row6 pb
            obtain ⟨⟨r0, r1, r2⟩, _⟩ := row3 ps
            go_wp2_with fail
            refine hSm.mono ?_
            rintro e w16 ⟨rfl, hb16⟩
            clear p0 p1 o0 o1 b0 b1 b2 b3 b4 b5 r0 r1 r2
            have pa := (hb16.block _ (hlt pa)).trans pa
            have pm := (hb16.block _ (hlt pm)).trans pm
            have pb := (hb16.block _ (hlt pb)).trans pb
            have ps := (hb16.block _ (hlt ps)).trans ps
            have C16 := C15.below hb16
            have hb1416 : Below w14.heap.size w14 w16 := ha15.trans (hb16.mono ha15.size)
            clear hSm hb16 C15 ha15
            obtain ⟨⟨p0, p1⟩, _⟩ := row2 pa
            obtain ⟨⟨o0, o1⟩, _⟩ := row2 pm
            obtain ⟨⟨b0, b1, b2, b3, b4, b5⟩, _⟩ := row6 pb
            obtain ⟨⟨r0, r1, r2⟩, _⟩ := row3 ps
            have hfar := hlt pb
            obtain ⟨Y, hY⟩ : ∃ Y, Y = (fun k => k < wh5.heap.size ∨ w16.heap.size ≤ k) := ⟨_, rfl⟩
            have hY1 : ∀ k, w16.heap.size ≤ k → Y k := fun k hk => by rw [hY]; exact .inr hk
            have hY2 : ∀ k, k < wh5.heap.size → Y k := fun k hk => by rw [hY]; exact .inl hk
            have hG16 := C16.low.size
            have hA16 : Below w16.heap.size w16 (w16.alloc (.cells #[] 69)) := (Below.refl _ _).alloc (Nat.le_refl _) _
            have hEL16 : Ents (w16.alloc (.cells #[] 69)) (fun q => Y q ∧ (Value.slice (some ⟨w16.heap.size, 0, none⟩) 0 0).ownBlock ≠ some q) (some ⟨g, off, none⟩) L.length cap6 L :=
              (hEL.keep (by have := hA16.size; have := hlt pb; omega) fun q _ hq => (hA16.block q (Nat.lt_of_lt_of_le hq hG16)).trans ((C16.low.block q hq).trans (hlow6.block q hq).symm)).mono fun q hq => ⟨hY2 q hq, fun er => by injection er with er; have er : w16.heap.size = q := er; have : q < wh5.heap.size := hq; omega⟩
            go_wp2_with (first
              | (at_builtin
                 refine wpList_append_entrow _ rfl _ _ rfl w16.heap.size (by simp) Y (.slice (some ⟨w16.heap.size, 0, none⟩) 0 0) [] (EntRow.made w16 w16.heap.size (Nat.le_refl _) Y (hY1 _ (Nat.le_refl _))) rfl (some ⟨g, off, none⟩) L.length cap6 L hEL16 rfl (fun k hk => hY1 k (by simp at hk; omega)) (by simp; omega) L.length (by simp) L rfl ?_
                 intro A17 c17 w17 hrow17 hg17
                 have hb17 : Below w16.heap.size w16 w17 := hA16.grown hg17 hA16.size (fun q hq => by injection hq with hq; have hq : w16.heap.size = q := hq; omega)
                 have hEM17 : Ents w17 (fun q => Y q ∧ (Value.slice A17 L.length c17).ownBlock ≠ some q) A2 more.length cap2 more :=
                   ((hEG2.below C16.low (Nat.le_refl _)).below hb17 (Nat.le_refl _)).mono fun q hq => ⟨hY2 q hq, fun er => by obtain ⟨xs, ho, _⟩ := hrow17; have := (ho.lt q er).1; have : q < wh5.heap.size := hq; omega⟩)
              | (at_builtin
                 refine wpList_append_entrow _ rfl _ _ rfl w16.heap.size hb17.size Y (.slice A17 L.length c17) L hrow17 rfl A2 more.length cap2 more hEM17 rfl (fun k hk => hY1 k (Nat.le_trans hb17.size hk)) (by omega) M (by exact hMM.out) (L ++ more) rfl ?_
                 intro A18 c18 w18 hrow18 hg18
                 have hb18 : Below w16.heap.size w16 w18 := hb17.grown hg18 hb17.size (fun q hq => by obtain ⟨xs, ho, _⟩ := hrow17; exact (ho.lt q hq).1)
                 have hsl := fun W => run_frontE A18 M c18 N (by have := hrow18.cap; omega) W)
              | fail)
            clear p0 p1 o0 o1 b0 b1 b2 b3 b4 b5 r0 r1 r2
            have pa := (hb18.block _ (hlt pa)).trans pa
            have pm := (hb18.block _ (hlt pm)).trans pm
            have pb := (hb18.block _ (hlt pb)).trans pb
            have ps := (hb18.block _ (hlt ps)).trans ps
            have hb1418 := hb1416.trans (hb18.mono hb1416.size)
            have hc18 := hoE.below hb1418 (Nat.le_refl _)
            have ha18 := hrow18.ents
            rw [hMl] at ha18
            have hSa := sameR_any _ _ A14 N c14 _ A18 N c18 _ w18 hc18 (ha18.front N (by omega)) (by unfold maxLen; omega)
            rw [hlist, sameE_refl] at hSa
            have C18 := C16.below (hb18)
            clear hrow17 hrow18 hg17 hg18 hb17 hEM17 hEL16 hc18 ha18 hsl C16 hY1 hY2 hA16
            obtain ⟨⟨p0, p1⟩, _⟩ := row2 pa
            obtain ⟨⟨o0, o1⟩, _⟩ := row2 pm
            obtain ⟨⟨b0, b1, b2, b3, b4, b5⟩, _⟩ := row6 pb
            obtain ⟨⟨r0, r1, r2⟩, _⟩ := row3 ps
            go_wp2_with fail
            refine hSa.mono ?_
            rintro e w19 ⟨rfl, hb19⟩
            clear p0 p1 o0 o1 b0 b1 b2 b3 b4 b5 r0 r1 r2
            have pa := (hb19.block _ (hlt pa)).trans pa
            have pm := (hb19.block _ (hlt pm)).trans pm
            have pb := (hb19.block _ (hlt pb)).trans pb
            have ps := (hb19.block _ (hlt ps)).trans ps
            have C19 := C18.below hb19
            clear hSa hb19 C18
            obtain ⟨⟨p0, p1⟩, _⟩ := row2 pa
            obtain ⟨⟨o0, o1⟩, _⟩ := row2 pm
            obtain ⟨⟨b0, b1, b2, b3, b4, b5⟩, _⟩ := row6 pb
            obtain ⟨⟨r0, r1, r2⟩, _⟩ := row3 ps
            go_wp2
            go_ret
            exact ⟨rfl, hbw.trans (C19.low.mono hbw.size)⟩
          · have eH : (a.t == h.t && a.v == h.v) = false := by rw [hd_beq]; simp [hah]
            have eN : (a.t == nx.t && a.v == nx.v) = true := by rw [hd_beq]; simp [han]
            have z1 := neq_hardC a.t a.v h.t h.v
            have z2 := neq_hardC a.t a.v nx.t nx.v
            have z3 := eq_hardC a.t a.v nx.t nx.v
            rw [eH] at z1
            rw [eN] at z2 z3
            have q5 : (L.length < N) = False := eq_false (by omega)
            have q5i : ((L.length : Int) < (N : Int)) = False := eq_false (by omega)
            have q5d : decide (L.length < N) = false := decide_eq_false (by omega)
            have q7 : ((N : Int) == (M : Int)) = true := by rw [beq_iff_eq]; omega
            have q7b : ((N : Int) = (M : Int)) = True := eq_true (by omega)
            have q7c : (N = M) = True := eq_true (by omega)
            clear hah han eH eN
            have ha15 : Below w14.heap.size w14 ((w14.alloc (.cells #[.int .i64 a.t, .int .i64 a.v] 32)).alloc (.cells #[.int .i64 S.i, .int .i64 S.t, .slice Bs S.d.length bc] 35)) := ((Below.refl _ _).alloc (Nat.le_refl _) _).alloc (by simp) _
            have pa : ((w14.alloc (.cells #[.int .i64 a.t, .int .i64 a.v] 32)).alloc (.cells #[.int .i64 S.i, .int .i64 S.t, .slice Bs S.d.length bc] 35)).heap[w14.heap.size]? = some (.cells #[.int .i64 a.t, .int .i64 a.v] 32) := (Below.heap_alloc _ _ _ (by simp)).trans (heap_alloc_new _ _)
            have ps : ((w14.alloc (.cells #[.int .i64 a.t, .int .i64 a.v] 32)).alloc (.cells #[.int .i64 S.i, .int .i64 S.t, .slice Bs S.d.length bc] 35)).heap[w14.heap.size + 1]? = some (.cells #[.int .i64 S.i, .int .i64 S.t, .slice Bs S.d.length bc] 35) := heap_alloc2_new _ _ _
            have pb := (ha15.block _ (hlt b14)).trans b14
            have pm := (ha15.block _ (hlt m14)).trans m14
            have C15 := C14.below ha15
            have hS15 : Lies ((w14.alloc (.cells #[.int .i64 a.t, .int .i64 a.v] 32)).alloc (.cells #[.int .i64 S.i, .int .i64 S.t, .slice Bs S.d.length bc] 35)) B6 S.d.length c6 S.d := hlS.keep (by have := hlt pb; omega) fun h0 g off e _ => (C15.low.block g (hzS h0 g off e)).trans (hlow6.block g (hzS h0 g off e)).symm
            have hSm := sameSnapR_any S.i S.t Bs S.d.length bc S.d S.i S.t B6 S.d.length c6 S.d ((w14.alloc (.cells #[.int .i64 a.t, .int .i64 a.v] 32)).alloc (.cells #[.int .i64 S.i, .int .i64 S.t, .slice Bs S.d.length bc] 35)) (hol.below ha15 (Nat.le_refl _)) hS15
            rw [oneB_self] at hSm
            clear hS15 b14 m14
            obtain ⟨⟨p0, p1⟩, _⟩ := row2 pa
            obtain ⟨⟨o0, o1⟩, _⟩ := row2 pm
            obtain ⟨⟨b0, b1, b2, b3, b4, b5⟩, _⟩ := row6 pb
            obtain ⟨⟨r0, r1, r2⟩, _⟩ := row3 ps
            go_wp2_with fail
            refine hSm.mono ?_
            rintro e w16 ⟨rfl, hb16⟩
            clear p0 p1 o0 o1 b0 b1 b2 b3 b4 b5 r0 r1 r2
            have pa := (hb16.block _ (hlt pa)).trans pa
            have pm := (hb16.block _ (hlt pm)).trans pm
            have pb := (hb16.block _ (hlt pb)).trans pb
            have ps := (hb16.block _ (hlt ps)).trans ps
            have C16 := C15.below hb16
            have hb1416 : Below w14.heap.size w14 w16 := ha15.trans (hb16.mono ha15.size)
            clear hSm hb16 C15 ha15
            obtain ⟨⟨p0, p1⟩, _⟩ := row2 pa
            obtain ⟨⟨o0, o1⟩, _⟩ := row2 pm
            obtain ⟨⟨b0, b1, b2, b3, b4, b5⟩, _⟩ := row6 pb
            obtain ⟨⟨r0, r1, r2⟩, _⟩ := row3 ps
            have hfar := hlt pb
            obtain ⟨Y, hY⟩ : ∃ Y, Y = (fun k => k < wh5.heap.size ∨ w16.heap.size ≤ k) := ⟨_, rfl⟩
            have hY1 : ∀ k, w16.heap.size ≤ k → Y k := fun k hk => by rw [hY]; exact .inr hk
            have hY2 : ∀ k, k < wh5.heap.size → Y k := fun k hk => by rw [hY]; exact .inl hk
            have hG16 := C16.low.size
            have hA16 : Below w16.heap.size w16 (w16.alloc (.cells #[] 69)) := (Below.refl _ _).alloc (Nat.le_refl _) _
            have hEL16 : Ents (w16.alloc (.cells #[] 69)) (fun q => Y q ∧ (Value.slice (some ⟨w16.heap.size, 0, none⟩) 0 0).ownBlock ≠ some q) (some ⟨g, off, none⟩) L.length cap6 L :=
              (hEL.keep (by have := hA16.size; have := hlt pb; omega) fun q _ hq => (hA16.block q (Nat.lt_of_lt_of_le hq hG16)).trans ((C16.low.block q hq).trans (hlow6.block q hq).symm)).mono fun q hq => ⟨hY2 q hq, fun er => by injection er with er; have er : w16.heap.size = q := er; have : q < wh5.heap.size := hq; omega⟩
            go_wp2_with (first
              | (at_builtin
                 refine wpList_append_entrow _ rfl _ _ rfl w16.heap.size (by simp) Y (.slice (some ⟨w16.heap.size, 0, none⟩) 0 0) [] (EntRow.made w16 w16.heap.size (Nat.le_refl _) Y (hY1 _ (Nat.le_refl _))) rfl (some ⟨g, off, none⟩) L.length cap6 L hEL16 rfl (fun k hk => hY1 k (by simp at hk; omega)) (by simp; omega) L.length (by simp) L rfl ?_
                 intro A17 c17 w17 hrow17 hg17
                 have hb17 : Below w16.heap.size w16 w17 := hA16.grown hg17 hA16.size (fun q hq => by injection hq with hq; have hq : w16.heap.size = q := hq; omega)
                 have hEM17 : Ents w17 (fun q => Y q ∧ (Value.slice A17 L.length c17).ownBlock ≠ some q) A2 more.length cap2 more :=
                   ((hEG2.below C16.low (Nat.le_refl _)).below hb17 (Nat.le_refl _)).mono fun q hq => ⟨hY2 q hq, fun er => by obtain ⟨xs, ho, _⟩ := hrow17; have := (ho.lt q er).1; have : q < wh5.heap.size := hq; omega⟩)
              | (at_builtin
                 refine wpList_append_entrow _ rfl _ _ rfl w16.heap.size hb17.size Y (.slice A17 L.length c17) L hrow17 rfl A2 more.length cap2 more hEM17 rfl (fun k hk => hY1 k (Nat.le_trans hb17.size hk)) (by omega) M (by exact hMM.out) (L ++ more) rfl ?_
                 intro A18 c18 w18 hrow18 hg18
                 have hb18 : Below w16.heap.size w16 w18 := hb17.grown hg18 hb17.size (fun q hq => by obtain ⟨xs, ho, _⟩ := hrow17; exact (ho.lt q hq).1)
                 have hsl := fun W => run_frontE A18 M c18 N (by have := hrow18.cap; omega) W)
              | fail)
            clear p0 p1 o0 o1 b0 b1 b2 b3 b4 b5 r0 r1 r2
            have pa := (hb18.block _ (hlt pa)).trans pa
            have pm := (hb18.block _ (hlt pm)).trans pm
            have pb := (hb18.block _ (hlt pb)).trans pb
            have ps := (hb18.block _ (hlt ps)).trans ps
            have hb1418 := hb1416.trans (hb18.mono hb1416.size)
            have hc18 := hoE.below hb1418 (Nat.le_refl _)
            have ha18 := hrow18.ents
            rw [hMl] at ha18
            have hSa := sameR_any _ _ A14 N c14 _ A18 N c18 _ w18 hc18 (ha18.front N (by omega)) (by unfold maxLen; omega)
            rw [hlist, sameE_refl] at hSa
            have C18 := C16.below (hb18)
            clear hrow17 hrow18 hg17 hg18 hb17 hEM17 hEL16 hc18 ha18 hsl C16 hY1 hY2 hA16
            obtain ⟨⟨p0, p1⟩, _⟩ := row2 pa
            obtain ⟨⟨o0, o1⟩, _⟩ := row2 pm
            obtain ⟨⟨b0, b1, b2, b3, b4, b5⟩, _⟩ := row6 pb
            obtain ⟨⟨r0, r1, r2⟩, _⟩ := row3 ps
            go_wp2_with fail
            refine hSa.mono ?_
            rintro e w19 ⟨rfl, hb19⟩
            clear p0 p1 o0 o1 b0 b1 b2 b3 b4 b5 r0 r1 r2
            have pa := (hb19.block _ (hlt pa)).trans pa
            have pm := (hb19.block _ (hlt pm)).trans pm
            have pb := (hb19.block _ (hlt pb)).trans pb
            have ps := (hb19.block _ (hlt ps)).trans ps
            have C19 := C18.below hb19
            clear hSa hb19 C18
            obtain ⟨⟨p0, p1⟩, _⟩ := row2 pa
            obtain ⟨⟨o0, o1⟩, _⟩ := row2 pm
            obtain ⟨⟨b0, b1, b2, b3, b4, b5⟩, _⟩ := row6 pb
            obtain ⟨⟨r0, r1, r2⟩, _⟩ := row3 ps
            go_wp2
            go_ret
            exact ⟨rfl, hbw.trans (C19.low.mono hbw.size)⟩
        · by_cases hah : a = h
          · have eH : (a.t == h.t && a.v == h.v) = true := by rw [hd_beq]; simp [hah]
            have eN : (a.t == nx.t && a.v == nx.v) = true := by rw [hd_beq]; simp [han]
            have z1 := neq_hardC a.t a.v h.t h.v
            have z2 := neq_hardC a.t a.v nx.t nx.v
            have z3 := eq_hardC a.t a.v nx.t nx.v
            rw [eH] at z1
            rw [eN] at z2 z3
            have q5 : (L.length < N) = True := eq_true (by omega)
            have q5i : ((L.length : Int) < (N : Int)) = True := eq_true (by omega)
            have q5d : decide (L.length < N) = true := decide_eq_true (by omega)
            have q7 : ((N : Int) == (M : Int)) = true := by rw [beq_iff_eq]; omega
            have q7b : ((N : Int) = (M : Int)) = True := eq_true (by omega)
            have q7c : (N = M) = True := eq_true (by omega)
            clear hah han eH eN
            have ha15 : Below w14.heap.size w14 ((w14.alloc (.cells #[.int .i64 a.t, .int .i64 a.v] 32)).alloc (.cells #[.int .i64 S.i, .int .i64 S.t, .slice Bs S.d.length bc] 35)) := ((Below.refl _ _).alloc (Nat.le_refl _) _).alloc (by simp) _
            have pa : ((w14.alloc (.cells #[.int .i64 a.t, .int .i64 a.v] 32)).alloc (.cells #[.int .i64 S.i, .int .i64 S.t, .slice Bs S.d.length bc] 35)).heap[w14.heap.size]? = some (.cells #[.int .i64 a.t, .int .i64 a.v] 32) := (Below.heap_alloc _ _ _ (by simp)).trans (heap_alloc_new _ _)
            have ps : ((w14.alloc (.cells #[.int .i64 a.t, .int .i64 a.v] 32)).alloc (.cells #[.int .i64 S.i, .int .i64 S.t, .slice Bs S.d.length bc] 35)).heap[w14.heap.size + 1]? = some (.cells #[.int .i64 S.i, .int .i64 S.t, .slice Bs S.d.length bc] 35) := heap_alloc2_new _ _ _
            have pb := (ha15.block _ (hlt b14)).trans b14
            have pm := (ha15.block _ (hlt m14)).trans m14
            have C15 := C14.below ha15
            have hS15 : Lies ((w14.alloc (.cells #[.int .i64 a.t, .int .i64 a.v] 32)).alloc (.cells #[.int .i64 S.i, .int .i64 S.t, .slice Bs S.d.length bc] 35)) B6 S.d.length c6 S.d := hlS.keep (by have := hlt pb; omega) fun h0 g off e _ => (C15.low.block g (hzS h0 g off e)).trans (hlow6.block g (hzS h0 g off e)).symm
            have hSm := sameSnapR_any S.i S.t Bs S.d.length bc S.d S.i S.t B6 S.d.length c6 S.d ((w14.alloc (.cells #[.int .i64 a.t, .int .i64 a.v] 32)).alloc (.cells #[.int .i64 S.i, .int .i64 S.t, .slice Bs S.d.length bc] 35)) (hol.below ha15 (Nat.le_refl _)) hS15
            rw [oneB_self] at hSm
            clear hS15 b14 m14
            obtain ⟨⟨p0, p1⟩, _⟩ := row2 pa
            obtain ⟨⟨o0, o1⟩, _⟩ := row2 pm
            obtain ⟨⟨b0, b1, b2, b3, b4, b5⟩, _⟩ := row6 pb
            obtain ⟨⟨r0, r1, r2⟩, _⟩ := row3 ps
            go_wp2_with fail
            refine hSm.mono ?_
            rintro e w16 ⟨rfl, hb16⟩
            clear p0 p1 o0 o1 b0 b1 b2 b3 b4 b5 r0 r1 r2
            have pa := (hb16.block _ (hlt pa)).trans pa
            have pm := (hb16.block _ (hlt pm)).trans pm
            have pb := (hb16.block _ (hlt pb)).trans pb
            have ps := (hb16.block _ (hlt ps)).trans ps
            have C16 := C15.below hb16
            have hb1416 : Below w14.heap.size w14 w16 := ha15.trans (hb16.mono ha15.size)
            clear hSm hb16 C15 ha15
            obtain ⟨⟨p0, p1⟩, _⟩ := row2 pa
            obtain ⟨⟨o0, o1⟩, _⟩ := row2 pm
            obtain ⟨⟨b0, b1, b2, b3, b4, b5⟩, _⟩ := row6 pb
            obtain ⟨⟨r0, r1, r2⟩, _⟩ := row3 ps
            have hfar := hlt pb
            obtain ⟨Y, hY⟩ : ∃ Y, Y = (fun k => k < wh5.heap.size ∨ w16.heap.size ≤ k) := ⟨_, rfl⟩
            have hY1 : ∀ k, w16.heap.size ≤ k → Y k := fun k hk => by rw [hY]; exact .inr hk
            have hY2 : ∀ k, k < wh5.heap.size → Y k := fun k hk => by rw [hY]; exact .inl hk
            have hG16 := C16.low.size
            have hA16 : Below w16.heap.size w16 (w16.alloc (.cells #[] 69)) := (Below.refl _ _).alloc (Nat.le_refl _) _
            have hEL16 : Ents (w16.alloc (.cells #[] 69)) (fun q => Y q ∧ (Value.slice (some ⟨w16.heap.size, 0, none⟩) 0 0).ownBlock ≠ some q) (some ⟨g, off, none⟩) L.length cap6 L :=
              (hEL.keep (by have := hA16.size; have := hlt pb; omega) fun q _ hq => (hA16.block q (Nat.lt_of_lt_of_le hq hG16)).trans ((C16.low.block q hq).trans (hlow6.block q hq).symm)).mono fun q hq => ⟨hY2 q hq, fun er => by injection er with er; have er : w16.heap.size = q := er; have : q < wh5.heap.size := hq; omega⟩
            go_wp2_with (first
              | (at_builtin
                 refine wpList_append_entrow _ rfl _ _ rfl w16.heap.size (by simp) Y (.slice (some ⟨w16.heap.size, 0, none⟩) 0 0) [] (EntRow.made w16 w16.heap.size (Nat.le_refl _) Y (hY1 _ (Nat.le_refl _))) rfl (some ⟨g, off, none⟩) L.length cap6 L hEL16 rfl (fun k hk => hY1 k (by simp at hk; omega)) (by simp; omega) L.length (by simp) L rfl ?_
                 intro A17 c17 w17 hrow17 hg17
                 have hb17 : Below w16.heap.size w16 w17 := hA16.grown hg17 hA16.size (fun q hq => by injection hq with hq; have hq : w16.heap.size = q := hq; omega)
                 have hEM17 : Ents w17 (fun q => Y q ∧ (Value.slice A17 L.length c17).ownBlock ≠ some q) A2 more.length cap2 more :=
                   ((hEG2.below C16.low (Nat.le_refl _)).below hb17 (Nat.le_refl _)).mono fun q hq => ⟨hY2 q hq, fun er => by obtain ⟨xs, ho, _⟩ := hrow17; have := (ho.lt q er).1; have : q < wh5.heap.size := hq; omega⟩)
              | (at_builtin
                 refine wpList_append_entrow _ rfl _ _ rfl w16.heap.size hb17.size Y (.slice A17 L.length c17) L hrow17 rfl A2 more.length cap2 more hEM17 rfl (fun k hk => hY1 k (Nat.le_trans hb17.size hk)) (by omega) M (by exact hMM.out) (L ++ more) rfl ?_
                 intro A18 c18 w18 hrow18 hg18
                 have hb18 : Below w16.heap.size w16 w18 := hb17.grown hg18 hb17.size (fun q hq => by obtain ⟨xs, ho, _⟩ := hrow17; exact (ho.lt q hq).1)
                 have hsl := fun W => run_frontE A18 M c18 N (by have := hrow18.cap; omega) W)
              | fail)
            clear p0 p1 o0 o1 b0 b1 b2 b3 b4 b5 r0 r1 r2
            have pa := (hb18.block _ (hlt pa)).trans pa
            have pm := (hb18.block _ (hlt pm)).trans pm
            have pb := (hb18.block _ (hlt pb)).trans pb
            have ps := (hb18.block _ (hlt ps)).trans ps
            have hb1418 := hb1416.trans (hb18.mono hb1416.size)
            have hc18 := hoE.below hb1418 (Nat.le_refl _)
            have ha18 := hrow18.ents
            rw [hMl] at ha18
            have hSa := sameR_any _ _ A14 N c14 _ A18 N c18 _ w18 hc18 (ha18.front N (by omega)) (by unfold maxLen; omega)
            rw [hlist, sameE_refl] at hSa
            have C18 := C16.below (hb18)
            clear hrow17 hrow18 hg17 hg18 hb17 hEM17 hEL16 hc18 ha18 hsl C16 hY1 hY2 hA16
            obtain ⟨⟨p0, p1⟩, _⟩ := row2 pa
            obtain ⟨⟨o0, o1⟩, _⟩ := row2 pm
            obtain ⟨⟨b0, b1, b2, b3, b4, b5⟩, _⟩ := row6 pb
            obtain ⟨⟨r0, r1, r2⟩, _⟩ := row3 ps
            go_wp2_with fail
            refine hSa.mono ?_
            rintro e w19 ⟨rfl, hb19⟩
            clear p0 p1 o0 o1 b0 b1 b2 b3 b4 b5 r0 r1 r2
            have pa := (hb19.block _ (hlt pa)).trans pa
            have pm := (hb19.block _ (hlt pm)).trans pm
            have pb := (hb19.block _ (hlt pb)).trans pb
            have ps := (hb19.block _ (hlt ps)).trans ps
            have C19 := C18.below hb19
            clear hSa hb19 C18
            obtain ⟨⟨p0, p1⟩, _⟩ := row2 pa
            obtain ⟨⟨o0, o1⟩, _⟩ := row2 pm
            obtain ⟨⟨b0, b1, b2, b3, b4, b5⟩, _⟩ := row6 pb
            obtain ⟨⟨r0, r1, r2⟩, _⟩ := row3 ps
            go_wp2
            go_ret
            exact ⟨rfl, hbw.trans (C19.low.mono hbw.size)⟩
          · have eH : (a.t == h.t && a.v == h.v) = false := by rw [hd_beq]; simp [hah]
            have eN : (a.t == nx.t && a.v == nx.v) = true := by rw [hd_beq]; simp [han]
            have z1 := neq_hardC a.t a.v h.t h.v
            have z2 := neq_hardC a.t a.v nx.t nx.v
            have z3 := eq_hardC a.t a.v nx.t nx.v
            rw [eH] at z1
            rw [eN] at z2 z3
            have q5 : (L.length < N) = True := eq_true (by omega)
            have q5i : ((L.length : Int) < (N : Int)) = True := eq_true (by omega)
            have q5d : decide (L.length < N) = true := decide_eq_true (by omega)
            have q7 : ((N : Int) == (M : Int)) = true := by rw [beq_iff_eq]; omega
            have q7b : ((N : Int) = (M : Int)) = True := eq_true (by omega)
            have q7c : (N = M) = True := eq_true (by omega)
            clear hah han eH eN
            have ha15 : Below w14.heap.size w14 ((w14.alloc (.cells #[.int .i64 a.t, .int .i64 a.v] 32)).alloc (.cells #[.int .i64 S.i, .int .i64 S.t, .slice Bs S.d.length bc] 35)) := ((Below.refl _ _).alloc (Nat.le_refl _) _).alloc (by simp) _
            have pa : ((w14.alloc (.cells #[.int .i64 a.t, .int .i64 a.v] 32)).alloc (.cells #[.int .i64 S.i, .int .i64 S.t, .slice Bs S.d.length bc] 35)).heap[w14.heap.size]? = some (.cells #[.int .i64 a.t, .int .i64 a.v] 32) := (Below.heap_alloc _ _ _ (by simp)).trans (heap_alloc_new _ _)
            have ps : ((w14.alloc (.cells #[.int .i64 a.t, .int .i64 a.v] 32)).alloc (.cells #[.int .i64 S.i, .int .i64 S.t, .slice Bs S.d.length bc] 35)).heap[w14.heap.size + 1]? = some (.cells #[.int .i64 S.i, .int .i64 S.t, .slice Bs S.d.length bc] 35) := heap_alloc2_new _ _ _
            have pb := (ha15.block _ (hlt b14)).trans b14
            have pm := (ha15.block _ (hlt m14)).trans m14
            have C15 := C14.below ha15
            have hS15 : Lies ((w14.alloc (.cells #[.int .i64 a.t, .int .i64 a.v] 32)).alloc (.cells #[.int .i64 S.i, .int .i64 S.t, .slice Bs S.d.length bc] 35)) B6 S.d.length c6 S.d := hlS.keep (by have := hlt pb; omega) fun h0 g off e _ => (C15.low.block g (hzS h0 g off e)).trans (hlow6.block g (hzS h0 g off e)).symm
            have hSm := sameSnapR_any S.i S.t Bs S.d.length bc S.d S.i S.t B6 S.d.length c6 S.d ((w14.alloc (.cells #[.int .i64 a.t, .int .i64 a.v] 32)).alloc (.cells #[.int .i64 S.i, .int .i64 S.t, .slice Bs S.d.length bc] 35)) (hol.below ha15 (Nat.le_refl _)) hS15
            rw [oneB_self] at hSm
            clear hS15 b14 m14
            obtain ⟨⟨p0, p1⟩, _⟩ := row2 pa
            obtain ⟨⟨o0, o1⟩, _⟩ := row2 pm
            obtain ⟨⟨b0, b1, b2, b3, b4, b5⟩, _⟩ := row6 pb
            obtain ⟨⟨r0, r1, r2⟩, _⟩ := row3 ps
            go_wp2_with fail
            refine hSm.mono ?_
            rintro e w16 ⟨rfl, hb16⟩
            clear p0 p1 o0 o1 b0 b1 b2 b3 b4 b5 r0 r1 r2
            have pa := (hb16.block _ (hlt pa)).trans pa
            have pm := (hb16.block _ (hlt pm)).trans pm
            have pb := (hb16.block _ (hlt pb)).trans pb
            have ps := (hb16.block _ (hlt ps)).trans ps
            have C16 := C15.below hb16
            have hb1416 : Below w14.heap.size w14 w16 := ha15.trans (hb16.mono ha15.size)
            clear hSm hb16 C15 ha15
            obtain ⟨⟨p0, p1⟩, _⟩ := row2 pa
            obtain ⟨⟨o0, o1⟩, _⟩ := row2 pm
            obtain ⟨⟨b0, b1, b2, b3, b4, b5⟩, _⟩ := row6 pb
            obtain ⟨⟨r0, r1, r2⟩, _⟩ := row3 ps
            have hfar := hlt pb
            obtain ⟨Y, hY⟩ : ∃ Y, Y = (fun k => k < wh5.heap.size ∨ w16.heap.size ≤ k) := ⟨_, rfl⟩
            have hY1 : ∀ k, w16.heap.size ≤ k → Y k := fun k hk => by rw [hY]; exact .inr hk
            have hY2 : ∀ k, k < wh5.heap.size → Y k := fun k hk => by rw [hY]; exact .inl hk
            have hG16 := C16.low.size
            have hA16 : Below w16.heap.size w16 (w16.alloc (.cells #[] 69)) := (Below.refl _ _).alloc (Nat.le_refl _) _
            have hEL16 : Ents (w16.alloc (.cells #[] 69)) (fun q => Y q ∧ (Value.slice (some ⟨w16.heap.size, 0, none⟩) 0 0).ownBlock ≠ some q) (some ⟨g, off, none⟩) L.length cap6 L :=
              (hEL.keep (by have := hA16.size; have := hlt pb; omega) fun q _ hq => (hA16.block q (Nat.lt_of_lt_of_le hq hG16)).trans ((C16.low.block q hq).trans (hlow6.block q hq).symm)).mono fun q hq => ⟨hY2 q hq, fun er => by injection er with er; have er : w16.heap.size = q := er; have : q < wh5.heap.size := hq; omega⟩
            go_wp2_with (first
              | (at_builtin
                 refine wpList_append_entrow _ rfl _ _ rfl w16.heap.size (by simp) Y (.slice (some ⟨w16.heap.size, 0, none⟩) 0 0) [] (EntRow.made w16 w16.heap.size (Nat.le_refl _) Y (hY1 _ (Nat.le_refl _))) rfl (some ⟨g, off, none⟩) L.length cap6 L hEL16 rfl (fun k hk => hY1 k (by simp at hk; omega)) (by simp; omega) L.length (by simp) L rfl ?_
                 intro A17 c17 w17 hrow17 hg17
                 have hb17 : Below w16.heap.size w16 w17 := hA16.grown hg17 hA16.size (fun q hq => by injection hq with hq; have hq : w16.heap.size = q := hq; omega)
                 have hEM17 : Ents w17 (fun q => Y q ∧ (Value.slice A17 L.length c17).ownBlock ≠ some q) A2 more.length cap2 more :=
                   ((hEG2.below C16.low (Nat.le_refl _)).below hb17 (Nat.le_refl _)).mono fun q hq => ⟨hY2 q hq, fun er => by obtain ⟨xs, ho, _⟩ := hrow17; have := (ho.lt q er).1; have : q < wh5.heap.size := hq; omega⟩)
              | (at_builtin
                 refine wpList_append_entrow _ rfl _ _ rfl w16.heap.size hb17.size Y (.slice A17 L.length c17) L hrow17 rfl A2 more.length cap2 more hEM17 rfl (fun k hk => hY1 k (Nat.le_trans hb17.size hk)) (by omega) M (by exact hMM.out) (L ++ more) rfl ?_
                 intro A18 c18 w18 hrow18 hg18
                 have hb18 : Below w16.heap.size w16 w18 := hb17.grown hg18 hb17.size (fun q hq => by obtain ⟨xs, ho, _⟩ := hrow17; exact (ho.lt q hq).1)
                 have hsl := fun W => run_frontE A18 M c18 N (by have := hrow18.cap; omega) W)
              | fail)
            clear p0 p1 o0 o1 b0 b1 b2 b3 b4 b5 r0 r1 r2
            have pa := (hb18.block _ (hlt pa)).trans pa
            have pm := (hb18.block _ (hlt pm)).trans pm
            have pb := (hb18.block _ (hlt pb)).trans pb
            have ps := (hb18.block _ (hlt ps)).trans ps
            have hb1418 := hb1416.trans (hb18.mono hb1416.size)
            have hc18 := hoE.below hb1418 (Nat.le_refl _)
            have ha18 := hrow18.ents
            rw [hMl] at ha18
            have hSa := sameR_any _ _ A14 N c14 _ A18 N c18 _ w18 hc18 (ha18.front N (by omega)) (by unfold maxLen; omega)
            rw [hlist, sameE_refl] at hSa
            have C18 := C16.below (hb18)
            clear hrow17 hrow18 hg17 hg18 hb17 hEM17 hEL16 hc18 ha18 hsl C16 hY1 hY2 hA16
            obtain ⟨⟨p0, p1⟩, _⟩ := row2 pa
            obtain ⟨⟨o0, o1⟩, _⟩ := row2 pm
            obtain ⟨⟨b0, b1, b2, b3, b4, b5⟩, _⟩ := row6 pb
            obtain ⟨⟨r0, r1, r2⟩, _⟩ := row3 ps
            go_wp2_with fail
            refine hSa.mono ?_
            rintro e w19 ⟨rfl, hb19⟩
            clear p0 p1 o0 o1 b0 b1 b2 b3 b4 b5 r0 r1 r2
            have pa := (hb19.block _ (hlt pa)).trans pa
            have pm := (hb19.block _ (hlt pm)).trans pm
            have pb := (hb19.block _ (hlt pb)).trans pb
            have ps := (hb19.block _ (hlt ps)).trans ps
            have C19 := C18.below hb19
            clear hSa hb19 C18
            obtain ⟨⟨p0, p1⟩, _⟩ := row2 pa
            obtain ⟨⟨o0, o1⟩, _⟩ := row2 pm
            obtain ⟨⟨b0, b1, b2, b3, b4, b5⟩, _⟩ := row6 pb
            obtain ⟨⟨r0, r1, r2⟩, _⟩ := row3 ps
            go_wp2
            go_ret
            exact ⟨rfl, hbw.trans (C19.low.mono hbw.size)⟩
      · clear cfull
        by_cases hj0 : jj = 0
        · clear cja
          by_cases hah : a = h
          · by_cases han : a = nx
            · have eH : (a.t == h.t && a.v == h.v) = true := by rw [hd_beq]; simp [hah]
              have eN : (a.t == nx.t && a.v == nx.v) = true := by rw [hd_beq]; simp [han]
              have z1 := neq_hardC a.t a.v h.t h.v
              have z2 := neq_hardC a.t a.v nx.t nx.v
              have z3 := eq_hardC a.t a.v nx.t nx.v
              rw [eH] at z1
              rw [eN] at z2 z3
              have q5 : (L.length < N) = False := eq_false (by omega)
              have q5i : ((L.length : Int) < (N : Int)) = False := eq_false (by omega)
              have q5d : decide (L.length < N) = false := decide_eq_false (by omega)
              have q6 : ((e10 : Int) != 0) = true := by simp; omega
              have q6b : ((e10 : Int) = 0) = False := eq_false (by omega)
              clear hah han eH eN
              have ha15 : Below w14.heap.size w14 ((w14.alloc (.cells #[.int .i64 a.t, .int .i64 a.v] 32)).alloc (.cells #[.int .i64 S.i, .int .i64 S.t, .slice Bs S.d.length bc] 35)) := ((Below.refl _ _).alloc (Nat.le_refl _) _).alloc (by simp) _
              have pa : ((w14.alloc (.cells #[.int .i64 a.t, .int .i64 a.v] 32)).alloc (.cells #[.int .i64 S.i, .int .i64 S.t, .slice Bs S.d.length bc] 35)).heap[w14.heap.size]? = some (.cells #[.int .i64 a.t, .int .i64 a.v] 32) := (Below.heap_alloc _ _ _ (by simp)).trans (heap_alloc_new _ _)
              have ps : ((w14.alloc (.cells #[.int .i64 a.t, .int .i64 a.v] 32)).alloc (.cells #[.int .i64 S.i, .int .i64 S.t, .slice Bs S.d.length bc] 35)).heap[w14.heap.size + 1]? = some (.cells #[.int .i64 S.i, .int .i64 S.t, .slice Bs S.d.length bc] 35) := heap_alloc2_new _ _ _
              have pb := (ha15.block _ (hlt b14)).trans b14
              have pm := (ha15.block _ (hlt m14)).trans m14
              have C15 := C14.below ha15
              have hS15 : Lies ((w14.alloc (.cells #[.int .i64 a.t, .int .i64 a.v] 32)).alloc (.cells #[.int .i64 S.i, .int .i64 S.t, .slice Bs S.d.length bc] 35)) B6 S.d.length c6 S.d := hlS.keep (by have := hlt pb; omega) fun h0 g off e _ => (C15.low.block g (hzS h0 g off e)).trans (hlow6.block g (hzS h0 g off e)).symm
              have hSm := sameSnapR_any S.i S.t Bs S.d.length bc S.d S.i S.t B6 S.d.length c6 S.d ((w14.alloc (.cells #[.int .i64 a.t, .int .i64 a.v] 32)).alloc (.cells #[.int .i64 S.i, .int .i64 S.t, .slice Bs S.d.length bc] 35)) (hol.below ha15 (Nat.le_refl _)) hS15
              rw [oneB_self] at hSm
              clear hS15 b14 m14
              obtain ⟨⟨p0, p1⟩, _⟩ := row2 pa
              obtain ⟨⟨o0, o1⟩, _⟩ := row2 pm
              obtain ⟨⟨b0, b1, b2, b3, b4, b5⟩, _⟩ := row6 pb
              obtain ⟨⟨r0, r1, r2⟩, _⟩ := row3 ps
              go_wp2_with fail
              refine hSm.mono ?_
              rintro e w16 ⟨rfl, hb16⟩
              clear p0 p1 o0 o1 b0 b1 b2 b3 b4 b5 r0 r1 r2
              have pa := (hb16.block _ (hlt pa)).trans pa
              have pm := (hb16.block _ (hlt pm)).trans pm
              have pb := (hb16.block _ (hlt pb)).trans pb
              have ps := (hb16.block _ (hlt ps)).trans ps
              have C16 := C15.below hb16
              have hb1416 : Below w14.heap.size w14 w16 := ha15.trans (hb16.mono ha15.size)
              clear hSm hb16 C15 ha15
              obtain ⟨⟨p0, p1⟩, _⟩ := row2 pa
              obtain ⟨⟨o0, o1⟩, _⟩ := row2 pm
              obtain ⟨⟨b0, b1, b2, b3, b4, b5⟩, _⟩ := row6 pb
              obtain ⟨⟨r0, r1, r2⟩, _⟩ := row3 ps
              have hfar := hlt pb
              obtain ⟨Y, hY⟩ : ∃ Y, Y = (fun k => k < wh5.heap.size ∨ w16.heap.size ≤ k) := ⟨_, rfl⟩
              have hY1 : ∀ k, w16.heap.size ≤ k → Y k := fun k hk => by rw [hY]; exact .inr hk
              have hY2 : ∀ k, k < wh5.heap.size → Y k := fun k hk => by rw [hY]; exact .inl hk
              have hG16 := C16.low.size
              have hA16 : Below w16.heap.size w16 (w16.alloc (.cells #[] 69)) := (Below.refl _ _).alloc (Nat.le_refl _) _
              have hEL16 : Ents (w16.alloc (.cells #[] 69)) (fun q => Y q ∧ (Value.slice (some ⟨w16.heap.size, 0, none⟩) 0 0).ownBlock ≠ some q) (some ⟨g, off, none⟩) L.length cap6 L :=
                (hEL.keep (by have := hA16.size; have := hlt pb; omega) fun q _ hq => (hA16.block q (Nat.lt_of_lt_of_le hq hG16)).trans ((C16.low.block q hq).trans (hlow6.block q hq).symm)).mono fun q hq => ⟨hY2 q hq, fun er => by injection er with er; have er : w16.heap.size = q := er; have : q < wh5.heap.size := hq; omega⟩
              go_wp2_with (first
                | (at_builtin
                   refine wpList_append_entrow _ rfl _ _ rfl w16.heap.size (by simp) Y (.slice (some ⟨w16.heap.size, 0, none⟩) 0 0) [] (EntRow.made w16 w16.heap.size (Nat.le_refl _) Y (hY1 _ (Nat.le_refl _))) rfl (some ⟨g, off, none⟩) L.length cap6 L hEL16 rfl (fun k hk => hY1 k (by simp at hk; omega)) (by simp; omega) L.length (by simp) L rfl ?_
                   intro A17 c17 w17 hrow17 hg17
                   have hb17 : Below w16.heap.size w16 w17 := hA16.grown hg17 hA16.size (fun q hq => by injection hq with hq; have hq : w16.heap.size = q := hq; omega)
                   have hEM17 : Ents w17 (fun q => Y q ∧ (Value.slice A17 L.length c17).ownBlock ≠ some q) A2 more.length cap2 more :=
                     ((hEG2.below C16.low (Nat.le_refl _)).below hb17 (Nat.le_refl _)).mono fun q hq => ⟨hY2 q hq, fun er => by obtain ⟨xs, ho, _⟩ := hrow17; have := (ho.lt q er).1; have : q < wh5.heap.size := hq; omega⟩)
                | (at_builtin
                   refine wpList_append_entrow _ rfl _ _ rfl w16.heap.size hb17.size Y (.slice A17 L.length c17) L hrow17 rfl A2 more.length cap2 more hEM17 rfl (fun k hk => hY1 k (Nat.le_trans hb17.size hk)) (by omega) M (by exact hMM.out) (L ++ more) rfl ?_
                   intro A18 c18 w18 hrow18 hg18
                   have hb18 : Below w16.heap.size w16 w18 := hb17.grown hg18 hb17.size (fun q hq => by obtain ⟨xs, ho, _⟩ := hrow17; exact (ho.lt q hq).1)
                   have hsl := fun W => run_frontE A18 M c18 N (by have := hrow18.cap; omega) W)
                | fail)
              clear p0 p1 o0 o1 b0 b1 b2 b3 b4 b5 r0 r1 r2
              have pa := (hb18.block _ (hlt pa)).trans pa
              have pm := (hb18.block _ (hlt pm)).trans pm
              have pb := (hb18.block _ (hlt pb)).trans pb
              have ps := (hb18.block _ (hlt ps)).trans ps
              have hb1418 := hb1416.trans (hb18.mono hb1416.size)
              have hc18 := hoE.below hb1418 (Nat.le_refl _)
              have ha18 := hrow18.ents
              rw [hMl] at ha18
              have hSa := sameR_any _ _ A14 N c14 _ A18 N c18 _ w18 hc18 (ha18.front N (by omega)) (by unfold maxLen; omega)
              rw [hlist, sameE_refl] at hSa
              have C18 := C16.below (hb18)
              clear hrow17 hrow18 hg17 hg18 hb17 hEM17 hEL16 hc18 ha18 hsl C16 hY1 hY2 hA16
              obtain ⟨⟨p0, p1⟩, _⟩ := row2 pa
              obtain ⟨⟨o0, o1⟩, _⟩ := row2 pm
              obtain ⟨⟨b0, b1, b2, b3, b4, b5⟩, _⟩ := row6 pb
              obtain ⟨⟨r0, r1, r2⟩, _⟩ := row3 ps
              go_wp2_with fail
              refine hSa.mono ?_
              rintro e w19 ⟨rfl, hb19⟩
              clear p0 p1 o0 o1 b0 b1 b2 b3 b4 b5 r0 r1 r2
              have pa := (hb19.block _ (hlt pa)).trans pa
              have pm := (hb19.block _ (hlt pm)).trans pm
              have pb := (hb19.block _ (hlt pb)).trans pb
              have ps := (hb19.block _ (hlt ps)).trans ps
              have C19 := C18.below hb19
              clear hSa hb19 C18
              obtain ⟨⟨p0, p1⟩, _⟩ := row2 pa
              obtain ⟨⟨o0, o1⟩, _⟩ := row2 pm
              obtain ⟨⟨b0, b1, b2, b3, b4, b5⟩, _⟩ := row6 pb
              obtain ⟨⟨r0, r1, r2⟩, _⟩ := row3 ps
              go_wp2
              go_ret
              exact ⟨rfl, hbw.trans (C19.low.mono hbw.size)⟩
            · have eH : (a.t == h.t && a.v == h.v) = true := by rw [hd_beq]; simp [hah]
              have eN : (a.t == nx.t && a.v == nx.v) = false := by rw [hd_beq]; simp [han]
              have z1 := neq_hardC a.t a.v h.t h.v
              have z2 := neq_hardC a.t a.v nx.t nx.v
              have z3 := eq_hardC a.t a.v nx.t nx.v
              rw [eH] at z1
              rw [eN] at z2 z3
              have q5 : (L.length < N) = False := eq_false (by omega)
              have q5i : ((L.length : Int) < (N : Int)) = False := eq_false (by omega)
              have q5d : decide (L.length < N) = false := decide_eq_false (by omega)
              have q6 : ((e10 : Int) != 0) = true := by simp; omega
              have q6b : ((e10 : Int) = 0) = False := eq_false (by omega)
              clear hah han eH eN
              have ha15 : Below w14.heap.size w14 ((w14.alloc (.cells #[.int .i64 a.t, .int .i64 a.v] 32)).alloc (.cells #[.int .i64 S.i, .int .i64 S.t, .slice Bs S.d.length bc] 35)) := ((Below.refl _ _).alloc (Nat.le_refl _) _).alloc (by simp) _
              have pa : ((w14.alloc (.cells #[.int .i64 a.t, .int .i64 a.v] 32)).alloc (.cells #[.int .i64 S.i, .int .i64 S.t, .slice Bs S.d.length bc] 35)).heap[w14.heap.size]? = some (.cells #[.int .i64 a.t, .int .i64 a.v] 32) := (Below.heap_alloc _ _ _ (by simp)).trans (heap_alloc_new _ _)
              have ps : ((w14.alloc (.cells #[.int .i64 a.t, .int .i64 a.v] 32)).alloc (.cells #[.int .i64 S.i, .int .i64 S.t, .slice Bs S.d.length bc] 35)).heap[w14.heap.size + 1]? = some (.cells #[.int .i64 S.i, .int .i64 S.t, .slice Bs S.d.length bc] 35) := heap_alloc2_new _ _ _
              have pb := (ha15.block _ (hlt b14)).trans b14
              have pm := (ha15.block _ (hlt m14)).trans m14
              have C15 := C14.below ha15
              have hS15 : Lies ((w14.alloc (.cells #[.int .i64 a.t, .int .i64 a.v] 32)).alloc (.cells #[.int .i64 S.i, .int .i64 S.t, .slice Bs S.d.length bc] 35)) B6 S.d.length c6 S.d := hlS.keep (by have := hlt pb; omega) fun h0 g off e _ => (C15.low.block g (hzS h0 g off e)).trans (hlow6.block g (hzS h0 g off e)).symm
              have hSm := sameSnapR_any S.i S.t Bs S.d.length bc S.d S.i S.t B6 S.d.length c6 S.d ((w14.alloc (.cells #[.int .i64 a.t, .int .i64 a.v] 32)).alloc (.cells #[.int .i64 S.i, .int .i64 S.t, .slice Bs S.d.length bc] 35)) (hol.below ha15 (Nat.le_refl _)) hS15
              rw [oneB_self] at hSm
              clear hS15 b14 m14
              obtain ⟨⟨p0, p1⟩, _⟩ := row2 pa
              obtain ⟨⟨o0, o1⟩, _⟩ := row2 pm
              obtain ⟨⟨b0, b1, b2, b3, b4, b5⟩, _⟩ := row6 pb
              obtain ⟨⟨r0, r1, r2⟩, _⟩ := row3 ps
              go_wp2_with fail
              refine hSm.mono ?_
              rintro e w16 ⟨rfl, hb16⟩
              clear p0 p1 o0 o1 b0 b1 b2 b3 b4 b5 r0 r1 r2
              have pa := (hb16.block _ (hlt pa)).trans pa
              have pm := (hb16.block _ (hlt pm)).trans pm
              have pb := (hb16.block _ (hlt pb)).trans pb
              have ps := (hb16.block _ (hlt ps)).trans ps
              have C16 := C15.below hb16
              have hb1416 : Below w14.heap.size w14 w16 := ha15.trans (hb16.mono ha15.size)
              clear hSm hb16 C15 ha15
              obtain ⟨⟨p0, p1⟩, _⟩ := row2 pa
              obtain ⟨⟨o0, o1⟩, _⟩ := row2 pm
              obtain ⟨⟨b0, b1, b2, b3, b4, b5⟩, _⟩ := row6 pb
              obtain ⟨⟨r0, r1, r2⟩, _⟩ := row3 ps
              have hfar := hlt pb
              obtain ⟨Y, hY⟩ : ∃ Y, Y = (fun k => k < wh5.heap.size ∨ w16.heap.size ≤ k) := ⟨_, rfl⟩
              have hY1 : ∀ k, w16.heap.size ≤ k → Y k := fun k hk => by rw [hY]; exact .inr hk
              have hY2 : ∀ k, k < wh5.heap.size → Y k := fun k hk => by rw [hY]; exact .inl hk
              have hG16 := C16.low.size
              have hA16 : Below w16.heap.size w16 (w16.alloc (.cells #[] 69)) := (Below.refl _ _).alloc (Nat.le_refl _) _
              have hEL16 : Ents (w16.alloc (.cells #[] 69)) (fun q => Y q ∧ (Value.slice (some ⟨w16.heap.size, 0, none⟩) 0 0).ownBlock ≠ some q) (some ⟨g, off, none⟩) L.length cap6 L :=
                (hEL.keep (by have := hA16.size; have := hlt pb; omega) fun q _ hq => (hA16.block q (Nat.lt_of_lt_of_le hq hG16)).trans ((C16.low.block q hq).trans (hlow6.block q hq).symm)).mono fun q hq => ⟨hY2 q hq, fun er => by injection er with er; have er : w16.heap.size = q := er; have : q < wh5.heap.size := hq; omega⟩
              go_wp2_with (first
                | (at_builtin
                   refine wpList_append_entrow _ rfl _ _ rfl w16.heap.size (by simp) Y (.slice (some ⟨w16.heap.size, 0, none⟩) 0 0) [] (EntRow.made w16 w16.heap.size (Nat.le_refl _) Y (hY1 _ (Nat.le_refl _))) rfl (some ⟨g, off, none⟩) L.length cap6 L hEL16 rfl (fun k hk => hY1 k (by simp at hk; omega)) (by simp; omega) L.length (by simp) L rfl ?_
                   intro A17 c17 w17 hrow17 hg17
                   have hb17 : Below w16.heap.size w16 w17 := hA16.grown hg17 hA16.size (fun q hq => by injection hq with hq; have hq : w16.heap.size = q := hq; omega)
                   have hEM17 : Ents w17 (fun q => Y q ∧ (Value.slice A17 L.length c17).ownBlock ≠ some q) A2 more.length cap2 more :=
                     ((hEG2.below C16.low (Nat.le_refl _)).below hb17 (Nat.le_refl _)).mono fun q hq => ⟨hY2 q hq, fun er => by obtain ⟨xs, ho, _⟩ := hrow17; have := (ho.lt q er).1; have : q < wh5.heap.size := hq; omega⟩)
                | (at_builtin
                   refine wpList_append_entrow _ rfl _ _ rfl w16.heap.size hb17.size Y (.slice A17 L.length c17) L hrow17 rfl A2 more.length cap2 more hEM17 rfl (fun k hk => hY1 k (Nat.le_trans hb17.size hk)) (by omega) M (by exact hMM.out) (L ++ more) rfl ?_
                   intro A18 c18 w18 hrow18 hg18
                   have hb18 : Below w16.heap.size w16 w18 := hb17.grown hg18 hb17.size (fun q hq => by obtain ⟨xs, ho, _⟩ := hrow17; exact (ho.lt q hq).1)
                   have hsl := fun W => run_frontE A18 M c18 N (by have := hrow18.cap; omega) W)
                | fail)
              clear p0 p1 o0 o1 b0 b1 b2 b3 b4 b5 r0 r1 r2
              have pa := (hb18.block _ (hlt pa)).trans pa
              have pm := (hb18.block _ (hlt pm)).trans pm
              have pb := (hb18.block _ (hlt pb)).trans pb
              have ps := (hb18.block _ (hlt ps)).trans ps
              have hb1418 := hb1416.trans (hb18.mono hb1416.size)
              have hc18 := hoE.below hb1418 (Nat.le_refl _)
              have ha18 := hrow18.ents
              rw [hMl] at ha18
              have hSa := sameR_any _ _ A14 N c14 _ A18 N c18 _ w18 hc18 (ha18.front N (by omega)) (by unfold maxLen; omega)
              rw [hlist, sameE_refl] at hSa
              have C18 := C16.below (hb18)
              clear hrow17 hrow18 hg17 hg18 hb17 hEM17 hEL16 hc18 ha18 hsl C16 hY1 hY2 hA16
              obtain ⟨⟨p0, p1⟩, _⟩ := row2 pa
              obtain ⟨⟨o0, o1⟩, _⟩ := row2 pm
              obtain ⟨⟨b0, b1, b2, b3, b4, b5⟩, _⟩ := row6 pb
              obtain ⟨⟨r0, r1, r2⟩, _⟩ := row3 ps
              go_wp2_with fail
              refine hSa.mono ?_
              rintro e w19 ⟨rfl, hb19⟩
              clear p0 p1 o0 o1 b0 b1 b2 b3 b4 b5 r0 r1 r2
              have pa := (hb19.block _ (hlt pa)).trans pa
              have pm := (hb19.block _ (hlt pm)).trans pm
              have pb := (hb19.block _ (hlt pb)).trans pb
              have ps := (hb19.block _ (hlt ps)).trans ps
              have C19 := C18.below hb19
              clear hSa hb19 C18
              obtain ⟨⟨p0, p1⟩, _⟩ := row2 pa
              obtain ⟨⟨o0, o1⟩, _⟩ := row2 pm
              obtain ⟨⟨b0, b1, b2, b3, b4, b5⟩, _⟩ := row6 pb
              obtain ⟨⟨r0, r1, r2⟩, _⟩ := row3 ps
              go_wp2
              go_ret
              exact ⟨rfl, hbw.trans (C19.low.mono hbw.size)⟩
          · have han : a = nx := ca.resolve_left hah
            have eH : (a.t == h.t && a.v == h.v) = false := by rw [hd_beq]; simp [hah]
            have eN : (a.t == nx.t && a.v == nx.v) = true := by rw [hd_beq]; simp [han]
            have z1 := neq_hardC a.t a.v h.t h.v
            have z2 := neq_hardC a.t a.v nx.t nx.v
            have z3 := eq_hardC a.t a.v nx.t nx.v
            rw [eH] at z1
            rw [eN] at z2 z3
            have q5 : (L.length < N) = False := eq_false (by omega)
            have q5i : ((L.length : Int) < (N : Int)) = False := eq_false (by omega)
            have q5d : decide (L.length < N) = false := decide_eq_false (by omega)
            have q6 : ((e10 : Int) != 0) = true := by simp; omega
            have q6b : ((e10 : Int) = 0) = False := eq_false (by omega)
            clear hah han eH eN
            have ha15 : Below w14.heap.size w14 ((w14.alloc (.cells #[.int .i64 a.t, .int .i64 a.v] 32)).alloc (.cells #[.int .i64 S.i, .int .i64 S.t, .slice Bs S.d.length bc] 35)) := ((Below.refl _ _).alloc (Nat.le_refl _) _).alloc (by simp) _
            have pa : ((w14.alloc (.cells #[.int .i64 a.t, .int .i64 a.v] 32)).alloc (.cells #[.int .i64 S.i, .int .i64 S.t, .slice Bs S.d.length bc] 35)).heap[w14.heap.size]? = some (.cells #[.int .i64 a.t, .int .i64 a.v] 32) := (Below.heap_alloc _ _ _ (by simp)).trans (heap_alloc_new _ _)
            have ps : ((w14.alloc (.cells #[.int .i64 a.t, .int .i64 a.v] 32)).alloc (.cells #[.int .i64 S.i, .int .i64 S.t, .slice Bs S.d.length bc] 35)).heap[w14.heap.size + 1]? = some (.cells #[.int .i64 S.i, .int .i64 S.t, .slice Bs S.d.length bc] 35) := heap_alloc2_new _ _ _
            have pb := (ha15.block _ (hlt b14)).trans b14
            have pm := (ha15.block _ (hlt m14)).trans m14
            have C15 := C14.below ha15
            have hS15 : Lies ((w14.alloc (.cells #[.int .i64 a.t, .int .i64 a.v] 32)).alloc (.cells #[.int .i64 S.i, .int .i64 S.t, .slice Bs S.d.length bc] 35)) B6 S.d.length c6 S.d := hlS.keep (by have := hlt pb; omega) fun h0 g off e _ => (C15.low.block g (hzS h0 g off e)).trans (hlow6.block g (hzS h0 g off e)).symm
            have hSm := sameSnapR_any S.i S.t Bs S.d.length bc S.d S.i S.t B6 S.d.length c6 S.d ((w14.alloc (.cells #[.int .i64 a.t, .int .i64 a.v] 32)).alloc (.cells #[.int .i64 S.i, .int .i64 S.t, .slice Bs S.d.length bc] 35)) (hol.below ha15 (Nat.le_refl _)) hS15
            rw [oneB_self] at hSm
            clear hS15 b14 m14
            obtain ⟨⟨p0, p1⟩, _⟩ := row2 pa
            obtain ⟨⟨o0, o1⟩, _⟩ := row2 pm
            obtain ⟨⟨b0, b1, b2, b3, b4, b5⟩, _⟩ := row6 pb
            obtain ⟨⟨r0, r1, r2⟩, _⟩ := row3 ps
            go_wp2_with fail
            refine hSm.mono ?_
            rintro e w16 ⟨rfl, hb16⟩
            clear p0 p1 o0 o1 b0 b1 b2 b3 b4 b5 r0 r1 r2
            have pa := (hb16.block _ (hlt pa)).trans pa
            have pm := (hb16.block _ (hlt pm)).trans pm
            have pb := (hb16.block _ (hlt pb)).trans pb
            have ps := (hb16.block _ (hlt ps)).trans ps
            have C16 := C15.below hb16
            have hb1416 : Below w14.heap.size w14 w16 := ha15.trans (hb16.mono ha15.size)
            clear hSm hb16 C15 ha15
            obtain ⟨⟨p0, p1⟩, _⟩ := row2 pa
            obtain ⟨⟨o0, o1⟩, _⟩ := row2 pm
            obtain ⟨⟨b0, b1, b2, b3, b4, b5⟩, _⟩ := row6 pb
            obtain ⟨⟨r0, r1, r2⟩, _⟩ := row3 ps
            have hfar := hlt pb
            obtain ⟨Y, hY⟩ : ∃ Y, Y = (fun k => k < wh5.heap.size ∨ w16.heap.size ≤ k) := ⟨_, rfl⟩
            have hY1 : ∀ k, w16.heap.size ≤ k → Y k := fun k hk => by rw [hY]; exact .inr hk
            have hY2 : ∀ k, k < wh5.heap.size → Y k := fun k hk => by rw [hY]; exact .inl hk
            have hG16 := C16.low.size
            have hA16 : Below w16.heap.size w16 (w16.alloc (.cells #[] 69)) := (Below.refl _ _).alloc (Nat.le_refl _) _
            have hEL16 : Ents (w16.alloc (.cells #[] 69)) (fun q => Y q ∧ (Value.slice (some ⟨w16.heap.size, 0, none⟩) 0 0).ownBlock ≠ some q) (some ⟨g, off, none⟩) L.length cap6 L :=
              (hEL.keep (by have := hA16.size; have := hlt pb; omega) fun q _ hq => (hA16.block q (Nat.lt_of_lt_of_le hq hG16)).trans ((C16.low.block q hq).trans (hlow6.block q hq).symm)).mono fun q hq => ⟨hY2 q hq, fun er => by injection er with er; have er : w16.heap.size = q := er; have : q < wh5.heap.size := hq; omega⟩
            go_wp2_with (first
              | (at_builtin
                 refine wpList_append_entrow _ rfl _ _ rfl w16.heap.size (by simp) Y (.slice (some ⟨w16.heap.size, 0, none⟩) 0 0) [] (EntRow.made w16 w16.heap.size (Nat.le_refl _) Y (hY1 _ (Nat.le_refl _))) rfl (some ⟨g, off, none⟩) L.length cap6 L hEL16 rfl (fun k hk => hY1 k (by simp at hk; omega)) (by simp; omega) L.length (by simp) L rfl ?_
                 intro A17 c17 w17 hrow17 hg17
                 have hb17 : Below w16.heap.size w16 w17 := hA16.grown hg17 hA16.size (fun q hq => by injection hq with hq; have hq : w16.heap.size = q := hq; omega)
                 have hEM17 : Ents w17 (fun q => Y q ∧ (Value.slice A17 L.length c17).ownBlock ≠ some q) A2 more.length cap2 more :=
                   ((hEG2.below C16.low (Nat.le_refl _)).below hb17 (Nat.le_refl _)).mono fun q hq => ⟨hY2 q hq, fun er => by obtain ⟨xs, ho, _⟩ := hrow17; have := (ho.lt q er).1; have : q < wh5.heap.size := hq; omega⟩)
              | (at_builtin
                 refine wpList_append_entrow _ rfl _ _ rfl w16.heap.size hb17.size Y (.slice A17 L.length c17) L hrow17 rfl A2 more.length cap2 more hEM17 rfl (fun k hk => hY1 k (Nat.le_trans hb17.size hk)) (by omega) M (by exact hMM.out) (L ++ more) rfl ?_
                 intro A18 c18 w18 hrow18 hg18
                 have hb18 : Below w16.heap.size w16 w18 := hb17.grown hg18 hb17.size (fun q hq => by obtain ⟨xs, ho, _⟩ := hrow17; exact (ho.lt q hq).1)
                 have hsl := fun W => run_frontE A18 M c18 N (by have := hrow18.cap; omega) W)
              | fail)
            clear p0 p1 o0 o1 b0 b1 b2 b3 b4 b5 r0 r1 r2
            have pa := (hb18.block _ (hlt pa)).trans pa
            have pm := (hb18.block _ (hlt pm)).trans pm
            have pb := (hb18.block _ (hlt pb)).trans pb
            have ps := (hb18.block _ (hlt ps)).trans ps
            have hb1418 := hb1416.trans (hb18.mono hb1416.size)
            have hc18 := hoE.below hb1418 (Nat.le_refl _)
            have ha18 := hrow18.ents
            rw [hMl] at ha18
            have hSa := sameR_any _ _ A14 N c14 _ A18 N c18 _ w18 hc18 (ha18.front N (by omega)) (by unfold maxLen; omega)
            rw [hlist, sameE_refl] at hSa
            have C18 := C16.below (hb18)
            clear hrow17 hrow18 hg17 hg18 hb17 hEM17 hEL16 hc18 ha18 hsl C16 hY1 hY2 hA16
            obtain ⟨⟨p0, p1⟩, _⟩ := row2 pa
            obtain ⟨⟨o0, o1⟩, _⟩ := row2 pm
            obtain ⟨⟨b0, b1, b2, b3, b4, b5⟩, _⟩ := row6 pb
            obtain ⟨⟨r0, r1, r2⟩, _⟩ := row3 ps
            go_wp2_with fail
            refine hSa.mono ?_
            rintro e w19 ⟨rfl, hb19⟩
            clear p0 p1 o0 o1 b0 b1 b2 b3 b4 b5 r0 r1 r2
            have pa := (hb19.block _ (hlt pa)).trans pa
            have pm := (hb19.block _ (hlt pm)).trans pm
            have pb := (hb19.block _ (hlt pb)).trans pb
            have ps := (hb19.block _ (hlt ps)).trans ps
            have C19 := C18.below hb19
            clear hSa hb19 C18
            obtain ⟨⟨p0, p1⟩, _⟩ := row2 pa
            obtain ⟨⟨o0, o1⟩, _⟩ := row2 pm
            obtain ⟨⟨b0, b1, b2, b3, b4, b5⟩, _⟩ := row6 pb
            obtain ⟨⟨r0, r1, r2⟩, _⟩ := row3 ps
            go_wp2
            go_ret
            exact ⟨rfl, hbw.trans (C19.low.mono hbw.size)⟩
        · have han := cja (by omega)
          clear cja ca
          by_cases hah : a = h
          · have eH : (a.t == h.t && a.v == h.v) = true := by rw [hd_beq]; simp [hah]
            have eN : (a.t == nx.t && a.v == nx.v) = true := by rw [hd_beq]; simp [han]
            have z1 := neq_hardC a.t a.v h.t h.v
            have z2 := neq_hardC a.t a.v nx.t nx.v
            have z3 := eq_hardC a.t a.v nx.t nx.v
            rw [eH] at z1
            rw [eN] at z2 z3
            have q5 : (L.length < N) = True := eq_true (by omega)
            have q5i : ((L.length : Int) < (N : Int)) = True := eq_true (by omega)
            have q5d : decide (L.length < N) = true := decide_eq_true (by omega)
            have q6 : ((e10 : Int) != 0) = true := by simp; omega
            have q6b : ((e10 : Int) = 0) = False := eq_false (by omega)
            clear hah han eH eN
            have ha15 : Below w14.heap.size w14 ((w14.alloc (.cells #[.int .i64 a.t, .int .i64 a.v] 32)).alloc (.cells #[.int .i64 S.i, .int .i64 S.t, .slice Bs S.d.length bc] 35)) := ((Below.refl _ _).alloc (Nat.le_refl _) _).alloc (by simp) _
            have pa : ((w14.alloc (.cells #[.int .i64 a.t, .int .i64 a.v] 32)).alloc (.cells #[.int .i64 S.i, .int .i64 S.t, .slice Bs S.d.length bc] 35)).heap[w14.heap.size]? = some (.cells #[.int .i64 a.t, .int .i64 a.v] 32) := (Below.heap_alloc _ _ _ (by simp)).trans (heap_alloc_new _ _)
            have ps : ((w14.alloc (.cells #[.int .i64 a.t, .int .i64 a.v] 32)).alloc (.cells #[.int .i64 S.i, .int .i64 S.t, .slice Bs S.d.length bc] 35)).heap[w14.heap.size + 1]? = some (.cells #[.int .i64 S.i, .int .i64 S.t, .slice Bs S.d.length bc] 35) := heap_alloc2_new _ _ _
            have pb := (ha15.block _ (hlt b14)).trans b14
            have pm := (ha15.block _ (hlt m14)).trans m14
            have C15 := C14.below ha15
            have hS15 : Lies ((w14.alloc (.cells #[.int .i64 a.t, .int .i64 a.v] 32)).alloc (.cells #[.int .i64 S.i, .int .i64 S.t, .slice Bs S.d.length bc] 35)) B6 S.d.length c6 S.d := hlS.keep (by have := hlt pb; omega) fun h0 g off e _ => (C15.low.block g (hzS h0 g off e)).trans (hlow6.block g (hzS h0 g off e)).symm
            have hSm := sameSnapR_any S.i S.t Bs S.d.length bc S.d S.i S.t B6 S.d.length c6 S.d ((w14.alloc (.cells #[.int .i64 a.t, .int .i64 a.v] 32)).alloc (.cells #[.int .i64 S.i, .int .i64 S.t, .slice Bs S.d.length bc] 35)) (hol.below ha15 (Nat.le_refl _)) hS15
            rw [oneB_self] at hSm
            clear hS15 b14 m14
            obtain ⟨⟨p0, p1⟩, _⟩ := row2 pa
            obtain ⟨⟨o0, o1⟩, _⟩ := row2 pm
            obtain ⟨⟨b0, b1, b2, b3, b4, b5⟩, _⟩ := row6 pb
            obtain ⟨⟨r0, r1, r2⟩, _⟩ := row3 ps
            go_wp2_with fail
            refine hSm.mono ?_
            rintro e w16 ⟨rfl, hb16⟩
            clear p0 p1 o0 o1 b0 b1 b2 b3 b4 b5 r0 r1 r2
            have pa := (hb16.block _ (hlt pa)).trans pa
            have pm := (hb16.block _ (hlt pm)).trans pm
            have pb := (hb16.block _ (hlt pb)).trans pb
            have ps := (hb16.block _ (hlt ps)).trans ps
            have C16 := C15.below hb16
            have hb1416 : Below w14.heap.size w14 w16 := ha15.trans (hb16.mono ha15.size)
            clear hSm hb16 C15 ha15
            obtain ⟨⟨p0, p1⟩, _⟩ := row2 pa
            obtain ⟨⟨o0, o1⟩, _⟩ := row2 pm
            obtain ⟨⟨b0, b1, b2, b3, b4, b5⟩, _⟩ := row6 pb
            obtain ⟨⟨r0, r1, r2⟩, _⟩ := row3 ps
            have hfar := hlt pb
            obtain ⟨Y, hY⟩ : ∃ Y, Y = (fun k => k < wh5.heap.size ∨ w16.heap.size ≤ k) := ⟨_, rfl⟩
            have hY1 : ∀ k, w16.heap.size ≤ k → Y k := fun k hk => by rw [hY]; exact .inr hk
            have hY2 : ∀ k, k < wh5.heap.size → Y k := fun k hk => by rw [hY]; exact .inl hk
            have hG16 := C16.low.size
            have hA16 : Below w16.heap.size w16 (w16.alloc (.cells #[] 69)) := (Below.refl _ _).alloc (Nat.le_refl _) _
            have hEL16 : Ents (w16.alloc (.cells #[] 69)) (fun q => Y q ∧ (Value.slice (some ⟨w16.heap.size, 0, none⟩) 0 0).ownBlock ≠ some q) (some ⟨g, off, none⟩) L.length cap6 L :=
              (hEL.keep (by have := hA16.size; have := hlt pb; omega) fun q _ hq => (hA16.block q (Nat.lt_of_lt_of_le hq hG16)).trans ((C16.low.block q hq).trans (hlow6.block q hq).symm)).mono fun q hq => ⟨hY2 q hq, fun er => by injection er with er; have er : w16.heap.size = q := er; have : q < wh5.heap.size := hq; omega⟩
            go_wp2_with (first
              | (at_builtin
                 refine wpList_append_entrow _ rfl _ _ rfl w16.heap.size (by simp) Y (.slice (some ⟨w16.heap.size, 0, none⟩) 0 0) [] (EntRow.made w16 w16.heap.size (Nat.le_refl _) Y (hY1 _ (Nat.le_refl _))) rfl (some ⟨g, off, none⟩) L.length cap6 L hEL16 rfl (fun k hk => hY1 k (by simp at hk; omega)) (by simp; omega) L.length (by simp) L rfl ?_
                 intro A17 c17 w17 hrow17 hg17
                 have hb17 : Below w16.heap.size w16 w17 := hA16.grown hg17 hA16.size (fun q hq => by injection hq with hq; have hq : w16.heap.size = q := hq; omega)
                 have hEM17 : Ents w17 (fun q => Y q ∧ (Value.slice A17 L.length c17).ownBlock ≠ some q) A2 more.length cap2 more :=
                   ((hEG2.below C16.low (Nat.le_refl _)).below hb17 (Nat.le_refl _)).mono fun q hq => ⟨hY2 q hq, fun er => by obtain ⟨xs, ho, _⟩ := hrow17; have := (ho.lt q er).1; have : q < wh5.heap.size := hq; omega⟩)
              | (at_builtin
                 refine wpList_append_entrow _ rfl _ _ rfl w16.heap.size hb17.size Y (.slice A17 L.length c17) L hrow17 rfl A2 more.length cap2 more hEM17 rfl (fun k hk => hY1 k (Nat.le_trans hb17.size hk)) (by omega) M (by exact hMM.out) (L ++ more) rfl ?_
                 intro A18 c18 w18 hrow18 hg18
                 have hb18 : Below w16.heap.size w16 w18 := hb17.grown hg18 hb17.size (fun q hq => by obtain ⟨xs, ho, _⟩ := hrow17; exact (ho.lt q hq).1)
                 have hsl := fun W => run_frontE A18 M c18 N (by have := hrow18.cap; omega) W)
              | fail)
            clear p0 p1 o0 o1 b0 b1 b2 b3 b4 b5 r0 r1 r2
            have pa := (hb18.block _ (hlt pa)).trans pa
            have pm := (hb18.block _ (hlt pm)).trans pm
            have pb := (hb18.block _ (hlt pb)).trans pb
            have ps := (hb18.block _ (hlt ps)).trans ps
            have hb1418 := hb1416.trans (hb18.mono hb1416.size)
            have hc18 := hoE.below hb1418 (Nat.le_refl _)
            have ha18 := hrow18.ents
            rw [hMl] at ha18
            have hSa := sameR_any _ _ A14 N c14 _ A18 N c18 _ w18 hc18 (ha18.front N (by omega)) (by unfold maxLen; omega)
            rw [hlist, sameE_refl] at hSa
            have C18 := C16.below (hb18)
            clear hrow17 hrow18 hg17 hg18 hb17 hEM17 hEL16 hc18 ha18 hsl C16 hY1 hY2 hA16
            obtain ⟨⟨p0, p1⟩, _⟩ := row2 pa
            obtain ⟨⟨o0, o1⟩, _⟩ := row2 pm
            obtain ⟨⟨b0, b1, b2, b3, b4, b5⟩, _⟩ := row6 pb
            obtain ⟨⟨r0, r1, r2⟩, _⟩ := row3 ps
            go_wp2_with fail
            refine hSa.mono ?_
            rintro e w19 ⟨rfl, hb19⟩
            clear p0 p1 o0 o1 b0 b1 b2 b3 b4 b5 r0 r1 r2
            have pa := (hb19.block _ (hlt pa)).trans pa
            have pm := (hb19.block _ (hlt pm)).trans pm
            have pb := (hb19.block _ (hlt pb)).trans pb
            have ps := (hb19.block _ (hlt ps)).trans ps
            have C19 := C18.below hb19
            clear hSa hb19 C18
            obtain ⟨⟨p0, p1⟩, _⟩ := row2 pa
            obtain ⟨⟨o0, o1⟩, _⟩ := row2 pm
            obtain ⟨⟨b0, b1, b2, b3, b4, b5⟩, _⟩ := row6 pb
            obtain ⟨⟨r0, r1, r2⟩, _⟩ := row3 ps
            go_wp2
            go_ret
            exact ⟨rfl, hbw.trans (C19.low.mono hbw.size)⟩
          · have eH : (a.t == h.t && a.v == h.v) = false := by rw [hd_beq]; simp [hah]
            have eN : (a.t == nx.t && a.v == nx.v) = true := by rw [hd_beq]; simp [han]
            have z1 := neq_hardC a.t a.v h.t h.v
            have z2 := neq_hardC a.t a.v nx.t nx.v
            have z3 := eq_hardC a.t a.v nx.t nx.v
            rw [eH] at z1
            rw [eN] at z2 z3
            have q5 : (L.length < N) = True := eq_true (by omega)
            have q5i : ((L.length : Int) < (N : Int)) = True := eq_true (by omega)
            have q5d : decide (L.length < N) = true := decide_eq_true (by omega)
            have q6 : ((e10 : Int) != 0) = true := by simp; omega
            have q6b : ((e10 : Int) = 0) = False := eq_false (by omega)
            clear hah han eH eN
            have ha15 : Below w14.heap.size w14 ((w14.alloc (.cells #[.int .i64 a.t, .int .i64 a.v] 32)).alloc (.cells #[.int .i64 S.i, .int .i64 S.t, .slice Bs S.d.length bc] 35)) := ((Below.refl _ _).alloc (Nat.le_refl _) _).alloc (by simp) _
            have pa : ((w14.alloc (.cells #[.int .i64 a.t, .int .i64 a.v] 32)).alloc (.cells #[.int .i64 S.i, .int .i64 S.t, .slice Bs S.d.length bc] 35)).heap[w14.heap.size]? = some (.cells #[.int .i64 a.t, .int .i64 a.v] 32) := (Below.heap_alloc _ _ _ (by simp)).trans (heap_alloc_new _ _)
            have ps : ((w14.alloc (.cells #[.int .i64 a.t, .int .i64 a.v] 32)).alloc (.cells #[.int .i64 S.i, .int .i64 S.t, .slice Bs S.d.length bc] 35)).heap[w14.heap.size + 1]? = some (.cells #[.int .i64 S.i, .int .i64 S.t, .slice Bs S.d.length bc] 35) := heap_alloc2_new _ _ _
            have pb := (ha15.block _ (hlt b14)).trans b14
            have pm := (ha15.block _ (hlt m14)).trans m14
            have C15 := C14.below ha15
            have hS15 : Lies ((w14.alloc (.cells #[.int .i64 a.t, .int .i64 a.v] 32)).alloc (.cells #[.int .i64 S.i, .int .i64 S.t, .slice Bs S.d.length bc] 35)) B6 S.d.length c6 S.d := hlS.keep (by have := hlt pb; omega) fun h0 g off e _ => (C15.low.block g (hzS h0 g off e)).trans (hlow6.block g (hzS h0 g off e)).symm
            have hSm := sameSnapR_any S.i S.t Bs S.d.length bc S.d S.i S.t B6 S.d.length c6 S.d ((w14.alloc (.cells #[.int .i64 a.t, .int .i64 a.v] 32)).alloc (.cells #[.int .i64 S.i, .int .i64 S.t, .slice Bs S.d.length bc] 35)) (hol.below ha15 (Nat.le_refl _)) hS15
            rw [oneB_self] at hSm
            clear hS15 b14 m14
            obtain ⟨⟨p0, p1⟩, _⟩ := row2 pa
            obtain ⟨⟨o0, o1⟩, _⟩ := row2 pm
            obtain ⟨⟨b0, b1, b2, b3, b4, b5⟩, _⟩ := row6 pb
            obtain ⟨⟨r0, r1, r2⟩, _⟩ := row3 ps
            go_wp2_with fail
            refine hSm.mono ?_
            rintro e w16 ⟨rfl, hb16⟩
            clear p0 p1 o0 o1 b0 b1 b2 b3 b4 b5 r0 r1 r2
            have pa := (hb16.block _ (hlt pa)).trans pa
            have pm := (hb16.block _ (hlt pm)).trans pm
            have pb := (hb16.block _ (hlt pb)).trans pb
            have ps := (hb16.block _ (hlt ps)).trans ps
            have C16 := C15.below hb16
            have hb1416 : Below w14.heap.size w14 w16 := ha15.trans (hb16.mono ha15.size)
            clear hSm hb16 C15 ha15
            obtain ⟨⟨p0, p1⟩, _⟩ := row2 pa
            obtain ⟨⟨o0, o1⟩, _⟩ := row2 pm
            obtain ⟨⟨b0, b1, b2, b3, b4, b5⟩, _⟩ := row6 pb
            obtain ⟨⟨r0, r1, r2⟩, _⟩ := row3 ps
            have hfar := hlt pb
            obtain ⟨Y, hY⟩ : ∃ Y, Y = (fun k => k < wh5.heap.size ∨ w16.heap.size ≤ k) := ⟨_, rfl⟩
            have hY1 : ∀ k, w16.heap.size ≤ k → Y k := fun k hk => by rw [hY]; exact .inr hk
            have hY2 : ∀ k, k < wh5.heap.size → Y k := fun k hk => by rw [hY]; exact .inl hk
            have hG16 := C16.low.size
            have hA16 : Below w16.heap.size w16 (w16.alloc (.cells #[] 69)) := (Below.refl _ _).alloc (Nat.le_refl _) _
            have hEL16 : Ents (w16.alloc (.cells #[] 69)) (fun q => Y q ∧ (Value.slice (some ⟨w16.heap.size, 0, none⟩) 0 0).ownBlock ≠ some q) (some ⟨g, off, none⟩) L.length cap6 L :=
              (hEL.keep (by have := hA16.size; have := hlt pb; omega) fun q _ hq => (hA16.block q (Nat.lt_of_lt_of_le hq hG16)).trans ((C16.low.block q hq).trans (hlow6.block q hq).symm)).mono fun q hq => ⟨hY2 q hq, fun er => by injection er with er; have er : w16.heap.size = q := er; have : q < wh5.heap.size := hq; omega⟩
            go_wp2_with (first
              | (at_builtin
                 refine wpList_append_entrow _ rfl _ _ rfl w16.heap.size (by simp) Y (.slice (some ⟨w16.heap.size, 0, none⟩) 0 0) [] (EntRow.made w16 w16.heap.size (Nat.le_refl _) Y (hY1 _ (Nat.le_refl _))) rfl (some ⟨g, off, none⟩) L.length cap6 L hEL16 rfl (fun k hk => hY1 k (by simp at hk; omega)) (by simp; omega) L.length (by simp) L rfl ?_
                 intro A17 c17 w17 hrow17 hg17
                 have hb17 : Below w16.heap.size w16 w17 := hA16.grown hg17 hA16.size (fun q hq => by injection hq with hq; have hq : w16.heap.size = q := hq; omega)
                 have hEM17 : Ents w17 (fun q => Y q ∧ (Value.slice A17 L.length c17).ownBlock ≠ some q) A2 more.length cap2 more :=
                   ((hEG2.below C16.low (Nat.le_refl _)).below hb17 (Nat.le_refl _)).mono fun q hq => ⟨hY2 q hq, fun er => by obtain ⟨xs, ho, _⟩ := hrow17; have := (ho.lt q er).1; have : q < wh5.heap.size := hq; omega⟩)
              | (at_builtin
                 refine wpList_append_entrow _ rfl _ _ rfl w16.heap.size hb17.size Y (.slice A17 L.length c17) L hrow17 rfl A2 more.length cap2 more hEM17 rfl (fun k hk => hY1 k (Nat.le_trans hb17.size hk)) (by omega) M (by exact hMM.out) (L ++ more) rfl ?_
                 intro A18 c18 w18 hrow18 hg18
                 have hb18 : Below w16.heap.size w16 w18 := hb17.grown hg18 hb17.size (fun q hq => by obtain ⟨xs, ho, _⟩ := hrow17; exact (ho.lt q hq).1)
                 have hsl := fun W => run_frontE A18 M c18 N (by have := hrow18.cap; omega) W)
              | fail)
            clear p0 p1 o0 o1 b0 b1 b2 b3 b4 b5 r0 r1 r2
            have pa := (hb18.block _ (hlt pa)).trans pa
            have pm := (hb18.block _ (hlt pm)).trans pm
            have pb := (hb18.block _ (hlt pb)).trans pb
            have ps := (hb18.block _ (hlt ps)).trans ps
            have hb1418 := hb1416.trans (hb18.mono hb1416.size)
            have hc18 := hoE.below hb1418 (Nat.le_refl _)
            have ha18 := hrow18.ents
            rw [hMl] at ha18
            have hSa := sameR_any _ _ A14 N c14 _ A18 N c18 _ w18 hc18 (ha18.front N (by omega)) (by unfold maxLen; omega)
            rw [hlist, sameE_refl] at hSa
            have C18 := C16.below (hb18)
            clear hrow17 hrow18 hg17 hg18 hb17 hEM17 hEL16 hc18 ha18 hsl C16 hY1 hY2 hA16
            obtain ⟨⟨p0, p1⟩, _⟩ := row2 pa
            obtain ⟨⟨o0, o1⟩, _⟩ := row2 pm
            obtain ⟨⟨b0, b1, b2, b3, b4, b5⟩, _⟩ := row6 pb
            obtain ⟨⟨r0, r1, r2⟩, _⟩ := row3 ps
            go_wp2_with fail
            refine hSa.mono ?_
            rintro e w19 ⟨rfl, hb19⟩
            clear p0 p1 o0 o1 b0 b1 b2 b3 b4 b5 r0 r1 r2
            have pa := (hb19.block _ (hlt pa)).trans pa
            have pm := (hb19.block _ (hlt pm)).trans pm
            have pb := (hb19.block _ (hlt pb)).trans pb
            have ps := (hb19.block _ (hlt ps)).trans ps
            have C19 := C18.below hb19
            clear hSa hb19 C18
            obtain ⟨⟨p0, p1⟩, _⟩ := row2 pa
            obtain ⟨⟨o0, o1⟩, _⟩ := row2 pm
            obtain ⟨⟨b0, b1, b2, b3, b4, b5⟩, _⟩ := row6 pb
            obtain ⟨⟨r0, r1, r2⟩, _⟩ := row3 ps
            go_wp2
            go_ret
            exact ⟨rfl, hbw.trans (C19.low.mono hbw.size)⟩
end Go.Proofs.YtmeoooojmhhahaaGreat.vauSaves
