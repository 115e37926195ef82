/- VaultGoesOn's walk, where it asks nothing. (Written by mkgo.py.) -/
import Derived.Test.YtmeoooojmhhahaaGreatVauGoA
import Derived.Deep.QuietTactic
import Derived.Deep.LoopGhost
import Derived.Outline
import Derived.Deep.Cut
import Derived.Deep.DeepCutAuto
namespace Go.Proofs.YtmeoooojmhhahaaGreat.vauGoesOn
open Go.ChangeShapes Go.WideShapes Go.ChangeAt Go.RowKit Go.Proofs.YtmeoooojmhhahaaGreat
set_option linter.unusedVariables false
set_option linter.unusedSimpArgs false

set_option maxRecDepth 100000 in
set_option maxHeartbeats 16000000 in
theorem walk_no (h : Hd) (A : Option Addr) (cap : Nat) (l : List Ent) (nx : Hd) (si st : Int) (sd : List UInt8) (B : Option Addr) (c : Nat) (fz : Nat) (A3 : Option Addr) (len3 cap3 : Nat) (term : Int) (my : Nat) (W : World) (hl : Lies W B sd.length c sd) (hE : Ents W (· < W.heap.size) A l.length cap l) (hm1 : l.length ≤ maxLen) (hd1 : ∀ e ∈ l, e.d.length ≤ 140737488355328)
    (hno : (fewE l 10 = false) ∨ (fewE l 10 = true ∧ 2000 < sd.length) ∨ (fewE l 10 = true ∧ sd.length ≤ 2000 ∧ 9 < len3) ∨ (fewE l 10 = true ∧ sd.length ≤ 2000 ∧ len3 ≤ 9 ∧ hardB h.t h.v = false) ∨ (fewE l 10 = true ∧ sd.length ≤ 2000 ∧ len3 ≤ 9 ∧ hardB h.t h.v = true ∧ hardB nx.t nx.v = false) ∨ (fewE l 10 = true ∧ sd.length ≤ 2000 ∧ len3 ≤ 9 ∧ hardB h.t h.v = true ∧ hardB nx.t nx.v = true ∧ snapB si st sd.length = false) ∨ (fewE l 10 = true ∧ sd.length ≤ 2000 ∧ len3 ≤ 9 ∧ hardB h.t h.v = true ∧ hardB nx.t nx.v = true ∧ snapB si st sd.length = true ∧ si = 0) ∨ (fewE l 10 = true ∧ sd.length ≤ 2000 ∧ len3 ≤ 9 ∧ hardB h.t h.v = true ∧ hardB nx.t nx.v = true ∧ snapB si st sd.length = true ∧ si ≠ 0 ∧ 549755813888 < si)) :
    Calls Tryz.prog 8 #[.agg #[.int .i64 h.t, .int .i64 h.v], .slice A l.length cap, .agg #[.int .i64 nx.t, .int .i64 nx.v], entV si st B sd.length c, .int .u8 (fz : Int), .slice A3 len3 cap3, .int .i64 term, .int .u8 (my : Int)] W fun e w' => e = .returned (.bool true) ∧ Below W.heap.size W w' := by
  have hb0 : Below W.heap.size W (((W.alloc (.cells #[.int .i64 h.t, .int .i64 h.v] 32)).alloc (.cells #[.int .i64 nx.t, .int .i64 nx.v] 32)).alloc (.cells #[.int .i64 si, .int .i64 st, .slice B sd.length c] 35)) := (((Below.refl _ _).alloc (Nat.le_refl _) _).alloc (by simp) _).alloc (by simp; omega) _
  have m0 : (((W.alloc (.cells #[.int .i64 h.t, .int .i64 h.v] 32)).alloc (.cells #[.int .i64 nx.t, .int .i64 nx.v] 32)).alloc (.cells #[.int .i64 si, .int .i64 st, .slice B sd.length c] 35)).heap[W.heap.size]? = some (.cells #[.int .i64 h.t, .int .i64 h.v] 32) := (Below.heap_alloc _ _ _ (by simp; omega)).trans ((Below.heap_alloc _ _ _ (by simp)).trans (heap_alloc_new _ _))
  have m1 : (((W.alloc (.cells #[.int .i64 h.t, .int .i64 h.v] 32)).alloc (.cells #[.int .i64 nx.t, .int .i64 nx.v] 32)).alloc (.cells #[.int .i64 si, .int .i64 st, .slice B sd.length c] 35)).heap[W.heap.size + 1]? = some (.cells #[.int .i64 nx.t, .int .i64 nx.v] 32) := (Below.heap_alloc _ _ _ (by simp)).trans (heap_alloc2_new _ _ _)
  have m2 : (((W.alloc (.cells #[.int .i64 h.t, .int .i64 h.v] 32)).alloc (.cells #[.int .i64 nx.t, .int .i64 nx.v] 32)).alloc (.cells #[.int .i64 si, .int .i64 st, .slice B sd.length c] 35)).heap[W.heap.size + 1 + 1]? = some (.cells #[.int .i64 si, .int .i64 st, .slice B sd.length c] 35) := by
    have := heap_alloc_new ((W.alloc (.cells #[.int .i64 h.t, .int .i64 h.v] 32)).alloc (.cells #[.int .i64 nx.t, .int .i64 nx.v] 32)) (.cells #[.int .i64 si, .int .i64 st, .slice B sd.length c] 35)
    simp only [World.size_alloc] at this
    exact this
  have hF1 := fun w1 (hb : Below W.heap.size W w1) => fewR_any _ A l.length cap l 10 w1 (hE.below hb (Nat.le_refl _)) hm1 (by omega) hd1
  have hRH := fun W => hardR_is h.t h.v W
  have hRN := fun W => hardR_is nx.t nx.v W
  have hSP := fun W => snapR_is si st B sd.length c W
  clear hl hE hm1 hd1
  rcases hno with hno | hno | hno | hno | hno | hno | hno | hno
  · have q1 := hno
    rw [q1] at hF1
    clear q1
    go_enter Tryz.func8, Tryz.ntmps8
    go_wp2_with fail
    refine (awake10_any _).mono ?_
    rintro e w1 ⟨rfl, hb1⟩
    have hbw := hb0.trans (hb1.mono hb0.size)
    have m0 := (hb1.block _ (hlt m0)).trans m0
    have m1 := (hb1.block _ (hlt m1)).trans m1
    have m2 := (hb1.block _ (hlt m2)).trans m2
    obtain ⟨⟨y0, y1, y2⟩, _⟩ := row3 m2
    clear hb1 hb0
    have hFx := hF1 _ hbw
    go_wp2_with fail
    refine hFx.mono ?_
    rintro e wq ⟨rfl, rfl⟩
    clear hFx
    go_wp2_with fail
    refine (awake10_any _).mono ?_
    rintro e w3 ⟨rfl, hb3⟩
    go_wp2
    go_ret
    exact ⟨rfl, hbw.trans (hb3.mono hbw.size)⟩
  · obtain ⟨q1, q2⟩ := hno
    rw [q1] at hF1
    have hc : ((2000 : Int) < (sd.length : Int)) = True := eq_true (by omega)
    clear q1 q2
    go_enter Tryz.func8, Tryz.ntmps8
    go_wp2_with fail
    refine (awake10_any _).mono ?_
    rintro e w1 ⟨rfl, hb1⟩
    have hbw := hb0.trans (hb1.mono hb0.size)
    have m0 := (hb1.block _ (hlt m0)).trans m0
    have m1 := (hb1.block _ (hlt m1)).trans m1
    have m2 := (hb1.block _ (hlt m2)).trans m2
    obtain ⟨⟨y0, y1, y2⟩, _⟩ := row3 m2
    clear hb1 hb0
    have hFx := hF1 _ hbw
    go_wp2_with fail
    refine hFx.mono ?_
    rintro e wq ⟨rfl, rfl⟩
    clear hFx
    go_wp2_with fail
    refine (awake10_any _).mono ?_
    rintro e w3 ⟨rfl, hb3⟩
    go_wp2
    go_ret
    exact ⟨rfl, hbw.trans (hb3.mono hbw.size)⟩
  · obtain ⟨q1, q2, q3⟩ := hno
    rw [q1] at hF1
    have hc : ((2000 : Int) < (sd.length : Int)) = False := eq_false (by omega)
    have hk9 : ((9 : Int) < (len3 : Int)) = True := eq_true (by omega)
    clear q1 q2 q3
    go_enter Tryz.func8, Tryz.ntmps8
    go_wp2_with fail
    refine (awake10_any _).mono ?_
    rintro e w1 ⟨rfl, hb1⟩
    have hbw := hb0.trans (hb1.mono hb0.size)
    have m0 := (hb1.block _ (hlt m0)).trans m0
    have m1 := (hb1.block _ (hlt m1)).trans m1
    have m2 := (hb1.block _ (hlt m2)).trans m2
    obtain ⟨⟨y0, y1, y2⟩, _⟩ := row3 m2
    clear hb1 hb0
    have hFx := hF1 _ hbw
    go_wp2_with fail
    refine hFx.mono ?_
    rintro e wq ⟨rfl, rfl⟩
    clear hFx
    go_wp2_with fail
    refine (awake10_any _).mono ?_
    rintro e w3 ⟨rfl, hb3⟩
    go_wp2
    go_ret
    exact ⟨rfl, hbw.trans (hb3.mono hbw.size)⟩
  · obtain ⟨q1, q2, q3, q4⟩ := hno
    rw [q1] at hF1
    have hc : ((2000 : Int) < (sd.length : Int)) = False := eq_false (by omega)
    have hk9 : ((9 : Int) < (len3 : Int)) = False := eq_false (by omega)
    rw [q4] at hRH
    clear q1 q2 q3 q4
    go_enter Tryz.func8, Tryz.ntmps8
    go_wp2_with fail
    refine (awake10_any _).mono ?_
    rintro e w1 ⟨rfl, hb1⟩
    have hbw := hb0.trans (hb1.mono hb0.size)
    have m0 := (hb1.block _ (hlt m0)).trans m0
    have m1 := (hb1.block _ (hlt m1)).trans m1
    have m2 := (hb1.block _ (hlt m2)).trans m2
    obtain ⟨⟨y0, y1, y2⟩, _⟩ := row3 m2
    clear hb1 hb0
    have hFx := hF1 _ hbw
    go_wp2_with fail
    refine hFx.mono ?_
    rintro e wq ⟨rfl, rfl⟩
    clear hFx
    obtain ⟨⟨x0, x1⟩, _⟩ := row2 m0
    go_wp2_with fail
    refine (hRH _).mono ?_
    rintro e wh4 ⟨rfl, hbx⟩
    have hbw := hbw.trans (hbx.mono hbw.size)
    clear x0 x1
    have m0 := (hbx.block _ (hlt m0)).trans m0
    have m1 := (hbx.block _ (hlt m1)).trans m1
    have m2 := (hbx.block _ (hlt m2)).trans m2
    clear hbx y0 y1 y2
    obtain ⟨⟨y0, y1, y2⟩, _⟩ := row3 m2
    go_wp2_with fail
    refine (awake10_any _).mono ?_
    rintro e w3 ⟨rfl, hb3⟩
    go_wp2
    go_ret
    exact ⟨rfl, hbw.trans (hb3.mono hbw.size)⟩
  · obtain ⟨q1, q2, q3, q4, q5⟩ := hno
    rw [q1] at hF1
    have hc : ((2000 : Int) < (sd.length : Int)) = False := eq_false (by omega)
    have hk9 : ((9 : Int) < (len3 : Int)) = False := eq_false (by omega)
    rw [q4] at hRH
    rw [q5] at hRN
    clear q1 q2 q3 q4 q5
    go_enter Tryz.func8, Tryz.ntmps8
    go_wp2_with fail
    refine (awake10_any _).mono ?_
    rintro e w1 ⟨rfl, hb1⟩
    have hbw := hb0.trans (hb1.mono hb0.size)
    have m0 := (hb1.block _ (hlt m0)).trans m0
    have m1 := (hb1.block _ (hlt m1)).trans m1
    have m2 := (hb1.block _ (hlt m2)).trans m2
    obtain ⟨⟨y0, y1, y2⟩, _⟩ := row3 m2
    clear hb1 hb0
    have hFx := hF1 _ hbw
    go_wp2_with fail
    refine hFx.mono ?_
    rintro e wq ⟨rfl, rfl⟩
    clear hFx
    obtain ⟨⟨x0, x1⟩, _⟩ := row2 m0
    go_wp2_with fail
    refine (hRH _).mono ?_
    rintro e wh4 ⟨rfl, hbx⟩
    have hbw := hbw.trans (hbx.mono hbw.size)
    clear x0 x1
    have m0 := (hbx.block _ (hlt m0)).trans m0
    have m1 := (hbx.block _ (hlt m1)).trans m1
    have m2 := (hbx.block _ (hlt m2)).trans m2
    clear hbx y0 y1 y2
    obtain ⟨⟨y0, y1, y2⟩, _⟩ := row3 m2
    obtain ⟨⟨x0, x1⟩, _⟩ := row2 m1
    go_wp2_with fail
    refine (hRN _).mono ?_
    rintro e wh5 ⟨rfl, hbx⟩
    have hbw := hbw.trans (hbx.mono hbw.size)
    clear x0 x1
    have m0 := (hbx.block _ (hlt m0)).trans m0
    have m1 := (hbx.block _ (hlt m1)).trans m1
    have m2 := (hbx.block _ (hlt m2)).trans m2
    clear hbx y0 y1 y2
    obtain ⟨⟨y0, y1, y2⟩, _⟩ := row3 m2
    go_wp2_with fail
    refine (awake10_any _).mono ?_
    rintro e w3 ⟨rfl, hb3⟩
    go_wp2
    go_ret
    exact ⟨rfl, hbw.trans (hb3.mono hbw.size)⟩
  · obtain ⟨q1, q2, q3, q4, q5, q6⟩ := hno
    rw [q1] at hF1
    have hc : ((2000 : Int) < (sd.length : Int)) = False := eq_false (by omega)
    have hk9 : ((9 : Int) < (len3 : Int)) = False := eq_false (by omega)
    rw [q4] at hRH
    rw [q5] at hRN
    rw [q6] at hSP
    clear q1 q2 q3 q4 q5 q6
    go_enter Tryz.func8, Tryz.ntmps8
    go_wp2_with fail
    refine (awake10_any _).mono ?_
    rintro e w1 ⟨rfl, hb1⟩
    have hbw := hb0.trans (hb1.mono hb0.size)
    have m0 := (hb1.block _ (hlt m0)).trans m0
    have m1 := (hb1.block _ (hlt m1)).trans m1
    have m2 := (hb1.block _ (hlt m2)).trans m2
    obtain ⟨⟨y0, y1, y2⟩, _⟩ := row3 m2
    clear hb1 hb0
    have hFx := hF1 _ hbw
    go_wp2_with fail
    refine hFx.mono ?_
    rintro e wq ⟨rfl, rfl⟩
    clear hFx
    obtain ⟨⟨x0, x1⟩, _⟩ := row2 m0
    go_wp2_with fail
    refine (hRH _).mono ?_
    rintro e wh4 ⟨rfl, hbx⟩
    have hbw := hbw.trans (hbx.mono hbw.size)
    clear x0 x1
    have m0 := (hbx.block _ (hlt m0)).trans m0
    have m1 := (hbx.block _ (hlt m1)).trans m1
    have m2 := (hbx.block _ (hlt m2)).trans m2
    clear hbx y0 y1 y2
    obtain ⟨⟨y0, y1, y2⟩, _⟩ := row3 m2
    obtain ⟨⟨x0, x1⟩, _⟩ := row2 m1
    go_wp2_with fail
    refine (hRN _).mono ?_
    rintro e wh5 ⟨rfl, hbx⟩
    have hbw := hbw.trans (hbx.mono hbw.size)
    clear x0 x1
    have m0 := (hbx.block _ (hlt m0)).trans m0
    have m1 := (hbx.block _ (hlt m1)).trans m1
    have m2 := (hbx.block _ (hlt m2)).trans m2
    clear hbx y0 y1 y2
    obtain ⟨⟨y0, y1, y2⟩, _⟩ := row3 m2
    go_wp2_with fail
    refine (hSP _).mono ?_
    rintro e wg ⟨rfl, hbx⟩
    have hbw := hbw.trans (hbx.mono hbw.size)
    have m0 := (hbx.block _ (hlt m0)).trans m0
    have m1 := (hbx.block _ (hlt m1)).trans m1
    have m2 := (hbx.block _ (hlt m2)).trans m2
    clear hbx y0 y1 y2
    obtain ⟨⟨y0, y1, y2⟩, _⟩ := row3 m2
    go_wp2_with fail
    refine (awake10_any _).mono ?_
    rintro e w3 ⟨rfl, hb3⟩
    go_wp2
    go_ret
    exact ⟨rfl, hbw.trans (hb3.mono hbw.size)⟩
  · obtain ⟨q1, q2, q3, q4, q5, q6, q7⟩ := hno
    rw [q1] at hF1
    have hc : ((2000 : Int) < (sd.length : Int)) = False := eq_false (by omega)
    have hk9 : ((9 : Int) < (len3 : Int)) = False := eq_false (by omega)
    rw [q4] at hRH
    rw [q5] at hRN
    rw [q6] at hSP
    have i1 : (si == 0) = true := beq_iff_eq.2 q7
    have i2 : (si = 0) = True := eq_true q7
    clear q1 q2 q3 q4 q5 q6 q7
    go_enter Tryz.func8, Tryz.ntmps8
    go_wp2_with fail
    refine (awake10_any _).mono ?_
    rintro e w1 ⟨rfl, hb1⟩
    have hbw := hb0.trans (hb1.mono hb0.size)
    have m0 := (hb1.block _ (hlt m0)).trans m0
    have m1 := (hb1.block _ (hlt m1)).trans m1
    have m2 := (hb1.block _ (hlt m2)).trans m2
    obtain ⟨⟨y0, y1, y2⟩, _⟩ := row3 m2
    clear hb1 hb0
    have hFx := hF1 _ hbw
    go_wp2_with fail
    refine hFx.mono ?_
    rintro e wq ⟨rfl, rfl⟩
    clear hFx
    obtain ⟨⟨x0, x1⟩, _⟩ := row2 m0
    go_wp2_with fail
    refine (hRH _).mono ?_
    rintro e wh4 ⟨rfl, hbx⟩
    have hbw := hbw.trans (hbx.mono hbw.size)
    clear x0 x1
    have m0 := (hbx.block _ (hlt m0)).trans m0
    have m1 := (hbx.block _ (hlt m1)).trans m1
    have m2 := (hbx.block _ (hlt m2)).trans m2
    clear hbx y0 y1 y2
    obtain ⟨⟨y0, y1, y2⟩, _⟩ := row3 m2
    obtain ⟨⟨x0, x1⟩, _⟩ := row2 m1
    go_wp2_with fail
    refine (hRN _).mono ?_
    rintro e wh5 ⟨rfl, hbx⟩
    have hbw := hbw.trans (hbx.mono hbw.size)
    clear x0 x1
    have m0 := (hbx.block _ (hlt m0)).trans m0
    have m1 := (hbx.block _ (hlt m1)).trans m1
    have m2 := (hbx.block _ (hlt m2)).trans m2
    clear hbx y0 y1 y2
    obtain ⟨⟨y0, y1, y2⟩, _⟩ := row3 m2
    go_wp2_with fail
    refine (hSP _).mono ?_
    rintro e wg ⟨rfl, hbx⟩
    have hbw := hbw.trans (hbx.mono hbw.size)
    have m0 := (hbx.block _ (hlt m0)).trans m0
    have m1 := (hbx.block _ (hlt m1)).trans m1
    have m2 := (hbx.block _ (hlt m2)).trans m2
    clear hbx y0 y1 y2
    obtain ⟨⟨y0, y1, y2⟩, _⟩ := row3 m2
    go_wp2_with fail
    refine (awake10_any _).mono ?_
    rintro e w3 ⟨rfl, hb3⟩
    go_wp2
    go_ret
    exact ⟨rfl, hbw.trans (hb3.mono hbw.size)⟩
  · obtain ⟨q1, q2, q3, q4, q5, q6, q7, q8⟩ := hno
    rw [q1] at hF1
    have hc : ((2000 : Int) < (sd.length : Int)) = False := eq_false (by omega)
    have hk9 : ((9 : Int) < (len3 : Int)) = False := eq_false (by omega)
    rw [q4] at hRH
    rw [q5] at hRN
    rw [q6] at hSP
    have i1 : (si == 0) = false := beq_eq_false_iff_ne.2 q7
    have i2 : (si = 0) = False := eq_false q7
    have i3 : ((549755813888 : Int) < si) = True := eq_true (by omega)
    clear q1 q2 q3 q4 q5 q6 q7 q8
    go_enter Tryz.func8, Tryz.ntmps8
    go_wp2_with fail
    refine (awake10_any _).mono ?_
    rintro e w1 ⟨rfl, hb1⟩
    have hbw := hb0.trans (hb1.mono hb0.size)
    have m0 := (hb1.block _ (hlt m0)).trans m0
    have m1 := (hb1.block _ (hlt m1)).trans m1
    have m2 := (hb1.block _ (hlt m2)).trans m2
    obtain ⟨⟨y0, y1, y2⟩, _⟩ := row3 m2
    clear hb1 hb0
    have hFx := hF1 _ hbw
    go_wp2_with fail
    refine hFx.mono ?_
    rintro e wq ⟨rfl, rfl⟩
    clear hFx
    obtain ⟨⟨x0, x1⟩, _⟩ := row2 m0
    go_wp2_with fail
    refine (hRH _).mono ?_
    rintro e wh4 ⟨rfl, hbx⟩
    have hbw := hbw.trans (hbx.mono hbw.size)
    clear x0 x1
    have m0 := (hbx.block _ (hlt m0)).trans m0
    have m1 := (hbx.block _ (hlt m1)).trans m1
    have m2 := (hbx.block _ (hlt m2)).trans m2
    clear hbx y0 y1 y2
    obtain ⟨⟨y0, y1, y2⟩, _⟩ := row3 m2
    obtain ⟨⟨x0, x1⟩, _⟩ := row2 m1
    go_wp2_with fail
    refine (hRN _).mono ?_
    rintro e wh5 ⟨rfl, hbx⟩
    have hbw := hbw.trans (hbx.mono hbw.size)
    clear x0 x1
    have m0 := (hbx.block _ (hlt m0)).trans m0
    have m1 := (hbx.block _ (hlt m1)).trans m1
    have m2 := (hbx.block _ (hlt m2)).trans m2
    clear hbx y0 y1 y2
    obtain ⟨⟨y0, y1, y2⟩, _⟩ := row3 m2
    go_wp2_with fail
    refine (hSP _).mono ?_
    rintro e wg ⟨rfl, hbx⟩
    have hbw := hbw.trans (hbx.mono hbw.size)
    have m0 := (hbx.block _ (hlt m0)).trans m0
    have m1 := (hbx.block _ (hlt m1)).trans m1
    have m2 := (hbx.block _ (hlt m2)).trans m2
    clear hbx y0 y1 y2
    obtain ⟨⟨y0, y1, y2⟩, _⟩ := row3 m2
    go_wp2_with fail
    refine (awake10_any _).mono ?_
    rintro e w3 ⟨rfl, hb3⟩
    go_wp2
    go_ret
    exact ⟨rfl, hbw.trans (hb3.mono hbw.size)⟩

end Go.Proofs.YtmeoooojmhhahaaGreat.vauGoesOn
