/- The program's replace, by its contract. -/
import Derived.Test.YtlanjlboipnpfaaLogProgJ
import Derived.Outline
namespace Go.Proofs.Ytlanjlboipnpfaa
open Go.RowKit
set_option linter.unusedVariables false
set_option linter.unusedSimpArgs false

/-- The log whose end is another one. -/
theorem LgAt.swapped {w w2 w3 w4 : World} {p : Nat} {r : RL} {s0 keep m : Nat} {g : Int} {Z : Nat → Prop} {A A' : Option Addr} {c c' : Nat} {xs ys : List Lay} {ms : List Ent} (h : LgAt w p r s0 Z A c xs) (hZ : ∀ q, Z q → q < w.heap.size) (hkl : keep ≤ r.l.length)
    (hg2 : Grew w w2 A) (hb3 : Below w2.heap.size w2 w3) (hys : ∀ y ∈ ys, LayOk w3 (fun q => w2.heap.size ≤ q) y) (hmap : ys.map (·.e) = ms) (hml : ms.length = m) (hsp : Spot w4 A' (keep + m) c' (xs.take keep ++ ys)) (hA : ∀ q, blk A' q → blk A q ∨ w3.heap.size ≤ q) (hg : Grew w3 w4 A) :
    Lg (w4.setCell ⟨p, 2, none⟩ (.slice A' (keep + m) c')) p ⟨r.i, r.t, r.l.take keep ++ ms, g⟩ s0 Z ∧ Keeps Z w (w4.setCell ⟨p, 2, none⟩ (.slice A' (keep + m) c')) := by
  have hnA : ¬ blk A p := fun e => (h.own p e).1 rfl
  have hs2 := hg2.size
  have hs3 := hb3.size
  have hp := hlt h.row
  have hrow4 : w4.heap[p]? = some (.cells (plC r A r.l.length c s0) 63) := (hg.block p (by omega) hnA).trans ((hb3.block p (by omega)).trans ((hg2.block p hp hnA).trans h.row))
  have hll : (r.l.take keep ++ ms).length = keep + m := by rw [List.length_append, List.length_take]; omega
  have hrow : (w4.setCell ⟨p, 2, none⟩ (.slice A' (keep + m) c')).heap[p]? = some (.cells #[.int .i64 r.i, .int .i64 r.t, .slice A' (keep + m) c', .int .i64 (s0 : Int)] 63) := by
    have := setCell_at w4 ⟨p, 2, none⟩ (.slice A' (keep + m) c') _ _ _ rfl hrow4
    simpa using this
  have hoff : ∀ q, q ≠ p → (w4.setCell ⟨p, 2, none⟩ (.slice A' (keep + m) c')).heap[q]? = w4.heap[q]? := fun q hq => Below.heap_setCell _ _ _ _ (by exact hq)
  have hA'p : ∀ q, blk A' q → q ≠ p ∧ ¬ Z q := fun q hq => by
    rcases hA q hq with h1 | h1
    · exact h.own q h1
    · exact ⟨by omega, fun e => by have := hZ q e; omega⟩
  have hkeep : ∀ y : Lay, LayOk w3 (fun q => q ≠ p ∧ ¬ blk A q ∧ ¬ Z q ∧ q < w3.heap.size) y → LayOk (w4.setCell ⟨p, 2, none⟩ (.slice A' (keep + m) c')) (fun q => q ≠ p ∧ ¬ blk A' q ∧ ¬ Z q) y := fun y hy => by
    refine (hy.keep (by rw [World.size_setCell]; exact hg.size) fun q hq hz => (hoff q hz.1).trans (hg.block q hq hz.2.1)).mono fun q hq => ⟨hq.1, fun e => ?_, hq.2.2.1⟩
    rcases hA q e with h1 | h1
    · exact hq.2.1 h1
    · omega
  constructor
  · refine ⟨A', c', xs.take keep ++ ys, ?_, ?_, ?_, h.away, hA'p, fun y hy => ?_⟩
    · show _ = some (Obj.cells #[.int .i64 r.i, .int .i64 r.t, .slice A' (r.l.take keep ++ ms).length c', .int .i64 (s0 : Int)] 63)
      rw [hll]
      exact hrow
    · show Spot _ A' (r.l.take keep ++ ms).length c' _
      rw [hll]
      exact hsp.keep fun q hq => hoff q (hA'p q hq).1
    · show _ = r.l.take keep ++ ms
      rw [List.map_append, List.map_take, h.map, hmap]
    · rcases List.mem_append.1 hy with hy | hy
      · have hy' := (h.lays y (List.mem_of_mem_take hy)).old
        have hy2 := (hy'.keep hg2.size fun q hq hz => hg2.block q hq hz.1.2.1).keep hs3 fun q hq hz => hb3.block q hq
        exact hkeep y (hy2.mono fun q hq => ⟨hq.1.1, hq.1.2.1, hq.1.2.2, by omega⟩)
      · refine hkeep y ((hys y hy).old.mono fun q hq => ⟨by omega, fun e => ?_, fun e => ?_, by omega⟩)
        · have := h.spot.lt e; omega
        · have := hZ q e; omega
  · have k1 := hg2.keeps (Z := Z) fun q hq => (h.own q hq).2
    have k2 := keeps_below (Z := Z) hb3 (Nat.le_refl _)
    have k3 := hg.keeps (Z := Z) fun q hq => (h.own q hq).2
    exact ((k1.trans k2).trans k3).trans (keeps_setCell _ ⟨p, 2, none⟩ _ h.away)

/-- The log with another count of those that aren't fresh. -/
theorem Lg.fourth {w : World} {p : Nat} {r : RL} {s s' : Nat} {Z : Nat → Prop} (h : Lg w p r s Z) (v : Int) (hv : v = (s' : Int)) : Lg (w.setCell ⟨p, 3, none⟩ (.int .i64 v)) p r s' Z ∧ Keeps Z w (w.setCell ⟨p, 3, none⟩ (.int .i64 v)) := by
  subst hv
  obtain ⟨A, c, xs, h⟩ := h
  exact ⟨⟨A, c, xs, h.turn (by simp) (set_fourth h.row) fun q _ hq => Below.heap_setCell _ _ _ _ (by exact hq)⟩, keeps_setCell w ⟨p, 3, none⟩ _ h.away⟩

theorem Lg.row4 {w : World} {p : Nat} {r : RL} {s : Nat} {Z : Nat → Prop} (h : Lg w p r s Z) : w.cell? ⟨p, 3, none⟩ = some (.int .i64 (s : Int)) ∧ w.frozen? ⟨p, 3, none⟩ = false := by
  obtain ⟨A, c, xs, h⟩ := h
  obtain ⟨⟨_, _, _, c3⟩, ⟨_, _, _, f3⟩⟩ := Proofs.Ytlanjlboipnpfaa.row4 h.row
  exact ⟨c3, f3⟩

set_option maxRecDepth 100000 in
set_option maxHeartbeats 6400000 in
theorem replaceP_any {w : World} {p : Nat} {r : RL} {s : Nat} {Z : Nat → Prop} (h : Lg w p r s Z) (hZ : ∀ q, Z q → q < w.heap.size) (hg : Good r) (B : Option Addr) (m cB : Nat) (ms : List Ent) (hB : Ents w Z B m cB ms) (hmm : r.l.length + m ≤ 1000000) (hj : Joins r ms) :
    Calls Try.prog 45 #[ptrV p, .slice B m cB] w fun e w' => e = .returned (.tuple #[]) ∧ Lg w' p (r.swap ms) (min s (r.keep ms)) Z ∧ Keeps Z w w' := by
  obtain ⟨A, c, xs, h⟩ := h
  obtain ⟨e1, e2, e3⟩ := swap_l hg hj
  obtain ⟨k1, k2⟩ := keep_le hj
  have hrun := run_small hj.run
  have h0 := hj.h0
  have hlo := hj.lo
  have hhi := hj.hi
  have hlim := hg.lim
  have hml := hB.1
  obtain ⟨gB, oB, E, ce, rfl, hgb, x0, x1, x2, hlE⟩ := hB.at_ 0 (by omega)
  clear hlE x1 x2
  generalize r.keep ms = keep at *
  obtain ⟨K1, hK1⟩ : ∃ K1 : Int, K1 = ((keep + 1 : Nat) : Int) := ⟨_, rfl⟩
  have hw1 : IntKind.i64.wrap ((ms[0]'h0).i - r.i) = (K1 : Int) := by rw [IntWalk.i64_in _ (by omega)]; omega
  have hw2 : IntKind.i64.wrap ((K1 : Int) - 1) = (keep : Int) := by rw [IntWalk.i64_in _ (by omega)]; omega
  generalize hi0 : (ms[0]'h0).i = i0 at *
  have x0' : w.cell? ⟨gB, oB, none⟩ = some (.int .i64 i0) := by simpa using x0
  have hR := Lib.hid (And.intro e1 (And.intro e2 e3))
  generalize r.swap ms = r' at *
  obtain ⟨⟨c0, c1, c2, c3⟩, _⟩ := row4 h.row
  have hm0 : (0 : Int) < (m : Int) := by omega
  have hm0d : 0 < m := by omega
  have hnc := h.spot.2.1
  have hsb := fun W => slice_back (A := A) (n := r.l.length) (cap := c) (k := keep) k1 hnc W
  have hsf := fun W => slice_front (A := A) (n := r.l.length) (cap := c) (k := keep) (Nat.le_trans k1 hnc) W
  have hkc : (keep : Int) ≤ (c : Int) := by omega
  have hkn : (keep : Int) ≤ (r.l.length : Int) := by omega
  have hkc2 : keep ≤ c := by omega
  have hm1 : 1 ≤ m := by omega
  have hdl : ∀ n, w.drewN n = w.drewN n := fun _ => rfl
  clear k2 hK1 x0 hi0 e1 e2 e3 hj hlim hlo hhi hg hdl
  go_enter Try.func45, Try.ntmps45
  go_wp2
  go_big_quiet (fail)
  have h1 : LgAt (w.drewN nq) p r s Z A c xs := h.keep (Nat.le_refl _) fun q _ _ => rfl
  have hB1 : Ents (w.drewN nq) Z (some ⟨gB, oB, none⟩) m cB ms := hB.keep (Nat.le_refl _) fun q _ _ => rfl
  have hZ1 : ∀ q, Z q → q < (w.drewN nq).heap.size := hZ
  have hK1 : Keeps Z w (w.drewN nq) := keeps_below (below_drewN (Below.refl _ _) nq) (Nat.le_refl _)
  have c0 : (w.drewN nq).cell? ⟨p, 0, none⟩ = _ := c0
  have c2 : (w.drewN nq).cell? ⟨p, 2, none⟩ = _ := c2
  generalize w.drewN nq = w1 at *
  clear h hB x0' hw1 hw2 c1 c3
  obtain ⟨w2, hcl, hsp2, g1, g2, g3, g4, g5⟩ := run_clear_back (w := w1) 0 h1.spot k1
  have hgr : Grew w1 w2 A := ⟨g1, g2, g3, g4, g5⟩
  have hnA : ¬ blk A p := fun e => (h1.own p e).1 rfl
  have hplt := hlt h1.row
  have hr2 := (hgr.block p hplt hnA).trans h1.row
  have hpl2 := hlt hr2
  have hB2 : Ents w2 Z (some ⟨gB, oB, none⟩) m cB ms := hB1.keep g4 fun q hq hz => g5 q hq fun e => (h1.own q e).2 hz
  obtain ⟨⟨d0, d1, d2, d3⟩, ⟨f0, f1, f2, f3⟩⟩ := row4 hr2
  have hC := fun W (hW : Below w2.heap.size w2 W) => copies_any Z (some ⟨gB, oB, none⟩) m cB ms W (hB2.below hW (Nat.le_refl _)) (by omega) hrun
  have hSX : ∀ X, Below w2.heap.size w2 X → Spot X A keep c (xs.take keep) := fun X hX => hsp2.keep fun q hq => hX.block q (hsp2.lt hq)
  clear hB1 hB2
  go_upto_region 2 with fail
  go_cut [30] (fun v wx => Lg wx p ⟨r.i, r.t, r.l.take keep ++ ms, 0⟩ s Z ∧ Keeps Z w1 wx)
  case first =>
    go_region_law (first
      | (go_simp
         go_at_call 27
         refine (hC _ (by first | exact Below.refl _ _ | exact (Below.refl _ _).drew)).mono ?_
         rintro e w3 ⟨ys, rfl, hsp3, hmap, hok3, hb3⟩
         have hb3' : Below w2.heap.size w2 w3 := by first | exact hb3 | exact (Below.refl _ _).drew.trans hb3
         obtain ⟨⟨y0, y1, y2, y3⟩, _⟩ := row4 ((hb3'.block _ hpl2).trans hr2))
      | (refine step_append_spot _ (by rfl) _ _ (by rfl) A keep c (xs.take keep) (by rfl) (hSX _ (by first | exact hb3' | exact hb3'.drew)) (some ⟨w2.heap.size, 0, none⟩) m m ys (by rfl) (fun e => by cases e) hsp3.1 (fun b e => by cases e; exact hsp3.cells rfl) (by omega) ?_
         intro A' c' w4 hsp hA hgr4
         obtain ⟨⟨e0, e1, e2, e3⟩, ⟨z0, z1, z2, z3⟩⟩ := row4 ((hgr4.block p (Nat.lt_of_lt_of_le hpl2 hb3'.size) hnA).trans ((hb3'.block _ hpl2).trans hr2))))
    all_goals
      have hfin := h1.swapped (g := 0) hZ1 k1 hgr hb3' (fun y hy => (hok3 y hy).mono fun q hq => Nat.le_of_lt (show w2.heap.size < q from hq)) hmap hml hsp hA hgr4
      have HF := Lib.hid hfin
      clear hfin hsp hA hgr4 hok3 hb3 hb3' hsp3 hmap
      go_wp2_with fail
      go_meet
      exact HF.out
  case rest =>
    obtain ⟨hlg, hk⟩ := hcut
    obtain ⟨c3, f3⟩ := hlg.row4
    have HE := fun v hv => Lib.hid (Lg.fourth (s' := min s keep) hlg v hv)
    have HK := Lib.hid (hK1.trans hk)
    clear hlg hk hSX hsp2 hgr hC h1 hcl hr2
    go_wp2_with fail
    all_goals
      refine bodyPost_end (results_none rfl _ _ _) rfl ?_
      have hr := hR.out
      exact ⟨rfl, (HE _ (by omega)).out.1.same hr.2.1 hr.2.2 hr.1, HK.out.trans (HE _ (by omega)).out.2⟩

end Go.Proofs.Ytlanjlboipnpfaa
