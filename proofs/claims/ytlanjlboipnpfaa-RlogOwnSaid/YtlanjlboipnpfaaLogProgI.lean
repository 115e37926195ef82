/- The program's Compact, by its contract. -/
import Derived.Test.YtlanjlboipnpfaaLogProgG
import Derived.Outline
namespace Go.Proofs.Ytlanjlboipnpfaa
open Go.RowKit
set_option linter.unusedVariables false
set_option linter.unusedSimpArgs false

theorem compactP_nil (x : Int) (w : World) : Calls Try.prog 22 #[.pointer none, .int .i64 x] w fun e w' => e = .returned (.int .i64 1) ∧ w = w' := by
  have hT := fun W => termP_nil x W
  go_enter Try.func22, Try.ntmps22
  go_wp2_with fail
  refine (hT _).mono ?_
  rintro e w1 ⟨rfl, rfl⟩
  go_wp2
  go_ret
  exact ⟨rfl, rfl⟩

theorem compactP_no {w : World} {p : Nat} {r : RL} {s : Nat} {A : Option Addr} {n c : Nat} (h : Rd w p r s A n c) (hm : n ≤ 1000000) (hg : Good r) (x : Int) (hno : r.at_ x = none) :
    Calls Try.prog 22 #[ptrV p, .int .i64 x] w fun e w' => e = .returned (.int .i64 1) ∧ Below w.heap.size w w' := by
  have hT := termP_any h hm hg x
  rw [hno] at hT
  clear h hg hno hm
  go_enter Try.func22, Try.ntmps22
  go_wp2_with fail
  refine hT.mono ?_
  rintro e w1 ⟨rfl, hb1⟩
  go_wp2
  go_ret
  exact ⟨rfl, hb1⟩

/-- The log whose front has gone. -/
theorem LgAt.cutAt {w w' X : World} {p : Nat} {r r' : RL} {s s' k : Nat} {Z : Nat → Prop} {A A' : Option Addr} {c c' : Nat} {xs : List Lay} (h : LgAt w p r s Z A c xs) (hg : Grew w w' A) (hsp : Spot w' A' r'.l.length c' (xs.drop k)) (hA : ∀ q, blk A' q → blk A q) (hl : r'.l = r.l.drop k)
    (hs : w'.heap.size ≤ X.heap.size) (hX : ∀ q, q < w'.heap.size → q ≠ p → X.heap[q]? = w'.heap[q]?) (hrow : X.heap[p]? = some (.cells (plC r' A' r'.l.length c' s') 63)) : Lg X p r' s' Z := by
  refine ⟨A', c', xs.drop k, hrow, hsp.keep fun q hq => hX q (hsp.lt hq) (h.own q (hA q hq)).1, by rw [List.map_drop, h.map, hl], h.away, fun q hq => h.own q (hA q hq), fun y hy => ?_⟩
  have hy' := h.lays y (List.mem_of_mem_drop hy)
  refine (hy'.keep (Nat.le_trans hg.size hs) fun q hq hz => (hX q (Nat.lt_of_lt_of_le hq hg.size) hz.1).trans (hg.block q hq hz.2.1)).mono fun q hq => ⟨hq.1, fun e => hq.2.1 (hA q e), hq.2.2⟩

theorem turned_row (X : World) (p : Nat) (a b c d a0 b0 c0 d0 : Value) (T : TypeId) (h : X.heap[p]? = some (.cells #[a0, b0, c0, d0] T)) : ((((X.setCell ⟨p, 2, none⟩ c).setCell ⟨p, 3, none⟩ d).setCell ⟨p, 0, none⟩ a).setCell ⟨p, 1, none⟩ b).heap[p]? = some (.cells #[a, b, c, d] T) := by
  simp only [World.setCell, Array.getElem?_modify, if_true, h, Option.map_some]
  simp

theorem compact_end {w w1 w2 : World} {p : Nat} {r : RL} {s k : Nat} {Z : Nat → Prop} {A : Option Addr} {c : Nat} {xs : List Lay} (x t v : Int) (hb1 : Below w.heap.size w w1) (h2 : LgAt w1 p r s Z A c xs) (hgr : Grew w1 w2 A) (hsp : Spot w2 (tailAt A c k) (r.l.length - k) (c - k) (xs.drop k)) (hkn : k ≤ r.l.length) (hv : v = ((s - k : Nat) : Int)) :
    Lg ((((w2.setCell ⟨p, 2, none⟩ (.slice (tailAt A c k) (r.l.length - k) (c - k))).setCell ⟨p, 3, none⟩ (.int .i64 v)).setCell ⟨p, 0, none⟩ (.int .i64 x)).setCell ⟨p, 1, none⟩ (.int .i64 t)) p ⟨x, t, r.l.drop k, r.f⟩ (s - k) Z ∧
    Keeps Z w ((((w2.setCell ⟨p, 2, none⟩ (.slice (tailAt A c k) (r.l.length - k) (c - k))).setCell ⟨p, 3, none⟩ (.int .i64 v)).setCell ⟨p, 0, none⟩ (.int .i64 x)).setCell ⟨p, 1, none⟩ (.int .i64 t)) := by
  subst hv
  have hnA : ¬ blk A p := fun e => (h2.own p e).1 rfl
  have hr2 := (hgr.block p (hlt h2.row) hnA).trans h2.row
  have hrow := turned_row w2 p (.int .i64 x) (.int .i64 t) (.slice (tailAt A c k) (r.l.length - k) (c - k)) (.int .i64 ((s - k : Nat) : Int)) _ _ _ _ _ hr2
  have hA : ∀ q, blk (tailAt A c k) q → blk A q := fun q hq => (tailAt_blk q h2.spot.spotless).1 hq
  constructor
  · refine h2.cutAt (k := k) (c' := c - k) (A' := tailAt A c k) hgr (by rw [List.length_drop]; exact hsp) hA rfl (by simp) (fun q _ hq => ?_) (by rw [List.length_drop]; exact hrow)
    exact (Below.heap_setCell _ _ _ _ (by exact hq)).trans ((Below.heap_setCell _ _ _ _ (by exact hq)).trans ((Below.heap_setCell _ _ _ _ (by exact hq)).trans (Below.heap_setCell _ _ _ _ (by exact hq))))
  · have k1 := keeps_below (Z := Z) hb1 (Nat.le_refl _)
    have k2 := hgr.keeps (Z := Z) fun q hq => (h2.own q hq).2
    exact ((((k1.trans k2).trans (keeps_setCell _ ⟨p, 2, none⟩ _ h2.away)).trans (keeps_setCell _ ⟨p, 3, none⟩ _ h2.away)).trans (keeps_setCell _ ⟨p, 0, none⟩ _ h2.away)).trans (keeps_setCell _ ⟨p, 1, none⟩ _ h2.away)

set_option maxRecDepth 100000 in
set_option maxHeartbeats 3200000 in
theorem compactP_yes {w : World} {p : Nat} {r : RL} {s : Nat} {Z : Nat → Prop} (h : Lg w p r s Z) (hm : r.l.length ≤ 1000000) (hg : Good r) (hs : s ≤ r.l.length) (x t : Int) (hx : r.at_ x = some t) :
    Calls Try.prog 22 #[ptrV p, .int .i64 x] w fun e w' => e = .returned (.int .i64 0) ∧ Lg w' p (r.cut x t) (s - (x - r.i).toNat) Z ∧ Keeps Z w w' := by
  obtain ⟨A, c, xs, h⟩ := h
  have hT := termP_any h.rd hm hg x
  rw [hx] at hT
  obtain ⟨a1, a2, _, _⟩ := hg.at_some hx
  have hlim := hg.lim
  obtain ⟨k, hk⟩ : ∃ k : Nat, k = (x - r.i).toNat := ⟨_, rfl⟩
  have hk2 : x - r.i = (k : Int) := by omega
  have hkn : k ≤ r.l.length := by omega
  have hw1 : wrap64 (x - r.i) = (k : Int) := by rw [← IntWalk.i64_left, IntWalk.i64_in _ (by omega)]; omega
  rw [← hk]
  have hcut : r.cut x t = ⟨x, t, r.l.drop k, r.f⟩ := by unfold RL.cut; rw [← hk]
  rw [hcut]
  clear hg hx hk hcut hlim a1 a2
  have hnc := h.spot.2.1
  have h1 := fun w1 (hb : Below w.heap.size w w1) => h.keep hb.size fun q hq _ => hb.block q hq
  have hsf := fun W => slice_front (A := A) (n := r.l.length) (cap := c) (k := k) (Nat.le_trans hkn hnc) W
  have hsb := fun W => slice_back (A := A) (n := r.l.length) (cap := c) (k := k) hkn hnc W
  have hkc : (k : Int) ≤ (c : Int) := by omega
  have hkc2 : k ≤ c := by omega
  have hkn2 : (k : Int) ≤ (r.l.length : Int) := by omega
  go_enter Try.func22, Try.ntmps22
  go_wp2_with fail
  refine hT.mono ?_
  rintro e w1 ⟨rfl, hb1⟩
  have h2 := h1 w1 hb1
  obtain ⟨w2, hcl, hsp2, g1, g2, g3, g4, g5⟩ := run_clear_front (w := w1) 0 h2.spot hkn
  have hgr : Grew w1 w2 A := ⟨g1, g2, g3, g4, g5⟩
  have hnA : ¬ blk A p := fun e => (h2.own p e).1 rfl
  have hr2 := (hgr.block p (hlt h2.row) hnA).trans h2.row
  obtain ⟨⟨c0, c1, c2, c3⟩, _⟩ := row4 h2.row
  obtain ⟨⟨d0, d1, d2, d3⟩, ⟨f0, f1, f2, f3⟩⟩ := row4 hr2
  have HE := fun v hv => Lib.hid (compact_end x t v hb1 h2 hgr hsp2 hkn hv)
  clear hT h1 h hsp2 hgr g1 g2 g3 g4 g5 h2 hr2 hb1
  go_upto_region 5 with fail
  go_wp2_with fail
  all_goals
    go_ret
    exact ⟨rfl, (HE _ (by omega)).out⟩

end Go.Proofs.Ytlanjlboipnpfaa
