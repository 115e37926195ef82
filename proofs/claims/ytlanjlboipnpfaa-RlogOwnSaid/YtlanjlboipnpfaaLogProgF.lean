/- The program's Fresh, Saved, Reset, each by its contract. -/
import Derived.Test.YtlanjlboipnpfaaLogProgE
import Derived.Outline
namespace Go.Proofs.Ytlanjlboipnpfaa
open Go.RowKit
set_option linter.unusedVariables false
set_option linter.unusedSimpArgs false

theorem freshP_nil (w : World) : Calls Try.prog 19 #[.pointer none] w fun e w' => e = .returned (.slice none 0 0) ∧ w = w' := by
  go_enter Try.func19, Try.ntmps19
  go_wp2
  go_ret
  exact ⟨rfl, rfl⟩

theorem fromP_nil (x m : Int) (w : World) : Calls Try.prog 17 #[.pointer none, .int .i64 x, .int .i64 m] w fun e w' => e = .returned (.slice none 0 0) ∧ w = w' := by
  go_enter Try.func17, Try.ntmps17
  go_wp2
  go_ret
  exact ⟨rfl, rfl⟩

theorem savedP_nil (w : World) : Calls Try.prog 20 #[.pointer none] w fun e w' => e = .returned (.tuple #[]) ∧ w = w' := by
  go_enter Try.func20, Try.ntmps20
  go_wp2
  refine bodyPost_end (results_none rfl _ _ _) rfl ?_
  exact ⟨rfl, rfl⟩

theorem resetP_nil (i t : Int) (w : World) : Calls Try.prog 23 #[.pointer none, .int .i64 i, .int .i64 t] w fun e w' => e = .returned (.int .i64 1) ∧ w = w' := by
  go_enter Try.func23, Try.ntmps23
  go_wp2
  go_ret
  exact ⟨rfl, rfl⟩

set_option maxRecDepth 100000 in
set_option maxHeartbeats 1600000 in
theorem freshP_any {w : World} {p : Nat} {r : RL} {s : Nat} {Z : Nat → Prop} {A : Option Addr} {c : Nat} {xs : List Lay} (h : LgAt w p r s Z A c xs) (hm : r.l.length ≤ 1000000) (hg : Good r) (hs : s ≤ r.l.length) :
    Calls Try.prog 19 #[ptrV p] w fun e w' => ∃ A' c', e = .returned (.slice A' (r.l.drop s).length c') ∧ Ents w' (fun q => w.heap.size ≤ q) A' (r.l.drop s).length c' (r.l.drop s) ∧ Below w.heap.size w w' := by
  have hs1 := fun W => slice_back (A := A) (n := r.l.length) (cap := c) (k := s) hs h.spot.2.1 W
  have hC := fun w1 (hb : Below w.heap.size w w1) => copies_any (fun _ => True) (tailAt A c s) (r.l.length - s) (c - s) ((xs.drop s).map (·.e)) w1 (((h.keep hb.size fun q hq _ => hb.block q hq).spot.drop (k := s) hs).ents (fun _ _ => trivial) (fun y hy => ((h.keep hb.size fun q hq _ => hb.block q hq).lays y (List.mem_of_mem_drop hy)).mono fun _ _ => trivial)) (by omega) (fun e he => by
        obtain ⟨y, hy, rfl⟩ := List.mem_map.1 he
        refine run_small hg.run y.e ?_
        rw [← h.map]
        exact List.mem_map.2 ⟨y, List.mem_of_mem_drop hy, rfl⟩)
  have e1 : (xs.drop s).map (·.e) = r.l.drop s := by rw [List.map_drop, h.map]
  rw [e1] at hC
  rw [List.length_drop]
  obtain ⟨c0, c1, c2, c3⟩ := (row4 h.row).1
  have hsn : (s : Int) ≤ (r.l.length : Int) := by omega
  have hC := hC w.drew (Below.refl _ _).drew
  clear h hg e1 hm
  generalize r.l.drop s = out at *
  generalize r.l.length = n at *
  obtain ⟨d, hd⟩ : ∃ d, n - s = d := ⟨_, rfl⟩
  rw [hd] at hs1 hC ⊢
  clear hd
  go_enter Try.func19, Try.ntmps19
  go_wp2
  go_still_tail 9, (by kernel_rfl)
  go_wp2_with fail
  refine hC.mono ?_
  rintro e w2 ⟨ys, rfl, hsp, hmap, hok, hb2⟩
  have hE := hsp.ents (Z := fun q => w.heap.size ≤ q) (fun q hq => by rw [blk_some] at hq; rw [hq]; exact Nat.le_refl _) (fun y hy => (hok y hy).mono fun q hq => Nat.le_of_lt hq)
  rw [hmap] at hE
  have HE := Lib.hid hE
  have hbw : Below w.heap.size w w2 := (Below.refl _ _).drew.trans hb2
  clear hC hsp hmap hok hE
  go_wp2
  go_ret
  exact ⟨_, _, rfl, HE.out, hbw⟩

/-- The log's block with other cells: its row is as it was. -/
theorem LgAt.turn {w w' : World} {p : Nat} {r : RL} {s s' : Nat} {Z : Nat → Prop} {A : Option Addr} {c : Nat} {xs : List Lay} (h : LgAt w p r s Z A c xs) (hs : w.heap.size ≤ w'.heap.size) (hrow : w'.heap[p]? = some (.cells (plC r A r.l.length c s') 63)) (hk : ∀ q, q < w.heap.size → q ≠ p → w'.heap[q]? = w.heap[q]?) : LgAt w' p r s' Z A c xs :=
  ⟨hrow, h.spot.keep fun q hq => hk q (h.spot.lt hq) (h.own q hq).1, h.map, h.away, h.own, fun x hx => (h.lays x hx).keep hs fun q hq hz => hk q hq hz.1⟩

theorem set_fourth {w : World} {p : Nat} {a b c d e : Value} {T : TypeId} (h : w.heap[p]? = some (.cells #[a, b, c, d] T)) : (w.setCell ⟨p, 3, none⟩ e).heap[p]? = some (.cells #[a, b, c, e] T) := by
  have := setCell_at w ⟨p, 3, none⟩ e _ _ _ rfl h
  simpa using this

theorem savedP_any {w : World} {p : Nat} {r : RL} {s : Nat} {Z : Nat → Prop} (h : Lg w p r s Z) :
    Calls Try.prog 20 #[ptrV p] w fun e w' => e = .returned (.tuple #[]) ∧ Lg w' p r r.l.length Z ∧ Keeps Z w w' := by
  obtain ⟨A, c, xs, h⟩ := h
  have hr := h.row
  have hfin : Lg (w.setCell ⟨p, 3, none⟩ (.int .i64 (r.l.length : Int))) p r r.l.length Z := ⟨A, c, xs, h.turn (by simp) (set_fourth hr) fun q _ hq => Below.heap_setCell _ _ _ _ (by exact hq)⟩
  have hk := keeps_setCell w ⟨p, 3, none⟩ (.int .i64 (r.l.length : Int)) (Z := Z) h.away
  obtain ⟨⟨c0, c1, c2, c3⟩, ⟨f0, f1, f2, f3⟩⟩ := row4 hr
  have HF := Lib.hid hfin
  clear h hfin hr
  generalize r.l.length = n at *
  go_enter Try.func20, Try.ntmps20
  go_wp2
  refine bodyPost_end (results_none rfl _ _ _) rfl ?_
  exact ⟨rfl, HF.out, hk⟩

theorem resetP_no {w : World} {p : Nat} (i t : Int) (hno : RL.base i t = false) :
    Calls Try.prog 23 #[ptrV p, .int .i64 i, .int .i64 t] w fun e w' => e = .returned (.int .i64 1) ∧ w = w' := by
  have hB := fun W => rightBaseP_is i t W
  rw [hno] at hB
  go_enter Try.func23, Try.ntmps23
  go_wp2_with fail
  refine (hB _).mono ?_
  rintro e w1 ⟨rfl, rfl⟩
  go_wp2
  go_ret
  exact ⟨rfl, rfl⟩

theorem resetP_yes {w : World} {p : Nat} {r : RL} {s : Nat} {Z : Nat → Prop} (h : Lg w p r s Z) (i t : Int) (hyes : RL.base i t = true) :
    Calls Try.prog 23 #[ptrV p, .int .i64 i, .int .i64 t] w fun e w' => e = .returned (.int .i64 0) ∧ Lg w' p ⟨i, t, [], 0⟩ 0 Z ∧ Keeps Z w w' := by
  have hB := fun W => rightBaseP_is i t W
  rw [hyes] at hB
  obtain ⟨A, c, xs, h⟩ := h
  have hr := h.row
  have hrow := set4_at w p (.int .i64 i) (.int .i64 t) (.slice none 0 0) (.int .i64 0) _ _ _ _ _ hr
  have hfin : Lg ((((w.setCell ⟨p, 0, none⟩ (.int .i64 i)).setCell ⟨p, 1, none⟩ (.int .i64 t)).setCell ⟨p, 2, none⟩ (.slice none 0 0)).setCell ⟨p, 3, none⟩ (.int .i64 0)) p ⟨i, t, [], 0⟩ 0 Z :=
    ⟨none, 0, [], hrow, ⟨rfl, Nat.le_refl _, Nat.zero_le _, fun _ => rfl, fun a e => by cases e⟩, rfl, h.away, fun q hq => absurd hq (blk_none q), fun x hx => by simp at hx⟩
  have hk : Keeps Z w ((((w.setCell ⟨p, 0, none⟩ (.int .i64 i)).setCell ⟨p, 1, none⟩ (.int .i64 t)).setCell ⟨p, 2, none⟩ (.slice none 0 0)).setCell ⟨p, 3, none⟩ (.int .i64 0)) :=
    (((keeps_setCell w ⟨p, 0, none⟩ _ h.away).trans (keeps_setCell _ ⟨p, 1, none⟩ _ h.away)).trans (keeps_setCell _ ⟨p, 2, none⟩ _ h.away)).trans (keeps_setCell _ ⟨p, 3, none⟩ _ h.away)
  obtain ⟨⟨c0, c1, c2, c3⟩, ⟨f0, f1, f2, f3⟩⟩ := row4 hr
  have HF := Lib.hid hfin
  have HK := Lib.hid hk
  clear h hfin hr hrow hk
  go_enter Try.func23, Try.ntmps23
  go_wp2_with fail
  refine (hB _).mono ?_
  rintro e w1 ⟨rfl, rfl⟩
  go_wp2
  go_ret
  exact ⟨rfl, HF.out, HK.out⟩

end Go.Proofs.Ytlanjlboipnpfaa
