/- The call Take of a queue of pairs of numbers, by its contracts. -/
import Derived.Test.YthjbieocffklfaaQueAP
namespace Go.Proofs.Ythjbieocffklfaa.QueP
open Go.RowKit Go.Conc Go.Proofs.Ythjbieocffklfaa
set_option linter.unusedVariables false

theorem two_set (X : World) (n : Nat) (u v u0 v0 : Value) (T : TypeId) (h : X.heap[n]? = some (.cells #[u0, v0] T)) : ((X.setCell ⟨n, 0, none⟩ u).setCell ⟨n, 1, none⟩ v).heap[n]? = some (.cells #[u, v] T) := by
  simp only [World.setCell, Array.getElem?_modify, if_true, h, Option.map_some]
  simp

theorem res_pair (tmps : Array Value) (W : World) (n : Nat) (x : Int × Int) (b : Bool) (h0 : tmps.getD 2 undef = .pointer (some ⟨n, 0, none⟩)) (h1 : tmps.getD 3 undef = .bool b) (hW : W.heap[n]? = some (.cells #[.int .i64 x.1, .int .i64 x.2] 42)) :
    (results Try.f15 tmps).run Try.prog W = .ok (.tuple #[pairV x, .bool b]) W := by
  rw [results_cell_tmp rfl, h0, h1]
  simp [asAddr, run_loadVar_row W n 42 42 #[.int .i64 x.1, .int .i64 x.2] (0, 0) _ hW Try.underlying42 rfl (by kernel_rfl)]

theorem grown_two {w X : World} {row : Option Nat} (h : w.grownBy X row) (u v : Value) : w.grownBy ((X.setCell ⟨w.heap.size, 0, none⟩ u).setCell ⟨w.heap.size, 1, none⟩ v) row :=
  ⟨h.os, h.tape, h.output, by have := h.size; simpa using this, fun k hk hr => by rw [Below.heap_setCell _ _ _ _ (by simp; omega), Below.heap_setCell _ _ _ _ (by simp; omega)]; exact h.block k hk hr⟩

theorem take_none (w : World) (q c cap : Nat) (Z : Nat → Prop) (h : Q w q c cap [] Z) : Calls Try.prog 15 #[.pointer (some ⟨q, 0, none⟩)] w fun e w' => e = .returned (.tuple #[(Value.agg #[.int .i64 0, .int .i64 0]), .bool false]) ∧ Below w.heap.size w w' := by
  have h0 := (h.alloc (.cells #[.int .i64 0, .int .i64 0] 42)).alloc (.cells #[.int .i64 0, .int .i64 0] 42)
  have b0 : Below w.heap.size w ((w.alloc (.cells #[.int .i64 0, .int .i64 0] 42)).alloc (.cells #[.int .i64 0, .int .i64 0] 42)) := ((Below.refl _ _).alloc (Nat.le_refl _) _).alloc (by simp) _
  have m0 : ((w.alloc (.cells #[.int .i64 0, .int .i64 0] 42)).alloc (.cells #[.int .i64 0, .int .i64 0] 42)).heap[w.heap.size]? = some (.cells #[.int .i64 0, .int .i64 0] 42) := heap_alloc2_old _ _ _
  have m1 : ((w.alloc (.cells #[.int .i64 0, .int .i64 0] 42)).alloc (.cells #[.int .i64 0, .int .i64 0] 42)).heap[w.heap.size + 1]? = some (.cells #[.int .i64 0, .int .i64 0] 42) := heap_alloc2_new _ _ _
  generalize hW : (w.alloc (.cells #[.int .i64 0, .int .i64 0] 42)).alloc (.cells #[.int .i64 0, .int .i64 0] 42) = W at h0 b0 m0 m1
  obtain ⟨buf, s, r, h1, h2, h3⟩ := h0.here
  obtain rfl : buf = #[] := Array.eq_empty_of_size_eq_zero h2
  have f0 : W.cell? ⟨q, 0, none⟩ = some (.chan (some c)) := by simp [World.cell?, h0.head]
  have f1 : W.cell? ⟨w.heap.size, 0, none⟩ = some (.int .i64 0) := by simp [World.cell?, m0]
  have f2 : W.cell? ⟨w.heap.size, 1, none⟩ = some (.int .i64 0) := by simp [World.cell?, m0]
  have f3 : W.cell? ⟨w.heap.size + 1, 0, none⟩ = some (.int .i64 0) := by simp [World.cell?, m1]
  have f4 : W.cell? ⟨w.heap.size + 1, 1, none⟩ = some (.int .i64 0) := by simp [World.cell?, m1]
  have g1 : W.frozen? ⟨w.heap.size, 0, none⟩ = false := by simp [World.frozen?, m0]
  have g2 : W.frozen? ⟨w.heap.size, 1, none⟩ = false := by simp [World.frozen?, m0]
  clear h2 h3
  refine calls_of_loneTo fun cs => ?_
  have e : Frame.enter Try.prog 15 #[.pointer (some ⟨q, 0, none⟩)] .normal = (base 15).at ⟨#[.pointer (some ⟨q, 0, none⟩), undef, undef, undef, undef, undef, undef, undef, undef, undef, undef, undef, undef, undef, undef, undef, undef, undef, undef, undef, undef], []⟩ [.code (Try.f15.body.getD .skip)] := by
    simp [Frame.enter, Frame.at, Try.func15, base, Try.f15]
  rw [e]
  refine LoneTo.goes (n := 90) ?_
  simp only [Try.f15, Option.getD_some]
  repeat (first | s_c stepG_seq | s_reg | s_c stepG_region_end | s_c stepG_block | s_c stepG_skip | s_cond true | s_cond false | s_op | s_c stepG_ret')
  s_stop
  refine LoneTo.step (step_lone_select_default (c := c) (z := .pointer none) (stepG_comm (cases := #[rcase c (.pointer none)]) (blocking := false) (shape := .select) (w' := W) rfl rfl (by decide) (by simp [go_sem, execOp, rcase, Act.eval])) h1) ?_
  rw [Frame.finish_at]
  walk_nrm
  refine LoneTo.goes (n := 60) ?_
  repeat (first | s_c stepG_seq | s_reg | s_c stepG_region_end | s_c stepG_block | s_c stepG_skip | s_cond true | s_cond false | s_op | s_c stepG_ret')
  s_stop
  refine LoneTo.done ⟨.returned (.tuple #[(Value.agg #[.int .i64 0, .int .i64 0]), .bool false]), _, rfl, ⟨rfl, ?_⟩, rfl, rfl, rfl, rfl, _, Try.func15, res_pair _ _ w.heap.size (0, 0) _ rfl rfl (two_set _ _ _ _ _ _ _ m0)⟩
  exact (b0.setCell (Nat.le_refl _) _).setCell (Nat.le_refl _) _

theorem take_some (x : (Int × Int)) (w : World) (q c cap : Nat) (l : List (Int × Int)) (Z : Nat → Prop) (h : Q w q c cap (x :: l) Z) :
    Calls Try.prog 15 #[.pointer (some ⟨q, 0, none⟩)] w fun e w' => e = .returned (.tuple #[pairV x, .bool true]) ∧ Q w' q c cap l Z ∧ w.grownBy w' (some c) := by
  replace h := h.out (fun k => Z k ∨ k = w.heap.size) (fun k hk => hk.imp id (fun e => Nat.le_of_eq e.symm))
  have h0 := (h.alloc (.cells #[.int .i64 0, .int .i64 0] 42)).alloc (.cells #[.int .i64 0, .int .i64 0] 42)
  have b0 : Below w.heap.size w ((w.alloc (.cells #[.int .i64 0, .int .i64 0] 42)).alloc (.cells #[.int .i64 0, .int .i64 0] 42)) := ((Below.refl _ _).alloc (Nat.le_refl _) _).alloc (by simp) _
  have m0 : ((w.alloc (.cells #[.int .i64 0, .int .i64 0] 42)).alloc (.cells #[.int .i64 0, .int .i64 0] 42)).heap[w.heap.size]? = some (.cells #[.int .i64 0, .int .i64 0] 42) := heap_alloc2_old _ _ _
  have s0 := h.clt
  generalize hW : (w.alloc (.cells #[.int .i64 0, .int .i64 0] 42)).alloc (.cells #[.int .i64 0, .int .i64 0] 42) = W at h0 b0 m0
  obtain ⟨buf, s, r, a, h1, h2, h3, h4, h5⟩ := h0.first
  have f0 : W.cell? ⟨q, 0, none⟩ = some (.chan (some c)) := by simp [World.cell?, h0.head]
  have d1 := h0.less h1 s (r + 1)
  have d2 := grown_trans (grown_below b0) (grown_setChan W c cap (buf.extract 1 buf.size) false s (r + 1) false)
  have n0 : (W.setChan c cap (buf.extract 1 buf.size) false s (r + 1) false).heap[w.heap.size]? = some (.cells #[.int .i64 0, .int .i64 0] 42) := (setChan_ne _ _ _ _ _ _ _ (by omega)).trans m0
  have n1 : (W.setChan c cap (buf.extract 1 buf.size) false s (r + 1) false).heap[a]? = _ := (setChan_ne _ _ _ _ _ _ _ h4).trans h5
  refine calls_of_loneTo fun cs => ?_
  have e : Frame.enter Try.prog 15 #[.pointer (some ⟨q, 0, none⟩)] .normal = (base 15).at ⟨#[.pointer (some ⟨q, 0, none⟩), undef, undef, undef, undef, undef, undef, undef, undef, undef, undef, undef, undef, undef, undef, undef, undef, undef, undef, undef, undef], []⟩ [.code (Try.f15.body.getD .skip)] := by
    simp [Frame.enter, Frame.at, Try.func15, base, Try.f15]
  rw [e]
  refine LoneTo.goes (n := 90) ?_
  simp only [Try.f15, Option.getD_some]
  repeat (first | s_c stepG_seq | s_reg | s_c stepG_region_end | s_c stepG_block | s_c stepG_skip | s_cond true | s_cond false | s_op | s_c stepG_ret')
  s_stop
  refine LoneTo.step (step_lone_select_recv_buf (c := c) (z := .pointer none) (stepG_comm (cases := #[rcase c (.pointer none)]) (blocking := false) (shape := .select) (w' := W) rfl rfl (by decide) (by simp [go_sem, execOp, rcase, Act.eval])) h1 (by omega)) ?_
  rw [Frame.finish_at, h3]
  generalize W.setChan c cap (buf.extract 1 buf.size) false s (r + 1) false = X at d1 d2 n0 n1 ⊢
  have f1 : X.cell? ⟨w.heap.size, 0, none⟩ = some (.int .i64 0) := by simp [World.cell?, n0]
  have f2 : X.cell? ⟨w.heap.size, 1, none⟩ = some (.int .i64 0) := by simp [World.cell?, n0]
  have f3 : X.cell? ⟨a, 0, none⟩ = some (.int .i64 x.1) := by simp [World.cell?, n1]
  have f4 : X.cell? ⟨a, 1, none⟩ = some (.int .i64 x.2) := by simp [World.cell?, n1]
  have g1 : X.frozen? ⟨w.heap.size, 0, none⟩ = false := by simp [World.frozen?, n0]
  have g2 : X.frozen? ⟨w.heap.size, 1, none⟩ = false := by simp [World.frozen?, n0]
  clear h2 h3 h4 h5 m0 hW f0
  walk_nrm
  refine LoneTo.goes (n := 60) ?_
  repeat (first | s_c stepG_seq | s_reg | s_c stepG_region_end | s_c stepG_block | s_c stepG_skip | s_cond true | s_cond false | s_op | s_c stepG_ret')
  s_stop
  refine LoneTo.done ⟨.returned (.tuple #[pairV x, .bool true]), _, rfl, ⟨rfl, ?_, ?_⟩, rfl, rfl, rfl, rfl, _, Try.func15, res_pair _ _ w.heap.size x _ rfl rfl (two_set _ _ _ _ _ _ _ n0)⟩
  · refine Que.out (d1.keep fun k _ hz => ?_) Z (fun k hk => .inl (.inl hk))
    rw [Below.heap_setCell _ _ _ _ (fun e => hz (.inr e)), Below.heap_setCell _ _ _ _ (fun e => hz (.inr e))]
  · exact grown_two d2 _ _

end Go.Proofs.Ythjbieocffklfaa.QueP
