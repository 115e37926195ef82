/- The calls New, Put, Take and Len of a queue, each by its contract. -/
import Derived.Test.YthjbieocffklfaaQueBase
import Derived.WalkSpells
import Derived.WalkLawsBesides
import Derived.KernelRfl
import Derived.Laws.ResultCell
import Derived.BigQuiet
namespace Go.Proofs.Ythjbieocffklfaa.QueS
open Go.RowKit Go.Conc Go.Proofs.Ythjbieocffklfaa
set_option linter.unusedVariables false

abbrev Q (w : World) (q c cap : Nat) (l : List ByteArray) (Z : Nat → Prop) : Prop := Que 50 9 (fun x : ByteArray => #[Value.string x]) w q c cap l Z

theorem bytes_el : ∃ i, Try.prog.info? 51 = some i ∧ i.bytes = 8 := by
  have h : (Try.prog.info? 51).map (·.bytes) = some 8 := by kernel_rfl
  obtain ⟨i, hi, hb⟩ := Option.map_eq_some_iff.1 h
  exact ⟨i, hi, hb⟩
theorem mk_chan (n : Nat) (hn : n ≤ 64) (w : World) : (Instr.makeChan 48 (.int .i64 (n : Int))).run Try.prog w = .ok (.chan (some w.heap.size)) (w.alloc (.chan n #[] false 0 0 false)) := by
  obtain ⟨i, hi, hb⟩ := bytes_el
  exact run_makeChan (P := Try.prog) (w := w) Try.underlying48 hi .i64 n (by omega) (by rw [hb]; omega)

theorem new_bad (m : Int) (hm : m < 1 ∨ 64 < m) (w : World) : Calls Try.prog 8 #[.int .i64 m] w fun e w' => e = .returned (.tuple #[.pointer none, .int .i64 1]) ∧ w = w' := by
  rcases hm with hm | hm
  · go_enter Try.func8, Try.ntmps8
    go_wp2
    go_ret2
    exact ⟨rfl, rfl⟩
  · by_cases h1 : m < 1
    · omega
    · go_enter Try.func8, Try.ntmps8
      go_wp2
      go_ret2
      exact ⟨rfl, rfl⟩

theorem new_good (n : Nat) (h0 : 1 ≤ n) (hn : n ≤ 64) (w : World) : Calls Try.prog 8 #[.int .i64 (n : Int)] w fun e w' => ∃ q c, e = .returned (.tuple #[.pointer (some ⟨q, 0, none⟩), .int .i64 0]) ∧ Q w' q c n [] (· < w.heap.size) ∧ Below w.heap.size w w' := by
  have e1 : ¬ ((n : Int) < 1) := by omega
  have e2 : ¬ ((64 : Int) < (n : Int)) := by omega
  have hmc := mk_chan n hn
  go_enter Try.func8, Try.ntmps8
  go_wp2
  go_ret2
  refine ⟨w.heap.size + 1, rfl, ⟨w.heap.size, ?_, by simp, by simp, ⟨#[], 0, 0, ?_, rfl, fun i x hx => by simp at hx⟩, by simp⟩, ((Below.refl _ _).alloc (Nat.le_refl _) _).alloc (by simp) _⟩
  · have := heap_alloc_new (w.alloc (.chan n #[] false 0 0 false)) (.cells #[.chan (some w.heap.size)] 50)
    simpa only [World.size_alloc] using this
  · exact (Below.heap_alloc _ _ _ (by simp)).trans (heap_alloc_new _ _)


/-- A nil queue refuses. -/
theorem put_nil (x : ByteArray) (w : World) : Calls Try.prog 10 #[.pointer none, Value.string x] w fun e w' => e = .returned (.int .i64 1) ∧ Below w.heap.size w w' := by
  refine calls_of_loneTo fun cs => ?_
  have e : Frame.enter Try.prog 10 #[.pointer none, Value.string x] .normal = (base 10).at ⟨#[.pointer none, Value.string x, undef, undef, undef, undef, undef, undef, undef, undef, undef, undef, undef, undef], []⟩ [.code (Try.f10.body.getD .skip)] := by
    simp [Frame.enter, Frame.at, Try.func10, base, Try.f10]
  rw [e]
  refine LoneTo.goes (n := 60) ?_
  simp only [Try.f10, Option.getD_some]
  repeat (first | s_c stepG_seq | s_reg | s_c stepG_region_end | s_c stepG_block | s_c stepG_skip | s_cond true | s_cond false | s_op | s_c stepG_ret')
  s_stop
  refine LoneTo.done ⟨.returned (.int .i64 1), _, rfl, ⟨rfl, ?_⟩, rfl, rfl, rfl, rfl, _, Try.func10, by simp [results, Try.f10, Frame.at]⟩
  exact (Below.refl _ _).alloc (Nat.le_refl _) _

/-- A full queue refuses. -/
theorem put_full (x : ByteArray) (w : World) (q c cap : Nat) (l : List ByteArray) (Z : Nat → Prop) (h : Q w q c cap l Z) (hf : cap ≤ l.length) :
    Calls Try.prog 10 #[.pointer (some ⟨q, 0, none⟩), Value.string x] w fun e w' => e = .returned (.int .i64 4) ∧ Below w.heap.size w w' := by
  obtain ⟨buf, s, r, h1, h2, h3⟩ := h.here
  have h1' : (w.alloc (.cells ((fun x : ByteArray => #[Value.string x]) x) 9)).heap[c]? = some (.chan cap buf false s r false) := (Below.heap_alloc _ _ _ (blt h1)).trans h1
  have f0 : w.cell? ⟨q, 0, none⟩ = some (.chan (some c)) := by simp [World.cell?, h.head]
  have q0 := h.qlt
  refine calls_of_loneTo fun cs => ?_
  have e : Frame.enter Try.prog 10 #[.pointer (some ⟨q, 0, none⟩), Value.string x] .normal = (base 10).at ⟨#[.pointer (some ⟨q, 0, none⟩), Value.string x, undef, undef, undef, undef, undef, undef, undef, undef, undef, undef, undef, undef], []⟩ [.code (Try.f10.body.getD .skip)] := by
    simp [Frame.enter, Frame.at, Try.func10, base, Try.f10]
  rw [e]
  refine LoneTo.goes (n := 60) ?_
  simp only [Try.f10, Option.getD_some]
  repeat (first | s_c stepG_seq | s_reg | s_c stepG_region_end | s_c stepG_block | s_c stepG_skip | s_cond true | s_cond false | s_op | s_c stepG_ret')
  s_stop
  refine LoneTo.step (step_lone_select_send_full (c := c) (v := .pointer (some ⟨w.heap.size, 0, none⟩)) (z' := .pointer none) (stepG_comm (cases := #[scase c (.pointer (some ⟨w.heap.size, 0, none⟩)) (.pointer none)]) (blocking := false) (shape := .select) (w' := (w.alloc (.cells ((fun x : ByteArray => #[Value.string x]) x) 9))) rfl rfl (by decide) (by simp [go_sem, execOp, scase, Act.eval])) h1' (by omega)) ?_
  rw [Frame.finish_at]
  walk_nrm
  refine LoneTo.goes (n := 60) ?_
  repeat (first | s_c stepG_seq | s_reg | s_c stepG_region_end | s_c stepG_block | s_c stepG_skip | s_cond true | s_cond false | s_op | s_c stepG_ret')
  s_stop
  refine LoneTo.done ⟨.returned (.int .i64 4), _, rfl, ⟨rfl, ?_⟩, rfl, rfl, rfl, rfl, _, Try.func10, by simp [results, Try.f10, Frame.at]⟩
  exact (Below.refl _ _).alloc (Nat.le_refl _) _

/-- One more waits. -/
theorem put_room (x : ByteArray) (w : World) (q c cap : Nat) (l : List ByteArray) (Z : Nat → Prop) (h : Q w q c cap l Z) (hf : l.length < cap) (hZ : ∀ k, Z k → k < w.heap.size) :
    Calls Try.prog 10 #[.pointer (some ⟨q, 0, none⟩), Value.string x] w fun e w' => e = .returned (.int .i64 0) ∧ Q w' q c cap (l ++ [x]) Z ∧ w.grownBy w' (some c) := by
  obtain ⟨buf, s, r, h1, h2, h3⟩ := h.here
  have h1' : (w.alloc (.cells ((fun x : ByteArray => #[Value.string x]) x) 9)).heap[c]? = some (.chan cap buf false s r false) := (Below.heap_alloc _ _ _ (blt h1)).trans h1
  have f0 : w.cell? ⟨q, 0, none⟩ = some (.chan (some c)) := by simp [World.cell?, h.head]
  have q0 := h.qlt
  refine calls_of_loneTo fun cs => ?_
  have e : Frame.enter Try.prog 10 #[.pointer (some ⟨q, 0, none⟩), Value.string x] .normal = (base 10).at ⟨#[.pointer (some ⟨q, 0, none⟩), Value.string x, undef, undef, undef, undef, undef, undef, undef, undef, undef, undef, undef, undef], []⟩ [.code (Try.f10.body.getD .skip)] := by
    simp [Frame.enter, Frame.at, Try.func10, base, Try.f10]
  rw [e]
  refine LoneTo.goes (n := 60) ?_
  simp only [Try.f10, Option.getD_some]
  repeat (first | s_c stepG_seq | s_reg | s_c stepG_region_end | s_c stepG_block | s_c stepG_skip | s_cond true | s_cond false | s_op | s_c stepG_ret')
  s_stop
  refine LoneTo.step (step_lone_select_send_room (c := c) (v := .pointer (some ⟨w.heap.size, 0, none⟩)) (z' := .pointer none) (stepG_comm (cases := #[scase c (.pointer (some ⟨w.heap.size, 0, none⟩)) (.pointer none)]) (blocking := false) (shape := .select) (w' := (w.alloc (.cells ((fun x : ByteArray => #[Value.string x]) x) 9))) rfl rfl (by decide) (by simp [go_sem, execOp, scase, Act.eval])) h1' (by omega)) ?_
  rw [Frame.finish_at]
  walk_nrm
  refine LoneTo.goes (n := 60) ?_
  repeat (first | s_c stepG_seq | s_reg | s_c stepG_region_end | s_c stepG_block | s_c stepG_skip | s_cond true | s_cond false | s_op | s_c stepG_ret')
  s_stop
  refine LoneTo.done ⟨.returned (.int .i64 0), _, rfl, ⟨rfl, ?_, ?_⟩, rfl, rfl, rfl, rfl, _, Try.func10, by simp [results, Try.f10, Frame.at]⟩
  · exact (h.alloc _).more x (heap_alloc_new _ _) (fun hz => Nat.lt_irrefl _ (hZ _ hz)) hf h1' _ _
  · exact grown_trans (grown_below ((Below.refl _ _).alloc (Nat.le_refl _) _)) (grown_setChan _ _ _ _ _ _ _ _)

theorem len_nil (w : World) : Calls Try.prog 11 #[.pointer none] w fun e w' => e = .returned (.int .i64 0) ∧ w = w' := by
  go_enter Try.func11, Try.ntmps11
  go_wp2
  go_ret
  exact ⟨rfl, rfl⟩

theorem len_any (w : World) (q c cap : Nat) (l : List ByteArray) (Z : Nat → Prop) (h : Q w q c cap l Z) : Calls Try.prog 11 #[.pointer (some ⟨q, 0, none⟩)] w fun e w' => e = .returned (.int .i64 (l.length : Int)) ∧ w = w' := by
  obtain ⟨buf, s, r, h1, h2, h3⟩ := h.here
  have f0 : w.cell? ⟨q, 0, none⟩ = some (.chan (some c)) := by simp [World.cell?, h.head]
  have hlen := fun ty => run_len_chan (P := Try.prog) 48 ty Try.underlying48 h1
  rw [h2] at hlen
  go_enter Try.func11, Try.ntmps11
  go_wp2
  go_ret
  exact ⟨rfl, rfl⟩

end Go.Proofs.Ythjbieocffklfaa.QueS
