/- The call Take of a queue of texts, and Drain, by their contracts. -/
import Derived.Test.YthjbieocffklfaaQueAS
namespace Go.Proofs.Ythjbieocffklfaa.QueS
open Go.RowKit Go.Conc Go.Proofs.Ythjbieocffklfaa
set_option linter.unusedVariables false

theorem take_nil (w : World) : Calls Try.prog 9 #[.pointer none] w fun e w' => e = .returned (.tuple #[(Value.string ⟨#[]⟩), .bool false]) ∧ w = w' := by
  refine calls_of_loneTo fun cs => ?_
  have e : Frame.enter Try.prog 9 #[.pointer none] .normal = (base 9).at ⟨#[.pointer none, undef, undef, undef, undef, undef, undef, undef, undef, undef, undef, undef, undef, undef, undef, undef, undef, undef, undef, undef, undef], []⟩ [.code (Try.f9.body.getD .skip)] := by
    simp [Frame.enter, Frame.at, Try.func9, base, Try.f9]
  rw [e]
  refine LoneTo.goes (n := 90) ?_
  simp only [Try.f9, Option.getD_some]
  repeat (first | s_c stepG_seq | s_reg | s_c stepG_region_end | s_c stepG_block | s_c stepG_skip | s_cond true | s_cond false | s_op | s_c stepG_ret')
  s_stop
  exact LoneTo.done ⟨.returned (.tuple #[(Value.string ⟨#[]⟩), .bool false]), _, rfl, ⟨rfl, rfl⟩, rfl, rfl, rfl, rfl, _, Try.func9, by simp [results, Try.f9, Frame.at]⟩

theorem take_none (w : World) (q c cap : Nat) (Z : Nat → Prop) (h : Q w q c cap [] Z) : Calls Try.prog 9 #[.pointer (some ⟨q, 0, none⟩)] w fun e w' => e = .returned (.tuple #[(Value.string ⟨#[]⟩), .bool false]) ∧ w = w' := by
  obtain ⟨buf, s, r, h1, h2, h3⟩ := h.here
  obtain rfl : buf = #[] := Array.eq_empty_of_size_eq_zero h2
  have f0 : w.cell? ⟨q, 0, none⟩ = some (.chan (some c)) := by simp [World.cell?, h.head]
  refine calls_of_loneTo fun cs => ?_
  have e : Frame.enter Try.prog 9 #[.pointer (some ⟨q, 0, none⟩)] .normal = (base 9).at ⟨#[.pointer (some ⟨q, 0, none⟩), undef, undef, undef, undef, undef, undef, undef, undef, undef, undef, undef, undef, undef, undef, undef, undef, undef, undef, undef, undef], []⟩ [.code (Try.f9.body.getD .skip)] := by
    simp [Frame.enter, Frame.at, Try.func9, base, Try.f9]
  rw [e]
  refine LoneTo.goes (n := 90) ?_
  simp only [Try.f9, Option.getD_some]
  repeat (first | s_c stepG_seq | s_reg | s_c stepG_region_end | s_c stepG_block | s_c stepG_skip | s_cond true | s_cond false | s_op | s_c stepG_ret')
  s_stop
  refine LoneTo.step (step_lone_select_default (c := c) (z := .pointer none) (stepG_comm (cases := #[rcase c (.pointer none)]) (blocking := false) (shape := .select) (w' := w) rfl rfl (by decide) (by simp [go_sem, execOp, rcase, Act.eval])) h1) ?_
  rw [Frame.finish_at]
  walk_nrm
  refine LoneTo.goes (n := 60) ?_
  repeat (first | s_c stepG_seq | s_reg | s_c stepG_region_end | s_c stepG_block | s_c stepG_skip | s_cond true | s_cond false | s_op | s_c stepG_ret')
  s_stop
  exact LoneTo.done ⟨.returned (.tuple #[(Value.string ⟨#[]⟩), .bool false]), _, rfl, ⟨rfl, rfl⟩, rfl, rfl, rfl, rfl, _, Try.func9, by simp [results, Try.f9, Frame.at]⟩

theorem take_some (x : ByteArray) (w : World) (q c cap : Nat) (l : List ByteArray) (Z : Nat → Prop) (h : Q w q c cap (x :: l) Z) :
    Calls Try.prog 9 #[.pointer (some ⟨q, 0, none⟩)] w fun e w' => e = .returned (.tuple #[Value.string x, .bool true]) ∧ Q w' q c cap l Z ∧ w.grownBy w' (some c) := by
  obtain ⟨buf, s, r, a, h1, h2, h3, h4, h5⟩ := h.first
  have f0 : w.cell? ⟨q, 0, none⟩ = some (.chan (some c)) := by simp [World.cell?, h.head]
  have f1 : (w.setChan c cap (buf.extract 1 buf.size) false s (r + 1) false).cell? ⟨a, 0, none⟩ = some (Value.string x) := by
    simp only [World.cell?, setChan_ne w _ _ _ _ _ _ h4, h5]
    rfl
  refine calls_of_loneTo fun cs => ?_
  have e : Frame.enter Try.prog 9 #[.pointer (some ⟨q, 0, none⟩)] .normal = (base 9).at ⟨#[.pointer (some ⟨q, 0, none⟩), undef, undef, undef, undef, undef, undef, undef, undef, undef, undef, undef, undef, undef, undef, undef, undef, undef, undef, undef, undef], []⟩ [.code (Try.f9.body.getD .skip)] := by
    simp [Frame.enter, Frame.at, Try.func9, base, Try.f9]
  rw [e]
  refine LoneTo.goes (n := 90) ?_
  simp only [Try.f9, Option.getD_some]
  repeat (first | s_c stepG_seq | s_reg | s_c stepG_region_end | s_c stepG_block | s_c stepG_skip | s_cond true | s_cond false | s_op | s_c stepG_ret')
  s_stop
  refine LoneTo.step (step_lone_select_recv_buf (c := c) (z := .pointer none) (stepG_comm (cases := #[rcase c (.pointer none)]) (blocking := false) (shape := .select) (w' := w) rfl rfl (by decide) (by simp [go_sem, execOp, rcase, Act.eval])) h1 (by omega)) ?_
  rw [Frame.finish_at, h3]
  have g1 := h.less h1 s (r + 1)
  have g2 := grown_setChan w c cap (buf.extract 1 buf.size) false s (r + 1) false
  generalize w.setChan c cap (buf.extract 1 buf.size) false s (r + 1) false = W at f1 g1 g2 ⊢
  clear h3 h2
  walk_nrm
  refine LoneTo.goes (n := 60) ?_
  repeat (first | s_c stepG_seq | s_reg | s_c stepG_region_end | s_c stepG_block | s_c stepG_skip | s_cond true | s_cond false | s_op | s_c stepG_ret')
  s_stop
  refine LoneTo.done ⟨.returned (.tuple #[Value.string x, .bool true]), _, rfl, ⟨rfl, ?_, ?_⟩, rfl, rfl, rfl, rfl, _, Try.func9, by simp [results, Try.f9, Frame.at]⟩
  · exact g1
  · exact g2

end Go.Proofs.Ythjbieocffklfaa.QueS
