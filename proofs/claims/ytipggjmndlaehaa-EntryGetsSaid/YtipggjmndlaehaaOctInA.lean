/- An In in memory; NewIn, Left, Fail, Bad, Done and next, each by its contract. -/
import Derived.Test.YtipggjmndlaehaaOctOutA
import Derived.Deep.RegionWith
namespace Go.Proofs.Ytipggjmndlaehaa
open Go.RowKit
set_option linter.unusedVariables false
set_option linter.unusedSimpArgs false

/-- An In of which l is left. -/
structure InAt (w : World) (i : Nat) (A : Option Addr) (cap : Nat) (l : List UInt8) (Z : Nat → Prop) : Prop where
  head : w.heap[i]? = some (.cells #[.slice A l.length cap, .bool false] 75)
  lies : Lies w A l.length cap l
  off : Off (fun k => k = i ∨ Z k) A l.length
  nz : ¬ Z i

/-- An In that is bad. -/
structure InBad (w : World) (i : Nat) (Z : Nat → Prop) : Prop where
  head : w.heap[i]? = some (.cells #[.slice none 0 0, .bool true] 75)
  nz : ¬ Z i

def In (w : World) (i : Nat) (s : St) (Z : Nat → Prop) : Prop :=
  match s with
  | none => InBad w i Z
  | some l => ∃ A cap, InAt w i A cap l Z

section
variable {w w' : World} {i : Nat} {s : St} {Z Z' : Nat → Prop}

theorem In.keep (h : In w i s Z) (hs : w.heap.size ≤ w'.heap.size) (hk : ∀ k, k < w.heap.size → ¬ Z k → w'.heap[k]? = w.heap[k]?) : In w' i s Z := by
  cases s with
  | none => exact ⟨(hk i (hlt h.head) h.nz).trans h.head, h.nz⟩
  | some l =>
    obtain ⟨A, cap, h⟩ := h
    exact ⟨A, cap, (hk i (hlt h.head) h.nz).trans h.head, h.lies.keep hs fun h0 g off e hg => hk g hg fun hz => h.off h0 g off e (.inr hz), h.off, h.nz⟩

theorem In.below (h : In w i s Z) {B : Nat} (hb : Below B w w') (hB : w.heap.size ≤ B) : In w' i s Z := h.keep hb.size fun k hk _ => hb.block k (Nat.lt_of_lt_of_le hk hB)

theorem In.grown (h : In w i s Z) {row : Option Nat} (hg : w.grownBy w' row) (hr : ∀ k, row = some k → Z k) : In w' i s Z :=
  h.keep hg.size fun k hk hz => hg.block k hk fun e => hz (hr k e.symm)

theorem In.keeps (h : In w i s Z) {Z2 : Nat → Prop} (hk : Keeps Z2 w w') (hall : ∀ k, k < w.heap.size → Z2 k) : In w' i s Z := h.keep hk.size fun k hk' _ => hk.block k hk' (hall k hk')

theorem In.lt (h : In w i s Z) : i < w.heap.size := by
  cases s with
  | none => exact hlt h.head
  | some l => obtain ⟨A, cap, h⟩ := h; exact hlt h.head

theorem In.nz (h : In w i s Z) : ¬ Z i := by
  cases s with
  | none => exact InBad.nz h
  | some l => obtain ⟨A, cap, h⟩ := h; exact h.nz

/-- What is not there yet is none of it. -/
theorem In.out (h : In w i s Z) (hZ : ∀ k, Z' k → Z k ∨ w.heap.size ≤ k) : In w i s Z' := by
  have nz : ∀ k, k < w.heap.size → ¬ Z k → ¬ Z' k := fun k hk hz hz' => by
    rcases hZ k hz' with h | h
    · exact hz h
    · omega
  cases s with
  | none => exact ⟨h.head, nz i (hlt h.head) h.nz⟩
  | some l =>
    obtain ⟨A, cap, h⟩ := h
    refine ⟨A, cap, h.head, h.lies, fun h0 g off e hz => ?_, nz i (hlt h.head) h.nz⟩
    obtain ⟨g', off', e', hg, _⟩ := h.lies.2.2.2 h0
    rw [e] at e'
    injection e' with e'
    injection e' with e1 _ _
    subst e1
    rcases hz with hz | hz
    · exact h.off h0 g off e (.inl hz)
    · exact nz g hg (fun hz2 => h.off h0 g off e (.inr hz2)) hz
end

/-- An In of these bytes, in memory of its own. -/
theorem newIn_any (A : Option Addr) (len cap : Nat) (l : List UInt8) (w : World) (Z : Nat → Prop) (hZ : ∀ k, Z k → k < w.heap.size) (h : Lies w A len cap l) (hb : l.length ≤ 140737488355328) :
    Calls Try.prog 24 #[.slice A len cap] w fun e w' => ∃ i, e = .returned (.pointer (some ⟨i, 0, none⟩)) ∧ In w' i (some l) Z ∧ Below w.heap.size w w' := by
  have hC := clone_any A len cap l w h hb
  clear h
  go_enter Try.func24, Try.ntmps24
  go_wp2_with (go_at_call 42; refine hC.mono ?_; rintro e w1 ⟨v1, rfl, ho, hb⟩; obtain ⟨A1, cap1, rfl, hl1, hl2⟩ := lies_of_owns ho)
  go_ret
  refine ⟨w1.heap.size, rfl, ⟨A1, cap1, heap_alloc_new _ _, hl1.below ((Below.refl _ _).alloc (Nat.le_refl _) _) (Nat.le_refl _), fun h0 g off e hz => ?_, fun hz => ?_⟩, hb.alloc hb.size _⟩
  · obtain ⟨g1, g2⟩ := ho.lt g (hl2 g off e)
    rcases hz with rfl | hz
    · exact Nat.lt_irrefl _ g2
    · exact absurd (hZ g hz) (by omega)
  · have := hZ _ hz
    have := hb.size
    omega

theorem left_nil (w : World) : Calls Try.prog 35 #[.pointer none] w fun e w' => e = .returned (.int .i64 0) ∧ w = w' := by
  go_enter Try.func35, Try.ntmps35
  go_wp2
  go_ret
  exact ⟨rfl, rfl⟩

theorem left_any (w : World) (i : Nat) (s : St) (Z : Nat → Prop) (h : In w i s Z) : Calls Try.prog 35 #[.pointer (some ⟨i, 0, none⟩)] w fun e w' => e = .returned (.int .i64 (left s : Int)) ∧ w = w' := by
  cases s with
  | none =>
    have f0 : w.cell? ⟨i, 0, none⟩ = some (.slice none 0 0) := by simp [World.cell?, h.head]
    go_enter Try.func35, Try.ntmps35
    go_wp2
    go_ret
    exact ⟨rfl, rfl⟩
  | some l =>
    obtain ⟨A, cap, h⟩ := h
    have f0 : w.cell? ⟨i, 0, none⟩ = some (.slice A l.length cap) := by simp [World.cell?, h.head]
    go_enter Try.func35, Try.ntmps35
    go_wp2
    go_ret
    exact ⟨rfl, rfl⟩

theorem fail_nil (w : World) : Calls Try.prog 57 #[.pointer none] w fun e w' => e = .returned (.tuple #[]) ∧ w = w' := by
  go_enter Try.func57, Try.ntmps57
  go_wp2
  refine bodyPost_end (results_none rfl _ _ _) rfl ?_
  exact ⟨rfl, rfl⟩

theorem In.cells {w : World} {i : Nat} {s : St} {Z : Nat → Prop} (h : In w i s Z) : ∃ A len cap, w.heap[i]? = some (.cells #[.slice A len cap, .bool s.isNone] 75) ∧ len = left s ∧ ¬ Z i := by
  cases s with
  | none => exact ⟨none, 0, 0, h.head, rfl, h.nz⟩
  | some l => obtain ⟨A, cap, h⟩ := h; exact ⟨A, l.length, cap, h.head, rfl, h.nz⟩

theorem fail_any (w : World) (i : Nat) (s : St) (Z : Nat → Prop) (h : In w i s Z) : Calls Try.prog 57 #[.pointer (some ⟨i, 0, none⟩)] w fun e w' => e = .returned (.tuple #[]) ∧ In w' i none Z ∧ Keeps Z w w' := by
  obtain ⟨A, len, cap, hh, _, hz⟩ := h.cells
  have f0 : w.cell? ⟨i, 0, none⟩ = some (.slice A len cap) := by simp [World.cell?, hh]
  have f1 : w.cell? ⟨i, 1, none⟩ = some (.bool s.isNone) := by simp [World.cell?, hh]
  have g0 : w.frozen? ⟨i, 0, none⟩ = false := by simp [World.frozen?, hh]
  have g1 : w.frozen? ⟨i, 1, none⟩ = false := by simp [World.frozen?, hh]
  have hend : In ((w.setCell ⟨i, 0, none⟩ (.slice none 0 0)).setCell ⟨i, 1, none⟩ (.bool true)) i none Z := ⟨by
    rw [setCell_at _ ⟨i, 1, none⟩ _ _ _ _ rfl (setCell_at _ ⟨i, 0, none⟩ _ _ _ _ rfl hh)]
    rfl, hz⟩
  have hk : Keeps Z w ((w.setCell ⟨i, 0, none⟩ (.slice none 0 0)).setCell ⟨i, 1, none⟩ (.bool true)) := (keeps_setCell _ _ _ hz).trans (keeps_setCell _ _ _ hz)
  go_enter Try.func57, Try.ntmps57
  go_wp2
  all_goals
    refine bodyPost_end (results_none rfl _ _ _) rfl ?_
    exact ⟨rfl, hend, hk⟩

theorem bad_nil (w : World) : Calls Try.prog 34 #[.pointer none] w fun e w' => e = .returned (.bool false) ∧ w = w' := by
  go_enter Try.func34, Try.ntmps34
  go_wp2
  go_ret
  exact ⟨rfl, rfl⟩

theorem bad_any (w : World) (i : Nat) (s : St) (Z : Nat → Prop) (h : In w i s Z) : Calls Try.prog 34 #[.pointer (some ⟨i, 0, none⟩)] w fun e w' => e = .returned (.bool s.isNone) ∧ w = w' := by
  obtain ⟨A, len, cap, hh, _, hz⟩ := h.cells
  have f1 : w.cell? ⟨i, 1, none⟩ = some (.bool s.isNone) := by simp [World.cell?, hh]
  go_enter Try.func34, Try.ntmps34
  go_wp2
  go_ret
  exact ⟨rfl, rfl⟩

theorem done_nil (w : World) : Calls Try.prog 30 #[.pointer none] w fun e w' => e = .returned (.bool false) ∧ w = w' := by
  go_enter Try.func30, Try.ntmps30
  go_wp2
  go_ret
  exact ⟨rfl, rfl⟩

theorem done_bad (w : World) (i : Nat) (Z : Nat → Prop) (h : In w i none Z) : Calls Try.prog 30 #[.pointer (some ⟨i, 0, none⟩)] w fun e w' => e = .returned (.bool false) ∧ w = w' := by
  have f1 : w.cell? ⟨i, 1, none⟩ = some (.bool true) := by simp [World.cell?, h.head]
  go_enter Try.func30, Try.ntmps30
  go_wp2
  go_ret
  exact ⟨rfl, rfl⟩

theorem done_good (w : World) (i : Nat) (l : List UInt8) (Z : Nat → Prop) (h : In w i (some l) Z) : Calls Try.prog 30 #[.pointer (some ⟨i, 0, none⟩)] w fun e w' => e = .returned (.bool (decide (l.length = 0))) ∧ w = w' := by
  obtain ⟨A, cap, h⟩ := h
  have f0 : w.cell? ⟨i, 0, none⟩ = some (.slice A l.length cap) := by simp [World.cell?, h.head]
  have f1 : w.cell? ⟨i, 1, none⟩ = some (.bool false) := by simp [World.cell?, h.head]
  go_enter Try.func30, Try.ntmps30
  go_wp2
  go_ret
  refine ⟨?_, rfl⟩
  cases l with
  | nil => rfl
  | cons x l =>
    have : ((x :: l).length : Int) ≠ 0 := by simp; omega
    rw [beq_eq_false_iff_ne.2 this]
    rfl

theorem done_any (w : World) (i : Nat) (s : St) (Z : Nat → Prop) (h : In w i s Z) : Calls Try.prog 30 #[.pointer (some ⟨i, 0, none⟩)] w fun e w' => e = .returned (.bool (decide (s = some []))) ∧ w = w' := by
  cases s with
  | none => exact (done_bad w i Z h).mono fun e w' ⟨h1, h2⟩ => ⟨by rw [h1]; simp, h2⟩
  | some l => exact (done_good w i l Z h).mono fun e w' ⟨h1, h2⟩ => ⟨by rw [h1]; simp, h2⟩

/- next -/
theorem next_nil (n : Nat) (w : World) : Calls Try.prog 65 #[.pointer none, .int .i64 (n : Int)] w fun e w' => e = .returned (.slice none 0 0) ∧ w = w' := by
  by_cases hn : (0 : Int) < (n : Int)
  all_goals
    go_enter Try.func65, Try.ntmps65
    go_wp2_with (first
      | (go_at_call 35; refine (left_nil _).mono ?_; rintro e w1 ⟨rfl, rfl⟩)
      | (go_at_call 57; refine (fail_nil _).mono ?_; rintro e w1 ⟨rfl, rfl⟩))
    go_ret
    exact ⟨rfl, rfl⟩

/-- What isn't there makes it bad. -/
theorem next_over (n : Nat) (w : World) (i : Nat) (s : St) (Z : Nat → Prop) (h : In w i s Z) (hn : left s < n) :
    Calls Try.prog 65 #[.pointer (some ⟨i, 0, none⟩), .int .i64 (n : Int)] w fun e w' => e = .returned (.slice none 0 0) ∧ In w' i none Z ∧ Keeps Z w w' := by
  have hL := left_any w i s Z h
  have hF := fail_any w i s Z h
  have hn' : (left s : Int) < (n : Int) := by omega
  go_enter Try.func65, Try.ntmps65
  go_wp2_with (first
    | (go_at_call 35; refine hL.mono ?_; rintro e w1 ⟨rfl, rfl⟩)
    | (go_at_call 57; refine hF.mono ?_; rintro e w1 ⟨rfl, h1, k1⟩; have f1 : w1.cell? ⟨i, 1, none⟩ = some (.bool true) := by simp [World.cell?, InBad.head h1]))
  go_ret
  exact ⟨rfl, h1, k1⟩

theorem next_bad (n : Nat) (w : World) (i : Nat) (Z : Nat → Prop) (h : In w i none Z) :
    Calls Try.prog 65 #[.pointer (some ⟨i, 0, none⟩), .int .i64 (n : Int)] w fun e w' => e = .returned (.slice none 0 0) ∧ In w' i none Z ∧ Keeps Z w w' := by
  by_cases hn : n = 0
  · subst hn
    have hL := left_any w i none Z h
    have f1 : w.cell? ⟨i, 1, none⟩ = some (.bool true) := by simp [World.cell?, InBad.head h]
    go_enter Try.func65, Try.ntmps65
    go_wp2_with (go_at_call 35; refine hL.mono ?_; rintro e w1 ⟨rfl, rfl⟩; simp only [left])
    go_ret
    exact ⟨rfl, h, Keeps.refl _ _⟩
  · exact next_over n w i none Z h (by simp [left]; omega)

theorem next_fits (n : Nat) (w : World) (i : Nat) (l : List UInt8) (Z : Nat → Prop) (h : In w i (some l) Z) (hn : n ≤ l.length) :
    Calls Try.prog 65 #[.pointer (some ⟨i, 0, none⟩), .int .i64 (n : Int)] w fun e w' => ∃ A cap, e = .returned (.slice A n cap) ∧ Lies w' A n cap (l.take n) ∧ In w' i (some (l.drop n)) Z ∧ Keeps Z w w' := by
  have hL := left_any w i (some l) Z h
  obtain ⟨A, cap, h⟩ := h
  have f0 : w.cell? ⟨i, 0, none⟩ = some (.slice A l.length cap) := by simp [World.cell?, h.head]
  have f1 : w.cell? ⟨i, 1, none⟩ = some (.bool false) := by simp [World.cell?, h.head]
  have g0 : w.frozen? ⟨i, 0, none⟩ = false := by simp [World.frozen?, h.head]
  have hc := h.lies.2.1
  have s1 := run_front Try.underlying25 sizeOf_u8 A l.length cap n (by omega)
  have s2 := run_rest Try.underlying25 sizeOf_u8 A l.length cap n hn hc
  have hn' : ¬ ((l.length : Int) < (n : Int)) := by omega
  have hk : Keeps Z w (w.setCell ⟨i, 0, none⟩ (.slice (restAt A cap n) (l.length - n) (cap - n))) := keeps_setCell _ _ _ h.nz
  have hkeep : ∀ (len : Nat) (A' : Option Addr) (c : Nat) (l' : List UInt8), (0 < len → ∀ g off, A' = some ⟨g, off, none⟩ → ∃ off', A = some ⟨g, off', none⟩) → (0 < len → 0 < l.length) → Lies w A' len c l' → Lies (w.setCell ⟨i, 0, none⟩ (.slice (restAt A cap n) (l.length - n) (cap - n))) A' len c l' := fun len A' c l' ha hlen hl =>
    hl.keep (by simp) fun h0 g off e hg => Below.heap_setCell _ _ _ _ fun eg => by
      obtain ⟨off', e'⟩ := ha h0 g off e
      exact h.off (hlen h0) g off' e' (.inl eg)
  have hrest : 0 < l.length - n → ∀ g off, restAt A cap n = some ⟨g, off, none⟩ → ∃ off', A = some ⟨g, off', none⟩ := fun h0 g off e => by
    obtain ⟨g', off', e', _⟩ := h.lies.2.2.2 (by omega)
    rw [e', restAt_lit _ _ _ _ (by omega)] at e
    injection e with e
    injection e with e1 _ _
    subst e1
    exact ⟨off', e'⟩
  have hin : In (w.setCell ⟨i, 0, none⟩ (.slice (restAt A cap n) (l.length - n) (cap - n))) i (some (l.drop n)) Z := by
    refine ⟨restAt A cap n, cap - n, ?_, ?_, fun h0 g off e hz => ?_, h.nz⟩
    · rw [setCell_at _ ⟨i, 0, none⟩ _ _ _ _ rfl h.head, List.length_drop]
      rfl
    · rw [List.length_drop]
      exact hkeep _ _ _ _ hrest (by omega) (h.lies.drop n hn)
    · rw [List.length_drop] at h0
      obtain ⟨off', e'⟩ := hrest h0 g off e
      exact h.off (by omega) g off' e' hz
  have hfront : Lies (w.setCell ⟨i, 0, none⟩ (.slice (restAt A cap n) (l.length - n) (cap - n))) A n cap (l.take n) := hkeep _ _ _ _ (fun _ g off e => ⟨off, e⟩) (by omega) (h.lies.take n hn)
  clear hkeep hrest h
  go_enter Try.func65, Try.ntmps65
  go_wp2_with (go_at_call 35; refine hL.mono ?_; rintro e w1 ⟨rfl, rfl⟩; simp only [left])
  go_ret
  exact ⟨A, cap, rfl, hfront, hin, hk⟩

/-- The next bytes, as they lie in the In's own memory. -/
theorem next_any (n : Nat) (w : World) (i : Nat) (s : St) (Z : Nat → Prop) (h : In w i s Z) :
    Calls Try.prog 65 #[.pointer (some ⟨i, 0, none⟩), .int .i64 (n : Int)] w fun e w' => ∃ A len cap, e = .returned (.slice A len cap) ∧ Lies w' A len cap (takeN s n).1 ∧ In w' i (takeN s n).2 Z ∧ Keeps Z w w' := by
  cases s with
  | none => exact (next_bad n w i Z h).mono fun e w' ⟨h1, h2, h3⟩ => ⟨none, 0, 0, h1, Lies.nil _, h2, h3⟩
  | some l =>
    by_cases hn : n ≤ l.length
    · refine (next_fits n w i l Z h hn).mono fun e w' ⟨A, cap, h1, h2, h3, h4⟩ => ⟨A, n, cap, h1, ?_, ?_, h4⟩
      · simp only [takeN, if_pos hn]; exact h2
      · simp only [takeN, if_pos hn]; exact h3
    · refine (next_over n w i (some l) Z h (by simp [left]; omega)).mono fun e w' ⟨h1, h2, h3⟩ => ⟨none, 0, 0, h1, ?_, ?_, h3⟩
      · simp only [takeN, if_neg hn]; exact Lies.nil _
      · simp only [takeN, if_neg hn]; exact h2

end Go.Proofs.Ytipggjmndlaehaa
