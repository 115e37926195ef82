/- An In in memory; NewIn, Left, Fail, Bad, Done and next, each by its contract. -/
import Derived.Test.YtlojjodgoeclfaaOctO
import Derived.Deep.RegionWith
import Derived.Deep.Cut
namespace Go.Proofs.Ytlojjodgoeclfaa
open Go.RowKit
set_option linter.unusedVariables false
set_option linter.unusedSimpArgs false

/-- An In of which l is left. -/
structure InAt (w : World) (i : Nat) (A : Option Addr) (cap : Nat) (l : List UInt8) (Z : Nat → Prop) : Prop where
  head : w.heap[i]? = some (.cells #[.slice A l.length cap, .bool false] 76)
  lies : Lies w A l.length cap l
  off : Off (fun k => k = i ∨ Z k) A l.length
  nz : ¬ Z i

/-- An In that is bad. -/
structure InBad (w : World) (i : Nat) (Z : Nat → Prop) : Prop where
  head : w.heap[i]? = some (.cells #[.slice none 0 0, .bool true] 76)
  nz : ¬ Z i

def In (w : World) (i : Nat) (s : St) (Z : Nat → Prop) : Prop :=
  match s with
  | none => InBad w i Z
  | some l => ∃ A cap, InAt w i A cap l Z

section
variable {w w' : World} {i : Nat} {s : St} {Z Z' : Nat → Prop}

theorem In.keep (h : In w i s Z) (hs : w.heap.size ≤ w'.heap.size) (hk : ∀ k, k < w.heap.size → ¬ Z k → w'.heap[k]? = w.heap[k]?) : In w' i s Z := by
  cases s with
  | none => exact ⟨(hk i (hlt h.head) h.nz).trans h.head, h.nz⟩
  | some l =>
    obtain ⟨A, cap, h⟩ := h
    exact ⟨A, cap, (hk i (hlt h.head) h.nz).trans h.head, h.lies.keep hs fun h0 g off e hg => hk g hg fun hz => h.off h0 g off e (.inr hz), h.off, h.nz⟩

theorem In.below (h : In w i s Z) {B : Nat} (hb : Below B w w') (hB : w.heap.size ≤ B) : In w' i s Z := h.keep hb.size fun k hk _ => hb.block k (Nat.lt_of_lt_of_le hk hB)

theorem In.grown (h : In w i s Z) {row : Option Nat} (hg : w.grownBy w' row) (hr : ∀ k, row = some k → Z k) : In w' i s Z :=
  h.keep hg.size fun k hk hz => hg.block k hk fun e => hz (hr k e.symm)

theorem In.keeps (h : In w i s Z) {Z2 : Nat → Prop} (hk : Keeps Z2 w w') (hall : ∀ k, k < w.heap.size → Z2 k) : In w' i s Z := h.keep hk.size fun k hk' _ => hk.block k hk' (hall k hk')

theorem In.lt (h : In w i s Z) : i < w.heap.size := by
  cases s with
  | none => exact hlt h.head
  | some l => obtain ⟨A, cap, h⟩ := h; exact hlt h.head

theorem In.nz (h : In w i s Z) : ¬ Z i := by
  cases s with
  | none => exact InBad.nz h
  | some l => obtain ⟨A, cap, h⟩ := h; exact h.nz

/-- What is not there yet is none of it. -/
theorem In.out (h : In w i s Z) (hZ : ∀ k, Z' k → Z k ∨ w.heap.size ≤ k) : In w i s Z' := by
  have nz : ∀ k, k < w.heap.size → ¬ Z k → ¬ Z' k := fun k hk hz hz' => by
    rcases hZ k hz' with h | h
    · exact hz h
    · omega
  cases s with
  | none => exact ⟨h.head, nz i (hlt h.head) h.nz⟩
  | some l =>
    obtain ⟨A, cap, h⟩ := h
    refine ⟨A, cap, h.head, h.lies, fun h0 g off e hz => ?_, nz i (hlt h.head) h.nz⟩
    obtain ⟨g', off', e', hg, _⟩ := h.lies.2.2.2 h0
    rw [e] at e'
    injection e' with e'
    injection e' with e1 _ _
    subst e1
    rcases hz with hz | hz
    · exact h.off h0 g off e (.inl hz)
    · exact nz g hg (fun hz2 => h.off h0 g off e (.inr hz2)) hz
end

/-- An In of these bytes, in memory of its own. -/
theorem newIn_any (A : Option Addr) (len cap : Nat) (l : List UInt8) (w : World) (Z : Nat → Prop) (hZ : ∀ k, Z k → k < w.heap.size) (h : Lies w A len cap l) (hb : l.length ≤ 140737488355328) :
    Calls Try.prog 17 #[.slice A len cap] w fun e w' => ∃ i, e = .returned (.pointer (some ⟨i, 0, none⟩)) ∧ In w' i (some l) Z ∧ Below w.heap.size w w' := by
  have hC := clone_any A len cap l w h hb
  clear h
  go_enter Try.func17, Try.ntmps17
  go_wp2_with (go_at_call 43; refine hC.mono ?_; rintro e w1 ⟨v1, rfl, ho, hb⟩; obtain ⟨A1, cap1, rfl, hl1, hl2⟩ := lies_of_owns ho)
  go_ret
  refine ⟨w1.heap.size, rfl, ⟨A1, cap1, heap_alloc_new _ _, hl1.below ((Below.refl _ _).alloc (Nat.le_refl _) _) (Nat.le_refl _), fun h0 g off e hz => ?_, fun hz => ?_⟩, hb.alloc hb.size _⟩
  · obtain ⟨g1, g2⟩ := ho.lt g (hl2 g off e)
    rcases hz with rfl | hz
    · exact Nat.lt_irrefl _ g2
    · exact absurd (hZ g hz) (by omega)
  · have := hZ _ hz
    have := hb.size
    omega

theorem left_nil (w : World) : Calls Try.prog 23 #[.pointer none] w fun e w' => e = .returned (.int .i64 0) ∧ w = w' := by
  go_enter Try.func23, Try.ntmps23
  go_wp2
  go_ret
  exact ⟨rfl, rfl⟩

theorem left_any (w : World) (i : Nat) (s : St) (Z : Nat → Prop) (h : In w i s Z) : Calls Try.prog 23 #[.pointer (some ⟨i, 0, none⟩)] w fun e w' => e = .returned (.int .i64 (left s : Int)) ∧ w = w' := by
  cases s with
  | none =>
    have f0 : w.cell? ⟨i, 0, none⟩ = some (.slice none 0 0) := by simp [World.cell?, h.head]
    go_enter Try.func23, Try.ntmps23
    go_wp2
    go_ret
    exact ⟨rfl, rfl⟩
  | some l =>
    obtain ⟨A, cap, h⟩ := h
    have f0 : w.cell? ⟨i, 0, none⟩ = some (.slice A l.length cap) := by simp [World.cell?, h.head]
    go_enter Try.func23, Try.ntmps23
    go_wp2
    go_ret
    exact ⟨rfl, rfl⟩

theorem fail_nil (w : World) : Calls Try.prog 50 #[.pointer none] w fun e w' => e = .returned (.tuple #[]) ∧ w = w' := by
  go_enter Try.func50, Try.ntmps50
  go_wp2
  refine bodyPost_end (results_none rfl _ _ _) rfl ?_
  exact ⟨rfl, rfl⟩

theorem In.cells {w : World} {i : Nat} {s : St} {Z : Nat → Prop} (h : In w i s Z) : ∃ A len cap, w.heap[i]? = some (.cells #[.slice A len cap, .bool s.isNone] 76) ∧ len = left s ∧ ¬ Z i := by
  cases s with
  | none => exact ⟨none, 0, 0, h.head, rfl, h.nz⟩
  | some l => obtain ⟨A, cap, h⟩ := h; exact ⟨A, l.length, cap, h.head, rfl, h.nz⟩

theorem fail_any (w : World) (i : Nat) (s : St) (Z : Nat → Prop) (h : In w i s Z) : Calls Try.prog 50 #[.pointer (some ⟨i, 0, none⟩)] w fun e w' => e = .returned (.tuple #[]) ∧ In w' i none Z ∧ Keeps Z w w' := by
  obtain ⟨A, len, cap, hh, _, hz⟩ := h.cells
  have f0 : w.cell? ⟨i, 0, none⟩ = some (.slice A len cap) := by simp [World.cell?, hh]
  have f1 : w.cell? ⟨i, 1, none⟩ = some (.bool s.isNone) := by simp [World.cell?, hh]
  have g0 : w.frozen? ⟨i, 0, none⟩ = false := by simp [World.frozen?, hh]
  have g1 : w.frozen? ⟨i, 1, none⟩ = false := by simp [World.frozen?, hh]
  have hend : In ((w.setCell ⟨i, 0, none⟩ (.slice none 0 0)).setCell ⟨i, 1, none⟩ (.bool true)) i none Z := ⟨by
    rw [setCell_at _ ⟨i, 1, none⟩ _ _ _ _ rfl (setCell_at _ ⟨i, 0, none⟩ _ _ _ _ rfl hh)]
    rfl, hz⟩
  have hk : Keeps Z w ((w.setCell ⟨i, 0, none⟩ (.slice none 0 0)).setCell ⟨i, 1, none⟩ (.bool true)) := (keeps_setCell _ _ _ hz).trans (keeps_setCell _ _ _ hz)
  go_enter Try.func50, Try.ntmps50
  go_wp2
  all_goals
    refine bodyPost_end (results_none rfl _ _ _) rfl ?_
    exact ⟨rfl, hend, hk⟩

theorem bad_nil (w : World) : Calls Try.prog 19 #[.pointer none] w fun e w' => e = .returned (.bool false) ∧ w = w' := by
  go_enter Try.func19, Try.ntmps19
  go_wp2
  go_ret
  exact ⟨rfl, rfl⟩

theorem bad_any (w : World) (i : Nat) (s : St) (Z : Nat → Prop) (h : In w i s Z) : Calls Try.prog 19 #[.pointer (some ⟨i, 0, none⟩)] w fun e w' => e = .returned (.bool s.isNone) ∧ w = w' := by
  obtain ⟨A, len, cap, hh, _, hz⟩ := h.cells
  have f1 : w.cell? ⟨i, 1, none⟩ = some (.bool s.isNone) := by simp [World.cell?, hh]
  go_enter Try.func19, Try.ntmps19
  go_wp2
  go_ret
  exact ⟨rfl, rfl⟩

theorem done_nil (w : World) : Calls Try.prog 20 #[.pointer none] w fun e w' => e = .returned (.bool false) ∧ w = w' := by
  go_enter Try.func20, Try.ntmps20
  go_wp2
  go_ret
  exact ⟨rfl, rfl⟩

theorem done_bad (w : World) (i : Nat) (Z : Nat → Prop) (h : In w i none Z) : Calls Try.prog 20 #[.pointer (some ⟨i, 0, none⟩)] w fun e w' => e = .returned (.bool false) ∧ w = w' := by
  have f1 : w.cell? ⟨i, 1, none⟩ = some (.bool true) := by simp [World.cell?, h.head]
  go_enter Try.func20, Try.ntmps20
  go_wp2
  go_ret
  exact ⟨rfl, rfl⟩

theorem done_good (w : World) (i : Nat) (l : List UInt8) (Z : Nat → Prop) (h : In w i (some l) Z) : Calls Try.prog 20 #[.pointer (some ⟨i, 0, none⟩)] w fun e w' => e = .returned (.bool (decide (l.length = 0))) ∧ w = w' := by
  obtain ⟨A, cap, h⟩ := h
  have f0 : w.cell? ⟨i, 0, none⟩ = some (.slice A l.length cap) := by simp [World.cell?, h.head]
  have f1 : w.cell? ⟨i, 1, none⟩ = some (.bool false) := by simp [World.cell?, h.head]
  go_enter Try.func20, Try.ntmps20
  go_wp2
  go_ret
  refine ⟨?_, rfl⟩
  cases l with
  | nil => rfl
  | cons x l =>
    have : ((x :: l).length : Int) ≠ 0 := by simp; omega
    rw [beq_eq_false_iff_ne.2 this]
    rfl

theorem done_any (w : World) (i : Nat) (s : St) (Z : Nat → Prop) (h : In w i s Z) : Calls Try.prog 20 #[.pointer (some ⟨i, 0, none⟩)] w fun e w' => e = .returned (.bool (decide (s = some []))) ∧ w = w' := by
  cases s with
  | none => exact (done_bad w i Z h).mono fun e w' ⟨h1, h2⟩ => ⟨by rw [h1]; simp, h2⟩
  | some l => exact (done_good w i l Z h).mono fun e w' ⟨h1, h2⟩ => ⟨by rw [h1]; simp, h2⟩

/- next -/
theorem next_nil (n : Nat) (w : World) : Calls Try.prog 89 #[.pointer none, .int .i64 (n : Int)] w fun e w' => e = .returned (.slice none 0 0) ∧ w = w' := by
  by_cases hn : (0 : Int) < (n : Int)
  all_goals
    go_enter Try.func89, Try.ntmps89
    go_wp2_with (first
      | (go_at_call 23; refine (left_nil _).mono ?_; rintro e w1 ⟨rfl, rfl⟩)
      | (go_at_call 50; refine (fail_nil _).mono ?_; rintro e w1 ⟨rfl, rfl⟩))
    go_ret
    exact ⟨rfl, rfl⟩

/-- What isn't there makes it bad. -/
theorem next_over (n : Nat) (w : World) (i : Nat) (s : St) (Z : Nat → Prop) (h : In w i s Z) (hn : left s < n) :
    Calls Try.prog 89 #[.pointer (some ⟨i, 0, none⟩), .int .i64 (n : Int)] w fun e w' => e = .returned (.slice none 0 0) ∧ In w' i none Z ∧ Keeps Z w w' := by
  have hL := left_any w i s Z h
  have hF := fail_any w i s Z h
  have hn' : (left s : Int) < (n : Int) := by omega
  go_enter Try.func89, Try.ntmps89
  go_wp2_with (first
    | (go_at_call 23; refine hL.mono ?_; rintro e w1 ⟨rfl, rfl⟩)
    | (go_at_call 50; refine hF.mono ?_; rintro e w1 ⟨rfl, h1, k1⟩; have f1 : w1.cell? ⟨i, 1, none⟩ = some (.bool true) := by simp [World.cell?, InBad.head h1]))
  go_ret
  exact ⟨rfl, h1, k1⟩

theorem next_bad (n : Nat) (w : World) (i : Nat) (Z : Nat → Prop) (h : In w i none Z) :
    Calls Try.prog 89 #[.pointer (some ⟨i, 0, none⟩), .int .i64 (n : Int)] w fun e w' => e = .returned (.slice none 0 0) ∧ In w' i none Z ∧ Keeps Z w w' := by
  by_cases hn : n = 0
  · subst hn
    have hL := left_any w i none Z h
    have f1 : w.cell? ⟨i, 1, none⟩ = some (.bool true) := by simp [World.cell?, InBad.head h]
    go_enter Try.func89, Try.ntmps89
    go_wp2_with (go_at_call 23; refine hL.mono ?_; rintro e w1 ⟨rfl, rfl⟩; simp only [left])
    go_ret
    exact ⟨rfl, h, Keeps.refl _ _⟩
  · exact next_over n w i none Z h (by simp [left]; omega)

theorem next_fits (n : Nat) (w : World) (i : Nat) (l : List UInt8) (Z : Nat → Prop) (h : In w i (some l) Z) (hn : n ≤ l.length) :
    Calls Try.prog 89 #[.pointer (some ⟨i, 0, none⟩), .int .i64 (n : Int)] w fun e w' => ∃ A cap, e = .returned (.slice A n cap) ∧ Lies w' A n cap (l.take n) ∧ In w' i (some (l.drop n)) Z ∧ Keeps Z w w' := by
  have hL := left_any w i (some l) Z h
  obtain ⟨A, cap, h⟩ := h
  have f0 : w.cell? ⟨i, 0, none⟩ = some (.slice A l.length cap) := by simp [World.cell?, h.head]
  have f1 : w.cell? ⟨i, 1, none⟩ = some (.bool false) := by simp [World.cell?, h.head]
  have g0 : w.frozen? ⟨i, 0, none⟩ = false := by simp [World.frozen?, h.head]
  have hc := h.lies.2.1
  have s1 := run_front Try.underlying23 sizeOf_u8 A l.length cap n (by omega)
  have s2 := run_rest Try.underlying23 sizeOf_u8 A l.length cap n hn hc
  have hn' : ¬ ((l.length : Int) < (n : Int)) := by omega
  have hk : Keeps Z w (w.setCell ⟨i, 0, none⟩ (.slice (restAt A cap n) (l.length - n) (cap - n))) := keeps_setCell _ _ _ h.nz
  have hkeep : ∀ (len : Nat) (A' : Option Addr) (c : Nat) (l' : List UInt8), (0 < len → ∀ g off, A' = some ⟨g, off, none⟩ → ∃ off', A = some ⟨g, off', none⟩) → (0 < len → 0 < l.length) → Lies w A' len c l' → Lies (w.setCell ⟨i, 0, none⟩ (.slice (restAt A cap n) (l.length - n) (cap - n))) A' len c l' := fun len A' c l' ha hlen hl =>
    hl.keep (by simp) fun h0 g off e hg => Below.heap_setCell _ _ _ _ fun eg => by
      obtain ⟨off', e'⟩ := ha h0 g off e
      exact h.off (hlen h0) g off' e' (.inl eg)
  have hrest : 0 < l.length - n → ∀ g off, restAt A cap n = some ⟨g, off, none⟩ → ∃ off', A = some ⟨g, off', none⟩ := fun h0 g off e => by
    obtain ⟨g', off', e', _⟩ := h.lies.2.2.2 (by omega)
    rw [e', restAt_lit _ _ _ _ (by omega)] at e
    injection e with e
    injection e with e1 _ _
    subst e1
    exact ⟨off', e'⟩
  have hin : In (w.setCell ⟨i, 0, none⟩ (.slice (restAt A cap n) (l.length - n) (cap - n))) i (some (l.drop n)) Z := by
    refine ⟨restAt A cap n, cap - n, ?_, ?_, fun h0 g off e hz => ?_, h.nz⟩
    · rw [setCell_at _ ⟨i, 0, none⟩ _ _ _ _ rfl h.head, List.length_drop]
      rfl
    · rw [List.length_drop]
      exact hkeep _ _ _ _ hrest (by omega) (h.lies.drop n hn)
    · rw [List.length_drop] at h0
      obtain ⟨off', e'⟩ := hrest h0 g off e
      exact h.off (by omega) g off' e' hz
  have hfront : Lies (w.setCell ⟨i, 0, none⟩ (.slice (restAt A cap n) (l.length - n) (cap - n))) A n cap (l.take n) := hkeep _ _ _ _ (fun _ g off e => ⟨off, e⟩) (by omega) (h.lies.take n hn)
  clear hkeep hrest h
  go_enter Try.func89, Try.ntmps89
  go_wp2_with (go_at_call 23; refine hL.mono ?_; rintro e w1 ⟨rfl, rfl⟩; simp only [left])
  go_ret
  exact ⟨A, cap, rfl, hfront, hin, hk⟩

/-- The next bytes, as they lie in the In's own memory. -/
theorem next_any (n : Nat) (w : World) (i : Nat) (s : St) (Z : Nat → Prop) (h : In w i s Z) :
    Calls Try.prog 89 #[.pointer (some ⟨i, 0, none⟩), .int .i64 (n : Int)] w fun e w' => ∃ A len cap, e = .returned (.slice A len cap) ∧ Lies w' A len cap (takeN s n).1 ∧ In w' i (takeN s n).2 Z ∧ Keeps Z w w' := by
  cases s with
  | none => exact (next_bad n w i Z h).mono fun e w' ⟨h1, h2, h3⟩ => ⟨none, 0, 0, h1, Lies.nil _, h2, h3⟩
  | some l =>
    by_cases hn : n ≤ l.length
    · refine (next_fits n w i l Z h hn).mono fun e w' ⟨A, cap, h1, h2, h3, h4⟩ => ⟨A, n, cap, h1, ?_, ?_, h4⟩
      · simp only [takeN, if_pos hn]; exact h2
      · simp only [takeN, if_pos hn]; exact h3
    · refine (next_over n w i (some l) Z h (by simp [left]; omega)).mono fun e w' ⟨h1, h2, h3⟩ => ⟨none, 0, 0, h1, ?_, ?_, h3⟩
      · simp only [takeN, if_neg hn]; exact Lies.nil _
      · simp only [takeN, if_neg hn]; exact h2

end Go.Proofs.Ytlojjodgoeclfaa

namespace Go.Proofs.Ytlojjodgoeclfaa
open Go.RowKit
set_option linter.unusedVariables false
set_option linter.unusedSimpArgs false

theorem or_byte (x : Nat) (b : UInt8) (hx : x < 72057594037927936) : bits BinOp.or IntKind.u64 (IntKind.u64.wrap ((x : Int) * 256)) (IntKind.u64.wrap (b.toNat : Int)) = ((x * 256 + b.toNat : Nat) : Int) := by
  have hb : b.toNat < 256 := b.toNat_lt
  rw [IntWalk.u64_in _ (by omega), IntWalk.u64_in _ (by omega)]
  rw [bits_join .u64 64 (by decide) (fun m h0 h1 => IntWalk.u64_in _ (by omega)) 8 _ _ (by omega) (by omega) (by omega) (by omega) (by omega) (by omega)]
  omega

theorem take_get (l : List UInt8) (k : Nat) (h : k < l.length) : l.take (k + 1) = l.take k ++ [l[k]] := by
  rw [List.take_add_one, List.getElem?_eq_getElem h]
  rfl

set_option maxHeartbeats 6400000 in
/-- The loop over bytes that lie somewhere. -/
theorem numberIn_any (n : Nat) (hn : n ≤ 8) (w : World) (i : Nat) (s : St) (Z : Nat → Prop) (h : In w i s Z) :
    Calls Try.prog 84 #[.pointer (some ⟨i, 0, none⟩), .int .i64 (n : Int)] w fun e w' => e = .returned (.int .u64 ((numberN s n).1 : Int)) ∧ In w' i (numberN s n).2 Z ∧ Keeps Z w w' := by
  have hN := next_any n w i s Z h
  have hlen := takeN_len s n
  unfold numberN
  generalize takeN s n = t at hN hlen
  obtain ⟨l, s'⟩ := t
  simp only at hN hlen ⊢
  go_enter Try.func84, Try.ntmps84
  go_wp2_with (go_at_call 89; refine hN.mono ?_; rintro e w1 ⟨A, len, cap, rfl, hl, hi, hk⟩)
  obtain rfl : l.length = len := hl.1
  go_loopg [5, 7, 12] l.length (fun g v u x wr => ∃ j : Nat, v = .int .u64 ((num (l.take j) : Nat) : Int) ∧ x = .int .i64 (j : Int) ∧ j + g = l.length ∧ wr = w1)
  case atStart => exact ⟨0, by simp [num], rfl, by omega, rfl⟩
  case round =>
    obtain ⟨j, rfl, rfl, hj, rfl⟩ := hrel
    have jb : (j : Int) ≤ 8 := by omega
    by_cases hlt : j < l.length
    · have hlt' : (j : Int) < (l.length : Int) := by omega
      obtain ⟨g, off, rfl, hg, hc⟩ := hl.cell j hlt
      have hx : num (l.take j) < 72057594037927936 := by
        have h1 := num_lt (l.take j)
        have h2 : 256 ^ (l.take j).length ≤ 256 ^ 7 := Nat.pow_le_pow_right (by omega) (by simp; omega)
        have h3 : (256 : Nat) ^ 7 = 72057594037927936 := by decide
        omega
      have hor := or_byte (num (l.take j)) l[j] hx
      have hnx : num (l.take j) * 256 + l[j].toNat = num (l.take (j + 1)) := by rw [take_get l j hlt, num_snoc]
      rw [hnx] at hor
      go_wp2
      go_roundg (gk - 1)
      case measure => omega
      case rel => exact ⟨j + 1, by first | rw [hor] | (rw [IntWalk.u64_in ((num (l.take j) : Int) * 256) (by omega)] at hor; rw [hor]), by go_num, by omega, rfl⟩
    · obtain rfl : j = l.length := by omega
      have hdec : decide ((l.length : Int) < (l.length : Int)) = false := decide_eq_false (by omega)
      go_wp2
      go_ret
      rw [List.take_length]
      exact ⟨rfl, hi, hk⟩

theorem numberIn_nil (n : Nat) (w : World) : Calls Try.prog 84 #[.pointer none, .int .i64 (n : Int)] w fun e w' => e = .returned (.int .u64 0) ∧ w = w' := by
  have hN := next_nil n w
  go_enter Try.func84, Try.ntmps84
  go_wp2_with (go_at_call 89; refine hN.mono ?_; rintro e w1 ⟨rfl, rfl⟩)
  go_loopg [5, 7, 12] 0 (fun g v u x wr => v = .int .u64 0 ∧ x = .int .i64 0 ∧ wr = w)
  case atStart => exact ⟨rfl, rfl, rfl⟩
  case round =>
    obtain ⟨rfl, rfl, rfl⟩ := hrel
    go_wp2
    go_ret
    exact ⟨rfl, rfl⟩

/- Byte, Flag, Num -/
theorem byteIn_nil (w : World) : Calls Try.prog 71 #[.pointer none] w fun e w' => e = .returned (.int .u8 0) ∧ w = w' := by
  have hN := numberIn_nil 1 w
  go_enter Try.func71, Try.ntmps71
  go_wp2_with (go_at_call 84; refine hN.mono ?_; rintro e w1 ⟨rfl, rfl⟩)
  go_ret
  exact ⟨rfl, rfl⟩

theorem byteIn_any (w : World) (i : Nat) (s : St) (Z : Nat → Prop) (h : In w i s Z) :
    Calls Try.prog 71 #[.pointer (some ⟨i, 0, none⟩)] w fun e w' => e = .returned (.int .u8 ((numberN s 1).1 : Int)) ∧ In w' i (numberN s 1).2 Z ∧ Keeps Z w w' := by
  have hN := numberIn_any 1 (by omega) w i s Z h
  have hlt := numberN_lt s 1
  generalize numberN s 1 = t at hN hlt ⊢
  have e1 : IntKind.u8.wrap (t.1 : Int) = (t.1 : Int) := by
    simp [IntKind.wrap, IntKind.bits, IntKind.signed]
    omega
  go_enter Try.func71, Try.ntmps71
  go_wp2_with (go_at_call 84; refine hN.mono ?_; rintro e w1 ⟨rfl, h1, h2⟩)
  go_ret
  exact ⟨rfl, h1, h2⟩

theorem flagIn_nil (w : World) : Calls Try.prog 73 #[.pointer none] w fun e w' => e = .returned (.bool false) ∧ w = w' := by
  have hN := byteIn_nil w
  go_enter Try.func73, Try.ntmps73
  go_wp2_with (go_at_call 71; refine hN.mono ?_; rintro e w1 ⟨rfl, rfl⟩)
  go_ret
  exact ⟨rfl, rfl⟩

theorem flagIn_any (w : World) (i : Nat) (s : St) (Z : Nat → Prop) (h : In w i s Z) :
    Calls Try.prog 73 #[.pointer (some ⟨i, 0, none⟩)] w fun e w' => e = .returned (.bool (flagN s).1) ∧ In w' i (flagN s).2 Z ∧ Keeps Z w w' := by
  have hN := byteIn_any w i s Z h
  unfold flagN
  generalize numberN s 1 = t at hN ⊢
  obtain ⟨v, s'⟩ := t
  simp only at hN ⊢
  by_cases hv : 1 < v
  · have hv' : (1 : Int) < (v : Int) := by omega
    have hv2 : ¬ ((v : Int) = 1) := by omega
    simp only [if_pos hv]
    go_enter Try.func73, Try.ntmps73
    go_wp2_with (first
      | (go_at_call 71; refine hN.mono ?_; rintro e w1 ⟨rfl, h1, k1⟩)
      | (go_at_call 50; refine (fail_any _ _ _ _ h1).mono ?_; rintro e w2 ⟨rfl, h2, k2⟩))
    go_ret
    refine ⟨?_, h2, k1.trans k2⟩
    first | rfl | simp [hv2] | (simp; omega)
  · have hv' : ¬ ((1 : Int) < (v : Int)) := by omega
    simp only [if_neg hv]
    go_enter Try.func73, Try.ntmps73
    go_wp2_with (go_at_call 71; refine hN.mono ?_; rintro e w1 ⟨rfl, h1, k1⟩)
    go_ret
    refine ⟨?_, h1, k1⟩
    rcases Nat.lt_or_ge v 1 with h0 | h0
    · obtain rfl : v = 0 := by omega
      rfl
    · obtain rfl : v = 1 := by omega
      rfl

theorem numIn_nil (w : World) : Calls Try.prog 72 #[.pointer none] w fun e w' => e = .returned (.int .i64 0) ∧ w = w' := by
  have hN := numberIn_nil 8 w
  go_enter Try.func72, Try.ntmps72
  go_wp2_with (go_at_call 84; refine hN.mono ?_; rintro e w1 ⟨rfl, rfl⟩)
  go_ret
  exact ⟨rfl, rfl⟩

theorem numIn_any (w : World) (i : Nat) (s : St) (Z : Nat → Prop) (h : In w i s Z) :
    Calls Try.prog 72 #[.pointer (some ⟨i, 0, none⟩)] w fun e w' => e = .returned (.int .i64 (IntKind.i64.wrap ((numberN s 8).1 : Int))) ∧ In w' i (numberN s 8).2 Z ∧ Keeps Z w w' := by
  have hN := numberIn_any 8 (by omega) w i s Z h
  generalize numberN s 8 = t at hN ⊢
  go_enter Try.func72, Try.ntmps72
  go_wp2_with (go_at_call 84; refine hN.mono ?_; rintro e w1 ⟨rfl, h1, h2⟩)
  go_ret
  exact ⟨by rw [IntWalk.i64_left]; rfl, h1, h2⟩

/- Count -/
theorem countIn_nil (most : Int) (hm : -9223372036854775808 ≤ most ∧ most ≤ 9223372036854775807) (w : World) : Calls Try.prog 74 #[.pointer none, .int .i64 most] w fun e w' => e = .returned (.int .i64 0) ∧ w = w' := by
  have hN := numberIn_nil 4 w
  by_cases h0 : most < 0
  · go_enter Try.func74, Try.ntmps74
    go_wp2_with (first
      | (go_at_call 84; refine hN.mono ?_; rintro e w1 ⟨rfl, rfl⟩)
      | (go_at_call 23; refine (left_nil _).mono ?_; rintro e w1 ⟨rfl, rfl⟩)
      | (go_at_call 50; refine (fail_nil _).mono ?_; rintro e w1 ⟨rfl, rfl⟩))
    go_ret
    exact ⟨rfl, rfl⟩
  · have e1 : IntKind.u64.wrap most = most := IntWalk.u64_in _ (by omega)
    go_enter Try.func74, Try.ntmps74
    go_wp2_with (first
      | (go_at_call 84; refine hN.mono ?_; rintro e w1 ⟨rfl, rfl⟩)
      | (go_at_call 23; refine (left_nil _).mono ?_; rintro e w1 ⟨rfl, rfl⟩)
      | (go_at_call 50; refine (fail_nil _).mono ?_; rintro e w1 ⟨rfl, rfl⟩))
    go_ret
    exact ⟨rfl, rfl⟩

set_option maxRecDepth 100000 in
set_option maxHeartbeats 6400000 in
theorem countIn_any (most : Int) (hm : -9223372036854775808 ≤ most ∧ most ≤ 9223372036854775807) (w : World) (i : Nat) (s : St) (Z : Nat → Prop) (h : In w i s Z) (hL : left s ≤ 140737488355328) :
    Calls Try.prog 74 #[.pointer (some ⟨i, 0, none⟩), .int .i64 most] w fun e w' => e = .returned (.int .i64 ((countN s most).1 : Int)) ∧ In w' i (countN s most).2 Z ∧ Keeps Z w w' := by
  have hN := numberIn_any 4 (by omega) w i s Z h
  have hlt : (numberN s 4).1 < 4294967296 := numberN_lt s 4
  have hle : left (numberN s 4).2 ≤ 140737488355328 := by
    unfold numberN takeN
    cases s with
    | none => simp [left]
    | some l =>
      simp only [left] at hL
      simp only
      split
      · simp [left]; omega
      · simp [left]
  unfold countN
  generalize numberN s 4 = t at hN hlt hle ⊢
  obtain ⟨v, s'⟩ := t
  simp only at hN hlt hle ⊢
  have vb : (v : Int) < 4294967296 := by omega
  have lb : (left s' : Int) ≤ 140737488355328 := by omega
  have e2 : IntKind.u64.wrap (left s' : Int) = (left s' : Int) := IntWalk.u64_in _ (by omega)
  have e3 : IntKind.i64.wrap (v : Int) = (v : Int) := IntWalk.i64_in _ (by omega)
  by_cases h0 : most < 0
  · rw [if_pos (.inl h0)]
    clear e2 e3
    go_enter Try.func74, Try.ntmps74
    go_wp2_with (first
      | (go_at_call 84; refine hN.mono ?_; rintro e w1 ⟨rfl, h1, k1⟩)
      | (go_at_call 23; refine (left_any _ _ _ _ h1).mono ?_; rintro e w2 ⟨rfl, rfl⟩)
      | (go_at_call 50; refine (fail_any _ _ _ _ h1).mono ?_; rintro e w2 ⟨rfl, h2, k2⟩))
    go_ret
    exact ⟨rfl, h2, k1.trans k2⟩
  · have e1 : IntKind.u64.wrap most = most := IntWalk.u64_in _ (by omega)
    by_cases c1 : most < (v : Int)
    · rw [if_pos (.inr (.inl c1))]
      clear e2 e3
      go_enter Try.func74, Try.ntmps74
      go_wp2_with (first
        | (go_at_call 84; refine hN.mono ?_; rintro e w1 ⟨rfl, h1, k1⟩)
        | (go_at_call 23; refine (left_any _ _ _ _ h1).mono ?_; rintro e w2 ⟨rfl, rfl⟩)
        | (go_at_call 50; refine (fail_any _ _ _ _ h1).mono ?_; rintro e w2 ⟨rfl, h2, k2⟩))
      go_ret
      exact ⟨rfl, h2, k1.trans k2⟩
    · by_cases c2 : left s' < v
      · have h2' : (left s' : Int) < (v : Int) := by omega
        rw [if_pos (.inr (.inr c2))]
        go_enter Try.func74, Try.ntmps74
        go_wp2_with (first
          | (go_at_call 84; refine hN.mono ?_; rintro e w1 ⟨rfl, h1, k1⟩)
          | (go_at_call 23; refine (left_any _ _ _ _ h1).mono ?_; rintro e w2 ⟨rfl, rfl⟩)
          | (go_at_call 50; refine (fail_any _ _ _ _ h1).mono ?_; rintro e w2 ⟨rfl, h2, k2⟩))
        go_ret
        exact ⟨rfl, h2, k1.trans k2⟩
      · have h2' : ¬ ((left s' : Int) < (v : Int)) := by omega
        rw [if_neg (by omega)]
        show Calls Try.prog 74 #[.pointer (some ⟨i, 0, none⟩), .int .i64 most] w fun e w' => e = .returned (.int .i64 (v : Int)) ∧ In w' i s' Z ∧ Keeps Z w w'
        have d0 : decide (most < 0) = false := decide_eq_false h0
        have d1 : decide (most < (v : Int)) = false := decide_eq_false c1
        have d2 : decide (left s' < v) = false := decide_eq_false c2
        clear h0 c1 c2 h2' hlt hle hL e3
        go_enter Try.func74, Try.ntmps74
        go_wp2_with (first
          | (go_at_call 84; refine hN.mono ?_; rintro e w1 ⟨rfl, h1, k1⟩)
          | (go_at_call 23; refine (left_any _ _ _ _ h1).mono ?_; rintro e w2 ⟨rfl, rfl⟩))
        go_ret
        exact ⟨rfl, h1, k1⟩

/- Text, Bytes -/
theorem bytesIn_nil (most : Int) (hm : -9223372036854775808 ≤ most ∧ most ≤ 9223372036854775807) (w : World) : Calls Try.prog 90 #[.pointer none, .int .i64 most] w fun e w' => ∃ A cap, e = .returned (.slice A 0 cap) ∧ Below w.heap.size w w' := by
  have hN := countIn_nil most hm w
  have hX : Calls Try.prog 89 #[.pointer none, .int .i64 0] w _ := next_nil 0 w
  have hC := clone_any none 0 0 [] w (Lies.nil w) (by simp)
  go_enter Try.func90, Try.ntmps90
  go_wp2_with (first
    | (go_at_call 74; refine hN.mono ?_; rintro e w1 ⟨rfl, rfl⟩)
    | (go_at_call 89; refine hX.mono ?_; rintro e w1 ⟨rfl, rfl⟩)
    | (go_at_call 43; refine hC.mono ?_; rintro e w1 ⟨v, rfl, ho, hb⟩))
  go_ret
  obtain ⟨A1, cap1, rfl, _⟩ := lies_of_owns ho
  exact ⟨A1, cap1, rfl, hb⟩

theorem bytesIn_any (most : Int) (hm : -9223372036854775808 ≤ most ∧ most ≤ 9223372036854775807) (w : World) (i : Nat) (s : St) (Z : Nat → Prop) (h : In w i s Z) (hL : left s ≤ 140737488355328) :
    Calls Try.prog 90 #[.pointer (some ⟨i, 0, none⟩), .int .i64 most] w fun e w' => ∃ A len cap, e = .returned (.slice A len cap) ∧ Lies w' A len cap (textN s most).1 ∧ Owns 5 w' w.heap.size (.slice A len cap) (textN s most).1 ∧ In w' i (textN s most).2 Z ∧ Keeps Z w w' := by
  have hlt : (textN s most).1.length ≤ 4294967296 := by
    have h1 : (numberN s 4).1 < 4294967296 := numberN_lt s 4
    have h2 : (countN s most).1 < 4294967296 := by unfold countN; split <;> first | exact h1 | simp
    have := takeN_len (countN s most).2 (countN s most).1
    unfold textN
    omega
  have hN := countIn_any most hm w i s Z h hL
  unfold textN at hlt ⊢
  generalize countN s most = t at hN hlt ⊢
  obtain ⟨n, s'⟩ := t
  simp only at hN hlt ⊢
  have hX := fun w h => next_any n w i s' Z h
  generalize takeN s' n = t at hX hlt ⊢
  obtain ⟨l, s''⟩ := t
  simp only at hX hlt ⊢
  go_enter Try.func90, Try.ntmps90
  go_wp2_with (first
    | (go_at_call 74; refine hN.mono ?_; rintro e w1 ⟨rfl, h1, k1⟩)
    | (go_at_call 89; refine (hX _ h1).mono ?_; rintro e w2 ⟨A, len, cap, rfl, hl, h2, k2⟩)
    | (go_at_call 43; refine (clone_any _ _ _ _ _ hl (by omega)).mono ?_; rintro e w3 ⟨v, rfl, ho, hb⟩))
  go_ret
  have hsz := Nat.le_trans k1.size k2.size
  obtain ⟨A1, cap1, rfl, hl1, _⟩ := lies_of_owns ho
  refine ⟨A1, _, cap1, rfl, hl1, ?_, h2.below hb (Nat.le_refl _), (k1.trans k2).trans (keeps_below hb (Nat.le_refl _))⟩
  refine ⟨ho.1, ?_⟩
  rcases ho.2 with ⟨e, h0⟩ | ⟨g, cap, cur, e, hb', r⟩
  · exact .inl ⟨e, h0⟩
  · exact .inr ⟨g, cap, cur, e, Nat.le_trans hsz hb', r⟩

end Go.Proofs.Ytlojjodgoeclfaa
