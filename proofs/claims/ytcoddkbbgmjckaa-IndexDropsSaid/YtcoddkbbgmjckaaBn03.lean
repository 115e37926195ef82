/- Bytes in memory: slices, rows of the call's own, frames by a set. -/
import Derived.WalkKit
import Derived.Laws.AppendOwn
import Derived.Deep.AppendLies
import Derived.OwnWalk
import Derived.Lib.AppendStr
import Derived.Maps.AppendAt
import Derived.Laws.Rows
import Derived.Laws.ResultCell
import Derived.Outline
import Derived.Deep.Cut
import Derived.Deep.DeepCutAuto
import Derived.Deep.RegionLaw
import Derived.Deep.RegionHeld3
import Derived.BigQuiet
import Derived.StillTailTactics
import Derived.RegionTactic
import Derived.Laws.Tables
import Derived.Lib.Hide
namespace Go.Proofs.Ytcoddkbbgmjckaa
open Go.RowKit
set_option linter.unusedVariables false
set_option linter.unusedSimpArgs false

/-- What the walk is not to see. -/
structure Hid (p : Prop) : Prop where
  out : p

abbrev u8 (b : UInt8) : Value := .int .u8 (b.toNat : Int)
abbrev cellsOf (l : List UInt8) : List Value := l.map u8

theorem cellsOf_one (l : List UInt8) : ∀ u ∈ cellsOf l, u.oneCell' = true := by
  intro u hu
  obtain ⟨b, _, rfl⟩ := List.mem_map.1 hu
  rfl

theorem strCells_eq (s : ByteArray) : Go.Lib.strCells s = cellsOf s.data.toList := rfl

/- frames -/

/-- All of Z that was there is as it was. -/
structure Keeps (Z : Nat → Prop) (w w' : World) : Prop where
  os : w'.os = w.os
  tape : w'.tape = w.tape
  output : w'.output = w.output
  size : w.heap.size ≤ w'.heap.size
  block : ∀ k, k < w.heap.size → Z k → w'.heap[k]? = w.heap[k]?

section
variable {Z Z' : Nat → Prop} {w w' w'' : World}

theorem Keeps.refl (Z : Nat → Prop) (w : World) : Keeps Z w w := ⟨rfl, rfl, rfl, Nat.le_refl _, fun _ _ _ => rfl⟩
theorem Keeps.trans (h : Keeps Z w w') (k : Keeps Z w' w'') : Keeps Z w w'' :=
  ⟨k.os.trans h.os, k.tape.trans h.tape, k.output.trans h.output, Nat.le_trans h.size k.size, fun i hi hz => (k.block i (Nat.lt_of_lt_of_le hi h.size) hz).trans (h.block i hi hz)⟩
theorem Keeps.drew (h : Keeps Z w w') : Keeps Z w w'.drew := ⟨h.os, h.tape, h.output, h.size, h.block⟩
theorem Keeps.mono (h : Keeps Z w w') (hz : ∀ k, Z' k → Z k) : Keeps Z' w w' := ⟨h.os, h.tape, h.output, h.size, fun k hk k2 => h.block k hk (hz k k2)⟩
theorem keeps_below {B : Nat} (h : Below B w w') (hB : w.heap.size ≤ B) : Keeps Z w w' := ⟨h.os, h.tape, h.output, h.size, fun k hk _ => h.block k (Nat.lt_of_lt_of_le hk hB)⟩
theorem keeps_grown {row : Option Nat} (h : w.grownBy w' row) (hr : ∀ k, row = some k → ¬ Z k) : Keeps Z w w' :=
  ⟨h.os, h.tape, h.output, h.size, fun k hk hz => h.block k hk fun e => hr k e.symm hz⟩
theorem keeps_setCell (w : World) (a : Addr) (u : Value) (h : ¬ Z a.block) : Keeps Z w (w.setCell a u) :=
  ⟨rfl, rfl, rfl, by simp, fun k _ hz => Below.heap_setCell _ _ _ _ (fun e => h (e ▸ hz))⟩
theorem keeps_alloc (w : World) (o : Obj) : Keeps Z w (w.alloc o) := keeps_below ((Below.refl _ _).alloc (Nat.le_refl _) _) (Nat.le_refl _)
theorem below_keeps {B : Nat} {w₀ : World} (h : Below B w₀ w) (k : Keeps Z w w') (hz : ∀ i, i < B → Z i) (hB : B ≤ w.heap.size) : Below B w₀ w' :=
  ⟨k.os.trans h.os, k.tape.trans h.tape, k.output.trans h.output, Nat.le_trans h.size k.size, fun i hi => (k.block i (Nat.lt_of_lt_of_le hi hB) (hz i hi)).trans (h.block i hi)⟩
theorem Keeps.cell (h : Keeps Z w w') {a : Addr} {v : Value} (hc : w.cell? a = some v) (hz : Z a.block) : w'.cell? a = some v := by
  have hlt : a.block < w.heap.size := by
    rcases Nat.lt_or_ge a.block w.heap.size with h' | h'
    · exact h'
    · simp [World.cell?, Array.getElem?_eq_none h'] at hc
  rw [World.cell?_of_block (w := w) (h.block _ hlt hz), hc]

theorem hlt {k : Nat} {o : Obj} (h : w.heap[k]? = some o) : k < w.heap.size := (Array.getElem?_eq_some_iff.1 h).1

theorem setCell_at (w : World) (a : Addr) (u : Value) (C : Array Value) (T : TypeId) (fr : Nat × Nat) (hs : a.spot = none) (h : w.heap[a.block]? = some (.cells C T fr)) :
    (w.setCell a u).heap[a.block]? = some (.cells (C.setIfInBounds a.off u) T fr) := by
  obtain ⟨b, off, spot⟩ := a
  obtain rfl : spot = none := hs
  have h' : w.heap[b]? = some (.cells C T fr) := h
  simp only [World.setCell, Array.getElem?_modify, if_true, h', Option.map_some]
  rfl
end

/- slices of bytes -/

/-- A slice that reads as these bytes. -/
def Lies (w : World) (A : Option Addr) (len cap : Nat) (l : List UInt8) : Prop :=
  l.length = len ∧ len ≤ cap ∧ (A = none → cap = 0) ∧ (0 < len → ∃ g off, A = some ⟨g, off, none⟩ ∧ g < w.heap.size ∧ ∀ j (hj : j < l.length), w.cell? ⟨g, off + j, none⟩ = some (u8 l[j]))

/-- None of its bytes lies in Z. -/
def Off (Z : Nat → Prop) (A : Option Addr) (len : Nat) : Prop := 0 < len → ∀ g off, A = some ⟨g, off, none⟩ → ¬ Z g

section
set_option linter.unusedSectionVars false
variable {w w' : World} {A : Option Addr} {len cap : Nat} {l : List UInt8} {Z : Nat → Prop}

theorem Lies.nil (w : World) : Lies w none 0 0 [] := ⟨rfl, Nat.le_refl _, fun _ => rfl, fun h => absurd h (by omega)⟩

theorem Lies.keep (h : Lies w A len cap l) (hs : w.heap.size ≤ w'.heap.size) (hk : 0 < len → ∀ g off, A = some ⟨g, off, none⟩ → g < w.heap.size → w'.heap[g]? = w.heap[g]?) : Lies w' A len cap l := by
  refine ⟨h.1, h.2.1, h.2.2.1, fun h0 => ?_⟩
  obtain ⟨g, off, rfl, hg, hc⟩ := h.2.2.2 h0
  exact ⟨g, off, rfl, Nat.lt_of_lt_of_le hg hs, fun j hj => (World.cell?_of_block (w := w) (hk h0 g off rfl hg)).trans (hc j hj)⟩

theorem Lies.below (h : Lies w A len cap l) {B : Nat} (hb : Below B w w') (hB : w.heap.size ≤ B) : Lies w' A len cap l :=
  h.keep hb.size fun _ g _ _ hg => hb.block g (Nat.lt_of_lt_of_le hg hB)

theorem Lies.keeps (h : Lies w A len cap l) (hk : Keeps Z w w') (hz : 0 < len → ∀ g off, A = some ⟨g, off, none⟩ → Z g) : Lies w' A len cap l :=
  h.keep hk.size fun h0 g off e hg => hk.block g hg (hz h0 g off e)

theorem Lies.grown (h : Lies w A len cap l) {row : Option Nat} (hg : w.grownBy w' row) (hz : ∀ i, row = some i → Off (· = i) A len) : Lies w' A len cap l :=
  h.keep hg.size fun h0 g off e hlt => hg.block g hlt fun er => hz g er.symm h0 g off e rfl

/-- A row of the call's own that holds these bytes. -/
def Owns (T : TypeId) (w : World) (base : Nat) (v : Value) (l : List UInt8) : Prop := w.ownsRow base T 1 v l.length (cellsOf l)

theorem Owns.keep {T : TypeId} {base : Nat} {v : Value} (h : Owns T w base v l) (hk : ∀ g, v.ownBlock = some g → w'.heap[g]? = w.heap[g]?) : Owns T w' base v l := by
  rcases h.2 with ⟨e, h0⟩ | ⟨g, cap, cur, e, hb, hg, r⟩
  · exact ⟨h.1, .inl ⟨e, h0⟩⟩
  · exact ⟨h.1, .inr ⟨g, cap, cur, e, hb, (hk g (by rw [e]; rfl)).trans hg, r⟩⟩

theorem Owns.lt {T : TypeId} {base : Nat} {v : Value} (h : Owns T w base v l) : ∀ k, v.ownBlock = some k → base ≤ k ∧ k < w.heap.size := World.ownsRow.lt h

theorem Owns.nil (T : TypeId) (w : World) (base : Nat) : Owns T w base (.slice none 0 0) [] := World.ownsRow_nil _ _ _ _

theorem lies_of_owns {T : TypeId} {base : Nat} {v : Value} (h : Owns T w base v l) : ∃ A cap, v = .slice A l.length cap ∧ Lies w A l.length cap l ∧
    (∀ g off, A = some ⟨g, off, none⟩ → v.ownBlock = some g) := by
  rcases h.2 with ⟨rfl, h0⟩ | ⟨g, cap, cur, rfl, hb, hg, hc, hm, hs, ht⟩
  · refine ⟨none, 0, by rw [h0], ⟨rfl, by omega, fun _ => rfl, fun h => by omega⟩, fun g off e => by cases e⟩
  · refine ⟨some ⟨g, 0, none⟩, cap, rfl, ⟨rfl, hc, (fun h => by cases h), fun _ => ⟨g, 0, rfl, hlt hg, fun j hj => ?_⟩⟩, fun g' off e => by injection e with e; injection e with e; rw [← e]; rfl⟩
    rw [cell_of_row w g _ cur T (0, 0) hg, Nat.zero_add]
    have := congrArg (fun q => q[j]?) ht
    simp only [List.getElem?_take, List.getElem?_map, List.getElem?_eq_getElem hj, Option.map_some] at this
    rw [if_pos (by omega)] at this
    simpa using this

/-- A row that isn't empty: its block, from the head on. -/
theorem Owns.form {T : TypeId} {base n : Nat} {A : Option Addr} (h : Owns T w base (.slice A n cap) l) (h0 : 0 < l.length) : ∃ g cur, A = some ⟨g, 0, none⟩ ∧ n = l.length ∧ base ≤ g ∧ w.heap[g]? = some (.cells cur T (0, 0)) ∧ l.length ≤ cap ∧ cap ≤ maxLen ∧ cur.size = cap ∧ cur.toList.take l.length = cellsOf l := by
  rcases h.2 with ⟨e, h1⟩ | ⟨g, cap', cur, e, hb, hg, hc, hm, hs, ht⟩
  · omega
  · injection e with e1 e2 e3
    subst e1 e3
    exact ⟨g, cur, rfl, e2, hb, hg, hc, hm, by simpa using hs, by simpa using ht⟩

theorem Owns.at_ {T : TypeId} {base n : Nat} {A : Option Addr} (h : Owns T w base (.slice A n cap) l) (j : Nat) (hj : j < l.length) : ∃ g, A = some ⟨g, 0, none⟩ ∧ base ≤ g ∧ g < w.heap.size ∧ w.cell? ⟨g, j, none⟩ = some (u8 l[j]) ∧ w.frozen? ⟨g, j, none⟩ = false := by
  obtain ⟨g, cur, rfl, _, hb, hg, hc, hm, hs, ht⟩ := h.form (by omega)
  refine ⟨g, rfl, hb, hlt hg, ?_, by simp [World.frozen?, hg]⟩
  rw [cell_of_row w g _ cur T (0, 0) hg]
  have := congrArg (fun q => q[j]?) ht
  simp only [List.getElem?_take, List.getElem?_map, List.getElem?_eq_getElem hj, Option.map_some] at this
  rw [if_pos hj] at this
  simpa using this

/-- One of its bytes is another one now. -/
theorem Owns.set {T : TypeId} {base n g : Nat} (h : Owns T w base (.slice (some ⟨g, 0, none⟩) n cap) l) (j : Nat) (hj : j < l.length) (b : UInt8) : Owns T (w.setCell ⟨g, j, none⟩ (u8 b)) base (.slice (some ⟨g, 0, none⟩) n cap) (l.set j b) := by
  obtain ⟨g', cur, e, hn, hb, hg, hc, hm, hs, ht⟩ := h.form (by omega)
  injection e with e
  injection e with e
  subst e
  refine ⟨by simp, .inr ⟨g, cap, cur.setIfInBounds j (u8 b), by rw [List.length_set, hn], hb, setCell_at _ ⟨g, j, none⟩ _ _ _ _ rfl hg, by simpa using hc, hm, by simpa using hs, ?_⟩⟩
  rw [List.length_set, Nat.mul_one, Array.toList_setIfInBounds, List.take_set, ht]
  simp [cellsOf, List.map_set]

/-- One byte in a block of its own. -/
theorem Lies.lit (w : World) (z : Int) (b : UInt8) (T : TypeId) (h : z = (b.toNat : Int)) : Lies (w.alloc (.cells #[.int .u8 z] T)) (some ⟨w.heap.size, 0, none⟩) 1 1 [b] := by
  subst h
  refine ⟨rfl, Nat.le_refl _, (fun h => by cases h), fun _ => ⟨w.heap.size, 0, rfl, by simp, fun j hj => ?_⟩⟩
  obtain rfl : j = 0 := by simpa using hj
  rw [cell_of_row _ _ _ _ _ _ (heap_alloc_new w _)]
  rfl

theorem Lies.drew (h : Lies w A len cap l) : Lies w.drew A len cap l := h

/-- What is read of it. -/
theorem Lies.cell (h : Lies w A len cap l) (j : Nat) (hj : j < l.length) : ∃ g off, A = some ⟨g, off, none⟩ ∧ g < w.heap.size ∧ w.cell? ⟨g, off + j, none⟩ = some (u8 l[j]) := by
  obtain ⟨g, off, e, hg, hc⟩ := h.2.2.2 (by have := h.1; omega)
  exact ⟨g, off, e, hg, hc j hj⟩

/-- Its text. -/
theorem Lies.text (h : Lies w A len cap l) {P : Program} {src dst e : TypeId} (hs : P.underlying src = some (.slice e)) (he : P.underlying e = some (.int .u8)) (hd : P.underlying dst = some .string) :
    (convert src dst (.slice A len cap)).run P w = .ok (.string ⟨l.toArray⟩) w := by
  obtain ⟨rfl, h2, h3, h4⟩ := h
  by_cases h0 : 0 < l.length
  · obtain ⟨g, off, rfl, hg, hc⟩ := h4 h0
    exact run_convert_bytes_back w src dst e ⟨g, off, none⟩ cap l hs he hd (fun j hj => by rw [Addr.add_lit]; exact hc j hj)
  · obtain rfl : l = [] := List.eq_nil_of_length_eq_zero (by omega)
    cases A with
    | none =>
      have := run_convert_bytes_nil (P := P) w src e hs he 0 cap dst hd
      exact this
    | some a => exact run_convert_bytes_back w src dst e a cap [] hs he hd (fun j hj => by simp at hj)

/-- A part of it. -/
theorem Lies.take (h : Lies w A len cap l) (n : Nat) (hn : n ≤ len) : Lies w A n cap (l.take n) := by
  obtain ⟨rfl, h2, h3, h4⟩ := h
  refine ⟨by simp; omega, by omega, h3, fun h0 => ?_⟩
  obtain ⟨g, off, e, hg, hc⟩ := h4 (by omega)
  refine ⟨g, off, e, hg, fun j hj => ?_⟩
  have hj' : j < l.length := by simp at hj; omega
  rw [hc j hj', List.getElem_take]

/-- Where the rest begins. -/
def restAt (A : Option Addr) (cap n : Nat) : Option Addr := if cap = n then A else A.map (·.add n)

theorem restAt_lit (g off cap n : Nat) (h : cap ≠ n) : restAt (some ⟨g, off, none⟩) cap n = some ⟨g, off + n, none⟩ := by
  simp [restAt, h, Addr.add_lit]

theorem Lies.drop (h : Lies w A len cap l) (n : Nat) (hn : n ≤ len) : Lies w (restAt A cap n) (len - n) (cap - n) (l.drop n) := by
  obtain ⟨rfl, h2, h3, h4⟩ := h
  refine ⟨by simp, by omega, fun h => ?_, fun h0 => ?_⟩
  · unfold restAt at h
    split at h
    · omega
    · cases A with
      | none => have := h3 rfl; omega
      | some a => cases h
  · obtain ⟨g, off, rfl, hg, hc⟩ := h4 (by omega)
    refine ⟨g, off + n, restAt_lit _ _ _ _ (by omega), hg, fun j hj => ?_⟩
    have hj' : n + j < l.length := by simp at hj; omega
    rw [Nat.add_assoc, hc (n + j) hj', List.getElem_drop]

theorem run_front {P : Program} {t e : TypeId} (ht : P.underlying t = some (.slice e)) (hz : ∀ w, (Go.sizeOf e).run P w = .ok 1 w) (A : Option Addr) (len cap n : Nat) (hn : n ≤ cap) (W : World) :
    (Instr.slice t (.slice A len cap) none (some (.int .i64 (n : Int))) none).run P W = .ok (.slice A n cap) W := by
  have ht' : P.underlying t = some (.slice (P.elem t)) := by simp [Program.elem, ht]
  have he : P.elem t = e := by simp [Program.elem, ht]
  rw [run_slice_h W t _ _ _ ht' .i64 _ (by omega) (by omega), he, hz]
  cases A <;> simp [Result.andThen, sliced, Addr.add]

theorem run_rest {P : Program} {t e : TypeId} (ht : P.underlying t = some (.slice e)) (hz : ∀ w, (Go.sizeOf e).run P w = .ok 1 w) (A : Option Addr) (len cap n : Nat) (hn : n ≤ len) (hc : len ≤ cap) (W : World) :
    (Instr.slice t (.slice A len cap) (some (.int .i64 (n : Int))) none none).run P W = .ok (.slice (restAt A cap n) (len - n) (cap - n)) W := by
  have ht' : P.underlying t = some (.slice (P.elem t)) := by simp [Program.elem, ht]
  have he : P.elem t = e := by simp [Program.elem, ht]
  rw [run_slice_l W t _ _ _ ht' .i64 _ (by omega) (by omega), he, hz]
  cases A <;> simp [Result.andThen, sliced, restAt] <;> (split <;> simp_all)

end

end Go.Proofs.Ytcoddkbbgmjckaa

namespace Go.Proofs.Ytcoddkbbgmjckaa
open Go.RowKit
set_option linter.unusedVariables false

section
variable {P : Program} {fn : Func} {p q u : Tmp} {T : TypeId} {W : World} {n : Nat} {cs : Array Value} {fr : Nat × Nat} {d : TypeDesc} {tmps : Array Value}

theorem results_tmp_cell (h : fn.results = #[.tmp u, .cell p T]) (tmps : Array Value) (P : Program) (w : World) :
    (results fn tmps).run P w =
      ((asAddr (tmps.getD p undef)).run P w).andThen fun a w₁ => ((loadVar T a).run P w₁).andThen fun v w₂ => .ok (.tuple #[tmps.getD u undef, v]) w₂ := by
  simp only [results, h]
  simp [Sem.run_bind, Result.andThen]

/-- One result, a struct in a block. -/
theorem res_cell (h : fn.results = #[.cell p T]) (h1 : tmps.getD p undef = .pointer (some ⟨n, 0, none⟩)) (hW : W.heap[n]? = some (.cells cs T fr)) (hu : P.underlying T = some d)
    (hd : (match d with | .struct _ | .array _ _ => true | _ => false) = true) (hi : (P.info? T).map (·.size) = some cs.size) : (results fn tmps).run P W = .ok (.agg cs) W :=
  results_cell_row h tmps W n T cs fr d h1 hW hu hd hi

/-- A struct in a block, and a slot. -/
theorem res_cell_tmp' (h : fn.results = #[.cell p T, .tmp u]) (h1 : tmps.getD p undef = .pointer (some ⟨n, 0, none⟩)) (hW : W.heap[n]? = some (.cells cs T fr)) (hu : P.underlying T = some d)
    (hd : (match d with | .struct _ | .array _ _ => true | _ => false) = true) (hi : (P.info? T).map (·.size) = some cs.size) : (results fn tmps).run P W = .ok (.tuple #[.agg cs, tmps.getD u undef]) W := by
  rw [results_cell_tmp h, h1]
  simp [asAddr, run_loadVar_row W n T T cs fr d hW hu hd hi]

/-- A slot, and a struct in a block. -/
theorem res_tmp_cell' (h : fn.results = #[.tmp u, .cell p T]) (h1 : tmps.getD p undef = .pointer (some ⟨n, 0, none⟩)) (hW : W.heap[n]? = some (.cells cs T fr)) (hu : P.underlying T = some d)
    (hd : (match d with | .struct _ | .array _ _ => true | _ => false) = true) (hi : (P.info? T).map (·.size) = some cs.size) : (results fn tmps).run P W = .ok (.tuple #[tmps.getD u undef, .agg cs]) W := by
  rw [results_tmp_cell h, h1]
  simp [asAddr, run_loadVar_row W n T T cs fr d hW hu hd hi]

theorem results_tmp_cell_tmp (h : fn.results = #[.tmp u, .cell p T, .tmp q]) (tmps : Array Value) (P : Program) (w : World) :
    (results fn tmps).run P w =
      ((asAddr (tmps.getD p undef)).run P w).andThen fun a w₁ => ((loadVar T a).run P w₁).andThen fun v w₂ => .ok (.tuple #[tmps.getD u undef, v, tmps.getD q undef]) w₂ := by
  simp only [results, h]
  simp [Sem.run_bind, Result.andThen]

/-- A slot, a struct in a block, a slot. -/
theorem res_tmp_cell_tmp (h : fn.results = #[.tmp u, .cell p T, .tmp q]) (h1 : tmps.getD p undef = .pointer (some ⟨n, 0, none⟩)) (hW : W.heap[n]? = some (.cells cs T fr)) (hu : P.underlying T = some d)
    (hd : (match d with | .struct _ | .array _ _ => true | _ => false) = true) (hi : (P.info? T).map (·.size) = some cs.size) : (results fn tmps).run P W = .ok (.tuple #[tmps.getD u undef, .agg cs, tmps.getD q undef]) W := by
  rw [results_tmp_cell_tmp h, h1]
  simp [asAddr, run_loadVar_row W n T T cs fr d hW hu hd hi]
end

/- all cells of a block -/
theorem row2 {w : World} {g : Nat} {v0 v1 : Value} {T : TypeId} (h : w.heap[g]? = some (.cells #[v0, v1] T)) : (w.cell? ⟨g, 0, none⟩ = some v0 ∧ w.cell? ⟨g, 1, none⟩ = some v1) ∧ (w.frozen? ⟨g, 0, none⟩ = false ∧ w.frozen? ⟨g, 1, none⟩ = false) := by
  refine ⟨⟨?_, ?_⟩, ⟨?_, ?_⟩⟩ <;> simp [World.cell?, World.frozen?, h]
theorem row3 {w : World} {g : Nat} {v0 v1 v2 : Value} {T : TypeId} (h : w.heap[g]? = some (.cells #[v0, v1, v2] T)) : (w.cell? ⟨g, 0, none⟩ = some v0 ∧ w.cell? ⟨g, 1, none⟩ = some v1 ∧ w.cell? ⟨g, 2, none⟩ = some v2) ∧ (w.frozen? ⟨g, 0, none⟩ = false ∧ w.frozen? ⟨g, 1, none⟩ = false ∧ w.frozen? ⟨g, 2, none⟩ = false) := by
  refine ⟨⟨?_, ?_, ?_⟩, ⟨?_, ?_, ?_⟩⟩ <;> simp [World.cell?, World.frozen?, h]
theorem row4 {w : World} {g : Nat} {v0 v1 v2 v3 : Value} {T : TypeId} (h : w.heap[g]? = some (.cells #[v0, v1, v2, v3] T)) : (w.cell? ⟨g, 0, none⟩ = some v0 ∧ w.cell? ⟨g, 1, none⟩ = some v1 ∧ w.cell? ⟨g, 2, none⟩ = some v2 ∧ w.cell? ⟨g, 3, none⟩ = some v3) ∧ (w.frozen? ⟨g, 0, none⟩ = false ∧ w.frozen? ⟨g, 1, none⟩ = false ∧ w.frozen? ⟨g, 2, none⟩ = false ∧ w.frozen? ⟨g, 3, none⟩ = false) := by
  refine ⟨⟨?_, ?_, ?_, ?_⟩, ⟨?_, ?_, ?_, ?_⟩⟩ <;> simp [World.cell?, World.frozen?, h]
theorem row5 {w : World} {g : Nat} {v0 v1 v2 v3 v4 : Value} {T : TypeId} (h : w.heap[g]? = some (.cells #[v0, v1, v2, v3, v4] T)) : (w.cell? ⟨g, 0, none⟩ = some v0 ∧ w.cell? ⟨g, 1, none⟩ = some v1 ∧ w.cell? ⟨g, 2, none⟩ = some v2 ∧ w.cell? ⟨g, 3, none⟩ = some v3 ∧ w.cell? ⟨g, 4, none⟩ = some v4) ∧ (w.frozen? ⟨g, 0, none⟩ = false ∧ w.frozen? ⟨g, 1, none⟩ = false ∧ w.frozen? ⟨g, 2, none⟩ = false ∧ w.frozen? ⟨g, 3, none⟩ = false ∧ w.frozen? ⟨g, 4, none⟩ = false) := by
  refine ⟨⟨?_, ?_, ?_, ?_, ?_⟩, ⟨?_, ?_, ?_, ?_, ?_⟩⟩ <;> simp [World.cell?, World.frozen?, h]
theorem row6 {w : World} {g : Nat} {v0 v1 v2 v3 v4 v5 : Value} {T : TypeId} (h : w.heap[g]? = some (.cells #[v0, v1, v2, v3, v4, v5] T)) : (w.cell? ⟨g, 0, none⟩ = some v0 ∧ w.cell? ⟨g, 1, none⟩ = some v1 ∧ w.cell? ⟨g, 2, none⟩ = some v2 ∧ w.cell? ⟨g, 3, none⟩ = some v3 ∧ w.cell? ⟨g, 4, none⟩ = some v4 ∧ w.cell? ⟨g, 5, none⟩ = some v5) ∧ (w.frozen? ⟨g, 0, none⟩ = false ∧ w.frozen? ⟨g, 1, none⟩ = false ∧ w.frozen? ⟨g, 2, none⟩ = false ∧ w.frozen? ⟨g, 3, none⟩ = false ∧ w.frozen? ⟨g, 4, none⟩ = false ∧ w.frozen? ⟨g, 5, none⟩ = false) := by
  refine ⟨⟨?_, ?_, ?_, ?_, ?_, ?_⟩, ⟨?_, ?_, ?_, ?_, ?_, ?_⟩⟩ <;> simp [World.cell?, World.frozen?, h]
theorem row7 {w : World} {g : Nat} {v0 v1 v2 v3 v4 v5 v6 : Value} {T : TypeId} (h : w.heap[g]? = some (.cells #[v0, v1, v2, v3, v4, v5, v6] T)) : (w.cell? ⟨g, 0, none⟩ = some v0 ∧ w.cell? ⟨g, 1, none⟩ = some v1 ∧ w.cell? ⟨g, 2, none⟩ = some v2 ∧ w.cell? ⟨g, 3, none⟩ = some v3 ∧ w.cell? ⟨g, 4, none⟩ = some v4 ∧ w.cell? ⟨g, 5, none⟩ = some v5 ∧ w.cell? ⟨g, 6, none⟩ = some v6) ∧ (w.frozen? ⟨g, 0, none⟩ = false ∧ w.frozen? ⟨g, 1, none⟩ = false ∧ w.frozen? ⟨g, 2, none⟩ = false ∧ w.frozen? ⟨g, 3, none⟩ = false ∧ w.frozen? ⟨g, 4, none⟩ = false ∧ w.frozen? ⟨g, 5, none⟩ = false ∧ w.frozen? ⟨g, 6, none⟩ = false) := by
  refine ⟨⟨?_, ?_, ?_, ?_, ?_, ?_, ?_⟩, ⟨?_, ?_, ?_, ?_, ?_, ?_, ?_⟩⟩ <;> simp [World.cell?, World.frozen?, h]
theorem row8 {w : World} {g : Nat} {v0 v1 v2 v3 v4 v5 v6 v7 : Value} {T : TypeId} (h : w.heap[g]? = some (.cells #[v0, v1, v2, v3, v4, v5, v6, v7] T)) : (w.cell? ⟨g, 0, none⟩ = some v0 ∧ w.cell? ⟨g, 1, none⟩ = some v1 ∧ w.cell? ⟨g, 2, none⟩ = some v2 ∧ w.cell? ⟨g, 3, none⟩ = some v3 ∧ w.cell? ⟨g, 4, none⟩ = some v4 ∧ w.cell? ⟨g, 5, none⟩ = some v5 ∧ w.cell? ⟨g, 6, none⟩ = some v6 ∧ w.cell? ⟨g, 7, none⟩ = some v7) ∧ (w.frozen? ⟨g, 0, none⟩ = false ∧ w.frozen? ⟨g, 1, none⟩ = false ∧ w.frozen? ⟨g, 2, none⟩ = false ∧ w.frozen? ⟨g, 3, none⟩ = false ∧ w.frozen? ⟨g, 4, none⟩ = false ∧ w.frozen? ⟨g, 5, none⟩ = false ∧ w.frozen? ⟨g, 6, none⟩ = false ∧ w.frozen? ⟨g, 7, none⟩ = false) := by
  refine ⟨⟨?_, ?_, ?_, ?_, ?_, ?_, ?_, ?_⟩, ⟨?_, ?_, ?_, ?_, ?_, ?_, ?_, ?_⟩⟩ <;> simp [World.cell?, World.frozen?, h]

theorem set2_at (X : World) (n : Nat) (a b a0 b0 : Value) (T : TypeId) (h : X.heap[n]? = some (.cells #[a0, b0] T)) : ((X.setCell ⟨n, 0, none⟩ a).setCell ⟨n, 1, none⟩ b).heap[n]? = some (.cells #[a, b] T) := by
  simp only [World.setCell, Array.getElem?_modify, if_true, h, Option.map_some]
  simp
theorem set3_at (X : World) (n : Nat) (a b c a0 b0 c0 : Value) (T : TypeId) (h : X.heap[n]? = some (.cells #[a0, b0, c0] T)) : (((X.setCell ⟨n, 0, none⟩ a).setCell ⟨n, 1, none⟩ b).setCell ⟨n, 2, none⟩ c).heap[n]? = some (.cells #[a, b, c] T) := by
  simp only [World.setCell, Array.getElem?_modify, if_true, h, Option.map_some]
  simp
theorem set5_at (X : World) (n : Nat) (a b c d e a0 b0 c0 d0 e0 : Value) (T : TypeId) (h : X.heap[n]? = some (.cells #[a0, b0, c0, d0, e0] T)) :
    (((((X.setCell ⟨n, 0, none⟩ a).setCell ⟨n, 1, none⟩ b).setCell ⟨n, 2, none⟩ c).setCell ⟨n, 3, none⟩ d).setCell ⟨n, 4, none⟩ e).heap[n]? = some (.cells #[a, b, c, d, e] T) := by
  simp only [World.setCell, Array.getElem?_modify, if_true, h, Option.map_some]
  simp

theorem drew_row {X : World} {n : Nat} {o : Option Obj} (h : X.heap[n]? = o) : X.drew.heap[n]? = o := h

theorem set5_drew (X : World) (n : Nat) (a b c d e a0 b0 c0 d0 e0 : Value) (T : TypeId) (h : X.heap[n]? = some (.cells #[a0, b0, c0, d0, e0] T)) :
    (((((X.setCell ⟨n, 0, none⟩ a).setCell ⟨n, 1, none⟩ b).setCell ⟨n, 2, none⟩ c).setCell ⟨n, 3, none⟩ d).setCell ⟨n, 4, none⟩ e).drew.heap[n]? = some (.cells #[a, b, c, d, e] T) := drew_row (set5_at X n a b c d e a0 b0 c0 d0 e0 T h)

end Go.Proofs.Ytcoddkbbgmjckaa

namespace Go.Proofs.Ytcoddkbbgmjckaa
end Go.Proofs.Ytcoddkbbgmjckaa
