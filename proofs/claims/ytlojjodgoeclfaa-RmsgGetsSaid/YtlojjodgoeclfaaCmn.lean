/- Bytes in memory: slices, rows of the call's own, frames by a set. -/
import Derived.WalkKit
import Derived.Laws.AppendOwn
import Derived.Deep.AppendLies
import Derived.OwnWalk
import Derived.Lib.AppendStr
import Derived.Maps.AppendAt
import Derived.ProofKit
import Derived.OpenShut
import Derived.Deep.Slices
import Derived.ChangeArms
import Derived.Deep.Fields
import Derived.Test.YtlojjodgoeclfaaRows
import Derived.WalkSpells
import Derived.WalkLawsBesides
import Derived.KernelRfl
import Derived.BigQuiet
import Derived.IntWalk
import Derived.ChangeMaps5
import Derived.Laws.Rows
import Derived.Laws.ResultCell
import Derived.StillTailTactics
import Derived.Lib.SliceRun
import Derived.Carry
namespace Go.Proofs.Ytlojjodgoeclfaa
open Go.RowKit
set_option linter.unusedVariables false
set_option linter.unusedSimpArgs false

/-- What the walk is not to see. -/
structure Hid (p : Prop) : Prop where
  out : p

abbrev u8 (b : UInt8) : Value := .int .u8 (b.toNat : Int)
abbrev cellsOf (l : List UInt8) : List Value := l.map u8

theorem cellsOf_one (l : List UInt8) : ∀ u ∈ cellsOf l, u.oneCell' = true := by
  intro u hu
  obtain ⟨b, _, rfl⟩ := List.mem_map.1 hu
  rfl

theorem strCells_eq (s : ByteArray) : Go.Lib.strCells s = cellsOf s.data.toList := rfl

/- frames -/

/-- All of Z that was there is as it was. -/
structure Keeps (Z : Nat → Prop) (w w' : World) : Prop where
  os : w'.os = w.os
  tape : w'.tape = w.tape
  output : w'.output = w.output
  size : w.heap.size ≤ w'.heap.size
  block : ∀ k, k < w.heap.size → Z k → w'.heap[k]? = w.heap[k]?

section
variable {Z Z' : Nat → Prop} {w w' w'' : World}

theorem Keeps.refl (Z : Nat → Prop) (w : World) : Keeps Z w w := ⟨rfl, rfl, rfl, Nat.le_refl _, fun _ _ _ => rfl⟩
theorem Keeps.trans (h : Keeps Z w w') (k : Keeps Z w' w'') : Keeps Z w w'' :=
  ⟨k.os.trans h.os, k.tape.trans h.tape, k.output.trans h.output, Nat.le_trans h.size k.size, fun i hi hz => (k.block i (Nat.lt_of_lt_of_le hi h.size) hz).trans (h.block i hi hz)⟩
theorem Keeps.drew (h : Keeps Z w w') : Keeps Z w w'.drew := ⟨h.os, h.tape, h.output, h.size, h.block⟩
theorem Keeps.mono (h : Keeps Z w w') (hz : ∀ k, Z' k → Z k) : Keeps Z' w w' := ⟨h.os, h.tape, h.output, h.size, fun k hk k2 => h.block k hk (hz k k2)⟩
theorem keeps_below {B : Nat} (h : Below B w w') (hB : w.heap.size ≤ B) : Keeps Z w w' := ⟨h.os, h.tape, h.output, h.size, fun k hk _ => h.block k (Nat.lt_of_lt_of_le hk hB)⟩
theorem keeps_grown {row : Option Nat} (h : w.grownBy w' row) (hr : ∀ k, row = some k → ¬ Z k) : Keeps Z w w' :=
  ⟨h.os, h.tape, h.output, h.size, fun k hk hz => h.block k hk fun e => hr k e.symm hz⟩
theorem keeps_setCell (w : World) (a : Addr) (u : Value) (h : ¬ Z a.block) : Keeps Z w (w.setCell a u) :=
  ⟨rfl, rfl, rfl, by simp, fun k _ hz => Below.heap_setCell _ _ _ _ (fun e => h (e ▸ hz))⟩
theorem keeps_alloc (w : World) (o : Obj) : Keeps Z w (w.alloc o) := keeps_below ((Below.refl _ _).alloc (Nat.le_refl _) _) (Nat.le_refl _)
theorem below_keeps {B : Nat} {w₀ : World} (h : Below B w₀ w) (k : Keeps Z w w') (hz : ∀ i, i < B → Z i) (hB : B ≤ w.heap.size) : Below B w₀ w' :=
  ⟨k.os.trans h.os, k.tape.trans h.tape, k.output.trans h.output, Nat.le_trans h.size k.size, fun i hi => (k.block i (Nat.lt_of_lt_of_le hi hB) (hz i hi)).trans (h.block i hi)⟩
theorem Keeps.cell (h : Keeps Z w w') {a : Addr} {v : Value} (hc : w.cell? a = some v) (hz : Z a.block) : w'.cell? a = some v := by
  have hlt : a.block < w.heap.size := by
    rcases Nat.lt_or_ge a.block w.heap.size with h' | h'
    · exact h'
    · simp [World.cell?, Array.getElem?_eq_none h'] at hc
  rw [World.cell?_of_block (w := w) (h.block _ hlt hz), hc]

theorem hlt {k : Nat} {o : Obj} (h : w.heap[k]? = some o) : k < w.heap.size := (Array.getElem?_eq_some_iff.1 h).1

theorem setCell_at (w : World) (a : Addr) (u : Value) (C : Array Value) (T : TypeId) (fr : Nat × Nat) (hs : a.spot = none) (h : w.heap[a.block]? = some (.cells C T fr)) :
    (w.setCell a u).heap[a.block]? = some (.cells (C.setIfInBounds a.off u) T fr) := by
  obtain ⟨b, off, spot⟩ := a
  obtain rfl : spot = none := hs
  have h' : w.heap[b]? = some (.cells C T fr) := h
  simp only [World.setCell, Array.getElem?_modify, if_true, h', Option.map_some]
  rfl
end

/- slices of bytes -/

/-- A slice that reads as these bytes. -/
def Lies (w : World) (A : Option Addr) (len cap : Nat) (l : List UInt8) : Prop :=
  l.length = len ∧ len ≤ cap ∧ (A = none → cap = 0) ∧ (0 < len → ∃ g off, A = some ⟨g, off, none⟩ ∧ g < w.heap.size ∧ ∀ j (hj : j < l.length), w.cell? ⟨g, off + j, none⟩ = some (u8 l[j]))

/-- None of its bytes lies in Z. -/
def Off (Z : Nat → Prop) (A : Option Addr) (len : Nat) : Prop := 0 < len → ∀ g off, A = some ⟨g, off, none⟩ → ¬ Z g

section
set_option linter.unusedSectionVars false
variable {w w' : World} {A : Option Addr} {len cap : Nat} {l : List UInt8} {Z : Nat → Prop}

theorem Lies.nil (w : World) : Lies w none 0 0 [] := ⟨rfl, Nat.le_refl _, fun _ => rfl, fun h => absurd h (by omega)⟩

theorem Lies.keep (h : Lies w A len cap l) (hs : w.heap.size ≤ w'.heap.size) (hk : 0 < len → ∀ g off, A = some ⟨g, off, none⟩ → g < w.heap.size → w'.heap[g]? = w.heap[g]?) : Lies w' A len cap l := by
  refine ⟨h.1, h.2.1, h.2.2.1, fun h0 => ?_⟩
  obtain ⟨g, off, rfl, hg, hc⟩ := h.2.2.2 h0
  exact ⟨g, off, rfl, Nat.lt_of_lt_of_le hg hs, fun j hj => (World.cell?_of_block (w := w) (hk h0 g off rfl hg)).trans (hc j hj)⟩

theorem Lies.below (h : Lies w A len cap l) {B : Nat} (hb : Below B w w') (hB : w.heap.size ≤ B) : Lies w' A len cap l :=
  h.keep hb.size fun _ g _ _ hg => hb.block g (Nat.lt_of_lt_of_le hg hB)

theorem Lies.keeps (h : Lies w A len cap l) (hk : Keeps Z w w') (hz : 0 < len → ∀ g off, A = some ⟨g, off, none⟩ → Z g) : Lies w' A len cap l :=
  h.keep hk.size fun h0 g off e hg => hk.block g hg (hz h0 g off e)

theorem Lies.grown (h : Lies w A len cap l) {row : Option Nat} (hg : w.grownBy w' row) (hz : ∀ i, row = some i → Off (· = i) A len) : Lies w' A len cap l :=
  h.keep hg.size fun h0 g off e hlt => hg.block g hlt fun er => hz g er.symm h0 g off e rfl

/-- A row of the call's own that holds these bytes. -/
def Owns (T : TypeId) (w : World) (base : Nat) (v : Value) (l : List UInt8) : Prop := w.ownsRow base T 1 v l.length (cellsOf l)

theorem Owns.keep {T : TypeId} {base : Nat} {v : Value} (h : Owns T w base v l) (hk : ∀ g, v.ownBlock = some g → w'.heap[g]? = w.heap[g]?) : Owns T w' base v l := by
  rcases h.2 with ⟨e, h0⟩ | ⟨g, cap, cur, e, hb, hg, r⟩
  · exact ⟨h.1, .inl ⟨e, h0⟩⟩
  · exact ⟨h.1, .inr ⟨g, cap, cur, e, hb, (hk g (by rw [e]; rfl)).trans hg, r⟩⟩

theorem Owns.lt {T : TypeId} {base : Nat} {v : Value} (h : Owns T w base v l) : ∀ k, v.ownBlock = some k → base ≤ k ∧ k < w.heap.size := World.ownsRow.lt h

theorem Owns.nil (T : TypeId) (w : World) (base : Nat) : Owns T w base (.slice none 0 0) [] := World.ownsRow_nil _ _ _ _

theorem lies_of_owns {T : TypeId} {base : Nat} {v : Value} (h : Owns T w base v l) : ∃ A cap, v = .slice A l.length cap ∧ Lies w A l.length cap l ∧
    (∀ g off, A = some ⟨g, off, none⟩ → v.ownBlock = some g) := by
  rcases h.2 with ⟨rfl, h0⟩ | ⟨g, cap, cur, rfl, hb, hg, hc, hm, hs, ht⟩
  · refine ⟨none, 0, by rw [h0], ⟨rfl, by omega, fun _ => rfl, fun h => by omega⟩, fun g off e => by cases e⟩
  · refine ⟨some ⟨g, 0, none⟩, cap, rfl, ⟨rfl, hc, (fun h => by cases h), fun _ => ⟨g, 0, rfl, hlt hg, fun j hj => ?_⟩⟩, fun g' off e => by injection e with e; injection e with e; rw [← e]; rfl⟩
    rw [cell_of_row w g _ cur T (0, 0) hg, Nat.zero_add]
    have := congrArg (fun q => q[j]?) ht
    simp only [List.getElem?_take, List.getElem?_map, List.getElem?_eq_getElem hj, Option.map_some] at this
    rw [if_pos (by omega)] at this
    simpa using this

/-- A row that isn't empty: its block, from the head on. -/
theorem Owns.form {T : TypeId} {base n : Nat} {A : Option Addr} (h : Owns T w base (.slice A n cap) l) (h0 : 0 < l.length) : ∃ g cur, A = some ⟨g, 0, none⟩ ∧ n = l.length ∧ base ≤ g ∧ w.heap[g]? = some (.cells cur T (0, 0)) ∧ l.length ≤ cap ∧ cap ≤ maxLen ∧ cur.size = cap ∧ cur.toList.take l.length = cellsOf l := by
  rcases h.2 with ⟨e, h1⟩ | ⟨g, cap', cur, e, hb, hg, hc, hm, hs, ht⟩
  · omega
  · injection e with e1 e2 e3
    subst e1 e3
    exact ⟨g, cur, rfl, e2, hb, hg, hc, hm, by simpa using hs, by simpa using ht⟩

theorem Owns.at_ {T : TypeId} {base n : Nat} {A : Option Addr} (h : Owns T w base (.slice A n cap) l) (j : Nat) (hj : j < l.length) : ∃ g, A = some ⟨g, 0, none⟩ ∧ base ≤ g ∧ g < w.heap.size ∧ w.cell? ⟨g, j, none⟩ = some (u8 l[j]) ∧ w.frozen? ⟨g, j, none⟩ = false := by
  obtain ⟨g, cur, rfl, _, hb, hg, hc, hm, hs, ht⟩ := h.form (by omega)
  refine ⟨g, rfl, hb, hlt hg, ?_, by simp [World.frozen?, hg]⟩
  rw [cell_of_row w g _ cur T (0, 0) hg]
  have := congrArg (fun q => q[j]?) ht
  simp only [List.getElem?_take, List.getElem?_map, List.getElem?_eq_getElem hj, Option.map_some] at this
  rw [if_pos hj] at this
  simpa using this

/-- One of its bytes is another one now. -/
theorem Owns.set {T : TypeId} {base n g : Nat} (h : Owns T w base (.slice (some ⟨g, 0, none⟩) n cap) l) (j : Nat) (hj : j < l.length) (b : UInt8) : Owns T (w.setCell ⟨g, j, none⟩ (u8 b)) base (.slice (some ⟨g, 0, none⟩) n cap) (l.set j b) := by
  obtain ⟨g', cur, e, hn, hb, hg, hc, hm, hs, ht⟩ := h.form (by omega)
  injection e with e
  injection e with e
  subst e
  refine ⟨by simp, .inr ⟨g, cap, cur.setIfInBounds j (u8 b), by rw [List.length_set, hn], hb, setCell_at _ ⟨g, j, none⟩ _ _ _ _ rfl hg, by simpa using hc, hm, by simpa using hs, ?_⟩⟩
  rw [List.length_set, Nat.mul_one, Array.toList_setIfInBounds, List.take_set, ht]
  simp [cellsOf, List.map_set]

/-- One byte in a block of its own. -/
theorem Lies.lit (w : World) (z : Int) (b : UInt8) (T : TypeId) (h : z = (b.toNat : Int)) : Lies (w.alloc (.cells #[.int .u8 z] T)) (some ⟨w.heap.size, 0, none⟩) 1 1 [b] := by
  subst h
  refine ⟨rfl, Nat.le_refl _, (fun h => by cases h), fun _ => ⟨w.heap.size, 0, rfl, by simp, fun j hj => ?_⟩⟩
  obtain rfl : j = 0 := by simpa using hj
  rw [cell_of_row _ _ _ _ _ _ (heap_alloc_new w _)]
  rfl

theorem Lies.drew (h : Lies w A len cap l) : Lies w.drew A len cap l := h

/-- What is read of it. -/
theorem Lies.cell (h : Lies w A len cap l) (j : Nat) (hj : j < l.length) : ∃ g off, A = some ⟨g, off, none⟩ ∧ g < w.heap.size ∧ w.cell? ⟨g, off + j, none⟩ = some (u8 l[j]) := by
  obtain ⟨g, off, e, hg, hc⟩ := h.2.2.2 (by have := h.1; omega)
  exact ⟨g, off, e, hg, hc j hj⟩

/-- Its text. -/
theorem Lies.text (h : Lies w A len cap l) {P : Program} {src dst e : TypeId} (hs : P.underlying src = some (.slice e)) (he : P.underlying e = some (.int .u8)) (hd : P.underlying dst = some .string) :
    (convert src dst (.slice A len cap)).run P w = .ok (.string ⟨l.toArray⟩) w := by
  obtain ⟨rfl, h2, h3, h4⟩ := h
  by_cases h0 : 0 < l.length
  · obtain ⟨g, off, rfl, hg, hc⟩ := h4 h0
    exact run_convert_bytes_back w src dst e ⟨g, off, none⟩ cap l hs he hd (fun j hj => by rw [Addr.add_lit]; exact hc j hj)
  · obtain rfl : l = [] := List.eq_nil_of_length_eq_zero (by omega)
    cases A with
    | none =>
      have := run_convert_bytes_nil (P := P) w src e hs he 0 cap dst hd
      exact this
    | some a => exact run_convert_bytes_back w src dst e a cap [] hs he hd (fun j hj => by simp at hj)

/-- A part of it. -/
theorem Lies.take (h : Lies w A len cap l) (n : Nat) (hn : n ≤ len) : Lies w A n cap (l.take n) := by
  obtain ⟨rfl, h2, h3, h4⟩ := h
  refine ⟨by simp; omega, by omega, h3, fun h0 => ?_⟩
  obtain ⟨g, off, e, hg, hc⟩ := h4 (by omega)
  refine ⟨g, off, e, hg, fun j hj => ?_⟩
  have hj' : j < l.length := by simp at hj; omega
  rw [hc j hj', List.getElem_take]

/-- Where the rest begins. -/
def restAt (A : Option Addr) (cap n : Nat) : Option Addr := if cap = n then A else A.map (·.add n)

theorem restAt_lit (g off cap n : Nat) (h : cap ≠ n) : restAt (some ⟨g, off, none⟩) cap n = some ⟨g, off + n, none⟩ := by
  simp [restAt, h, Addr.add_lit]

theorem Lies.drop (h : Lies w A len cap l) (n : Nat) (hn : n ≤ len) : Lies w (restAt A cap n) (len - n) (cap - n) (l.drop n) := by
  obtain ⟨rfl, h2, h3, h4⟩ := h
  refine ⟨by simp, by omega, fun h => ?_, fun h0 => ?_⟩
  · unfold restAt at h
    split at h
    · omega
    · cases A with
      | none => have := h3 rfl; omega
      | some a => cases h
  · obtain ⟨g, off, rfl, hg, hc⟩ := h4 (by omega)
    refine ⟨g, off + n, restAt_lit _ _ _ _ (by omega), hg, fun j hj => ?_⟩
    have hj' : n + j < l.length := by simp at hj; omega
    rw [Nat.add_assoc, hc (n + j) hj', List.getElem_drop]

theorem run_front {P : Program} {t e : TypeId} (ht : P.underlying t = some (.slice e)) (hz : ∀ w, (Go.sizeOf e).run P w = .ok 1 w) (A : Option Addr) (len cap n : Nat) (hn : n ≤ cap) (W : World) :
    (Instr.slice t (.slice A len cap) none (some (.int .i64 (n : Int))) none).run P W = .ok (.slice A n cap) W := by
  have ht' : P.underlying t = some (.slice (P.elem t)) := by simp [Program.elem, ht]
  have he : P.elem t = e := by simp [Program.elem, ht]
  rw [run_slice_h W t _ _ _ ht' .i64 _ (by omega) (by omega), he, hz]
  cases A <;> simp [Result.andThen, sliced, Addr.add]

theorem run_rest {P : Program} {t e : TypeId} (ht : P.underlying t = some (.slice e)) (hz : ∀ w, (Go.sizeOf e).run P w = .ok 1 w) (A : Option Addr) (len cap n : Nat) (hn : n ≤ len) (hc : len ≤ cap) (W : World) :
    (Instr.slice t (.slice A len cap) (some (.int .i64 (n : Int))) none none).run P W = .ok (.slice (restAt A cap n) (len - n) (cap - n)) W := by
  have ht' : P.underlying t = some (.slice (P.elem t)) := by simp [Program.elem, ht]
  have he : P.elem t = e := by simp [Program.elem, ht]
  rw [run_slice_l W t _ _ _ ht' .i64 _ (by omega) (by omega), he, hz]
  cases A <;> simp [Result.andThen, sliced, restAt] <;> (split <;> simp_all)

end

end Go.Proofs.Ytlojjodgoeclfaa

namespace Go.Proofs.Ytlojjodgoeclfaa
open Go.ChangeShapes Go.WideShapes Go.ChangeAt Go.RowKit Go.Deep

section
variable {H : Type} {enc : TypeId × Value → H} {P : Program} {W : World} {sp : Nat → Bool} {hd : Bool}

theorem add_two (a : Addr) (i j : Nat) : (a.add i).add j = a.add (i + j) := by
  unfold Addr.add
  by_cases hi : i = 0 <;> by_cases hj : j = 0 <;> simp [hi, hj, Nat.add_assoc]

theorem add_here (b off n : Nat) : (⟨b, off, none⟩ : Addr).add n = ⟨b, off + n, none⟩ := by
  unfold Addr.add
  by_cases hn : n = 0 <;> simp [hn]

/-- A slice: nil, or its elements' cells lie in a row. -/
theorem arg_slice {t e : TypeId} {C base : Nat} {v : Value} {d : DataW H} {p : List MemPlace} (ht : P.underlying t = some (.slice e)) (hC : P.cellsOf e = C) (h0 : 0 < C)
    (hok : Value.okWide P W .any base t v) (h : DataW.Trod enc P W 0 sp hd t v d p) (hlt : ∀ x ∈ p, x.block < W.heap.size) :
    ∃ (A : Option Addr) (len cap n : Nat) (Cs : Nat → List Value) (D : Nat → DataW H), v = .slice A len cap ∧ len ≤ cap ∧ cap ≤ maxLen ∧ (d = .nil ∧ len = 0 ∨ ∃ rest, d = .slice ((List.range len).map D) rest) ∧
      (0 < len → ∃ b off, A = some ⟨b, off, none⟩ ∧ b < W.heap.size ∧ ∀ j, j < len → ∀ i u, (Cs j)[i]? = some u → W.cell? ⟨b, off + j * C + i, none⟩ = some u) ∧
      ∀ j, j < len → (Cs j).length = C ∧ ∃ pl, DataW.trod enc P W 0 sp hd n e (Cs j) = some (D j, pl) := by
  obtain ⟨A, len, cap, rfl⟩ := okWide_slice ht hok
  obtain ⟨fuel, hf⟩ := h
  rcases open_slice ht hf with ⟨hcs, hx⟩ | ⟨a, len', cap', m, n, D, Pl, hcs, hb, hl, hm, hmm, hx, hi⟩
  · simp [Value.cells] at hcs
    obtain ⟨rfl, rfl, rfl⟩ := hcs
    simp only [Prod.mk.injEq] at hx
    exact ⟨none, 0, 0, 0, fun _ => [], fun _ => .nil, rfl, Nat.le_refl _, Nat.zero_le _, .inl ⟨hx.1, rfl⟩, fun h => absurd h (by omega), fun j hj => absurd hj (by omega)⟩
  · simp [Value.cells] at hcs
    obtain ⟨rfl, rfl, rfl⟩ := hcs
    simp only [Prod.mk.injEq] at hx
    have hlm : len ≤ m := by rw [hmm]; split <;> omega
    obtain ⟨Cs, hCs⟩ := Classical.axiomOfChoice (r := fun i cs' => i < m → W.cells? 0 (a.add (i * P.cellsOf e)) (P.cellsOf e) = some cs' ∧ DataW.trod enc P W 0 sp hd n e cs' = some (D i, Pl i)) (fun i => by
      by_cases him : i < m
      · obtain ⟨cs', h1, h2⟩ := hi i him
        exact ⟨cs', fun _ => ⟨h1, h2⟩⟩
      · exact ⟨[], fun h => absurd h him⟩)
    rw [hC] at hCs
    refine ⟨some a, len, cap, n, Cs, D, rfl, hl, hm, .inr ⟨_, hx.1⟩, fun hpos => ?_, fun j hj => ?_⟩
    · have hcell : ∀ j, j < len → ∀ i u, (Cs j)[i]? = some u → W.cell? (a.add (j * C + i)) = some u := fun j hj i u hu => by
        obtain ⟨hc, _⟩ := hCs j (by omega)
        obtain ⟨_, hcl, hat⟩ := World.cells?_some hc
        have hic : i < C := by
          rcases Nat.lt_or_ge i (Cs j).length with h1 | h1
          · omega
          · rw [List.getElem?_eq_none h1] at hu; cases hu
        have := hat i hic
        rw [add_two] at this
        rw [this, hu]
      obtain ⟨b, off, spot⟩ := a
      obtain ⟨hc0, _⟩ := hCs 0 (by omega)
      obtain ⟨_, hcl0, _⟩ := World.cells?_some hc0
      have g0 : (Cs 0)[0]? = some ((Cs 0)[0]'(by omega)) := List.getElem?_eq_getElem (by omega)
      have hspot : spot = none := by simpa [Addr.add] using World.cell?_spot (hcell 0 hpos 0 _ g0)
      subst hspot
      refine ⟨b, off, rfl, ?_, fun j hj i u hu => ?_⟩
      · have hin : MemPlace.cell b off ∈ p := by
          rw [hx.2]
          refine List.mem_append_left _ (MemPlace.mem_row.2 ⟨0, ?_, by simp⟩)
          rw [hC]; exact Nat.mul_pos (by omega) h0
        exact hlt _ hin
      · have := hcell j hj i u hu
        rw [add_here, ← Nat.add_assoc] at this
        exact this
    · obtain ⟨hc, hdt⟩ := hCs j (by omega)
      obtain ⟨_, hcl, _⟩ := World.cells?_some hc
      exact ⟨hcl, Pl j, hdt⟩

/-- A slice of strings. -/
theorem arg_strings {t e : TypeId} {base : Nat} {v : Value} {d : DataW H} {p : List MemPlace} (ht : P.underlying t = some (.slice e)) (he : P.underlying e = some .string) (hC : P.cellsOf e = 1)
    (hok : Value.okWide P W .any base t v) (h : DataW.Trod enc P W 0 sp hd t v d p) (hlt : ∀ x ∈ p, x.block < W.heap.size) :
    ∃ (A : Option Addr) (len cap : Nat) (S : Nat → ByteArray), v = .slice A len cap ∧ len ≤ cap ∧ cap ≤ maxLen ∧
      (0 < len → ∃ b off, A = some ⟨b, off, none⟩ ∧ b < W.heap.size ∧ ∀ j, j < len → W.cell? ⟨b, off + j, none⟩ = some (.string (S j))) ∧ ∀ j, j < len → (S j).size ≤ maxLen := by
  obtain ⟨A, len, cap, n, Cs, D, rfl, hl, hm, _, hrow, hel⟩ := arg_slice ht hC (by omega) hok h hlt
  obtain ⟨S, hS⟩ := Classical.axiomOfChoice (r := fun j s => j < len → Cs j = [.string s] ∧ s.size ≤ maxLen) (fun j => by
    by_cases hj : j < len
    · obtain ⟨_, pl, hd⟩ := hel j hj
      obtain ⟨s, h1, _, h3⟩ := DataW.trod_string he hd
      exact ⟨s, fun _ => ⟨h1, h3⟩⟩
    · exact ⟨ByteArray.empty, fun h => absurd h hj⟩)
  refine ⟨A, len, cap, S, rfl, hl, hm, fun hpos => ?_, fun j hj => (hS j hj).2⟩
  obtain ⟨b, off, hA, hb, hc⟩ := hrow hpos
  refine ⟨b, off, hA, hb, fun j hj => ?_⟩
  have := hc j hj 0 (.string (S j)) (by rw [(hS j hj).1]; rfl)
  rwa [Nat.mul_one, Nat.add_zero] at this

/-- A slice of integers. -/
theorem arg_ints {t e : TypeId} {k : IntKind} {base : Nat} {v : Value} {d : DataW H} {p : List MemPlace} (ht : P.underlying t = some (.slice e)) (he : P.underlying e = some (.int k)) (hC : P.cellsOf e = 1)
    (hok : Value.okWide P W .any base t v) (h : DataW.Trod enc P W 0 sp hd t v d p) (hlt : ∀ x ∈ p, x.block < W.heap.size) :
    ∃ (A : Option Addr) (len cap : Nat) (Z : Nat → Int), v = .slice A len cap ∧ len ≤ cap ∧ cap ≤ maxLen ∧
      (0 < len → ∃ b off, A = some ⟨b, off, none⟩ ∧ b < W.heap.size ∧ ∀ j, j < len → W.cell? ⟨b, off + j, none⟩ = some (.int k (Z j))) ∧ ∀ j, j < len → (Lit.int k (Z j)).wf = true := by
  obtain ⟨A, len, cap, n, Cs, D, rfl, hl, hm, _, hrow, hel⟩ := arg_slice ht hC (by omega) hok h hlt
  obtain ⟨S, hS⟩ := Classical.axiomOfChoice (r := fun j z => j < len → Cs j = [.int k z] ∧ (Lit.int k z).wf = true) (fun j => by
    by_cases hj : j < len
    · obtain ⟨_, pl, hd⟩ := hel j hj
      obtain ⟨s, h1, _, h3⟩ := DataW.trod_int he hd
      exact ⟨s, fun _ => ⟨h1, h3⟩⟩
    · exact ⟨0, fun h => absurd h hj⟩)
  refine ⟨A, len, cap, S, rfl, hl, hm, fun hpos => ?_, fun j hj => (hS j hj).2⟩
  obtain ⟨b, off, hA, hb, hc⟩ := hrow hpos
  refine ⟨b, off, hA, hb, fun j hj => ?_⟩
  have := hc j hj 0 (.int k (S j)) (by rw [(hS j hj).1]; rfl)
  rwa [Nat.mul_one, Nat.add_zero] at this
/-- A struct of one-cell fields: each field's cell, and how it reads. -/
theorem arg_fields {e : TypeId} {fs : Array Field} {n base : Nat} {cs : List Value} {x : DataW H × List MemPlace} (he : P.underlying e = some (.struct fs)) (hone : oneCellFields P fs = true) (hl : cs.length = fs.size)
    (h : DataW.trod enc P W base sp hd n e cs = some x) : ∃ m, ∀ (j : Nat) (f : Field), fs[j]? = some f → ∃ v y, cs[j]? = some v ∧ DataW.trod enc P W base sp hd m f.type [v] = some y := by
  obtain ⟨ys, m, _, _, _, hyl, hf⟩ := DataW.trod_struct he h
  refine ⟨m, fun j f hj => ?_⟩
  obtain ⟨ho, hk⟩ := hone_of hone j f hj
  have hjl : j < fs.size := (Array.getElem?_eq_some_iff.1 hj).1
  have h1 := hf j f hj
  rw [ho, hk, List.drop_eq_getElem_cons (by omega)] at h1
  have h2 : DataW.trod enc P W base sp hd m f.type [cs[j]'(by omega)] = ys[j]? := h1
  rw [List.getElem?_eq_getElem (by omega)] at h2
  exact ⟨_, _, List.getElem?_eq_getElem (by omega), h2⟩
end

end Go.Proofs.Ytlojjodgoeclfaa

namespace Go.Proofs.Ytlojjodgoeclfaa
open Go.ChangeShapes Go.WideShapes Go.ChangeAt Go.RowKit Go.Deep
set_option linter.unusedVariables false
set_option linter.unusedSimpArgs false

theorem info_u8 : (Try.prog.info? 5).map (fun i => (i.zero, i.size, i.bytes)) = some (some (.int .u8 0), 1, 1) := by kernel_rfl

theorem sizeOf_u8 (w : World) : (Go.sizeOf 5).run Try.prog w = .ok 1 w := by
  obtain ⟨i, hi, _, hs, _⟩ := info_parts info_u8
  simp [Go.sizeOf, typeInfo, hi, hs]

theorem own_bytes_at {P : Program} (w : World) (t ty e : TypeId) (i : TypeInfo) (ht : P.underlying t = some (.slice e)) (hi : P.info? e = some i) (hz : i.zero = some (.int .u8 0)) (hsize : i.size = 1) (hby : i.bytes = 1)
    (base : Nat) (hbase : base ≤ w.heap.size) (v : Value) (l : List UInt8) (hown : Owns e w base v l) (A : Option Addr) (len cap : Nat) (new : List UInt8) (hx : Lies w A len cap new) (hf : (l ++ new).length ≤ 140737488355328) :
    ∃ v' w', (Builtin.append_ #[t, t] ty #[v, .slice A len cap]).run P w = .ok v' w' ∧ Owns e w' base v' (l ++ new) ∧ w.grownBy w' v.ownBlock ∧ (v'.ownBlock = v.ownBlock ∨ v'.ownBlock = some w.heap.size) := by
  obtain ⟨rfl, h2, h3, h4⟩ := hx
  have hl : l.length + new.length = (l ++ new).length := by simp
  have hc : cellsOf l ++ cellsOf new = cellsOf (l ++ new) := by simp [cellsOf]
  cases A with
  | none =>
    have := h3 rfl
    obtain rfl : new = [] := List.eq_nil_of_length_eq_zero (by omega)
    obtain rfl : cap = 0 := this
    exact ⟨v, w, run_append_owned_none (P := P) (w := w) base t ty e i 1 ht hi v _ _ hown, by simpa using hown, World.grownBy.refl _ _, .inl rfl⟩
  | some a =>
    have hcell : ∀ j u, (cellsOf new)[j]? = some u → w.cell? (a.add j) = some u := fun j u hj => by
      have hjl : j < new.length := by simpa using (List.getElem?_eq_some_iff.1 hj).1
      obtain ⟨g, off, e, _, hc⟩ := h4 (by omega)
      injection e with e
      subst e
      rw [Addr.add_lit, hc j hjl]
      simp only [List.getElem?_map, List.getElem?_eq_getElem hjl, Option.map_some] at hj
      exact hj
    obtain ⟨v', w', hr, p2, p3, _, p5⟩ := run_append_own_at (P := P) w base t ty e i (.int .u8 0) 1 1 ht hi hz hsize hby rfl (by omega) v l.length (cellsOf l) hown a new.length cap (cellsOf new) (by simp) hcell (cellsOf_one new) (by unfold maxLen; omega) (by omega) hbase
    rw [hl, hc] at p2
    exact ⟨v', w', hr, p2, p3, p5⟩

/-- 'append(x, y...)', y bytes. -/
theorem wpList_append_bytes {P : Program} (w : World) {ops : Array Oper} {rest : List Oper} {o : Oper} {a : Act} {Q : Exit → Act → World → Prop} (hgd : o.guard = none) (sl x : Operand) (t : TypeId)
    (ho : o.op = .call { callee := .builtin .append, args := #[sl, x], argTypes := #[t, t] })
    (e : TypeId) (i : TypeInfo) (ht : P.underlying t = some (.slice e)) (hi : P.info? e = some i) (hz : i.zero = some (.int .u8 0)) (hsize : i.size = 1) (hby : i.bytes = 1)
    (base : Nat) (hbase : base ≤ w.heap.size) (v : Value) (l : List UInt8) (hs : a.eval sl = v) (hown : Owns e w base v l) (A : Option Addr) (len cap : Nat) (new : List UInt8) (hx : a.eval x = .slice A len cap) (hlies : Lies w A len cap new) (hf : (l ++ new).length ≤ 140737488355328)
    (h : ∀ v' w', Owns e w' base v' (l ++ new) → w.grownBy w' v.ownBlock → (v'.ownBlock = v.ownBlock ∨ v'.ownBlock = some w.heap.size) → wpList P ops Q rest (a.put o.dst v') w') : wpList P ops Q (o :: rest) a w := by
  refine wpList_plain hgd fun K hK => ?_
  obtain ⟨v', w', hr, h2, h3, h4⟩ := own_bytes_at (P := P) w t o.type e i ht hi hz hsize hby base hbase v l hown A len cap new hlies hf
  unfold Oper.wp execOp
  simp only [ho, resolve, invoke, builtin, Sem.run_bind, Sem.run_pure, Result.andThen_ok, List.map_toArray, List.map_cons, List.map_nil, hs, hx, hr]
  exact hK _ _ (h v' w' h2 h3 h4)

/-- The same at a step of a region that draws its order. -/
theorem step_append_bytes {P : Program} (w : World) {ops : Array Oper} {o : Oper} {a : Act} {K : Act → World → Prop} {Q : Exit → Act → World → Prop} {E : Prop} (hgd : o.guard = none) (sl x : Operand) (t : TypeId)
    (ho : o.op = .call { callee := .builtin .append, args := #[sl, x], argTypes := #[t, t] })
    (e : TypeId) (i : TypeInfo) (ht : P.underlying t = some (.slice e)) (hi : P.info? e = some i) (hz : i.zero = some (.int .u8 0)) (hsize : i.size = 1) (hby : i.bytes = 1)
    (base : Nat) (hbase : base ≤ w.heap.size) (v : Value) (l : List UInt8) (hs : a.eval sl = v) (hown : Owns e w base v l) (A : Option Addr) (len cap : Nat) (new : List UInt8) (hx : a.eval x = .slice A len cap) (hlies : Lies w A len cap new) (hf : (l ++ new).length ≤ 140737488355328)
    (h : ∀ v' w', Owns e w' base v' (l ++ new) → w.grownBy w' v.ownBlock → (v'.ownBlock = v.ownBlock ∨ v'.ownBlock = some w.heap.size) → K (a.put o.dst v') w') :
    if Region.wanted o (yielded ops a.tmps) = true then Oper.wp P o a w K Q else E := by
  have hw : Region.wanted o (yielded ops a.tmps) = true := by simp [Region.wanted, hgd]
  rw [if_pos hw]
  obtain ⟨v', w', hr, h2, h3, h4⟩ := own_bytes_at (P := P) w t o.type e i ht hi hz hsize hby base hbase v l hown A len cap new hlies hf
  unfold Oper.wp execOp
  simp only [ho, resolve, invoke, builtin, Sem.run_bind, Sem.run_pure, Result.andThen_ok, List.map_toArray, List.map_cons, List.map_nil, hs, hx, hr]
  exact h v' w' h2 h3 h4

theorem wf_i64' {n : Int} (h : (Lit.int .i64 n).wf = true) : -9223372036854775808 ≤ n ∧ n ≤ 9223372036854775807 := by
  simpa [Lit.wf, IntKind.min, IntKind.max, IntKind.bits, IntKind.signed] using h

theorem wf_u8' {n : Int} (h : (Lit.int .u8 n).wf = true) : 0 ≤ n ∧ n < 256 := by
  have : 0 ≤ n ∧ n ≤ 255 := by simpa [Lit.wf, IntKind.min, IntKind.max, IntKind.bits, IntKind.signed] using h
  omega

section
variable {H : Type} {enc : TypeId × Value → H} {W : World} {sp : Nat → Bool} {hd : Bool}

set_option maxRecDepth 100000 in
/-- Bytes that came in; or what fails of them is that they are nil with room. -/
theorem arg_bytes {base : Nat} {v : Value} {d : DataW H} {p : List MemPlace}
    (hok : Value.okWide Try.prog W .any base 23 v) (h : DataW.Trod enc Try.prog W 0 sp hd 23 v d p) (hlt : ∀ x ∈ p, x.block < W.heap.size) :
    ∃ (A : Option Addr) (len cap : Nat) (l : List UInt8), v = .slice A len cap ∧ len ≤ cap ∧ cap ≤ maxLen ∧ l.length = len ∧ (A = none → cap = 0) ∧
      (0 < len → ∃ g off, A = some ⟨g, off, none⟩ ∧ g < W.heap.size ∧ ∀ j (hj : j < l.length), W.cell? ⟨g, off + j, none⟩ = some (u8 l[j])) := by
  have hnone : ∀ (c : Nat) (len : Nat), v = .slice none len c → c = 0 := fun c len e => by
    subst e
    obtain ⟨fuel, hf⟩ := h
    rcases open_slice Try.underlying23 hf with ⟨hcs, hx⟩ | ⟨a, len', cap', m, n, D, Pl, hcs, _⟩
    · simp [Value.cells] at hcs; omega
    · simp [Value.cells] at hcs
  obtain ⟨A, len, cap, Z, rfl, hl, hm, hrow, hwf⟩ := arg_ints Try.underlying23 Try.underlying5 (by kernel_rfl) hok h hlt
  refine ⟨A, len, cap, (List.range len).map (fun j => UInt8.ofNat (Z j).toNat), rfl, hl, hm, by simp, fun e => hnone cap len (by rw [e]), fun hpos => ?_⟩
  obtain ⟨g, off, e, hg, hc⟩ := hrow hpos
  refine ⟨g, off, e, hg, fun j hj => ?_⟩
  have hj' : j < len := by simpa using hj
  rw [hc j hj']
  have := wf_u8' (hwf j hj')
  simp only [List.getElem_map, List.getElem_range]
  have e2 : ((UInt8.ofNat (Z j).toNat).toNat : Int) = Z j := by simp; omega
  simp only [u8, e2]
theorem arg_bytes_len {A : Option Addr} {len cap : Nat} {d : DataW H} {p : List MemPlace} (h : DataW.Trod enc Try.prog W 0 sp hd 23 (.slice A len cap) d p) : len = 0 ∨ ∃ el sr, d = .slice el sr ∧ el.length = len := by
  obtain ⟨fuel, hf⟩ := h
  rcases open_slice Try.underlying23 hf with ⟨hcs, hx⟩ | ⟨a, len', cap', m, n, D, Pl, hcs, hb, hl, hm, hmm, hx, hi⟩
  · simp [Value.cells] at hcs
    exact .inl hcs.2.1
  · simp [Value.cells] at hcs
    obtain ⟨rfl, rfl, rfl⟩ := hcs
    simp only [Prod.mk.injEq] at hx
    exact .inr ⟨_, _, hx.1, by simp⟩
/- slices within elements -/

/-- A slice of structs: each element's cells, its reading, and that what it leads to is old. -/
theorem arg_slice_in {P : Program} {t e : TypeId} {C base : Nat} {v : Value} {d : DataW H} {p : List MemPlace} (ht : P.underlying t = some (.slice e)) (hC : P.cellsOf e = C) (h0 : 0 < C)
    (hok : Value.okWide P W .any base t v) (h : DataW.Trod enc P W 0 sp hd t v d p) (hlt : ∀ x ∈ p, x.block < W.heap.size) :
    ∃ (A : Option Addr) (len cap n : Nat) (Cs : Nat → List Value) (D : Nat → DataW H), v = .slice A len cap ∧ len ≤ cap ∧ cap ≤ maxLen ∧
      (0 < len → ∃ b off, A = some ⟨b, off, none⟩ ∧ b < W.heap.size ∧ ∀ j, j < len → ∀ i u, (Cs j)[i]? = some u → W.cell? ⟨b, off + j * C + i, none⟩ = some u) ∧
      ∀ j, j < len → (Cs j).length = C ∧ ∃ pl, DataW.trod enc P W 0 sp hd n e (Cs j) = some (D j, pl) ∧ ∀ x ∈ pl, x.block < W.heap.size := by
  obtain ⟨A, len, cap, rfl⟩ := okWide_slice ht hok
  obtain ⟨fuel, hf⟩ := h
  rcases open_slice ht hf with ⟨hcs, hx⟩ | ⟨a, len', cap', m, n, D, Pl, hcs, hb, hl, hm, hmm, hx, hi⟩
  · simp [Value.cells] at hcs
    obtain ⟨rfl, rfl, rfl⟩ := hcs
    exact ⟨none, 0, 0, 0, fun _ => [], fun _ => .nil, rfl, Nat.le_refl _, Nat.zero_le _, fun h => absurd h (by omega), fun j hj => absurd hj (by omega)⟩
  · simp [Value.cells] at hcs
    obtain ⟨rfl, rfl, rfl⟩ := hcs
    simp only [Prod.mk.injEq] at hx
    have hlm : len ≤ m := by rw [hmm]; split <;> omega
    obtain ⟨Cs, hCs⟩ := Classical.axiomOfChoice (r := fun i cs' => i < m → W.cells? 0 (a.add (i * P.cellsOf e)) (P.cellsOf e) = some cs' ∧ DataW.trod enc P W 0 sp hd n e cs' = some (D i, Pl i)) (fun i => by
      by_cases him : i < m
      · obtain ⟨cs', h1, h2⟩ := hi i him
        exact ⟨cs', fun _ => ⟨h1, h2⟩⟩
      · exact ⟨[], fun h => absurd h him⟩)
    rw [hC] at hCs
    refine ⟨some a, len, cap, n, Cs, D, rfl, hl, hm, fun hpos => ?_, fun j hj => ?_⟩
    · have hcell : ∀ j, j < len → ∀ i u, (Cs j)[i]? = some u → W.cell? (a.add (j * C + i)) = some u := fun j hj i u hu => by
        obtain ⟨hc, _⟩ := hCs j (by omega)
        obtain ⟨_, hcl, hat⟩ := World.cells?_some hc
        have hic : i < C := by
          rcases Nat.lt_or_ge i (Cs j).length with h1 | h1
          · omega
          · rw [List.getElem?_eq_none h1] at hu; cases hu
        have := hat i hic
        rw [add_two] at this
        rw [this, hu]
      obtain ⟨b, off, spot⟩ := a
      obtain ⟨hc0, _⟩ := hCs 0 (by omega)
      obtain ⟨_, hcl0, _⟩ := World.cells?_some hc0
      have g0 : (Cs 0)[0]? = some ((Cs 0)[0]'(by omega)) := List.getElem?_eq_getElem (by omega)
      have hspot : spot = none := by simpa [Addr.add] using World.cell?_spot (hcell 0 hpos 0 _ g0)
      subst hspot
      refine ⟨b, off, rfl, ?_, fun j hj i u hu => ?_⟩
      · have hin : MemPlace.cell b off ∈ p := by
          rw [hx.2]
          refine List.mem_append_left _ (MemPlace.mem_row.2 ⟨0, ?_, by simp⟩)
          rw [hC]; exact Nat.mul_pos (by omega) h0
        exact hlt _ hin
      · have := hcell j hj i u hu
        rw [add_here, ← Nat.add_assoc] at this
        exact this
    · obtain ⟨hc, hdt⟩ := hCs j (by omega)
      obtain ⟨_, hcl, _⟩ := World.cells?_some hc
      exact ⟨hcl, Pl j, hdt, fun x hx' => hlt x (by rw [hx.2]; exact List.mem_append_right _ (List.mem_flatMap.2 ⟨j, by simp; omega, hx'⟩))⟩

/-- A struct of one-cell fields: each field's cell, how it reads, and that what it leads to is old. -/
theorem arg_fields_in {P : Program} {e : TypeId} {fs : Array Field} {n base : Nat} {cs : List Value} {x : DataW H × List MemPlace} (he : P.underlying e = some (.struct fs)) (hone : oneCellFields P fs = true) (hl : cs.length = fs.size)
    (h : DataW.trod enc P W base sp hd n e cs = some x) (hlt : ∀ y ∈ x.2, y.block < W.heap.size) : ∃ m, ∀ (j : Nat) (f : Field), fs[j]? = some f → ∃ v y, cs[j]? = some v ∧ DataW.trod enc P W base sp hd m f.type [v] = some y ∧ ∀ q ∈ y.2, q.block < W.heap.size := by
  obtain ⟨ys, m, _, hx, _, hyl, hf⟩ := DataW.trod_struct he h
  refine ⟨m, fun j f hj => ?_⟩
  obtain ⟨ho, hk⟩ := hone_of hone j f hj
  have hjl : j < fs.size := (Array.getElem?_eq_some_iff.1 hj).1
  have h1 := hf j f hj
  rw [ho, hk, List.drop_eq_getElem_cons (by omega)] at h1
  have h2 : DataW.trod enc P W base sp hd m f.type [cs[j]'(by omega)] = ys[j]? := h1
  rw [List.getElem?_eq_getElem (by omega)] at h2
  refine ⟨_, _, List.getElem?_eq_getElem (by omega), h2, fun q hq => hlt q ?_⟩
  rw [hx]
  exact List.mem_flatMap.2 ⟨_, List.getElem_mem (by omega), hq⟩

/-- Within an element: a slice of integers. -/
theorem in_ints {P : Program} {t e : TypeId} {k : IntKind} {m : Nat} {v : Value} {y : DataW H × List MemPlace} (ht : P.underlying t = some (.slice e)) (he : P.underlying e = some (.int k)) (hC : P.cellsOf e = 1)
    (h : DataW.trod enc P W 0 sp hd m t [v] = some y) (hlt : ∀ q ∈ y.2, q.block < W.heap.size) :
    ∃ (A : Option Addr) (len cap : Nat) (Z : Nat → Int), v = .slice A len cap ∧ len ≤ cap ∧ cap ≤ maxLen ∧ (A = none → cap = 0) ∧
      (0 < len → ∃ b off, A = some ⟨b, off, none⟩ ∧ b < W.heap.size ∧ ∀ j, j < len → W.cell? ⟨b, off + j, none⟩ = some (.int k (Z j))) ∧ ∀ j, j < len → (Lit.int k (Z j)).wf = true := by
  rcases open_slice1 ht hC h with ⟨hcs, hx⟩ | ⟨a, len, cap, m, n, V, D, Pl, hcs, hb, hl, hm, hmm, hx, hi⟩
  · simp at hcs
    subst hcs
    exact ⟨none, 0, 0, fun _ => 0, rfl, Nat.le_refl _, Nat.zero_le _, fun _ => rfl, fun h => absurd h (by omega), fun j hj => absurd hj (by omega)⟩
  · simp at hcs
    subst hcs
    have hlm : len ≤ m := by rw [hmm]; split <;> omega
    obtain ⟨S, hS⟩ := Classical.axiomOfChoice (r := fun j z => j < len → V j = .int k z ∧ (Lit.int k z).wf = true) (fun j => by
      by_cases hj : j < len
      · obtain ⟨s, h1, _, h3⟩ := DataW.trod_int he (hi j (by omega)).2
        simp at h1
        exact ⟨s, fun _ => ⟨h1, h3⟩⟩
      · exact ⟨0, fun h => absurd h hj⟩)
    refine ⟨some a, len, cap, S, rfl, hl, hm, (fun h => by cases h), fun hpos => ?_, fun j hj => (hS j hj).2⟩
    obtain ⟨b, off, spot⟩ := a
    have hc0 := (hi 0 (by omega)).1
    have hspot : spot = none := by simpa [Addr.add] using World.cell?_spot hc0
    subst hspot
    refine ⟨b, off, rfl, ?_, fun j hj => ?_⟩
    · refine hlt (MemPlace.cell b off) ?_
      rw [hx]
      exact List.mem_append_left _ (MemPlace.mem_row.2 ⟨0, by omega, by simp⟩)
    · have := (hi j (by omega)).1
      rw [add_here] at this
      rw [this, (hS j hj).1]

/-- Within an element: bytes. -/
theorem in_bytes {P : Program} {t e : TypeId} {m : Nat} {v : Value} {y : DataW H × List MemPlace} (ht : P.underlying t = some (.slice e)) (he : P.underlying e = some (.int .u8)) (hC : P.cellsOf e = 1)
    (h : DataW.trod enc P W 0 sp hd m t [v] = some y) (hlt : ∀ q ∈ y.2, q.block < W.heap.size) :
    ∃ (A : Option Addr) (len cap : Nat) (l : List UInt8), v = .slice A len cap ∧ cap ≤ maxLen ∧ Lies W A len cap l ∧ (0 < len → ∀ a, A = some a → a.block < W.heap.size) := by
  obtain ⟨A, len, cap, Z, rfl, hl, hm, hn, hrow, hwf⟩ := in_ints ht he hC h hlt
  refine ⟨A, len, cap, (List.range len).map (fun j => UInt8.ofNat (Z j).toNat), rfl, hm, ⟨by simp, hl, hn, fun hpos => ?_⟩, fun hpos a e => ?_⟩
  · obtain ⟨g, off, e, hg, hc⟩ := hrow hpos
    refine ⟨g, off, e, hg, fun j hj => ?_⟩
    have hj' : j < len := by simpa using hj
    rw [hc j hj']
    have := wf_u8' (hwf j hj')
    simp only [List.getElem_map, List.getElem_range]
    have e2 : ((UInt8.ofNat (Z j).toNat).toNat : Int) = Z j := by simp; omega
    simp only [u8, e2]
  · obtain ⟨g, off, e2, hg, _⟩ := hrow hpos
    rw [e2] at e
    injection e with e
    subst e
    exact hg
end

end Go.Proofs.Ytlojjodgoeclfaa

namespace Go.Proofs.Ytlojjodgoeclfaa
open Go.RowKit
set_option linter.unusedVariables false

section
variable {P : Program} {fn : Func} {p q u : Tmp} {T : TypeId} {W : World} {n : Nat} {cs : Array Value} {fr : Nat × Nat} {d : TypeDesc} {tmps : Array Value}

theorem results_tmp_cell (h : fn.results = #[.tmp u, .cell p T]) (tmps : Array Value) (P : Program) (w : World) :
    (results fn tmps).run P w =
      ((asAddr (tmps.getD p undef)).run P w).andThen fun a w₁ => ((loadVar T a).run P w₁).andThen fun v w₂ => .ok (.tuple #[tmps.getD u undef, v]) w₂ := by
  simp only [results, h]
  simp [Sem.run_bind, Result.andThen]

/-- One result, a struct in a block. -/
theorem res_cell (h : fn.results = #[.cell p T]) (h1 : tmps.getD p undef = .pointer (some ⟨n, 0, none⟩)) (hW : W.heap[n]? = some (.cells cs T fr)) (hu : P.underlying T = some d)
    (hd : (match d with | .struct _ | .array _ _ => true | _ => false) = true) (hi : (P.info? T).map (·.size) = some cs.size) : (results fn tmps).run P W = .ok (.agg cs) W :=
  results_cell_row h tmps W n T cs fr d h1 hW hu hd hi

/-- A struct in a block, and a slot. -/
theorem res_cell_tmp' (h : fn.results = #[.cell p T, .tmp u]) (h1 : tmps.getD p undef = .pointer (some ⟨n, 0, none⟩)) (hW : W.heap[n]? = some (.cells cs T fr)) (hu : P.underlying T = some d)
    (hd : (match d with | .struct _ | .array _ _ => true | _ => false) = true) (hi : (P.info? T).map (·.size) = some cs.size) : (results fn tmps).run P W = .ok (.tuple #[.agg cs, tmps.getD u undef]) W := by
  rw [results_cell_tmp h, h1]
  simp [asAddr, run_loadVar_row W n T T cs fr d hW hu hd hi]

/-- A slot, and a struct in a block. -/
theorem res_tmp_cell' (h : fn.results = #[.tmp u, .cell p T]) (h1 : tmps.getD p undef = .pointer (some ⟨n, 0, none⟩)) (hW : W.heap[n]? = some (.cells cs T fr)) (hu : P.underlying T = some d)
    (hd : (match d with | .struct _ | .array _ _ => true | _ => false) = true) (hi : (P.info? T).map (·.size) = some cs.size) : (results fn tmps).run P W = .ok (.tuple #[tmps.getD u undef, .agg cs]) W := by
  rw [results_tmp_cell h, h1]
  simp [asAddr, run_loadVar_row W n T T cs fr d hW hu hd hi]

theorem results_tmp_cell_tmp (h : fn.results = #[.tmp u, .cell p T, .tmp q]) (tmps : Array Value) (P : Program) (w : World) :
    (results fn tmps).run P w =
      ((asAddr (tmps.getD p undef)).run P w).andThen fun a w₁ => ((loadVar T a).run P w₁).andThen fun v w₂ => .ok (.tuple #[tmps.getD u undef, v, tmps.getD q undef]) w₂ := by
  simp only [results, h]
  simp [Sem.run_bind, Result.andThen]

/-- A slot, a struct in a block, a slot. -/
theorem res_tmp_cell_tmp (h : fn.results = #[.tmp u, .cell p T, .tmp q]) (h1 : tmps.getD p undef = .pointer (some ⟨n, 0, none⟩)) (hW : W.heap[n]? = some (.cells cs T fr)) (hu : P.underlying T = some d)
    (hd : (match d with | .struct _ | .array _ _ => true | _ => false) = true) (hi : (P.info? T).map (·.size) = some cs.size) : (results fn tmps).run P W = .ok (.tuple #[tmps.getD u undef, .agg cs, tmps.getD q undef]) W := by
  rw [results_tmp_cell_tmp h, h1]
  simp [asAddr, run_loadVar_row W n T T cs fr d hW hu hd hi]
end

/- all cells of a block -/
theorem row2 {w : World} {g : Nat} {v0 v1 : Value} {T : TypeId} (h : w.heap[g]? = some (.cells #[v0, v1] T)) : (w.cell? ⟨g, 0, none⟩ = some v0 ∧ w.cell? ⟨g, 1, none⟩ = some v1) ∧ (w.frozen? ⟨g, 0, none⟩ = false ∧ w.frozen? ⟨g, 1, none⟩ = false) := by
  refine ⟨⟨?_, ?_⟩, ⟨?_, ?_⟩⟩ <;> simp [World.cell?, World.frozen?, h]
theorem row3 {w : World} {g : Nat} {v0 v1 v2 : Value} {T : TypeId} (h : w.heap[g]? = some (.cells #[v0, v1, v2] T)) : (w.cell? ⟨g, 0, none⟩ = some v0 ∧ w.cell? ⟨g, 1, none⟩ = some v1 ∧ w.cell? ⟨g, 2, none⟩ = some v2) ∧ (w.frozen? ⟨g, 0, none⟩ = false ∧ w.frozen? ⟨g, 1, none⟩ = false ∧ w.frozen? ⟨g, 2, none⟩ = false) := by
  refine ⟨⟨?_, ?_, ?_⟩, ⟨?_, ?_, ?_⟩⟩ <;> simp [World.cell?, World.frozen?, h]
theorem row4 {w : World} {g : Nat} {v0 v1 v2 v3 : Value} {T : TypeId} (h : w.heap[g]? = some (.cells #[v0, v1, v2, v3] T)) : (w.cell? ⟨g, 0, none⟩ = some v0 ∧ w.cell? ⟨g, 1, none⟩ = some v1 ∧ w.cell? ⟨g, 2, none⟩ = some v2 ∧ w.cell? ⟨g, 3, none⟩ = some v3) ∧ (w.frozen? ⟨g, 0, none⟩ = false ∧ w.frozen? ⟨g, 1, none⟩ = false ∧ w.frozen? ⟨g, 2, none⟩ = false ∧ w.frozen? ⟨g, 3, none⟩ = false) := by
  refine ⟨⟨?_, ?_, ?_, ?_⟩, ⟨?_, ?_, ?_, ?_⟩⟩ <;> simp [World.cell?, World.frozen?, h]
theorem row5 {w : World} {g : Nat} {v0 v1 v2 v3 v4 : Value} {T : TypeId} (h : w.heap[g]? = some (.cells #[v0, v1, v2, v3, v4] T)) : (w.cell? ⟨g, 0, none⟩ = some v0 ∧ w.cell? ⟨g, 1, none⟩ = some v1 ∧ w.cell? ⟨g, 2, none⟩ = some v2 ∧ w.cell? ⟨g, 3, none⟩ = some v3 ∧ w.cell? ⟨g, 4, none⟩ = some v4) ∧ (w.frozen? ⟨g, 0, none⟩ = false ∧ w.frozen? ⟨g, 1, none⟩ = false ∧ w.frozen? ⟨g, 2, none⟩ = false ∧ w.frozen? ⟨g, 3, none⟩ = false ∧ w.frozen? ⟨g, 4, none⟩ = false) := by
  refine ⟨⟨?_, ?_, ?_, ?_, ?_⟩, ⟨?_, ?_, ?_, ?_, ?_⟩⟩ <;> simp [World.cell?, World.frozen?, h]
theorem row6 {w : World} {g : Nat} {v0 v1 v2 v3 v4 v5 : Value} {T : TypeId} (h : w.heap[g]? = some (.cells #[v0, v1, v2, v3, v4, v5] T)) : (w.cell? ⟨g, 0, none⟩ = some v0 ∧ w.cell? ⟨g, 1, none⟩ = some v1 ∧ w.cell? ⟨g, 2, none⟩ = some v2 ∧ w.cell? ⟨g, 3, none⟩ = some v3 ∧ w.cell? ⟨g, 4, none⟩ = some v4 ∧ w.cell? ⟨g, 5, none⟩ = some v5) ∧ (w.frozen? ⟨g, 0, none⟩ = false ∧ w.frozen? ⟨g, 1, none⟩ = false ∧ w.frozen? ⟨g, 2, none⟩ = false ∧ w.frozen? ⟨g, 3, none⟩ = false ∧ w.frozen? ⟨g, 4, none⟩ = false ∧ w.frozen? ⟨g, 5, none⟩ = false) := by
  refine ⟨⟨?_, ?_, ?_, ?_, ?_, ?_⟩, ⟨?_, ?_, ?_, ?_, ?_, ?_⟩⟩ <;> simp [World.cell?, World.frozen?, h]
theorem row7 {w : World} {g : Nat} {v0 v1 v2 v3 v4 v5 v6 : Value} {T : TypeId} (h : w.heap[g]? = some (.cells #[v0, v1, v2, v3, v4, v5, v6] T)) : (w.cell? ⟨g, 0, none⟩ = some v0 ∧ w.cell? ⟨g, 1, none⟩ = some v1 ∧ w.cell? ⟨g, 2, none⟩ = some v2 ∧ w.cell? ⟨g, 3, none⟩ = some v3 ∧ w.cell? ⟨g, 4, none⟩ = some v4 ∧ w.cell? ⟨g, 5, none⟩ = some v5 ∧ w.cell? ⟨g, 6, none⟩ = some v6) ∧ (w.frozen? ⟨g, 0, none⟩ = false ∧ w.frozen? ⟨g, 1, none⟩ = false ∧ w.frozen? ⟨g, 2, none⟩ = false ∧ w.frozen? ⟨g, 3, none⟩ = false ∧ w.frozen? ⟨g, 4, none⟩ = false ∧ w.frozen? ⟨g, 5, none⟩ = false ∧ w.frozen? ⟨g, 6, none⟩ = false) := by
  refine ⟨⟨?_, ?_, ?_, ?_, ?_, ?_, ?_⟩, ⟨?_, ?_, ?_, ?_, ?_, ?_, ?_⟩⟩ <;> simp [World.cell?, World.frozen?, h]
theorem row8 {w : World} {g : Nat} {v0 v1 v2 v3 v4 v5 v6 v7 : Value} {T : TypeId} (h : w.heap[g]? = some (.cells #[v0, v1, v2, v3, v4, v5, v6, v7] T)) : (w.cell? ⟨g, 0, none⟩ = some v0 ∧ w.cell? ⟨g, 1, none⟩ = some v1 ∧ w.cell? ⟨g, 2, none⟩ = some v2 ∧ w.cell? ⟨g, 3, none⟩ = some v3 ∧ w.cell? ⟨g, 4, none⟩ = some v4 ∧ w.cell? ⟨g, 5, none⟩ = some v5 ∧ w.cell? ⟨g, 6, none⟩ = some v6 ∧ w.cell? ⟨g, 7, none⟩ = some v7) ∧ (w.frozen? ⟨g, 0, none⟩ = false ∧ w.frozen? ⟨g, 1, none⟩ = false ∧ w.frozen? ⟨g, 2, none⟩ = false ∧ w.frozen? ⟨g, 3, none⟩ = false ∧ w.frozen? ⟨g, 4, none⟩ = false ∧ w.frozen? ⟨g, 5, none⟩ = false ∧ w.frozen? ⟨g, 6, none⟩ = false ∧ w.frozen? ⟨g, 7, none⟩ = false) := by
  refine ⟨⟨?_, ?_, ?_, ?_, ?_, ?_, ?_, ?_⟩, ⟨?_, ?_, ?_, ?_, ?_, ?_, ?_, ?_⟩⟩ <;> simp [World.cell?, World.frozen?, h]

theorem set2_at (X : World) (n : Nat) (a b a0 b0 : Value) (T : TypeId) (h : X.heap[n]? = some (.cells #[a0, b0] T)) : ((X.setCell ⟨n, 0, none⟩ a).setCell ⟨n, 1, none⟩ b).heap[n]? = some (.cells #[a, b] T) := by
  simp only [World.setCell, Array.getElem?_modify, if_true, h, Option.map_some]
  simp
theorem set3_at (X : World) (n : Nat) (a b c a0 b0 c0 : Value) (T : TypeId) (h : X.heap[n]? = some (.cells #[a0, b0, c0] T)) : (((X.setCell ⟨n, 0, none⟩ a).setCell ⟨n, 1, none⟩ b).setCell ⟨n, 2, none⟩ c).heap[n]? = some (.cells #[a, b, c] T) := by
  simp only [World.setCell, Array.getElem?_modify, if_true, h, Option.map_some]
  simp
theorem set5_at (X : World) (n : Nat) (a b c d e a0 b0 c0 d0 e0 : Value) (T : TypeId) (h : X.heap[n]? = some (.cells #[a0, b0, c0, d0, e0] T)) :
    (((((X.setCell ⟨n, 0, none⟩ a).setCell ⟨n, 1, none⟩ b).setCell ⟨n, 2, none⟩ c).setCell ⟨n, 3, none⟩ d).setCell ⟨n, 4, none⟩ e).heap[n]? = some (.cells #[a, b, c, d, e] T) := by
  simp only [World.setCell, Array.getElem?_modify, if_true, h, Option.map_some]
  simp

theorem drew_row {X : World} {n : Nat} {o : Option Obj} (h : X.heap[n]? = o) : X.drew.heap[n]? = o := h

theorem set5_drew (X : World) (n : Nat) (a b c d e a0 b0 c0 d0 e0 : Value) (T : TypeId) (h : X.heap[n]? = some (.cells #[a0, b0, c0, d0, e0] T)) :
    (((((X.setCell ⟨n, 0, none⟩ a).setCell ⟨n, 1, none⟩ b).setCell ⟨n, 2, none⟩ c).setCell ⟨n, 3, none⟩ d).setCell ⟨n, 4, none⟩ e).drew.heap[n]? = some (.cells #[a, b, c, d, e] T) := drew_row (set5_at X n a b c d e a0 b0 c0 d0 e0 T h)

end Go.Proofs.Ytlojjodgoeclfaa

namespace Go.Proofs.Ytlojjodgoeclfaa
open Go.RowKit
set_option linter.unusedVariables false
set_option linter.unusedSimpArgs false

theorem Owns.rebase {T : TypeId} {w : World} {base base' : Nat} {v : Value} {l : List UInt8} (h : Owns T w base v l) (hb : ∀ k, v.ownBlock = some k → base' ≤ k) : Owns T w base' v l := by
  rcases h.2 with ⟨e, h0⟩ | ⟨g, cap, cur, e, hbg, r⟩
  · exact ⟨h.1, .inl ⟨e, h0⟩⟩
  · exact ⟨h.1, .inr ⟨g, cap, cur, e, hb g (by rw [e]; rfl), r⟩⟩

theorem own_blk (A : Option Addr) (n c n' c' : Nat) : (Value.slice A n c).ownBlock = (Value.slice A n' c').ownBlock := by cases A <;> rfl

/- bytes.Clone -/
theorem clone_any (A : Option Addr) (len cap : Nat) (l : List UInt8) (w : World) (h : Lies w A len cap l) (hb : l.length ≤ 140737488355328) :
    Calls Try.prog 43 #[.slice A len cap] w fun e w' => ∃ v, e = .returned v ∧ Owns 5 w' w.heap.size v l ∧ Below w.heap.size w w' := by
  have hq : ∀ (w : World) (a : Option Addr) (n c n' c' : Nat), (binOp .eql 23 (.slice a n c) (.slice none n' c')).run Try.prog w = .ok (.bool a.isNone) w := fun w a n c n' c' => Go.Lib.run_eql_slice_nil w _ _ a n c n' c' Try.underlying23
  obtain ⟨i0, hi0, hz0, hz1, hz2⟩ := info_parts info_u8
  cases A with
  | none =>
    have := h.2.2.1 rfl
    have h1 := h.1
    have h2 := h.2.1
    obtain rfl : l = [] := List.eq_nil_of_length_eq_zero (by omega)
    clear h hi0 hz0 hz1 hz2
    go_enter Try.func43, Try.ntmps43
    go_wp2
    go_ret
    exact ⟨_, rfl, Owns.nil _ _ _, Below.refl _ _⟩
  | some a =>
    go_enter Try.func43, Try.ntmps43
    go_wp2_with (at_builtin; refine wpList_append_bytes _ rfl _ _ 23 rfl 5 i0 Try.underlying23 hi0 hz0 hz1 hz2 w.heap.size (by simp) (.slice (some ⟨w.heap.size, 0, none⟩) 0 0) [] rfl (World.ownsRow_made _ #[] 0 (Nat.le_refl _) (Nat.zero_le _) rfl) (some a) len cap l rfl (h.below ((Below.refl _ _).alloc (Nat.le_refl _) _) (Nat.le_refl _)) (by simpa using hb) ?_)
    intro v1 w1 ho hg _
    have hbw := ((Below.refl w.heap.size w).alloc (Nat.le_refl _) (.cells #[] 5)).grown hg (by simp) (fun k e => by injection e with e; have e' : w.heap.size = k := e; omega)
    clear hg h
    go_wp2
    go_ret
    exact ⟨_, rfl, ho, hbw⟩

end Go.Proofs.Ytlojjodgoeclfaa

namespace Go.Proofs.Ytlojjodgoeclfaa
open Go.ChangeShapes Go.WideShapes Go.ChangeAt Go.RowKit

section
variable {H : Type} {enc : TypeId × Value → H} {P : Program}

theorem stays_all (hl : laidOutB P = true) {W W' : World} {sp : Nat → Bool} : ∀ {ts : List TypeId} {vs : List Value} {ds : List (DataW H)} {ps : List MemPlace}, (∀ t ∈ ts, P.readableRec t = true ∧ t < P.types.size) →
    DataW.TrodAll enc P W 0 (fun _ => true) true ts vs ds ps → (∀ x ∈ ps, W.sameAt W' x) → (∀ x ∈ ps, sp x.block = true) → DataW.TrodAll enc P W' 0 sp true ts vs ds ps
  | [], [], [], _, _, h, _, _ => h
  | t :: _, _ :: _, _ :: _, _, hT, ⟨p, q, h1, h2, e⟩, hs, hp =>
    ⟨p, q, WideElems.Trod_stays hl (hT t List.mem_cons_self).1 (hT t List.mem_cons_self).2 h1 (fun x hx => hs x (by rw [e]; exact List.mem_append_left _ hx)) (fun x hx => hp x (by rw [e]; exact List.mem_append_left _ hx)),
      stays_all hl (fun t ht => hT t (List.mem_cons_of_mem _ ht)) h2 (fun x hx => hs x (by rw [e]; exact List.mem_append_right _ hx)) (fun x hx => hp x (by rw [e]; exact List.mem_append_right _ hx)), e⟩

/-- A law that answers true, and below whose first new block nothing has turned. -/
theorem law_end (hl : laidOutB P = true) {f : Func} {s : ChangeSpec} {T : TypeId} {W W' : World} {args : Array Value} {ds gs : List (DataW H)} {before : List MemPlace}
    (hT : ∀ t ∈ f.params.toList, P.readableRec t = true ∧ t < P.types.size) (hvars : s.vars = []) (hres : f.resultTypes = #[T]) (hb : P.underlying T = some .bool)
    (hW : DataW.Whole enc P f.params.toList s.vars false W args.toList ds gs before)
    (hr : (s.fn H (ds ++ gs)).results = [.lit (.bool true)]) (ha : (s.fn H (ds ++ gs)).args = ds) (hv : (s.fn H (ds ++ gs)).vars = [])
    (hbel : Below W.heap.size W W') : s.post enc P f false true false false W args (.bool true) W' := by
  have hW' := hW
  obtain ⟨p, q, hA, hV, hps, hfz, _⟩ := hW
  rw [hvars] at hV
  obtain ⟨rfl, rfl⟩ := trodVars_none hV
  rw [List.append_nil] at hps
  subst hps
  have hlt : ∀ x ∈ before, x.block < W.heap.size := fun x hx => hW'.lt x hx
  have harg : ∀ sp : Nat → Bool, (∀ x ∈ before, sp x.block = true) → DataW.TrodAll enc P W' 0 sp true f.params.toList args.toList (s.fn H (ds ++ [])).args before := fun sp hsp => by
    rw [ha]
    exact stays_all hl hT hA (fun x hx => hbel.same (hlt x hx)) hsp
  have hvar : ∀ sp : Nat → Bool, DataW.TrodVars enc P W' sp s.vars (s.fn H (ds ++ [])).vars [] := fun sp => by
    rw [hvars, hv]
    exact rfl
  have hresult : ∀ (b : Nat) (sp : Nat → Bool) (hd : Bool), DataW.TrodAll enc P W' b sp hd f.resultTypes.toList ((Value.bool true).resultList f.resultTypes.size) (s.fn H (ds ++ [])).results [] := fun b sp hd => by
    rw [hr, hres]
    exact trodAll_cons_mk (shut_bool hb _) trodAll_mk0
  refine ⟨ds, [], before, [], before, [], hW', hresult _ _ _, harg _ (fun x hx => by simpa using hlt x hx), hvar _, World.keptBut_mono (fun x hx => ⟨hx, Or.inr (Or.inl hx)⟩) (hbel.frame (· ∈ before)), fun h => by cases h⟩
end

end Go.Proofs.Ytlojjodgoeclfaa
