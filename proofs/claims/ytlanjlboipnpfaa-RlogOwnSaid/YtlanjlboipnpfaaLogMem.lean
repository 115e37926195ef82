/- A node's log in memory: a row of entries from somewhere on, cut in front and behind, appended to, cleared. -/
import Derived.Test.YtlanjlboipnpfaaLogGood
import Derived.Test.YtlanjlboipnpfaaLogRefB
import Derived.Test.YtlanjlboipnpfaaRes
import Derived.ArgAppend
import Derived.Lib.SliceRun
import Derived.Lib.Hide
namespace Go.Proofs.Ytlanjlboipnpfaa
open Go.RowKit
set_option linter.unusedVariables false
set_option linter.unusedSimpArgs false

/-- Which block a slice lies in. -/
def blk (A : Option Addr) (q : Nat) : Prop := ∃ o, A = some ⟨q, o, none⟩

theorem blk_some (g o q : Nat) : blk (some ⟨g, o, none⟩) q ↔ q = g := by
  constructor
  · rintro ⟨o', e⟩
    injection e with e
    injection e with e1
    exact e1.symm
  · rintro rfl
    exact ⟨o, rfl⟩

theorem blk_none (q : Nat) : ¬ blk none q := fun ⟨o, e⟩ => by cases e

/-- Entries in a row, from somewhere on, with room behind them. -/
def Spot (w : World) (A : Option Addr) (n cap : Nat) (xs : List Lay) : Prop :=
  xs.length = n ∧ n ≤ cap ∧ cap ≤ maxLen ∧ (A = none → cap = 0) ∧ ∀ a, A = some a → ∃ g off cur, a = ⟨g, off, none⟩ ∧ w.heap[g]? = some (.cells cur 43 (0, 0)) ∧ off + cap * 3 ≤ cur.size ∧ ∀ j u, (rowOf xs)[j]? = some u → cur[off + j]? = some u

section
variable {w w' : World} {A : Option Addr} {n cap : Nat} {xs ys : List Lay}

theorem Spot.keep (h : Spot w A n cap xs) (hk : ∀ q, blk A q → w'.heap[q]? = w.heap[q]?) : Spot w' A n cap xs := by
  refine ⟨h.1, h.2.1, h.2.2.1, h.2.2.2.1, fun a e => ?_⟩
  obtain ⟨g, off, cur, rfl, hg, r⟩ := h.2.2.2.2 a e
  exact ⟨g, off, cur, rfl, (hk g ⟨off, e⟩).trans hg, r⟩

theorem Spot.lt (h : Spot w A n cap xs) {q : Nat} (hq : blk A q) : q < w.heap.size := by
  obtain ⟨o, e⟩ := hq
  obtain ⟨g, off, cur, e2, hg, _⟩ := h.2.2.2.2 _ e
  injection e2 with e2
  subst e2
  exact hlt hg

theorem Spot.cells (h : Spot w A n cap xs) {a : Addr} (e : A = some a) : ∀ j u, (rowOf xs)[j]? = some u → w.cell? (a.add j) = some u := fun j u hu => by
  obtain ⟨g, off, cur, rfl, hg, _, hc⟩ := h.2.2.2.2 a e
  rw [Addr.add_lit, cell_of_row w g _ cur _ _ hg]
  exact hc j u hu

theorem Spot.ents {Z : Nat → Prop} (h : Spot w A n cap xs) (hz : ∀ q, blk A q → Z q) (hok : ∀ x ∈ xs, LayOk w Z x) : Ents w Z A n cap (xs.map (·.e)) := by
  refine ⟨by rw [List.length_map]; exact h.1, h.2.1, h.2.2.2.1, fun h0 => ?_⟩
  cases A with
  | none => have := h.2.2.2.1 rfl; have := h.2.1; omega
  | some a =>
    obtain ⟨g, off, cur, rfl, hg, hs, hc⟩ := h.2.2.2.2 a rfl
    refine ⟨g, off, rfl, hlt hg, hz g ⟨off, rfl⟩, fun j hj => ?_⟩
    have hj' : j < xs.length := by simpa using hj
    obtain ⟨c0, c1, c2⟩ := lay_at (w := w) (g := g) (off := off) (xs := xs) (h.cells rfl) j hj'
    obtain ⟨hm, hl, hzE⟩ := hok _ (List.getElem_mem hj')
    simp only [List.getElem_map]
    exact ⟨_, _, c0, c1, c2, hm, hl, hzE⟩

theorem rowOf_take (xs : List Lay) (k : Nat) : rowOf (xs.take k) = (rowOf xs).take (k * 3) := by
  have h : rowOf xs = rowOf (xs.take k) ++ rowOf (xs.drop k) := by rw [← rowOf_append, List.take_append_drop]
  rcases Nat.lt_or_ge k xs.length with hk | hk
  · have hl : (rowOf (xs.take k)).length = k * 3 := by rw [rowOf_length, List.length_take]; omega
    have e := List.take_left' (l₂ := rowOf (xs.drop k)) hl
    rw [← h] at e
    exact e.symm
  · rw [List.take_of_length_le hk, List.take_of_length_le (by rw [rowOf_length]; omega)]

theorem rowOf_drop (xs : List Lay) (k : Nat) : rowOf (xs.drop k) = (rowOf xs).drop (k * 3) := by
  have h : rowOf xs = rowOf (xs.take k) ++ rowOf (xs.drop k) := by rw [← rowOf_append, List.take_append_drop]
  rcases Nat.lt_or_ge k xs.length with hk | hk
  · have hl : (rowOf (xs.take k)).length = k * 3 := by rw [rowOf_length, List.length_take]; omega
    have e := List.drop_left' (l₂ := rowOf (xs.drop k)) hl
    rw [← h] at e
    exact e.symm
  · rw [List.drop_of_length_le hk, List.drop_of_length_le (by rw [rowOf_length]; omega)]
    rfl

theorem Spot.take (h : Spot w A n cap xs) {k : Nat} (hk : k ≤ n) : Spot w A k cap (xs.take k) := by
  have h1 := h.1
  have h2 := h.2.1
  refine ⟨by rw [List.length_take]; omega, by omega, h.2.2.1, h.2.2.2.1, fun a e => ?_⟩
  obtain ⟨g, off, cur, rfl, hg, hs, hc⟩ := h.2.2.2.2 a e
  refine ⟨g, off, cur, rfl, hg, hs, fun j u hu => hc j u ?_⟩
  rw [rowOf_take] at hu
  rw [List.getElem?_take] at hu
  split at hu
  · exact hu
  · cases hu

/-- Where the rest of a row begins. -/
def tailAt (A : Option Addr) (cap k : Nat) : Option Addr := if cap = k then A else A.map (·.add (k * 3))

theorem tailAt_blk {k : Nat} (q : Nat) (hA : ∀ a, A = some a → a.spot = none) : blk (tailAt A cap k) q ↔ blk A q := by
  unfold tailAt
  split
  · exact Iff.rfl
  · cases A with
    | none => exact Iff.rfl
    | some a =>
      obtain ⟨g, o, sp⟩ := a
      obtain rfl : sp = none := hA _ rfl
      rw [Option.map_some, Addr.add_lit, blk_some, blk_some]

theorem Spot.spotless (h : Spot w A n cap xs) : ∀ a, A = some a → a.spot = none := fun a e => by
  obtain ⟨g, off, cur, rfl, _⟩ := h.2.2.2.2 a e
  rfl

theorem Spot.drop (h : Spot w A n cap xs) {k : Nat} (hk : k ≤ n) : Spot w (tailAt A cap k) (n - k) (cap - k) (xs.drop k) := by
  have h1 := h.1
  have h2 := h.2.1
  refine ⟨by rw [List.length_drop]; omega, by omega, Nat.le_trans (Nat.sub_le _ _) h.2.2.1, fun e => ?_, fun a e => ?_⟩
  · unfold tailAt at e
    split at e
    · omega
    · cases A with
      | none => have := h.2.2.2.1 rfl; omega
      | some a => cases e
  · cases A with
    | none => unfold tailAt at e; split at e <;> cases e
    | some b =>
      obtain ⟨g, off, cur, rfl, hg, hs, hc⟩ := h.2.2.2.2 b rfl
      unfold tailAt at e
      split at e
      · injection e with e
        subst e
        refine ⟨g, off, cur, rfl, hg, by omega, fun j u hu => ?_⟩
        have hl : j < (rowOf (xs.drop k)).length := (List.getElem?_eq_some_iff.1 hu).1
        rw [rowOf_length, List.length_drop] at hl
        omega
      · rw [Option.map_some, Addr.add_lit] at e
        injection e with e
        subst e
        refine ⟨g, off + k * 3, cur, rfl, hg, by omega, fun j u hu => ?_⟩
        rw [rowOf_drop, List.getElem?_drop] at hu
        rw [Nat.add_assoc]
        exact hc _ _ hu

theorem slice_front {k : Nat} (hk : k ≤ cap) (W : World) : (Instr.slice 22 (.slice A n cap) none (some (.int .i64 (k : Int))) none).run Try.prog W = .ok (.slice A k cap) W := by
  have ht := Try.underlying22
  have ht' : Try.prog.underlying 22 = some (.slice (Try.prog.elem 22)) := by simp [Program.elem, ht]
  have he : Try.prog.elem 22 = 43 := by simp [Program.elem, ht]
  rw [run_slice_h W 22 _ _ _ ht' .i64 _ (by omega) (by omega), he, sizeOf_ent]
  cases A <;> simp [Result.andThen, sliced, Addr.add]

theorem slice_back {k : Nat} (hk : k ≤ n) (hn : n ≤ cap) (W : World) : (Instr.slice 22 (.slice A n cap) (some (.int .i64 (k : Int))) none none).run Try.prog W = .ok (.slice (tailAt A cap k) (n - k) (cap - k)) W := by
  have ht := Try.underlying22
  have ht' : Try.prog.underlying 22 = some (.slice (Try.prog.elem 22)) := by simp [Program.elem, ht]
  have he : Try.prog.elem 22 = 43 := by simp [Program.elem, ht]
  rw [run_slice_l W 22 _ _ _ ht' .i64 _ (by omega) (by omega), he, sizeOf_ent]
  simp [Result.andThen, sliced, tailAt]
end

/- many cells at once -/
theorem setCells_at (b : Nat) : ∀ (vs : List Value) (o : Nat) (w : World) (C : Array Value) (T : TypeId) (fr : Nat × Nat), w.heap[b]? = some (.cells C T fr) → o + vs.length ≤ C.size →
    ∃ C', (w.setCells b o vs).heap[b]? = some (.cells C' T fr) ∧ C'.size = C.size ∧ (∀ j, j < o ∨ o + vs.length ≤ j → C'[j]? = C[j]?) ∧ ∀ j u, vs[j]? = some u → C'[o + j]? = some u
  | [], o, w, C, T, fr, h, _ => ⟨C, h, rfl, fun _ _ => rfl, fun j u hu => by simp at hu⟩
  | v :: r, o, w, C, T, fr, h, hs => by
    have h1 := setCell_at w ⟨b, o, none⟩ v C T fr rfl h
    simp only [List.length_cons] at hs
    obtain ⟨C', h2, h3, h4, h5⟩ := setCells_at b r (o + 1) (w.setCell ⟨b, o, none⟩ v) _ T fr h1 (by simp; omega)
    refine ⟨C', h2, by rw [h3]; simp, fun j hj => ?_, fun j u hu => ?_⟩
    · simp only [List.length_cons] at hj
      rw [h4 j (by omega), Array.getElem?_setIfInBounds_ne (by show o ≠ j; omega)]
    · cases j with
      | zero =>
        rw [h4 _ (by omega)]
        injection hu with hu
        subst hu
        rw [Nat.add_zero, Array.getElem?_setIfInBounds_self]
        simp
        omega
      | succ j =>
        rw [show o + (j + 1) = o + 1 + j by omega]
        exact h5 j u hu

theorem setCells_off (b : Nat) : ∀ (vs : List Value) (o : Nat) (w : World) (q : Nat), q ≠ b → (w.setCells b o vs).heap[q]? = w.heap[q]?
  | [], _, _, _, _ => rfl
  | v :: r, o, w, q, h => (setCells_off b r (o + 1) _ q h).trans (Below.heap_setCell _ _ _ _ h)

theorem setCells_grown (b : Nat) : ∀ (vs : List Value) (o : Nat) (w : World), w.grownBy (w.setCells b o vs) (some b) ∧ (w.setCells b o vs).heap.size = w.heap.size
  | [], _, w => ⟨World.grownBy.refl _ _, rfl⟩
  | v :: r, o, w => by
    obtain ⟨h, hs⟩ := setCells_grown b r (o + 1) (w.setCell ⟨b, o, none⟩ v)
    refine ⟨⟨h.os, h.tape, h.output, by rw [World.setCells, hs]; simp, fun k hk hne => ?_⟩, by rw [World.setCells, hs]; simp⟩
    exact setCells_off b (v :: r) o w k fun e => hne (by rw [e])

section
variable {w : World} {A : Option Addr} {n cap : Nat} {xs ys : List Lay}

/-- 'append(x, y...)' onto a row that begins anywhere. -/
theorem run_append_spot (ty : TypeId) (h : Spot w A n cap xs) (B : Option Addr) (m c : Nat) (hB : B = none → m = 0) (hl : ys.length = m) (hcell : ∀ b, B = some b → ∀ j u, (rowOf ys)[j]? = some u → w.cell? (b.add j) = some u) (hf : n + m ≤ 1000000) :
    ∃ A' cap' w', (Builtin.append_ #[22, 22] ty #[.slice A n cap, .slice B m c]).run Try.prog w = .ok (.slice A' (n + m) cap') w' ∧ Spot w' A' (n + m) cap' (xs ++ ys) ∧ (∀ q, blk A' q → blk A q ∨ w.heap.size ≤ q) ∧
      w.os = w'.os ∧ w.tape = w'.tape ∧ w.output = w'.output ∧ w.heap.size ≤ w'.heap.size ∧ ∀ q, q < w.heap.size → ¬ blk A q → w'.heap[q]? = w.heap[q]? := by
  obtain ⟨i0, hi0, hz0, hz1, hz2⟩ := info_parts info_ent
  have hlen := h.1
  have hnc := h.2.1
  cases B with
  | none =>
    obtain rfl := hB rfl
    obtain rfl : ys = [] := List.eq_nil_of_length_eq_zero hl
    refine ⟨A, cap, w, ?_, by simpa using h, fun q hq => .inl hq, rfl, rfl, rfl, Nat.le_refl _, fun _ _ _ => rfl⟩
    cases A with
    | none =>
      have := h.2.2.2.1 rfl
      obtain rfl : cap = 0 := this
      obtain rfl : n = 0 := by omega
      simp [Builtin.append_, run_underlying Try.underlying22, sizeOf, typeInfo, hi0, Builtin.lenOf, Builtin.firstCells, loadCells, loadCellsFrom]
    | some a =>
      simp [Builtin.append_, run_underlying Try.underlying22, sizeOf, typeInfo, hi0, Builtin.lenOf, Builtin.firstCells, loadCells, loadCellsFrom, hnc, storeCells]
  | some b =>
    have hcb := hcell b rfl
    have hrl : (rowOf ys).length = m * 3 := by rw [rowOf_length, hl]
    -- a new row
    have fresh : ∀ v' w', w'.ownsRow w.heap.size 43 3 v' (n + m) (rowOf xs ++ rowOf ys) → w.grownBy w' none → 0 < n + m → (Builtin.append_ #[22, 22] ty #[.slice A n cap, .slice (some b) m c]).run Try.prog w = .ok v' w' →
        ∃ A' cap' w', (Builtin.append_ #[22, 22] ty #[.slice A n cap, .slice (some b) m c]).run Try.prog w = .ok (.slice A' (n + m) cap') w' ∧ Spot w' A' (n + m) cap' (xs ++ ys) ∧ (∀ q, blk A' q → blk A q ∨ w.heap.size ≤ q) ∧
          w.os = w'.os ∧ w.tape = w'.tape ∧ w.output = w'.output ∧ w.heap.size ≤ w'.heap.size ∧ ∀ q, q < w.heap.size → ¬ blk A q → w'.heap[q]? = w.heap[q]? := by
      intro v' w' ho hg h0 hr
      rcases ho.2 with ⟨_, h1⟩ | ⟨g, cap', cur, rfl, hb, hh, h1, h2, h3, h4⟩
      · omega
      · refine ⟨some ⟨g, 0, none⟩, cap', w', hr, ⟨by rw [List.length_append, hlen, hl], h1, h2, (fun e => by cases e), fun a e => ?_⟩, fun q hq => .inr ?_, hg.os.symm, hg.tape.symm, hg.output.symm, hg.size, fun q hq _ => hg.block q hq (by simp)⟩
        · injection e with e
          subst e
          refine ⟨g, 0, cur, rfl, hh, by omega, fun j u hu => ?_⟩
          rw [rowOf_append, ← h4] at hu
          rw [List.getElem?_take] at hu
          split at hu
          · rw [Nat.zero_add]; simpa using hu
          · cases hu
        · rw [blk_some] at hq
          omega
    cases A with
    | none =>
      have := h.2.2.2.1 rfl
      obtain rfl : cap = 0 := this
      obtain rfl : n = 0 := by omega
      obtain rfl : xs = [] := List.eq_nil_of_length_eq_zero hlen
      rcases Nat.eq_zero_or_pos m with h0 | h0
      · subst h0
        obtain rfl : ys = [] := List.eq_nil_of_length_eq_zero hl
        refine ⟨none, 0, w, ?_, by simpa using h, fun q hq => .inl hq, rfl, rfl, rfl, Nat.le_refl _, fun _ _ _ => rfl⟩
        simp [Builtin.append_, run_underlying Try.underlying22, sizeOf, typeInfo, hi0, Builtin.lenOf, Builtin.firstCells, loadCells, loadCellsFrom]
      · obtain ⟨v', w', hr, h2, h3, _, _⟩ := run_append_own_at (P := Try.prog) w w.heap.size 22 ty 43 i0 _ 3 40 Try.underlying22 hi0 hz0 hz1 hz2 rfl (by omega) (.slice none 0 0) 0 [] (World.ownsRow_nil _ _ _ _) b m c (rowOf ys) hrl hcb (rowOf_one ys) (by unfold maxLen; omega) (by omega) (Nat.le_refl _)
        exact fresh v' w' (by simpa [rowOf] using h2) h3 (by omega) hr
    | some a =>
      obtain ⟨g, off, cur, rfl, hg, hs, hc⟩ := h.2.2.2.2 a rfl
      by_cases hroom : n + m ≤ cap
      · have hin : ∀ j, j < (rowOf ys).length → off + n * 3 + j < cur.size := fun j hj => by
          rw [hrl] at hj
          have : (n + m) * 3 ≤ cap * 3 := Nat.mul_le_mul_right 3 hroom
          omega
        have hrun := run_append_room_cells (P := Try.prog) w 22 ty 43 i0 Try.underlying22 hi0 g off n cap b m c (rowOf ys) (by rw [hz1]; exact hrl) hcb (rowOf_one ys) hroom
          (fun j hj => by
            rw [hz1, cell_of_row w g _ cur _ _ hg, Array.getElem?_eq_getElem (hin j hj)]
            rfl)
          (fun j hj => by rw [hz1]; exact frozen_of_row w g _ cur _ hg)
        rw [hz1] at hrun
        obtain ⟨C', c1, c2, c3, c4⟩ := setCells_at g (rowOf ys) (off + n * 3) w cur _ _ hg (by
          rw [hrl]
          have : (n + m) * 3 ≤ cap * 3 := Nat.mul_le_mul_right 3 hroom
          omega)
        obtain ⟨hgr, hsz⟩ := setCells_grown g (rowOf ys) (off + n * 3) w
        refine ⟨some ⟨g, off, none⟩, cap, _, hrun, ⟨by rw [List.length_append, hlen, hl], hroom, h.2.2.1, (fun e => by cases e), fun a e => ?_⟩, fun q hq => .inl hq, hgr.os.symm, hgr.tape.symm, hgr.output.symm, hgr.size, fun q hq hne => hgr.block q hq (fun e => hne (by injection e with e; rw [e, blk_some]))⟩
        injection e with e
        subst e
        refine ⟨g, off, C', rfl, c1, by omega, fun j u hu => ?_⟩
        rw [rowOf_append] at hu
        have hxl : (rowOf xs).length = n * 3 := by rw [rowOf_length, hlen]
        rcases Nat.lt_or_ge j (n * 3) with hj | hj
        · rw [List.getElem?_append_left (by omega)] at hu
          rw [c3 _ (by omega)]
          exact hc j u hu
        · rw [List.getElem?_append_right (by omega), hxl] at hu
          rw [show off + j = off + n * 3 + (j - n * 3) by omega]
          exact c4 _ _ hu
      · obtain ⟨v', w', hr, h2, h3⟩ := run_append_arg_grows (P := Try.prog) w 22 ty 43 i0 _ 3 40 Try.underlying22 hi0 hz0 hz1 hz2 rfl (by omega) ⟨g, off, none⟩ n cap (rowOf xs) (by rw [rowOf_length, hlen]) (h.cells rfl) b m c (rowOf ys) hrl hcb (by omega) (by unfold maxLen; omega) (by omega)
        exact fresh v' w' h2 h3 (by omega) hr

theorem zero_ent (W : World) : (zeroValue 43).run Try.prog W = .ok (.agg #[.int .i64 0, .int .i64 0, .slice none 0 0]) W := by
  obtain ⟨i, hi, hz, _, _⟩ := info_parts info_ent
  simp [zeroValue, typeInfo, hi, hz]

/-- 'clear(x)': of the block only these cells turn. -/
theorem run_clear_at (ty : TypeId) (g o k c : Nat) (cur : Array Value) (hg : w.heap[g]? = some (.cells cur 43 (0, 0))) (hk : o + k * 3 ≤ cur.size) :
    ∃ C' w', (Builtin.clear_ #[22] ty #[.slice (some ⟨g, o, none⟩) k c]).run Try.prog w = .ok (.tuple #[]) w' ∧ w'.heap[g]? = some (.cells C' 43 (0, 0)) ∧ C'.size = cur.size ∧ (∀ j, j < o ∨ o + k * 3 ≤ j → C'[j]? = cur[j]?) ∧ w.grownBy w' (some g) := by
  rcases Nat.eq_zero_or_pos k with h0 | h0
  · subst h0
    refine ⟨cur, w, ?_, hg, rfl, fun _ _ => rfl, World.grownBy.refl _ _⟩
    simp [Builtin.clear_, run_underlying Try.underlying22]
  · obtain ⟨zs, hzs⟩ : ∃ zs, zs = (Builtin.zeroCells (Value.agg #[.int .i64 0, .int .i64 0, .slice none 0 0]).cells k).toList := ⟨_, rfl⟩
    have hzl : zs.length = k * 3 := by rw [hzs, Array.length_toList, size_zeroCells]; rfl
    have hone : ∀ v ∈ zs, v.oneCell' = true := by
      intro v hv
      rw [hzs] at hv
      obtain ⟨j, hj, rfl⟩ := List.getElem_of_mem hv
      have h3 : j % 3 = 0 ∨ j % 3 = 1 ∨ j % 3 = 2 := by omega
      simp only [Builtin.zeroCells, Value.cells, Array.getElem_toList, Array.getElem_ofFn] at *
      rcases h3 with h3 | h3 | h3 <;> simp [Value.cells, h3, Value.oneCell']
    have hst := run_storeCells_cells (P := Try.prog) g o zs 0 w (fun j hj => by
        rw [cell_of_row w g _ cur _ _ hg, Array.getElem?_eq_getElem (by omega)]
        rfl) (fun j hj => frozen_of_row w g _ cur _ hg) hone
    simp only [Nat.add_zero] at hst
    obtain ⟨C', c1, c2, c3, _⟩ := setCells_at g zs o w cur _ _ hg (by omega)
    obtain ⟨hgr, _⟩ := setCells_grown g zs o w
    refine ⟨C', _, ?_, c1, c2, fun j hj => c3 j (by omega), hgr⟩
    obtain ⟨m, rfl⟩ : ∃ m, k = m + 1 := ⟨k - 1, by omega⟩
    simp only [Builtin.clear_]
    simp [run_underlying Try.underlying22, zero_ent, ← hzs, hst]

/-- The front is cleared: the rest is as it was. -/
theorem run_clear_front (ty : TypeId) (h : Spot w A n cap xs) {k : Nat} (hk : k ≤ n) :
    ∃ w', (Builtin.clear_ #[22] ty #[.slice A k cap]).run Try.prog w = .ok (.tuple #[]) w' ∧ Spot w' (tailAt A cap k) (n - k) (cap - k) (xs.drop k) ∧
      w.os = w'.os ∧ w.tape = w'.tape ∧ w.output = w'.output ∧ w.heap.size ≤ w'.heap.size ∧ ∀ q, q < w.heap.size → ¬ blk A q → w'.heap[q]? = w.heap[q]? := by
  have hd := h.drop hk
  cases A with
  | none => exact ⟨w, by simp [Builtin.clear_, run_underlying Try.underlying22], hd, rfl, rfl, rfl, Nat.le_refl _, fun _ _ _ => rfl⟩
  | some a =>
    obtain ⟨g, off, cur, rfl, hg, hs, hc⟩ := h.2.2.2.2 a rfl
    have hnc := h.2.1
    obtain ⟨C', w', hr, h1, h2, h3, hgr⟩ := run_clear_at (w := w) ty g off k cap cur hg (by omega)
    refine ⟨w', hr, ⟨hd.1, hd.2.1, hd.2.2.1, hd.2.2.2.1, fun a e => ?_⟩, hgr.os.symm, hgr.tape.symm, hgr.output.symm, hgr.size, fun q hq hne => hgr.block q hq (fun e => hne (by injection e with e; rw [e, blk_some]))⟩
    obtain ⟨g', off', cur', rfl, hg', hs', hc'⟩ := hd.2.2.2.2 a e
    have hgg : g' = g := by
      have : blk (some ⟨g, off, none⟩) g' := (tailAt_blk (A := some ⟨g, off, none⟩) (cap := cap) (k := k) g' (fun a e => by injection e with e; rw [← e])).1 ⟨off', e⟩
      exact (blk_some _ _ _).1 this
    subst hgg
    rw [hg] at hg'
    injection hg' with hg'
    injection hg' with hg'
    subst hg'
    refine ⟨g', off', C', rfl, h1, by omega, fun j u hu => ?_⟩
    rw [h3 (off' + j) ?_]
    · exact hc' j u hu
    · right
      have hl : j < (rowOf (xs.drop k)).length := (List.getElem?_eq_some_iff.1 hu).1
      rw [rowOf_length, List.length_drop, h.1] at hl
      unfold tailAt at e
      rw [if_neg (by omega), Option.map_some, Addr.add_lit] at e
      injection e with e
      injection e with _ e
      omega

/-- The rest is cleared: the front is as it was. -/
theorem run_clear_back (ty : TypeId) (h : Spot w A n cap xs) {k : Nat} (hk : k ≤ n) :
    ∃ w', (Builtin.clear_ #[22] ty #[.slice (tailAt A cap k) (n - k) (cap - k)]).run Try.prog w = .ok (.tuple #[]) w' ∧ Spot w' A k cap (xs.take k) ∧
      w.os = w'.os ∧ w.tape = w'.tape ∧ w.output = w'.output ∧ w.heap.size ≤ w'.heap.size ∧ ∀ q, q < w.heap.size → ¬ blk A q → w'.heap[q]? = w.heap[q]? := by
  have ht := h.take hk
  cases A with
  | none =>
    refine ⟨w, ?_, ht, rfl, rfl, rfl, Nat.le_refl _, fun _ _ _ => rfl⟩
    have : tailAt none cap k = none := by unfold tailAt; split <;> rfl
    rw [this]
    simp [Builtin.clear_, run_underlying Try.underlying22]
  | some a =>
    obtain ⟨g, off, cur, rfl, hg, hs, hc⟩ := h.2.2.2.2 a rfl
    have hnc := h.2.1
    obtain ⟨o, ho, ho2⟩ : ∃ o, tailAt (some ⟨g, off, none⟩) cap k = some ⟨g, o, none⟩ ∧ ((n - k = 0 ∧ o = off) ∨ o = off + k * 3) := by
      unfold tailAt
      split
      · exact ⟨off, rfl, .inl ⟨by omega, rfl⟩⟩
      · exact ⟨off + k * 3, by rw [Option.map_some, Addr.add_lit], .inr rfl⟩
    obtain ⟨C', w', hr, h1, h2, h3, hgr⟩ := run_clear_at (w := w) ty g o (n - k) (cap - k) cur hg (by omega)
    rw [ho]
    refine ⟨w', hr, ⟨ht.1, ht.2.1, ht.2.2.1, ht.2.2.2.1, fun a e => ?_⟩, hgr.os.symm, hgr.tape.symm, hgr.output.symm, hgr.size, fun q hq hne => hgr.block q hq (fun e => hne (by injection e with e; rw [e, blk_some]))⟩
    obtain ⟨g', off', cur', e', hg', hs', hc'⟩ := ht.2.2.2.2 a e
    rw [e'] at e
    injection e with e
    injection e with e1 e2
    subst e1 e2
    rw [hg] at hg'
    injection hg' with hg'
    injection hg' with hg'
    subst hg'
    refine ⟨g, off, C', e', h1, by omega, fun j u hu => ?_⟩
    rw [h3 (off + j) ?_]
    · exact hc' j u hu
    · have hl : j < (rowOf (xs.take k)).length := (List.getElem?_eq_some_iff.1 hu).1
      rw [rowOf_length, ht.1] at hl
      omega
end

end Go.Proofs.Ytlanjlboipnpfaa
