/- Rows of elements of any type in memory: from somewhere on, with room behind them; read, appended to, cut in front. (L08's and L12's words, for layers that have no entries.) -/
import Derived.Test.YtcoddkbbgmjckaaBn03
import Derived.Test.YtcoddkbbgmjckaaRows
import Derived.ArgAppend
import Derived.Lib.SliceRun
import Derived.Test.YtcoddkbbgmjckaaBn02
namespace Go.Proofs.Ytcoddkbbgmjckaa
open Go.RowKit
set_option linter.unusedVariables false
set_option linter.unusedSimpArgs false

/-- Which block a slice lies in. -/
def blk (A : Option Addr) (q : Nat) : Prop := ∃ o, A = some ⟨q, o, none⟩

theorem blk_some (g o q : Nat) : blk (some ⟨g, o, none⟩) q ↔ q = g := by
  constructor
  · rintro ⟨o', e⟩
    injection e with e
    injection e with e1
    exact e1.symm
  · rintro rfl
    exact ⟨o, rfl⟩

theorem blk_none (q : Nat) : ¬ blk none q := fun ⟨o, e⟩ => by cases e

/- many cells at once -/
theorem setCells_at (b : Nat) : ∀ (vs : List Value) (o : Nat) (w : World) (C : Array Value) (T : TypeId) (fr : Nat × Nat), w.heap[b]? = some (.cells C T fr) → o + vs.length ≤ C.size →
    ∃ C', (w.setCells b o vs).heap[b]? = some (.cells C' T fr) ∧ C'.size = C.size ∧ (∀ j, j < o ∨ o + vs.length ≤ j → C'[j]? = C[j]?) ∧ ∀ j u, vs[j]? = some u → C'[o + j]? = some u
  | [], o, w, C, T, fr, h, _ => ⟨C, h, rfl, fun _ _ => rfl, fun j u hu => by simp at hu⟩
  | v :: r, o, w, C, T, fr, h, hs => by
    have h1 := setCell_at w ⟨b, o, none⟩ v C T fr rfl h
    simp only [List.length_cons] at hs
    obtain ⟨C', h2, h3, h4, h5⟩ := setCells_at b r (o + 1) (w.setCell ⟨b, o, none⟩ v) _ T fr h1 (by simp; omega)
    refine ⟨C', h2, by rw [h3]; simp, fun j hj => ?_, fun j u hu => ?_⟩
    · simp only [List.length_cons] at hj
      rw [h4 j (by omega), Array.getElem?_setIfInBounds_ne (by show o ≠ j; omega)]
    · cases j with
      | zero =>
        rw [h4 _ (by omega)]
        injection hu with hu
        subst hu
        rw [Nat.add_zero, Array.getElem?_setIfInBounds_self]
        simp
        omega
      | succ j =>
        rw [show o + (j + 1) = o + 1 + j by omega]
        exact h5 j u hu

theorem setCells_off (b : Nat) : ∀ (vs : List Value) (o : Nat) (w : World) (q : Nat), q ≠ b → (w.setCells b o vs).heap[q]? = w.heap[q]?
  | [], _, _, _, _ => rfl
  | v :: r, o, w, q, h => (setCells_off b r (o + 1) _ q h).trans (Below.heap_setCell _ _ _ _ h)

theorem setCells_grown (b : Nat) : ∀ (vs : List Value) (o : Nat) (w : World), w.grownBy (w.setCells b o vs) (some b) ∧ (w.setCells b o vs).heap.size = w.heap.size
  | [], _, w => ⟨World.grownBy.refl _ _, rfl⟩
  | v :: r, o, w => by
    obtain ⟨h, hs⟩ := setCells_grown b r (o + 1) (w.setCell ⟨b, o, none⟩ v)
    refine ⟨⟨h.os, h.tape, h.output, by rw [World.setCells, hs]; simp, fun k hk hne => ?_⟩, by rw [World.setCells, hs]; simp⟩
    exact setCells_off b (v :: r) o w k fun e => hne (by rw [e])

theorem below_drewN {B : Nat} {w w' : World} (h : Below B w w') (n : Nat) : Below B w (w'.drewN n) := ⟨h.os, h.tape, h.output, h.size, h.block⟩

/-- What a slice's elements are like: how many cells, bytes, the zero value. -/
structure Elem (ts T : TypeId) (z : Value) (sz bytes : Nat) : Prop where
  sl : Try.prog.underlying ts = some (.slice T)
  info : (Try.prog.info? T).map (fun i => (i.zero, i.size, i.bytes)) = some (some z, sz, bytes)
  zs : z.cells.size = sz
  pos : 0 < sz
  few : bytes ≤ 1000

/-- A row of so many elements (their cells, one behind the other), from somewhere on, with room behind it. -/
def Sp (T : TypeId) (sz : Nat) (w : World) (A : Option Addr) (n cap : Nat) (vs : List Value) : Prop :=
  vs.length = n * sz ∧ n ≤ cap ∧ (A = none → cap = 0) ∧ ∀ a, A = some a → ∃ g off cur, a = ⟨g, off, none⟩ ∧ w.heap[g]? = some (.cells cur T (0, 0)) ∧ off + cap * sz ≤ cur.size ∧ ∀ j u, vs[j]? = some u → cur[off + j]? = some u

section
variable {w w' : World} {A : Option Addr} {n cap sz : Nat} {T : TypeId} {vs us : List Value}

theorem Sp.nil (T : TypeId) (sz : Nat) (w : World) : Sp T sz w none 0 0 [] := ⟨by simp, Nat.le_refl _, fun _ => rfl, fun a e => by cases e⟩

theorem Sp.keep (h : Sp T sz w A n cap vs) (hk : ∀ q, blk A q → w'.heap[q]? = w.heap[q]?) : Sp T sz w' A n cap vs := by
  refine ⟨h.1, h.2.1, h.2.2.1, fun a e => ?_⟩
  obtain ⟨g, off, cur, rfl, hg, r⟩ := h.2.2.2 a e
  exact ⟨g, off, cur, rfl, (hk g ⟨off, e⟩).trans hg, r⟩

theorem Sp.block (h : Sp T sz w A n cap vs) {q : Nat} (hq : blk A q) : ∃ cur, w.heap[q]? = some (.cells cur T (0, 0)) := by
  obtain ⟨o, e⟩ := hq
  obtain ⟨g, off, cur, e2, hg, _⟩ := h.2.2.2 _ e
  injection e2 with e2
  subst e2
  exact ⟨cur, hg⟩

theorem Sp.lt (h : Sp T sz w A n cap vs) {q : Nat} (hq : blk A q) : q < w.heap.size := by
  obtain ⟨cur, hg⟩ := h.block hq
  exact hlt hg

theorem Sp.len (h : Sp T sz w A n cap vs) : vs.length = n * sz := h.1

/-- Where an element lies. -/
theorem Sp.at_ (h : Sp T sz w A n cap vs) (hs : 0 < sz) (k : Nat) (hk : k < n) : ∃ g off, A = some ⟨g, off, none⟩ ∧ g < w.heap.size ∧ (∀ j (hj : j < sz) u, vs[k * sz + j]? = some u → w.cell? ⟨g, off + k * sz + j, none⟩ = some u) ∧ ∀ o, w.frozen? ⟨g, o, none⟩ = false := by
  cases A with
  | none => have := h.2.2.1 rfl; have := h.2.1; omega
  | some a =>
    obtain ⟨g, off, cur, rfl, hg, hl, hc⟩ := h.2.2.2 a rfl
    refine ⟨g, off, rfl, hlt hg, fun j hj u hu => ?_, fun o => frozen_of_row w g o cur _ hg⟩
    rw [cell_of_row w g _ cur _ _ hg, Nat.add_assoc]
    exact hc _ u hu

theorem Sp.cells (h : Sp T sz w A n cap vs) {a : Addr} (e : A = some a) : ∀ j u, vs[j]? = some u → w.cell? (a.add j) = some u := fun j u hu => by
  obtain ⟨g, off, cur, rfl, hg, _, hc⟩ := h.2.2.2 a e
  rw [Addr.add_lit, cell_of_row w g _ cur _ _ hg]
  exact hc j u hu

theorem Sp.spotless (h : Sp T sz w A n cap vs) : ∀ a, A = some a → a.spot = none := fun a e => by
  obtain ⟨g, off, cur, rfl, _⟩ := h.2.2.2 a e
  rfl

/-- Where the rest of a row begins. -/
def tailS (sz : Nat) (A : Option Addr) (cap k : Nat) : Option Addr := if cap = k then A else A.map (·.add (k * sz))

theorem tailS_blk {k : Nat} (q : Nat) (hA : ∀ a, A = some a → a.spot = none) : blk (tailS sz A cap k) q ↔ blk A q := by
  unfold tailS
  split
  · exact Iff.rfl
  · cases A with
    | none => exact Iff.rfl
    | some a =>
      obtain ⟨g, o, sp⟩ := a
      obtain rfl : sp = none := hA _ rfl
      rw [Option.map_some, Addr.add_lit, blk_some, blk_some]

theorem Sp.drop (h : Sp T sz w A n cap vs) {k : Nat} (hk : k ≤ n) : Sp T sz w (tailS sz A cap k) (n - k) (cap - k) (vs.drop (k * sz)) := by
  have h1 := h.1
  have h2 := h.2.1
  refine ⟨by rw [List.length_drop, h1, Nat.sub_mul], by omega, fun e => ?_, fun a e => ?_⟩
  · unfold tailS at e
    split at e
    · omega
    · cases A with
      | none => have := h.2.2.1 rfl; omega
      | some a => cases e
  · cases A with
    | none => unfold tailS at e; split at e <;> cases e
    | some b =>
      obtain ⟨g, off, cur, rfl, hg, hs, hc⟩ := h.2.2.2 b rfl
      unfold tailS at e
      split at e
      · injection e with e
        subst e
        refine ⟨g, off, cur, rfl, hg, ?_, fun j u hu => ?_⟩
        · have : (cap - k) * sz ≤ cap * sz := Nat.mul_le_mul_right _ (Nat.sub_le _ _)
          omega
        · have hl : j < (vs.drop (k * sz)).length := (List.getElem?_eq_some_iff.1 hu).1
          rw [List.length_drop, h1] at hl
          have : n * sz ≤ k * sz := Nat.mul_le_mul_right _ (by omega)
          omega
      · rw [Option.map_some, Addr.add_lit] at e
        injection e with e
        subst e
        refine ⟨g, off + k * sz, cur, rfl, hg, ?_, fun j u hu => ?_⟩
        · have : k * sz + (cap - k) * sz = cap * sz := by rw [← Nat.add_mul]; congr 1; omega
          omega
        · rw [List.getElem?_drop] at hu
          rw [Nat.add_assoc]
          exact hc _ _ hu

theorem Sp.take (h : Sp T sz w A n cap vs) {k : Nat} (hk : k ≤ n) : Sp T sz w A k cap (vs.take (k * sz)) := by
  have h1 := h.1
  have h2 := h.2.1
  have hm : k * sz ≤ n * sz := Nat.mul_le_mul_right _ hk
  refine ⟨by rw [List.length_take]; omega, by omega, h.2.2.1, fun a e => ?_⟩
  obtain ⟨g, off, cur, rfl, hg, hs, hc⟩ := h.2.2.2 a e
  refine ⟨g, off, cur, rfl, hg, hs, fun j u hu => hc j u ?_⟩
  rw [List.getElem?_take] at hu
  split at hu
  · exact hu
  · cases hu

variable {ts : TypeId} {z : Value} {bytes : Nat}

theorem Elem.size (E : Elem ts T z sz bytes) (W : World) : (Go.sizeOf T).run Try.prog W = .ok sz W := by
  obtain ⟨i, hi, _, hs, _⟩ := info_parts E.info
  simp [Go.sizeOf, typeInfo, hi, hs]

/-- 'x[k:]'. -/
theorem slice_from (E : Elem ts T z sz bytes) {k : Nat} (hk : k ≤ n) (hn : n ≤ cap) (W : World) : (Instr.slice ts (.slice A n cap) (some (.int .i64 (k : Int))) none none).run Try.prog W = .ok (.slice (tailS sz A cap k) (n - k) (cap - k)) W := by
  have ht := E.sl
  have ht' : Try.prog.underlying ts = some (.slice (Try.prog.elem ts)) := by simp [Program.elem, ht]
  have he : Try.prog.elem ts = T := by simp [Program.elem, ht]
  rw [run_slice_l W ts _ _ _ ht' .i64 _ (by omega) (by omega), he, E.size]
  simp [Result.andThen, sliced, tailS]

/-- 'x[:k]'. -/
theorem slice_to (E : Elem ts T z sz bytes) {k : Nat} (hk : k ≤ cap) (W : World) : (Instr.slice ts (.slice A n cap) none (some (.int .i64 (k : Int))) none).run Try.prog W = .ok (.slice A k cap) W := by
  have ht := E.sl
  have ht' : Try.prog.underlying ts = some (.slice (Try.prog.elem ts)) := by simp [Program.elem, ht]
  have he : Try.prog.elem ts = T := by simp [Program.elem, ht]
  rw [run_slice_h W ts _ _ _ ht' .i64 _ (by omega) (by omega), he, E.size]
  cases A <;> simp [Result.andThen, sliced, Addr.add]

/-- 'append(x, y...)'. -/
theorem run_append_sp (E : Elem ts T z sz bytes) (ty : TypeId) (h : Sp T sz w A n cap vs) (B : Option Addr) (m c : Nat) (hB : B = none → m = 0) (hl : us.length = m * sz) (h1 : ∀ u ∈ us, u.oneCell' = true) (hcell : ∀ b, B = some b → ∀ j u, us[j]? = some u → w.cell? (b.add j) = some u) (hf : n + m ≤ 1000000) :
    ∃ A' cap' w', (Builtin.append_ #[ts, ts] ty #[.slice A n cap, .slice B m c]).run Try.prog w = .ok (.slice A' (n + m) cap') w' ∧ Sp T sz w' A' (n + m) cap' (vs ++ us) ∧ (∀ q, blk A' q → blk A q ∨ w.heap.size ≤ q) ∧
      w.os = w'.os ∧ w.tape = w'.tape ∧ w.output = w'.output ∧ w.heap.size ≤ w'.heap.size ∧ ∀ q, q < w.heap.size → ¬ blk A q → w'.heap[q]? = w.heap[q]? := by
  obtain ⟨i0, hi0, hz0, hz1, hz2⟩ := info_parts E.info
  have hu := E.sl
  have hzs := E.zs
  have hpos := E.pos
  have hfew := E.few
  have hlen := h.1
  have hnc := h.2.1
  have hbytes : (n + m) * bytes ≤ 140737488355328 := Nat.le_trans (Nat.mul_le_mul hf hfew) (by decide)
  cases B with
  | none =>
    obtain rfl := hB rfl
    obtain rfl : us = [] := List.eq_nil_of_length_eq_zero (by simpa using hl)
    refine ⟨A, cap, w, ?_, by simpa using h, fun q hq => .inl hq, rfl, rfl, rfl, Nat.le_refl _, fun _ _ _ => rfl⟩
    cases A with
    | none =>
      have := h.2.2.1 rfl
      obtain rfl : cap = 0 := this
      obtain rfl : n = 0 := by omega
      simp [Builtin.append_, run_underlying hu, sizeOf, typeInfo, hi0, Builtin.lenOf, Builtin.firstCells, loadCells, loadCellsFrom]
    | some a =>
      simp [Builtin.append_, run_underlying hu, sizeOf, typeInfo, hi0, Builtin.lenOf, Builtin.firstCells, loadCells, loadCellsFrom, hnc, storeCells]
  | some b =>
    have hcb := hcell b rfl
    have fresh : ∀ v' w', w'.ownsRow w.heap.size T sz v' (n + m) (vs ++ us) → w.grownBy w' none → 0 < n + m → (Builtin.append_ #[ts, ts] ty #[.slice A n cap, .slice (some b) m c]).run Try.prog w = .ok v' w' →
        ∃ A' cap' w', (Builtin.append_ #[ts, ts] ty #[.slice A n cap, .slice (some b) m c]).run Try.prog w = .ok (.slice A' (n + m) cap') w' ∧ Sp T sz w' A' (n + m) cap' (vs ++ us) ∧ (∀ q, blk A' q → blk A q ∨ w.heap.size ≤ q) ∧
          w.os = w'.os ∧ w.tape = w'.tape ∧ w.output = w'.output ∧ w.heap.size ≤ w'.heap.size ∧ ∀ q, q < w.heap.size → ¬ blk A q → w'.heap[q]? = w.heap[q]? := by
      intro v' w' ho hg h0 hr
      rcases ho.2 with ⟨_, h1⟩ | ⟨g, cap', cur, rfl, hb, hh, h1, h2, h3, h4⟩
      · omega
      · have hh' : w'.heap[g]? = some (.cells cur T (0, 0)) := hh
        refine ⟨some ⟨g, 0, none⟩, cap', w', hr, ⟨by rw [List.length_append, hlen, hl, Nat.add_mul], h1, (fun e => by cases e), fun a e => ?_⟩, fun q hq => .inr ?_, hg.os.symm, hg.tape.symm, hg.output.symm, hg.size, fun q hq _ => hg.block q hq (by simp)⟩
        · injection e with e
          subst e
          refine ⟨g, 0, cur, rfl, hh', by omega, fun j u hu => ?_⟩
          rw [← h4] at hu
          rw [List.getElem?_take] at hu
          split at hu
          · rw [Nat.zero_add]; simpa using hu
          · cases hu
        · rw [blk_some] at hq
          omega
    cases A with
    | none =>
      have := h.2.2.1 rfl
      obtain rfl : cap = 0 := this
      obtain rfl : n = 0 := by omega
      obtain rfl : vs = [] := List.eq_nil_of_length_eq_zero (by simpa using hlen)
      rcases Nat.eq_zero_or_pos m with h0 | h0
      · subst h0
        obtain rfl : us = [] := List.eq_nil_of_length_eq_zero (by simpa using hl)
        refine ⟨none, 0, w, ?_, by simpa using h, fun q hq => .inl hq, rfl, rfl, rfl, Nat.le_refl _, fun _ _ _ => rfl⟩
        simp [Builtin.append_, run_underlying hu, sizeOf, typeInfo, hi0, Builtin.lenOf, Builtin.firstCells, loadCells, loadCellsFrom]
      · obtain ⟨v', w', hr, h2, h3, _, _⟩ := run_append_own_at (P := Try.prog) w w.heap.size ts ty T i0 _ sz bytes hu hi0 hz0 hz1 hz2 hzs hpos (.slice none 0 0) 0 [] (World.ownsRow_nil _ _ _ _) b m c us hl hcb h1 (by unfold maxLen; omega) hbytes (Nat.le_refl _)
        exact fresh v' w' h2 h3 (by omega) hr
    | some a =>
      obtain ⟨g, off, cur, rfl, hg, hs, hc⟩ := h.2.2.2 a rfl
      by_cases hroom : n + m ≤ cap
      · have hmul : (n + m) * sz ≤ cap * sz := Nat.mul_le_mul_right sz hroom
        have hin : ∀ j, j < us.length → off + n * sz + j < cur.size := fun j hj => by
          rw [hl] at hj
          rw [Nat.add_mul] at hmul
          omega
        have hrun := run_append_room_cells (P := Try.prog) w ts ty T i0 hu hi0 g off n cap b m c us (by rw [hz1]; exact hl) hcb h1 hroom
          (fun j hj => by
            rw [hz1, cell_of_row w g _ cur _ _ hg, Array.getElem?_eq_getElem (hin j hj)]
            rfl)
          (fun j hj => by rw [hz1]; exact frozen_of_row w g _ cur _ hg)
        rw [hz1] at hrun
        obtain ⟨C', c1, c2, c3, c4⟩ := setCells_at g us (off + n * sz) w cur _ _ hg (by
          rw [hl]
          rw [Nat.add_mul] at hmul
          omega)
        obtain ⟨hgr, hsz⟩ := setCells_grown g us (off + n * sz) w
        refine ⟨some ⟨g, off, none⟩, cap, _, hrun, ⟨by rw [List.length_append, hlen, hl, Nat.add_mul], hroom, (fun e => by cases e), fun a e => ?_⟩, fun q hq => .inl hq, hgr.os.symm, hgr.tape.symm, hgr.output.symm, hgr.size, fun q hq hne => hgr.block q hq (fun e => hne (by injection e with e; rw [e, blk_some]))⟩
        injection e with e
        subst e
        refine ⟨g, off, C', rfl, c1, by omega, fun j u hu => ?_⟩
        rcases Nat.lt_or_ge j (n * sz) with hj | hj
        · rw [List.getElem?_append_left (by omega)] at hu
          rw [c3 _ (by omega)]
          exact hc j u hu
        · rw [List.getElem?_append_right (by omega), hlen] at hu
          rw [show off + j = off + n * sz + (j - n * sz) by omega]
          exact c4 _ _ hu
      · obtain ⟨v', w', hr, h2, h3⟩ := run_append_arg_grows (P := Try.prog) w ts ty T i0 _ sz bytes hu hi0 hz0 hz1 hz2 hzs hpos ⟨g, off, none⟩ n cap vs hlen (h.cells rfl) b m c us hl hcb (by omega) (by unfold maxLen; omega) hbytes
        exact fresh v' w' h2 h3 (by omega) hr
end

/-- What appending may turn: the row alone. -/
structure Grew (w w' : World) (A : Option Addr) : Prop where
  os : w.os = w'.os
  tape : w.tape = w'.tape
  output : w.output = w'.output
  size : w.heap.size ≤ w'.heap.size
  block : ∀ q, q < w.heap.size → ¬ blk A q → w'.heap[q]? = w.heap[q]?

theorem Grew.keeps {w w' : World} {A : Option Addr} {Z : Nat → Prop} (h : Grew w w' A) (hz : ∀ q, blk A q → ¬ Z q) : Keeps Z w w' :=
  ⟨h.os.symm, h.tape.symm, h.output.symm, h.size, fun q hq hz' => h.block q hq fun hb => hz q hb hz'⟩

theorem cells_lit {W : World} {g : Nat} {C : List Value} {T : TypeId} (h : W.heap[g]? = some (.cells C.toArray T)) : ∀ j u, C[j]? = some u → W.cell? ((⟨g, 0, none⟩ : Addr).add j) = some u := fun j u hu => by
  rw [Addr.add_lit, cell_of_row W g _ _ _ _ h]
  simpa using hu

/- appending at a step of a walk -/
theorem step_append_sp {ts T : TypeId} {z : Value} {sz bytes : Nat} (Ee : Elem ts T z sz bytes) (w : World) {ops : Array Oper} {o : Oper} {a : Act} {K : Act → World → Prop} {Q : Exit → Act → World → Prop} {E : Prop} (hgd : o.guard = none) (sl x : Operand)
    (ho : o.op = .call { callee := .builtin .append, args := #[sl, x], argTypes := #[ts, ts] })
    (A : Option Addr) (n cap : Nat) (vs : List Value) (hs : a.eval sl = .slice A n cap) (hsp : Sp T sz w A n cap vs) (B : Option Addr) (m c : Nat) (us : List Value) (hx : a.eval x = .slice B m c) (hB : B = none → m = 0) (hl : us.length = m * sz) (h1 : ∀ u ∈ us, u.oneCell' = true)
    (hcell : ∀ b, B = some b → ∀ j u, us[j]? = some u → w.cell? (b.add j) = some u) (hf : n + m ≤ 1000000)
    (h : ∀ A' cap' w', Sp T sz w' A' (n + m) cap' (vs ++ us) → (∀ q, blk A' q → blk A q ∨ w.heap.size ≤ q) → Grew w w' A → K (a.put o.dst (.slice A' (n + m) cap')) w') :
    if Region.wanted o (yielded ops a.tmps) = true then Oper.wp Try.prog o a w K Q else E := by
  have hw : Region.wanted o (yielded ops a.tmps) = true := by simp [Region.wanted, hgd]
  rw [if_pos hw]
  obtain ⟨A', cap', w', hr, h1, h2, h3, h4, h5, h6, h7⟩ := run_append_sp (w := w) Ee o.type hsp B m c hB hl h1 hcell hf
  unfold Oper.wp execOp
  simp only [ho, resolve, invoke, builtin, Sem.run_bind, Sem.run_pure, Result.andThen_ok, List.map_toArray, List.map_cons, List.map_nil, hs, hx, hr]
  exact h A' cap' w' h1 h2 ⟨h3, h4, h5, h6, h7⟩

theorem wpList_append_sp {ts T : TypeId} {z : Value} {sz bytes : Nat} (Ee : Elem ts T z sz bytes) (w : World) {ops : Array Oper} {rest : List Oper} {o : Oper} {a : Act} {Q : Exit → Act → World → Prop} (hgd : o.guard = none) (sl x : Operand)
    (ho : o.op = .call { callee := .builtin .append, args := #[sl, x], argTypes := #[ts, ts] })
    (A : Option Addr) (n cap : Nat) (vs : List Value) (hs : a.eval sl = .slice A n cap) (hsp : Sp T sz w A n cap vs) (B : Option Addr) (m c : Nat) (us : List Value) (hx : a.eval x = .slice B m c) (hB : B = none → m = 0) (hl : us.length = m * sz) (h1 : ∀ u ∈ us, u.oneCell' = true)
    (hcell : ∀ b, B = some b → ∀ j u, us[j]? = some u → w.cell? (b.add j) = some u) (hf : n + m ≤ 1000000)
    (h : ∀ A' cap' w', Sp T sz w' A' (n + m) cap' (vs ++ us) → (∀ q, blk A' q → blk A q ∨ w.heap.size ≤ q) → Grew w w' A → wpList Try.prog ops Q rest (a.put o.dst (.slice A' (n + m) cap')) w') : wpList Try.prog ops Q (o :: rest) a w := by
  refine wpList_plain hgd fun K hK => ?_
  obtain ⟨A', cap', w', hr, h1, h2, h3, h4, h5, h6, h7⟩ := run_append_sp (w := w) Ee o.type hsp B m c hB hl h1 hcell hf
  unfold Oper.wp execOp
  simp only [ho, resolve, invoke, builtin, Sem.run_bind, Sem.run_pure, Result.andThen_ok, List.map_toArray, List.map_cons, List.map_nil, hs, hx, hr]
  exact hK _ _ (h A' cap' w' h1 h2 ⟨h3, h4, h5, h6, h7⟩)

end Go.Proofs.Ytcoddkbbgmjckaa

namespace Go.Proofs.Ytcoddkbbgmjckaa
open Go.RowKit
set_option linter.unusedVariables false
set_option linter.unusedSimpArgs false

abbrev verV (x : Ver) : Value := .agg #[.int .i64 x.r, .int .i64 x.k, .int .i64 x.m, .int .i64 x.v, .string x.s, .int .i64 x.l, .bool x.g]
def verC (x : Ver) : List Value := [.int .i64 x.r, .int .i64 x.k, .int .i64 x.m, .int .i64 x.v, .string x.s, .int .i64 x.l, .bool x.g]
def rowH (l : List Ver) : List Value := l.flatMap verC

theorem elem_ver : Elem 58 37 (.agg #[.int .i64 0, .int .i64 0, .int .i64 0, .int .i64 0, .string ⟨#[]⟩, .int .i64 0, .bool false]) 7 64 := ⟨Try.underlying58, by kernel_rfl, rfl, by omega, by omega⟩

theorem rowH_len (l : List Ver) : (rowH l).length = l.length * 7 := by
  unfold rowH
  induction l with
  | nil => rfl
  | cons x l ih =>
    rw [List.flatMap_cons, List.length_append, ih, List.length_cons]
    show 7 + _ = _
    omega

theorem rowH_add (l : List Ver) (x : Ver) : rowH (l ++ [x]) = rowH l ++ verC x := by unfold rowH; rw [List.flatMap_append]; simp
theorem rowH_one (u : Value) (x : Ver) (h : u ∈ verC x) : u.oneCell' = true := by
  unfold verC at h
  simp only [List.mem_cons, List.not_mem_nil, or_false] at h
  rcases h with rfl | rfl | rfl | rfl | rfl | rfl | rfl <;> rfl
theorem rowH_ones (l : List Ver) : ∀ u ∈ rowH l, u.oneCell' = true := fun u hu => by
  obtain ⟨x, _, h⟩ := List.mem_flatMap.1 hu
  exact rowH_one u x h

theorem rowH_at (l : List Ver) (k : Nat) (hk : k < l.length) (j : Nat) (hj : j < 7) : (rowH l)[k * 7 + j]? = (verC l[k])[j]? := by
  unfold rowH
  induction l generalizing k with
  | nil => cases hk
  | cons x l ih =>
    have hx : (verC x).length = 7 := rfl
    rw [List.flatMap_cons]
    cases k with
    | zero => rw [List.getElem?_append_left (by omega)]; simp
    | succ k =>
      rw [List.getElem?_append_right (by omega), hx, show (k + 1) * 7 + j - 7 = k * 7 + j by omega, ih k (by simpa using hk)]
      rfl

/-- Versions that can be read. -/
def Vers (w : World) (A : Option Addr) (len : Nat) (l : List Ver) : Prop :=
  l.length = len ∧ (0 < len → ∃ g off, A = some ⟨g, off, none⟩ ∧ g < w.heap.size ∧ ∀ k (hk : k < l.length), w.cell? ⟨g, off + k * 7, none⟩ = some (.int .i64 l[k].r) ∧ w.cell? ⟨g, off + k * 7 + 1, none⟩ = some (.int .i64 l[k].k) ∧ w.cell? ⟨g, off + k * 7 + 2, none⟩ = some (.int .i64 l[k].m) ∧ w.cell? ⟨g, off + k * 7 + 3, none⟩ = some (.int .i64 l[k].v) ∧
    w.cell? ⟨g, off + k * 7 + 4, none⟩ = some (.string l[k].s) ∧ w.cell? ⟨g, off + k * 7 + 5, none⟩ = some (.int .i64 l[k].l) ∧ w.cell? ⟨g, off + k * 7 + 6, none⟩ = some (.bool l[k].g))

section
variable {w w' : World} {A : Option Addr} {len cap : Nat} {l : List Ver}

theorem Vers.keep (h : Vers w A len l) (hs : w.heap.size ≤ w'.heap.size) (hk : ∀ q, blk A q → q < w.heap.size → w'.heap[q]? = w.heap[q]?) : Vers w' A len l := ⟨h.1, fun h0 => by
  obtain ⟨g, off, e, hg, hc⟩ := h.2 h0
  have hx : ∀ o, w'.cell? ⟨g, o, none⟩ = w.cell? ⟨g, o, none⟩ := fun o => World.cell?_of_block (hk g ⟨off, e⟩ hg)
  refine ⟨g, off, e, Nat.lt_of_lt_of_le hg hs, fun k hk => ?_⟩
  rw [hx, hx, hx, hx, hx, hx, hx]
  exact hc k hk⟩

theorem Vers.below (h : Vers w A len l) (hb : Below w.heap.size w w') : Vers w' A len l := h.keep hb.size fun q _ hq => hb.block q hq

theorem Vers.nil (w : World) (A : Option Addr) : Vers w A 0 [] := ⟨rfl, fun h => absurd h (Nat.lt_irrefl _)⟩

theorem Sp.vers {n : Nat} (h : Sp 37 7 w A n cap (rowH l)) : Vers w A n l := by
  have hl : l.length = n := by
    have := h.1
    rw [rowH_len] at this
    omega
  refine ⟨hl, fun h0 => ?_⟩
  obtain ⟨g, off, e, hg, _⟩ := h.at_ (by omega) 0 h0
  refine ⟨g, off, e, hg, fun k hk => ?_⟩
  obtain ⟨g', off', e', _, hc, _⟩ := h.at_ (by omega) k (by omega)
  rw [e] at e'
  injection e' with e'
  injection e' with e1 e2
  subst e1 e2
  have hx : ∀ j (hj : j < 7) u, (verC l[k])[j]? = some u → w.cell? ⟨g, off + k * 7 + j, none⟩ = some u := fun j hj u hu => hc j hj u (by rw [rowH_at l k hk j hj]; exact hu)
  exact ⟨hx 0 (by omega) _ rfl, hx 1 (by omega) _ rfl, hx 2 (by omega) _ rfl, hx 3 (by omega) _ rfl, hx 4 (by omega) _ rfl, hx 5 (by omega) _ rfl, hx 6 (by omega) _ rfl⟩

/-- Its cells, one behind the other. -/
theorem Vers.cells (h : Vers w A len l) {a : Addr} (e : A = some a) : ∀ j u, (rowH l)[j]? = some u → w.cell? (a.add j) = some u := fun j u hu => by
  have hj : j < (rowH l).length := (List.getElem?_eq_some_iff.1 hu).1
  rw [rowH_len] at hj
  obtain ⟨g, off, e', _, hc⟩ := h.2 (by have := h.1; omega)
  rw [e] at e'
  injection e' with e'
  subst e'
  rw [Addr.add_lit]
  have hk : j / 7 < l.length := by omega
  have hm : j % 7 < 7 := Nat.mod_lt _ (by omega)
  have hjm : j = j / 7 * 7 + j % 7 := by omega
  obtain ⟨c0, c1, c2, c3, c4, c5, c6⟩ := hc (j / 7) hk
  rw [hjm, rowH_at l (j / 7) hk (j % 7) hm] at hu
  have h7 : j % 7 = 0 ∨ j % 7 = 1 ∨ j % 7 = 2 ∨ j % 7 = 3 ∨ j % 7 = 4 ∨ j % 7 = 5 ∨ j % 7 = 6 := by omega
  rw [hjm, ← Nat.add_assoc]
  generalize j / 7 = k at *
  rcases h7 with h7 | h7 | h7 | h7 | h7 | h7 | h7 <;> rw [h7] at hu ⊢ <;> injection hu with hu <;> subst hu <;> assumption
end

end Go.Proofs.Ytcoddkbbgmjckaa
