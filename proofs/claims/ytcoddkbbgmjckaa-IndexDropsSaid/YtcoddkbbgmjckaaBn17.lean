/- append of bytes to a row of the call's own; bytes that a law is called with. -/
import Derived.Test.YtcoddkbbgmjckaaBn03
import Derived.Test.YtcoddkbbgmjckaaRows
import Derived.Test.YtcoddkbbgmjckaaBn16
import Derived.WalkSpells
import Derived.WalkLawsBesides
import Derived.KernelRfl
import Derived.BigQuiet
import Derived.IntWalk
import Derived.ChangeMaps5
import Derived.Test.YtcoddkbbgmjckaaBn04
namespace Go.Proofs.Ytcoddkbbgmjckaa
open Go.ChangeShapes Go.WideShapes Go.ChangeAt Go.RowKit Go.Deep
set_option linter.unusedVariables false
set_option linter.unusedSimpArgs false

theorem info_u8 : (Try.prog.info? 5).map (fun i => (i.zero, i.size, i.bytes)) = some (some (.int .u8 0), 1, 1) := by kernel_rfl

theorem sizeOf_u8 (w : World) : (Go.sizeOf 5).run Try.prog w = .ok 1 w := by
  obtain ⟨i, hi, _, hs, _⟩ := info_parts info_u8
  simp [Go.sizeOf, typeInfo, hi, hs]

theorem own_bytes_at {P : Program} (w : World) (t ty e : TypeId) (i : TypeInfo) (ht : P.underlying t = some (.slice e)) (hi : P.info? e = some i) (hz : i.zero = some (.int .u8 0)) (hsize : i.size = 1) (hby : i.bytes = 1)
    (base : Nat) (hbase : base ≤ w.heap.size) (v : Value) (l : List UInt8) (hown : Owns e w base v l) (A : Option Addr) (len cap : Nat) (new : List UInt8) (hx : Lies w A len cap new) (hf : (l ++ new).length ≤ 140737488355328) :
    ∃ v' w', (Builtin.append_ #[t, t] ty #[v, .slice A len cap]).run P w = .ok v' w' ∧ Owns e w' base v' (l ++ new) ∧ w.grownBy w' v.ownBlock ∧ (v'.ownBlock = v.ownBlock ∨ v'.ownBlock = some w.heap.size) := by
  obtain ⟨rfl, h2, h3, h4⟩ := hx
  have hl : l.length + new.length = (l ++ new).length := by simp
  have hc : cellsOf l ++ cellsOf new = cellsOf (l ++ new) := by simp [cellsOf]
  cases A with
  | none =>
    have := h3 rfl
    obtain rfl : new = [] := List.eq_nil_of_length_eq_zero (by omega)
    obtain rfl : cap = 0 := this
    exact ⟨v, w, run_append_owned_none (P := P) (w := w) base t ty e i 1 ht hi v _ _ hown, by simpa using hown, World.grownBy.refl _ _, .inl rfl⟩
  | some a =>
    have hcell : ∀ j u, (cellsOf new)[j]? = some u → w.cell? (a.add j) = some u := fun j u hj => by
      have hjl : j < new.length := by simpa using (List.getElem?_eq_some_iff.1 hj).1
      obtain ⟨g, off, e, _, hc⟩ := h4 (by omega)
      injection e with e
      subst e
      rw [Addr.add_lit, hc j hjl]
      simp only [List.getElem?_map, List.getElem?_eq_getElem hjl, Option.map_some] at hj
      exact hj
    obtain ⟨v', w', hr, p2, p3, _, p5⟩ := run_append_own_at (P := P) w base t ty e i (.int .u8 0) 1 1 ht hi hz hsize hby rfl (by omega) v l.length (cellsOf l) hown a new.length cap (cellsOf new) (by simp) hcell (cellsOf_one new) (by unfold maxLen; omega) (by omega) hbase
    rw [hl, hc] at p2
    exact ⟨v', w', hr, p2, p3, p5⟩

/-- 'append(x, y...)', y bytes. -/
theorem wpList_append_bytes {P : Program} (w : World) {ops : Array Oper} {rest : List Oper} {o : Oper} {a : Act} {Q : Exit → Act → World → Prop} (hgd : o.guard = none) (sl x : Operand) (t : TypeId)
    (ho : o.op = .call { callee := .builtin .append, args := #[sl, x], argTypes := #[t, t] })
    (e : TypeId) (i : TypeInfo) (ht : P.underlying t = some (.slice e)) (hi : P.info? e = some i) (hz : i.zero = some (.int .u8 0)) (hsize : i.size = 1) (hby : i.bytes = 1)
    (base : Nat) (hbase : base ≤ w.heap.size) (v : Value) (l : List UInt8) (hs : a.eval sl = v) (hown : Owns e w base v l) (A : Option Addr) (len cap : Nat) (new : List UInt8) (hx : a.eval x = .slice A len cap) (hlies : Lies w A len cap new) (hf : (l ++ new).length ≤ 140737488355328)
    (h : ∀ v' w', Owns e w' base v' (l ++ new) → w.grownBy w' v.ownBlock → (v'.ownBlock = v.ownBlock ∨ v'.ownBlock = some w.heap.size) → wpList P ops Q rest (a.put o.dst v') w') : wpList P ops Q (o :: rest) a w := by
  refine wpList_plain hgd fun K hK => ?_
  obtain ⟨v', w', hr, h2, h3, h4⟩ := own_bytes_at (P := P) w t o.type e i ht hi hz hsize hby base hbase v l hown A len cap new hlies hf
  unfold Oper.wp execOp
  simp only [ho, resolve, invoke, builtin, Sem.run_bind, Sem.run_pure, Result.andThen_ok, List.map_toArray, List.map_cons, List.map_nil, hs, hx, hr]
  exact hK _ _ (h v' w' h2 h3 h4)

/-- The same at a step of a region that draws its order. -/
theorem step_append_bytes {P : Program} (w : World) {ops : Array Oper} {o : Oper} {a : Act} {K : Act → World → Prop} {Q : Exit → Act → World → Prop} {E : Prop} (hgd : o.guard = none) (sl x : Operand) (t : TypeId)
    (ho : o.op = .call { callee := .builtin .append, args := #[sl, x], argTypes := #[t, t] })
    (e : TypeId) (i : TypeInfo) (ht : P.underlying t = some (.slice e)) (hi : P.info? e = some i) (hz : i.zero = some (.int .u8 0)) (hsize : i.size = 1) (hby : i.bytes = 1)
    (base : Nat) (hbase : base ≤ w.heap.size) (v : Value) (l : List UInt8) (hs : a.eval sl = v) (hown : Owns e w base v l) (A : Option Addr) (len cap : Nat) (new : List UInt8) (hx : a.eval x = .slice A len cap) (hlies : Lies w A len cap new) (hf : (l ++ new).length ≤ 140737488355328)
    (h : ∀ v' w', Owns e w' base v' (l ++ new) → w.grownBy w' v.ownBlock → (v'.ownBlock = v.ownBlock ∨ v'.ownBlock = some w.heap.size) → K (a.put o.dst v') w') :
    if Region.wanted o (yielded ops a.tmps) = true then Oper.wp P o a w K Q else E := by
  have hw : Region.wanted o (yielded ops a.tmps) = true := by simp [Region.wanted, hgd]
  rw [if_pos hw]
  obtain ⟨v', w', hr, h2, h3, h4⟩ := own_bytes_at (P := P) w t o.type e i ht hi hz hsize hby base hbase v l hown A len cap new hlies hf
  unfold Oper.wp execOp
  simp only [ho, resolve, invoke, builtin, Sem.run_bind, Sem.run_pure, Result.andThen_ok, List.map_toArray, List.map_cons, List.map_nil, hs, hx, hr]
  exact h v' w' h2 h3 h4

theorem wf_i64' {n : Int} (h : (Lit.int .i64 n).wf = true) : -9223372036854775808 ≤ n ∧ n ≤ 9223372036854775807 := by
  simpa [Lit.wf, IntKind.min, IntKind.max, IntKind.bits, IntKind.signed] using h

theorem wf_u8' {n : Int} (h : (Lit.int .u8 n).wf = true) : 0 ≤ n ∧ n < 256 := by
  have : 0 ≤ n ∧ n ≤ 255 := by simpa [Lit.wf, IntKind.min, IntKind.max, IntKind.bits, IntKind.signed] using h
  omega

section
variable {H : Type} {enc : TypeId × Value → H} {W : World} {sp : Nat → Bool} {hd : Bool}

/- slices within elements -/

/-- A slice of structs: each element's cells, its reading, and that what it leads to is old. -/
theorem arg_slice_in {P : Program} {t e : TypeId} {C base : Nat} {v : Value} {d : DataW H} {p : List MemPlace} (ht : P.underlying t = some (.slice e)) (hC : P.cellsOf e = C) (h0 : 0 < C)
    (hok : Value.okWide P W .any base t v) (h : DataW.Trod enc P W 0 sp hd t v d p) (hlt : ∀ x ∈ p, x.block < W.heap.size) :
    ∃ (A : Option Addr) (len cap n : Nat) (Cs : Nat → List Value) (D : Nat → DataW H), v = .slice A len cap ∧ len ≤ cap ∧ cap ≤ maxLen ∧
      (0 < len → ∃ b off, A = some ⟨b, off, none⟩ ∧ b < W.heap.size ∧ ∀ j, j < len → ∀ i u, (Cs j)[i]? = some u → W.cell? ⟨b, off + j * C + i, none⟩ = some u) ∧
      ∀ j, j < len → (Cs j).length = C ∧ ∃ pl, DataW.trod enc P W 0 sp hd n e (Cs j) = some (D j, pl) ∧ ∀ x ∈ pl, x.block < W.heap.size := by
  obtain ⟨A, len, cap, rfl⟩ := okWide_slice ht hok
  obtain ⟨fuel, hf⟩ := h
  rcases open_slice ht hf with ⟨hcs, hx⟩ | ⟨a, len', cap', m, n, D, Pl, hcs, hb, hl, hm, hmm, hx, hi⟩
  · simp [Value.cells] at hcs
    obtain ⟨rfl, rfl, rfl⟩ := hcs
    exact ⟨none, 0, 0, 0, fun _ => [], fun _ => .nil, rfl, Nat.le_refl _, Nat.zero_le _, fun h => absurd h (by omega), fun j hj => absurd hj (by omega)⟩
  · simp [Value.cells] at hcs
    obtain ⟨rfl, rfl, rfl⟩ := hcs
    simp only [Prod.mk.injEq] at hx
    have hlm : len ≤ m := by rw [hmm]; split <;> omega
    obtain ⟨Cs, hCs⟩ := Classical.axiomOfChoice (r := fun i cs' => i < m → W.cells? 0 (a.add (i * P.cellsOf e)) (P.cellsOf e) = some cs' ∧ DataW.trod enc P W 0 sp hd n e cs' = some (D i, Pl i)) (fun i => by
      by_cases him : i < m
      · obtain ⟨cs', h1, h2⟩ := hi i him
        exact ⟨cs', fun _ => ⟨h1, h2⟩⟩
      · exact ⟨[], fun h => absurd h him⟩)
    rw [hC] at hCs
    refine ⟨some a, len, cap, n, Cs, D, rfl, hl, hm, fun hpos => ?_, fun j hj => ?_⟩
    · have hcell : ∀ j, j < len → ∀ i u, (Cs j)[i]? = some u → W.cell? (a.add (j * C + i)) = some u := fun j hj i u hu => by
        obtain ⟨hc, _⟩ := hCs j (by omega)
        obtain ⟨_, hcl, hat⟩ := World.cells?_some hc
        have hic : i < C := by
          rcases Nat.lt_or_ge i (Cs j).length with h1 | h1
          · omega
          · rw [List.getElem?_eq_none h1] at hu; cases hu
        have := hat i hic
        rw [add_two] at this
        rw [this, hu]
      obtain ⟨b, off, spot⟩ := a
      obtain ⟨hc0, _⟩ := hCs 0 (by omega)
      obtain ⟨_, hcl0, _⟩ := World.cells?_some hc0
      have g0 : (Cs 0)[0]? = some ((Cs 0)[0]'(by omega)) := List.getElem?_eq_getElem (by omega)
      have hspot : spot = none := by simpa [Addr.add] using World.cell?_spot (hcell 0 hpos 0 _ g0)
      subst hspot
      refine ⟨b, off, rfl, ?_, fun j hj i u hu => ?_⟩
      · have hin : MemPlace.cell b off ∈ p := by
          rw [hx.2]
          refine List.mem_append_left _ (MemPlace.mem_row.2 ⟨0, ?_, by simp⟩)
          rw [hC]; exact Nat.mul_pos (by omega) h0
        exact hlt _ hin
      · have := hcell j hj i u hu
        rw [add_here, ← Nat.add_assoc] at this
        exact this
    · obtain ⟨hc, hdt⟩ := hCs j (by omega)
      obtain ⟨_, hcl, _⟩ := World.cells?_some hc
      exact ⟨hcl, Pl j, hdt, fun x hx' => hlt x (by rw [hx.2]; exact List.mem_append_right _ (List.mem_flatMap.2 ⟨j, by simp; omega, hx'⟩))⟩

/-- A struct of one-cell fields: each field's cell, how it reads, and that what it leads to is old. -/
theorem arg_fields_in {P : Program} {e : TypeId} {fs : Array Field} {n base : Nat} {cs : List Value} {x : DataW H × List MemPlace} (he : P.underlying e = some (.struct fs)) (hone : oneCellFields P fs = true) (hl : cs.length = fs.size)
    (h : DataW.trod enc P W base sp hd n e cs = some x) (hlt : ∀ y ∈ x.2, y.block < W.heap.size) : ∃ m, ∀ (j : Nat) (f : Field), fs[j]? = some f → ∃ v y, cs[j]? = some v ∧ DataW.trod enc P W base sp hd m f.type [v] = some y ∧ ∀ q ∈ y.2, q.block < W.heap.size := by
  obtain ⟨ys, m, _, hx, _, hyl, hf⟩ := DataW.trod_struct he h
  refine ⟨m, fun j f hj => ?_⟩
  obtain ⟨ho, hk⟩ := hone_of hone j f hj
  have hjl : j < fs.size := (Array.getElem?_eq_some_iff.1 hj).1
  have h1 := hf j f hj
  rw [ho, hk, List.drop_eq_getElem_cons (by omega)] at h1
  have h2 : DataW.trod enc P W base sp hd m f.type [cs[j]'(by omega)] = ys[j]? := h1
  rw [List.getElem?_eq_getElem (by omega)] at h2
  refine ⟨_, _, List.getElem?_eq_getElem (by omega), h2, fun q hq => hlt q ?_⟩
  rw [hx]
  exact List.mem_flatMap.2 ⟨_, List.getElem_mem (by omega), hq⟩

/-- Within an element: a slice of integers. -/
theorem in_ints {P : Program} {t e : TypeId} {k : IntKind} {m : Nat} {v : Value} {y : DataW H × List MemPlace} (ht : P.underlying t = some (.slice e)) (he : P.underlying e = some (.int k)) (hC : P.cellsOf e = 1)
    (h : DataW.trod enc P W 0 sp hd m t [v] = some y) (hlt : ∀ q ∈ y.2, q.block < W.heap.size) :
    ∃ (A : Option Addr) (len cap : Nat) (Z : Nat → Int), v = .slice A len cap ∧ len ≤ cap ∧ cap ≤ maxLen ∧ (A = none → cap = 0) ∧
      (0 < len → ∃ b off, A = some ⟨b, off, none⟩ ∧ b < W.heap.size ∧ ∀ j, j < len → W.cell? ⟨b, off + j, none⟩ = some (.int k (Z j))) ∧ ∀ j, j < len → (Lit.int k (Z j)).wf = true := by
  rcases open_slice1 ht hC h with ⟨hcs, hx⟩ | ⟨a, len, cap, m, n, V, D, Pl, hcs, hb, hl, hm, hmm, hx, hi⟩
  · simp at hcs
    subst hcs
    exact ⟨none, 0, 0, fun _ => 0, rfl, Nat.le_refl _, Nat.zero_le _, fun _ => rfl, fun h => absurd h (by omega), fun j hj => absurd hj (by omega)⟩
  · simp at hcs
    subst hcs
    have hlm : len ≤ m := by rw [hmm]; split <;> omega
    obtain ⟨S, hS⟩ := Classical.axiomOfChoice (r := fun j z => j < len → V j = .int k z ∧ (Lit.int k z).wf = true) (fun j => by
      by_cases hj : j < len
      · obtain ⟨s, h1, _, h3⟩ := DataW.trod_int he (hi j (by omega)).2
        simp at h1
        exact ⟨s, fun _ => ⟨h1, h3⟩⟩
      · exact ⟨0, fun h => absurd h hj⟩)
    refine ⟨some a, len, cap, S, rfl, hl, hm, (fun h => by cases h), fun hpos => ?_, fun j hj => (hS j hj).2⟩
    obtain ⟨b, off, spot⟩ := a
    have hc0 := (hi 0 (by omega)).1
    have hspot : spot = none := by simpa [Addr.add] using World.cell?_spot hc0
    subst hspot
    refine ⟨b, off, rfl, ?_, fun j hj => ?_⟩
    · refine hlt (MemPlace.cell b off) ?_
      rw [hx]
      exact List.mem_append_left _ (MemPlace.mem_row.2 ⟨0, by omega, by simp⟩)
    · have := (hi j (by omega)).1
      rw [add_here] at this
      rw [this, (hS j hj).1]

/-- Within an element: bytes. -/
theorem in_bytes {P : Program} {t e : TypeId} {m : Nat} {v : Value} {y : DataW H × List MemPlace} (ht : P.underlying t = some (.slice e)) (he : P.underlying e = some (.int .u8)) (hC : P.cellsOf e = 1)
    (h : DataW.trod enc P W 0 sp hd m t [v] = some y) (hlt : ∀ q ∈ y.2, q.block < W.heap.size) :
    ∃ (A : Option Addr) (len cap : Nat) (l : List UInt8), v = .slice A len cap ∧ cap ≤ maxLen ∧ Lies W A len cap l ∧ (0 < len → ∀ a, A = some a → a.block < W.heap.size) := by
  obtain ⟨A, len, cap, Z, rfl, hl, hm, hn, hrow, hwf⟩ := in_ints ht he hC h hlt
  refine ⟨A, len, cap, (List.range len).map (fun j => UInt8.ofNat (Z j).toNat), rfl, hm, ⟨by simp, hl, hn, fun hpos => ?_⟩, fun hpos a e => ?_⟩
  · obtain ⟨g, off, e, hg, hc⟩ := hrow hpos
    refine ⟨g, off, e, hg, fun j hj => ?_⟩
    have hj' : j < len := by simpa using hj
    rw [hc j hj']
    have := wf_u8' (hwf j hj')
    simp only [List.getElem_map, List.getElem_range]
    have e2 : ((UInt8.ofNat (Z j).toNat).toNat : Int) = Z j := by simp; omega
    simp only [u8, e2]
  · obtain ⟨g, off, e2, hg, _⟩ := hrow hpos
    rw [e2] at e
    injection e with e
    subst e
    exact hg
end

end Go.Proofs.Ytcoddkbbgmjckaa

namespace Go.Proofs.Ytcoddkbbgmjckaa
open Go.ChangeShapes Go.WideShapes Go.ChangeAt Go.RowKit Go.Deep
set_option linter.unusedVariables false
set_option linter.unusedSimpArgs false

/-- Numbers as they may be. -/
structure VerWf (x : Ver) : Prop where
  r : -9223372036854775808 ≤ x.r ∧ x.r ≤ 9223372036854775807
  k : -9223372036854775808 ≤ x.k ∧ x.k ≤ 9223372036854775807
  m : -9223372036854775808 ≤ x.m ∧ x.m ≤ 9223372036854775807
  v : -9223372036854775808 ≤ x.v ∧ x.v ≤ 9223372036854775807
  s : x.s.size ≤ maxLen
  l : -9223372036854775808 ≤ x.l ∧ x.l ≤ 9223372036854775807

/-- An act: its kind, revision, mod, value, lease, version. -/
structure HAct where
  kd : Int
  r : Int
  m : Int
  s : ByteArray
  l : Int
  x : Ver

abbrev hactV (a : HAct) : Value := .agg #[.int .u8 a.kd, .int .i64 a.r, .int .i64 a.m, .string a.s, .int .i64 a.l, .int .i64 a.x.r, .int .i64 a.x.k, .int .i64 a.x.m, .int .i64 a.x.v, .string a.x.s, .int .i64 a.x.l, .bool a.x.g]
def hactC (a : HAct) : List Value := [.int .u8 a.kd, .int .i64 a.r, .int .i64 a.m, .string a.s, .int .i64 a.l, .int .i64 a.x.r, .int .i64 a.x.k, .int .i64 a.x.m, .int .i64 a.x.v, .string a.x.s, .int .i64 a.x.l, .bool a.x.g]

structure HActWf (a : HAct) : Prop where
  kd : 0 ≤ a.kd ∧ a.kd < 256
  r : -9223372036854775808 ≤ a.r ∧ a.r ≤ 9223372036854775807
  m : -9223372036854775808 ≤ a.m ∧ a.m ≤ 9223372036854775807
  s : a.s.size ≤ maxLen
  l : -9223372036854775808 ≤ a.l ∧ a.l ≤ 9223372036854775807
  x : VerWf a.x

def HActs (W : World) (A : Option Addr) (len : Nat) (K : Nat → HAct) : Prop := 0 < len → ∃ g off, A = some ⟨g, off, none⟩ ∧ g < W.heap.size ∧ ∀ j, j < len → ∀ i u, (hactC (K j))[i]? = some u → W.cell? ⟨g, off + j * 12 + i, none⟩ = some u

section
variable {H : Type} {enc : TypeId × Value → H} {P : Program} {W : World} {sp : Nat → Bool} {hd : Bool}

set_option maxRecDepth 100000 in
/-- A version within cells. -/
theorem in_ver {fuel : Nat} {cs : List Value} {x : DataW H × List MemPlace} (hl : cs.length = 7) (h : DataW.trod enc Try.prog W 0 sp hd fuel 37 cs = some x) (hlt : ∀ y ∈ x.2, y.block < W.heap.size) : ∃ v : Ver, cs = verC v ∧ VerWf v := by
  obtain ⟨m2, hfi⟩ := arg_fields_in Try.underlying37 (by kernel_rfl) (by rw [hl]; rfl) h hlt
  obtain ⟨v0, y0, g0, t0, _⟩ := hfi 0 _ rfl
  obtain ⟨v1, y1, g1, t1, _⟩ := hfi 1 _ rfl
  obtain ⟨v2, y2, g2, t2, _⟩ := hfi 2 _ rfl
  obtain ⟨v3, y3, g3, t3, _⟩ := hfi 3 _ rfl
  obtain ⟨v4, y4, g4, t4, _⟩ := hfi 4 _ rfl
  obtain ⟨v5, y5, g5, t5, _⟩ := hfi 5 _ rfl
  obtain ⟨v6, y6, g6, t6, _⟩ := hfi 6 _ rfl
  obtain ⟨a0, e0, _, w0⟩ := DataW.trod_int Try.underlying2 t0
  obtain ⟨a1, e1, _, w1⟩ := DataW.trod_int Try.underlying2 t1
  obtain ⟨a2, e2, _, w2⟩ := DataW.trod_int Try.underlying2 t2
  obtain ⟨a3, e3, _, w3⟩ := DataW.trod_int Try.underlying2 t3
  obtain ⟨a4, e4, _, w4⟩ := DataW.trod_string Try.underlying9 t4
  obtain ⟨a5, e5, _, w5⟩ := DataW.trod_int Try.underlying2 t5
  obtain ⟨a6, e6, _⟩ := DataW.trod_bool Try.underlying4 t6
  have q0 : v0 = .int .i64 a0 := by injection e0
  have q1 : v1 = .int .i64 a1 := by injection e1
  have q2 : v2 = .int .i64 a2 := by injection e2
  have q3 : v3 = .int .i64 a3 := by injection e3
  have q4 : v4 = .string a4 := by injection e4
  have q5 : v5 = .int .i64 a5 := by injection e5
  have q6 : v6 = .bool a6 := by injection e6
  subst q0 q1 q2 q3 q4 q5 q6
  refine ⟨⟨a0, a1, a2, a3, a4, a5, a6⟩, ?_, ⟨wf_i64' w0, wf_i64' w1, wf_i64' w2, wf_i64' w3, w4, wf_i64' w5⟩⟩
  match cs, hl, g0, g1, g2, g3, g4, g5, g6 with
  | [c0, c1, c2, c3, c4, c5, c6], _, g0, g1, g2, g3, g4, g5, g6 =>
    injection g0 with g0; injection g1 with g1; injection g2 with g2; injection g3 with g3; injection g4 with g4; injection g5 with g5; injection g6 with g6
    subst g0 g1 g2 g3 g4 g5 g6
    rfl

set_option maxRecDepth 100000 in
theorem arg_vers {base : Nat} {v : Value} {d : DataW H} {p : List MemPlace}
    (hok : Value.okWide Try.prog W .any base 58 v) (h : DataW.Trod enc Try.prog W 0 sp hd 58 v d p) (hlt : ∀ x ∈ p, x.block < W.heap.size) :
    ∃ (A : Option Addr) (len cap : Nat) (l : List Ver), v = .slice A len cap ∧ len ≤ cap ∧ cap ≤ maxLen ∧ Vers W A len l ∧ ∀ x ∈ l, VerWf x := by
  obtain ⟨A, len, cap, n, Cs, D, rfl, hl, hm, hrow, hel⟩ := arg_slice_in Try.underlying58 (show Try.prog.cellsOf 37 = 7 by kernel_rfl) (by omega) hok h hlt
  obtain ⟨R, hR⟩ := Classical.axiomOfChoice (r := fun j (x : Ver) => j < len → Cs j = verC x ∧ VerWf x) (fun j => by
    by_cases hj : j < len
    · obtain ⟨hlen, pl, hdt, hp⟩ := hel j hj
      obtain ⟨x, h1, h2⟩ := in_ver (x := (D j, pl)) hlen hdt hp
      exact ⟨x, fun _ => ⟨h1, h2⟩⟩
    · exact ⟨His.none_, fun h => absurd h hj⟩)
  have hlen : ((List.range len).map R).length = len := by simp
  have hat : ∀ j (hj : j < ((List.range len).map R).length), ((List.range len).map R)[j] = R j := fun j hj => by simp
  refine ⟨A, len, cap, (List.range len).map R, rfl, hl, hm, ⟨hlen, fun hpos => ?_⟩, fun x hx => ?_⟩
  · obtain ⟨g, off, e, hg, hc⟩ := hrow hpos
    refine ⟨g, off, e, hg, fun j hj => ?_⟩
    have hj2 : j < len := by omega
    have e1 := (hR j hj2).1
    rw [hat j hj]
    have hx := fun i u (hu : (verC (R j))[i]? = some u) => hc j hj2 i u (by rw [e1]; exact hu)
    exact ⟨hx 0 _ rfl, hx 1 _ rfl, hx 2 _ rfl, hx 3 _ rfl, hx 4 _ rfl, hx 5 _ rfl, hx 6 _ rfl⟩
  · obtain ⟨j, hj, rfl⟩ := List.mem_map.1 hx
    exact (hR j (List.mem_range.1 hj)).2

end

theorem HActs.below {W W' : World} {A : Option Addr} {len : Nat} {K : Nat → HAct} (h : HActs W A len K) (hb : Below W.heap.size W W') : HActs W' A len K := fun h0 => by
  obtain ⟨g, off, e, hg, hc⟩ := h h0
  exact ⟨g, off, e, Nat.lt_of_lt_of_le hg hb.size, fun j hj i u hu => (World.cell?_of_block (hb.block g hg)).trans (hc j hj i u hu)⟩

end Go.Proofs.Ytcoddkbbgmjckaa
