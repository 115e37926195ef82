/- append of bytes to a row of the call's own; bytes that a law is called with. -/
import Derived.Test.YtapfbgenioablaaByt
import Derived.Test.YtapfbgenioablaaRows
import Derived.Test.YtapfbgenioablaaArgs
import Derived.WalkSpells
import Derived.WalkLawsBesides
import Derived.KernelRfl
import Derived.BigQuiet
import Derived.IntWalk
import Derived.ChangeMaps5
namespace Go.Proofs.Ytapfbgenioablaa
open Go.ChangeShapes Go.WideShapes Go.ChangeAt Go.RowKit Go.Deep
set_option linter.unusedVariables false
set_option linter.unusedSimpArgs false

theorem info_u8 : (Try.prog.info? 5).map (fun i => (i.zero, i.size, i.bytes)) = some (some (.int .u8 0), 1, 1) := by kernel_rfl

theorem sizeOf_u8 (w : World) : (Go.sizeOf 5).run Try.prog w = .ok 1 w := by
  obtain ⟨i, hi, _, hs, _⟩ := info_parts info_u8
  simp [Go.sizeOf, typeInfo, hi, hs]

theorem own_bytes_at {P : Program} (w : World) (t ty e : TypeId) (i : TypeInfo) (ht : P.underlying t = some (.slice e)) (hi : P.info? e = some i) (hz : i.zero = some (.int .u8 0)) (hsize : i.size = 1) (hby : i.bytes = 1)
    (base : Nat) (hbase : base ≤ w.heap.size) (v : Value) (l : List UInt8) (hown : Owns e w base v l) (A : Option Addr) (len cap : Nat) (new : List UInt8) (hx : Lies w A len cap new) (hf : (l ++ new).length ≤ 140737488355328) :
    ∃ v' w', (Builtin.append_ #[t, t] ty #[v, .slice A len cap]).run P w = .ok v' w' ∧ Owns e w' base v' (l ++ new) ∧ w.grownBy w' v.ownBlock ∧ (v'.ownBlock = v.ownBlock ∨ v'.ownBlock = some w.heap.size) := by
  obtain ⟨rfl, h2, h3, h4⟩ := hx
  have hl : l.length + new.length = (l ++ new).length := by simp
  have hc : cellsOf l ++ cellsOf new = cellsOf (l ++ new) := by simp [cellsOf]
  cases A with
  | none =>
    have := h3 rfl
    obtain rfl : new = [] := List.eq_nil_of_length_eq_zero (by omega)
    obtain rfl : cap = 0 := this
    exact ⟨v, w, run_append_owned_none (P := P) (w := w) base t ty e i 1 ht hi v _ _ hown, by simpa using hown, World.grownBy.refl _ _, .inl rfl⟩
  | some a =>
    have hcell : ∀ j u, (cellsOf new)[j]? = some u → w.cell? (a.add j) = some u := fun j u hj => by
      have hjl : j < new.length := by simpa using (List.getElem?_eq_some_iff.1 hj).1
      obtain ⟨g, off, e, _, hc⟩ := h4 (by omega)
      injection e with e
      subst e
      rw [Addr.add_lit, hc j hjl]
      simp only [List.getElem?_map, List.getElem?_eq_getElem hjl, Option.map_some] at hj
      exact hj
    obtain ⟨v', w', hr, p2, p3, _, p5⟩ := run_append_own_at (P := P) w base t ty e i (.int .u8 0) 1 1 ht hi hz hsize hby rfl (by omega) v l.length (cellsOf l) hown a new.length cap (cellsOf new) (by simp) hcell (cellsOf_one new) (by unfold maxLen; omega) (by omega) hbase
    rw [hl, hc] at p2
    exact ⟨v', w', hr, p2, p3, p5⟩

/-- 'append(x, y...)', y bytes. -/
theorem wpList_append_bytes {P : Program} (w : World) {ops : Array Oper} {rest : List Oper} {o : Oper} {a : Act} {Q : Exit → Act → World → Prop} (hgd : o.guard = none) (sl x : Operand) (t : TypeId)
    (ho : o.op = .call { callee := .builtin .append, args := #[sl, x], argTypes := #[t, t] })
    (e : TypeId) (i : TypeInfo) (ht : P.underlying t = some (.slice e)) (hi : P.info? e = some i) (hz : i.zero = some (.int .u8 0)) (hsize : i.size = 1) (hby : i.bytes = 1)
    (base : Nat) (hbase : base ≤ w.heap.size) (v : Value) (l : List UInt8) (hs : a.eval sl = v) (hown : Owns e w base v l) (A : Option Addr) (len cap : Nat) (new : List UInt8) (hx : a.eval x = .slice A len cap) (hlies : Lies w A len cap new) (hf : (l ++ new).length ≤ 140737488355328)
    (h : ∀ v' w', Owns e w' base v' (l ++ new) → w.grownBy w' v.ownBlock → (v'.ownBlock = v.ownBlock ∨ v'.ownBlock = some w.heap.size) → wpList P ops Q rest (a.put o.dst v') w') : wpList P ops Q (o :: rest) a w := by
  refine wpList_plain hgd fun K hK => ?_
  obtain ⟨v', w', hr, h2, h3, h4⟩ := own_bytes_at (P := P) w t o.type e i ht hi hz hsize hby base hbase v l hown A len cap new hlies hf
  unfold Oper.wp execOp
  simp only [ho, resolve, invoke, builtin, Sem.run_bind, Sem.run_pure, Result.andThen_ok, List.map_toArray, List.map_cons, List.map_nil, hs, hx, hr]
  exact hK _ _ (h v' w' h2 h3 h4)

/-- The same at a step of a region that draws its order. -/
theorem step_append_bytes {P : Program} (w : World) {ops : Array Oper} {o : Oper} {a : Act} {K : Act → World → Prop} {Q : Exit → Act → World → Prop} {E : Prop} (hgd : o.guard = none) (sl x : Operand) (t : TypeId)
    (ho : o.op = .call { callee := .builtin .append, args := #[sl, x], argTypes := #[t, t] })
    (e : TypeId) (i : TypeInfo) (ht : P.underlying t = some (.slice e)) (hi : P.info? e = some i) (hz : i.zero = some (.int .u8 0)) (hsize : i.size = 1) (hby : i.bytes = 1)
    (base : Nat) (hbase : base ≤ w.heap.size) (v : Value) (l : List UInt8) (hs : a.eval sl = v) (hown : Owns e w base v l) (A : Option Addr) (len cap : Nat) (new : List UInt8) (hx : a.eval x = .slice A len cap) (hlies : Lies w A len cap new) (hf : (l ++ new).length ≤ 140737488355328)
    (h : ∀ v' w', Owns e w' base v' (l ++ new) → w.grownBy w' v.ownBlock → (v'.ownBlock = v.ownBlock ∨ v'.ownBlock = some w.heap.size) → K (a.put o.dst v') w') :
    if Region.wanted o (yielded ops a.tmps) = true then Oper.wp P o a w K Q else E := by
  have hw : Region.wanted o (yielded ops a.tmps) = true := by simp [Region.wanted, hgd]
  rw [if_pos hw]
  obtain ⟨v', w', hr, h2, h3, h4⟩ := own_bytes_at (P := P) w t o.type e i ht hi hz hsize hby base hbase v l hown A len cap new hlies hf
  unfold Oper.wp execOp
  simp only [ho, resolve, invoke, builtin, Sem.run_bind, Sem.run_pure, Result.andThen_ok, List.map_toArray, List.map_cons, List.map_nil, hs, hx, hr]
  exact h v' w' h2 h3 h4

theorem wf_i64' {n : Int} (h : (Lit.int .i64 n).wf = true) : -9223372036854775808 ≤ n ∧ n ≤ 9223372036854775807 := by
  simpa [Lit.wf, IntKind.min, IntKind.max, IntKind.bits, IntKind.signed] using h

theorem wf_u8' {n : Int} (h : (Lit.int .u8 n).wf = true) : 0 ≤ n ∧ n < 256 := by
  have : 0 ≤ n ∧ n ≤ 255 := by simpa [Lit.wf, IntKind.min, IntKind.max, IntKind.bits, IntKind.signed] using h
  omega

section
variable {H : Type} {enc : TypeId × Value → H} {W : World} {sp : Nat → Bool} {hd : Bool}

/-- Bytes that came in; or what fails of them is that they are nil with room. -/
theorem arg_bytes {base : Nat} {v : Value} {d : DataW H} {p : List MemPlace}
    (hok : Value.okWide Try.prog W .any base 22 v) (h : DataW.Trod enc Try.prog W 0 sp hd 22 v d p) (hlt : ∀ x ∈ p, x.block < W.heap.size) :
    ∃ (A : Option Addr) (len cap : Nat) (l : List UInt8), v = .slice A len cap ∧ len ≤ cap ∧ cap ≤ maxLen ∧ l.length = len ∧ (A = none → cap = 0) ∧
      (0 < len → ∃ g off, A = some ⟨g, off, none⟩ ∧ g < W.heap.size ∧ ∀ j (hj : j < l.length), W.cell? ⟨g, off + j, none⟩ = some (u8 l[j])) := by
  have hnone : ∀ (c : Nat) (len : Nat), v = .slice none len c → c = 0 := fun c len e => by
    subst e
    obtain ⟨fuel, hf⟩ := h
    rcases open_slice Try.underlying22 hf with ⟨hcs, hx⟩ | ⟨a, len', cap', m, n, D, Pl, hcs, _⟩
    · simp [Value.cells] at hcs; omega
    · simp [Value.cells] at hcs
  obtain ⟨A, len, cap, Z, rfl, hl, hm, hrow, hwf⟩ := arg_ints Try.underlying22 Try.underlying5 (by kernel_rfl) hok h hlt
  refine ⟨A, len, cap, (List.range len).map (fun j => UInt8.ofNat (Z j).toNat), rfl, hl, hm, by simp, fun e => hnone cap len (by rw [e]), fun hpos => ?_⟩
  obtain ⟨g, off, e, hg, hc⟩ := hrow hpos
  refine ⟨g, off, e, hg, fun j hj => ?_⟩
  have hj' : j < len := by simpa using hj
  rw [hc j hj']
  have := wf_u8' (hwf j hj')
  simp only [List.getElem_map, List.getElem_range]
  have e2 : ((UInt8.ofNat (Z j).toNat).toNat : Int) = Z j := by simp; omega
  simp only [u8, e2]
theorem arg_bytes_len {A : Option Addr} {len cap : Nat} {d : DataW H} {p : List MemPlace} (h : DataW.Trod enc Try.prog W 0 sp hd 22 (.slice A len cap) d p) : len = 0 ∨ ∃ el sr, d = .slice el sr ∧ el.length = len := by
  obtain ⟨fuel, hf⟩ := h
  rcases open_slice Try.underlying22 hf with ⟨hcs, hx⟩ | ⟨a, len', cap', m, n, D, Pl, hcs, hb, hl, hm, hmm, hx, hi⟩
  · simp [Value.cells] at hcs
    exact .inl hcs.2.1
  · simp [Value.cells] at hcs
    obtain ⟨rfl, rfl, rfl⟩ := hcs
    simp only [Prod.mk.injEq] at hx
    exact .inr ⟨_, _, hx.1, by simp⟩
end

end Go.Proofs.Ytapfbgenioablaa
