/- Records are appended to a row of the call's own; what lies in such a row. -/
import Derived.Test.YtnkfdnehkihbeaaWalRecs
import Derived.Test.YtnkfdnehkihbeaaWalProgE
namespace Go.Proofs.Ytnkfdnehkihbeaa
open Go.RowKit
set_option linter.unusedVariables false
set_option linter.unusedSimpArgs false

/-- Cells that read as these records. -/
def RCells (w : World) (ls : List (List UInt8)) (cs : List Value) : Prop := cs.length = ls.length ∧ ∀ j (hj : j < ls.length), ∃ e, cs[j]? = some e ∧ Rec1 w (fun _ => True) e ls[j]

theorem rec1_one {w : World} {Z : Nat → Prop} {v : Value} {l : List UInt8} (h : Rec1 w Z v l) : v.oneCell' = true := by
  obtain ⟨E, c, rfl, _⟩ := h
  rfl

theorem RCells.ones {w : World} {ls : List (List UInt8)} {cs : List Value} (h : RCells w ls cs) : ∀ u ∈ cs, u.oneCell' = true := by
  intro u hu
  obtain ⟨j, hj, rfl⟩ := List.getElem_of_mem hu
  obtain ⟨e, he, hr⟩ := h.2 j (by rw [← h.1]; exact hj)
  rw [List.getElem?_eq_getElem hj] at he
  injection he with he
  rw [he]
  exact rec1_one hr

theorem Recs.cells {w : World} {Z : Nat → Prop} {A : Option Addr} {len cap : Nat} {ls : List (List UInt8)} (h : Recs w Z A len cap ls) : ∃ cs, RCells w ls cs ∧ ∀ g off, A = some ⟨g, off, none⟩ → ∀ j u, cs[j]? = some u → w.cell? ⟨g, off + j, none⟩ = some u := by
  obtain ⟨V, hV⟩ := Classical.axiomOfChoice (r := fun (j : Nat) (v : Value) => ∀ hj : j < ls.length, (∀ g off, A = some ⟨g, off, none⟩ → w.cell? ⟨g, off + j, none⟩ = some v) ∧ Rec1 w (fun _ => True) v ls[j]) (fun j => by
    by_cases hj : j < ls.length
    · obtain ⟨g, off, e, hg, _, hc⟩ := h.2.2.2 (by rw [← h.1]; omega)
      obtain ⟨v, hv, hr⟩ := hc j hj
      refine ⟨v, fun _ => ⟨fun g' off' e' => ?_, hr.mono fun _ _ => trivial⟩⟩
      rw [e] at e'
      injection e' with e'
      injection e' with e1 e2
      subst e1 e2
      exact hv
    · exact ⟨.bool false, fun h => absurd h hj⟩)
  refine ⟨(List.range ls.length).map V, ⟨by simp, fun j hj => ⟨V j, by simp [hj], (hV j hj).2⟩⟩, fun g off e j u hu => ?_⟩
  have hj : j < ls.length := by
    have := (List.getElem?_eq_some_iff.1 hu).1
    simpa using this
  have : u = V j := by simpa [hj] using hu.symm
  rw [this]
  exact (hV j hj).1 g off e

theorem Recs.of_row {w : World} {base n cap : Nat} {T : TypeId} {A : Option Addr} {ls : List (List UInt8)} {cs : List Value} (ho : w.ownsRow base T 1 (.slice A n cap) n cs) (hc : RCells w ls cs) (hn : n = ls.length) : Recs w (fun _ => True) A n cap ls := by
  subst hn
  rcases ho.2 with ⟨e, h0⟩ | ⟨g, cap', cur, e, hb, hg, hcc, hm, hs, ht⟩
  · injection e with e1 e2 e3
    subst e1 e3
    exact ⟨rfl, by omega, fun _ => rfl, fun h => by omega⟩
  · injection e with e1 e2 e3
    subst e1 e3
    refine ⟨rfl, by omega, (fun h => by cases h), fun h0 => ⟨g, 0, rfl, hlt hg, trivial, fun j hj => ?_⟩⟩
    obtain ⟨e, h1, h2⟩ := hc.2 j hj
    refine ⟨e, ?_, h2⟩
    rw [cell_of_row w g _ cur _ (0, 0) hg, Nat.zero_add]
    have := congrArg (fun q => q[j]?) ht
    simp only [List.getElem?_take] at this
    rw [if_pos (by omega), h1] at this
    simpa using this

set_option maxRecDepth 100000 in
/-- 'append(x, y...)', y records in memory. -/
theorem own_recs_at (w : World) (ty : TypeId) (base : Nat) (hbase : base ≤ w.heap.size) (v : Value) (n : Nat) (xs : List Value) (hown : w.ownsRow base 22 1 v n xs) (Z : Nat → Prop) (A : Option Addr) (len cap : Nat) (ls : List (List UInt8)) (h : Recs w Z A len cap ls) (hf : n + len ≤ 1000000) :
    ∃ v' w' cs, (Builtin.append_ #[29, 29] ty #[v, .slice A len cap]).run Try.prog w = .ok v' w' ∧ RCells w ls cs ∧ w'.ownsRow base 22 1 v' (n + len) (xs ++ cs) ∧ w.grownBy w' v.ownBlock ∧ (v'.ownBlock = v.ownBlock ∨ v'.ownBlock = some w.heap.size) := by
  obtain ⟨i0, hi0, hz0, hz1, hz2⟩ := info_parts info_bytes
  obtain ⟨cs, hcs, hat⟩ := h.cells
  cases A with
  | none =>
    have hc0 := h.2.2.1 rfl
    have hl0 := h.2.1
    obtain rfl : cap = 0 := hc0
    obtain rfl : len = 0 := by omega
    have hls : cs = [] := List.eq_nil_of_length_eq_zero (by rw [hcs.1, h.1])
    subst hls
    exact ⟨v, w, [], run_append_owned_none (P := Try.prog) (w := w) base 29 ty 22 i0 1 Try.underlying29 hi0 v _ _ hown, hcs, by simpa using hown, World.grownBy.refl _ _, .inl rfl⟩
  | some a =>
    have hll : cs.length = len := by rw [hcs.1, h.1]
    have hcell : ∀ j u, cs[j]? = some u → w.cell? (a.add j) = some u := fun j u hj => by
      have hjl : j < cs.length := (List.getElem?_eq_some_iff.1 hj).1
      obtain ⟨g, off, e, _, _, hc⟩ := h.2.2.2 (by omega)
      injection e with e
      subst e
      rw [Addr.add_lit]
      exact hat g off rfl j u hj
    obtain ⟨v', w', hr, p2, p3, _, p5⟩ := run_append_own_at (P := Try.prog) w base 29 ty 22 i0 (.slice none 0 0) 1 24 Try.underlying29 hi0 hz0 hz1 hz2 rfl (by omega) v n xs hown a len cap cs (by rw [hll]; simp) hcell hcs.ones (by unfold maxLen; omega) (by omega) hbase
    exact ⟨v', w', cs, hr, hcs, p2, p3, p5⟩

/-- The same at a step of a region that draws its order. -/
theorem step_append_recs (w : World) {ops : Array Oper} {o : Oper} {a : Act} {K : Act → World → Prop} {Q : Exit → Act → World → Prop} {E : Prop} (hgd : o.guard = none) (sl x : Operand)
    (ho : o.op = .call { callee := .builtin .append, args := #[sl, x], argTypes := #[29, 29] })
    (base : Nat) (v : Value) (n : Nat) (xs : List Value) (Z : Nat → Prop) (A : Option Addr) (len cap : Nat) (ls : List (List UInt8)) (hx : a.eval x = .slice A len cap) (hs : a.eval sl = v) (hbase : base ≤ w.heap.size) (hown : w.ownsRow base 22 1 v n xs) (hr : Recs w Z A len cap ls) (hf : n + len ≤ 1000000)
    (h : ∀ v' w' cs, RCells w ls cs → w'.ownsRow base 22 1 v' (n + len) (xs ++ cs) → w.grownBy w' v.ownBlock → (v'.ownBlock = v.ownBlock ∨ v'.ownBlock = some w.heap.size) → K (a.put o.dst v') w') :
    if Region.wanted o (yielded ops a.tmps) = true then Oper.wp Try.prog o a w K Q else E := by
  have hw : Region.wanted o (yielded ops a.tmps) = true := by simp [Region.wanted, hgd]
  rw [if_pos hw]
  obtain ⟨v', w', cs, hrun, h1, h2, h3, h4⟩ := own_recs_at w o.type base hbase v n xs hown Z A len cap ls hr hf
  unfold Oper.wp execOp
  simp only [ho, resolve, invoke, builtin, Sem.run_bind, Sem.run_pure, Result.andThen_ok, List.map_toArray, List.map_cons, List.map_nil, hs, hx, hrun]
  exact h v' w' cs h1 h2 h3 h4

/-- A slice of one more: what is made of it for a log that refuses it. -/
structure LongAt (w0 w : World) (ns : List Nat) (v : Value) : Prop where
  form : ∃ A cap, v = .slice A (ns.length + 1) cap ∧ Lens w A (ns ++ [60001])
  below : Below w0.heap.size w0 w

theorem own_empty {w : World} {B r : Nat} (h : w.heap[r]? = some (.cells #[] 22)) (hb : B ≤ r) : w.ownsRow B 22 1 (.slice (some ⟨r, 0, none⟩) 0 0) 0 [] :=
  ⟨rfl, .inr ⟨r, 0, #[], rfl, hb, h, Nat.le_refl _, Nat.zero_le _, rfl, rfl⟩⟩

theorem rcells_lens {w : World} {ls : List (List UInt8)} {cs : List Value} (h : RCells w ls cs) : cs.length = (ls.map List.length).length ∧ ∀ j (hj : j < (ls.map List.length).length), ∃ E c, cs[j]? = some (.slice E (ls.map List.length)[j] c) :=
  ⟨by rw [h.1, List.length_map], fun j hj => by
    obtain ⟨e, he, E, c, rfl, _⟩ := h.2 j (by simpa using hj)
    exact ⟨E, c, by rw [he, List.getElem_map]⟩⟩

theorem LongAt.of {w0 w : World} {base : Nat} {v : Value} {ns : List Nat} {cs : List Value} {E : Option Addr} {c : Nat} (hc : cs.length = ns.length ∧ ∀ j (hj : j < ns.length), ∃ E c, cs[j]? = some (.slice E ns[j] c))
    (ho : w.ownsRow base 22 1 v (ns.length + 1) (cs ++ [.slice E 60001 c])) (hb : Below w0.heap.size w0 w) : LongAt w0 w ns v := by
  refine ⟨?_, hb⟩
  rcases ho.2 with ⟨e, h0⟩ | ⟨g, cap', cur, rfl, hbg, hg, hcc, hm, hs, ht⟩
  · omega
  · refine ⟨_, _, rfl, fun h0 => ⟨g, 0, rfl, fun j hj => ?_⟩⟩
    have hjl : j < ns.length + 1 := by simpa using hj
    have hat : ∀ x, (cs ++ [Value.slice E 60001 c])[j]? = some x → w.cell? ⟨g, 0 + j, none⟩ = some x := fun x hx => by
      rw [cell_of_row w g _ cur _ (0, 0) hg, Nat.zero_add]
      have := congrArg (fun q => q[j]?) ht
      simp only [List.getElem?_take] at this
      rw [if_pos (by omega), hx] at this
      simpa using this
    by_cases hlt : j < ns.length
    · obtain ⟨E', c', h1⟩ := hc.2 j hlt
      refine ⟨E', c', hat _ ?_⟩
      rw [List.getElem?_append_left (by omega), h1, List.getElem_append_left hlt]
    · obtain rfl : j = ns.length := by omega
      refine ⟨E, c, hat _ ?_⟩
      rw [List.getElem?_append_right (by omega), hc.1]
      simp

theorem news_one {w : World} {b : Nat} {X : Value} (h : w.cell? ⟨b, 0, none⟩ = some X) : ∀ j u, [X][j]? = some u → w.cell? ((⟨b, 0, none⟩ : Addr).add j) = some u := fun j u hu => by
  have hj : j < 1 := by simpa using (List.getElem?_eq_some_iff.1 hu).1
  obtain rfl : j = 0 := by omega
  rw [Addr.add_lit]
  have : u = X := by simpa using hu.symm
  rw [this]
  exact h

theorem cell_heap {w : World} {b : Nat} {X : Value} (h : w.heap[b]? = some (.cells #[X] 22)) : w.cell? ⟨b, 0, none⟩ = some X := (cell_of_row _ _ _ _ _ _ h).trans rfl

/-- A block of one slice of 60001. -/
def isLong (o : Option Obj) : Prop := ∃ F, o = some (.cells #[.slice F 60001 60001] 22)

set_option maxRecDepth 100000 in
/-- One slice is appended, at a step of a region that draws its order. -/
theorem step_append_long (w : World) {ops : Array Oper} {o : Oper} {a : Act} {K : Act → World → Prop} {Q : Exit → Act → World → Prop} {E : Prop} (hgd : o.guard = none) (sl x : Operand)
    (ho : o.op = .call { callee := .builtin .append, args := #[sl, x], argTypes := #[29, 29] })
    (base : Nat) (v : Value) (n : Nat) (xs : List Value) (b : Nat) (hx : a.eval x = .slice (some ⟨b, 0, none⟩) 1 1) (hs : a.eval sl = v) (hbase : base ≤ w.heap.size) (hown : w.ownsRow base 22 1 v n xs) (hc : isLong w.heap[b]?) (hf : n + 1 ≤ 1000000)
    (h : ∀ F v' w', w'.ownsRow base 22 1 v' (n + 1) (xs ++ [.slice F 60001 60001]) → w.grownBy w' v.ownBlock → K (a.put o.dst v') w') :
    if Region.wanted o (yielded ops a.tmps) = true then Oper.wp Try.prog o a w K Q else E := by
  obtain ⟨F, hX⟩ := hc
  have hcell := cell_heap hX
  obtain ⟨i0, hi0, hz0, hz1, hz2⟩ := info_parts info_bytes
  have hw : Region.wanted o (yielded ops a.tmps) = true := by simp [Region.wanted, hgd]
  rw [if_pos hw]
  obtain ⟨v', w', hrun, h2, h3, _⟩ := run_append_own_at (P := Try.prog) w base 29 o.type 22 i0 (.slice none 0 0) 1 24 Try.underlying29 hi0 hz0 hz1 hz2 rfl (by omega) v n xs hown ⟨b, 0, none⟩ 1 1 [.slice F 60001 60001] rfl (news_one hcell) (by simp [Value.oneCell']) (Nat.le_trans hf (by unfold maxLen; omega)) (by omega) hbase
  unfold Oper.wp execOp
  simp only [ho, resolve, invoke, builtin, Sem.run_bind, Sem.run_pure, Result.andThen_ok, List.map_toArray, List.map_cons, List.map_nil, hs, hx, hrun]
  exact h F v' w' h2 h3

theorem heap_push (w : World) (o : Obj) (k : Nat) : (w.alloc o).heap[k]? = if k = w.heap.size then some o else w.heap[k]? := by
  split
  · rename_i h; rw [h]; exact heap_alloc_new _ _
  · rename_i h
    rcases Nat.lt_or_ge k w.heap.size with h' | h'
    · exact Below.heap_alloc _ _ _ h'
    · rw [Array.getElem?_eq_none (by simp; omega), Array.getElem?_eq_none h']

theorem heap_drew0 (w : World) : w.drew.heap = w.heap := rfl


end Go.Proofs.Ytnkfdnehkihbeaa
