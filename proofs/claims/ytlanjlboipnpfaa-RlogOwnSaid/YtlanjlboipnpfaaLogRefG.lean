/- What the document's Add wants where an entry is added: append in a region, three blocks of the call's own. -/
import Derived.Test.YtlanjlboipnpfaaLogRefF
import Derived.Deep.RegionLaw
import Derived.Deep.RegionHeld3
namespace Go.Proofs.Ytlanjlboipnpfaa
open Go.RowKit
set_option linter.unusedVariables false
set_option linter.unusedSimpArgs false

/-- 'append(x, y...)' in a region, y entries, nil or not. -/
theorem step_append_lays (w : World) {ops : Array Oper} {o : Oper} {a : Act} {K : Act → World → Prop} {Q : Exit → Act → World → Prop} {E : Prop} (hgd : o.guard = none) (sl x : Operand)
    (ho : o.op = .call { callee := .builtin .append, args := #[sl, x], argTypes := #[22, 22] })
    (base : Nat) (hbase : base ≤ w.heap.size) (v : Value) (n : Nat) (row : List Value) (hs : a.eval sl = v) (hown : w.ownsRow base 43 3 v n row) (A : Option Addr) (len cap : Nat) (xs : List Lay) (hx : a.eval x = .slice A len cap) (hl : xs.length = len)
    (hnone : A = none → cap = 0 ∧ len = 0) (hcell : ∀ b, A = some b → ∀ j u, (rowOf xs)[j]? = some u → w.cell? (b.add j) = some u) (hf : n + len ≤ 1000000)
    (h : ∀ v' w', w'.ownsRow base 43 3 v' (n + len) (row ++ rowOf xs) → w.grownBy w' v.ownBlock → (v'.ownBlock = v.ownBlock ∨ v'.ownBlock = some w.heap.size) → K (a.put o.dst v') w') :
    if Region.wanted o (yielded ops a.tmps) = true then Oper.wp Try.prog o a w K Q else E := by
  have hw : Region.wanted o (yielded ops a.tmps) = true := by simp [Region.wanted, hgd]
  rw [if_pos hw]
  obtain ⟨i0, hi0, hz0, hz1, hz2⟩ := info_parts info_ent
  cases A with
  | some b =>
    obtain ⟨v', w', hr, h2, h3, _, h4⟩ := run_append_own_at (P := Try.prog) w base 22 o.type 43 i0 _ 3 40 Try.underlying22 hi0 hz0 hz1 hz2 rfl (by omega) v n row hown b len cap (rowOf xs) (by rw [rowOf_length, hl]) (hcell b rfl) (rowOf_one xs) (by unfold maxLen; omega) (by omega) hbase
    unfold Oper.wp execOp
    simp only [ho, resolve, invoke, builtin, Sem.run_bind, Sem.run_pure, Result.andThen_ok, List.map_toArray, List.map_cons, List.map_nil, hs, hx, hr]
    exact h v' w' h2 h3 h4
  | none =>
    obtain ⟨rfl, rfl⟩ := hnone rfl
    obtain rfl : xs = [] := List.eq_nil_of_length_eq_zero hl
    have hr := run_append_owned_none (P := Try.prog) (w := w) base 22 o.type 43 i0 3 Try.underlying22 hi0 v _ _ hown
    unfold Oper.wp execOp
    simp only [ho, resolve, invoke, builtin, Sem.run_bind, Sem.run_pure, Result.andThen_ok, List.map_toArray, List.map_cons, List.map_nil, hs, hx, hr]
    exact h v w (by simpa [rowOf] using hown) (World.grownBy.refl _ _) (.inl rfl)

theorem heapd (X : World) : X.drew.heap = X.heap := rfl
theorem heapa (X : World) (o : Obj) (k : Nat) : (X.alloc o).heap[k]? = if k = X.heap.size then some o else X.heap[k]? := by
  by_cases h : k = X.heap.size
  · rw [if_pos h, h]
    exact heap_alloc_new X o
  · rw [if_neg h]
    by_cases h2 : k < X.heap.size
    · exact Below.heap_alloc _ _ _ h2
    · rw [Array.getElem?_eq_none (by rw [World.size_alloc]; omega), Array.getElem?_eq_none (by omega)]

/-- No entry yet. -/
theorem own_zero {W : World} {base k : Nat} {T : TypeId} (h : W.heap[k]? = some (.cells #[] T)) (hb : base ≤ k) : W.ownsRow base T 3 (.slice (some ⟨k, 0, none⟩) 0 0) 0 [] :=
  ⟨by simp, .inr ⟨k, 0, #[], rfl, hb, h, Nat.le_refl _, Nat.zero_le _, rfl, by simp⟩⟩

theorem cells_one {W : World} {k : Nat} {T : TypeId} (x : Lay) {n : Nat} (hn : x.e.d.length = n) (h : W.heap[k]? = some (.cells #[.int .i64 x.e.i, .int .i64 x.e.t, .slice x.A n x.c] T)) : ∀ j u, (rowOf [x])[j]? = some u → W.cell? ((⟨k, 0, none⟩ : Addr).add j) = some u := by
  intro j u hu
  rw [Addr.add_lit, Nat.zero_add, cell_of_row _ _ _ _ _ _ h]
  have e : rowOf [x] = [.int .i64 x.e.i, .int .i64 x.e.t, .slice x.A n x.c] := by simp [rowOf, cells3, hn]
  rw [e] at hu
  simpa using hu

theorem BoxThree.turn2 {w X : World} {a b c0 e : Value} {C D : Array Value} (h : BoxThree w X #[a, b, c0, e] C D) (c : Value) : BoxThree w (X.setCell ⟨w.heap.size, 2, none⟩ c) #[a, b, c, e] C D := by
  refine ⟨?_, (Below.heap_setCell _ _ _ _ (by show w.heap.size + 1 ≠ w.heap.size; omega)).trans h.ans, (Below.heap_setCell _ _ _ _ (by show w.heap.size + 2 ≠ w.heap.size; omega)).trans h.ent, h.below.setCell (Nat.le_refl _) c⟩
  have hb := h.box
  simp only [World.setCell, Array.getElem?_modify, if_true, hb, Option.map_some]
  simp

/-- What the call's own blocks show. -/
theorem BoxThree.seen {w X : World} {a0 a1 a2 a3 u0 u1 u2 u3 y0 y1 y2 v0 v1 v2 : Value} {k : Nat} {T : TypeId} (h : BoxThree w X #[a0, a1, a2, a3] #[u0, u1, u2, u3] #[y0, y1, y2]) (hv : X.heap[k]? = some (.cells #[v0, v1, v2] T)) :
    X.cell? ⟨w.heap.size, 0, none⟩ = some a0 ∧ X.cell? ⟨w.heap.size, 1, none⟩ = some a1 ∧ X.cell? ⟨w.heap.size, 2, none⟩ = some a2 ∧ X.cell? ⟨w.heap.size, 3, none⟩ = some a3 ∧ X.cell? ⟨k, 0, none⟩ = some v0 ∧ X.cell? ⟨k, 1, none⟩ = some v1 ∧ X.cell? ⟨k, 2, none⟩ = some v2 ∧ X.frozen? ⟨w.heap.size + 1, 0, none⟩ = false ∧ X.frozen? ⟨w.heap.size + 1, 1, none⟩ = false ∧ X.frozen? ⟨w.heap.size + 1, 2, none⟩ = false ∧ X.frozen? ⟨w.heap.size + 1, 3, none⟩ = false ∧ X.frozen? ⟨w.heap.size + 2, 0, none⟩ = false ∧ X.frozen? ⟨w.heap.size + 2, 1, none⟩ = false ∧ X.frozen? ⟨w.heap.size + 2, 2, none⟩ = false := by
  obtain ⟨⟨b0, b1, b2, b3⟩, _⟩ := row4 h.box
  obtain ⟨_, ⟨f0, f1, f2, f3⟩⟩ := row4 h.ans
  obtain ⟨_, ⟨g0, g1, g2⟩⟩ := row3 h.ent
  obtain ⟨⟨x0, x1, x2⟩, _⟩ := row3 hv
  exact ⟨b0, b1, b2, b3, x0, x1, x2, f0, f1, f2, f3, g0, g1, g2⟩

theorem ents_fill3 {X : World} {b : Nat} {Z : Nat → Prop} {A : Option Addr} {n c : Nat} {ls : List Ent} (h : Ents X Z A n c ls) (hb : ¬ Z b) (u0 u1 u2 : Value) : Ents (((X.setCell ⟨b, 0, none⟩ u0).setCell ⟨b, 1, none⟩ u1).setCell ⟨b, 2, none⟩ u2) Z A n c ls :=
  h.keep (by simp) fun q _ hq => fill3_off X b u0 u1 u2 q fun e => hb (e ▸ hq)

theorem ents_set {X : World} {b k : Nat} {Z : Nat → Prop} {A : Option Addr} {n c : Nat} {ls : List Ent} (h : Ents X Z A n c ls) (hb : ¬ Z b) (u : Value) : Ents (X.setCell ⟨b, k, none⟩ u) Z A n c ls :=
  h.keep (by simp) fun q _ hq => Below.heap_setCell _ _ _ _ (by show q ≠ b; exact fun e => hb (e ▸ hq))

/-- What was appended, as a list. -/
theorem added_ents {w X : World} {Z : Nat → Prop} {xs : List Lay} {x : Lay} {n base : Nat} {T : TypeId} {ls : List Ent} {A2 : Option Addr} {c2 : Nat} (hb : Below w.heap.size w X) (hN : w.heap.size + 3 ≤ base) (hxl : xs.length = n) (hxs : xs.map (·.e) = ls) (hok : ∀ y ∈ xs, LayOk w Z y) (hx : LayOk w Z x)
    (ho : X.ownsRow base T 3 (.slice A2 (n + 1) c2) (n + 1) (rowOf xs ++ rowOf [x])) : Ents X (fun q => (Z q ∧ q < w.heap.size) ∨ w.heap.size + 3 ≤ q) A2 (n + 1) c2 (ls ++ [x.e]) := by
  have ho3 : X.ownsRow base T 3 (.slice A2 (n + 1) c2) (xs ++ [x]).length (rowOf (xs ++ [x])) := by
    rw [rowOf_append, List.length_append, hxl]
    exact ho
  obtain ⟨A4, c4, e4, hE4⟩ := Ents.ofAny (Z := fun q => (Z q ∧ q < w.heap.size) ∨ w.heap.size + 3 ≤ q) ho3 (fun q hq => .inr (by omega)) (fun y hy => by
    have hy' : LayOk w Z y := by
      rcases List.mem_append.1 hy with h | h
      · exact hok y h
      · rw [List.mem_singleton.1 h]
        exact hx
    exact (hy'.old.keep hb.size fun q hq _ => hb.block q hq).mono fun q hq => .inl hq)
  rw [List.length_append, hxl, List.map_append, hxs] at hE4
  injection e4 with e5 e6 e7
  rw [e5, e7]
  exact hE4

end Go.Proofs.Ytlanjlboipnpfaa
