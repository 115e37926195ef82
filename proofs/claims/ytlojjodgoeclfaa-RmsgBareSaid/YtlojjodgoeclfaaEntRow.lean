/- Entries in a row of the call's own: appended, one of them turned, the first one left out. -/
import Derived.Test.YtlojjodgoeclfaaEntSame
import Derived.Laws.OwnMore
namespace Go.Proofs.Ytlojjodgoeclfaa
open Go.RowKit
set_option linter.unusedVariables false
set_option linter.unusedSimpArgs false

/-- An entry as three cells. -/
structure Lay where
  e : Ent
  A : Option Addr
  c : Nat

def cells3 (x : Lay) : List Value := [.int .i64 x.e.i, .int .i64 x.e.t, .slice x.A x.e.d.length x.c]
def rowOf (xs : List Lay) : List Value := xs.flatMap cells3

theorem rowOf_cons (x : Lay) (xs : List Lay) : rowOf (x :: xs) = cells3 x ++ rowOf xs := rfl

theorem rowOf_length (xs : List Lay) : (rowOf xs).length = xs.length * 3 := by
  induction xs with
  | nil => rfl
  | cons x xs ih =>
    rw [rowOf_cons, List.length_append, ih, List.length_cons]
    simp [cells3]
    omega

theorem rowOf_at (xs : List Lay) : ∀ (j r : Nat) (hj : j < xs.length), r < 3 → (rowOf xs)[j * 3 + r]? = (cells3 xs[j])[r]? := by
  induction xs with
  | nil => intro j r hj; simp at hj
  | cons x xs ih =>
    intro j r hj hr
    rw [rowOf_cons]
    cases j with
    | zero =>
      rw [List.getElem?_append_left (by simp [cells3]; omega)]
      simp
    | succ j =>
      rw [List.getElem?_append_right (by simp [cells3]; omega)]
      rw [show (j + 1) * 3 + r - (cells3 x).length = j * 3 + r by simp [cells3]; omega]
      rw [ih j r (by simpa using hj) hr]
      simp

theorem rowOf_set (xs : List Lay) : ∀ (k : Nat) (hk : k < xs.length) (d : List UInt8) (A : Option Addr) (c : Nat), (rowOf xs).set (k * 3 + 2) (.slice A d.length c) = rowOf (xs.set k ⟨⟨xs[k].e.i, xs[k].e.t, d⟩, A, c⟩) := by
  induction xs with
  | nil => intro k hk; simp at hk
  | cons x xs ih =>
    intro k hk d A c
    rw [rowOf_cons]
    cases k with
    | zero =>
      rw [List.set_append_left _ _ (by simp [cells3])]
      rfl
    | succ k =>
      rw [List.set_append_right _ _ (by simp [cells3]; omega)]
      rw [show (k + 1) * 3 + 2 - (cells3 x).length = k * 3 + 2 by simp [cells3]; omega]
      rw [ih k (by simpa using hk)]
      rfl

theorem rowOf_one (xs : List Lay) : ∀ u ∈ rowOf xs, u.oneCell' = true := by
  intro u hu
  obtain ⟨x, _, hx⟩ := List.mem_flatMap.1 hu
  simp only [cells3, List.mem_cons, List.not_mem_nil, or_false] at hx
  rcases hx with rfl | rfl | rfl <;> rfl

/-- Its bytes lie in Z. -/
def LayOk (w : World) (Z : Nat → Prop) (x : Lay) : Prop :=
  x.c ≤ x.c ∧ Lies w x.A x.e.d.length x.c x.e.d ∧ (0 < x.e.d.length → ∀ q o, x.A = some ⟨q, o, none⟩ → Z q)

theorem LayOk.mono {w : World} {Z Z' : Nat → Prop} {x : Lay} (h : LayOk w Z x) (hz : ∀ k, Z k → Z' k) : LayOk w Z' x := ⟨h.1, h.2.1, fun h0 q o e => hz _ (h.2.2 h0 q o e)⟩

theorem LayOk.keep {w w' : World} {Z : Nat → Prop} {x : Lay} (h : LayOk w Z x) (hs : w.heap.size ≤ w'.heap.size) (hk : ∀ k, k < w.heap.size → Z k → w'.heap[k]? = w.heap[k]?) : LayOk w' Z x :=
  ⟨h.1, h.2.1.keep hs fun h0 g off e hg => hk g hg (h.2.2 h0 g off e), h.2.2⟩

theorem Ents.lays {w : World} {Z : Nat → Prop} {A : Option Addr} {len cap : Nat} {ls : List Ent} (h : Ents w Z A len cap ls) :
    ∃ xs : List Lay, xs.map (·.e) = ls ∧ (∀ x ∈ xs, LayOk w Z x) ∧ (∀ a, A = some a → ∀ j u, (rowOf xs)[j]? = some u → w.cell? (a.add j) = some u) := by
  by_cases h0 : 0 < len
  · obtain ⟨g, off, rfl, hg, hz, hc⟩ := h.2.2.2 h0
    obtain ⟨X, hX⟩ := Classical.axiomOfChoice (r := fun j (x : Option Addr × Nat) => ∀ (hj : j < ls.length), w.cell? ⟨g, off + j * 3, none⟩ = some (.int .i64 ls[j].i) ∧ w.cell? ⟨g, off + j * 3 + 1, none⟩ = some (.int .i64 ls[j].t) ∧ w.cell? ⟨g, off + j * 3 + 2, none⟩ = some (.slice x.1 ls[j].d.length x.2) ∧ LayOk w Z ⟨ls[j], x.1, x.2⟩) (fun j => by
      by_cases hj : j < ls.length
      · obtain ⟨E, c, c0, c1, c2, hm, hl, hzE⟩ := hc j hj
        exact ⟨(E, c), fun _ => ⟨c0, c1, c2, hm, hl, hzE⟩⟩
      · exact ⟨(none, 0), fun h => absurd h hj⟩)
    have hxl : ((List.range ls.length).map fun j => (⟨ls.getD j ⟨0, 0, []⟩, (X j).1, (X j).2⟩ : Lay)).length = ls.length := by simp
    refine ⟨(List.range ls.length).map fun j => ⟨ls.getD j ⟨0, 0, []⟩, (X j).1, (X j).2⟩, ?_, ?_, ?_⟩
    · apply List.ext_getElem
      · simp
      · intro j h1 h2
        simp [List.getD_eq_getElem?_getD, List.getElem?_eq_getElem h2]
    · intro x hx
      obtain ⟨j, hj, rfl⟩ := List.mem_map.1 hx
      have hj' : j < ls.length := by simpa using hj
      have := (hX j hj').2.2.2
      simpa [List.getD_eq_getElem?_getD, List.getElem?_eq_getElem hj'] using this
    · intro a ea j u hu
      injection ea with ea
      subst ea
      rw [Addr.add_lit]
      have hjl : j < ls.length * 3 := by
        have := (List.getElem?_eq_some_iff.1 hu).1
        rw [rowOf_length, hxl] at this
        exact this
      have hq : j / 3 < ls.length := by omega
      have hat := rowOf_at _ (j / 3) (j % 3) (by rw [hxl]; exact hq) (Nat.mod_lt _ (by omega))
      rw [show j / 3 * 3 + j % 3 = j by omega, hu] at hat
      obtain ⟨c0, c1, c2, _⟩ := hX (j / 3) hq
      simp only [List.getElem_map, List.getElem_range, List.getD_eq_getElem?_getD, List.getElem?_eq_getElem hq, Option.getD_some, cells3] at hat
      have h3 : j % 3 = 0 ∨ j % 3 = 1 ∨ j % 3 = 2 := by omega
      rcases h3 with h3 | h3 | h3
      · rw [h3] at hat
        injection hat with hat
        rw [hat, show off + j = off + j / 3 * 3 by omega]
        exact c0
      · rw [h3] at hat
        injection hat with hat
        rw [hat, show off + j = off + j / 3 * 3 + 1 by omega]
        exact c1
      · rw [h3] at hat
        injection hat with hat
        rw [hat, show off + j = off + j / 3 * 3 + 2 by omega]
        exact c2
  · have hl := h.1
    obtain rfl : ls = [] := List.eq_nil_of_length_eq_zero (by omega)
    exact ⟨[], rfl, fun x hx => by simp at hx, fun a _ j u hu => by simp [rowOf] at hu⟩

/-- Entries in a row of the call's own. -/
theorem Ents.ofRow {w : World} {Z : Nat → Prop} {base g n cap : Nat} {T : TypeId} {xs : List Lay} (h : w.ownsRow base T 3 (.slice (some ⟨g, 0, none⟩) n cap) n (rowOf xs)) (hn : xs.length = n) (hz : Z g) (hok : ∀ x ∈ xs, LayOk w Z x) :
    Ents w Z (some ⟨g, 0, none⟩) n cap (xs.map (·.e)) := by
  have hg : g < w.heap.size := (World.ownsRow.lt h g rfl).2
  have hcap : n ≤ cap := by
    rcases h.2 with ⟨h', _⟩ | ⟨g', cap', cur, h', _, _, hnc, _⟩
    · simp at h'
    · simp only [Value.slice.injEq, Option.some.injEq, Addr.mk.injEq, and_true, true_and] at h'
      obtain ⟨rfl, rfl⟩ := h'
      exact hnc
  refine ⟨by simpa using hn, hcap, (fun e => by cases e), fun _ => ⟨g, 0, rfl, hg, hz, fun j hj => ?_⟩⟩
  have hj' : j < xs.length := by simpa using hj
  have hcell : ∀ r, r < 3 → w.cell? ⟨g, j * 3 + r, none⟩ = (cells3 xs[j])[r]? := fun r hr => by
    rw [World.ownsRow.cellAt h (j * 3 + r) (by omega), rowOf_at xs j r hj' hr]
  obtain ⟨hm, hl, hzE⟩ := hok xs[j] (List.getElem_mem hj')
  simp only [List.getElem_map]
  refine ⟨xs[j].A, xs[j].c, ?_, ?_, ?_, hm, hl, hzE⟩
  · rw [Nat.zero_add]; exact hcell 0 (by omega)
  · rw [Nat.zero_add]; exact hcell 1 (by omega)
  · rw [Nat.zero_add]; exact hcell 2 (by omega)

theorem owns_heap {w w' : World} {base : Nat} {e : TypeId} {size : Nat} {v : Value} {n : Nat} {xs : List Value} (h : w.ownsRow base e size v n xs) (hk : ∀ g, v.ownBlock = some g → w'.heap[g]? = w.heap[g]?) : w'.ownsRow base e size v n xs := by
  rcases h.2 with ⟨e, h0⟩ | ⟨g, cap, cur, e, hb, hg, r⟩
  · exact ⟨h.1, .inl ⟨e, h0⟩⟩
  · exact ⟨h.1, .inr ⟨g, cap, cur, e, hb, (hk g (by rw [e]; rfl)).trans hg, r⟩⟩

theorem info_ent : (Try.prog.info? 58).map (fun i => (i.zero, i.size, i.bytes)) = some (some (.agg #[.int .i64 0, .int .i64 0, .slice none 0 0]), 3, 40) := by kernel_rfl

theorem sizeOf_ent (w : World) : (Go.sizeOf 58).run Try.prog w = .ok 3 w := by
  obtain ⟨i, hi, _, hs, _⟩ := info_parts info_ent
  simp [Go.sizeOf, typeInfo, hi, hs]

/-- 'append(x, y...)', y entries. -/
theorem wpList_append_ents (w : World) {ops : Array Oper} {rest : List Oper} {o : Oper} {a : Act} {Q : Exit → Act → World → Prop} (hgd : o.guard = none) (sl x : Operand)
    (ho : o.op = .call { callee := .builtin .append, args := #[sl, x], argTypes := #[22, 22] })
    (base : Nat) (hbase : base ≤ w.heap.size) (v : Value) (n : Nat) (row : List Value) (hs : a.eval sl = v) (hown : w.ownsRow base 58 3 v n row) (b : Addr) (len cap : Nat) (xs : List Lay) (hx : a.eval x = .slice (some b) len cap) (hl : xs.length = len)
    (hcell : ∀ j u, (rowOf xs)[j]? = some u → w.cell? (b.add j) = some u) (hf : n + len ≤ 1000000)
    (h : ∀ v' w', w'.ownsRow base 58 3 v' (n + len) (row ++ rowOf xs) → w.grownBy w' v.ownBlock → (v'.ownBlock = v.ownBlock ∨ v'.ownBlock = some w.heap.size) → wpList Try.prog ops Q rest (a.put o.dst v') w') : wpList Try.prog ops Q (o :: rest) a w := by
  obtain ⟨i0, hi0, hz0, hz1, hz2⟩ := info_parts info_ent
  refine wpList_plain hgd fun K hK => ?_
  obtain ⟨v', w', hr, h2, h3, _, h4⟩ := run_append_own_at (P := Try.prog) w base 22 o.type 58 i0 _ 3 40 Try.underlying22 hi0 hz0 hz1 hz2 rfl (by omega) v n row hown b len cap (rowOf xs) (by rw [rowOf_length, hl]) hcell (rowOf_one xs) (by unfold maxLen; omega) (by omega) hbase
  unfold Oper.wp execOp
  simp only [ho, resolve, invoke, builtin, Sem.run_bind, Sem.run_pure, Result.andThen_ok, List.map_toArray, List.map_cons, List.map_nil, hs, hx, hr]
  exact hK _ _ (h v' w' h2 h3 h4)

/-- Where the rest of a row begins. -/
def restE (g off cap : Nat) : Option Addr := if cap = 1 then some ⟨g, off, none⟩ else some ⟨g, off + 3, none⟩

theorem run_restE (g off n cap : Nat) (h1 : 1 ≤ n) (hc : n ≤ cap) (W : World) :
    (Instr.slice 22 (.slice (some ⟨g, off, none⟩) n cap) (some (.int .i64 1)) none none).run Try.prog W = .ok (.slice (restE g off cap) (n - 1) (cap - 1)) W := by
  have ht := Try.underlying22
  have ht' : Try.prog.underlying 22 = some (.slice (Try.prog.elem 22)) := by simp [Program.elem, ht]
  have he : Try.prog.elem 22 = 58 := by simp [Program.elem, ht]
  rw [run_slice_l W 22 _ _ _ ht' .i64 1 (by omega) (by omega), he, sizeOf_ent]
  simp [Result.andThen, sliced, restE, Addr.add]

theorem Ents.rest {w : World} {Z : Nat → Prop} {g off n cap : Nat} {ls : List Ent} (h : Ents w Z (some ⟨g, off, none⟩) n cap ls) (h1 : 1 ≤ n) : Ents w Z (restE g off cap) (n - 1) (cap - 1) (ls.drop 1) := by
  have hl := h.1
  have hc := h.2.1
  refine ⟨by simp; omega, by omega, (fun e => by unfold restE at e; split at e <;> cases e), fun h0 => ?_⟩
  obtain ⟨g', off', e, hg, hz, hcell⟩ := h.2.2.2 (by omega)
  injection e with e
  injection e with e1 e2
  subst e1 e2
  refine ⟨g, off + 3, by unfold restE; rw [if_neg (by omega)], hg, hz, fun j hj => ?_⟩
  have hj' : 1 + j < ls.length := by simp at hj; omega
  obtain ⟨E, c, c0, c1, c2, r⟩ := hcell (1 + j) hj'
  simp only [List.getElem_drop]
  exact ⟨E, c, by rw [show off + 3 + j * 3 = off + (1 + j) * 3 by omega]; exact c0, by rw [show off + 3 + j * 3 + 1 = off + (1 + j) * 3 + 1 by omega]; exact c1, by rw [show off + 3 + j * 3 + 2 = off + (1 + j) * 3 + 2 by omega]; exact c2, r⟩

/- what is the same -/
theorem oneB_refl (e : Ent) : oneB e.i e.t e.d e.i e.t e.d = true := by simp [oneB]

theorem sameE_refl (ls : List Ent) : sameE ls ls = true :=
  sameE_yes rfl fun k hk => by rw [oneAt_at _ _ k hk hk]; exact oneB_refl _

theorem sameE_len {a b : List Ent} (h : a.length ≠ b.length) : sameE a b = false := by
  unfold sameE
  rw [decide_eq_false h, Bool.false_and]

theorem sameE_turned (ls : List Ent) (k : Nat) (hk : k < ls.length) (b : UInt8) : sameE ls (ls.set k ⟨ls[k].i, ls[k].t, ls[k].d ++ [b]⟩) = false := by
  refine sameE_no k hk ?_
  rw [oneAt_at _ _ k hk (by simpa using hk)]
  simp [oneB]

end Go.Proofs.Ytlojjodgoeclfaa
