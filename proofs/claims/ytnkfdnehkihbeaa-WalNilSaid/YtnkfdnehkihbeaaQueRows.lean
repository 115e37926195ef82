/- 'append(x, y...)' of two rows that the call owns. -/
import Derived.Test.YtnkfdnehkihbeaaRows
import Derived.Deep.AppendLies
import Derived.Laws.OwnMore
import Derived.OwnWalk
import Derived.ArgAppend
import Derived.WalkKit
namespace Go.Proofs.Ytnkfdnehkihbeaa
open Go.RowKit

theorem owns_shape {w : World} {base : Nat} {e : TypeId} {size : Nat} {v : Value} {n : Nat} {xs : List Value} (h : w.ownsRow base e size v n xs) : (v = .slice none 0 0 ∧ n = 0) ∨ ∃ g c, v = .slice (some ⟨g, 0, none⟩) n c := by
  rcases h.2 with ⟨rfl, rfl⟩ | ⟨g, cap, cur, rfl, _⟩
  · exact .inl ⟨rfl, rfl⟩
  · exact .inr ⟨_, _, rfl⟩

theorem wpList_append_two {P : Program} (w : World) {ops : Array Oper} {rest : List Oper} {o : Oper} {a : Act} {Q : Exit → Act → World → Prop} (hgd : o.guard = none) (s x : Operand) (t : TypeId)
    (ho : o.op = .call { callee := .builtin .append, args := #[s, x], argTypes := #[t, t] })
    (base : Nat) (e : TypeId) (i : TypeInfo) (z : Value) (size bytes : Nat) (ht : P.underlying t = some (.slice e)) (hi : P.info? e = some i) (hz : i.zero = some z)
    (hsize : i.size = size) (hby : i.bytes = bytes) (hzs : z.cells.size = size) (hsz : 0 < size)
    (v : Value) (n : Nat) (xs : List Value) (hs : a.eval s = v) (hown : w.ownsRow base e size v n xs)
    (base2 : Nat) (v2 : Value) (m : Nat) (news : List Value) (hx : a.eval x = v2) (hown2 : w.ownsRow base2 e size v2 m news) (h1 : ∀ u ∈ news, u.oneCell' = true)
    (h63 : n + m ≤ maxLen) (hbytes : (n + m) * bytes ≤ 140737488355328) (hbase : base ≤ w.heap.size) (N : Nat) (hN : n + m = N) (XS : List Value) (hXS : xs ++ news = XS)
    (h : ∀ A cap w', w'.ownsRow base e size (.slice A N cap) N XS → w.grownBy w' v.ownBlock → wpList P ops Q rest (a.put o.dst (.slice A N cap)) w') : wpList P ops Q (o :: rest) a w := by
  subst hN hXS
  refine wpList_plain hgd fun K hK => ?_
  have key : ∃ A cap w', (Builtin.append_ #[t, t] o.type #[v, v2]).run P w = .ok (.slice A (n + m) cap) w' ∧ w'.ownsRow base e size (.slice A (n + m) cap) (n + m) (xs ++ news) ∧ w.grownBy w' v.ownBlock := by
    rcases owns_shape hown2 with ⟨rfl, rfl⟩ | ⟨g, c, rfl⟩
    · have hn : news = [] := List.eq_nil_of_length_eq_zero (by have := hown2.1; simpa using this)
      subst hn
      have hrun := run_append_owned_none (P := P) (w := w) base t o.type e i size ht hi v n xs hown
      rcases owns_shape hown with ⟨rfl, rfl⟩ | ⟨g, c, rfl⟩
      · exact ⟨_, _, _, hrun, by simpa using hown, World.grownBy.refl _ _⟩
      · exact ⟨_, _, _, hrun, by simpa using hown, World.grownBy.refl _ _⟩
    · obtain ⟨v', w', hr, h2, h3, _⟩ := run_append_own_at (P := P) w base t o.type e i z size bytes ht hi hz hsize hby hzs hsz v n xs hown ⟨g, 0, none⟩ m c news hown2.1 (hown2.cells rfl) h1 h63 hbytes hbase
      rcases owns_shape h2 with ⟨rfl, h0⟩ | ⟨g', c', rfl⟩
      · rw [h0] at h2 ⊢
        exact ⟨_, _, _, hr, h2, h3⟩
      · exact ⟨_, _, _, hr, h2, h3⟩
  obtain ⟨A, cap, w', hr, h2, h3⟩ := key
  unfold Oper.wp execOp
  simp only [ho, resolve, invoke, builtin, Sem.run_bind, Sem.run_pure, Result.andThen_ok, List.map_toArray, List.map_cons, List.map_nil, hs, hx, hr]
  exact hK _ _ (h A cap w' h2 h3)

/-- A slice of texts that a law makes, whose front may have gone: where it lies, what it holds. -/
def Slip (T : TypeId) (w : World) (B : Nat) (v : Value) (l : List ByteArray) : Prop :=
  (∀ k, v.ownBlock = some k → B ≤ k ∧ k < w.heap.size) ∧
  ((l = [] ∧ ∃ ao, v = .slice ao 0 0) ∨
   ∃ g off cap cur, v = .slice (some ⟨g, off, none⟩) l.length cap ∧ 0 < cap ∧ l.length ≤ cap ∧ cap ≤ maxLen ∧ w.heap[g]? = some (.cells cur T (0, 0)) ∧ off + cap ≤ cur.size ∧ ∀ i x, l[i]? = some x → cur[off + i]? = some (.string x))

section
variable {T : TypeId} {w w' : World} {B : Nat} {v : Value} {l : List ByteArray}

theorem Slip.nil (T : TypeId) (w : World) (B : Nat) : Slip T w B (.slice none 0 0) [] := ⟨fun k h => by simp [Value.ownBlock] at h, .inl ⟨rfl, none, rfl⟩⟩

theorem Slip.shape (h : Slip T w B v l) : ∃ ao cap, v = .slice ao l.length cap := by
  rcases h.2 with ⟨rfl, ao, rfl⟩ | ⟨g, off, cap, cur, rfl, _⟩
  · exact ⟨_, _, rfl⟩
  · exact ⟨_, _, rfl⟩

theorem Slip.keep (h : Slip T w B v l) (hs : w.heap.size ≤ w'.heap.size) (hk : ∀ k, v.ownBlock = some k → w'.heap[k]? = w.heap[k]?) : Slip T w' B v l := by
  refine ⟨fun k e => ⟨(h.1 k e).1, Nat.lt_of_lt_of_le (h.1 k e).2 hs⟩, ?_⟩
  rcases h.2 with ⟨rfl, ao, rfl⟩ | ⟨g, off, cap, cur, rfl, h1, h2, h3, h4, h5, h6⟩
  · exact .inl ⟨rfl, ao, rfl⟩
  · exact .inr ⟨g, off, cap, cur, rfl, h1, h2, h3, (hk g rfl).trans h4, h5, h6⟩

theorem Slip.grown (h : Slip T w B v l) {row : Option Nat} (hg : w.grownBy w' row) (hne : ∀ k, v.ownBlock = some k → some k ≠ row) : Slip T w' B v l :=
  h.keep hg.size fun k e => hg.block k (h.1 k e).2 (hne k e)

theorem Slip.alloc (h : Slip T w B v l) (o : Obj) : Slip T (w.alloc o) B v l :=
  h.keep (by simp) fun k e => Below.heap_alloc _ _ _ (h.1 k e).2

/-- The first one's cell. -/
theorem Slip.first {x : ByteArray} (h : Slip T w B v (x :: l)) : ∃ g off cap, v = .slice (some ⟨g, off, none⟩) (l.length + 1) cap ∧ l.length + 1 ≤ cap ∧ w.cell? ⟨g, off, none⟩ = some (.string x) ∧
    Slip T w B (.slice (if cap = 1 then some ⟨g, off, none⟩ else some ⟨g, off + 1, none⟩) l.length (cap - 1)) l := by
  have hb := h.1
  rcases h.2 with ⟨h0, _⟩ | ⟨g, off, cap, cur, rfl, h1, h2, h3, h4, h5, h6⟩
  · cases h0
  · refine ⟨g, off, cap, rfl, h2, ?_, ?_, ?_⟩
    · rw [cell_of_row w g off cur T (0, 0) h4]
      exact h6 0 x rfl
    · intro k e
      refine hb k ?_
      split at e <;> exact e
    · simp only [List.length_cons] at h2
      by_cases hc : cap = 1
      · subst hc
        obtain rfl : l = [] := List.eq_nil_of_length_eq_zero (by omega)
        exact .inl ⟨rfl, _, rfl⟩
      · refine .inr ⟨g, off + 1, cap - 1, cur, by rw [if_neg hc], by omega, by omega, by omega, h4, by omega, fun i y hy => ?_⟩
        rw [Nat.add_assoc, Nat.add_comm 1 i]
        exact h6 (i + 1) y (by simpa using hy)

theorem slip_of_row {n : Nat} {xs : List ByteArray} (h : w.ownsRow B T 1 v n (xs.map Value.string)) (hn : 0 < n) : Slip T w B v xs := by
  rcases h.2 with ⟨_, h0⟩ | ⟨g, cap, cur, rfl, h1, h2, h3, h4, h5, h6⟩
  · omega
  · have hl := h.1
    simp only [List.length_map, Nat.mul_one] at hl h5 h6
    refine ⟨fun k e => ?_, .inr ⟨g, 0, cap, cur, by rw [hl], by omega, by omega, h4, h2, by omega, fun i x hx => ?_⟩⟩
    · injection e with e
      exact ⟨by subst e; exact h1, by subst e; exact (Array.getElem?_eq_some_iff.1 h2).1⟩
    · have hi : i < xs.length := (List.getElem?_eq_some_iff.1 hx).1
      have := congrArg (fun q => q[i]?) h6
      simp only [List.getElem?_take, List.getElem?_map, hx] at this
      rw [if_pos (by omega)] at this
      rw [Nat.zero_add]
      simpa using this
end

theorem wpList_append_slip {P : Program} (w : World) {ops : Array Oper} {rest : List Oper} {o : Oper} {a : Act} {Q : Exit → Act → World → Prop} (hgd : o.guard = none) (s x : Operand) (t : TypeId)
    (ho : o.op = .call { callee := .builtin .append, args := #[s, x], argTypes := #[t, t] })
    (B : Nat) (e : TypeId) (i : TypeInfo) (z : Value) (bytes : Nat) (ht : P.underlying t = some (.slice e)) (hi : P.info? e = some i) (hz : i.zero = some z)
    (hsize : i.size = 1) (hby : i.bytes = bytes) (hzs : z.cells.size = 1)
    (v : Value) (l : List ByteArray) (hs : a.eval s = v) (hown : Slip e w B v l) (ad : Addr) (u : ByteArray) (hx : a.eval x = .slice (some ad) 1 1) (hu : w.cell? ad = some (.string u))
    (h63 : l.length + 1 ≤ maxLen) (hbytes : (l.length + 1) * bytes ≤ 140737488355328) (hbase : B ≤ w.heap.size)
    (h : ∀ g off cap w', Slip e w' B (.slice (some ⟨g, off, none⟩) (l.length + 1) cap) (l ++ [u]) → w.grownBy w' v.ownBlock → (v.ownBlock = some g ∨ w.heap.size ≤ g) → wpList P ops Q rest (a.put o.dst (.slice (some ⟨g, off, none⟩) (l.length + 1) cap)) w') : wpList P ops Q (o :: rest) a w := by
  have hnews : ∀ j y, [Value.string u][j]? = some y → w.cell? (ad.add j) = some y := fun j y hj => by
    match j, hj with
    | 0, hj => injection hj with hj; subst hj; simpa [Addr.add] using hu
  have hone : ∀ y ∈ [Value.string u], y.oneCell' = true := by simp [Value.oneCell']
  have hgrow : ∀ v' w', w'.ownsRow w.heap.size e 1 v' (l.length + 1) (l.map Value.string ++ [.string u]) → w.grownBy w' none → wpList P ops Q rest (a.put o.dst v') w' := by
    intro v' w' h1 h2
    have h1' : w'.ownsRow w.heap.size e 1 v' (l.length + 1) ((l ++ [u]).map Value.string) := by rw [List.map_append]; exact h1
    obtain ⟨g, cap, rfl, hg, hlt⟩ := h1.form (by omega)
    have hsl := slip_of_row h1' (by omega)
    refine h g 0 cap w' ⟨fun k ek => ⟨Nat.le_trans hbase (hsl.1 k ek).1, (hsl.1 k ek).2⟩, hsl.2⟩ ⟨h2.os, h2.tape, h2.output, h2.size, fun k hk _ => h2.block k hk (by simp)⟩ (.inr hg)
  rcases hown.2 with ⟨rfl, ao, rfl⟩ | ⟨g, off, cap, cur, rfl, h1, h2, h3, h4, h5, h6⟩
  · exact wpList_append_grows w hgd s x t ho e i z 1 bytes ht hi hz hsize hby hzs (by omega) ao 0 0 [] hs (fun _ => ⟨rfl, rfl⟩) rfl (fun b _ j y hj => by simp at hj) ad 1 1 [.string u] hx rfl hnews hone (by omega) (by simpa using h63) (by simpa using hbytes) hgrow
  · by_cases hr : l.length + 1 ≤ cap
    · refine wpList_plain hgd fun K hK => ?_
      have hcell : ∀ j, j < [Value.string u].length → (w.cell? ⟨g, off + l.length * i.size + j, none⟩).isSome = true := fun j hj => by
        simp at hj
        subst hj
        rw [hsize, cell_of_row w g _ cur e (0, 0) h4]
        simp
        omega
      have hfr : ∀ j, j < [Value.string u].length → w.frozen? ⟨g, off + l.length * i.size + j, none⟩ = false := fun j _ => frozen_of_row w g _ cur e h4
      have hrun := run_append_room_cells (P := P) w t o.type e i ht hi g off l.length cap ad 1 1 [.string u] (by rw [hsize]; rfl) hnews hone hr hcell hfr
      unfold Oper.wp execOp
      simp only [ho, resolve, invoke, builtin, Sem.run_bind, Sem.run_pure, Result.andThen_ok, List.map_toArray, List.map_cons, List.map_nil, hs, hx, hrun]
      have hset : w.setCells g (off + l.length * i.size) [.string u] = w.setCell ⟨g, off + l.length, none⟩ (.string u) := by rw [hsize, Nat.mul_one]; rfl
      rw [hset]
      have hh : (w.setCell ⟨g, off + l.length, none⟩ (.string u)).heap[g]? = some (.cells (cur.setIfInBounds (off + l.length) (.string u)) e (0, 0)) := by
        simp only [World.setCell, Array.getElem?_modify, if_true, h4, Option.map_some]
        rfl
      refine hK _ _ (h g off cap _ ⟨fun k ek => ⟨(hown.1 k ek).1, by simpa using (hown.1 k ek).2⟩, .inr ⟨g, off, cap, _, by simp, h1, by simpa using hr, h3, hh, by simpa using h5, fun j y hj => ?_⟩⟩ ⟨rfl, rfl, rfl, by simp, fun k hk hne => Below.heap_setCell _ _ _ _ (fun ek => hne (by rw [ek]; rfl))⟩ (.inl rfl))
      rcases Nat.lt_trichotomy j l.length with hj' | hj' | hj'
      · rw [List.getElem?_append_left hj'] at hj
        rw [Array.getElem?_setIfInBounds_ne (by omega)]
        exact h6 j y hj
      · subst hj'
        simp at hj
        subst hj
        rw [Array.getElem?_setIfInBounds_self]
        simp
        omega
      · rw [List.getElem?_eq_none (by simp; omega)] at hj
        cases hj
    · exact wpList_append_grows w hgd s x t ho e i z 1 bytes ht hi hz hsize hby hzs (by omega) (some ⟨g, off, none⟩) l.length cap (l.map Value.string) hs (fun e => by cases e) (by simp) (fun b hb j y hj => by
        injection hb with hb
        subst hb
        rw [List.getElem?_map] at hj
        obtain ⟨y', hy', rfl⟩ := Option.map_eq_some_iff.1 hj
        rw [Addr.add_lit, cell_of_row w g _ cur e (0, 0) h4]
        exact h6 j y' hy') ad 1 1 [.string u] hx rfl hnews hone (by omega) h63 hbytes hgrow

end Go.Proofs.Ytnkfdnehkihbeaa
