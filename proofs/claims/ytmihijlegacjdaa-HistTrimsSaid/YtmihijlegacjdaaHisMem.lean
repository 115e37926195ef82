/- Versions in memory: values, rows of them, where they lie. -/
import Derived.Test.YtmihijlegacjdaaHisMath
import Derived.Test.YtmihijlegacjdaaSpRow
import Derived.Test.YtmihijlegacjdaaRes
namespace Go.Proofs.Ytmihijlegacjdaa
open Go.RowKit
set_option linter.unusedVariables false
set_option linter.unusedSimpArgs false

abbrev verV (x : Ver) : Value := .agg #[.int .i64 x.r, .int .i64 x.k, .int .i64 x.m, .int .i64 x.v, .string x.s, .int .i64 x.l, .bool x.g]
def verC (x : Ver) : List Value := [.int .i64 x.r, .int .i64 x.k, .int .i64 x.m, .int .i64 x.v, .string x.s, .int .i64 x.l, .bool x.g]
def rowH (l : List Ver) : List Value := l.flatMap verC

theorem elem_ver : Elem 22 26 (.agg #[.int .i64 0, .int .i64 0, .int .i64 0, .int .i64 0, .string ⟨#[]⟩, .int .i64 0, .bool false]) 7 64 := ⟨Try.underlying22, by kernel_rfl, rfl, by omega, by omega⟩

theorem rowH_len (l : List Ver) : (rowH l).length = l.length * 7 := by
  unfold rowH
  induction l with
  | nil => rfl
  | cons x l ih =>
    rw [List.flatMap_cons, List.length_append, ih, List.length_cons]
    show 7 + _ = _
    omega

theorem rowH_add (l : List Ver) (x : Ver) : rowH (l ++ [x]) = rowH l ++ verC x := by unfold rowH; rw [List.flatMap_append]; simp
theorem rowH_one (u : Value) (x : Ver) (h : u ∈ verC x) : u.oneCell' = true := by
  unfold verC at h
  simp only [List.mem_cons, List.not_mem_nil, or_false] at h
  rcases h with rfl | rfl | rfl | rfl | rfl | rfl | rfl <;> rfl
theorem rowH_ones (l : List Ver) : ∀ u ∈ rowH l, u.oneCell' = true := fun u hu => by
  obtain ⟨x, _, h⟩ := List.mem_flatMap.1 hu
  exact rowH_one u x h

theorem rowH_at (l : List Ver) (k : Nat) (hk : k < l.length) (j : Nat) (hj : j < 7) : (rowH l)[k * 7 + j]? = (verC l[k])[j]? := by
  unfold rowH
  induction l generalizing k with
  | nil => cases hk
  | cons x l ih =>
    have hx : (verC x).length = 7 := rfl
    rw [List.flatMap_cons]
    cases k with
    | zero => rw [List.getElem?_append_left (by omega)]; simp
    | succ k =>
      rw [List.getElem?_append_right (by omega), hx, show (k + 1) * 7 + j - 7 = k * 7 + j by omega, ih k (by simpa using hk)]
      rfl

/-- Versions that can be read. -/
def Vers (w : World) (A : Option Addr) (len : Nat) (l : List Ver) : Prop :=
  l.length = len ∧ (0 < len → ∃ g off, A = some ⟨g, off, none⟩ ∧ g < w.heap.size ∧ ∀ k (hk : k < l.length), w.cell? ⟨g, off + k * 7, none⟩ = some (.int .i64 l[k].r) ∧ w.cell? ⟨g, off + k * 7 + 1, none⟩ = some (.int .i64 l[k].k) ∧ w.cell? ⟨g, off + k * 7 + 2, none⟩ = some (.int .i64 l[k].m) ∧ w.cell? ⟨g, off + k * 7 + 3, none⟩ = some (.int .i64 l[k].v) ∧
    w.cell? ⟨g, off + k * 7 + 4, none⟩ = some (.string l[k].s) ∧ w.cell? ⟨g, off + k * 7 + 5, none⟩ = some (.int .i64 l[k].l) ∧ w.cell? ⟨g, off + k * 7 + 6, none⟩ = some (.bool l[k].g))

section
variable {w w' : World} {A : Option Addr} {len cap : Nat} {l : List Ver}

theorem Vers.keep (h : Vers w A len l) (hs : w.heap.size ≤ w'.heap.size) (hk : ∀ q, blk A q → q < w.heap.size → w'.heap[q]? = w.heap[q]?) : Vers w' A len l := ⟨h.1, fun h0 => by
  obtain ⟨g, off, e, hg, hc⟩ := h.2 h0
  have hx : ∀ o, w'.cell? ⟨g, o, none⟩ = w.cell? ⟨g, o, none⟩ := fun o => World.cell?_of_block (hk g ⟨off, e⟩ hg)
  refine ⟨g, off, e, Nat.lt_of_lt_of_le hg hs, fun k hk => ?_⟩
  rw [hx, hx, hx, hx, hx, hx, hx]
  exact hc k hk⟩

theorem Vers.below (h : Vers w A len l) (hb : Below w.heap.size w w') : Vers w' A len l := h.keep hb.size fun q _ hq => hb.block q hq

theorem Vers.nil (w : World) (A : Option Addr) : Vers w A 0 [] := ⟨rfl, fun h => absurd h (Nat.lt_irrefl _)⟩

theorem Sp.vers {n : Nat} (h : Sp 26 7 w A n cap (rowH l)) : Vers w A n l := by
  have hl : l.length = n := by
    have := h.1
    rw [rowH_len] at this
    omega
  refine ⟨hl, fun h0 => ?_⟩
  obtain ⟨g, off, e, hg, _⟩ := h.at_ (by omega) 0 h0
  refine ⟨g, off, e, hg, fun k hk => ?_⟩
  obtain ⟨g', off', e', _, hc, _⟩ := h.at_ (by omega) k (by omega)
  rw [e] at e'
  injection e' with e'
  injection e' with e1 e2
  subst e1 e2
  have hx : ∀ j (hj : j < 7) u, (verC l[k])[j]? = some u → w.cell? ⟨g, off + k * 7 + j, none⟩ = some u := fun j hj u hu => hc j hj u (by rw [rowH_at l k hk j hj]; exact hu)
  exact ⟨hx 0 (by omega) _ rfl, hx 1 (by omega) _ rfl, hx 2 (by omega) _ rfl, hx 3 (by omega) _ rfl, hx 4 (by omega) _ rfl, hx 5 (by omega) _ rfl, hx 6 (by omega) _ rfl⟩

/-- Its cells, one behind the other. -/
theorem Vers.cells (h : Vers w A len l) {a : Addr} (e : A = some a) : ∀ j u, (rowH l)[j]? = some u → w.cell? (a.add j) = some u := fun j u hu => by
  have hj : j < (rowH l).length := (List.getElem?_eq_some_iff.1 hu).1
  rw [rowH_len] at hj
  obtain ⟨g, off, e', _, hc⟩ := h.2 (by have := h.1; omega)
  rw [e] at e'
  injection e' with e'
  subst e'
  rw [Addr.add_lit]
  have hk : j / 7 < l.length := by omega
  have hm : j % 7 < 7 := Nat.mod_lt _ (by omega)
  have hjm : j = j / 7 * 7 + j % 7 := by omega
  obtain ⟨c0, c1, c2, c3, c4, c5, c6⟩ := hc (j / 7) hk
  rw [hjm, rowH_at l (j / 7) hk (j % 7) hm] at hu
  have h7 : j % 7 = 0 ∨ j % 7 = 1 ∨ j % 7 = 2 ∨ j % 7 = 3 ∨ j % 7 = 4 ∨ j % 7 = 5 ∨ j % 7 = 6 := by omega
  rw [hjm, ← Nat.add_assoc]
  generalize j / 7 = k at *
  rcases h7 with h7 | h7 | h7 | h7 | h7 | h7 | h7 <;> rw [h7] at hu ⊢ <;> injection hu with hu <;> subst hu <;> assumption
end

end Go.Proofs.Ytmihijlegacjdaa
