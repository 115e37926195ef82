/- Records in memory: a slice of slices of bytes. -/
import Derived.Test.YtnkfdnehkihbeaaBytArgs
import Derived.Test.YtnkfdnehkihbeaaWalPure
namespace Go.Proofs.Ytnkfdnehkihbeaa
open Go.RowKit
set_option linter.unusedVariables false
set_option linter.unusedSimpArgs false

/-- A record in memory; its bytes lie in Z. -/
def Rec1 (w : World) (Z : Nat → Prop) (v : Value) (l : List UInt8) : Prop :=
  ∃ E c, v = .slice E l.length c ∧ c ≤ maxLen ∧ Lies w E l.length c l ∧ (0 < l.length → ∀ g off, E = some ⟨g, off, none⟩ → Z g)

/-- A slice of records that reads as these; all of it lies in Z. -/
def Recs (w : World) (Z : Nat → Prop) (A : Option Addr) (len cap : Nat) (ls : List (List UInt8)) : Prop :=
  ls.length = len ∧ len ≤ cap ∧ (A = none → cap = 0) ∧ (0 < len → ∃ g off, A = some ⟨g, off, none⟩ ∧ g < w.heap.size ∧ Z g ∧
    ∀ j (hj : j < ls.length), ∃ v, w.cell? ⟨g, off + j, none⟩ = some v ∧ Rec1 w Z v ls[j])

section
variable {w w' : World} {Z Z' : Nat → Prop} {v : Value} {l : List UInt8} {A : Option Addr} {len cap : Nat} {ls : List (List UInt8)}

theorem Rec1.keep (h : Rec1 w Z v l) (hs : w.heap.size ≤ w'.heap.size) (hk : ∀ k, k < w.heap.size → Z k → w'.heap[k]? = w.heap[k]?) : Rec1 w' Z v l := by
  obtain ⟨E, c, e, hc, hl, hz⟩ := h
  exact ⟨E, c, e, hc, hl.keep hs fun h0 g off e hg => hk g hg (hz h0 g off e), hz⟩

theorem Rec1.mono (h : Rec1 w Z v l) (hz : ∀ k, Z k → Z' k) : Rec1 w Z' v l := by
  obtain ⟨E, c, e, hc, hl, hz'⟩ := h
  exact ⟨E, c, e, hc, hl, fun h0 g off e => hz _ (hz' h0 g off e)⟩

theorem Recs.keep (h : Recs w Z A len cap ls) (hs : w.heap.size ≤ w'.heap.size) (hk : ∀ k, k < w.heap.size → Z k → w'.heap[k]? = w.heap[k]?) : Recs w' Z A len cap ls := by
  refine ⟨h.1, h.2.1, h.2.2.1, fun h0 => ?_⟩
  obtain ⟨g, off, e, hg, hz, hc⟩ := h.2.2.2 h0
  refine ⟨g, off, e, Nat.lt_of_lt_of_le hg hs, hz, fun j hj => ?_⟩
  obtain ⟨v, hv, hr⟩ := hc j hj
  exact ⟨v, (World.cell?_of_block (w := w) (hk g hg hz)).trans hv, hr.keep hs hk⟩

theorem Recs.mono (h : Recs w Z A len cap ls) (hz : ∀ k, Z k → Z' k) : Recs w Z' A len cap ls := by
  refine ⟨h.1, h.2.1, h.2.2.1, fun h0 => ?_⟩
  obtain ⟨g, off, e, hg, hz', hc⟩ := h.2.2.2 h0
  refine ⟨g, off, e, hg, hz _ hz', fun j hj => ?_⟩
  obtain ⟨v, hv, hr⟩ := hc j hj
  exact ⟨v, hv, hr.mono hz⟩

theorem Recs.below (h : Recs w Z A len cap ls) {B : Nat} (hb : Below B w w') (hB : w.heap.size ≤ B) : Recs w' Z A len cap ls :=
  h.keep hb.size fun k hk _ => hb.block k (Nat.lt_of_lt_of_le hk hB)

theorem Recs.keeps (h : Recs w Z A len cap ls) {Y : Nat → Prop} (hk : Keeps Y w w') (hz : ∀ k, Z k → Y k) : Recs w' Z A len cap ls :=
  h.keep hk.size fun k hk' hz' => hk.block k hk' (hz k hz')

theorem Recs.nil (w : World) (Z : Nat → Prop) : Recs w Z none 0 0 [] := ⟨rfl, Nat.le_refl _, fun _ => rfl, fun h => absurd h (by omega)⟩

theorem Recs.at_ (h : Recs w Z A len cap ls) (j : Nat) (hj : j < len) : ∃ g off E c, A = some ⟨g, off, none⟩ ∧ g < w.heap.size ∧ Z g ∧ w.cell? ⟨g, off + j, none⟩ = some (.slice E (ls[j]'(by rw [h.1]; exact hj)).length c) ∧ c ≤ maxLen ∧
    Lies w E (ls[j]'(by rw [h.1]; exact hj)).length c (ls[j]'(by rw [h.1]; exact hj)) := by
  obtain ⟨g, off, e, hg, hz, hc⟩ := h.2.2.2 (by omega)
  obtain ⟨v, hv, E, c, rfl, hm, hl, _⟩ := hc j (by rw [h.1]; exact hj)
  exact ⟨g, off, E, c, e, hg, hz, hv, hm, hl⟩

/-- One record in a block of its own. -/
theorem Recs.one (w : World) (Z : Nat → Prop) (E : Option Addr) (n c : Nat) (l : List UInt8) (T : TypeId) (fr : Nat × Nat) (hn : n = l.length) (hc : c ≤ maxLen) (h : Lies w E n c l) (hz : 0 < n → ∀ g off, E = some ⟨g, off, none⟩ → Z g) (hZ : Z w.heap.size) :
    Recs (w.alloc (.cells #[.slice E n c] T fr)) Z (some ⟨w.heap.size, 0, none⟩) 1 1 [l] := by
  subst hn
  refine ⟨rfl, Nat.le_refl _, (fun h => by cases h), fun _ => ⟨w.heap.size, 0, rfl, by simp, hZ, fun j hj => ?_⟩⟩
  obtain rfl : j = 0 := by simpa using hj
  refine ⟨_, (cell_of_row _ _ _ _ _ _ (heap_alloc_new w _)).trans rfl, E, c, rfl, hc, h.below ((Below.refl w.heap.size w).alloc (Nat.le_refl _) _) (Nat.le_refl _), hz⟩
end

/-- How long frames are. -/
theorem framesL_len (l : List (List UInt8)) (h : fit l) : (framesL l).length ≤ l.length * 60008 := by
  induction l with
  | nil => simp [framesL]
  | cons r l ih =>
    obtain ⟨h1, h2⟩ := fit_cons h
    have := ih h2
    rw [framesL_cons, List.length_append, frameL_length, List.length_cons]
    omega

theorem framesL_take (l : List (List UInt8)) (k : Nat) (h : k < l.length) : framesL (l.take (k + 1)) = framesL (l.take k) ++ frameL l[k] := by
  rw [List.take_succ_eq_append_getElem h, framesL_app]
  simp [framesL]

theorem fit_take {l : List (List UInt8)} (h : fit l) (k : Nat) : fit (l.take k) := fun r hr => h r (List.mem_of_mem_take hr)
theorem fit_at {l : List (List UInt8)} (h : fit l) (k : Nat) (hk : k < l.length) : l[k].length ≤ 60000 := h _ (List.getElem_mem hk)
theorem fit_app {a b : List (List UInt8)} (ha : fit a) (hb : fit b) : fit (a ++ b) := fun r hr => (List.mem_append.1 hr).elim (ha r) (hb r)

instance (l : List (List UInt8)) : Decidable (fit l) := by unfold fit; infer_instance

end Go.Proofs.Ytnkfdnehkihbeaa
