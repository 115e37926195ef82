/- Slices that a law is called with: their cells, as the walk wants them. -/
import Derived.WalkKit
import Derived.ProofKit
import Derived.OpenShut
import Derived.Deep.Slices
import Derived.ChangeArms
import Derived.Deep.Fields
namespace Go.Proofs.Ytmihijlegacjdaa
open Go.ChangeShapes Go.WideShapes Go.ChangeAt Go.RowKit Go.Deep

section
variable {H : Type} {enc : TypeId × Value → H} {P : Program} {W : World} {sp : Nat → Bool} {hd : Bool}

theorem add_two (a : Addr) (i j : Nat) : (a.add i).add j = a.add (i + j) := by
  unfold Addr.add
  by_cases hi : i = 0 <;> by_cases hj : j = 0 <;> simp [hi, hj, Nat.add_assoc]

theorem add_here (b off n : Nat) : (⟨b, off, none⟩ : Addr).add n = ⟨b, off + n, none⟩ := by
  unfold Addr.add
  by_cases hn : n = 0 <;> simp [hn]

/-- A slice: nil, or its elements' cells lie in a row. -/
theorem arg_slice {t e : TypeId} {C base : Nat} {v : Value} {d : DataW H} {p : List MemPlace} (ht : P.underlying t = some (.slice e)) (hC : P.cellsOf e = C) (h0 : 0 < C)
    (hok : Value.okWide P W .any base t v) (h : DataW.Trod enc P W 0 sp hd t v d p) (hlt : ∀ x ∈ p, x.block < W.heap.size) :
    ∃ (A : Option Addr) (len cap n : Nat) (Cs : Nat → List Value) (D : Nat → DataW H), v = .slice A len cap ∧ len ≤ cap ∧ cap ≤ maxLen ∧ (d = .nil ∧ len = 0 ∨ ∃ rest, d = .slice ((List.range len).map D) rest) ∧
      (0 < len → ∃ b off, A = some ⟨b, off, none⟩ ∧ b < W.heap.size ∧ ∀ j, j < len → ∀ i u, (Cs j)[i]? = some u → W.cell? ⟨b, off + j * C + i, none⟩ = some u) ∧
      ∀ j, j < len → (Cs j).length = C ∧ ∃ pl, DataW.trod enc P W 0 sp hd n e (Cs j) = some (D j, pl) := by
  obtain ⟨A, len, cap, rfl⟩ := okWide_slice ht hok
  obtain ⟨fuel, hf⟩ := h
  rcases open_slice ht hf with ⟨hcs, hx⟩ | ⟨a, len', cap', m, n, D, Pl, hcs, hb, hl, hm, hmm, hx, hi⟩
  · simp [Value.cells] at hcs
    obtain ⟨rfl, rfl, rfl⟩ := hcs
    simp only [Prod.mk.injEq] at hx
    exact ⟨none, 0, 0, 0, fun _ => [], fun _ => .nil, rfl, Nat.le_refl _, Nat.zero_le _, .inl ⟨hx.1, rfl⟩, fun h => absurd h (by omega), fun j hj => absurd hj (by omega)⟩
  · simp [Value.cells] at hcs
    obtain ⟨rfl, rfl, rfl⟩ := hcs
    simp only [Prod.mk.injEq] at hx
    have hlm : len ≤ m := by rw [hmm]; split <;> omega
    obtain ⟨Cs, hCs⟩ := Classical.axiomOfChoice (r := fun i cs' => i < m → W.cells? 0 (a.add (i * P.cellsOf e)) (P.cellsOf e) = some cs' ∧ DataW.trod enc P W 0 sp hd n e cs' = some (D i, Pl i)) (fun i => by
      by_cases him : i < m
      · obtain ⟨cs', h1, h2⟩ := hi i him
        exact ⟨cs', fun _ => ⟨h1, h2⟩⟩
      · exact ⟨[], fun h => absurd h him⟩)
    rw [hC] at hCs
    refine ⟨some a, len, cap, n, Cs, D, rfl, hl, hm, .inr ⟨_, hx.1⟩, fun hpos => ?_, fun j hj => ?_⟩
    · have hcell : ∀ j, j < len → ∀ i u, (Cs j)[i]? = some u → W.cell? (a.add (j * C + i)) = some u := fun j hj i u hu => by
        obtain ⟨hc, _⟩ := hCs j (by omega)
        obtain ⟨_, hcl, hat⟩ := World.cells?_some hc
        have hic : i < C := by
          rcases Nat.lt_or_ge i (Cs j).length with h1 | h1
          · omega
          · rw [List.getElem?_eq_none h1] at hu; cases hu
        have := hat i hic
        rw [add_two] at this
        rw [this, hu]
      obtain ⟨b, off, spot⟩ := a
      obtain ⟨hc0, _⟩ := hCs 0 (by omega)
      obtain ⟨_, hcl0, _⟩ := World.cells?_some hc0
      have g0 : (Cs 0)[0]? = some ((Cs 0)[0]'(by omega)) := List.getElem?_eq_getElem (by omega)
      have hspot : spot = none := by simpa [Addr.add] using World.cell?_spot (hcell 0 hpos 0 _ g0)
      subst hspot
      refine ⟨b, off, rfl, ?_, fun j hj i u hu => ?_⟩
      · have hin : MemPlace.cell b off ∈ p := by
          rw [hx.2]
          refine List.mem_append_left _ (MemPlace.mem_row.2 ⟨0, ?_, by simp⟩)
          rw [hC]; exact Nat.mul_pos (by omega) h0
        exact hlt _ hin
      · have := hcell j hj i u hu
        rw [add_here, ← Nat.add_assoc] at this
        exact this
    · obtain ⟨hc, hdt⟩ := hCs j (by omega)
      obtain ⟨_, hcl, _⟩ := World.cells?_some hc
      exact ⟨hcl, Pl j, hdt⟩

/-- A slice of strings. -/
theorem arg_strings {t e : TypeId} {base : Nat} {v : Value} {d : DataW H} {p : List MemPlace} (ht : P.underlying t = some (.slice e)) (he : P.underlying e = some .string) (hC : P.cellsOf e = 1)
    (hok : Value.okWide P W .any base t v) (h : DataW.Trod enc P W 0 sp hd t v d p) (hlt : ∀ x ∈ p, x.block < W.heap.size) :
    ∃ (A : Option Addr) (len cap : Nat) (S : Nat → ByteArray), v = .slice A len cap ∧ len ≤ cap ∧ cap ≤ maxLen ∧
      (0 < len → ∃ b off, A = some ⟨b, off, none⟩ ∧ b < W.heap.size ∧ ∀ j, j < len → W.cell? ⟨b, off + j, none⟩ = some (.string (S j))) ∧ ∀ j, j < len → (S j).size ≤ maxLen := by
  obtain ⟨A, len, cap, n, Cs, D, rfl, hl, hm, _, hrow, hel⟩ := arg_slice ht hC (by omega) hok h hlt
  obtain ⟨S, hS⟩ := Classical.axiomOfChoice (r := fun j s => j < len → Cs j = [.string s] ∧ s.size ≤ maxLen) (fun j => by
    by_cases hj : j < len
    · obtain ⟨_, pl, hd⟩ := hel j hj
      obtain ⟨s, h1, _, h3⟩ := DataW.trod_string he hd
      exact ⟨s, fun _ => ⟨h1, h3⟩⟩
    · exact ⟨ByteArray.empty, fun h => absurd h hj⟩)
  refine ⟨A, len, cap, S, rfl, hl, hm, fun hpos => ?_, fun j hj => (hS j hj).2⟩
  obtain ⟨b, off, hA, hb, hc⟩ := hrow hpos
  refine ⟨b, off, hA, hb, fun j hj => ?_⟩
  have := hc j hj 0 (.string (S j)) (by rw [(hS j hj).1]; rfl)
  rwa [Nat.mul_one, Nat.add_zero] at this

/-- A slice of integers. -/
theorem arg_ints {t e : TypeId} {k : IntKind} {base : Nat} {v : Value} {d : DataW H} {p : List MemPlace} (ht : P.underlying t = some (.slice e)) (he : P.underlying e = some (.int k)) (hC : P.cellsOf e = 1)
    (hok : Value.okWide P W .any base t v) (h : DataW.Trod enc P W 0 sp hd t v d p) (hlt : ∀ x ∈ p, x.block < W.heap.size) :
    ∃ (A : Option Addr) (len cap : Nat) (Z : Nat → Int), v = .slice A len cap ∧ len ≤ cap ∧ cap ≤ maxLen ∧
      (0 < len → ∃ b off, A = some ⟨b, off, none⟩ ∧ b < W.heap.size ∧ ∀ j, j < len → W.cell? ⟨b, off + j, none⟩ = some (.int k (Z j))) ∧ ∀ j, j < len → (Lit.int k (Z j)).wf = true := by
  obtain ⟨A, len, cap, n, Cs, D, rfl, hl, hm, _, hrow, hel⟩ := arg_slice ht hC (by omega) hok h hlt
  obtain ⟨S, hS⟩ := Classical.axiomOfChoice (r := fun j z => j < len → Cs j = [.int k z] ∧ (Lit.int k z).wf = true) (fun j => by
    by_cases hj : j < len
    · obtain ⟨_, pl, hd⟩ := hel j hj
      obtain ⟨s, h1, _, h3⟩ := DataW.trod_int he hd
      exact ⟨s, fun _ => ⟨h1, h3⟩⟩
    · exact ⟨0, fun h => absurd h hj⟩)
  refine ⟨A, len, cap, S, rfl, hl, hm, fun hpos => ?_, fun j hj => (hS j hj).2⟩
  obtain ⟨b, off, hA, hb, hc⟩ := hrow hpos
  refine ⟨b, off, hA, hb, fun j hj => ?_⟩
  have := hc j hj 0 (.int k (S j)) (by rw [(hS j hj).1]; rfl)
  rwa [Nat.mul_one, Nat.add_zero] at this
/-- A struct of one-cell fields: each field's cell, and how it reads. -/
theorem arg_fields {e : TypeId} {fs : Array Field} {n base : Nat} {cs : List Value} {x : DataW H × List MemPlace} (he : P.underlying e = some (.struct fs)) (hone : oneCellFields P fs = true) (hl : cs.length = fs.size)
    (h : DataW.trod enc P W base sp hd n e cs = some x) : ∃ m, ∀ (j : Nat) (f : Field), fs[j]? = some f → ∃ v y, cs[j]? = some v ∧ DataW.trod enc P W base sp hd m f.type [v] = some y := by
  obtain ⟨ys, m, _, _, _, hyl, hf⟩ := DataW.trod_struct he h
  refine ⟨m, fun j f hj => ?_⟩
  obtain ⟨ho, hk⟩ := hone_of hone j f hj
  have hjl : j < fs.size := (Array.getElem?_eq_some_iff.1 hj).1
  have h1 := hf j f hj
  rw [ho, hk, List.drop_eq_getElem_cons (by omega)] at h1
  have h2 : DataW.trod enc P W base sp hd m f.type [cs[j]'(by omega)] = ys[j]? := h1
  rw [List.getElem?_eq_getElem (by omega)] at h2
  exact ⟨_, _, List.getElem?_eq_getElem (by omega), h2⟩
end

end Go.Proofs.Ytmihijlegacjdaa
