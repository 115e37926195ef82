/- Entries, what is hard, snaps that a law is called with. -/
import Derived.Test.YtlojjodgoeclfaaEnts
import Derived.SizedLaws
import Derived.Lib.SmallJoins
namespace Go.Proofs.Ytlojjodgoeclfaa
open Go.ChangeShapes Go.WideShapes Go.ChangeAt Go.RowKit Go.Deep
set_option linter.unusedVariables false
set_option linter.unusedSimpArgs false

section
variable {H : Type} {enc : TypeId × Value → H} {P : Program} {W : World} {sp : Nat → Bool} {hd : Bool}

/-- A slice of structs: each element's cells, its reading, that what it leads to is old, and what the slice reads as. -/
theorem arg_slice_all {t e : TypeId} {C base : Nat} {v : Value} {d : DataW H} {p : List MemPlace} (ht : P.underlying t = some (.slice e)) (hC : P.cellsOf e = C) (h0 : 0 < C)
    (hok : Value.okWide P W .any base t v) (h : DataW.Trod enc P W 0 sp hd t v d p) (hlt : ∀ x ∈ p, x.block < W.heap.size) :
    ∃ (A : Option Addr) (len cap n : Nat) (Cs : Nat → List Value) (D : Nat → DataW H), v = .slice A len cap ∧ len ≤ cap ∧ cap ≤ maxLen ∧ (A = none → cap = 0) ∧ (d = .nil ∧ len = 0 ∨ ∃ rest, d = .slice ((List.range len).map D) rest) ∧
      (0 < len → ∃ b off, A = some ⟨b, off, none⟩ ∧ b < W.heap.size ∧ ∀ j, j < len → ∀ i u, (Cs j)[i]? = some u → W.cell? ⟨b, off + j * C + i, none⟩ = some u) ∧
      ∀ j, j < len → (Cs j).length = C ∧ ∃ pl, DataW.trod enc P W 0 sp hd n e (Cs j) = some (D j, pl) ∧ ∀ x ∈ pl, x.block < W.heap.size := by
  obtain ⟨A, len, cap, rfl⟩ := okWide_slice ht hok
  obtain ⟨fuel, hf⟩ := h
  rcases open_slice ht hf with ⟨hcs, hx⟩ | ⟨a, len', cap', m, n, D, Pl, hcs, hb, hl, hm, hmm, hx, hi⟩
  · simp [Value.cells] at hcs
    obtain ⟨rfl, rfl, rfl⟩ := hcs
    simp only [Prod.mk.injEq] at hx
    exact ⟨none, 0, 0, 0, fun _ => [], fun _ => .nil, rfl, Nat.le_refl _, Nat.zero_le _, fun _ => rfl, .inl ⟨hx.1, rfl⟩, fun h => absurd h (by omega), fun j hj => absurd hj (by omega)⟩
  · simp [Value.cells] at hcs
    obtain ⟨rfl, rfl, rfl⟩ := hcs
    simp only [Prod.mk.injEq] at hx
    have hlm : len ≤ m := by rw [hmm]; split <;> omega
    obtain ⟨Cs, hCs⟩ := Classical.axiomOfChoice (r := fun i cs' => i < m → W.cells? 0 (a.add (i * P.cellsOf e)) (P.cellsOf e) = some cs' ∧ DataW.trod enc P W 0 sp hd n e cs' = some (D i, Pl i)) (fun i => by
      by_cases him : i < m
      · obtain ⟨cs', h1, h2⟩ := hi i him
        exact ⟨cs', fun _ => ⟨h1, h2⟩⟩
      · exact ⟨[], fun h => absurd h him⟩)
    rw [hC] at hCs
    refine ⟨some a, len, cap, n, Cs, D, rfl, hl, hm, (fun h => by cases h), .inr ⟨_, hx.1⟩, fun hpos => ?_, fun j hj => ?_⟩
    · have hcell : ∀ j, j < len → ∀ i u, (Cs j)[i]? = some u → W.cell? (a.add (j * C + i)) = some u := fun j hj i u hu => by
        obtain ⟨hc, _⟩ := hCs j (by omega)
        obtain ⟨_, hcl, hat⟩ := World.cells?_some hc
        have hic : i < C := by
          rcases Nat.lt_or_ge i (Cs j).length with h1 | h1
          · omega
          · rw [List.getElem?_eq_none h1] at hu; cases hu
        have := hat i hic
        rw [add_two] at this
        rw [this, hu]
      obtain ⟨b, off, spot⟩ := a
      obtain ⟨hc0, _⟩ := hCs 0 (by omega)
      obtain ⟨_, hcl0, _⟩ := World.cells?_some hc0
      have g0 : (Cs 0)[0]? = some ((Cs 0)[0]'(by omega)) := List.getElem?_eq_getElem (by omega)
      have hspot : spot = none := by simpa [Addr.add] using World.cell?_spot (hcell 0 hpos 0 _ g0)
      subst hspot
      refine ⟨b, off, rfl, ?_, fun j hj i u hu => ?_⟩
      · have hin : MemPlace.cell b off ∈ p := by
          rw [hx.2]
          refine List.mem_append_left _ (MemPlace.mem_row.2 ⟨0, ?_, by simp⟩)
          rw [hC]; exact Nat.mul_pos (by omega) h0
        exact hlt _ hin
      · have := hcell j hj i u hu
        rw [add_here, ← Nat.add_assoc] at this
        exact this
    · obtain ⟨hc, hdt⟩ := hCs j (by omega)
      obtain ⟨_, hcl, _⟩ := World.cells?_some hc
      exact ⟨hcl, Pl j, hdt, fun x hx' => hlt x (by rw [hx.2]; exact List.mem_append_right _ (List.mem_flatMap.2 ⟨j, by simp; omega, hx'⟩))⟩

theorem weightsAll_mem {e : TypeId} {d : DataW H} {n : Nat} (hn : n ∈ d.weights P e) : ∀ {l : List (DataW H)}, d ∈ l → n ∈ DataW.weightsAll P e l
  | x :: l, h => by
    simp only [DataW.weightsAll, List.mem_append]
    rcases List.mem_cons.1 h with rfl | h
    · exact .inl hn
    · exact .inr (weightsAll_mem hn h)

theorem weights_elem {t e : TypeId} {elems spare : List (DataW H)} {d : DataW H} {n : Nat} (ht : P.underlying t = some (.slice e)) (hd : d ∈ elems) (hn : n ∈ d.weights P e) : n ∈ (DataW.slice elems spare).weights P t := by
  simp only [DataW.weights, ht, List.mem_cons, List.mem_append]
  exact .inr (.inl (weightsAll_mem hn hd))

/-- How long bytes may be. -/
theorem bytes_reach {A : Option Addr} {len cap m : Nat} {y : DataW H × List MemPlace} (hy : DataW.trod enc Try.prog W 0 sp hd m 23 [.slice A len cap] = some y) (hw : ∀ n ∈ y.1.weights Try.prog 23, n ≤ reachBytes) : len ≤ 140737488355328 := by
  rcases arg_bytes_len (d := y.1) (p := y.2) ⟨m, by simpa [Value.cells] using hy⟩ with h | ⟨el, sr, e, hel⟩
  · omega
  · have := hw ((el.length + sr.length) * Try.prog.bytesOf 5) (by rw [e]; simp [DataW.weights, Try.underlying23])
    rw [show Try.prog.bytesOf 5 = 1 by kernel_rfl] at this
    simp only [reachBytes] at this
    omega

/-- What three cells are, read as an entry. -/
def EntAt (W : World) (C : List Value) (e : Ent) : Prop :=
  ∃ A c, C = [.int .i64 e.i, .int .i64 e.t, .slice A e.d.length c] ∧ c ≤ maxLen ∧ Lies W A e.d.length c e.d ∧ (0 < e.d.length → ∀ a, A = some a → a.block < W.heap.size)

set_option maxRecDepth 100000 in
/-- A slice of entries. -/
theorem arg_ents {base : Nat} {v : Value} {d : DataW H} {p : List MemPlace}
    (hok : Value.okWide Try.prog W .any base 22 v) (h : DataW.Trod enc Try.prog W 0 sp hd 22 v d p) (hlt : ∀ x ∈ p, x.block < W.heap.size) :
    ∃ (A : Option Addr) (len cap : Nat) (ls : List Ent), v = .slice A len cap ∧ cap ≤ maxLen ∧ Ents W (· < W.heap.size) A len cap ls ∧ ((∀ n ∈ d.weights Try.prog 22, n ≤ reachBytes) → ∀ e ∈ ls, e.d.length ≤ 140737488355328) := by
  obtain ⟨A, len, cap, n, Cs, D, rfl, hl, hm, hnone, hform, hrow, hel⟩ := arg_slice_all Try.underlying22 (show Try.prog.cellsOf 58 = 3 by kernel_rfl) (by omega) hok h hlt
  obtain ⟨R, hR⟩ := Classical.axiomOfChoice (r := fun j (r : Ent) => j < len → EntAt W (Cs j) r ∧ ((∀ n ∈ (D j).weights Try.prog 58, n ≤ reachBytes) → r.d.length ≤ 140737488355328)) (fun j => by
    by_cases hj : j < len
    · obtain ⟨hlen, pl, hdt, hp⟩ := hel j hj
      obtain ⟨ys, m, _, hx, _, hyl, hf⟩ := DataW.trod_struct Try.underlying58 hdt
      have hys : ys.length = 3 := hyl
      obtain ⟨m2, hfi⟩ := arg_fields_in (x := (D j, pl)) Try.underlying58 (by kernel_rfl) (by rw [hlen]; rfl) hdt hp
      obtain ⟨v0, y0, g0, t0, _⟩ := hfi 0 _ rfl
      obtain ⟨v1, y1, g1, t1, _⟩ := hfi 1 _ rfl
      obtain ⟨v2, y2, g2, t2, p2⟩ := hfi 2 _ rfl
      obtain ⟨i, e0, _, _⟩ := DataW.trod_int Try.underlying2 t0
      obtain ⟨t, e1, _, _⟩ := DataW.trod_int Try.underlying2 t1
      obtain ⟨E, el, c, r, rfl, hc, hlies, hz⟩ := in_bytes Try.underlying23 Try.underlying5 (by kernel_rfl) t2 p2
      obtain rfl : r.length = el := hlies.1
      have e0' : v0 = .int .i64 i := by injection e0
      have e1' : v1 = .int .i64 t := by injection e1
      subst e0' e1'
      have hcs : Cs j = [.int .i64 i, .int .i64 t, .slice E r.length c] := by
        match Cs j, hlen, g0, g1, g2 with
        | [a, b', c'], _, g0, g1, g2 =>
          injection g0 with g0; injection g1 with g1; injection g2 with g2
          subst g0 g1 g2
          rfl
      refine ⟨⟨i, t, r⟩, fun _ => ⟨⟨E, c, ?_, hc, hlies, hz⟩, fun hw => ?_⟩⟩
      · exact hcs
      · have h2 : DataW.trod enc Try.prog W 0 sp hd m 23 (List.take (Try.prog.cellsOf 23) [.slice E r.length c]) = ys[2]? := by
          have := hf 2 _ rfl
          rw [hcs] at this
          exact this
        have hD : D j = .agg (ys.map (·.1)) := congrArg Prod.fst hx
        rw [show Try.prog.cellsOf 23 = 1 by kernel_rfl] at h2
        have h2' : DataW.trod enc Try.prog W 0 sp hd m 23 [.slice E r.length c] = some (ys[2]'(by omega)) := by rw [← List.getElem?_eq_getElem]; exact h2
        refine bytes_reach h2' fun n hn => hw n ?_
        rw [hD]
        simp only [DataW.weights, Try.underlying58]
        exact DataW.weights_mem_each (j := 2) (t := 23) (d := (ys[2]'(by omega)).1) rfl (by rw [List.getElem?_map, List.getElem?_eq_getElem (by omega)]; rfl) n hn
    · exact ⟨⟨0, 0, []⟩, fun h => absurd h hj⟩)
  refine ⟨A, len, cap, (List.range len).map R, rfl, hm, ⟨by simp, hl, hnone, fun hpos => ?_⟩, fun hw e he => ?_⟩
  · obtain ⟨g, off, e, hg, hc⟩ := hrow hpos
    refine ⟨g, off, e, hg, hg, fun j hj => ?_⟩
    have hj' : j < len := by simpa using hj
    obtain ⟨E, c, e1, e2, e3, e4⟩ := (hR j hj').1
    simp only [List.getElem_map, List.getElem_range]
    refine ⟨E, c, ?_, hc j hj' 1 _ (by rw [e1]; rfl), hc j hj' 2 _ (by rw [e1]; rfl), Nat.le_refl _, e3, fun h0 q o eq => e4 h0 _ eq⟩
    have := hc j hj' 0 (.int .i64 (R j).i) (by rw [e1]; rfl)
    rwa [Nat.add_zero] at this
  · obtain ⟨j, hj, rfl⟩ := List.mem_map.1 he
    have hj' : j < len := by simpa using hj
    refine (hR j hj').2 fun n hn => hw n ?_
    rcases hform with ⟨_, h0⟩ | ⟨rest, rfl⟩
    · omega
    · exact weights_elem Try.underlying22 (List.mem_map.2 ⟨j, hj, rfl⟩) hn

set_option maxRecDepth 100000 in
/-- An entry, or a snap. -/
theorem arg_ent {T : TypeId} {f0 f1 f2 : Field} {base : Nat} {v : Value} {d : DataW H} {p : List MemPlace} (hs : Try.prog.underlying T = some (.struct #[f0, f1, f2])) (hone : oneCellFields Try.prog #[f0, f1, f2] = true) (hC : Try.prog.cellsOf T = 3)
    (h0 : f0.type = 2) (h1 : f1.type = 2) (h2 : f2.type = 23)
    (hok : Value.okWide Try.prog W .any base T v) (h : DataW.Trod enc Try.prog W 0 sp hd T v d p) (hlt : ∀ x ∈ p, x.block < W.heap.size) :
    ∃ i t A n c l, v = .agg #[.int .i64 i, .int .i64 t, .slice A n c] ∧ c ≤ maxLen ∧ Lies W A n c l ∧ (0 < n → ∀ g off, A = some ⟨g, off, none⟩ → g < W.heap.size) := by
  obtain ⟨v0, v1, v2, y0, y1, y2, m, rfl, _, rfl, t0, t1, t2⟩ := Joins.open_agg3 hs hone hC hok h
  rw [h0] at t0
  rw [h1] at t1
  rw [h2] at t2
  obtain ⟨i, e0, _, _⟩ := DataW.trod_int Try.underlying2 t0
  obtain ⟨t, e1, _, _⟩ := DataW.trod_int Try.underlying2 t1
  obtain ⟨E, el, c, r, rfl, hc, hlies, hz⟩ := in_bytes Try.underlying23 Try.underlying5 (by kernel_rfl) t2 (fun q hq => hlt q (by simp [hq]))
  have e0' : v0 = .int .i64 i := by injection e0
  have e1' : v1 = .int .i64 t := by injection e1
  subst e0' e1'
  exact ⟨i, t, E, el, c, r, rfl, hc, hlies, fun h0 g off e => hz h0 _ e⟩

end

end Go.Proofs.Ytlojjodgoeclfaa
