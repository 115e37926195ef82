/- The acts that a law is called with. -/
import Derived.Test.YtlanjlboipnpfaaEntArgs
import Derived.Test.YtlanjlboipnpfaaLogDo
namespace Go.Proofs.Ytlanjlboipnpfaa
open Go.ChangeShapes Go.WideShapes Go.ChangeAt Go.RowKit Go.Deep
set_option linter.unusedVariables false
set_option linter.unusedSimpArgs false

section
variable {H : Type} {enc : TypeId × Value → H} {P : Program} {W : World} {sp : Nat → Bool} {hd : Bool}

/-- A slice of structs: each element's cells, its reading, that what it leads to is old, and what the slice reads as. -/
theorem slice_lit {t e : TypeId} {C : Nat} {A : Option Addr} {len cap : Nat} {d : DataW H} {p : List MemPlace} (ht : P.underlying t = some (.slice e)) (hC : P.cellsOf e = C) (h0 : 0 < C)
    (h : DataW.Trod enc P W 0 sp hd t (.slice A len cap) d p) (hlt : ∀ x ∈ p, x.block < W.heap.size) :
    ∃ (n : Nat) (Cs : Nat → List Value) (D : Nat → DataW H), len ≤ cap ∧ cap ≤ maxLen ∧ (A = none → cap = 0) ∧ (d = .nil ∧ len = 0 ∨ ∃ rest, d = .slice ((List.range len).map D) rest) ∧
      (0 < len → ∃ b off, A = some ⟨b, off, none⟩ ∧ b < W.heap.size ∧ ∀ j, j < len → ∀ i u, (Cs j)[i]? = some u → W.cell? ⟨b, off + j * C + i, none⟩ = some u) ∧
      ∀ j, j < len → (Cs j).length = C ∧ ∃ pl, DataW.trod enc P W 0 sp hd n e (Cs j) = some (D j, pl) ∧ ∀ x ∈ pl, x.block < W.heap.size := by
  obtain ⟨fuel, hf⟩ := h
  rcases open_slice ht hf with ⟨hcs, hx⟩ | ⟨a, len', cap', m, n, D, Pl, hcs, hb, hl, hm, hmm, hx, hi⟩
  · simp [Value.cells] at hcs
    obtain ⟨rfl, rfl, rfl⟩ := hcs
    simp only [Prod.mk.injEq] at hx
    exact ⟨0, fun _ => [], fun _ => .nil, Nat.le_refl _, Nat.zero_le _, fun _ => rfl, .inl ⟨hx.1, rfl⟩, fun h => absurd h (by omega), fun j hj => absurd hj (by omega)⟩
  · simp [Value.cells] at hcs
    obtain ⟨rfl, rfl, rfl⟩ := hcs
    simp only [Prod.mk.injEq] at hx
    have hlm : len ≤ m := by rw [hmm]; split <;> omega
    obtain ⟨Cs, hCs⟩ := Classical.axiomOfChoice (r := fun i cs' => i < m → W.cells? 0 (a.add (i * P.cellsOf e)) (P.cellsOf e) = some cs' ∧ DataW.trod enc P W 0 sp hd n e cs' = some (D i, Pl i)) (fun i => by
      by_cases him : i < m
      · obtain ⟨cs', h1, h2⟩ := hi i him
        exact ⟨cs', fun _ => ⟨h1, h2⟩⟩
      · exact ⟨[], fun h => absurd h him⟩)
    rw [hC] at hCs
    refine ⟨n, Cs, D, hl, hm, (fun h => by cases h), .inr ⟨_, hx.1⟩, fun hpos => ?_, fun j hj => ?_⟩
    · have hcell : ∀ j, j < len → ∀ i u, (Cs j)[i]? = some u → W.cell? (a.add (j * C + i)) = some u := fun j hj i u hu => by
        obtain ⟨hc, _⟩ := hCs j (by omega)
        obtain ⟨_, hcl, hat⟩ := World.cells?_some hc
        have hic : i < C := by
          rcases Nat.lt_or_ge i (Cs j).length with h1 | h1
          · omega
          · rw [List.getElem?_eq_none h1] at hu; cases hu
        have := hat i hic
        rw [add_two] at this
        rw [this, hu]
      obtain ⟨b, off, spot⟩ := a
      obtain ⟨hc0, _⟩ := hCs 0 (by omega)
      obtain ⟨_, hcl0, _⟩ := World.cells?_some hc0
      have g0 : (Cs 0)[0]? = some ((Cs 0)[0]'(by omega)) := List.getElem?_eq_getElem (by omega)
      have hspot : spot = none := by simpa [Addr.add] using World.cell?_spot (hcell 0 hpos 0 _ g0)
      subst hspot
      refine ⟨b, off, rfl, ?_, fun j hj i u hu => ?_⟩
      · have hin : MemPlace.cell b off ∈ p := by
          rw [hx.2]
          refine List.mem_append_left _ (MemPlace.mem_row.2 ⟨0, ?_, by simp⟩)
          rw [hC]; exact Nat.mul_pos (by omega) h0
        exact hlt _ hin
      · have := hcell j hj i u hu
        rw [add_here, ← Nat.add_assoc] at this
        exact this
    · obtain ⟨hc, hdt⟩ := hCs j (by omega)
      obtain ⟨_, hcl, _⟩ := World.cells?_some hc
      exact ⟨hcl, Pl j, hdt, fun x hx' => hlt x (by rw [hx.2]; exact List.mem_append_right _ (List.mem_flatMap.2 ⟨j, by simp; omega, hx'⟩))⟩

set_option maxRecDepth 100000 in
/-- A slice of entries. -/
theorem ents_lit {A : Option Addr} {len cap : Nat} {d : DataW H} {p : List MemPlace}
    (h : DataW.Trod enc Try.prog W 0 sp hd 22 (.slice A len cap) d p) (hlt : ∀ x ∈ p, x.block < W.heap.size) :
    ∃ (ls : List Ent), cap ≤ maxLen ∧ Ents W (· < W.heap.size) A len cap ls ∧ ((∀ n ∈ d.weights Try.prog 22, n ≤ reachBytes) → ∀ e ∈ ls, e.d.length ≤ 140737488355328) := by
  obtain ⟨n, Cs, D, hl, hm, hnone, hform, hrow, hel⟩ := slice_lit Try.underlying22 (show Try.prog.cellsOf 43 = 3 by kernel_rfl) (by omega) h hlt
  obtain ⟨R, hR⟩ := Classical.axiomOfChoice (r := fun j (r : Ent) => j < len → EntAt W (Cs j) r ∧ ((∀ n ∈ (D j).weights Try.prog 43, n ≤ reachBytes) → r.d.length ≤ 140737488355328)) (fun j => by
    by_cases hj : j < len
    · obtain ⟨hlen, pl, hdt, hp⟩ := hel j hj
      obtain ⟨ys, m, _, hx, _, hyl, hf⟩ := DataW.trod_struct Try.underlying43 hdt
      have hys : ys.length = 3 := hyl
      obtain ⟨m2, hfi⟩ := arg_fields_in (x := (D j, pl)) Try.underlying43 (by kernel_rfl) (by rw [hlen]; rfl) hdt hp
      obtain ⟨v0, y0, g0, t0, _⟩ := hfi 0 _ rfl
      obtain ⟨v1, y1, g1, t1, _⟩ := hfi 1 _ rfl
      obtain ⟨v2, y2, g2, t2, p2⟩ := hfi 2 _ rfl
      obtain ⟨i, e0, _, _⟩ := DataW.trod_int Try.underlying2 t0
      obtain ⟨t, e1, _, _⟩ := DataW.trod_int Try.underlying2 t1
      obtain ⟨E, el, c, r, rfl, hc, hlies, hz⟩ := in_bytes Try.underlying37 Try.underlying5 (by kernel_rfl) t2 p2
      obtain rfl : r.length = el := hlies.1
      have e0' : v0 = .int .i64 i := by injection e0
      have e1' : v1 = .int .i64 t := by injection e1
      subst e0' e1'
      have hcs : Cs j = [.int .i64 i, .int .i64 t, .slice E r.length c] := by
        match Cs j, hlen, g0, g1, g2 with
        | [a, b', c'], _, g0, g1, g2 =>
          injection g0 with g0; injection g1 with g1; injection g2 with g2
          subst g0 g1 g2
          rfl
      refine ⟨⟨i, t, r⟩, fun _ => ⟨⟨E, c, ?_, hc, hlies, hz⟩, fun hw => ?_⟩⟩
      · exact hcs
      · have h2 : DataW.trod enc Try.prog W 0 sp hd m 37 (List.take (Try.prog.cellsOf 37) [.slice E r.length c]) = ys[2]? := by
          have := hf 2 _ rfl
          rw [hcs] at this
          exact this
        have hD : D j = .agg (ys.map (·.1)) := congrArg Prod.fst hx
        rw [show Try.prog.cellsOf 37 = 1 by kernel_rfl] at h2
        have h2' : DataW.trod enc Try.prog W 0 sp hd m 37 [.slice E r.length c] = some (ys[2]'(by omega)) := by rw [← List.getElem?_eq_getElem]; exact h2
        refine bytes_reach h2' fun n hn => hw n ?_
        rw [hD]
        simp only [DataW.weights, Try.underlying43]
        exact DataW.weights_mem_each (j := 2) (t := 37) (d := (ys[2]'(by omega)).1) rfl (by rw [List.getElem?_map, List.getElem?_eq_getElem (by omega)]; rfl) n hn
    · exact ⟨⟨0, 0, []⟩, fun h => absurd h hj⟩)
  refine ⟨(List.range len).map R, hm, ⟨by simp, hl, hnone, fun hpos => ?_⟩, fun hw e he => ?_⟩
  · obtain ⟨g, off, e, hg, hc⟩ := hrow hpos
    refine ⟨g, off, e, hg, hg, fun j hj => ?_⟩
    have hj' : j < len := by simpa using hj
    obtain ⟨E, c, e1, e2, e3, e4⟩ := (hR j hj').1
    simp only [List.getElem_map, List.getElem_range]
    refine ⟨E, c, ?_, hc j hj' 1 _ (by rw [e1]; rfl), hc j hj' 2 _ (by rw [e1]; rfl), e2, e3, fun h0 q o eq => e4 h0 _ eq⟩
    have := hc j hj' 0 (.int .i64 (R j).i) (by rw [e1]; rfl)
    rwa [Nat.add_zero] at this
  · obtain ⟨j, hj, rfl⟩ := List.mem_map.1 he
    have hj' : j < len := by simpa using hj
    refine (hR j hj').2 fun n hn => hw n ?_
    rcases hform with ⟨_, h0⟩ | ⟨rest, rfl⟩
    · omega
    · exact weights_elem Try.underlying22 (List.mem_map.2 ⟨j, hj, rfl⟩) hn

/-- Within an element: a slice of entries. -/
theorem in_ents {m : Nat} {v : Value} {y : DataW H × List MemPlace} (h : DataW.trod enc Try.prog W 0 sp hd m 22 [v] = some y) (hlt : ∀ q ∈ y.2, q.block < W.heap.size) :
    ∃ (A : Option Addr) (len cap : Nat) (ls : List Ent), v = .slice A len cap ∧ cap ≤ maxLen ∧ Ents W (· < W.heap.size) A len cap ls ∧ ((∀ n ∈ y.1.weights Try.prog 22, n ≤ reachBytes) → ∀ e ∈ ls, e.d.length ≤ 140737488355328) := by
  have hv : ∃ A len cap, v = .slice A len cap := by
    rcases open_slice Try.underlying22 h with ⟨hcs, hx⟩ | ⟨a, len', cap', m, n, D, Pl, hcs, _⟩
    · simp at hcs
      exact ⟨none, 0, 0, hcs⟩
    · simp at hcs
      exact ⟨some a, len', cap', hcs⟩
  obtain ⟨A, len, cap, rfl⟩ := hv
  obtain ⟨ls, h1, h2, h3⟩ := ents_lit (d := y.1) (p := y.2) (A := A) (len := len) (cap := cap) ⟨m, by simpa [Value.cells] using h⟩ hlt
  exact ⟨A, len, cap, ls, rfl, h1, h2, h3⟩

/-- An act, as it lies in memory. -/
structure ActL where
  k : Int
  i : Int
  t : Int
  D : Option Addr
  dc : Nat
  d : List UInt8
  B : Option Addr
  m : Nat
  cB : Nat
  ms : List Ent

structure ActIn (W : World) (Z : Nat → Prop) (a : ActL) : Prop where
  dat : LayOk W Z ⟨⟨0, 0, a.d⟩, a.D, a.dc⟩
  ents : Ents W Z a.B a.m a.cB a.ms
  capB : a.cB ≤ maxLen
  kin : 0 ≤ a.k ∧ a.k < 256
  iin : -9223372036854775808 ≤ a.i ∧ a.i ≤ 9223372036854775807
  tin : -9223372036854775808 ≤ a.t ∧ a.t ≤ 9223372036854775807

/-- Acts in a row. -/
def ActsIn (W : World) (A : Option Addr) (len : Nat) (K : Nat → ActL) : Prop :=
  0 < len → ∃ g off, A = some ⟨g, off, none⟩ ∧ g < W.heap.size ∧ ∀ j, j < len → W.cell? ⟨g, off + j * 5, none⟩ = some (.int .u8 (K j).k) ∧ W.cell? ⟨g, off + j * 5 + 1, none⟩ = some (.int .i64 (K j).i) ∧ W.cell? ⟨g, off + j * 5 + 2, none⟩ = some (.int .i64 (K j).t) ∧ W.cell? ⟨g, off + j * 5 + 3, none⟩ = some (.slice (K j).D (K j).d.length (K j).dc) ∧ W.cell? ⟨g, off + j * 5 + 4, none⟩ = some (.slice (K j).B (K j).m (K j).cB)

set_option maxRecDepth 100000 in
theorem arg_acts {base : Nat} {v : Value} {d : DataW H} {p : List MemPlace}
    (hok : Value.okWide Try.prog W .any base 23 v) (h : DataW.Trod enc Try.prog W 0 sp hd 23 v d p) (hlt : ∀ x ∈ p, x.block < W.heap.size) :
    ∃ (A : Option Addr) (len cap : Nat) (K : Nat → ActL), v = .slice A len cap ∧ len ≤ cap ∧ cap ≤ maxLen ∧ ActsIn W A len K ∧ (∀ j, j < len → ActIn W (· < W.heap.size) (K j)) ∧ ((∀ n ∈ d.weights Try.prog 23, n ≤ reachBytes) → ∀ j, j < len → ∀ e ∈ (K j).ms, e.d.length ≤ 140737488355328) := by
  obtain ⟨A, len, cap, n, Cs, D, rfl, hl, hm, hnone, hform, hrow, hel⟩ := arg_slice_all Try.underlying23 (show Try.prog.cellsOf 39 = 5 by kernel_rfl) (by omega) hok h hlt
  obtain ⟨R, hR⟩ := Classical.axiomOfChoice (r := fun j (r : ActL) => j < len → (Cs j = [.int .u8 r.k, .int .i64 r.i, .int .i64 r.t, .slice r.D r.d.length r.dc, .slice r.B r.m r.cB] ∧ ActIn W (· < W.heap.size) r) ∧ ((∀ n ∈ (D j).weights Try.prog 39, n ≤ reachBytes) → ∀ e ∈ r.ms, e.d.length ≤ 140737488355328)) (fun j => by
    by_cases hj : j < len
    · obtain ⟨hlen, pl, hdt, hp⟩ := hel j hj
      obtain ⟨ys, m, _, hx, _, hyl, hf⟩ := DataW.trod_struct Try.underlying39 hdt
      have hys : ys.length = 5 := hyl
      obtain ⟨m2, hfi⟩ := arg_fields_in (x := (D j, pl)) Try.underlying39 (by kernel_rfl) (by rw [hlen]; rfl) hdt hp
      obtain ⟨v0, y0, g0, t0, _⟩ := hfi 0 _ rfl
      obtain ⟨v1, y1, g1, t1, _⟩ := hfi 1 _ rfl
      obtain ⟨v2, y2, g2, t2, _⟩ := hfi 2 _ rfl
      obtain ⟨v3, y3, g3, t3, p3⟩ := hfi 3 _ rfl
      obtain ⟨k, e0, _, hk⟩ := DataW.trod_int Try.underlying5 t0
      obtain ⟨i, e1, _, hi⟩ := DataW.trod_int Try.underlying2 t1
      obtain ⟨t, e2, _, ht⟩ := DataW.trod_int Try.underlying2 t2
      obtain ⟨E, el, c, r, rfl, hc, hlies, hz⟩ := in_bytes Try.underlying37 Try.underlying5 (by kernel_rfl) t3 p3
      obtain rfl : r.length = el := hlies.1
      have e0' : v0 = .int .u8 k := by injection e0
      have e1' : v1 = .int .i64 i := by injection e1
      have e2' : v2 = .int .i64 t := by injection e2
      subst e0' e1' e2'
      have hCs : ∃ v4, Cs j = [.int .u8 k, .int .i64 i, .int .i64 t, .slice E r.length c, v4] := by
        match Cs j, hlen, g0, g1, g2, g3 with
        | [a, b', c', d', e'], _, g0, g1, g2, g3 =>
          injection g0 with g0; injection g1 with g1; injection g2 with g2; injection g3 with g3
          subst g0 g1 g2 g3
          exact ⟨e', rfl⟩
      obtain ⟨v4, hcs⟩ := hCs
      have h4 : DataW.trod enc Try.prog W 0 sp hd m 22 (List.take (Try.prog.cellsOf 22) [v4]) = ys[4]? := by
        have := hf 4 _ rfl
        rw [hcs] at this
        exact this
      rw [show Try.prog.cellsOf 22 = 1 by kernel_rfl] at h4
      have h4' : DataW.trod enc Try.prog W 0 sp hd m 22 [v4] = some (ys[4]'(by omega)) := by rw [← List.getElem?_eq_getElem]; exact h4
      have hDj : (D j, pl) = (DataW.agg (ys.map (·.1)), ys.flatMap (·.2)) := hx
      have hpl : pl = ys.flatMap (·.2) := congrArg Prod.snd hDj
      obtain ⟨B, mm, cB, ms, rfl, hcB, hE, hw⟩ := in_ents h4' (fun q hq => hp q (by
        show q ∈ pl
        rw [hpl]
        exact List.mem_flatMap.2 ⟨_, List.getElem_mem (by omega), hq⟩))
      refine ⟨⟨k, i, t, E, c, r, B, mm, cB, ms⟩, fun _ => ⟨⟨hcs, ⟨⟨hc, hlies, fun h0 q o e => hz h0 _ e⟩, hE, hcB, wf_u8' hk, wf_i64' hi, wf_i64' ht⟩⟩, fun hw2 => hw fun n hn => hw2 n ?_⟩⟩
      have hD : D j = .agg (ys.map (·.1)) := congrArg Prod.fst hDj
      rw [hD]
      simp only [DataW.weights, Try.underlying39]
      exact DataW.weights_mem_each (j := 4) (t := 22) (d := (ys[4]'(by omega)).1) rfl (by rw [List.getElem?_map, List.getElem?_eq_getElem (by omega)]; rfl) n hn
    · exact ⟨⟨0, 0, 0, none, 0, [], none, 0, 0, []⟩, fun h => absurd h hj⟩)
  refine ⟨A, len, cap, R, rfl, hl, hm, fun hpos => ?_, fun j hj => (hR j hj).1.2, fun hw j hj => ?_⟩
  · obtain ⟨g, off, e, hg, hc⟩ := hrow hpos
    refine ⟨g, off, e, hg, fun j hj => ?_⟩
    have e1 := (hR j hj).1.1
    refine ⟨?_, hc j hj 1 _ (by rw [e1]; rfl), hc j hj 2 _ (by rw [e1]; rfl), hc j hj 3 _ (by rw [e1]; rfl), hc j hj 4 _ (by rw [e1]; rfl)⟩
    have := hc j hj 0 (.int .u8 (R j).k) (by rw [e1]; rfl)
    rwa [Nat.add_zero] at this
  · refine (hR j hj).2 fun n hn => hw n ?_
    rcases hform with ⟨_, h0⟩ | ⟨rest, rfl⟩
    · omega
    · exact weights_elem Try.underlying23 (List.mem_map.2 ⟨j, hj |> (fun h => List.mem_range.2 h), rfl⟩) hn
end

end Go.Proofs.Ytlanjlboipnpfaa
