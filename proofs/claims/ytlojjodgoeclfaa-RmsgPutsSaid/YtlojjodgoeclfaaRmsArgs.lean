/- A message as a law's argument. -/
import Derived.Test.YtlojjodgoeclfaaRmsRow
import Derived.Test.YtlojjodgoeclfaaEntArgs
namespace Go.Proofs.Ytlojjodgoeclfaa
open Go.ChangeShapes Go.WideShapes Go.ChangeAt Go.RowKit Go.Deep
set_option linter.unusedVariables false
set_option linter.unusedSimpArgs false

section
variable {H : Type} {enc : TypeId × Value → H} {P : Program} {W : World} {sp : Nat → Bool} {hd : Bool}

/-- A slice of structs: each element's cells, its reading, that what it leads to is old, and what the slice reads as. -/
theorem arg_slice_raw {t e : TypeId} {C fuel : Nat} {v : Value} {d : DataW H} {p : List MemPlace} (ht : P.underlying t = some (.slice e)) (hC : P.cellsOf e = C) (h0 : 0 < C)
    (h : DataW.trod enc P W 0 sp hd fuel t [v] = some (d, p)) (hlt : ∀ x ∈ p, x.block < W.heap.size) :
    ∃ (A : Option Addr) (len cap n : Nat) (Cs : Nat → List Value) (D : Nat → DataW H), v = .slice A len cap ∧ len ≤ cap ∧ cap ≤ maxLen ∧ (A = none → cap = 0) ∧ (d = .nil ∧ len = 0 ∨ ∃ rest, d = .slice ((List.range len).map D) rest) ∧
      (0 < len → ∃ b off, A = some ⟨b, off, none⟩ ∧ b < W.heap.size ∧ ∀ j, j < len → ∀ i u, (Cs j)[i]? = some u → W.cell? ⟨b, off + j * C + i, none⟩ = some u) ∧
      ∀ j, j < len → (Cs j).length = C ∧ ∃ pl, DataW.trod enc P W 0 sp hd n e (Cs j) = some (D j, pl) ∧ ∀ x ∈ pl, x.block < W.heap.size := by
  rcases open_slice ht h with ⟨hcs, hx⟩ | ⟨a, len, cap, m, n, D, Pl, hcs, hb, hl, hm, hmm, hx, hi⟩
  · simp at hcs
    subst hcs
    simp only [Prod.mk.injEq] at hx
    exact ⟨none, 0, 0, 0, fun _ => [], fun _ => .nil, rfl, Nat.le_refl _, Nat.zero_le _, fun _ => rfl, .inl ⟨hx.1, rfl⟩, fun h => absurd h (by omega), fun j hj => absurd hj (by omega)⟩
  · simp at hcs
    subst hcs
    simp only [Prod.mk.injEq] at hx
    have hlm : len ≤ m := by rw [hmm]; split <;> omega
    obtain ⟨Cs, hCs⟩ := Classical.axiomOfChoice (r := fun i cs' => i < m → W.cells? 0 (a.add (i * P.cellsOf e)) (P.cellsOf e) = some cs' ∧ DataW.trod enc P W 0 sp hd n e cs' = some (D i, Pl i)) (fun i => by
      by_cases him : i < m
      · obtain ⟨cs', h1, h2⟩ := hi i him
        exact ⟨cs', fun _ => ⟨h1, h2⟩⟩
      · exact ⟨[], fun h => absurd h him⟩)
    rw [hC] at hCs
    refine ⟨some a, len, cap, n, Cs, D, rfl, hl, hm, (fun h => by cases h), .inr ⟨_, hx.1⟩, fun hpos => ?_, fun j hj => ?_⟩
    · have hcell : ∀ j, j < len → ∀ i u, (Cs j)[i]? = some u → W.cell? (a.add (j * C + i)) = some u := fun j hj i u hu => by
        obtain ⟨hc, _⟩ := hCs j (by omega)
        obtain ⟨_, hcl, hat⟩ := World.cells?_some hc
        have hic : i < C := by
          rcases Nat.lt_or_ge i (Cs j).length with h1 | h1
          · omega
          · rw [List.getElem?_eq_none h1] at hu; cases hu
        have := hat i hic
        rw [add_two] at this
        rw [this, hu]
      obtain ⟨b, off, spot⟩ := a
      obtain ⟨hc0, _⟩ := hCs 0 (by omega)
      obtain ⟨_, hcl0, _⟩ := World.cells?_some hc0
      have g0 : (Cs 0)[0]? = some ((Cs 0)[0]'(by omega)) := List.getElem?_eq_getElem (by omega)
      have hspot : spot = none := by simpa [Addr.add] using World.cell?_spot (hcell 0 hpos 0 _ g0)
      subst hspot
      refine ⟨b, off, rfl, ?_, fun j hj i u hu => ?_⟩
      · have hin : MemPlace.cell b off ∈ p := by
          rw [hx.2]
          refine List.mem_append_left _ (MemPlace.mem_row.2 ⟨0, ?_, by simp⟩)
          rw [hC]; exact Nat.mul_pos (by omega) h0
        exact hlt _ hin
      · have := hcell j hj i u hu
        rw [add_here, ← Nat.add_assoc] at this
        exact this
    · obtain ⟨hc, hdt⟩ := hCs j (by omega)
      obtain ⟨_, hcl, _⟩ := World.cells?_some hc
      exact ⟨hcl, Pl j, hdt, fun x hx' => hlt x (by rw [hx.2]; exact List.mem_append_right _ (List.mem_flatMap.2 ⟨j, by simp; omega, hx'⟩))⟩

set_option maxRecDepth 100000 in
/-- A slice of entries. -/
theorem in_ents {fuel : Nat} {v : Value} {d : DataW H} {p : List MemPlace}
    (h : DataW.trod enc Try.prog W 0 sp hd fuel 22 [v] = some (d, p)) (hlt : ∀ x ∈ p, x.block < W.heap.size) :
    ∃ (A : Option Addr) (len cap : Nat) (ls : List Ent), v = .slice A len cap ∧ cap ≤ maxLen ∧ Ents W (· < W.heap.size) A len cap ls ∧ ((∀ n ∈ d.weights Try.prog 22, n ≤ reachBytes) → ∀ e ∈ ls, e.d.length ≤ 140737488355328) := by
  obtain ⟨A, len, cap, n, Cs, D, rfl, hl, hm, hnone, hform, hrow, hel⟩ := arg_slice_raw Try.underlying22 (show Try.prog.cellsOf 58 = 3 by kernel_rfl) (by omega) h hlt
  obtain ⟨R, hR⟩ := Classical.axiomOfChoice (r := fun j (r : Ent) => j < len → EntAt W (Cs j) r ∧ ((∀ n ∈ (D j).weights Try.prog 58, n ≤ reachBytes) → r.d.length ≤ 140737488355328)) (fun j => by
    by_cases hj : j < len
    · obtain ⟨hlen, pl, hdt, hp⟩ := hel j hj
      obtain ⟨ys, m, _, hx, _, hyl, hf⟩ := DataW.trod_struct Try.underlying58 hdt
      have hys : ys.length = 3 := hyl
      obtain ⟨m2, hfi⟩ := arg_fields_in (x := (D j, pl)) Try.underlying58 (by kernel_rfl) (by rw [hlen]; rfl) hdt hp
      obtain ⟨v0, y0, g0, t0, _⟩ := hfi 0 _ rfl
      obtain ⟨v1, y1, g1, t1, _⟩ := hfi 1 _ rfl
      obtain ⟨v2, y2, g2, t2, p2⟩ := hfi 2 _ rfl
      obtain ⟨i, e0, _, _⟩ := DataW.trod_int Try.underlying2 t0
      obtain ⟨t, e1, _, _⟩ := DataW.trod_int Try.underlying2 t1
      obtain ⟨E, el, c, r, rfl, hc, hlies, hz⟩ := in_bytes Try.underlying23 Try.underlying5 (by kernel_rfl) t2 p2
      obtain rfl : r.length = el := hlies.1
      have e0' : v0 = .int .i64 i := by injection e0
      have e1' : v1 = .int .i64 t := by injection e1
      subst e0' e1'
      have hcs : Cs j = [.int .i64 i, .int .i64 t, .slice E r.length c] := by
        match Cs j, hlen, g0, g1, g2 with
        | [a, b', c'], _, g0, g1, g2 =>
          injection g0 with g0; injection g1 with g1; injection g2 with g2
          subst g0 g1 g2
          rfl
      refine ⟨⟨i, t, r⟩, fun _ => ⟨⟨E, c, ?_, hc, hlies, hz⟩, fun hw => ?_⟩⟩
      · exact hcs
      · have h2 : DataW.trod enc Try.prog W 0 sp hd m 23 (List.take (Try.prog.cellsOf 23) [.slice E r.length c]) = ys[2]? := by
          have := hf 2 _ rfl
          rw [hcs] at this
          exact this
        have hD : D j = .agg (ys.map (·.1)) := congrArg Prod.fst hx
        rw [show Try.prog.cellsOf 23 = 1 by kernel_rfl] at h2
        have h2' : DataW.trod enc Try.prog W 0 sp hd m 23 [.slice E r.length c] = some (ys[2]'(by omega)) := by rw [← List.getElem?_eq_getElem]; exact h2
        refine bytes_reach h2' fun n hn => hw n ?_
        rw [hD]
        simp only [DataW.weights, Try.underlying58]
        exact DataW.weights_mem_each (j := 2) (t := 23) (d := (ys[2]'(by omega)).1) rfl (by rw [List.getElem?_map, List.getElem?_eq_getElem (by omega)]; rfl) n hn
    · exact ⟨⟨0, 0, []⟩, fun h => absurd h hj⟩)
  refine ⟨A, len, cap, (List.range len).map R, rfl, hm, ⟨by simp, hl, hnone, fun hpos => ?_⟩, fun hw e he => ?_⟩
  · obtain ⟨g, off, e, hg, hc⟩ := hrow hpos
    refine ⟨g, off, e, hg, hg, fun j hj => ?_⟩
    have hj' : j < len := by simpa using hj
    obtain ⟨E, c, e1, e2, e3, e4⟩ := (hR j hj').1
    simp only [List.getElem_map, List.getElem_range]
    refine ⟨E, c, ?_, hc j hj' 1 _ (by rw [e1]; rfl), hc j hj' 2 _ (by rw [e1]; rfl), Nat.le_refl _, e3, fun h0 q o eq => e4 h0 _ eq⟩
    have := hc j hj' 0 (.int .i64 (R j).i) (by rw [e1]; rfl)
    rwa [Nat.add_zero] at this
  · obtain ⟨j, hj, rfl⟩ := List.mem_map.1 he
    have hj' : j < len := by simpa using hj
    refine (hR j hj').2 fun n hn => hw n ?_
    rcases hform with ⟨_, h0⟩ | ⟨rest, rfl⟩
    · omega
    · exact weights_elem Try.underlying22 (List.mem_map.2 ⟨j, hj, rfl⟩) hn

set_option maxRecDepth 100000 in
set_option maxHeartbeats 1000000 in
/-- A message. -/
theorem arg_msg {base : Nat} {v : Value} {d : DataW H} {p : List MemPlace}
    (hok : Value.okWide Try.prog W .any base 27 v) (h : DataW.Trod enc Try.prog W 0 sp hd 27 v d p) (hlt : ∀ x ∈ p, x.block < W.heap.size) :
    ∃ (m : Msg) (A : Option Addr) (cA : Nat) (E : Option Addr) (cE : Nat), v = msgV m A cA E cE ∧ MsgIn W (· < W.heap.size) m A cA E cE ∧ ((∀ n ∈ d.weights Try.prog 27, n ≤ reachBytes) → ∀ e ∈ m.es, e.d.length ≤ 140737488355328) := by
  obtain ⟨cs, rfl, hsz⟩ := okWide_struct Try.underlying27 hok
  rw [show Try.prog.cellsOf 27 = 13 by kernel_rfl] at hsz
  obtain ⟨fuel, hf0⟩ := h
  obtain ⟨c0, c1, c2, c3, c4, c5, c6, c7, c8, c9, c10, c11, c12, hcs⟩ : ∃ c0 c1 c2 c3 c4 c5 c6 c7 c8 c9 c10 c11 c12, cs = #[c0, c1, c2, c3, c4, c5, c6, c7, c8, c9, c10, c11, c12] := by
    obtain ⟨l⟩ := cs
    have hlen : l.length = 13 := hsz
    rcases l with _ | ⟨a, _ | ⟨b, _ | ⟨c, _ | ⟨d, _ | ⟨e, _ | ⟨f, _ | ⟨g, _ | ⟨h, _ | ⟨i, _ | ⟨j, _ | ⟨k, _ | ⟨l, _ | ⟨m, _ | ⟨_, _⟩⟩⟩⟩⟩⟩⟩⟩⟩⟩⟩⟩⟩⟩ <;> simp at hlen
    exact ⟨a, b, c, d, e, f, g, h, i, j, k, l, m, rfl⟩
  subst hcs
  have hdt : DataW.trod enc Try.prog W 0 sp hd fuel 27 [c0, c1, c2, c3, c4, c5, c6, c7, c8, c9, c10, c11, c12] = some (d, p) := by simpa [Value.cells] using hf0
  obtain ⟨ys, m, _, hx, _, hyl, hf⟩ := DataW.trod_struct Try.underlying27 hdt
  have hys : ys.length = 11 := hyl
  have hD : d = .agg (ys.map (·.1)) := congrArg Prod.fst hx
  have hpl : p = ys.flatMap (·.2) := congrArg Prod.snd hx
  have hlty : ∀ (i : Nat) (hi : i < ys.length), ∀ q ∈ (ys[i]).2, q.block < W.heap.size := fun i hi q hq => hlt q (by rw [hpl]; exact List.mem_flatMap.2 ⟨_, List.getElem_mem hi, hq⟩)
  have g0 : DataW.trod enc Try.prog W 0 sp hd m 3 (List.take (Try.prog.cellsOf 3) [c0, c1, c2, c3, c4, c5, c6, c7, c8, c9, c10, c11, c12]) = ys[0]? := hf 0 _ rfl
  rw [show Try.prog.cellsOf 3 = 1 by kernel_rfl, List.getElem?_eq_getElem (by omega)] at g0
  have g0 : DataW.trod enc Try.prog W 0 sp hd m 3 [c0] = some (ys[0]'(by omega)) := g0
  have g1 : DataW.trod enc Try.prog W 0 sp hd m 3 (List.take (Try.prog.cellsOf 3) [c1, c2, c3, c4, c5, c6, c7, c8, c9, c10, c11, c12]) = ys[1]? := hf 1 _ rfl
  rw [show Try.prog.cellsOf 3 = 1 by kernel_rfl, List.getElem?_eq_getElem (by omega)] at g1
  have g1 : DataW.trod enc Try.prog W 0 sp hd m 3 [c1] = some (ys[1]'(by omega)) := g1
  have g2 : DataW.trod enc Try.prog W 0 sp hd m 3 (List.take (Try.prog.cellsOf 3) [c2, c3, c4, c5, c6, c7, c8, c9, c10, c11, c12]) = ys[2]? := hf 2 _ rfl
  rw [show Try.prog.cellsOf 3 = 1 by kernel_rfl, List.getElem?_eq_getElem (by omega)] at g2
  have g2 : DataW.trod enc Try.prog W 0 sp hd m 3 [c2] = some (ys[2]'(by omega)) := g2
  have g3 : DataW.trod enc Try.prog W 0 sp hd m 2 (List.take (Try.prog.cellsOf 2) [c3, c4, c5, c6, c7, c8, c9, c10, c11, c12]) = ys[3]? := hf 3 _ rfl
  rw [show Try.prog.cellsOf 2 = 1 by kernel_rfl, List.getElem?_eq_getElem (by omega)] at g3
  have g3 : DataW.trod enc Try.prog W 0 sp hd m 2 [c3] = some (ys[3]'(by omega)) := g3
  have g4 : DataW.trod enc Try.prog W 0 sp hd m 2 (List.take (Try.prog.cellsOf 2) [c4, c5, c6, c7, c8, c9, c10, c11, c12]) = ys[4]? := hf 4 _ rfl
  rw [show Try.prog.cellsOf 2 = 1 by kernel_rfl, List.getElem?_eq_getElem (by omega)] at g4
  have g4 : DataW.trod enc Try.prog W 0 sp hd m 2 [c4] = some (ys[4]'(by omega)) := g4
  have g5 : DataW.trod enc Try.prog W 0 sp hd m 2 (List.take (Try.prog.cellsOf 2) [c5, c6, c7, c8, c9, c10, c11, c12]) = ys[5]? := hf 5 _ rfl
  rw [show Try.prog.cellsOf 2 = 1 by kernel_rfl, List.getElem?_eq_getElem (by omega)] at g5
  have g5 : DataW.trod enc Try.prog W 0 sp hd m 2 [c5] = some (ys[5]'(by omega)) := g5
  have g6 : DataW.trod enc Try.prog W 0 sp hd m 2 (List.take (Try.prog.cellsOf 2) [c6, c7, c8, c9, c10, c11, c12]) = ys[6]? := hf 6 _ rfl
  rw [show Try.prog.cellsOf 2 = 1 by kernel_rfl, List.getElem?_eq_getElem (by omega)] at g6
  have g6 : DataW.trod enc Try.prog W 0 sp hd m 2 [c6] = some (ys[6]'(by omega)) := g6
  have g7 : DataW.trod enc Try.prog W 0 sp hd m 2 (List.take (Try.prog.cellsOf 2) [c7, c8, c9, c10, c11, c12]) = ys[7]? := hf 7 _ rfl
  rw [show Try.prog.cellsOf 2 = 1 by kernel_rfl, List.getElem?_eq_getElem (by omega)] at g7
  have g7 : DataW.trod enc Try.prog W 0 sp hd m 2 [c7] = some (ys[7]'(by omega)) := g7
  have g8 : DataW.trod enc Try.prog W 0 sp hd m 4 (List.take (Try.prog.cellsOf 4) [c8, c9, c10, c11, c12]) = ys[8]? := hf 8 _ rfl
  rw [show Try.prog.cellsOf 4 = 1 by kernel_rfl, List.getElem?_eq_getElem (by omega)] at g8
  have g8 : DataW.trod enc Try.prog W 0 sp hd m 4 [c8] = some (ys[8]'(by omega)) := g8
  have g9 : DataW.trod enc Try.prog W 0 sp hd m 22 (List.take (Try.prog.cellsOf 22) [c9, c10, c11, c12]) = ys[9]? := hf 9 _ rfl
  rw [show Try.prog.cellsOf 22 = 1 by kernel_rfl, List.getElem?_eq_getElem (by omega)] at g9
  have g9 : DataW.trod enc Try.prog W 0 sp hd m 22 [c9] = some ((ys[9]'(by omega)).1, (ys[9]'(by omega)).2) := g9
  have g10 : DataW.trod enc Try.prog W 0 sp hd m 25 (List.take (Try.prog.cellsOf 25) [c10, c11, c12]) = ys[10]? := hf 10 _ rfl
  rw [show Try.prog.cellsOf 25 = 3 by kernel_rfl, List.getElem?_eq_getElem (by omega)] at g10
  have g10 : DataW.trod enc Try.prog W 0 sp hd m 25 [c10, c11, c12] = some (ys[10]'(by omega)) := g10
  obtain ⟨n0, e0, _, _⟩ := DataW.trod_int Try.underlying3 g0
  obtain ⟨n1, e1, _, _⟩ := DataW.trod_int Try.underlying3 g1
  obtain ⟨n2, e2, _, _⟩ := DataW.trod_int Try.underlying3 g2
  obtain ⟨n3, e3, _, _⟩ := DataW.trod_int Try.underlying2 g3
  obtain ⟨n4, e4, _, _⟩ := DataW.trod_int Try.underlying2 g4
  obtain ⟨n5, e5, _, _⟩ := DataW.trod_int Try.underlying2 g5
  obtain ⟨n6, e6, _, _⟩ := DataW.trod_int Try.underlying2 g6
  obtain ⟨n7, e7, _, _⟩ := DataW.trod_int Try.underlying2 g7
  obtain ⟨n8, e8, _⟩ := DataW.trod_bool Try.underlying4 g8
  obtain ⟨A, len, cA, ls, e9, hm9, hents, hw9⟩ := in_ents g9 (hlty 9 (by omega))
  obtain ⟨m2, hf2⟩ := arg_fields_in Try.underlying25 (by kernel_rfl) rfl g10 (hlty 10 (by omega))
  obtain ⟨v0, y0, b0, t0, _⟩ := hf2 0 _ rfl
  obtain ⟨v1, y1, b1, t1, _⟩ := hf2 1 _ rfl
  obtain ⟨v2, y2, b2, t2, p2⟩ := hf2 2 _ rfl
  obtain ⟨si, s0, _, _⟩ := DataW.trod_int Try.underlying2 t0
  obtain ⟨st, s1, _, _⟩ := DataW.trod_int Try.underlying2 t1
  obtain ⟨E, el, cE, r, s2, hc, hlies, hz⟩ := in_bytes Try.underlying23 Try.underlying5 (by kernel_rfl) t2 p2
  obtain rfl : r.length = el := hlies.1
  obtain rfl : ls.length = len := hents.1
  have q0 : c0 = .int .i64 n0 := by injection e0
  have q1 : c1 = .int .i64 n1 := by injection e1
  have q2 : c2 = .int .i64 n2 := by injection e2
  have q3 : c3 = .int .i64 n3 := by injection e3
  have q4 : c4 = .int .i64 n4 := by injection e4
  have q5 : c5 = .int .i64 n5 := by injection e5
  have q6 : c6 = .int .i64 n6 := by injection e6
  have q7 : c7 = .int .i64 n7 := by injection e7
  have q8 : c8 = .bool n8 := by injection e8
  have r0 : v0 = .int .i64 si := by injection s0
  have r1 : v1 = .int .i64 st := by injection s1
  have k0 : c10 = v0 := by have h : some c10 = some v0 := b0; injection h
  have k1 : c11 = v1 := by have h : some c11 = some v1 := b1; injection h
  have k2 : c12 = v2 := by have h : some c12 = some v2 := b2; injection h
  subst q0 q1 q2 q3 q4 q5 q6 q7 q8
  subst k0
  subst k1
  subst k2
  subst r0
  subst r1
  subst s2
  subst e9
  refine ⟨⟨n0, n1, n2, n3, n4, n5, n6, n7, n8, ls, ⟨si, st, r⟩⟩, A, cA, E, cE, rfl, ⟨hents, hm9, hlies, fun h0 g off e => hz h0 _ e⟩, fun hw => hw9 fun n hn => hw n ?_⟩
  rw [hD]
  simp only [DataW.weights, Try.underlying27]
  exact DataW.weights_mem_each (j := 9) (t := 22) (d := (ys[9]'(by omega)).1) rfl (by rw [List.getElem?_map, List.getElem?_eq_getElem (by omega)]; rfl) n hn
end

end Go.Proofs.Ytlojjodgoeclfaa
