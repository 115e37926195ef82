/- Versions and acts as a law is called with them. (Written by mkargs.py.) -/
import Derived.Test.YtmihijlegacjdaaHisMem
import Derived.Test.YtmihijlegacjdaaBytArgs
namespace Go.Proofs.Ytmihijlegacjdaa
open Go.ChangeShapes Go.WideShapes Go.ChangeAt Go.RowKit Go.Deep
set_option linter.unusedVariables false
set_option linter.unusedSimpArgs false

/-- Numbers as they may be. -/
structure VerWf (x : Ver) : Prop where
  r : -9223372036854775808 ≤ x.r ∧ x.r ≤ 9223372036854775807
  k : -9223372036854775808 ≤ x.k ∧ x.k ≤ 9223372036854775807
  m : -9223372036854775808 ≤ x.m ∧ x.m ≤ 9223372036854775807
  v : -9223372036854775808 ≤ x.v ∧ x.v ≤ 9223372036854775807
  s : x.s.size ≤ maxLen
  l : -9223372036854775808 ≤ x.l ∧ x.l ≤ 9223372036854775807

/-- An act: its kind, revision, mod, value, lease, version. -/
structure HAct where
  kd : Int
  r : Int
  m : Int
  s : ByteArray
  l : Int
  x : Ver

abbrev hactV (a : HAct) : Value := .agg #[.int .u8 a.kd, .int .i64 a.r, .int .i64 a.m, .string a.s, .int .i64 a.l, .int .i64 a.x.r, .int .i64 a.x.k, .int .i64 a.x.m, .int .i64 a.x.v, .string a.x.s, .int .i64 a.x.l, .bool a.x.g]
def hactC (a : HAct) : List Value := [.int .u8 a.kd, .int .i64 a.r, .int .i64 a.m, .string a.s, .int .i64 a.l, .int .i64 a.x.r, .int .i64 a.x.k, .int .i64 a.x.m, .int .i64 a.x.v, .string a.x.s, .int .i64 a.x.l, .bool a.x.g]

structure HActWf (a : HAct) : Prop where
  kd : 0 ≤ a.kd ∧ a.kd < 256
  r : -9223372036854775808 ≤ a.r ∧ a.r ≤ 9223372036854775807
  m : -9223372036854775808 ≤ a.m ∧ a.m ≤ 9223372036854775807
  s : a.s.size ≤ maxLen
  l : -9223372036854775808 ≤ a.l ∧ a.l ≤ 9223372036854775807
  x : VerWf a.x

def HActs (W : World) (A : Option Addr) (len : Nat) (K : Nat → HAct) : Prop := 0 < len → ∃ g off, A = some ⟨g, off, none⟩ ∧ g < W.heap.size ∧ ∀ j, j < len → ∀ i u, (hactC (K j))[i]? = some u → W.cell? ⟨g, off + j * 12 + i, none⟩ = some u

section
variable {H : Type} {enc : TypeId × Value → H} {P : Program} {W : World} {sp : Nat → Bool} {hd : Bool}

set_option maxRecDepth 100000 in
/-- A version within cells. -/
theorem in_ver {fuel : Nat} {cs : List Value} {x : DataW H × List MemPlace} (hl : cs.length = 7) (h : DataW.trod enc Try.prog W 0 sp hd fuel 26 cs = some x) (hlt : ∀ y ∈ x.2, y.block < W.heap.size) : ∃ v : Ver, cs = verC v ∧ VerWf v := by
  obtain ⟨m2, hfi⟩ := arg_fields_in Try.underlying26 (by kernel_rfl) (by rw [hl]; rfl) h hlt
  obtain ⟨v0, y0, g0, t0, _⟩ := hfi 0 _ rfl
  obtain ⟨v1, y1, g1, t1, _⟩ := hfi 1 _ rfl
  obtain ⟨v2, y2, g2, t2, _⟩ := hfi 2 _ rfl
  obtain ⟨v3, y3, g3, t3, _⟩ := hfi 3 _ rfl
  obtain ⟨v4, y4, g4, t4, _⟩ := hfi 4 _ rfl
  obtain ⟨v5, y5, g5, t5, _⟩ := hfi 5 _ rfl
  obtain ⟨v6, y6, g6, t6, _⟩ := hfi 6 _ rfl
  obtain ⟨a0, e0, _, w0⟩ := DataW.trod_int Try.underlying2 t0
  obtain ⟨a1, e1, _, w1⟩ := DataW.trod_int Try.underlying2 t1
  obtain ⟨a2, e2, _, w2⟩ := DataW.trod_int Try.underlying2 t2
  obtain ⟨a3, e3, _, w3⟩ := DataW.trod_int Try.underlying2 t3
  obtain ⟨a4, e4, _, w4⟩ := DataW.trod_string Try.underlying9 t4
  obtain ⟨a5, e5, _, w5⟩ := DataW.trod_int Try.underlying2 t5
  obtain ⟨a6, e6, _⟩ := DataW.trod_bool Try.underlying4 t6
  have q0 : v0 = .int .i64 a0 := by injection e0
  have q1 : v1 = .int .i64 a1 := by injection e1
  have q2 : v2 = .int .i64 a2 := by injection e2
  have q3 : v3 = .int .i64 a3 := by injection e3
  have q4 : v4 = .string a4 := by injection e4
  have q5 : v5 = .int .i64 a5 := by injection e5
  have q6 : v6 = .bool a6 := by injection e6
  subst q0 q1 q2 q3 q4 q5 q6
  refine ⟨⟨a0, a1, a2, a3, a4, a5, a6⟩, ?_, ⟨wf_i64' w0, wf_i64' w1, wf_i64' w2, wf_i64' w3, w4, wf_i64' w5⟩⟩
  match cs, hl, g0, g1, g2, g3, g4, g5, g6 with
  | [c0, c1, c2, c3, c4, c5, c6], _, g0, g1, g2, g3, g4, g5, g6 =>
    injection g0 with g0; injection g1 with g1; injection g2 with g2; injection g3 with g3; injection g4 with g4; injection g5 with g5; injection g6 with g6
    subst g0 g1 g2 g3 g4 g5 g6
    rfl

set_option maxRecDepth 100000 in
theorem arg_vers {base : Nat} {v : Value} {d : DataW H} {p : List MemPlace}
    (hok : Value.okWide Try.prog W .any base 22 v) (h : DataW.Trod enc Try.prog W 0 sp hd 22 v d p) (hlt : ∀ x ∈ p, x.block < W.heap.size) :
    ∃ (A : Option Addr) (len cap : Nat) (l : List Ver), v = .slice A len cap ∧ len ≤ cap ∧ cap ≤ maxLen ∧ Vers W A len l ∧ ∀ x ∈ l, VerWf x := by
  obtain ⟨A, len, cap, n, Cs, D, rfl, hl, hm, hrow, hel⟩ := arg_slice_in Try.underlying22 (show Try.prog.cellsOf 26 = 7 by kernel_rfl) (by omega) hok h hlt
  obtain ⟨R, hR⟩ := Classical.axiomOfChoice (r := fun j (x : Ver) => j < len → Cs j = verC x ∧ VerWf x) (fun j => by
    by_cases hj : j < len
    · obtain ⟨hlen, pl, hdt, hp⟩ := hel j hj
      obtain ⟨x, h1, h2⟩ := in_ver (x := (D j, pl)) hlen hdt hp
      exact ⟨x, fun _ => ⟨h1, h2⟩⟩
    · exact ⟨His.none_, fun h => absurd h hj⟩)
  have hlen : ((List.range len).map R).length = len := by simp
  have hat : ∀ j (hj : j < ((List.range len).map R).length), ((List.range len).map R)[j] = R j := fun j hj => by simp
  refine ⟨A, len, cap, (List.range len).map R, rfl, hl, hm, ⟨hlen, fun hpos => ?_⟩, fun x hx => ?_⟩
  · obtain ⟨g, off, e, hg, hc⟩ := hrow hpos
    refine ⟨g, off, e, hg, fun j hj => ?_⟩
    have hj2 : j < len := by omega
    have e1 := (hR j hj2).1
    rw [hat j hj]
    have hx := fun i u (hu : (verC (R j))[i]? = some u) => hc j hj2 i u (by rw [e1]; exact hu)
    exact ⟨hx 0 _ rfl, hx 1 _ rfl, hx 2 _ rfl, hx 3 _ rfl, hx 4 _ rfl, hx 5 _ rfl, hx 6 _ rfl⟩
  · obtain ⟨j, hj, rfl⟩ := List.mem_map.1 hx
    exact (hR j (List.mem_range.1 hj)).2

set_option maxRecDepth 100000 in
/-- An act within cells. -/
theorem in_hact {fuel : Nat} {cs : List Value} {x : DataW H × List MemPlace} (hl : cs.length = 12) (h : DataW.trod enc Try.prog W 0 sp hd fuel 37 cs = some x) (hlt : ∀ y ∈ x.2, y.block < W.heap.size) : ∃ a : HAct, cs = hactC a ∧ HActWf a := by
  match cs, hl with
  | [c0, c1, c2, c3, c4, c5, c6, c7, c8, c9, c10, c11], _ =>
  obtain ⟨ys, m, _, hx, _, hyl, hf⟩ := DataW.trod_struct Try.underlying37 h
  have hys : ys.length = 6 := hyl
  have hpl : x.2 = ys.flatMap (·.2) := congrArg Prod.snd hx
  have hlty : ∀ (i : Nat) (hi : i < ys.length), ∀ q ∈ (ys[i]).2, q.block < W.heap.size := fun i hi q hq => hlt q (by rw [hpl]; exact List.mem_flatMap.2 ⟨_, List.getElem_mem hi, hq⟩)
  have g0 : DataW.trod enc Try.prog W 0 sp hd m 5 (List.take (Try.prog.cellsOf 5) [c0, c1, c2, c3, c4, c5, c6, c7, c8, c9, c10, c11]) = ys[0]? := hf 0 _ rfl
  rw [show Try.prog.cellsOf 5 = 1 by kernel_rfl, List.getElem?_eq_getElem (by omega)] at g0
  have g1 : DataW.trod enc Try.prog W 0 sp hd m 2 (List.take (Try.prog.cellsOf 2) [c1, c2, c3, c4, c5, c6, c7, c8, c9, c10, c11]) = ys[1]? := hf 1 _ rfl
  rw [show Try.prog.cellsOf 2 = 1 by kernel_rfl, List.getElem?_eq_getElem (by omega)] at g1
  have g2 : DataW.trod enc Try.prog W 0 sp hd m 2 (List.take (Try.prog.cellsOf 2) [c2, c3, c4, c5, c6, c7, c8, c9, c10, c11]) = ys[2]? := hf 2 _ rfl
  rw [show Try.prog.cellsOf 2 = 1 by kernel_rfl, List.getElem?_eq_getElem (by omega)] at g2
  have g3 : DataW.trod enc Try.prog W 0 sp hd m 9 (List.take (Try.prog.cellsOf 9) [c3, c4, c5, c6, c7, c8, c9, c10, c11]) = ys[3]? := hf 3 _ rfl
  rw [show Try.prog.cellsOf 9 = 1 by kernel_rfl, List.getElem?_eq_getElem (by omega)] at g3
  have g4 : DataW.trod enc Try.prog W 0 sp hd m 2 (List.take (Try.prog.cellsOf 2) [c4, c5, c6, c7, c8, c9, c10, c11]) = ys[4]? := hf 4 _ rfl
  rw [show Try.prog.cellsOf 2 = 1 by kernel_rfl, List.getElem?_eq_getElem (by omega)] at g4
  have g5 : DataW.trod enc Try.prog W 0 sp hd m 26 (List.take (Try.prog.cellsOf 26) [c5, c6, c7, c8, c9, c10, c11]) = ys[5]? := hf 5 _ rfl
  rw [show Try.prog.cellsOf 26 = 7 by kernel_rfl, List.getElem?_eq_getElem (by omega)] at g5
  have g0 : DataW.trod enc Try.prog W 0 sp hd m 5 [c0] = some (ys[0]'(by omega)) := g0
  have g1 : DataW.trod enc Try.prog W 0 sp hd m 2 [c1] = some (ys[1]'(by omega)) := g1
  have g2 : DataW.trod enc Try.prog W 0 sp hd m 2 [c2] = some (ys[2]'(by omega)) := g2
  have g3 : DataW.trod enc Try.prog W 0 sp hd m 9 [c3] = some (ys[3]'(by omega)) := g3
  have g4 : DataW.trod enc Try.prog W 0 sp hd m 2 [c4] = some (ys[4]'(by omega)) := g4
  have g5 : DataW.trod enc Try.prog W 0 sp hd m 26 [c5, c6, c7, c8, c9, c10, c11] = some (ys[5]'(by omega)) := g5
  obtain ⟨a0, e0, _, w0⟩ := DataW.trod_int Try.underlying5 g0
  obtain ⟨a1, e1, _, w1⟩ := DataW.trod_int Try.underlying2 g1
  obtain ⟨a2, e2, _, w2⟩ := DataW.trod_int Try.underlying2 g2
  obtain ⟨a3, e3, _, w3⟩ := DataW.trod_string Try.underlying9 g3
  obtain ⟨a4, e4, _, w4⟩ := DataW.trod_int Try.underlying2 g4
  obtain ⟨v, e5, w5⟩ := in_ver rfl g5 (hlty 5 (by omega))
  have q0 : c0 = .int .u8 a0 := by injection e0
  have q1 : c1 = .int .i64 a1 := by injection e1
  have q2 : c2 = .int .i64 a2 := by injection e2
  have q3 : c3 = .string a3 := by injection e3
  have q4 : c4 = .int .i64 a4 := by injection e4
  refine ⟨⟨a0, a1, a2, a3, a4, v⟩, ?_, ⟨wf_u8' w0, wf_i64' w1, wf_i64' w2, w3, wf_i64' w4, w5⟩⟩
  rw [q0, q1, q2, q3, q4]
  show _ = Value.int .u8 a0 :: .int .i64 a1 :: .int .i64 a2 :: .string a3 :: .int .i64 a4 :: verC v
  rw [← e5]

set_option maxRecDepth 100000 in
theorem arg_hacts {base : Nat} {v : Value} {d : DataW H} {p : List MemPlace}
    (hok : Value.okWide Try.prog W .any base 32 v) (h : DataW.Trod enc Try.prog W 0 sp hd 32 v d p) (hlt : ∀ x ∈ p, x.block < W.heap.size) :
    ∃ (A : Option Addr) (len cap : Nat) (K : Nat → HAct), v = .slice A len cap ∧ len ≤ cap ∧ cap ≤ maxLen ∧ HActs W A len K ∧ ∀ j, j < len → HActWf (K j) := by
  obtain ⟨A, len, cap, n, Cs, D, rfl, hl, hm, hrow, hel⟩ := arg_slice_in Try.underlying32 (show Try.prog.cellsOf 37 = 12 by kernel_rfl) (by omega) hok h hlt
  obtain ⟨R, hR⟩ := Classical.axiomOfChoice (r := fun j (x : HAct) => j < len → Cs j = hactC x ∧ HActWf x) (fun j => by
    by_cases hj : j < len
    · obtain ⟨hlen, pl, hdt, hp⟩ := hel j hj
      obtain ⟨x, h1, h2⟩ := in_hact (x := (D j, pl)) hlen hdt hp
      exact ⟨x, fun _ => ⟨h1, h2⟩⟩
    · exact ⟨⟨0, 0, 0, ⟨#[]⟩, 0, His.none_⟩, fun h => absurd h hj⟩)
  refine ⟨A, len, cap, R, rfl, hl, hm, fun hpos => ?_, fun j hj => (hR j hj).2⟩
  obtain ⟨g, off, e, hg, hc⟩ := hrow hpos
  exact ⟨g, off, e, hg, fun j hj i u hu => hc j hj i u (by rw [(hR j hj).1]; exact hu)⟩

set_option maxRecDepth 100000 in
theorem arg_hact {base : Nat} {v : Value} {d : DataW H} {p : List MemPlace}
    (hok : Value.okWide Try.prog W .any base 37 v) (h : DataW.Trod enc Try.prog W 0 sp hd 37 v d p) (hlt : ∀ x ∈ p, x.block < W.heap.size) :
    ∃ a : HAct, v = hactV a ∧ HActWf a := by
  obtain ⟨cs, rfl, hsz⟩ := okWide_struct Try.underlying37 hok
  rw [show Try.prog.cellsOf 37 = 12 by kernel_rfl] at hsz
  obtain ⟨fuel, hf0⟩ := h
  obtain ⟨cs⟩ := cs
  have hdt : DataW.trod enc Try.prog W 0 sp hd fuel 37 cs = some (d, p) := by simpa [Value.cells] using hf0
  obtain ⟨a, e, hw⟩ := in_hact (x := (d, p)) hsz hdt hlt
  have e : cs = hactC a := e
  refine ⟨a, ?_, hw⟩
  rw [e]
  rfl
end

theorem HActs.below {W W' : World} {A : Option Addr} {len : Nat} {K : Nat → HAct} (h : HActs W A len K) (hb : Below W.heap.size W W') : HActs W' A len K := fun h0 => by
  obtain ⟨g, off, e, hg, hc⟩ := h h0
  exact ⟨g, off, e, Nat.lt_of_lt_of_le hg hb.size, fun j hj i u hu => (World.cell?_of_block (hb.block g hg)).trans (hc j hj i u hu)⟩

end Go.Proofs.Ytmihijlegacjdaa
