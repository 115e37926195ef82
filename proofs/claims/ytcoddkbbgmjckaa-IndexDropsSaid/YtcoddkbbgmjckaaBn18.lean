/- Acts and an ask as a law of layer 15 is called with them. (Written by mkargs.py.) -/
import Derived.Test.YtcoddkbbgmjckaaBn17
import Derived.Test.YtcoddkbbgmjckaaBn16
import Derived.Test.YtcoddkbbgmjckaaBn12
namespace Go.Proofs.Ytcoddkbbgmjckaa
open Go.ChangeShapes Go.WideShapes Go.ChangeAt Go.RowKit Go.Deep
set_option linter.unusedVariables false
set_option linter.unusedSimpArgs false

/-- What is asked: a range, a prefix, revisions, how much at most, a lease. -/
structure IAsk where
  a : ByteArray
  e : ByteArray
  p : ByteArray
  r : Int
  s : Int
  t : Int
  n : Int
  l : Int

abbrev iactV (a : Idx.IAct) : Value := .agg #[.int .u8 (a.kind : Int), .string a.k, .string a.e, .int .i64 a.r, .int .i64 a.m, .string a.s, .int .i64 a.l, .int .i64 a.v.r, .int .i64 a.v.k, .int .i64 a.v.m, .int .i64 a.v.v, .string a.v.s, .int .i64 a.v.l, .bool a.v.g]
def iactC (a : Idx.IAct) : List Value := [.int .u8 (a.kind : Int), .string a.k, .string a.e, .int .i64 a.r, .int .i64 a.m, .string a.s, .int .i64 a.l, .int .i64 a.v.r, .int .i64 a.v.k, .int .i64 a.v.m, .int .i64 a.v.v, .string a.v.s, .int .i64 a.v.l, .bool a.v.g]

structure IActWf (x : Idx.IAct) : Prop where
  kind : x.kind < 256
  k : x.k.size ≤ maxLen
  e : x.e.size ≤ maxLen
  r : -9223372036854775808 ≤ x.r ∧ x.r ≤ 9223372036854775807
  m : -9223372036854775808 ≤ x.m ∧ x.m ≤ 9223372036854775807
  s : x.s.size ≤ maxLen
  l : -9223372036854775808 ≤ x.l ∧ x.l ≤ 9223372036854775807
  v : VerWf x.v

abbrev iaskV (a : IAsk) : Value := .agg #[.string a.a, .string a.e, .string a.p, .int .i64 a.r, .int .i64 a.s, .int .i64 a.t, .int .i64 a.n, .int .i64 a.l]
def iaskC (a : IAsk) : List Value := [.string a.a, .string a.e, .string a.p, .int .i64 a.r, .int .i64 a.s, .int .i64 a.t, .int .i64 a.n, .int .i64 a.l]

structure IAskWf (x : IAsk) : Prop where
  a : x.a.size ≤ maxLen
  e : x.e.size ≤ maxLen
  p : x.p.size ≤ maxLen
  r : -9223372036854775808 ≤ x.r ∧ x.r ≤ 9223372036854775807
  s : -9223372036854775808 ≤ x.s ∧ x.s ≤ 9223372036854775807
  t : -9223372036854775808 ≤ x.t ∧ x.t ≤ 9223372036854775807
  n : -9223372036854775808 ≤ x.n ∧ x.n ≤ 9223372036854775807
  l : -9223372036854775808 ≤ x.l ∧ x.l ≤ 9223372036854775807

def IActs (W : World) (A : Option Addr) (len : Nat) (K : Nat → Idx.IAct) : Prop := 0 < len → ∃ g off, A = some ⟨g, off, none⟩ ∧ g < W.heap.size ∧ ∀ j, j < len → ∀ i u, (iactC (K j))[i]? = some u → W.cell? ⟨g, off + j * 14 + i, none⟩ = some u

section
variable {H : Type} {enc : TypeId × Value → H} {P : Program} {W : World} {sp : Nat → Bool} {hd : Bool}

set_option maxRecDepth 100000 in
theorem in_iact {fuel : Nat} {cs : List Value} {x : DataW H × List MemPlace} (hl : cs.length = 14) (h : DataW.trod enc Try.prog W 0 sp hd fuel 39 cs = some x) (hlt : ∀ y ∈ x.2, y.block < W.heap.size) : ∃ a : Idx.IAct, cs = iactC a ∧ IActWf a := by
  match cs, hl with
  | [c0, c1, c2, c3, c4, c5, c6, c7, c8, c9, c10, c11, c12, c13], _ =>
  obtain ⟨ys, m, _, hx, _, hyl, hf⟩ := DataW.trod_struct Try.underlying39 h
  have hys : ys.length = 8 := hyl
  have hpl : x.2 = ys.flatMap (·.2) := congrArg Prod.snd hx
  have hlty : ∀ (i : Nat) (hi : i < ys.length), ∀ q ∈ (ys[i]).2, q.block < W.heap.size := fun i hi q hq => hlt q (by rw [hpl]; exact List.mem_flatMap.2 ⟨_, List.getElem_mem hi, hq⟩)
  have g0 : DataW.trod enc Try.prog W 0 sp hd m 5 (List.take (Try.prog.cellsOf 5) [c0, c1, c2, c3, c4, c5, c6, c7, c8, c9, c10, c11, c12, c13]) = ys[0]? := hf 0 _ rfl
  rw [show Try.prog.cellsOf 5 = 1 by kernel_rfl, List.getElem?_eq_getElem (by omega)] at g0
  have g0 : DataW.trod enc Try.prog W 0 sp hd m 5 [c0] = some (ys[0]'(by omega)) := g0
  have g1 : DataW.trod enc Try.prog W 0 sp hd m 9 (List.take (Try.prog.cellsOf 9) [c1, c2, c3, c4, c5, c6, c7, c8, c9, c10, c11, c12, c13]) = ys[1]? := hf 1 _ rfl
  rw [show Try.prog.cellsOf 9 = 1 by kernel_rfl, List.getElem?_eq_getElem (by omega)] at g1
  have g1 : DataW.trod enc Try.prog W 0 sp hd m 9 [c1] = some (ys[1]'(by omega)) := g1
  have g2 : DataW.trod enc Try.prog W 0 sp hd m 9 (List.take (Try.prog.cellsOf 9) [c2, c3, c4, c5, c6, c7, c8, c9, c10, c11, c12, c13]) = ys[2]? := hf 2 _ rfl
  rw [show Try.prog.cellsOf 9 = 1 by kernel_rfl, List.getElem?_eq_getElem (by omega)] at g2
  have g2 : DataW.trod enc Try.prog W 0 sp hd m 9 [c2] = some (ys[2]'(by omega)) := g2
  have g3 : DataW.trod enc Try.prog W 0 sp hd m 2 (List.take (Try.prog.cellsOf 2) [c3, c4, c5, c6, c7, c8, c9, c10, c11, c12, c13]) = ys[3]? := hf 3 _ rfl
  rw [show Try.prog.cellsOf 2 = 1 by kernel_rfl, List.getElem?_eq_getElem (by omega)] at g3
  have g3 : DataW.trod enc Try.prog W 0 sp hd m 2 [c3] = some (ys[3]'(by omega)) := g3
  have g4 : DataW.trod enc Try.prog W 0 sp hd m 2 (List.take (Try.prog.cellsOf 2) [c4, c5, c6, c7, c8, c9, c10, c11, c12, c13]) = ys[4]? := hf 4 _ rfl
  rw [show Try.prog.cellsOf 2 = 1 by kernel_rfl, List.getElem?_eq_getElem (by omega)] at g4
  have g4 : DataW.trod enc Try.prog W 0 sp hd m 2 [c4] = some (ys[4]'(by omega)) := g4
  have g5 : DataW.trod enc Try.prog W 0 sp hd m 9 (List.take (Try.prog.cellsOf 9) [c5, c6, c7, c8, c9, c10, c11, c12, c13]) = ys[5]? := hf 5 _ rfl
  rw [show Try.prog.cellsOf 9 = 1 by kernel_rfl, List.getElem?_eq_getElem (by omega)] at g5
  have g5 : DataW.trod enc Try.prog W 0 sp hd m 9 [c5] = some (ys[5]'(by omega)) := g5
  have g6 : DataW.trod enc Try.prog W 0 sp hd m 2 (List.take (Try.prog.cellsOf 2) [c6, c7, c8, c9, c10, c11, c12, c13]) = ys[6]? := hf 6 _ rfl
  rw [show Try.prog.cellsOf 2 = 1 by kernel_rfl, List.getElem?_eq_getElem (by omega)] at g6
  have g6 : DataW.trod enc Try.prog W 0 sp hd m 2 [c6] = some (ys[6]'(by omega)) := g6
  have g7 : DataW.trod enc Try.prog W 0 sp hd m 37 (List.take (Try.prog.cellsOf 37) [c7, c8, c9, c10, c11, c12, c13]) = ys[7]? := hf 7 _ rfl
  rw [show Try.prog.cellsOf 37 = 7 by kernel_rfl, List.getElem?_eq_getElem (by omega)] at g7
  have g7 : DataW.trod enc Try.prog W 0 sp hd m 37 [c7, c8, c9, c10, c11, c12, c13] = some (ys[7]'(by omega)) := g7
  obtain ⟨a0, e0, _, w0⟩ := DataW.trod_int Try.underlying5 g0
  have z0 := wf_u8' w0
  obtain ⟨n0, rfl⟩ : ∃ n : Nat, a0 = (n : Int) := ⟨a0.toNat, by omega⟩
  have q0 : c0 = .int .u8 (n0 : Int) := by injection e0
  obtain ⟨a1, e1, _, w1⟩ := DataW.trod_string Try.underlying9 g1
  have q1 : c1 = .string a1 := by injection e1
  obtain ⟨a2, e2, _, w2⟩ := DataW.trod_string Try.underlying9 g2
  have q2 : c2 = .string a2 := by injection e2
  obtain ⟨a3, e3, _, w3⟩ := DataW.trod_int Try.underlying2 g3
  have q3 : c3 = .int .i64 a3 := by injection e3
  obtain ⟨a4, e4, _, w4⟩ := DataW.trod_int Try.underlying2 g4
  have q4 : c4 = .int .i64 a4 := by injection e4
  obtain ⟨a5, e5, _, w5⟩ := DataW.trod_string Try.underlying9 g5
  have q5 : c5 = .string a5 := by injection e5
  obtain ⟨a6, e6, _, w6⟩ := DataW.trod_int Try.underlying2 g6
  have q6 : c6 = .int .i64 a6 := by injection e6
  obtain ⟨v, e7, w7⟩ := in_ver rfl g7 (hlty 7 (by omega))
  refine ⟨⟨n0, a1, a2, a3, a4, a5, a6, v⟩, ?_, ⟨by show n0 < 256; omega, w1, w2, wf_i64' w3, wf_i64' w4, w5, wf_i64' w6, w7⟩⟩
  rw [q0, q1, q2, q3, q4, q5, q6]
  show _ = Value.int .u8 (n0 : Int) :: Value.string a1 :: Value.string a2 :: Value.int .i64 a3 :: Value.int .i64 a4 :: Value.string a5 :: Value.int .i64 a6 :: verC v
  rw [← e7]

set_option maxRecDepth 100000 in
theorem arg_iact {base : Nat} {v : Value} {d : DataW H} {p : List MemPlace}
    (hok : Value.okWide Try.prog W .any base 39 v) (h : DataW.Trod enc Try.prog W 0 sp hd 39 v d p) (hlt : ∀ x ∈ p, x.block < W.heap.size) :
    ∃ a : Idx.IAct, v = iactV a ∧ IActWf a := by
  obtain ⟨cs, rfl, hsz⟩ := okWide_struct Try.underlying39 hok
  rw [show Try.prog.cellsOf 39 = 14 by kernel_rfl] at hsz
  obtain ⟨fuel, hf0⟩ := h
  obtain ⟨cs⟩ := cs
  have hdt : DataW.trod enc Try.prog W 0 sp hd fuel 39 cs = some (d, p) := by simpa [Value.cells] using hf0
  obtain ⟨a, e, hw⟩ := in_iact (x := (d, p)) hsz hdt hlt
  have e : cs = iactC a := e
  refine ⟨a, ?_, hw⟩
  rw [e]
  rfl

set_option maxRecDepth 100000 in
theorem in_iask {fuel : Nat} {cs : List Value} {x : DataW H × List MemPlace} (hl : cs.length = 8) (h : DataW.trod enc Try.prog W 0 sp hd fuel 47 cs = some x) (hlt : ∀ y ∈ x.2, y.block < W.heap.size) : ∃ a : IAsk, cs = iaskC a ∧ IAskWf a := by
  match cs, hl with
  | [c0, c1, c2, c3, c4, c5, c6, c7], _ =>
  obtain ⟨ys, m, _, hx, _, hyl, hf⟩ := DataW.trod_struct Try.underlying47 h
  have hys : ys.length = 8 := hyl
  have hpl : x.2 = ys.flatMap (·.2) := congrArg Prod.snd hx
  have hlty : ∀ (i : Nat) (hi : i < ys.length), ∀ q ∈ (ys[i]).2, q.block < W.heap.size := fun i hi q hq => hlt q (by rw [hpl]; exact List.mem_flatMap.2 ⟨_, List.getElem_mem hi, hq⟩)
  have g0 : DataW.trod enc Try.prog W 0 sp hd m 9 (List.take (Try.prog.cellsOf 9) [c0, c1, c2, c3, c4, c5, c6, c7]) = ys[0]? := hf 0 _ rfl
  rw [show Try.prog.cellsOf 9 = 1 by kernel_rfl, List.getElem?_eq_getElem (by omega)] at g0
  have g0 : DataW.trod enc Try.prog W 0 sp hd m 9 [c0] = some (ys[0]'(by omega)) := g0
  have g1 : DataW.trod enc Try.prog W 0 sp hd m 9 (List.take (Try.prog.cellsOf 9) [c1, c2, c3, c4, c5, c6, c7]) = ys[1]? := hf 1 _ rfl
  rw [show Try.prog.cellsOf 9 = 1 by kernel_rfl, List.getElem?_eq_getElem (by omega)] at g1
  have g1 : DataW.trod enc Try.prog W 0 sp hd m 9 [c1] = some (ys[1]'(by omega)) := g1
  have g2 : DataW.trod enc Try.prog W 0 sp hd m 9 (List.take (Try.prog.cellsOf 9) [c2, c3, c4, c5, c6, c7]) = ys[2]? := hf 2 _ rfl
  rw [show Try.prog.cellsOf 9 = 1 by kernel_rfl, List.getElem?_eq_getElem (by omega)] at g2
  have g2 : DataW.trod enc Try.prog W 0 sp hd m 9 [c2] = some (ys[2]'(by omega)) := g2
  have g3 : DataW.trod enc Try.prog W 0 sp hd m 2 (List.take (Try.prog.cellsOf 2) [c3, c4, c5, c6, c7]) = ys[3]? := hf 3 _ rfl
  rw [show Try.prog.cellsOf 2 = 1 by kernel_rfl, List.getElem?_eq_getElem (by omega)] at g3
  have g3 : DataW.trod enc Try.prog W 0 sp hd m 2 [c3] = some (ys[3]'(by omega)) := g3
  have g4 : DataW.trod enc Try.prog W 0 sp hd m 2 (List.take (Try.prog.cellsOf 2) [c4, c5, c6, c7]) = ys[4]? := hf 4 _ rfl
  rw [show Try.prog.cellsOf 2 = 1 by kernel_rfl, List.getElem?_eq_getElem (by omega)] at g4
  have g4 : DataW.trod enc Try.prog W 0 sp hd m 2 [c4] = some (ys[4]'(by omega)) := g4
  have g5 : DataW.trod enc Try.prog W 0 sp hd m 2 (List.take (Try.prog.cellsOf 2) [c5, c6, c7]) = ys[5]? := hf 5 _ rfl
  rw [show Try.prog.cellsOf 2 = 1 by kernel_rfl, List.getElem?_eq_getElem (by omega)] at g5
  have g5 : DataW.trod enc Try.prog W 0 sp hd m 2 [c5] = some (ys[5]'(by omega)) := g5
  have g6 : DataW.trod enc Try.prog W 0 sp hd m 3 (List.take (Try.prog.cellsOf 3) [c6, c7]) = ys[6]? := hf 6 _ rfl
  rw [show Try.prog.cellsOf 3 = 1 by kernel_rfl, List.getElem?_eq_getElem (by omega)] at g6
  have g6 : DataW.trod enc Try.prog W 0 sp hd m 3 [c6] = some (ys[6]'(by omega)) := g6
  have g7 : DataW.trod enc Try.prog W 0 sp hd m 2 (List.take (Try.prog.cellsOf 2) [c7]) = ys[7]? := hf 7 _ rfl
  rw [show Try.prog.cellsOf 2 = 1 by kernel_rfl, List.getElem?_eq_getElem (by omega)] at g7
  have g7 : DataW.trod enc Try.prog W 0 sp hd m 2 [c7] = some (ys[7]'(by omega)) := g7
  obtain ⟨a0, e0, _, w0⟩ := DataW.trod_string Try.underlying9 g0
  have q0 : c0 = .string a0 := by injection e0
  obtain ⟨a1, e1, _, w1⟩ := DataW.trod_string Try.underlying9 g1
  have q1 : c1 = .string a1 := by injection e1
  obtain ⟨a2, e2, _, w2⟩ := DataW.trod_string Try.underlying9 g2
  have q2 : c2 = .string a2 := by injection e2
  obtain ⟨a3, e3, _, w3⟩ := DataW.trod_int Try.underlying2 g3
  have q3 : c3 = .int .i64 a3 := by injection e3
  obtain ⟨a4, e4, _, w4⟩ := DataW.trod_int Try.underlying2 g4
  have q4 : c4 = .int .i64 a4 := by injection e4
  obtain ⟨a5, e5, _, w5⟩ := DataW.trod_int Try.underlying2 g5
  have q5 : c5 = .int .i64 a5 := by injection e5
  obtain ⟨a6, e6, _, w6⟩ := DataW.trod_int Try.underlying3 g6
  have q6 : c6 = .int .i64 a6 := by injection e6
  obtain ⟨a7, e7, _, w7⟩ := DataW.trod_int Try.underlying2 g7
  have q7 : c7 = .int .i64 a7 := by injection e7
  refine ⟨⟨a0, a1, a2, a3, a4, a5, a6, a7⟩, ?_, ⟨w0, w1, w2, wf_i64' w3, wf_i64' w4, wf_i64' w5, wf_i64' w6, wf_i64' w7⟩⟩
  rw [q0, q1, q2, q3, q4, q5, q6, q7]
  rfl

set_option maxRecDepth 100000 in
theorem arg_iask {base : Nat} {v : Value} {d : DataW H} {p : List MemPlace}
    (hok : Value.okWide Try.prog W .any base 47 v) (h : DataW.Trod enc Try.prog W 0 sp hd 47 v d p) (hlt : ∀ x ∈ p, x.block < W.heap.size) :
    ∃ a : IAsk, v = iaskV a ∧ IAskWf a := by
  obtain ⟨cs, rfl, hsz⟩ := okWide_struct Try.underlying47 hok
  rw [show Try.prog.cellsOf 47 = 8 by kernel_rfl] at hsz
  obtain ⟨fuel, hf0⟩ := h
  obtain ⟨cs⟩ := cs
  have hdt : DataW.trod enc Try.prog W 0 sp hd fuel 47 cs = some (d, p) := by simpa [Value.cells] using hf0
  obtain ⟨a, e, hw⟩ := in_iask (x := (d, p)) hsz hdt hlt
  have e : cs = iaskC a := e
  refine ⟨a, ?_, hw⟩
  rw [e]
  rfl

set_option maxRecDepth 100000 in
theorem arg_iacts {base : Nat} {v : Value} {d : DataW H} {p : List MemPlace}
    (hok : Value.okWide Try.prog W .any base 26 v) (h : DataW.Trod enc Try.prog W 0 sp hd 26 v d p) (hlt : ∀ x ∈ p, x.block < W.heap.size) :
    ∃ (A : Option Addr) (len cap : Nat) (K : Nat → Idx.IAct), v = .slice A len cap ∧ len ≤ cap ∧ cap ≤ maxLen ∧ IActs W A len K ∧ ∀ j, j < len → IActWf (K j) := by
  obtain ⟨A, len, cap, n, Cs, D, rfl, hl, hm, hrow, hel⟩ := arg_slice_in Try.underlying26 (show Try.prog.cellsOf 39 = 14 by kernel_rfl) (by omega) hok h hlt
  obtain ⟨R, hR⟩ := Classical.axiomOfChoice (r := fun j (x : Idx.IAct) => j < len → Cs j = iactC x ∧ IActWf x) (fun j => by
    by_cases hj : j < len
    · obtain ⟨hlen, pl, hdt, hp⟩ := hel j hj
      obtain ⟨x, h1, h2⟩ := in_iact (x := (D j, pl)) hlen hdt hp
      exact ⟨x, fun _ => ⟨h1, h2⟩⟩
    · exact ⟨⟨0, ⟨#[]⟩, ⟨#[]⟩, 0, 0, ⟨#[]⟩, 0, His.none_⟩, fun h => absurd h hj⟩)
  refine ⟨A, len, cap, R, rfl, hl, hm, fun hpos => ?_, fun j hj => (hR j hj).2⟩
  obtain ⟨g, off, e, hg, hc⟩ := hrow hpos
  exact ⟨g, off, e, hg, fun j hj i u hu => hc j hj i u (by rw [(hR j hj).1]; exact hu)⟩
end

theorem IActs.below {W W' : World} {A : Option Addr} {len : Nat} {K : Nat → Idx.IAct} (h : IActs W A len K) (hb : Below W.heap.size W W') : IActs W' A len K := fun h0 => by
  obtain ⟨g, off, e, hg, hc⟩ := h h0
  exact ⟨g, off, e, Nat.lt_of_lt_of_le hg hb.size, fun j hj i u hu => (World.cell?_of_block (hb.block g hg)).trans (hc j hj i u hu)⟩

/-- The cells of an act. -/
theorem IActs.cells {W : World} {A : Option Addr} {len : Nat} {K : Nat → Idx.IAct} (h : IActs W A len K) {k : Nat} (hk : k < len) : ∃ g off, A = some ⟨g, off, none⟩ ∧
    W.cell? ⟨g, off + k * 14, none⟩ = some (.int .u8 ((K k).kind : Int)) ∧ W.cell? ⟨g, off + k * 14 + 1, none⟩ = some (.string (K k).k) ∧ W.cell? ⟨g, off + k * 14 + 2, none⟩ = some (.string (K k).e) ∧ W.cell? ⟨g, off + k * 14 + 3, none⟩ = some (.int .i64 (K k).r) ∧ W.cell? ⟨g, off + k * 14 + 4, none⟩ = some (.int .i64 (K k).m) ∧ W.cell? ⟨g, off + k * 14 + 5, none⟩ = some (.string (K k).s) ∧ W.cell? ⟨g, off + k * 14 + 6, none⟩ = some (.int .i64 (K k).l) ∧ W.cell? ⟨g, off + k * 14 + 7, none⟩ = some (.int .i64 (K k).v.r) ∧ W.cell? ⟨g, off + k * 14 + 8, none⟩ = some (.int .i64 (K k).v.k) ∧ W.cell? ⟨g, off + k * 14 + 9, none⟩ = some (.int .i64 (K k).v.m) ∧ W.cell? ⟨g, off + k * 14 + 10, none⟩ = some (.int .i64 (K k).v.v) ∧ W.cell? ⟨g, off + k * 14 + 11, none⟩ = some (.string (K k).v.s) ∧ W.cell? ⟨g, off + k * 14 + 12, none⟩ = some (.int .i64 (K k).v.l) ∧ W.cell? ⟨g, off + k * 14 + 13, none⟩ = some (.bool (K k).v.g) := by
  obtain ⟨g, off, e, _, hc⟩ := h (by omega)
  have hx := hc k hk
  exact ⟨g, off, e, hx 0 _ rfl, hx 1 _ rfl, hx 2 _ rfl, hx 3 _ rfl, hx 4 _ rfl, hx 5 _ rfl, hx 6 _ rfl, hx 7 _ rfl, hx 8 _ rfl, hx 9 _ rfl, hx 10 _ rfl, hx 11 _ rfl, hx 12 _ rfl, hx 13 _ rfl⟩

end Go.Proofs.Ytcoddkbbgmjckaa

namespace Go.Proofs.Ytcoddkbbgmjckaa
open Go.RowKit
set_option linter.unusedVariables false
set_option linter.unusedSimpArgs false
attribute [local go_sem] Oper.semAt_some

theorem aw15_1 : Idx.putI [] ⟨#[97]⟩ 5 5 ⟨#[118]⟩ 0 = some [(⟨#[97]⟩, [⟨5, 5, 5, 1, ⟨#[118]⟩, 0, false⟩])] := by decide +kernel
theorem aw15_2 : Idx.liveI [(⟨#[97]⟩, [⟨5, 5, 5, 1, ⟨#[118]⟩, 0, false⟩])] ⟨#[97]⟩ = some ⟨5, 5, 5, 1, ⟨#[118]⟩, 0, false⟩ := by decide +kernel
theorem aw15_3 : Idx.keyB ⟨#[97]⟩ = true := by decide +kernel
theorem aw15_4 : Idx.keyB ⟨#[97, 32, 98]⟩ = false := by decide +kernel
theorem aw15_5 : His.rightL [⟨5, 5, 5, 1, ⟨#[118]⟩, 0, false⟩] = true := by decide +kernel
theorem aw15_fit : Fit [(⟨#[97]⟩, [⟨5, 5, 5, 1, ⟨#[118]⟩, 0, false⟩])] :=
  ⟨⟨List.pairwise_singleton _ _, fun p hp => by rw [List.mem_singleton] at hp; subst hp; exact aw15_3, fun p hp => by rw [List.mem_singleton] at hp; subst hp; exact (His.right_iff _).1 aw15_5, fun p hp => by rw [List.mem_singleton] at hp; subst hp; simp⟩, by simp, by decide +kernel⟩
theorem fit_nil : Fit [] := ⟨Idx.wf_nil, by simp, by decide +kernel⟩

set_option maxRecDepth 100000 in
set_option maxHeartbeats 3200000 in
theorem awake15_any (S : Says) (w : World) : Calls Try.prog 13 #[] w fun e w' => e = .returned (.bool true) ∧ Below w.heap.size w w' := by
  have hP := fun W (h : Ixp W none []) => S.put none [] ⟨#[97]⟩ 5 5 ⟨#[118]⟩ 0 W h fit_nil (by unfold maxLen; decide)
  have hL := fun u W (h : Ixp W u [(⟨#[97]⟩, [⟨5, 5, 5, 1, ⟨#[118]⟩, 0, false⟩])]) => S.live u _ ⟨#[97]⟩ W h aw15_fit (by unfold maxLen; decide)
  have hK1 := fun W => S.key ⟨#[97]⟩ W (by unfold maxLen; decide)
  have hK2 := fun W => S.key ⟨#[97, 32, 98]⟩ W (by unfold maxLen; decide)
  rw [aw15_3] at hK1
  rw [aw15_4] at hK2
  rw [aw15_1] at hP
  rw [show Idx.errS (some ([(⟨#[97]⟩, [⟨5, 5, 5, 1, ⟨#[118]⟩, 0, false⟩])] : List Idx.KH)) = 0 from rfl] at hP
  dsimp only [Option.getD] at hP
  rw [aw15_2] at hL
  unfold atV at hL
  dsimp only [verV, Option.getD, Option.isSome] at hL
  have HL := Lib.hid hL
  have hz : Ixp (w.alloc (.cells #[.pointer none] 32)) none [] := Ixp.zero _
  have hP1 := hP _ hz
  have hb0 : Below w.heap.size w (w.alloc (.cells #[.pointer none] 32)) := (Below.refl _ _).alloc (Nat.le_refl _) _
  clear hL hP hz
  go_enter Try.func13, Try.ntmps13
  go_wp2_with fail
  refine hP1.mono ?_
  rintro e w2 ⟨u, rfl, hI, hb2⟩
  have hb2 := hb0.trans (hb2.mono hb0.size)
  have hb3 := hb2.alloc (o := .cells #[.pointer u] 32) hb2.size
  have hL2 := HL.out u (w2.alloc (.cells #[.pointer u] 32)) (hI.below ((Below.refl _ _).alloc (Nat.le_refl _) _))
  have HB := Lib.hid hb3
  clear hP1 hI hb0 hb2 hb3
  go_wp2_with fail
  refine hL2.mono ?_
  rintro e w3 ⟨rfl, hb3⟩
  have hb4 := HB.out.trans (hb3.mono HB.out.size)
  have hr4 := heap_alloc_new w3 (.cells #[.int .i64 5, .int .i64 5, .int .i64 5, .int .i64 1, .string ⟨#[118]⟩, .int .i64 0, .bool false] 37)
  have hb5 := hb4.alloc (o := .cells #[.int .i64 5, .int .i64 5, .int .i64 5, .int .i64 1, .string ⟨#[118]⟩, .int .i64 0, .bool false] 37) hb4.size
  obtain ⟨W5, hW5⟩ : ∃ W5, w3.alloc (.cells #[.int .i64 5, .int .i64 5, .int .i64 5, .int .i64 1, .string ⟨#[118]⟩, .int .i64 0, .bool false] 37) = W5 := ⟨_, rfl⟩
  rw [hW5] at hr4 hb5
  have HW := Lib.hid hW5
  have H5 := Lib.hid (And.intro hb5 hr4)
  obtain ⟨x0, x1, x2, x3, x4, x5, x6⟩ := (row7 hr4).1
  clear hL2 hb3 hb4 hr4 hb5 hW5
  go_upto_region 4 with fail
  rw [HW.out]
  clear HW
  go_wp2_with fail
  refine (hK1 _).mono ?_
  rintro e w6 ⟨rfl, hb6⟩
  have hb7 := H5.out.1.trans (hb6.mono H5.out.1.size)
  obtain ⟨y0, y1, y2, y3, y4, y5, y6⟩ := (row7 ((hb6.block _ (hlt H5.out.2)).trans H5.out.2)).1
  clear x0 x1 x2 x3 x4 x5 x6 hb6 hK1
  go_wp2_with fail
  refine (hK2 _).mono ?_
  rintro e w8 ⟨rfl, hb8⟩
  have hb9 := hb7.trans (hb8.mono hb7.size)
  clear y0 y1 y2 y3 y4 y5 y6 hb8 hb7
  go_wp2
  go_ret
  exact ⟨rfl, hb9⟩

end Go.Proofs.Ytcoddkbbgmjckaa

namespace Go.Proofs.Ytcoddkbbgmjckaa
open Go.RowKit
set_option linter.unusedVariables false
set_option linter.unusedSimpArgs false
attribute [local go_sem] Oper.semAt_some

set_option maxRecDepth 100000 in
set_option maxHeartbeats 3200000 in
theorem delR_any (A : Option Addr) (len cap : Nat) (l : List Ver) (r m : Int) (w : World) (h : Vers w A len l) (hm : len ≤ 900000) :
    Calls Try.prog 80 #[.slice A len cap, .int .i64 r, .int .i64 m] w fun e w' => ∃ R n c, e = .returned (.tuple #[.slice R n c, .int .i64 (His.delL l r m).2]) ∧ Own14 w w' R n c (His.delL l r m).1 ∧ Below w.heap.size w w' := by
  have hll := h.1
  have hA := addR_any A len cap l (His.goneV r m) w h hm
  have HV := Lib.hid h
  have hdel : His.delL l r m = match His.addL l (His.goneV r m) with | none => ([], 1) | some o => match l.getLast? with | some y => if y.g = true then ([], 6) else (o, 0) | none => ([], 6) := rfl
  clear h
  dsimp only [verV, His.goneV] at hA
  go_enter Try.func80, Try.ntmps80
  go_wp2_with fail
  refine hA.mono ?_
  rintro e w2 ⟨R, n, c, rfl, hO, hb2⟩
  have HB := Lib.hid hb2
  clear hA hb2
  have hg : (⟨r, 0, m, 0, ⟨#[]⟩, 0, true⟩ : Ver) = His.goneV r m := rfl
  rw [hg] at hO ⊢
  cases ho : His.addL l (His.goneV r m) with
  | none =>
    rw [ho] at hdel
    have HE := Lib.hid hdel
    clear hdel hO
    dsimp only [Option.isSome]
    go_wp2
    refine bodyPost_ret (results_tmp2 rfl _ _ _) rfl ?_
    exact ⟨none, 0, 0, by rw [HE.out]; rfl, by rw [HE.out]; exact Own14.none _ _, HB.out⟩
  | some o =>
    rw [ho] at hdel hO
    have HO := Lib.hid hO
    clear hO
    dsimp only [Option.isSome] at *
    by_cases h0 : len = 0
    · obtain rfl : l = [] := List.eq_nil_of_length_eq_zero (by omega)
      have HE := Lib.hid (show His.delL [] r m = ([], 6) from hdel)
      have l1 : ((len : Int) == 0) = true := by rw [h0]; rfl
      clear hdel
      subst h0
      go_wp2
      refine bodyPost_ret (results_tmp2 rfl _ _ _) rfl ?_
      exact ⟨none, 0, 0, by rw [HE.out]; rfl, by rw [HE.out]; exact Own14.none _ _, HB.out⟩
    · have l1 : ((len : Int) == 0) = false := beq_eq_false_iff_ne.2 (by omega)
      have l2 : (len == 0) = false := beq_eq_false_iff_ne.2 h0
      have k3 : IntKind.i64.wrap ((len : Int) - 1) = ((len - 1 : Nat) : Int) := by rw [IntWalk.i64_in _ (by omega)]; omega
      have k4 : ((len - 1 : Nat) : Int) < (len : Int) := by omega
      obtain ⟨g, off, rfl, hg2, hc⟩ := (HV.out.below HB.out).2 (by omega)
      have c6 := (hc (len - 1) (by omega)).2.2.2.2.2.2
      have hlast : l.getLast? = l[len - 1]? := by rw [List.getLast?_eq_getElem?, hll]
      rw [List.getElem?_eq_getElem (show len - 1 < l.length by omega)] at hlast
      obtain ⟨y, hy⟩ : ∃ y, l[len - 1]'(by omega) = y := ⟨_, rfl⟩
      rw [hy] at c6 hlast
      rw [hlast] at hdel
      clear hc hy hlast
      generalize len - 1 = k' at *
      cases hyg : y.g with
      | true =>
        rw [hyg] at c6
        have HE := Lib.hid (show His.delL l r m = ([], 6) from hdel.trans (if_pos hyg))
        clear hdel hyg
        go_wp2
        refine bodyPost_ret (results_tmp2 rfl _ _ _) rfl ?_
        exact ⟨none, 0, 0, by rw [HE.out]; rfl, by rw [HE.out]; exact Own14.none _ _, HB.out⟩
      | false =>
        rw [hyg] at c6
        have HE := Lib.hid (show His.delL l r m = (o, 0) from hdel.trans (if_neg (by rw [hyg]; decide)))
        clear hdel hyg
        go_wp2
        refine bodyPost_ret (results_tmp2 rfl _ _ _) rfl ?_
        exact ⟨R, n, c, by rw [HE.out]; rfl, by rw [HE.out]; exact HO.out, HB.out⟩

end Go.Proofs.Ytcoddkbbgmjckaa
