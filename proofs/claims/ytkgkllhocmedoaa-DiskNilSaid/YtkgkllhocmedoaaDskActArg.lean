/- One act that a law is called with. -/
import Derived.Test.YtkgkllhocmedoaaDskActs
namespace Go.Proofs.Ytkgkllhocmedoaa
open Go.ChangeShapes Go.WideShapes Go.ChangeAt Go.RowKit Go.Deep
set_option linter.unusedVariables false
set_option linter.unusedSimpArgs false

section
variable {H : Type} {enc : TypeId × Value → H} {W : World} {sp : Nat → Bool} {hd : Bool}

set_option maxRecDepth 100000 in
theorem arg_act {base : Nat} {v : Value} {d : DataW H} {p : List MemPlace}
    (hok : Value.okWide Try.prog W .any base 37 v) (h : DataW.Trod enc Try.prog W 0 sp hd 37 v d p) (hlt : ∀ x ∈ p, x.block < W.heap.size) :
    ∃ r : Act, v = actV r ∧ ActIn W (· < W.heap.size) r ∧ r.name.size ≤ maxLen ∧ r.to_.size ≤ maxLen ∧ r.klen ≤ maxLen := by
  obtain ⟨cs, rfl, hsz, _⟩ : ∃ cs, v = .agg cs ∧ cs.size = Try.prog.cellsOf 37 ∧ Row.okWide Try.prog W .any base 37 cs := by
    simpa [Value.okWide, Try.underlying37] using hok
  rw [show Try.prog.cellsOf 37 = 6 by kernel_rfl] at hsz
  obtain ⟨l⟩ := cs
  obtain ⟨c0, c1, c2, c3, c4, c5, rfl⟩ : ∃ c0 c1 c2 c3 c4 c5, l = [c0, c1, c2, c3, c4, c5] := by
    rcases l with _ | ⟨a, _ | ⟨b, _ | ⟨c, _ | ⟨d, _ | ⟨e, _ | ⟨f, _ | ⟨_, _⟩⟩⟩⟩⟩⟩⟩ <;> simp at hsz
    exact ⟨a, b, c, d, e, f, rfl⟩
  obtain ⟨fuel, hf0⟩ := h
  obtain ⟨m, hf⟩ := arg_fields_in (W := W) (cs := [c0, c1, c2, c3, c4, c5]) Try.underlying37 (by kernel_rfl) rfl hf0 hlt
  obtain ⟨v0, y0, g0, t0, _⟩ := hf 0 _ rfl
  obtain ⟨v1, y1, g1, t1, _⟩ := hf 1 _ rfl
  obtain ⟨v2, y2, g2, t2, _⟩ := hf 2 _ rfl
  obtain ⟨v3, y3, g3, t3, l3⟩ := hf 3 _ rfl
  obtain ⟨v4, y4, g4, t4, _⟩ := hf 4 _ rfl
  obtain ⟨v5, y5, g5, t5, l5⟩ := hf 5 _ rfl
  obtain ⟨k, e0, _, hk⟩ := DataW.trod_int Try.underlying5 t0
  obtain ⟨s1, e1, _, hs1⟩ := DataW.trod_string Try.underlying9 t1
  obtain ⟨s2, e2, _, hs2⟩ := DataW.trod_string Try.underlying9 t2
  obtain ⟨bA, blen, bcap, bL, e3, hbc, hbl, hbz⟩ := in_bytes Try.underlying34 Try.underlying5 (by kernel_rfl) t3 l3
  obtain ⟨nn, e4, _, hn⟩ := DataW.trod_int Try.underlying3 t4
  obtain ⟨kA, klen, kcap, kY, e5, hkl, hkc, _, hkr, hkw⟩ := in_ints Try.underlying35 Try.underlying3 (by kernel_rfl) t5 l5
  have hk2 := wf_u8' hk
  have hn2 := wf_i64' hn
  obtain ⟨kn, rfl⟩ := Int.eq_ofNat_of_zero_le hk2.1
  obtain rfl : bL.length = blen := hbl.1
  refine ⟨⟨kn, s1, s2, bA, bcap, bL, nn, kA, klen, kcap, kY⟩, ?_, ⟨hbl, hbz, ⟨fun j hj => wf_i64' (hkw j hj), hkr⟩, fun h0 x e => ?_, hn2, by dsimp only; omega, hbc, hkl⟩, hs1, hs2, Nat.le_trans hkl hkc⟩
  · have e0' : v0 = .int .u8 (kn : Int) := by injection e0
    have e1' : v1 = .string s1 := by injection e1
    have e2' : v2 = .string s2 := by injection e2
    have e4' : v4 = .int .i64 nn := by injection e4
    subst e0' e1' e2' e3 e4' e5
    injection g0 with g0; injection g1 with g1; injection g2 with g2; injection g3 with g3; injection g4 with g4; injection g5 with g5
    subst g0 g1 g2 g3 g4 g5
    rfl
  · obtain ⟨b, off, e6, hb, _⟩ := hkr h0
    dsimp only at e
    rw [e6] at e
    injection e with e
    subst e
    exact hb
end

end Go.Proofs.Ytkgkllhocmedoaa
