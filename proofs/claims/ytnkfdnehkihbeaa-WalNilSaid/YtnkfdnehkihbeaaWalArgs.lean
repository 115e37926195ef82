/- Records that a law is called with. -/
import Derived.Test.YtnkfdnehkihbeaaWalRecs
namespace Go.Proofs.Ytnkfdnehkihbeaa
open Go.ChangeShapes Go.WideShapes Go.ChangeAt Go.RowKit Go.Deep
set_option linter.unusedVariables false
set_option linter.unusedSimpArgs false

section
variable {H : Type} {enc : TypeId × Value → H} {W : World} {sp : Nat → Bool} {hd : Bool}

set_option maxRecDepth 100000 in
theorem arg_recs {base : Nat} {v : Value} {d : DataW H} {p : List MemPlace}
    (hok : Value.okWide Try.prog W .any base 29 v) (h : DataW.Trod enc Try.prog W 0 sp hd 29 v d p) (hlt : ∀ x ∈ p, x.block < W.heap.size) :
    ∃ (A : Option Addr) (len cap : Nat) (ls : List (List UInt8)), v = .slice A len cap ∧ cap ≤ maxLen ∧ Recs W (· < W.heap.size) A len cap ls := by
  have hnone : ∀ (c : Nat) (len : Nat), v = .slice none len c → c = 0 := fun c len e => by
    subst e
    obtain ⟨fuel, hf⟩ := h
    rcases open_slice Try.underlying29 hf with ⟨hcs, hx⟩ | ⟨a, len', cap', m, n, D, Pl, hcs, _⟩
    · simp [Value.cells] at hcs; omega
    · simp [Value.cells] at hcs
  obtain ⟨A, len, cap, n, Cs, D, rfl, hl, hm, hrow, hel⟩ := arg_slice_in Try.underlying29 (by kernel_rfl) (C := 1) (by omega) hok h hlt
  obtain ⟨R, hR⟩ := Classical.axiomOfChoice (r := fun j r => j < len → ∃ E c, Cs j = [.slice E r.length c] ∧ c ≤ maxLen ∧ Lies W E r.length c r ∧ (0 < r.length → ∀ a, E = some a → a.block < W.heap.size)) (fun j => by
    by_cases hj : j < len
    · obtain ⟨hcl, pl, hd, hp⟩ := hel j hj
      obtain ⟨v, hv⟩ : ∃ v, Cs j = [v] := by
        cases hc : Cs j with
        | nil => rw [hc] at hcl; simp at hcl
        | cons v t =>
          rw [hc] at hcl
          cases t with
          | nil => exact ⟨v, rfl⟩
          | cons _ _ => simp at hcl
      rw [hv] at hd
      obtain ⟨E, el, c, r, rfl, hc, hlies, hz⟩ := in_bytes Try.underlying22 Try.underlying5 (by kernel_rfl) hd hp
      obtain rfl : r.length = el := hlies.1
      exact ⟨r, fun _ => ⟨E, c, hv, hc, hlies, hz⟩⟩
    · exact ⟨[], fun h => absurd h hj⟩)
  refine ⟨A, len, cap, (List.range len).map R, rfl, hm, by simp, hl, fun e => hnone cap len (by rw [e]), fun hpos => ?_⟩
  obtain ⟨g, off, e, hg, hc⟩ := hrow hpos
  refine ⟨g, off, e, hg, hg, fun j hj => ?_⟩
  have hj' : j < len := by simpa using hj
  obtain ⟨E, c, e1, e2, e3, e4⟩ := hR j hj'
  refine ⟨.slice E (R j).length c, ?_, ?_⟩
  · have := hc j hj' 0 (.slice E (R j).length c) (by rw [e1]; rfl)
    rwa [Nat.mul_one, Nat.add_zero] at this
  · simp only [List.getElem_map, List.getElem_range]
    exact ⟨E, c, rfl, e2, e3, fun h0 g off e => e4 h0 _ e⟩
end

end Go.Proofs.Ytnkfdnehkihbeaa
