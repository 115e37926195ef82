/- A slice of pairs of numbers that a law is called with: its cells. -/
import Derived.Test.YthjbieocffklfaaArgs
namespace Go.Proofs.Ythjbieocffklfaa
open Go.ChangeShapes Go.WideShapes Go.ChangeAt Go.RowKit Go.Deep

section
variable {H : Type} {enc : TypeId × Value → H} {P : Program} {W : World} {sp : Nat → Bool} {hd : Bool}

theorem arg_pairs {t e i : TypeId} {k : IntKind} {base : Nat} {v : Value} {d : DataW H} {p : List MemPlace} (ht : P.underlying t = some (.slice e)) (he : P.underlying e = some (.array 2 i)) (hi : P.underlying i = some (.int k)) (hC : P.cellsOf e = 2) (hCi : P.cellsOf i = 1)
    (hok : Value.okWide P W .any base t v) (h : DataW.Trod enc P W 0 sp hd t v d p) (hlt : ∀ x ∈ p, x.block < W.heap.size) :
    ∃ (A : Option Addr) (len cap : Nat) (X : Nat → Int × Int), v = .slice A len cap ∧ len ≤ cap ∧ cap ≤ maxLen ∧
      (0 < len → ∃ b off, A = some ⟨b, off, none⟩ ∧ b < W.heap.size ∧ ∀ j, j < len → W.cell? ⟨b, off + j * 2, none⟩ = some (.int k (X j).1) ∧ W.cell? ⟨b, off + j * 2 + 1, none⟩ = some (.int k (X j).2)) := by
  obtain ⟨A, len, cap, n, Cs, D, rfl, hl, hm, _, hrow, hel⟩ := arg_slice ht hC (by omega) hok h hlt
  obtain ⟨S, hS⟩ := Classical.axiomOfChoice (r := fun j z => j < len → Cs j = [.int k (Prod.fst z), .int k (Prod.snd z)]) (fun j => by
    by_cases hj : j < len
    · obtain ⟨hcl, pl, hd⟩ := hel j hj
      obtain ⟨xs, m, _, _, _, hxl, hx⟩ := DataW.trod_array he hd
      obtain ⟨a, b, hab⟩ : ∃ a b, Cs j = [a, b] := by
        rcases hq : Cs j with _ | ⟨a, _ | ⟨b, _ | ⟨_, _⟩⟩⟩ <;> simp [hq] at hcl
        exact ⟨a, b, rfl⟩
      have g0 := hx 0 (by omega)
      have g1 := hx 1 (by omega)
      rw [hCi, hab, List.getElem?_eq_getElem (by omega)] at g0 g1
      obtain ⟨z0, e0, _, _⟩ := DataW.trod_int hi g0
      obtain ⟨z1, e1, _, _⟩ := DataW.trod_int hi g1
      simp at e0 e1
      exact ⟨(z0, z1), fun _ => by rw [hab, e0, e1]⟩
    · exact ⟨(0, 0), fun h => absurd h hj⟩)
  refine ⟨A, len, cap, S, rfl, hl, hm, fun hpos => ?_⟩
  obtain ⟨b, off, hA, hb, hc⟩ := hrow hpos
  refine ⟨b, off, hA, hb, fun j hj => ⟨?_, ?_⟩⟩
  · have := hc j hj 0 (.int k (S j).1) (by rw [hS j hj]; rfl)
    rwa [Nat.add_zero] at this
  · exact hc j hj 1 (.int k (S j).2) (by rw [hS j hj]; rfl)
end

end Go.Proofs.Ythjbieocffklfaa
