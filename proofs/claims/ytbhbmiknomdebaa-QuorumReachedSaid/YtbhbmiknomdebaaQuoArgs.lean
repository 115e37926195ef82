/- Numbers that a law is called with. -/
import Derived.Test.YtbhbmiknomdebaaQuoOps
import Derived.Test.YtbhbmiknomdebaaArgs
namespace Go.Proofs.Ytbhbmiknomdebaa
open Go.RowKit Go.ChangeShapes Go.WideShapes Go.ChangeAt Go.Deep
set_option linter.unusedVariables false
set_option linter.unusedSimpArgs false

theorem wf_i64' {n : Int} (h : (Lit.int .i64 n).wf = true) : -9223372036854775808 ≤ n ∧ n ≤ 9223372036854775807 := by
  simpa [Lit.wf, IntKind.min, IntKind.max, IntKind.bits, IntKind.signed] using h
theorem wf_u8' {n : Int} (h : (Lit.int .u8 n).wf = true) : 0 ≤ n ∧ n < 256 := by
  have : 0 ≤ n ∧ n ≤ 255 := by simpa [Lit.wf, IntKind.min, IntKind.max, IntKind.bits, IntKind.signed] using h
  omega
theorem wf_u32' {n : Int} (h : (Lit.int .u32 n).wf = true) : 0 ≤ n ∧ n < 4294967296 := by
  have : 0 ≤ n ∧ n ≤ 4294967295 := by simpa [Lit.wf, IntKind.min, IntKind.max, IntKind.bits, IntKind.signed] using h
  omega

theorem nums_of {w : World} {A : Option Addr} {len : Nat} {Z : Nat → Int} (h : 0 < len → ∃ b off, A = some ⟨b, off, none⟩ ∧ b < w.heap.size ∧ ∀ j, j < len → w.cell? ⟨b, off + j, none⟩ = some (.int .i64 (Z j))) : Nums w A len ((List.range len).map Z) := by
  refine ⟨by simp, fun h0 => ?_⟩
  obtain ⟨b, off, e, hb, hc⟩ := h h0
  refine ⟨b, off, e, hb, fun j hj => ?_⟩
  have hj' : j < len := by simpa using hj
  simp only [List.getElem_map, List.getElem_range]
  exact hc j hj'

theorem nums_in {len : Nat} {Z : Nat → Int} (h : ∀ j, j < len → (Lit.int .i64 (Z j)).wf = true) : ∀ x ∈ (List.range len).map Z, In64 x := fun x hx => by
  obtain ⟨j, hj, rfl⟩ := List.mem_map.1 hx
  exact wf_i64' (h j (List.mem_range.1 hj))

theorem nums_none {H : Type} {enc : TypeId × Value → H} {W : World} {sp : Nat → Bool} {hd : Bool} {base : Nat} {A : Option Addr} {len cap : Nat} {d : DataW H} {p : List MemPlace} (hok : Value.okWide Try.prog W .any base 22 (.slice A len cap)) (h : DataW.Trod enc Try.prog W 0 sp hd 22 (.slice A len cap) d p) : A = none → cap = 0 := fun e => by
  subst e
  obtain ⟨fuel, hf⟩ := h
  rcases open_slice Try.underlying22 hf with ⟨hcs, hx⟩ | ⟨a, len', cap', m, n, D, Pl, hcs, _⟩
  · simp [Value.cells] at hcs; omega
  · simp [Value.cells] at hcs

end Go.Proofs.Ytbhbmiknomdebaa
