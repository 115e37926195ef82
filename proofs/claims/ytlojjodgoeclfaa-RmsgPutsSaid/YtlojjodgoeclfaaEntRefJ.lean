/- The document's HardFrom, by its contract. -/
import Derived.Test.YtlojjodgoeclfaaEntRefH
namespace Go.Proofs.Ytlojjodgoeclfaa
open Go.RowKit
set_option linter.unusedVariables false
set_option linter.unusedSimpArgs false

/-- What a HardFrom answers. -/
structure HardL where
  t : Int
  v : Int
  s : St
def hardFromN (s : St) : HardL :=
  if (numberN (numberN s 8).2 8).2 = none then ⟨0, 0, none⟩ else
  if hardB (IntKind.i64.wrap ((numberN s 8).1 : Int)) (IntKind.i64.wrap ((numberN (numberN s 8).2 8).1 : Int)) = true then ⟨IntKind.i64.wrap ((numberN s 8).1 : Int), IntKind.i64.wrap ((numberN (numberN s 8).2 8).1 : Int), (numberN (numberN s 8).2 8).2⟩ else ⟨0, 0, none⟩

/-- The answer stored. -/
theorem Three3.fin2 {T : TypeId} {w W : World} {b : Nat} {x0 x1 y0 y1 : Value} {C0 : Array Value} (h : Three3 T w W b C0 #[x0, x1] #[y0, y1]) (a0 a1 c0 c1 : Value) :
    Three3 T w ((((W.setCell ⟨b + 1, 0, none⟩ a0).setCell ⟨b + 1, 1, none⟩ a1).setCell ⟨b + 1 + 1, 0, none⟩ c0).setCell ⟨b + 1 + 1, 1, none⟩ c1) b C0 #[a0, a1] #[c0, c1] := by
  have e1 := set2_at W (b + 1) a0 a1 x0 x1 T h.r1
  have hle := h.le
  refine ⟨?_, ?_, ?_, ?_, h.le⟩
  · exact (Below.heap_setCell _ _ _ _ (by show b ≠ b + 1 + 1; omega)).trans ((Below.heap_setCell _ _ _ _ (by show b ≠ b + 1 + 1; omega)).trans ((Below.heap_setCell _ _ _ _ (by show b ≠ b + 1; omega)).trans ((Below.heap_setCell _ _ _ _ (by show b ≠ b + 1; omega)).trans h.r0)))
  · exact (Below.heap_setCell _ _ _ _ (by show b + 1 ≠ b + 1 + 1; omega)).trans ((Below.heap_setCell _ _ _ _ (by show b + 1 ≠ b + 1 + 1; omega)).trans e1)
  · exact two_set _ _ _ _ _ _ _ ((Below.heap_setCell _ _ _ _ (by show b + 1 + 1 ≠ b + 1; omega)).trans ((Below.heap_setCell _ _ _ _ (by show b + 1 + 1 ≠ b + 1; omega)).trans h.r2))
  · exact (((h.below.setCell (by show _ ≤ b + 1; omega) _).setCell (by show _ ≤ b + 1; omega) _).setCell (by show _ ≤ b + 1 + 1; omega) _).setCell (by show _ ≤ b + 1 + 1; omega) _

end Go.Proofs.Ytlojjodgoeclfaa
