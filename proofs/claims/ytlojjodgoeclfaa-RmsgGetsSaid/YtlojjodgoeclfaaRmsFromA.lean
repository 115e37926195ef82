/- What stores leave of the other blocks. -/
import Derived.Test.YtlojjodgoeclfaaRmsTake
import Derived.Test.YtlojjodgoeclfaaRmsRightR
import Derived.Test.YtlojjodgoeclfaaEntRefI
namespace Go.Proofs.Ytlojjodgoeclfaa
open Go.RowKit
set_option linter.unusedVariables false
set_option linter.unusedSimpArgs false

/-- All but two blocks is as it was. -/
structure Near (W X : World) (p q : Nat) : Prop where
  os : X.os = W.os
  tape : X.tape = W.tape
  output : X.output = W.output
  size : X.heap.size = W.heap.size
  off : ∀ k, k ≠ p → k ≠ q → X.heap[k]? = W.heap[k]?

theorem Near.refl (W : World) (p q : Nat) : Near W W p q := ⟨rfl, rfl, rfl, rfl, fun _ _ _ => rfl⟩

theorem Near.fst {W X : World} {p q : Nat} (h : Near W X p q) (j : Nat) (v : Value) : Near W (X.setCell ⟨p, j, none⟩ v) p q :=
  ⟨h.os, h.tape, h.output, by simpa using h.size, fun k h1 h2 => (Below.heap_setCell _ _ _ _ (by exact h1)).trans (h.off k h1 h2)⟩

theorem Near.snd {W X : World} {p q : Nat} (h : Near W X p q) (j : Nat) (v : Value) : Near W (X.setCell ⟨q, j, none⟩ v) p q :=
  ⟨h.os, h.tape, h.output, by simpa using h.size, fun k h1 h2 => (Below.heap_setCell _ _ _ _ (by exact h2)).trans (h.off k h1 h2)⟩

theorem Near.below {W X w0 : World} {p q B : Nat} (h : Near W X p q) (hb : Below B w0 W) (hp : B ≤ p) (hq : B ≤ q) : Below B w0 X :=
  ⟨h.os.trans hb.os, h.tape.trans hb.tape, h.output.trans hb.output, Nat.le_trans hb.size (Nat.le_of_eq h.size.symm), fun k hk => (h.off k (by omega) (by omega)).trans (hb.block k hk)⟩

theorem Near.row {W X : World} {p q k : Nat} {O : Obj} (h : Near W X p q) (hk : W.heap[k]? = some O) (h1 : k ≠ p) (h2 : k ≠ q) : X.heap[k]? = some O := (h.off k h1 h2).trans hk

/-- A block of two is stored. -/
theorem set_two {W : World} {p q : Nat} {x y x0 y0 : Value} {T : TypeId} (h : W.heap[p]? = some (.cells #[x0, y0] T)) : ((W.setCell ⟨p, 0, none⟩ x).setCell ⟨p, 1, none⟩ y).heap[p]? = some (.cells #[x, y] T) ∧ Near W ((W.setCell ⟨p, 0, none⟩ x).setCell ⟨p, 1, none⟩ y) p q :=
  ⟨set2_at W p x y x0 y0 T h, ((Near.refl W p q).fst 0 x).fst 1 y⟩

/-- A cell of one block, and a block of two. -/
theorem set_arr {W : World} {p b j : Nat} {v x y x0 y0 : Value} {C : Array Value} {T0 T4 : TypeId} (hne : p ≠ b) (h0 : W.heap[p]? = some (.cells #[x0, y0] T0)) (h4 : W.heap[b]? = some (.cells C T4)) :
    (((W.setCell ⟨b, j, none⟩ v).setCell ⟨p, 0, none⟩ x).setCell ⟨p, 1, none⟩ y).heap[p]? = some (.cells #[x, y] T0) ∧ (((W.setCell ⟨b, j, none⟩ v).setCell ⟨p, 0, none⟩ x).setCell ⟨p, 1, none⟩ y).heap[b]? = some (.cells (C.setIfInBounds j v) T4) ∧
      Near W (((W.setCell ⟨b, j, none⟩ v).setCell ⟨p, 0, none⟩ x).setCell ⟨p, 1, none⟩ y) p b := by
  refine ⟨set2_at _ p x y x0 y0 T0 ((Below.heap_setCell _ _ _ _ (by exact hne)).trans h0), ?_, (((Near.refl W p b).snd j v).fst 0 x).fst 1 y⟩
  exact (Below.heap_setCell _ _ _ _ (by exact hne.symm)).trans ((Below.heap_setCell _ _ _ _ (by exact hne.symm)).trans (setCell_at W ⟨b, j, none⟩ v C T4 (0, 0) rfl h4))

/-- Three cells of one block, and a block of two. -/
theorem set_tri {W : World} {p b j0 j1 j2 : Nat} {u0 u1 u2 x y x0 y0 : Value} {C : Array Value} {T0 T4 : TypeId} (hne : p ≠ b) (h0 : W.heap[p]? = some (.cells #[x0, y0] T0)) (h4 : W.heap[b]? = some (.cells C T4)) :
    (((((W.setCell ⟨b, j0, none⟩ u0).setCell ⟨b, j1, none⟩ u1).setCell ⟨b, j2, none⟩ u2).setCell ⟨p, 0, none⟩ x).setCell ⟨p, 1, none⟩ y).heap[p]? = some (.cells #[x, y] T0) ∧
    (((((W.setCell ⟨b, j0, none⟩ u0).setCell ⟨b, j1, none⟩ u1).setCell ⟨b, j2, none⟩ u2).setCell ⟨p, 0, none⟩ x).setCell ⟨p, 1, none⟩ y).heap[b]? = some (.cells (((C.setIfInBounds j0 u0).setIfInBounds j1 u1).setIfInBounds j2 u2) T4) ∧
      Near W (((((W.setCell ⟨b, j0, none⟩ u0).setCell ⟨b, j1, none⟩ u1).setCell ⟨b, j2, none⟩ u2).setCell ⟨p, 0, none⟩ x).setCell ⟨p, 1, none⟩ y) p b := by
  have h5 := setCell_at _ ⟨b, j2, none⟩ u2 _ T4 (0, 0) rfl (setCell_at _ ⟨b, j1, none⟩ u1 _ T4 (0, 0) rfl (setCell_at W ⟨b, j0, none⟩ u0 C T4 (0, 0) rfl h4))
  have hN := ((((((Near.refl W p b).snd j0 u0).snd j1 u1).snd j2 u2).fst 0 x).fst 1 y)
  refine ⟨set2_at _ p x y x0 y0 T0 ?_, ?_, hN⟩
  · exact (Below.heap_setCell _ _ _ _ (by exact hne)).trans ((Below.heap_setCell _ _ _ _ (by exact hne)).trans ((Below.heap_setCell _ _ _ _ (by exact hne)).trans h0))
  · exact (Below.heap_setCell _ _ _ _ (by exact hne.symm)).trans ((Below.heap_setCell _ _ _ _ (by exact hne.symm)).trans h5)

theorem set_one {W : World} {b j : Nat} {v : Value} {C : Array Value} {T4 : TypeId} (h4 : W.heap[b]? = some (.cells C T4)) : (W.setCell ⟨b, j, none⟩ v).heap[b]? = some (.cells (C.setIfInBounds j v) T4) ∧ Near W (W.setCell ⟨b, j, none⟩ v) b b :=
  ⟨setCell_at W ⟨b, j, none⟩ v C T4 (0, 0) rfl h4, (Near.refl W b b).fst j v⟩

theorem alloc4 (w : World) (O0 O1 O2 O3 : Obj) : ((((w.alloc O0).alloc O1).alloc O2).alloc O3).heap[w.heap.size]? = some O0 ∧ ((((w.alloc O0).alloc O1).alloc O2).alloc O3).heap[w.heap.size + 1]? = some O1 ∧ ((((w.alloc O0).alloc O1).alloc O2).alloc O3).heap[w.heap.size + 1 + 1]? = some O2 ∧
    ((((w.alloc O0).alloc O1).alloc O2).alloc O3).heap[w.heap.size + 1 + 1 + 1]? = some O3 ∧ Below w.heap.size w ((((w.alloc O0).alloc O1).alloc O2).alloc O3) := by
  have e1 : (w.alloc O0).heap.size = w.heap.size + 1 := by simp
  have e2 : ((w.alloc O0).alloc O1).heap.size = w.heap.size + 1 + 1 := by simp
  have e3 : (((w.alloc O0).alloc O1).alloc O2).heap.size = w.heap.size + 1 + 1 + 1 := by simp
  have n0 := heap_alloc_new w O0
  have n1 := heap_alloc_new (w.alloc O0) O1
  have n2 := heap_alloc_new ((w.alloc O0).alloc O1) O2
  have n3 := heap_alloc_new (((w.alloc O0).alloc O1).alloc O2) O3
  rw [e1] at n1
  rw [e2] at n2
  rw [e3] at n3
  refine ⟨?_, ?_, ?_, n3, ((((Below.refl _ _).alloc (Nat.le_refl _) _).alloc (by omega) _).alloc (by omega) _).alloc (by omega) _⟩
  · exact (Below.heap_alloc _ _ _ (by omega)).trans ((Below.heap_alloc _ _ _ (by omega)).trans ((Below.heap_alloc _ _ _ (by omega)).trans n0))
  · exact (Below.heap_alloc _ _ _ (by omega)).trans ((Below.heap_alloc _ _ _ (by omega)).trans n1)
  · exact (Below.heap_alloc _ _ _ (by omega)).trans n2

def sel4 {α : Type} (a b c d : α) : Nat → α
  | 0 => a
  | 1 => b
  | 2 => c
  | _ => d

def sel6 {α : Type} (a b c d e f : α) : Nat → α
  | 0 => a
  | 1 => b
  | 2 => c
  | 3 => d
  | 4 => e
  | _ => f

end Go.Proofs.Ytlojjodgoeclfaa
