/- The list of all files, read one by one; Names of the program's disk, by its contract. -/
import Derived.Test.YtnkfdnehkihbeaaDskDeedE
namespace Go.Proofs.Ytnkfdnehkihbeaa
open Go.RowKit
set_option linter.unusedVariables false
set_option linter.unusedSimpArgs false

/-- A row of names and files. -/
def RP (w : World) (A : Option Addr) (l : List (ByteArray × FV)) : Prop :=
  0 < l.length → ∃ g, A = some ⟨g, 0, none⟩ ∧ g < w.heap.size ∧ ∀ j (hj : j < l.length),
    w.cell? ⟨g, j * 3, none⟩ = some (.string l[j].1) ∧ w.cell? ⟨g, j * 3 + 1, none⟩ = some (fvS l[j].2) ∧ w.cell? ⟨g, j * 3 + 2, none⟩ = some (fvN l[j].2)

theorem cellsL_at (l : List (ByteArray × FV)) : ∀ j (hj : j < l.length), (MapFl.cellsL l)[j * 3]? = some (.string l[j].1) ∧ (MapFl.cellsL l)[j * 3 + 1]? = some (fvS l[j].2) ∧ (MapFl.cellsL l)[j * 3 + 2]? = some (fvN l[j].2) := by
  induction l with
  | nil => intro j hj; simp at hj
  | cons f l ih =>
    intro j hj
    cases j with
    | zero => simp [MapFl.cellsL, List.flatMap_cons]
    | succ j =>
      have := ih j (by simpa using hj)
      have e : ∀ i, (MapFl.cellsL (f :: l))[(j + 1) * 3 + i]? = (MapFl.cellsL l)[j * 3 + i]? := fun i => by
        rw [show (j + 1) * 3 + i = (j * 3 + i) + 3 by omega]
        simp [MapFl.cellsL, List.flatMap_cons]
      refine ⟨?_, ?_, ?_⟩
      · rw [show (j + 1) * 3 = (j + 1) * 3 + 0 from rfl, e]; simpa using this.1
      · rw [e]; simpa using this.2.1
      · rw [e]; simpa using this.2.2

theorem cellsL_length (l : List (ByteArray × FV)) : (MapFl.cellsL l).length = l.length * 3 := by
  induction l with
  | nil => rfl
  | cons f l ih => simp [MapFl.cellsL, List.flatMap_cons] at ih ⊢; omega

theorem RP.of_own {w : World} {base : Nat} {T : TypeId} {A : Option Addr} {cap : Nat} {l : List (ByteArray × FV)} (h : w.ownsRow base T 3 (.slice A l.length cap) l.length (MapFl.cellsL l)) : RP w A l ∧ ∀ g, A = some ⟨g, 0, none⟩ → base ≤ g := by
  rcases h.2 with ⟨e, h0⟩ | ⟨g, cap', cur, e, hb, hg, hc, hm, hs, ht⟩
  · injection e with e1 e2 e3
    subst e1
    exact ⟨fun h1 => by omega, fun g e => by cases e⟩
  · injection e with e1 e2 e3
    subst e1 e3
    refine ⟨fun _ => ⟨g, rfl, hlt hg, fun j hj => ?_⟩, fun g' e => by injection e with e; injection e with e; rw [← e]; exact hb⟩
    obtain ⟨q0, q1, q2⟩ := cellsL_at l j hj
    have hx : ∀ i v, i < l.length * 3 → (MapFl.cellsL l)[i]? = some v → w.cell? ⟨g, i, none⟩ = some v := fun i v hi hv => by
      rw [cell_of_row w g i cur _ (0, 0) hg]
      have := congrArg (fun q => q[i]?) ht
      simp only [List.getElem?_take, if_pos hi] at this
      rw [← hv, ← this]
      simp
    exact ⟨hx _ _ (by omega) q0, hx _ _ (by omega) q1, hx _ _ (by omega) q2⟩

theorem RP.keep {w w' : World} {A : Option Addr} {l : List (ByteArray × FV)} (h : RP w A l) (hs : w.heap.size ≤ w'.heap.size) (hk : ∀ g, A = some ⟨g, 0, none⟩ → g < w.heap.size → w'.heap[g]? = w.heap[g]?) : RP w' A l := fun h0 => by
  obtain ⟨g, e, hg, hc⟩ := h h0
  have hx : ∀ o, w'.cell? ⟨g, o, none⟩ = w.cell? ⟨g, o, none⟩ := fun o => World.cell?_of_block (hk g e hg)
  exact ⟨g, e, Nat.lt_of_lt_of_le hg hs, fun j hj => ⟨(hx _).trans (hc j hj).1, (hx _).trans (hc j hj).2.1, (hx _).trans (hc j hj).2.2⟩⟩

theorem RP.below {w w' : World} {A : Option Addr} {l : List (ByteArray × FV)} {B : Nat} (h : RP w A l) (hb : Below B w w') (hB : w.heap.size ≤ B) : RP w' A l :=
  h.keep hb.size fun g _ hg => hb.block g (Nat.lt_of_lt_of_le hg hB)

theorem strInfo : (Try.prog.info? 9).map (fun i => (i.zero, i.size, i.bytes)) = some (some (.string ⟨#[]⟩), 1, 16) := by kernel_rfl

theorem own_keep {w w' : World} {base : Nat} {e : TypeId} {size n : Nat} {v : Value} {xs : List Value} (h : w.ownsRow base e size v n xs) (hk : ∀ g, v.ownBlock = some g → w'.heap[g]? = w.heap[g]?) : w'.ownsRow base e size v n xs := by
  rcases h.2 with ⟨e, h0⟩ | ⟨g, cap, cur, e, hb, hg, r⟩
  · exact ⟨h.1, .inl ⟨e, h0⟩⟩
  · exact ⟨h.1, .inr ⟨g, cap, cur, e, hb, (hk g (by rw [e]; rfl)).trans hg, r⟩⟩

structure NamesAt (w wr : World) (A : Option Addr) (l : List (ByteArray × FV)) (k : Nat) (v : Value) : Prop where
  row : RP wr A l
  own : wr.ownsRow w.heap.size 9 1 v k ((l.take k).map fun p => .string p.1)
  off : ∀ g, A = some ⟨g, 0, none⟩ → g < wr.heap.size ∧ v.ownBlock ≠ some g
  below : Below w.heap.size w wr
  form : ∃ g cap, v = .slice (some ⟨g, 0, none⟩) k cap

theorem own_strs {w : World} {base : Nat} {T : TypeId} {g cap : Nat} {l : List ByteArray} (h : w.ownsRow base T 1 (.slice (some ⟨g, 0, none⟩) l.length cap) l.length (l.map fun p => .string p)) : RStr w (some ⟨g, 0, none⟩) l ∧ base ≤ g := by
  rcases h.2 with ⟨e, h0⟩ | ⟨g', cap', cur, e, hb, hg, hc, hm, hs, ht⟩
  · cases e
  · injection e with e1 e2 e3
    injection e1 with e1
    injection e1 with e1
    subst e1 e3
    refine ⟨fun _ => ⟨g, 0, rfl, hlt hg, fun j hj => ?_⟩, hb⟩
    rw [cell_of_row w g _ cur _ (0, 0) hg, Nat.zero_add]
    have := congrArg (fun q => q[j]?) ht
    simp only [List.getElem?_take, List.getElem?_map, List.getElem?_eq_getElem hj, Option.map_some] at this
    rw [if_pos (by omega)] at this
    simpa using this

end Go.Proofs.Ytnkfdnehkihbeaa
