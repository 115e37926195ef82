/- A tree of a map in memory: keys of one cell, values of several; each node in a block of a set P, in which all new blocks are. -/
import Derived.Test.YtnkfdnehkihbeaaDskPure
import Derived.Test.YtnkfdnehkihbeaaDskFv
namespace Go.Proofs.Ytnkfdnehkihbeaa.MapFl
open Go.RowKit Go.Proofs.Ytnkfdnehkihbeaa
set_option linter.unusedVariables false

abbrev T := Tr ByteArray FV

def Rp (P : Nat → Prop) (w : World) : Option Addr → T → Prop
  | u, .nil => u = none ∧ ∀ k, w.heap.size ≤ k → P k
  | u, .node k v l r => ∃ b ul ur, u = some ⟨b, 0, none⟩ ∧ P b ∧ w.cell? ⟨b, 0, none⟩ = some (Value.string k) ∧ w.cell? ⟨b, 1, none⟩ = some (fvS v) ∧ w.cell? ⟨b, 2, none⟩ = some (fvN v) ∧
      w.cell? ⟨b, 3, none⟩ = some (.pointer ul) ∧ w.cell? ⟨b, 4, none⟩ = some (.pointer ur) ∧
      w.cell? ⟨b, 5, none⟩ = some (.int .i64 ((l.size + 1 + r.size : Nat) : Int)) ∧ w.cell? ⟨b, 6, none⟩ = some (.int .i64 ((Nat.max l.deep r.deep + 1 : Nat) : Int)) ∧
      Rp P w ul l ∧ Rp P w ur r

variable {P P' : Nat → Prop} {w w' : World} {t : T} {u : Option Addr}

theorem Rp.ev : ∀ {t : T} {u : Option Addr}, Rp P w u t → ∀ k, w.heap.size ≤ k → P k
  | .nil, _, h => h.2
  | .node k v l r, _, ⟨b, ul, ur, hu, hPb, c0, c1, c1b, c2, c3, c4, c5, hl, hr⟩ => Rp.ev hl

theorem Rp.carry (hE : ∀ k, w'.heap.size ≤ k → P' k) (h : ∀ b, b < w.heap.size → P b → (∃ k, w.cell? ⟨b, 0, none⟩ = some (Value.string k)) → P' b ∧ w'.heap[b]? = w.heap[b]?) : ∀ {t : T} {u : Option Addr}, Rp P w u t → Rp P' w' u t
  | .nil, _, hr => ⟨hr.1, hE⟩
  | .node k v l r, _, ⟨b, ul, ur, hu, hPb, c0, c1, c1b, c2, c3, c4, c5, hl, hr⟩ => by
    obtain ⟨hP, hx⟩ := h b (World.block_lt_of_cell? w _ c0) hPb ⟨_, c0⟩
    have hc : ∀ o, w'.cell? ⟨b, o, none⟩ = w.cell? ⟨b, o, none⟩ := fun o => World.cell?_of_block hx
    exact ⟨b, ul, ur, hu, hP, (hc _).trans c0, (hc _).trans c1, (hc _).trans c1b, (hc _).trans c2, (hc _).trans c3, (hc _).trans c4, (hc _).trans c5, Rp.carry hE h hl, Rp.carry hE h hr⟩

theorem Rp.below {B : Nat} (hb : Below B w w') (hB : w.heap.size ≤ B) (h : Rp P w u t) : Rp P w' u t :=
  h.carry (fun k hk => h.ev k (Nat.le_trans hb.size hk)) fun b hlt hP _ => ⟨hP, hb.block b (Nat.lt_of_lt_of_le hlt hB)⟩

theorem Rp.alloc (o : Obj) (h : Rp P w u t) : Rp P (w.alloc o) u t := h.below ((Below.refl w.heap.size w).alloc (Nat.le_refl _) o) (Nat.le_refl _)
theorem Rp.drew (h : Rp P w u t) : Rp P w.drew u t := h.below ((Below.refl w.heap.size w).drew) (Nat.le_refl _)

/-- A new node of two sides, behind one other new block. -/
theorem Rp.made {k : ByteArray} {v : FV} {l r : T} {ul ur : Option Addr} {s d : Int} (hl : Rp P w ul l) (hr : Rp P w ur r) (o : Obj) (ty : TypeId)
    (hs : s = ((l.size + 1 + r.size : Nat) : Int)) (hd : d = ((Nat.max l.deep r.deep + 1 : Nat) : Int)) :
    Rp P ((w.alloc o).alloc (.cells #[Value.string k, fvS v, fvN v, .pointer ul, .pointer ur, .int .i64 s, .int .i64 d] ty)).drew (some ⟨w.heap.size + 1, 0, none⟩) (.node k v l r) := by
  subst hs hd
  have e : ∀ i, ((w.alloc o).alloc (.cells #[Value.string k, fvS v, fvN v, .pointer ul, .pointer ur, .int .i64 ((l.size + 1 + r.size : Nat) : Int), .int .i64 ((Nat.max l.deep r.deep + 1 : Nat) : Int)] ty)).cell? ⟨w.heap.size + 1, i, none⟩ =
      #[Value.string k, fvS v, fvN v, .pointer ul, .pointer ur, .int .i64 ((l.size + 1 + r.size : Nat) : Int), .int .i64 ((Nat.max l.deep r.deep + 1 : Nat) : Int)][i]? := fun i => by
    simp
  exact ⟨w.heap.size + 1, ul, ur, rfl, hl.ev _ (by omega), e 0, e 1, e 2, e 3, e 4, e 5, e 6, ((hl.alloc o).alloc _).drew, ((hr.alloc o).alloc _).drew⟩

/-- A store into a block of one cell: no node lies there. -/
theorem Rp.setCell {g i : Nat} (hg : w.cell? ⟨g, 1, none⟩ = none) (x : Value) : ∀ {t : T} {u : Option Addr}, Rp P w u t → Rp P (w.setCell ⟨g, i, none⟩ x) u t
  | .nil, _, hr => ⟨hr.1, by simpa using hr.2⟩
  | .node k v l r, _, ⟨b, ul, ur, hu, hPb, c0, c1, c1b, c2, c3, c4, c5, hl, hr⟩ => by
    have hb : g ≠ b := by rintro rfl; rw [hg] at c1; cases c1
    have h : ∀ o, (w.setCell ⟨g, i, none⟩ x).cell? ⟨b, o, none⟩ = w.cell? ⟨b, o, none⟩ := fun o => World.cell?_setCell_other w ⟨g, i, none⟩ ⟨b, o, none⟩ x (fun e => hb (by injection e))
    exact ⟨b, ul, ur, hu, hPb, (h _).trans c0, (h _).trans c1, (h _).trans c1b, (h _).trans c2, (h _).trans c3, (h _).trans c4, (h _).trans c5, Rp.setCell hg x hl, Rp.setCell hg x hr⟩

end Go.Proofs.Ytnkfdnehkihbeaa.MapFl
