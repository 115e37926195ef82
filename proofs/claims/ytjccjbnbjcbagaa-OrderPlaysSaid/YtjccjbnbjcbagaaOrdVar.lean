/- A map's variable in memory, and a loop that puts keys into it. -/
import Derived.Test.YtjccjbnbjcbagaaLawEnd
import Derived.Test.YtjccjbnbjcbagaaArgs
import Derived.Test.YtjccjbnbjcbagaaOrdMath
namespace Go.Proofs.Ytjccjbnbjcbagaa
open Go.RowKit

/-- A map's variable at block M. -/
def Var (M : Nat) (u : Option Addr) (wr : World) : Prop := wr.cell? ⟨M, 0, none⟩ = some (.pointer u) ∧ wr.cell? ⟨M, 1, none⟩ = none ∧ wr.frozen? ⟨M, 0, none⟩ = false ∧ M < wr.heap.size

theorem Var.below {M : Nat} {u : Option Addr} {w w' : World} (h : Var M u w) (hb : Below w.heap.size w w') : Var M u w' :=
  ⟨(hb.cell h.2.2.2).trans h.1, (hb.cell (p := ⟨M, 1, none⟩) h.2.2.2).trans h.2.1, (hb.frozen (p := ⟨M, 0, none⟩) h.2.2.2).trans h.2.2.1, Nat.lt_of_lt_of_le h.2.2.2 hb.size⟩
theorem Var.store {M : Nat} {u : Option Addr} {w : World} (h : Var M u w) (u' : Option Addr) : Var M u' (w.setCell ⟨M, 0, none⟩ (.pointer u')) :=
  ⟨World.cell?_setCell_same _ _ _ h.1, (World.cell?_setCell_other _ _ _ _ (fun e => by injection e with _ e; cases e)).trans h.2.1, by rw [World.frozen?_setCell]; exact h.2.2.1, by simpa using h.2.2.2⟩
theorem Var.other {M M' : Nat} {u : Option Addr} {w : World} (h : Var M u w) (hM : M ≠ M') (x : Value) : Var M u (w.setCell ⟨M', 0, none⟩ x) :=
  ⟨(World.cell?_setCell_other _ _ _ _ (fun e => hM (by injection e with e; exact e.symm))).trans h.1, (World.cell?_setCell_other _ _ _ _ (fun e => hM (by injection e with e; exact e.symm))).trans h.2.1, by rw [World.frozen?_setCell]; exact h.2.2.1, by simpa using h.2.2.2⟩
theorem Var.drew {M : Nat} {u : Option Addr} {w : World} (h : Var M u w) : Var M u w.drew := h
theorem Var.made (w : World) (u : Option Addr) (ty : TypeId) : Var w.heap.size u (w.alloc (.cells #[.pointer u] ty)) := ⟨by simp, by simp [go_sem], by simp, by simp⟩

/-- A map: its variable, its tree in order, and the world as it was ahead of it. -/
structure Inv {K V : Type} (kv : K → Value) (vv : V → Value) (lt : K → K → Bool) (w : World) (M N : Nat) (u : Option Addr) (t : Tr K V) (wr : World) : Prop where
  var : Var M u wr
  rep : Tr.Rep kv vv wr u t
  bst : Tr.Bst lt t
  size : t.size ≤ N
  old : Below w.heap.size w wr
  new : w.heap.size ≤ M

section
variable {K V : Type} {kv : K → Value} {vv : V → Value} {lt : K → K → Bool}

theorem Inv.put (L : Lin lt) {w : World} {M N : Nat} {u : Option Addr} {t : Tr K V} {wr : World} (h : Inv kv vv lt w M N u t wr) (k : K) (v : V) {w2 : World} {u2 : Option Addr} (hr : Tr.Rep kv vv w2 u2 (Tr.put lt k v t)) (hb : Below wr.heap.size wr w2) :
    Inv kv vv lt w M (N + 1) u2 (Tr.put lt k v t) (w2.setCell ⟨M, 0, none⟩ (.pointer u2)) :=
  ⟨(h.var.below hb).store u2, hr.setCell (h.var.below hb).2.1 _, h.bst.put L k v, Nat.le_trans (Tr.size_put lt k v t) (Nat.succ_le_succ h.size), (h.old.trans (hb.mono h.old.size)).setCell h.new _, h.new⟩

theorem Inv.start {w wa : World} (hba : Below w.heap.size w wa) (ty : TypeId) : Inv kv vv lt w wa.heap.size 0 none (.nil : Tr K V) (wa.alloc (.cells #[.pointer none] ty)) :=
  ⟨Var.made _ _ _, rfl, List.Pairwise.nil, Nat.le_refl _, hba.alloc hba.size _, hba.size⟩

theorem Inv.below {w : World} {M N : Nat} {u : Option Addr} {t : Tr K V} {wr w2 : World} (h : Inv kv vv lt w M N u t wr) (hb : Below wr.heap.size wr w2) : Inv kv vv lt w M N u t w2 :=
  ⟨h.var.below hb, h.rep.below hb (Nat.le_refl _), h.bst, h.size, h.old.trans (hb.mono h.old.size), h.new⟩

theorem Inv.other {w : World} {M N : Nat} {u : Option Addr} {t : Tr K V} {wr : World} (h : Inv kv vv lt w M N u t wr) {M' : Nat} {u' : Option Addr} (hv : Var M' u' wr) (hM : M ≠ M') (hw : w.heap.size ≤ M') (x : Value) : Inv kv vv lt w M N u t (wr.setCell ⟨M', 0, none⟩ x) :=
  ⟨h.var.other hM x, h.rep.setCell hv.2.1 x, h.bst, h.size, h.old.setCell hw x, h.new⟩

theorem Inv.drew {w : World} {M N : Nat} {u : Option Addr} {t : Tr K V} {wr : World} (h : Inv kv vv lt w M N u t wr) : Inv kv vv lt w M N u t wr.drew :=
  ⟨h.var, h.rep.drew, h.bst, h.size, h.old.drew, h.new⟩
end

end Go.Proofs.Ytjccjbnbjcbagaa
