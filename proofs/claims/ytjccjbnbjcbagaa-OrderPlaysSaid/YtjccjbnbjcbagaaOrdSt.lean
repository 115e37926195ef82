/- A map's variable and the document's list beside it, from act to act. -/
import Derived.Test.YtjccjbnbjcbagaaOrdAct
namespace Go.Proofs.Ytjccjbnbjcbagaa.OrdRef
open Go.RowKit Go.Proofs.Ytjccjbnbjcbagaa
set_option linter.unusedVariables false

/-- A map's variable, and the document's list beside it. -/
structure St (w : World) (M N : Nat) (u : Option Addr) (t : Tr ByteArray Int) (A : Option Addr) (c : Nat) (wr : World) : Prop where
  var : Var M u wr
  both : Both wr u t A c N
  old : Below w.heap.size w wr
  new : w.heap.size ≤ M

section
variable {w wr w2 : World} {M N : Nat} {u u2 : Option Addr} {t t2 : Tr ByteArray Int} {A A2 : Option Addr} {c c2 : Nat}
theorem St.below (h : St w M N u t A c wr) (hb : Below wr.heap.size wr w2) : St w M N u t A c w2 := ⟨h.var.below hb, h.both.below hb, h.old.trans (hb.mono h.old.size), h.new⟩
theorem St.drew (h : St w M N u t A c wr) : St w M N u t A c wr.drew := ⟨h.var, h.both.drew, h.old.drew, h.new⟩
theorem both_store (h : Both wr u t A c N) (hv : wr.cell? ⟨M, 1, none⟩ = none) (x : Value) : Both (wr.setCell ⟨M, 0, none⟩ x) u t A c N := ⟨h.rep.setCell hv x, h.bst, h.own.setCell hv x, h.size⟩
theorem St.act (h : St w M N u t A c wr) (hB : Both w2 u2 t2 A2 c2 (N + 1)) (hb : Below wr.heap.size wr w2) : St w M (N + 1) u2 t2 A2 c2 (w2.setCell ⟨M, 0, none⟩ (.pointer u2)) :=
  ⟨(h.var.below hb).store u2, both_store hB (h.var.below hb).2.1 _, (h.old.trans (hb.mono h.old.size)).setCell h.new _, h.new⟩
theorem St.other (h : St w M N u t A c wr) {M' : Nat} {u' : Option Addr} (hv : Var M' u' wr) (hM : M ≠ M') (hw : w.heap.size ≤ M') (x : Value) : St w M N u t A c (wr.setCell ⟨M', 0, none⟩ x) :=
  ⟨h.var.other hM x, both_store h.both hv.2.1 x, h.old.setCell hw x, h.new⟩
theorem St.start {wa : World} (hba : Below w.heap.size w wa) (ty : TypeId) : St w wa.heap.size 0 none .nil none 0 (wa.alloc (.cells #[.pointer none] ty)) :=
  ⟨Var.made _ _ _, ⟨rfl, List.Pairwise.nil, Own.nil _, Nat.le_refl _⟩, hba.alloc hba.size _, hba.size⟩
/-- A second variable, made of the first. -/
theorem St.copy (h : St w M N u t A c wr) (ty : TypeId) : St w M N u t A c (wr.alloc (.cells #[.pointer u] ty)) ∧ St w wr.heap.size N u t A c (wr.alloc (.cells #[.pointer u] ty)) := by
  have hb : Below wr.heap.size wr (wr.alloc (.cells #[.pointer u] ty)) := (Below.refl _ _).alloc (Nat.le_refl _) _
  exact ⟨h.below hb, ⟨Var.made _ _ _, h.both.below hb, h.old.trans (hb.mono h.old.size), h.old.size⟩⟩
end


end Go.Proofs.Ytjccjbnbjcbagaa.OrdRef
