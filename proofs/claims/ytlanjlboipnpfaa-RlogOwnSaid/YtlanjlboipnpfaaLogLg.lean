/- The program's log in memory, and the set of blocks that it is none of. -/
import Derived.Test.YtlanjlboipnpfaaLogMem
import Derived.Test.YtlanjlboipnpfaaLogRefD
namespace Go.Proofs.Ytlanjlboipnpfaa
open Go.RowKit
set_option linter.unusedVariables false
set_option linter.unusedSimpArgs false

abbrev plC (r : RL) (A : Option Addr) (n c s : Nat) : Array Value := #[.int .i64 r.i, .int .i64 r.t, .slice A n c, .int .i64 (s : Int)]
abbrev ptrV (p : Nat) : Value := .pointer (some ⟨p, 0, none⟩)

/-- The program's log: its block, its row, where its entries' bytes lie; all of that is none of Z. -/
structure LgAt (w : World) (p : Nat) (r : RL) (s : Nat) (Z : Nat → Prop) (A : Option Addr) (c : Nat) (xs : List Lay) : Prop where
  row : w.heap[p]? = some (.cells (plC r A r.l.length c s) 63)
  spot : Spot w A r.l.length c xs
  map : xs.map (·.e) = r.l
  away : ¬ Z p
  own : ∀ q, blk A q → q ≠ p ∧ ¬ Z q
  lays : ∀ x ∈ xs, LayOk w (fun q => q ≠ p ∧ ¬ blk A q ∧ ¬ Z q) x

def Lg (w : World) (p : Nat) (r : RL) (s : Nat) (Z : Nat → Prop) : Prop := ∃ A c xs, LgAt w p r s Z A c xs

/-- What can be read of a log. -/
structure Rd (w : World) (p : Nat) (r : RL) (s : Nat) (A : Option Addr) (n c : Nat) : Prop where
  row : w.heap[p]? = some (.cells (plC r A n c s) 63)
  ents : Ents w (fun _ => True) A n c r.l

section
variable {w w' : World} {p : Nat} {r : RL} {s : Nat} {Z Z' : Nat → Prop} {A : Option Addr} {n c : Nat} {xs : List Lay}

theorem LgAt.keep (h : LgAt w p r s Z A c xs) (hs : w.heap.size ≤ w'.heap.size) (hk : ∀ q, q < w.heap.size → ¬ Z q → w'.heap[q]? = w.heap[q]?) : LgAt w' p r s Z A c xs :=
  ⟨(hk p (hlt h.row) h.away).trans h.row, h.spot.keep fun q hq => hk q (h.spot.lt hq) (h.own q hq).2, h.map, h.away, h.own, fun x hx => (h.lays x hx).keep hs fun q hq hz => hk q hq hz.2.2⟩

theorem Lg.keep (h : Lg w p r s Z) (hs : w.heap.size ≤ w'.heap.size) (hk : ∀ q, q < w.heap.size → ¬ Z q → w'.heap[q]? = w.heap[q]?) : Lg w' p r s Z := by
  obtain ⟨A, c, xs, h⟩ := h
  exact ⟨A, c, xs, h.keep hs hk⟩

theorem Lg.below (h : Lg w p r s Z) (hb : Below w.heap.size w w') : Lg w' p r s Z := h.keep hb.size fun q hq _ => hb.block q hq

theorem Lg.mono (h : Lg w p r s Z) (hz : ∀ q, Z' q → Z q) : Lg w p r s Z' := by
  obtain ⟨A, c, xs, h⟩ := h
  exact ⟨A, c, xs, h.row, h.spot, h.map, fun e => h.away (hz _ e), fun q hq => ⟨(h.own q hq).1, fun e => (h.own q hq).2 (hz _ e)⟩, fun x hx => (h.lays x hx).mono fun q hq => ⟨hq.1, hq.2.1, fun e => hq.2.2 (hz _ e)⟩⟩

/-- It is none of what isn't there yet. -/
theorem LgAt.grow (h : LgAt w p r s Z A c xs) : LgAt w p r s (fun q => Z q ∨ w.heap.size ≤ q) A c xs := by
  refine ⟨h.row, h.spot, h.map, fun e => e.elim h.away fun e => ?_, fun q hq => ⟨(h.own q hq).1, fun e => e.elim (h.own q hq).2 fun e => ?_⟩, fun x hx => (h.lays x hx).old.mono fun q hq => ⟨hq.1.1, hq.1.2.1, fun e => e.elim hq.1.2.2 fun e => ?_⟩⟩
  · have := hlt h.row; omega
  · have := h.spot.lt hq; omega
  · omega

theorem Lg.grow (h : Lg w p r s Z) : Lg w p r s (fun q => Z q ∨ w.heap.size ≤ q) := by
  obtain ⟨A, c, xs, h⟩ := h
  exact ⟨A, c, xs, h.grow⟩

theorem LgAt.mono (h : LgAt w p r s Z A c xs) (hz : ∀ q, Z' q → Z q) : LgAt w p r s Z' A c xs :=
  ⟨h.row, h.spot, h.map, fun e => h.away (hz _ e), fun q hq => ⟨(h.own q hq).1, fun e => (h.own q hq).2 (hz _ e)⟩, fun x hx => (h.lays x hx).mono fun q hq => ⟨hq.1, hq.2.1, fun e => hq.2.2 (hz _ e)⟩⟩

/-- What is fresh by the document's own count stands nowhere in memory. -/
theorem Lg.same {r' : RL} (h : Lg w p r s Z) (h1 : r'.i = r.i) (h2 : r'.t = r.t) (h3 : r'.l = r.l) : Lg w p r' s Z := by
  obtain ⟨i, t, l, f⟩ := r
  obtain ⟨i', t', l', f'⟩ := r'
  dsimp only at h1 h2 h3
  subst h1 h2 h3
  obtain ⟨A, c, xs, h⟩ := h
  exact ⟨A, c, xs, ⟨h.row, h.spot, h.map, h.away, h.own, h.lays⟩⟩

theorem LgAt.rd (h : LgAt w p r s Z A c xs) : Rd w p r s A r.l.length c :=
  ⟨h.row, by
    have := h.spot.ents (Z := fun _ => True) (fun _ _ => trivial) fun x hx => (h.lays x hx).mono fun _ _ => trivial
    rwa [h.map] at this⟩

theorem Lg.rd (h : Lg w p r s Z) : ∃ A c, Rd w p r s A r.l.length c := by
  obtain ⟨A, c, xs, h⟩ := h
  exact ⟨A, c, h.rd⟩

theorem Rd.below (h : Rd w p r s A n c) (hb : Below w.heap.size w w') : Rd w' p r s A n c := ⟨(hb.block _ (hlt h.row)).trans h.row, h.ents.below hb (Nat.le_refl _)⟩
theorem Rd.cells (h : Rd w p r s A n c) : w.cell? ⟨p, 0, none⟩ = some (.int .i64 r.i) ∧ w.cell? ⟨p, 1, none⟩ = some (.int .i64 r.t) ∧ w.cell? ⟨p, 2, none⟩ = some (.slice A n c) ∧ w.cell? ⟨p, 3, none⟩ = some (.int .i64 (s : Int)) := (row4 h.row).1

theorem LayOk.keeps {w w' : World} {Z : Nat → Prop} {x : Lay} (h : LayOk w Z x) (hk : Keeps Z w w') : LayOk w' Z x := h.keep hk.size hk.block
end

theorem below_fill3' {B : Nat} {w X : World} (h : Below B w X) (b : Nat) (hb : B ≤ b) (a0 a1 a2 : Value) : Below B w (((X.setCell ⟨b, 0, none⟩ a0).setCell ⟨b, 1, none⟩ a1).setCell ⟨b, 2, none⟩ a2) :=
  ((h.setCell (by exact hb) a0).setCell (by exact hb) a1).setCell (by exact hb) a2

end Go.Proofs.Ytlanjlboipnpfaa
