/- Entries, what is hard, snaps: which are right, and what bytes they are. Plain mathematics. -/
import Derived.Test.YtlojjodgoeclfaaWide
namespace Go.Proofs.Ytlojjodgoeclfaa
set_option linter.unusedVariables false

def numB (n : Int) : Bool := decide (1 ≤ n) && decide (n ≤ 1099511627776)
def rightB (i t : Int) (d : Nat) : Bool := numB i && numB t && decide (d ≤ 12000)
def hardB (t v : Int) : Bool := decide (0 ≤ t) && (decide (t ≤ 1099511627776) && (decide (-1 ≤ v) && decide (v ≤ 2)))
def snapB (i t : Int) (d : Nat) : Bool := if i = 0 ∧ t = 0 then decide (d = 0) else numB i && numB t && decide (d ≤ 50000)

/-- An entry, or a snap: its index, its term, its bytes. -/
structure Ent where
  i : Int
  t : Int
  d : List UInt8

/-- What stands ahead of the k-th: its index, its term. -/
def prevI (i : Int) (l : List Ent) (k : Nat) : Int := if k = 0 then i else (l[k - 1]?.map Ent.i).getD 0
def prevT (t : Int) (l : List Ent) (k : Nat) : Int := if k = 0 then t else (l[k - 1]?.map Ent.t).getD 0

/-- Does the k-th go on behind what stands ahead of it? -/
def stepB (i t : Int) (l : List Ent) (k : Nat) : Bool :=
  match l[k]? with
  | none => false
  | some e => rightB e.i e.t e.d.length && (decide (prevT t l k ≤ e.t) && decide (e.i = prevI i l k + 1))

/-- Are entries a run behind an index and a term? -/
def runB (i t : Int) (l : List Ent) : Bool := (List.range l.length).all (stepB i t l)

theorem runB_no {i t : Int} {l : List Ent} (k : Nat) (hk : k < l.length) (h : stepB i t l k = false) : runB i t l = false := by
  cases hr : runB i t l with
  | false => rfl
  | true =>
    have := List.all_eq_true.1 hr k (List.mem_range.2 hk)
    rw [h] at this
    cases this

theorem runB_yes {i t : Int} {l : List Ent} (h : ∀ k, k < l.length → stepB i t l k = true) : runB i t l = true :=
  List.all_eq_true.2 fun k hk => h k (List.mem_range.1 hk)

theorem stepB_at (i t : Int) (l : List Ent) (k : Nat) (hk : k < l.length) : stepB i t l k = (rightB l[k].i l[k].t l[k].d.length && (decide (prevT t l k ≤ l[k].t) && decide (l[k].i = prevI i l k + 1))) := by
  unfold stepB
  rw [List.getElem?_eq_getElem hk]

theorem prev_next (i t : Int) (l : List Ent) (k : Nat) (hk : k < l.length) : prevI i l (k + 1) = l[k].i ∧ prevT t l (k + 1) = l[k].t := by
  simp [prevI, prevT, List.getElem?_eq_getElem hk]

theorem prev_zero (i t : Int) (l : List Ent) : prevI i l 0 = i ∧ prevT t l 0 = t := ⟨rfl, rfl⟩

theorem numB_iff (n : Int) : numB n = true ↔ 1 ≤ n ∧ n ≤ 1099511627776 := by simp [numB]

theorem rightB_iff (i t : Int) (d : Nat) : rightB i t d = true ↔ (1 ≤ i ∧ i ≤ 1099511627776) ∧ (1 ≤ t ∧ t ≤ 1099511627776) ∧ d ≤ 12000 := by
  simp [rightB, numB, and_assoc]

end Go.Proofs.Ytlojjodgoeclfaa
