/- A log as a value: what its calls answer. Plain mathematics. -/
import Derived.Test.YtlanjlboipnpfaaEntMath
namespace Go.Proofs.Ytlanjlboipnpfaa
set_option linter.unusedVariables false

/-- A log: its base, its entries, the lowest index that changed (0: none). -/
structure RL where
  i : Int
  t : Int
  l : List Ent
  f : Int

namespace RL
def base (i t : Int) : Bool := decide (0 ≤ i) && (decide (i ≤ 1099511627776) && (decide (0 ≤ t) && decide (t ≤ 1099511627776)))
def lastI (r : RL) : Int := match r.l.getLast? with | none => r.i | some e => e.i
def lastT (r : RL) : Int := match r.l.getLast? with | none => r.t | some e => e.t
/-- The term of an index, if it is there. -/
def at_ (r : RL) (x : Int) : Option Int := if x = r.i then some r.t else (r.l.find? fun e => decide (e.i = x)).map Ent.t
def newer (r : RL) (i t : Int) : Bool := decide (r.lastT < t) || (decide (t = r.lastT) && decide (r.lastI ≤ i))
def fromL (r : RL) (x many : Int) : List Ent := if r.at_ x = none ∨ x = r.i then [] else (r.l.filter fun e => decide (x ≤ e.i)).take many.toNat
def changed (r : RL) : List Ent := r.l.filter fun e => decide (0 < r.f) && decide (r.f ≤ e.i)
def mark (r : RL) (x : Int) : RL := if r.f = 0 ∨ x < r.f then { r with f := x } else r
def add (r : RL) (t : Int) (d : List UInt8) : Option RL :=
  if runB r.lastI r.lastT [⟨r.lastI + 1, t, d⟩] = true then some (({ r with l := r.l ++ [⟨r.lastI + 1, t, d⟩] } : RL).mark (r.lastI + 1)) else none
def compact (r : RL) (x : Int) : Option RL := (r.at_ x).map fun t => ⟨x, t, r.l.filter fun e => decide (x < e.i), r.f⟩
end RL

theorem last_none {r : RL} (h : r.l = []) : r.lastI = r.i ∧ r.lastT = r.t := by simp [RL.lastI, RL.lastT, h]
theorem last_some {r : RL} (h : 0 < r.l.length) : r.lastI = (r.l[r.l.length - 1]'(by omega)).i ∧ r.lastT = (r.l[r.l.length - 1]'(by omega)).t := by
  have e : r.l.getLast? = some (r.l[r.l.length - 1]'(by omega)) := by rw [List.getLast?_eq_getElem?, List.getElem?_eq_getElem]
  simp [RL.lastI, RL.lastT, e]

/-- None of the first k has this index. -/
theorem find_step {l : List Ent} {x : Int} {k : Nat} (hk : k < l.length) (h : ∀ j (hj : j < l.length), j < k → l[j].i ≠ x) (he : l[k].i = x) : (l.find? fun e => decide (e.i = x)) = some l[k] := by
  have hs : l = l.take k ++ l[k] :: l.drop (k + 1) := by rw [← List.drop_eq_getElem_cons hk, List.take_append_drop]
  have hn : ((l.take k).find? fun e => decide (e.i = x)) = none := by
    rw [List.find?_eq_none]
    intro e hmem
    obtain ⟨j, hj, rfl⟩ := List.getElem_of_mem hmem
    have hjk : j < k := by simp at hj; omega
    have := h j (by omega) hjk
    simpa [List.getElem_take] using this
  have hf : ((l.take k ++ l[k] :: l.drop (k + 1)).find? fun e => decide (e.i = x)) = some l[k] := by
    rw [List.find?_append, hn, List.find?_cons_of_pos (by simpa using he)]
    rfl
  rwa [← hs] at hf

theorem find_none {l : List Ent} {x : Int} (h : ∀ j (hj : j < l.length), l[j].i ≠ x) : (l.find? fun e => decide (e.i = x)) = none := by
  rw [List.find?_eq_none]
  intro e hmem
  obtain ⟨j, hj, rfl⟩ := List.getElem_of_mem hmem
  simpa using h j hj

end Go.Proofs.Ytlanjlboipnpfaa
