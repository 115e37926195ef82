/- A disk, as the document says: its files in order, and what becomes of them. Plain mathematics. -/
import Derived.Test.YtkgkllhocmedoaaOrdMath
namespace Go.Proofs.Ytkgkllhocmedoaa
set_option linter.unusedVariables false

/-- A file: its bytes, of which the first ones are safe. -/
structure Fil where
  name : ByteArray
  b : ByteArray
  safe : Nat

/-- A disk. -/
structure Dsk where
  room : Int
  l : List Fil
  set : Bool
  n : Int
  lost : Bool

/-- May a name be? -/
def rightL (l : List UInt8) : Bool := l.all fun b => !(decide (b.toNat < 33) || decide (126 < b.toNat))
def rightS (s : ByteArray) : Bool := !(decide (s.size < 1) || decide (12 < s.size)) && rightL s.data.toList

def isN (name : ByteArray) (f : Fil) : Bool := f.name.toList == name.toList

def getF (l : List Fil) (name : ByteArray) : Fil × Bool :=
  match l.find? (isN name) with
  | some f => (f, true)
  | none => (⟨name, ByteArray.empty, 0⟩, false)

def putF (l : List Fil) (f : Fil) : List Fil := l.filter (fun g => ltS g.name f.name) ++ ((if 0 < f.b.size then [f] else []) ++ l.filter (fun g => ltS f.name g.name))

def usedF (l : List Fil) : Nat := (l.map fun f => f.b.size).sum

namespace Dsk
def burn (D : Dsk) : Dsk := if D.set && decide (D.n = 0) then { D with lost := true } else if D.set && decide (0 < D.n) then { D with n := D.n - 1 } else D
def may (D : Dsk) (a b : ByteArray) : Nat := if D.lost then 5 else if rightS a && rightS b then 0 else 1
def done (D : Dsk) (f : Fil) (gone : ByteArray) : Dsk × Nat :=
  if D.burn.lost then (D.burn, 5) else ({ D.burn with l := putF (putF D.burn.l ⟨gone, ByteArray.empty, 0⟩) f }, 0)
def append (D : Dsk) (name b : ByteArray) : Dsk × Nat :=
  if D.may name name ≠ 0 then (D, D.may name name) else
  if D.room < (usedF D.l : Int) + (b.size : Int) then (D, 4) else
  let d := Dsk.burn { D with l := putF D.l { (getF D.l name).1 with b := (getF D.l name).1.b ++ b } }
  if d.lost then (d, 5) else (d, 0)
def sync (D : Dsk) (name : ByteArray) : Dsk × Nat :=
  if D.may name name ≠ 0 then (D, D.may name name) else
  if (getF D.l name).2 = false then (D, 6) else
  D.done { (getF D.l name).1 with safe := (getF D.l name).1.b.size } name
def cut (D : Dsk) (name : ByteArray) (n : Int) : Dsk × Nat :=
  if D.may name name ≠ 0 then (D, D.may name name) else
  if (getF D.l name).2 = false then (D, 6) else
  if n < 0 ∨ ((getF D.l name).1.b.size : Int) < n then (D, 1) else
  D.done { (getF D.l name).1 with b := (getF D.l name).1.b.extract 0 n.toNat, safe := n.toNat } name
def rename (D : Dsk) (a b : ByteArray) : Dsk × Nat :=
  if D.may a b ≠ 0 then (D, D.may a b) else
  if (getF D.l a).2 = false then (D, 6) else
  if (getF D.l a).1.safe < (getF D.l a).1.b.size then (D, 7) else
  D.done { (getF D.l a).1 with name := b } a
def remove (D : Dsk) (name : ByteArray) : Dsk × Nat :=
  if D.may name name ≠ 0 then (D, D.may name name) else
  if (getF D.l name).2 = false then (D, 6) else
  D.done ⟨name, ByteArray.empty, 0⟩ name
def read (D : Dsk) (name : ByteArray) : ByteArray × Nat :=
  if D.may name name ≠ 0 then (ByteArray.empty, D.may name name) else
  if (getF D.l name).2 = false then (ByteArray.empty, 6) else ((getF D.l name).1.b, 0)
def fuse (D : Dsk) (n : Int) : Dsk × Nat :=
  if D.lost then (D, 5) else if n < 0 then (D, 1) else ({ D with set := true, n := n }, 0)
end Dsk

/-- How many of m - 1 bytes that wait stay, by the i-th of so many numbers. -/
def stays (Z : Nat → Int) (len i : Nat) (m : Int) : Nat := if i < len then (Z i % m).toNat else 0

/-- How many bytes of a file are left behind a restart. -/
def left1 (Z : Nat → Int) (len i : Nat) (f : Fil) : Nat := f.safe + stays Z len i ((f.b.size : Int) - (f.safe : Int) + 1)

/-- One file behind a restart. -/
def back1 (Z : Nat → Int) (len i : Nat) (f : Fil) : Fil := { f with b := f.b.extract 0 (left1 Z len i f), safe := left1 Z len i f }

/-- The files when so many of them are done: how many of them waited, and what there is. -/
def backSt (Z : Nat → Int) (len : Nat) (l : List Fil) : Nat → Nat × List Fil
  | 0 => (0, l)
  | k + 1 => match l[k]? with
    | some f => if f.safe = f.b.size then backSt Z len l k else ((backSt Z len l k).1 + 1, putF (backSt Z len l k).2 (back1 Z len (backSt Z len l k).1 f))
    | none => backSt Z len l k

def Dsk.restart (D : Dsk) (Z : Nat → Int) (len : Nat) : Dsk := { D with l := (backSt Z len D.l D.l.length).2, set := false, n := 0, lost := false }

theorem backSt_no (Z : Nat → Int) (len : Nat) (l : List Fil) (k : Nat) (hk : k < l.length) (h : l[k].safe = l[k].b.size) : backSt Z len l (k + 1) = backSt Z len l k := by
  simp [backSt, hk, h]

theorem backSt_yes (Z : Nat → Int) (len : Nat) (l : List Fil) (k : Nat) (hk : k < l.length) (h : l[k].safe ≠ l[k].b.size) : backSt Z len l (k + 1) = ((backSt Z len l k).1 + 1, putF (backSt Z len l k).2 (back1 Z len (backSt Z len l k).1 l[k])) := by
  simp [backSt, hk, h]

theorem putF_len1 (l : List Fil) (f : Fil) : (putF l f).length ≤ l.length + 1 := by
  have h : (l.filter (fun g => ltS g.name f.name)).length + (l.filter (fun g => ltS f.name g.name)).length ≤ l.length := by
    induction l with
    | nil => simp
    | cons g l ih =>
      simp only [List.filter_cons, List.length_cons]
      cases h1 : ltS g.name f.name with
      | true => rw [ltS_asymm h1]; simp; omega
      | false =>
        cases h2 : ltS f.name g.name with
        | true => simp; omega
        | false => simp; omega
  unfold putF
  rw [List.length_append, List.length_append]
  split <;> simp <;> omega

theorem backSt_len (Z : Nat → Int) (len : Nat) (l : List Fil) (k : Nat) : (backSt Z len l k).2.length ≤ l.length + k ∧ (backSt Z len l k).1 ≤ k := by
  induction k with
  | zero => simp [backSt]
  | succ k ih =>
    simp only [backSt]
    split
    · rename_i f _
      have := putF_len1 (backSt Z len l k).2 (back1 Z len (backSt Z len l k).1 f)
      split
      · omega
      · simp only; omega
    · omega

theorem stays_lt (Z : Nat → Int) (len i : Nat) (m : Int) (h : 0 < m) : (stays Z len i m : Int) < m := by
  unfold stays
  split
  · have := Int.emod_lt_of_pos (Z i) h
    have := Int.emod_nonneg (Z i) (Int.ne_of_gt h)
    omega
  · omega

theorem tmod_back (x m : Int) (h : 0 < m) : (x.tmod m + m) % m = x % m := by
  have e : x.tmod m = x - m * x.tdiv m := Int.tmod_def x m
  rw [e, Int.add_emod_right, Int.sub_mul_emod_self_left]

end Go.Proofs.Ytkgkllhocmedoaa
