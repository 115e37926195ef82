/- Numbers as bytes, and what is taken of bytes. Plain mathematics (L03's XOctBase has the same words). -/
import Derived.WalkKit
namespace Go.Proofs.Ytlojjodgoeclfaa
set_option linter.unusedVariables false

/- numbers -/

/-- A number's lowest bytes, the highest first. -/
def wide (v : Nat) : Nat → List UInt8
  | 0 => []
  | n + 1 => UInt8.ofNat (v / 256 ^ n) :: wide v n

@[simp] theorem wide_length (v n : Nat) : (wide v n).length = n := by
  induction n with
  | zero => rfl
  | succ n ih => simp [wide, ih]

/-- The number of bytes, the highest first. -/
def num (l : List UInt8) : Nat := l.foldl (fun v b => v * 256 + b.toNat) 0

theorem foldl_wide (v n : Nat) : ∀ a, (wide v n).foldl (fun v b => v * 256 + b.toNat) a = a * 256 ^ n + v % 256 ^ n := by
  induction n with
  | zero => intro a; simp [wide, Nat.mod_one]
  | succ n ih =>
    intro a
    rw [wide, List.foldl_cons, ih, Nat.pow_succ, Nat.mod_mul]
    have h : (UInt8.ofNat (v / 256 ^ n)).toNat = v / 256 ^ n % 256 := by simp
    rw [h, Nat.add_mul, Nat.mul_assoc, Nat.mul_comm 256 (256 ^ n), Nat.mul_comm (v / 256 ^ n % 256)]
    omega

theorem num_wide (v n : Nat) : num (wide v n) = v % 256 ^ n := by
  rw [num, foldl_wide]; simp

theorem num_snoc (l : List UInt8) (b : UInt8) : num (l ++ [b]) = num l * 256 + b.toNat := by simp [num]

theorem foldl_lt (l : List UInt8) : ∀ a, l.foldl (fun v b => v * 256 + b.toNat) a < (a + 1) * 256 ^ l.length := by
  induction l with
  | nil => intro a; simp
  | cons b l ih =>
    intro a
    have := ih (a * 256 + b.toNat)
    have hb : b.toNat < 256 := b.toNat_lt
    rw [List.foldl_cons, List.length_cons, Nat.pow_succ]
    refine Nat.lt_of_lt_of_le this ?_
    rw [Nat.mul_comm (256 ^ l.length), ← Nat.mul_assoc]
    exact Nat.mul_le_mul_right _ (by omega)

theorem num_lt (l : List UInt8) : num l < 256 ^ l.length := by
  have := foldl_lt l 0
  rwa [Nat.zero_add, Nat.one_mul] at this

/- what is taken: none is bad -/

abbrev St := Option (List UInt8)

def left (s : St) : Nat := match s with | none => 0 | some l => l.length

def takeN (s : St) (n : Nat) : List UInt8 × St :=
  match s with
  | none => ([], none)
  | some l => if n ≤ l.length then (l.take n, some (l.drop n)) else ([], none)

theorem takeN_len (s : St) (n : Nat) : (takeN s n).1.length ≤ n := by
  unfold takeN
  split
  · simp
  · split <;> simp <;> omega

def numberN (s : St) (n : Nat) : Nat × St := (num (takeN s n).1, (takeN s n).2)

theorem numberN_lt (s : St) (n : Nat) : (numberN s n).1 < 256 ^ n :=
  Nat.lt_of_lt_of_le (num_lt _) (Nat.pow_le_pow_right (by omega) (takeN_len s n))

def flagN (s : St) : Bool × St := if 1 < (numberN s 1).1 then (false, none) else (decide ((numberN s 1).1 = 1), (numberN s 1).2)

def countN (s : St) (most : Int) : Nat × St := if most < 0 ∨ most < ((numberN s 4).1 : Int) ∨ left (numberN s 4).2 < (numberN s 4).1 then (0, none) else numberN s 4

def textN (s : St) (most : Int) : List UInt8 × St := takeN (countN s most).2 (countN s most).1

end Go.Proofs.Ytlojjodgoeclfaa
