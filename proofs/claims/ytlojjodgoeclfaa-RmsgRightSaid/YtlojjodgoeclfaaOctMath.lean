/- What is taken of what was put. -/
import Derived.Test.YtlojjodgoeclfaaOctR
namespace Go.Proofs.Ytlojjodgoeclfaa
set_option linter.unusedVariables false

theorem takeN_app (l r : List UInt8) : takeN (some (l ++ r)) l.length = (l, some r) := by
  simp [takeN]

theorem numberN_wide (v n : Nat) (r : List UInt8) : numberN (some (wide v n ++ r)) n = (v % 256 ^ n, some r) := by
  have h := takeN_app (wide v n) r
  rw [wide_length] at h
  simp only [numberN, h, num_wide]

theorem takeN_short (l : List UInt8) (n : Nat) (h : l.length < n) : takeN (some l) n = ([], none) := by
  simp only [takeN]
  rw [if_neg (by omega)]

theorem count_none (m : Int) : countN none m = (0, none) := by
  unfold countN
  split
  · rfl
  · simp [numberN, takeN, num]

theorem textN_none (m : Int) : textN none m = ([], none) := by
  simp [textN, count_none, takeN]

theorem number_textOf (l r : List UInt8) (hl : l.length < 4294967296) : numberN (some (textOf l ++ r)) 4 = (l.length, some (l ++ r)) := by
  unfold textOf
  rw [List.append_assoc, numberN_wide]
  rw [Nat.mod_eq_of_lt (by omega)]

theorem countN_yes {s s' : St} {m : Int} {n : Nat} (h : numberN s 4 = (n, s')) (h1 : (n : Int) ≤ m) (h2 : n ≤ left s') : countN s m = (n, s') := by
  unfold countN
  rw [h, if_neg (by simp only; omega)]

theorem countN_no {s s' : St} {m : Int} {n : Nat} (h : numberN s 4 = (n, s')) (h1 : m < (n : Int) ∨ left s' < n) : countN s m = (0, none) := by
  unfold countN
  rw [h, if_pos (.inr h1)]

theorem textN_of {s s' : St} {m : Int} {n : Nat} (h : countN s m = (n, s')) : textN s m = takeN s' n := by
  unfold textN
  rw [h]

theorem textN_full (l r : List UInt8) (m : Int) (hm : (l.length : Int) ≤ m) (hl : l.length < 4294967296) : textN (some (textOf l ++ r)) m = (l, some r) := by
  rw [textN_of (countN_yes (number_textOf l r hl) hm (by simp [left]))]
  exact takeN_app l r

theorem textN_less (l r : List UInt8) (m : Int) (hm : m < (l.length : Int)) (hl : l.length < 4294967296) : textN (some (textOf l ++ r)) m = ([], none) := by
  rw [textN_of (countN_no (number_textOf l r hl) (.inl hm))]
  rfl

theorem textN_short (l : List UInt8) (n : Nat) (hn : n < l.length + 4) (hl : l.length < 4294967296) : textN (some ((textOf l).take n)) l.length = ([], none) := by
  by_cases h4 : n < 4
  · have h : takeN (some ((textOf l).take n)) 4 = ([], none) := takeN_short _ _ (by simp; omega)
    have h2 : numberN (some ((textOf l).take n)) 4 = (0, none) := by simp only [numberN, h]; rfl
    rw [textN_of (countN_yes h2 (by omega) (by simp [left]))]
    rfl
  · have e : (textOf l).take n = wide l.length 4 ++ l.take (n - 4) := by
      unfold textOf
      rw [List.take_append, wide_length, List.take_of_length_le (by simp; omega)]
    have h2 : numberN (some ((textOf l).take n)) 4 = (l.length, some (l.take (n - 4))) := by
      rw [e, numberN_wide, Nat.mod_eq_of_lt (by omega)]
    rw [textN_of (countN_no h2 (.inr (by simp [left]; omega)))]
    rfl

end Go.Proofs.Ytlojjodgoeclfaa
