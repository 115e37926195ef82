/- The record with whose frame bytes begin, by its length and its sum. Plain mathematics. -/
import Derived.Test.YtnkfdnehkihbeaaWalMath
namespace Go.Proofs.Ytnkfdnehkihbeaa
set_option linter.unusedVariables false

theorem wide_snoc (v : Nat) (b : UInt8) (n : Nat) : wide (v * 256 + b.toNat) (n + 1) = wide v n ++ [b] := by
  have hb : b.toNat < 256 := b.toNat_lt
  induction n with
  | zero =>
    simp only [wide, Nat.pow_zero, Nat.div_one, List.nil_append, List.cons.injEq, and_true]
    apply UInt8.toNat_inj.1
    simp
  | succ n ih =>
    rw [wide, ih, wide, List.cons_append]
    congr 2
    rw [Nat.pow_succ', ← Nat.div_div_eq_div_mul]
    congr 1
    omega

theorem wide_num4 (l : List UInt8) (h : l.length = 4) : wide (num l) 4 = l := by
  match l, h with
  | [a, b, c, d], _ =>
    have e : num [a, b, c, d] = (((0 * 256 + a.toNat) * 256 + b.toNat) * 256 + c.toNat) * 256 + d.toNat := rfl
    rw [e, wide_snoc, wide_snoc, wide_snoc, wide_snoc]
    rfl

theorem scan1_big (l : List UInt8) (n : Nat) (hn : num (l.take 4) = n) (h : 60000 < n ∨ l.length < 8 + n) : scan1 l = none := by
  unfold scan1
  split
  · rfl
  · rw [if_pos (by rw [hn]; omega)]

theorem scan1_little (l : List UInt8) (h : l.length < 8) : scan1 l = none := by
  unfold scan1
  rw [if_pos h]

theorem scan1_is (l : List UInt8) (n : Nat) (hn : num (l.take 4) = n) (h6 : n ≤ 60000) (h8 : 8 + n ≤ l.length) :
    scan1 l = if num ((l.drop 4).take 4) = moreN (moreN 0 (l.take 4)) ((l.drop 8).take n) then some ((l.drop 8).take n) else none := by
  unfold scan1
  rw [if_neg (by omega), hn, if_neg (by omega)]
  have hr : ((l.drop 8).take n).length = n := by simp; omega
  have e4 : (l.take 4).length = 4 := by simp; omega
  have e44 : ((l.drop 4).take 4).length = 4 := by simp; omega
  have ew : wide n 4 = l.take 4 := by rw [← hn]; exact wide_num4 _ e4
  have et : l.take (8 + n) = l.take 4 ++ ((l.drop 4).take 4 ++ (l.drop 8).take n) := by
    rw [show 8 + n = 4 + (4 + n) by omega, List.take_add, List.take_add, List.drop_drop]
  have es : sumL ((l.drop 8).take n) = moreN (moreN 0 (l.take 4)) ((l.drop 8).take n) := by unfold sumL; rw [hr, ew]
  have ef : frameL ((l.drop 8).take n) = l.take 4 ++ (wide (sumL ((l.drop 8).take n)) 4 ++ (l.drop 8).take n) := by unfold frameL; rw [hr, ew]
  have hiff : (frameL ((l.drop 8).take n) = l.take (8 + n)) ↔ num ((l.drop 4).take 4) = moreN (moreN 0 (l.take 4)) ((l.drop 8).take n) := by
    rw [ef, et, ← es]
    constructor
    · intro h
      have h2 := List.append_cancel_left h
      have h3 := (List.append_inj h2 (by simp [e44])).1
      rw [← h3, num_wide]
      have := sumL_lt ((l.drop 8).take n)
      omega
    · intro h
      rw [← h, wide_num4 _ e44]
  by_cases h : frameL ((l.drop 8).take n) = l.take (8 + n)
  · rw [if_pos h, if_pos (hiff.1 h)]
  · rw [if_neg h, if_neg (fun e => h (hiff.2 e))]

end Go.Proofs.Ytnkfdnehkihbeaa
