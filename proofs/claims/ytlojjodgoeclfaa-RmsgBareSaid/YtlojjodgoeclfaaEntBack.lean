/- What is taken of what was put: an entry, what is hard, a snap. -/
import Derived.Test.YtlojjodgoeclfaaEntP2
import Derived.Test.YtlojjodgoeclfaaEntRefI
import Derived.Test.YtlojjodgoeclfaaOctMath
namespace Go.Proofs.Ytlojjodgoeclfaa
open Go.RowKit
set_option linter.unusedVariables false
set_option linter.unusedSimpArgs false

theorem num8_back (n : Int) (h : -9223372036854775808 ≤ n ∧ n ≤ 9223372036854775807) (r : List UInt8) : numberN (some (num8 n ++ r)) 8 = ((IntKind.u64.wrap n).toNat, some r) ∧ IntKind.i64.wrap ((IntKind.u64.wrap n).toNat : Int) = n := by
  have hu := u64_wrap n
  refine ⟨?_, ?_⟩
  · unfold num8
    rw [numberN_wide, Nat.mod_eq_of_lt (by omega)]
  · rw [Int.toNat_of_nonneg hu.1, IntKind.wrap_u64, IntKind.wrap_i64]
    omega

theorem taken_back (i t : Int) (d r : List UInt8) (most : Int) (hi : -9223372036854775808 ≤ i ∧ i ≤ 9223372036854775807) (ht : -9223372036854775808 ≤ t ∧ t ≤ 9223372036854775807) (hd : (d.length : Int) ≤ most) (hd2 : d.length < 4294967296) :
    takenN (some (threeL i t d ++ r)) most = ⟨i, t, d, some r⟩ := by
  have e : threeL i t d ++ r = num8 i ++ (num8 t ++ (textOf d ++ r)) := by unfold threeL; simp
  obtain ⟨a1, a2⟩ := num8_back i hi (num8 t ++ (textOf d ++ r))
  obtain ⟨b1, b2⟩ := num8_back t ht (textOf d ++ r)
  unfold takenN
  rw [e, a1]
  dsimp only
  rw [b1]
  dsimp only
  rw [textN_full d r most hd hd2, a2, b2]

theorem from_back (ok : Int → Int → Nat → Bool) (i t : Int) (d r : List UInt8) (most : Int) (hi : -9223372036854775808 ≤ i ∧ i ≤ 9223372036854775807) (ht : -9223372036854775808 ≤ t ∧ t ≤ 9223372036854775807) (hd : (d.length : Int) ≤ most) (hd2 : d.length < 4294967296) (hok : ok i t d.length = true) :
    fromN ok (some (threeL i t d ++ r)) most = ⟨i, t, d, some r⟩ := by
  unfold fromN
  rw [taken_back i t d r most hi ht hd hd2]
  dsimp only
  rw [if_neg (by simp), if_pos hok]

theorem hard_back (t v : Int) (r : List UInt8) (h : hardB t v = true) : hardFromN (some (hardL t v ++ r)) = ⟨t, v, some r⟩ := by
  have hb : (0 ≤ t ∧ t ≤ 1099511627776) ∧ -1 ≤ v ∧ v ≤ 2 := by
    unfold hardB at h
    simp only [Bool.and_eq_true, decide_eq_true_eq] at h
    omega
  have e : hardL t v ++ r = num8 t ++ (num8 v ++ r) := by unfold hardL; simp
  obtain ⟨a1, a2⟩ := num8_back t (by omega) (num8 v ++ r)
  obtain ⟨b1, b2⟩ := num8_back v (by omega) r
  unfold hardFromN
  rw [e, a1]
  dsimp only
  rw [b1]
  dsimp only
  rw [if_neg (by simp), a2, b2, if_pos h]

theorem rightB_nums {i t : Int} {n : Nat} (h : rightB i t n = true) : (-9223372036854775808 ≤ i ∧ i ≤ 9223372036854775807) ∧ (-9223372036854775808 ≤ t ∧ t ≤ 9223372036854775807) ∧ n ≤ 12000 := by
  have := (rightB_iff i t n).1 h
  omega

theorem snapB_nums {i t : Int} {n : Nat} (h : snapB i t n = true) : (-9223372036854775808 ≤ i ∧ i ≤ 9223372036854775807) ∧ (-9223372036854775808 ≤ t ∧ t ≤ 9223372036854775807) ∧ n ≤ 50000 := by
  unfold snapB at h
  split at h
  · rename_i h0
    have := of_decide_eq_true h
    omega
  · simp only [Bool.and_eq_true, decide_eq_true_eq] at h
    have h1 := (numB_iff i).1 h.1.1
    have h2 := (numB_iff t).1 h.1.2
    omega

theorem threeL_length (i t : Int) (d : List UInt8) : (threeL i t d).length = 20 + d.length := by
  unfold threeL num8
  simp [textOf]
  omega

theorem hardL_length (t v : Int) : (hardL t v).length = 16 := by
  unfold hardL num8
  simp

theorem entBytes_length {i t : Int} {d : List UInt8} : (entBytes i t d).length ≤ 20 + d.length := by
  unfold entBytes
  split
  · rw [threeL_length]; omega
  · simp

theorem entBytes_fits {i t : Int} {d : List UInt8} : (entBytes i t d).length ≤ 12020 := by
  unfold entBytes
  split
  · rename_i h
    rw [threeL_length]
    have := (rightB_nums h).2.2
    omega
  · simp

theorem snapBytes_fits {i t : Int} {d : List UInt8} : (snapBytes i t d).length ≤ 20 + d.length := by
  unfold snapBytes
  split
  · rw [threeL_length]; omega
  · simp

theorem hardBytes_length (t v : Int) : (hardBytes t v).length = 16 := by
  rw [hardBytes_of]
  split <;> exact hardL_length _ _

end Go.Proofs.Ytlojjodgoeclfaa
