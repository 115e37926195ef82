/- A round of the scan, in a text's own words. Plain mathematics. -/
import Derived.Test.YtnkfdnehkihbeaaWalMath
namespace Go.Proofs.Ytnkfdnehkihbeaa
set_option linter.unusedVariables false

theorem ext_list (s : ByteArray) (a b : Nat) : (s.extract a b).data.toList = (s.data.toList.drop a).take (b - a) := by
  rw [ByteArray.data_extract, Array.toList_extract, List.extract_eq_take_drop]

theorem size_list (s : ByteArray) : s.data.toList.length = s.size := by simp

/-- The bytes from a to b. -/
def part (l : List UInt8) (a b : Nat) : List UInt8 := (l.drop a).take (b - a)

theorem part_length (l : List UInt8) (a b : Nat) (h1 : a ≤ b) (h2 : b ≤ l.length) : (part l a b).length = b - a := by
  simp [part]; omega

theorem take_drop (l : List UInt8) (k n : Nat) : (l.drop k).take n = part l k (k + n) := by
  rw [part, Nat.add_sub_cancel_left]

/-- Too little is left. -/
theorem scan_short (l : List UInt8) (k : Nat) (h : l.length < k + 8) : scanL (l.drop k) = ([], 0) := by
  apply scanL_none
  unfold scan1
  rw [if_pos (by rw [List.length_drop]; omega)]

/-- What is told to be its length is wrong. -/
theorem scan_wrong (l : List UInt8) (k n : Nat) (hk : k + 8 ≤ l.length) (hn : num (part l k (k + 4)) = n) (h : 60000 < n ∨ l.length < k + 8 + n) : scanL (l.drop k) = ([], 0) := by
  apply scanL_none
  unfold scan1
  rw [take_drop, hn, if_neg (by rw [List.length_drop]; omega), if_pos (by rw [List.length_drop]; omega)]

theorem drop_take2 (l : List UInt8) (k n : Nat) : ((l.drop k).drop 8).take n = part l (k + 8) (k + 8 + n) := by
  rw [List.drop_drop, take_drop]

theorem scan_else (l : List UInt8) (k n : Nat) (hn : num (part l k (k + 4)) = n) (h : frameL (part l (k + 8) (k + 8 + n)) ≠ part l k (k + 8 + n)) : scanL (l.drop k) = ([], 0) := by
  apply scanL_none
  unfold scan1
  rw [take_drop, hn]
  split
  · rfl
  · split
    · rfl
    · rw [drop_take2, take_drop, if_neg (by rw [← Nat.add_assoc]; exact h)]

theorem scan_next (l : List UInt8) (k n : Nat) (hn : num (part l k (k + 4)) = n) (hk : k + 8 + n ≤ l.length) (h6 : n ≤ 60000) (h : frameL (part l (k + 8) (k + 8 + n)) = part l k (k + 8 + n)) :
    scanL (l.drop k) = (part l (k + 8) (k + 8 + n) :: (scanL (l.drop (k + 8 + n))).1, 8 + n + (scanL (l.drop (k + 8 + n))).2) := by
  have h1 : scan1 (l.drop k) = some (part l (k + 8) (k + 8 + n)) := by
    unfold scan1
    rw [take_drop, hn, if_neg (by rw [List.length_drop]; omega), if_neg (by rw [List.length_drop]; omega), drop_take2, take_drop, if_pos (by rw [← Nat.add_assoc]; exact h)]
  rw [scanL_some h1, part_length _ _ _ (by omega) (by omega), List.drop_drop]
  have e1 : k + (k + 8 + n - (k + 8) + 8) = k + 8 + n := by omega
  have e2 : k + 8 + n - (k + 8) + 8 = 8 + n := by omega
  rw [e1, e2]

/-- What was told up to place k. -/
structure Told (l : List UInt8) (k : Nat) (ls : List (List UInt8)) : Prop where
  le : k ≤ l.length
  all : scanL l = (ls ++ (scanL (l.drop k)).1, k + (scanL (l.drop k)).2)

theorem Told.start (l : List UInt8) : Told l 0 [] := ⟨Nat.zero_le _, by simp⟩

theorem Told.next {l : List UInt8} {k n : Nat} {ls : List (List UInt8)} (h : Told l k ls) (hn : num (part l k (k + 4)) = n) (hk : k + 8 + n ≤ l.length) (h6 : n ≤ 60000) (hf : frameL (part l (k + 8) (k + 8 + n)) = part l k (k + 8 + n)) :
    Told l (k + 8 + n) (ls ++ [part l (k + 8) (k + 8 + n)]) := by
  refine ⟨hk, ?_⟩
  rw [h.all, scan_next l k n hn hk h6 hf, List.append_assoc, List.singleton_append]
  congr 1
  omega

theorem Told.done {l : List UInt8} {k : Nat} {ls : List (List UInt8)} (h : Told l k ls) (hs : scanL (l.drop k) = ([], 0)) : scanL l = (ls, k) := by
  rw [h.all, hs, List.append_nil, Nat.add_zero]

end Go.Proofs.Ytnkfdnehkihbeaa
