/- A frame of which bits are turned is none. Plain mathematics. -/
import Derived.Test.YtmeoooojmhhahaaGreatWalPure
namespace Go.Proofs.YtmeoooojmhhahaaGreat
set_option linter.unusedVariables false

theorem wide_inj {a b : Nat} (ha : a < 4294967296) (hb : b < 4294967296) (h : wide a 4 = wide b 4) : a = b := by
  have := congrArg num h
  rw [num_wide, num_wide] at this
  omega

/-- A frame's length stands there, another sum or another record does not: none. -/
theorem scan1_else (r s : List UInt8) (n : Nat) (hn : n = r.length) (hs : s.length = 4) (hne : s ≠ wide (sumL r) 4) (h : n ≤ 60000) : scan1 (wide n 4 ++ (s ++ r)) = none := by
  cases hc : scan1 (wide n 4 ++ (s ++ r)) with
  | none => rfl
  | some q =>
    exfalso
    obtain ⟨e, hq⟩ := scan1_some hc
    subst hn
    have e4 := congrArg (List.take 4) e
    rw [take4_frame, List.take_append_of_le_length (by simp), List.take_of_length_le (by simp)] at e4
    have hl : r.length = q.length := wide_inj (by omega) (by omega) e4
    have hlen := congrArg List.length e
    have e0 : (wide r.length 4 ++ (s ++ r)).drop (q.length + 8) = [] := by
      apply List.drop_eq_nil_of_le
      simp; omega
    rw [e0, List.append_nil] at e
    unfold frameL at e
    rw [hl] at e
    have e2 := List.append_cancel_left e
    have e3 := (List.append_inj e2 (by simp [hs])).1
    have e5 := (List.append_inj e2 (by simp [hs])).2
    subst e5
    exact hne e3

/-- A record of which up to 32 bits that stand together are turned has another sum. -/
theorem sumL_turned (l r : List UInt8) (a b c d p q r' s : UInt8) (h : ¬ (p = 0 ∧ q = 0 ∧ r' = 0 ∧ s = 0)) :
    sumL (l ++ [a ^^^ p, b ^^^ q, c ^^^ r', d ^^^ s] ++ r) ≠ sumL (l ++ [a, b, c, d] ++ r) := by
  have := burst l r a b c d p q r' s h (moreN 0 (wide (l ++ [a, b, c, d] ++ r).length 4)) (moreN_lt _ _ (by omega))
  unfold sumL
  rw [show (l ++ [a ^^^ p, b ^^^ q, c ^^^ r', d ^^^ s] ++ r).length = (l ++ [a, b, c, d] ++ r).length by simp]
  exact this

/-- Bytes from place k on are turned by four. -/
def turnAt (l : List UInt8) (k : Nat) (p q r s : UInt8) : List UInt8 := (List.zipWith (· ^^^ ·) (l.drop k) [p, q, r, s])

def laid (l : List UInt8) (k : Nat) (p q r s : UInt8) : List UInt8 := l.take k ++ (turnAt l k p q r s ++ l.drop (k + 4))

theorem four_of (l : List UInt8) (k : Nat) (h : k + 4 ≤ l.length) : ∃ a b c d, l = l.take k ++ ([a, b, c, d] ++ l.drop (k + 4)) ∧ l.drop k = [a, b, c, d] ++ l.drop (k + 4) := by
  have : l.drop k = l[k] :: l[k + 1] :: l[k + 2] :: l[k + 3] :: l.drop (k + 4) := by
    rw [List.drop_eq_getElem_cons (by omega), List.drop_eq_getElem_cons (by omega), List.drop_eq_getElem_cons (by omega), List.drop_eq_getElem_cons (by omega)]
  refine ⟨_, _, _, _, ?_, this⟩
  calc l = l.take k ++ l.drop k := (List.take_append_drop k l).symm
    _ = _ := by rw [this]; rfl

theorem xor_ne {a p : UInt8} (h : p ≠ 0) : a ^^^ p ≠ a := by
  intro e
  apply h
  have := congrArg (a ^^^ ·) e
  simpa only [← UInt8.xor_assoc, UInt8.xor_self, UInt8.zero_xor] using this

/-- A frame of which up to 32 bits that stand together are turned, in its sum or in its record, is none. -/
theorem laid_none (r : List UInt8) (hr : r.length ≤ 60000) (k : Nat) (hk : k = 4 ∨ 8 ≤ k) (hkl : k + 4 ≤ r.length + 8) (p q s t : UInt8) (h : ¬ (p = 0 ∧ q = 0 ∧ s = 0 ∧ t = 0)) :
    scan1 (laid (frameL r) k p q s t) = none := by
  have hfl := frameL_length r
  rcases hk with rfl | hk
  · -- the sum
    obtain ⟨a, b, c, d, e1, e2⟩ := four_of (wide (sumL r) 4) 0 (by simp)
    have ew : wide (sumL r) 4 = [a, b, c, d] := by
      rw [List.drop_zero, Nat.zero_add, List.drop_eq_nil_of_le (by simp), List.append_nil] at e2
      exact e2
    have ed : (frameL r).drop 4 = wide (sumL r) 4 ++ r := by
      unfold frameL
      rw [List.drop_append]
      simp
    have et : (frameL r).take 4 = wide r.length 4 := by
      have := take4_frame r []
      rwa [List.append_nil] at this
    have e8 : (frameL r).drop (4 + 4) = r := by
      have := drop8_frame r []
      rwa [List.append_nil, List.append_nil] at this
    have el : laid (frameL r) 4 p q s t = wide r.length 4 ++ ([a ^^^ p, b ^^^ q, c ^^^ s, d ^^^ t] ++ r) := by
      unfold laid turnAt
      rw [et, ed, e8, ew]
      simp
    rw [el]
    refine scan1_else r _ r.length rfl rfl ?_ hr
    rw [ew]
    intro e
    simp only [List.cons.injEq, and_true] at e
    apply h
    refine ⟨?_, ?_, ?_, ?_⟩
    · exact Decidable.byContradiction fun hn => xor_ne hn e.1
    · exact Decidable.byContradiction fun hn => xor_ne hn e.2.1
    · exact Decidable.byContradiction fun hn => xor_ne hn e.2.2.1
    · exact Decidable.byContradiction fun hn => xor_ne hn e.2.2.2
  · -- the record
    obtain ⟨m, rfl⟩ : ∃ m, k = 8 + m := ⟨k - 8, by omega⟩
    obtain ⟨a, b, c, d, e1, e2⟩ := four_of r m (by omega)
    have ed : ∀ j, (frameL r).drop (8 + j) = r.drop j := fun j => by
      have h8 := drop8_frame r []
      rw [List.append_nil, List.append_nil] at h8
      rw [← List.drop_drop, h8]
    have et : (frameL r).take (8 + m) = wide r.length 4 ++ (wide (sumL r) 4 ++ r.take m) := by
      unfold frameL
      rw [← List.append_assoc, List.take_append, List.take_of_length_le (by simp)]
      simp
    have el : laid (frameL r) (8 + m) p q s t = wide r.length 4 ++ (wide (sumL r) 4 ++ (r.take m ++ [a ^^^ p, b ^^^ q, c ^^^ s, d ^^^ t] ++ r.drop (m + 4))) := by
      unfold laid turnAt
      rw [et, ed, Nat.add_assoc 8 m 4, ed, e2]
      simp
    have hs := sumL_turned (r.take m) (r.drop (m + 4)) a b c d p q s t h
    rw [List.append_assoc (r.take m) [a, b, c, d], ← e1] at hs
    rw [el]
    refine scan1_else _ _ r.length ?_ (by simp) ?_ hr
    · simp; omega
    · intro e
      exact hs (wide_inj (sumL_lt _) (sumL_lt _) e).symm

end Go.Proofs.YtmeoooojmhhahaaGreat
