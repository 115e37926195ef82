/- A snap's frame of which one byte became another one tells no snap. Plain mathematics. -/
import Derived.Test.YtmeoooojmhhahaaGreatVauM
import Derived.Test.YtmeoooojmhhahaaGreatWalTurn
namespace Go.Proofs.YtmeoooojmhhahaaGreat
set_option linter.unusedVariables false
set_option linter.unusedSimpArgs false

theorem laid_at (T R : List UInt8) (a b c d p q s t : UInt8) : laid (T ++ ([a, b, c, d] ++ R)) T.length p q s t = T ++ ([a ^^^ p, b ^^^ q, c ^^^ s, d ^^^ t] ++ R) := by
  unfold laid turnAt
  simp

/-- One byte turned is four bytes turned, from wherever they stand. -/
theorem set_laid (l : List UInt8) (k i : Nat) (hk : k + 4 ≤ l.length) (hi : i < 4) (z : UInt8) (hz : z ≠ 0) (x : UInt8) (hx : l[k + i]? = some x) :
    ∃ p q s t, ¬ (p = 0 ∧ q = 0 ∧ s = 0 ∧ t = 0) ∧ l.set (k + i) (x ^^^ z) = laid l k p q s t := by
  obtain ⟨a, b, c, d, e1, _⟩ := four_of l k hk
  have hT : (l.take k).length = k := by rw [List.length_take]; omega
  generalize hTT : l.take k = T at *
  generalize l.drop (k + 4) = R at *
  subst hT
  subst e1
  have h0 : ∀ j, (T ++ ([a, b, c, d] ++ R))[T.length + j]? = ([a, b, c, d] ++ R)[j]? := fun j => by rw [List.getElem?_append_right (by omega)]; congr 1; omega
  rw [h0] at hx
  have hset : ∀ (j : Nat) (u : UInt8), (T ++ ([a, b, c, d] ++ R)).set (T.length + j) u = T ++ (([a, b, c, d] ++ R).set j u) := fun j u => by rw [List.set_append_right _ _ (by omega)]; congr 2; omega
  rw [hset]
  match i, hi with
  | 0, _ =>
    obtain rfl : a = x := by simpa using hx
    exact ⟨z, 0, 0, 0, fun h => hz h.1, by rw [laid_at]; simp⟩
  | 1, _ =>
    obtain rfl : b = x := by simpa using hx
    exact ⟨0, z, 0, 0, fun h => hz h.2.1, by rw [laid_at]; simp⟩
  | 2, _ =>
    obtain rfl : c = x := by simpa using hx
    exact ⟨0, 0, z, 0, fun h => hz h.2.2.1, by rw [laid_at]; simp⟩
  | 3, _ =>
    obtain rfl : d = x := by simpa using hx
    exact ⟨0, 0, 0, z, fun h => hz h.2.2.2, by rw [laid_at]; simp⟩

/-- A frame one of whose bytes, but its length's, became another one tells nothing. -/
theorem snapOf_turned (r : List UInt8) (hr : r.length ≤ 60000) (h4 : 4 ≤ r.length) (p : Nat) (hp4 : 4 ≤ p) (hp : p < (frameL r).length) (z : UInt8) (hz : z ≠ 0) (x : UInt8) (hx : (frameL r)[p]? = some x) : snapOf ((frameL r).set p (x ^^^ z)) = none := by
  have hfl := frameL_length r
  obtain ⟨k, i, rfl, hi, hk, hkl⟩ : ∃ k i, p = k + i ∧ i < 4 ∧ (k = 4 ∨ 8 ≤ k) ∧ k + 4 ≤ r.length + 8 := by
    by_cases h8 : p < 8
    · exact ⟨4, p - 4, by omega, by omega, .inl rfl, by omega⟩
    · by_cases he : p + 4 ≤ r.length + 8
      · exact ⟨p, 0, by omega, by omega, .inr (by omega), he⟩
      · exact ⟨r.length + 4, p - (r.length + 4), by omega, by omega, .inr (by omega), by omega⟩
  obtain ⟨a, b, c, d, hne, e⟩ := set_laid (frameL r) k i (by omega) hi z hz x hx
  rw [e]
  unfold snapOf
  rw [scanL_none (laid_none r hr k hk hkl a b c d hne)]

theorem snapRec_long (s : Ent) (h : s.d.length ≤ 50000) : 20 ≤ (snapRec s).length ∧ (snapRec s).length ≤ 60000 := by
  unfold snapRec
  rw [threeL_length]
  omega
end Go.Proofs.YtmeoooojmhhahaaGreat
