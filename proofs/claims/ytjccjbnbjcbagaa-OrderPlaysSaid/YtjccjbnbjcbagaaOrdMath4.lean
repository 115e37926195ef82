/- Rising lists of the same pairs are the same list. Plain mathematics. -/
import Derived.Test.YtjccjbnbjcbagaaOrdMath3
namespace Go.Proofs.Ytjccjbnbjcbagaa
set_option linter.unusedVariables false
namespace Tr
variable {K V : Type} {lt : K → K → Bool}

theorem sorted_ext (L : Lin lt) : ∀ {l m : List (K × V)}, l.Pairwise (fun a b => lt a.1 b.1 = true) → m.Pairwise (fun a b => lt a.1 b.1 = true) → (∀ p, p ∈ l ↔ p ∈ m) → l = m
  | [], [], _, _, _ => rfl
  | [], b :: m, _, _, h => absurd ((h b).2 List.mem_cons_self) (by simp)
  | a :: l, [], _, _, h => absurd ((h a).1 List.mem_cons_self) (by simp)
  | a :: l, b :: m, hl, hm, h => by
    rw [List.pairwise_cons] at hl hm
    have hab : a = b := by
      rcases List.mem_cons.1 ((h a).1 List.mem_cons_self) with e | ha
      · exact e
      · rcases List.mem_cons.1 ((h b).2 List.mem_cons_self) with e | hb
        · exact e.symm
        · have h1 := hm.1 a ha
          have h2 := hl.1 b hb
          rw [L.as h1] at h2; cases h2
    subst hab
    have ih := sorted_ext L hl.2 hm.2 (fun p => by
      constructor
      · intro hp
        rcases List.mem_cons.1 ((h p).1 (List.mem_cons_of_mem _ hp)) with e | hp'
        · subst e; have := hl.1 _ hp; rw [L.irr] at this; cases this
        · exact hp'
      · intro hp
        rcases List.mem_cons.1 ((h p).2 (List.mem_cons_of_mem _ hp)) with e | hp'
        · subst e; have := hm.1 _ hp; rw [L.irr] at this; cases this
        · exact hp')
    rw [ih]

theorem mem_put (L : Lin lt) {t : Tr K V} (h : Bst lt t) (k : K) (v : V) (p : K × V) : p ∈ (put lt k v t).list ↔ p = (k, v) ∨ p ∈ t.list ∧ p.1 ≠ k := by
  rw [list_put L k v t h]
  constructor
  · intro hp
    unfold insL at hp
    rcases List.mem_append.1 hp with hp | hp
    · obtain ⟨h1, h2⟩ := List.mem_filter.1 hp
      exact .inr ⟨h1, fun e => by rw [e, L.irr] at h2; cases h2⟩
    · rcases List.mem_cons.1 hp with e | hp
      · exact .inl e
      · obtain ⟨h1, h2⟩ := List.mem_filter.1 hp
        exact .inr ⟨h1, fun e => by rw [e, L.irr] at h2; cases h2⟩
  · rintro (rfl | ⟨h1, h2⟩)
    · exact insL_self k v _
    · exact insL_mem L k v h1 h2

/-- The pairs are just the keys of some places, each with what it has by a rule. -/
def Just (f : K → V) (s : Nat → K) (j : Nat) (t : Tr K V) : Prop := ∀ p, p ∈ t.list ↔ p.2 = f p.1 ∧ ∃ i, i < j ∧ s i = p.1

theorem Just.nil (f : K → V) (s : Nat → K) : Just f s 0 .nil := fun p => ⟨fun h => (by cases h), fun ⟨_, i, h, _⟩ => absurd h (by omega)⟩

theorem Just.put (L : Lin lt) {f : K → V} {s : Nat → K} {j : Nat} {t : Tr K V} (h : Just f s j t) (hB : Bst lt t) : Just f s (j + 1) (Tr.put lt (s j) (f (s j)) t) := by
  intro p
  rw [mem_put L hB]
  constructor
  · rintro (rfl | ⟨h1, h2⟩)
    · exact ⟨rfl, j, by omega, rfl⟩
    · obtain ⟨h3, i, h4, h5⟩ := (h p).1 h1
      exact ⟨h3, i, by omega, h5⟩
  · rintro ⟨h1, i, h2, h3⟩
    rcases Classical.em (p.1 = s j) with e | e
    · left; exact Prod.ext e (by rw [h1, e])
    · right
      refine ⟨(h p).2 ⟨h1, i, ?_, h3⟩, e⟩
      rcases Nat.lt_or_ge i j with h4 | h4
      · exact h4
      · obtain rfl : i = j := by omega
        exact absurd h3.symm e

theorem Just.same (L : Lin lt) {f : K → V} {s r : Nat → K} {n : Nat} {t q : Tr K V} (h : Just f s n t) (g : Just f r n q) (hB : Bst lt t) (gB : Bst lt q) (h1 : ∀ i, i < n → ∃ i', i' < n ∧ r i' = s i) (h2 : ∀ i, i < n → ∃ i', i' < n ∧ s i' = r i) : t.list = q.list :=
  sorted_ext L hB gB fun p => by
    rw [h p, g p]
    constructor
    · rintro ⟨a, i, b, c⟩
      obtain ⟨i', b', c'⟩ := h1 i b
      exact ⟨a, i', b', by rw [c', c]⟩
    · rintro ⟨a, i, b, c⟩
      obtain ⟨i', b', c'⟩ := h2 i b
      exact ⟨a, i', b', by rw [c', c]⟩

end Tr

theorem turn_back {n T i : Nat} (hi : i < n) : ∃ i', i' < n ∧ (i' + T) % n = i := by
  refine ⟨(i + (n - T % n)) % n, Nat.mod_lt _ (by omega), ?_⟩
  have hT : T % n < n := Nat.mod_lt _ (by omega)
  have h1 : T = n * (T / n) + T % n := (Nat.div_add_mod T n).symm
  rw [Nat.mod_add_mod]
  have h2 : i + (n - T % n) + T = i + n * (T / n + 1) := by rw [Nat.mul_add]; omega
  rw [h2, Nat.add_mul_mod_self_left, Nat.mod_eq_of_lt hi]

end Go.Proofs.Ytjccjbnbjcbagaa
