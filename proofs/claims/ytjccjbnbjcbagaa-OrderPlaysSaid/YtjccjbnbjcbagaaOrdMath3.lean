/- How many keys are below one, and which are there, as keys are put. Plain mathematics. -/
import Derived.Test.YtjccjbnbjcbagaaOrdMath
namespace Go.Proofs.Ytjccjbnbjcbagaa
set_option linter.unusedVariables false
namespace Tr
variable {K V : Type} {lt : K → K → Bool}

theorem isNil_iff (L : Lin lt) {t : Tr K V} (h : Bst lt t) (k : K) : (find lt k t).isNil = true ↔ ∀ p ∈ t.list, p.1 ≠ k := by
  cases e : find lt k t with
  | nil => exact ⟨fun _ => find_mem L k t h e, fun _ => rfl⟩
  | node k' v' a b =>
    refine ⟨fun h => (by cases h), fun h => ?_⟩
    exact absurd rfl (h _ (find_node L k t e).2)

theorem mem_insL (L : Lin lt) (z : K) (v : V) {l : List (K × V)} {p : K × V} (h : p ∈ insL lt z v l) : p.1 = z ∨ p ∈ l := by
  unfold insL at h
  rcases List.mem_append.1 h with h | h
  · exact .inr (List.mem_filter.1 h).1
  · rcases List.mem_cons.1 h with rfl | h
    · exact .inl rfl
    · exact .inr (List.mem_filter.1 h).1

theorem insL_mem (L : Lin lt) (z : K) (v : V) {l : List (K × V)} {p : K × V} (h : p ∈ l) (hz : p.1 ≠ z) : p ∈ insL lt z v l := by
  unfold insL
  cases e : lt p.1 z with
  | true => exact List.mem_append_left _ (List.mem_filter.2 ⟨h, e⟩)
  | false =>
    cases f : lt z p.1 with
    | true => exact List.mem_append_right _ (List.mem_cons_of_mem _ (List.mem_filter.2 ⟨h, f⟩))
    | false => exact absurd (L.con e f) hz

theorem insL_self (z : K) (v : V) (l : List (K × V)) : (z, v) ∈ insL lt z v l := List.mem_append_right _ List.mem_cons_self

theorem isNil_put_same (L : Lin lt) {t : Tr K V} (h : Bst lt t) (k : K) (v : V) : (find lt k (put lt k v t)).isNil = false := by
  cases e : (find lt k (put lt k v t)).isNil with
  | false => rfl
  | true =>
    have := (isNil_iff L (h.put L k v) k).1 e (k, v) (by rw [list_put L k v t h]; exact insL_self k v _)
    exact absurd rfl this

theorem isNil_put_other (L : Lin lt) {t : Tr K V} (h : Bst lt t) {k z : K} (v : V) (hz : z ≠ k) : (find lt k (put lt z v t)).isNil = (find lt k t).isNil := by
  rw [Bool.eq_iff_iff, isNil_iff L (h.put L z v) k, isNil_iff L h k, list_put L z v t h]
  constructor
  · intro H p hp e
    exact H p (insL_mem L z v hp (fun e2 => hz (by rw [← e2, e]))) e
  · intro H p hp e
    rcases mem_insL L z v hp with e2 | hp
    · exact hz (by rw [← e2, e])
    · exact H p hp e

theorem count_insL (L : Lin lt) (k z : K) (v : V) : ∀ {l : List (K × V)}, l.Pairwise (fun a b => lt a.1 b.1 = true) → (∀ p ∈ l, p.1 ≠ z) →
    ((insL lt z v l).filter fun p => lt p.1 k).length = (l.filter fun p => lt p.1 k).length + (if lt z k then 1 else 0)
  | [], _, _ => by cases e : lt z k <;> simp [insL, e]
  | a :: l, h, hn => by
    rw [List.pairwise_cons] at h
    have ih := count_insL L k z v h.2 (fun p hp => hn p (List.mem_cons_of_mem _ hp))
    cases e : lt a.1 z with
    | true =>
      have hi : insL lt z v (a :: l) = a :: insL lt z v l := by
        unfold insL
        rw [List.filter_cons, List.filter_cons, e, L.as e]
        rfl
      rw [hi, List.filter_cons, List.filter_cons]
      cases lt a.1 k <;> simp [ih]
      omega
    | false =>
      cases f : lt z a.1 with
      | false => exact absurd (L.con e f) (hn a List.mem_cons_self)
      | true =>
        have hi : insL lt z v (a :: l) = (z, v) :: a :: l := by
          unfold insL
          rw [List.filter_cons, List.filter_cons, e, f, filter_none (l := l) (p := fun p => lt p.1 z) (fun p hp => L.as (L.tr f (h.1 p hp))), filter_all (l := l) (p := fun p => lt z p.1) (fun p hp => L.tr f (h.1 p hp))]
          rfl
        rw [hi, List.filter_cons]
        cases lt z k <;> simp

theorem count_insL_in (L : Lin lt) (k z : K) (v : V) : ∀ {l : List (K × V)}, l.Pairwise (fun a b => lt a.1 b.1 = true) → (∃ p ∈ l, p.1 = z) →
    ((insL lt z v l).filter fun p => lt p.1 k).length = (l.filter fun p => lt p.1 k).length
  | [], _, h => by obtain ⟨p, hp, _⟩ := h; cases hp
  | a :: l, h, hn => by
    rw [List.pairwise_cons] at h
    obtain ⟨p, hp, hpz⟩ := hn
    rcases List.mem_cons.1 hp with rfl | hp
    · subst hpz
      have hi : insL lt p.1 v (p :: l) = (p.1, v) :: l := by
        unfold insL
        rw [List.filter_cons, List.filter_cons, L.irr, filter_none (l := l) (p := fun x => lt x.1 p.1) (fun x hx => L.as (h.1 x hx)), filter_all (l := l) (p := fun x => lt p.1 x.1) (fun x hx => h.1 x hx)]
        rfl
      rw [hi, List.filter_cons, List.filter_cons]
      cases lt p.1 k <;> simp
    · have e : lt a.1 z = true := by rw [← hpz]; exact h.1 p hp
      have hi : insL lt z v (a :: l) = a :: insL lt z v l := by
        unfold insL
        rw [List.filter_cons, List.filter_cons, e, L.as e]
        rfl
      have ih := count_insL_in L k z v h.2 ⟨p, hp, hpz⟩
      rw [hi, List.filter_cons, List.filter_cons]
      cases lt a.1 k <;> simp [ih]

theorem rank_put_new (L : Lin lt) {t : Tr K V} (h : Bst lt t) (k z : K) (v : V) (hz : find lt z t = .nil) : rank lt k (put lt z v t) = rank lt k t + (if lt z k then 1 else 0) := by
  rw [rank_eq L k _ (h.put L z v), rank_eq L k t h, list_put L z v t h]
  exact count_insL L k z v h (find_mem L z t h hz)

theorem rank_put_old (L : Lin lt) {t : Tr K V} (h : Bst lt t) (k z : K) (v : V) {k' : K} {v' : V} {a b : Tr K V} (hz : find lt z t = .node k' v' a b) : rank lt k (put lt z v t) = rank lt k t := by
  rw [rank_eq L k _ (h.put L z v), rank_eq L k t h, list_put L z v t h]
  exact count_insL_in L k z v h ⟨_, (find_node L z t hz).2, rfl⟩

/-- The pairs' cells, place by place. -/
theorem flat_key {α : Type} (f g : α → Value) : ∀ (l : List α) (i : Nat), (l.flatMap fun p => [f p, g p])[i * 2]? = l[i]?.map f
  | [], _ => by simp
  | a :: l, 0 => rfl
  | a :: l, i + 1 => by
    rw [List.flatMap_cons, List.getElem?_cons_succ, ← flat_key f g l i, Nat.succ_mul]
    rfl
theorem flat_val {α : Type} (f g : α → Value) : ∀ (l : List α) (i : Nat), (l.flatMap fun p => [f p, g p])[i * 2 + 1]? = l[i]?.map g
  | [], _ => by simp
  | a :: l, 0 => rfl
  | a :: l, i + 1 => by
    rw [List.flatMap_cons, List.getElem?_cons_succ, ← flat_val f g l i, Nat.succ_mul]
    rfl

end Tr
end Go.Proofs.Ytjccjbnbjcbagaa
