/- Places of a rising list, by their keys. Plain mathematics. -/
import Derived.Test.YtjccjbnbjcbagaaOrdMath
namespace Go.Proofs.Ytjccjbnbjcbagaa
namespace Tr
variable {K V : Type} {lt : K → K → Bool}

/-- In a rising list just those ahead of a place have keys below that place's. -/
theorem below_at (L : Lin lt) : ∀ {l : List (K × V)} {i : Nat} {p : K × V}, l.Pairwise (fun a b => lt a.1 b.1 = true) → l[i]? = some p → (l.filter fun q => lt q.1 p.1).length = i
  | [], _, _, _, h => by cases h
  | q :: l, 0, p, hp, h => by
    rw [List.pairwise_cons] at hp
    obtain rfl : q = p := by simpa using h
    rw [List.filter_cons, L.irr, filter_none (l := l) (p := fun x => lt x.1 q.1) (fun x hx => L.as (hp.1 x hx))]
    rfl
  | q :: l, i + 1, p, hp, h => by
    rw [List.pairwise_cons] at hp
    rw [List.getElem?_cons_succ] at h
    have hm : p ∈ l := List.mem_of_getElem? h
    rw [List.filter_cons, hp.1 p hm]
    simp [below_at L hp.2 h]

theorem rank_at (L : Lin lt) {t : Tr K V} (h : Bst lt t) {i : Nat} {p : K × V} (hp : t.list[i]? = some p) : rank lt p.1 t = i := by
  rw [rank_eq L _ t h]; exact below_at L h hp

theorem lt_at {t : Tr K V} (h : Bst lt t) {i j : Nat} {p q : K × V} (hp : t.list[i]? = some p) (hq : t.list[j]? = some q) (hij : i < j) : lt p.1 q.1 = true := by
  obtain ⟨hi, rfl⟩ := List.getElem?_eq_some_iff.1 hp
  obtain ⟨hj, rfl⟩ := List.getElem?_eq_some_iff.1 hq
  exact List.pairwise_iff_getElem.1 h i j hi hj hij

theorem not_lt_at (L : Lin lt) {t : Tr K V} (h : Bst lt t) {i j : Nat} {p q : K × V} (hp : t.list[i]? = some p) (hq : t.list[j]? = some q) (hij : j ≤ i) : lt p.1 q.1 = false := by
  rcases Nat.lt_or_ge j i with h1 | h1
  · exact L.as (lt_at h hq hp h1)
  · obtain rfl : i = j := by omega
    rw [hp] at hq
    obtain rfl : p = q := by simpa using hq
    exact L.irr _

theorem length_sub {l : List (K × V)} {i j : Nat} (hj : j ≤ l.length) : (sub (i : Int) (j : Int) l).length = j - i := by
  unfold sub; simp; omega

end Tr
end Go.Proofs.Ytjccjbnbjcbagaa
