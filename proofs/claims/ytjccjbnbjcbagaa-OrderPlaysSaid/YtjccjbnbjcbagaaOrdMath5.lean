/- The pairs between two keys, by places and by keys. Plain mathematics. -/
import Derived.Test.YtjccjbnbjcbagaaOrdMath3
import Derived.Test.YtjccjbnbjcbagaaOrdMath2
namespace Go.Proofs.Ytjccjbnbjcbagaa
set_option linter.unusedVariables false
namespace Tr
variable {K V : Type} {lt : K → K → Bool}

/-- In a rising list those below a key stand ahead of the others. -/
theorem split_at (L : Lin lt) (k : K) : ∀ {l : List (K × V)}, l.Pairwise (fun a b => lt a.1 b.1 = true) → l = l.filter (fun p => lt p.1 k) ++ l.filter (fun p => !lt p.1 k)
  | [], _ => rfl
  | a :: l, h => by
    rw [List.pairwise_cons] at h
    rw [List.filter_cons, List.filter_cons]
    cases e : lt a.1 k with
    | true => simp only [Bool.not_true, if_true, Bool.false_eq_true, if_false, List.cons_append]; rw [← split_at L k h.2]
    | false =>
      have hall : ∀ p ∈ l, lt p.1 k = false := fun p hp => by
        cases f : lt p.1 k with
        | false => rfl
        | true => rw [← e, L.tr (h.1 p hp) f]
      rw [filter_none (l := l) (p := fun p => lt p.1 k) hall, filter_all (l := l) (p := fun p => !lt p.1 k) (fun p hp => by rw [hall p hp]; rfl)]
      simp

theorem drop_at (L : Lin lt) (k : K) {l : List (K × V)} (h : l.Pairwise (fun a b => lt a.1 b.1 = true)) : l.drop (l.filter fun p => lt p.1 k).length = l.filter (fun p => !lt p.1 k) := by
  have h1 := split_at L k h
  generalize hx : l.filter (fun p => lt p.1 k) = x at *
  generalize hy : l.filter (fun p => !lt p.1 k) = y at *
  rw [h1]; simp
theorem take_at (L : Lin lt) (k : K) {l : List (K × V)} (h : l.Pairwise (fun a b => lt a.1 b.1 = true)) : l.take (l.filter fun p => lt p.1 k).length = l.filter (fun p => lt p.1 k) := by
  have h1 := split_at L k h
  generalize hx : l.filter (fun p => lt p.1 k) = x at *
  generalize hy : l.filter (fun p => !lt p.1 k) = y at *
  rw [h1]; simp

theorem between_eq (L : Lin lt) (a b : K) {l : List (K × V)} (h : l.Pairwise (fun x y => lt x.1 y.1 = true)) :
    sub ((l.filter fun p => lt p.1 a).length : Int) ((l.filter fun p => lt p.1 b).length : Int) l = l.filter (fun p => !lt p.1 a && lt p.1 b) := by
  unfold sub
  rw [Int.toNat_natCast, Int.toNat_natCast, drop_at L a h]
  have hq : (l.filter (fun p => !lt p.1 a)).Pairwise (fun x y => lt x.1 y.1 = true) := h.filter _
  have hff : (l.filter (fun p => !lt p.1 a)).filter (fun p => lt p.1 b) = l.filter (fun p => !lt p.1 a && lt p.1 b) := by
    rw [List.filter_filter]; congr 1; funext p; rw [Bool.and_comm]
  have hk : (l.filter fun p => lt p.1 b).length - (l.filter fun p => lt p.1 a).length = ((l.filter (fun p => !lt p.1 a)).filter (fun p => lt p.1 b)).length := by
    have hs : (l.filter fun p => lt p.1 b).length = ((l.filter fun p => lt p.1 a).filter (fun p => lt p.1 b)).length + ((l.filter (fun p => !lt p.1 a)).filter (fun p => lt p.1 b)).length := by
      have h1 : (l.filter fun p => lt p.1 b) = ((l.filter (fun p => lt p.1 a) ++ l.filter (fun p => !lt p.1 a)).filter fun p => lt p.1 b) := by rw [← split_at L a h]
      rw [h1, List.filter_append, List.length_append]
    cases e : lt b a with
    | false =>
      have hall : (l.filter fun p => lt p.1 a).filter (fun p => lt p.1 b) = l.filter fun p => lt p.1 a := filter_all fun p hp => by
        have hp' := (List.mem_filter.1 hp).2
        cases f : lt a b with
        | true => exact L.tr hp' f
        | false => rw [← L.con f e]; exact hp'
      rw [hall] at hs
      omega
    | true =>
      have hnone : (l.filter (fun p => !lt p.1 a)).filter (fun p => lt p.1 b) = [] := filter_none fun p hp => by
        have hp' := (List.mem_filter.1 hp).2
        cases f : lt p.1 b with
        | false => rfl
        | true => rw [L.tr f e] at hp'; cases hp'
      rw [hnone] at hs ⊢
      have := List.length_filter_le (fun p => lt p.1 b) (l.filter fun p => lt p.1 a)
      simp at *
      omega
  rw [hk, take_at L b hq, hff]

/-- Where a pair stands, and that none ahead of it has its key. -/
theorem index_of (L : Lin lt) {t : Tr K V} (h : Bst lt t) {p : K × V} (hp : p ∈ t.list) : ∃ i, t.list[i]? = some p ∧ ∀ (j : Nat) (q : K × V), j < i → t.list[j]? = some q → q.1 ≠ p.1 := by
  obtain ⟨i, hi⟩ := List.mem_iff_getElem?.1 hp
  refine ⟨i, hi, fun j q hj hq e => ?_⟩
  have := lt_at (lt := lt) h hq hi hj
  rw [e, L.irr] at this; cases this

end Tr
end Go.Proofs.Ytjccjbnbjcbagaa
