/- Trees whose sides' depths differ by one at most stay so, and are not deep. Plain mathematics. -/
import Derived.Test.YtjccjbnbjcbagaaOrdMath
namespace Go.Proofs.Ytjccjbnbjcbagaa
namespace Tr
variable {K V : Type} {lt : K → K → Bool}

def Avl : Tr K V → Prop
  | .nil => True
  | .node _ _ l r => l.deep ≤ r.deep + 1 ∧ r.deep ≤ l.deep + 1 ∧ Avl l ∧ Avl r

theorem deep_max (k : K) (v : V) (l r : Tr K V) : (Tr.node k v l r).deep = max l.deep r.deep + 1 := rfl

theorem avl_leanR {l r : Tr K V} (k : K) (v : V) (hl : Avl l) (hr : Avl r) (h : l.deep = r.deep + 2) : Avl (leanR l k v r) ∧ l.deep ≤ (leanR l k v r).deep ∧ (leanR l k v r).deep ≤ l.deep + 1 := by
  cases l with
  | nil => simp [deep] at h
  | node lk lv ll lr =>
    obtain ⟨a, b, c, d⟩ := hl
    rw [deep_max] at h
    unfold leanR
    simp only
    split
    · rename_i e
      simp only [Avl, deep_max]
      exact ⟨⟨by omega, by omega, c, by omega, by omega, d, hr⟩, by omega, by omega⟩
    · rename_i e
      cases lr with
      | nil => simp [deep] at e
      | node mk mv ml mr =>
        obtain ⟨p, q, s, t⟩ := d
        simp only [Avl, deep_max] at *
        exact ⟨⟨by omega, by omega, ⟨by omega, by omega, c, s⟩, by omega, by omega, t, hr⟩, by omega, by omega⟩

theorem avl_leanL {l r : Tr K V} (k : K) (v : V) (hl : Avl l) (hr : Avl r) (h : r.deep = l.deep + 2) : Avl (leanL l k v r) ∧ r.deep ≤ (leanL l k v r).deep ∧ (leanL l k v r).deep ≤ r.deep + 1 := by
  cases r with
  | nil => simp [deep] at h
  | node rk rv rl rr =>
    obtain ⟨a, b, c, d⟩ := hr
    rw [deep_max] at h
    unfold leanL
    simp only
    split
    · rename_i e
      simp only [Avl, deep_max]
      exact ⟨⟨by omega, by omega, ⟨by omega, by omega, hl, c⟩, d⟩, by omega, by omega⟩
    · rename_i e
      cases rl with
      | nil => simp [deep] at e
      | node mk mv ml mr =>
        obtain ⟨p, q, s, t⟩ := c
        simp only [Avl, deep_max] at *
        exact ⟨⟨by omega, by omega, ⟨by omega, by omega, hl, s⟩, by omega, by omega, t, d⟩, by omega, by omega⟩

theorem avl_bal {l r : Tr K V} (k : K) (v : V) (hl : Avl l) (hr : Avl r) (h1 : l.deep ≤ r.deep + 2) (h2 : r.deep ≤ l.deep + 2) :
    Avl (bal l k v r) ∧ (l.deep = r.deep + 2 ∧ l.deep ≤ (bal l k v r).deep ∧ (bal l k v r).deep ≤ l.deep + 1 ∨ r.deep = l.deep + 2 ∧ r.deep ≤ (bal l k v r).deep ∧ (bal l k v r).deep ≤ r.deep + 1 ∨
      l.deep ≤ r.deep + 1 ∧ r.deep ≤ l.deep + 1 ∧ (bal l k v r).deep = max l.deep r.deep + 1) := by
  unfold bal
  split
  · have h := avl_leanR k v hl hr (by omega)
    exact ⟨h.1, .inl ⟨by omega, h.2⟩⟩
  · split
    · have h := avl_leanL k v hl hr (by omega)
      exact ⟨h.1, .inr (.inl ⟨by omega, h.2⟩)⟩
    · exact ⟨⟨by omega, by omega, hl, hr⟩, .inr (.inr ⟨by omega, by omega, rfl⟩)⟩

theorem avl_put (k : K) (v : V) : ∀ t : Tr K V, Avl t → Avl (put lt k v t) ∧ t.deep ≤ (put lt k v t).deep ∧ (put lt k v t).deep ≤ t.deep + 1
  | .nil, _ => ⟨⟨Nat.zero_le _, Nat.zero_le _, trivial, trivial⟩, Nat.zero_le _, Nat.le_refl _⟩
  | .node nk nv l r, ⟨a, b, c, d⟩ => by
    unfold put
    rw [deep_max]
    split
    · obtain ⟨h1, h2, h3⟩ := avl_put k v l c
      obtain ⟨h4, h5⟩ := avl_bal nk nv h1 d (by omega) (by omega)
      exact ⟨h4, by omega, by omega⟩
    · split
      · obtain ⟨h1, h2, h3⟩ := avl_put k v r d
        obtain ⟨h4, h5⟩ := avl_bal nk nv c h1 (by omega) (by omega)
        exact ⟨h4, by omega, by omega⟩
      · rw [deep_max]; exact ⟨⟨a, b, c, d⟩, by omega, by omega⟩

theorem avl_del : ∀ (t : Tr K V) (k : K), Avl t → Avl (del lt t k) ∧ t.deep ≤ (del lt t k).deep + 1 ∧ (del lt t k).deep ≤ t.deep
  | .nil, _, _ => ⟨trivial, Nat.zero_le _, Nat.le_refl _⟩
  | .node nk nv l r, k, ⟨a, b, c, d⟩ => by
    unfold del
    rw [deep_max]
    split
    · obtain ⟨h1, h2, h3⟩ := avl_del l k c
      obtain ⟨h4, h5⟩ := avl_bal nk nv h1 d (by omega) (by omega)
      exact ⟨h4, by omega, by omega⟩
    · split
      · obtain ⟨h1, h2, h3⟩ := avl_del r k d
        obtain ⟨h4, h5⟩ := avl_bal nk nv c h1 (by omega) (by omega)
        exact ⟨h4, by omega, by omega⟩
      · split
        · rename_i e
          cases l with
          | nil => simp only [deep_nil] at *; exact ⟨d, by omega, by omega⟩
          | node _ _ _ _ => cases e
        · split
          · rename_i e
            cases r with
            | nil => simp only [deep_nil] at *; exact ⟨c, by omega, by omega⟩
            | node _ _ _ _ => cases e
          · obtain ⟨h1, h2, h3⟩ := avl_del r (first (nk, nv) r).1 d
            obtain ⟨h4, h5⟩ := avl_bal (first (nk, nv) r).1 (first (nk, nv) r).2 c h1 (by omega) (by omega)
            exact ⟨h4, by omega, by omega⟩

end Tr

def digits : Nat → Nat → Nat
  | 0, _ => 0
  | g + 1, n => if n = 0 then 0 else digits g (n / 2) + 1

theorem digits_more : ∀ (g n : Nat), n ≤ g → ∀ h, n ≤ h → digits g n = digits h n
  | 0, n, hn, 0, _ => rfl
  | 0, n, hn, h + 1, _ => by obtain rfl : n = 0 := by omega
                             simp [digits]
  | g + 1, n, hn, 0, hh => by obtain rfl : n = 0 := by omega
                              simp [digits]
  | g + 1, n, hn, h + 1, hh => by
    unfold digits
    split
    · rfl
    · rw [digits_more g (n / 2) (by omega) h (by omega)]

theorem digits_step (n : Nat) (h : 0 < n) : digits n n = digits (n / 2) (n / 2) + 1 := by
  cases n with
  | zero => omega
  | succ m =>
    rw [digits, if_neg (by omega), digits_more m ((m + 1) / 2) (by omega) ((m + 1) / 2) (Nat.le_refl _)]

theorem digits_mono : ∀ (g a b : Nat), b ≤ g → a ≤ b → digits a a ≤ digits b b
  | 0, a, b, hb, hab => by obtain rfl : a = b := by omega
                           exact Nat.le_refl _
  | g + 1, a, b, hb, hab => by
    rcases Nat.eq_zero_or_pos a with rfl | ha
    · exact Nat.zero_le _
    · rw [digits_step a ha, digits_step b (by omega)]
      exact Nat.succ_le_succ (digits_mono g (a / 2) (b / 2) (by omega) (by omega))

theorem digits_le_fuel : ∀ (g n : Nat), n ≤ g → digits g n ≤ n
  | 0, _, _ => Nat.zero_le _
  | g + 1, n, h => by
    unfold digits
    split
    · omega
    · have := digits_le_fuel g (n / 2) (by omega); omega
theorem digits_le (n : Nat) : digits n n ≤ n := digits_le_fuel n n (Nat.le_refl _)

namespace Tr
variable {K V : Type}

theorem avl_digits : ∀ (g : Nat) (t : Tr K V), t.size ≤ g → Avl t → t.deep ≤ 2 * digits t.size t.size
  | 0, .nil, _, _ => Nat.zero_le _
  | 0, .node _ _ _ _, h, _ => by rw [size_node] at h; omega
  | _ + 1, .nil, _, _ => Nat.zero_le _
  | g + 1, .node k v l r, h, ⟨a, b, c, d⟩ => by
    rw [size_node] at h
    have hl := avl_digits g l (by omega) c
    have hr := avl_digits g r (by omega) d
    rw [deep_max, size_node, digits_step _ (by omega)]
    -- the shallower side of the deeper side
    have key : ∀ (x y : Tr K V), x.size ≤ g → Avl x → y.deep ≤ x.deep → x.deep ≤ y.deep + 1 → y.deep ≤ 2 * digits y.size y.size → (∀ z : Tr K V, z.size ≤ g → Avl z → z.deep ≤ 2 * digits z.size z.size) →
        x.deep + 1 ≤ 2 * (digits ((x.size + 1 + y.size) / 2) ((x.size + 1 + y.size) / 2) + 1) := by
      intro x y hx hax hyx hxy hy ih
      -- the smaller of both has at most half
      have hxx := ih x hx hax
      rcases Nat.le_total x.size y.size with hs | hs
      · have hm := digits_mono _ x.size ((x.size + 1 + y.size) / 2) (Nat.le_refl _) (by omega)
        omega
      · have hm := digits_mono _ y.size ((x.size + 1 + y.size) / 2) (Nat.le_refl _) (by omega)
        omega
    rcases Nat.le_total l.deep r.deep with e | e
    · have := key r l (by omega) d e b hl (fun z hz hz' => avl_digits g z hz hz')
      rw [show r.size + 1 + l.size = l.size + 1 + r.size by omega] at this
      omega
    · have := key l r (by omega) c e a hr (fun z hz hz' => avl_digits g z hz hz')
      omega

theorem deep_pos (t : Tr K V) : 0 < t.size ↔ 0 < t.deep := by
  cases t with
  | nil => simp [size, deep]
  | node k v l r => rw [deep_max, size_node]; omega

end Tr
end Go.Proofs.Ytjccjbnbjcbagaa
