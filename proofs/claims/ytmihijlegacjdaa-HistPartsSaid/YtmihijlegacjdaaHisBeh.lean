/- A history and one more behind it, asked for one by one. Plain mathematics. -/
import Derived.Test.YtmihijlegacjdaaHisDo
namespace Go.Proofs.Ytmihijlegacjdaa
set_option linter.unusedVariables false

namespace His
/-- May it stand behind them, by its Rev and its Mod? -/
def behB (l : List Ver) (x : Ver) : Bool := match l.getLast? with | none => true | some y => decide (Rises y x)

theorem step_beh (l : List Ver) (k : Nat) (hk : k < l.length) : stepH l k = (verB l[k] && behB (l.take k) l[k]) := by
  by_cases h0 : k = 0
  · subst h0
    rw [step_zero l hk]
    unfold behB
    simp
  · rw [step_at l k hk h0]
    congr 1
    unfold behB
    have e : (l.take k).getLast? = some (l[k - 1]'(by omega)) := by
      rw [List.getLast?_eq_getElem?, List.length_take, Nat.min_eq_left (by omega), List.getElem?_take, if_pos (by omega), List.getElem?_eq_getElem (by omega)]
    rw [e]

theorem right_snoc (l : List Ver) (x : Ver) : rightL (l ++ [x]) = (rightL l && (verB x && behB l x)) := by
  have hlen : (l ++ [x]).length = l.length + 1 := by simp
  have hst : ∀ k, k < l.length → stepH (l ++ [x]) k = stepH l k := fun k hk => by
    rw [step_beh _ k (by omega), step_beh l k hk, List.getElem_append_left hk, List.take_append_of_le_length (by omega)]
  have hla : stepH (l ++ [x]) l.length = (verB x && behB l x) := by
    rw [step_beh _ l.length (by omega)]
    simp
  rw [Bool.eq_iff_iff, Bool.and_eq_true, ← hla]
  constructor
  · intro h
    have hs := fun k (hk : k < l.length + 1) => List.all_eq_true.1 h k (List.mem_range.2 (by omega))
    exact ⟨right_yes fun k hk => (hst k hk) ▸ hs k (by omega), hs l.length (by omega)⟩
  · rintro ⟨h1, h2⟩
    refine right_yes fun k hk => ?_
    rcases Nat.lt_or_ge k l.length with h3 | h3
    · rw [hst k h3]
      exact List.all_eq_true.1 h1 k (List.mem_range.2 h3)
    · obtain rfl : k = l.length := by omega
      exact h2

theorem add_yes {l : List Ver} {x : Ver} (h1 : rightL l = true) (h2 : verB x = true) (h3 : behB l x = true) : addL l x = some (l ++ [x]) := if_pos (by rw [right_snoc, h1, h2, h3]; rfl)
theorem add_no {l : List Ver} {x : Ver} (h : rightL l = false ∨ verB x = false ∨ behB l x = false) : addL l x = none := if_neg (by
  rw [right_snoc]
  rcases h with h | h | h <;> rw [h] <;> simp)
theorem add_norm {l : List Ver} {x : Ver} (h : rightL l = false) : addL l x = none := add_no (.inl h)
theorem add_pre {l o : List Ver} {x : Ver} (h : addL l x = some o) : rightL l = true ∧ o = l ++ [x] := by
  unfold addL at h
  split at h
  · rename_i h1
    injection h with h
    rw [right_snoc, Bool.and_eq_true] at h1
    exact ⟨h1.1, h.symm⟩
  · cases h

/-- What it is. -/
def liveL (l : List Ver) : Option Ver := if rightL l = true then liveO l.getLast? else none

/-- A put, as one that asks what is there makes it. -/
def putW (l : List Ver) (r m : Int) (s : ByteArray) (le : Int) : Ver := match liveL l with | none => ⟨r, m, m, 1, s, le, false⟩ | some y => ⟨r, y.k, m, y.v + 1, s, le, false⟩

theorem put_is (l : List Ver) (r m : Int) (s : ByteArray) (le : Int) : putL l r m s le = addL l (putW l r m s le) := by
  unfold putL putW putV liveL
  cases hr : rightL l with
  | false =>
    rw [if_neg (by decide)]
    rw [add_norm hr]
    have hno : ∀ o : Option Ver, o.bind (addL l) = none := fun o => by
      cases o with
      | none => rfl
      | some x => exact add_norm hr
    exact hno _
  | true =>
    rw [if_pos rfl]
    cases hl : l.getLast? with
    | none => rfl
    | some y =>
      dsimp only
      unfold liveO
      dsimp only
      by_cases hg : y.g = true
      · rw [if_pos hg, if_pos hg]
        rfl
      · rw [if_neg hg, if_neg hg]
        dsimp only
        by_cases ht : top ≤ y.v
        · rw [if_pos ht]
          refine (add_no (.inr (.inl ?_))).symm
          unfold verB
          dsimp only
          split
          · rfl
          · rw [if_neg (by decide), decide_eq_false_iff_not]
            omega
        · rw [if_neg ht]
          rfl

theorem del_is (l : List Ver) (r m : Int) : delL l r m = match addL l (goneV r m) with | none => ([], 1) | some o => match liveL l with | none => ([], 6) | some _ => (o, 0) := by
  unfold delL
  cases ho : addL l (goneV r m) with
  | none => rfl
  | some o =>
    have hr := (add_pre ho).1
    dsimp only
    unfold liveL
    rw [if_pos hr]
    cases l.getLast? with
    | none => rfl
    | some y =>
      dsimp only
      unfold liveO
      dsimp only
      by_cases hg : y.g = true
      · rw [if_pos hg, if_pos hg]
      · rw [if_neg hg, if_neg hg]

/-- How many have a Rev that isn't above r. -/
structure UpTo (l : List Ver) (r : Int) (k : Nat) : Prop where
  le : k ≤ l.length
  lo : ∀ j (hj : j < l.length), j < k → l[j].r ≤ r
  hi : ∀ (hk : k < l.length), r < l[k].r

theorem UpTo.above {l : List Ver} {r : Int} {k : Nat} (h : UpTo l r k) (hR : Right l) : ∀ j (hj : j < l.length), k ≤ j → r < l[j].r := fun j hj hkj => by
  have h1 := h.hi (by omega)
  by_cases e : j = k
  · subst e; exact h1
  · have := (List.pairwise_iff_getElem.1 hR.up k j (by omega) hj (by omega)).1
    omega

theorem UpTo.cut {l : List Ver} {r : Int} {k : Nat} (h : UpTo l r k) (hR : Right l) : (l.filter fun x => decide (x.r ≤ r)) = l.take k ∧ (l.filter fun x => decide (r < x.r)) = l.drop k := cut_len hR r h.le h.lo (h.above hR)

theorem UpTo.at_ {l : List Ver} {r : Int} {k : Nat} (h : UpTo l r k) (hR : Right l) : atL l r = liveO (l.take k).getLast? := by
  rw [at_is hR]
  unfold lastL
  rw [(h.cut hR).1]

/-- Where what is left begins. -/
theorem UpTo.trim {l : List Ver} {r : Int} {k : Nat} (h : UpTo l r k) (hR : Right l) : trimL l r = match liveO (l.take k).getLast? with | none => l.drop k | some _ => l.drop (k - 1) := by
  unfold trimL
  rw [if_pos ((right_iff l).2 hR), h.at_ hR, (h.cut hR).2]
  have hle := h.le
  rcases Nat.eq_zero_or_pos k with h0 | h0
  · subst h0
    rfl
  · have e : (l.take k).getLast? = some (l[k - 1]'(by omega)) := by
      rw [List.getLast?_eq_getElem?, List.length_take, Nat.min_eq_left (by omega), List.getElem?_take, if_pos (by omega), List.getElem?_eq_getElem (by omega)]
    rw [e]
    unfold liveO
    dsimp only
    by_cases hg : (l[k - 1]'(by omega)).g = true
    · rw [if_pos hg]
      rfl
    · rw [if_neg hg]
      show [_] ++ _ = _
      have hd := List.drop_eq_getElem_cons (l := l) (i := k - 1) (by omega)
      rw [show k - 1 + 1 = k by omega] at hd
      rw [hd]
      rfl

theorem live_top {l : List Ver} (h : Right l) : liveL l = atL l 1099511627776 := by
  unfold liveL
  rw [if_pos ((right_iff l).2 h), at_is h]
  unfold lastL
  rw [List.filter_eq_self.2]
  intro x hx
  have := h.ver x hx
  unfold verB top at this
  split at this
  · cases this
  · simp
    omega
end His
end Go.Proofs.Ytmihijlegacjdaa
