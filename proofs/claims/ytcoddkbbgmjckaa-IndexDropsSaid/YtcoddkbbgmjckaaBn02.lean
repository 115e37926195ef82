/- What a key was: versions, histories, as lists. Plain mathematics. -/
import Derived.WalkKit
import Derived.Test.YtcoddkbbgmjckaaBn01
namespace Go.Proofs.Ytcoddkbbgmjckaa
set_option linter.unusedVariables false

/-- A version: its revision, when it was made, its mod, its number, its value, its lease, whether it is gone. -/
structure Ver where
  r : Int
  k : Int
  m : Int
  v : Int
  s : ByteArray
  l : Int
  g : Bool
  deriving DecidableEq

namespace His
def top : Int := 1099511627776
def none_ : Ver := ⟨0, 0, 0, 0, ⟨#[]⟩, 0, false⟩

/-- May a version be? -/
def verB (x : Ver) : Bool :=
  if x.r < 1 ∨ top < x.r ∨ x.m < 1 ∨ top < x.m then false
  else if x.g = true then decide (x.k = 0 ∧ x.v = 0 ∧ x.l = 0 ∧ x.s.size = 0)
  else decide (1 ≤ x.k ∧ x.k ≤ x.m ∧ 1 ≤ x.v ∧ x.v ≤ top ∧ x.s.size ≤ 40 ∧ -top ≤ x.l ∧ x.l ≤ top)

def Rises (a b : Ver) : Prop := a.r < b.r ∧ a.m < b.m
instance (a b : Ver) : Decidable (Rises a b) := inferInstanceAs (Decidable (_ ∧ _))

/-- Does the k-th stand well behind the one ahead of it? -/
def stepH (l : List Ver) (k : Nat) : Bool :=
  match l[k]? with
  | none => false
  | some x => verB x && (decide (k = 0) || match l[k - 1]? with | none => false | some y => decide (Rises y x))

/-- Are versions a history? -/
def rightL (l : List Ver) : Bool := (List.range l.length).all (stepH l)

/-- A history, in few words. -/
structure Right (l : List Ver) : Prop where
  ver : ∀ x ∈ l, verB x = true
  up : l.Pairwise Rises

theorem Rises.trans {a b c : Ver} (h : Rises a b) (h' : Rises b c) : Rises a c := ⟨Int.lt_trans h.1 h'.1, Int.lt_trans h.2 h'.2⟩

theorem right_no {l : List Ver} (k : Nat) (hk : k < l.length) (h : stepH l k = false) : rightL l = false := by
  cases hr : rightL l with
  | false => rfl
  | true =>
    have := List.all_eq_true.1 hr k (List.mem_range.2 hk)
    rw [h] at this
    cases this

theorem right_yes {l : List Ver} (h : ∀ k, k < l.length → stepH l k = true) : rightL l = true :=
  List.all_eq_true.2 fun k hk => h k (List.mem_range.1 hk)

theorem step_at (l : List Ver) (k : Nat) (hk : k < l.length) (h0 : k ≠ 0) : stepH l k = (verB l[k] && decide (Rises (l[k - 1]'(by omega)) l[k])) := by
  unfold stepH
  rw [List.getElem?_eq_getElem hk, List.getElem?_eq_getElem (show k - 1 < l.length by omega)]
  simp [h0]

theorem step_zero (l : List Ver) (hk : 0 < l.length) : stepH l 0 = verB l[0] := by
  unfold stepH
  rw [List.getElem?_eq_getElem hk]
  simp

theorem right_iff (l : List Ver) : rightL l = true ↔ Right l := by
  constructor
  · intro h
    have hs : ∀ k, (hk : k < l.length) → stepH l k = true := fun k hk => List.all_eq_true.1 h k (List.mem_range.2 hk)
    have hv : ∀ k (hk : k < l.length), verB l[k] = true := fun k hk => by
      have h1 := hs k hk
      by_cases h0 : k = 0
      · subst h0
        rw [step_zero l hk] at h1
        exact h1
      · rw [step_at l k hk h0, Bool.and_eq_true] at h1
        exact h1.1
    have hu : ∀ k (hk : k + 1 < l.length), Rises l[k] l[k + 1] := fun k hk => by
      have h1 := hs (k + 1) hk
      rw [step_at l (k + 1) hk (by omega), Bool.and_eq_true, decide_eq_true_eq] at h1
      exact h1.2
    refine ⟨fun x hx => ?_, List.pairwise_iff_getElem.2 fun i j hi hj hij => ?_⟩
    · obtain ⟨k, hk, rfl⟩ := List.getElem_of_mem hx
      exact hv k hk
    · induction j with
      | zero => omega
      | succ j ih =>
        by_cases hij2 : i = j
        · subst hij2
          exact hu i hj
        · exact (ih (by omega) (by omega)).trans (hu j hj)
  · intro h
    refine right_yes fun k hk => ?_
    by_cases h0 : k = 0
    · subst h0
      rw [step_zero l hk]
      exact h.ver _ (List.getElem_mem hk)
    · rw [step_at l k hk h0, h.ver _ (List.getElem_mem hk), Bool.true_and, decide_eq_true_eq]
      exact List.pairwise_iff_getElem.1 h.up _ _ (by omega) hk (by omega)

/-- A version behind a history. -/
def addL (l : List Ver) (x : Ver) : Option (List Ver) := if rightL (l ++ [x]) = true then some (l ++ [x]) else none

/-- Which version a put makes. -/
def putV (l : List Ver) (r m : Int) (s : ByteArray) (le : Int) : Option Ver :=
  match l.getLast? with
  | some y => if y.g = true then some ⟨r, m, m, 1, s, le, false⟩ else if top ≤ y.v then none else some ⟨r, y.k, m, y.v + 1, s, le, false⟩
  | none => some ⟨r, m, m, 1, s, le, false⟩

def putL (l : List Ver) (r m : Int) (s : ByteArray) (le : Int) : Option (List Ver) := (putV l r m s le).bind (addL l)

def goneV (r m : Int) : Ver := ⟨r, 0, m, 0, ⟨#[]⟩, 0, true⟩

/-- Deleted: which error (0, 1, 6), and what it is then. -/
def delL (l : List Ver) (r m : Int) : List Ver × Int :=
  match addL l (goneV r m) with
  | none => ([], 1)
  | some o => match l.getLast? with
    | some y => if y.g = true then ([], 6) else (o, 0)
    | none => ([], 6)

/-- The last one whose revision isn't above r. -/
def lastL (l : List Ver) (r : Int) : Option Ver := (l.filter fun x => decide (x.r ≤ r)).getLast?
def liveO : Option Ver → Option Ver
  | some x => if x.g = true then none else some x
  | none => none
def atL (l : List Ver) (r : Int) : Option Ver := if rightL l = true then liveO (lastL l r) else none
def sinceL (l : List Ver) (a b : Int) : List Ver := if rightL l = true then l.filter fun x => decide (a ≤ x.r ∧ x.r ≤ b) else []
def trimL (l : List Ver) (f : Int) : List Ver := if rightL l = true then (atL l f).toList ++ l.filter fun x => decide (f < x.r) else []

theorem Right.sub {l t : List Ver} (h : Right l) (hs : t.Sublist l) : Right t := ⟨fun x hx => h.ver x (hs.subset hx), h.up.sublist hs⟩

/-- Up to a revision, and behind it. -/
theorem cut_rev {l : List Ver} (h : Right l) (r : Int) : l = (l.filter fun x => decide (x.r ≤ r)) ++ l.filter fun x => decide (r < x.r) := by
  have key : ∀ l : List Ver, l.Pairwise Rises → l = (l.filter fun x => decide (x.r ≤ r)) ++ l.filter fun x => decide (r < x.r) := by
    intro l
    induction l with
    | nil => intro _; rfl
    | cons x l ih =>
      intro hp
      obtain ⟨h1, h2⟩ := List.pairwise_cons.1 hp
      by_cases hx : x.r ≤ r
      · rw [List.filter_cons_of_pos (by simpa using hx), List.filter_cons_of_neg (by simp; omega)]
        rw [List.cons_append, ← ih h2]
      · have hall : ∀ y ∈ l, r < y.r := fun y hy => by have := (h1 y hy).1; omega
        rw [List.filter_cons_of_neg (by simpa using hx), List.filter_cons_of_pos (by simp; omega)]
        rw [List.filter_eq_nil_iff.2 (fun y hy => by have := hall y hy; simp; omega), List.nil_append, List.filter_eq_self.2 (fun y hy => by simpa using hall y hy)]
  exact key l h.up

theorem cut_len {l : List Ver} (h : Right l) (r : Int) {k : Nat} (hk : k ≤ l.length) (h1 : ∀ j (hj : j < l.length), j < k → l[j].r ≤ r) (h2 : ∀ j (hj : j < l.length), k ≤ j → r < l[j].r) :
    (l.filter fun x => decide (x.r ≤ r)) = l.take k ∧ (l.filter fun x => decide (r < x.r)) = l.drop k := by
  have e := (List.take_append_drop k l).symm
  constructor
  · conv => lhs; rw [e]
    rw [List.filter_append, List.filter_eq_self.2, List.filter_eq_nil_iff.2, List.append_nil]
    · intro y hy
      obtain ⟨i, hi, rfl⟩ := List.getElem_of_mem hy
      rw [List.length_drop] at hi
      rw [List.getElem_drop]
      have := h2 (k + i) (by omega) (by omega)
      simp; omega
    · intro y hy
      obtain ⟨i, hi, rfl⟩ := List.getElem_of_mem hy
      rw [List.length_take] at hi
      rw [List.getElem_take]
      simpa using h1 i (by omega) (by omega)
  · conv => lhs; rw [e]
    rw [List.filter_append, List.filter_eq_nil_iff.2, List.filter_eq_self.2, List.nil_append]
    · intro y hy
      obtain ⟨i, hi, rfl⟩ := List.getElem_of_mem hy
      rw [List.length_drop] at hi
      rw [List.getElem_drop]
      simpa using h2 (k + i) (by omega) (by omega)
    · intro y hy
      obtain ⟨i, hi, rfl⟩ := List.getElem_of_mem hy
      rw [List.length_take] at hi
      rw [List.getElem_take]
      have := h1 i (by omega) (by omega)
      simp; omega

theorem liveO_le {l : List Ver} {r : Int} {x : Ver} (h : liveO (lastL l r) = some x) : x ∈ l ∧ x.r ≤ r := by
  unfold lastL liveO at h
  split at h
  · rename_i y hy
    split at h
    · cases h
    · injection h with h
      subst h
      have := List.mem_of_getLast? hy
      rw [List.mem_filter] at this
      exact ⟨this.1, by simpa using this.2⟩
  · cases h

theorem trim_sub {l : List Ver} (h : Right l) (f : Int) : (trimL l f).Sublist l := by
  unfold trimL atL
  rw [if_pos ((right_iff l).2 h), if_pos ((right_iff l).2 h)]
  conv => rhs; rw [cut_rev h f]
  refine List.Sublist.append ?_ (List.Sublist.refl _)
  unfold lastL liveO
  split
  · rename_i y hy
    split
    · exact List.nil_sublist _
    · exact List.singleton_sublist.2 (List.mem_of_getLast? hy)
  · exact List.nil_sublist _

theorem trim_right {l : List Ver} (h : Right l) (f : Int) : Right (trimL l f) := h.sub (trim_sub h f)

theorem trim_filter {l : List Ver} (h : Right l) {f g : Int} (hg : f ≤ g) : ((trimL l f).filter fun x => decide (g < x.r)) = l.filter fun x => decide (g < x.r) := by
  unfold trimL atL
  rw [if_pos ((right_iff l).2 h), if_pos ((right_iff l).2 h), List.filter_append, List.filter_filter]
  have e : ((liveO (lastL l f)).toList.filter fun x => decide (g < x.r)) = [] := by
    refine List.filter_eq_nil_iff.2 fun y hy => ?_
    have h1 := liveO_le (Option.mem_toList.1 hy)
    simp
    omega
  rw [e, List.nil_append]
  refine List.filter_congr fun x _ => ?_
  by_cases h1 : g < x.r
  · simp [h1]; omega
  · simp [h1]

/-- Trimmed, it answers the same. -/
theorem at_trim {l : List Ver} (h : Right l) {f r : Int} (hr : f ≤ r) : atL (trimL l f) r = atL l r := by
  have hR := (right_iff l).2 h
  unfold atL
  rw [if_pos ((right_iff _).2 (trim_right h f)), if_pos hR]
  have e1 : ((trimL l f).filter fun x => decide (x.r ≤ r)) = (liveO (lastL l f)).toList ++ l.filter fun x => decide (f < x.r ∧ x.r ≤ r) := by
    unfold trimL atL
    rw [if_pos hR, if_pos hR, List.filter_append, List.filter_filter]
    congr 1
    · refine List.filter_eq_self.2 fun y hy => ?_
      have h1 := liveO_le (Option.mem_toList.1 hy)
      simp
      omega
    · refine List.filter_congr fun x _ => ?_
      by_cases h1 : f < x.r <;> by_cases h2 : x.r ≤ r <;> simp [h1, h2]
  have e2 : (l.filter fun x => decide (x.r ≤ r)) = (l.filter fun x => decide (x.r ≤ f)) ++ l.filter fun x => decide (f < x.r ∧ x.r ≤ r) := by
    conv => lhs; rw [cut_rev h f]
    rw [List.filter_append, List.filter_filter, List.filter_filter]
    congr 1
    · refine List.filter_congr fun x _ => ?_
      by_cases h1 : x.r ≤ f
      · simp [h1]; omega
      · simp [h1]
    · refine List.filter_congr fun x _ => ?_
      by_cases h1 : f < x.r <;> by_cases h2 : x.r ≤ r <;> simp [h1, h2]
  unfold lastL
  rw [e1, e2]
  generalize (l.filter fun x => decide (f < x.r ∧ x.r ≤ r)) = t
  rcases List.eq_nil_or_concat t with rfl | ⟨t', y, rfl⟩
  · rw [List.append_nil, List.append_nil]
    show liveO (Option.toList _).getLast? = liveO (lastL l f)
    generalize lastL l f = o
    cases o with
    | none => rfl
    | some x =>
      have e : ∀ x : Ver, liveO (some x) = if x.g = true then none else some x := fun x => rfl
      rw [e]
      by_cases hg : x.g = true
      · rw [if_pos hg]; rfl
      · rw [if_neg hg]
        show liveO (some x) = some x
        rw [e, if_neg hg]
  · rw [List.concat_eq_append, ← List.append_assoc, ← List.append_assoc, List.getLast?_concat, List.getLast?_concat]

theorem trim_trim {l : List Ver} (h : Right l) {f g : Int} (hg : f ≤ g) : trimL (trimL l f) g = trimL l g := by
  have e1 := at_trim h hg
  have e2 := trim_filter h hg
  have hR := (right_iff l).2 h
  have hR2 := (right_iff _).2 (trim_right h f)
  show (if rightL (trimL l f) = true then _ else _) = _
  rw [if_pos hR2, e1, e2]
  show _ = if rightL l = true then _ else _
  rw [if_pos hR]

theorem since_parts {l : List Ver} (a b c : Int) (h1 : a ≤ b + 1) (h2 : b ≤ c) : sinceL l a c = sinceL l a b ++ sinceL l (b + 1) c := by
  unfold sinceL
  by_cases hR : rightL l = true
  · rw [if_pos hR, if_pos hR, if_pos hR]
    have h := (right_iff l).1 hR
    conv => lhs; rw [cut_rev h b]
    rw [List.filter_append, List.filter_filter, List.filter_filter]
    congr 1
    · refine List.filter_congr fun x _ => ?_
      by_cases h3 : a ≤ x.r <;> by_cases h4 : x.r ≤ b
      · have : x.r ≤ c := by omega
        simp [h3, h4, this]
      · simp [h3, h4]
      · simp [h3, h4]
      · simp [h3, h4]
    · refine List.filter_congr fun x _ => ?_
      by_cases h3 : b < x.r <;> by_cases h4 : x.r ≤ c
      · have : a ≤ x.r := by omega
        have h5 : b + 1 ≤ x.r := by omega
        simp [h3, h4, this, h5]
      · simp [h3, h4]
      · have h5 : ¬ b + 1 ≤ x.r := by omega
        simp [h3, h5]
      · have h5 : ¬ b + 1 ≤ x.r := by omega
        simp [h3, h5]
  · rw [if_neg hR, if_neg hR, if_neg hR]
    rfl

theorem add_right {l o : List Ver} {x : Ver} (h : addL l x = some o) : Right o := by
  unfold addL at h
  split at h
  · rename_i h1
    injection h with h
    subst h
    exact (right_iff _).1 h1
  · cases h

theorem right_nil : Right [] := ⟨fun x hx => (by cases hx), List.Pairwise.nil⟩

/-- The last one whose revision isn't above r, found from behind. -/
theorem last_found {l : List Ver} (h : Right l) {r : Int} {k : Nat} (hk : k < l.length) (h1 : l[k].r ≤ r) (h2 : ∀ j (hj : j < l.length), k < j → r < l[j].r) : lastL l r = some l[k] := by
  have hu := List.pairwise_iff_getElem.1 h.up
  have e := (cut_len h r (k := k + 1) (by omega) (fun j hj hjk => by
    by_cases hq : j = k
    · subst hq
      exact h1
    · have := (hu j k hj hk (by omega)).1
      omega) (fun j hj hjk => h2 j hj (by omega))).1
  unfold lastL
  rw [e, List.take_succ_eq_append_getElem hk, List.getLast?_concat]

theorem last_none {l : List Ver} {r : Int} (h2 : ∀ j (hj : j < l.length), r < l[j].r) : lastL l r = none := by
  unfold lastL
  rw [List.filter_eq_nil_iff.2 fun y hy => by
    obtain ⟨j, hj, rfl⟩ := List.getElem_of_mem hy
    have := h2 j hj
    simp
    omega]
  rfl

theorem at_is {l : List Ver} (h : Right l) (r : Int) : atL l r = liveO (lastL l r) := if_pos ((right_iff l).2 h)

end His
end Go.Proofs.Ytcoddkbbgmjckaa

namespace Go.Proofs.Ytcoddkbbgmjckaa
set_option linter.unusedVariables false

namespace Idx
open His

abbrev KH := ByteArray × List Ver

/-- Are all bytes from 33 to a highest one? -/
def textB (s : ByteArray) (most : Nat) : Bool := s.data.toList.all (fun b => decide (33 ≤ b.toNat ∧ b.toNat ≤ most)) && decide (1 ≤ s.size ∧ s.size ≤ 32)
def keyB (s : ByteArray) : Bool := textB s 126
def rangeB (a e : ByteArray) : Bool := keyB a && (decide (e.size = 0) || (textB e 127 && ltS a e))
def inB (a e k : ByteArray) : Bool := rangeB a e && (keyB k && (if e.size = 0 then decide (k = a) else !ltS k a && ltS k e))

/-- A key's history. -/
def getL : List KH → ByteArray → List Ver
  | [], _ => []
  | p :: l, k => if p.1 = k then p.2 else getL l k

def setL (l : List KH) (k : ByteArray) (h : List Ver) : List KH :=
  l.filter (fun p => ltS p.1 k) ++ ((if h = [] then [] else [(k, h)]) ++ l.filter (fun p => ltS k p.1))

def putI (l : List KH) (k : ByteArray) (r m : Int) (s : ByteArray) (le : Int) : Option (List KH) :=
  match putL (getL l k) r m s le with
  | none => none
  | some h => if keyB k = true then some (setL l k h) else none
def addI (l : List KH) (k : ByteArray) (x : Ver) : Option (List KH) :=
  match addL (getL l k) x with
  | none => none
  | some h => if keyB k = true then some (setL l k h) else none
def liveI (l : List KH) (k : ByteArray) : Option Ver := atL (getL l k) top
def keysI (l : List KH) (a e : ByteArray) : List ByteArray := (l.filter fun p => (liveI l p.1).isSome && inB a e p.1).map (·.1)
/-- Keys deleted one by one. -/
def delAll : List KH → List ByteArray → Int → Int → Option (List KH)
  | l, [], _, _ => some l
  | l, k :: ks, r, m => if (delL (getL l k) r m).2 = 0 then delAll (setL l k (delL (getL l k) r m).1) ks r m else none
def delI (l : List KH) (a e : ByteArray) (r m : Int) : Option (List KH × Nat) :=
  if rangeB a e = true then
    match delAll l (keysI l a e) r m with
    | none => none
    | some o => some (o, (keysI l a e).length)
  else none
def dropI (l : List KH) (a e : ByteArray) : List KH := l.filter fun p => !inB a e p.1
/-- What a key tells at a revision, where it is wanted. -/
def itemO (r : Int) (f : ByteArray → Bool) (p : KH) : Option (ByteArray × Ver) :=
  match atL p.2 r with
  | none => none
  | some v => if f p.1 = true then some (p.1, v) else none
def itemsI (l : List KH) (r : Int) (f : ByteArray → Bool) : List (ByteArray × Ver) := l.filterMap (itemO r f)
def atI (l : List KH) (a e : ByteArray) (r most : Int) : List (ByteArray × Ver) × Nat := ((itemsI l r (inB a e)).take most.toNat, (itemsI l r (inB a e)).length)
def begins (s pre : ByteArray) : Bool := decide (pre.size ≤ s.size) && decide (s.extract 0 pre.size = pre)
def behB (pre after : ByteArray) (k : ByteArray) : Bool := begins k pre && ltS after k
def behindI (l : List KH) (pre after : ByteArray) (r most : Int) : List (ByteArray × Ver) × Bool :=
  ((itemsI l r (behB pre after)).take most.toNat, decide ((itemsI l r (behB pre after)).length ≤ most.toNat))
/-- A revision into rising ones. -/
def insR (out : List Int) (r : Int) : List Int := out.filter (fun x => decide (x < r)) ++ r :: out.filter (fun x => decide (r < x))
def revsI (l : List KH) : List Int := (l.flatMap fun p => p.2.map (·.r)).foldl insR []
/-- What keys that are wanted were made at one revision. -/
def batL (l : List KH) (f : ByteArray → Bool) (r : Int) : List (ByteArray × Ver) :=
  l.flatMap fun p => (p.2.filter fun v => decide (v.r = r) && f p.1).map fun v => (p.1, v)
abbrev Bat := Int × List (ByteArray × Ver)
def batO (l : List KH) (f : ByteArray → Bool) (a b : Int) (r : Int) : Option Bat :=
  if batL l f r = [] ∨ r < a ∨ b < r then none else some (r, batL l f r)
/-- As many batches as have, all in all, most versions at most, but one. -/
def cutI (most : Int) : Int → Bool → List Bat → List Bat
  | _, _, [] => []
  | n, fst, b :: bs => if most < n + (b.2.length : Int) ∧ fst = false then [] else b :: cutI most (n + (b.2.length : Int)) false bs
def allI (l : List KH) (f : ByteArray → Bool) (a b : Int) : List Bat := (revsI l).filterMap (batO l f a b)
def changesI (l : List KH) (x e : ByteArray) (a b most : Int) : List Bat := cutI most 0 true (allI l (inB x e) a b)
def leasedI (l : List KH) (le : Int) : List ByteArray := (l.filter fun p => match liveI l p.1 with | none => false | some v => decide (le ≠ 0) && decide (v.l = le)).map (·.1)
def trimI (l : List KH) (f : Int) : List KH := l.foldl (fun o p => setL o p.1 (trimL p.2 f)) l

/-- Keys, rising, each with a history that isn't empty. -/
structure Wf (l : List KH) : Prop where
  up : l.Pairwise fun a b => ltS a.1 b.1 = true
  key : ∀ p ∈ l, keyB p.1 = true
  right : ∀ p ∈ l, Right p.2
  some : ∀ p ∈ l, p.2 ≠ []

theorem wf_nil : Wf [] := ⟨List.Pairwise.nil, fun p hp => (by cases hp), fun p hp => (by cases hp), fun p hp => (by cases hp)⟩

theorem Wf.tail {p : KH} {l : List KH} (h : Wf (p :: l)) : Wf l :=
  ⟨(List.pairwise_cons.1 h.up).2, fun q hq => h.key q (List.mem_cons_of_mem _ hq), fun q hq => h.right q (List.mem_cons_of_mem _ hq), fun q hq => h.some q (List.mem_cons_of_mem _ hq)⟩

theorem Wf.sub {l t : List KH} (h : Wf l) (hs : t.Sublist l) : Wf t :=
  ⟨h.up.sublist hs, fun q hq => h.key q (hs.subset hq), fun q hq => h.right q (hs.subset hq), fun q hq => h.some q (hs.subset hq)⟩

theorem ltS_irr' {a : ByteArray} (h : ltS a a = true) : False := by rw [ltS_irr] at h; cases h
theorem ltS_ne' {a b : ByteArray} (h : ltS a b = true) : a ≠ b := fun e => by subst e; exact ltS_irr' h

theorem get_mem {l : List KH} (hw : l.Pairwise fun a b => ltS a.1 b.1 = true) {p : KH} (hp : p ∈ l) : getL l p.1 = p.2 := by
  induction l with
  | nil => cases hp
  | cons q l ih =>
    unfold getL
    rcases List.mem_cons.1 hp with rfl | h
    · rw [if_pos rfl]
    · have := (List.pairwise_cons.1 hw).1 p h
      rw [if_neg (ltS_ne' this), ih (List.pairwise_cons.1 hw).2 h]

theorem get_none {l : List KH} {k : ByteArray} (h : ∀ p ∈ l, p.1 ≠ k) : getL l k = [] := by
  induction l with
  | nil => rfl
  | cons q l ih =>
    unfold getL
    rw [if_neg (h q (List.mem_cons_self ..)), ih fun p hp => h p (List.mem_cons_of_mem _ hp)]

theorem get_cases {l : List KH} (k : ByteArray) : (∃ p ∈ l, p.1 = k ∧ getL l k = p.2) ∨ ((∀ p ∈ l, p.1 ≠ k) ∧ getL l k = []) := by
  induction l with
  | nil => exact .inr ⟨fun p hp => (by cases hp), rfl⟩
  | cons q l ih =>
    unfold getL
    by_cases hq : q.1 = k
    · exact .inl ⟨q, List.mem_cons_self .., hq, if_pos hq⟩
    · rw [if_neg hq]
      rcases ih with ⟨p, hp, h1, h2⟩ | ⟨h1, h2⟩
      · exact .inl ⟨p, List.mem_cons_of_mem _ hp, h1, h2⟩
      · exact .inr ⟨fun p hp => by rcases List.mem_cons.1 hp with rfl | hp; exact hq; exact h1 p hp, h2⟩

theorem Wf.get {l : List KH} (h : Wf l) (k : ByteArray) : Right (getL l k) := by
  rcases get_cases (l := l) k with ⟨p, hp, _, e⟩ | ⟨_, e⟩
  · rw [e]; exact h.right p hp
  · rw [e]; exact right_nil

theorem set_pair {l : List KH} (h : l.Pairwise fun a b => ltS a.1 b.1 = true) (k : ByteArray) (x : List Ver) : (setL l k x).Pairwise fun a b => ltS a.1 b.1 = true := by
  unfold setL
  refine List.pairwise_append.2 ⟨h.sublist List.filter_sublist, ?_, ?_⟩
  · refine List.pairwise_append.2 ⟨?_, h.sublist List.filter_sublist, ?_⟩
    · split <;> simp
    · intro a ha b hb
      split at ha
      · cases ha
      · rw [List.mem_singleton] at ha
        subst ha
        exact (List.mem_filter.1 hb).2
  · intro a ha b hb
    have h1 := (List.mem_filter.1 ha).2
    rcases List.mem_append.1 hb with hb | hb
    · split at hb
      · cases hb
      · rw [List.mem_singleton] at hb
        subst hb
        exact h1
    · exact ltS_trans h1 (List.mem_filter.1 hb).2

theorem set_mem {l : List KH} {k : ByteArray} {x : List Ver} {p : KH} (hp : p ∈ setL l k x) : (p ∈ l ∧ p.1 ≠ k) ∨ (p = (k, x) ∧ x ≠ []) := by
  unfold setL at hp
  rcases List.mem_append.1 hp with hp | hp
  · exact .inl ⟨(List.mem_filter.1 hp).1, ltS_ne' (List.mem_filter.1 hp).2⟩
  · rcases List.mem_append.1 hp with hp | hp
    · split at hp
      · cases hp
      · exact .inr ⟨List.mem_singleton.1 hp, by assumption⟩
    · exact .inl ⟨(List.mem_filter.1 hp).1, fun e => ltS_ne' (List.mem_filter.1 hp).2 e.symm⟩

theorem Wf.set {l : List KH} (h : Wf l) {k : ByteArray} {x : List Ver} (hk : keyB k = true) (hx : Right x) : Wf (setL l k x) := by
  refine ⟨set_pair h.up k x, fun p hp => ?_, fun p hp => ?_, fun p hp => ?_⟩ <;> rcases set_mem hp with ⟨h1, _⟩ | ⟨rfl, h2⟩
  · exact h.key p h1
  · exact hk
  · exact h.right p h1
  · exact hx
  · exact h.some p h1
  · exact h2

theorem get_set {l : List KH} (h : l.Pairwise fun a b => ltS a.1 b.1 = true) (k : ByteArray) (x : List Ver) (j : ByteArray) : getL (setL l k x) j = if j = k then x else getL l j := by
  have hs := set_pair h k x
  by_cases hj : j = k
  · subst hj
    rw [if_pos rfl]
    by_cases hx : x = []
    · subst hx
      refine get_none fun p hp e => ?_
      rcases set_mem hp with ⟨_, h2⟩ | ⟨_, h2⟩
      · exact h2 e
      · exact h2 rfl
    · have hm : (j, x) ∈ setL l j x := by
        unfold setL
        rw [if_neg hx]
        simp
      exact get_mem hs hm
  · rw [if_neg hj]
    rcases get_cases (l := l) j with ⟨p, hp, rfl, e⟩ | ⟨h1, e⟩
    · have hm : p ∈ setL l k x := by
        unfold setL
        cases h1 : ltS p.1 k with
        | true => exact List.mem_append_left _ (List.mem_filter.2 ⟨hp, h1⟩)
        | false =>
          cases h2 : ltS k p.1 with
          | true => exact List.mem_append_right _ (List.mem_append_right _ (List.mem_filter.2 ⟨hp, h2⟩))
          | false => exact absurd (ltS_con h1 h2) hj
      rw [e]
      exact get_mem hs hm
    · rw [e]
      refine get_none fun p hp => ?_
      rcases set_mem hp with ⟨h2, _⟩ | ⟨rfl, _⟩
      · exact h1 p h2
      · exact fun e => hj e.symm

/-- A sorted list is told by what its keys have. -/
theorem ext {a b : List KH} (ha : a.Pairwise fun a b => ltS a.1 b.1 = true) (hb : b.Pairwise fun a b => ltS a.1 b.1 = true) (na : ∀ p ∈ a, p.2 ≠ []) (nb : ∀ p ∈ b, p.2 ≠ []) (h : ∀ k, getL a k = getL b k) : a = b := by
  induction a generalizing b with
  | nil =>
    cases b with
    | nil => rfl
    | cons q b =>
      have := h q.1
      rw [get_mem hb (List.mem_cons_self ..)] at this
      exact absurd this.symm (nb q (List.mem_cons_self ..))
  | cons p a ih =>
    cases b with
    | nil =>
      have := h p.1
      rw [get_mem ha (List.mem_cons_self ..)] at this
      exact absurd this (na p (List.mem_cons_self ..))
    | cons q b =>
      obtain ⟨pa, ha'⟩ := List.pairwise_cons.1 ha
      obtain ⟨qb, hb'⟩ := List.pairwise_cons.1 hb
      have hp := h p.1
      rw [get_mem ha (List.mem_cons_self ..)] at hp
      have hq := h q.1
      rw [get_mem hb (List.mem_cons_self ..)] at hq
      have e1 : p.1 = q.1 := by
        rcases get_cases (l := q :: b) p.1 with ⟨x, hx, e, _⟩ | ⟨_, e⟩
        · rcases List.mem_cons.1 hx with rfl | hx
          · exact e.symm
          · have l1 := qb x hx
            rw [e] at l1
            rcases get_cases (l := p :: a) q.1 with ⟨y, hy, e2, _⟩ | ⟨_, e2⟩
            · rcases List.mem_cons.1 hy with rfl | hy
              · exact e2
              · have l2 := pa y hy
                rw [e2] at l2
                exact absurd (ltS_trans l1 l2) (by rw [ltS_irr]; simp)
            · rw [e2] at hq
              exact absurd hq.symm (nb q (List.mem_cons_self ..))
        · rw [e] at hp
          exact absurd hp (na p (List.mem_cons_self ..))
      have e2 : p.2 = q.2 := by
        rw [← e1, get_mem ha (List.mem_cons_self ..)] at hq
        exact hq
      have e : p = q := Prod.ext e1 e2
      subst e
      congr 1
      refine ih ha' hb' (fun x hx => na x (List.mem_cons_of_mem _ hx)) (fun x hx => nb x (List.mem_cons_of_mem _ hx)) fun k => ?_
      by_cases hk : k = p.1
      · subst hk
        rw [get_none fun x hx e => ltS_ne' (pa x hx) e.symm, get_none fun x hx e => ltS_ne' (qb x hx) e.symm]
      · have := h k
        unfold getL at this
        rw [if_neg fun e => hk e.symm, if_neg fun e => hk e.symm] at this
        exact this

end Idx
end Go.Proofs.Ytcoddkbbgmjckaa
