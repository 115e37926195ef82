/- What a vault has: what its log's records tell, and what stands behind a snap. Plain mathematics. -/
import Derived.Test.YtmeoooojmhhahaaGreatEntP
import Derived.Test.YtmeoooojmhhahaaGreatWalL
namespace Go.Proofs.YtmeoooojmhhahaaGreat
set_option linter.unusedVariables false
set_option linter.unusedSimpArgs false

/-- What is hard. -/
structure Hd where
  t : Int
  v : Int
deriving DecidableEq

/-- An entry behind others, or in the place of one and of all from there on; none: it can't be. -/
def putE (l : List Ent) (e : Ent) : Option (List Ent) :=
  if (match l with | [] => false | f :: _ => decide (e.i < f.i)) = true then some [e] else
  match (l.filter fun g => decide (g.i < e.i)).getLast? with
  | none => some [e]
  | some f => if f.i = e.i - 1 ∧ f.t ≤ e.t then some (l.filter (fun g => decide (g.i < e.i)) ++ [e]) else none

/-- What one more record makes of what is hard and of the entries; none: it can't be. -/
def tellOne (q : Hd × List Ent) (r : List UInt8) : Option (Hd × List Ent) :=
  if (numberN (some r) 1).1 = 1 then
    if (hardFromN (numberN (some r) 1).2).s = some [] then some (⟨(hardFromN (numberN (some r) 1).2).t, (hardFromN (numberN (some r) 1).2).v⟩, q.2) else none
  else if (numberN (some r) 1).1 = 2 then
    if (fromN rightB (numberN (some r) 1).2 12000).s = some [] then
      (putE q.2 ⟨(fromN rightB (numberN (some r) 1).2 12000).i, (fromN rightB (numberN (some r) 1).2 12000).t, (fromN rightB (numberN (some r) 1).2 12000).d⟩).map fun l => (q.1, l)
    else none
  else none

def tellFrom (q : Hd × List Ent) (ls : List (List UInt8)) : Option (Hd × List Ent) := ls.foldlM tellOne q
def hd0 : Hd := ⟨0, -1⟩
def tells (ls : List (List UInt8)) : Option (Hd × List Ent) := tellFrom (hd0, []) ls

theorem tellFrom_nil (q : Hd × List Ent) : tellFrom q [] = some q := rfl
theorem tellFrom_cons (q : Hd × List Ent) (r : List UInt8) (ls : List (List UInt8)) : tellFrom q (r :: ls) = (tellOne q r).bind fun p => tellFrom p ls := by
  unfold tellFrom
  rw [List.foldlM_cons]
  rfl
theorem tellFrom_app (q : Hd × List Ent) (a b : List (List UInt8)) : tellFrom q (a ++ b) = (tellFrom q a).bind fun p => tellFrom p b := by
  unfold tellFrom
  rw [List.foldlM_append]
  rfl

/- the records -/
def hardRec (h : Hd) : List UInt8 := 1 :: hardL h.t h.v
def entRec (e : Ent) : List UInt8 := 2 :: threeL e.i e.t e.d
def rightE (e : Ent) : Bool := rightB e.i e.t e.d.length
def rightH (h : Hd) : Bool := hardB h.t h.v

theorem kind_take (b : UInt8) (r : List UInt8) : numberN (some (b :: r)) 1 = (b.toNat, some r) := by
  unfold numberN takeN
  simp [num]

theorem tellOne_hard (q : Hd × List Ent) (h : Hd) (hr : rightH h = true) : tellOne q (hardRec h) = some (h, q.2) := by
  have e := hard_back h.t h.v [] hr
  rw [List.append_nil] at e
  unfold tellOne hardRec
  rw [kind_take]
  dsimp only
  rw [if_pos (by decide), e]
  dsimp only
  rw [if_pos rfl]

theorem tellOne_ent (q : Hd × List Ent) (x : Ent) (hr : rightE x = true) : tellOne q (entRec x) = (putE q.2 x).map fun l => (q.1, l) := by
  obtain ⟨hi, ht, hd⟩ := rightB_nums hr
  have e := from_back rightB x.i x.t x.d [] 12000 hi ht (by omega) (by omega) hr
  rw [List.append_nil] at e
  unfold tellOne entRec
  rw [kind_take]
  dsimp only
  rw [if_neg (by decide), if_pos (by decide), e]
  dsimp only
  rw [if_pos rfl]

/- runs: each one's index is one above that of the one ahead, its term no lower -/
def goesOn : List Ent → Prop
  | [] => True
  | e :: t => (match t with | [] => True | f :: _ => f.i = e.i + 1 ∧ e.t ≤ f.t) ∧ goesOn t

theorem goesOn_low {e : Ent} {t : List Ent} (h : goesOn (e :: t)) : ∀ g ∈ t, e.i < g.i := by
  induction t generalizing e with
  | nil => intro g hg; cases hg
  | cons f t ih =>
    intro g hg
    have h1 : f.i = e.i + 1 := h.1.1
    rcases List.mem_cons.1 hg with rfl | hg
    · omega
    · have := ih h.2 g hg
      omega

theorem goesOn_high : ∀ {l : List Ent} {e : Ent}, goesOn (l ++ [e]) → ∀ g ∈ l, g.i < e.i
  | [], _, _ => by intro g hg; cases hg
  | a :: l, e, h => by
    intro g hg
    rcases List.mem_cons.1 hg with rfl | hg
    · exact goesOn_low h e (List.mem_append_right _ (List.mem_singleton_self _))
    · exact goesOn_high (l := l) h.2 g hg

theorem goesOn_last : ∀ {l : List Ent} {f e : Ent}, goesOn (l ++ [f, e]) → e.i = f.i + 1 ∧ f.t ≤ e.t
  | [], f, e, h => h.1
  | a :: l, f, e, h => goesOn_last (l := l) h.2

theorem goesOn_left : ∀ {l m : List Ent}, goesOn (l ++ m) → goesOn l
  | [], _, _ => trivial
  | [a], m, _ => ⟨trivial, trivial⟩
  | a :: b :: l, m, h => ⟨h.1, goesOn_left (l := b :: l) h.2⟩

theorem goesOn_right : ∀ {l m : List Ent}, goesOn (l ++ m) → goesOn m
  | [], _, h => h
  | a :: l, m, h => goesOn_right (l := l) h.2

/-- An entry that goes on behind others is put behind them. -/
theorem putE_next {l : List Ent} {e : Ent} (h : goesOn (l ++ [e])) : putE l e = some (l ++ [e]) := by
  have hh := goesOn_high h
  have hf : l.filter (fun g => decide (g.i < e.i)) = l := List.filter_eq_self.2 fun g hg => decide_eq_true (hh g hg)
  unfold putE
  rw [hf]
  rcases List.eq_nil_or_concat l with rfl | ⟨m, f, rfl⟩
  · rfl
  · rw [List.concat_eq_append] at *
    rw [List.append_assoc] at h
    have h1 := goesOn_last h
    rw [if_neg, List.getLast?_append]
    · simp only [List.getLast?_singleton, Option.some_or]
      rw [if_pos (by omega)]
    · cases m with
      | nil => simp; have := hh f (by simp); omega
      | cons a m => simp; have := hh a (by simp); omega

/-- What records of entries that go on tell. -/
theorem tellFrom_ents : ∀ (more : List Ent) (h : Hd) (l : List Ent), goesOn (l ++ more) → (∀ x ∈ more, rightE x = true) → tellFrom (h, l) (more.map entRec) = some (h, l ++ more)
  | [], h, l, _, _ => by rw [List.append_nil]; rfl
  | x :: more, h, l, hg, hr => by
    have e : l ++ x :: more = (l ++ [x]) ++ more := by simp
    rw [e] at hg
    rw [List.map_cons, tellFrom_cons, tellOne_ent _ _ (hr x (List.mem_cons_self ..)), putE_next (goesOn_left hg), e]
    exact tellFrom_ents more h (l ++ [x]) hg fun y hy => hr y (List.mem_cons_of_mem _ hy)

/-- What the records of a log tell that was reset: what is hard, and the entries. -/
theorem tells_reset (h : Hd) (l : List Ent) (hh : rightH h = true) (hg : goesOn l) (hr : ∀ x ∈ l, rightE x = true) : tells (hardRec h :: l.map entRec) = some (h, l) := by
  unfold tells
  rw [tellFrom_cons, tellOne_hard _ _ hh]
  exact tellFrom_ents l h [] hg hr

/-- What is saved: what is hard, if it isn't what was saved last, and the entries. -/
def saveRecs (was h : Hd) (l : List Ent) : List (List UInt8) := (if h = was then [] else [hardRec h]) ++ l.map entRec

/-- The first of what is saved tell what was there, or what is hard and the first entries. -/
theorem tells_saved {ls : List (List UInt8)} {was : Hd} {l : List Ent} (ht : tells ls = some (was, l)) (h : Hd) (more : List Ent) (hh : rightH h = true) (hg : goesOn (l ++ more)) (hr : ∀ x ∈ more, rightE x = true) (j : Nat) :
    ∃ a k, tells (ls ++ (saveRecs was h more).take j) = some (a, l ++ more.take k) ∧ k ≤ more.length ∧ (a = was ∨ a = h) ∧ (0 < k → a = h) ∧ ((saveRecs was h more).length ≤ j → a = h ∧ k = more.length) := by
  have hgo : ∀ k, goesOn (l ++ more.take k) := fun k => by
    refine goesOn_left (m := more.drop k) ?_
    rw [List.append_assoc, List.take_append_drop]
    exact hg
  have hrk : ∀ k, ∀ x ∈ more.take k, rightE x = true := fun k x hx => hr x (List.mem_of_mem_take hx)
  unfold saveRecs
  by_cases hw : h = was
  · subst hw
    rw [if_pos rfl, List.nil_append]
    refine ⟨h, min j more.length, ?_, Nat.min_le_right _ _, .inl rfl, fun _ => rfl, fun hj => ⟨rfl, ?_⟩⟩
    · unfold tells at ht ⊢
      rw [tellFrom_app, ht, ← List.map_take]
      have e : more.take (min j more.length) = more.take j := by rw [List.take_eq_take_iff]; omega
      rw [e]
      exact tellFrom_ents _ h l (hgo j) (hrk j)
    · rw [List.length_map] at hj
      omega
  · rw [if_neg hw]
    cases j with
    | zero =>
      refine ⟨was, 0, ?_, Nat.zero_le _, .inl rfl, fun h0 => absurd h0 (by omega), fun hj => absurd hj (by simp)⟩
      rw [List.take_zero, List.append_nil, List.take_zero, List.append_nil]
      exact ht
    | succ j =>
      refine ⟨h, min j more.length, ?_, Nat.min_le_right _ _, .inr rfl, fun _ => rfl, fun hj => ⟨rfl, ?_⟩⟩
      · unfold tells at ht ⊢
        have e0 : ([hardRec h] ++ more.map entRec).take (j + 1) = hardRec h :: (more.take j).map entRec := by rw [List.map_take]; rfl
        have e : more.take (min j more.length) = more.take j := by rw [List.take_eq_take_iff]; omega
        rw [tellFrom_app, ht, e0, e]
        show tellFrom (was, l) _ = _
        rw [tellFrom_cons, tellOne_hard _ _ hh]
        exact tellFrom_ents _ h l (hgo j) (hrk j)
      · rw [List.length_append, List.length_map, List.length_singleton] at hj
        omega

/- behind a snap -/
/-- Do entries go with a snap? -/
def withB (s : Ent) (l : List Ent) : Bool := (match l with | [] => false | f :: _ => decide (f.i = s.i + 1)) || l.any fun g => decide (g.i = s.i) && decide (g.t = s.t)
/-- Those that are left behind it. -/
def leftE (s : Ent) (l : List Ent) : List Ent := if withB s l = true then l.filter (fun g => decide (s.i < g.i)) else []
def behindE (s : Ent) (l : List Ent) : Option (List Ent) := if runB s.i s.t (leftE s l) = true then some (leftE s l) else none

/-- Entries that are a run behind a snap stay. -/
theorem stepB_ahead {i t : Int} {l : List Ent} (h : runB i t l = true) (k : Nat) (hk : k < l.length) : rightE l[k] = true ∧ prevT t l k ≤ l[k].t ∧ l[k].i = prevI i l k + 1 := by
  have := List.all_eq_true.1 h k (List.mem_range.2 hk)
  rw [stepB_at i t l k hk] at this
  simp only [Bool.and_eq_true, decide_eq_true_eq] at this
  exact ⟨this.1, this.2.1, this.2.2⟩

theorem run_at {i t : Int} {l : List Ent} (h : runB i t l = true) : ∀ k (hk : k < l.length), l[k].i = i + 1 + k
  | 0, hk => by
    have := (stepB_ahead h 0 hk).2.2
    simp [prevI] at this
    omega
  | k + 1, hk => by
    have := (stepB_ahead h (k + 1) hk).2.2
    rw [(prev_next i t l k (by omega)).1, run_at h k (by omega)] at this
    omega

theorem run_right {i t : Int} {l : List Ent} (h : runB i t l = true) : ∀ x ∈ l, rightE x = true := fun x hx => by
  obtain ⟨k, hk, rfl⟩ := List.getElem_of_mem hx
  exact (stepB_ahead h k hk).1

theorem run_above {i t : Int} {l : List Ent} (h : runB i t l = true) : ∀ x ∈ l, i < x.i := fun x hx => by
  obtain ⟨k, hk, rfl⟩ := List.getElem_of_mem hx
  rw [run_at h k hk]
  omega

theorem leftE_run {s : Ent} {l : List Ent} (h : runB s.i s.t l = true) : leftE s l = l := by
  have hf : l.filter (fun g => decide (s.i < g.i)) = l := List.filter_eq_self.2 fun g hg => decide_eq_true (run_above h g hg)
  unfold leftE
  rw [hf]
  split
  · rfl
  · rename_i hw
    cases l with
    | nil => rfl
    | cons f l =>
      refine absurd ?_ hw
      have := run_at h 0 (by simp)
      unfold withB
      simp at this ⊢
      exact .inl this

theorem behindE_run {s : Ent} {l : List Ent} (h : runB s.i s.t l = true) : behindE s l = some l := by
  unfold behindE
  rw [leftE_run h, if_pos h]

theorem goesOn_of : ∀ {l : List Ent}, (∀ k (hk : k + 1 < l.length), l[k + 1].i = l[k].i + 1 ∧ l[k].t ≤ l[k + 1].t) → goesOn l
  | [], _ => trivial
  | [a], _ => ⟨trivial, trivial⟩
  | a :: b :: l, h => ⟨h 0 (by simp), goesOn_of (l := b :: l) fun k hk => h (k + 1) (by simpa using hk)⟩

theorem run_goesOn {i t : Int} {l : List Ent} (h : runB i t l = true) : goesOn l := by
  refine goesOn_of fun k hk => ?_
  have h1 := stepB_ahead h (k + 1) hk
  obtain ⟨p1, p2⟩ := prev_next i t l k (by omega)
  rw [p1, p2] at h1
  exact ⟨h1.2.2, h1.2.1⟩

end Go.Proofs.YtmeoooojmhhahaaGreat

namespace Go.Proofs.YtmeoooojmhhahaaGreat
set_option linter.unusedVariables false
set_option linter.unusedSimpArgs false

/-- Each file's bytes, and how many of them are safe. -/
abbrev View := ByteArray → List UInt8 × Nat
def View.set (x : View) (n : ByteArray) (v : List UInt8 × Nat) : View := fun m => if m = n then v else x m
def seenF (l : List Fil) (n : ByteArray) : List UInt8 × Nat := ((getF l n).1.b.data.toList, (getF l n).1.safe)

theorem View.set_get (x : View) (n : ByteArray) (v : List UInt8 × Nat) : x.set n v n = v := by simp [View.set]
theorem View.set_ne (x : View) (n m : ByteArray) (v : List UInt8 × Nat) (h : m ≠ n) : x.set n v m = x m := by simp [View.set, h]
theorem View.set_set (x : View) (n : ByteArray) (v u : List UInt8 × Nat) : (x.set n v).set n u = x.set n u := by
  funext m; simp only [View.set]; split <;> rfl
theorem View.set_id (x : View) (n : ByteArray) (v : List UInt8 × Nat) (h : x n = v) : x.set n v = x := by
  funext m
  unfold View.set
  split
  · rename_i e; rw [e, h]
  · rfl

theorem mem_put (l : List Fil) (f g : Fil) : g ∈ putF l f ↔ (g ∈ l ∧ ltS g.name f.name = true) ∨ (g = f ∧ 0 < f.b.size) ∨ (g ∈ l ∧ ltS f.name g.name = true) := by
  unfold putF
  by_cases h : 0 < f.b.size
  · simp [h]
  · simp [h]

theorem getF_put {l : List Fil} (h : GoodL l) (f : Fil) (hf : f.safe ≤ f.b.size) (hr : 0 < f.b.size → rightS f.name = true) (n : ByteArray) :
    getF (putF l f) n = if n = f.name then (if 0 < f.b.size then (f, true) else (⟨n, ByteArray.empty, 0⟩, false)) else getF l n := by
  have hp := (h.put f hf hr).sort
  split
  · rename_i e
    subst e
    split
    · rename_i h0
      exact getF_mem hp ((mem_put l f f).2 (.inr (.inl ⟨rfl, h0⟩)))
    · rename_i h0
      refine getF_none fun g hg e => ?_
      rcases (mem_put l f g).1 hg with ⟨_, h1⟩ | ⟨_, h1⟩ | ⟨_, h1⟩
      · rw [e, ltS_irr] at h1; cases h1
      · exact h0 h1
      · rw [e, ltS_irr] at h1; cases h1
  · rename_i hn
    by_cases hx : ∃ g ∈ l, g.name = n
    · obtain ⟨g, hg, rfl⟩ := hx
      rw [getF_mem h.sort hg]
      refine getF_mem hp ((mem_put l f g).2 ?_)
      cases h1 : ltS g.name f.name with
      | true => exact .inl ⟨hg, rfl⟩
      | false =>
        cases h2 : ltS f.name g.name with
        | true => exact .inr (.inr ⟨hg, rfl⟩)
        | false => exact absurd (ltS_con h1 h2) hn
    · have hno : ∀ g ∈ l, g.name ≠ n := fun g hg e => hx ⟨g, hg, e⟩
      rw [getF_none hno]
      refine getF_none fun g hg e => ?_
      rcases (mem_put l f g).1 hg with ⟨h1, _⟩ | ⟨h1, _⟩ | ⟨h1, _⟩
      · exact hno g h1 e
      · exact hn (by rw [← e, h1])
      · exact hno g h1 e

theorem seen_put {l : List Fil} (h : GoodL l) (f : Fil) (hf : f.safe ≤ f.b.size) (hr : 0 < f.b.size → rightS f.name = true) :
    seenF (putF l f) = View.set (seenF l) f.name (f.b.data.toList, f.safe) := by
  funext n
  unfold seenF View.set
  rw [getF_put h f hf hr]
  split
  · split
    · rfl
    · rename_i h0
      have h1 : f.b.data.toList = [] := by
        have : f.b.data.toList.length = f.b.size := by simp
        exact List.length_eq_zero_iff.1 (by omega)
      rw [h1]
      show (([] : List UInt8), 0) = _
      rw [show f.safe = 0 by omega]
  · rfl

theorem seen_has {l : List Fil} (h : GoodL l) (n : ByteArray) : (getF l n).2 = true ↔ (seenF l n).1 ≠ [] := by
  constructor
  · intro h1 h2
    have := (h.each _ (getF_some l n h1).1).1
    have h3 : (seenF l n).1.length = (getF l n).1.b.size := by unfold seenF; simp
    rw [h2] at h3
    simp at h3
    omega
  · intro h1
    by_cases hx : ∃ g ∈ l, g.name = n
    · obtain ⟨g, hg, rfl⟩ := hx
      rw [getF_mem h.sort hg]
    · refine absurd ?_ h1
      unfold seenF
      rw [getF_none fun g hg e => hx ⟨g, hg, e⟩]
      rfl

theorem seen_ok {l : List Fil} (h : GoodL l) (n : ByteArray) : (seenF l n).2 ≤ (seenF l n).1.length := by
  have := h.get n
  unfold seenF
  simpa using this

/-- A disk of a million bytes with these files and this fuse; they have no more than U bytes. -/
structure Dv (D : Dsk) (x : View) (φ : Option Nat) (lost : Bool) (U : Nat) : Prop where
  room : D.room = 1048576
  good : GoodL D.l
  seen : seenF D.l = x
  set : D.set = φ.isSome
  n : D.n = ((φ.getD 0 : Nat) : Int)
  lost : D.lost = lost
  used : usedF D.l ≤ U

/-- A deed with that fuse: none, where the power goes. -/
def fire : Option Nat → Option (Option Nat)
  | none => some none
  | some 0 => none
  | some (k + 1) => some (some k)

theorem fire_none {φ : Option Nat} (h : fire φ = none) : φ ≠ none := by
  rintro rfl; cases h

theorem fire_some {φ ψ : Option Nat} (h : fire φ = some ψ) : φ = none → ψ = none := by
  rintro rfl
  injection h with h
  exact h.symm

/-- What a deed leaves: it was done, or the power went. -/
def Deed (r : Dsk × Nat) (φ : Option Nat) (yes no : View) (U : Nat) : Prop :=
  match fire φ with
  | none => r.2 = 5 ∧ Dv r.1 no (some 0) true U
  | some ψ => r.2 = 0 ∧ Dv r.1 yes ψ false U

section
variable {D : Dsk} {x : View} {φ : Option Nat} {lost : Bool} {U : Nat}

theorem Dv.ok (h : Dv D x φ lost U) (n : ByteArray) : (x n).2 ≤ (x n).1.length := by
  rw [← h.seen]; exact seen_ok h.good n
theorem Dv.has (h : Dv D x φ lost U) (n : ByteArray) : (getF D.l n).2 = true ↔ (x n).1 ≠ [] := by
  rw [← h.seen]; exact seen_has h.good n
theorem Dv.bytes (h : Dv D x φ lost U) (n : ByteArray) : (getF D.l n).1.b = ⟨(x n).1.toArray⟩ ∧ (getF D.l n).1.safe = (x n).2 ∧ (getF D.l n).1.name = n := by
  rw [← h.seen]
  exact ⟨by unfold seenF; apply WideShapes.bytes_inj; simp, rfl, getF_name _ _⟩
theorem Dv.may (h : Dv D x φ false U) (a b : ByteArray) (ha : rightS a = true) (hb : rightS b = true) : D.may a b = 0 := by
  unfold Dsk.may
  rw [h.lost]
  simp [ha, hb]
theorem Dv.more (h : Dv D x φ lost U) {V : Nat} (hU : U ≤ V) : Dv D x φ lost V := ⟨h.room, h.good, h.seen, h.set, h.n, h.lost, Nat.le_trans h.used hU⟩

theorem Dv.burn (h : Dv D x φ false U) : match fire φ with
    | none => D.burn.lost = true ∧ Dv D.burn x (some 0) true U
    | some ψ => D.burn.lost = false ∧ Dv D.burn x ψ false U := by
  have h1 := h.set
  have h2 := h.n
  have h3 := h.lost
  cases φ with
  | none =>
    have e : D.burn = D := by unfold Dsk.burn; rw [h1]; simp
    show D.burn.lost = false ∧ _
    rw [e]
    exact ⟨h3, h⟩
  | some k =>
    cases k with
    | zero =>
      have e : D.burn = { D with lost := true } := by
        unfold Dsk.burn
        rw [if_pos]
        rw [h1, h2]; rfl
      show D.burn.lost = true ∧ _
      rw [e]
      exact ⟨rfl, h.room, h.good, h.seen, h1, h2, rfl, h.used⟩
    | succ k =>
      have e : D.burn = { D with n := D.n - 1 } := by
        unfold Dsk.burn
        rw [if_neg, if_pos]
        · rw [h1, h2]; simp <;> omega
        · rw [h1, h2]; simp <;> omega
      show D.burn.lost = false ∧ _
      rw [e]
      exact ⟨h3, h.room, h.good, h.seen, h1, by show D.n - 1 = _; rw [h2]; simp, h3, h.used⟩

theorem Dv.done (h : Dv D x φ false U) (f : Fil) (gone : ByteArray) (hf : f.safe ≤ f.b.size) (hr : 0 < f.b.size → rightS f.name = true) (hs : f.b.size ≤ (x gone).1.length) :
    Deed (D.done f gone) φ ((x.set gone ([], 0)).set f.name (f.b.data.toList, f.safe)) x U := by
  have hb := h.burn
  unfold Deed Dsk.done
  cases hfi : fire φ with
  | none =>
    rw [hfi] at hb
    obtain ⟨h1, h2⟩ := hb
    rw [if_pos h1]
    exact ⟨rfl, h2⟩
  | some ψ =>
    rw [hfi] at hb
    obtain ⟨h1, h2⟩ := hb
    rw [if_neg (by rw [h1]; simp)]
    have hg1 : GoodL (putF D.burn.l ⟨gone, ByteArray.empty, 0⟩) := h2.good.put _ (Nat.le_refl _) (fun h0 => absurd h0 (Nat.lt_irrefl 0))
    have hs1 := seen_put h2.good ⟨gone, ByteArray.empty, 0⟩ (Nat.le_refl _) (fun h0 => absurd h0 (Nat.lt_irrefl 0))
    have hs2 := seen_put hg1 f hf hr
    have u1 := usedF_put D.burn.l ⟨gone, ByteArray.empty, 0⟩
    have u2 := usedF_put (putF D.burn.l ⟨gone, ByteArray.empty, 0⟩) f
    have u3 := getF_used D.burn.l gone
    have u4 : (getF D.burn.l gone).1.b.size = (x gone).1.length := by
      rw [(h2.bytes gone).1]; simp [ByteArray.size]
    have u5 := h2.used
    refine ⟨rfl, h2.room, hg1.put f hf hr, ?_, h2.set, h2.n, h2.lost, ?_⟩
    · show seenF (putF (putF D.burn.l _) f) = _
      rw [hs2, hs1, h2.seen]
      rfl
    · show usedF (putF (putF D.burn.l _) f) ≤ U
      have u6 : (⟨gone, ByteArray.empty, 0⟩ : Fil).b.size = 0 := rfl
      have u7 : (⟨gone, ByteArray.empty, 0⟩ : Fil).name = gone := rfl
      rw [u6, u7] at u1
      omega

theorem Dv.append (h : Dv D x φ false U) (n b : ByteArray) (hn : rightS n = true) (hr : U + b.size ≤ 1048576) :
    Deed (D.append n b) φ (x.set n ((x n).1 ++ b.data.toList, (x n).2)) (x.set n ((x n).1 ++ b.data.toList, (x n).2)) (U + b.size) := by
  obtain ⟨e1, e2, e3⟩ := h.bytes n
  have hu := h.used
  have hok := h.ok n
  unfold Dsk.append
  rw [h.may n n hn hn, if_neg (by simp), if_neg (by rw [h.room]; omega)]
  obtain ⟨f, hf⟩ : ∃ f : Fil, f = { (getF D.l n).1 with b := (getF D.l n).1.b ++ b } := ⟨_, rfl⟩
  rw [← hf]
  have f1 : f.name = n := by rw [hf]; exact e3
  have f2 : f.safe = (x n).2 := by rw [hf]; exact e2
  have f3 : f.b.data.toList = (x n).1 ++ b.data.toList := by rw [hf]; show ((getF D.l n).1.b ++ b).data.toList = _; rw [e1]; simp
  have f4 : f.b.size = (x n).1.length + b.size := by
    have : f.b.data.toList.length = f.b.size := by simp
    rw [← this, f3]; simp
  have hle : f.safe ≤ f.b.size := by omega
  have hg := h.good.put f hle (fun _ => by rw [f1]; exact hn)
  have hs := seen_put h.good f hle (fun _ => by rw [f1]; exact hn)
  have u1 := usedF_put D.l f
  have hd : Dv { D with l := putF D.l f } (x.set n ((x n).1 ++ b.data.toList, (x n).2)) φ false (U + b.size) := by
    refine ⟨h.room, hg, ?_, h.set, h.n, h.lost, ?_⟩
    · show seenF (putF D.l f) = _
      rw [hs, f1, f2, f3, h.seen]
    · show usedF (putF D.l f) ≤ _
      have u3 := getF_used D.l n
      have u4 : (getF D.l n).1.b.size = (x n).1.length := by rw [e1]; simp [ByteArray.size]
      rw [f1] at u1
      omega
  have hb := hd.burn
  unfold Deed
  dsimp only
  cases hfi : fire φ with
  | none =>
    rw [hfi] at hb
    obtain ⟨h1, h2⟩ := hb
    rw [if_pos h1]
    exact ⟨rfl, h2⟩
  | some ψ =>
    rw [hfi] at hb
    obtain ⟨h1, h2⟩ := hb
    rw [if_neg (by rw [h1]; simp)]
    exact ⟨rfl, h2⟩

theorem Dv.sync (h : Dv D x φ false U) (n : ByteArray) (hn : rightS n = true) (h0 : (x n).1 ≠ []) :
    Deed (D.sync n) φ (x.set n ((x n).1, (x n).1.length)) x U := by
  obtain ⟨e1, e2, e3⟩ := h.bytes n
  unfold Dsk.sync
  rw [h.may n n hn hn, if_neg (by simp), if_neg (by rw [(h.has n).2 h0]; simp)]
  have hd := h.done { (getF D.l n).1 with safe := (getF D.l n).1.b.size } n (Nat.le_refl _) (fun _ => by show rightS (getF D.l n).1.name = true; rw [e3]; exact hn) (by show (getF D.l n).1.b.size ≤ _; rw [e1]; simp [ByteArray.size])
  have e4 : (x.set n ([], 0)).set (getF D.l n).1.name ((getF D.l n).1.b.data.toList, (getF D.l n).1.b.size) = x.set n ((x n).1, (x n).1.length) := by
    rw [e3, View.set_set, e1]; simp [ByteArray.size]
  rw [← e4]
  exact hd

theorem Dv.remove_no (h : Dv D x φ false U) (n : ByteArray) (hn : rightS n = true) (h0 : (x n).1 = []) : D.remove n = (D, 6) := by
  unfold Dsk.remove
  rw [h.may n n hn hn, if_neg (by simp), if_pos]
  cases hq : (getF D.l n).2 with
  | false => rfl
  | true => exact absurd h0 ((h.has n).1 hq)

theorem Dv.remove (h : Dv D x φ false U) (n : ByteArray) (hn : rightS n = true) (h0 : (x n).1 ≠ []) :
    Deed (D.remove n) φ (x.set n ([], 0)) x U := by
  unfold Dsk.remove
  rw [h.may n n hn hn, if_neg (by simp), if_neg (by rw [(h.has n).2 h0]; simp)]
  have hd := h.done ⟨n, ByteArray.empty, 0⟩ n (Nat.le_refl _) (fun h0 => absurd h0 (Nat.lt_irrefl 0)) (Nat.zero_le _)
  have e4 : (x.set n ([], 0)).set n (ByteArray.empty.data.toList, 0) = x.set n ([], 0) := by
    rw [View.set_set]; rfl
  rw [← e4]
  exact hd

theorem Dv.rename (h : Dv D x φ false U) (a b : ByteArray) (ha : rightS a = true) (hb : rightS b = true) (h0 : (x a).1 ≠ []) (hs : (x a).2 = (x a).1.length) :
    Deed (D.rename a b) φ ((x.set a ([], 0)).set b (x a)) x U := by
  obtain ⟨e1, e2, e3⟩ := h.bytes a
  have e5 : (getF D.l a).1.b.size = (x a).1.length := by rw [e1]; simp [ByteArray.size]
  unfold Dsk.rename
  rw [h.may a b ha hb, if_neg (by simp), if_neg (by rw [(h.has a).2 h0]; simp), if_neg (by omega)]
  have hd := h.done { (getF D.l a).1 with name := b } a (by show (getF D.l a).1.safe ≤ (getF D.l a).1.b.size; omega) (fun _ => hb) (by show (getF D.l a).1.b.size ≤ _; omega)
  have e4 : (x.set a ([], 0)).set b ((getF D.l a).1.b.data.toList, (getF D.l a).1.safe) = (x.set a ([], 0)).set b (x a) := by
    rw [e1, e2]
  rw [← e4]
  exact hd

theorem Dv.read (h : Dv D x φ false U) (n : ByteArray) (hn : rightS n = true) : D.read n = if (x n).1 = [] then (ByteArray.empty, 6) else (⟨(x n).1.toArray⟩, 0) := by
  unfold Dsk.read
  rw [h.may n n hn hn, if_neg (by simp)]
  split
  · rename_i h0
    rw [if_pos]
    refine Classical.byContradiction fun hc => ?_
    rw [(h.has n).2 hc] at h0
    cases h0
  · rename_i h0
    rw [if_neg, (h.bytes n).1]
    intro hc
    refine h0 ?_
    cases hq : (getF D.l n).2 with
    | false => rfl
    | true => exact absurd hc ((h.has n).1 hq)

/-- Behind a restart. -/
theorem Dv.restart (h : Dv D x φ lost U) (Y : Nat → Int) (len : Nat) :
    ∃ k : ByteArray → Nat, (∀ n, (x n).2 ≤ k n ∧ k n ≤ (x n).1.length) ∧ Dv (D.restart Y len) (fun n => ((x n).1.take (k n), k n)) none false U := by
  have hl := restart_l D Y len h.good
  have hgood := backL_good Y len D.l h.good 0
  have key : ∀ n, ∃ k, (x n).2 ≤ k ∧ k ≤ (x n).1.length ∧ seenF (backL Y len D.l 0) n = ((x n).1.take k, k) := fun n => by
    obtain ⟨e1, e2, e3⟩ := h.bytes n
    by_cases hx : ∃ g ∈ D.l, g.name = n
    · obtain ⟨g, hg, rfl⟩ := hx
      have eg := getF_mem h.good.sort hg
      rw [eg] at e1 e2
      dsimp only at e1 e2
      have e4 : g.b.size = (x g.name).1.length := by rw [e1]; simp [ByteArray.size]
      obtain ⟨k, h1, h2, h3⟩ := backL_get Y len D.l h.good 0 g hg
      refine ⟨k, by omega, by omega, ?_⟩
      rcases h3 with ⟨h4, h5⟩ | ⟨h4, h5⟩
      · unfold seenF
        have := getF_mem hgood.sort h5
        dsimp only at this
        rw [this]
        dsimp only
        rw [e1]
        simp [List.extract_eq_take_drop]
      · unfold seenF
        rw [getF_none h5, h4]
        rfl
    · have h0 : getF D.l n = (⟨n, ByteArray.empty, 0⟩, false) := getF_none fun g hg e => hx ⟨g, hg, e⟩
      have hxn : x n = ([], 0) := by rw [← h.seen]; unfold seenF; rw [h0]; rfl
      refine ⟨0, by rw [hxn]; exact Nat.le_refl _, Nat.zero_le _, ?_⟩
      unfold seenF
      rw [getF_none (name := n) fun g hg e => by
        obtain ⟨f, hf, e2⟩ := backL_name Y len D.l 0 g hg
        exact hx ⟨f, hf, by rw [← e2, e]⟩]
      rfl
  refine ⟨fun n => (key n).choose, fun n => ⟨(key n).choose_spec.1, (key n).choose_spec.2.1⟩, ?_⟩
  refine ⟨h.room, ?_, ?_, rfl, rfl, rfl, ?_⟩
  · rw [hl]; exact hgood
  · rw [hl]
    funext n
    exact (key n).choose_spec.2.2
  · rw [hl]
    exact Nat.le_trans (backL_used Y len D.l (fun f hf => (h.good.each f hf).2.1) 0).1 h.used

theorem Dv.fuse (h : Dv D x none false U) (n : Nat) : (D.fuse (n : Int)).2 = 0 ∧ Dv (D.fuse (n : Int)).1 x (some n) false U := by
  have h1 := h.lost
  unfold Dsk.fuse
  rw [if_neg (by rw [h1]; simp), if_neg (by omega)]
  exact ⟨rfl, h.room, h.good, h.seen, rfl, rfl, h1, h.used⟩

theorem dv_new : Dv ⟨1048576, [], false, 0, false⟩ (fun _ => ([], 0)) none false 0 :=
  ⟨rfl, ⟨List.Pairwise.nil, fun f hf => by cases hf⟩, rfl, rfl, rfl, rfl, Nat.le_refl _⟩
end

end Go.Proofs.YtmeoooojmhhahaaGreat

namespace Go.Proofs.YtmeoooojmhhahaaGreat
set_option linter.unusedVariables false
set_option linter.unusedSimpArgs false

/-- How calls ended: done, with no fuse where there was none; or the power went. What is seen behind them: yes, no. -/
def Ended (r : Dsk × Nat) (φ : Option Nat) (U : Nat) (yes no : View → Prop) : Prop :=
  ∃ ψ lost y, Dv r.1 y ψ lost U ∧ ((r.2 = 0 ∧ lost = false ∧ yes y ∧ (φ = none → ψ = none)) ∨ (r.2 = 5 ∧ lost = true ∧ no y ∧ φ ≠ none))

theorem Deed.ended {r : Dsk × Nat} {φ : Option Nat} {yes no : View} {U : Nat} (h : Deed r φ yes no U) : Ended r φ U (· = yes) (· = no) := by
  unfold Deed at h
  cases hf : fire φ with
  | none =>
    rw [hf] at h
    exact ⟨some 0, true, no, h.2, .inr ⟨h.1, rfl, rfl, fire_none hf⟩⟩
  | some ψ =>
    rw [hf] at h
    exact ⟨ψ, false, yes, h.2, .inl ⟨h.1, rfl, rfl, fire_some hf⟩⟩

theorem Ended.mono {r : Dsk × Nat} {φ : Option Nat} {U V : Nat} {yes no yes' no' : View → Prop} (h : Ended r φ U yes no) (hU : U ≤ V) (hy : ∀ y, yes y → yes' y) (hn : ∀ y, no y → no' y) : Ended r φ V yes' no' := by
  obtain ⟨ψ, lost, y, hd, h⟩ := h
  refine ⟨ψ, lost, y, hd.more hU, ?_⟩
  rcases h with ⟨h1, h2, h3, h4⟩ | ⟨h1, h2, h3, h4⟩
  · exact .inl ⟨h1, h2, hy y h3, h4⟩
  · exact .inr ⟨h1, h2, hn y h3, h4⟩

/-- One call, and behind it another one if it was done. -/
theorem Ended.next {r q : Dsk × Nat} {φ : Option Nat} {U V : Nat} {yes no yes2 no2 : View → Prop} (h : Ended r φ U yes no) (hU : U ≤ V) (hno : ∀ y, no y → no2 y)
    (hk : ∀ y ψ, yes y → Dv r.1 y ψ false U → Ended q ψ V yes2 no2) (hq : r.2 ≠ 0 → q = r) : Ended q φ V yes2 no2 := by
  obtain ⟨ψ, lost, y, hd, h⟩ := h
  rcases h with ⟨h1, rfl, h3, h4⟩ | ⟨h1, rfl, h3, h4⟩
  · obtain ⟨χ, lost2, y2, hd2, h⟩ := hk y ψ h3 hd
    refine ⟨χ, lost2, y2, hd2, ?_⟩
    rcases h with ⟨k1, k2, k3, k4⟩ | ⟨k1, k2, k3, k4⟩
    · exact .inl ⟨k1, k2, k3, fun e => k4 (h4 e)⟩
    · exact .inr ⟨k1, k2, k3, fun e => k4 (h4 e)⟩
  · have e := hq (by rw [h1]; simp)
    subst e
    exact ⟨ψ, true, y, hd.more hU, .inr ⟨h1, rfl, hno y h3, h4⟩⟩

section
variable {D : Dsk} {x : View} {φ : Option Nat} {U : Nat}

/-- Bytes behind a file's, safe if it was done. -/
theorem Dv.wrote (h : Dv D x φ false U) (n : ByteArray) (b : List UInt8) (hn : rightS n = true) (hb : b ≠ []) (hr : U + b.length ≤ 1048576) :
    Ended (D.wrote n ⟨b.toArray⟩) φ (U + b.length) (· = x.set n ((x n).1 ++ b, ((x n).1 ++ b).length)) (fun y => y = x.set n ((x n).1 ++ b, (x n).2) ∨ y = x) := by
  have hA := (h.append n ⟨b.toArray⟩ hn hr).ended
  have e0 : (⟨b.toArray⟩ : ByteArray).data.toList = b := by simp
  rw [e0] at hA
  refine hA.next (Nat.le_refl _) (fun y hy => .inl hy) (fun y ψ hy hd => ?_) (fun h0 => ?_)
  · subst hy
    have hne : ((x.set n ((x n).1 ++ b, (x n).2)) n).1 ≠ [] := by
      rw [View.set_get]
      intro e
      exact hb (List.append_eq_nil_iff.1 e).2
    have e1 : D.append n ⟨b.toArray⟩ = ((D.append n ⟨b.toArray⟩).1, (D.append n ⟨b.toArray⟩).2) := rfl
    have hS := (hd.sync n hn hne).ended
    rw [View.set_set, View.set_get] at hS
    unfold Dsk.wrote
    split
    · rename_i h0
      exfalso
      obtain ⟨ψ2, lost2, y2, hd2, h2⟩ := hA
      rcases h2 with ⟨k1, _⟩ | ⟨k1, k2, _⟩
      · exact h0 k1
      · have := hd.lost
        rw [hd2.lost, k2] at this
        cases this
    · exact hS.mono (Nat.le_refl _) (fun y hy => hy) (fun y hy => .inl hy)
  · unfold Dsk.wrote
    rw [if_pos h0]

/-- A file is gone. -/
theorem Dv.gone (h : Dv D x φ false U) (n : ByteArray) (hn : rightS n = true) : Ended (D.gone n) φ U (· = x.set n ([], 0)) (· = x) := by
  by_cases h0 : (x n).1 = []
  · have e := h.remove_no n hn h0
    unfold Dsk.gone
    rw [e]
    refine ⟨φ, false, x, h, .inl ⟨rfl, rfl, ?_, id⟩⟩
    have h1 := h.ok n
    rw [h0] at h1
    exact (View.set_id x n _ (Prod.ext h0 (by simpa using h1))).symm
  · obtain ⟨ψ, lost, y, hd, h2⟩ := (h.remove n hn h0).ended
    unfold Dsk.gone
    refine ⟨ψ, lost, y, hd, ?_⟩
    rcases h2 with ⟨k1, k2, k3, k4⟩ | ⟨k1, k2, k3, k4⟩
    · exact .inl ⟨by rw [k1]; rfl, k2, k3, k4⟩
    · exact .inr ⟨by rw [k1]; rfl, k2, k3, k4⟩

/-- A log's records added. -/
theorem Dv.added (h : Dv D x φ false U) (n : ByteArray) (ls : List (List UInt8)) (hn : rightS n = true) (hs : (x n).2 = (x n).1.length) (hr : U + (framesL ls).length ≤ 1048576) :
    Ended (D.added n ls) φ (U + (framesL ls).length) (· = x.set n ((x n).1 ++ framesL ls, ((x n).1 ++ framesL ls).length)) (fun y => y = x.set n ((x n).1 ++ framesL ls, (x n).2) ∨ y = x) := by
  unfold Dsk.added
  by_cases h0 : ls = []
  · subst h0
    rw [if_pos rfl]
    refine ⟨φ, false, x, h.more (Nat.le_add_right _ _), .inl ⟨rfl, rfl, ?_, id⟩⟩
    exact (View.set_id x n _ (Prod.ext (by simp [framesL]) (by rw [hs]; simp [framesL]))).symm
  · rw [if_neg h0]
    refine h.wrote n _ hn ?_ hr
    cases ls with
    | nil => exact absurd rfl h0
    | cons r t =>
      intro e
      have := congrArg List.length e
      rw [framesL_cons, List.length_append, frameL_length] at this
      simp at this

/-- A file's bytes are other ones; else the file is as it was, and its neighbour something. -/
theorem Dv.replaced (h : Dv D x φ false U) (n : ByteArray) (b : List UInt8) (hn : rightS n = true) (hm : rightS (next n) = true) (hne : n ≠ next n) (hr : U + b.length ≤ 1048576) :
    Ended (D.replaced n ⟨b.toArray⟩) φ (U + b.length) (· = (x.set (next n) ([], 0)).set n (b, b.length)) (fun y => ∃ v, y = x.set (next n) v) := by
  have hsz : (⟨b.toArray⟩ : ByteArray).size = b.length := rfl
  have hx : ∃ v, x = x.set (next n) v := ⟨_, (View.set_id x (next n) _ rfl).symm⟩
  have hG := h.gone (next n) hm
  refine hG.next (Nat.le_add_right _ _) (fun y hy => by rw [hy]; exact hx) (fun y ψ hy hd => ?_) (fun h0 => ?_)
  · subst hy
    have hok : (D.gone (next n)).2 = 0 := by
      obtain ⟨ψ2, lost2, y2, hd2, h2⟩ := hG
      rcases h2 with ⟨k1, _⟩ | ⟨k1, k2, _⟩
      · exact k1
      · have := hd.lost
        rw [hd2.lost, k2] at this
        cases this
    unfold Dsk.replaced
    rw [if_neg (by rw [hok]; simp), hsz]
    have hsn : (x.set (next n) ([], 0)) n = x n := View.set_ne _ _ _ _ hne
    by_cases hb : b = []
    · subst hb
      rw [if_pos List.length_nil]
      refine ((hd.gone n hn).mono (Nat.le_add_right _ _) (fun y hy => hy) (fun y hy => ⟨_, hy⟩))
    · have hbl : 0 < b.length := List.length_pos_iff.2 hb
      rw [if_neg (by omega)]
      have hW := hd.wrote (next n) b hm hb hr
      rw [View.set_get, View.set_set, View.set_set] at hW
      refine hW.next (Nat.le_refl _) (fun y hy => ?_) (fun y χ hy hd3 => ?_) (fun h0 => ?_)
      · rcases hy with hy | hy
        · exact ⟨_, hy⟩
        · exact ⟨_, hy⟩
      · subst hy
        have hok3 : ((D.gone (next n)).1.wrote (next n) ⟨b.toArray⟩).2 = 0 := by
          obtain ⟨ψ2, lost2, y2, hd2, h2⟩ := hW
          rcases h2 with ⟨k1, _⟩ | ⟨k1, k2, _⟩
          · exact k1
          · have := hd3.lost
            rw [hd2.lost, k2] at this
            cases this
        rw [if_neg (by rw [hok3]; simp)]
        have hR := (hd3.rename (next n) n hm hn (by rw [View.set_get]; simpa using hb) (by rw [View.set_get])).ended
        rw [View.set_get, View.set_set] at hR
        exact hR.mono (Nat.le_refl _) (fun y hy => by simpa using hy) (fun y hy => ⟨_, hy⟩)
      · rw [if_pos h0]
  · unfold Dsk.replaced
    rw [if_pos h0]

theorem Dv.told (h : Dv D x φ false U) (n : ByteArray) (hn : rightS n = true) : D.told n = scanL (x n).1 ∧ (D.read n).1.size = (x n).1.length ∧ ((D.read n).2 = 0 ∨ (D.read n).2 = 6) := by
  unfold Dsk.told
  rw [h.read n hn]
  split
  · rename_i h0; rw [h0]; exact ⟨rfl, rfl, .inr rfl⟩
  · exact ⟨by simp, by simp [ByteArray.size], .inl rfl⟩

/-- Read as a log: what isn't whole is cut off. -/
theorem Dv.trim (h : Dv D x none false U) (n : ByteArray) (hn : rightS n = true) :
    (scanL (x n).1).2 < (x n).1.length → (D.cut n ((scanL (x n).1).2 : Int)).2 = 0 := by
  intro hlt
  have h0 : (x n).1 ≠ [] := by
    intro e; rw [e] at hlt; simp at hlt
  obtain ⟨e1, e2, e3⟩ := h.bytes n
  have e5 : (getF D.l n).1.b.size = (x n).1.length := by rw [e1]; simp [ByteArray.size]
  unfold Dsk.cut
  rw [h.may n n hn hn, if_neg (by simp), if_neg (by rw [(h.has n).2 h0]; simp), if_neg (by omega)]
  have hx := extract_size (getF D.l n).1.b (scanL (x n).1).2 (by omega)
  have hd := h.done { (getF D.l n).1 with b := (getF D.l n).1.b.extract 0 (scanL (x n).1).2, safe := (scanL (x n).1).2 } n (by show (scanL (x n).1).2 ≤ ((getF D.l n).1.b.extract 0 (scanL (x n).1).2).size; omega) (fun _ => by show rightS (getF D.l n).1.name = true; rw [e3]; exact hn) (by show ((getF D.l n).1.b.extract 0 (scanL (x n).1).2).size ≤ _; omega)
  have : ((scanL (x n).1).2 : Int).toNat = (scanL (x n).1).2 := by simp
  rw [this]
  exact hd.1
end

/-- What is told of a log's frames behind which frames are cut off. -/
theorem told_cut (ls more : List (List UInt8)) (h1 : fit ls) (h2 : fit more) (k : Nat) (hk : (framesL ls).length ≤ k) (hk2 : k ≤ (framesL ls ++ framesL more).length) :
    ∃ j, j ≤ more.length ∧ (scanL ((framesL ls ++ framesL more).take k)).1 = ls ++ more.take j ∧ (k = (framesL ls ++ framesL more).length → j = more.length) := by
  rw [List.length_append] at hk2
  obtain ⟨j, hj, hs, _, hall⟩ := scanL_cut more h2 (k - (framesL ls).length) (by omega)
  refine ⟨j, hj, ?_, fun e => hall (by rw [List.length_append] at e; omega)⟩
  rw [List.take_append, List.take_of_length_le hk, scanL_frames ls h1, hs]

end Go.Proofs.YtmeoooojmhhahaaGreat

namespace Go.Proofs.YtmeoooojmhhahaaGreat
set_option linter.unusedVariables false
set_option linter.unusedSimpArgs false

/- runs -/
theorem stepB_same {i t : Int} {l m : List Ent} {k : Nat} (h : l[k]? = m[k]?) (hp : 0 < k → l[k - 1]? = m[k - 1]?) : stepB i t l k = stepB i t m k := by
  unfold stepB prevI prevT
  rw [h]
  by_cases h0 : k = 0
  · simp [h0]
  · rw [hp (by omega)]

theorem runB_take {i t : Int} {l : List Ent} (h : runB i t l = true) (n : Nat) : runB i t (l.take n) = true := by
  refine runB_yes fun k hk => ?_
  have hkn : k < n ∧ k < l.length := by rw [List.length_take] at hk; omega
  rw [stepB_same (m := l) (by rw [List.getElem?_take, if_pos hkn.1]) (fun h0 => by rw [List.getElem?_take, if_pos (by omega)])]
  exact List.all_eq_true.1 h k (List.mem_range.2 hkn.2)

def lastI (i : Int) (l : List Ent) : Int := (l.getLast?.map Ent.i).getD i
def lastT (t : Int) (l : List Ent) : Int := (l.getLast?.map Ent.t).getD t

theorem stepB_behind (i t : Int) (l m : List Ent) (j : Nat) : stepB i t (l ++ m) (l.length + j) = stepB (lastI i l) (lastT t l) m j := by
  have e1 : (l ++ m)[l.length + j]? = m[j]? := by
    rw [List.getElem?_append_right (by omega)]
    congr 1
    omega
  have e2 : prevI i (l ++ m) (l.length + j) = prevI (lastI i l) m j ∧ prevT t (l ++ m) (l.length + j) = prevT (lastT t l) m j := by
    unfold prevI prevT lastI lastT
    by_cases hj : j = 0
    · subst hj
      rcases List.eq_nil_or_concat l with rfl | ⟨q, f, rfl⟩
      · simp
      · simp
    · rw [if_neg (by omega), if_neg hj, if_neg (by omega), if_neg hj]
      have e3 : (l ++ m)[l.length + j - 1]? = m[j - 1]? := by
        rw [List.getElem?_append_right (by omega)]
        congr 1
        omega
      rw [e3]
      exact ⟨rfl, rfl⟩
  unfold stepB
  rw [e1, e2.1, e2.2]

theorem runB_app {i t : Int} {l m : List Ent} (h : runB i t l = true) (k : runB (lastI i l) (lastT t l) m = true) : runB i t (l ++ m) = true := by
  refine runB_yes fun a ha => ?_
  by_cases hl : a < l.length
  · rw [stepB_same (m := l) (List.getElem?_append_left hl) (fun h0 => List.getElem?_append_left (by omega))]
    exact List.all_eq_true.1 h a (List.mem_range.2 hl)
  · obtain ⟨j, rfl⟩ : ∃ j, a = l.length + j := ⟨a - l.length, by omega⟩
    rw [stepB_behind]
    rw [List.length_append] at ha
    exact List.all_eq_true.1 k j (List.mem_range.2 (by omega))

theorem runB_tail {i t : Int} {l m : List Ent} (h : runB i t (l ++ m) = true) : runB (lastI i l) (lastT t l) m = true := by
  refine runB_yes fun j hj => ?_
  rw [← stepB_behind i t l m j]
  exact List.all_eq_true.1 h _ (List.mem_range.2 (by rw [List.length_append]; omega))

theorem runB_lower {i t t' : Int} {l : List Ent} (h : runB i t l = true) (ht : t' ≤ t) : runB i t' l = true := by
  refine runB_yes fun k hk => ?_
  have h1 := stepB_ahead h k hk
  rw [stepB_at _ _ _ _ hk]
  have h2 : prevT t' l k ≤ l[k].t := by
    unfold prevT at h1 ⊢
    split
    · rename_i h0
      rw [if_pos h0] at h1
      omega
    · rename_i h0
      rw [if_neg h0] at h1
      exact h1.2.1
  have h3 : rightB l[k].i l[k].t l[k].d.length = true := h1.1
  rw [h3, decide_eq_true h2, decide_eq_true h1.2.2]
  rfl

/- records fit -/
theorem hardRec_fits (h : Hd) : (hardRec h).length ≤ 60000 := by
  unfold hardRec
  rw [List.length_cons, hardL_length]
  omega
theorem entRec_fits {e : Ent} (h : rightE e = true) : (entRec e).length ≤ 60000 := by
  have := (rightB_nums h).2.2
  unfold entRec
  rw [List.length_cons, threeL_length]
  omega
theorem entRecs_fit {l : List Ent} (h : ∀ x ∈ l, rightE x = true) : fit (l.map entRec) := fun r hr => by
  obtain ⟨e, he, rfl⟩ := List.mem_map.1 hr
  exact entRec_fits (h e he)
theorem saveRecs_fit {was h : Hd} {l : List Ent} (hr : ∀ x ∈ l, rightE x = true) : fit (saveRecs was h l) := fun r hm => by
  unfold saveRecs at hm
  rcases List.mem_append.1 hm with hm | hm
  · split at hm
    · cases hm
    · rw [List.mem_singleton.1 hm]; exact hardRec_fits h
  · exact entRecs_fit hr r hm

/-- Behind a Save that the power may have ended: what was there, perhaps with what is hard and the first entries. -/
theorem saves_back {ls : List (List UInt8)} {was : Hd} {s : Ent} {l : List Ent} (hf : fit ls) (ht : tells ls = some (was, l)) (h : Hd) (more : List Ent) (hh : rightH h = true) (hrun : runB s.i s.t (l ++ more) = true) (k : Nat)
    (hk : (framesL ls).length ≤ k) (hk2 : k ≤ (framesL ls ++ framesL (saveRecs was h more)).length) :
    ∃ a j, tells (scanL ((framesL ls ++ framesL (saveRecs was h more)).take k)).1 = some (a, l ++ more.take j) ∧ behindE s (l ++ more.take j) = some (l ++ more.take j) ∧ j ≤ more.length ∧ (a = was ∨ a = h) ∧ (0 < j → a = h) ∧ (k = (framesL ls ++ framesL (saveRecs was h more)).length → a = h ∧ j = more.length) := by
  have hr : ∀ x ∈ more, rightE x = true := fun x hx => run_right hrun x (List.mem_append_right _ hx)
  obtain ⟨j, hj, hs, hall⟩ := told_cut ls (saveRecs was h more) hf (saveRecs_fit hr) k hk hk2
  obtain ⟨a, m, h1, h2, h3, h4, h5⟩ := tells_saved ht h more hh (run_goesOn hrun) hr j
  refine ⟨a, m, by rw [hs]; exact h1, ?_, h2, h3, h4, fun e => h5 (by rw [hall e]; exact Nat.le_refl _)⟩
  refine behindE_run ?_
  have e : l ++ more.take m = (l ++ more).take (l.length + m) := by rw [List.take_length_add_append]
  rw [e]
  exact runB_take hrun _

/-- Entries from the first index on, behind a snap of a higher one: those that are left go with it. -/
theorem leftE_first {s : Ent} {l : List Ent} (h : runB 0 0 l = true) (hs : 1 ≤ s.i) : runB s.i s.t (leftE s l) = true := by
  unfold leftE
  split
  · rename_i hw
    unfold withB at hw
    rw [Bool.or_eq_true] at hw
    rcases hw with hw | hw
    · cases l with
      | nil => cases hw
      | cons f l =>
        have h1 := of_decide_eq_true hw
        have h2 := run_at h 0 (by simp)
        simp at h2
        omega
    · obtain ⟨g, hg, hgs⟩ := List.any_eq_true.1 hw
      simp only [Bool.and_eq_true, decide_eq_true_eq] at hgs
      obtain ⟨n, hn, rfl⟩ := List.getElem_of_mem hg
      have hi := run_at h n hn
      have e : l.filter (fun g => decide (s.i < g.i)) = l.drop (n + 1) := by
        have h1 : (l.take (n + 1)).filter (fun g => decide (s.i < g.i)) = [] := by
          rw [List.filter_eq_nil_iff]
          intro x hx
          obtain ⟨k, hk, rfl⟩ := List.getElem_of_mem hx
          rw [List.getElem_take]
          have hk2 : k < n + 1 ∧ k < l.length := by rw [List.length_take] at hk; omega
          have := run_at h k hk2.2
          simp
          omega
        have h2 : (l.drop (n + 1)).filter (fun g => decide (s.i < g.i)) = l.drop (n + 1) := by
          rw [List.filter_eq_self]
          intro x hx
          obtain ⟨k, hk, rfl⟩ := List.getElem_of_mem hx
          rw [List.getElem_drop]
          have hk2 : n + 1 + k < l.length := by rw [List.length_drop] at hk; omega
          have := run_at h (n + 1 + k) hk2
          simp
          omega
        have h3 : l.filter (fun g => decide (s.i < g.i)) = (l.take (n + 1) ++ l.drop (n + 1)).filter (fun g => decide (s.i < g.i)) := by rw [List.take_append_drop]
        rw [h3, List.filter_append, h1, h2, List.nil_append]
      rw [e]
      have h4 := runB_tail (l := l.take (n + 1)) (m := l.drop (n + 1)) (i := 0) (t := 0) (by rw [List.take_append_drop]; exact h)
      have e5 : (l.take (n + 1)).getLast? = some l[n] := by
        rw [List.getLast?_eq_getElem?, List.length_take, List.getElem?_take, if_pos (by omega)]
        have : min (n + 1) l.length - 1 = n := by omega
        rw [this, List.getElem?_eq_getElem hn]
      unfold lastI lastT at h4
      rw [e5] at h4
      simp at h4
      rw [hgs.1, hgs.2] at h4
      exact h4
  · rfl

end Go.Proofs.YtmeoooojmhhahaaGreat

namespace Go.Proofs.YtmeoooojmhhahaaGreat
set_option linter.unusedVariables false
set_option linter.unusedSimpArgs false

abbrev nSnap : ByteArray := ⟨#[115, 110, 97, 112]⟩
abbrev nSnapP : ByteArray := ⟨#[115, 110, 97, 112, 43]⟩
abbrev nWal : ByteArray := ⟨#[119, 97, 108]⟩
def snap0 : Ent := ⟨0, 0, []⟩

/-- The snap that bytes tell. -/
def snapOf (b : List UInt8) : Option Ent :=
  match (scanL b).1 with
  | [r] => if (scanL b).2 = b.length ∧ (fromN snapB (some r) 50000).s = some [] ∧ (fromN snapB (some r) 50000).i ≠ 0 then some ⟨(fromN snapB (some r) 50000).i, (fromN snapB (some r) 50000).t, (fromN snapB (some r) 50000).d⟩ else none
  | _ => none

def snapRead (r : ByteArray × Nat) : Ent × Nat :=
  if r.2 = 6 then (snap0, 0) else
  if r.2 ≠ 0 then (snap0, r.2) else
  match snapOf r.1.data.toList with
  | some s => (s, 0)
  | none => (snap0, 2)
def Dsk.snapV (D : Dsk) : Ent × Nat := snapRead (D.read nSnap)

/-- The log's file, read and cut to its whole frames. -/
def Dsk.openW (D : Dsk) (nm : ByteArray) : Dsk × Nat :=
  if (D.read nm).2 ≠ 0 ∧ (D.read nm).2 ≠ 6 then (D, (D.read nm).2) else
  if (D.told nm).2 < (D.read nm).1.size then D.cut nm ((D.told nm).2 : Int) else (D, 0)

structure Held where
  h : Hd
  s : Ent
  l : List Ent
def held0 : Held := ⟨⟨0, 0⟩, snap0, []⟩

/-- The records of what is hard, and of entries. -/
def allRecs (h : Hd) (l : List Ent) : List (List UInt8) := hardRec h :: l.map entRec
def Dsk.reset (D : Dsk) (nm : ByteArray) (ls : List (List UInt8)) : Dsk × Nat := D.replaced nm ⟨(framesL ls).toArray⟩

/-- What an opened vault has, of what was read. -/
def openK (R : Dsk × Nat) (s : Ent) (ls : List (List UInt8)) : (Dsk × Nat) × Held :=
  match tells ls with
  | none => ((R.1, 2), held0)
  | some (h, all) =>
    match behindE s all with
    | none => ((R.1, 2), held0)
    | some out =>
      if out.length = all.length then ((R.1, 0), ⟨h, s, out⟩) else
      if (R.1.reset nWal (allRecs h out)).2 ≠ 0 then (R.1.reset nWal (allRecs h out), held0) else (R.1.reset nWal (allRecs h out), ⟨h, s, out⟩)

def Dsk.openV (D : Dsk) : (Dsk × Nat) × Held :=
  if D.snapV.2 ≠ 0 then ((D, D.snapV.2), held0) else
  if (D.openW nWal).2 ≠ 0 then (D.openW nWal, held0) else
  openK (D.openW nWal) D.snapV.1 (D.told nWal).1

/-- Save: what becomes of the disk, and what is hard as it was saved last. -/
def Dsk.saveV (D : Dsk) (was h : Hd) (l : List Ent) : (Dsk × Nat) × Hd :=
  if (l.all rightE && rightH h) = true then (D.added nWal (saveRecs was h l), if (D.added nWal (saveRecs was h l)).2 = 0 then h else was) else ((D, 1), was)

def snapRec (s : Ent) : List UInt8 := threeL s.i s.t s.d

/-- One deed, and if it was done the next one. -/
def thn (r : Dsk × Nat) (f : Dsk → Dsk × Nat) : Dsk × Nat := if r.2 ≠ 0 then r else f r.1

theorem thn_no {r : Dsk × Nat} {f : Dsk → Dsk × Nat} (h : r.2 ≠ 0) : thn r f = r := by unfold thn; rw [if_pos h]
theorem thn_yes {r : Dsk × Nat} {f : Dsk → Dsk × Nat} (h : r.2 = 0) : thn r f = f r.1 := by unfold thn; rw [if_neg (by rw [h]; simp)]

/-- The snap's frame is laid where the snap lies. -/
def Dsk.snapped (D : Dsk) (s : Ent) : Dsk × Nat := D.replaced nSnap ⟨(frameL (snapRec s)).toArray⟩

def keepOk (h : Hd) (s : Ent) (l : List Ent) : Bool := snapB s.i s.t s.d.length && (decide (s.i ≠ 0) && (rightH h && runB s.i s.t l))
def Dsk.keepV (D : Dsk) (was h : Hd) (s : Ent) (l : List Ent) : (Dsk × Nat) × Hd :=
  if keepOk h s l = true then
    (thn (thn (D.saveV was h []).1 fun D => D.snapped s) fun D => D.reset nWal (allRecs h l), (D.saveV was h []).2)
  else ((D, 1), was)

/- what is told is right -/
theorem hardFromN_right {s : St} (h : (hardFromN s).s ≠ none) : hardB (hardFromN s).t (hardFromN s).v = true := by
  unfold hardFromN at h ⊢
  split
  · rename_i h0; rw [if_pos h0] at h; exact absurd rfl h
  · rename_i h0
    rw [if_neg h0] at h
    split
    · rename_i h1; exact h1
    · rename_i h1; rw [if_neg h1] at h; exact absurd rfl h

theorem fromN_right {ok : Int → Int → Nat → Bool} {s : St} {m : Int} (h : (fromN ok s m).s ≠ none) : ok (fromN ok s m).i (fromN ok s m).t (fromN ok s m).d.length = true := by
  unfold fromN at h ⊢
  split
  · rename_i h0; rw [if_pos h0] at h; exact absurd rfl h
  · rename_i h0
    rw [if_neg h0] at h
    split
    · rename_i h1; exact h1
    · rename_i h1; rw [if_neg h1] at h; exact absurd rfl h

theorem putE_mem {l : List Ent} {e : Ent} {m : List Ent} (h : putE l e = some m) : ∀ x ∈ m, x ∈ l ∨ x = e := by
  have key : m = [e] ∨ m = l.filter (fun g => decide (g.i < e.i)) ++ [e] := by
    have hin : ∀ o : Option Ent, (match o with | none => some [e] | some f => if f.i = e.i - 1 ∧ f.t ≤ e.t then some (l.filter (fun g => decide (g.i < e.i)) ++ [e]) else none) = some m → m = [e] ∨ m = l.filter (fun g => decide (g.i < e.i)) ++ [e] := by
      intro o h
      cases o with
      | none => injection h with h; exact .inl h.symm
      | some f =>
        dsimp only at h
        by_cases hc : f.i = e.i - 1 ∧ f.t ≤ e.t
        · rw [if_pos hc] at h; injection h with h; exact .inr h.symm
        · rw [if_neg hc] at h; cases h
    cases l with
    | nil => unfold putE at h; simp at h; exact .inl h.symm
    | cons f t =>
      by_cases hc : e.i < f.i
      · unfold putE at h
        rw [if_pos (decide_eq_true hc)] at h
        injection h with h; exact .inl h.symm
      · unfold putE at h
        rw [if_neg (by simpa using hc)] at h
        exact hin _ h
  intro x hx
  rcases key with rfl | rfl
  · exact .inr (List.mem_singleton.1 hx)
  · rcases List.mem_append.1 hx with hx | hx
    · exact .inl (List.mem_filter.1 hx).1
    · exact .inr (List.mem_singleton.1 hx)

theorem tellOne_right {q p : Hd × List Ent} {r : List UInt8} (h : tellOne q r = some p) (hq : rightH q.1 = true ∧ ∀ x ∈ q.2, rightE x = true) : rightH p.1 = true ∧ ∀ x ∈ p.2, rightE x = true := by
  unfold tellOne at h
  split at h
  · split at h
    · rename_i hs
      injection h with h
      subst h
      exact ⟨hardFromN_right (by rw [hs]; simp), hq.2⟩
    · cases h
  · split at h
    · split at h
      · rename_i hs
        obtain ⟨l, hl, rfl⟩ := Option.map_eq_some_iff.1 h
        refine ⟨hq.1, fun x hx => ?_⟩
        rcases putE_mem hl x hx with hx | rfl
        · exact hq.2 x hx
        · exact fromN_right (ok := rightB) (by rw [hs]; simp)
      · cases h
    · cases h

theorem tellFrom_right : ∀ (ls : List (List UInt8)) {q p : Hd × List Ent}, tellFrom q ls = some p → (rightH q.1 = true ∧ ∀ x ∈ q.2, rightE x = true) → rightH p.1 = true ∧ ∀ x ∈ p.2, rightE x = true
  | [], q, p, h, hq => by rw [tellFrom_nil] at h; injection h with h; subst h; exact hq
  | r :: ls, q, p, h, hq => by
    rw [tellFrom_cons] at h
    obtain ⟨k, hk, h⟩ := Option.bind_eq_some_iff.1 h
    exact tellFrom_right ls h (tellOne_right hk hq)

theorem tells_right {ls : List (List UInt8)} {h : Hd} {l : List Ent} (ht : tells ls = some (h, l)) : rightH h = true ∧ ∀ x ∈ l, rightE x = true :=
  tellFrom_right ls (p := (h, l)) ht ⟨by decide, fun x hx => by cases hx⟩

theorem behindE_mem {s : Ent} {l m : List Ent} (h : behindE s l = some m) : ∀ x ∈ m, x ∈ l := by
  unfold behindE at h
  split at h
  · injection h with h
    subst h
    unfold leftE
    split
    · exact fun x hx => (List.mem_filter.1 hx).1
    · intro x hx; cases hx
  · cases h

theorem behindE_run' {s : Ent} {l m : List Ent} (h : behindE s l = some m) : runB s.i s.t m = true ∧ m = leftE s l := by
  unfold behindE at h
  split at h
  · rename_i hr
    injection h with h
    subst h
    exact ⟨hr, rfl⟩
  · cases h

theorem allRecs_fit {h : Hd} {l : List Ent} (hr : ∀ x ∈ l, rightE x = true) : fit (allRecs h l) := fun r hm => by
  rcases List.mem_cons.1 hm with rfl | hm
  · exact hardRec_fits h
  · exact entRecs_fit hr r hm

theorem tells_all {h : Hd} {l : List Ent} (hh : rightH h = true) {i t : Int} (hr : runB i t l = true) : tells (allRecs h l) = some (h, l) :=
  tells_reset h l hh (run_goesOn hr) (run_right hr)

/- a snap's frame tells it -/
theorem snapOf_frame {s : Ent} (hs : snapB s.i s.t s.d.length = true) (h0 : s.i ≠ 0) : snapOf (frameL (snapRec s)) = some s := by
  obtain ⟨hi, ht, hd⟩ := snapB_nums hs
  have e := from_back snapB s.i s.t s.d [] 50000 hi ht (by omega) (by omega) hs
  rw [List.append_nil] at e
  have hl : (snapRec s).length ≤ 60000 := by unfold snapRec; rw [threeL_length]; omega
  have h1 := scanL_all [snapRec s] (fun r hr => by rw [List.mem_singleton.1 hr]; exact hl)
  have e1 : framesL [snapRec s] = frameL (snapRec s) := by rw [framesL_cons, framesL_nil, List.append_nil]
  rw [e1] at h1
  unfold snapOf
  rw [h1]
  dsimp only
  unfold snapRec
  rw [e]
  dsimp only
  rw [if_pos ⟨rfl, rfl, h0⟩]

theorem snapOf_right {b : List UInt8} {s : Ent} (h : snapOf b = some s) : snapB s.i s.t s.d.length = true ∧ s.i ≠ 0 := by
  unfold snapOf at h
  split at h
  · split at h
    · rename_i hc
      injection h with h
      subst h
      exact ⟨fromN_right (ok := snapB) (by rw [hc.2.1]; simp), hc.2.2⟩
    · cases h
  · cases h

end Go.Proofs.YtmeoooojmhhahaaGreat

namespace Go.Proofs.YtmeoooojmhhahaaGreat
set_option linter.unusedVariables false
set_option linter.unusedSimpArgs false

theorem next_snap : next nSnap = nSnapP := by decide +kernel

/-- What a snap's laying is, deed by deed. -/
theorem snapped_steps (D : Dsk) (s : Ent) : D.snapped s =
    if (D.remove nSnapP).2 ≠ 0 ∧ (D.remove nSnapP).2 ≠ 6 then D.remove nSnapP else
    if ((D.remove nSnapP).1.append nSnapP ⟨(frameL (snapRec s)).toArray⟩).2 ≠ 0 then (D.remove nSnapP).1.append nSnapP ⟨(frameL (snapRec s)).toArray⟩ else
    if (((D.remove nSnapP).1.append nSnapP ⟨(frameL (snapRec s)).toArray⟩).1.sync nSnapP).2 ≠ 0 then ((D.remove nSnapP).1.append nSnapP ⟨(frameL (snapRec s)).toArray⟩).1.sync nSnapP else
    (((D.remove nSnapP).1.append nSnapP ⟨(frameL (snapRec s)).toArray⟩).1.sync nSnapP).1.rename nSnapP nSnap := by
  have hsz : (⟨(frameL (snapRec s)).toArray⟩ : ByteArray).size ≠ 0 := by
    show (frameL (snapRec s)).length ≠ 0
    rw [frameL_length]
    omega
  unfold Dsk.snapped Dsk.replaced Dsk.gone Dsk.wrote
  rw [next_snap]
  generalize D.remove nSnapP = r
  obtain ⟨D1, e1⟩ := r
  dsimp only
  have key : ∀ ra : Dsk × Nat, (if (if ra.2 ≠ 0 then ra else ra.1.sync nSnapP).2 ≠ 0 then (if ra.2 ≠ 0 then ra else ra.1.sync nSnapP) else (if ra.2 ≠ 0 then ra else ra.1.sync nSnapP).1.rename nSnapP nSnap) = if ra.2 ≠ 0 then ra else if (ra.1.sync nSnapP).2 ≠ 0 then ra.1.sync nSnapP else (ra.1.sync nSnapP).1.rename nSnapP nSnap := fun ra => by
    by_cases ha : ra.2 ≠ 0
    · simp only [if_pos ha]
    · simp only [if_neg ha]
  by_cases h6 : e1 = 6
  · subst h6
    exact (if_neg (by simp)).trans ((if_neg hsz).trans ((key _).trans (if_neg (by simp)).symm))
  · by_cases h0 : e1 = 0
    · subst h0
      exact (if_neg (by simp)).trans ((if_neg hsz).trans ((key _).trans (if_neg (by simp)).symm))
    · rw [if_neg h6, if_pos h0, if_pos ⟨h0, h6⟩]

theorem keepV_no {D : Dsk} {was h : Hd} {s : Ent} {l : List Ent} (hn : keepOk h s l = false) : D.keepV was h s l = ((D, 1), was) := by
  unfold Dsk.keepV
  rw [hn, if_neg (by simp)]

theorem keepV_is {D : Dsk} {was h : Hd} {s : Ent} {l : List Ent} (hn : keepOk h s l = true) : D.keepV was h s l = (thn (thn (D.saveV was h []).1 fun D => D.snapped s) fun D => D.reset nWal (allRecs h l), (D.saveV was h []).2) := by
  unfold Dsk.keepV
  rw [if_pos hn]

theorem saveV_bad {D : Dsk} {was h : Hd} {l : List Ent} (hn : (l.all rightE && rightH h) = false) : D.saveV was h l = ((D, 1), was) := by
  unfold Dsk.saveV
  rw [hn, if_neg (by simp)]

theorem saveV_ok {D : Dsk} {was h : Hd} {l : List Ent} (hn : (l.all rightE && rightH h) = true) : D.saveV was h l = (D.added nWal (saveRecs was h l), if (D.added nWal (saveRecs was h l)).2 = 0 then h else was) := by
  unfold Dsk.saveV
  rw [if_pos hn]

end Go.Proofs.YtmeoooojmhhahaaGreat

namespace Go.Proofs.YtmeoooojmhhahaaGreat
set_option linter.unusedVariables false
set_option linter.unusedSimpArgs false

theorem rightS_snap : rightS nSnap = true := by decide +kernel
theorem rightS_snapP : rightS (next nSnap) = true := by decide +kernel
theorem rightS_wal : rightS nWal = true := by decide +kernel
theorem rightS_walP : rightS (next nWal) = true := by decide +kernel
theorem size_ne {a b : ByteArray} (h : a.size ≠ b.size) : a ≠ b := fun e => h (by rw [e])
theorem first_ne {a b : ByteArray} (h : a.data.toList.head? ≠ b.data.toList.head?) : a ≠ b := fun e => h (by rw [e])
theorem snap_wal : nSnap ≠ nWal := size_ne (by decide)
theorem snap_snapP : nSnap ≠ next nSnap := size_ne (by decide +kernel)
theorem wal_snapP : nWal ≠ next nSnap := size_ne (by decide +kernel)
theorem wal_walP : nWal ≠ next nWal := size_ne (by decide +kernel)
theorem snap_walP : nSnap ≠ next nWal := first_ne (by decide +kernel)

/-- The snap that its file tells. -/
def Snapped (x : View) (s : Ent) : Prop := (s = snap0 ∧ x nSnap = ([], 0)) ∨ (snapB s.i s.t s.d.length = true ∧ s.i ≠ 0 ∧ x nSnap = (frameL (snapRec s), (frameL (snapRec s)).length))

theorem frameL_ne (r : List UInt8) : frameL r ≠ [] := fun e => by
  have := congrArg List.length e
  rw [frameL_length] at this
  simp at this

section
variable {D : Dsk} {x : View} {φ : Option Nat} {U : Nat}

theorem Dv.snapV (h : Dv D x φ false U) {s : Ent} (hs : Snapped x s) : D.snapV = (s, 0) := by
  unfold Dsk.snapV
  rw [h.read nSnap rightS_snap]
  rcases hs with ⟨rfl, e⟩ | ⟨h1, h2, e⟩
  · rw [e, if_pos rfl]; rfl
  · rw [e, if_neg (frameL_ne _)]
    unfold snapRead
    rw [if_neg (by simp), if_neg (by simp)]
    dsimp only
    rw [snapOf_frame h1 h2]

theorem Snapped.other {x : View} {s : Ent} (h : Snapped x s) {n : ByteArray} (hn : nSnap ≠ n) (v : List UInt8 × Nat) : Snapped (x.set n v) s := by
  unfold Snapped
  rw [View.set_ne _ _ _ _ hn]
  exact h

theorem Snapped.back {x : View} {s : Ent} (h : Snapped x s) (k : ByteArray → Nat) (hk : ∀ n, (x n).2 ≤ k n ∧ k n ≤ (x n).1.length) : Snapped (fun n => ((x n).1.take (k n), k n)) s := by
  have h1 := hk nSnap
  rcases h with ⟨rfl, e⟩ | ⟨h2, h3, e⟩
  · refine .inl ⟨rfl, ?_⟩
    rw [e] at h1
    dsimp only
    rw [e]
    simp at h1 ⊢
    exact h1
  · refine .inr ⟨h2, h3, ?_⟩
    rw [e] at h1
    have h4 : k nSnap = (frameL (snapRec s)).length := Nat.le_antisymm h1.2 h1.1
    dsimp only
    rw [e, h4, List.take_length]

/-- The log's file, cut to its whole frames. -/
theorem Dv.openW (h : Dv D x none false U) (n : ByteArray) (hn : rightS n = true) (hw : (x n).2 = (x n).1.length) :
    (D.openW n).2 = 0 ∧ Dv (D.openW n).1 (x.set n (framesL (scanL (x n).1).1, (framesL (scanL (x n).1).1).length)) none false U := by
  obtain ⟨t1, t2, t3⟩ := h.told n hn
  obtain ⟨s1, s2⟩ := scanL_is (x n).1
  have se := scanL_end (x n).1
  have sl : (framesL (scanL (x n).1).1).length = (scanL (x n).1).2 := by rw [← s1, List.length_take]; omega
  unfold Dsk.openW
  rw [if_neg (by omega), t1, t2]
  by_cases hlt : (scanL (x n).1).2 < (x n).1.length
  · rw [if_pos hlt]
    have h0 : (x n).1 ≠ [] := by intro e; rw [e] at hlt; simp at hlt
    obtain ⟨e1, e2, e3⟩ := h.bytes n
    have e5 : (getF D.l n).1.b.size = (x n).1.length := by rw [e1]; simp [ByteArray.size]
    unfold Dsk.cut
    rw [h.may n n hn hn, if_neg (by simp), if_neg (by rw [(h.has n).2 h0]; simp), if_neg (by omega)]
    have hx := extract_size (getF D.l n).1.b (scanL (x n).1).2 (by omega)
    have hd := h.done { (getF D.l n).1 with b := (getF D.l n).1.b.extract 0 (scanL (x n).1).2, safe := (scanL (x n).1).2 } n (by show (scanL (x n).1).2 ≤ ((getF D.l n).1.b.extract 0 (scanL (x n).1).2).size; omega) (fun _ => by show rightS (getF D.l n).1.name = true; rw [e3]; exact hn) (by show ((getF D.l n).1.b.extract 0 (scanL (x n).1).2).size ≤ _; omega)
    have e6 : ((scanL (x n).1).2 : Int).toNat = (scanL (x n).1).2 := by simp
    rw [e6]
    have e7 : (x.set n ([], 0)).set (getF D.l n).1.name (((getF D.l n).1.b.extract 0 (scanL (x n).1).2).data.toList, (scanL (x n).1).2) = x.set n (framesL (scanL (x n).1).1, (framesL (scanL (x n).1).1).length) := by
      rw [e3, View.set_set, ext_list, e1, sl, ← s1]
      simp
    rw [← e7]
    exact hd
  · rw [if_neg hlt]
    refine ⟨rfl, ?_⟩
    have e : x.set n (framesL (scanL (x n).1).1, (framesL (scanL (x n).1).1).length) = x := by
      refine View.set_id x n _ (Prod.ext ?_ ?_)
      · rw [← s1, List.take_of_length_le (by omega)]
      · rw [hw, sl]; show _ = _; omega
    rw [e]
    exact h

/-- The log is made anew. -/
theorem Dv.reset (h : Dv D x φ false U) (ls : List (List UInt8)) (hr : U + (framesL ls).length ≤ 1048576) :
    Ended (D.reset nWal ls) φ (U + (framesL ls).length) (· = (x.set (next nWal) ([], 0)).set nWal (framesL ls, (framesL ls).length)) (fun y => ∃ v, y = x.set (next nWal) v) :=
  h.replaced nWal _ rightS_wal rightS_walP wal_walP hr

theorem Dv.snapped (h : Dv D x φ false U) (s : Ent) (hr : U + (frameL (snapRec s)).length ≤ 1048576) :
    Ended (D.snapped s) φ (U + (frameL (snapRec s)).length) (· = (x.set (next nSnap) ([], 0)).set nSnap (frameL (snapRec s), (frameL (snapRec s)).length)) (fun y => ∃ v, y = x.set (next nSnap) v) :=
  h.replaced nSnap _ rightS_snap rightS_snapP snap_snapP hr
end

/-- A disk on which a vault is well kept. -/
structure Kept (D : Dsk) (φ : Option Nat) (was : Hd) (s : Ent) (l : List Ent) (U : Nat) (x : View) (ls : List (List UInt8)) : Prop where
  dv : Dv D x φ false U
  snap : Snapped x s
  log : x nWal = (framesL ls, (framesL ls).length)
  fit : fit ls
  tells : tells ls = some (was, l)
  run : runB s.i s.t l = true

section
variable {D : Dsk} {x : View} {φ : Option Nat} {U : Nat} {was : Hd} {s : Ent} {l : List Ent} {ls : List (List UInt8)}

theorem kept_new : Kept ⟨1048576, [], false, 0, false⟩ none hd0 snap0 [] 0 (fun _ => ([], 0)) [] :=
  ⟨dv_new, .inl ⟨rfl, rfl⟩, rfl, (fun r hr => by cases hr), rfl, rfl⟩

theorem Kept.open (k : Kept D φ was s l U x ls) : D.openV = ((D, 0), ⟨was, s, l⟩) := by
  obtain ⟨t1, t2, t3⟩ := k.dv.told nWal rightS_wal
  rw [k.log] at t1 t2
  rw [scanL_all ls k.fit] at t1
  have e : D.openW nWal = (D, 0) := by
    unfold Dsk.openW
    rw [if_neg (by omega), t1, t2, if_neg (Nat.lt_irrefl _)]
  unfold Dsk.openV
  rw [k.dv.snapV k.snap, e, if_neg (by simp), if_neg (by simp), t1]
  unfold openK
  rw [k.tells]
  dsimp only
  rw [behindE_run k.run]
  dsimp only
  rw [if_pos rfl]

/-- Opened behind whatever: what is left of the entries, and the disk is well kept then. -/
theorem open_seen {a : Hd} {all out : List Ent} (h : Dv D x none false U) (hs : Snapped x s) (hw : (x nWal).2 = (x nWal).1.length) (ht : tells (scanL (x nWal).1).1 = some (a, all)) (hb : behindE s all = some out) (hr : U + (framesL (allRecs a out)).length ≤ 1048576) :
    ∃ D' x' ls', D.openV = ((D', 0), ⟨a, s, out⟩) ∧ Kept D' none a s out (U + (framesL (allRecs a out)).length) x' ls' := by
  obtain ⟨t1, t2, t3⟩ := h.told nWal rightS_wal
  obtain ⟨w1, w2⟩ := h.openW nWal rightS_wal hw
  obtain ⟨r1, r2⟩ := tells_right ht
  obtain ⟨b1, b2⟩ := behindE_run' hb
  have hs2 := hs.other snap_wal (framesL (scanL (x nWal).1).1, (framesL (scanL (x nWal).1).1).length)
  have hfit := (scanL_is (x nWal).1).2
  unfold Dsk.openV
  rw [h.snapV hs, if_neg (by simp), if_neg (by rw [w1]; simp), t1]
  generalize D.openW nWal = R at *
  obtain ⟨D1, e1⟩ := R
  dsimp only at *
  unfold openK
  rw [ht]
  dsimp only
  rw [hb]
  dsimp only
  by_cases he : out.length = all.length
  · rw [if_pos he]
    have hoa : out = all := by
      rw [b2]
      rw [b2] at he
      unfold leftE at he ⊢
      split
      · rename_i hc
        rw [if_pos hc] at he
        exact (List.filter_sublist.eq_of_length he)
      · rename_i hc
        rw [if_neg hc] at he
        exact (List.length_eq_zero_iff.1 he.symm).symm
    subst hoa
    exact ⟨D1, _, _, rfl, w2.more (Nat.le_add_right _ _), hs2, View.set_get _ _ _, hfit, ht, b1⟩
  · rw [if_neg he]
    obtain ⟨ψ, lost, y, hd, hh⟩ := w2.reset (allRecs a out) hr
    rcases hh with ⟨k1, rfl, k3, k4⟩ | ⟨_, _, _, k4⟩
    · subst k3
      rw [if_neg (by rw [k1]; simp)]
      have e := k4 rfl
      subst e
      refine ⟨_, _, _, Prod.ext (Prod.ext rfl k1) rfl, hd, (hs2.other snap_walP _).other snap_wal _, View.set_get _ _ _, allRecs_fit fun z hz => r2 z (behindE_mem hb z hz), tells_all r1 b1, b1⟩
    · exact absurd rfl k4

theorem Kept.more (k : Kept D φ was s l U x ls) {V : Nat} (h : U ≤ V) : Kept D φ was s l V x ls := ⟨k.dv.more h, k.snap, k.log, k.fit, k.tells, k.run⟩

theorem Kept.fuse (k : Kept D none was s l U x ls) (n : Nat) : (D.fuse (n : Int)).2 = 0 ∧ Kept (D.fuse (n : Int)).1 (some n) was s l U x ls :=
  ⟨(k.dv.fuse n).1, (k.dv.fuse n).2, k.snap, k.log, k.fit, k.tells, k.run⟩

theorem saveV_is {h : Hd} {more : List Ent} (hh : rightH h = true) (hr : ∀ e ∈ more, rightE e = true) : D.saveV was h more = (D.added nWal (saveRecs was h more), if (D.added nWal (saveRecs was h more)).2 = 0 then h else was) := by
  unfold Dsk.saveV
  rw [if_pos]
  rw [hh, Bool.and_true]
  exact List.all_eq_true.2 hr

/-- What a Save leaves of a disk: all of it, or the power went. -/
theorem Kept.saved (k : Kept D φ was s l U x ls) {h : Hd} {more : List Ent} (hh : rightH h = true) (hrun : runB s.i s.t (l ++ more) = true) (hr : U + (framesL (saveRecs was h more)).length ≤ 1048576) :
    ∃ ψ lost y, Dv (D.saveV was h more).1.1 y ψ lost (U + (framesL (saveRecs was h more)).length) ∧
      (((D.saveV was h more).1.2 = 0 ∧ (D.saveV was h more).2 = h ∧ lost = false ∧ (φ = none → ψ = none) ∧ y = x.set nWal (framesL (ls ++ saveRecs was h more), (framesL (ls ++ saveRecs was h more)).length)) ∨
       ((D.saveV was h more).1.2 = 5 ∧ lost = true ∧ φ ≠ none ∧ (y = x.set nWal (framesL ls ++ framesL (saveRecs was h more), (framesL ls).length) ∨ y = x))) := by
  have hrr : ∀ e ∈ more, rightE e = true := fun e he => run_right hrun e (List.mem_append_right _ he)
  rw [saveV_is hh hrr]
  have hA := k.dv.added nWal (saveRecs was h more) rightS_wal (by rw [k.log]) hr
  rw [k.log] at hA
  rw [← framesL_app] at hA
  obtain ⟨ψ, lost, y, hd, hE⟩ := hA
  refine ⟨ψ, lost, y, hd, ?_⟩
  rcases hE with ⟨h1, h2, h3, h4⟩ | ⟨h1, h2, h3, h4⟩
  · refine .inl ⟨h1, ?_, h2, h4, h3⟩
    dsimp only
    rw [if_pos h1]
  · refine .inr ⟨h1, h2, h4, ?_⟩
    rw [framesL_app] at h3
    exact h3

theorem saved_tells (k : Kept D φ was s l U x ls) {h : Hd} {more : List Ent} (hh : rightH h = true) (hrun : runB s.i s.t (l ++ more) = true) : tells (ls ++ saveRecs was h more) = some (h, l ++ more) := by
  have hrr : ∀ e ∈ more, rightE e = true := fun e he => run_right hrun e (List.mem_append_right _ he)
  obtain ⟨a, j, h1, _, _, _, h5⟩ := tells_saved k.tells h more hh (run_goesOn hrun) hrr (saveRecs was h more).length
  obtain ⟨rfl, rfl⟩ := h5 (Nat.le_refl _)
  rw [List.take_length, List.take_length] at h1
  exact h1

theorem saved_fit (k : Kept D φ was s l U x ls) {h : Hd} {more : List Ent} (hrun : runB s.i s.t (l ++ more) = true) : fit (ls ++ saveRecs was h more) :=
  fit_app k.fit (saveRecs_fit fun e he => run_right hrun e (List.mem_append_right _ he))

/-- Saved with no fuse. -/
theorem Kept.save (k : Kept D none was s l U x ls) {h : Hd} {more : List Ent} (hh : rightH h = true) (hrun : runB s.i s.t (l ++ more) = true) (hr : U + (framesL (saveRecs was h more)).length ≤ 1048576) :
    (D.saveV was h more).1.2 = 0 ∧ (D.saveV was h more).2 = h ∧ ∃ x' ls', Kept (D.saveV was h more).1.1 none h s (l ++ more) (U + (framesL (saveRecs was h more)).length) x' ls' := by
  obtain ⟨ψ, lost, y, hd, hE⟩ := k.saved hh hrun hr
  rcases hE with ⟨h1, h2, rfl, h4, rfl⟩ | ⟨_, _, h3, _⟩
  · obtain rfl := h4 rfl
    exact ⟨h1, h2, _, _, hd, k.snap.other snap_wal _, View.set_get _ _ _, saved_fit k hrun, saved_tells k hh hrun, hrun⟩
  · exact absurd rfl h3

/-- Behind a restart, and opened: what a Save left. -/
theorem Kept.crash_save (k : Kept D φ was s l U x ls) {h : Hd} {more : List Ent} (hh : rightH h = true) (hrun : runB s.i s.t (l ++ more) = true) {V : Nat} (hV : U + (framesL (saveRecs was h more)).length = V) (hr : ∀ a j, V + (framesL (allRecs a (l ++ more.take j))).length ≤ 1048576) (Y : Nat → Int) (len : Nat) :
    ∃ D' a j, ((D.saveV was h more).1.1.restart Y len).openV = ((D', 0), ⟨a, s, l ++ more.take j⟩) ∧ j ≤ more.length ∧ (a = was ∨ a = h) ∧ (0 < j → a = h) ∧ ((D.saveV was h more).1.2 = 0 → a = h ∧ j = more.length) := by
  have hr0 : U + (framesL (saveRecs was h more)).length ≤ 1048576 := by have := hr h 0; omega
  obtain ⟨ψ, lost, y, hd, hE⟩ := k.saved hh hrun hr0
  generalize D.saveV was h more = R at *
  obtain ⟨⟨D1, e1⟩, h1⟩ := R
  dsimp only at *
  rw [hV] at hd
  obtain ⟨q, hq, hd2⟩ := hd.restart Y len
  -- what the log's file is then
  have hy : ∃ m, (framesL ls).length ≤ m ∧ m ≤ (framesL ls ++ framesL (saveRecs was h more)).length ∧ (y nWal).1.take (q nWal) = (framesL ls ++ framesL (saveRecs was h more)).take m ∧ (e1 = 0 → m = (framesL ls ++ framesL (saveRecs was h more)).length) := by
    have hqw := hq nWal
    rcases hE with ⟨a1, a2, a3, a4, rfl⟩ | ⟨a1, a2, a3, rfl | rfl⟩
    · rw [View.set_get] at hqw ⊢
      dsimp only at hqw ⊢
      rw [framesL_app] at hqw ⊢
      rw [List.length_append] at *
      exact ⟨q nWal, by omega, by omega, rfl, fun _ => by omega⟩
    · rw [View.set_get] at hqw ⊢
      dsimp only at hqw ⊢
      rw [List.length_append] at *
      exact ⟨q nWal, by omega, by omega, rfl, fun e => by omega⟩
    · rw [k.log] at hqw ⊢
      dsimp only at hqw ⊢
      have : q nWal = (framesL ls).length := by omega
      rw [this]
      exact ⟨(framesL ls).length, Nat.le_refl _, by rw [List.length_append]; omega, by rw [List.take_length, List.take_left], fun e => by omega⟩
  have hys : Snapped y s := by
    rcases hE with ⟨a1, a2, a3, a4, rfl⟩ | ⟨a1, a2, a3, rfl | rfl⟩
    · exact k.snap.other snap_wal _
    · exact k.snap.other snap_wal _
    · exact k.snap
  obtain ⟨m, m1, m2, m3, m4⟩ := hy
  obtain ⟨a, j, t1, t2, t3, t4, t5, t6⟩ := saves_back k.fit k.tells h more hh hrun m m1 m2
  obtain ⟨D', x', ls', o1, _⟩ := open_seen hd2 (hys.back q hq) (by dsimp only; rw [List.length_take]; have := (hq nWal).2; omega) (by dsimp only; rw [m3]; exact t1) t2 (hr a j)
  exact ⟨D', a, j, o1, t3, t4, t5, fun e => t6 (m4 e)⟩
end
end Go.Proofs.YtmeoooojmhhahaaGreat

namespace Go.Proofs.YtmeoooojmhhahaaGreat
set_option linter.unusedVariables false
set_option linter.unusedSimpArgs false

/- how long records are -/
theorem hardRec_length (h : Hd) : (hardRec h).length = 17 := by unfold hardRec; rw [List.length_cons, hardL_length]
theorem entRec_length (e : Ent) : (entRec e).length = 21 + e.d.length := by unfold entRec; rw [List.length_cons, threeL_length]; omega
theorem ents_length : ∀ (l : List Ent), (framesL (l.map entRec)).length = 29 * l.length + weigh l
  | [] => rfl
  | e :: l => by
    rw [List.map_cons, framesL_cons, List.length_append, frameL_length, entRec_length, ents_length l]
    unfold weigh
    simp
    omega
theorem allRecs_length (h : Hd) (l : List Ent) : (framesL (allRecs h l)).length = 25 + 29 * l.length + weigh l := by
  unfold allRecs
  rw [framesL_cons, List.length_append, frameL_length, hardRec_length, ents_length]
  omega
theorem saveRecs_length (was h : Hd) (l : List Ent) : (framesL (saveRecs was h l)).length ≤ 25 + 29 * l.length + weigh l := by
  unfold saveRecs
  rw [framesL_app, List.length_append, ents_length]
  split
  · simp [framesL]
  · simp [framesL, frameL_length, hardRec_length]; omega
theorem weigh_app (a b : List Ent) : weigh (a ++ b) = weigh a + weigh b := by unfold weigh; simp
theorem weigh_sub {a b : List Ent} (h : a.Sublist b) : weigh a ≤ weigh b := by
  unfold weigh
  induction h with
  | slnil => exact Nat.le_refl _
  | cons x _ ih => simp; omega
  | cons_cons x _ ih => simpa using ih
theorem leftE_sub (s : Ent) (l : List Ent) : (leftE s l).Sublist l := by
  unfold leftE
  split
  · exact List.filter_sublist
  · exact List.nil_sublist _

/-- One call, and behind it another one if it was done. -/
theorem Ended.thn {r : Dsk × Nat} {f : Dsk → Dsk × Nat} {φ : Option Nat} {U V : Nat} {yes no yes2 no2 : View → Prop} (h : Ended r φ U yes no) (hU : U ≤ V) (hno : ∀ y, no y → no2 y)
    (hk : ∀ y ψ, yes y → Dv r.1 y ψ false U → Ended (f r.1) ψ V yes2 no2) : Ended (thn r f) φ V yes2 no2 := by
  obtain ⟨ψ, lost, y, hd, h⟩ := h
  rcases h with ⟨h1, rfl, h3, h4⟩ | ⟨h1, rfl, h3, h4⟩
  · rw [thn_yes h1]
    obtain ⟨χ, lost2, y2, hd2, h⟩ := hk y ψ h3 hd
    refine ⟨χ, lost2, y2, hd2, ?_⟩
    rcases h with ⟨k1, k2, k3, k4⟩ | ⟨k1, k2, k3, k4⟩
    · exact .inl ⟨k1, k2, k3, fun e => k4 (h4 e)⟩
    · exact .inr ⟨k1, k2, k3, fun e => k4 (h4 e)⟩
  · rw [thn_no (by rw [h1]; simp)]
    exact ⟨ψ, true, y, hd.more hU, .inr ⟨h1, rfl, hno y h3, h4⟩⟩

theorem keepOk_parts {h : Hd} {s : Ent} {l : List Ent} (ok : keepOk h s l = true) : snapB s.i s.t s.d.length = true ∧ s.i ≠ 0 ∧ rightH h = true ∧ runB s.i s.t l = true := by
  unfold keepOk at ok
  simp only [Bool.and_eq_true, decide_eq_true_eq] at ok
  exact ⟨ok.1, ok.2.1, ok.2.2.1, ok.2.2.2⟩

section
variable {D : Dsk} {x : View} {φ : Option Nat} {U : Nat} {was : Hd} {s0 : Ent} {l0 : List Ent} {ls : List (List UInt8)}

/-- What the log's file may be when the power went within what is hard. -/
def Half (ls : List (List UInt8)) (was h : Hd) (v : List UInt8 × Nat) : Prop :=
  v = (framesL ls ++ framesL (saveRecs was h []), (framesL ls).length) ∨ v = (framesL ls, (framesL ls).length) ∨ v = (framesL (ls ++ saveRecs was h []), (framesL (ls ++ saveRecs was h [])).length)

/-- What a Keep leaves: all of it, or the power went. -/
theorem Kept.keeps (k : Kept D φ was s0 l0 U x ls) {h : Hd} {s : Ent} {l : List Ent} (ok : keepOk h s l = true) {V : Nat} (hV : V = U + (framesL (saveRecs was h [])).length + (frameL (snapRec s)).length + (framesL (allRecs h l)).length) (hr : V ≤ 1048576) :
    Ended (D.keepV was h s l).1 φ V (fun y => Snapped y s ∧ y nWal = (framesL (allRecs h l), (framesL (allRecs h l)).length) ∧ (D.keepV was h s l).2 = h)
      (fun y => (Snapped y s0 ∧ Half ls was h (y nWal)) ∨ (Snapped y s ∧ y nWal = (framesL (ls ++ saveRecs was h []), (framesL (ls ++ saveRecs was h [])).length))) := by
  obtain ⟨o1, o2, o3, o4⟩ := keepOk_parts ok
  have hrun : runB s0.i s0.t (l0 ++ []) = true := by rw [List.append_nil]; exact k.run
  have hS := k.saved (h := h) (more := []) o3 hrun (by omega)
  unfold Dsk.keepV
  rw [if_pos ok]
  dsimp only
  obtain ⟨ψ, lost, y, hd, hE⟩ := hS
  rcases hE with ⟨h1, h2, rfl, h4, rfl⟩ | ⟨h1, rfl, h3, h4⟩
  · have hA : Ended (D.saveV was h []).1 φ (U + (framesL (saveRecs was h [])).length) (fun y => y = x.set nWal (framesL (ls ++ saveRecs was h []), (framesL (ls ++ saveRecs was h [])).length)) (fun _ => False) :=
      ⟨ψ, false, _, hd, .inl ⟨h1, rfl, rfl, h4⟩⟩
    refine Ended.thn (U := U + (framesL (saveRecs was h [])).length + (frameL (snapRec s)).length) (yes := fun y => y = ((x.set nWal (framesL (ls ++ saveRecs was h []), (framesL (ls ++ saveRecs was h [])).length)).set (next nSnap) ([], 0)).set nSnap (frameL (snapRec s), (frameL (snapRec s)).length)) (no := fun y => Snapped y s0 ∧ Half ls was h (y nWal)) (Ended.thn hA (by omega) (fun _ h => h.elim) fun y ψ hy hd => ?_) (by omega) (fun y hy => .inl hy) fun y ψ hy hd => ?_
    · subst hy
      refine (hd.snapped s (by omega)).mono (Nat.le_refl _) (fun y hy => hy) fun y hy => ?_
      obtain ⟨v, rfl⟩ := hy
      refine ⟨(k.snap.other snap_wal _).other snap_snapP _, ?_⟩
      rw [View.set_ne _ _ _ _ wal_snapP, View.set_get]
      exact .inr (.inr rfl)
    · subst hy
      have hwn : nWal ≠ nSnap := fun e => snap_wal e.symm
      have hse : ∀ (y : View), Snapped (y.set nSnap (frameL (snapRec s), (frameL (snapRec s)).length)) s := fun y => .inr ⟨o1, o2, View.set_get _ _ _⟩
      refine (hd.reset (allRecs h l) (by omega)).mono (by omega) (fun y hy => ?_) fun y hy => ?_
      · subst hy
        exact ⟨((hse _).other snap_walP _).other snap_wal _, View.set_get _ _ _, h2⟩
      · obtain ⟨v, rfl⟩ := hy
        refine .inr ⟨(hse _).other snap_walP _, ?_⟩
        rw [View.set_ne _ _ _ _ wal_walP, View.set_ne _ _ _ _ hwn, View.set_ne _ _ _ _ wal_snapP, View.set_get]
  · rw [thn_no, thn_no (by rw [h1]; simp)]
    · refine ⟨ψ, true, y, hd.more (by omega), .inr ⟨h1, rfl, .inl ?_, h3⟩⟩
      rcases h4 with rfl | rfl
      · exact ⟨k.snap.other snap_wal _, .inl (View.set_get _ _ _)⟩
      · exact ⟨k.snap, .inr (.inl k.log)⟩
    · rw [thn_no (by rw [h1]; simp), h1]; simp

/-- Kept with no fuse. -/
theorem Kept.keep (k : Kept D none was s0 l0 U x ls) {h : Hd} {s : Ent} {l : List Ent} (ok : keepOk h s l = true) {V : Nat} (hV : V = U + (framesL (saveRecs was h [])).length + (frameL (snapRec s)).length + (framesL (allRecs h l)).length) (hr : V ≤ 1048576) :
    (D.keepV was h s l).1.2 = 0 ∧ (D.keepV was h s l).2 = h ∧ ∃ x' ls', Kept (D.keepV was h s l).1.1 none h s l V x' ls' := by
  obtain ⟨o1, o2, o3, o4⟩ := keepOk_parts ok
  obtain ⟨ψ, lost, y, hd, hE⟩ := k.keeps ok hV hr
  rcases hE with ⟨h1, rfl, ⟨h3, h4, h5⟩, h6⟩ | ⟨_, _, _, h4⟩
  · obtain rfl := h6 rfl
    exact ⟨h1, h5, _, _, hd, h3, h4, allRecs_fit (run_right o4), tells_all o3 o4, o4⟩
  · exact absurd rfl h4

/-- Behind a restart, and opened: what a Keep left; the vault is well kept then. -/
theorem Kept.crash_keep (k : Kept D φ was s0 l0 U x ls) {h : Hd} {s : Ent} {l : List Ent} (ok : keepOk h s l = true) {V W : Nat} (hV : V = U + (framesL (saveRecs was h [])).length + (frameL (snapRec s)).length + (framesL (allRecs h l)).length)
    (hl : 25 + 29 * l.length + weigh l ≤ W) (hl0 : 25 + 29 * l0.length + weigh l0 ≤ W) (hr : V + W ≤ 1048576) (hleft : runB s.i s.t (leftE s l0) = true) (Y : Nat → Int) (len : Nat) :
    ∃ D' a b out x' ls', ((D.keepV was h s l).1.1.restart Y len).openV = ((D', 0), ⟨a, b, out⟩) ∧ Kept D' none a b out (V + W) x' ls' ∧
      (((D.keepV was h s l).1.2 = 0 ∧ a = h ∧ b = s ∧ out = l) ∨ ((D.keepV was h s l).1.2 = 5 ∧ ((b = s0 ∧ out = l0 ∧ (a = was ∨ a = h)) ∨ (b = s ∧ out = leftE s l0 ∧ a = h)))) := by
  obtain ⟨o1, o2, o3, o4⟩ := keepOk_parts ok
  obtain ⟨ψ, lost, y, hd, hE⟩ := k.keeps ok hV (by omega)
  have hrun : runB s0.i s0.t (l0 ++ []) = true := by rw [List.append_nil]; exact k.run
  have hst := saved_tells k (h := h) (more := []) o3 hrun
  have hsf := saved_fit k (h := h) (more := []) hrun
  rw [List.append_nil] at hst
  generalize D.keepV was h s l = R at *
  obtain ⟨⟨D1, e1⟩, h1⟩ := R
  dsimp only at *
  obtain ⟨q, hq, hd2⟩ := hd.restart Y len
  have hw : ((y nWal).1.take (q nWal), q nWal).2 = ((y nWal).1.take (q nWal), q nWal).1.length := by dsimp only; rw [List.length_take]; have := (hq nWal).2; omega
  have hqw := hq nWal
  rcases hE with ⟨a1, _, ⟨a3, a4, a5⟩, _⟩ | ⟨a1, _, ⟨a3, a4⟩ | ⟨a3, a4⟩, _⟩
  · have e : (y nWal).1.take (q nWal) = framesL (allRecs h l) := by
      rw [a4] at hqw ⊢
      dsimp only at hqw ⊢
      rw [List.take_of_length_le (by omega)]
    obtain ⟨D', x', ls', p1, p2⟩ := open_seen (out := l) hd2 (a3.back q hq) hw (by dsimp only; rw [e, scanL_all _ (allRecs_fit (run_right o4))]; exact tells_all o3 o4) (behindE_run o4) (by rw [allRecs_length]; omega)
    exact ⟨D', h, s, l, x', ls', p1, p2.more (by rw [allRecs_length]; omega), .inl ⟨a1, rfl, rfl, rfl⟩⟩
  · have hy : ∃ m, (framesL ls).length ≤ m ∧ m ≤ (framesL ls ++ framesL (saveRecs was h [])).length ∧ (y nWal).1.take (q nWal) = (framesL ls ++ framesL (saveRecs was h [])).take m := by
      rcases a4 with a4 | a4 | a4
      · rw [a4] at hqw ⊢
        exact ⟨q nWal, hqw.1, hqw.2, rfl⟩
      · rw [a4] at hqw ⊢
        dsimp only at hqw ⊢
        refine ⟨(framesL ls).length, Nat.le_refl _, by rw [List.length_append]; omega, ?_⟩
        rw [List.take_of_length_le (by omega), List.take_left]
      · rw [a4] at hqw ⊢
        rw [framesL_app] at hqw ⊢
        dsimp only at hqw ⊢
        exact ⟨q nWal, by rw [List.length_append] at hqw; omega, hqw.2, rfl⟩
    obtain ⟨m, m1, m2, m3⟩ := hy
    obtain ⟨a, j, t1, t2, t3, t4, t5, t6⟩ := saves_back k.fit k.tells h [] o3 hrun m m1 m2
    have e0 : l0 ++ ([] : List Ent).take j = l0 := by rw [List.take_nil, List.append_nil]
    rw [e0] at t1 t2
    obtain ⟨D', x', ls', p1, p2⟩ := open_seen (out := l0) hd2 (a3.back q hq) hw (by dsimp only; rw [m3]; exact t1) t2 (by rw [allRecs_length]; omega)
    exact ⟨D', a, s0, l0, x', ls', p1, p2.more (by rw [allRecs_length]; omega), .inr ⟨a1, .inl ⟨rfl, rfl, t4⟩⟩⟩
  · have e : (y nWal).1.take (q nWal) = framesL (ls ++ saveRecs was h []) := by
      rw [a4] at hqw ⊢
      dsimp only at hqw ⊢
      rw [List.take_of_length_le (by omega)]
    have hb : behindE s l0 = some (leftE s l0) := by unfold behindE; rw [if_pos hleft]
    have hlen := (leftE_sub s l0).length_le
    have hwei := weigh_sub (leftE_sub s l0)
    obtain ⟨D', x', ls', p1, p2⟩ := open_seen hd2 (a3.back q hq) hw (by dsimp only; rw [e, scanL_all _ hsf]; exact hst) hb (by rw [allRecs_length]; omega)
    exact ⟨D', h, s, leftE s l0, x', ls', p1, p2.more (by rw [allRecs_length]; omega), .inr ⟨a1, .inr ⟨rfl, rfl, rfl⟩⟩⟩
end
end Go.Proofs.YtmeoooojmhhahaaGreat
