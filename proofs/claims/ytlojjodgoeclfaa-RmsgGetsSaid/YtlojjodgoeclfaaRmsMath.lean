/- Messages: which are right, which are alike. Plain mathematics. -/
import Derived.Test.YtlojjodgoeclfaaEntMath
import Derived.Test.YtlojjodgoeclfaaEntRow
namespace Go.Proofs.Ytlojjodgoeclfaa
set_option linter.unusedVariables false
set_option linter.unusedSimpArgs false

/-- A message: its kind, from, to, term, index, the log's term, commit, ctx, whether ok, entries, snap. -/
structure Msg where
  k : Int
  f : Int
  o : Int
  t : Int
  i : Int
  l : Int
  c : Int
  x : Int
  b : Bool
  es : List Ent
  s : Ent

def Msg.zero : Msg := ⟨0, 0, 0, 0, 0, 0, 0, 0, false, [], ⟨0, 0, []⟩⟩

def numZ (n : Int) : Bool := decide (0 ≤ n) && decide (n ≤ 1099511627776)

/-- Kind, from, to, and that a term is there. -/
def headB (k f o t : Int) : Bool := decide (1 ≤ k) && (decide (k ≤ 7) && (decide (0 ≤ f) && (decide (f ≤ 2) && (decide (0 ≤ o) && (decide (o ≤ 2) && (decide (f ≠ o) && decide (1 ≤ t)))))))

theorem headB_iff (k f o t : Int) : headB k f o t = true ↔ 1 ≤ k ∧ k ≤ 7 ∧ 0 ≤ f ∧ f ≤ 2 ∧ 0 ≤ o ∧ o ≤ 2 ∧ f ≠ o ∧ 1 ≤ t := by
  simp [headB]

theorem numZ_iff (n : Int) : numZ n = true ↔ 0 ≤ n ∧ n ≤ 1099511627776 := by simp [numZ]

/-- Is all zero that its kind hasn't? -/
def bareB (k i l c x : Int) (b : Bool) (n : Nat) (si st : Int) (sn : Nat) : Bool :=
  (decide (k = 1 ∨ k = 3 ∨ k = 5 ∨ k = 6) || decide (i = 0)) && ((decide (k = 1 ∨ k = 3 ∨ k = 5) || decide (l = 0)) && ((decide (k = 5) || (decide (c = 0) && decide (n = 0))) &&
    ((decide (k = 5 ∨ k = 6) || decide (x = 0)) && ((decide (k = 2 ∨ k = 4 ∨ k = 6) || !b) && (decide (k = 7) || (decide (si = 0) && (decide (st = 0) && decide (sn = 0))))))))

/-- The document's five numbers, and that the message is bare. -/
def numsB (t i l c x : Int) : Bool := numZ t && (numZ i && (numZ l && (numZ c && numZ x)))

def lateB (t : Int) (es : List Ent) : Bool := es.all fun e => decide (e.t ≤ t)

def wholeB (k : Int) (si st : Int) (sn : Nat) : Bool := decide (k ≠ 7) || (snapB si st sn && decide (0 < si))

/-- May a message be? -/
def rightM (m : Msg) : Bool :=
  headB m.k m.f m.o m.t && ((numsB m.t m.i m.l m.c m.x && bareB m.k m.i m.l m.c m.x m.b m.es.length m.s.i m.s.t m.s.d.length) &&
    ((decide (m.es.length ≤ 4) && runB m.i m.l m.es) && (lateB m.t m.es && wholeB m.k m.s.i m.s.t m.s.d.length)))

/-- Are two alike? -/
def sameM (a b : Msg) : Bool :=
  decide (a.k = b.k) && (decide (a.f = b.f) && (decide (a.o = b.o) && (decide (a.t = b.t) && (decide (a.i = b.i) && (decide (a.l = b.l) && (decide (a.c = b.c) && (decide (a.x = b.x) && (decide (a.b = b.b) &&
    (sameE a.es b.es && oneB a.s.i a.s.t a.s.d b.s.i b.s.t b.s.d)))))))))

/-- What the program asks. -/
def bareM (m : Msg) : Msg :=
  if m.k = 1 ∨ m.k = 3 then { m with i := 0, l := 0 }
  else if m.k = 2 ∨ m.k = 4 then { m with b := false }
  else if m.k = 5 then { m with i := 0, l := 0, c := 0, x := 0, es := [] }
  else if m.k = 6 then { m with b := false, i := 0, x := 0 }
  else if m.k = 7 then { m with s := ⟨0, 0, []⟩ }
  else m

def headM (m : Msg) : Msg := ⟨m.k, m.f, m.o, m.t, 0, 0, 0, 0, false, [], ⟨0, 0, []⟩⟩

def lastB (t : Int) (es : List Ent) : Bool := decide (es.length = 0) || decide ((es[es.length - 1]?.map Ent.t).getD 0 ≤ t)

def listB (t i l : Int) (es : List Ent) : Bool := decide (es.length ≤ 4) && (runB i l es && lastB t es)

def snapOk (k si st : Int) (sn : Nat) : Bool := snapB si st sn && (decide (k ≠ 7) || decide (0 < si))

def rightP (m : Msg) : Bool :=
  (headB m.k m.f m.o m.t && decide (m.t ≤ 1099511627776)) && ((numZ m.i && (numZ m.l && (numZ m.c && numZ m.x))) && (listB m.t m.i m.l m.es && (snapOk m.k m.s.i m.s.t m.s.d.length && sameM (bareM m) (headM m))))

theorem sameE_nil (es : List Ent) : sameE es [] = decide (es.length = 0) := by
  cases es with
  | nil => rfl
  | cons e r => simp [sameE]

theorem oneB_zero (i t : Int) (d : List UInt8) : oneB i t d 0 0 [] = (decide (i = 0) && (decide (t = 0) && decide (d.length = 0))) := by
  unfold oneB
  cases d <;> simp

theorem sameM_refl (m : Msg) : sameM m m = true := by
  simp [sameM, sameE_refl, oneB_refl]

theorem bare_same (m : Msg) (h1 : 1 ≤ m.k) (h2 : m.k ≤ 7) : sameM (bareM m) (headM m) = bareB m.k m.i m.l m.c m.x m.b m.es.length m.s.i m.s.t m.s.d.length := by
  obtain ⟨k, f, o, t, i, l, c, x, b, es, si, st, sd⟩ := m
  dsimp only at *
  rcases (show k = 1 ∨ k = 2 ∨ k = 3 ∨ k = 4 ∨ k = 5 ∨ k = 6 ∨ k = 7 by omega) with rfl | rfl | rfl | rfl | rfl | rfl | rfl <;>
    cases b <;> simp [sameM, bareM, headM, bareB, sameE_nil, oneB_zero] <;> simp only [Bool.and_assoc, Bool.and_comm, Bool.and_left_comm]

theorem runB_at {i t : Int} {es : List Ent} (h : runB i t es = true) (k : Nat) (hk : k < es.length) : stepB i t es k = true :=
  List.all_eq_true.1 h k (List.mem_range.2 hk)

theorem run_up {i t : Int} {es : List Ent} (h : runB i t es = true) : ∀ (d j : Nat) (hj : j + d < es.length), (es[j]'(by omega)).t ≤ es[j + d].t
  | 0, j, hj => Int.le_refl _
  | d + 1, j, hj => by
    have h1 := run_up h d j (by omega)
    have h2 := runB_at h (j + d + 1) (by omega)
    rw [stepB_at i t es (j + d + 1) (by omega)] at h2
    simp only [Bool.and_eq_true, decide_eq_true_eq] at h2
    have h3 := (prev_next i t es (j + d) (by omega)).2
    rw [h3] at h2
    have h4 := h2.2.1
    exact Int.le_trans h1 h4

theorem late_last (t i l : Int) (es : List Ent) (h : runB i l es = true) : lastB t es = lateB t es := by
  apply Bool.eq_iff_iff.2
  unfold lastB lateB
  constructor
  · intro hq
    rw [List.all_eq_true]
    intro e he
    obtain ⟨j, hj, rfl⟩ := List.getElem_of_mem he
    rw [Bool.or_eq_true, decide_eq_true_eq, decide_eq_true_eq] at hq
    rcases hq with hq | hq
    · omega
    · rw [List.getElem?_eq_getElem (by omega)] at hq
      have hu := run_up h (es.length - 1 - j) j (by omega)
      have e2 : j + (es.length - 1 - j) = es.length - 1 := by omega
      have hu2 : es[j].t ≤ (es[es.length - 1]'(by omega)).t := by simpa only [e2] using hu
      have hq2 : (es[es.length - 1]'(by omega)).t ≤ t := hq
      exact decide_eq_true (Int.le_trans hu2 hq2)
  · intro hq
    rw [List.all_eq_true] at hq
    rw [Bool.or_eq_true, decide_eq_true_eq, decide_eq_true_eq]
    by_cases h0 : es.length = 0
    · exact .inl h0
    · right
      rw [List.getElem?_eq_getElem (by omega)]
      exact of_decide_eq_true (hq _ (List.getElem_mem _))

theorem right_eq (m : Msg) : rightP m = rightM m := by
  unfold rightP rightM
  cases hh : headB m.k m.f m.o m.t with
  | false => simp
  | true =>
    have hk := (headB_iff _ _ _ _).1 hh
    rw [bare_same m hk.1 hk.2.1]
    unfold listB snapOk wholeB numsB
    have ht : numZ m.t = decide (m.t ≤ 1099511627776) := by unfold numZ; rw [decide_eq_true (by omega), Bool.true_and]
    rw [ht]
    cases hr : runB m.i m.l m.es with
    | false => simp
    | true =>
      rw [late_last m.t m.i m.l m.es hr]
      by_cases h7 : m.k = 7
      · simp only [h7]
        simp only [ne_eq, not_true_eq_false, decide_false, Bool.false_or, Bool.true_and, Bool.and_true]
        simp only [Bool.and_assoc, Bool.and_comm, Bool.and_left_comm]
      · -- a message of another kind has no snap
        have e7 : decide (m.k ≠ 7) = true := decide_eq_true h7
        rw [e7]
        simp only [Bool.true_or, Bool.true_and, Bool.and_true]
        cases hb : bareB m.k m.i m.l m.c m.x m.b m.es.length m.s.i m.s.t m.s.d.length with
        | false => simp
        | true =>
          have hs : snapB m.s.i m.s.t m.s.d.length = true := by
            unfold bareB at hb
            simp only [Bool.and_eq_true, Bool.or_eq_true, decide_eq_true_eq] at hb
            have := hb.2.2.2.2.2
            rcases this with q | q
            · exact absurd q h7
            · unfold snapB
              rw [if_pos ⟨q.1, q.2.1⟩]
              exact decide_eq_true q.2.2
          rw [hs]
          simp only [Bool.true_and, Bool.and_true]
          simp only [Bool.and_assoc, Bool.and_comm, Bool.and_left_comm]

end Go.Proofs.Ytlojjodgoeclfaa
