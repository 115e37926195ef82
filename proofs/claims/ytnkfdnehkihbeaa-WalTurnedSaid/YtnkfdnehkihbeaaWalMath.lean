/- Frames of records, and what is read of bytes. Plain mathematics. -/
import Derived.Test.YtnkfdnehkihbeaaWide
import Derived.Test.YtnkfdnehkihbeaaSumMath
namespace Go.Proofs.Ytnkfdnehkihbeaa
set_option linter.unusedVariables false

/-- A record's sum: of how long it is, and of it. -/
def sumL (r : List UInt8) : Nat := moreN (moreN 0 (wide r.length 4)) r

/-- A record's frame. -/
def frameL (r : List UInt8) : List UInt8 := wide r.length 4 ++ (wide (sumL r) 4 ++ r)

theorem frameL_length (r : List UInt8) : (frameL r).length = r.length + 8 := by simp [frameL]; omega

theorem sumL_lt (r : List UInt8) : sumL r < 4294967296 := moreN_lt _ _ (moreN_lt _ _ (by omega))

def framesL (l : List (List UInt8)) : List UInt8 := l.flatMap frameL

theorem framesL_nil : framesL [] = [] := rfl
theorem framesL_cons (r : List UInt8) (l : List (List UInt8)) : framesL (r :: l) = frameL r ++ framesL l := rfl
theorem framesL_app (a b : List (List UInt8)) : framesL (a ++ b) = framesL a ++ framesL b := List.flatMap_append

/-- The record with whose frame bytes begin. -/
def scan1 (b : List UInt8) : Option (List UInt8) :=
  if b.length < 8 then none else
  if 60000 < num (b.take 4) ∨ b.length - 8 < num (b.take 4) then none else
  if frameL ((b.drop 8).take (num (b.take 4))) = b.take (8 + num (b.take 4)) then some ((b.drop 8).take (num (b.take 4))) else none

theorem take4_frame (r rest : List UInt8) : (frameL r ++ rest).take 4 = wide r.length 4 := by
  unfold frameL
  rw [List.append_assoc, List.take_append_of_le_length (by simp), List.take_of_length_le (by simp)]

theorem num_len (n : Nat) (h : n ≤ 60000) : num (wide n 4) = n := by rw [num_wide]; omega

theorem drop8_frame (r rest : List UInt8) : (frameL r ++ rest).drop 8 = r ++ rest := by
  unfold frameL
  rw [List.append_assoc, List.append_assoc, ← List.append_assoc, List.drop_append]
  simp

theorem scan1_frame (r rest : List UInt8) (h : r.length ≤ 60000) : scan1 (frameL r ++ rest) = some r := by
  have hl := frameL_length r
  unfold scan1
  rw [take4_frame, num_len _ h, drop8_frame]
  rw [if_neg (by rw [List.length_append]; omega), if_neg (by rw [List.length_append]; omega)]
  have e1 : (r ++ rest).take r.length = r := by simp
  have e2 : (frameL r ++ rest).take (8 + r.length) = frameL r := by
    rw [List.take_append_of_le_length (by omega), List.take_of_length_le (by omega)]
  rw [e1, e2, if_pos rfl]

theorem scan1_some {b r : List UInt8} (h : scan1 b = some r) : b = frameL r ++ b.drop (r.length + 8) ∧ r.length ≤ 60000 := by
  unfold scan1 at h
  split at h
  · cases h
  · rename_i h8
    split at h
    · cases h
    · rename_i hn
      split at h
      · rename_i he
        injection h with h
        have hlen : r.length = num (b.take 4) := by
          rw [← h, List.length_take, List.length_drop]
          omega
        refine ⟨?_, by omega⟩
        rw [h] at he
        rw [hlen, he, Nat.add_comm, List.take_append_drop]
      · cases h

theorem scan1_none_of {b : List UInt8} (h : ∀ r rest, r.length ≤ 60000 → b ≠ frameL r ++ rest) : scan1 b = none := by
  cases hs : scan1 b with
  | none => rfl
  | some r =>
    obtain ⟨e, hl⟩ := scan1_some hs
    exact absurd e (h _ _ hl)

/-- A frame that is cut off is none. -/
theorem scan1_cut (r : List UInt8) (k : Nat) (hk : k < r.length + 8) (h : r.length ≤ 60000) : scan1 ((frameL r).take k) = none := by
  have hl := frameL_length r
  have hlen : ((frameL r).take k).length = k := by rw [List.length_take]; omega
  unfold scan1
  rw [hlen]
  by_cases h8 : k < 8
  · rw [if_pos h8]
  · rw [if_neg h8]
    have e : ((frameL r).take k).take 4 = wide r.length 4 := by
      rw [List.take_take, show min 4 k = 4 by omega]
      have := take4_frame r []
      rwa [List.append_nil] at this
    rw [e, num_len _ h, if_pos (by omega)]

/-- The records of all whole frames, and where they end. -/
def scanG : Nat → List UInt8 → List (List UInt8) × Nat
  | 0, _ => ([], 0)
  | g + 1, b => match scan1 b with
    | none => ([], 0)
    | some r => (r :: (scanG g (b.drop (r.length + 8))).1, r.length + 8 + (scanG g (b.drop (r.length + 8))).2)

def scanL (b : List UInt8) : List (List UInt8) × Nat := scanG b.length b

theorem scanG_more : ∀ (g h : Nat) (b : List UInt8), b.length ≤ g → b.length ≤ h → scanG g b = scanG h b
  | 0, 0, _, _, _ => rfl
  | 0, h + 1, b, hg, _ => by
    have : b = [] := List.eq_nil_of_length_eq_zero (by omega)
    subst this
    rfl
  | g + 1, 0, b, _, hh => by
    have : b = [] := List.eq_nil_of_length_eq_zero (by omega)
    subst this
    rfl
  | g + 1, h + 1, b, hg, hh => by
    unfold scanG
    cases hs : scan1 b with
    | none => rfl
    | some r =>
      have := scan1_some hs
      have hl : (b.drop (r.length + 8)).length ≤ b.length - 8 := by rw [List.length_drop]; omega
      have h8 : 8 ≤ b.length := by
        have := congrArg List.length this.1
        rw [List.length_append, frameL_length] at this
        omega
      dsimp only
      rw [scanG_more g h _ (by omega) (by omega)]

theorem scanL_none {b : List UInt8} (h : scan1 b = none) : scanL b = ([], 0) := by
  unfold scanL
  cases hb : b.length with
  | zero => rfl
  | succ n => unfold scanG; rw [h]

theorem scanL_some {b r : List UInt8} (h : scan1 b = some r) : scanL b = (r :: (scanL (b.drop (r.length + 8))).1, r.length + 8 + (scanL (b.drop (r.length + 8))).2) := by
  have := scan1_some h
  have h8 : 8 ≤ b.length := by
    have := congrArg List.length this.1
    rw [List.length_append, frameL_length] at this
    omega
  obtain ⟨n, hn⟩ : ∃ n, b.length = n + 1 := ⟨b.length - 1, by omega⟩
  unfold scanL
  rw [hn]
  conv => lhs; unfold scanG
  rw [h]
  dsimp only
  rw [scanG_more n (b.drop (r.length + 8)).length _ (by rw [List.length_drop]; omega) (Nat.le_refl _)]

theorem scanL_nil : scanL [] = ([], 0) := rfl

def fit (l : List (List UInt8)) : Prop := ∀ r ∈ l, r.length ≤ 60000

theorem fit_cons {r : List UInt8} {l : List (List UInt8)} (h : fit (r :: l)) : r.length ≤ 60000 ∧ fit l :=
  ⟨h r List.mem_cons_self, fun x hx => h x (List.mem_cons_of_mem _ hx)⟩

theorem scanL_frames (l : List (List UInt8)) (h : fit l) (rest : List UInt8) : scanL (framesL l ++ rest) = (l ++ (scanL rest).1, (framesL l).length + (scanL rest).2) := by
  induction l with
  | nil => simp [framesL]
  | cons r l ih =>
    obtain ⟨h1, h2⟩ := fit_cons h
    rw [framesL_cons, List.append_assoc, scanL_some (scan1_frame r _ h1)]
    have e : (frameL r ++ (framesL l ++ rest)).drop (r.length + 8) = framesL l ++ rest := by
      rw [← frameL_length r]; simp
    rw [e, ih h2, List.length_append, frameL_length]
    simp only [List.cons_append, Nat.add_assoc]

theorem scanL_all (l : List (List UInt8)) (h : fit l) : scanL (framesL l) = (l, (framesL l).length) := by
  have := scanL_frames l h []
  rw [List.append_nil, scanL_nil, List.append_nil, Nat.add_zero] at this
  exact this

/-- Of frames that are cut off the first ones are told. -/
theorem scanL_cut (l : List (List UInt8)) (h : fit l) : ∀ k, k ≤ (framesL l).length → ∃ j, j ≤ l.length ∧ scanL ((framesL l).take k) = (l.take j, (framesL (l.take j)).length) ∧ (framesL (l.take j)).length ≤ k ∧ (k = (framesL l).length → j = l.length) := by
  induction l with
  | nil => intro k hk; exact ⟨0, Nat.le_refl _, by simp [framesL, scanL_nil], by simp [framesL], fun _ => rfl⟩
  | cons r l ih =>
    intro k hk
    obtain ⟨h1, h2⟩ := fit_cons h
    rw [framesL_cons, List.length_append, frameL_length] at hk
    rw [framesL_cons]
    by_cases hkr : k < r.length + 8
    · refine ⟨0, Nat.zero_le _, ?_, by simp [framesL], fun e => by rw [List.length_append, frameL_length] at e; omega⟩
      have e : (frameL r ++ framesL l).take k = (frameL r).take k := List.take_append_of_le_length (by rw [frameL_length]; omega)
      rw [e, scanL_none (scan1_cut r k hkr h1)]
      rfl
    · obtain ⟨j, hj, hs, hle, hall⟩ := ih h2 (k - (r.length + 8)) (by omega)
      have e : (frameL r ++ framesL l).take k = frameL r ++ (framesL l).take (k - (r.length + 8)) := by
        rw [List.take_append, frameL_length, List.take_of_length_le (by rw [frameL_length]; omega)]
      refine ⟨j + 1, by simpa using hj, ?_, ?_, fun e => ?_⟩
      · rw [e, scanL_some (scan1_frame r _ h1)]
        have e2 : (frameL r ++ (framesL l).take (k - (r.length + 8))).drop (r.length + 8) = (framesL l).take (k - (r.length + 8)) := by
          rw [← frameL_length r]; simp
        rw [e2, hs, List.take_succ_cons, framesL_cons, List.length_append, frameL_length]
      · rw [List.take_succ_cons, framesL_cons, List.length_append, frameL_length]; omega
      · rw [List.length_append, frameL_length] at e
        rw [hall (by omega)]
        rfl

theorem scanL_end (b : List UInt8) : (scanL b).2 ≤ b.length := by
  suffices ∀ n (b : List UInt8), b.length ≤ n → (scanL b).2 ≤ b.length from this b.length b (Nat.le_refl _)
  intro n
  induction n with
  | zero =>
    intro b hb
    have : b = [] := List.eq_nil_of_length_eq_zero (by omega)
    subst this
    exact Nat.le_refl _
  | succ n ih =>
    intro b hb
    cases hs : scan1 b with
    | none => rw [scanL_none hs]; exact Nat.zero_le _
    | some r =>
      obtain ⟨e, _⟩ := scan1_some hs
      have hlen := congrArg List.length e
      rw [List.length_append, frameL_length] at hlen
      have := ih (b.drop (r.length + 8)) (by rw [List.length_drop]; omega)
      rw [scanL_some hs]
      rw [List.length_drop] at this
      dsimp only
      omega

/-- What the scan told is what stands there. -/
theorem scanL_is (b : List UInt8) : b.take (scanL b).2 = framesL (scanL b).1 ∧ fit (scanL b).1 := by
  suffices ∀ n (b : List UInt8), b.length ≤ n → b.take (scanL b).2 = framesL (scanL b).1 ∧ fit (scanL b).1 from this b.length b (Nat.le_refl _)
  intro n
  induction n with
  | zero =>
    intro b hb
    have : b = [] := List.eq_nil_of_length_eq_zero (by omega)
    subst this
    exact ⟨rfl, fun r hr => by cases hr⟩
  | succ n ih =>
    intro b hb
    cases hs : scan1 b with
    | none => rw [scanL_none hs]; exact ⟨rfl, fun r hr => by cases hr⟩
    | some r =>
      obtain ⟨e, hr⟩ := scan1_some hs
      have hlen := congrArg List.length e
      rw [List.length_append, frameL_length] at hlen
      obtain ⟨h1, h2⟩ := ih (b.drop (r.length + 8)) (by rw [List.length_drop]; omega)
      rw [scanL_some hs]
      refine ⟨?_, fun x hx => ?_⟩
      · dsimp only
        have e2 : ∀ m, b.take (r.length + 8 + m) = frameL r ++ (b.drop (r.length + 8)).take m := fun m => by
          conv => lhs; rw [e]
          rw [List.take_append, frameL_length, List.take_of_length_le (by rw [frameL_length]; omega), Nat.add_sub_cancel_left]
        rw [framesL_cons, ← h1, e2]
      · rcases List.mem_cons.1 hx with rfl | hx
        · exact hr
        · exact h2 x hx

end Go.Proofs.Ytnkfdnehkihbeaa
