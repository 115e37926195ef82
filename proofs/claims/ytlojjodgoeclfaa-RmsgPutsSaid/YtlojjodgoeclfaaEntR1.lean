/- The document's number, Right, Hard, Snap, each by its contract. -/
import Derived.Test.YtlojjodgoeclfaaEntMath
import Derived.Test.YtlojjodgoeclfaaCmn
import Derived.BigQuiet
import Derived.Lib.Hide
namespace Go.Proofs.Ytlojjodgoeclfaa
open Go.RowKit
set_option linter.unusedVariables false
set_option linter.unusedSimpArgs false

abbrev entV (i t : Int) (A : Option Addr) (n c : Nat) : Value := .agg #[.int .i64 i, .int .i64 t, .slice A n c]

theorem le_lit (n m : Nat) (z : Int) (h : z = (m : Int)) : decide ((n : Int) ≤ z) = decide (n ≤ m) := by
  subst h
  apply Bool.eq_iff_iff.2
  simp

theorem eq_zero (n : Nat) : ((n : Int) == 0) = decide (n = 0) := by
  apply Bool.eq_iff_iff.2
  simp

theorem numR_is (n : Int) (w : World) : Calls Try.prog 62 #[.int .i64 n] w fun e w' => e = .returned (.bool (numB n)) ∧ w = w' := by
  unfold numB
  by_cases h1 : 1 ≤ n
  · have e1 : decide (1 ≤ n) = true := decide_eq_true h1
    rw [e1, Bool.true_and]
    go_enter Try.func62, Try.ntmps62
    go_wp2
    go_ret
    exact ⟨rfl, rfl⟩
  · have e1 : decide (1 ≤ n) = false := decide_eq_false h1
    have e2 : (1 ≤ n) = False := eq_false h1
    rw [e1, Bool.false_and]
    clear h1
    go_enter Try.func62, Try.ntmps62
    go_wp2
    go_ret
    exact ⟨rfl, rfl⟩

theorem rightR_is (i t : Int) (A : Option Addr) (n c : Nat) (w : World) : Calls Try.prog 61 #[entV i t A n c] w fun e w' => e = .returned (.bool (rightB i t n)) ∧ Below w.heap.size w w' := by
  have hi := fun W => numR_is i W
  have ht := fun W => numR_is t W
  have hb : Below w.heap.size w (w.alloc (.cells #[.int .i64 i, .int .i64 t, .slice A n c] 58)) := (Below.refl _ _).alloc (Nat.le_refl _) _
  unfold rightB
  generalize numB i = bi at *
  generalize numB t = bt at *
  cases bi with
  | false =>
    go_enter Try.func61, Try.ntmps61
    go_wp2_with fail
    refine (hi _).mono ?_
    rintro e w1 ⟨rfl, rfl⟩
    go_wp2
    go_ret
    exact ⟨rfl, hb⟩
  | true =>
    cases bt with
    | false =>
      go_enter Try.func61, Try.ntmps61
      go_wp2_with fail
      refine (hi _).mono ?_
      rintro e w1 ⟨rfl, rfl⟩
      go_wp2_with fail
      refine (ht _).mono ?_
      rintro e w1 ⟨rfl, rfl⟩
      go_wp2
      go_ret
      exact ⟨rfl, hb⟩
    | true =>
      go_enter Try.func61, Try.ntmps61
      go_wp2_with fail
      refine (hi _).mono ?_
      rintro e w1 ⟨rfl, rfl⟩
      go_wp2_with fail
      refine (ht _).mono ?_
      rintro e w1 ⟨rfl, rfl⟩
      go_wp2
      go_ret
      refine ⟨?_, hb⟩
      show Ending.returned (.bool (decide ((n : Int) ≤ 12000))) = _
      rw [le_lit n 12000 12000 rfl]
      rfl

theorem snapR_is (i t : Int) (A : Option Addr) (n c : Nat) (w : World) : Calls Try.prog 33 #[entV i t A n c] w fun e w' => e = .returned (.bool (snapB i t n)) ∧ Below w.heap.size w w' := by
  have hi := fun W => numR_is i W
  have ht := fun W => numR_is t W
  have hb : Below w.heap.size w (w.alloc (.cells #[.int .i64 i, .int .i64 t, .slice A n c] 25)) := (Below.refl _ _).alloc (Nat.le_refl _) _
  unfold snapB
  by_cases h0 : i = 0 ∧ t = 0
  · rw [if_pos h0]
    obtain ⟨rfl, rfl⟩ := h0
    clear hi ht
    go_enter Try.func33, Try.ntmps33
    go_wp2
    go_ret
    refine ⟨?_, hb⟩
    show Ending.returned (.bool ((n : Int) == 0)) = _
    rw [eq_zero]
  · rw [if_neg h0]
    generalize numB i = bi at *
    generalize numB t = bt at *
    have hif : (i == 0) = false ∨ (i = 0 ∧ (t == 0) = false ∧ (t = 0) = False) := by
      by_cases h : i = 0
      · refine .inr ⟨h, ?_, eq_false fun e => h0 ⟨h, e⟩⟩
        exact beq_eq_false_iff_ne.2 fun e => h0 ⟨h, e⟩
      · exact .inl (beq_eq_false_iff_ne.2 h)
    clear h0
    rcases hif with hif | ⟨rfl, htf, htf2⟩
    all_goals
      cases bi
      · go_enter Try.func33, Try.ntmps33
        go_wp2_with fail
        refine (hi _).mono ?_
        rintro e w1 ⟨rfl, rfl⟩
        go_wp2
        go_ret
        exact ⟨rfl, hb⟩
      · cases bt
        · go_enter Try.func33, Try.ntmps33
          go_wp2_with fail
          refine (hi _).mono ?_
          rintro e w1 ⟨rfl, rfl⟩
          go_wp2_with fail
          refine (ht _).mono ?_
          rintro e w1 ⟨rfl, rfl⟩
          go_wp2
          go_ret
          exact ⟨rfl, hb⟩
        · go_enter Try.func33, Try.ntmps33
          go_wp2_with fail
          refine (hi _).mono ?_
          rintro e w1 ⟨rfl, rfl⟩
          go_wp2_with fail
          refine (ht _).mono ?_
          rintro e w1 ⟨rfl, rfl⟩
          go_wp2
          go_ret
          refine ⟨?_, hb⟩
          show Ending.returned (.bool (decide ((n : Int) ≤ 50000))) = _
          rw [le_lit n 50000 50000 rfl]
          rfl

end Go.Proofs.Ytlojjodgoeclfaa

namespace Go.Proofs.Ytlojjodgoeclfaa
open Go.RowKit
set_option linter.unusedVariables false
set_option linter.unusedSimpArgs false

def oneB (i t : Int) (d : List UInt8) (i' t' : Int) (d' : List UInt8) : Bool := decide (i = i') && (decide (t = t') && decide (d = d'))

theorem text_eqb (a b : List UInt8) : decide (a = b) = ((⟨a.toArray⟩ : ByteArray).toList == (⟨b.toArray⟩ : ByteArray).toList) := by
  rw [ByteArray.toList_eq, ByteArray.toList_eq]
  apply Bool.eq_iff_iff.2
  simp

set_option maxHeartbeats 1000000 in
theorem oneR_any (i t : Int) (A : Option Addr) (n c : Nat) (d : List UInt8) (i' t' : Int) (A' : Option Addr) (n' c' : Nat) (d' : List UInt8) (w : World) (h : Lies w A n c d) (h' : Lies w A' n' c' d') :
    Calls Try.prog 65 #[entV i t A n c, entV i' t' A' n' c'] w fun e w' => e = .returned (.bool (oneB i t d i' t' d')) ∧ Below w.heap.size w w' := by
  have hb : Below w.heap.size w ((w.alloc (.cells #[.int .i64 i, .int .i64 t, .slice A n c] 58)).alloc (.cells #[.int .i64 i', .int .i64 t', .slice A' n' c'] 58)) := ((Below.refl _ _).alloc (Nat.le_refl _) _).alloc (by simp) _
  have c1 := (h.below hb (Nat.le_refl _)).text Try.underlying23 Try.underlying5 Try.underlying9
  have c2 := (h'.below hb (Nat.le_refl _)).text Try.underlying23 Try.underlying5 Try.underlying9
  have hd : decide (d = d') = ((⟨d.toArray⟩ : ByteArray).toList == (⟨d'.toArray⟩ : ByteArray).toList) := text_eqb d d'
  generalize (⟨d.toArray⟩ : ByteArray) = S at *
  generalize (⟨d'.toArray⟩ : ByteArray) = S' at *
  unfold oneB
  rw [hd]
  clear h h' hd
  by_cases h1 : i = i'
  · subst h1
    rw [decide_eq_true rfl, Bool.true_and]
    by_cases h2 : t = t'
    · subst h2
      rw [decide_eq_true rfl, Bool.true_and]
      go_enter Try.func65, Try.ntmps65
      go_wp2
      go_ret
      exact ⟨rfl, hb⟩
    · have e1 : (t == t') = false := beq_eq_false_iff_ne.2 h2
      have e2 : (t = t') = False := eq_false h2
      rw [decide_eq_false h2, Bool.false_and]
      clear h2
      go_enter Try.func65, Try.ntmps65
      go_wp2
      go_ret
      exact ⟨rfl, hb⟩
  · have e1 : (i == i') = false := beq_eq_false_iff_ne.2 h1
    have e2 : (i = i') = False := eq_false h1
    rw [decide_eq_false h1, Bool.false_and]
    clear h1
    go_enter Try.func65, Try.ntmps65
    go_wp2
    go_ret
    exact ⟨rfl, hb⟩

set_option maxHeartbeats 1000000 in
theorem sameSnapR_any (i t : Int) (A : Option Addr) (n c : Nat) (d : List UInt8) (i' t' : Int) (A' : Option Addr) (n' c' : Nat) (d' : List UInt8) (w : World) (h : Lies w A n c d) (h' : Lies w A' n' c' d') :
    Calls Try.prog 36 #[entV i t A n c, entV i' t' A' n' c'] w fun e w' => e = .returned (.bool (oneB i t d i' t' d')) ∧ Below w.heap.size w w' := by
  have hb : Below w.heap.size w ((w.alloc (.cells #[.int .i64 i, .int .i64 t, .slice A n c] 25)).alloc (.cells #[.int .i64 i', .int .i64 t', .slice A' n' c'] 25)) := ((Below.refl _ _).alloc (Nat.le_refl _) _).alloc (by simp) _
  have c1 := (h.below hb (Nat.le_refl _)).text Try.underlying23 Try.underlying5 Try.underlying9
  have c2 := (h'.below hb (Nat.le_refl _)).text Try.underlying23 Try.underlying5 Try.underlying9
  have hd : decide (d = d') = ((⟨d.toArray⟩ : ByteArray).toList == (⟨d'.toArray⟩ : ByteArray).toList) := text_eqb d d'
  generalize (⟨d.toArray⟩ : ByteArray) = S at *
  generalize (⟨d'.toArray⟩ : ByteArray) = S' at *
  unfold oneB
  rw [hd]
  clear h h' hd
  by_cases h1 : i = i'
  · subst h1
    rw [decide_eq_true rfl, Bool.true_and]
    by_cases h2 : t = t'
    · subst h2
      rw [decide_eq_true rfl, Bool.true_and]
      go_enter Try.func36, Try.ntmps36
      go_wp2
      go_ret
      exact ⟨rfl, hb⟩
    · have e1 : (t == t') = false := beq_eq_false_iff_ne.2 h2
      have e2 : (t = t') = False := eq_false h2
      rw [decide_eq_false h2, Bool.false_and]
      clear h2
      go_enter Try.func36, Try.ntmps36
      go_wp2
      go_ret
      exact ⟨rfl, hb⟩
  · have e1 : (i == i') = false := beq_eq_false_iff_ne.2 h1
    have e2 : (i = i') = False := eq_false h1
    rw [decide_eq_false h1, Bool.false_and]
    clear h1
    go_enter Try.func36, Try.ntmps36
    go_wp2
    go_ret
    exact ⟨rfl, hb⟩

end Go.Proofs.Ytlojjodgoeclfaa
