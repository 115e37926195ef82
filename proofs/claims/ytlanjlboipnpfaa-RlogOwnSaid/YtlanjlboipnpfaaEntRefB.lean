/- The document's One and SameSnap, each by its contract. -/
import Derived.Test.YtlanjlboipnpfaaEntRefA
namespace Go.Proofs.Ytlanjlboipnpfaa
open Go.RowKit
set_option linter.unusedVariables false
set_option linter.unusedSimpArgs false

def oneB (i t : Int) (d : List UInt8) (i' t' : Int) (d' : List UInt8) : Bool := decide (i = i') && (decide (t = t') && decide (d = d'))

theorem text_eqb (a b : List UInt8) : decide (a = b) = ((⟨a.toArray⟩ : ByteArray).toList == (⟨b.toArray⟩ : ByteArray).toList) := by
  rw [ByteArray.toList_eq, ByteArray.toList_eq]
  apply Bool.eq_iff_iff.2
  simp

set_option maxHeartbeats 1000000 in
theorem oneR_any (i t : Int) (A : Option Addr) (n c : Nat) (d : List UInt8) (i' t' : Int) (A' : Option Addr) (n' c' : Nat) (d' : List UInt8) (w : World) (h : Lies w A n c d) (h' : Lies w A' n' c' d') :
    Calls Try.prog 37 #[entV i t A n c, entV i' t' A' n' c'] w fun e w' => e = .returned (.bool (oneB i t d i' t' d')) ∧ Below w.heap.size w w' := by
  have hb : Below w.heap.size w ((w.alloc (.cells #[.int .i64 i, .int .i64 t, .slice A n c] 43)).alloc (.cells #[.int .i64 i', .int .i64 t', .slice A' n' c'] 43)) := ((Below.refl _ _).alloc (Nat.le_refl _) _).alloc (by simp) _
  have c1 := (h.below hb (Nat.le_refl _)).text Try.underlying37 Try.underlying5 Try.underlying9
  have c2 := (h'.below hb (Nat.le_refl _)).text Try.underlying37 Try.underlying5 Try.underlying9
  have hd : decide (d = d') = ((⟨d.toArray⟩ : ByteArray).toList == (⟨d'.toArray⟩ : ByteArray).toList) := text_eqb d d'
  generalize (⟨d.toArray⟩ : ByteArray) = S at *
  generalize (⟨d'.toArray⟩ : ByteArray) = S' at *
  unfold oneB
  rw [hd]
  clear h h' hd
  by_cases h1 : i = i'
  · subst h1
    rw [decide_eq_true rfl, Bool.true_and]
    by_cases h2 : t = t'
    · subst h2
      rw [decide_eq_true rfl, Bool.true_and]
      go_enter Try.func37, Try.ntmps37
      go_wp2
      go_ret
      exact ⟨rfl, hb⟩
    · have e1 : (t == t') = false := beq_eq_false_iff_ne.2 h2
      have e2 : (t = t') = False := eq_false h2
      rw [decide_eq_false h2, Bool.false_and]
      clear h2
      go_enter Try.func37, Try.ntmps37
      go_wp2
      go_ret
      exact ⟨rfl, hb⟩
  · have e1 : (i == i') = false := beq_eq_false_iff_ne.2 h1
    have e2 : (i = i') = False := eq_false h1
    rw [decide_eq_false h1, Bool.false_and]
    clear h1
    go_enter Try.func37, Try.ntmps37
    go_wp2
    go_ret
    exact ⟨rfl, hb⟩

end Go.Proofs.Ytlanjlboipnpfaa
