/- What an act makes of a history. Plain mathematics. -/
import Derived.Test.YtmihijlegacjdaaHisArgs
namespace Go.Proofs.Ytmihijlegacjdaa
set_option linter.unusedVariables false

namespace His
theorem ver_v {x : Ver} (h : verB x = true) : -9223372036854775808 ≤ x.v ∧ x.v ≤ 9223372036854775807 := by
  unfold verB top at h
  split at h
  · cases h
  · split at h
    · have := of_decide_eq_true h
      omega
    · have := of_decide_eq_true h
      omega

/-- An act: by its kind. -/
def doL (l : List Ver) (a : HAct) : List Ver :=
  if a.kd = 0 then (putL l a.r a.m a.s a.l).getD l
  else if a.kd = 1 then (if (delL l a.r a.m).2 = 0 then (delL l a.r a.m).1 else l)
  else (addL l a.x).getD l

theorem put_right {l o : List Ver} {r m : Int} {s : ByteArray} {le : Int} (h : putL l r m s le = some o) : Right o := by
  unfold putL at h
  obtain ⟨x, _, hx⟩ := Option.bind_eq_some_iff.1 h
  exact add_right hx

theorem add_len {l o : List Ver} {x : Ver} (h : addL l x = some o) : o.length = l.length + 1 := by
  unfold addL at h
  split at h
  · injection h with h
    rw [← h]
    simp
  · cases h

theorem put_len {l o : List Ver} {r m : Int} {s : ByteArray} {le : Int} (h : putL l r m s le = some o) : o.length = l.length + 1 := by
  unfold putL at h
  obtain ⟨x, _, hx⟩ := Option.bind_eq_some_iff.1 h
  exact add_len hx

theorem del_some {l : List Ver} {r m : Int} (h : (delL l r m).2 = 0) : addL l (goneV r m) = some (delL l r m).1 := by
  unfold delL at *
  cases ho : addL l (goneV r m) with
  | none =>
    rw [ho] at h
    exact absurd (show (1 : Int) = 0 from h) (by decide)
  | some o =>
    rw [ho] at h
    dsimp only at h ⊢
    cases hl : l.getLast? with
    | none =>
      rw [hl] at h
      exact absurd (show (6 : Int) = 0 from h) (by decide)
    | some y =>
      rw [hl] at h
      dsimp only at h ⊢
      by_cases hg : y.g = true
      · rw [if_pos hg] at h
        exact absurd (show (6 : Int) = 0 from h) (by decide)
      · rw [if_neg hg]

theorem do_right {l : List Ver} (h : Right l) (a : HAct) : Right (doL l a) := by
  unfold doL
  split
  · cases ho : putL l a.r a.m a.s a.l with
    | none => exact h
    | some o => exact put_right ho
  · split
    · split
      · rename_i h2
        exact add_right (del_some h2)
      · exact h
    · cases ho : addL l a.x with
      | none => exact h
      | some o => exact add_right ho

theorem do_len (l : List Ver) (a : HAct) : (doL l a).length ≤ l.length + 1 := by
  unfold doL
  split
  · cases ho : putL l a.r a.m a.s a.l with
    | none => show l.length ≤ _; omega
    | some o => have := put_len ho; show o.length ≤ _; omega
  · split
    · split
      · rename_i h2
        have := add_len (del_some h2)
        omega
      · omega
    · cases ho : addL l a.x with
      | none => show l.length ≤ _; omega
      | some o => have := add_len ho; show o.length ≤ _; omega

/-- The acts one behind the other. -/
def runL (K : Nat → HAct) : Nat → List Ver
  | 0 => []
  | k + 1 => doL (runL K k) (K k)

theorem run_right (K : Nat → HAct) : ∀ k, Right (runL K k)
  | 0 => right_nil
  | k + 1 => do_right (run_right K k) _

theorem run_len (K : Nat → HAct) : ∀ k, (runL K k).length ≤ k
  | 0 => Nat.le_refl _
  | k + 1 => Nat.le_trans (do_len _ _) (by have := run_len K k; omega)

theorem run_v (K : Nat → HAct) (k : Nat) : ∀ x ∈ runL K k, -9223372036854775808 ≤ x.v ∧ x.v ≤ 9223372036854775807 := fun x hx => ver_v ((run_right K k).ver x hx)
end His

end Go.Proofs.Ytmihijlegacjdaa
