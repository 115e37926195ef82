/- The document's mark, by its contract. -/
import Derived.Test.YtlanjlboipnpfaaLogRefA
namespace Go.Proofs.Ytlanjlboipnpfaa
open Go.RowKit
set_option linter.unusedVariables false
set_option linter.unusedSimpArgs false

theorem markR_any (r : RL) (x : Int) (A : Option Addr) (n c : Nat) (w : World) :
    Calls Try.prog 47 #[lgV r A n c, .int .i64 x] w fun e w' => e = .returned (lgV (r.mark x) A n c) ∧ Below w.heap.size w w' := by
  have hb : Below w.heap.size w ((w.alloc (.cells (lgC r A n c) 32)).alloc (.cells #[.int .i64 0, .int .i64 0, .slice none 0 0, .int .i64 0] 32)) := ((Below.refl _ _).alloc (Nat.le_refl _) _).alloc (by simp) _
  obtain ⟨ri, rt, rl, rf⟩ := r
  have hmk : (⟨ri, rt, rl, rf⟩ : RL).mark x = if rf = 0 ∨ x < rf then ⟨ri, rt, rl, x⟩ else ⟨ri, rt, rl, rf⟩ := rfl
  rw [hmk]
  clear hmk
  dsimp only [lgC, lgV] at *
  by_cases h1 : rf = 0 ∨ x < rf
  · rw [if_pos h1]
    go_enter Try.func47, Try.ntmps47
    go_wp2
    all_goals
      refine bodyPost_ret (res_cell (n := w.heap.size + 1) rfl rfl (heap_alloc2_new _ _ _) Try.underlying32 rfl (by kernel_rfl)) rfl ?_
      exact ⟨rfl, ((Below.refl _ _).alloc (Nat.le_refl _) _).alloc (by simp) _⟩
  · rw [if_neg h1]
    have h2 : (rf == 0) = false := beq_eq_false_iff_ne.2 fun e => h1 (.inl e)
    have h3 : (x < rf) = False := eq_false fun e => h1 (.inr e)
    have h4 : decide (x < rf) = false := decide_eq_false fun e => h1 (.inr e)
    have h5 : (rf = 0) = False := eq_false fun e => h1 (.inl e)
    clear h1
    go_enter Try.func47, Try.ntmps47
    go_wp2
    refine bodyPost_ret (res_cell (n := w.heap.size + 1) rfl rfl (heap_alloc2_new _ _ _) Try.underlying32 rfl (by kernel_rfl)) rfl ?_
    exact ⟨rfl, ((Below.refl _ _).alloc (Nat.le_refl _) _).alloc (by simp) _⟩

end Go.Proofs.Ytlanjlboipnpfaa
