/- bytes.Clone, by its contract. -/
import Derived.Test.YtlanjlboipnpfaaBytArgs
import Derived.StillTailTactics
import Derived.Lib.SliceRun
namespace Go.Proofs.Ytlanjlboipnpfaa
open Go.RowKit
set_option linter.unusedVariables false
set_option linter.unusedSimpArgs false

theorem Owns.rebase {T : TypeId} {w : World} {base base' : Nat} {v : Value} {l : List UInt8} (h : Owns T w base v l) (hb : ∀ k, v.ownBlock = some k → base' ≤ k) : Owns T w base' v l := by
  rcases h.2 with ⟨e, h0⟩ | ⟨g, cap, cur, e, hbg, r⟩
  · exact ⟨h.1, .inl ⟨e, h0⟩⟩
  · exact ⟨h.1, .inr ⟨g, cap, cur, e, hb g (by rw [e]; rfl), r⟩⟩

theorem own_blk (A : Option Addr) (n c n' c' : Nat) : (Value.slice A n c).ownBlock = (Value.slice A n' c').ownBlock := by cases A <;> rfl

/- bytes.Clone -/
theorem clone_any (A : Option Addr) (len cap : Nat) (l : List UInt8) (w : World) (h : Lies w A len cap l) (hb : l.length ≤ 140737488355328) :
    Calls Try.prog 49 #[.slice A len cap] w fun e w' => ∃ v, e = .returned v ∧ Owns 5 w' w.heap.size v l ∧ Below w.heap.size w w' := by
  have hq : ∀ (w : World) (a : Option Addr) (n c n' c' : Nat), (binOp .eql 37 (.slice a n c) (.slice none n' c')).run Try.prog w = .ok (.bool a.isNone) w := fun w a n c n' c' => Go.Lib.run_eql_slice_nil w _ _ a n c n' c' Try.underlying37
  obtain ⟨i0, hi0, hz0, hz1, hz2⟩ := info_parts info_u8
  cases A with
  | none =>
    have := h.2.2.1 rfl
    have h1 := h.1
    have h2 := h.2.1
    obtain rfl : l = [] := List.eq_nil_of_length_eq_zero (by omega)
    clear h hi0 hz0 hz1 hz2
    go_enter Try.func49, Try.ntmps49
    go_wp2
    go_ret
    exact ⟨_, rfl, Owns.nil _ _ _, Below.refl _ _⟩
  | some a =>
    go_enter Try.func49, Try.ntmps49
    go_wp2_with (at_builtin; refine wpList_append_bytes _ rfl _ _ 37 rfl 5 i0 Try.underlying37 hi0 hz0 hz1 hz2 w.heap.size (by simp) (.slice (some ⟨w.heap.size, 0, none⟩) 0 0) [] rfl (World.ownsRow_made _ #[] 0 (Nat.le_refl _) (Nat.zero_le _) rfl) (some a) len cap l rfl (h.below ((Below.refl _ _).alloc (Nat.le_refl _) _) (Nat.le_refl _)) (by simpa using hb) ?_)
    intro v1 w1 ho hg _
    have hbw := ((Below.refl w.heap.size w).alloc (Nat.le_refl _) (.cells #[] 5)).grown hg (by simp) (fun k e => by injection e with e; have e' : w.heap.size = k := e; omega)
    clear hg h
    go_wp2
    go_ret
    exact ⟨_, rfl, ho, hbw⟩

end Go.Proofs.Ytlanjlboipnpfaa
