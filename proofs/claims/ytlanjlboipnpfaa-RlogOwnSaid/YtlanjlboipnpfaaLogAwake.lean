/- The laws' own first question. -/
import Derived.Test.YtlanjlboipnpfaaLogProgH
import Derived.Lib.SlBytesConst
namespace Go.Proofs.Ytlanjlboipnpfaa
open Go.RowKit
set_option linter.unusedVariables false
set_option linter.unusedSimpArgs false

theorem lies_row (w : World) (l : List UInt8) (C : Array Value) (T : TypeId) (fr : Nat × Nat) (n : Nat) (hn : l.length = n) (h : ∀ j (hj : j < l.length), C[j]? = some (u8 l[j])) : Lies (w.alloc (.cells C T fr)) (some ⟨w.heap.size, 0, none⟩) n n l := by
  refine ⟨hn, Nat.le_refl _, (fun h => by cases h), fun _ => ⟨w.heap.size, 0, rfl, by simp, fun j hj => ?_⟩⟩
  rw [cell_of_row _ _ _ _ _ _ (heap_alloc_new w _), Nat.zero_add]
  exact h j hj

theorem Ents.none_ (w : World) (Z : Nat → Prop) : Ents w Z none 0 0 [] := ⟨rfl, Nat.le_refl _, fun _ => rfl, fun h => absurd h (by simp)⟩

abbrev awR : RL := ⟨0, 0, [], 0⟩
theorem awake_run : runB 0 0 [⟨1, 1, [97]⟩] = true := by decide +kernel
theorem awake_from : (awR.more ⟨1, 1, [97]⟩).fromL 1 9 = [⟨1, 1, [97]⟩] := by kernel_rfl
theorem awR_good : Good awR := ⟨rfl, rfl⟩
theorem awake_len : (awR.more ⟨1, 1, [97]⟩).l.length = 1 := by decide +kernel

set_option maxRecDepth 100000 in
set_option maxHeartbeats 1600000 in
theorem awake8_any (w : World) : Calls Try.prog 6 #[] w fun e w' => e = .returned (.bool true) ∧ Below w.heap.size w w' := by
  have hN := newP_yes 0 0 (fun _ => True) none 0 0 [] w (Ents.none_ _ _) (by omega) rfl rfl
  go_enter Try.func6, Try.ntmps6
  go_wp2_with fail
  refine hN.mono ?_
  rintro e w1 ⟨p, rfl, hL, hb1⟩
  have kc := Lib.run_convert_bytes_const (P := Try.prog) w1 37 5 #[.int .u8 97] 1 1 Try.underlying37 Try.underlying5
  have hl := lies_row w1 [97] #[.int .u8 97] 5 (1, 2) 1 rfl (by
    intro j hj
    match j, hj with
    | 0, _ => rfl)
  have hbA := (Below.refl w1.heap.size w1).alloc (Nat.le_refl _) (.cells #[.int .u8 97] 5 (1, 2))
  change _ = Result.ok _ (w1.alloc (.cells #[.int .u8 97] 5 (1, 2))) at kc
  have hL2 : Lg (w1.alloc (.cells #[.int .u8 97] 5 (1, 2))) p awR 0 (fun q => q < w.heap.size ∨ q = w1.heap.size) := (hL.grow.below hbA).mono fun q hq => hq.elim .inl fun e => .inr (by omega)
  have hs1 := hb1.size
  have hA := addP_yes hL2 (fun q hq => by rw [World.size_alloc]; omega) (by show 0 ≤ 900000; omega) awR_good 1 (some ⟨w1.heap.size, 0, none⟩) 1 1 [97] ⟨by unfold maxLen; show 1 ≤ _; omega, hl, fun _ q o e => by injection e with e; injection e with e; exact .inr e.symm⟩ rfl awake_run
  change Calls Try.prog 18 #[ptrV p, .int .i64 1, .slice (some ⟨w1.heap.size, 0, none⟩) 1 1] _ (fun e w' => ∃ E k, e = .returned (.tuple #[.agg #[.int .i64 1, .int .i64 1, .slice E 1 k], .int .i64 0]) ∧ LayOk w' (blk E) ⟨⟨1, 1, [97]⟩, E, k⟩ ∧ (∀ q, blk E q → _ ≤ q) ∧ Lg w' p (awR.more ⟨1, 1, [97]⟩) 0 (fun q => (q < w.heap.size ∨ q = w1.heap.size) ∨ blk E q) ∧ Keeps (fun q => q < w.heap.size ∨ q = w1.heap.size) _ w') at hA
  clear hN hL hl hL2
  go_wp2_with fail
  refine hA.mono ?_
  rintro e w2 ⟨E, k, rfl, hok, _, hL2, hk2⟩
  have hb2 : Below w.heap.size w w2 := below_keeps (hb1.trans (hbA.mono hs1)) hk2 (fun i hi => .inl hi) (Nat.le_trans hs1 hbA.size)
  have hb3 := (Below.refl w2.heap.size w2).alloc (Nat.le_refl _) (.cells #[.int .i64 1, .int .i64 1, .slice E 1 k] 43)
  have hL3 := hL2.below hb3
  have htx := (show Lies w2 E 1 k [97] from hok.2.1).below hb3 (Nat.le_refl _)
  have ht := htx.text (P := Try.prog) (dst := 9) Try.underlying37 Try.underlying5 Try.underlying9
  have hbw3 := hb2.trans (hb3.mono hb2.size)
  obtain ⟨A, c, xs, hL4⟩ := hL3
  have hF := fromP_any hL4 (by rw [awake_len]; omega) (Good.more awR_good (e := ⟨1, 1, [97]⟩) awake_run) 1 9
  rw [awake_from] at hF
  obtain ⟨⟨a0, a1, a2⟩, _⟩ := row3 (heap_alloc_new w2 (.cells #[.int .i64 1, .int .i64 1, .slice E 1 k] 43))
  clear hA hL2 hL4 hok htx hb3 hb2 hk2 hbA kc
  go_wp2_with fail
  refine hF.mono ?_
  rintro e w4 ⟨A', c', rfl, hE, hb4⟩
  go_wp2
  go_ret
  exact ⟨rfl, hbw3.trans (hb4.mono hbw3.size)⟩

end Go.Proofs.Ytlanjlboipnpfaa
