/- The document's Take, where nothing is taken. -/
import Derived.Test.YtlanjlboipnpfaaLogRefH
import Derived.Test.YtlanjlboipnpfaaLogGood
import Derived.RegionTactic
import Derived.Outline
namespace Go.Proofs.Ytlanjlboipnpfaa
open Go.RowKit
set_option linter.unusedVariables false
set_option linter.unusedSimpArgs false

section
variable {P : Program} {fn : Func} {p q u : Tmp} {T : TypeId} {W : World} {n : Nat} {cs : Array Value} {fr : Nat × Nat} {d : TypeDesc} {tmps : Array Value}

theorem results_cell_tmp_tmp (h : fn.results = #[.cell p T, .tmp q, .tmp u]) (tmps : Array Value) (P : Program) (w : World) :
    (results fn tmps).run P w =
      ((asAddr (tmps.getD p undef)).run P w).andThen fun a w₁ => ((loadVar T a).run P w₁).andThen fun v w₂ => .ok (.tuple #[v, tmps.getD q undef, tmps.getD u undef]) w₂ := by
  simp only [results, h]
  simp [Sem.run_bind, Result.andThen]

/-- A struct in a block, and two slots. -/
theorem res_cell_tmp_tmp (h : fn.results = #[.cell p T, .tmp q, .tmp u]) (h1 : tmps.getD p undef = .pointer (some ⟨n, 0, none⟩)) (hW : W.heap[n]? = some (.cells cs T fr)) (hu : P.underlying T = some d)
    (hd : (match d with | .struct _ | .array _ _ => true | _ => false) = true) (hi : (P.info? T).map (·.size) = some cs.size) : (results fn tmps).run P W = .ok (.tuple #[.agg cs, tmps.getD q undef, tmps.getD u undef]) W := by
  rw [results_cell_tmp_tmp h, h1]
  simp [asAddr, run_loadVar_row W n T T cs fr d hW hu hd hi]
end

theorem BoxTwo.start (w : World) (B : Array Value) : BoxTwo w ((w.alloc (.cells B 32)).alloc (.cells zL 32)) B zL :=
  ⟨(Below.heap_alloc _ _ _ (by simp)).trans (heap_alloc_new _ _), heap_alloc2_new _ _ _, ((Below.refl _ _).alloc (Nat.le_refl _) _).alloc (by simp) _⟩

theorem BoxTwo.drew {w X : World} {B C : Array Value} (h : BoxTwo w X B C) : BoxTwo w X.drew B C := h.step (Below.refl _ _).drew

set_option maxRecDepth 100000 in
set_option maxHeartbeats 1600000 in
theorem takeR_run (r : RL) (x t : Int) (Z : Nat → Prop) (A : Option Addr) (n c : Nat) (B : Option Addr) (m cB : Nat) (ms : List Ent) (w : World) (hB : Ents w Z B m cB ms) (hm : m ≤ 100000) (hno : runB x t ms = false) :
    Calls Try.prog 38 #[lgV r A n c, .int .i64 x, .int .i64 t, .slice B m cB] w fun e w' => e = .returned (.tuple #[lgV r A n c, .int .i64 0, .bool false]) ∧ Below w.heap.size w w' := by
  have h2 := BoxTwo.start w (lgC r A n c)
  have hR := runR_any Z B m cB ms x t _ (hB.below h2.below (Nat.le_refl _)) (by unfold maxLen; omega)
  rw [hno] at hR
  clear hB hno
  go_enter Try.func38, Try.ntmps38
  go_wp2_with fail
  refine hR.mono ?_
  rintro e w1 ⟨rfl, hb1⟩
  have h3 := h2.step hb1
  obtain ⟨⟨b0, b1, b2, b3⟩, _⟩ := row4 h3.box
  obtain ⟨_, ⟨f0, f1, f2, f3⟩⟩ := row4 h3.ans
  have h4 := h3.fill (.int .i64 r.i) (.int .i64 r.t) (.slice A n c) (.int .i64 r.f)
  clear hR h2 hb1 h3
  go_wp2
  refine bodyPost_ret (res_cell_tmp_tmp (n := w.heap.size + 1) rfl rfl h4.ans Try.underlying32 rfl (by kernel_rfl)) rfl ?_
  exact ⟨rfl, h4.below⟩

theorem retry_max {r : RL} (hg : Good r) {x : Int} (h : r.i < x) : max (min (x - 1) r.lastI) r.i = r.retry x := by
  have h1 := hg.lastI
  have h2 := hg.lim
  unfold RL.retry
  rw [if_neg (by omega)]
  omega

set_option maxRecDepth 100000 in
set_option maxHeartbeats 3200000 in
theorem takeR_at (r : RL) (hg : Good r) (x t : Int) (hx2 : x ≤ 9223372036854775807) (Z : Nat → Prop) (A : Option Addr) (n c : Nat) (w : World) (h : Ents w Z A n c r.l) (hm : n ≤ 100000) (B : Option Addr) (m cB : Nat) (ms : List Ent) (hB : Ents w Z B m cB ms) (hm2 : m ≤ 100000) (hr : runB x t ms = true) (hno : r.at_ x ≠ some t) :
    Calls Try.prog 38 #[lgV r A n c, .int .i64 x, .int .i64 t, .slice B m cB] w fun e w' => e = .returned (.tuple #[lgV r A n c, .int .i64 (r.retry x), .bool false]) ∧ Below w.heap.size w w' := by
  have h2 := BoxTwo.start w (lgC r A n c)
  have hR := runR_any Z B m cB ms x t _ (hB.below h2.below (Nat.le_refl _)) (by unfold maxLen; omega)
  rw [hr] at hR
  have hA := fun w1 (hb : Below w.heap.size w w1) => atR_any r x Z A n c w1 (h.below hb (Nat.le_refl _)) (by unfold maxLen; omega)
  have hL := fun w1 (hb : Below w.heap.size w w1) => lastR_any r Z A n c w1 (h.below hb (Nat.le_refl _)) (by unfold maxLen; omega)
  have hor : ∃ o v, r.at_ x = o ∧ o.getD 0 = v ∧ (o.isSome = false ∨ (o.isSome = true ∧ v ≠ t)) := by
    refine ⟨_, _, rfl, rfl, ?_⟩
    cases ho : r.at_ x with
    | none => exact .inl rfl
    | some v => exact .inr ⟨rfl, fun e => hno (by rw [ho]; exact congrArg some e)⟩
  obtain ⟨o, v, ho, hv, hov⟩ := hor
  have hat : atV o = .tuple #[.int .i64 v, .bool o.isSome] := by rw [← hv]
  rw [ho, hat] at hA
  have hlim := hg.lim
  have hmx : r.i < x → max (min (x - 1) r.lastI) r.i = r.retry x := fun h => retry_max hg h
  have hre : x ≤ r.i → r.retry x = r.i := fun h => by unfold RL.retry; rw [if_pos h]
  generalize o.isSome = b at *
  generalize r.retry x = y at *
  clear hB hr ho hv hat hno hg
  have hq : ∃ q : Bool, q = true ∧ ((b = false) ∨ (b = true ∧ (v != t) = true ∧ (v = t) = False)) := ⟨true, rfl, by
    rcases hov with h | ⟨h1, h2⟩
    · exact .inl h
    · exact .inr ⟨h1, by simp [h2], eq_false h2⟩⟩
  obtain ⟨_, _, hq⟩ := hq
  clear hov h
  by_cases hx : x ≤ r.i
  · obtain rfl := hre hx
    clear hmx hre hL hlim
    rcases hq with rfl | ⟨rfl, q1, q2⟩
    all_goals
      go_enter Try.func38, Try.ntmps38
      go_wp2_with fail
      refine hR.mono ?_
      rintro e w1 ⟨rfl, hb1⟩
      have h3 := h2.step hb1
      obtain ⟨⟨b0, b1, b2, b3⟩, _⟩ := row4 h3.box
      have hA1 := hA w1 h3.below
      go_wp2_with fail
      refine hA1.mono ?_
      rintro e w2 ⟨rfl, hb2⟩
      have h4 := h3.step hb2
      obtain ⟨⟨d0, d1, d2, d3⟩, _⟩ := row4 h4.box
      obtain ⟨_, ⟨f0, f1, f2, f3⟩⟩ := row4 h4.ans
      have h5 := h4.fill (.int .i64 r.i) (.int .i64 r.t) (.slice A n c) (.int .i64 r.f)
      clear hR hA hA1 hb1 hb2 h3 h2 b0 b1 b2 b3 h4
      go_wp2
      go_region
      all_goals
        go_wp2
        refine bodyPost_ret (res_cell_tmp_tmp (n := w.heap.size + 1) rfl rfl (drew_row h5.ans) Try.underlying32 rfl (by kernel_rfl)) rfl ?_
        exact ⟨rfl, h5.drew.below⟩
  · have q3 : (x ≤ r.i) = False := eq_false hx
    have hmx := hmx (by omega)
    have q4 : decide (x ≤ r.i) = false := decide_eq_false hx
    obtain ⟨J, hJ⟩ : ∃ J, J = x - 1 := ⟨_, rfl⟩
    have y1 : IntKind.i64.wrap (x - 1) = J := by rw [hJ, IntWalk.i64_in _ (by omega)]
    rw [← hJ] at hmx
    generalize r.lastI = li at *
    generalize r.lastT = lt at *
    have HM := Lib.hid (hmx : max (min J li) r.i = y)
    clear hmx hre hx hlim hJ hx2
    rcases hq with rfl | ⟨rfl, q1, q2⟩
    all_goals
      go_enter Try.func38, Try.ntmps38
      go_wp2_with fail
      refine hR.mono ?_
      rintro e w1 ⟨rfl, hb1⟩
      have h3 := h2.step hb1
      obtain ⟨⟨b0, b1, b2, b3⟩, _⟩ := row4 h3.box
      have hA1 := hA w1 h3.below
      go_wp2_with fail
      refine hA1.mono ?_
      rintro e w2 ⟨rfl, hb2⟩
      have h4 := h3.step hb2
      obtain ⟨⟨d0, d1, d2, d3⟩, _⟩ := row4 h4.box
      have hL1 := hL w2 h4.below
      clear hR hA hA1 hb1 hb2 h3 h2 b0 b1 b2 b3 hL
      go_wp2_with fail
      refine hL1.mono ?_
      rintro e w3 ⟨rfl, hb3⟩
      have h6 := h4.step hb3
      obtain ⟨⟨e0, e1, e2, e3⟩, _⟩ := row4 h6.box
      obtain ⟨_, ⟨f0, f1, f2, f3⟩⟩ := row4 h6.ans
      have h5 := h6.fill (.int .i64 r.i) (.int .i64 r.t) (.slice A n c) (.int .i64 r.f)
      clear hL1 hb3 h4 h6 d0 d1 d2 d3
      go_wp2
      go_region
      all_goals go_wp2
      all_goals
        refine bodyPost_ret (res_cell_tmp_tmp (n := w.heap.size + 1) rfl rfl (drew_row h5.ans) Try.underlying32 rfl (by kernel_rfl)) rfl ?_
        have hy := HM.out
        refine ⟨?_, h5.drew.below⟩
        first
          | exact congrArg (fun z => Ending.returned (.tuple #[lgV r A n c, .int .i64 z, .bool false])) (show r.i = y by omega)
          | exact congrArg (fun z => Ending.returned (.tuple #[lgV r A n c, .int .i64 z, .bool false])) (show li = y by omega)
          | exact congrArg (fun z => Ending.returned (.tuple #[lgV r A n c, .int .i64 z, .bool false])) (show J = y by omega)

end Go.Proofs.Ytlanjlboipnpfaa
