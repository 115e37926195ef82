/- The document's Add, where nothing is added. -/
import Derived.Test.YtlanjlboipnpfaaLogRefE
import Derived.Test.YtlanjlboipnpfaaLogRefM
namespace Go.Proofs.Ytlanjlboipnpfaa
open Go.RowKit
set_option linter.unusedVariables false
set_option linter.unusedSimpArgs false

section
variable {P : Program} {fn : Func} {p q u : Tmp} {T T2 : TypeId} {W : World} {n m : Nat} {cs cs2 : Array Value} {fr fr2 : Nat × Nat} {d d2 : TypeDesc} {tmps : Array Value}

theorem results_cell_cell_tmp (h : fn.results = #[.cell p T, .cell q T2, .tmp u]) (tmps : Array Value) (P : Program) (w : World) :
    (results fn tmps).run P w =
      ((asAddr (tmps.getD p undef)).run P w).andThen fun a w₁ => ((loadVar T a).run P w₁).andThen fun v w₂ => ((asAddr (tmps.getD q undef)).run P w₂).andThen fun a2 w₃ => ((loadVar T2 a2).run P w₃).andThen fun v2 w₄ => .ok (.tuple #[v, v2, tmps.getD u undef]) w₄ := by
  simp only [results, h]
  simp [Sem.run_bind, Result.andThen]

/-- Two structs in blocks, and a slot. -/
theorem res_cell_cell_tmp (h : fn.results = #[.cell p T, .cell q T2, .tmp u]) (h1 : tmps.getD p undef = .pointer (some ⟨n, 0, none⟩)) (hW : W.heap[n]? = some (.cells cs T fr)) (hu : P.underlying T = some d)
    (hd : (match d with | .struct _ | .array _ _ => true | _ => false) = true) (hi : (P.info? T).map (·.size) = some cs.size)
    (h2 : tmps.getD q undef = .pointer (some ⟨m, 0, none⟩)) (hW2 : W.heap[m]? = some (.cells cs2 T2 fr2)) (hu2 : P.underlying T2 = some d2)
    (hd2 : (match d2 with | .struct _ | .array _ _ => true | _ => false) = true) (hi2 : (P.info? T2).map (·.size) = some cs2.size) : (results fn tmps).run P W = .ok (.tuple #[.agg cs, .agg cs2, tmps.getD u undef]) W := by
  rw [results_cell_cell_tmp h, h1, h2]
  simp [asAddr, run_loadVar_row W n T T cs fr d hW hu hd hi, run_loadVar_row W m T2 T2 cs2 fr2 d2 hW2 hu2 hd2 hi2]
end

abbrev zL : Array Value := #[.int .i64 0, .int .i64 0, .slice none 0 0, .int .i64 0]
abbrev zE : Array Value := #[.int .i64 0, .int .i64 0, .slice none 0 0]

/-- Three blocks of a call's own: a log's box, the answer, the entry that is answered. -/
structure BoxThree (w X : World) (B C D : Array Value) : Prop where
  box : X.heap[w.heap.size]? = some (.cells B 32)
  ans : X.heap[w.heap.size + 1]? = some (.cells C 32)
  ent : X.heap[w.heap.size + 2]? = some (.cells D 43)
  below : Below w.heap.size w X

theorem BoxThree.start (w : World) (B : Array Value) : BoxThree w (((w.alloc (.cells B 32)).alloc (.cells zL 32)).alloc (.cells zE 43)) B zL zE :=
  ⟨(Below.heap_alloc _ _ _ (by simp; omega)).trans ((Below.heap_alloc _ _ _ (by simp)).trans (heap_alloc_new _ _)), (Below.heap_alloc _ _ _ (by simp)).trans (heap_alloc2_new _ _ _), by
    have h := heap_alloc_new ((w.alloc (.cells B 32)).alloc (.cells zL 32)) (.cells zE 43)
    simpa using h, (((Below.refl _ _).alloc (Nat.le_refl _) _).alloc (by simp) _).alloc (by simp; omega) _⟩

theorem BoxThree.step {w X Y : World} {B C D : Array Value} (h : BoxThree w X B C D) (hb : Below X.heap.size X Y) : BoxThree w Y B C D :=
  ⟨(hb.block _ (hlt h.box)).trans h.box, (hb.block _ (hlt h.ans)).trans h.ans, (hb.block _ (hlt h.ent)).trans h.ent, h.below.trans (hb.mono h.below.size)⟩

theorem BoxThree.grown {w X Y : World} {B C D : Array Value} {row : Option Nat} (h : BoxThree w X B C D) (hg : X.grownBy Y row) (hr : ∀ q, row = some q → w.heap.size + 3 ≤ q) : BoxThree w Y B C D :=
  ⟨(hg.block _ (hlt h.box) (fun e => by have := hr _ e.symm; omega)).trans h.box, (hg.block _ (hlt h.ans) (fun e => by have := hr _ e.symm; omega)).trans h.ans, (hg.block _ (hlt h.ent) (fun e => by have := hr _ e.symm; omega)).trans h.ent, h.below.grown hg h.below.size (fun q e => by have := hr q e; omega)⟩

theorem fill3_off (X : World) (b : Nat) (a0 a1 a2 : Value) (q : Nat) (h : q ≠ b) : (((X.setCell ⟨b, 0, none⟩ a0).setCell ⟨b, 1, none⟩ a1).setCell ⟨b, 2, none⟩ a2).heap[q]? = X.heap[q]? :=
  (Below.heap_setCell _ _ _ _ (by exact h)).trans ((Below.heap_setCell _ _ _ _ (by exact h)).trans (Below.heap_setCell _ _ _ _ (by exact h)))

theorem below_fill3 {B : Nat} {w X : World} (h : Below B w X) (b : Nat) (hb : B ≤ b) (a0 a1 a2 : Value) : Below B w (((X.setCell ⟨b, 0, none⟩ a0).setCell ⟨b, 1, none⟩ a1).setCell ⟨b, 2, none⟩ a2) :=
  ((h.setCell (by exact hb) a0).setCell (by exact hb) a1).setCell (by exact hb) a2

theorem BoxThree.fillA {w X : World} {B D : Array Value} {a0 b0 c0 d0 : Value} (h : BoxThree w X B #[a0, b0, c0, d0] D) (a b c d : Value) : BoxThree w ((((X.setCell ⟨w.heap.size + 1, 0, none⟩ a).setCell ⟨w.heap.size + 1, 1, none⟩ b).setCell ⟨w.heap.size + 1, 2, none⟩ c).setCell ⟨w.heap.size + 1, 3, none⟩ d) B #[a, b, c, d] D :=
  ⟨(fill_off _ _ _ _ _ _ _ (by omega)).trans h.box, set4_at _ _ _ _ _ _ _ _ _ _ _ h.ans, (fill_off _ _ _ _ _ _ _ (by omega)).trans h.ent, below_fill h.below _ (by omega) _ _ _ _⟩

theorem BoxThree.fillE {w X : World} {B C : Array Value} {a0 b0 c0 : Value} (h : BoxThree w X B C #[a0, b0, c0]) (a b c : Value) : BoxThree w (((X.setCell ⟨w.heap.size + 2, 0, none⟩ a).setCell ⟨w.heap.size + 2, 1, none⟩ b).setCell ⟨w.heap.size + 2, 2, none⟩ c) B C #[a, b, c] :=
  ⟨(fill3_off _ _ _ _ _ _ (by omega)).trans h.box, (fill3_off _ _ _ _ _ _ (by omega)).trans h.ans, set3_at _ _ _ _ _ _ _ _ _ h.ent, below_fill3 h.below _ (by omega) _ _ _⟩

/-- One entry in a block of its own, as a list. -/
theorem ents_one (w : World) (x : Lay) (Z : Nat → Prop) (T : TypeId) (hz : Z w.heap.size) (hok : LayOk w Z x) : Ents (w.alloc (.cells #[.int .i64 x.e.i, .int .i64 x.e.t, .slice x.A x.e.d.length x.c] T)) Z (some ⟨w.heap.size, 0, none⟩) 1 1 [x.e] := by
  have hr := heap_alloc_new w (.cells #[.int .i64 x.e.i, .int .i64 x.e.t, .slice x.A x.e.d.length x.c] T)
  obtain ⟨⟨c0, c1, c2⟩, _⟩ := row3 hr
  have hok' : LayOk (w.alloc (.cells #[.int .i64 x.e.i, .int .i64 x.e.t, .slice x.A x.e.d.length x.c] T)) Z x := hok.keep (by simp) fun k hk _ => Below.heap_alloc _ _ _ hk
  refine ⟨rfl, Nat.le_refl _, (fun e => by cases e), fun _ => ⟨w.heap.size, 0, rfl, by simp, hz, fun j hj => ?_⟩⟩
  obtain rfl : j = 0 := by simp at hj; omega
  exact ⟨x.A, x.c, c0, c1, c2, hok'.1, hok'.2.1, hok'.2.2⟩

set_option maxRecDepth 100000 in
set_option maxHeartbeats 800000 in
theorem addR_no (r : RL) (t : Int) (D : Option Addr) (dn dc : Nat) (d : List UInt8) (Z : Nat → Prop) (A : Option Addr) (n c : Nat) (w : World) (h : Ents w Z A n c r.l) (hm : n ≤ 100000) (hZ : ∀ k, w.heap.size ≤ k → Z k) (hx : LayOk w Z ⟨⟨r.lastI + 1, t, d⟩, D, dc⟩) (hdn : d.length = dn) (hi : 0 ≤ r.lastI ∧ r.lastI ≤ 1099511627776) (hno : runB r.lastI r.lastT [⟨r.lastI + 1, t, d⟩] = false) :
    Calls Try.prog 36 #[lgV r A n c, .int .i64 t, .slice D dn dc] w fun e w' => e = .returned (.tuple #[lgV r A n c, .agg zE, .bool false]) ∧ Below w.heap.size w w' := by
  subst hdn
  have h3 := BoxThree.start w (lgC r A n c)
  have hL := lastR_any r Z A n c _ (h.below h3.below (Nat.le_refl _)) (by unfold maxLen; omega)
  have hR := fun W (hW : Below w.heap.size w W) => runR_any Z _ 1 1 [⟨r.lastI + 1, t, d⟩] r.lastI r.lastT _ (ents_one W ⟨⟨r.lastI + 1, t, d⟩, D, dc⟩ Z 43 (hZ _ hW.size) (hx.keep hW.size fun k hk _ => hW.block k hk)) (by unfold maxLen; omega)
  rw [hno] at hR
  generalize r.lastI = li at *
  generalize r.lastT = lt at *
  obtain ⟨J, hJJ⟩ : ∃ J, J = li + 1 := ⟨_, rfl⟩
  have hJ : wrap64 (li + 1) = J := by rw [hJJ, ← IntWalk.i64_left, IntWalk.i64_in _ (by omega)]
  rw [← hJJ] at hR
  clear h hm hno hx hi hJJ
  obtain ⟨⟨a0, a1, a2, a3⟩, _⟩ := row4 h3.box
  go_enter Try.func36, Try.ntmps36
  go_wp2_with fail
  refine hL.mono ?_
  rintro e w1 ⟨rfl, hb1⟩
  have h4 := h3.step hb1
  clear h3 hb1 hL a0 a1 a2 a3
  obtain ⟨⟨b0, b1, b2, b3⟩, _⟩ := row4 h4.box
  have hb5 := (Below.refl w1.heap.size w1).alloc (Nat.le_refl _) (.cells #[.int .i64 J, .int .i64 t, .slice D d.length dc] 43)
  have h5 := h4.step hb5
  replace hR := hR _ h5.below
  simp only [World.size_alloc] at hR
  generalize hdl : d.length = dl at *
  clear hdl
  go_wp2_with fail
  refine hR.mono ?_
  rintro e w2 ⟨rfl, hb2⟩
  have h6 := h5.step (((Below.refl _ _).alloc (Nat.le_refl _) _).trans (hb2.mono (by simp)))
  clear b0 b1 b2 b3
  obtain ⟨⟨e0, e1, e2, e3⟩, _⟩ := row4 h6.box
  obtain ⟨_, ⟨f0, f1, f2, f3⟩⟩ := row4 h6.ans
  obtain ⟨_, ⟨g0, g1, g2⟩⟩ := row3 h6.ent
  have h7 := (h6.fillA (.int .i64 r.i) (.int .i64 r.t) (.slice A n c) (.int .i64 r.f)).fillE (.int .i64 0) (.int .i64 0) (.slice none 0 0)
  clear hR hb2 h5 h4 hb5 h6
  go_wp2
  refine bodyPost_ret (res_cell_cell_tmp (n := w.heap.size + 1) (m := w.heap.size + 2) rfl rfl h7.ans Try.underlying32 rfl (by kernel_rfl) rfl h7.ent Try.underlying43 rfl (by kernel_rfl)) rfl ?_
  exact ⟨rfl, h7.below⟩

end Go.Proofs.Ytlanjlboipnpfaa
