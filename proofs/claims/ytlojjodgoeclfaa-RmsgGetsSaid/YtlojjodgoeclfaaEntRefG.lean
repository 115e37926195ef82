/- The document's taken, by its contract. -/
import Derived.Test.YtlojjodgoeclfaaEntR2
import Derived.Test.YtlojjodgoeclfaaOctR
namespace Go.Proofs.Ytlojjodgoeclfaa
open Go.RowKit
set_option linter.unusedVariables false
set_option linter.unusedSimpArgs false

/-- An index, a term and bytes are taken. -/
structure TakenL where
  i : Int
  t : Int
  d : List UInt8
  s : St
def takenN (s : St) (most : Int) : TakenL :=
  ⟨IntKind.i64.wrap ((numberN s 8).1 : Int), IntKind.i64.wrap ((numberN (numberN s 8).2 8).1 : Int), (textN (numberN (numberN s 8).2 8).2 most).1, (textN (numberN (numberN s 8).2 8).2 most).2⟩

theorem results_tmp3_cell {fn : Func} {a b c p : Tmp} {ty : TypeId} (h : fn.results = #[.tmp a, .tmp b, .tmp c, .cell p ty]) (tmps : Array Value) (P : Program) (w : World) :
    (results fn tmps).run P w =
      ((asAddr (tmps.getD p undef)).run P w).andThen fun q w₁ => ((loadVar ty q).run P w₁).andThen fun v w₂ => .ok (.tuple #[tmps.getD a undef, tmps.getD b undef, tmps.getD c undef, v]) w₂ := by
  simp only [results, h]
  simp [Sem.run_bind, Result.andThen]

theorem res_tmp3_cell {fn : Func} {a b c p : Tmp} (h : fn.results = #[.tmp a, .tmp b, .tmp c, .cell p 48]) (tmps : Array Value) (W : World) (n : Nat) (x y : Value) (fr : Nat × Nat) (h1 : tmps.getD p undef = .pointer (some ⟨n, 0, none⟩))
    (hW : W.heap[n]? = some (.cells #[x, y] 48 fr)) : (results fn tmps).run Try.prog W = .ok (.tuple #[tmps.getD a undef, tmps.getD b undef, tmps.getD c undef, .agg #[x, y]]) W := by
  rw [results_tmp3_cell h, h1]
  simp [asAddr, run_loadVar_row W n 48 48 #[x, y] fr _ hW Try.underlying48 rfl (by kernel_rfl)]

abbrev inO (A : Option Addr) (cap : Nat) (s : St) : Obj := .cells #[.slice A (left s) cap, .bool s.isNone] 48

/-- Two Ins of a call's own, one behind the other: what stands in them, and that all that was there is as it was. -/
structure Two2 (w W : World) (b : Nat) (C0 C1 : Array Value) : Prop where
  r0 : W.heap[b]? = some (.cells C0 48)
  r1 : W.heap[b + 1]? = some (.cells C1 48)
  below : Below w.heap.size w W
  le : w.heap.size ≤ b

theorem Two2.step {w W w' : World} {b : Nat} {C0 C1 : Array Value} (h : Two2 w W b C0 C1) (hb : Below W.heap.size W w') : Two2 w w' b C0 C1 :=
  ⟨(hb.block _ (hlt h.r0)).trans h.r0, (hb.block _ (hlt h.r1)).trans h.r1, h.below.trans (hb.mono h.below.size), h.le⟩

theorem Two2.store {w W : World} {b : Nat} {u0 u1 : Value} {C1 : Array Value} (h : Two2 w W b #[u0, u1] C1) (x y : Value) : Two2 w ((W.setCell ⟨b, 0, none⟩ x).setCell ⟨b, 1, none⟩ y) b #[x, y] C1 :=
  ⟨two_set _ _ _ _ _ _ _ h.r0, ((Below.heap_setCell _ _ _ _ (by show b + 1 ≠ b; omega)).trans (Below.heap_setCell _ _ _ _ (by show b + 1 ≠ b; omega))).trans h.r1, (h.below.setCell h.le _).setCell h.le _, h.le⟩

set_option maxRecDepth 100000 in
set_option maxHeartbeats 3200000 in
theorem takenR_any (A : Option Addr) (cap : Nat) (s : St) (w : World) (most : Int) (hm : -9223372036854775808 ≤ most ∧ most ≤ 9223372036854775807) (hL : left s ≤ 140737488355328) (h : RLies w A cap s) :
    Calls Try.prog 78 #[inv A cap s, .int .i64 most] w fun e w' => ∃ A' cap', e = .returned (.tuple #[.int .i64 (takenN s most).i, .int .i64 (takenN s most).t, .string ⟨(takenN s most).d.toArray⟩, inv A' cap' (takenN s most).s]) ∧ (∀ w0, RLies w0 A cap s → RLies w0 A' cap' (takenN s most).s) ∧ Below w.heap.size w w' := by
  have h2 : Two2 w ((w.alloc (inO A cap s)).alloc (.cells #[.slice none 0 0, .bool false] 48)) w.heap.size #[.slice A (left s) cap, .bool s.isNone] #[.slice none 0 0, .bool false] :=
    ⟨(Below.heap_alloc _ _ _ (by simp)).trans (heap_alloc_new _ _), heap_alloc2_new _ _ _, ((Below.refl _ _).alloc (Nat.le_refl _) _).alloc (by simp) _, Nat.le_refl _⟩
  have hN1 := fun W (hW : Below w.heap.size w W) => numR2_any A cap s W (h.below hW (Nat.le_refl _))
  have hL1 := left_number s 8 hL
  unfold takenN
  generalize numberN s 8 = t1 at *
  obtain ⟨n1, s1⟩ := t1
  dsimp only at *
  have hN2 := fun A1 c1 W (hr : RLies W A1 c1 s1) => numR2_any A1 c1 s1 W hr
  have hL2 := left_number s1 8 hL1
  generalize numberN s1 8 = t2 at *
  obtain ⟨n2, s2⟩ := t2
  dsimp only at *
  have hT := fun A1 c1 W (hr : RLies W A1 c1 s2) => textR2_any A1 c1 s2 W most hm hL2 hr
  generalize textN s2 most = t3 at *
  obtain ⟨d, s3⟩ := t3
  dsimp only at *
  simp only [inv] at *
  clear hL hL1 hL2 hm
  go_enter Try.func78, Try.ntmps78
  go_wp2_with fail
  refine (hN1 _ h2.below).mono ?_
  rintro e w1 ⟨A1, c1, rfl, hr1, hb1⟩
  have h3 := h2.step hb1
  obtain ⟨⟨a0, a1⟩, ⟨f0, f1⟩⟩ := row2 h3.r0
  clear h2 hb1 hN1
  have h4 := h3.store (.slice A1 (left s1) c1) (.bool s1.isNone)
  have hl4 := hr1 _ (h.below h4.below (Nat.le_refl _))
  go_wp2_with fail
  refine (hN2 A1 c1 _ hl4).mono ?_
  rintro e w2 ⟨A2, c2, rfl, hr2, hb2⟩
  have h5 := h4.step hb2
  obtain ⟨⟨a2, a3⟩, ⟨f2, f3⟩⟩ := row2 h5.r0
  clear h3 h4 hb2 hN2 a0 a1 f0 f1 hl4
  have h6 := h5.store (.slice A2 (left s2) c2) (.bool s2.isNone)
  have hl6 := hr2 _ (hr1 _ (h.below h6.below (Nat.le_refl _)))
  go_wp2_with fail
  refine (hT A2 c2 _ hl6).mono ?_
  rintro e w3 ⟨A3, c3, rfl, hr3, hb3⟩
  have h7 := h6.step hb3
  obtain ⟨⟨a4, a5⟩, ⟨f4, f5⟩⟩ := row2 h7.r0
  clear h5 h6 hb3 hT a2 a3 f2 f3 hl6
  have h8 := h7.store (.slice A3 (left s3) c3) (.bool s3.isNone)
  obtain ⟨⟨a6, a7⟩, ⟨f6, f7⟩⟩ := row2 h8.r0
  obtain ⟨⟨a8, a9⟩, ⟨f8, f9⟩⟩ := row2 h8.r1
  go_wp2
  go_region
  all_goals
    go_wp2
    refine bodyPost_ret (res_tmp3_cell rfl _ _ (w.heap.size + 1) _ _ _ rfl (two_set _ _ _ _ _ _ _ h8.r1)) rfl ?_
    exact ⟨A3, c3, by rw [IntWalk.i64_left, IntWalk.i64_left]; rfl, fun w0 h0 => hr3 _ (hr2 _ (hr1 _ h0)), ((h8.below.setCell (by simp) _).setCell (by simp) _).drew⟩

end Go.Proofs.Ytlojjodgoeclfaa
