/- RmsgRight's walk. -/
import Derived.Test.YtlojjodgoeclfaaRmsAwake
import Derived.Deep.Cut
import Derived.Deep.DeepCutAuto
import Derived.Outline
namespace Go.Proofs.Ytlojjodgoeclfaa.rmsgRight
open Go.ChangeShapes Go.WideShapes Go.ChangeAt Go.RowKit Go.Proofs.Ytlojjodgoeclfaa
set_option linter.unusedVariables false
set_option linter.unusedSimpArgs false

set_option maxRecDepth 100000 in
set_option maxHeartbeats 6400000 in
theorem walk (m1 m2 : Msg) (A1 : Option Addr) (cA1 : Nat) (E1 : Option Addr) (cE1 : Nat) (A2 : Option Addr) (cA2 : Nat) (E2 : Option Addr) (cE2 : Nat) (w : World) (h1 : MsgIn w (· < w.heap.size) m1 A1 cA1 E1 cE1) (h2 : MsgIn w (· < w.heap.size) m2 A2 cA2 E2 cE2) (hd1 : ∀ e ∈ m1.es, e.d.length ≤ 140737488355328) (hd2 : ∀ e ∈ m2.es, e.d.length ≤ 140737488355328) :
    Calls Try.prog 3 #[msgV m1 A1 cA1 E1 cE1, msgV m2 A2 cA2 E2 cE2] w fun e w' => e = .returned (.bool true) ∧ Below w.heap.size w w' := by
  have hF1 := fun W (hW : Below w.heap.size w W) => fewM_any m1 A1 cA1 E1 cE1 W _ (h1.below hW (Nat.le_refl _)) hd1
  have hF2 := fun W (hW : Below w.heap.size w W) => fewM_any m2 A2 cA2 E2 cE2 W _ (h2.below hW (Nat.le_refl _)) hd2
  have hRP := fun W (hW : Below w.heap.size w W) => rightMP_any m1 A1 cA1 E1 cE1 W _ (h1.below hW (Nat.le_refl _))
  have hRR := fun W (hW : Below w.heap.size w W) => rightMR_any m1 A1 cA1 E1 cE1 W _ (h1.below hW (Nat.le_refl _))
  have hSP := fun W (hW : Below w.heap.size w W) => sameMP_any m1 m2 A1 cA1 E1 cE1 A2 cA2 E2 cE2 W _ _ (h1.below hW (Nat.le_refl _)) (h2.below hW (Nat.le_refl _))
  have hSR := fun W (hW : Below w.heap.size w W) => sameMR_any m1 m2 A1 cA1 E1 cE1 A2 cA2 E2 cE2 W _ _ (h1.below hW (Nat.le_refl _)) (h2.below hW (Nat.le_refl _))
  have hSS := fun W (hW : Below w.heap.size w W) => sameMP_any m1 m1 A1 cA1 E1 cE1 A1 cA1 E1 cE1 W _ _ (h1.below hW (Nat.le_refl _)) (h1.below hW (Nat.le_refl _))
  simp only [sameM_refl] at hSS
  generalize fewM m1 = q1 at *
  generalize fewM m2 = q2 at *
  generalize rightM m1 = q3 at *
  generalize sameM m1 m2 = q4 at *
  clear h1 h2 hd1 hd2
  obtain ⟨k1, f1, o1, t1, i1, l1, c1, x1, b1, es1, si1, st1, sd1⟩ := m1
  obtain ⟨k2, f2, o2, t2, i2, l2, c2, x2, b2, es2, si2, st2, sd2⟩ := m2
  dsimp only [msgV] at *
  have hb0 : Below w.heap.size w ((w.alloc (.cells (mC k1 f1 o1 t1 i1 l1 c1 x1 b1 A1 es1.length cA1 si1 st1 E1 sd1.length cE1) 27)).alloc (.cells (mC k2 f2 o2 t2 i2 l2 c2 x2 b2 A2 es2.length cA2 si2 st2 E2 sd2.length cE2) 27)) := ((Below.refl _ _).alloc (Nat.le_refl _) _).alloc (by simp) _
  have hr1 : ((w.alloc (.cells (mC k1 f1 o1 t1 i1 l1 c1 x1 b1 A1 es1.length cA1 si1 st1 E1 sd1.length cE1) 27)).alloc (.cells (mC k2 f2 o2 t2 i2 l2 c2 x2 b2 A2 es2.length cA2 si2 st2 E2 sd2.length cE2) 27)).heap[w.heap.size]? = some (.cells (mC k1 f1 o1 t1 i1 l1 c1 x1 b1 A1 es1.length cA1 si1 st1 E1 sd1.length cE1) 27) := (Below.heap_alloc _ _ _ (by simp)).trans (heap_alloc_new _ _)
  have hr2 : ((w.alloc (.cells (mC k1 f1 o1 t1 i1 l1 c1 x1 b1 A1 es1.length cA1 si1 st1 E1 sd1.length cE1) 27)).alloc (.cells (mC k2 f2 o2 t2 i2 l2 c2 x2 b2 A2 es2.length cA2 si2 st2 E2 sd2.length cE2) 27)).heap[w.heap.size + 1]? = some (.cells (mC k2 f2 o2 t2 i2 l2 c2 x2 b2 A2 es2.length cA2 si2 st2 E2 sd2.length cE2) 27) := heap_alloc2_new _ _ _
  go_enter Try.func3, Try.ntmps3
  go_wp2_with fail
  refine (awake_any _).mono ?_
  rintro e w1 ⟨rfl, hb1⟩
  have hbw1 := hb0.trans (hb1.mono hb0.size)
  have hr1 := (hb1.block _ (hlt hr1)).trans hr1
  have hr2 := (hb1.block _ (hlt hr2)).trans hr2
  obtain ⟨⟨u0, u1, u2, u3, u4, u5, u6, u7, u8, u9, u10, u11, u12⟩, _⟩ := row13 hr1
  have hF1 := hF1 w1 hbw1
  clear hb0 hb1
  cases q1 with
  | false =>
    go_wp2_with fail
    refine hF1.mono ?_
    rintro e w2 ⟨rfl, hb2⟩
    have hbw2 := hbw1.trans (hb2.mono hbw1.size)
    go_wp2_with fail
    refine (awake_any _).mono ?_
    rintro e w3 ⟨rfl, hb3⟩
    go_wp2
    go_ret
    exact ⟨rfl, hbw2.trans (hb3.mono hbw2.size)⟩
  | true =>
  go_wp2_with fail
  refine hF1.mono ?_
  rintro e w2 ⟨rfl, hb2⟩
  have hbw2 := hbw1.trans (hb2.mono hbw1.size)
  have hr1 := (hb2.block _ (hlt hr1)).trans hr1
  have hr2 := (hb2.block _ (hlt hr2)).trans hr2
  have hF2 := hF2 w2 hbw2
  clear u0 u1 u2 u3 u4 u5 u6 u7 u8 u9 u10 u11 u12 hF1 hb2 hbw1
  obtain ⟨⟨v0, v1, v2, v3, v4, v5, v6, v7, v8, v9, v10, v11, v12⟩, _⟩ := row13 hr2
  cases q2 with
  | false =>
    go_wp2_with fail
    refine hF2.mono ?_
    rintro e w3 ⟨rfl, hb3⟩
    have hbw3 := hbw2.trans (hb3.mono hbw2.size)
    go_wp2_with fail
    refine (awake_any _).mono ?_
    rintro e w4 ⟨rfl, hb4⟩
    go_wp2
    go_ret
    exact ⟨rfl, hbw3.trans (hb4.mono hbw3.size)⟩
  | true =>
  go_wp2_with fail
  refine hF2.mono ?_
  rintro e w3 ⟨rfl, hb3⟩
  have hbw3 := hbw2.trans (hb3.mono hbw2.size)
  have hr1 := (hb3.block _ (hlt hr1)).trans hr1
  have hr2 := (hb3.block _ (hlt hr2)).trans hr2
  clear v0 v1 v2 v3 v4 v5 v6 v7 v8 v9 v10 v11 v12 hF2 hb3 hbw2
  have hrd1 : w3.drew.heap[w.heap.size]? = some (.cells (mC k1 f1 o1 t1 i1 l1 c1 x1 b1 A1 es1.length cA1 si1 st1 E1 sd1.length cE1) 27) := hr1
  have hrd2 : w3.drew.heap[w.heap.size + 1]? = some (.cells (mC k2 f2 o2 t2 i2 l2 c2 x2 b2 A2 es2.length cA2 si2 st2 E2 sd2.length cE2) 27) := hr2
  have hst : ∀ W W', Below w3.heap.size w3 W → Below W.heap.size W W' → (fun w' => Below w3.heap.size w3 w' ∧ (w'.cell? ⟨w.heap.size, 0, none⟩ = some (.int .i64 k1) ∧ w'.cell? ⟨w.heap.size, 1, none⟩ = some (.int .i64 f1) ∧ w'.cell? ⟨w.heap.size, 2, none⟩ = some (.int .i64 o1) ∧ w'.cell? ⟨w.heap.size, 3, none⟩ = some (.int .i64 t1) ∧ w'.cell? ⟨w.heap.size, 4, none⟩ = some (.int .i64 i1) ∧ w'.cell? ⟨w.heap.size, 5, none⟩ = some (.int .i64 l1) ∧ w'.cell? ⟨w.heap.size, 6, none⟩ = some (.int .i64 c1) ∧ w'.cell? ⟨w.heap.size, 7, none⟩ = some (.int .i64 x1) ∧ w'.cell? ⟨w.heap.size, 8, none⟩ = some (.bool b1) ∧ w'.cell? ⟨w.heap.size, 9, none⟩ = some (.slice A1 es1.length cA1) ∧ w'.cell? ⟨w.heap.size, 10, none⟩ = some (.int .i64 si1) ∧ w'.cell? ⟨w.heap.size, 11, none⟩ = some (.int .i64 st1) ∧ w'.cell? ⟨w.heap.size, 12, none⟩ = some (.slice E1 sd1.length cE1)) ∧ (w'.cell? ⟨w.heap.size + 1, 0, none⟩ = some (.int .i64 k2) ∧ w'.cell? ⟨w.heap.size + 1, 1, none⟩ = some (.int .i64 f2) ∧ w'.cell? ⟨w.heap.size + 1, 2, none⟩ = some (.int .i64 o2) ∧ w'.cell? ⟨w.heap.size + 1, 3, none⟩ = some (.int .i64 t2) ∧ w'.cell? ⟨w.heap.size + 1, 4, none⟩ = some (.int .i64 i2) ∧ w'.cell? ⟨w.heap.size + 1, 5, none⟩ = some (.int .i64 l2) ∧ w'.cell? ⟨w.heap.size + 1, 6, none⟩ = some (.int .i64 c2) ∧ w'.cell? ⟨w.heap.size + 1, 7, none⟩ = some (.int .i64 x2) ∧ w'.cell? ⟨w.heap.size + 1, 8, none⟩ = some (.bool b2) ∧ w'.cell? ⟨w.heap.size + 1, 9, none⟩ = some (.slice A2 es2.length cA2) ∧ w'.cell? ⟨w.heap.size + 1, 10, none⟩ = some (.int .i64 si2) ∧ w'.cell? ⟨w.heap.size + 1, 11, none⟩ = some (.int .i64 st2) ∧ w'.cell? ⟨w.heap.size + 1, 12, none⟩ = some (.slice E2 sd2.length cE2))) W' := fun W W' h1 h2 => by
    have h3 := h1.trans (h2.mono h1.size)
    exact ⟨h3, (row13 ((h3.block _ (hlt hr1)).trans hr1)).1, (row13 ((h3.block _ (hlt hr2)).trans hr2)).1⟩
  have hsw : ∀ W g cs, Below w3.heap.size w3 W → w3.heap.size ≤ g → (fun w' => Below w3.heap.size w3 w' ∧ (w'.cell? ⟨w.heap.size, 0, none⟩ = some (.int .i64 k1) ∧ w'.cell? ⟨w.heap.size, 1, none⟩ = some (.int .i64 f1) ∧ w'.cell? ⟨w.heap.size, 2, none⟩ = some (.int .i64 o1) ∧ w'.cell? ⟨w.heap.size, 3, none⟩ = some (.int .i64 t1) ∧ w'.cell? ⟨w.heap.size, 4, none⟩ = some (.int .i64 i1) ∧ w'.cell? ⟨w.heap.size, 5, none⟩ = some (.int .i64 l1) ∧ w'.cell? ⟨w.heap.size, 6, none⟩ = some (.int .i64 c1) ∧ w'.cell? ⟨w.heap.size, 7, none⟩ = some (.int .i64 x1) ∧ w'.cell? ⟨w.heap.size, 8, none⟩ = some (.bool b1) ∧ w'.cell? ⟨w.heap.size, 9, none⟩ = some (.slice A1 es1.length cA1) ∧ w'.cell? ⟨w.heap.size, 10, none⟩ = some (.int .i64 si1) ∧ w'.cell? ⟨w.heap.size, 11, none⟩ = some (.int .i64 st1) ∧ w'.cell? ⟨w.heap.size, 12, none⟩ = some (.slice E1 sd1.length cE1)) ∧ (w'.cell? ⟨w.heap.size + 1, 0, none⟩ = some (.int .i64 k2) ∧ w'.cell? ⟨w.heap.size + 1, 1, none⟩ = some (.int .i64 f2) ∧ w'.cell? ⟨w.heap.size + 1, 2, none⟩ = some (.int .i64 o2) ∧ w'.cell? ⟨w.heap.size + 1, 3, none⟩ = some (.int .i64 t2) ∧ w'.cell? ⟨w.heap.size + 1, 4, none⟩ = some (.int .i64 i2) ∧ w'.cell? ⟨w.heap.size + 1, 5, none⟩ = some (.int .i64 l2) ∧ w'.cell? ⟨w.heap.size + 1, 6, none⟩ = some (.int .i64 c2) ∧ w'.cell? ⟨w.heap.size + 1, 7, none⟩ = some (.int .i64 x2) ∧ w'.cell? ⟨w.heap.size + 1, 8, none⟩ = some (.bool b2) ∧ w'.cell? ⟨w.heap.size + 1, 9, none⟩ = some (.slice A2 es2.length cA2) ∧ w'.cell? ⟨w.heap.size + 1, 10, none⟩ = some (.int .i64 si2) ∧ w'.cell? ⟨w.heap.size + 1, 11, none⟩ = some (.int .i64 st2) ∧ w'.cell? ⟨w.heap.size + 1, 12, none⟩ = some (.slice E2 sd2.length cE2))) (W.setRow g cs) := fun W g cs h1 hg => by
    have h3 := below_setRow h1 hg cs
    exact ⟨h3, (row13 ((h3.block _ (hlt hr1)).trans hr1)).1, (row13 ((h3.block _ (hlt hr2)).trans hr2)).1⟩
  have hS0 : (fun w' => Below w3.heap.size w3 w' ∧ (w'.cell? ⟨w.heap.size, 0, none⟩ = some (.int .i64 k1) ∧ w'.cell? ⟨w.heap.size, 1, none⟩ = some (.int .i64 f1) ∧ w'.cell? ⟨w.heap.size, 2, none⟩ = some (.int .i64 o1) ∧ w'.cell? ⟨w.heap.size, 3, none⟩ = some (.int .i64 t1) ∧ w'.cell? ⟨w.heap.size, 4, none⟩ = some (.int .i64 i1) ∧ w'.cell? ⟨w.heap.size, 5, none⟩ = some (.int .i64 l1) ∧ w'.cell? ⟨w.heap.size, 6, none⟩ = some (.int .i64 c1) ∧ w'.cell? ⟨w.heap.size, 7, none⟩ = some (.int .i64 x1) ∧ w'.cell? ⟨w.heap.size, 8, none⟩ = some (.bool b1) ∧ w'.cell? ⟨w.heap.size, 9, none⟩ = some (.slice A1 es1.length cA1) ∧ w'.cell? ⟨w.heap.size, 10, none⟩ = some (.int .i64 si1) ∧ w'.cell? ⟨w.heap.size, 11, none⟩ = some (.int .i64 st1) ∧ w'.cell? ⟨w.heap.size, 12, none⟩ = some (.slice E1 sd1.length cE1)) ∧ (w'.cell? ⟨w.heap.size + 1, 0, none⟩ = some (.int .i64 k2) ∧ w'.cell? ⟨w.heap.size + 1, 1, none⟩ = some (.int .i64 f2) ∧ w'.cell? ⟨w.heap.size + 1, 2, none⟩ = some (.int .i64 o2) ∧ w'.cell? ⟨w.heap.size + 1, 3, none⟩ = some (.int .i64 t2) ∧ w'.cell? ⟨w.heap.size + 1, 4, none⟩ = some (.int .i64 i2) ∧ w'.cell? ⟨w.heap.size + 1, 5, none⟩ = some (.int .i64 l2) ∧ w'.cell? ⟨w.heap.size + 1, 6, none⟩ = some (.int .i64 c2) ∧ w'.cell? ⟨w.heap.size + 1, 7, none⟩ = some (.int .i64 x2) ∧ w'.cell? ⟨w.heap.size + 1, 8, none⟩ = some (.bool b2) ∧ w'.cell? ⟨w.heap.size + 1, 9, none⟩ = some (.slice A2 es2.length cA2) ∧ w'.cell? ⟨w.heap.size + 1, 10, none⟩ = some (.int .i64 si2) ∧ w'.cell? ⟨w.heap.size + 1, 11, none⟩ = some (.int .i64 st2) ∧ w'.cell? ⟨w.heap.size + 1, 12, none⟩ = some (.slice E2 sd2.length cE2))) w3.drew := ⟨(Below.refl _ _).drew, (row13 hrd1).1, (row13 hrd2).1⟩
  have hT1 := to_is k1 f1 o1 t1 i1 l1 c1 x1 b1 A1 es1.length cA1 si1 st1 E1 sd1.length cE1
  have hT2 := to_is k2 f2 o2 t2 i2 l2 c2 x2 b2 A2 es2.length cA2 si2 st2 E2 sd2.length cE2
  go_upto_region 3 with fail
  go_cut [5, 6] (fun u v wx => ∃ g5 g6, u = .pointer (some ⟨g5, 0, none⟩) ∧ v = .pointer (some ⟨g6, 0, none⟩) ∧ wx.heap[g5]? = some (.cells (mC k1 f1 o1 t1 i1 l1 c1 x1 b1 A1 es1.length cA1 si1 st1 E1 sd1.length cE1) 30) ∧ wx.heap[g6]? = some (.cells (mC k2 f2 o2 t2 i2 l2 c2 x2 b2 A2 es2.length cA2 si2 st2 E2 sd2.length cE2) 30) ∧ Below w3.heap.size w3 wx)
  case first =>
    refine wp_region_held_drew (S := (fun w' => Below w3.heap.size w3 w' ∧ (w'.cell? ⟨w.heap.size, 0, none⟩ = some (.int .i64 k1) ∧ w'.cell? ⟨w.heap.size, 1, none⟩ = some (.int .i64 f1) ∧ w'.cell? ⟨w.heap.size, 2, none⟩ = some (.int .i64 o1) ∧ w'.cell? ⟨w.heap.size, 3, none⟩ = some (.int .i64 t1) ∧ w'.cell? ⟨w.heap.size, 4, none⟩ = some (.int .i64 i1) ∧ w'.cell? ⟨w.heap.size, 5, none⟩ = some (.int .i64 l1) ∧ w'.cell? ⟨w.heap.size, 6, none⟩ = some (.int .i64 c1) ∧ w'.cell? ⟨w.heap.size, 7, none⟩ = some (.int .i64 x1) ∧ w'.cell? ⟨w.heap.size, 8, none⟩ = some (.bool b1) ∧ w'.cell? ⟨w.heap.size, 9, none⟩ = some (.slice A1 es1.length cA1) ∧ w'.cell? ⟨w.heap.size, 10, none⟩ = some (.int .i64 si1) ∧ w'.cell? ⟨w.heap.size, 11, none⟩ = some (.int .i64 st1) ∧ w'.cell? ⟨w.heap.size, 12, none⟩ = some (.slice E1 sd1.length cE1)) ∧ (w'.cell? ⟨w.heap.size + 1, 0, none⟩ = some (.int .i64 k2) ∧ w'.cell? ⟨w.heap.size + 1, 1, none⟩ = some (.int .i64 f2) ∧ w'.cell? ⟨w.heap.size + 1, 2, none⟩ = some (.int .i64 o2) ∧ w'.cell? ⟨w.heap.size + 1, 3, none⟩ = some (.int .i64 t2) ∧ w'.cell? ⟨w.heap.size + 1, 4, none⟩ = some (.int .i64 i2) ∧ w'.cell? ⟨w.heap.size + 1, 5, none⟩ = some (.int .i64 l2) ∧ w'.cell? ⟨w.heap.size + 1, 6, none⟩ = some (.int .i64 c2) ∧ w'.cell? ⟨w.heap.size + 1, 7, none⟩ = some (.int .i64 x2) ∧ w'.cell? ⟨w.heap.size + 1, 8, none⟩ = some (.bool b2) ∧ w'.cell? ⟨w.heap.size + 1, 9, none⟩ = some (.slice A2 es2.length cA2) ∧ w'.cell? ⟨w.heap.size + 1, 10, none⟩ = some (.int .i64 si2) ∧ w'.cell? ⟨w.heap.size + 1, 11, none⟩ = some (.int .i64 st2) ∧ w'.cell? ⟨w.heap.size + 1, 12, none⟩ = some (.slice E2 sd2.length cE2)))) (by kernel_rfl) hS0 (fun hHeld => ?_)
    change wpAnyH _ _ _ _ _ 8 #[false, false, false, false, false, false, false, false] _ _
    refine wpAnyH_take (i := 0) (oi := { dst := some 20, op := Go.Op.load 27 (Go.Operand.tmp 2), type := 27, pos := "law.go:28", after := #[], guard := none }) (v := ?_) rfl (by kernel_rfl) (by kernel_rfl) (by kernel_rfl) (fun _ _ _ h => h) (Or.inl ⟨by rfl, ?_⟩) (by assumption) ?_
    rotate_left
    · ((intro w hSw; (try dsimp only at hSw); go_simp); (try with_reducible rfl))
    try simp only [Act.put, List.setIfInBounds_toArray, List.set_cons_zero, List.set_cons_succ]
    refine wpAnyH_take (i := 2) (oi := { dst := some 22, op := Go.Op.load 27 (Go.Operand.tmp 3), type := 27, pos := "law.go:28", after := #[], guard := none }) (v := ?_) rfl (by kernel_rfl) (by kernel_rfl) (by kernel_rfl) (fun _ _ _ h => h) (Or.inl ⟨by rfl, ?_⟩) (by assumption) ?_
    rotate_left
    · ((intro w hSw; (try dsimp only at hSw); go_simp); (try with_reducible rfl))
    try simp only [Act.put, List.setIfInBounds_toArray, List.set_cons_zero, List.set_cons_succ]
    generalize w3.drew = wd at *
    refine wpAnyH_ready (rs := [1, 4, 5]) (by kernel_rfl) (by simp) ?_
    refine AllReadyH.cons (o := { dst := some 21, op := Go.Op.call { callee := Go.Callee.value (Go.Operand.func 9), args := #[Go.Operand.tmp 20], argTypes := #[27] }, type := 30, pos := "law.go:28", after := #[{ on := 0, ground := Go.Ground.data }], guard := none }) rfl (fun KK hK => ?_) ?_
    · go_simp
      refine (hT1 _).mono ?_
      rintro e wy1 ⟨rfl, hbn⟩
      have hS7 := hst _ wy1 hHeld.1 hbn
      refine hK.out _ _ hS7 (fun hHeld2 => ?_)
      clear hK KK hHeld
      have hHeld := hHeld2
      clear hHeld2
      try simp only [Act.put, List.setIfInBounds_toArray, List.set_cons_zero, List.set_cons_succ]
      refine wpAnyH_ready (rs := [3, 4, 5]) (by kernel_rfl) (by simp) ?_
      refine AllReadyH.cons (o := { dst := some 23, op := Go.Op.call { callee := Go.Callee.value (Go.Operand.func 9), args := #[Go.Operand.tmp 22], argTypes := #[27] }, type := 30, pos := "law.go:28", after := #[{ on := 2, ground := Go.Ground.data }, { on := 1, ground := Go.Ground.chain }], guard := none }) rfl (fun KK hK => ?_) ?_
      · go_simp
        refine (hT2 _).mono ?_
        rintro e wy2 ⟨rfl, hbn⟩
        have hS7 := hst _ wy2 hHeld.1 hbn
        refine hK.out _ _ hS7 (fun hHeld2 => ?_)
        clear hK KK hHeld
        have hHeld := hHeld2
        clear hHeld2
        try simp only [Act.put, List.setIfInBounds_toArray, List.set_cons_zero, List.set_cons_succ]
        refine wpAnyH_ready (rs := [4, 5]) (by kernel_rfl) (by simp) ?_
        refine AllReadyH.cons (o := { dst := some 5, op := Go.Op.alloc 30, type := 0, pos := "law.go:28", after := #[], guard := none }) rfl (fun KK hK => ?_) ?_
        · go_simp
          generalize hW : World.alloc _ (.cells (mC 0 0 0 0 0 0 0 0 false none 0 0 0 0 none 0 0) 30) = wy3
          have hbn := (Below.refl wy2.heap.size wy2).alloc (Nat.le_refl _) (.cells (mC 0 0 0 0 0 0 0 0 false none 0 0 0 0 none 0 0) 30)
          rw [hW] at hbn
          have hS7 := hst _ wy3 hHeld.1 hbn
          have r5 := heap_alloc_new wy2 (.cells (mC 0 0 0 0 0 0 0 0 false none 0 0 0 0 none 0 0) 30)
          rw [hW] at r5
          have l5 : w3.heap.size ≤ wy2.heap.size := hHeld.1.size
          clear hW
          refine hK.out _ _ hS7 (fun hHeld2 => ?_)
          clear hK KK hHeld
          have hHeld := hHeld2
          clear hHeld2
          try simp only [Act.put, List.setIfInBounds_toArray, List.set_cons_zero, List.set_cons_succ]
          refine wpAnyH_ready (rs := [5]) (by kernel_rfl) (by simp) ?_
          refine AllReadyH.cons (o := { dst := some 6, op := Go.Op.alloc 30, type := 0, pos := "law.go:28", after := #[], guard := none }) rfl (fun KK hK => ?_) AllReadyH.nil
          go_simp
          have l65 := Nat.ne_of_lt (hlt r5)
          generalize hW : World.alloc _ (.cells (mC 0 0 0 0 0 0 0 0 false none 0 0 0 0 none 0 0) 30) = wy4
          have hbn := (Below.refl wy3.heap.size wy3).alloc (Nat.le_refl _) (.cells (mC 0 0 0 0 0 0 0 0 false none 0 0 0 0 none 0 0) 30)
          rw [hW] at hbn
          have hS7 := hst _ wy4 hHeld.1 hbn
          have r5 := (hbn.block _ (hlt r5)).trans r5
          have r6 := heap_alloc_new wy3 (.cells (mC 0 0 0 0 0 0 0 0 false none 0 0 0 0 none 0 0) 30)
          rw [hW] at r6
          have l6 : w3.heap.size ≤ wy3.heap.size := hHeld.1.size
          clear hW
          refine hK.out _ _ hS7 (fun hHeld2 => ?_)
          clear hK KK hHeld
          have hHeld := hHeld2
          clear hHeld2
          try simp only [Act.put, List.setIfInBounds_toArray, List.set_cons_zero, List.set_cons_succ]
          refine wpAnyH_ready (rs := [6]) (by kernel_rfl) (by simp) ?_
          refine AllReadyH.cons (o := { dst := none, op := Go.Op.store 30 (Go.Operand.tmp 5) (Go.Operand.tmp 21), type := 0, pos := "law.go:28", after := #[{ on := 4, ground := Go.Ground.data }, { on := 1, ground := Go.Ground.data }, { on := 3, ground := Go.Ground.chain }, { on := 0, ground := Go.Ground.phase }, { on := 1, ground := Go.Ground.phase }, { on := 2, ground := Go.Ground.textOnly Go.Departure.lateStores }, { on := 3, ground := Go.Ground.textOnly Go.Departure.lateStoresUnsure }, { on := 4, ground := Go.Ground.phase }, { on := 5, ground := Go.Ground.phase }], guard := none }) rfl (fun KK hK => ?_) AllReadyH.nil
          rw [if_pos (by rfl)]
          refine wp_store_row _ _ _ rfl _ #[.int .i64 k1, .int .i64 f1, .int .i64 o1, .int .i64 t1, .int .i64 i1, .int .i64 l1, .int .i64 c1, .int .i64 x1, .bool b1, .slice A1 es1.length cA1, .int .i64 si1, .int .i64 st1, .slice E1 sd1.length cE1] (by rfl) (by rfl) _ _ r5 (by kernel_rfl) rfl (by first | rfl | kernel_rfl | simp [Value.oneCell']) ?_
          have hS7 := hsw _ _ #[.int .i64 k1, .int .i64 f1, .int .i64 o1, .int .i64 t1, .int .i64 i1, .int .i64 l1, .int .i64 c1, .int .i64 x1, .bool b1, .slice A1 es1.length cA1, .int .i64 si1, .int .i64 st1, .slice E1 sd1.length cE1] hHeld.1 l5
          have r5 := setRow_at #[.int .i64 k1, .int .i64 f1, .int .i64 o1, .int .i64 t1, .int .i64 i1, .int .i64 l1, .int .i64 c1, .int .i64 x1, .bool b1, .slice A1 es1.length cA1, .int .i64 si1, .int .i64 st1, .slice E1 sd1.length cE1] r5
          have r6 := (setRow_other _ _ _ #[.int .i64 k1, .int .i64 f1, .int .i64 o1, .int .i64 t1, .int .i64 i1, .int .i64 l1, .int .i64 c1, .int .i64 x1, .bool b1, .slice A1 es1.length cA1, .int .i64 si1, .int .i64 st1, .slice E1 sd1.length cE1] (by first | exact l65 | exact l65.symm)).trans r6
          generalize hW : World.setRow _ _ _ = wy5 at *
          clear hW
          refine hK.out _ _ hS7 (fun hHeld2 => ?_)
          clear hK KK hHeld
          have hHeld := hHeld2
          clear hHeld2
          try simp only [Act.put, List.setIfInBounds_toArray, List.set_cons_zero, List.set_cons_succ]
          refine wpAnyH_ready (rs := [7]) (by kernel_rfl) (by simp) ?_
          refine AllReadyH.cons (o := { dst := none, op := Go.Op.store 30 (Go.Operand.tmp 6) (Go.Operand.tmp 23), type := 0, pos := "law.go:28", after := #[{ on := 5, ground := Go.Ground.data }, { on := 3, ground := Go.Ground.data }, { on := 6, ground := Go.Ground.chain }, { on := 0, ground := Go.Ground.phase }, { on := 1, ground := Go.Ground.phase }, { on := 2, ground := Go.Ground.phase }, { on := 3, ground := Go.Ground.phase }, { on := 4, ground := Go.Ground.phase }, { on := 5, ground := Go.Ground.phase }, { on := 6, ground := Go.Ground.phase }], guard := none }) rfl (fun KK hK => ?_) AllReadyH.nil
          rw [if_pos (by rfl)]
          refine wp_store_row _ _ _ rfl _ #[.int .i64 k2, .int .i64 f2, .int .i64 o2, .int .i64 t2, .int .i64 i2, .int .i64 l2, .int .i64 c2, .int .i64 x2, .bool b2, .slice A2 es2.length cA2, .int .i64 si2, .int .i64 st2, .slice E2 sd2.length cE2] (by rfl) (by rfl) _ _ r6 (by kernel_rfl) rfl (by first | rfl | kernel_rfl | simp [Value.oneCell']) ?_
          have hS7 := hsw _ _ #[.int .i64 k2, .int .i64 f2, .int .i64 o2, .int .i64 t2, .int .i64 i2, .int .i64 l2, .int .i64 c2, .int .i64 x2, .bool b2, .slice A2 es2.length cA2, .int .i64 si2, .int .i64 st2, .slice E2 sd2.length cE2] hHeld.1 l6
          have r6 := setRow_at #[.int .i64 k2, .int .i64 f2, .int .i64 o2, .int .i64 t2, .int .i64 i2, .int .i64 l2, .int .i64 c2, .int .i64 x2, .bool b2, .slice A2 es2.length cA2, .int .i64 si2, .int .i64 st2, .slice E2 sd2.length cE2] r6
          have r5 := (setRow_other _ _ _ #[.int .i64 k2, .int .i64 f2, .int .i64 o2, .int .i64 t2, .int .i64 i2, .int .i64 l2, .int .i64 c2, .int .i64 x2, .bool b2, .slice A2 es2.length cA2, .int .i64 si2, .int .i64 st2, .slice E2 sd2.length cE2] (by first | exact l65 | exact l65.symm)).trans r5
          generalize hW : World.setRow _ _ _ = wy6 at *
          clear hW
          refine hK.out _ _ hS7 (fun hHeld2 => ?_)
          clear hK KK hHeld
          have hHeld := hHeld2
          clear hHeld2
          try simp only [Act.put, List.setIfInBounds_toArray, List.set_cons_zero, List.set_cons_succ]
          refine wpAnyH_done (by kernel_rfl) ?_ _
          go_wp2_with fail
          go_meet
          exact ⟨_, _, rfl, rfl, r5, r6, hHeld.1⟩
        refine AllReadyH.cons (o := { dst := some 6, op := Go.Op.alloc 30, type := 0, pos := "law.go:28", after := #[], guard := none }) rfl (fun KK hK => ?_) AllReadyH.nil
        go_simp
        generalize hW : World.alloc _ (.cells (mC 0 0 0 0 0 0 0 0 false none 0 0 0 0 none 0 0) 30) = wy7
        have hbn := (Below.refl wy2.heap.size wy2).alloc (Nat.le_refl _) (.cells (mC 0 0 0 0 0 0 0 0 false none 0 0 0 0 none 0 0) 30)
        rw [hW] at hbn
        have hS7 := hst _ wy7 hHeld.1 hbn
        have r6 := heap_alloc_new wy2 (.cells (mC 0 0 0 0 0 0 0 0 false none 0 0 0 0 none 0 0) 30)
        rw [hW] at r6
        have l6 : w3.heap.size ≤ wy2.heap.size := hHeld.1.size
        clear hW
        refine hK.out _ _ hS7 (fun hHeld2 => ?_)
        clear hK KK hHeld
        have hHeld := hHeld2
        clear hHeld2
        try simp only [Act.put, List.setIfInBounds_toArray, List.set_cons_zero, List.set_cons_succ]
        refine wpAnyH_ready (rs := [4]) (by kernel_rfl) (by simp) ?_
        refine AllReadyH.cons (o := { dst := some 5, op := Go.Op.alloc 30, type := 0, pos := "law.go:28", after := #[], guard := none }) rfl (fun KK hK => ?_) AllReadyH.nil
        go_simp
        have l65 := Nat.ne_of_lt (hlt r6)
        generalize hW : World.alloc _ (.cells (mC 0 0 0 0 0 0 0 0 false none 0 0 0 0 none 0 0) 30) = wy8
        have hbn := (Below.refl wy7.heap.size wy7).alloc (Nat.le_refl _) (.cells (mC 0 0 0 0 0 0 0 0 false none 0 0 0 0 none 0 0) 30)
        rw [hW] at hbn
        have hS7 := hst _ wy8 hHeld.1 hbn
        have r6 := (hbn.block _ (hlt r6)).trans r6
        have r5 := heap_alloc_new wy7 (.cells (mC 0 0 0 0 0 0 0 0 false none 0 0 0 0 none 0 0) 30)
        rw [hW] at r5
        have l5 : w3.heap.size ≤ wy7.heap.size := hHeld.1.size
        clear hW
        refine hK.out _ _ hS7 (fun hHeld2 => ?_)
        clear hK KK hHeld
        have hHeld := hHeld2
        clear hHeld2
        try simp only [Act.put, List.setIfInBounds_toArray, List.set_cons_zero, List.set_cons_succ]
        refine wpAnyH_ready (rs := [6]) (by kernel_rfl) (by simp) ?_
        refine AllReadyH.cons (o := { dst := none, op := Go.Op.store 30 (Go.Operand.tmp 5) (Go.Operand.tmp 21), type := 0, pos := "law.go:28", after := #[{ on := 4, ground := Go.Ground.data }, { on := 1, ground := Go.Ground.data }, { on := 3, ground := Go.Ground.chain }, { on := 0, ground := Go.Ground.phase }, { on := 1, ground := Go.Ground.phase }, { on := 2, ground := Go.Ground.textOnly Go.Departure.lateStores }, { on := 3, ground := Go.Ground.textOnly Go.Departure.lateStoresUnsure }, { on := 4, ground := Go.Ground.phase }, { on := 5, ground := Go.Ground.phase }], guard := none }) rfl (fun KK hK => ?_) AllReadyH.nil
        rw [if_pos (by rfl)]
        refine wp_store_row _ _ _ rfl _ #[.int .i64 k1, .int .i64 f1, .int .i64 o1, .int .i64 t1, .int .i64 i1, .int .i64 l1, .int .i64 c1, .int .i64 x1, .bool b1, .slice A1 es1.length cA1, .int .i64 si1, .int .i64 st1, .slice E1 sd1.length cE1] (by rfl) (by rfl) _ _ r5 (by kernel_rfl) rfl (by first | rfl | kernel_rfl | simp [Value.oneCell']) ?_
        have hS7 := hsw _ _ #[.int .i64 k1, .int .i64 f1, .int .i64 o1, .int .i64 t1, .int .i64 i1, .int .i64 l1, .int .i64 c1, .int .i64 x1, .bool b1, .slice A1 es1.length cA1, .int .i64 si1, .int .i64 st1, .slice E1 sd1.length cE1] hHeld.1 l5
        have r5 := setRow_at #[.int .i64 k1, .int .i64 f1, .int .i64 o1, .int .i64 t1, .int .i64 i1, .int .i64 l1, .int .i64 c1, .int .i64 x1, .bool b1, .slice A1 es1.length cA1, .int .i64 si1, .int .i64 st1, .slice E1 sd1.length cE1] r5
        have r6 := (setRow_other _ _ _ #[.int .i64 k1, .int .i64 f1, .int .i64 o1, .int .i64 t1, .int .i64 i1, .int .i64 l1, .int .i64 c1, .int .i64 x1, .bool b1, .slice A1 es1.length cA1, .int .i64 si1, .int .i64 st1, .slice E1 sd1.length cE1] (by first | exact l65 | exact l65.symm)).trans r6
        generalize hW : World.setRow _ _ _ = wy9 at *
        clear hW
        refine hK.out _ _ hS7 (fun hHeld2 => ?_)
        clear hK KK hHeld
        have hHeld := hHeld2
        clear hHeld2
        try simp only [Act.put, List.setIfInBounds_toArray, List.set_cons_zero, List.set_cons_succ]
        refine wpAnyH_ready (rs := [7]) (by kernel_rfl) (by simp) ?_
        refine AllReadyH.cons (o := { dst := none, op := Go.Op.store 30 (Go.Operand.tmp 6) (Go.Operand.tmp 23), type := 0, pos := "law.go:28", after := #[{ on := 5, ground := Go.Ground.data }, { on := 3, ground := Go.Ground.data }, { on := 6, ground := Go.Ground.chain }, { on := 0, ground := Go.Ground.phase }, { on := 1, ground := Go.Ground.phase }, { on := 2, ground := Go.Ground.phase }, { on := 3, ground := Go.Ground.phase }, { on := 4, ground := Go.Ground.phase }, { on := 5, ground := Go.Ground.phase }, { on := 6, ground := Go.Ground.phase }], guard := none }) rfl (fun KK hK => ?_) AllReadyH.nil
        rw [if_pos (by rfl)]
        refine wp_store_row _ _ _ rfl _ #[.int .i64 k2, .int .i64 f2, .int .i64 o2, .int .i64 t2, .int .i64 i2, .int .i64 l2, .int .i64 c2, .int .i64 x2, .bool b2, .slice A2 es2.length cA2, .int .i64 si2, .int .i64 st2, .slice E2 sd2.length cE2] (by rfl) (by rfl) _ _ r6 (by kernel_rfl) rfl (by first | rfl | kernel_rfl | simp [Value.oneCell']) ?_
        have hS7 := hsw _ _ #[.int .i64 k2, .int .i64 f2, .int .i64 o2, .int .i64 t2, .int .i64 i2, .int .i64 l2, .int .i64 c2, .int .i64 x2, .bool b2, .slice A2 es2.length cA2, .int .i64 si2, .int .i64 st2, .slice E2 sd2.length cE2] hHeld.1 l6
        have r6 := setRow_at #[.int .i64 k2, .int .i64 f2, .int .i64 o2, .int .i64 t2, .int .i64 i2, .int .i64 l2, .int .i64 c2, .int .i64 x2, .bool b2, .slice A2 es2.length cA2, .int .i64 si2, .int .i64 st2, .slice E2 sd2.length cE2] r6
        have r5 := (setRow_other _ _ _ #[.int .i64 k2, .int .i64 f2, .int .i64 o2, .int .i64 t2, .int .i64 i2, .int .i64 l2, .int .i64 c2, .int .i64 x2, .bool b2, .slice A2 es2.length cA2, .int .i64 si2, .int .i64 st2, .slice E2 sd2.length cE2] (by first | exact l65 | exact l65.symm)).trans r5
        generalize hW : World.setRow _ _ _ = wy10 at *
        clear hW
        refine hK.out _ _ hS7 (fun hHeld2 => ?_)
        clear hK KK hHeld
        have hHeld := hHeld2
        clear hHeld2
        try simp only [Act.put, List.setIfInBounds_toArray, List.set_cons_zero, List.set_cons_succ]
        refine wpAnyH_done (by kernel_rfl) ?_ _
        go_wp2_with fail
        go_meet
        exact ⟨_, _, rfl, rfl, r5, r6, hHeld.1⟩
      refine AllReadyH.cons (o := { dst := some 5, op := Go.Op.alloc 30, type := 0, pos := "law.go:28", after := #[], guard := none }) rfl (fun KK hK => ?_) ?_
      · go_simp
        generalize hW : World.alloc _ (.cells (mC 0 0 0 0 0 0 0 0 false none 0 0 0 0 none 0 0) 30) = wy11
        have hbn := (Below.refl wy1.heap.size wy1).alloc (Nat.le_refl _) (.cells (mC 0 0 0 0 0 0 0 0 false none 0 0 0 0 none 0 0) 30)
        rw [hW] at hbn
        have hS7 := hst _ wy11 hHeld.1 hbn
        have r5 := heap_alloc_new wy1 (.cells (mC 0 0 0 0 0 0 0 0 false none 0 0 0 0 none 0 0) 30)
        rw [hW] at r5
        have l5 : w3.heap.size ≤ wy1.heap.size := hHeld.1.size
        clear hW
        refine hK.out _ _ hS7 (fun hHeld2 => ?_)
        clear hK KK hHeld
        have hHeld := hHeld2
        clear hHeld2
        try simp only [Act.put, List.setIfInBounds_toArray, List.set_cons_zero, List.set_cons_succ]
        refine wpAnyH_ready (rs := [3, 5]) (by kernel_rfl) (by simp) ?_
        refine AllReadyH.cons (o := { dst := some 23, op := Go.Op.call { callee := Go.Callee.value (Go.Operand.func 9), args := #[Go.Operand.tmp 22], argTypes := #[27] }, type := 30, pos := "law.go:28", after := #[{ on := 2, ground := Go.Ground.data }, { on := 1, ground := Go.Ground.chain }], guard := none }) rfl (fun KK hK => ?_) ?_
        · go_simp
          refine (hT2 _).mono ?_
          rintro e wy12 ⟨rfl, hbn⟩
          have hS7 := hst _ wy12 hHeld.1 hbn
          have r5 := (hbn.block _ (hlt r5)).trans r5
          refine hK.out _ _ hS7 (fun hHeld2 => ?_)
          clear hK KK hHeld
          have hHeld := hHeld2
          clear hHeld2
          try simp only [Act.put, List.setIfInBounds_toArray, List.set_cons_zero, List.set_cons_succ]
          refine wpAnyH_ready (rs := [5]) (by kernel_rfl) (by simp) ?_
          refine AllReadyH.cons (o := { dst := some 6, op := Go.Op.alloc 30, type := 0, pos := "law.go:28", after := #[], guard := none }) rfl (fun KK hK => ?_) AllReadyH.nil
          go_simp
          have l65 := Nat.ne_of_lt (hlt r5)
          generalize hW : World.alloc _ (.cells (mC 0 0 0 0 0 0 0 0 false none 0 0 0 0 none 0 0) 30) = wy13
          have hbn := (Below.refl wy12.heap.size wy12).alloc (Nat.le_refl _) (.cells (mC 0 0 0 0 0 0 0 0 false none 0 0 0 0 none 0 0) 30)
          rw [hW] at hbn
          have hS7 := hst _ wy13 hHeld.1 hbn
          have r5 := (hbn.block _ (hlt r5)).trans r5
          have r6 := heap_alloc_new wy12 (.cells (mC 0 0 0 0 0 0 0 0 false none 0 0 0 0 none 0 0) 30)
          rw [hW] at r6
          have l6 : w3.heap.size ≤ wy12.heap.size := hHeld.1.size
          clear hW
          refine hK.out _ _ hS7 (fun hHeld2 => ?_)
          clear hK KK hHeld
          have hHeld := hHeld2
          clear hHeld2
          try simp only [Act.put, List.setIfInBounds_toArray, List.set_cons_zero, List.set_cons_succ]
          refine wpAnyH_ready (rs := [6]) (by kernel_rfl) (by simp) ?_
          refine AllReadyH.cons (o := { dst := none, op := Go.Op.store 30 (Go.Operand.tmp 5) (Go.Operand.tmp 21), type := 0, pos := "law.go:28", after := #[{ on := 4, ground := Go.Ground.data }, { on := 1, ground := Go.Ground.data }, { on := 3, ground := Go.Ground.chain }, { on := 0, ground := Go.Ground.phase }, { on := 1, ground := Go.Ground.phase }, { on := 2, ground := Go.Ground.textOnly Go.Departure.lateStores }, { on := 3, ground := Go.Ground.textOnly Go.Departure.lateStoresUnsure }, { on := 4, ground := Go.Ground.phase }, { on := 5, ground := Go.Ground.phase }], guard := none }) rfl (fun KK hK => ?_) AllReadyH.nil
          rw [if_pos (by rfl)]
          refine wp_store_row _ _ _ rfl _ #[.int .i64 k1, .int .i64 f1, .int .i64 o1, .int .i64 t1, .int .i64 i1, .int .i64 l1, .int .i64 c1, .int .i64 x1, .bool b1, .slice A1 es1.length cA1, .int .i64 si1, .int .i64 st1, .slice E1 sd1.length cE1] (by rfl) (by rfl) _ _ r5 (by kernel_rfl) rfl (by first | rfl | kernel_rfl | simp [Value.oneCell']) ?_
          have hS7 := hsw _ _ #[.int .i64 k1, .int .i64 f1, .int .i64 o1, .int .i64 t1, .int .i64 i1, .int .i64 l1, .int .i64 c1, .int .i64 x1, .bool b1, .slice A1 es1.length cA1, .int .i64 si1, .int .i64 st1, .slice E1 sd1.length cE1] hHeld.1 l5
          have r5 := setRow_at #[.int .i64 k1, .int .i64 f1, .int .i64 o1, .int .i64 t1, .int .i64 i1, .int .i64 l1, .int .i64 c1, .int .i64 x1, .bool b1, .slice A1 es1.length cA1, .int .i64 si1, .int .i64 st1, .slice E1 sd1.length cE1] r5
          have r6 := (setRow_other _ _ _ #[.int .i64 k1, .int .i64 f1, .int .i64 o1, .int .i64 t1, .int .i64 i1, .int .i64 l1, .int .i64 c1, .int .i64 x1, .bool b1, .slice A1 es1.length cA1, .int .i64 si1, .int .i64 st1, .slice E1 sd1.length cE1] (by first | exact l65 | exact l65.symm)).trans r6
          generalize hW : World.setRow _ _ _ = wy14 at *
          clear hW
          refine hK.out _ _ hS7 (fun hHeld2 => ?_)
          clear hK KK hHeld
          have hHeld := hHeld2
          clear hHeld2
          try simp only [Act.put, List.setIfInBounds_toArray, List.set_cons_zero, List.set_cons_succ]
          refine wpAnyH_ready (rs := [7]) (by kernel_rfl) (by simp) ?_
          refine AllReadyH.cons (o := { dst := none, op := Go.Op.store 30 (Go.Operand.tmp 6) (Go.Operand.tmp 23), type := 0, pos := "law.go:28", after := #[{ on := 5, ground := Go.Ground.data }, { on := 3, ground := Go.Ground.data }, { on := 6, ground := Go.Ground.chain }, { on := 0, ground := Go.Ground.phase }, { on := 1, ground := Go.Ground.phase }, { on := 2, ground := Go.Ground.phase }, { on := 3, ground := Go.Ground.phase }, { on := 4, ground := Go.Ground.phase }, { on := 5, ground := Go.Ground.phase }, { on := 6, ground := Go.Ground.phase }], guard := none }) rfl (fun KK hK => ?_) AllReadyH.nil
          rw [if_pos (by rfl)]
          refine wp_store_row _ _ _ rfl _ #[.int .i64 k2, .int .i64 f2, .int .i64 o2, .int .i64 t2, .int .i64 i2, .int .i64 l2, .int .i64 c2, .int .i64 x2, .bool b2, .slice A2 es2.length cA2, .int .i64 si2, .int .i64 st2, .slice E2 sd2.length cE2] (by rfl) (by rfl) _ _ r6 (by kernel_rfl) rfl (by first | rfl | kernel_rfl | simp [Value.oneCell']) ?_
          have hS7 := hsw _ _ #[.int .i64 k2, .int .i64 f2, .int .i64 o2, .int .i64 t2, .int .i64 i2, .int .i64 l2, .int .i64 c2, .int .i64 x2, .bool b2, .slice A2 es2.length cA2, .int .i64 si2, .int .i64 st2, .slice E2 sd2.length cE2] hHeld.1 l6
          have r6 := setRow_at #[.int .i64 k2, .int .i64 f2, .int .i64 o2, .int .i64 t2, .int .i64 i2, .int .i64 l2, .int .i64 c2, .int .i64 x2, .bool b2, .slice A2 es2.length cA2, .int .i64 si2, .int .i64 st2, .slice E2 sd2.length cE2] r6
          have r5 := (setRow_other _ _ _ #[.int .i64 k2, .int .i64 f2, .int .i64 o2, .int .i64 t2, .int .i64 i2, .int .i64 l2, .int .i64 c2, .int .i64 x2, .bool b2, .slice A2 es2.length cA2, .int .i64 si2, .int .i64 st2, .slice E2 sd2.length cE2] (by first | exact l65 | exact l65.symm)).trans r5
          generalize hW : World.setRow _ _ _ = wy15 at *
          clear hW
          refine hK.out _ _ hS7 (fun hHeld2 => ?_)
          clear hK KK hHeld
          have hHeld := hHeld2
          clear hHeld2
          try simp only [Act.put, List.setIfInBounds_toArray, List.set_cons_zero, List.set_cons_succ]
          refine wpAnyH_done (by kernel_rfl) ?_ _
          go_wp2_with fail
          go_meet
          exact ⟨_, _, rfl, rfl, r5, r6, hHeld.1⟩
        refine AllReadyH.cons (o := { dst := some 6, op := Go.Op.alloc 30, type := 0, pos := "law.go:28", after := #[], guard := none }) rfl (fun KK hK => ?_) AllReadyH.nil
        go_simp
        have l65 := Nat.ne_of_lt (hlt r5)
        generalize hW : World.alloc _ (.cells (mC 0 0 0 0 0 0 0 0 false none 0 0 0 0 none 0 0) 30) = wy16
        have hbn := (Below.refl wy11.heap.size wy11).alloc (Nat.le_refl _) (.cells (mC 0 0 0 0 0 0 0 0 false none 0 0 0 0 none 0 0) 30)
        rw [hW] at hbn
        have hS7 := hst _ wy16 hHeld.1 hbn
        have r5 := (hbn.block _ (hlt r5)).trans r5
        have r6 := heap_alloc_new wy11 (.cells (mC 0 0 0 0 0 0 0 0 false none 0 0 0 0 none 0 0) 30)
        rw [hW] at r6
        have l6 : w3.heap.size ≤ wy11.heap.size := hHeld.1.size
        clear hW
        refine hK.out _ _ hS7 (fun hHeld2 => ?_)
        clear hK KK hHeld
        have hHeld := hHeld2
        clear hHeld2
        try simp only [Act.put, List.setIfInBounds_toArray, List.set_cons_zero, List.set_cons_succ]
        refine wpAnyH_ready (rs := [3]) (by kernel_rfl) (by simp) ?_
        refine AllReadyH.cons (o := { dst := some 23, op := Go.Op.call { callee := Go.Callee.value (Go.Operand.func 9), args := #[Go.Operand.tmp 22], argTypes := #[27] }, type := 30, pos := "law.go:28", after := #[{ on := 2, ground := Go.Ground.data }, { on := 1, ground := Go.Ground.chain }], guard := none }) rfl (fun KK hK => ?_) AllReadyH.nil
        go_simp
        refine (hT2 _).mono ?_
        rintro e wy17 ⟨rfl, hbn⟩
        have hS7 := hst _ wy17 hHeld.1 hbn
        have r5 := (hbn.block _ (hlt r5)).trans r5
        have r6 := (hbn.block _ (hlt r6)).trans r6
        refine hK.out _ _ hS7 (fun hHeld2 => ?_)
        clear hK KK hHeld
        have hHeld := hHeld2
        clear hHeld2
        try simp only [Act.put, List.setIfInBounds_toArray, List.set_cons_zero, List.set_cons_succ]
        refine wpAnyH_ready (rs := [6]) (by kernel_rfl) (by simp) ?_
        refine AllReadyH.cons (o := { dst := none, op := Go.Op.store 30 (Go.Operand.tmp 5) (Go.Operand.tmp 21), type := 0, pos := "law.go:28", after := #[{ on := 4, ground := Go.Ground.data }, { on := 1, ground := Go.Ground.data }, { on := 3, ground := Go.Ground.chain }, { on := 0, ground := Go.Ground.phase }, { on := 1, ground := Go.Ground.phase }, { on := 2, ground := Go.Ground.textOnly Go.Departure.lateStores }, { on := 3, ground := Go.Ground.textOnly Go.Departure.lateStoresUnsure }, { on := 4, ground := Go.Ground.phase }, { on := 5, ground := Go.Ground.phase }], guard := none }) rfl (fun KK hK => ?_) AllReadyH.nil
        rw [if_pos (by rfl)]
        refine wp_store_row _ _ _ rfl _ #[.int .i64 k1, .int .i64 f1, .int .i64 o1, .int .i64 t1, .int .i64 i1, .int .i64 l1, .int .i64 c1, .int .i64 x1, .bool b1, .slice A1 es1.length cA1, .int .i64 si1, .int .i64 st1, .slice E1 sd1.length cE1] (by rfl) (by rfl) _ _ r5 (by kernel_rfl) rfl (by first | rfl | kernel_rfl | simp [Value.oneCell']) ?_
        have hS7 := hsw _ _ #[.int .i64 k1, .int .i64 f1, .int .i64 o1, .int .i64 t1, .int .i64 i1, .int .i64 l1, .int .i64 c1, .int .i64 x1, .bool b1, .slice A1 es1.length cA1, .int .i64 si1, .int .i64 st1, .slice E1 sd1.length cE1] hHeld.1 l5
        have r5 := setRow_at #[.int .i64 k1, .int .i64 f1, .int .i64 o1, .int .i64 t1, .int .i64 i1, .int .i64 l1, .int .i64 c1, .int .i64 x1, .bool b1, .slice A1 es1.length cA1, .int .i64 si1, .int .i64 st1, .slice E1 sd1.length cE1] r5
        have r6 := (setRow_other _ _ _ #[.int .i64 k1, .int .i64 f1, .int .i64 o1, .int .i64 t1, .int .i64 i1, .int .i64 l1, .int .i64 c1, .int .i64 x1, .bool b1, .slice A1 es1.length cA1, .int .i64 si1, .int .i64 st1, .slice E1 sd1.length cE1] (by first | exact l65 | exact l65.symm)).trans r6
        generalize hW : World.setRow _ _ _ = wy18 at *
        clear hW
        refine hK.out _ _ hS7 (fun hHeld2 => ?_)
        clear hK KK hHeld
        have hHeld := hHeld2
        clear hHeld2
        try simp only [Act.put, List.setIfInBounds_toArray, List.set_cons_zero, List.set_cons_succ]
        refine wpAnyH_ready (rs := [7]) (by kernel_rfl) (by simp) ?_
        refine AllReadyH.cons (o := { dst := none, op := Go.Op.store 30 (Go.Operand.tmp 6) (Go.Operand.tmp 23), type := 0, pos := "law.go:28", after := #[{ on := 5, ground := Go.Ground.data }, { on := 3, ground := Go.Ground.data }, { on := 6, ground := Go.Ground.chain }, { on := 0, ground := Go.Ground.phase }, { on := 1, ground := Go.Ground.phase }, { on := 2, ground := Go.Ground.phase }, { on := 3, ground := Go.Ground.phase }, { on := 4, ground := Go.Ground.phase }, { on := 5, ground := Go.Ground.phase }, { on := 6, ground := Go.Ground.phase }], guard := none }) rfl (fun KK hK => ?_) AllReadyH.nil
        rw [if_pos (by rfl)]
        refine wp_store_row _ _ _ rfl _ #[.int .i64 k2, .int .i64 f2, .int .i64 o2, .int .i64 t2, .int .i64 i2, .int .i64 l2, .int .i64 c2, .int .i64 x2, .bool b2, .slice A2 es2.length cA2, .int .i64 si2, .int .i64 st2, .slice E2 sd2.length cE2] (by rfl) (by rfl) _ _ r6 (by kernel_rfl) rfl (by first | rfl | kernel_rfl | simp [Value.oneCell']) ?_
        have hS7 := hsw _ _ #[.int .i64 k2, .int .i64 f2, .int .i64 o2, .int .i64 t2, .int .i64 i2, .int .i64 l2, .int .i64 c2, .int .i64 x2, .bool b2, .slice A2 es2.length cA2, .int .i64 si2, .int .i64 st2, .slice E2 sd2.length cE2] hHeld.1 l6
        have r6 := setRow_at #[.int .i64 k2, .int .i64 f2, .int .i64 o2, .int .i64 t2, .int .i64 i2, .int .i64 l2, .int .i64 c2, .int .i64 x2, .bool b2, .slice A2 es2.length cA2, .int .i64 si2, .int .i64 st2, .slice E2 sd2.length cE2] r6
        have r5 := (setRow_other _ _ _ #[.int .i64 k2, .int .i64 f2, .int .i64 o2, .int .i64 t2, .int .i64 i2, .int .i64 l2, .int .i64 c2, .int .i64 x2, .bool b2, .slice A2 es2.length cA2, .int .i64 si2, .int .i64 st2, .slice E2 sd2.length cE2] (by first | exact l65 | exact l65.symm)).trans r5
        generalize hW : World.setRow _ _ _ = wy19 at *
        clear hW
        refine hK.out _ _ hS7 (fun hHeld2 => ?_)
        clear hK KK hHeld
        have hHeld := hHeld2
        clear hHeld2
        try simp only [Act.put, List.setIfInBounds_toArray, List.set_cons_zero, List.set_cons_succ]
        refine wpAnyH_done (by kernel_rfl) ?_ _
        go_wp2_with fail
        go_meet
        exact ⟨_, _, rfl, rfl, r5, r6, hHeld.1⟩
      refine AllReadyH.cons (o := { dst := some 6, op := Go.Op.alloc 30, type := 0, pos := "law.go:28", after := #[], guard := none }) rfl (fun KK hK => ?_) AllReadyH.nil
      go_simp
      generalize hW : World.alloc _ (.cells (mC 0 0 0 0 0 0 0 0 false none 0 0 0 0 none 0 0) 30) = wy20
      have hbn := (Below.refl wy1.heap.size wy1).alloc (Nat.le_refl _) (.cells (mC 0 0 0 0 0 0 0 0 false none 0 0 0 0 none 0 0) 30)
      rw [hW] at hbn
      have hS7 := hst _ wy20 hHeld.1 hbn
      have r6 := heap_alloc_new wy1 (.cells (mC 0 0 0 0 0 0 0 0 false none 0 0 0 0 none 0 0) 30)
      rw [hW] at r6
      have l6 : w3.heap.size ≤ wy1.heap.size := hHeld.1.size
      clear hW
      refine hK.out _ _ hS7 (fun hHeld2 => ?_)
      clear hK KK hHeld
      have hHeld := hHeld2
      clear hHeld2
      try simp only [Act.put, List.setIfInBounds_toArray, List.set_cons_zero, List.set_cons_succ]
      refine wpAnyH_ready (rs := [3, 4]) (by kernel_rfl) (by simp) ?_
      refine AllReadyH.cons (o := { dst := some 23, op := Go.Op.call { callee := Go.Callee.value (Go.Operand.func 9), args := #[Go.Operand.tmp 22], argTypes := #[27] }, type := 30, pos := "law.go:28", after := #[{ on := 2, ground := Go.Ground.data }, { on := 1, ground := Go.Ground.chain }], guard := none }) rfl (fun KK hK => ?_) ?_
      · go_simp
        refine (hT2 _).mono ?_
        rintro e wy21 ⟨rfl, hbn⟩
        have hS7 := hst _ wy21 hHeld.1 hbn
        have r6 := (hbn.block _ (hlt r6)).trans r6
        refine hK.out _ _ hS7 (fun hHeld2 => ?_)
        clear hK KK hHeld
        have hHeld := hHeld2
        clear hHeld2
        try simp only [Act.put, List.setIfInBounds_toArray, List.set_cons_zero, List.set_cons_succ]
        refine wpAnyH_ready (rs := [4]) (by kernel_rfl) (by simp) ?_
        refine AllReadyH.cons (o := { dst := some 5, op := Go.Op.alloc 30, type := 0, pos := "law.go:28", after := #[], guard := none }) rfl (fun KK hK => ?_) AllReadyH.nil
        go_simp
        have l65 := Nat.ne_of_lt (hlt r6)
        generalize hW : World.alloc _ (.cells (mC 0 0 0 0 0 0 0 0 false none 0 0 0 0 none 0 0) 30) = wy22
        have hbn := (Below.refl wy21.heap.size wy21).alloc (Nat.le_refl _) (.cells (mC 0 0 0 0 0 0 0 0 false none 0 0 0 0 none 0 0) 30)
        rw [hW] at hbn
        have hS7 := hst _ wy22 hHeld.1 hbn
        have r6 := (hbn.block _ (hlt r6)).trans r6
        have r5 := heap_alloc_new wy21 (.cells (mC 0 0 0 0 0 0 0 0 false none 0 0 0 0 none 0 0) 30)
        rw [hW] at r5
        have l5 : w3.heap.size ≤ wy21.heap.size := hHeld.1.size
        clear hW
        refine hK.out _ _ hS7 (fun hHeld2 => ?_)
        clear hK KK hHeld
        have hHeld := hHeld2
        clear hHeld2
        try simp only [Act.put, List.setIfInBounds_toArray, List.set_cons_zero, List.set_cons_succ]
        refine wpAnyH_ready (rs := [6]) (by kernel_rfl) (by simp) ?_
        refine AllReadyH.cons (o := { dst := none, op := Go.Op.store 30 (Go.Operand.tmp 5) (Go.Operand.tmp 21), type := 0, pos := "law.go:28", after := #[{ on := 4, ground := Go.Ground.data }, { on := 1, ground := Go.Ground.data }, { on := 3, ground := Go.Ground.chain }, { on := 0, ground := Go.Ground.phase }, { on := 1, ground := Go.Ground.phase }, { on := 2, ground := Go.Ground.textOnly Go.Departure.lateStores }, { on := 3, ground := Go.Ground.textOnly Go.Departure.lateStoresUnsure }, { on := 4, ground := Go.Ground.phase }, { on := 5, ground := Go.Ground.phase }], guard := none }) rfl (fun KK hK => ?_) AllReadyH.nil
        rw [if_pos (by rfl)]
        refine wp_store_row _ _ _ rfl _ #[.int .i64 k1, .int .i64 f1, .int .i64 o1, .int .i64 t1, .int .i64 i1, .int .i64 l1, .int .i64 c1, .int .i64 x1, .bool b1, .slice A1 es1.length cA1, .int .i64 si1, .int .i64 st1, .slice E1 sd1.length cE1] (by rfl) (by rfl) _ _ r5 (by kernel_rfl) rfl (by first | rfl | kernel_rfl | simp [Value.oneCell']) ?_
        have hS7 := hsw _ _ #[.int .i64 k1, .int .i64 f1, .int .i64 o1, .int .i64 t1, .int .i64 i1, .int .i64 l1, .int .i64 c1, .int .i64 x1, .bool b1, .slice A1 es1.length cA1, .int .i64 si1, .int .i64 st1, .slice E1 sd1.length cE1] hHeld.1 l5
        have r5 := setRow_at #[.int .i64 k1, .int .i64 f1, .int .i64 o1, .int .i64 t1, .int .i64 i1, .int .i64 l1, .int .i64 c1, .int .i64 x1, .bool b1, .slice A1 es1.length cA1, .int .i64 si1, .int .i64 st1, .slice E1 sd1.length cE1] r5
        have r6 := (setRow_other _ _ _ #[.int .i64 k1, .int .i64 f1, .int .i64 o1, .int .i64 t1, .int .i64 i1, .int .i64 l1, .int .i64 c1, .int .i64 x1, .bool b1, .slice A1 es1.length cA1, .int .i64 si1, .int .i64 st1, .slice E1 sd1.length cE1] (by first | exact l65 | exact l65.symm)).trans r6
        generalize hW : World.setRow _ _ _ = wy23 at *
        clear hW
        refine hK.out _ _ hS7 (fun hHeld2 => ?_)
        clear hK KK hHeld
        have hHeld := hHeld2
        clear hHeld2
        try simp only [Act.put, List.setIfInBounds_toArray, List.set_cons_zero, List.set_cons_succ]
        refine wpAnyH_ready (rs := [7]) (by kernel_rfl) (by simp) ?_
        refine AllReadyH.cons (o := { dst := none, op := Go.Op.store 30 (Go.Operand.tmp 6) (Go.Operand.tmp 23), type := 0, pos := "law.go:28", after := #[{ on := 5, ground := Go.Ground.data }, { on := 3, ground := Go.Ground.data }, { on := 6, ground := Go.Ground.chain }, { on := 0, ground := Go.Ground.phase }, { on := 1, ground := Go.Ground.phase }, { on := 2, ground := Go.Ground.phase }, { on := 3, ground := Go.Ground.phase }, { on := 4, ground := Go.Ground.phase }, { on := 5, ground := Go.Ground.phase }, { on := 6, ground := Go.Ground.phase }], guard := none }) rfl (fun KK hK => ?_) AllReadyH.nil
        rw [if_pos (by rfl)]
        refine wp_store_row _ _ _ rfl _ #[.int .i64 k2, .int .i64 f2, .int .i64 o2, .int .i64 t2, .int .i64 i2, .int .i64 l2, .int .i64 c2, .int .i64 x2, .bool b2, .slice A2 es2.length cA2, .int .i64 si2, .int .i64 st2, .slice E2 sd2.length cE2] (by rfl) (by rfl) _ _ r6 (by kernel_rfl) rfl (by first | rfl | kernel_rfl | simp [Value.oneCell']) ?_
        have hS7 := hsw _ _ #[.int .i64 k2, .int .i64 f2, .int .i64 o2, .int .i64 t2, .int .i64 i2, .int .i64 l2, .int .i64 c2, .int .i64 x2, .bool b2, .slice A2 es2.length cA2, .int .i64 si2, .int .i64 st2, .slice E2 sd2.length cE2] hHeld.1 l6
        have r6 := setRow_at #[.int .i64 k2, .int .i64 f2, .int .i64 o2, .int .i64 t2, .int .i64 i2, .int .i64 l2, .int .i64 c2, .int .i64 x2, .bool b2, .slice A2 es2.length cA2, .int .i64 si2, .int .i64 st2, .slice E2 sd2.length cE2] r6
        have r5 := (setRow_other _ _ _ #[.int .i64 k2, .int .i64 f2, .int .i64 o2, .int .i64 t2, .int .i64 i2, .int .i64 l2, .int .i64 c2, .int .i64 x2, .bool b2, .slice A2 es2.length cA2, .int .i64 si2, .int .i64 st2, .slice E2 sd2.length cE2] (by first | exact l65 | exact l65.symm)).trans r5
        generalize hW : World.setRow _ _ _ = wy24 at *
        clear hW
        refine hK.out _ _ hS7 (fun hHeld2 => ?_)
        clear hK KK hHeld
        have hHeld := hHeld2
        clear hHeld2
        try simp only [Act.put, List.setIfInBounds_toArray, List.set_cons_zero, List.set_cons_succ]
        refine wpAnyH_done (by kernel_rfl) ?_ _
        go_wp2_with fail
        go_meet
        exact ⟨_, _, rfl, rfl, r5, r6, hHeld.1⟩
      refine AllReadyH.cons (o := { dst := some 5, op := Go.Op.alloc 30, type := 0, pos := "law.go:28", after := #[], guard := none }) rfl (fun KK hK => ?_) AllReadyH.nil
      go_simp
      have l65 := Nat.ne_of_lt (hlt r6)
      generalize hW : World.alloc _ (.cells (mC 0 0 0 0 0 0 0 0 false none 0 0 0 0 none 0 0) 30) = wy25
      have hbn := (Below.refl wy20.heap.size wy20).alloc (Nat.le_refl _) (.cells (mC 0 0 0 0 0 0 0 0 false none 0 0 0 0 none 0 0) 30)
      rw [hW] at hbn
      have hS7 := hst _ wy25 hHeld.1 hbn
      have r6 := (hbn.block _ (hlt r6)).trans r6
      have r5 := heap_alloc_new wy20 (.cells (mC 0 0 0 0 0 0 0 0 false none 0 0 0 0 none 0 0) 30)
      rw [hW] at r5
      have l5 : w3.heap.size ≤ wy20.heap.size := hHeld.1.size
      clear hW
      refine hK.out _ _ hS7 (fun hHeld2 => ?_)
      clear hK KK hHeld
      have hHeld := hHeld2
      clear hHeld2
      try simp only [Act.put, List.setIfInBounds_toArray, List.set_cons_zero, List.set_cons_succ]
      refine wpAnyH_ready (rs := [3]) (by kernel_rfl) (by simp) ?_
      refine AllReadyH.cons (o := { dst := some 23, op := Go.Op.call { callee := Go.Callee.value (Go.Operand.func 9), args := #[Go.Operand.tmp 22], argTypes := #[27] }, type := 30, pos := "law.go:28", after := #[{ on := 2, ground := Go.Ground.data }, { on := 1, ground := Go.Ground.chain }], guard := none }) rfl (fun KK hK => ?_) AllReadyH.nil
      go_simp
      refine (hT2 _).mono ?_
      rintro e wy26 ⟨rfl, hbn⟩
      have hS7 := hst _ wy26 hHeld.1 hbn
      have r5 := (hbn.block _ (hlt r5)).trans r5
      have r6 := (hbn.block _ (hlt r6)).trans r6
      refine hK.out _ _ hS7 (fun hHeld2 => ?_)
      clear hK KK hHeld
      have hHeld := hHeld2
      clear hHeld2
      try simp only [Act.put, List.setIfInBounds_toArray, List.set_cons_zero, List.set_cons_succ]
      refine wpAnyH_ready (rs := [6]) (by kernel_rfl) (by simp) ?_
      refine AllReadyH.cons (o := { dst := none, op := Go.Op.store 30 (Go.Operand.tmp 5) (Go.Operand.tmp 21), type := 0, pos := "law.go:28", after := #[{ on := 4, ground := Go.Ground.data }, { on := 1, ground := Go.Ground.data }, { on := 3, ground := Go.Ground.chain }, { on := 0, ground := Go.Ground.phase }, { on := 1, ground := Go.Ground.phase }, { on := 2, ground := Go.Ground.textOnly Go.Departure.lateStores }, { on := 3, ground := Go.Ground.textOnly Go.Departure.lateStoresUnsure }, { on := 4, ground := Go.Ground.phase }, { on := 5, ground := Go.Ground.phase }], guard := none }) rfl (fun KK hK => ?_) AllReadyH.nil
      rw [if_pos (by rfl)]
      refine wp_store_row _ _ _ rfl _ #[.int .i64 k1, .int .i64 f1, .int .i64 o1, .int .i64 t1, .int .i64 i1, .int .i64 l1, .int .i64 c1, .int .i64 x1, .bool b1, .slice A1 es1.length cA1, .int .i64 si1, .int .i64 st1, .slice E1 sd1.length cE1] (by rfl) (by rfl) _ _ r5 (by kernel_rfl) rfl (by first | rfl | kernel_rfl | simp [Value.oneCell']) ?_
      have hS7 := hsw _ _ #[.int .i64 k1, .int .i64 f1, .int .i64 o1, .int .i64 t1, .int .i64 i1, .int .i64 l1, .int .i64 c1, .int .i64 x1, .bool b1, .slice A1 es1.length cA1, .int .i64 si1, .int .i64 st1, .slice E1 sd1.length cE1] hHeld.1 l5
      have r5 := setRow_at #[.int .i64 k1, .int .i64 f1, .int .i64 o1, .int .i64 t1, .int .i64 i1, .int .i64 l1, .int .i64 c1, .int .i64 x1, .bool b1, .slice A1 es1.length cA1, .int .i64 si1, .int .i64 st1, .slice E1 sd1.length cE1] r5
      have r6 := (setRow_other _ _ _ #[.int .i64 k1, .int .i64 f1, .int .i64 o1, .int .i64 t1, .int .i64 i1, .int .i64 l1, .int .i64 c1, .int .i64 x1, .bool b1, .slice A1 es1.length cA1, .int .i64 si1, .int .i64 st1, .slice E1 sd1.length cE1] (by first | exact l65 | exact l65.symm)).trans r6
      generalize hW : World.setRow _ _ _ = wy27 at *
      clear hW
      refine hK.out _ _ hS7 (fun hHeld2 => ?_)
      clear hK KK hHeld
      have hHeld := hHeld2
      clear hHeld2
      try simp only [Act.put, List.setIfInBounds_toArray, List.set_cons_zero, List.set_cons_succ]
      refine wpAnyH_ready (rs := [7]) (by kernel_rfl) (by simp) ?_
      refine AllReadyH.cons (o := { dst := none, op := Go.Op.store 30 (Go.Operand.tmp 6) (Go.Operand.tmp 23), type := 0, pos := "law.go:28", after := #[{ on := 5, ground := Go.Ground.data }, { on := 3, ground := Go.Ground.data }, { on := 6, ground := Go.Ground.chain }, { on := 0, ground := Go.Ground.phase }, { on := 1, ground := Go.Ground.phase }, { on := 2, ground := Go.Ground.phase }, { on := 3, ground := Go.Ground.phase }, { on := 4, ground := Go.Ground.phase }, { on := 5, ground := Go.Ground.phase }, { on := 6, ground := Go.Ground.phase }], guard := none }) rfl (fun KK hK => ?_) AllReadyH.nil
      rw [if_pos (by rfl)]
      refine wp_store_row _ _ _ rfl _ #[.int .i64 k2, .int .i64 f2, .int .i64 o2, .int .i64 t2, .int .i64 i2, .int .i64 l2, .int .i64 c2, .int .i64 x2, .bool b2, .slice A2 es2.length cA2, .int .i64 si2, .int .i64 st2, .slice E2 sd2.length cE2] (by rfl) (by rfl) _ _ r6 (by kernel_rfl) rfl (by first | rfl | kernel_rfl | simp [Value.oneCell']) ?_
      have hS7 := hsw _ _ #[.int .i64 k2, .int .i64 f2, .int .i64 o2, .int .i64 t2, .int .i64 i2, .int .i64 l2, .int .i64 c2, .int .i64 x2, .bool b2, .slice A2 es2.length cA2, .int .i64 si2, .int .i64 st2, .slice E2 sd2.length cE2] hHeld.1 l6
      have r6 := setRow_at #[.int .i64 k2, .int .i64 f2, .int .i64 o2, .int .i64 t2, .int .i64 i2, .int .i64 l2, .int .i64 c2, .int .i64 x2, .bool b2, .slice A2 es2.length cA2, .int .i64 si2, .int .i64 st2, .slice E2 sd2.length cE2] r6
      have r5 := (setRow_other _ _ _ #[.int .i64 k2, .int .i64 f2, .int .i64 o2, .int .i64 t2, .int .i64 i2, .int .i64 l2, .int .i64 c2, .int .i64 x2, .bool b2, .slice A2 es2.length cA2, .int .i64 si2, .int .i64 st2, .slice E2 sd2.length cE2] (by first | exact l65 | exact l65.symm)).trans r5
      generalize hW : World.setRow _ _ _ = wy28 at *
      clear hW
      refine hK.out _ _ hS7 (fun hHeld2 => ?_)
      clear hK KK hHeld
      have hHeld := hHeld2
      clear hHeld2
      try simp only [Act.put, List.setIfInBounds_toArray, List.set_cons_zero, List.set_cons_succ]
      refine wpAnyH_done (by kernel_rfl) ?_ _
      go_wp2_with fail
      go_meet
      exact ⟨_, _, rfl, rfl, r5, r6, hHeld.1⟩
    refine AllReadyH.cons (o := { dst := some 5, op := Go.Op.alloc 30, type := 0, pos := "law.go:28", after := #[], guard := none }) rfl (fun KK hK => ?_) ?_
    · go_simp
      generalize hW : World.alloc _ (.cells (mC 0 0 0 0 0 0 0 0 false none 0 0 0 0 none 0 0) 30) = wy29
      have hbn := (Below.refl wd.heap.size wd).alloc (Nat.le_refl _) (.cells (mC 0 0 0 0 0 0 0 0 false none 0 0 0 0 none 0 0) 30)
      rw [hW] at hbn
      have hS7 := hst _ wy29 hHeld.1 hbn
      have r5 := heap_alloc_new wd (.cells (mC 0 0 0 0 0 0 0 0 false none 0 0 0 0 none 0 0) 30)
      rw [hW] at r5
      have l5 : w3.heap.size ≤ wd.heap.size := hHeld.1.size
      clear hW
      refine hK.out _ _ hS7 (fun hHeld2 => ?_)
      clear hK KK hHeld
      have hHeld := hHeld2
      clear hHeld2
      try simp only [Act.put, List.setIfInBounds_toArray, List.set_cons_zero, List.set_cons_succ]
      refine wpAnyH_ready (rs := [1, 5]) (by kernel_rfl) (by simp) ?_
      refine AllReadyH.cons (o := { dst := some 21, op := Go.Op.call { callee := Go.Callee.value (Go.Operand.func 9), args := #[Go.Operand.tmp 20], argTypes := #[27] }, type := 30, pos := "law.go:28", after := #[{ on := 0, ground := Go.Ground.data }], guard := none }) rfl (fun KK hK => ?_) ?_
      · go_simp
        refine (hT1 _).mono ?_
        rintro e wy30 ⟨rfl, hbn⟩
        have hS7 := hst _ wy30 hHeld.1 hbn
        have r5 := (hbn.block _ (hlt r5)).trans r5
        refine hK.out _ _ hS7 (fun hHeld2 => ?_)
        clear hK KK hHeld
        have hHeld := hHeld2
        clear hHeld2
        try simp only [Act.put, List.setIfInBounds_toArray, List.set_cons_zero, List.set_cons_succ]
        refine wpAnyH_ready (rs := [3, 5]) (by kernel_rfl) (by simp) ?_
        refine AllReadyH.cons (o := { dst := some 23, op := Go.Op.call { callee := Go.Callee.value (Go.Operand.func 9), args := #[Go.Operand.tmp 22], argTypes := #[27] }, type := 30, pos := "law.go:28", after := #[{ on := 2, ground := Go.Ground.data }, { on := 1, ground := Go.Ground.chain }], guard := none }) rfl (fun KK hK => ?_) ?_
        · go_simp
          refine (hT2 _).mono ?_
          rintro e wy31 ⟨rfl, hbn⟩
          have hS7 := hst _ wy31 hHeld.1 hbn
          have r5 := (hbn.block _ (hlt r5)).trans r5
          refine hK.out _ _ hS7 (fun hHeld2 => ?_)
          clear hK KK hHeld
          have hHeld := hHeld2
          clear hHeld2
          try simp only [Act.put, List.setIfInBounds_toArray, List.set_cons_zero, List.set_cons_succ]
          refine wpAnyH_ready (rs := [5]) (by kernel_rfl) (by simp) ?_
          refine AllReadyH.cons (o := { dst := some 6, op := Go.Op.alloc 30, type := 0, pos := "law.go:28", after := #[], guard := none }) rfl (fun KK hK => ?_) AllReadyH.nil
          go_simp
          have l65 := Nat.ne_of_lt (hlt r5)
          generalize hW : World.alloc _ (.cells (mC 0 0 0 0 0 0 0 0 false none 0 0 0 0 none 0 0) 30) = wy32
          have hbn := (Below.refl wy31.heap.size wy31).alloc (Nat.le_refl _) (.cells (mC 0 0 0 0 0 0 0 0 false none 0 0 0 0 none 0 0) 30)
          rw [hW] at hbn
          have hS7 := hst _ wy32 hHeld.1 hbn
          have r5 := (hbn.block _ (hlt r5)).trans r5
          have r6 := heap_alloc_new wy31 (.cells (mC 0 0 0 0 0 0 0 0 false none 0 0 0 0 none 0 0) 30)
          rw [hW] at r6
          have l6 : w3.heap.size ≤ wy31.heap.size := hHeld.1.size
          clear hW
          refine hK.out _ _ hS7 (fun hHeld2 => ?_)
          clear hK KK hHeld
          have hHeld := hHeld2
          clear hHeld2
          try simp only [Act.put, List.setIfInBounds_toArray, List.set_cons_zero, List.set_cons_succ]
          refine wpAnyH_ready (rs := [6]) (by kernel_rfl) (by simp) ?_
          refine AllReadyH.cons (o := { dst := none, op := Go.Op.store 30 (Go.Operand.tmp 5) (Go.Operand.tmp 21), type := 0, pos := "law.go:28", after := #[{ on := 4, ground := Go.Ground.data }, { on := 1, ground := Go.Ground.data }, { on := 3, ground := Go.Ground.chain }, { on := 0, ground := Go.Ground.phase }, { on := 1, ground := Go.Ground.phase }, { on := 2, ground := Go.Ground.textOnly Go.Departure.lateStores }, { on := 3, ground := Go.Ground.textOnly Go.Departure.lateStoresUnsure }, { on := 4, ground := Go.Ground.phase }, { on := 5, ground := Go.Ground.phase }], guard := none }) rfl (fun KK hK => ?_) AllReadyH.nil
          rw [if_pos (by rfl)]
          refine wp_store_row _ _ _ rfl _ #[.int .i64 k1, .int .i64 f1, .int .i64 o1, .int .i64 t1, .int .i64 i1, .int .i64 l1, .int .i64 c1, .int .i64 x1, .bool b1, .slice A1 es1.length cA1, .int .i64 si1, .int .i64 st1, .slice E1 sd1.length cE1] (by rfl) (by rfl) _ _ r5 (by kernel_rfl) rfl (by first | rfl | kernel_rfl | simp [Value.oneCell']) ?_
          have hS7 := hsw _ _ #[.int .i64 k1, .int .i64 f1, .int .i64 o1, .int .i64 t1, .int .i64 i1, .int .i64 l1, .int .i64 c1, .int .i64 x1, .bool b1, .slice A1 es1.length cA1, .int .i64 si1, .int .i64 st1, .slice E1 sd1.length cE1] hHeld.1 l5
          have r5 := setRow_at #[.int .i64 k1, .int .i64 f1, .int .i64 o1, .int .i64 t1, .int .i64 i1, .int .i64 l1, .int .i64 c1, .int .i64 x1, .bool b1, .slice A1 es1.length cA1, .int .i64 si1, .int .i64 st1, .slice E1 sd1.length cE1] r5
          have r6 := (setRow_other _ _ _ #[.int .i64 k1, .int .i64 f1, .int .i64 o1, .int .i64 t1, .int .i64 i1, .int .i64 l1, .int .i64 c1, .int .i64 x1, .bool b1, .slice A1 es1.length cA1, .int .i64 si1, .int .i64 st1, .slice E1 sd1.length cE1] (by first | exact l65 | exact l65.symm)).trans r6
          generalize hW : World.setRow _ _ _ = wy33 at *
          clear hW
          refine hK.out _ _ hS7 (fun hHeld2 => ?_)
          clear hK KK hHeld
          have hHeld := hHeld2
          clear hHeld2
          try simp only [Act.put, List.setIfInBounds_toArray, List.set_cons_zero, List.set_cons_succ]
          refine wpAnyH_ready (rs := [7]) (by kernel_rfl) (by simp) ?_
          refine AllReadyH.cons (o := { dst := none, op := Go.Op.store 30 (Go.Operand.tmp 6) (Go.Operand.tmp 23), type := 0, pos := "law.go:28", after := #[{ on := 5, ground := Go.Ground.data }, { on := 3, ground := Go.Ground.data }, { on := 6, ground := Go.Ground.chain }, { on := 0, ground := Go.Ground.phase }, { on := 1, ground := Go.Ground.phase }, { on := 2, ground := Go.Ground.phase }, { on := 3, ground := Go.Ground.phase }, { on := 4, ground := Go.Ground.phase }, { on := 5, ground := Go.Ground.phase }, { on := 6, ground := Go.Ground.phase }], guard := none }) rfl (fun KK hK => ?_) AllReadyH.nil
          rw [if_pos (by rfl)]
          refine wp_store_row _ _ _ rfl _ #[.int .i64 k2, .int .i64 f2, .int .i64 o2, .int .i64 t2, .int .i64 i2, .int .i64 l2, .int .i64 c2, .int .i64 x2, .bool b2, .slice A2 es2.length cA2, .int .i64 si2, .int .i64 st2, .slice E2 sd2.length cE2] (by rfl) (by rfl) _ _ r6 (by kernel_rfl) rfl (by first | rfl | kernel_rfl | simp [Value.oneCell']) ?_
          have hS7 := hsw _ _ #[.int .i64 k2, .int .i64 f2, .int .i64 o2, .int .i64 t2, .int .i64 i2, .int .i64 l2, .int .i64 c2, .int .i64 x2, .bool b2, .slice A2 es2.length cA2, .int .i64 si2, .int .i64 st2, .slice E2 sd2.length cE2] hHeld.1 l6
          have r6 := setRow_at #[.int .i64 k2, .int .i64 f2, .int .i64 o2, .int .i64 t2, .int .i64 i2, .int .i64 l2, .int .i64 c2, .int .i64 x2, .bool b2, .slice A2 es2.length cA2, .int .i64 si2, .int .i64 st2, .slice E2 sd2.length cE2] r6
          have r5 := (setRow_other _ _ _ #[.int .i64 k2, .int .i64 f2, .int .i64 o2, .int .i64 t2, .int .i64 i2, .int .i64 l2, .int .i64 c2, .int .i64 x2, .bool b2, .slice A2 es2.length cA2, .int .i64 si2, .int .i64 st2, .slice E2 sd2.length cE2] (by first | exact l65 | exact l65.symm)).trans r5
          generalize hW : World.setRow _ _ _ = wy34 at *
          clear hW
          refine hK.out _ _ hS7 (fun hHeld2 => ?_)
          clear hK KK hHeld
          have hHeld := hHeld2
          clear hHeld2
          try simp only [Act.put, List.setIfInBounds_toArray, List.set_cons_zero, List.set_cons_succ]
          refine wpAnyH_done (by kernel_rfl) ?_ _
          go_wp2_with fail
          go_meet
          exact ⟨_, _, rfl, rfl, r5, r6, hHeld.1⟩
        refine AllReadyH.cons (o := { dst := some 6, op := Go.Op.alloc 30, type := 0, pos := "law.go:28", after := #[], guard := none }) rfl (fun KK hK => ?_) AllReadyH.nil
        go_simp
        have l65 := Nat.ne_of_lt (hlt r5)
        generalize hW : World.alloc _ (.cells (mC 0 0 0 0 0 0 0 0 false none 0 0 0 0 none 0 0) 30) = wy35
        have hbn := (Below.refl wy30.heap.size wy30).alloc (Nat.le_refl _) (.cells (mC 0 0 0 0 0 0 0 0 false none 0 0 0 0 none 0 0) 30)
        rw [hW] at hbn
        have hS7 := hst _ wy35 hHeld.1 hbn
        have r5 := (hbn.block _ (hlt r5)).trans r5
        have r6 := heap_alloc_new wy30 (.cells (mC 0 0 0 0 0 0 0 0 false none 0 0 0 0 none 0 0) 30)
        rw [hW] at r6
        have l6 : w3.heap.size ≤ wy30.heap.size := hHeld.1.size
        clear hW
        refine hK.out _ _ hS7 (fun hHeld2 => ?_)
        clear hK KK hHeld
        have hHeld := hHeld2
        clear hHeld2
        try simp only [Act.put, List.setIfInBounds_toArray, List.set_cons_zero, List.set_cons_succ]
        refine wpAnyH_ready (rs := [3]) (by kernel_rfl) (by simp) ?_
        refine AllReadyH.cons (o := { dst := some 23, op := Go.Op.call { callee := Go.Callee.value (Go.Operand.func 9), args := #[Go.Operand.tmp 22], argTypes := #[27] }, type := 30, pos := "law.go:28", after := #[{ on := 2, ground := Go.Ground.data }, { on := 1, ground := Go.Ground.chain }], guard := none }) rfl (fun KK hK => ?_) AllReadyH.nil
        go_simp
        refine (hT2 _).mono ?_
        rintro e wy36 ⟨rfl, hbn⟩
        have hS7 := hst _ wy36 hHeld.1 hbn
        have r5 := (hbn.block _ (hlt r5)).trans r5
        have r6 := (hbn.block _ (hlt r6)).trans r6
        refine hK.out _ _ hS7 (fun hHeld2 => ?_)
        clear hK KK hHeld
        have hHeld := hHeld2
        clear hHeld2
        try simp only [Act.put, List.setIfInBounds_toArray, List.set_cons_zero, List.set_cons_succ]
        refine wpAnyH_ready (rs := [6]) (by kernel_rfl) (by simp) ?_
        refine AllReadyH.cons (o := { dst := none, op := Go.Op.store 30 (Go.Operand.tmp 5) (Go.Operand.tmp 21), type := 0, pos := "law.go:28", after := #[{ on := 4, ground := Go.Ground.data }, { on := 1, ground := Go.Ground.data }, { on := 3, ground := Go.Ground.chain }, { on := 0, ground := Go.Ground.phase }, { on := 1, ground := Go.Ground.phase }, { on := 2, ground := Go.Ground.textOnly Go.Departure.lateStores }, { on := 3, ground := Go.Ground.textOnly Go.Departure.lateStoresUnsure }, { on := 4, ground := Go.Ground.phase }, { on := 5, ground := Go.Ground.phase }], guard := none }) rfl (fun KK hK => ?_) AllReadyH.nil
        rw [if_pos (by rfl)]
        refine wp_store_row _ _ _ rfl _ #[.int .i64 k1, .int .i64 f1, .int .i64 o1, .int .i64 t1, .int .i64 i1, .int .i64 l1, .int .i64 c1, .int .i64 x1, .bool b1, .slice A1 es1.length cA1, .int .i64 si1, .int .i64 st1, .slice E1 sd1.length cE1] (by rfl) (by rfl) _ _ r5 (by kernel_rfl) rfl (by first | rfl | kernel_rfl | simp [Value.oneCell']) ?_
        have hS7 := hsw _ _ #[.int .i64 k1, .int .i64 f1, .int .i64 o1, .int .i64 t1, .int .i64 i1, .int .i64 l1, .int .i64 c1, .int .i64 x1, .bool b1, .slice A1 es1.length cA1, .int .i64 si1, .int .i64 st1, .slice E1 sd1.length cE1] hHeld.1 l5
        have r5 := setRow_at #[.int .i64 k1, .int .i64 f1, .int .i64 o1, .int .i64 t1, .int .i64 i1, .int .i64 l1, .int .i64 c1, .int .i64 x1, .bool b1, .slice A1 es1.length cA1, .int .i64 si1, .int .i64 st1, .slice E1 sd1.length cE1] r5
        have r6 := (setRow_other _ _ _ #[.int .i64 k1, .int .i64 f1, .int .i64 o1, .int .i64 t1, .int .i64 i1, .int .i64 l1, .int .i64 c1, .int .i64 x1, .bool b1, .slice A1 es1.length cA1, .int .i64 si1, .int .i64 st1, .slice E1 sd1.length cE1] (by first | exact l65 | exact l65.symm)).trans r6
        generalize hW : World.setRow _ _ _ = wy37 at *
        clear hW
        refine hK.out _ _ hS7 (fun hHeld2 => ?_)
        clear hK KK hHeld
        have hHeld := hHeld2
        clear hHeld2
        try simp only [Act.put, List.setIfInBounds_toArray, List.set_cons_zero, List.set_cons_succ]
        refine wpAnyH_ready (rs := [7]) (by kernel_rfl) (by simp) ?_
        refine AllReadyH.cons (o := { dst := none, op := Go.Op.store 30 (Go.Operand.tmp 6) (Go.Operand.tmp 23), type := 0, pos := "law.go:28", after := #[{ on := 5, ground := Go.Ground.data }, { on := 3, ground := Go.Ground.data }, { on := 6, ground := Go.Ground.chain }, { on := 0, ground := Go.Ground.phase }, { on := 1, ground := Go.Ground.phase }, { on := 2, ground := Go.Ground.phase }, { on := 3, ground := Go.Ground.phase }, { on := 4, ground := Go.Ground.phase }, { on := 5, ground := Go.Ground.phase }, { on := 6, ground := Go.Ground.phase }], guard := none }) rfl (fun KK hK => ?_) AllReadyH.nil
        rw [if_pos (by rfl)]
        refine wp_store_row _ _ _ rfl _ #[.int .i64 k2, .int .i64 f2, .int .i64 o2, .int .i64 t2, .int .i64 i2, .int .i64 l2, .int .i64 c2, .int .i64 x2, .bool b2, .slice A2 es2.length cA2, .int .i64 si2, .int .i64 st2, .slice E2 sd2.length cE2] (by rfl) (by rfl) _ _ r6 (by kernel_rfl) rfl (by first | rfl | kernel_rfl | simp [Value.oneCell']) ?_
        have hS7 := hsw _ _ #[.int .i64 k2, .int .i64 f2, .int .i64 o2, .int .i64 t2, .int .i64 i2, .int .i64 l2, .int .i64 c2, .int .i64 x2, .bool b2, .slice A2 es2.length cA2, .int .i64 si2, .int .i64 st2, .slice E2 sd2.length cE2] hHeld.1 l6
        have r6 := setRow_at #[.int .i64 k2, .int .i64 f2, .int .i64 o2, .int .i64 t2, .int .i64 i2, .int .i64 l2, .int .i64 c2, .int .i64 x2, .bool b2, .slice A2 es2.length cA2, .int .i64 si2, .int .i64 st2, .slice E2 sd2.length cE2] r6
        have r5 := (setRow_other _ _ _ #[.int .i64 k2, .int .i64 f2, .int .i64 o2, .int .i64 t2, .int .i64 i2, .int .i64 l2, .int .i64 c2, .int .i64 x2, .bool b2, .slice A2 es2.length cA2, .int .i64 si2, .int .i64 st2, .slice E2 sd2.length cE2] (by first | exact l65 | exact l65.symm)).trans r5
        generalize hW : World.setRow _ _ _ = wy38 at *
        clear hW
        refine hK.out _ _ hS7 (fun hHeld2 => ?_)
        clear hK KK hHeld
        have hHeld := hHeld2
        clear hHeld2
        try simp only [Act.put, List.setIfInBounds_toArray, List.set_cons_zero, List.set_cons_succ]
        refine wpAnyH_done (by kernel_rfl) ?_ _
        go_wp2_with fail
        go_meet
        exact ⟨_, _, rfl, rfl, r5, r6, hHeld.1⟩
      refine AllReadyH.cons (o := { dst := some 6, op := Go.Op.alloc 30, type := 0, pos := "law.go:28", after := #[], guard := none }) rfl (fun KK hK => ?_) AllReadyH.nil
      go_simp
      have l65 := Nat.ne_of_lt (hlt r5)
      generalize hW : World.alloc _ (.cells (mC 0 0 0 0 0 0 0 0 false none 0 0 0 0 none 0 0) 30) = wy39
      have hbn := (Below.refl wy29.heap.size wy29).alloc (Nat.le_refl _) (.cells (mC 0 0 0 0 0 0 0 0 false none 0 0 0 0 none 0 0) 30)
      rw [hW] at hbn
      have hS7 := hst _ wy39 hHeld.1 hbn
      have r5 := (hbn.block _ (hlt r5)).trans r5
      have r6 := heap_alloc_new wy29 (.cells (mC 0 0 0 0 0 0 0 0 false none 0 0 0 0 none 0 0) 30)
      rw [hW] at r6
      have l6 : w3.heap.size ≤ wy29.heap.size := hHeld.1.size
      clear hW
      refine hK.out _ _ hS7 (fun hHeld2 => ?_)
      clear hK KK hHeld
      have hHeld := hHeld2
      clear hHeld2
      try simp only [Act.put, List.setIfInBounds_toArray, List.set_cons_zero, List.set_cons_succ]
      refine wpAnyH_ready (rs := [1]) (by kernel_rfl) (by simp) ?_
      refine AllReadyH.cons (o := { dst := some 21, op := Go.Op.call { callee := Go.Callee.value (Go.Operand.func 9), args := #[Go.Operand.tmp 20], argTypes := #[27] }, type := 30, pos := "law.go:28", after := #[{ on := 0, ground := Go.Ground.data }], guard := none }) rfl (fun KK hK => ?_) AllReadyH.nil
      go_simp
      refine (hT1 _).mono ?_
      rintro e wy40 ⟨rfl, hbn⟩
      have hS7 := hst _ wy40 hHeld.1 hbn
      have r5 := (hbn.block _ (hlt r5)).trans r5
      have r6 := (hbn.block _ (hlt r6)).trans r6
      refine hK.out _ _ hS7 (fun hHeld2 => ?_)
      clear hK KK hHeld
      have hHeld := hHeld2
      clear hHeld2
      try simp only [Act.put, List.setIfInBounds_toArray, List.set_cons_zero, List.set_cons_succ]
      refine wpAnyH_ready (rs := [3]) (by kernel_rfl) (by simp) ?_
      refine AllReadyH.cons (o := { dst := some 23, op := Go.Op.call { callee := Go.Callee.value (Go.Operand.func 9), args := #[Go.Operand.tmp 22], argTypes := #[27] }, type := 30, pos := "law.go:28", after := #[{ on := 2, ground := Go.Ground.data }, { on := 1, ground := Go.Ground.chain }], guard := none }) rfl (fun KK hK => ?_) AllReadyH.nil
      go_simp
      refine (hT2 _).mono ?_
      rintro e wy41 ⟨rfl, hbn⟩
      have hS7 := hst _ wy41 hHeld.1 hbn
      have r5 := (hbn.block _ (hlt r5)).trans r5
      have r6 := (hbn.block _ (hlt r6)).trans r6
      refine hK.out _ _ hS7 (fun hHeld2 => ?_)
      clear hK KK hHeld
      have hHeld := hHeld2
      clear hHeld2
      try simp only [Act.put, List.setIfInBounds_toArray, List.set_cons_zero, List.set_cons_succ]
      refine wpAnyH_ready (rs := [6]) (by kernel_rfl) (by simp) ?_
      refine AllReadyH.cons (o := { dst := none, op := Go.Op.store 30 (Go.Operand.tmp 5) (Go.Operand.tmp 21), type := 0, pos := "law.go:28", after := #[{ on := 4, ground := Go.Ground.data }, { on := 1, ground := Go.Ground.data }, { on := 3, ground := Go.Ground.chain }, { on := 0, ground := Go.Ground.phase }, { on := 1, ground := Go.Ground.phase }, { on := 2, ground := Go.Ground.textOnly Go.Departure.lateStores }, { on := 3, ground := Go.Ground.textOnly Go.Departure.lateStoresUnsure }, { on := 4, ground := Go.Ground.phase }, { on := 5, ground := Go.Ground.phase }], guard := none }) rfl (fun KK hK => ?_) AllReadyH.nil
      rw [if_pos (by rfl)]
      refine wp_store_row _ _ _ rfl _ #[.int .i64 k1, .int .i64 f1, .int .i64 o1, .int .i64 t1, .int .i64 i1, .int .i64 l1, .int .i64 c1, .int .i64 x1, .bool b1, .slice A1 es1.length cA1, .int .i64 si1, .int .i64 st1, .slice E1 sd1.length cE1] (by rfl) (by rfl) _ _ r5 (by kernel_rfl) rfl (by first | rfl | kernel_rfl | simp [Value.oneCell']) ?_
      have hS7 := hsw _ _ #[.int .i64 k1, .int .i64 f1, .int .i64 o1, .int .i64 t1, .int .i64 i1, .int .i64 l1, .int .i64 c1, .int .i64 x1, .bool b1, .slice A1 es1.length cA1, .int .i64 si1, .int .i64 st1, .slice E1 sd1.length cE1] hHeld.1 l5
      have r5 := setRow_at #[.int .i64 k1, .int .i64 f1, .int .i64 o1, .int .i64 t1, .int .i64 i1, .int .i64 l1, .int .i64 c1, .int .i64 x1, .bool b1, .slice A1 es1.length cA1, .int .i64 si1, .int .i64 st1, .slice E1 sd1.length cE1] r5
      have r6 := (setRow_other _ _ _ #[.int .i64 k1, .int .i64 f1, .int .i64 o1, .int .i64 t1, .int .i64 i1, .int .i64 l1, .int .i64 c1, .int .i64 x1, .bool b1, .slice A1 es1.length cA1, .int .i64 si1, .int .i64 st1, .slice E1 sd1.length cE1] (by first | exact l65 | exact l65.symm)).trans r6
      generalize hW : World.setRow _ _ _ = wy42 at *
      clear hW
      refine hK.out _ _ hS7 (fun hHeld2 => ?_)
      clear hK KK hHeld
      have hHeld := hHeld2
      clear hHeld2
      try simp only [Act.put, List.setIfInBounds_toArray, List.set_cons_zero, List.set_cons_succ]
      refine wpAnyH_ready (rs := [7]) (by kernel_rfl) (by simp) ?_
      refine AllReadyH.cons (o := { dst := none, op := Go.Op.store 30 (Go.Operand.tmp 6) (Go.Operand.tmp 23), type := 0, pos := "law.go:28", after := #[{ on := 5, ground := Go.Ground.data }, { on := 3, ground := Go.Ground.data }, { on := 6, ground := Go.Ground.chain }, { on := 0, ground := Go.Ground.phase }, { on := 1, ground := Go.Ground.phase }, { on := 2, ground := Go.Ground.phase }, { on := 3, ground := Go.Ground.phase }, { on := 4, ground := Go.Ground.phase }, { on := 5, ground := Go.Ground.phase }, { on := 6, ground := Go.Ground.phase }], guard := none }) rfl (fun KK hK => ?_) AllReadyH.nil
      rw [if_pos (by rfl)]
      refine wp_store_row _ _ _ rfl _ #[.int .i64 k2, .int .i64 f2, .int .i64 o2, .int .i64 t2, .int .i64 i2, .int .i64 l2, .int .i64 c2, .int .i64 x2, .bool b2, .slice A2 es2.length cA2, .int .i64 si2, .int .i64 st2, .slice E2 sd2.length cE2] (by rfl) (by rfl) _ _ r6 (by kernel_rfl) rfl (by first | rfl | kernel_rfl | simp [Value.oneCell']) ?_
      have hS7 := hsw _ _ #[.int .i64 k2, .int .i64 f2, .int .i64 o2, .int .i64 t2, .int .i64 i2, .int .i64 l2, .int .i64 c2, .int .i64 x2, .bool b2, .slice A2 es2.length cA2, .int .i64 si2, .int .i64 st2, .slice E2 sd2.length cE2] hHeld.1 l6
      have r6 := setRow_at #[.int .i64 k2, .int .i64 f2, .int .i64 o2, .int .i64 t2, .int .i64 i2, .int .i64 l2, .int .i64 c2, .int .i64 x2, .bool b2, .slice A2 es2.length cA2, .int .i64 si2, .int .i64 st2, .slice E2 sd2.length cE2] r6
      have r5 := (setRow_other _ _ _ #[.int .i64 k2, .int .i64 f2, .int .i64 o2, .int .i64 t2, .int .i64 i2, .int .i64 l2, .int .i64 c2, .int .i64 x2, .bool b2, .slice A2 es2.length cA2, .int .i64 si2, .int .i64 st2, .slice E2 sd2.length cE2] (by first | exact l65 | exact l65.symm)).trans r5
      generalize hW : World.setRow _ _ _ = wy43 at *
      clear hW
      refine hK.out _ _ hS7 (fun hHeld2 => ?_)
      clear hK KK hHeld
      have hHeld := hHeld2
      clear hHeld2
      try simp only [Act.put, List.setIfInBounds_toArray, List.set_cons_zero, List.set_cons_succ]
      refine wpAnyH_done (by kernel_rfl) ?_ _
      go_wp2_with fail
      go_meet
      exact ⟨_, _, rfl, rfl, r5, r6, hHeld.1⟩
    refine AllReadyH.cons (o := { dst := some 6, op := Go.Op.alloc 30, type := 0, pos := "law.go:28", after := #[], guard := none }) rfl (fun KK hK => ?_) AllReadyH.nil
    go_simp
    generalize hW : World.alloc _ (.cells (mC 0 0 0 0 0 0 0 0 false none 0 0 0 0 none 0 0) 30) = wy44
    have hbn := (Below.refl wd.heap.size wd).alloc (Nat.le_refl _) (.cells (mC 0 0 0 0 0 0 0 0 false none 0 0 0 0 none 0 0) 30)
    rw [hW] at hbn
    have hS7 := hst _ wy44 hHeld.1 hbn
    have r6 := heap_alloc_new wd (.cells (mC 0 0 0 0 0 0 0 0 false none 0 0 0 0 none 0 0) 30)
    rw [hW] at r6
    have l6 : w3.heap.size ≤ wd.heap.size := hHeld.1.size
    clear hW
    refine hK.out _ _ hS7 (fun hHeld2 => ?_)
    clear hK KK hHeld
    have hHeld := hHeld2
    clear hHeld2
    try simp only [Act.put, List.setIfInBounds_toArray, List.set_cons_zero, List.set_cons_succ]
    refine wpAnyH_ready (rs := [1, 4]) (by kernel_rfl) (by simp) ?_
    refine AllReadyH.cons (o := { dst := some 21, op := Go.Op.call { callee := Go.Callee.value (Go.Operand.func 9), args := #[Go.Operand.tmp 20], argTypes := #[27] }, type := 30, pos := "law.go:28", after := #[{ on := 0, ground := Go.Ground.data }], guard := none }) rfl (fun KK hK => ?_) ?_
    · go_simp
      refine (hT1 _).mono ?_
      rintro e wy45 ⟨rfl, hbn⟩
      have hS7 := hst _ wy45 hHeld.1 hbn
      have r6 := (hbn.block _ (hlt r6)).trans r6
      refine hK.out _ _ hS7 (fun hHeld2 => ?_)
      clear hK KK hHeld
      have hHeld := hHeld2
      clear hHeld2
      try simp only [Act.put, List.setIfInBounds_toArray, List.set_cons_zero, List.set_cons_succ]
      refine wpAnyH_ready (rs := [3, 4]) (by kernel_rfl) (by simp) ?_
      refine AllReadyH.cons (o := { dst := some 23, op := Go.Op.call { callee := Go.Callee.value (Go.Operand.func 9), args := #[Go.Operand.tmp 22], argTypes := #[27] }, type := 30, pos := "law.go:28", after := #[{ on := 2, ground := Go.Ground.data }, { on := 1, ground := Go.Ground.chain }], guard := none }) rfl (fun KK hK => ?_) ?_
      · go_simp
        refine (hT2 _).mono ?_
        rintro e wy46 ⟨rfl, hbn⟩
        have hS7 := hst _ wy46 hHeld.1 hbn
        have r6 := (hbn.block _ (hlt r6)).trans r6
        refine hK.out _ _ hS7 (fun hHeld2 => ?_)
        clear hK KK hHeld
        have hHeld := hHeld2
        clear hHeld2
        try simp only [Act.put, List.setIfInBounds_toArray, List.set_cons_zero, List.set_cons_succ]
        refine wpAnyH_ready (rs := [4]) (by kernel_rfl) (by simp) ?_
        refine AllReadyH.cons (o := { dst := some 5, op := Go.Op.alloc 30, type := 0, pos := "law.go:28", after := #[], guard := none }) rfl (fun KK hK => ?_) AllReadyH.nil
        go_simp
        have l65 := Nat.ne_of_lt (hlt r6)
        generalize hW : World.alloc _ (.cells (mC 0 0 0 0 0 0 0 0 false none 0 0 0 0 none 0 0) 30) = wy47
        have hbn := (Below.refl wy46.heap.size wy46).alloc (Nat.le_refl _) (.cells (mC 0 0 0 0 0 0 0 0 false none 0 0 0 0 none 0 0) 30)
        rw [hW] at hbn
        have hS7 := hst _ wy47 hHeld.1 hbn
        have r6 := (hbn.block _ (hlt r6)).trans r6
        have r5 := heap_alloc_new wy46 (.cells (mC 0 0 0 0 0 0 0 0 false none 0 0 0 0 none 0 0) 30)
        rw [hW] at r5
        have l5 : w3.heap.size ≤ wy46.heap.size := hHeld.1.size
        clear hW
        refine hK.out _ _ hS7 (fun hHeld2 => ?_)
        clear hK KK hHeld
        have hHeld := hHeld2
        clear hHeld2
        try simp only [Act.put, List.setIfInBounds_toArray, List.set_cons_zero, List.set_cons_succ]
        refine wpAnyH_ready (rs := [6]) (by kernel_rfl) (by simp) ?_
        refine AllReadyH.cons (o := { dst := none, op := Go.Op.store 30 (Go.Operand.tmp 5) (Go.Operand.tmp 21), type := 0, pos := "law.go:28", after := #[{ on := 4, ground := Go.Ground.data }, { on := 1, ground := Go.Ground.data }, { on := 3, ground := Go.Ground.chain }, { on := 0, ground := Go.Ground.phase }, { on := 1, ground := Go.Ground.phase }, { on := 2, ground := Go.Ground.textOnly Go.Departure.lateStores }, { on := 3, ground := Go.Ground.textOnly Go.Departure.lateStoresUnsure }, { on := 4, ground := Go.Ground.phase }, { on := 5, ground := Go.Ground.phase }], guard := none }) rfl (fun KK hK => ?_) AllReadyH.nil
        rw [if_pos (by rfl)]
        refine wp_store_row _ _ _ rfl _ #[.int .i64 k1, .int .i64 f1, .int .i64 o1, .int .i64 t1, .int .i64 i1, .int .i64 l1, .int .i64 c1, .int .i64 x1, .bool b1, .slice A1 es1.length cA1, .int .i64 si1, .int .i64 st1, .slice E1 sd1.length cE1] (by rfl) (by rfl) _ _ r5 (by kernel_rfl) rfl (by first | rfl | kernel_rfl | simp [Value.oneCell']) ?_
        have hS7 := hsw _ _ #[.int .i64 k1, .int .i64 f1, .int .i64 o1, .int .i64 t1, .int .i64 i1, .int .i64 l1, .int .i64 c1, .int .i64 x1, .bool b1, .slice A1 es1.length cA1, .int .i64 si1, .int .i64 st1, .slice E1 sd1.length cE1] hHeld.1 l5
        have r5 := setRow_at #[.int .i64 k1, .int .i64 f1, .int .i64 o1, .int .i64 t1, .int .i64 i1, .int .i64 l1, .int .i64 c1, .int .i64 x1, .bool b1, .slice A1 es1.length cA1, .int .i64 si1, .int .i64 st1, .slice E1 sd1.length cE1] r5
        have r6 := (setRow_other _ _ _ #[.int .i64 k1, .int .i64 f1, .int .i64 o1, .int .i64 t1, .int .i64 i1, .int .i64 l1, .int .i64 c1, .int .i64 x1, .bool b1, .slice A1 es1.length cA1, .int .i64 si1, .int .i64 st1, .slice E1 sd1.length cE1] (by first | exact l65 | exact l65.symm)).trans r6
        generalize hW : World.setRow _ _ _ = wy48 at *
        clear hW
        refine hK.out _ _ hS7 (fun hHeld2 => ?_)
        clear hK KK hHeld
        have hHeld := hHeld2
        clear hHeld2
        try simp only [Act.put, List.setIfInBounds_toArray, List.set_cons_zero, List.set_cons_succ]
        refine wpAnyH_ready (rs := [7]) (by kernel_rfl) (by simp) ?_
        refine AllReadyH.cons (o := { dst := none, op := Go.Op.store 30 (Go.Operand.tmp 6) (Go.Operand.tmp 23), type := 0, pos := "law.go:28", after := #[{ on := 5, ground := Go.Ground.data }, { on := 3, ground := Go.Ground.data }, { on := 6, ground := Go.Ground.chain }, { on := 0, ground := Go.Ground.phase }, { on := 1, ground := Go.Ground.phase }, { on := 2, ground := Go.Ground.phase }, { on := 3, ground := Go.Ground.phase }, { on := 4, ground := Go.Ground.phase }, { on := 5, ground := Go.Ground.phase }, { on := 6, ground := Go.Ground.phase }], guard := none }) rfl (fun KK hK => ?_) AllReadyH.nil
        rw [if_pos (by rfl)]
        refine wp_store_row _ _ _ rfl _ #[.int .i64 k2, .int .i64 f2, .int .i64 o2, .int .i64 t2, .int .i64 i2, .int .i64 l2, .int .i64 c2, .int .i64 x2, .bool b2, .slice A2 es2.length cA2, .int .i64 si2, .int .i64 st2, .slice E2 sd2.length cE2] (by rfl) (by rfl) _ _ r6 (by kernel_rfl) rfl (by first | rfl | kernel_rfl | simp [Value.oneCell']) ?_
        have hS7 := hsw _ _ #[.int .i64 k2, .int .i64 f2, .int .i64 o2, .int .i64 t2, .int .i64 i2, .int .i64 l2, .int .i64 c2, .int .i64 x2, .bool b2, .slice A2 es2.length cA2, .int .i64 si2, .int .i64 st2, .slice E2 sd2.length cE2] hHeld.1 l6
        have r6 := setRow_at #[.int .i64 k2, .int .i64 f2, .int .i64 o2, .int .i64 t2, .int .i64 i2, .int .i64 l2, .int .i64 c2, .int .i64 x2, .bool b2, .slice A2 es2.length cA2, .int .i64 si2, .int .i64 st2, .slice E2 sd2.length cE2] r6
        have r5 := (setRow_other _ _ _ #[.int .i64 k2, .int .i64 f2, .int .i64 o2, .int .i64 t2, .int .i64 i2, .int .i64 l2, .int .i64 c2, .int .i64 x2, .bool b2, .slice A2 es2.length cA2, .int .i64 si2, .int .i64 st2, .slice E2 sd2.length cE2] (by first | exact l65 | exact l65.symm)).trans r5
        generalize hW : World.setRow _ _ _ = wy49 at *
        clear hW
        refine hK.out _ _ hS7 (fun hHeld2 => ?_)
        clear hK KK hHeld
        have hHeld := hHeld2
        clear hHeld2
        try simp only [Act.put, List.setIfInBounds_toArray, List.set_cons_zero, List.set_cons_succ]
        refine wpAnyH_done (by kernel_rfl) ?_ _
        go_wp2_with fail
        go_meet
        exact ⟨_, _, rfl, rfl, r5, r6, hHeld.1⟩
      refine AllReadyH.cons (o := { dst := some 5, op := Go.Op.alloc 30, type := 0, pos := "law.go:28", after := #[], guard := none }) rfl (fun KK hK => ?_) AllReadyH.nil
      go_simp
      have l65 := Nat.ne_of_lt (hlt r6)
      generalize hW : World.alloc _ (.cells (mC 0 0 0 0 0 0 0 0 false none 0 0 0 0 none 0 0) 30) = wy50
      have hbn := (Below.refl wy45.heap.size wy45).alloc (Nat.le_refl _) (.cells (mC 0 0 0 0 0 0 0 0 false none 0 0 0 0 none 0 0) 30)
      rw [hW] at hbn
      have hS7 := hst _ wy50 hHeld.1 hbn
      have r6 := (hbn.block _ (hlt r6)).trans r6
      have r5 := heap_alloc_new wy45 (.cells (mC 0 0 0 0 0 0 0 0 false none 0 0 0 0 none 0 0) 30)
      rw [hW] at r5
      have l5 : w3.heap.size ≤ wy45.heap.size := hHeld.1.size
      clear hW
      refine hK.out _ _ hS7 (fun hHeld2 => ?_)
      clear hK KK hHeld
      have hHeld := hHeld2
      clear hHeld2
      try simp only [Act.put, List.setIfInBounds_toArray, List.set_cons_zero, List.set_cons_succ]
      refine wpAnyH_ready (rs := [3]) (by kernel_rfl) (by simp) ?_
      refine AllReadyH.cons (o := { dst := some 23, op := Go.Op.call { callee := Go.Callee.value (Go.Operand.func 9), args := #[Go.Operand.tmp 22], argTypes := #[27] }, type := 30, pos := "law.go:28", after := #[{ on := 2, ground := Go.Ground.data }, { on := 1, ground := Go.Ground.chain }], guard := none }) rfl (fun KK hK => ?_) AllReadyH.nil
      go_simp
      refine (hT2 _).mono ?_
      rintro e wy51 ⟨rfl, hbn⟩
      have hS7 := hst _ wy51 hHeld.1 hbn
      have r5 := (hbn.block _ (hlt r5)).trans r5
      have r6 := (hbn.block _ (hlt r6)).trans r6
      refine hK.out _ _ hS7 (fun hHeld2 => ?_)
      clear hK KK hHeld
      have hHeld := hHeld2
      clear hHeld2
      try simp only [Act.put, List.setIfInBounds_toArray, List.set_cons_zero, List.set_cons_succ]
      refine wpAnyH_ready (rs := [6]) (by kernel_rfl) (by simp) ?_
      refine AllReadyH.cons (o := { dst := none, op := Go.Op.store 30 (Go.Operand.tmp 5) (Go.Operand.tmp 21), type := 0, pos := "law.go:28", after := #[{ on := 4, ground := Go.Ground.data }, { on := 1, ground := Go.Ground.data }, { on := 3, ground := Go.Ground.chain }, { on := 0, ground := Go.Ground.phase }, { on := 1, ground := Go.Ground.phase }, { on := 2, ground := Go.Ground.textOnly Go.Departure.lateStores }, { on := 3, ground := Go.Ground.textOnly Go.Departure.lateStoresUnsure }, { on := 4, ground := Go.Ground.phase }, { on := 5, ground := Go.Ground.phase }], guard := none }) rfl (fun KK hK => ?_) AllReadyH.nil
      rw [if_pos (by rfl)]
      refine wp_store_row _ _ _ rfl _ #[.int .i64 k1, .int .i64 f1, .int .i64 o1, .int .i64 t1, .int .i64 i1, .int .i64 l1, .int .i64 c1, .int .i64 x1, .bool b1, .slice A1 es1.length cA1, .int .i64 si1, .int .i64 st1, .slice E1 sd1.length cE1] (by rfl) (by rfl) _ _ r5 (by kernel_rfl) rfl (by first | rfl | kernel_rfl | simp [Value.oneCell']) ?_
      have hS7 := hsw _ _ #[.int .i64 k1, .int .i64 f1, .int .i64 o1, .int .i64 t1, .int .i64 i1, .int .i64 l1, .int .i64 c1, .int .i64 x1, .bool b1, .slice A1 es1.length cA1, .int .i64 si1, .int .i64 st1, .slice E1 sd1.length cE1] hHeld.1 l5
      have r5 := setRow_at #[.int .i64 k1, .int .i64 f1, .int .i64 o1, .int .i64 t1, .int .i64 i1, .int .i64 l1, .int .i64 c1, .int .i64 x1, .bool b1, .slice A1 es1.length cA1, .int .i64 si1, .int .i64 st1, .slice E1 sd1.length cE1] r5
      have r6 := (setRow_other _ _ _ #[.int .i64 k1, .int .i64 f1, .int .i64 o1, .int .i64 t1, .int .i64 i1, .int .i64 l1, .int .i64 c1, .int .i64 x1, .bool b1, .slice A1 es1.length cA1, .int .i64 si1, .int .i64 st1, .slice E1 sd1.length cE1] (by first | exact l65 | exact l65.symm)).trans r6
      generalize hW : World.setRow _ _ _ = wy52 at *
      clear hW
      refine hK.out _ _ hS7 (fun hHeld2 => ?_)
      clear hK KK hHeld
      have hHeld := hHeld2
      clear hHeld2
      try simp only [Act.put, List.setIfInBounds_toArray, List.set_cons_zero, List.set_cons_succ]
      refine wpAnyH_ready (rs := [7]) (by kernel_rfl) (by simp) ?_
      refine AllReadyH.cons (o := { dst := none, op := Go.Op.store 30 (Go.Operand.tmp 6) (Go.Operand.tmp 23), type := 0, pos := "law.go:28", after := #[{ on := 5, ground := Go.Ground.data }, { on := 3, ground := Go.Ground.data }, { on := 6, ground := Go.Ground.chain }, { on := 0, ground := Go.Ground.phase }, { on := 1, ground := Go.Ground.phase }, { on := 2, ground := Go.Ground.phase }, { on := 3, ground := Go.Ground.phase }, { on := 4, ground := Go.Ground.phase }, { on := 5, ground := Go.Ground.phase }, { on := 6, ground := Go.Ground.phase }], guard := none }) rfl (fun KK hK => ?_) AllReadyH.nil
      rw [if_pos (by rfl)]
      refine wp_store_row _ _ _ rfl _ #[.int .i64 k2, .int .i64 f2, .int .i64 o2, .int .i64 t2, .int .i64 i2, .int .i64 l2, .int .i64 c2, .int .i64 x2, .bool b2, .slice A2 es2.length cA2, .int .i64 si2, .int .i64 st2, .slice E2 sd2.length cE2] (by rfl) (by rfl) _ _ r6 (by kernel_rfl) rfl (by first | rfl | kernel_rfl | simp [Value.oneCell']) ?_
      have hS7 := hsw _ _ #[.int .i64 k2, .int .i64 f2, .int .i64 o2, .int .i64 t2, .int .i64 i2, .int .i64 l2, .int .i64 c2, .int .i64 x2, .bool b2, .slice A2 es2.length cA2, .int .i64 si2, .int .i64 st2, .slice E2 sd2.length cE2] hHeld.1 l6
      have r6 := setRow_at #[.int .i64 k2, .int .i64 f2, .int .i64 o2, .int .i64 t2, .int .i64 i2, .int .i64 l2, .int .i64 c2, .int .i64 x2, .bool b2, .slice A2 es2.length cA2, .int .i64 si2, .int .i64 st2, .slice E2 sd2.length cE2] r6
      have r5 := (setRow_other _ _ _ #[.int .i64 k2, .int .i64 f2, .int .i64 o2, .int .i64 t2, .int .i64 i2, .int .i64 l2, .int .i64 c2, .int .i64 x2, .bool b2, .slice A2 es2.length cA2, .int .i64 si2, .int .i64 st2, .slice E2 sd2.length cE2] (by first | exact l65 | exact l65.symm)).trans r5
      generalize hW : World.setRow _ _ _ = wy53 at *
      clear hW
      refine hK.out _ _ hS7 (fun hHeld2 => ?_)
      clear hK KK hHeld
      have hHeld := hHeld2
      clear hHeld2
      try simp only [Act.put, List.setIfInBounds_toArray, List.set_cons_zero, List.set_cons_succ]
      refine wpAnyH_done (by kernel_rfl) ?_ _
      go_wp2_with fail
      go_meet
      exact ⟨_, _, rfl, rfl, r5, r6, hHeld.1⟩
    refine AllReadyH.cons (o := { dst := some 5, op := Go.Op.alloc 30, type := 0, pos := "law.go:28", after := #[], guard := none }) rfl (fun KK hK => ?_) AllReadyH.nil
    go_simp
    have l65 := Nat.ne_of_lt (hlt r6)
    generalize hW : World.alloc _ (.cells (mC 0 0 0 0 0 0 0 0 false none 0 0 0 0 none 0 0) 30) = wy54
    have hbn := (Below.refl wy44.heap.size wy44).alloc (Nat.le_refl _) (.cells (mC 0 0 0 0 0 0 0 0 false none 0 0 0 0 none 0 0) 30)
    rw [hW] at hbn
    have hS7 := hst _ wy54 hHeld.1 hbn
    have r6 := (hbn.block _ (hlt r6)).trans r6
    have r5 := heap_alloc_new wy44 (.cells (mC 0 0 0 0 0 0 0 0 false none 0 0 0 0 none 0 0) 30)
    rw [hW] at r5
    have l5 : w3.heap.size ≤ wy44.heap.size := hHeld.1.size
    clear hW
    refine hK.out _ _ hS7 (fun hHeld2 => ?_)
    clear hK KK hHeld
    have hHeld := hHeld2
    clear hHeld2
    try simp only [Act.put, List.setIfInBounds_toArray, List.set_cons_zero, List.set_cons_succ]
    refine wpAnyH_ready (rs := [1]) (by kernel_rfl) (by simp) ?_
    refine AllReadyH.cons (o := { dst := some 21, op := Go.Op.call { callee := Go.Callee.value (Go.Operand.func 9), args := #[Go.Operand.tmp 20], argTypes := #[27] }, type := 30, pos := "law.go:28", after := #[{ on := 0, ground := Go.Ground.data }], guard := none }) rfl (fun KK hK => ?_) AllReadyH.nil
    go_simp
    refine (hT1 _).mono ?_
    rintro e wy55 ⟨rfl, hbn⟩
    have hS7 := hst _ wy55 hHeld.1 hbn
    have r5 := (hbn.block _ (hlt r5)).trans r5
    have r6 := (hbn.block _ (hlt r6)).trans r6
    refine hK.out _ _ hS7 (fun hHeld2 => ?_)
    clear hK KK hHeld
    have hHeld := hHeld2
    clear hHeld2
    try simp only [Act.put, List.setIfInBounds_toArray, List.set_cons_zero, List.set_cons_succ]
    refine wpAnyH_ready (rs := [3]) (by kernel_rfl) (by simp) ?_
    refine AllReadyH.cons (o := { dst := some 23, op := Go.Op.call { callee := Go.Callee.value (Go.Operand.func 9), args := #[Go.Operand.tmp 22], argTypes := #[27] }, type := 30, pos := "law.go:28", after := #[{ on := 2, ground := Go.Ground.data }, { on := 1, ground := Go.Ground.chain }], guard := none }) rfl (fun KK hK => ?_) AllReadyH.nil
    go_simp
    refine (hT2 _).mono ?_
    rintro e wy56 ⟨rfl, hbn⟩
    have hS7 := hst _ wy56 hHeld.1 hbn
    have r5 := (hbn.block _ (hlt r5)).trans r5
    have r6 := (hbn.block _ (hlt r6)).trans r6
    refine hK.out _ _ hS7 (fun hHeld2 => ?_)
    clear hK KK hHeld
    have hHeld := hHeld2
    clear hHeld2
    try simp only [Act.put, List.setIfInBounds_toArray, List.set_cons_zero, List.set_cons_succ]
    refine wpAnyH_ready (rs := [6]) (by kernel_rfl) (by simp) ?_
    refine AllReadyH.cons (o := { dst := none, op := Go.Op.store 30 (Go.Operand.tmp 5) (Go.Operand.tmp 21), type := 0, pos := "law.go:28", after := #[{ on := 4, ground := Go.Ground.data }, { on := 1, ground := Go.Ground.data }, { on := 3, ground := Go.Ground.chain }, { on := 0, ground := Go.Ground.phase }, { on := 1, ground := Go.Ground.phase }, { on := 2, ground := Go.Ground.textOnly Go.Departure.lateStores }, { on := 3, ground := Go.Ground.textOnly Go.Departure.lateStoresUnsure }, { on := 4, ground := Go.Ground.phase }, { on := 5, ground := Go.Ground.phase }], guard := none }) rfl (fun KK hK => ?_) AllReadyH.nil
    rw [if_pos (by rfl)]
    refine wp_store_row _ _ _ rfl _ #[.int .i64 k1, .int .i64 f1, .int .i64 o1, .int .i64 t1, .int .i64 i1, .int .i64 l1, .int .i64 c1, .int .i64 x1, .bool b1, .slice A1 es1.length cA1, .int .i64 si1, .int .i64 st1, .slice E1 sd1.length cE1] (by rfl) (by rfl) _ _ r5 (by kernel_rfl) rfl (by first | rfl | kernel_rfl | simp [Value.oneCell']) ?_
    have hS7 := hsw _ _ #[.int .i64 k1, .int .i64 f1, .int .i64 o1, .int .i64 t1, .int .i64 i1, .int .i64 l1, .int .i64 c1, .int .i64 x1, .bool b1, .slice A1 es1.length cA1, .int .i64 si1, .int .i64 st1, .slice E1 sd1.length cE1] hHeld.1 l5
    have r5 := setRow_at #[.int .i64 k1, .int .i64 f1, .int .i64 o1, .int .i64 t1, .int .i64 i1, .int .i64 l1, .int .i64 c1, .int .i64 x1, .bool b1, .slice A1 es1.length cA1, .int .i64 si1, .int .i64 st1, .slice E1 sd1.length cE1] r5
    have r6 := (setRow_other _ _ _ #[.int .i64 k1, .int .i64 f1, .int .i64 o1, .int .i64 t1, .int .i64 i1, .int .i64 l1, .int .i64 c1, .int .i64 x1, .bool b1, .slice A1 es1.length cA1, .int .i64 si1, .int .i64 st1, .slice E1 sd1.length cE1] (by first | exact l65 | exact l65.symm)).trans r6
    generalize hW : World.setRow _ _ _ = wy57 at *
    clear hW
    refine hK.out _ _ hS7 (fun hHeld2 => ?_)
    clear hK KK hHeld
    have hHeld := hHeld2
    clear hHeld2
    try simp only [Act.put, List.setIfInBounds_toArray, List.set_cons_zero, List.set_cons_succ]
    refine wpAnyH_ready (rs := [7]) (by kernel_rfl) (by simp) ?_
    refine AllReadyH.cons (o := { dst := none, op := Go.Op.store 30 (Go.Operand.tmp 6) (Go.Operand.tmp 23), type := 0, pos := "law.go:28", after := #[{ on := 5, ground := Go.Ground.data }, { on := 3, ground := Go.Ground.data }, { on := 6, ground := Go.Ground.chain }, { on := 0, ground := Go.Ground.phase }, { on := 1, ground := Go.Ground.phase }, { on := 2, ground := Go.Ground.phase }, { on := 3, ground := Go.Ground.phase }, { on := 4, ground := Go.Ground.phase }, { on := 5, ground := Go.Ground.phase }, { on := 6, ground := Go.Ground.phase }], guard := none }) rfl (fun KK hK => ?_) AllReadyH.nil
    rw [if_pos (by rfl)]
    refine wp_store_row _ _ _ rfl _ #[.int .i64 k2, .int .i64 f2, .int .i64 o2, .int .i64 t2, .int .i64 i2, .int .i64 l2, .int .i64 c2, .int .i64 x2, .bool b2, .slice A2 es2.length cA2, .int .i64 si2, .int .i64 st2, .slice E2 sd2.length cE2] (by rfl) (by rfl) _ _ r6 (by kernel_rfl) rfl (by first | rfl | kernel_rfl | simp [Value.oneCell']) ?_
    have hS7 := hsw _ _ #[.int .i64 k2, .int .i64 f2, .int .i64 o2, .int .i64 t2, .int .i64 i2, .int .i64 l2, .int .i64 c2, .int .i64 x2, .bool b2, .slice A2 es2.length cA2, .int .i64 si2, .int .i64 st2, .slice E2 sd2.length cE2] hHeld.1 l6
    have r6 := setRow_at #[.int .i64 k2, .int .i64 f2, .int .i64 o2, .int .i64 t2, .int .i64 i2, .int .i64 l2, .int .i64 c2, .int .i64 x2, .bool b2, .slice A2 es2.length cA2, .int .i64 si2, .int .i64 st2, .slice E2 sd2.length cE2] r6
    have r5 := (setRow_other _ _ _ #[.int .i64 k2, .int .i64 f2, .int .i64 o2, .int .i64 t2, .int .i64 i2, .int .i64 l2, .int .i64 c2, .int .i64 x2, .bool b2, .slice A2 es2.length cA2, .int .i64 si2, .int .i64 st2, .slice E2 sd2.length cE2] (by first | exact l65 | exact l65.symm)).trans r5
    generalize hW : World.setRow _ _ _ = wy58 at *
    clear hW
    refine hK.out _ _ hS7 (fun hHeld2 => ?_)
    clear hK KK hHeld
    have hHeld := hHeld2
    clear hHeld2
    try simp only [Act.put, List.setIfInBounds_toArray, List.set_cons_zero, List.set_cons_succ]
    refine wpAnyH_done (by kernel_rfl) ?_ _
    go_wp2_with fail
    go_meet
    exact ⟨_, _, rfl, rfl, r5, r6, hHeld.1⟩
  case rest =>
    obtain ⟨g5, g6, rfl, rfl, r5, r6, hbc⟩ := hcut
    have hbwc := hbw3.trans (hbc.mono hbw3.size)
    have hr1 := (hbc.block _ (hlt hr1)).trans hr1
    have hr2 := (hbc.block _ (hlt hr2)).trans hr2
    clear hst hsw hS0 hT1 hT2 hrd1 hrd2 hbc hbw3
    have hst : ∀ W W', Below wc.heap.size wc W → Below W.heap.size W W' → (fun w' => Below wc.heap.size wc w' ∧ (w'.cell? ⟨w.heap.size, 0, none⟩ = some (.int .i64 k1) ∧ w'.cell? ⟨w.heap.size, 1, none⟩ = some (.int .i64 f1) ∧ w'.cell? ⟨w.heap.size, 2, none⟩ = some (.int .i64 o1) ∧ w'.cell? ⟨w.heap.size, 3, none⟩ = some (.int .i64 t1) ∧ w'.cell? ⟨w.heap.size, 4, none⟩ = some (.int .i64 i1) ∧ w'.cell? ⟨w.heap.size, 5, none⟩ = some (.int .i64 l1) ∧ w'.cell? ⟨w.heap.size, 6, none⟩ = some (.int .i64 c1) ∧ w'.cell? ⟨w.heap.size, 7, none⟩ = some (.int .i64 x1) ∧ w'.cell? ⟨w.heap.size, 8, none⟩ = some (.bool b1) ∧ w'.cell? ⟨w.heap.size, 9, none⟩ = some (.slice A1 es1.length cA1) ∧ w'.cell? ⟨w.heap.size, 10, none⟩ = some (.int .i64 si1) ∧ w'.cell? ⟨w.heap.size, 11, none⟩ = some (.int .i64 st1) ∧ w'.cell? ⟨w.heap.size, 12, none⟩ = some (.slice E1 sd1.length cE1)) ∧ (w'.cell? ⟨w.heap.size + 1, 0, none⟩ = some (.int .i64 k2) ∧ w'.cell? ⟨w.heap.size + 1, 1, none⟩ = some (.int .i64 f2) ∧ w'.cell? ⟨w.heap.size + 1, 2, none⟩ = some (.int .i64 o2) ∧ w'.cell? ⟨w.heap.size + 1, 3, none⟩ = some (.int .i64 t2) ∧ w'.cell? ⟨w.heap.size + 1, 4, none⟩ = some (.int .i64 i2) ∧ w'.cell? ⟨w.heap.size + 1, 5, none⟩ = some (.int .i64 l2) ∧ w'.cell? ⟨w.heap.size + 1, 6, none⟩ = some (.int .i64 c2) ∧ w'.cell? ⟨w.heap.size + 1, 7, none⟩ = some (.int .i64 x2) ∧ w'.cell? ⟨w.heap.size + 1, 8, none⟩ = some (.bool b2) ∧ w'.cell? ⟨w.heap.size + 1, 9, none⟩ = some (.slice A2 es2.length cA2) ∧ w'.cell? ⟨w.heap.size + 1, 10, none⟩ = some (.int .i64 si2) ∧ w'.cell? ⟨w.heap.size + 1, 11, none⟩ = some (.int .i64 st2) ∧ w'.cell? ⟨w.heap.size + 1, 12, none⟩ = some (.slice E2 sd2.length cE2)) ∧ (w'.cell? ⟨g5, 0, none⟩ = some (.int .i64 k1) ∧ w'.cell? ⟨g5, 1, none⟩ = some (.int .i64 f1) ∧ w'.cell? ⟨g5, 2, none⟩ = some (.int .i64 o1) ∧ w'.cell? ⟨g5, 3, none⟩ = some (.int .i64 t1) ∧ w'.cell? ⟨g5, 4, none⟩ = some (.int .i64 i1) ∧ w'.cell? ⟨g5, 5, none⟩ = some (.int .i64 l1) ∧ w'.cell? ⟨g5, 6, none⟩ = some (.int .i64 c1) ∧ w'.cell? ⟨g5, 7, none⟩ = some (.int .i64 x1) ∧ w'.cell? ⟨g5, 8, none⟩ = some (.bool b1) ∧ w'.cell? ⟨g5, 9, none⟩ = some (.slice A1 es1.length cA1) ∧ w'.cell? ⟨g5, 10, none⟩ = some (.int .i64 si1) ∧ w'.cell? ⟨g5, 11, none⟩ = some (.int .i64 st1) ∧ w'.cell? ⟨g5, 12, none⟩ = some (.slice E1 sd1.length cE1)) ∧ (w'.cell? ⟨g6, 0, none⟩ = some (.int .i64 k2) ∧ w'.cell? ⟨g6, 1, none⟩ = some (.int .i64 f2) ∧ w'.cell? ⟨g6, 2, none⟩ = some (.int .i64 o2) ∧ w'.cell? ⟨g6, 3, none⟩ = some (.int .i64 t2) ∧ w'.cell? ⟨g6, 4, none⟩ = some (.int .i64 i2) ∧ w'.cell? ⟨g6, 5, none⟩ = some (.int .i64 l2) ∧ w'.cell? ⟨g6, 6, none⟩ = some (.int .i64 c2) ∧ w'.cell? ⟨g6, 7, none⟩ = some (.int .i64 x2) ∧ w'.cell? ⟨g6, 8, none⟩ = some (.bool b2) ∧ w'.cell? ⟨g6, 9, none⟩ = some (.slice A2 es2.length cA2) ∧ w'.cell? ⟨g6, 10, none⟩ = some (.int .i64 si2) ∧ w'.cell? ⟨g6, 11, none⟩ = some (.int .i64 st2) ∧ w'.cell? ⟨g6, 12, none⟩ = some (.slice E2 sd2.length cE2))) W' := fun W W' h1 h2 => by
      have h3 := h1.trans (h2.mono h1.size)
      exact ⟨h3, (row13 ((h3.block _ (hlt hr1)).trans hr1)).1, (row13 ((h3.block _ (hlt hr2)).trans hr2)).1, (row13 ((h3.block _ (hlt r5)).trans r5)).1, (row13 ((h3.block _ (hlt r6)).trans r6)).1⟩
    have hup := fun W (hW : Below wc.heap.size wc W) => hbwc.trans (hW.mono hbwc.size)
    have hS0 : (fun w' => Below wc.heap.size wc w' ∧ (w'.cell? ⟨w.heap.size, 0, none⟩ = some (.int .i64 k1) ∧ w'.cell? ⟨w.heap.size, 1, none⟩ = some (.int .i64 f1) ∧ w'.cell? ⟨w.heap.size, 2, none⟩ = some (.int .i64 o1) ∧ w'.cell? ⟨w.heap.size, 3, none⟩ = some (.int .i64 t1) ∧ w'.cell? ⟨w.heap.size, 4, none⟩ = some (.int .i64 i1) ∧ w'.cell? ⟨w.heap.size, 5, none⟩ = some (.int .i64 l1) ∧ w'.cell? ⟨w.heap.size, 6, none⟩ = some (.int .i64 c1) ∧ w'.cell? ⟨w.heap.size, 7, none⟩ = some (.int .i64 x1) ∧ w'.cell? ⟨w.heap.size, 8, none⟩ = some (.bool b1) ∧ w'.cell? ⟨w.heap.size, 9, none⟩ = some (.slice A1 es1.length cA1) ∧ w'.cell? ⟨w.heap.size, 10, none⟩ = some (.int .i64 si1) ∧ w'.cell? ⟨w.heap.size, 11, none⟩ = some (.int .i64 st1) ∧ w'.cell? ⟨w.heap.size, 12, none⟩ = some (.slice E1 sd1.length cE1)) ∧ (w'.cell? ⟨w.heap.size + 1, 0, none⟩ = some (.int .i64 k2) ∧ w'.cell? ⟨w.heap.size + 1, 1, none⟩ = some (.int .i64 f2) ∧ w'.cell? ⟨w.heap.size + 1, 2, none⟩ = some (.int .i64 o2) ∧ w'.cell? ⟨w.heap.size + 1, 3, none⟩ = some (.int .i64 t2) ∧ w'.cell? ⟨w.heap.size + 1, 4, none⟩ = some (.int .i64 i2) ∧ w'.cell? ⟨w.heap.size + 1, 5, none⟩ = some (.int .i64 l2) ∧ w'.cell? ⟨w.heap.size + 1, 6, none⟩ = some (.int .i64 c2) ∧ w'.cell? ⟨w.heap.size + 1, 7, none⟩ = some (.int .i64 x2) ∧ w'.cell? ⟨w.heap.size + 1, 8, none⟩ = some (.bool b2) ∧ w'.cell? ⟨w.heap.size + 1, 9, none⟩ = some (.slice A2 es2.length cA2) ∧ w'.cell? ⟨w.heap.size + 1, 10, none⟩ = some (.int .i64 si2) ∧ w'.cell? ⟨w.heap.size + 1, 11, none⟩ = some (.int .i64 st2) ∧ w'.cell? ⟨w.heap.size + 1, 12, none⟩ = some (.slice E2 sd2.length cE2)) ∧ (w'.cell? ⟨g5, 0, none⟩ = some (.int .i64 k1) ∧ w'.cell? ⟨g5, 1, none⟩ = some (.int .i64 f1) ∧ w'.cell? ⟨g5, 2, none⟩ = some (.int .i64 o1) ∧ w'.cell? ⟨g5, 3, none⟩ = some (.int .i64 t1) ∧ w'.cell? ⟨g5, 4, none⟩ = some (.int .i64 i1) ∧ w'.cell? ⟨g5, 5, none⟩ = some (.int .i64 l1) ∧ w'.cell? ⟨g5, 6, none⟩ = some (.int .i64 c1) ∧ w'.cell? ⟨g5, 7, none⟩ = some (.int .i64 x1) ∧ w'.cell? ⟨g5, 8, none⟩ = some (.bool b1) ∧ w'.cell? ⟨g5, 9, none⟩ = some (.slice A1 es1.length cA1) ∧ w'.cell? ⟨g5, 10, none⟩ = some (.int .i64 si1) ∧ w'.cell? ⟨g5, 11, none⟩ = some (.int .i64 st1) ∧ w'.cell? ⟨g5, 12, none⟩ = some (.slice E1 sd1.length cE1)) ∧ (w'.cell? ⟨g6, 0, none⟩ = some (.int .i64 k2) ∧ w'.cell? ⟨g6, 1, none⟩ = some (.int .i64 f2) ∧ w'.cell? ⟨g6, 2, none⟩ = some (.int .i64 o2) ∧ w'.cell? ⟨g6, 3, none⟩ = some (.int .i64 t2) ∧ w'.cell? ⟨g6, 4, none⟩ = some (.int .i64 i2) ∧ w'.cell? ⟨g6, 5, none⟩ = some (.int .i64 l2) ∧ w'.cell? ⟨g6, 6, none⟩ = some (.int .i64 c2) ∧ w'.cell? ⟨g6, 7, none⟩ = some (.int .i64 x2) ∧ w'.cell? ⟨g6, 8, none⟩ = some (.bool b2) ∧ w'.cell? ⟨g6, 9, none⟩ = some (.slice A2 es2.length cA2) ∧ w'.cell? ⟨g6, 10, none⟩ = some (.int .i64 si2) ∧ w'.cell? ⟨g6, 11, none⟩ = some (.int .i64 st2) ∧ w'.cell? ⟨g6, 12, none⟩ = some (.slice E2 sd2.length cE2))) wc.drew := by
      have h := hst wc wc (Below.refl _ _) (Below.refl _ _)
      exact ⟨(Below.refl _ _).drew, h.2⟩
    go_upto_region 4 with fail
    refine wp_region_held_drew (S := (fun w' => Below wc.heap.size wc w' ∧ (w'.cell? ⟨w.heap.size, 0, none⟩ = some (.int .i64 k1) ∧ w'.cell? ⟨w.heap.size, 1, none⟩ = some (.int .i64 f1) ∧ w'.cell? ⟨w.heap.size, 2, none⟩ = some (.int .i64 o1) ∧ w'.cell? ⟨w.heap.size, 3, none⟩ = some (.int .i64 t1) ∧ w'.cell? ⟨w.heap.size, 4, none⟩ = some (.int .i64 i1) ∧ w'.cell? ⟨w.heap.size, 5, none⟩ = some (.int .i64 l1) ∧ w'.cell? ⟨w.heap.size, 6, none⟩ = some (.int .i64 c1) ∧ w'.cell? ⟨w.heap.size, 7, none⟩ = some (.int .i64 x1) ∧ w'.cell? ⟨w.heap.size, 8, none⟩ = some (.bool b1) ∧ w'.cell? ⟨w.heap.size, 9, none⟩ = some (.slice A1 es1.length cA1) ∧ w'.cell? ⟨w.heap.size, 10, none⟩ = some (.int .i64 si1) ∧ w'.cell? ⟨w.heap.size, 11, none⟩ = some (.int .i64 st1) ∧ w'.cell? ⟨w.heap.size, 12, none⟩ = some (.slice E1 sd1.length cE1)) ∧ (w'.cell? ⟨w.heap.size + 1, 0, none⟩ = some (.int .i64 k2) ∧ w'.cell? ⟨w.heap.size + 1, 1, none⟩ = some (.int .i64 f2) ∧ w'.cell? ⟨w.heap.size + 1, 2, none⟩ = some (.int .i64 o2) ∧ w'.cell? ⟨w.heap.size + 1, 3, none⟩ = some (.int .i64 t2) ∧ w'.cell? ⟨w.heap.size + 1, 4, none⟩ = some (.int .i64 i2) ∧ w'.cell? ⟨w.heap.size + 1, 5, none⟩ = some (.int .i64 l2) ∧ w'.cell? ⟨w.heap.size + 1, 6, none⟩ = some (.int .i64 c2) ∧ w'.cell? ⟨w.heap.size + 1, 7, none⟩ = some (.int .i64 x2) ∧ w'.cell? ⟨w.heap.size + 1, 8, none⟩ = some (.bool b2) ∧ w'.cell? ⟨w.heap.size + 1, 9, none⟩ = some (.slice A2 es2.length cA2) ∧ w'.cell? ⟨w.heap.size + 1, 10, none⟩ = some (.int .i64 si2) ∧ w'.cell? ⟨w.heap.size + 1, 11, none⟩ = some (.int .i64 st2) ∧ w'.cell? ⟨w.heap.size + 1, 12, none⟩ = some (.slice E2 sd2.length cE2)) ∧ (w'.cell? ⟨g5, 0, none⟩ = some (.int .i64 k1) ∧ w'.cell? ⟨g5, 1, none⟩ = some (.int .i64 f1) ∧ w'.cell? ⟨g5, 2, none⟩ = some (.int .i64 o1) ∧ w'.cell? ⟨g5, 3, none⟩ = some (.int .i64 t1) ∧ w'.cell? ⟨g5, 4, none⟩ = some (.int .i64 i1) ∧ w'.cell? ⟨g5, 5, none⟩ = some (.int .i64 l1) ∧ w'.cell? ⟨g5, 6, none⟩ = some (.int .i64 c1) ∧ w'.cell? ⟨g5, 7, none⟩ = some (.int .i64 x1) ∧ w'.cell? ⟨g5, 8, none⟩ = some (.bool b1) ∧ w'.cell? ⟨g5, 9, none⟩ = some (.slice A1 es1.length cA1) ∧ w'.cell? ⟨g5, 10, none⟩ = some (.int .i64 si1) ∧ w'.cell? ⟨g5, 11, none⟩ = some (.int .i64 st1) ∧ w'.cell? ⟨g5, 12, none⟩ = some (.slice E1 sd1.length cE1)) ∧ (w'.cell? ⟨g6, 0, none⟩ = some (.int .i64 k2) ∧ w'.cell? ⟨g6, 1, none⟩ = some (.int .i64 f2) ∧ w'.cell? ⟨g6, 2, none⟩ = some (.int .i64 o2) ∧ w'.cell? ⟨g6, 3, none⟩ = some (.int .i64 t2) ∧ w'.cell? ⟨g6, 4, none⟩ = some (.int .i64 i2) ∧ w'.cell? ⟨g6, 5, none⟩ = some (.int .i64 l2) ∧ w'.cell? ⟨g6, 6, none⟩ = some (.int .i64 c2) ∧ w'.cell? ⟨g6, 7, none⟩ = some (.int .i64 x2) ∧ w'.cell? ⟨g6, 8, none⟩ = some (.bool b2) ∧ w'.cell? ⟨g6, 9, none⟩ = some (.slice A2 es2.length cA2) ∧ w'.cell? ⟨g6, 10, none⟩ = some (.int .i64 si2) ∧ w'.cell? ⟨g6, 11, none⟩ = some (.int .i64 st2) ∧ w'.cell? ⟨g6, 12, none⟩ = some (.slice E2 sd2.length cE2)))) (by kernel_rfl) hS0 (fun hHeld => ?_)
    change wpAnyH _ _ _ _ _ 20 #[false, false, false, false, false, false, false, false, false, false, false, false, false, false, false, false, false, false, false, false] _ _
    refine wpAnyH_take (i := 0) (oi := { dst := some 24, op := Go.Op.load 30 (Go.Operand.tmp 5), type := 30, pos := "law.go:29", after := #[], guard := none }) (v := ?_) rfl (by kernel_rfl) (by kernel_rfl) (by kernel_rfl) (fun _ _ _ h => h) (Or.inl ⟨by rfl, ?_⟩) (by assumption) ?_
    rotate_left
    · ((intro w hSw; (try dsimp only at hSw); go_simp); (try with_reducible rfl))
    try simp only [Act.put, List.setIfInBounds_toArray, List.set_cons_zero, List.set_cons_succ]
    refine wpAnyH_take (i := 2) (oi := { dst := some 26, op := Go.Op.load 27 (Go.Operand.tmp 2), type := 27, pos := "law.go:29", after := #[], guard := none }) (v := ?_) rfl (by kernel_rfl) (by kernel_rfl) (by kernel_rfl) (fun _ _ _ h => h) (Or.inl ⟨by rfl, ?_⟩) (by assumption) ?_
    rotate_left
    · ((intro w hSw; (try dsimp only at hSw); go_simp); (try with_reducible rfl))
    try simp only [Act.put, List.setIfInBounds_toArray, List.set_cons_zero, List.set_cons_succ]
    refine wpAnyH_ready (rs := [1]) (by kernel_rfl) (by simp) ?_
    refine AllReadyH.cons (o := { dst := some 25, op := Go.Op.call { callee := Go.Callee.value (Go.Operand.func 10), args := #[Go.Operand.tmp 24], argTypes := #[30] }, type := 4, pos := "law.go:29", after := #[{ on := 0, ground := Go.Ground.data }], guard := none }) rfl (fun KK hK => ?_) AllReadyH.nil
    go_simp
    refine (hRP _ (hup _ (by first | exact hHeld.1))).mono ?_
    rintro e w21 ⟨rfl, hb21⟩
    have hS7 := hst _ w21 hHeld.1 hb21
    refine hK.out _ _ hS7 (fun hHeld2 => ?_)
    clear hK KK hHeld
    have hHeld := hHeld2
    clear hHeld2
    try simp only [Act.put, List.setIfInBounds_toArray, List.set_cons_zero, List.set_cons_succ]
    refine wpAnyH_ready (rs := [3]) (by kernel_rfl) (by simp) ?_
    refine AllReadyH.cons (o := { dst := some 27, op := Go.Op.call { callee := Go.Callee.value (Go.Operand.func 11), args := #[Go.Operand.tmp 26], argTypes := #[27] }, type := 4, pos := "law.go:29", after := #[{ on := 2, ground := Go.Ground.data }, { on := 1, ground := Go.Ground.chain }], guard := none }) rfl (fun KK hK => ?_) AllReadyH.nil
    go_simp
    refine (hRR _ (hup _ (by first | exact hHeld.1))).mono ?_
    rintro e w23 ⟨rfl, hb23⟩
    have hS7 := hst _ w23 hHeld.1 hb23
    refine hK.out _ _ hS7 (fun hHeld2 => ?_)
    clear hK KK hHeld
    have hHeld := hHeld2
    clear hHeld2
    try simp only [Act.put, List.setIfInBounds_toArray, List.set_cons_zero, List.set_cons_succ]
    refine wpAnyH_take (i := 4) (oi := { dst := some 28, op := Go.Op.binOp Go.BinOp.eql 4 (Go.Operand.tmp 25) (Go.Operand.tmp 27) 4, type := 4, pos := "law.go:29", after := #[{ on := 1, ground := Go.Ground.data }, { on := 3, ground := Go.Ground.data }], guard := none }) (v := ?_) rfl (by kernel_rfl) (by kernel_rfl) (by kernel_rfl) (fun _ _ _ h => h) (Or.inl ⟨by rfl, ?_⟩) (by assumption) ?_
    rotate_left
    · ((intro w hSw; (try dsimp only at hSw); go_simp); (try with_reducible rfl))
    try simp only [Act.put, List.setIfInBounds_toArray, List.set_cons_zero, List.set_cons_succ]
    refine wpAnyH_take (i := 5) (oi := { dst := some 29, op := Go.Op.move (Go.Operand.tmp 28), type := 4, pos := "law.go:29", after := #[{ on := 4, ground := Go.Ground.data }, { on := 3, ground := Go.Ground.chain }], guard := none }) (v := ?_) rfl (by kernel_rfl) (by kernel_rfl) (by kernel_rfl) (fun _ _ _ h => h) (Or.inl ⟨by rfl, ?_⟩) (by assumption) ?_
    rotate_left
    · ((intro w hSw; (try dsimp only at hSw); go_simp); (try with_reducible rfl))
    try simp only [Act.put, List.setIfInBounds_toArray, List.set_cons_zero, List.set_cons_succ]
    refine wpAnyH_take (i := 6) (oi := { dst := some 30, op := Go.Op.load 30 (Go.Operand.tmp 5), type := 30, pos := "law.go:29", after := #[{ on := 5, ground := Go.Ground.guard }], guard := some (5, true) }) (v := ?_) rfl (by kernel_rfl) (by kernel_rfl) (by kernel_rfl) (fun _ _ _ h => h) (Or.inl ⟨by rfl, ?_⟩) (by assumption) ?_
    rotate_left
    · ((intro w hSw; (try dsimp only at hSw); go_simp); (try with_reducible rfl))
    try simp only [Act.put, List.setIfInBounds_toArray, List.set_cons_zero, List.set_cons_succ]
    refine wpAnyH_take (i := 7) (oi := { dst := some 31, op := Go.Op.load 30 (Go.Operand.tmp 6), type := 30, pos := "law.go:29", after := #[{ on := 5, ground := Go.Ground.guard }], guard := some (5, true) }) (v := ?_) rfl (by kernel_rfl) (by kernel_rfl) (by kernel_rfl) (fun _ _ _ h => h) (Or.inl ⟨by rfl, ?_⟩) (by assumption) ?_
    rotate_left
    · ((intro w hSw; (try dsimp only at hSw); go_simp); (try with_reducible rfl))
    try simp only [Act.put, List.setIfInBounds_toArray, List.set_cons_zero, List.set_cons_succ]
    refine wpAnyH_take (i := 9) (oi := { dst := some 33, op := Go.Op.load 27 (Go.Operand.tmp 2), type := 27, pos := "law.go:29", after := #[{ on := 5, ground := Go.Ground.guard }], guard := some (5, true) }) (v := ?_) rfl (by kernel_rfl) (by kernel_rfl) (by kernel_rfl) (fun _ _ _ h => h) (Or.inl ⟨by rfl, ?_⟩) (by assumption) ?_
    rotate_left
    · ((intro w hSw; (try dsimp only at hSw); go_simp); (try with_reducible rfl))
    try simp only [Act.put, List.setIfInBounds_toArray, List.set_cons_zero, List.set_cons_succ]
    refine wpAnyH_take (i := 10) (oi := { dst := some 34, op := Go.Op.load 27 (Go.Operand.tmp 3), type := 27, pos := "law.go:29", after := #[{ on := 5, ground := Go.Ground.guard }], guard := some (5, true) }) (v := ?_) rfl (by kernel_rfl) (by kernel_rfl) (by kernel_rfl) (fun _ _ _ h => h) (Or.inl ⟨by rfl, ?_⟩) (by assumption) ?_
    rotate_left
    · ((intro w hSw; (try dsimp only at hSw); go_simp); (try with_reducible rfl))
    try simp only [Act.put, List.setIfInBounds_toArray, List.set_cons_zero, List.set_cons_succ]
    refine wpAnyH_ready (rs := [8]) (by kernel_rfl) (by simp) ?_
    refine AllReadyH.cons (o := { dst := some 32, op := Go.Op.call { callee := Go.Callee.value (Go.Operand.func 12), args := #[Go.Operand.tmp 30, Go.Operand.tmp 31], argTypes := #[30, 30] }, type := 4, pos := "law.go:29", after := #[{ on := 6, ground := Go.Ground.data }, { on := 7, ground := Go.Ground.data }, { on := 5, ground := Go.Ground.chain }, { on := 5, ground := Go.Ground.guard }], guard := some (5, true) }) rfl (fun KK hK => ?_) AllReadyH.nil
    go_simp
    refine (hSP _ (hup _ (by first | exact hHeld.1))).mono ?_
    rintro e w28 ⟨rfl, hb28⟩
    have hS7 := hst _ w28 hHeld.1 hb28
    refine hK.out _ _ hS7 (fun hHeld2 => ?_)
    clear hK KK hHeld
    have hHeld := hHeld2
    clear hHeld2
    try simp only [Act.put, List.setIfInBounds_toArray, List.set_cons_zero, List.set_cons_succ]
    refine wpAnyH_ready (rs := [11]) (by kernel_rfl) (by simp) ?_
    refine AllReadyH.cons (o := { dst := some 35, op := Go.Op.call { callee := Go.Callee.value (Go.Operand.func 13), args := #[Go.Operand.tmp 33, Go.Operand.tmp 34], argTypes := #[27, 27] }, type := 4, pos := "law.go:29", after := #[{ on := 9, ground := Go.Ground.data }, { on := 10, ground := Go.Ground.data }, { on := 8, ground := Go.Ground.chain }, { on := 5, ground := Go.Ground.guard }], guard := some (5, true) }) rfl (fun KK hK => ?_) AllReadyH.nil
    go_simp
    refine (hSR _ (hup _ (by first | exact hHeld.1))).mono ?_
    rintro e w31 ⟨rfl, hb31⟩
    have hS7 := hst _ w31 hHeld.1 hb31
    refine hK.out _ _ hS7 (fun hHeld2 => ?_)
    clear hK KK hHeld
    have hHeld := hHeld2
    clear hHeld2
    try simp only [Act.put, List.setIfInBounds_toArray, List.set_cons_zero, List.set_cons_succ]
    refine wpAnyH_take (i := 12) (oi := { dst := some 36, op := Go.Op.binOp Go.BinOp.eql 4 (Go.Operand.tmp 32) (Go.Operand.tmp 35) 4, type := 4, pos := "law.go:29", after := #[{ on := 8, ground := Go.Ground.data }, { on := 11, ground := Go.Ground.data }, { on := 5, ground := Go.Ground.guard }], guard := some (5, true) }) (v := ?_) rfl (by kernel_rfl) (by kernel_rfl) (by kernel_rfl) (fun _ _ _ h => h) (Or.inl ⟨by rfl, ?_⟩) (by assumption) ?_
    rotate_left
    · ((intro w hSw; (try dsimp only at hSw); go_simp); (try with_reducible rfl))
    try simp only [Act.put, List.setIfInBounds_toArray, List.set_cons_zero, List.set_cons_succ]
    refine wpAnyH_take (i := 13) (oi := { dst := some 37, op := Go.Op.pick (Go.Operand.tmp 29) (Go.Operand.tmp 36) (Go.Operand.const (Go.Value.bool false)), type := 4, pos := "law.go:29", after := #[{ on := 5, ground := Go.Ground.data }, { on := 12, ground := Go.Ground.data }], guard := none }) (v := ?_) rfl (by kernel_rfl) (by kernel_rfl) (by kernel_rfl) (fun _ _ _ h => h) (Or.inl ⟨by rfl, ?_⟩) (by assumption) ?_
    rotate_left
    · ((intro w hSw; (try dsimp only at hSw); go_simp); (try with_reducible rfl))
    try simp only [Act.put, List.setIfInBounds_toArray, List.set_cons_zero, List.set_cons_succ]
    refine wpAnyH_take (i := 14) (oi := { dst := some 38, op := Go.Op.move (Go.Operand.tmp 37), type := 4, pos := "law.go:29", after := #[{ on := 13, ground := Go.Ground.data }, { on := 11, ground := Go.Ground.chain }], guard := none }) (v := ?_) rfl (by kernel_rfl) (by kernel_rfl) (by kernel_rfl) (fun _ _ _ h => h) (Or.inl ⟨by rfl, ?_⟩) (by assumption) ?_
    rotate_left
    · ((intro w hSw; (try dsimp only at hSw); go_simp); (try with_reducible rfl))
    try simp only [Act.put, List.setIfInBounds_toArray, List.set_cons_zero, List.set_cons_succ]
    refine wpAnyH_take (i := 15) (oi := { dst := some 39, op := Go.Op.load 30 (Go.Operand.tmp 5), type := 30, pos := "law.go:29", after := #[{ on := 14, ground := Go.Ground.guard }], guard := some (14, true) }) (v := ?_) rfl (by kernel_rfl) (by kernel_rfl) (by kernel_rfl) (fun _ _ _ h => h) (Or.inl ⟨by rfl, ?_⟩) (by assumption) ?_
    rotate_left
    · ((intro w hSw; (try dsimp only at hSw); go_simp); (try with_reducible rfl))
    try simp only [Act.put, List.setIfInBounds_toArray, List.set_cons_zero, List.set_cons_succ]
    refine wpAnyH_take (i := 16) (oi := { dst := some 40, op := Go.Op.load 30 (Go.Operand.tmp 5), type := 30, pos := "law.go:29", after := #[{ on := 14, ground := Go.Ground.guard }], guard := some (14, true) }) (v := ?_) rfl (by kernel_rfl) (by kernel_rfl) (by kernel_rfl) (fun _ _ _ h => h) (Or.inl ⟨by rfl, ?_⟩) (by assumption) ?_
    rotate_left
    · ((intro w hSw; (try dsimp only at hSw); go_simp); (try with_reducible rfl))
    try simp only [Act.put, List.setIfInBounds_toArray, List.set_cons_zero, List.set_cons_succ]
    refine wpAnyH_ready (rs := [17]) (by kernel_rfl) (by simp) ?_
    refine AllReadyH.cons (o := { dst := some 41, op := Go.Op.call { callee := Go.Callee.value (Go.Operand.func 12), args := #[Go.Operand.tmp 39, Go.Operand.tmp 40], argTypes := #[30, 30] }, type := 4, pos := "law.go:29", after := #[{ on := 15, ground := Go.Ground.data }, { on := 16, ground := Go.Ground.data }, { on := 14, ground := Go.Ground.chain }, { on := 14, ground := Go.Ground.guard }], guard := some (14, true) }) rfl (fun KK hK => ?_) AllReadyH.nil
    go_simp
    refine (hSS _ (hup _ (by first | exact hHeld.1))).mono ?_
    rintro e w37 ⟨rfl, hb37⟩
    have hS7 := hst _ w37 hHeld.1 hb37
    refine hK.out _ _ hS7 (fun hHeld2 => ?_)
    clear hK KK hHeld
    have hHeld := hHeld2
    clear hHeld2
    try simp only [Act.put, List.setIfInBounds_toArray, List.set_cons_zero, List.set_cons_succ]
    refine wpAnyH_take (i := 18) (oi := { dst := some 42, op := Go.Op.pick (Go.Operand.tmp 38) (Go.Operand.tmp 41) (Go.Operand.const (Go.Value.bool false)), type := 4, pos := "law.go:29", after := #[{ on := 14, ground := Go.Ground.data }, { on := 17, ground := Go.Ground.data }], guard := none }) (v := ?_) rfl (by kernel_rfl) (by kernel_rfl) (by kernel_rfl) (fun _ _ _ h => h) (Or.inl ⟨by rfl, ?_⟩) (by assumption) ?_
    rotate_left
    · ((intro w hSw; (try dsimp only at hSw); go_simp); (try with_reducible rfl))
    try simp only [Act.put, List.setIfInBounds_toArray, List.set_cons_zero, List.set_cons_succ]
    refine wpAnyH_take (i := 19) (oi := { dst := some 4, op := Go.Op.assign (Go.Operand.tmp 42), type := 4, pos := "law.go:29", after := #[{ on := 18, ground := Go.Ground.data }, { on := 17, ground := Go.Ground.chain }, { on := 0, ground := Go.Ground.phase }, { on := 1, ground := Go.Ground.phase }, { on := 2, ground := Go.Ground.phase }, { on := 3, ground := Go.Ground.phase }, { on := 4, ground := Go.Ground.phase }, { on := 5, ground := Go.Ground.phase }, { on := 6, ground := Go.Ground.phase }, { on := 7, ground := Go.Ground.phase }, { on := 8, ground := Go.Ground.phase }, { on := 9, ground := Go.Ground.phase }, { on := 10, ground := Go.Ground.phase }, { on := 11, ground := Go.Ground.phase }, { on := 12, ground := Go.Ground.phase }, { on := 13, ground := Go.Ground.phase }, { on := 14, ground := Go.Ground.phase }, { on := 15, ground := Go.Ground.phase }, { on := 16, ground := Go.Ground.phase }, { on := 17, ground := Go.Ground.phase }, { on := 18, ground := Go.Ground.phase }], guard := none }) (v := ?_) rfl (by kernel_rfl) (by kernel_rfl) (by kernel_rfl) (fun _ _ _ h => h) (Or.inl ⟨by rfl, ?_⟩) (by assumption) ?_
    rotate_left
    · ((intro w hSw; (try dsimp only at hSw); go_simp); (try with_reducible rfl))
    try simp only [Act.put, List.setIfInBounds_toArray, List.set_cons_zero, List.set_cons_succ]
    refine wpAnyH_done (by kernel_rfl) ?_ _
    go_wp2
    go_ret
    exact ⟨rfl, hup _ hHeld.1⟩

end Go.Proofs.Ytlojjodgoeclfaa.rmsgRight
