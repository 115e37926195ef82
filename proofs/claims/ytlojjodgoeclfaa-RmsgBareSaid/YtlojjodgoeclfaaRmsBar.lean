/- RmsgBare's walk. -/
import Derived.Test.YtlojjodgoeclfaaRmsAwake
namespace Go.Proofs.Ytlojjodgoeclfaa.rmsgBare
open Go.ChangeShapes Go.WideShapes Go.ChangeAt Go.RowKit Go.Proofs.Ytlojjodgoeclfaa
set_option linter.unusedVariables false
set_option linter.unusedSimpArgs false

set_option maxRecDepth 100000 in
set_option maxHeartbeats 6400000 in
theorem walk (m : Msg) (A : Option Addr) (cA : Nat) (E : Option Addr) (cE : Nat) (z : Nat) (hz : z < 256) (v : Int) (w : World) (h : MsgIn w (· < w.heap.size) m A cA E cE) (hd : ∀ e ∈ m.es, e.d.length ≤ 140737488355328) :
    Calls Try.prog 6 #[msgV m A cA E cE, .int .u8 (z : Int), .int .i64 v] w fun e w' => e = .returned (.bool true) ∧ Below w.heap.size w w' := by
  have hF := fun W (hW : Below w.heap.size w W) => fewM_any m A cA E cE W _ (h.below hW (Nat.le_refl _)) hd
  have hRR := fun W (hW : Below w.heap.size w W) => rightMR_any m A cA E cE W _ (h.below hW (Nat.le_refl _))
  have hRP := fun W (hW : Below w.heap.size w W) => rightMP_any m A cA E cE W _ (h.below hW (Nat.le_refl _))
  have hXP := fun (m' : Msg) (he : m'.es = m.es) (hs : m'.s.d = m.s.d) W (hW : Below w.heap.size w W) => rightMP_any m' A cA E cE W _ ((MsgIn.of h he hs).below hW (Nat.le_refl _))
  have hXR := fun (m' : Msg) (he : m'.es = m.es) (hs : m'.s.d = m.s.d) W (hW : Below w.heap.size w W) => rightMR_any m' A cA E cE W _ ((MsgIn.of h he hs).below hW (Nat.le_refl _))
  generalize fewM m = q1 at *
  generalize rightM m = q2 at *
  clear h hd
  obtain ⟨k, f, o, t, i, l, c, x, b, es, si, st, sd⟩ := m
  dsimp only at hXP hXR
  dsimp only [msgV] at *
  have hb0 : Below w.heap.size w (w.alloc (.cells (mC k f o t i l c x b A es.length cA si st E sd.length cE) 27)) := (Below.refl _ _).alloc (Nat.le_refl _) _
  have hr1 := heap_alloc_new w (.cells (mC k f o t i l c x b A es.length cA si st E sd.length cE) 27)
  go_enter Try.func6, Try.ntmps6
  go_wp2_with fail
  refine (awake_any _).mono ?_
  rintro e w1 ⟨rfl, hb1⟩
  have hbw1 := hb0.trans (hb1.mono hb0.size)
  have hr1 := (hb1.block _ (hlt hr1)).trans hr1
  obtain ⟨⟨u0, u1, u2, u3, u4, u5, u6, u7, u8, u9, u10, u11, u12⟩, _⟩ := row13 hr1
  have hF := hF w1 hbw1
  clear hb0 hb1
  cases q1 with
  | false =>
    clear hXP hXR hRP hRR
    go_wp2_with fail
    refine hF.mono ?_
    rintro e w2 ⟨rfl, hb2⟩
    have hbw2 := hbw1.trans (hb2.mono hbw1.size)
    go_wp2_with fail
    refine (awake_any _).mono ?_
    rintro e w9 ⟨rfl, hb9⟩
    go_wp2
    go_ret
    exact ⟨rfl, hbw2.trans (hb9.mono hbw2.size)⟩
  | true =>
  go_wp2_with fail
  refine hF.mono ?_
  rintro e w2 ⟨rfl, hb2⟩
  have hbw2 := hbw1.trans (hb2.mono hbw1.size)
  have hr1 := (hb2.block _ (hlt hr1)).trans hr1
  clear u0 u1 u2 u3 u4 u5 u6 u7 u8 u9 u10 u11 u12 hF hb2 hbw1
  obtain ⟨⟨vv0, vv1, vv2, vv3, vv4, vv5, vv6, vv7, vv8, vv9, vv10, vv11, vv12⟩, _⟩ := row13 hr1
  have hRR := hRR w2 hbw2
  cases q2 with
  | false =>
    clear hXP hXR hRP
    go_wp2_with fail
    refine hRR.mono ?_
    rintro e w3 ⟨rfl, hb3⟩
    have hbw3 := hbw2.trans (hb3.mono hbw2.size)
    go_wp2_with fail
    refine (awake_any _).mono ?_
    rintro e w9 ⟨rfl, hb9⟩
    go_wp2
    go_ret
    exact ⟨rfl, hbw3.trans (hb9.mono hbw3.size)⟩
  | true =>
  by_cases hv : v = 0
  · subst hv
    clear hXP hXR hRP
    go_wp2_with fail
    refine hRR.mono ?_
    rintro e w3 ⟨rfl, hb3⟩
    have hbw3 := hbw2.trans (hb3.mono hbw2.size)
    go_wp2_with fail
    refine (awake_any _).mono ?_
    rintro e w9 ⟨rfl, hb9⟩
    go_wp2
    go_ret
    exact ⟨rfl, hbw3.trans (hb9.mono hbw3.size)⟩
  have e1 : (v == 0) = false := beq_eq_false_iff_ne.2 hv
  have e2 : (v = 0) = False := eq_false hv
  clear hv
  go_wp2_with fail
  refine hRR.mono ?_
  rintro e w3 ⟨rfl, hb3⟩
  have hbw3 := hbw2.trans (hb3.mono hbw2.size)
  have hr1 := (hb3.block _ (hlt hr1)).trans hr1
  clear vv0 vv1 vv2 vv3 vv4 vv5 vv6 vv7 vv8 vv9 vv10 vv11 vv12 hRR hb3 hbw2
  obtain ⟨⟨xx0, xx1, xx2, xx3, xx4, xx5, xx6, xx7, xx8, xx9, xx10, xx11, xx12⟩, _⟩ := row13 hr1
  have hT := fun k f o t i l c x b si st W => to_is k f o t i l c x b A es.length cA si st E sd.length cE W
  rcases (show z % 6 = 0 ∨ z % 6 = 1 ∨ z % 6 = 2 ∨ z % 6 = 3 ∨ z % 6 = 4 ∨ z % 6 = 5 by omega) with h6 | h6 | h6 | h6 | h6 | h6
  · have g0 : ((z : Int) % 6 == 0) = true := beq_iff_eq.2 (by omega)
    have hXP := hXP ⟨k, f, o, t, v, l, c, x, b, es, ⟨si, st, sd⟩⟩ rfl rfl
    have hXR := hXR ⟨k, f, o, t, v, l, c, x, b, es, ⟨si, st, sd⟩⟩ rfl rfl
    generalize rightM ⟨k, f, o, t, v, l, c, x, b, es, ⟨si, st, sd⟩⟩ = q at *
    dsimp only at hXP hXR
    have hA : Below w3.heap.size w3 (w3.alloc (.cells (mC k f o t v l c x b A es.length cA si st E sd.length cE) 27)) := (Below.refl _ _).alloc (Nat.le_refl _) _
    have r2 := heap_alloc_new w3 (.cells (mC k f o t v l c x b A es.length cA si st E sd.length cE) 27)
    have r1 := (hA.block _ (hlt hr1)).trans hr1
    have hbw4 := hbw3.trans (hA.mono hbw3.size)
    clear h6 hA
    go_upto_region 16 with fail
    generalize w3.alloc (.cells (mC k f o t v l c x b A es.length cA si st E sd.length cE) 27) = w4 at *
    have hst : ∀ W W', Below w4.heap.size w4 W → Below W.heap.size W W' → (fun w' => Below w4.heap.size w4 w' ∧ (w'.cell? ⟨w.heap.size, 0, none⟩ = some (.int .i64 k) ∧ w'.cell? ⟨w.heap.size, 1, none⟩ = some (.int .i64 f) ∧ w'.cell? ⟨w.heap.size, 2, none⟩ = some (.int .i64 o) ∧ w'.cell? ⟨w.heap.size, 3, none⟩ = some (.int .i64 t) ∧ w'.cell? ⟨w.heap.size, 4, none⟩ = some (.int .i64 i) ∧ w'.cell? ⟨w.heap.size, 5, none⟩ = some (.int .i64 l) ∧ w'.cell? ⟨w.heap.size, 6, none⟩ = some (.int .i64 c) ∧ w'.cell? ⟨w.heap.size, 7, none⟩ = some (.int .i64 x) ∧ w'.cell? ⟨w.heap.size, 8, none⟩ = some (.bool b) ∧ w'.cell? ⟨w.heap.size, 9, none⟩ = some (.slice A es.length cA) ∧ w'.cell? ⟨w.heap.size, 10, none⟩ = some (.int .i64 si) ∧ w'.cell? ⟨w.heap.size, 11, none⟩ = some (.int .i64 st) ∧ w'.cell? ⟨w.heap.size, 12, none⟩ = some (.slice E sd.length cE)) ∧ (w'.cell? ⟨w3.heap.size, 0, none⟩ = some (.int .i64 k) ∧ w'.cell? ⟨w3.heap.size, 1, none⟩ = some (.int .i64 f) ∧ w'.cell? ⟨w3.heap.size, 2, none⟩ = some (.int .i64 o) ∧ w'.cell? ⟨w3.heap.size, 3, none⟩ = some (.int .i64 t) ∧ w'.cell? ⟨w3.heap.size, 4, none⟩ = some (.int .i64 v) ∧ w'.cell? ⟨w3.heap.size, 5, none⟩ = some (.int .i64 l) ∧ w'.cell? ⟨w3.heap.size, 6, none⟩ = some (.int .i64 c) ∧ w'.cell? ⟨w3.heap.size, 7, none⟩ = some (.int .i64 x) ∧ w'.cell? ⟨w3.heap.size, 8, none⟩ = some (.bool b) ∧ w'.cell? ⟨w3.heap.size, 9, none⟩ = some (.slice A es.length cA) ∧ w'.cell? ⟨w3.heap.size, 10, none⟩ = some (.int .i64 si) ∧ w'.cell? ⟨w3.heap.size, 11, none⟩ = some (.int .i64 st) ∧ w'.cell? ⟨w3.heap.size, 12, none⟩ = some (.slice E sd.length cE))) W' := fun W W' h1 h2 => by
      have h3 := h1.trans (h2.mono h1.size)
      exact ⟨h3, (row13 ((h3.block _ (hlt r1)).trans r1)).1, (row13 ((h3.block _ (hlt r2)).trans r2)).1⟩
    have hup := fun W (hW : Below w4.heap.size w4 W) => hbw4.trans (hW.mono hbw4.size)
    have hS0 : (fun w' => Below w4.heap.size w4 w' ∧ (w'.cell? ⟨w.heap.size, 0, none⟩ = some (.int .i64 k) ∧ w'.cell? ⟨w.heap.size, 1, none⟩ = some (.int .i64 f) ∧ w'.cell? ⟨w.heap.size, 2, none⟩ = some (.int .i64 o) ∧ w'.cell? ⟨w.heap.size, 3, none⟩ = some (.int .i64 t) ∧ w'.cell? ⟨w.heap.size, 4, none⟩ = some (.int .i64 i) ∧ w'.cell? ⟨w.heap.size, 5, none⟩ = some (.int .i64 l) ∧ w'.cell? ⟨w.heap.size, 6, none⟩ = some (.int .i64 c) ∧ w'.cell? ⟨w.heap.size, 7, none⟩ = some (.int .i64 x) ∧ w'.cell? ⟨w.heap.size, 8, none⟩ = some (.bool b) ∧ w'.cell? ⟨w.heap.size, 9, none⟩ = some (.slice A es.length cA) ∧ w'.cell? ⟨w.heap.size, 10, none⟩ = some (.int .i64 si) ∧ w'.cell? ⟨w.heap.size, 11, none⟩ = some (.int .i64 st) ∧ w'.cell? ⟨w.heap.size, 12, none⟩ = some (.slice E sd.length cE)) ∧ (w'.cell? ⟨w3.heap.size, 0, none⟩ = some (.int .i64 k) ∧ w'.cell? ⟨w3.heap.size, 1, none⟩ = some (.int .i64 f) ∧ w'.cell? ⟨w3.heap.size, 2, none⟩ = some (.int .i64 o) ∧ w'.cell? ⟨w3.heap.size, 3, none⟩ = some (.int .i64 t) ∧ w'.cell? ⟨w3.heap.size, 4, none⟩ = some (.int .i64 v) ∧ w'.cell? ⟨w3.heap.size, 5, none⟩ = some (.int .i64 l) ∧ w'.cell? ⟨w3.heap.size, 6, none⟩ = some (.int .i64 c) ∧ w'.cell? ⟨w3.heap.size, 7, none⟩ = some (.int .i64 x) ∧ w'.cell? ⟨w3.heap.size, 8, none⟩ = some (.bool b) ∧ w'.cell? ⟨w3.heap.size, 9, none⟩ = some (.slice A es.length cA) ∧ w'.cell? ⟨w3.heap.size, 10, none⟩ = some (.int .i64 si) ∧ w'.cell? ⟨w3.heap.size, 11, none⟩ = some (.int .i64 st) ∧ w'.cell? ⟨w3.heap.size, 12, none⟩ = some (.slice E sd.length cE))) w4.drew := by
      have h := hst w4 w4 (Below.refl _ _) (Below.refl _ _)
      exact ⟨(Below.refl _ _).drew, h.2⟩
    refine wp_region_held_drew (S := (fun w' => Below w4.heap.size w4 w' ∧ (w'.cell? ⟨w.heap.size, 0, none⟩ = some (.int .i64 k) ∧ w'.cell? ⟨w.heap.size, 1, none⟩ = some (.int .i64 f) ∧ w'.cell? ⟨w.heap.size, 2, none⟩ = some (.int .i64 o) ∧ w'.cell? ⟨w.heap.size, 3, none⟩ = some (.int .i64 t) ∧ w'.cell? ⟨w.heap.size, 4, none⟩ = some (.int .i64 i) ∧ w'.cell? ⟨w.heap.size, 5, none⟩ = some (.int .i64 l) ∧ w'.cell? ⟨w.heap.size, 6, none⟩ = some (.int .i64 c) ∧ w'.cell? ⟨w.heap.size, 7, none⟩ = some (.int .i64 x) ∧ w'.cell? ⟨w.heap.size, 8, none⟩ = some (.bool b) ∧ w'.cell? ⟨w.heap.size, 9, none⟩ = some (.slice A es.length cA) ∧ w'.cell? ⟨w.heap.size, 10, none⟩ = some (.int .i64 si) ∧ w'.cell? ⟨w.heap.size, 11, none⟩ = some (.int .i64 st) ∧ w'.cell? ⟨w.heap.size, 12, none⟩ = some (.slice E sd.length cE)) ∧ (w'.cell? ⟨w3.heap.size, 0, none⟩ = some (.int .i64 k) ∧ w'.cell? ⟨w3.heap.size, 1, none⟩ = some (.int .i64 f) ∧ w'.cell? ⟨w3.heap.size, 2, none⟩ = some (.int .i64 o) ∧ w'.cell? ⟨w3.heap.size, 3, none⟩ = some (.int .i64 t) ∧ w'.cell? ⟨w3.heap.size, 4, none⟩ = some (.int .i64 v) ∧ w'.cell? ⟨w3.heap.size, 5, none⟩ = some (.int .i64 l) ∧ w'.cell? ⟨w3.heap.size, 6, none⟩ = some (.int .i64 c) ∧ w'.cell? ⟨w3.heap.size, 7, none⟩ = some (.int .i64 x) ∧ w'.cell? ⟨w3.heap.size, 8, none⟩ = some (.bool b) ∧ w'.cell? ⟨w3.heap.size, 9, none⟩ = some (.slice A es.length cA) ∧ w'.cell? ⟨w3.heap.size, 10, none⟩ = some (.int .i64 si) ∧ w'.cell? ⟨w3.heap.size, 11, none⟩ = some (.int .i64 st) ∧ w'.cell? ⟨w3.heap.size, 12, none⟩ = some (.slice E sd.length cE)))) (by kernel_rfl) hS0 (fun hHeld => ?_)
    change wpAnyH _ _ _ _ _ 12 #[false, false, false, false, false, false, false, false, false, false, false, false] _ _
    refine wpAnyH_take (i := 0) (oi := { dst := some 54, op := Go.Op.load 27 (Go.Operand.tmp 3), type := 27, pos := "law.go:82", after := #[], guard := none }) (v := ?_) rfl (by kernel_rfl) (by kernel_rfl) (by kernel_rfl) (fun _ _ _ h => h) (Or.inl ⟨by rfl, ?_⟩) (by assumption) ?_
    rotate_left
    · ((intro w hSw; (try dsimp only at hSw); go_simp); (try with_reducible rfl))
    try simp only [Act.put, List.setIfInBounds_toArray, List.set_cons_zero, List.set_cons_succ]
    refine wpAnyH_ready (rs := [1]) (by kernel_rfl) (by simp) ?_
    refine AllReadyH.cons (o := { dst := some 55, op := Go.Op.call { callee := Go.Callee.value (Go.Operand.func 9), args := #[Go.Operand.tmp 54], argTypes := #[27] }, type := 30, pos := "law.go:82", after := #[{ on := 0, ground := Go.Ground.data }], guard := none }) rfl (fun KK hK => ?_) AllReadyH.nil
    go_simp
    refine (hT k f o t i l c x b si st _).mono ?_
    rintro e y1 ⟨rfl, hb21⟩
    have hS7 := hst _ y1 hHeld.1 hb21
    refine hK.out _ _ hS7 (fun hHeld2 => ?_)
    clear hK KK hHeld
    have hHeld := hHeld2
    clear hHeld2
    try simp only [Act.put, List.setIfInBounds_toArray, List.set_cons_zero, List.set_cons_succ]
    refine wpAnyH_ready (rs := [2]) (by kernel_rfl) (by simp) ?_
    refine AllReadyH.cons (o := { dst := some 56, op := Go.Op.call { callee := Go.Callee.value (Go.Operand.func 10), args := #[Go.Operand.tmp 55], argTypes := #[30] }, type := 4, pos := "law.go:82", after := #[{ on := 1, ground := Go.Ground.data }, { on := 1, ground := Go.Ground.chain }], guard := none }) rfl (fun KK hK => ?_) AllReadyH.nil
    go_simp
    refine (hRP _ (hup _ hHeld.1)).mono ?_
    rintro e y2 ⟨rfl, hb22⟩
    have hS7 := hst _ y2 hHeld.1 hb22
    refine hK.out _ _ hS7 (fun hHeld2 => ?_)
    clear hK KK hHeld
    have hHeld := hHeld2
    clear hHeld2
    try simp only [Act.put, List.setIfInBounds_toArray, List.set_cons_zero, List.set_cons_succ]
    refine wpAnyH_take (i := 3) (oi := { dst := some 57, op := Go.Op.move (Go.Operand.tmp 56), type := 4, pos := "law.go:82", after := #[{ on := 2, ground := Go.Ground.data }, { on := 2, ground := Go.Ground.chain }], guard := none }) (v := ?_) rfl (by kernel_rfl) (by kernel_rfl) (by kernel_rfl) (fun _ _ _ h => h) (Or.inl ⟨by rfl, ?_⟩) (by assumption) ?_
    rotate_left
    · ((intro w hSw; (try dsimp only at hSw); go_simp); (try with_reducible rfl))
    try simp only [Act.put, List.setIfInBounds_toArray, List.set_cons_zero, List.set_cons_succ]
    refine wpAnyH_take (i := 4) (oi := { dst := some 58, op := Go.Op.load 27 (Go.Operand.tmp 7), type := 27, pos := "law.go:82", after := #[{ on := 3, ground := Go.Ground.guard }], guard := some (3, true) }) (v := ?_) rfl (by kernel_rfl) (by kernel_rfl) (by kernel_rfl) (fun _ _ _ h => h) (Or.inl ⟨by rfl, ?_⟩) (by assumption) ?_
    rotate_left
    · ((intro w hSw; (try dsimp only at hSw); go_simp); (try with_reducible rfl))
    try simp only [Act.put, List.setIfInBounds_toArray, List.set_cons_zero, List.set_cons_succ]
    refine wpAnyH_take (i := 7) (oi := { dst := some 61, op := Go.Op.load 27 (Go.Operand.tmp 7), type := 27, pos := "law.go:82", after := #[{ on := 3, ground := Go.Ground.guard }], guard := some (3, true) }) (v := ?_) rfl (by kernel_rfl) (by kernel_rfl) (by kernel_rfl) (fun _ _ _ h => h) (Or.inl ⟨by rfl, ?_⟩) (by assumption) ?_
    rotate_left
    · ((intro w hSw; (try dsimp only at hSw); go_simp); (try with_reducible rfl))
    try simp only [Act.put, List.setIfInBounds_toArray, List.set_cons_zero, List.set_cons_succ]
    refine wpAnyH_ready (rs := [5]) (by kernel_rfl) (by simp) ?_
    refine AllReadyH.cons (o := { dst := some 59, op := Go.Op.call { callee := Go.Callee.value (Go.Operand.func 9), args := #[Go.Operand.tmp 58], argTypes := #[27] }, type := 30, pos := "law.go:82", after := #[{ on := 4, ground := Go.Ground.data }, { on := 3, ground := Go.Ground.chain }, { on := 3, ground := Go.Ground.guard }], guard := some (3, true) }) rfl (fun KK hK => ?_) AllReadyH.nil
    go_simp
    refine (hT k f o t v l c x b si st _).mono ?_
    rintro e y5 ⟨rfl, hb25⟩
    have hS7 := hst _ y5 hHeld.1 hb25
    refine hK.out _ _ hS7 (fun hHeld2 => ?_)
    clear hK KK hHeld
    have hHeld := hHeld2
    clear hHeld2
    try simp only [Act.put, List.setIfInBounds_toArray, List.set_cons_zero, List.set_cons_succ]
    refine wpAnyH_ready (rs := [6]) (by kernel_rfl) (by simp) ?_
    refine AllReadyH.cons (o := { dst := some 60, op := Go.Op.call { callee := Go.Callee.value (Go.Operand.func 10), args := #[Go.Operand.tmp 59], argTypes := #[30] }, type := 4, pos := "law.go:82", after := #[{ on := 5, ground := Go.Ground.data }, { on := 5, ground := Go.Ground.chain }, { on := 3, ground := Go.Ground.guard }], guard := some (3, true) }) rfl (fun KK hK => ?_) AllReadyH.nil
    go_simp
    refine (hXP _ (hup _ hHeld.1)).mono ?_
    rintro e y6 ⟨rfl, hb26⟩
    have hS7 := hst _ y6 hHeld.1 hb26
    refine hK.out _ _ hS7 (fun hHeld2 => ?_)
    clear hK KK hHeld
    have hHeld := hHeld2
    clear hHeld2
    try simp only [Act.put, List.setIfInBounds_toArray, List.set_cons_zero, List.set_cons_succ]
    refine wpAnyH_ready (rs := [8]) (by kernel_rfl) (by simp) ?_
    refine AllReadyH.cons (o := { dst := some 62, op := Go.Op.call { callee := Go.Callee.value (Go.Operand.func 11), args := #[Go.Operand.tmp 61], argTypes := #[27] }, type := 4, pos := "law.go:82", after := #[{ on := 7, ground := Go.Ground.data }, { on := 6, ground := Go.Ground.chain }, { on := 3, ground := Go.Ground.guard }], guard := some (3, true) }) rfl (fun KK hK => ?_) AllReadyH.nil
    go_simp
    refine (hXR _ (hup _ hHeld.1)).mono ?_
    rintro e y8 ⟨rfl, hb28⟩
    have hS7 := hst _ y8 hHeld.1 hb28
    refine hK.out _ _ hS7 (fun hHeld2 => ?_)
    clear hK KK hHeld
    have hHeld := hHeld2
    clear hHeld2
    try simp only [Act.put, List.setIfInBounds_toArray, List.set_cons_zero, List.set_cons_succ]
    refine wpAnyH_take (i := 9) (oi := { dst := some 63, op := Go.Op.binOp Go.BinOp.eql 4 (Go.Operand.tmp 60) (Go.Operand.tmp 62) 4, type := 4, pos := "law.go:82", after := #[{ on := 6, ground := Go.Ground.data }, { on := 8, ground := Go.Ground.data }, { on := 3, ground := Go.Ground.guard }], guard := some (3, true) }) (v := ?_) rfl (by kernel_rfl) (by kernel_rfl) (by kernel_rfl) (fun _ _ _ h => h) (Or.inl ⟨by rfl, ?_⟩) (by assumption) ?_
    rotate_left
    · ((intro w hSw; (try dsimp only at hSw); go_simp); (try with_reducible rfl))
    try simp only [Act.put, List.setIfInBounds_toArray, List.set_cons_zero, List.set_cons_succ]
    refine wpAnyH_take (i := 10) (oi := { dst := some 64, op := Go.Op.pick (Go.Operand.tmp 57) (Go.Operand.tmp 63) (Go.Operand.const (Go.Value.bool false)), type := 4, pos := "law.go:82", after := #[{ on := 3, ground := Go.Ground.data }, { on := 9, ground := Go.Ground.data }], guard := none }) (v := ?_) rfl (by kernel_rfl) (by kernel_rfl) (by kernel_rfl) (fun _ _ _ h => h) (Or.inl ⟨by rfl, ?_⟩) (by assumption) ?_
    rotate_left
    · ((intro w hSw; (try dsimp only at hSw); go_simp); (try with_reducible rfl))
    try simp only [Act.put, List.setIfInBounds_toArray, List.set_cons_zero, List.set_cons_succ]
    refine wpAnyH_take (i := 11) (oi := { dst := some 6, op := Go.Op.assign (Go.Operand.tmp 64), type := 4, pos := "law.go:82", after := #[{ on := 10, ground := Go.Ground.data }, { on := 8, ground := Go.Ground.chain }, { on := 0, ground := Go.Ground.phase }, { on := 1, ground := Go.Ground.phase }, { on := 2, ground := Go.Ground.phase }, { on := 3, ground := Go.Ground.phase }, { on := 4, ground := Go.Ground.phase }, { on := 5, ground := Go.Ground.phase }, { on := 6, ground := Go.Ground.phase }, { on := 7, ground := Go.Ground.phase }, { on := 8, ground := Go.Ground.phase }, { on := 9, ground := Go.Ground.phase }, { on := 10, ground := Go.Ground.phase }], guard := none }) (v := ?_) rfl (by kernel_rfl) (by kernel_rfl) (by kernel_rfl) (fun _ _ _ h => h) (Or.inl ⟨by rfl, ?_⟩) (by assumption) ?_
    rotate_left
    · ((intro w hSw; (try dsimp only at hSw); go_simp); (try with_reducible rfl))
    try simp only [Act.put, List.setIfInBounds_toArray, List.set_cons_zero, List.set_cons_succ]
    refine wpAnyH_done (by kernel_rfl) ?_ _
    go_wp2
    go_ret
    exact ⟨rfl, hup _ hHeld.1⟩
  · have g0 : ((z : Int) % 6 == 0) = false := beq_eq_false_iff_ne.2 (by omega)
    have f0 : ((z : Int) % 6 = 0) = False := eq_false (by omega)
    have g1 : ((z : Int) % 6 == 1) = true := beq_iff_eq.2 (by omega)
    have hXP := hXP ⟨k, f, o, t, i, v, c, x, b, es, ⟨si, st, sd⟩⟩ rfl rfl
    have hXR := hXR ⟨k, f, o, t, i, v, c, x, b, es, ⟨si, st, sd⟩⟩ rfl rfl
    generalize rightM ⟨k, f, o, t, i, v, c, x, b, es, ⟨si, st, sd⟩⟩ = q at *
    dsimp only at hXP hXR
    have hA : Below w3.heap.size w3 (w3.alloc (.cells (mC k f o t i v c x b A es.length cA si st E sd.length cE) 27)) := (Below.refl _ _).alloc (Nat.le_refl _) _
    have r2 := heap_alloc_new w3 (.cells (mC k f o t i v c x b A es.length cA si st E sd.length cE) 27)
    have r1 := (hA.block _ (hlt hr1)).trans hr1
    have hbw4 := hbw3.trans (hA.mono hbw3.size)
    clear h6 hA
    go_upto_region 16 with fail
    generalize w3.alloc (.cells (mC k f o t i v c x b A es.length cA si st E sd.length cE) 27) = w4 at *
    have hst : ∀ W W', Below w4.heap.size w4 W → Below W.heap.size W W' → (fun w' => Below w4.heap.size w4 w' ∧ (w'.cell? ⟨w.heap.size, 0, none⟩ = some (.int .i64 k) ∧ w'.cell? ⟨w.heap.size, 1, none⟩ = some (.int .i64 f) ∧ w'.cell? ⟨w.heap.size, 2, none⟩ = some (.int .i64 o) ∧ w'.cell? ⟨w.heap.size, 3, none⟩ = some (.int .i64 t) ∧ w'.cell? ⟨w.heap.size, 4, none⟩ = some (.int .i64 i) ∧ w'.cell? ⟨w.heap.size, 5, none⟩ = some (.int .i64 l) ∧ w'.cell? ⟨w.heap.size, 6, none⟩ = some (.int .i64 c) ∧ w'.cell? ⟨w.heap.size, 7, none⟩ = some (.int .i64 x) ∧ w'.cell? ⟨w.heap.size, 8, none⟩ = some (.bool b) ∧ w'.cell? ⟨w.heap.size, 9, none⟩ = some (.slice A es.length cA) ∧ w'.cell? ⟨w.heap.size, 10, none⟩ = some (.int .i64 si) ∧ w'.cell? ⟨w.heap.size, 11, none⟩ = some (.int .i64 st) ∧ w'.cell? ⟨w.heap.size, 12, none⟩ = some (.slice E sd.length cE)) ∧ (w'.cell? ⟨w3.heap.size, 0, none⟩ = some (.int .i64 k) ∧ w'.cell? ⟨w3.heap.size, 1, none⟩ = some (.int .i64 f) ∧ w'.cell? ⟨w3.heap.size, 2, none⟩ = some (.int .i64 o) ∧ w'.cell? ⟨w3.heap.size, 3, none⟩ = some (.int .i64 t) ∧ w'.cell? ⟨w3.heap.size, 4, none⟩ = some (.int .i64 i) ∧ w'.cell? ⟨w3.heap.size, 5, none⟩ = some (.int .i64 v) ∧ w'.cell? ⟨w3.heap.size, 6, none⟩ = some (.int .i64 c) ∧ w'.cell? ⟨w3.heap.size, 7, none⟩ = some (.int .i64 x) ∧ w'.cell? ⟨w3.heap.size, 8, none⟩ = some (.bool b) ∧ w'.cell? ⟨w3.heap.size, 9, none⟩ = some (.slice A es.length cA) ∧ w'.cell? ⟨w3.heap.size, 10, none⟩ = some (.int .i64 si) ∧ w'.cell? ⟨w3.heap.size, 11, none⟩ = some (.int .i64 st) ∧ w'.cell? ⟨w3.heap.size, 12, none⟩ = some (.slice E sd.length cE))) W' := fun W W' h1 h2 => by
      have h3 := h1.trans (h2.mono h1.size)
      exact ⟨h3, (row13 ((h3.block _ (hlt r1)).trans r1)).1, (row13 ((h3.block _ (hlt r2)).trans r2)).1⟩
    have hup := fun W (hW : Below w4.heap.size w4 W) => hbw4.trans (hW.mono hbw4.size)
    have hS0 : (fun w' => Below w4.heap.size w4 w' ∧ (w'.cell? ⟨w.heap.size, 0, none⟩ = some (.int .i64 k) ∧ w'.cell? ⟨w.heap.size, 1, none⟩ = some (.int .i64 f) ∧ w'.cell? ⟨w.heap.size, 2, none⟩ = some (.int .i64 o) ∧ w'.cell? ⟨w.heap.size, 3, none⟩ = some (.int .i64 t) ∧ w'.cell? ⟨w.heap.size, 4, none⟩ = some (.int .i64 i) ∧ w'.cell? ⟨w.heap.size, 5, none⟩ = some (.int .i64 l) ∧ w'.cell? ⟨w.heap.size, 6, none⟩ = some (.int .i64 c) ∧ w'.cell? ⟨w.heap.size, 7, none⟩ = some (.int .i64 x) ∧ w'.cell? ⟨w.heap.size, 8, none⟩ = some (.bool b) ∧ w'.cell? ⟨w.heap.size, 9, none⟩ = some (.slice A es.length cA) ∧ w'.cell? ⟨w.heap.size, 10, none⟩ = some (.int .i64 si) ∧ w'.cell? ⟨w.heap.size, 11, none⟩ = some (.int .i64 st) ∧ w'.cell? ⟨w.heap.size, 12, none⟩ = some (.slice E sd.length cE)) ∧ (w'.cell? ⟨w3.heap.size, 0, none⟩ = some (.int .i64 k) ∧ w'.cell? ⟨w3.heap.size, 1, none⟩ = some (.int .i64 f) ∧ w'.cell? ⟨w3.heap.size, 2, none⟩ = some (.int .i64 o) ∧ w'.cell? ⟨w3.heap.size, 3, none⟩ = some (.int .i64 t) ∧ w'.cell? ⟨w3.heap.size, 4, none⟩ = some (.int .i64 i) ∧ w'.cell? ⟨w3.heap.size, 5, none⟩ = some (.int .i64 v) ∧ w'.cell? ⟨w3.heap.size, 6, none⟩ = some (.int .i64 c) ∧ w'.cell? ⟨w3.heap.size, 7, none⟩ = some (.int .i64 x) ∧ w'.cell? ⟨w3.heap.size, 8, none⟩ = some (.bool b) ∧ w'.cell? ⟨w3.heap.size, 9, none⟩ = some (.slice A es.length cA) ∧ w'.cell? ⟨w3.heap.size, 10, none⟩ = some (.int .i64 si) ∧ w'.cell? ⟨w3.heap.size, 11, none⟩ = some (.int .i64 st) ∧ w'.cell? ⟨w3.heap.size, 12, none⟩ = some (.slice E sd.length cE))) w4.drew := by
      have h := hst w4 w4 (Below.refl _ _) (Below.refl _ _)
      exact ⟨(Below.refl _ _).drew, h.2⟩
    refine wp_region_held_drew (S := (fun w' => Below w4.heap.size w4 w' ∧ (w'.cell? ⟨w.heap.size, 0, none⟩ = some (.int .i64 k) ∧ w'.cell? ⟨w.heap.size, 1, none⟩ = some (.int .i64 f) ∧ w'.cell? ⟨w.heap.size, 2, none⟩ = some (.int .i64 o) ∧ w'.cell? ⟨w.heap.size, 3, none⟩ = some (.int .i64 t) ∧ w'.cell? ⟨w.heap.size, 4, none⟩ = some (.int .i64 i) ∧ w'.cell? ⟨w.heap.size, 5, none⟩ = some (.int .i64 l) ∧ w'.cell? ⟨w.heap.size, 6, none⟩ = some (.int .i64 c) ∧ w'.cell? ⟨w.heap.size, 7, none⟩ = some (.int .i64 x) ∧ w'.cell? ⟨w.heap.size, 8, none⟩ = some (.bool b) ∧ w'.cell? ⟨w.heap.size, 9, none⟩ = some (.slice A es.length cA) ∧ w'.cell? ⟨w.heap.size, 10, none⟩ = some (.int .i64 si) ∧ w'.cell? ⟨w.heap.size, 11, none⟩ = some (.int .i64 st) ∧ w'.cell? ⟨w.heap.size, 12, none⟩ = some (.slice E sd.length cE)) ∧ (w'.cell? ⟨w3.heap.size, 0, none⟩ = some (.int .i64 k) ∧ w'.cell? ⟨w3.heap.size, 1, none⟩ = some (.int .i64 f) ∧ w'.cell? ⟨w3.heap.size, 2, none⟩ = some (.int .i64 o) ∧ w'.cell? ⟨w3.heap.size, 3, none⟩ = some (.int .i64 t) ∧ w'.cell? ⟨w3.heap.size, 4, none⟩ = some (.int .i64 i) ∧ w'.cell? ⟨w3.heap.size, 5, none⟩ = some (.int .i64 v) ∧ w'.cell? ⟨w3.heap.size, 6, none⟩ = some (.int .i64 c) ∧ w'.cell? ⟨w3.heap.size, 7, none⟩ = some (.int .i64 x) ∧ w'.cell? ⟨w3.heap.size, 8, none⟩ = some (.bool b) ∧ w'.cell? ⟨w3.heap.size, 9, none⟩ = some (.slice A es.length cA) ∧ w'.cell? ⟨w3.heap.size, 10, none⟩ = some (.int .i64 si) ∧ w'.cell? ⟨w3.heap.size, 11, none⟩ = some (.int .i64 st) ∧ w'.cell? ⟨w3.heap.size, 12, none⟩ = some (.slice E sd.length cE)))) (by kernel_rfl) hS0 (fun hHeld => ?_)
    change wpAnyH _ _ _ _ _ 12 #[false, false, false, false, false, false, false, false, false, false, false, false] _ _
    refine wpAnyH_take (i := 0) (oi := { dst := some 54, op := Go.Op.load 27 (Go.Operand.tmp 3), type := 27, pos := "law.go:82", after := #[], guard := none }) (v := ?_) rfl (by kernel_rfl) (by kernel_rfl) (by kernel_rfl) (fun _ _ _ h => h) (Or.inl ⟨by rfl, ?_⟩) (by assumption) ?_
    rotate_left
    · ((intro w hSw; (try dsimp only at hSw); go_simp); (try with_reducible rfl))
    try simp only [Act.put, List.setIfInBounds_toArray, List.set_cons_zero, List.set_cons_succ]
    refine wpAnyH_ready (rs := [1]) (by kernel_rfl) (by simp) ?_
    refine AllReadyH.cons (o := { dst := some 55, op := Go.Op.call { callee := Go.Callee.value (Go.Operand.func 9), args := #[Go.Operand.tmp 54], argTypes := #[27] }, type := 30, pos := "law.go:82", after := #[{ on := 0, ground := Go.Ground.data }], guard := none }) rfl (fun KK hK => ?_) AllReadyH.nil
    go_simp
    refine (hT k f o t i l c x b si st _).mono ?_
    rintro e y1 ⟨rfl, hb21⟩
    have hS7 := hst _ y1 hHeld.1 hb21
    refine hK.out _ _ hS7 (fun hHeld2 => ?_)
    clear hK KK hHeld
    have hHeld := hHeld2
    clear hHeld2
    try simp only [Act.put, List.setIfInBounds_toArray, List.set_cons_zero, List.set_cons_succ]
    refine wpAnyH_ready (rs := [2]) (by kernel_rfl) (by simp) ?_
    refine AllReadyH.cons (o := { dst := some 56, op := Go.Op.call { callee := Go.Callee.value (Go.Operand.func 10), args := #[Go.Operand.tmp 55], argTypes := #[30] }, type := 4, pos := "law.go:82", after := #[{ on := 1, ground := Go.Ground.data }, { on := 1, ground := Go.Ground.chain }], guard := none }) rfl (fun KK hK => ?_) AllReadyH.nil
    go_simp
    refine (hRP _ (hup _ hHeld.1)).mono ?_
    rintro e y2 ⟨rfl, hb22⟩
    have hS7 := hst _ y2 hHeld.1 hb22
    refine hK.out _ _ hS7 (fun hHeld2 => ?_)
    clear hK KK hHeld
    have hHeld := hHeld2
    clear hHeld2
    try simp only [Act.put, List.setIfInBounds_toArray, List.set_cons_zero, List.set_cons_succ]
    refine wpAnyH_take (i := 3) (oi := { dst := some 57, op := Go.Op.move (Go.Operand.tmp 56), type := 4, pos := "law.go:82", after := #[{ on := 2, ground := Go.Ground.data }, { on := 2, ground := Go.Ground.chain }], guard := none }) (v := ?_) rfl (by kernel_rfl) (by kernel_rfl) (by kernel_rfl) (fun _ _ _ h => h) (Or.inl ⟨by rfl, ?_⟩) (by assumption) ?_
    rotate_left
    · ((intro w hSw; (try dsimp only at hSw); go_simp); (try with_reducible rfl))
    try simp only [Act.put, List.setIfInBounds_toArray, List.set_cons_zero, List.set_cons_succ]
    refine wpAnyH_take (i := 4) (oi := { dst := some 58, op := Go.Op.load 27 (Go.Operand.tmp 7), type := 27, pos := "law.go:82", after := #[{ on := 3, ground := Go.Ground.guard }], guard := some (3, true) }) (v := ?_) rfl (by kernel_rfl) (by kernel_rfl) (by kernel_rfl) (fun _ _ _ h => h) (Or.inl ⟨by rfl, ?_⟩) (by assumption) ?_
    rotate_left
    · ((intro w hSw; (try dsimp only at hSw); go_simp); (try with_reducible rfl))
    try simp only [Act.put, List.setIfInBounds_toArray, List.set_cons_zero, List.set_cons_succ]
    refine wpAnyH_take (i := 7) (oi := { dst := some 61, op := Go.Op.load 27 (Go.Operand.tmp 7), type := 27, pos := "law.go:82", after := #[{ on := 3, ground := Go.Ground.guard }], guard := some (3, true) }) (v := ?_) rfl (by kernel_rfl) (by kernel_rfl) (by kernel_rfl) (fun _ _ _ h => h) (Or.inl ⟨by rfl, ?_⟩) (by assumption) ?_
    rotate_left
    · ((intro w hSw; (try dsimp only at hSw); go_simp); (try with_reducible rfl))
    try simp only [Act.put, List.setIfInBounds_toArray, List.set_cons_zero, List.set_cons_succ]
    refine wpAnyH_ready (rs := [5]) (by kernel_rfl) (by simp) ?_
    refine AllReadyH.cons (o := { dst := some 59, op := Go.Op.call { callee := Go.Callee.value (Go.Operand.func 9), args := #[Go.Operand.tmp 58], argTypes := #[27] }, type := 30, pos := "law.go:82", after := #[{ on := 4, ground := Go.Ground.data }, { on := 3, ground := Go.Ground.chain }, { on := 3, ground := Go.Ground.guard }], guard := some (3, true) }) rfl (fun KK hK => ?_) AllReadyH.nil
    go_simp
    refine (hT k f o t i v c x b si st _).mono ?_
    rintro e y5 ⟨rfl, hb25⟩
    have hS7 := hst _ y5 hHeld.1 hb25
    refine hK.out _ _ hS7 (fun hHeld2 => ?_)
    clear hK KK hHeld
    have hHeld := hHeld2
    clear hHeld2
    try simp only [Act.put, List.setIfInBounds_toArray, List.set_cons_zero, List.set_cons_succ]
    refine wpAnyH_ready (rs := [6]) (by kernel_rfl) (by simp) ?_
    refine AllReadyH.cons (o := { dst := some 60, op := Go.Op.call { callee := Go.Callee.value (Go.Operand.func 10), args := #[Go.Operand.tmp 59], argTypes := #[30] }, type := 4, pos := "law.go:82", after := #[{ on := 5, ground := Go.Ground.data }, { on := 5, ground := Go.Ground.chain }, { on := 3, ground := Go.Ground.guard }], guard := some (3, true) }) rfl (fun KK hK => ?_) AllReadyH.nil
    go_simp
    refine (hXP _ (hup _ hHeld.1)).mono ?_
    rintro e y6 ⟨rfl, hb26⟩
    have hS7 := hst _ y6 hHeld.1 hb26
    refine hK.out _ _ hS7 (fun hHeld2 => ?_)
    clear hK KK hHeld
    have hHeld := hHeld2
    clear hHeld2
    try simp only [Act.put, List.setIfInBounds_toArray, List.set_cons_zero, List.set_cons_succ]
    refine wpAnyH_ready (rs := [8]) (by kernel_rfl) (by simp) ?_
    refine AllReadyH.cons (o := { dst := some 62, op := Go.Op.call { callee := Go.Callee.value (Go.Operand.func 11), args := #[Go.Operand.tmp 61], argTypes := #[27] }, type := 4, pos := "law.go:82", after := #[{ on := 7, ground := Go.Ground.data }, { on := 6, ground := Go.Ground.chain }, { on := 3, ground := Go.Ground.guard }], guard := some (3, true) }) rfl (fun KK hK => ?_) AllReadyH.nil
    go_simp
    refine (hXR _ (hup _ hHeld.1)).mono ?_
    rintro e y8 ⟨rfl, hb28⟩
    have hS7 := hst _ y8 hHeld.1 hb28
    refine hK.out _ _ hS7 (fun hHeld2 => ?_)
    clear hK KK hHeld
    have hHeld := hHeld2
    clear hHeld2
    try simp only [Act.put, List.setIfInBounds_toArray, List.set_cons_zero, List.set_cons_succ]
    refine wpAnyH_take (i := 9) (oi := { dst := some 63, op := Go.Op.binOp Go.BinOp.eql 4 (Go.Operand.tmp 60) (Go.Operand.tmp 62) 4, type := 4, pos := "law.go:82", after := #[{ on := 6, ground := Go.Ground.data }, { on := 8, ground := Go.Ground.data }, { on := 3, ground := Go.Ground.guard }], guard := some (3, true) }) (v := ?_) rfl (by kernel_rfl) (by kernel_rfl) (by kernel_rfl) (fun _ _ _ h => h) (Or.inl ⟨by rfl, ?_⟩) (by assumption) ?_
    rotate_left
    · ((intro w hSw; (try dsimp only at hSw); go_simp); (try with_reducible rfl))
    try simp only [Act.put, List.setIfInBounds_toArray, List.set_cons_zero, List.set_cons_succ]
    refine wpAnyH_take (i := 10) (oi := { dst := some 64, op := Go.Op.pick (Go.Operand.tmp 57) (Go.Operand.tmp 63) (Go.Operand.const (Go.Value.bool false)), type := 4, pos := "law.go:82", after := #[{ on := 3, ground := Go.Ground.data }, { on := 9, ground := Go.Ground.data }], guard := none }) (v := ?_) rfl (by kernel_rfl) (by kernel_rfl) (by kernel_rfl) (fun _ _ _ h => h) (Or.inl ⟨by rfl, ?_⟩) (by assumption) ?_
    rotate_left
    · ((intro w hSw; (try dsimp only at hSw); go_simp); (try with_reducible rfl))
    try simp only [Act.put, List.setIfInBounds_toArray, List.set_cons_zero, List.set_cons_succ]
    refine wpAnyH_take (i := 11) (oi := { dst := some 6, op := Go.Op.assign (Go.Operand.tmp 64), type := 4, pos := "law.go:82", after := #[{ on := 10, ground := Go.Ground.data }, { on := 8, ground := Go.Ground.chain }, { on := 0, ground := Go.Ground.phase }, { on := 1, ground := Go.Ground.phase }, { on := 2, ground := Go.Ground.phase }, { on := 3, ground := Go.Ground.phase }, { on := 4, ground := Go.Ground.phase }, { on := 5, ground := Go.Ground.phase }, { on := 6, ground := Go.Ground.phase }, { on := 7, ground := Go.Ground.phase }, { on := 8, ground := Go.Ground.phase }, { on := 9, ground := Go.Ground.phase }, { on := 10, ground := Go.Ground.phase }], guard := none }) (v := ?_) rfl (by kernel_rfl) (by kernel_rfl) (by kernel_rfl) (fun _ _ _ h => h) (Or.inl ⟨by rfl, ?_⟩) (by assumption) ?_
    rotate_left
    · ((intro w hSw; (try dsimp only at hSw); go_simp); (try with_reducible rfl))
    try simp only [Act.put, List.setIfInBounds_toArray, List.set_cons_zero, List.set_cons_succ]
    refine wpAnyH_done (by kernel_rfl) ?_ _
    go_wp2
    go_ret
    exact ⟨rfl, hup _ hHeld.1⟩
  · have g0 : ((z : Int) % 6 == 0) = false := beq_eq_false_iff_ne.2 (by omega)
    have f0 : ((z : Int) % 6 = 0) = False := eq_false (by omega)
    have g1 : ((z : Int) % 6 == 1) = false := beq_eq_false_iff_ne.2 (by omega)
    have f1 : ((z : Int) % 6 = 1) = False := eq_false (by omega)
    have g2 : ((z : Int) % 6 == 2) = true := beq_iff_eq.2 (by omega)
    have hXP := hXP ⟨k, f, o, t, i, l, v, x, b, es, ⟨si, st, sd⟩⟩ rfl rfl
    have hXR := hXR ⟨k, f, o, t, i, l, v, x, b, es, ⟨si, st, sd⟩⟩ rfl rfl
    generalize rightM ⟨k, f, o, t, i, l, v, x, b, es, ⟨si, st, sd⟩⟩ = q at *
    dsimp only at hXP hXR
    have hA : Below w3.heap.size w3 (w3.alloc (.cells (mC k f o t i l v x b A es.length cA si st E sd.length cE) 27)) := (Below.refl _ _).alloc (Nat.le_refl _) _
    have r2 := heap_alloc_new w3 (.cells (mC k f o t i l v x b A es.length cA si st E sd.length cE) 27)
    have r1 := (hA.block _ (hlt hr1)).trans hr1
    have hbw4 := hbw3.trans (hA.mono hbw3.size)
    clear h6 hA
    go_upto_region 16 with fail
    generalize w3.alloc (.cells (mC k f o t i l v x b A es.length cA si st E sd.length cE) 27) = w4 at *
    have hst : ∀ W W', Below w4.heap.size w4 W → Below W.heap.size W W' → (fun w' => Below w4.heap.size w4 w' ∧ (w'.cell? ⟨w.heap.size, 0, none⟩ = some (.int .i64 k) ∧ w'.cell? ⟨w.heap.size, 1, none⟩ = some (.int .i64 f) ∧ w'.cell? ⟨w.heap.size, 2, none⟩ = some (.int .i64 o) ∧ w'.cell? ⟨w.heap.size, 3, none⟩ = some (.int .i64 t) ∧ w'.cell? ⟨w.heap.size, 4, none⟩ = some (.int .i64 i) ∧ w'.cell? ⟨w.heap.size, 5, none⟩ = some (.int .i64 l) ∧ w'.cell? ⟨w.heap.size, 6, none⟩ = some (.int .i64 c) ∧ w'.cell? ⟨w.heap.size, 7, none⟩ = some (.int .i64 x) ∧ w'.cell? ⟨w.heap.size, 8, none⟩ = some (.bool b) ∧ w'.cell? ⟨w.heap.size, 9, none⟩ = some (.slice A es.length cA) ∧ w'.cell? ⟨w.heap.size, 10, none⟩ = some (.int .i64 si) ∧ w'.cell? ⟨w.heap.size, 11, none⟩ = some (.int .i64 st) ∧ w'.cell? ⟨w.heap.size, 12, none⟩ = some (.slice E sd.length cE)) ∧ (w'.cell? ⟨w3.heap.size, 0, none⟩ = some (.int .i64 k) ∧ w'.cell? ⟨w3.heap.size, 1, none⟩ = some (.int .i64 f) ∧ w'.cell? ⟨w3.heap.size, 2, none⟩ = some (.int .i64 o) ∧ w'.cell? ⟨w3.heap.size, 3, none⟩ = some (.int .i64 t) ∧ w'.cell? ⟨w3.heap.size, 4, none⟩ = some (.int .i64 i) ∧ w'.cell? ⟨w3.heap.size, 5, none⟩ = some (.int .i64 l) ∧ w'.cell? ⟨w3.heap.size, 6, none⟩ = some (.int .i64 v) ∧ w'.cell? ⟨w3.heap.size, 7, none⟩ = some (.int .i64 x) ∧ w'.cell? ⟨w3.heap.size, 8, none⟩ = some (.bool b) ∧ w'.cell? ⟨w3.heap.size, 9, none⟩ = some (.slice A es.length cA) ∧ w'.cell? ⟨w3.heap.size, 10, none⟩ = some (.int .i64 si) ∧ w'.cell? ⟨w3.heap.size, 11, none⟩ = some (.int .i64 st) ∧ w'.cell? ⟨w3.heap.size, 12, none⟩ = some (.slice E sd.length cE))) W' := fun W W' h1 h2 => by
      have h3 := h1.trans (h2.mono h1.size)
      exact ⟨h3, (row13 ((h3.block _ (hlt r1)).trans r1)).1, (row13 ((h3.block _ (hlt r2)).trans r2)).1⟩
    have hup := fun W (hW : Below w4.heap.size w4 W) => hbw4.trans (hW.mono hbw4.size)
    have hS0 : (fun w' => Below w4.heap.size w4 w' ∧ (w'.cell? ⟨w.heap.size, 0, none⟩ = some (.int .i64 k) ∧ w'.cell? ⟨w.heap.size, 1, none⟩ = some (.int .i64 f) ∧ w'.cell? ⟨w.heap.size, 2, none⟩ = some (.int .i64 o) ∧ w'.cell? ⟨w.heap.size, 3, none⟩ = some (.int .i64 t) ∧ w'.cell? ⟨w.heap.size, 4, none⟩ = some (.int .i64 i) ∧ w'.cell? ⟨w.heap.size, 5, none⟩ = some (.int .i64 l) ∧ w'.cell? ⟨w.heap.size, 6, none⟩ = some (.int .i64 c) ∧ w'.cell? ⟨w.heap.size, 7, none⟩ = some (.int .i64 x) ∧ w'.cell? ⟨w.heap.size, 8, none⟩ = some (.bool b) ∧ w'.cell? ⟨w.heap.size, 9, none⟩ = some (.slice A es.length cA) ∧ w'.cell? ⟨w.heap.size, 10, none⟩ = some (.int .i64 si) ∧ w'.cell? ⟨w.heap.size, 11, none⟩ = some (.int .i64 st) ∧ w'.cell? ⟨w.heap.size, 12, none⟩ = some (.slice E sd.length cE)) ∧ (w'.cell? ⟨w3.heap.size, 0, none⟩ = some (.int .i64 k) ∧ w'.cell? ⟨w3.heap.size, 1, none⟩ = some (.int .i64 f) ∧ w'.cell? ⟨w3.heap.size, 2, none⟩ = some (.int .i64 o) ∧ w'.cell? ⟨w3.heap.size, 3, none⟩ = some (.int .i64 t) ∧ w'.cell? ⟨w3.heap.size, 4, none⟩ = some (.int .i64 i) ∧ w'.cell? ⟨w3.heap.size, 5, none⟩ = some (.int .i64 l) ∧ w'.cell? ⟨w3.heap.size, 6, none⟩ = some (.int .i64 v) ∧ w'.cell? ⟨w3.heap.size, 7, none⟩ = some (.int .i64 x) ∧ w'.cell? ⟨w3.heap.size, 8, none⟩ = some (.bool b) ∧ w'.cell? ⟨w3.heap.size, 9, none⟩ = some (.slice A es.length cA) ∧ w'.cell? ⟨w3.heap.size, 10, none⟩ = some (.int .i64 si) ∧ w'.cell? ⟨w3.heap.size, 11, none⟩ = some (.int .i64 st) ∧ w'.cell? ⟨w3.heap.size, 12, none⟩ = some (.slice E sd.length cE))) w4.drew := by
      have h := hst w4 w4 (Below.refl _ _) (Below.refl _ _)
      exact ⟨(Below.refl _ _).drew, h.2⟩
    refine wp_region_held_drew (S := (fun w' => Below w4.heap.size w4 w' ∧ (w'.cell? ⟨w.heap.size, 0, none⟩ = some (.int .i64 k) ∧ w'.cell? ⟨w.heap.size, 1, none⟩ = some (.int .i64 f) ∧ w'.cell? ⟨w.heap.size, 2, none⟩ = some (.int .i64 o) ∧ w'.cell? ⟨w.heap.size, 3, none⟩ = some (.int .i64 t) ∧ w'.cell? ⟨w.heap.size, 4, none⟩ = some (.int .i64 i) ∧ w'.cell? ⟨w.heap.size, 5, none⟩ = some (.int .i64 l) ∧ w'.cell? ⟨w.heap.size, 6, none⟩ = some (.int .i64 c) ∧ w'.cell? ⟨w.heap.size, 7, none⟩ = some (.int .i64 x) ∧ w'.cell? ⟨w.heap.size, 8, none⟩ = some (.bool b) ∧ w'.cell? ⟨w.heap.size, 9, none⟩ = some (.slice A es.length cA) ∧ w'.cell? ⟨w.heap.size, 10, none⟩ = some (.int .i64 si) ∧ w'.cell? ⟨w.heap.size, 11, none⟩ = some (.int .i64 st) ∧ w'.cell? ⟨w.heap.size, 12, none⟩ = some (.slice E sd.length cE)) ∧ (w'.cell? ⟨w3.heap.size, 0, none⟩ = some (.int .i64 k) ∧ w'.cell? ⟨w3.heap.size, 1, none⟩ = some (.int .i64 f) ∧ w'.cell? ⟨w3.heap.size, 2, none⟩ = some (.int .i64 o) ∧ w'.cell? ⟨w3.heap.size, 3, none⟩ = some (.int .i64 t) ∧ w'.cell? ⟨w3.heap.size, 4, none⟩ = some (.int .i64 i) ∧ w'.cell? ⟨w3.heap.size, 5, none⟩ = some (.int .i64 l) ∧ w'.cell? ⟨w3.heap.size, 6, none⟩ = some (.int .i64 v) ∧ w'.cell? ⟨w3.heap.size, 7, none⟩ = some (.int .i64 x) ∧ w'.cell? ⟨w3.heap.size, 8, none⟩ = some (.bool b) ∧ w'.cell? ⟨w3.heap.size, 9, none⟩ = some (.slice A es.length cA) ∧ w'.cell? ⟨w3.heap.size, 10, none⟩ = some (.int .i64 si) ∧ w'.cell? ⟨w3.heap.size, 11, none⟩ = some (.int .i64 st) ∧ w'.cell? ⟨w3.heap.size, 12, none⟩ = some (.slice E sd.length cE)))) (by kernel_rfl) hS0 (fun hHeld => ?_)
    change wpAnyH _ _ _ _ _ 12 #[false, false, false, false, false, false, false, false, false, false, false, false] _ _
    refine wpAnyH_take (i := 0) (oi := { dst := some 54, op := Go.Op.load 27 (Go.Operand.tmp 3), type := 27, pos := "law.go:82", after := #[], guard := none }) (v := ?_) rfl (by kernel_rfl) (by kernel_rfl) (by kernel_rfl) (fun _ _ _ h => h) (Or.inl ⟨by rfl, ?_⟩) (by assumption) ?_
    rotate_left
    · ((intro w hSw; (try dsimp only at hSw); go_simp); (try with_reducible rfl))
    try simp only [Act.put, List.setIfInBounds_toArray, List.set_cons_zero, List.set_cons_succ]
    refine wpAnyH_ready (rs := [1]) (by kernel_rfl) (by simp) ?_
    refine AllReadyH.cons (o := { dst := some 55, op := Go.Op.call { callee := Go.Callee.value (Go.Operand.func 9), args := #[Go.Operand.tmp 54], argTypes := #[27] }, type := 30, pos := "law.go:82", after := #[{ on := 0, ground := Go.Ground.data }], guard := none }) rfl (fun KK hK => ?_) AllReadyH.nil
    go_simp
    refine (hT k f o t i l c x b si st _).mono ?_
    rintro e y1 ⟨rfl, hb21⟩
    have hS7 := hst _ y1 hHeld.1 hb21
    refine hK.out _ _ hS7 (fun hHeld2 => ?_)
    clear hK KK hHeld
    have hHeld := hHeld2
    clear hHeld2
    try simp only [Act.put, List.setIfInBounds_toArray, List.set_cons_zero, List.set_cons_succ]
    refine wpAnyH_ready (rs := [2]) (by kernel_rfl) (by simp) ?_
    refine AllReadyH.cons (o := { dst := some 56, op := Go.Op.call { callee := Go.Callee.value (Go.Operand.func 10), args := #[Go.Operand.tmp 55], argTypes := #[30] }, type := 4, pos := "law.go:82", after := #[{ on := 1, ground := Go.Ground.data }, { on := 1, ground := Go.Ground.chain }], guard := none }) rfl (fun KK hK => ?_) AllReadyH.nil
    go_simp
    refine (hRP _ (hup _ hHeld.1)).mono ?_
    rintro e y2 ⟨rfl, hb22⟩
    have hS7 := hst _ y2 hHeld.1 hb22
    refine hK.out _ _ hS7 (fun hHeld2 => ?_)
    clear hK KK hHeld
    have hHeld := hHeld2
    clear hHeld2
    try simp only [Act.put, List.setIfInBounds_toArray, List.set_cons_zero, List.set_cons_succ]
    refine wpAnyH_take (i := 3) (oi := { dst := some 57, op := Go.Op.move (Go.Operand.tmp 56), type := 4, pos := "law.go:82", after := #[{ on := 2, ground := Go.Ground.data }, { on := 2, ground := Go.Ground.chain }], guard := none }) (v := ?_) rfl (by kernel_rfl) (by kernel_rfl) (by kernel_rfl) (fun _ _ _ h => h) (Or.inl ⟨by rfl, ?_⟩) (by assumption) ?_
    rotate_left
    · ((intro w hSw; (try dsimp only at hSw); go_simp); (try with_reducible rfl))
    try simp only [Act.put, List.setIfInBounds_toArray, List.set_cons_zero, List.set_cons_succ]
    refine wpAnyH_take (i := 4) (oi := { dst := some 58, op := Go.Op.load 27 (Go.Operand.tmp 7), type := 27, pos := "law.go:82", after := #[{ on := 3, ground := Go.Ground.guard }], guard := some (3, true) }) (v := ?_) rfl (by kernel_rfl) (by kernel_rfl) (by kernel_rfl) (fun _ _ _ h => h) (Or.inl ⟨by rfl, ?_⟩) (by assumption) ?_
    rotate_left
    · ((intro w hSw; (try dsimp only at hSw); go_simp); (try with_reducible rfl))
    try simp only [Act.put, List.setIfInBounds_toArray, List.set_cons_zero, List.set_cons_succ]
    refine wpAnyH_take (i := 7) (oi := { dst := some 61, op := Go.Op.load 27 (Go.Operand.tmp 7), type := 27, pos := "law.go:82", after := #[{ on := 3, ground := Go.Ground.guard }], guard := some (3, true) }) (v := ?_) rfl (by kernel_rfl) (by kernel_rfl) (by kernel_rfl) (fun _ _ _ h => h) (Or.inl ⟨by rfl, ?_⟩) (by assumption) ?_
    rotate_left
    · ((intro w hSw; (try dsimp only at hSw); go_simp); (try with_reducible rfl))
    try simp only [Act.put, List.setIfInBounds_toArray, List.set_cons_zero, List.set_cons_succ]
    refine wpAnyH_ready (rs := [5]) (by kernel_rfl) (by simp) ?_
    refine AllReadyH.cons (o := { dst := some 59, op := Go.Op.call { callee := Go.Callee.value (Go.Operand.func 9), args := #[Go.Operand.tmp 58], argTypes := #[27] }, type := 30, pos := "law.go:82", after := #[{ on := 4, ground := Go.Ground.data }, { on := 3, ground := Go.Ground.chain }, { on := 3, ground := Go.Ground.guard }], guard := some (3, true) }) rfl (fun KK hK => ?_) AllReadyH.nil
    go_simp
    refine (hT k f o t i l v x b si st _).mono ?_
    rintro e y5 ⟨rfl, hb25⟩
    have hS7 := hst _ y5 hHeld.1 hb25
    refine hK.out _ _ hS7 (fun hHeld2 => ?_)
    clear hK KK hHeld
    have hHeld := hHeld2
    clear hHeld2
    try simp only [Act.put, List.setIfInBounds_toArray, List.set_cons_zero, List.set_cons_succ]
    refine wpAnyH_ready (rs := [6]) (by kernel_rfl) (by simp) ?_
    refine AllReadyH.cons (o := { dst := some 60, op := Go.Op.call { callee := Go.Callee.value (Go.Operand.func 10), args := #[Go.Operand.tmp 59], argTypes := #[30] }, type := 4, pos := "law.go:82", after := #[{ on := 5, ground := Go.Ground.data }, { on := 5, ground := Go.Ground.chain }, { on := 3, ground := Go.Ground.guard }], guard := some (3, true) }) rfl (fun KK hK => ?_) AllReadyH.nil
    go_simp
    refine (hXP _ (hup _ hHeld.1)).mono ?_
    rintro e y6 ⟨rfl, hb26⟩
    have hS7 := hst _ y6 hHeld.1 hb26
    refine hK.out _ _ hS7 (fun hHeld2 => ?_)
    clear hK KK hHeld
    have hHeld := hHeld2
    clear hHeld2
    try simp only [Act.put, List.setIfInBounds_toArray, List.set_cons_zero, List.set_cons_succ]
    refine wpAnyH_ready (rs := [8]) (by kernel_rfl) (by simp) ?_
    refine AllReadyH.cons (o := { dst := some 62, op := Go.Op.call { callee := Go.Callee.value (Go.Operand.func 11), args := #[Go.Operand.tmp 61], argTypes := #[27] }, type := 4, pos := "law.go:82", after := #[{ on := 7, ground := Go.Ground.data }, { on := 6, ground := Go.Ground.chain }, { on := 3, ground := Go.Ground.guard }], guard := some (3, true) }) rfl (fun KK hK => ?_) AllReadyH.nil
    go_simp
    refine (hXR _ (hup _ hHeld.1)).mono ?_
    rintro e y8 ⟨rfl, hb28⟩
    have hS7 := hst _ y8 hHeld.1 hb28
    refine hK.out _ _ hS7 (fun hHeld2 => ?_)
    clear hK KK hHeld
    have hHeld := hHeld2
    clear hHeld2
    try simp only [Act.put, List.setIfInBounds_toArray, List.set_cons_zero, List.set_cons_succ]
    refine wpAnyH_take (i := 9) (oi := { dst := some 63, op := Go.Op.binOp Go.BinOp.eql 4 (Go.Operand.tmp 60) (Go.Operand.tmp 62) 4, type := 4, pos := "law.go:82", after := #[{ on := 6, ground := Go.Ground.data }, { on := 8, ground := Go.Ground.data }, { on := 3, ground := Go.Ground.guard }], guard := some (3, true) }) (v := ?_) rfl (by kernel_rfl) (by kernel_rfl) (by kernel_rfl) (fun _ _ _ h => h) (Or.inl ⟨by rfl, ?_⟩) (by assumption) ?_
    rotate_left
    · ((intro w hSw; (try dsimp only at hSw); go_simp); (try with_reducible rfl))
    try simp only [Act.put, List.setIfInBounds_toArray, List.set_cons_zero, List.set_cons_succ]
    refine wpAnyH_take (i := 10) (oi := { dst := some 64, op := Go.Op.pick (Go.Operand.tmp 57) (Go.Operand.tmp 63) (Go.Operand.const (Go.Value.bool false)), type := 4, pos := "law.go:82", after := #[{ on := 3, ground := Go.Ground.data }, { on := 9, ground := Go.Ground.data }], guard := none }) (v := ?_) rfl (by kernel_rfl) (by kernel_rfl) (by kernel_rfl) (fun _ _ _ h => h) (Or.inl ⟨by rfl, ?_⟩) (by assumption) ?_
    rotate_left
    · ((intro w hSw; (try dsimp only at hSw); go_simp); (try with_reducible rfl))
    try simp only [Act.put, List.setIfInBounds_toArray, List.set_cons_zero, List.set_cons_succ]
    refine wpAnyH_take (i := 11) (oi := { dst := some 6, op := Go.Op.assign (Go.Operand.tmp 64), type := 4, pos := "law.go:82", after := #[{ on := 10, ground := Go.Ground.data }, { on := 8, ground := Go.Ground.chain }, { on := 0, ground := Go.Ground.phase }, { on := 1, ground := Go.Ground.phase }, { on := 2, ground := Go.Ground.phase }, { on := 3, ground := Go.Ground.phase }, { on := 4, ground := Go.Ground.phase }, { on := 5, ground := Go.Ground.phase }, { on := 6, ground := Go.Ground.phase }, { on := 7, ground := Go.Ground.phase }, { on := 8, ground := Go.Ground.phase }, { on := 9, ground := Go.Ground.phase }, { on := 10, ground := Go.Ground.phase }], guard := none }) (v := ?_) rfl (by kernel_rfl) (by kernel_rfl) (by kernel_rfl) (fun _ _ _ h => h) (Or.inl ⟨by rfl, ?_⟩) (by assumption) ?_
    rotate_left
    · ((intro w hSw; (try dsimp only at hSw); go_simp); (try with_reducible rfl))
    try simp only [Act.put, List.setIfInBounds_toArray, List.set_cons_zero, List.set_cons_succ]
    refine wpAnyH_done (by kernel_rfl) ?_ _
    go_wp2
    go_ret
    exact ⟨rfl, hup _ hHeld.1⟩
  · have g0 : ((z : Int) % 6 == 0) = false := beq_eq_false_iff_ne.2 (by omega)
    have f0 : ((z : Int) % 6 = 0) = False := eq_false (by omega)
    have g1 : ((z : Int) % 6 == 1) = false := beq_eq_false_iff_ne.2 (by omega)
    have f1 : ((z : Int) % 6 = 1) = False := eq_false (by omega)
    have g2 : ((z : Int) % 6 == 2) = false := beq_eq_false_iff_ne.2 (by omega)
    have f2 : ((z : Int) % 6 = 2) = False := eq_false (by omega)
    have g3 : ((z : Int) % 6 == 3) = true := beq_iff_eq.2 (by omega)
    have hXP := hXP ⟨k, f, o, t, i, l, c, v, b, es, ⟨si, st, sd⟩⟩ rfl rfl
    have hXR := hXR ⟨k, f, o, t, i, l, c, v, b, es, ⟨si, st, sd⟩⟩ rfl rfl
    generalize rightM ⟨k, f, o, t, i, l, c, v, b, es, ⟨si, st, sd⟩⟩ = q at *
    dsimp only at hXP hXR
    have hA : Below w3.heap.size w3 (w3.alloc (.cells (mC k f o t i l c v b A es.length cA si st E sd.length cE) 27)) := (Below.refl _ _).alloc (Nat.le_refl _) _
    have r2 := heap_alloc_new w3 (.cells (mC k f o t i l c v b A es.length cA si st E sd.length cE) 27)
    have r1 := (hA.block _ (hlt hr1)).trans hr1
    have hbw4 := hbw3.trans (hA.mono hbw3.size)
    clear h6 hA
    go_upto_region 16 with fail
    generalize w3.alloc (.cells (mC k f o t i l c v b A es.length cA si st E sd.length cE) 27) = w4 at *
    have hst : ∀ W W', Below w4.heap.size w4 W → Below W.heap.size W W' → (fun w' => Below w4.heap.size w4 w' ∧ (w'.cell? ⟨w.heap.size, 0, none⟩ = some (.int .i64 k) ∧ w'.cell? ⟨w.heap.size, 1, none⟩ = some (.int .i64 f) ∧ w'.cell? ⟨w.heap.size, 2, none⟩ = some (.int .i64 o) ∧ w'.cell? ⟨w.heap.size, 3, none⟩ = some (.int .i64 t) ∧ w'.cell? ⟨w.heap.size, 4, none⟩ = some (.int .i64 i) ∧ w'.cell? ⟨w.heap.size, 5, none⟩ = some (.int .i64 l) ∧ w'.cell? ⟨w.heap.size, 6, none⟩ = some (.int .i64 c) ∧ w'.cell? ⟨w.heap.size, 7, none⟩ = some (.int .i64 x) ∧ w'.cell? ⟨w.heap.size, 8, none⟩ = some (.bool b) ∧ w'.cell? ⟨w.heap.size, 9, none⟩ = some (.slice A es.length cA) ∧ w'.cell? ⟨w.heap.size, 10, none⟩ = some (.int .i64 si) ∧ w'.cell? ⟨w.heap.size, 11, none⟩ = some (.int .i64 st) ∧ w'.cell? ⟨w.heap.size, 12, none⟩ = some (.slice E sd.length cE)) ∧ (w'.cell? ⟨w3.heap.size, 0, none⟩ = some (.int .i64 k) ∧ w'.cell? ⟨w3.heap.size, 1, none⟩ = some (.int .i64 f) ∧ w'.cell? ⟨w3.heap.size, 2, none⟩ = some (.int .i64 o) ∧ w'.cell? ⟨w3.heap.size, 3, none⟩ = some (.int .i64 t) ∧ w'.cell? ⟨w3.heap.size, 4, none⟩ = some (.int .i64 i) ∧ w'.cell? ⟨w3.heap.size, 5, none⟩ = some (.int .i64 l) ∧ w'.cell? ⟨w3.heap.size, 6, none⟩ = some (.int .i64 c) ∧ w'.cell? ⟨w3.heap.size, 7, none⟩ = some (.int .i64 v) ∧ w'.cell? ⟨w3.heap.size, 8, none⟩ = some (.bool b) ∧ w'.cell? ⟨w3.heap.size, 9, none⟩ = some (.slice A es.length cA) ∧ w'.cell? ⟨w3.heap.size, 10, none⟩ = some (.int .i64 si) ∧ w'.cell? ⟨w3.heap.size, 11, none⟩ = some (.int .i64 st) ∧ w'.cell? ⟨w3.heap.size, 12, none⟩ = some (.slice E sd.length cE))) W' := fun W W' h1 h2 => by
      have h3 := h1.trans (h2.mono h1.size)
      exact ⟨h3, (row13 ((h3.block _ (hlt r1)).trans r1)).1, (row13 ((h3.block _ (hlt r2)).trans r2)).1⟩
    have hup := fun W (hW : Below w4.heap.size w4 W) => hbw4.trans (hW.mono hbw4.size)
    have hS0 : (fun w' => Below w4.heap.size w4 w' ∧ (w'.cell? ⟨w.heap.size, 0, none⟩ = some (.int .i64 k) ∧ w'.cell? ⟨w.heap.size, 1, none⟩ = some (.int .i64 f) ∧ w'.cell? ⟨w.heap.size, 2, none⟩ = some (.int .i64 o) ∧ w'.cell? ⟨w.heap.size, 3, none⟩ = some (.int .i64 t) ∧ w'.cell? ⟨w.heap.size, 4, none⟩ = some (.int .i64 i) ∧ w'.cell? ⟨w.heap.size, 5, none⟩ = some (.int .i64 l) ∧ w'.cell? ⟨w.heap.size, 6, none⟩ = some (.int .i64 c) ∧ w'.cell? ⟨w.heap.size, 7, none⟩ = some (.int .i64 x) ∧ w'.cell? ⟨w.heap.size, 8, none⟩ = some (.bool b) ∧ w'.cell? ⟨w.heap.size, 9, none⟩ = some (.slice A es.length cA) ∧ w'.cell? ⟨w.heap.size, 10, none⟩ = some (.int .i64 si) ∧ w'.cell? ⟨w.heap.size, 11, none⟩ = some (.int .i64 st) ∧ w'.cell? ⟨w.heap.size, 12, none⟩ = some (.slice E sd.length cE)) ∧ (w'.cell? ⟨w3.heap.size, 0, none⟩ = some (.int .i64 k) ∧ w'.cell? ⟨w3.heap.size, 1, none⟩ = some (.int .i64 f) ∧ w'.cell? ⟨w3.heap.size, 2, none⟩ = some (.int .i64 o) ∧ w'.cell? ⟨w3.heap.size, 3, none⟩ = some (.int .i64 t) ∧ w'.cell? ⟨w3.heap.size, 4, none⟩ = some (.int .i64 i) ∧ w'.cell? ⟨w3.heap.size, 5, none⟩ = some (.int .i64 l) ∧ w'.cell? ⟨w3.heap.size, 6, none⟩ = some (.int .i64 c) ∧ w'.cell? ⟨w3.heap.size, 7, none⟩ = some (.int .i64 v) ∧ w'.cell? ⟨w3.heap.size, 8, none⟩ = some (.bool b) ∧ w'.cell? ⟨w3.heap.size, 9, none⟩ = some (.slice A es.length cA) ∧ w'.cell? ⟨w3.heap.size, 10, none⟩ = some (.int .i64 si) ∧ w'.cell? ⟨w3.heap.size, 11, none⟩ = some (.int .i64 st) ∧ w'.cell? ⟨w3.heap.size, 12, none⟩ = some (.slice E sd.length cE))) w4.drew := by
      have h := hst w4 w4 (Below.refl _ _) (Below.refl _ _)
      exact ⟨(Below.refl _ _).drew, h.2⟩
    refine wp_region_held_drew (S := (fun w' => Below w4.heap.size w4 w' ∧ (w'.cell? ⟨w.heap.size, 0, none⟩ = some (.int .i64 k) ∧ w'.cell? ⟨w.heap.size, 1, none⟩ = some (.int .i64 f) ∧ w'.cell? ⟨w.heap.size, 2, none⟩ = some (.int .i64 o) ∧ w'.cell? ⟨w.heap.size, 3, none⟩ = some (.int .i64 t) ∧ w'.cell? ⟨w.heap.size, 4, none⟩ = some (.int .i64 i) ∧ w'.cell? ⟨w.heap.size, 5, none⟩ = some (.int .i64 l) ∧ w'.cell? ⟨w.heap.size, 6, none⟩ = some (.int .i64 c) ∧ w'.cell? ⟨w.heap.size, 7, none⟩ = some (.int .i64 x) ∧ w'.cell? ⟨w.heap.size, 8, none⟩ = some (.bool b) ∧ w'.cell? ⟨w.heap.size, 9, none⟩ = some (.slice A es.length cA) ∧ w'.cell? ⟨w.heap.size, 10, none⟩ = some (.int .i64 si) ∧ w'.cell? ⟨w.heap.size, 11, none⟩ = some (.int .i64 st) ∧ w'.cell? ⟨w.heap.size, 12, none⟩ = some (.slice E sd.length cE)) ∧ (w'.cell? ⟨w3.heap.size, 0, none⟩ = some (.int .i64 k) ∧ w'.cell? ⟨w3.heap.size, 1, none⟩ = some (.int .i64 f) ∧ w'.cell? ⟨w3.heap.size, 2, none⟩ = some (.int .i64 o) ∧ w'.cell? ⟨w3.heap.size, 3, none⟩ = some (.int .i64 t) ∧ w'.cell? ⟨w3.heap.size, 4, none⟩ = some (.int .i64 i) ∧ w'.cell? ⟨w3.heap.size, 5, none⟩ = some (.int .i64 l) ∧ w'.cell? ⟨w3.heap.size, 6, none⟩ = some (.int .i64 c) ∧ w'.cell? ⟨w3.heap.size, 7, none⟩ = some (.int .i64 v) ∧ w'.cell? ⟨w3.heap.size, 8, none⟩ = some (.bool b) ∧ w'.cell? ⟨w3.heap.size, 9, none⟩ = some (.slice A es.length cA) ∧ w'.cell? ⟨w3.heap.size, 10, none⟩ = some (.int .i64 si) ∧ w'.cell? ⟨w3.heap.size, 11, none⟩ = some (.int .i64 st) ∧ w'.cell? ⟨w3.heap.size, 12, none⟩ = some (.slice E sd.length cE)))) (by kernel_rfl) hS0 (fun hHeld => ?_)
    change wpAnyH _ _ _ _ _ 12 #[false, false, false, false, false, false, false, false, false, false, false, false] _ _
    refine wpAnyH_take (i := 0) (oi := { dst := some 54, op := Go.Op.load 27 (Go.Operand.tmp 3), type := 27, pos := "law.go:82", after := #[], guard := none }) (v := ?_) rfl (by kernel_rfl) (by kernel_rfl) (by kernel_rfl) (fun _ _ _ h => h) (Or.inl ⟨by rfl, ?_⟩) (by assumption) ?_
    rotate_left
    · ((intro w hSw; (try dsimp only at hSw); go_simp); (try with_reducible rfl))
    try simp only [Act.put, List.setIfInBounds_toArray, List.set_cons_zero, List.set_cons_succ]
    refine wpAnyH_ready (rs := [1]) (by kernel_rfl) (by simp) ?_
    refine AllReadyH.cons (o := { dst := some 55, op := Go.Op.call { callee := Go.Callee.value (Go.Operand.func 9), args := #[Go.Operand.tmp 54], argTypes := #[27] }, type := 30, pos := "law.go:82", after := #[{ on := 0, ground := Go.Ground.data }], guard := none }) rfl (fun KK hK => ?_) AllReadyH.nil
    go_simp
    refine (hT k f o t i l c x b si st _).mono ?_
    rintro e y1 ⟨rfl, hb21⟩
    have hS7 := hst _ y1 hHeld.1 hb21
    refine hK.out _ _ hS7 (fun hHeld2 => ?_)
    clear hK KK hHeld
    have hHeld := hHeld2
    clear hHeld2
    try simp only [Act.put, List.setIfInBounds_toArray, List.set_cons_zero, List.set_cons_succ]
    refine wpAnyH_ready (rs := [2]) (by kernel_rfl) (by simp) ?_
    refine AllReadyH.cons (o := { dst := some 56, op := Go.Op.call { callee := Go.Callee.value (Go.Operand.func 10), args := #[Go.Operand.tmp 55], argTypes := #[30] }, type := 4, pos := "law.go:82", after := #[{ on := 1, ground := Go.Ground.data }, { on := 1, ground := Go.Ground.chain }], guard := none }) rfl (fun KK hK => ?_) AllReadyH.nil
    go_simp
    refine (hRP _ (hup _ hHeld.1)).mono ?_
    rintro e y2 ⟨rfl, hb22⟩
    have hS7 := hst _ y2 hHeld.1 hb22
    refine hK.out _ _ hS7 (fun hHeld2 => ?_)
    clear hK KK hHeld
    have hHeld := hHeld2
    clear hHeld2
    try simp only [Act.put, List.setIfInBounds_toArray, List.set_cons_zero, List.set_cons_succ]
    refine wpAnyH_take (i := 3) (oi := { dst := some 57, op := Go.Op.move (Go.Operand.tmp 56), type := 4, pos := "law.go:82", after := #[{ on := 2, ground := Go.Ground.data }, { on := 2, ground := Go.Ground.chain }], guard := none }) (v := ?_) rfl (by kernel_rfl) (by kernel_rfl) (by kernel_rfl) (fun _ _ _ h => h) (Or.inl ⟨by rfl, ?_⟩) (by assumption) ?_
    rotate_left
    · ((intro w hSw; (try dsimp only at hSw); go_simp); (try with_reducible rfl))
    try simp only [Act.put, List.setIfInBounds_toArray, List.set_cons_zero, List.set_cons_succ]
    refine wpAnyH_take (i := 4) (oi := { dst := some 58, op := Go.Op.load 27 (Go.Operand.tmp 7), type := 27, pos := "law.go:82", after := #[{ on := 3, ground := Go.Ground.guard }], guard := some (3, true) }) (v := ?_) rfl (by kernel_rfl) (by kernel_rfl) (by kernel_rfl) (fun _ _ _ h => h) (Or.inl ⟨by rfl, ?_⟩) (by assumption) ?_
    rotate_left
    · ((intro w hSw; (try dsimp only at hSw); go_simp); (try with_reducible rfl))
    try simp only [Act.put, List.setIfInBounds_toArray, List.set_cons_zero, List.set_cons_succ]
    refine wpAnyH_take (i := 7) (oi := { dst := some 61, op := Go.Op.load 27 (Go.Operand.tmp 7), type := 27, pos := "law.go:82", after := #[{ on := 3, ground := Go.Ground.guard }], guard := some (3, true) }) (v := ?_) rfl (by kernel_rfl) (by kernel_rfl) (by kernel_rfl) (fun _ _ _ h => h) (Or.inl ⟨by rfl, ?_⟩) (by assumption) ?_
    rotate_left
    · ((intro w hSw; (try dsimp only at hSw); go_simp); (try with_reducible rfl))
    try simp only [Act.put, List.setIfInBounds_toArray, List.set_cons_zero, List.set_cons_succ]
    refine wpAnyH_ready (rs := [5]) (by kernel_rfl) (by simp) ?_
    refine AllReadyH.cons (o := { dst := some 59, op := Go.Op.call { callee := Go.Callee.value (Go.Operand.func 9), args := #[Go.Operand.tmp 58], argTypes := #[27] }, type := 30, pos := "law.go:82", after := #[{ on := 4, ground := Go.Ground.data }, { on := 3, ground := Go.Ground.chain }, { on := 3, ground := Go.Ground.guard }], guard := some (3, true) }) rfl (fun KK hK => ?_) AllReadyH.nil
    go_simp
    refine (hT k f o t i l c v b si st _).mono ?_
    rintro e y5 ⟨rfl, hb25⟩
    have hS7 := hst _ y5 hHeld.1 hb25
    refine hK.out _ _ hS7 (fun hHeld2 => ?_)
    clear hK KK hHeld
    have hHeld := hHeld2
    clear hHeld2
    try simp only [Act.put, List.setIfInBounds_toArray, List.set_cons_zero, List.set_cons_succ]
    refine wpAnyH_ready (rs := [6]) (by kernel_rfl) (by simp) ?_
    refine AllReadyH.cons (o := { dst := some 60, op := Go.Op.call { callee := Go.Callee.value (Go.Operand.func 10), args := #[Go.Operand.tmp 59], argTypes := #[30] }, type := 4, pos := "law.go:82", after := #[{ on := 5, ground := Go.Ground.data }, { on := 5, ground := Go.Ground.chain }, { on := 3, ground := Go.Ground.guard }], guard := some (3, true) }) rfl (fun KK hK => ?_) AllReadyH.nil
    go_simp
    refine (hXP _ (hup _ hHeld.1)).mono ?_
    rintro e y6 ⟨rfl, hb26⟩
    have hS7 := hst _ y6 hHeld.1 hb26
    refine hK.out _ _ hS7 (fun hHeld2 => ?_)
    clear hK KK hHeld
    have hHeld := hHeld2
    clear hHeld2
    try simp only [Act.put, List.setIfInBounds_toArray, List.set_cons_zero, List.set_cons_succ]
    refine wpAnyH_ready (rs := [8]) (by kernel_rfl) (by simp) ?_
    refine AllReadyH.cons (o := { dst := some 62, op := Go.Op.call { callee := Go.Callee.value (Go.Operand.func 11), args := #[Go.Operand.tmp 61], argTypes := #[27] }, type := 4, pos := "law.go:82", after := #[{ on := 7, ground := Go.Ground.data }, { on := 6, ground := Go.Ground.chain }, { on := 3, ground := Go.Ground.guard }], guard := some (3, true) }) rfl (fun KK hK => ?_) AllReadyH.nil
    go_simp
    refine (hXR _ (hup _ hHeld.1)).mono ?_
    rintro e y8 ⟨rfl, hb28⟩
    have hS7 := hst _ y8 hHeld.1 hb28
    refine hK.out _ _ hS7 (fun hHeld2 => ?_)
    clear hK KK hHeld
    have hHeld := hHeld2
    clear hHeld2
    try simp only [Act.put, List.setIfInBounds_toArray, List.set_cons_zero, List.set_cons_succ]
    refine wpAnyH_take (i := 9) (oi := { dst := some 63, op := Go.Op.binOp Go.BinOp.eql 4 (Go.Operand.tmp 60) (Go.Operand.tmp 62) 4, type := 4, pos := "law.go:82", after := #[{ on := 6, ground := Go.Ground.data }, { on := 8, ground := Go.Ground.data }, { on := 3, ground := Go.Ground.guard }], guard := some (3, true) }) (v := ?_) rfl (by kernel_rfl) (by kernel_rfl) (by kernel_rfl) (fun _ _ _ h => h) (Or.inl ⟨by rfl, ?_⟩) (by assumption) ?_
    rotate_left
    · ((intro w hSw; (try dsimp only at hSw); go_simp); (try with_reducible rfl))
    try simp only [Act.put, List.setIfInBounds_toArray, List.set_cons_zero, List.set_cons_succ]
    refine wpAnyH_take (i := 10) (oi := { dst := some 64, op := Go.Op.pick (Go.Operand.tmp 57) (Go.Operand.tmp 63) (Go.Operand.const (Go.Value.bool false)), type := 4, pos := "law.go:82", after := #[{ on := 3, ground := Go.Ground.data }, { on := 9, ground := Go.Ground.data }], guard := none }) (v := ?_) rfl (by kernel_rfl) (by kernel_rfl) (by kernel_rfl) (fun _ _ _ h => h) (Or.inl ⟨by rfl, ?_⟩) (by assumption) ?_
    rotate_left
    · ((intro w hSw; (try dsimp only at hSw); go_simp); (try with_reducible rfl))
    try simp only [Act.put, List.setIfInBounds_toArray, List.set_cons_zero, List.set_cons_succ]
    refine wpAnyH_take (i := 11) (oi := { dst := some 6, op := Go.Op.assign (Go.Operand.tmp 64), type := 4, pos := "law.go:82", after := #[{ on := 10, ground := Go.Ground.data }, { on := 8, ground := Go.Ground.chain }, { on := 0, ground := Go.Ground.phase }, { on := 1, ground := Go.Ground.phase }, { on := 2, ground := Go.Ground.phase }, { on := 3, ground := Go.Ground.phase }, { on := 4, ground := Go.Ground.phase }, { on := 5, ground := Go.Ground.phase }, { on := 6, ground := Go.Ground.phase }, { on := 7, ground := Go.Ground.phase }, { on := 8, ground := Go.Ground.phase }, { on := 9, ground := Go.Ground.phase }, { on := 10, ground := Go.Ground.phase }], guard := none }) (v := ?_) rfl (by kernel_rfl) (by kernel_rfl) (by kernel_rfl) (fun _ _ _ h => h) (Or.inl ⟨by rfl, ?_⟩) (by assumption) ?_
    rotate_left
    · ((intro w hSw; (try dsimp only at hSw); go_simp); (try with_reducible rfl))
    try simp only [Act.put, List.setIfInBounds_toArray, List.set_cons_zero, List.set_cons_succ]
    refine wpAnyH_done (by kernel_rfl) ?_ _
    go_wp2
    go_ret
    exact ⟨rfl, hup _ hHeld.1⟩
  · have g0 : ((z : Int) % 6 == 0) = false := beq_eq_false_iff_ne.2 (by omega)
    have f0 : ((z : Int) % 6 = 0) = False := eq_false (by omega)
    have g1 : ((z : Int) % 6 == 1) = false := beq_eq_false_iff_ne.2 (by omega)
    have f1 : ((z : Int) % 6 = 1) = False := eq_false (by omega)
    have g2 : ((z : Int) % 6 == 2) = false := beq_eq_false_iff_ne.2 (by omega)
    have f2 : ((z : Int) % 6 = 2) = False := eq_false (by omega)
    have g3 : ((z : Int) % 6 == 3) = false := beq_eq_false_iff_ne.2 (by omega)
    have f3 : ((z : Int) % 6 = 3) = False := eq_false (by omega)
    have g4 : ((z : Int) % 6 == 4) = true := beq_iff_eq.2 (by omega)
    have hXP := hXP ⟨k, f, o, t, i, l, c, x, (!b), es, ⟨si, st, sd⟩⟩ rfl rfl
    have hXR := hXR ⟨k, f, o, t, i, l, c, x, (!b), es, ⟨si, st, sd⟩⟩ rfl rfl
    generalize rightM ⟨k, f, o, t, i, l, c, x, (!b), es, ⟨si, st, sd⟩⟩ = q at *
    dsimp only at hXP hXR
    have hA : Below w3.heap.size w3 (w3.alloc (.cells (mC k f o t i l c x (!b) A es.length cA si st E sd.length cE) 27)) := (Below.refl _ _).alloc (Nat.le_refl _) _
    have r2 := heap_alloc_new w3 (.cells (mC k f o t i l c x (!b) A es.length cA si st E sd.length cE) 27)
    have r1 := (hA.block _ (hlt hr1)).trans hr1
    have hbw4 := hbw3.trans (hA.mono hbw3.size)
    clear h6 hA
    go_upto_region 16 with fail
    generalize w3.alloc (.cells (mC k f o t i l c x (!b) A es.length cA si st E sd.length cE) 27) = w4 at *
    have hst : ∀ W W', Below w4.heap.size w4 W → Below W.heap.size W W' → (fun w' => Below w4.heap.size w4 w' ∧ (w'.cell? ⟨w.heap.size, 0, none⟩ = some (.int .i64 k) ∧ w'.cell? ⟨w.heap.size, 1, none⟩ = some (.int .i64 f) ∧ w'.cell? ⟨w.heap.size, 2, none⟩ = some (.int .i64 o) ∧ w'.cell? ⟨w.heap.size, 3, none⟩ = some (.int .i64 t) ∧ w'.cell? ⟨w.heap.size, 4, none⟩ = some (.int .i64 i) ∧ w'.cell? ⟨w.heap.size, 5, none⟩ = some (.int .i64 l) ∧ w'.cell? ⟨w.heap.size, 6, none⟩ = some (.int .i64 c) ∧ w'.cell? ⟨w.heap.size, 7, none⟩ = some (.int .i64 x) ∧ w'.cell? ⟨w.heap.size, 8, none⟩ = some (.bool b) ∧ w'.cell? ⟨w.heap.size, 9, none⟩ = some (.slice A es.length cA) ∧ w'.cell? ⟨w.heap.size, 10, none⟩ = some (.int .i64 si) ∧ w'.cell? ⟨w.heap.size, 11, none⟩ = some (.int .i64 st) ∧ w'.cell? ⟨w.heap.size, 12, none⟩ = some (.slice E sd.length cE)) ∧ (w'.cell? ⟨w3.heap.size, 0, none⟩ = some (.int .i64 k) ∧ w'.cell? ⟨w3.heap.size, 1, none⟩ = some (.int .i64 f) ∧ w'.cell? ⟨w3.heap.size, 2, none⟩ = some (.int .i64 o) ∧ w'.cell? ⟨w3.heap.size, 3, none⟩ = some (.int .i64 t) ∧ w'.cell? ⟨w3.heap.size, 4, none⟩ = some (.int .i64 i) ∧ w'.cell? ⟨w3.heap.size, 5, none⟩ = some (.int .i64 l) ∧ w'.cell? ⟨w3.heap.size, 6, none⟩ = some (.int .i64 c) ∧ w'.cell? ⟨w3.heap.size, 7, none⟩ = some (.int .i64 x) ∧ w'.cell? ⟨w3.heap.size, 8, none⟩ = some (.bool (!b)) ∧ w'.cell? ⟨w3.heap.size, 9, none⟩ = some (.slice A es.length cA) ∧ w'.cell? ⟨w3.heap.size, 10, none⟩ = some (.int .i64 si) ∧ w'.cell? ⟨w3.heap.size, 11, none⟩ = some (.int .i64 st) ∧ w'.cell? ⟨w3.heap.size, 12, none⟩ = some (.slice E sd.length cE))) W' := fun W W' h1 h2 => by
      have h3 := h1.trans (h2.mono h1.size)
      exact ⟨h3, (row13 ((h3.block _ (hlt r1)).trans r1)).1, (row13 ((h3.block _ (hlt r2)).trans r2)).1⟩
    have hup := fun W (hW : Below w4.heap.size w4 W) => hbw4.trans (hW.mono hbw4.size)
    have hS0 : (fun w' => Below w4.heap.size w4 w' ∧ (w'.cell? ⟨w.heap.size, 0, none⟩ = some (.int .i64 k) ∧ w'.cell? ⟨w.heap.size, 1, none⟩ = some (.int .i64 f) ∧ w'.cell? ⟨w.heap.size, 2, none⟩ = some (.int .i64 o) ∧ w'.cell? ⟨w.heap.size, 3, none⟩ = some (.int .i64 t) ∧ w'.cell? ⟨w.heap.size, 4, none⟩ = some (.int .i64 i) ∧ w'.cell? ⟨w.heap.size, 5, none⟩ = some (.int .i64 l) ∧ w'.cell? ⟨w.heap.size, 6, none⟩ = some (.int .i64 c) ∧ w'.cell? ⟨w.heap.size, 7, none⟩ = some (.int .i64 x) ∧ w'.cell? ⟨w.heap.size, 8, none⟩ = some (.bool b) ∧ w'.cell? ⟨w.heap.size, 9, none⟩ = some (.slice A es.length cA) ∧ w'.cell? ⟨w.heap.size, 10, none⟩ = some (.int .i64 si) ∧ w'.cell? ⟨w.heap.size, 11, none⟩ = some (.int .i64 st) ∧ w'.cell? ⟨w.heap.size, 12, none⟩ = some (.slice E sd.length cE)) ∧ (w'.cell? ⟨w3.heap.size, 0, none⟩ = some (.int .i64 k) ∧ w'.cell? ⟨w3.heap.size, 1, none⟩ = some (.int .i64 f) ∧ w'.cell? ⟨w3.heap.size, 2, none⟩ = some (.int .i64 o) ∧ w'.cell? ⟨w3.heap.size, 3, none⟩ = some (.int .i64 t) ∧ w'.cell? ⟨w3.heap.size, 4, none⟩ = some (.int .i64 i) ∧ w'.cell? ⟨w3.heap.size, 5, none⟩ = some (.int .i64 l) ∧ w'.cell? ⟨w3.heap.size, 6, none⟩ = some (.int .i64 c) ∧ w'.cell? ⟨w3.heap.size, 7, none⟩ = some (.int .i64 x) ∧ w'.cell? ⟨w3.heap.size, 8, none⟩ = some (.bool (!b)) ∧ w'.cell? ⟨w3.heap.size, 9, none⟩ = some (.slice A es.length cA) ∧ w'.cell? ⟨w3.heap.size, 10, none⟩ = some (.int .i64 si) ∧ w'.cell? ⟨w3.heap.size, 11, none⟩ = some (.int .i64 st) ∧ w'.cell? ⟨w3.heap.size, 12, none⟩ = some (.slice E sd.length cE))) w4.drew := by
      have h := hst w4 w4 (Below.refl _ _) (Below.refl _ _)
      exact ⟨(Below.refl _ _).drew, h.2⟩
    refine wp_region_held_drew (S := (fun w' => Below w4.heap.size w4 w' ∧ (w'.cell? ⟨w.heap.size, 0, none⟩ = some (.int .i64 k) ∧ w'.cell? ⟨w.heap.size, 1, none⟩ = some (.int .i64 f) ∧ w'.cell? ⟨w.heap.size, 2, none⟩ = some (.int .i64 o) ∧ w'.cell? ⟨w.heap.size, 3, none⟩ = some (.int .i64 t) ∧ w'.cell? ⟨w.heap.size, 4, none⟩ = some (.int .i64 i) ∧ w'.cell? ⟨w.heap.size, 5, none⟩ = some (.int .i64 l) ∧ w'.cell? ⟨w.heap.size, 6, none⟩ = some (.int .i64 c) ∧ w'.cell? ⟨w.heap.size, 7, none⟩ = some (.int .i64 x) ∧ w'.cell? ⟨w.heap.size, 8, none⟩ = some (.bool b) ∧ w'.cell? ⟨w.heap.size, 9, none⟩ = some (.slice A es.length cA) ∧ w'.cell? ⟨w.heap.size, 10, none⟩ = some (.int .i64 si) ∧ w'.cell? ⟨w.heap.size, 11, none⟩ = some (.int .i64 st) ∧ w'.cell? ⟨w.heap.size, 12, none⟩ = some (.slice E sd.length cE)) ∧ (w'.cell? ⟨w3.heap.size, 0, none⟩ = some (.int .i64 k) ∧ w'.cell? ⟨w3.heap.size, 1, none⟩ = some (.int .i64 f) ∧ w'.cell? ⟨w3.heap.size, 2, none⟩ = some (.int .i64 o) ∧ w'.cell? ⟨w3.heap.size, 3, none⟩ = some (.int .i64 t) ∧ w'.cell? ⟨w3.heap.size, 4, none⟩ = some (.int .i64 i) ∧ w'.cell? ⟨w3.heap.size, 5, none⟩ = some (.int .i64 l) ∧ w'.cell? ⟨w3.heap.size, 6, none⟩ = some (.int .i64 c) ∧ w'.cell? ⟨w3.heap.size, 7, none⟩ = some (.int .i64 x) ∧ w'.cell? ⟨w3.heap.size, 8, none⟩ = some (.bool (!b)) ∧ w'.cell? ⟨w3.heap.size, 9, none⟩ = some (.slice A es.length cA) ∧ w'.cell? ⟨w3.heap.size, 10, none⟩ = some (.int .i64 si) ∧ w'.cell? ⟨w3.heap.size, 11, none⟩ = some (.int .i64 st) ∧ w'.cell? ⟨w3.heap.size, 12, none⟩ = some (.slice E sd.length cE)))) (by kernel_rfl) hS0 (fun hHeld => ?_)
    change wpAnyH _ _ _ _ _ 12 #[false, false, false, false, false, false, false, false, false, false, false, false] _ _
    refine wpAnyH_take (i := 0) (oi := { dst := some 54, op := Go.Op.load 27 (Go.Operand.tmp 3), type := 27, pos := "law.go:82", after := #[], guard := none }) (v := ?_) rfl (by kernel_rfl) (by kernel_rfl) (by kernel_rfl) (fun _ _ _ h => h) (Or.inl ⟨by rfl, ?_⟩) (by assumption) ?_
    rotate_left
    · ((intro w hSw; (try dsimp only at hSw); go_simp); (try with_reducible rfl))
    try simp only [Act.put, List.setIfInBounds_toArray, List.set_cons_zero, List.set_cons_succ]
    refine wpAnyH_ready (rs := [1]) (by kernel_rfl) (by simp) ?_
    refine AllReadyH.cons (o := { dst := some 55, op := Go.Op.call { callee := Go.Callee.value (Go.Operand.func 9), args := #[Go.Operand.tmp 54], argTypes := #[27] }, type := 30, pos := "law.go:82", after := #[{ on := 0, ground := Go.Ground.data }], guard := none }) rfl (fun KK hK => ?_) AllReadyH.nil
    go_simp
    refine (hT k f o t i l c x b si st _).mono ?_
    rintro e y1 ⟨rfl, hb21⟩
    have hS7 := hst _ y1 hHeld.1 hb21
    refine hK.out _ _ hS7 (fun hHeld2 => ?_)
    clear hK KK hHeld
    have hHeld := hHeld2
    clear hHeld2
    try simp only [Act.put, List.setIfInBounds_toArray, List.set_cons_zero, List.set_cons_succ]
    refine wpAnyH_ready (rs := [2]) (by kernel_rfl) (by simp) ?_
    refine AllReadyH.cons (o := { dst := some 56, op := Go.Op.call { callee := Go.Callee.value (Go.Operand.func 10), args := #[Go.Operand.tmp 55], argTypes := #[30] }, type := 4, pos := "law.go:82", after := #[{ on := 1, ground := Go.Ground.data }, { on := 1, ground := Go.Ground.chain }], guard := none }) rfl (fun KK hK => ?_) AllReadyH.nil
    go_simp
    refine (hRP _ (hup _ hHeld.1)).mono ?_
    rintro e y2 ⟨rfl, hb22⟩
    have hS7 := hst _ y2 hHeld.1 hb22
    refine hK.out _ _ hS7 (fun hHeld2 => ?_)
    clear hK KK hHeld
    have hHeld := hHeld2
    clear hHeld2
    try simp only [Act.put, List.setIfInBounds_toArray, List.set_cons_zero, List.set_cons_succ]
    refine wpAnyH_take (i := 3) (oi := { dst := some 57, op := Go.Op.move (Go.Operand.tmp 56), type := 4, pos := "law.go:82", after := #[{ on := 2, ground := Go.Ground.data }, { on := 2, ground := Go.Ground.chain }], guard := none }) (v := ?_) rfl (by kernel_rfl) (by kernel_rfl) (by kernel_rfl) (fun _ _ _ h => h) (Or.inl ⟨by rfl, ?_⟩) (by assumption) ?_
    rotate_left
    · ((intro w hSw; (try dsimp only at hSw); go_simp); (try with_reducible rfl))
    try simp only [Act.put, List.setIfInBounds_toArray, List.set_cons_zero, List.set_cons_succ]
    refine wpAnyH_take (i := 4) (oi := { dst := some 58, op := Go.Op.load 27 (Go.Operand.tmp 7), type := 27, pos := "law.go:82", after := #[{ on := 3, ground := Go.Ground.guard }], guard := some (3, true) }) (v := ?_) rfl (by kernel_rfl) (by kernel_rfl) (by kernel_rfl) (fun _ _ _ h => h) (Or.inl ⟨by rfl, ?_⟩) (by assumption) ?_
    rotate_left
    · ((intro w hSw; (try dsimp only at hSw); go_simp); (try with_reducible rfl))
    try simp only [Act.put, List.setIfInBounds_toArray, List.set_cons_zero, List.set_cons_succ]
    refine wpAnyH_take (i := 7) (oi := { dst := some 61, op := Go.Op.load 27 (Go.Operand.tmp 7), type := 27, pos := "law.go:82", after := #[{ on := 3, ground := Go.Ground.guard }], guard := some (3, true) }) (v := ?_) rfl (by kernel_rfl) (by kernel_rfl) (by kernel_rfl) (fun _ _ _ h => h) (Or.inl ⟨by rfl, ?_⟩) (by assumption) ?_
    rotate_left
    · ((intro w hSw; (try dsimp only at hSw); go_simp); (try with_reducible rfl))
    try simp only [Act.put, List.setIfInBounds_toArray, List.set_cons_zero, List.set_cons_succ]
    refine wpAnyH_ready (rs := [5]) (by kernel_rfl) (by simp) ?_
    refine AllReadyH.cons (o := { dst := some 59, op := Go.Op.call { callee := Go.Callee.value (Go.Operand.func 9), args := #[Go.Operand.tmp 58], argTypes := #[27] }, type := 30, pos := "law.go:82", after := #[{ on := 4, ground := Go.Ground.data }, { on := 3, ground := Go.Ground.chain }, { on := 3, ground := Go.Ground.guard }], guard := some (3, true) }) rfl (fun KK hK => ?_) AllReadyH.nil
    go_simp
    refine (hT k f o t i l c x (!b) si st _).mono ?_
    rintro e y5 ⟨rfl, hb25⟩
    have hS7 := hst _ y5 hHeld.1 hb25
    refine hK.out _ _ hS7 (fun hHeld2 => ?_)
    clear hK KK hHeld
    have hHeld := hHeld2
    clear hHeld2
    try simp only [Act.put, List.setIfInBounds_toArray, List.set_cons_zero, List.set_cons_succ]
    refine wpAnyH_ready (rs := [6]) (by kernel_rfl) (by simp) ?_
    refine AllReadyH.cons (o := { dst := some 60, op := Go.Op.call { callee := Go.Callee.value (Go.Operand.func 10), args := #[Go.Operand.tmp 59], argTypes := #[30] }, type := 4, pos := "law.go:82", after := #[{ on := 5, ground := Go.Ground.data }, { on := 5, ground := Go.Ground.chain }, { on := 3, ground := Go.Ground.guard }], guard := some (3, true) }) rfl (fun KK hK => ?_) AllReadyH.nil
    go_simp
    refine (hXP _ (hup _ hHeld.1)).mono ?_
    rintro e y6 ⟨rfl, hb26⟩
    have hS7 := hst _ y6 hHeld.1 hb26
    refine hK.out _ _ hS7 (fun hHeld2 => ?_)
    clear hK KK hHeld
    have hHeld := hHeld2
    clear hHeld2
    try simp only [Act.put, List.setIfInBounds_toArray, List.set_cons_zero, List.set_cons_succ]
    refine wpAnyH_ready (rs := [8]) (by kernel_rfl) (by simp) ?_
    refine AllReadyH.cons (o := { dst := some 62, op := Go.Op.call { callee := Go.Callee.value (Go.Operand.func 11), args := #[Go.Operand.tmp 61], argTypes := #[27] }, type := 4, pos := "law.go:82", after := #[{ on := 7, ground := Go.Ground.data }, { on := 6, ground := Go.Ground.chain }, { on := 3, ground := Go.Ground.guard }], guard := some (3, true) }) rfl (fun KK hK => ?_) AllReadyH.nil
    go_simp
    refine (hXR _ (hup _ hHeld.1)).mono ?_
    rintro e y8 ⟨rfl, hb28⟩
    have hS7 := hst _ y8 hHeld.1 hb28
    refine hK.out _ _ hS7 (fun hHeld2 => ?_)
    clear hK KK hHeld
    have hHeld := hHeld2
    clear hHeld2
    try simp only [Act.put, List.setIfInBounds_toArray, List.set_cons_zero, List.set_cons_succ]
    refine wpAnyH_take (i := 9) (oi := { dst := some 63, op := Go.Op.binOp Go.BinOp.eql 4 (Go.Operand.tmp 60) (Go.Operand.tmp 62) 4, type := 4, pos := "law.go:82", after := #[{ on := 6, ground := Go.Ground.data }, { on := 8, ground := Go.Ground.data }, { on := 3, ground := Go.Ground.guard }], guard := some (3, true) }) (v := ?_) rfl (by kernel_rfl) (by kernel_rfl) (by kernel_rfl) (fun _ _ _ h => h) (Or.inl ⟨by rfl, ?_⟩) (by assumption) ?_
    rotate_left
    · ((intro w hSw; (try dsimp only at hSw); go_simp); (try with_reducible rfl))
    try simp only [Act.put, List.setIfInBounds_toArray, List.set_cons_zero, List.set_cons_succ]
    refine wpAnyH_take (i := 10) (oi := { dst := some 64, op := Go.Op.pick (Go.Operand.tmp 57) (Go.Operand.tmp 63) (Go.Operand.const (Go.Value.bool false)), type := 4, pos := "law.go:82", after := #[{ on := 3, ground := Go.Ground.data }, { on := 9, ground := Go.Ground.data }], guard := none }) (v := ?_) rfl (by kernel_rfl) (by kernel_rfl) (by kernel_rfl) (fun _ _ _ h => h) (Or.inl ⟨by rfl, ?_⟩) (by assumption) ?_
    rotate_left
    · ((intro w hSw; (try dsimp only at hSw); go_simp); (try with_reducible rfl))
    try simp only [Act.put, List.setIfInBounds_toArray, List.set_cons_zero, List.set_cons_succ]
    refine wpAnyH_take (i := 11) (oi := { dst := some 6, op := Go.Op.assign (Go.Operand.tmp 64), type := 4, pos := "law.go:82", after := #[{ on := 10, ground := Go.Ground.data }, { on := 8, ground := Go.Ground.chain }, { on := 0, ground := Go.Ground.phase }, { on := 1, ground := Go.Ground.phase }, { on := 2, ground := Go.Ground.phase }, { on := 3, ground := Go.Ground.phase }, { on := 4, ground := Go.Ground.phase }, { on := 5, ground := Go.Ground.phase }, { on := 6, ground := Go.Ground.phase }, { on := 7, ground := Go.Ground.phase }, { on := 8, ground := Go.Ground.phase }, { on := 9, ground := Go.Ground.phase }, { on := 10, ground := Go.Ground.phase }], guard := none }) (v := ?_) rfl (by kernel_rfl) (by kernel_rfl) (by kernel_rfl) (fun _ _ _ h => h) (Or.inl ⟨by rfl, ?_⟩) (by assumption) ?_
    rotate_left
    · ((intro w hSw; (try dsimp only at hSw); go_simp); (try with_reducible rfl))
    try simp only [Act.put, List.setIfInBounds_toArray, List.set_cons_zero, List.set_cons_succ]
    refine wpAnyH_done (by kernel_rfl) ?_ _
    go_wp2
    go_ret
    exact ⟨rfl, hup _ hHeld.1⟩
  · have g0 : ((z : Int) % 6 == 0) = false := beq_eq_false_iff_ne.2 (by omega)
    have f0 : ((z : Int) % 6 = 0) = False := eq_false (by omega)
    have g1 : ((z : Int) % 6 == 1) = false := beq_eq_false_iff_ne.2 (by omega)
    have f1 : ((z : Int) % 6 = 1) = False := eq_false (by omega)
    have g2 : ((z : Int) % 6 == 2) = false := beq_eq_false_iff_ne.2 (by omega)
    have f2 : ((z : Int) % 6 = 2) = False := eq_false (by omega)
    have g3 : ((z : Int) % 6 == 3) = false := beq_eq_false_iff_ne.2 (by omega)
    have f3 : ((z : Int) % 6 = 3) = False := eq_false (by omega)
    have g4 : ((z : Int) % 6 == 4) = false := beq_eq_false_iff_ne.2 (by omega)
    have f4 : ((z : Int) % 6 = 4) = False := eq_false (by omega)
    have hXP := hXP ⟨k, f, o, t, i, l, c, x, b, es, ⟨1, 1, sd⟩⟩ rfl rfl
    have hXR := hXR ⟨k, f, o, t, i, l, c, x, b, es, ⟨1, 1, sd⟩⟩ rfl rfl
    generalize rightM ⟨k, f, o, t, i, l, c, x, b, es, ⟨1, 1, sd⟩⟩ = q at *
    dsimp only at hXP hXR
    have hA : Below w3.heap.size w3 (w3.alloc (.cells (mC k f o t i l c x b A es.length cA 1 1 E sd.length cE) 27)) := (Below.refl _ _).alloc (Nat.le_refl _) _
    have r2 := heap_alloc_new w3 (.cells (mC k f o t i l c x b A es.length cA 1 1 E sd.length cE) 27)
    have r1 := (hA.block _ (hlt hr1)).trans hr1
    have hbw4 := hbw3.trans (hA.mono hbw3.size)
    clear h6 hA
    go_upto_region 16 with fail
    generalize w3.alloc (.cells (mC k f o t i l c x b A es.length cA 1 1 E sd.length cE) 27) = w4 at *
    have hst : ∀ W W', Below w4.heap.size w4 W → Below W.heap.size W W' → (fun w' => Below w4.heap.size w4 w' ∧ (w'.cell? ⟨w.heap.size, 0, none⟩ = some (.int .i64 k) ∧ w'.cell? ⟨w.heap.size, 1, none⟩ = some (.int .i64 f) ∧ w'.cell? ⟨w.heap.size, 2, none⟩ = some (.int .i64 o) ∧ w'.cell? ⟨w.heap.size, 3, none⟩ = some (.int .i64 t) ∧ w'.cell? ⟨w.heap.size, 4, none⟩ = some (.int .i64 i) ∧ w'.cell? ⟨w.heap.size, 5, none⟩ = some (.int .i64 l) ∧ w'.cell? ⟨w.heap.size, 6, none⟩ = some (.int .i64 c) ∧ w'.cell? ⟨w.heap.size, 7, none⟩ = some (.int .i64 x) ∧ w'.cell? ⟨w.heap.size, 8, none⟩ = some (.bool b) ∧ w'.cell? ⟨w.heap.size, 9, none⟩ = some (.slice A es.length cA) ∧ w'.cell? ⟨w.heap.size, 10, none⟩ = some (.int .i64 si) ∧ w'.cell? ⟨w.heap.size, 11, none⟩ = some (.int .i64 st) ∧ w'.cell? ⟨w.heap.size, 12, none⟩ = some (.slice E sd.length cE)) ∧ (w'.cell? ⟨w3.heap.size, 0, none⟩ = some (.int .i64 k) ∧ w'.cell? ⟨w3.heap.size, 1, none⟩ = some (.int .i64 f) ∧ w'.cell? ⟨w3.heap.size, 2, none⟩ = some (.int .i64 o) ∧ w'.cell? ⟨w3.heap.size, 3, none⟩ = some (.int .i64 t) ∧ w'.cell? ⟨w3.heap.size, 4, none⟩ = some (.int .i64 i) ∧ w'.cell? ⟨w3.heap.size, 5, none⟩ = some (.int .i64 l) ∧ w'.cell? ⟨w3.heap.size, 6, none⟩ = some (.int .i64 c) ∧ w'.cell? ⟨w3.heap.size, 7, none⟩ = some (.int .i64 x) ∧ w'.cell? ⟨w3.heap.size, 8, none⟩ = some (.bool b) ∧ w'.cell? ⟨w3.heap.size, 9, none⟩ = some (.slice A es.length cA) ∧ w'.cell? ⟨w3.heap.size, 10, none⟩ = some (.int .i64 1) ∧ w'.cell? ⟨w3.heap.size, 11, none⟩ = some (.int .i64 1) ∧ w'.cell? ⟨w3.heap.size, 12, none⟩ = some (.slice E sd.length cE))) W' := fun W W' h1 h2 => by
      have h3 := h1.trans (h2.mono h1.size)
      exact ⟨h3, (row13 ((h3.block _ (hlt r1)).trans r1)).1, (row13 ((h3.block _ (hlt r2)).trans r2)).1⟩
    have hup := fun W (hW : Below w4.heap.size w4 W) => hbw4.trans (hW.mono hbw4.size)
    have hS0 : (fun w' => Below w4.heap.size w4 w' ∧ (w'.cell? ⟨w.heap.size, 0, none⟩ = some (.int .i64 k) ∧ w'.cell? ⟨w.heap.size, 1, none⟩ = some (.int .i64 f) ∧ w'.cell? ⟨w.heap.size, 2, none⟩ = some (.int .i64 o) ∧ w'.cell? ⟨w.heap.size, 3, none⟩ = some (.int .i64 t) ∧ w'.cell? ⟨w.heap.size, 4, none⟩ = some (.int .i64 i) ∧ w'.cell? ⟨w.heap.size, 5, none⟩ = some (.int .i64 l) ∧ w'.cell? ⟨w.heap.size, 6, none⟩ = some (.int .i64 c) ∧ w'.cell? ⟨w.heap.size, 7, none⟩ = some (.int .i64 x) ∧ w'.cell? ⟨w.heap.size, 8, none⟩ = some (.bool b) ∧ w'.cell? ⟨w.heap.size, 9, none⟩ = some (.slice A es.length cA) ∧ w'.cell? ⟨w.heap.size, 10, none⟩ = some (.int .i64 si) ∧ w'.cell? ⟨w.heap.size, 11, none⟩ = some (.int .i64 st) ∧ w'.cell? ⟨w.heap.size, 12, none⟩ = some (.slice E sd.length cE)) ∧ (w'.cell? ⟨w3.heap.size, 0, none⟩ = some (.int .i64 k) ∧ w'.cell? ⟨w3.heap.size, 1, none⟩ = some (.int .i64 f) ∧ w'.cell? ⟨w3.heap.size, 2, none⟩ = some (.int .i64 o) ∧ w'.cell? ⟨w3.heap.size, 3, none⟩ = some (.int .i64 t) ∧ w'.cell? ⟨w3.heap.size, 4, none⟩ = some (.int .i64 i) ∧ w'.cell? ⟨w3.heap.size, 5, none⟩ = some (.int .i64 l) ∧ w'.cell? ⟨w3.heap.size, 6, none⟩ = some (.int .i64 c) ∧ w'.cell? ⟨w3.heap.size, 7, none⟩ = some (.int .i64 x) ∧ w'.cell? ⟨w3.heap.size, 8, none⟩ = some (.bool b) ∧ w'.cell? ⟨w3.heap.size, 9, none⟩ = some (.slice A es.length cA) ∧ w'.cell? ⟨w3.heap.size, 10, none⟩ = some (.int .i64 1) ∧ w'.cell? ⟨w3.heap.size, 11, none⟩ = some (.int .i64 1) ∧ w'.cell? ⟨w3.heap.size, 12, none⟩ = some (.slice E sd.length cE))) w4.drew := by
      have h := hst w4 w4 (Below.refl _ _) (Below.refl _ _)
      exact ⟨(Below.refl _ _).drew, h.2⟩
    refine wp_region_held_drew (S := (fun w' => Below w4.heap.size w4 w' ∧ (w'.cell? ⟨w.heap.size, 0, none⟩ = some (.int .i64 k) ∧ w'.cell? ⟨w.heap.size, 1, none⟩ = some (.int .i64 f) ∧ w'.cell? ⟨w.heap.size, 2, none⟩ = some (.int .i64 o) ∧ w'.cell? ⟨w.heap.size, 3, none⟩ = some (.int .i64 t) ∧ w'.cell? ⟨w.heap.size, 4, none⟩ = some (.int .i64 i) ∧ w'.cell? ⟨w.heap.size, 5, none⟩ = some (.int .i64 l) ∧ w'.cell? ⟨w.heap.size, 6, none⟩ = some (.int .i64 c) ∧ w'.cell? ⟨w.heap.size, 7, none⟩ = some (.int .i64 x) ∧ w'.cell? ⟨w.heap.size, 8, none⟩ = some (.bool b) ∧ w'.cell? ⟨w.heap.size, 9, none⟩ = some (.slice A es.length cA) ∧ w'.cell? ⟨w.heap.size, 10, none⟩ = some (.int .i64 si) ∧ w'.cell? ⟨w.heap.size, 11, none⟩ = some (.int .i64 st) ∧ w'.cell? ⟨w.heap.size, 12, none⟩ = some (.slice E sd.length cE)) ∧ (w'.cell? ⟨w3.heap.size, 0, none⟩ = some (.int .i64 k) ∧ w'.cell? ⟨w3.heap.size, 1, none⟩ = some (.int .i64 f) ∧ w'.cell? ⟨w3.heap.size, 2, none⟩ = some (.int .i64 o) ∧ w'.cell? ⟨w3.heap.size, 3, none⟩ = some (.int .i64 t) ∧ w'.cell? ⟨w3.heap.size, 4, none⟩ = some (.int .i64 i) ∧ w'.cell? ⟨w3.heap.size, 5, none⟩ = some (.int .i64 l) ∧ w'.cell? ⟨w3.heap.size, 6, none⟩ = some (.int .i64 c) ∧ w'.cell? ⟨w3.heap.size, 7, none⟩ = some (.int .i64 x) ∧ w'.cell? ⟨w3.heap.size, 8, none⟩ = some (.bool b) ∧ w'.cell? ⟨w3.heap.size, 9, none⟩ = some (.slice A es.length cA) ∧ w'.cell? ⟨w3.heap.size, 10, none⟩ = some (.int .i64 1) ∧ w'.cell? ⟨w3.heap.size, 11, none⟩ = some (.int .i64 1) ∧ w'.cell? ⟨w3.heap.size, 12, none⟩ = some (.slice E sd.length cE)))) (by kernel_rfl) hS0 (fun hHeld => ?_)
    change wpAnyH _ _ _ _ _ 12 #[false, false, false, false, false, false, false, false, false, false, false, false] _ _
    refine wpAnyH_take (i := 0) (oi := { dst := some 54, op := Go.Op.load 27 (Go.Operand.tmp 3), type := 27, pos := "law.go:82", after := #[], guard := none }) (v := ?_) rfl (by kernel_rfl) (by kernel_rfl) (by kernel_rfl) (fun _ _ _ h => h) (Or.inl ⟨by rfl, ?_⟩) (by assumption) ?_
    rotate_left
    · ((intro w hSw; (try dsimp only at hSw); go_simp); (try with_reducible rfl))
    try simp only [Act.put, List.setIfInBounds_toArray, List.set_cons_zero, List.set_cons_succ]
    refine wpAnyH_ready (rs := [1]) (by kernel_rfl) (by simp) ?_
    refine AllReadyH.cons (o := { dst := some 55, op := Go.Op.call { callee := Go.Callee.value (Go.Operand.func 9), args := #[Go.Operand.tmp 54], argTypes := #[27] }, type := 30, pos := "law.go:82", after := #[{ on := 0, ground := Go.Ground.data }], guard := none }) rfl (fun KK hK => ?_) AllReadyH.nil
    go_simp
    refine (hT k f o t i l c x b si st _).mono ?_
    rintro e y1 ⟨rfl, hb21⟩
    have hS7 := hst _ y1 hHeld.1 hb21
    refine hK.out _ _ hS7 (fun hHeld2 => ?_)
    clear hK KK hHeld
    have hHeld := hHeld2
    clear hHeld2
    try simp only [Act.put, List.setIfInBounds_toArray, List.set_cons_zero, List.set_cons_succ]
    refine wpAnyH_ready (rs := [2]) (by kernel_rfl) (by simp) ?_
    refine AllReadyH.cons (o := { dst := some 56, op := Go.Op.call { callee := Go.Callee.value (Go.Operand.func 10), args := #[Go.Operand.tmp 55], argTypes := #[30] }, type := 4, pos := "law.go:82", after := #[{ on := 1, ground := Go.Ground.data }, { on := 1, ground := Go.Ground.chain }], guard := none }) rfl (fun KK hK => ?_) AllReadyH.nil
    go_simp
    refine (hRP _ (hup _ hHeld.1)).mono ?_
    rintro e y2 ⟨rfl, hb22⟩
    have hS7 := hst _ y2 hHeld.1 hb22
    refine hK.out _ _ hS7 (fun hHeld2 => ?_)
    clear hK KK hHeld
    have hHeld := hHeld2
    clear hHeld2
    try simp only [Act.put, List.setIfInBounds_toArray, List.set_cons_zero, List.set_cons_succ]
    refine wpAnyH_take (i := 3) (oi := { dst := some 57, op := Go.Op.move (Go.Operand.tmp 56), type := 4, pos := "law.go:82", after := #[{ on := 2, ground := Go.Ground.data }, { on := 2, ground := Go.Ground.chain }], guard := none }) (v := ?_) rfl (by kernel_rfl) (by kernel_rfl) (by kernel_rfl) (fun _ _ _ h => h) (Or.inl ⟨by rfl, ?_⟩) (by assumption) ?_
    rotate_left
    · ((intro w hSw; (try dsimp only at hSw); go_simp); (try with_reducible rfl))
    try simp only [Act.put, List.setIfInBounds_toArray, List.set_cons_zero, List.set_cons_succ]
    refine wpAnyH_take (i := 4) (oi := { dst := some 58, op := Go.Op.load 27 (Go.Operand.tmp 7), type := 27, pos := "law.go:82", after := #[{ on := 3, ground := Go.Ground.guard }], guard := some (3, true) }) (v := ?_) rfl (by kernel_rfl) (by kernel_rfl) (by kernel_rfl) (fun _ _ _ h => h) (Or.inl ⟨by rfl, ?_⟩) (by assumption) ?_
    rotate_left
    · ((intro w hSw; (try dsimp only at hSw); go_simp); (try with_reducible rfl))
    try simp only [Act.put, List.setIfInBounds_toArray, List.set_cons_zero, List.set_cons_succ]
    refine wpAnyH_take (i := 7) (oi := { dst := some 61, op := Go.Op.load 27 (Go.Operand.tmp 7), type := 27, pos := "law.go:82", after := #[{ on := 3, ground := Go.Ground.guard }], guard := some (3, true) }) (v := ?_) rfl (by kernel_rfl) (by kernel_rfl) (by kernel_rfl) (fun _ _ _ h => h) (Or.inl ⟨by rfl, ?_⟩) (by assumption) ?_
    rotate_left
    · ((intro w hSw; (try dsimp only at hSw); go_simp); (try with_reducible rfl))
    try simp only [Act.put, List.setIfInBounds_toArray, List.set_cons_zero, List.set_cons_succ]
    refine wpAnyH_ready (rs := [5]) (by kernel_rfl) (by simp) ?_
    refine AllReadyH.cons (o := { dst := some 59, op := Go.Op.call { callee := Go.Callee.value (Go.Operand.func 9), args := #[Go.Operand.tmp 58], argTypes := #[27] }, type := 30, pos := "law.go:82", after := #[{ on := 4, ground := Go.Ground.data }, { on := 3, ground := Go.Ground.chain }, { on := 3, ground := Go.Ground.guard }], guard := some (3, true) }) rfl (fun KK hK => ?_) AllReadyH.nil
    go_simp
    refine (hT k f o t i l c x b 1 1 _).mono ?_
    rintro e y5 ⟨rfl, hb25⟩
    have hS7 := hst _ y5 hHeld.1 hb25
    refine hK.out _ _ hS7 (fun hHeld2 => ?_)
    clear hK KK hHeld
    have hHeld := hHeld2
    clear hHeld2
    try simp only [Act.put, List.setIfInBounds_toArray, List.set_cons_zero, List.set_cons_succ]
    refine wpAnyH_ready (rs := [6]) (by kernel_rfl) (by simp) ?_
    refine AllReadyH.cons (o := { dst := some 60, op := Go.Op.call { callee := Go.Callee.value (Go.Operand.func 10), args := #[Go.Operand.tmp 59], argTypes := #[30] }, type := 4, pos := "law.go:82", after := #[{ on := 5, ground := Go.Ground.data }, { on := 5, ground := Go.Ground.chain }, { on := 3, ground := Go.Ground.guard }], guard := some (3, true) }) rfl (fun KK hK => ?_) AllReadyH.nil
    go_simp
    refine (hXP _ (hup _ hHeld.1)).mono ?_
    rintro e y6 ⟨rfl, hb26⟩
    have hS7 := hst _ y6 hHeld.1 hb26
    refine hK.out _ _ hS7 (fun hHeld2 => ?_)
    clear hK KK hHeld
    have hHeld := hHeld2
    clear hHeld2
    try simp only [Act.put, List.setIfInBounds_toArray, List.set_cons_zero, List.set_cons_succ]
    refine wpAnyH_ready (rs := [8]) (by kernel_rfl) (by simp) ?_
    refine AllReadyH.cons (o := { dst := some 62, op := Go.Op.call { callee := Go.Callee.value (Go.Operand.func 11), args := #[Go.Operand.tmp 61], argTypes := #[27] }, type := 4, pos := "law.go:82", after := #[{ on := 7, ground := Go.Ground.data }, { on := 6, ground := Go.Ground.chain }, { on := 3, ground := Go.Ground.guard }], guard := some (3, true) }) rfl (fun KK hK => ?_) AllReadyH.nil
    go_simp
    refine (hXR _ (hup _ hHeld.1)).mono ?_
    rintro e y8 ⟨rfl, hb28⟩
    have hS7 := hst _ y8 hHeld.1 hb28
    refine hK.out _ _ hS7 (fun hHeld2 => ?_)
    clear hK KK hHeld
    have hHeld := hHeld2
    clear hHeld2
    try simp only [Act.put, List.setIfInBounds_toArray, List.set_cons_zero, List.set_cons_succ]
    refine wpAnyH_take (i := 9) (oi := { dst := some 63, op := Go.Op.binOp Go.BinOp.eql 4 (Go.Operand.tmp 60) (Go.Operand.tmp 62) 4, type := 4, pos := "law.go:82", after := #[{ on := 6, ground := Go.Ground.data }, { on := 8, ground := Go.Ground.data }, { on := 3, ground := Go.Ground.guard }], guard := some (3, true) }) (v := ?_) rfl (by kernel_rfl) (by kernel_rfl) (by kernel_rfl) (fun _ _ _ h => h) (Or.inl ⟨by rfl, ?_⟩) (by assumption) ?_
    rotate_left
    · ((intro w hSw; (try dsimp only at hSw); go_simp); (try with_reducible rfl))
    try simp only [Act.put, List.setIfInBounds_toArray, List.set_cons_zero, List.set_cons_succ]
    refine wpAnyH_take (i := 10) (oi := { dst := some 64, op := Go.Op.pick (Go.Operand.tmp 57) (Go.Operand.tmp 63) (Go.Operand.const (Go.Value.bool false)), type := 4, pos := "law.go:82", after := #[{ on := 3, ground := Go.Ground.data }, { on := 9, ground := Go.Ground.data }], guard := none }) (v := ?_) rfl (by kernel_rfl) (by kernel_rfl) (by kernel_rfl) (fun _ _ _ h => h) (Or.inl ⟨by rfl, ?_⟩) (by assumption) ?_
    rotate_left
    · ((intro w hSw; (try dsimp only at hSw); go_simp); (try with_reducible rfl))
    try simp only [Act.put, List.setIfInBounds_toArray, List.set_cons_zero, List.set_cons_succ]
    refine wpAnyH_take (i := 11) (oi := { dst := some 6, op := Go.Op.assign (Go.Operand.tmp 64), type := 4, pos := "law.go:82", after := #[{ on := 10, ground := Go.Ground.data }, { on := 8, ground := Go.Ground.chain }, { on := 0, ground := Go.Ground.phase }, { on := 1, ground := Go.Ground.phase }, { on := 2, ground := Go.Ground.phase }, { on := 3, ground := Go.Ground.phase }, { on := 4, ground := Go.Ground.phase }, { on := 5, ground := Go.Ground.phase }, { on := 6, ground := Go.Ground.phase }, { on := 7, ground := Go.Ground.phase }, { on := 8, ground := Go.Ground.phase }, { on := 9, ground := Go.Ground.phase }, { on := 10, ground := Go.Ground.phase }], guard := none }) (v := ?_) rfl (by kernel_rfl) (by kernel_rfl) (by kernel_rfl) (fun _ _ _ h => h) (Or.inl ⟨by rfl, ?_⟩) (by assumption) ?_
    rotate_left
    · ((intro w hSw; (try dsimp only at hSw); go_simp); (try with_reducible rfl))
    try simp only [Act.put, List.setIfInBounds_toArray, List.set_cons_zero, List.set_cons_succ]
    refine wpAnyH_done (by kernel_rfl) ?_ _
    go_wp2
    go_ret
    exact ⟨rfl, hup _ hHeld.1⟩

end Go.Proofs.Ytlojjodgoeclfaa.rmsgBare
