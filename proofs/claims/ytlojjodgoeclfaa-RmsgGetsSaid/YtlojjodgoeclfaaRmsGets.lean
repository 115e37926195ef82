/- RmsgGets' walk. -/
import Derived.Test.YtlojjodgoeclfaaRmsFrom
import Derived.Test.YtlojjodgoeclfaaRmsGetM
namespace Go.Proofs.Ytlojjodgoeclfaa.rmsgGets
open Go.ChangeShapes Go.WideShapes Go.ChangeAt Go.RowKit Go.Proofs.Ytlojjodgoeclfaa
set_option linter.unusedVariables false
set_option linter.unusedSimpArgs false

theorem walk_out (A0 : Option Addr) (len0 cap0 : Nat) (w : World) (hm0 : len0 ≤ maxLen) (hno : 5000 < len0) :
    Calls Try.prog 5 #[.slice A0 len0 cap0] w fun e w' => e = .returned (.bool true) ∧ Below w.heap.size w w' := by
  unfold maxLen at hm0
  have h1' : (5000 : Int) < (len0 : Int) := by omega
  clear hno
  go_enter Try.func5, Try.ntmps5
  go_wp2_with fail
  refine (awake_any _).mono ?_
  rintro e w1 ⟨rfl, hb1⟩
  go_wp2_with fail
  refine (awake_any _).mono ?_
  rintro e w3 ⟨rfl, hb3⟩
  go_wp2
  go_ret
  exact ⟨rfl, hb1.trans (hb3.mono hb1.size)⟩

set_option maxRecDepth 100000 in
set_option maxHeartbeats 6400000 in
theorem walk_in (A0 : Option Addr) (cap0 : Nat) (L : List UInt8) (w : World) (hb : Lies w A0 L.length cap0 L) (h0 : L.length ≤ 5000) :
    Calls Try.prog 5 #[.slice A0 L.length cap0] w fun e w' => e = .returned (.bool true) ∧ Below w.heap.size w w' := by
  have h0' : ((5000 : Int) < (L.length : Int)) = False := eq_false (by omega)
  have h0d : decide ((5000 : Int) < (L.length : Int)) = false := decide_eq_false (by omega)
  have hlT : left (some L) ≤ 140737488355328 := by show L.length ≤ _; omega
  obtain ⟨F, hF⟩ : ∃ F, fromM (some L) = F := ⟨_, rfl⟩
  have hright := fromM_right (some L)
  rw [hF] at hright
  obtain ⟨nF, hnF⟩ : ∃ x, left F.2 = x := ⟨_, rfl⟩
  obtain ⟨eF, heF⟩ : ∃ x, F.2.isNone = x := ⟨_, rfl⟩
  have hFr : ∀ W, Lies W A0 L.length cap0 L → Calls Try.prog 22 #[.agg #[.slice A0 L.length cap0, .bool false]] W fun e w' => ∃ A1 cA E cE A' cap', e = .returned (.tuple #[msgV F.1 A1 cA E cE, .agg #[.slice A' nF cap', .bool eF]]) ∧ MsgIn w' (fun k => W.heap.size ≤ k) F.1 A1 cA E cE ∧ Below W.heap.size W w' := fun W hW => by
    have := fromMR_any A0 cap0 (some L) W hlT hW
    rw [hF] at this
    unfold inv at this
    rw [hnF, heF] at this
    exact this.mono fun e w' ⟨A1, cA, E, cE, A', cap', h1, h2, _, h4⟩ => ⟨A1, cA, E, cE, A', cap', h1, h2, h4⟩
  have hGt := fun W i Z hI hZ => getM_any W i (some L) Z hI hZ hlT
  rw [hF] at hGt
  obtain ⟨FM, FS⟩ := F
  dsimp only at hFr hGt hright hnF heF
  have hright : eF = false → rightM FM = true := fun he => hright (fun hn => by rw [hn] at heF; rw [← heF] at he; cases he)
  have HNF := Lib.hid hnF
  have HEF := Lib.hid heF
  clear hnF heF
  have hSS := fun W A1 cA1 E1 cE1 A2 cA2 E2 cE2 Z Y (h1 : MsgIn W Z FM A1 cA1 E1 cE1) (h2 : MsgIn W Y FM A2 cA2 E2 cE2) => sameMR_any FM FM A1 cA1 E1 cE1 A2 cA2 E2 cE2 W Z Y h1 h2
  simp only [sameM_refl] at hSS
  have hRt := fun W A1 cA1 E1 cE1 Z (h1 : MsgIn W Z FM A1 cA1 E1 cE1) => rightMP_any FM A1 cA1 E1 cE1 W Z h1
  obtain ⟨k, f, o, t, i, l, c, x, b, es, si, st, sd⟩ := FM
  dsimp only [msgV] at hFr hGt hSS hRt
  go_enter Try.func5, Try.ntmps5
  go_wp2_with fail
  refine (awake_any _).mono ?_
  rintro e w1 ⟨rfl, hb1⟩
  have hN := newIn_any A0 L.length cap0 L w1 (· < w1.heap.size) (fun k hk => hk) (hb.below hb1 (Nat.le_refl _)) (by omega)
  clear hF
  go_wp2_with fail
  refine hN.mono ?_
  rintro e w2 ⟨iN, rfl, hI2, hb2⟩
  have hbw2 := hb1.trans (hb2.mono hb1.size)
  have hI2 : In w2 iN (some L) (fun q => q < w1.heap.size ∨ w2.heap.size ≤ q) := hI2.out fun q hq => hq
  have hG := hGt w2 iN _ hI2 (fun k hk => .inr hk)
  clear hN hGt hb2 hI2
  go_wp2_with fail
  refine hG.mono ?_
  rintro e w3 ⟨A3, cA3, E3, cE3, rfl, hM3, hI3, k3⟩
  have hbw3 := below_keeps hbw2 k3 (fun q hq => .inl (Nat.lt_of_lt_of_le hq hb1.size)) hbw2.size
  have hA := (Below.refl w3.heap.size w3).alloc (Nat.le_refl _) (.cells (mC k f o t i l c x b A3 es.length cA3 si st E3 sd.length cE3) 30)
  have r3 := heap_alloc_new w3 (.cells (mC k f o t i l c x b A3 es.length cA3 si st E3 sd.length cE3) 30)
  have hbwa := hbw3.trans (hA.mono hbw3.size)
  have hMa := hM3.below hA (Nat.le_refl _)
  have hIa := hI3.below hA (Nat.le_refl _)
  have hs3 : w3.heap.size < (w3.alloc (.cells (mC k f o t i l c x b A3 es.length cA3 si st E3 sd.length cE3) 30)).heap.size := by simp
  have hFr := hFr _ (hb.below hbwa (Nat.le_refl _))
  clear hG hM3 hI3 k3 hbw3 hA
  go_wp2_with fail
  refine hFr.mono ?_
  rintro e w4 ⟨A4, cA4, E4, cE4, A', cap', rfl, hM4, hb4⟩
  have hbw4 := hbwa.trans (hb4.mono hbwa.size)
  have r34 := (hb4.block _ (hlt r3)).trans r3
  have hM34 := hMa.below hb4 (Nat.le_refl _)
  have hI4 := hIa.below hb4 (Nat.le_refl _)
  have hs4 : w3.heap.size < w4.heap.size := hlt r34
  clear hFr hMa hIa hbwa r3 hs3 hb4
  cases eF with
  | true =>
    have hA : Below w4.heap.size w4 ((w4.alloc (.cells (mC k f o t i l c x b A4 es.length cA4 si st E4 sd.length cE4) 27)).alloc (.cells #[.slice A' nF cap', .bool true] 48)) := ((Below.refl _ _).alloc (Nat.le_refl _) _).alloc (by simp) _
    have r4 : ((w4.alloc (.cells (mC k f o t i l c x b A4 es.length cA4 si st E4 sd.length cE4) 27)).alloc (.cells #[.slice A' nF cap', .bool true] 48)).heap[w4.heap.size]? = some (.cells (mC k f o t i l c x b A4 es.length cA4 si st E4 sd.length cE4) 27) := (Below.heap_alloc _ _ _ (by simp)).trans (heap_alloc_new _ _)
    have r6 : ((w4.alloc (.cells (mC k f o t i l c x b A4 es.length cA4 si st E4 sd.length cE4) 27)).alloc (.cells #[.slice A' nF cap', .bool true] 48)).heap[w4.heap.size + 1]? = some (.cells #[.slice A' nF cap', .bool true] 48) := heap_alloc2_new _ _ _
    have r3 := (hA.block _ hs4).trans r34
    have hbw5 := hbw4.trans (hA.mono hbw4.size)
    have hMx := hM34.below hA (Nat.le_refl _)
    have hMw := hM4.below hA (Nat.le_refl _)
    have hI5 := hI4.below hA (Nat.le_refl _)
    clear hM34 hM4 hI4 r34 hbw4 hA
    go_upto_region 6 with fail
    generalize ((w4.alloc (.cells (mC k f o t i l c x b A4 es.length cA4 si st E4 sd.length cE4) 27)).alloc (.cells #[.slice A' nF cap', .bool true] 48)) = w5 at *
    have hst : ∀ W W', Below w5.heap.size w5 W → Below W.heap.size W W' → (fun w' => Below w5.heap.size w5 w' ∧ (w'.cell? ⟨w3.heap.size, 0, none⟩ = some (.int .i64 k) ∧ w'.cell? ⟨w3.heap.size, 1, none⟩ = some (.int .i64 f) ∧ w'.cell? ⟨w3.heap.size, 2, none⟩ = some (.int .i64 o) ∧ w'.cell? ⟨w3.heap.size, 3, none⟩ = some (.int .i64 t) ∧ w'.cell? ⟨w3.heap.size, 4, none⟩ = some (.int .i64 i) ∧ w'.cell? ⟨w3.heap.size, 5, none⟩ = some (.int .i64 l) ∧ w'.cell? ⟨w3.heap.size, 6, none⟩ = some (.int .i64 c) ∧ w'.cell? ⟨w3.heap.size, 7, none⟩ = some (.int .i64 x) ∧ w'.cell? ⟨w3.heap.size, 8, none⟩ = some (.bool b) ∧ w'.cell? ⟨w3.heap.size, 9, none⟩ = some (.slice A3 es.length cA3) ∧ w'.cell? ⟨w3.heap.size, 10, none⟩ = some (.int .i64 si) ∧ w'.cell? ⟨w3.heap.size, 11, none⟩ = some (.int .i64 st) ∧ w'.cell? ⟨w3.heap.size, 12, none⟩ = some (.slice E3 sd.length cE3)) ∧ (w'.cell? ⟨w4.heap.size, 0, none⟩ = some (.int .i64 k) ∧ w'.cell? ⟨w4.heap.size, 1, none⟩ = some (.int .i64 f) ∧ w'.cell? ⟨w4.heap.size, 2, none⟩ = some (.int .i64 o) ∧ w'.cell? ⟨w4.heap.size, 3, none⟩ = some (.int .i64 t) ∧ w'.cell? ⟨w4.heap.size, 4, none⟩ = some (.int .i64 i) ∧ w'.cell? ⟨w4.heap.size, 5, none⟩ = some (.int .i64 l) ∧ w'.cell? ⟨w4.heap.size, 6, none⟩ = some (.int .i64 c) ∧ w'.cell? ⟨w4.heap.size, 7, none⟩ = some (.int .i64 x) ∧ w'.cell? ⟨w4.heap.size, 8, none⟩ = some (.bool b) ∧ w'.cell? ⟨w4.heap.size, 9, none⟩ = some (.slice A4 es.length cA4) ∧ w'.cell? ⟨w4.heap.size, 10, none⟩ = some (.int .i64 si) ∧ w'.cell? ⟨w4.heap.size, 11, none⟩ = some (.int .i64 st) ∧ w'.cell? ⟨w4.heap.size, 12, none⟩ = some (.slice E4 sd.length cE4)) ∧ (w'.cell? ⟨w4.heap.size + 1, 0, none⟩ = some (.slice A' nF cap') ∧ w'.cell? ⟨w4.heap.size + 1, 1, none⟩ = some (.bool true))) W' := fun W W' h1 h2 => by
      have h3 := h1.trans (h2.mono h1.size)
      exact ⟨h3, (row13 ((h3.block _ (hlt r3)).trans r3)).1, (row13 ((h3.block _ (hlt r4)).trans r4)).1, (row2 ((h3.block _ (hlt r6)).trans r6)).1⟩
    have hup := fun W (hW : Below w5.heap.size w5 W) => hbw5.trans (hW.mono hbw5.size)
    have hS0 : (fun w' => Below w5.heap.size w5 w' ∧ (w'.cell? ⟨w3.heap.size, 0, none⟩ = some (.int .i64 k) ∧ w'.cell? ⟨w3.heap.size, 1, none⟩ = some (.int .i64 f) ∧ w'.cell? ⟨w3.heap.size, 2, none⟩ = some (.int .i64 o) ∧ w'.cell? ⟨w3.heap.size, 3, none⟩ = some (.int .i64 t) ∧ w'.cell? ⟨w3.heap.size, 4, none⟩ = some (.int .i64 i) ∧ w'.cell? ⟨w3.heap.size, 5, none⟩ = some (.int .i64 l) ∧ w'.cell? ⟨w3.heap.size, 6, none⟩ = some (.int .i64 c) ∧ w'.cell? ⟨w3.heap.size, 7, none⟩ = some (.int .i64 x) ∧ w'.cell? ⟨w3.heap.size, 8, none⟩ = some (.bool b) ∧ w'.cell? ⟨w3.heap.size, 9, none⟩ = some (.slice A3 es.length cA3) ∧ w'.cell? ⟨w3.heap.size, 10, none⟩ = some (.int .i64 si) ∧ w'.cell? ⟨w3.heap.size, 11, none⟩ = some (.int .i64 st) ∧ w'.cell? ⟨w3.heap.size, 12, none⟩ = some (.slice E3 sd.length cE3)) ∧ (w'.cell? ⟨w4.heap.size, 0, none⟩ = some (.int .i64 k) ∧ w'.cell? ⟨w4.heap.size, 1, none⟩ = some (.int .i64 f) ∧ w'.cell? ⟨w4.heap.size, 2, none⟩ = some (.int .i64 o) ∧ w'.cell? ⟨w4.heap.size, 3, none⟩ = some (.int .i64 t) ∧ w'.cell? ⟨w4.heap.size, 4, none⟩ = some (.int .i64 i) ∧ w'.cell? ⟨w4.heap.size, 5, none⟩ = some (.int .i64 l) ∧ w'.cell? ⟨w4.heap.size, 6, none⟩ = some (.int .i64 c) ∧ w'.cell? ⟨w4.heap.size, 7, none⟩ = some (.int .i64 x) ∧ w'.cell? ⟨w4.heap.size, 8, none⟩ = some (.bool b) ∧ w'.cell? ⟨w4.heap.size, 9, none⟩ = some (.slice A4 es.length cA4) ∧ w'.cell? ⟨w4.heap.size, 10, none⟩ = some (.int .i64 si) ∧ w'.cell? ⟨w4.heap.size, 11, none⟩ = some (.int .i64 st) ∧ w'.cell? ⟨w4.heap.size, 12, none⟩ = some (.slice E4 sd.length cE4)) ∧ (w'.cell? ⟨w4.heap.size + 1, 0, none⟩ = some (.slice A' nF cap') ∧ w'.cell? ⟨w4.heap.size + 1, 1, none⟩ = some (.bool true))) w5.drew := hst w5 w5.drew (Below.refl _ _) (Below.refl _ _).drew
    have hBad := fun W (hW : Below w5.heap.size w5 W) => bad_any W iN FS _ (hI5.below hW (Nat.le_refl _))
    have hLf := fun W (hW : Below w5.heap.size w5 W) => left_any W iN FS _ (hI5.below hW (Nat.le_refl _))
    have hB1 : ∀ W, Below w5.heap.size w5 W → Calls Try.prog 19 #[.pointer (some ⟨iN, 0, none⟩)] W fun e w' => e = .returned (.bool true) ∧ W = w' := fun W hW => by have h1 := hBad W hW; rw [show FS.isNone = true from HEF] at h1; exact h1
    have hL1 : ∀ W, Below w5.heap.size w5 W → Calls Try.prog 23 #[.pointer (some ⟨iN, 0, none⟩)] W fun e w' => e = .returned (.int .i64 ((nF : Nat) : Int)) ∧ W = w' := fun W hW => by have h1 := hLf W hW; rw [show left FS = nF from HNF] at h1; exact h1
    clear hBad hLf
    refine wp_region_held_drew (S := (fun w' => Below w5.heap.size w5 w' ∧ (w'.cell? ⟨w3.heap.size, 0, none⟩ = some (.int .i64 k) ∧ w'.cell? ⟨w3.heap.size, 1, none⟩ = some (.int .i64 f) ∧ w'.cell? ⟨w3.heap.size, 2, none⟩ = some (.int .i64 o) ∧ w'.cell? ⟨w3.heap.size, 3, none⟩ = some (.int .i64 t) ∧ w'.cell? ⟨w3.heap.size, 4, none⟩ = some (.int .i64 i) ∧ w'.cell? ⟨w3.heap.size, 5, none⟩ = some (.int .i64 l) ∧ w'.cell? ⟨w3.heap.size, 6, none⟩ = some (.int .i64 c) ∧ w'.cell? ⟨w3.heap.size, 7, none⟩ = some (.int .i64 x) ∧ w'.cell? ⟨w3.heap.size, 8, none⟩ = some (.bool b) ∧ w'.cell? ⟨w3.heap.size, 9, none⟩ = some (.slice A3 es.length cA3) ∧ w'.cell? ⟨w3.heap.size, 10, none⟩ = some (.int .i64 si) ∧ w'.cell? ⟨w3.heap.size, 11, none⟩ = some (.int .i64 st) ∧ w'.cell? ⟨w3.heap.size, 12, none⟩ = some (.slice E3 sd.length cE3)) ∧ (w'.cell? ⟨w4.heap.size, 0, none⟩ = some (.int .i64 k) ∧ w'.cell? ⟨w4.heap.size, 1, none⟩ = some (.int .i64 f) ∧ w'.cell? ⟨w4.heap.size, 2, none⟩ = some (.int .i64 o) ∧ w'.cell? ⟨w4.heap.size, 3, none⟩ = some (.int .i64 t) ∧ w'.cell? ⟨w4.heap.size, 4, none⟩ = some (.int .i64 i) ∧ w'.cell? ⟨w4.heap.size, 5, none⟩ = some (.int .i64 l) ∧ w'.cell? ⟨w4.heap.size, 6, none⟩ = some (.int .i64 c) ∧ w'.cell? ⟨w4.heap.size, 7, none⟩ = some (.int .i64 x) ∧ w'.cell? ⟨w4.heap.size, 8, none⟩ = some (.bool b) ∧ w'.cell? ⟨w4.heap.size, 9, none⟩ = some (.slice A4 es.length cA4) ∧ w'.cell? ⟨w4.heap.size, 10, none⟩ = some (.int .i64 si) ∧ w'.cell? ⟨w4.heap.size, 11, none⟩ = some (.int .i64 st) ∧ w'.cell? ⟨w4.heap.size, 12, none⟩ = some (.slice E4 sd.length cE4)) ∧ (w'.cell? ⟨w4.heap.size + 1, 0, none⟩ = some (.slice A' nF cap') ∧ w'.cell? ⟨w4.heap.size + 1, 1, none⟩ = some (.bool true)))) (by kernel_rfl) hS0 (fun hHeld => ?_)
    change wpAnyH _ _ _ _ _ 28 #[false, false, false, false, false, false, false, false, false, false, false, false, false, false, false, false, false, false, false, false, false, false, false, false, false, false, false, false] _ _
    refine wpAnyH_take (i := 0) (oi := { dst := some 25, op := Go.Op.load 30 (Go.Operand.tmp 4), type := 30, pos := "law.go:59", after := #[], guard := none }) (v := ?_) rfl (by kernel_rfl) (by kernel_rfl) (by kernel_rfl) (fun _ _ _ h => h) (Or.inl ⟨by rfl, ?_⟩) (by assumption) ?_
    rotate_left
    · ((intro w hSw; (try dsimp only at hSw); go_simp); (try with_reducible rfl))
    try simp only [Act.put, List.setIfInBounds_toArray, List.set_cons_zero, List.set_cons_succ]
    refine wpAnyH_take (i := 2) (oi := { dst := some 27, op := Go.Op.load 27 (Go.Operand.tmp 5), type := 27, pos := "law.go:59", after := #[], guard := none }) (v := ?_) rfl (by kernel_rfl) (by kernel_rfl) (by kernel_rfl) (fun _ _ _ h => h) (Or.inl ⟨by rfl, ?_⟩) (by assumption) ?_
    rotate_left
    · ((intro w hSw; (try dsimp only at hSw); go_simp); (try with_reducible rfl))
    try simp only [Act.put, List.setIfInBounds_toArray, List.set_cons_zero, List.set_cons_succ]
    refine wpAnyH_ready (rs := [1]) (by kernel_rfl) (by simp) ?_
    refine AllReadyH.cons (o := { dst := some 26, op := Go.Op.call { callee := Go.Callee.value (Go.Operand.func 21), args := #[Go.Operand.tmp 25], argTypes := #[30] }, type := 27, pos := "law.go:59", after := #[{ on := 0, ground := Go.Ground.data }], guard := none }) rfl (fun KK hK => ?_) AllReadyH.nil
    go_simp
    refine (of_is k f o t i l c x b A3 es.length cA3 si st E3 sd.length cE3 _).mono ?_
    rintro e y1 ⟨rfl, hc1⟩
    have hS7 := hst _ y1 hHeld.1 hc1
    refine hK.out _ _ hS7 (fun hHeld2 => ?_)
    clear hK KK hHeld
    have hHeld := hHeld2
    clear hHeld2
    try simp only [Act.put, List.setIfInBounds_toArray, List.set_cons_zero, List.set_cons_succ]
    refine wpAnyH_ready (rs := [3]) (by kernel_rfl) (by simp) ?_
    refine AllReadyH.cons (o := { dst := some 28, op := Go.Op.call { callee := Go.Callee.value (Go.Operand.func 13), args := #[Go.Operand.tmp 26, Go.Operand.tmp 27], argTypes := #[27, 27] }, type := 4, pos := "law.go:59", after := #[{ on := 1, ground := Go.Ground.data }, { on := 2, ground := Go.Ground.data }, { on := 1, ground := Go.Ground.chain }], guard := none }) rfl (fun KK hK => ?_) AllReadyH.nil
    go_simp
    refine (hSS _ A3 cA3 E3 cE3 A4 cA4 E4 cE4 _ _ (hMx.below hHeld.1 (Nat.le_refl _)) (hMw.below hHeld.1 (Nat.le_refl _))).mono ?_
    rintro e y3 ⟨rfl, hc3⟩
    have hS7 := hst _ y3 hHeld.1 hc3
    refine hK.out _ _ hS7 (fun hHeld2 => ?_)
    clear hK KK hHeld
    have hHeld := hHeld2
    clear hHeld2
    try simp only [Act.put, List.setIfInBounds_toArray, List.set_cons_zero, List.set_cons_succ]
    refine wpAnyH_take (i := 4) (oi := { dst := some 29, op := Go.Op.move (Go.Operand.tmp 28), type := 4, pos := "law.go:59", after := #[{ on := 3, ground := Go.Ground.data }, { on := 3, ground := Go.Ground.chain }], guard := none }) (v := ?_) rfl (by kernel_rfl) (by kernel_rfl) (by kernel_rfl) (fun _ _ _ h => h) (Or.inl ⟨by rfl, ?_⟩) (by assumption) ?_
    rotate_left
    · ((intro w hSw; (try dsimp only at hSw); go_simp); (try with_reducible rfl))
    try simp only [Act.put, List.setIfInBounds_toArray, List.set_cons_zero, List.set_cons_succ]
    refine wpAnyH_take (i := 5) (oi := { dst := some 30, op := Go.Op.move (Go.Operand.tmp 3), type := 43, pos := "law.go:59", after := #[{ on := 4, ground := Go.Ground.guard }], guard := some (4, true) }) (v := ?_) rfl (by kernel_rfl) (by kernel_rfl) (by kernel_rfl) (fun _ _ _ h => h) (Or.inl ⟨by rfl, ?_⟩) (by assumption) ?_
    rotate_left
    · ((intro w hSw; (try dsimp only at hSw); go_simp); (try with_reducible rfl))
    try simp only [Act.put, List.setIfInBounds_toArray, List.set_cons_zero, List.set_cons_succ]
    refine wpAnyH_take (i := 7) (oi := { dst := some 32, op := Go.Op.fieldAddr 48 (Go.Operand.tmp 6) 1, type := 0, pos := "law.go:59", after := #[{ on := 4, ground := Go.Ground.guard }], guard := some (4, true) }) (v := ?_) rfl (by kernel_rfl) (by kernel_rfl) (by kernel_rfl) (fun _ _ _ h => h) (Or.inl ⟨by rfl, ?_⟩) (by assumption) ?_
    rotate_left
    · ((intro w hSw; (try dsimp only at hSw); go_simp); (try with_reducible rfl))
    try simp only [Act.put, List.setIfInBounds_toArray, List.set_cons_zero, List.set_cons_succ]
    refine wpAnyH_take (i := 8) (oi := { dst := some 33, op := Go.Op.load 4 (Go.Operand.tmp 32), type := 4, pos := "law.go:59", after := #[{ on := 7, ground := Go.Ground.data }, { on := 4, ground := Go.Ground.guard }], guard := some (4, true) }) (v := ?_) rfl (by kernel_rfl) (by kernel_rfl) (by kernel_rfl) (fun _ _ _ h => h) (Or.inl ⟨by rfl, ?_⟩) (by assumption) ?_
    rotate_left
    · ((intro w hSw; (try dsimp only at hSw); go_simp); (try with_reducible rfl))
    try simp only [Act.put, List.setIfInBounds_toArray, List.set_cons_zero, List.set_cons_succ]
    refine wpAnyH_ready (rs := [6]) (by kernel_rfl) (by simp) ?_
    refine AllReadyH.cons (o := { dst := some 31, op := Go.Op.call { callee := Go.Callee.value (Go.Operand.func 19), args := #[Go.Operand.tmp 30], argTypes := #[43] }, type := 4, pos := "law.go:59", after := #[{ on := 5, ground := Go.Ground.data }, { on := 4, ground := Go.Ground.chain }, { on := 4, ground := Go.Ground.guard }], guard := some (4, true) }) rfl (fun KK hK => ?_) AllReadyH.nil
    go_simp
    refine (hB1 _ hHeld.1).mono ?_
    rintro e y6 ⟨rfl, rfl⟩
    refine hK.out _ _ hHeld (fun hHeld2 => ?_)
    clear hK KK hHeld
    have hHeld := hHeld2
    clear hHeld2
    try simp only [Act.put, List.setIfInBounds_toArray, List.set_cons_zero, List.set_cons_succ]
    refine wpAnyH_take (i := 9) (oi := { dst := some 34, op := Go.Op.binOp Go.BinOp.eql 4 (Go.Operand.tmp 31) (Go.Operand.tmp 33) 4, type := 4, pos := "law.go:59", after := #[{ on := 6, ground := Go.Ground.data }, { on := 8, ground := Go.Ground.data }, { on := 4, ground := Go.Ground.guard }], guard := some (4, true) }) (v := ?_) rfl (by kernel_rfl) (by kernel_rfl) (by kernel_rfl) (fun _ _ _ h => h) (Or.inl ⟨by rfl, ?_⟩) (by assumption) ?_
    rotate_left
    · ((intro w hSw; (try dsimp only at hSw); go_simp); (try with_reducible rfl))
    try simp only [Act.put, List.setIfInBounds_toArray, List.set_cons_zero, List.set_cons_succ]
    refine wpAnyH_take (i := 10) (oi := { dst := some 35, op := Go.Op.pick (Go.Operand.tmp 29) (Go.Operand.tmp 34) (Go.Operand.const (Go.Value.bool false)), type := 4, pos := "law.go:59", after := #[{ on := 4, ground := Go.Ground.data }, { on := 9, ground := Go.Ground.data }], guard := none }) (v := ?_) rfl (by kernel_rfl) (by kernel_rfl) (by kernel_rfl) (fun _ _ _ h => h) (Or.inl ⟨by rfl, ?_⟩) (by assumption) ?_
    rotate_left
    · ((intro w hSw; (try dsimp only at hSw); go_simp); (try with_reducible rfl))
    try simp only [Act.put, List.setIfInBounds_toArray, List.set_cons_zero, List.set_cons_succ]
    refine wpAnyH_take (i := 11) (oi := { dst := some 36, op := Go.Op.move (Go.Operand.tmp 35), type := 4, pos := "law.go:59", after := #[{ on := 10, ground := Go.Ground.data }, { on := 6, ground := Go.Ground.chain }], guard := none }) (v := ?_) rfl (by kernel_rfl) (by kernel_rfl) (by kernel_rfl) (fun _ _ _ h => h) (Or.inl ⟨by rfl, ?_⟩) (by assumption) ?_
    rotate_left
    · ((intro w hSw; (try dsimp only at hSw); go_simp); (try with_reducible rfl))
    try simp only [Act.put, List.setIfInBounds_toArray, List.set_cons_zero, List.set_cons_succ]
    refine wpAnyH_take (i := 12) (oi := { dst := some 37, op := Go.Op.move (Go.Operand.tmp 3), type := 43, pos := "law.go:59", after := #[{ on := 11, ground := Go.Ground.guard }], guard := some (11, true) }) (v := ?_) rfl (by kernel_rfl) (by kernel_rfl) (by kernel_rfl) (fun _ _ _ h => h) (Or.inl ⟨by rfl, ?_⟩) (by assumption) ?_
    rotate_left
    · ((intro w hSw; (try dsimp only at hSw); go_simp); (try with_reducible rfl))
    try simp only [Act.put, List.setIfInBounds_toArray, List.set_cons_zero, List.set_cons_succ]
    refine wpAnyH_take (i := 14) (oi := { dst := some 39, op := Go.Op.fieldAddr 48 (Go.Operand.tmp 6) 0, type := 0, pos := "law.go:59", after := #[{ on := 11, ground := Go.Ground.guard }], guard := some (11, true) }) (v := ?_) rfl (by kernel_rfl) (by kernel_rfl) (by kernel_rfl) (fun _ _ _ h => h) (Or.inl ⟨by rfl, ?_⟩) (by assumption) ?_
    rotate_left
    · ((intro w hSw; (try dsimp only at hSw); go_simp); (try with_reducible rfl))
    try simp only [Act.put, List.setIfInBounds_toArray, List.set_cons_zero, List.set_cons_succ]
    refine wpAnyH_take (i := 15) (oi := { dst := some 40, op := Go.Op.load 23 (Go.Operand.tmp 39), type := 23, pos := "law.go:59", after := #[{ on := 14, ground := Go.Ground.data }, { on := 11, ground := Go.Ground.guard }], guard := some (11, true) }) (v := ?_) rfl (by kernel_rfl) (by kernel_rfl) (by kernel_rfl) (fun _ _ _ h => h) (Or.inl ⟨by rfl, ?_⟩) (by assumption) ?_
    rotate_left
    · ((intro w hSw; (try dsimp only at hSw); go_simp); (try with_reducible rfl))
    try simp only [Act.put, List.setIfInBounds_toArray, List.set_cons_zero, List.set_cons_succ]
    refine wpAnyH_take (i := 16) (oi := { dst := some 41, op := Go.Op.call { callee := Go.Callee.builtin Go.Builtin.len, args := #[Go.Operand.tmp 40], argTypes := #[23] }, type := 3, pos := "law.go:59", after := #[{ on := 15, ground := Go.Ground.data }, { on := 11, ground := Go.Ground.guard }], guard := some (11, true) }) (v := ?_) rfl (by kernel_rfl) (by kernel_rfl) (by kernel_rfl) (fun _ _ _ h => h) (Or.inl ⟨by rfl, ?_⟩) (by assumption) ?_
    rotate_left
    · ((intro w hSw; (try dsimp only at hSw); go_simp); (try with_reducible rfl))
    try simp only [Act.put, List.setIfInBounds_toArray, List.set_cons_zero, List.set_cons_succ]
    refine wpAnyH_ready (rs := [13]) (by kernel_rfl) (by simp) ?_
    refine AllReadyH.cons (o := { dst := some 38, op := Go.Op.call { callee := Go.Callee.value (Go.Operand.func 23), args := #[Go.Operand.tmp 37], argTypes := #[43] }, type := 3, pos := "law.go:59", after := #[{ on := 12, ground := Go.Ground.data }, { on := 11, ground := Go.Ground.chain }, { on := 11, ground := Go.Ground.guard }], guard := some (11, true) }) rfl (fun KK hK => ?_) AllReadyH.nil
    go_simp
    refine (hL1 _ hHeld.1).mono ?_
    rintro e y9 ⟨rfl, rfl⟩
    refine hK.out _ _ hHeld (fun hHeld2 => ?_)
    clear hK KK hHeld
    have hHeld := hHeld2
    clear hHeld2
    try simp only [Act.put, List.setIfInBounds_toArray, List.set_cons_zero, List.set_cons_succ]
    refine wpAnyH_take (i := 17) (oi := { dst := some 42, op := Go.Op.binOp Go.BinOp.eql 3 (Go.Operand.tmp 38) (Go.Operand.tmp 41) 3, type := 4, pos := "law.go:59", after := #[{ on := 13, ground := Go.Ground.data }, { on := 16, ground := Go.Ground.data }, { on := 11, ground := Go.Ground.guard }], guard := some (11, true) }) (v := ?_) rfl (by kernel_rfl) (by kernel_rfl) (by kernel_rfl) (fun _ _ _ h => h) (Or.inl ⟨by rfl, ?_⟩) (by assumption) ?_
    rotate_left
    · ((intro w hSw; (try dsimp only at hSw); go_simp); (try with_reducible rfl))
    try simp only [Act.put, List.setIfInBounds_toArray, List.set_cons_zero, List.set_cons_succ]
    refine wpAnyH_take (i := 18) (oi := { dst := some 43, op := Go.Op.pick (Go.Operand.tmp 36) (Go.Operand.tmp 42) (Go.Operand.const (Go.Value.bool false)), type := 4, pos := "law.go:59", after := #[{ on := 11, ground := Go.Ground.data }, { on := 17, ground := Go.Ground.data }], guard := none }) (v := ?_) rfl (by kernel_rfl) (by kernel_rfl) (by kernel_rfl) (fun _ _ _ h => h) (Or.inl ⟨by rfl, ?_⟩) (by assumption) ?_
    rotate_left
    · ((intro w hSw; (try dsimp only at hSw); go_simp); (try with_reducible rfl))
    try simp only [Act.put, List.setIfInBounds_toArray, List.set_cons_zero, List.set_cons_succ]
    refine wpAnyH_take (i := 19) (oi := { dst := some 44, op := Go.Op.move (Go.Operand.tmp 43), type := 4, pos := "law.go:59", after := #[{ on := 18, ground := Go.Ground.data }, { on := 13, ground := Go.Ground.chain }], guard := none }) (v := ?_) rfl (by kernel_rfl) (by kernel_rfl) (by kernel_rfl) (fun _ _ _ h => h) (Or.inl ⟨by rfl, ?_⟩) (by assumption) ?_
    rotate_left
    · ((intro w hSw; (try dsimp only at hSw); go_simp); (try with_reducible rfl))
    try simp only [Act.put, List.setIfInBounds_toArray, List.set_cons_zero, List.set_cons_succ]
    refine wpAnyH_take (i := 20) (oi := { dst := some 45, op := Go.Op.fieldAddr 48 (Go.Operand.tmp 6) 1, type := 0, pos := "law.go:59", after := #[{ on := 19, ground := Go.Ground.guard }], guard := some (19, true) }) (v := ?_) rfl (by kernel_rfl) (by kernel_rfl) (by kernel_rfl) (fun _ _ _ h => h) (Or.inl ⟨by rfl, ?_⟩) (by assumption) ?_
    rotate_left
    · ((intro w hSw; (try dsimp only at hSw); go_simp); (try with_reducible rfl))
    try simp only [Act.put, List.setIfInBounds_toArray, List.set_cons_zero, List.set_cons_succ]
    refine wpAnyH_take (i := 21) (oi := { dst := some 46, op := Go.Op.load 4 (Go.Operand.tmp 45), type := 4, pos := "law.go:59", after := #[{ on := 20, ground := Go.Ground.data }, { on := 19, ground := Go.Ground.guard }], guard := some (19, true) }) (v := ?_) rfl (by kernel_rfl) (by kernel_rfl) (by kernel_rfl) (fun _ _ _ h => h) (Or.inl ⟨by rfl, ?_⟩) (by assumption) ?_
    rotate_left
    · ((intro w hSw; (try dsimp only at hSw); go_simp); (try with_reducible rfl))
    try simp only [Act.put, List.setIfInBounds_toArray, List.set_cons_zero, List.set_cons_succ]
    refine wpAnyH_take (i := 22) (oi := { dst := some 47, op := Go.Op.move (Go.Operand.tmp 46), type := 4, pos := "law.go:59", after := #[{ on := 21, ground := Go.Ground.data }, { on := 19, ground := Go.Ground.chain }, { on := 19, ground := Go.Ground.guard }], guard := some (19, true) }) (v := ?_) rfl (by kernel_rfl) (by kernel_rfl) (by kernel_rfl) (fun _ _ _ h => h) (Or.inl ⟨by rfl, ?_⟩) (by assumption) ?_
    rotate_left
    · ((intro w hSw; (try dsimp only at hSw); go_simp); (try with_reducible rfl))
    try simp only [Act.put, List.setIfInBounds_toArray, List.set_cons_zero, List.set_cons_succ]
    refine wpAnyH_take (i := 23) (oi := { dst := some 48, op := Go.Op.load 30 (Go.Operand.tmp 4), type := 30, pos := "law.go:59", after := #[{ on := 22, ground := Go.Ground.guard }], guard := some (22, false) }) (v := undef) rfl (by kernel_rfl) (by kernel_rfl) (by kernel_rfl) (fun _ _ _ h => h) (Or.inr ⟨by rfl, rfl⟩) (by assumption) ?_
    try simp only [Act.put, List.setIfInBounds_toArray, List.set_cons_zero, List.set_cons_succ]
    refine wpAnyH_take (i := 24) (oi := { dst := some 49, op := Go.Op.call { callee := Go.Callee.value (Go.Operand.func 10), args := #[Go.Operand.tmp 48], argTypes := #[30] }, type := 4, pos := "law.go:59", after := #[{ on := 23, ground := Go.Ground.data }, { on := 22, ground := Go.Ground.chain }, { on := 22, ground := Go.Ground.guard }], guard := some (22, false) }) (v := undef) rfl (by kernel_rfl) (by kernel_rfl) (by kernel_rfl) (fun _ _ _ h => h) (Or.inr ⟨by rfl, rfl⟩) (by assumption) ?_
    try simp only [Act.put, List.setIfInBounds_toArray, List.set_cons_zero, List.set_cons_succ]
    refine wpAnyH_take (i := 25) (oi := { dst := some 50, op := Go.Op.pick (Go.Operand.tmp 47) (Go.Operand.const (Go.Value.bool true)) (Go.Operand.tmp 49), type := 4, pos := "law.go:59", after := #[{ on := 22, ground := Go.Ground.data }, { on := 24, ground := Go.Ground.data }, { on := 19, ground := Go.Ground.guard }], guard := some (19, true) }) (v := ?_) rfl (by kernel_rfl) (by kernel_rfl) (by kernel_rfl) (fun _ _ _ h => h) (Or.inl ⟨by rfl, ?_⟩) (by assumption) ?_
    rotate_left
    · ((intro w hSw; (try dsimp only at hSw); go_simp); (try with_reducible rfl))
    try simp only [Act.put, List.setIfInBounds_toArray, List.set_cons_zero, List.set_cons_succ]
    refine wpAnyH_take (i := 26) (oi := { dst := some 51, op := Go.Op.pick (Go.Operand.tmp 44) (Go.Operand.tmp 50) (Go.Operand.const (Go.Value.bool false)), type := 4, pos := "law.go:59", after := #[{ on := 19, ground := Go.Ground.data }, { on := 25, ground := Go.Ground.data }], guard := none }) (v := ?_) rfl (by kernel_rfl) (by kernel_rfl) (by kernel_rfl) (fun _ _ _ h => h) (Or.inl ⟨by rfl, ?_⟩) (by assumption) ?_
    rotate_left
    · ((intro w hSw; (try dsimp only at hSw); go_simp); (try with_reducible rfl))
    try simp only [Act.put, List.setIfInBounds_toArray, List.set_cons_zero, List.set_cons_succ]
    refine wpAnyH_take (i := 27) (oi := { dst := some 2, op := Go.Op.assign (Go.Operand.tmp 51), type := 4, pos := "law.go:59", after := #[{ on := 26, ground := Go.Ground.data }, { on := 24, ground := Go.Ground.chain }, { on := 0, ground := Go.Ground.phase }, { on := 1, ground := Go.Ground.phase }, { on := 2, ground := Go.Ground.phase }, { on := 3, ground := Go.Ground.phase }, { on := 4, ground := Go.Ground.phase }, { on := 5, ground := Go.Ground.phase }, { on := 6, ground := Go.Ground.phase }, { on := 7, ground := Go.Ground.phase }, { on := 8, ground := Go.Ground.phase }, { on := 9, ground := Go.Ground.phase }, { on := 10, ground := Go.Ground.phase }, { on := 11, ground := Go.Ground.phase }, { on := 12, ground := Go.Ground.phase }, { on := 13, ground := Go.Ground.phase }, { on := 14, ground := Go.Ground.phase }, { on := 15, ground := Go.Ground.phase }, { on := 16, ground := Go.Ground.phase }, { on := 17, ground := Go.Ground.phase }, { on := 18, ground := Go.Ground.phase }, { on := 19, ground := Go.Ground.phase }, { on := 20, ground := Go.Ground.phase }, { on := 21, ground := Go.Ground.phase }, { on := 22, ground := Go.Ground.phase }, { on := 23, ground := Go.Ground.phase }, { on := 24, ground := Go.Ground.phase }, { on := 25, ground := Go.Ground.phase }, { on := 26, ground := Go.Ground.phase }], guard := none }) (v := ?_) rfl (by kernel_rfl) (by kernel_rfl) (by kernel_rfl) (fun _ _ _ h => h) (Or.inl ⟨by rfl, ?_⟩) (by assumption) ?_
    rotate_left
    · ((intro w hSw; (try dsimp only at hSw); go_simp); (try with_reducible rfl))
    try simp only [Act.put, List.setIfInBounds_toArray, List.set_cons_zero, List.set_cons_succ]
    refine wpAnyH_done (by kernel_rfl) ?_ _
    go_wp2
    go_ret
    exact ⟨rfl, hup _ hHeld.1⟩
  | false =>
    have hq := hright rfl
    rw [hq] at hRt
    clear hq
    have hA : Below w4.heap.size w4 ((w4.alloc (.cells (mC k f o t i l c x b A4 es.length cA4 si st E4 sd.length cE4) 27)).alloc (.cells #[.slice A' nF cap', .bool false] 48)) := ((Below.refl _ _).alloc (Nat.le_refl _) _).alloc (by simp) _
    have r4 : ((w4.alloc (.cells (mC k f o t i l c x b A4 es.length cA4 si st E4 sd.length cE4) 27)).alloc (.cells #[.slice A' nF cap', .bool false] 48)).heap[w4.heap.size]? = some (.cells (mC k f o t i l c x b A4 es.length cA4 si st E4 sd.length cE4) 27) := (Below.heap_alloc _ _ _ (by simp)).trans (heap_alloc_new _ _)
    have r6 : ((w4.alloc (.cells (mC k f o t i l c x b A4 es.length cA4 si st E4 sd.length cE4) 27)).alloc (.cells #[.slice A' nF cap', .bool false] 48)).heap[w4.heap.size + 1]? = some (.cells #[.slice A' nF cap', .bool false] 48) := heap_alloc2_new _ _ _
    have r3 := (hA.block _ hs4).trans r34
    have hbw5 := hbw4.trans (hA.mono hbw4.size)
    have hMx := hM34.below hA (Nat.le_refl _)
    have hMw := hM4.below hA (Nat.le_refl _)
    have hI5 := hI4.below hA (Nat.le_refl _)
    clear hM34 hM4 hI4 r34 hbw4 hA
    go_upto_region 6 with fail
    generalize ((w4.alloc (.cells (mC k f o t i l c x b A4 es.length cA4 si st E4 sd.length cE4) 27)).alloc (.cells #[.slice A' nF cap', .bool false] 48)) = w5 at *
    have hst : ∀ W W', Below w5.heap.size w5 W → Below W.heap.size W W' → (fun w' => Below w5.heap.size w5 w' ∧ (w'.cell? ⟨w3.heap.size, 0, none⟩ = some (.int .i64 k) ∧ w'.cell? ⟨w3.heap.size, 1, none⟩ = some (.int .i64 f) ∧ w'.cell? ⟨w3.heap.size, 2, none⟩ = some (.int .i64 o) ∧ w'.cell? ⟨w3.heap.size, 3, none⟩ = some (.int .i64 t) ∧ w'.cell? ⟨w3.heap.size, 4, none⟩ = some (.int .i64 i) ∧ w'.cell? ⟨w3.heap.size, 5, none⟩ = some (.int .i64 l) ∧ w'.cell? ⟨w3.heap.size, 6, none⟩ = some (.int .i64 c) ∧ w'.cell? ⟨w3.heap.size, 7, none⟩ = some (.int .i64 x) ∧ w'.cell? ⟨w3.heap.size, 8, none⟩ = some (.bool b) ∧ w'.cell? ⟨w3.heap.size, 9, none⟩ = some (.slice A3 es.length cA3) ∧ w'.cell? ⟨w3.heap.size, 10, none⟩ = some (.int .i64 si) ∧ w'.cell? ⟨w3.heap.size, 11, none⟩ = some (.int .i64 st) ∧ w'.cell? ⟨w3.heap.size, 12, none⟩ = some (.slice E3 sd.length cE3)) ∧ (w'.cell? ⟨w4.heap.size, 0, none⟩ = some (.int .i64 k) ∧ w'.cell? ⟨w4.heap.size, 1, none⟩ = some (.int .i64 f) ∧ w'.cell? ⟨w4.heap.size, 2, none⟩ = some (.int .i64 o) ∧ w'.cell? ⟨w4.heap.size, 3, none⟩ = some (.int .i64 t) ∧ w'.cell? ⟨w4.heap.size, 4, none⟩ = some (.int .i64 i) ∧ w'.cell? ⟨w4.heap.size, 5, none⟩ = some (.int .i64 l) ∧ w'.cell? ⟨w4.heap.size, 6, none⟩ = some (.int .i64 c) ∧ w'.cell? ⟨w4.heap.size, 7, none⟩ = some (.int .i64 x) ∧ w'.cell? ⟨w4.heap.size, 8, none⟩ = some (.bool b) ∧ w'.cell? ⟨w4.heap.size, 9, none⟩ = some (.slice A4 es.length cA4) ∧ w'.cell? ⟨w4.heap.size, 10, none⟩ = some (.int .i64 si) ∧ w'.cell? ⟨w4.heap.size, 11, none⟩ = some (.int .i64 st) ∧ w'.cell? ⟨w4.heap.size, 12, none⟩ = some (.slice E4 sd.length cE4)) ∧ (w'.cell? ⟨w4.heap.size + 1, 0, none⟩ = some (.slice A' nF cap') ∧ w'.cell? ⟨w4.heap.size + 1, 1, none⟩ = some (.bool false))) W' := fun W W' h1 h2 => by
      have h3 := h1.trans (h2.mono h1.size)
      exact ⟨h3, (row13 ((h3.block _ (hlt r3)).trans r3)).1, (row13 ((h3.block _ (hlt r4)).trans r4)).1, (row2 ((h3.block _ (hlt r6)).trans r6)).1⟩
    have hup := fun W (hW : Below w5.heap.size w5 W) => hbw5.trans (hW.mono hbw5.size)
    have hS0 : (fun w' => Below w5.heap.size w5 w' ∧ (w'.cell? ⟨w3.heap.size, 0, none⟩ = some (.int .i64 k) ∧ w'.cell? ⟨w3.heap.size, 1, none⟩ = some (.int .i64 f) ∧ w'.cell? ⟨w3.heap.size, 2, none⟩ = some (.int .i64 o) ∧ w'.cell? ⟨w3.heap.size, 3, none⟩ = some (.int .i64 t) ∧ w'.cell? ⟨w3.heap.size, 4, none⟩ = some (.int .i64 i) ∧ w'.cell? ⟨w3.heap.size, 5, none⟩ = some (.int .i64 l) ∧ w'.cell? ⟨w3.heap.size, 6, none⟩ = some (.int .i64 c) ∧ w'.cell? ⟨w3.heap.size, 7, none⟩ = some (.int .i64 x) ∧ w'.cell? ⟨w3.heap.size, 8, none⟩ = some (.bool b) ∧ w'.cell? ⟨w3.heap.size, 9, none⟩ = some (.slice A3 es.length cA3) ∧ w'.cell? ⟨w3.heap.size, 10, none⟩ = some (.int .i64 si) ∧ w'.cell? ⟨w3.heap.size, 11, none⟩ = some (.int .i64 st) ∧ w'.cell? ⟨w3.heap.size, 12, none⟩ = some (.slice E3 sd.length cE3)) ∧ (w'.cell? ⟨w4.heap.size, 0, none⟩ = some (.int .i64 k) ∧ w'.cell? ⟨w4.heap.size, 1, none⟩ = some (.int .i64 f) ∧ w'.cell? ⟨w4.heap.size, 2, none⟩ = some (.int .i64 o) ∧ w'.cell? ⟨w4.heap.size, 3, none⟩ = some (.int .i64 t) ∧ w'.cell? ⟨w4.heap.size, 4, none⟩ = some (.int .i64 i) ∧ w'.cell? ⟨w4.heap.size, 5, none⟩ = some (.int .i64 l) ∧ w'.cell? ⟨w4.heap.size, 6, none⟩ = some (.int .i64 c) ∧ w'.cell? ⟨w4.heap.size, 7, none⟩ = some (.int .i64 x) ∧ w'.cell? ⟨w4.heap.size, 8, none⟩ = some (.bool b) ∧ w'.cell? ⟨w4.heap.size, 9, none⟩ = some (.slice A4 es.length cA4) ∧ w'.cell? ⟨w4.heap.size, 10, none⟩ = some (.int .i64 si) ∧ w'.cell? ⟨w4.heap.size, 11, none⟩ = some (.int .i64 st) ∧ w'.cell? ⟨w4.heap.size, 12, none⟩ = some (.slice E4 sd.length cE4)) ∧ (w'.cell? ⟨w4.heap.size + 1, 0, none⟩ = some (.slice A' nF cap') ∧ w'.cell? ⟨w4.heap.size + 1, 1, none⟩ = some (.bool false))) w5.drew := hst w5 w5.drew (Below.refl _ _) (Below.refl _ _).drew
    have hBad := fun W (hW : Below w5.heap.size w5 W) => bad_any W iN FS _ (hI5.below hW (Nat.le_refl _))
    have hLf := fun W (hW : Below w5.heap.size w5 W) => left_any W iN FS _ (hI5.below hW (Nat.le_refl _))
    have hB1 : ∀ W, Below w5.heap.size w5 W → Calls Try.prog 19 #[.pointer (some ⟨iN, 0, none⟩)] W fun e w' => e = .returned (.bool false) ∧ W = w' := fun W hW => by have h1 := hBad W hW; rw [show FS.isNone = false from HEF] at h1; exact h1
    have hL1 : ∀ W, Below w5.heap.size w5 W → Calls Try.prog 23 #[.pointer (some ⟨iN, 0, none⟩)] W fun e w' => e = .returned (.int .i64 ((nF : Nat) : Int)) ∧ W = w' := fun W hW => by have h1 := hLf W hW; rw [show left FS = nF from HNF] at h1; exact h1
    clear hBad hLf
    refine wp_region_held_drew (S := (fun w' => Below w5.heap.size w5 w' ∧ (w'.cell? ⟨w3.heap.size, 0, none⟩ = some (.int .i64 k) ∧ w'.cell? ⟨w3.heap.size, 1, none⟩ = some (.int .i64 f) ∧ w'.cell? ⟨w3.heap.size, 2, none⟩ = some (.int .i64 o) ∧ w'.cell? ⟨w3.heap.size, 3, none⟩ = some (.int .i64 t) ∧ w'.cell? ⟨w3.heap.size, 4, none⟩ = some (.int .i64 i) ∧ w'.cell? ⟨w3.heap.size, 5, none⟩ = some (.int .i64 l) ∧ w'.cell? ⟨w3.heap.size, 6, none⟩ = some (.int .i64 c) ∧ w'.cell? ⟨w3.heap.size, 7, none⟩ = some (.int .i64 x) ∧ w'.cell? ⟨w3.heap.size, 8, none⟩ = some (.bool b) ∧ w'.cell? ⟨w3.heap.size, 9, none⟩ = some (.slice A3 es.length cA3) ∧ w'.cell? ⟨w3.heap.size, 10, none⟩ = some (.int .i64 si) ∧ w'.cell? ⟨w3.heap.size, 11, none⟩ = some (.int .i64 st) ∧ w'.cell? ⟨w3.heap.size, 12, none⟩ = some (.slice E3 sd.length cE3)) ∧ (w'.cell? ⟨w4.heap.size, 0, none⟩ = some (.int .i64 k) ∧ w'.cell? ⟨w4.heap.size, 1, none⟩ = some (.int .i64 f) ∧ w'.cell? ⟨w4.heap.size, 2, none⟩ = some (.int .i64 o) ∧ w'.cell? ⟨w4.heap.size, 3, none⟩ = some (.int .i64 t) ∧ w'.cell? ⟨w4.heap.size, 4, none⟩ = some (.int .i64 i) ∧ w'.cell? ⟨w4.heap.size, 5, none⟩ = some (.int .i64 l) ∧ w'.cell? ⟨w4.heap.size, 6, none⟩ = some (.int .i64 c) ∧ w'.cell? ⟨w4.heap.size, 7, none⟩ = some (.int .i64 x) ∧ w'.cell? ⟨w4.heap.size, 8, none⟩ = some (.bool b) ∧ w'.cell? ⟨w4.heap.size, 9, none⟩ = some (.slice A4 es.length cA4) ∧ w'.cell? ⟨w4.heap.size, 10, none⟩ = some (.int .i64 si) ∧ w'.cell? ⟨w4.heap.size, 11, none⟩ = some (.int .i64 st) ∧ w'.cell? ⟨w4.heap.size, 12, none⟩ = some (.slice E4 sd.length cE4)) ∧ (w'.cell? ⟨w4.heap.size + 1, 0, none⟩ = some (.slice A' nF cap') ∧ w'.cell? ⟨w4.heap.size + 1, 1, none⟩ = some (.bool false)))) (by kernel_rfl) hS0 (fun hHeld => ?_)
    change wpAnyH _ _ _ _ _ 28 #[false, false, false, false, false, false, false, false, false, false, false, false, false, false, false, false, false, false, false, false, false, false, false, false, false, false, false, false] _ _
    refine wpAnyH_take (i := 0) (oi := { dst := some 25, op := Go.Op.load 30 (Go.Operand.tmp 4), type := 30, pos := "law.go:59", after := #[], guard := none }) (v := ?_) rfl (by kernel_rfl) (by kernel_rfl) (by kernel_rfl) (fun _ _ _ h => h) (Or.inl ⟨by rfl, ?_⟩) (by assumption) ?_
    rotate_left
    · ((intro w hSw; (try dsimp only at hSw); go_simp); (try with_reducible rfl))
    try simp only [Act.put, List.setIfInBounds_toArray, List.set_cons_zero, List.set_cons_succ]
    refine wpAnyH_take (i := 2) (oi := { dst := some 27, op := Go.Op.load 27 (Go.Operand.tmp 5), type := 27, pos := "law.go:59", after := #[], guard := none }) (v := ?_) rfl (by kernel_rfl) (by kernel_rfl) (by kernel_rfl) (fun _ _ _ h => h) (Or.inl ⟨by rfl, ?_⟩) (by assumption) ?_
    rotate_left
    · ((intro w hSw; (try dsimp only at hSw); go_simp); (try with_reducible rfl))
    try simp only [Act.put, List.setIfInBounds_toArray, List.set_cons_zero, List.set_cons_succ]
    refine wpAnyH_ready (rs := [1]) (by kernel_rfl) (by simp) ?_
    refine AllReadyH.cons (o := { dst := some 26, op := Go.Op.call { callee := Go.Callee.value (Go.Operand.func 21), args := #[Go.Operand.tmp 25], argTypes := #[30] }, type := 27, pos := "law.go:59", after := #[{ on := 0, ground := Go.Ground.data }], guard := none }) rfl (fun KK hK => ?_) AllReadyH.nil
    go_simp
    refine (of_is k f o t i l c x b A3 es.length cA3 si st E3 sd.length cE3 _).mono ?_
    rintro e y1 ⟨rfl, hc1⟩
    have hS7 := hst _ y1 hHeld.1 hc1
    refine hK.out _ _ hS7 (fun hHeld2 => ?_)
    clear hK KK hHeld
    have hHeld := hHeld2
    clear hHeld2
    try simp only [Act.put, List.setIfInBounds_toArray, List.set_cons_zero, List.set_cons_succ]
    refine wpAnyH_ready (rs := [3]) (by kernel_rfl) (by simp) ?_
    refine AllReadyH.cons (o := { dst := some 28, op := Go.Op.call { callee := Go.Callee.value (Go.Operand.func 13), args := #[Go.Operand.tmp 26, Go.Operand.tmp 27], argTypes := #[27, 27] }, type := 4, pos := "law.go:59", after := #[{ on := 1, ground := Go.Ground.data }, { on := 2, ground := Go.Ground.data }, { on := 1, ground := Go.Ground.chain }], guard := none }) rfl (fun KK hK => ?_) AllReadyH.nil
    go_simp
    refine (hSS _ A3 cA3 E3 cE3 A4 cA4 E4 cE4 _ _ (hMx.below hHeld.1 (Nat.le_refl _)) (hMw.below hHeld.1 (Nat.le_refl _))).mono ?_
    rintro e y3 ⟨rfl, hc3⟩
    have hS7 := hst _ y3 hHeld.1 hc3
    refine hK.out _ _ hS7 (fun hHeld2 => ?_)
    clear hK KK hHeld
    have hHeld := hHeld2
    clear hHeld2
    try simp only [Act.put, List.setIfInBounds_toArray, List.set_cons_zero, List.set_cons_succ]
    refine wpAnyH_take (i := 4) (oi := { dst := some 29, op := Go.Op.move (Go.Operand.tmp 28), type := 4, pos := "law.go:59", after := #[{ on := 3, ground := Go.Ground.data }, { on := 3, ground := Go.Ground.chain }], guard := none }) (v := ?_) rfl (by kernel_rfl) (by kernel_rfl) (by kernel_rfl) (fun _ _ _ h => h) (Or.inl ⟨by rfl, ?_⟩) (by assumption) ?_
    rotate_left
    · ((intro w hSw; (try dsimp only at hSw); go_simp); (try with_reducible rfl))
    try simp only [Act.put, List.setIfInBounds_toArray, List.set_cons_zero, List.set_cons_succ]
    refine wpAnyH_take (i := 5) (oi := { dst := some 30, op := Go.Op.move (Go.Operand.tmp 3), type := 43, pos := "law.go:59", after := #[{ on := 4, ground := Go.Ground.guard }], guard := some (4, true) }) (v := ?_) rfl (by kernel_rfl) (by kernel_rfl) (by kernel_rfl) (fun _ _ _ h => h) (Or.inl ⟨by rfl, ?_⟩) (by assumption) ?_
    rotate_left
    · ((intro w hSw; (try dsimp only at hSw); go_simp); (try with_reducible rfl))
    try simp only [Act.put, List.setIfInBounds_toArray, List.set_cons_zero, List.set_cons_succ]
    refine wpAnyH_take (i := 7) (oi := { dst := some 32, op := Go.Op.fieldAddr 48 (Go.Operand.tmp 6) 1, type := 0, pos := "law.go:59", after := #[{ on := 4, ground := Go.Ground.guard }], guard := some (4, true) }) (v := ?_) rfl (by kernel_rfl) (by kernel_rfl) (by kernel_rfl) (fun _ _ _ h => h) (Or.inl ⟨by rfl, ?_⟩) (by assumption) ?_
    rotate_left
    · ((intro w hSw; (try dsimp only at hSw); go_simp); (try with_reducible rfl))
    try simp only [Act.put, List.setIfInBounds_toArray, List.set_cons_zero, List.set_cons_succ]
    refine wpAnyH_take (i := 8) (oi := { dst := some 33, op := Go.Op.load 4 (Go.Operand.tmp 32), type := 4, pos := "law.go:59", after := #[{ on := 7, ground := Go.Ground.data }, { on := 4, ground := Go.Ground.guard }], guard := some (4, true) }) (v := ?_) rfl (by kernel_rfl) (by kernel_rfl) (by kernel_rfl) (fun _ _ _ h => h) (Or.inl ⟨by rfl, ?_⟩) (by assumption) ?_
    rotate_left
    · ((intro w hSw; (try dsimp only at hSw); go_simp); (try with_reducible rfl))
    try simp only [Act.put, List.setIfInBounds_toArray, List.set_cons_zero, List.set_cons_succ]
    refine wpAnyH_ready (rs := [6]) (by kernel_rfl) (by simp) ?_
    refine AllReadyH.cons (o := { dst := some 31, op := Go.Op.call { callee := Go.Callee.value (Go.Operand.func 19), args := #[Go.Operand.tmp 30], argTypes := #[43] }, type := 4, pos := "law.go:59", after := #[{ on := 5, ground := Go.Ground.data }, { on := 4, ground := Go.Ground.chain }, { on := 4, ground := Go.Ground.guard }], guard := some (4, true) }) rfl (fun KK hK => ?_) AllReadyH.nil
    go_simp
    refine (hB1 _ hHeld.1).mono ?_
    rintro e y6 ⟨rfl, rfl⟩
    refine hK.out _ _ hHeld (fun hHeld2 => ?_)
    clear hK KK hHeld
    have hHeld := hHeld2
    clear hHeld2
    try simp only [Act.put, List.setIfInBounds_toArray, List.set_cons_zero, List.set_cons_succ]
    refine wpAnyH_take (i := 9) (oi := { dst := some 34, op := Go.Op.binOp Go.BinOp.eql 4 (Go.Operand.tmp 31) (Go.Operand.tmp 33) 4, type := 4, pos := "law.go:59", after := #[{ on := 6, ground := Go.Ground.data }, { on := 8, ground := Go.Ground.data }, { on := 4, ground := Go.Ground.guard }], guard := some (4, true) }) (v := ?_) rfl (by kernel_rfl) (by kernel_rfl) (by kernel_rfl) (fun _ _ _ h => h) (Or.inl ⟨by rfl, ?_⟩) (by assumption) ?_
    rotate_left
    · ((intro w hSw; (try dsimp only at hSw); go_simp); (try with_reducible rfl))
    try simp only [Act.put, List.setIfInBounds_toArray, List.set_cons_zero, List.set_cons_succ]
    refine wpAnyH_take (i := 10) (oi := { dst := some 35, op := Go.Op.pick (Go.Operand.tmp 29) (Go.Operand.tmp 34) (Go.Operand.const (Go.Value.bool false)), type := 4, pos := "law.go:59", after := #[{ on := 4, ground := Go.Ground.data }, { on := 9, ground := Go.Ground.data }], guard := none }) (v := ?_) rfl (by kernel_rfl) (by kernel_rfl) (by kernel_rfl) (fun _ _ _ h => h) (Or.inl ⟨by rfl, ?_⟩) (by assumption) ?_
    rotate_left
    · ((intro w hSw; (try dsimp only at hSw); go_simp); (try with_reducible rfl))
    try simp only [Act.put, List.setIfInBounds_toArray, List.set_cons_zero, List.set_cons_succ]
    refine wpAnyH_take (i := 11) (oi := { dst := some 36, op := Go.Op.move (Go.Operand.tmp 35), type := 4, pos := "law.go:59", after := #[{ on := 10, ground := Go.Ground.data }, { on := 6, ground := Go.Ground.chain }], guard := none }) (v := ?_) rfl (by kernel_rfl) (by kernel_rfl) (by kernel_rfl) (fun _ _ _ h => h) (Or.inl ⟨by rfl, ?_⟩) (by assumption) ?_
    rotate_left
    · ((intro w hSw; (try dsimp only at hSw); go_simp); (try with_reducible rfl))
    try simp only [Act.put, List.setIfInBounds_toArray, List.set_cons_zero, List.set_cons_succ]
    refine wpAnyH_take (i := 12) (oi := { dst := some 37, op := Go.Op.move (Go.Operand.tmp 3), type := 43, pos := "law.go:59", after := #[{ on := 11, ground := Go.Ground.guard }], guard := some (11, true) }) (v := ?_) rfl (by kernel_rfl) (by kernel_rfl) (by kernel_rfl) (fun _ _ _ h => h) (Or.inl ⟨by rfl, ?_⟩) (by assumption) ?_
    rotate_left
    · ((intro w hSw; (try dsimp only at hSw); go_simp); (try with_reducible rfl))
    try simp only [Act.put, List.setIfInBounds_toArray, List.set_cons_zero, List.set_cons_succ]
    refine wpAnyH_take (i := 14) (oi := { dst := some 39, op := Go.Op.fieldAddr 48 (Go.Operand.tmp 6) 0, type := 0, pos := "law.go:59", after := #[{ on := 11, ground := Go.Ground.guard }], guard := some (11, true) }) (v := ?_) rfl (by kernel_rfl) (by kernel_rfl) (by kernel_rfl) (fun _ _ _ h => h) (Or.inl ⟨by rfl, ?_⟩) (by assumption) ?_
    rotate_left
    · ((intro w hSw; (try dsimp only at hSw); go_simp); (try with_reducible rfl))
    try simp only [Act.put, List.setIfInBounds_toArray, List.set_cons_zero, List.set_cons_succ]
    refine wpAnyH_take (i := 15) (oi := { dst := some 40, op := Go.Op.load 23 (Go.Operand.tmp 39), type := 23, pos := "law.go:59", after := #[{ on := 14, ground := Go.Ground.data }, { on := 11, ground := Go.Ground.guard }], guard := some (11, true) }) (v := ?_) rfl (by kernel_rfl) (by kernel_rfl) (by kernel_rfl) (fun _ _ _ h => h) (Or.inl ⟨by rfl, ?_⟩) (by assumption) ?_
    rotate_left
    · ((intro w hSw; (try dsimp only at hSw); go_simp); (try with_reducible rfl))
    try simp only [Act.put, List.setIfInBounds_toArray, List.set_cons_zero, List.set_cons_succ]
    refine wpAnyH_take (i := 16) (oi := { dst := some 41, op := Go.Op.call { callee := Go.Callee.builtin Go.Builtin.len, args := #[Go.Operand.tmp 40], argTypes := #[23] }, type := 3, pos := "law.go:59", after := #[{ on := 15, ground := Go.Ground.data }, { on := 11, ground := Go.Ground.guard }], guard := some (11, true) }) (v := ?_) rfl (by kernel_rfl) (by kernel_rfl) (by kernel_rfl) (fun _ _ _ h => h) (Or.inl ⟨by rfl, ?_⟩) (by assumption) ?_
    rotate_left
    · ((intro w hSw; (try dsimp only at hSw); go_simp); (try with_reducible rfl))
    try simp only [Act.put, List.setIfInBounds_toArray, List.set_cons_zero, List.set_cons_succ]
    refine wpAnyH_ready (rs := [13]) (by kernel_rfl) (by simp) ?_
    refine AllReadyH.cons (o := { dst := some 38, op := Go.Op.call { callee := Go.Callee.value (Go.Operand.func 23), args := #[Go.Operand.tmp 37], argTypes := #[43] }, type := 3, pos := "law.go:59", after := #[{ on := 12, ground := Go.Ground.data }, { on := 11, ground := Go.Ground.chain }, { on := 11, ground := Go.Ground.guard }], guard := some (11, true) }) rfl (fun KK hK => ?_) AllReadyH.nil
    go_simp
    refine (hL1 _ hHeld.1).mono ?_
    rintro e y9 ⟨rfl, rfl⟩
    refine hK.out _ _ hHeld (fun hHeld2 => ?_)
    clear hK KK hHeld
    have hHeld := hHeld2
    clear hHeld2
    try simp only [Act.put, List.setIfInBounds_toArray, List.set_cons_zero, List.set_cons_succ]
    refine wpAnyH_take (i := 17) (oi := { dst := some 42, op := Go.Op.binOp Go.BinOp.eql 3 (Go.Operand.tmp 38) (Go.Operand.tmp 41) 3, type := 4, pos := "law.go:59", after := #[{ on := 13, ground := Go.Ground.data }, { on := 16, ground := Go.Ground.data }, { on := 11, ground := Go.Ground.guard }], guard := some (11, true) }) (v := ?_) rfl (by kernel_rfl) (by kernel_rfl) (by kernel_rfl) (fun _ _ _ h => h) (Or.inl ⟨by rfl, ?_⟩) (by assumption) ?_
    rotate_left
    · ((intro w hSw; (try dsimp only at hSw); go_simp); (try with_reducible rfl))
    try simp only [Act.put, List.setIfInBounds_toArray, List.set_cons_zero, List.set_cons_succ]
    refine wpAnyH_take (i := 18) (oi := { dst := some 43, op := Go.Op.pick (Go.Operand.tmp 36) (Go.Operand.tmp 42) (Go.Operand.const (Go.Value.bool false)), type := 4, pos := "law.go:59", after := #[{ on := 11, ground := Go.Ground.data }, { on := 17, ground := Go.Ground.data }], guard := none }) (v := ?_) rfl (by kernel_rfl) (by kernel_rfl) (by kernel_rfl) (fun _ _ _ h => h) (Or.inl ⟨by rfl, ?_⟩) (by assumption) ?_
    rotate_left
    · ((intro w hSw; (try dsimp only at hSw); go_simp); (try with_reducible rfl))
    try simp only [Act.put, List.setIfInBounds_toArray, List.set_cons_zero, List.set_cons_succ]
    refine wpAnyH_take (i := 19) (oi := { dst := some 44, op := Go.Op.move (Go.Operand.tmp 43), type := 4, pos := "law.go:59", after := #[{ on := 18, ground := Go.Ground.data }, { on := 13, ground := Go.Ground.chain }], guard := none }) (v := ?_) rfl (by kernel_rfl) (by kernel_rfl) (by kernel_rfl) (fun _ _ _ h => h) (Or.inl ⟨by rfl, ?_⟩) (by assumption) ?_
    rotate_left
    · ((intro w hSw; (try dsimp only at hSw); go_simp); (try with_reducible rfl))
    try simp only [Act.put, List.setIfInBounds_toArray, List.set_cons_zero, List.set_cons_succ]
    refine wpAnyH_take (i := 20) (oi := { dst := some 45, op := Go.Op.fieldAddr 48 (Go.Operand.tmp 6) 1, type := 0, pos := "law.go:59", after := #[{ on := 19, ground := Go.Ground.guard }], guard := some (19, true) }) (v := ?_) rfl (by kernel_rfl) (by kernel_rfl) (by kernel_rfl) (fun _ _ _ h => h) (Or.inl ⟨by rfl, ?_⟩) (by assumption) ?_
    rotate_left
    · ((intro w hSw; (try dsimp only at hSw); go_simp); (try with_reducible rfl))
    try simp only [Act.put, List.setIfInBounds_toArray, List.set_cons_zero, List.set_cons_succ]
    refine wpAnyH_take (i := 21) (oi := { dst := some 46, op := Go.Op.load 4 (Go.Operand.tmp 45), type := 4, pos := "law.go:59", after := #[{ on := 20, ground := Go.Ground.data }, { on := 19, ground := Go.Ground.guard }], guard := some (19, true) }) (v := ?_) rfl (by kernel_rfl) (by kernel_rfl) (by kernel_rfl) (fun _ _ _ h => h) (Or.inl ⟨by rfl, ?_⟩) (by assumption) ?_
    rotate_left
    · ((intro w hSw; (try dsimp only at hSw); go_simp); (try with_reducible rfl))
    try simp only [Act.put, List.setIfInBounds_toArray, List.set_cons_zero, List.set_cons_succ]
    refine wpAnyH_take (i := 22) (oi := { dst := some 47, op := Go.Op.move (Go.Operand.tmp 46), type := 4, pos := "law.go:59", after := #[{ on := 21, ground := Go.Ground.data }, { on := 19, ground := Go.Ground.chain }, { on := 19, ground := Go.Ground.guard }], guard := some (19, true) }) (v := ?_) rfl (by kernel_rfl) (by kernel_rfl) (by kernel_rfl) (fun _ _ _ h => h) (Or.inl ⟨by rfl, ?_⟩) (by assumption) ?_
    rotate_left
    · ((intro w hSw; (try dsimp only at hSw); go_simp); (try with_reducible rfl))
    try simp only [Act.put, List.setIfInBounds_toArray, List.set_cons_zero, List.set_cons_succ]
    refine wpAnyH_take (i := 23) (oi := { dst := some 48, op := Go.Op.load 30 (Go.Operand.tmp 4), type := 30, pos := "law.go:59", after := #[{ on := 22, ground := Go.Ground.guard }], guard := some (22, false) }) (v := ?_) rfl (by kernel_rfl) (by kernel_rfl) (by kernel_rfl) (fun _ _ _ h => h) (Or.inl ⟨by rfl, ?_⟩) (by assumption) ?_
    rotate_left
    · ((intro w hSw; (try dsimp only at hSw); go_simp); (try with_reducible rfl))
    try simp only [Act.put, List.setIfInBounds_toArray, List.set_cons_zero, List.set_cons_succ]
    refine wpAnyH_ready (rs := [24]) (by kernel_rfl) (by simp) ?_
    refine AllReadyH.cons (o := { dst := some 49, op := Go.Op.call { callee := Go.Callee.value (Go.Operand.func 10), args := #[Go.Operand.tmp 48], argTypes := #[30] }, type := 4, pos := "law.go:59", after := #[{ on := 23, ground := Go.Ground.data }, { on := 22, ground := Go.Ground.chain }, { on := 22, ground := Go.Ground.guard }], guard := some (22, false) }) rfl (fun KK hK => ?_) AllReadyH.nil
    go_simp
    refine (hRt _ A3 cA3 E3 cE3 _ (hMx.below hHeld.1 (Nat.le_refl _))).mono ?_
    rintro e y24 ⟨rfl, hc24⟩
    have hS7 := hst _ y24 hHeld.1 hc24
    refine hK.out _ _ hS7 (fun hHeld2 => ?_)
    clear hK KK hHeld
    have hHeld := hHeld2
    clear hHeld2
    try simp only [Act.put, List.setIfInBounds_toArray, List.set_cons_zero, List.set_cons_succ]
    refine wpAnyH_take (i := 25) (oi := { dst := some 50, op := Go.Op.pick (Go.Operand.tmp 47) (Go.Operand.const (Go.Value.bool true)) (Go.Operand.tmp 49), type := 4, pos := "law.go:59", after := #[{ on := 22, ground := Go.Ground.data }, { on := 24, ground := Go.Ground.data }, { on := 19, ground := Go.Ground.guard }], guard := some (19, true) }) (v := ?_) rfl (by kernel_rfl) (by kernel_rfl) (by kernel_rfl) (fun _ _ _ h => h) (Or.inl ⟨by rfl, ?_⟩) (by assumption) ?_
    rotate_left
    · ((intro w hSw; (try dsimp only at hSw); go_simp); (try with_reducible rfl))
    try simp only [Act.put, List.setIfInBounds_toArray, List.set_cons_zero, List.set_cons_succ]
    refine wpAnyH_take (i := 26) (oi := { dst := some 51, op := Go.Op.pick (Go.Operand.tmp 44) (Go.Operand.tmp 50) (Go.Operand.const (Go.Value.bool false)), type := 4, pos := "law.go:59", after := #[{ on := 19, ground := Go.Ground.data }, { on := 25, ground := Go.Ground.data }], guard := none }) (v := ?_) rfl (by kernel_rfl) (by kernel_rfl) (by kernel_rfl) (fun _ _ _ h => h) (Or.inl ⟨by rfl, ?_⟩) (by assumption) ?_
    rotate_left
    · ((intro w hSw; (try dsimp only at hSw); go_simp); (try with_reducible rfl))
    try simp only [Act.put, List.setIfInBounds_toArray, List.set_cons_zero, List.set_cons_succ]
    refine wpAnyH_take (i := 27) (oi := { dst := some 2, op := Go.Op.assign (Go.Operand.tmp 51), type := 4, pos := "law.go:59", after := #[{ on := 26, ground := Go.Ground.data }, { on := 24, ground := Go.Ground.chain }, { on := 0, ground := Go.Ground.phase }, { on := 1, ground := Go.Ground.phase }, { on := 2, ground := Go.Ground.phase }, { on := 3, ground := Go.Ground.phase }, { on := 4, ground := Go.Ground.phase }, { on := 5, ground := Go.Ground.phase }, { on := 6, ground := Go.Ground.phase }, { on := 7, ground := Go.Ground.phase }, { on := 8, ground := Go.Ground.phase }, { on := 9, ground := Go.Ground.phase }, { on := 10, ground := Go.Ground.phase }, { on := 11, ground := Go.Ground.phase }, { on := 12, ground := Go.Ground.phase }, { on := 13, ground := Go.Ground.phase }, { on := 14, ground := Go.Ground.phase }, { on := 15, ground := Go.Ground.phase }, { on := 16, ground := Go.Ground.phase }, { on := 17, ground := Go.Ground.phase }, { on := 18, ground := Go.Ground.phase }, { on := 19, ground := Go.Ground.phase }, { on := 20, ground := Go.Ground.phase }, { on := 21, ground := Go.Ground.phase }, { on := 22, ground := Go.Ground.phase }, { on := 23, ground := Go.Ground.phase }, { on := 24, ground := Go.Ground.phase }, { on := 25, ground := Go.Ground.phase }, { on := 26, ground := Go.Ground.phase }], guard := none }) (v := ?_) rfl (by kernel_rfl) (by kernel_rfl) (by kernel_rfl) (fun _ _ _ h => h) (Or.inl ⟨by rfl, ?_⟩) (by assumption) ?_
    rotate_left
    · ((intro w hSw; (try dsimp only at hSw); go_simp); (try with_reducible rfl))
    try simp only [Act.put, List.setIfInBounds_toArray, List.set_cons_zero, List.set_cons_succ]
    refine wpAnyH_done (by kernel_rfl) ?_ _
    go_wp2
    go_ret
    exact ⟨rfl, hup _ hHeld.1⟩

theorem walk (A0 : Option Addr) (len0 cap0 : Nat) (L : List UInt8) (w : World) (hm0 : len0 ≤ maxLen) (hb : Lies w A0 len0 cap0 L) :
    Calls Try.prog 5 #[.slice A0 len0 cap0] w fun e w' => e = .returned (.bool true) ∧ Below w.heap.size w w' := by
  by_cases hno : 5000 < len0
  · exact walk_out A0 len0 cap0 w hm0 hno
  · obtain rfl : L.length = len0 := hb.1
    exact walk_in A0 cap0 L w hb (by omega)

end Go.Proofs.Ytlojjodgoeclfaa.rmsgGets
