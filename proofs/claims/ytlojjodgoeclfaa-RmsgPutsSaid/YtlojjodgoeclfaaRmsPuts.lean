/- RmsgPuts' walk. -/
import Derived.Test.YtlojjodgoeclfaaRmsBytes
import Derived.Test.YtlojjodgoeclfaaRmsGetM
namespace Go.Proofs.Ytlojjodgoeclfaa.rmsgPuts
open Go.ChangeShapes Go.WideShapes Go.ChangeAt Go.RowKit Go.Proofs.Ytlojjodgoeclfaa
set_option linter.unusedVariables false
set_option linter.unusedSimpArgs false

theorem ents_most (ls : List Ent) : (entsBytes ls).length ≤ 12020 * ls.length := by
  induction ls with
  | nil => exact Nat.le_refl _
  | cons e ls ih =>
    rw [ents_cons, List.length_append, List.length_cons]
    have := entBytes_fits (i := e.i) (t := e.t) (d := e.d)
    omega

theorem bytes_len (m : Msg) : (msgBytes m).length ≤ 60000 := by
  unfold msgBytes
  split
  · rename_i h
    obtain ⟨_, _, _, _, _, _, _, _, h4, _, h7, h8, h5⟩ := right_nums h
    have he := ents_most m.es
    unfold msgL
    simp only [List.length_append, wide_length]
    have n8 : ∀ n, (num8 n).length = 8 := fun n => by simp [num8]
    have hf : (flagL m.b).length = 1 := rfl
    rw [n8, n8, n8, n8, n8, hf]
    by_cases hk : m.k = 7
    · rw [if_pos hk]
      have hs := snapBytes_fits (i := m.s.i) (t := m.s.t) (d := m.s.d)
      have := (snapB_nums (h7 hk)).2.2
      have := h5 (by omega)
      omega
    · rw [if_neg hk]
      simp only [List.length_nil]
      omega
  · simp

set_option maxRecDepth 100000 in
set_option maxHeartbeats 6400000 in
theorem walk (m : Msg) (A : Option Addr) (cA : Nat) (E : Option Addr) (cE : Nat) (w : World) (h : MsgIn w (· < w.heap.size) m A cA E cE) (hd : ∀ e ∈ m.es, e.d.length ≤ 140737488355328) :
    Calls Try.prog 4 #[msgV m A cA E cE] w fun e w' => e = .returned (.bool true) ∧ Below w.heap.size w w' := by
  have hF := fun W (hW : Below w.heap.size w W) => fewM_any m A cA E cE W _ (h.below hW (Nat.le_refl _)) hd
  have hRR := fun W (hW : Below w.heap.size w W) => rightMR_any m A cA E cE W _ (h.below hW (Nat.le_refl _))
  have hBy := fun W (hW : Below w.heap.size w W) => bytesM_any m A cA E cE W _ (h.below hW (Nat.le_refl _))
  have hPu := fun W p L Z hO hZ (hM : MsgIn W Z m A cA E cE) => putM_any m A cA E cE W p L Z hO hZ hM
  have hMw := fun W (hW : Below w.heap.size w W) => h.below hW (Nat.le_refl _)
  have hTl := bytes_len m
  have hbk : ∃ F, fromM (some (msgBytes m)) = F ∧ ((rightM m = true ∧ F = (m, some [])) ∨ (rightM m = false ∧ F = (Msg.zero, none))) := by
    refine ⟨_, rfl, ?_⟩
    unfold msgBytes
    cases hq : rightM m with
    | true =>
      rw [if_pos rfl]
      have := from_backM m [] hq
      rw [List.append_nil] at this
      exact .inl ⟨rfl, this⟩
    | false =>
      rw [if_neg (by simp)]
      exact .inr ⟨rfl, from_zeroM⟩
  generalize msgBytes m = T at *
  have hSS := fun W A1 cA1 E1 cE1 Z Y (h1 : MsgIn W Z m A1 cA1 E1 cE1) (h2 : MsgIn W Y m A cA E cE) => sameMR_any m m A1 cA1 E1 cE1 A cA E cE W Z Y h1 h2
  simp only [sameM_refl] at hSS
  generalize fewM m = q1 at *
  generalize rightM m = q2 at *
  clear h hd
  obtain ⟨k, f, o, t, i, l, c, x, b, es, si, st, sd⟩ := m
  dsimp only [msgV] at *
  have hb0 : Below w.heap.size w (w.alloc (.cells (mC k f o t i l c x b A es.length cA si st E sd.length cE) 27)) := (Below.refl _ _).alloc (Nat.le_refl _) _
  have hr1 := heap_alloc_new w (.cells (mC k f o t i l c x b A es.length cA si st E sd.length cE) 27)
  go_enter Try.func4, Try.ntmps4
  go_wp2_with fail
  refine (awake_any _).mono ?_
  rintro e w1 ⟨rfl, hb1⟩
  have hbw1 := hb0.trans (hb1.mono hb0.size)
  have hr1 := (hb1.block _ (hlt hr1)).trans hr1
  obtain ⟨⟨u0, u1, u2, u3, u4, u5, u6, u7, u8, u9, u10, u11, u12⟩, _⟩ := row13 hr1
  have hF := hF w1 hbw1
  clear hb0 hb1
  cases q1 with
  | false =>
    go_wp2_with fail
    refine hF.mono ?_
    rintro e w2 ⟨rfl, hb2⟩
    have hbw2 := hbw1.trans (hb2.mono hbw1.size)
    go_wp2_with fail
    refine (awake_any _).mono ?_
    rintro e w9 ⟨rfl, hb9⟩
    go_wp2
    go_ret
    exact ⟨rfl, hbw2.trans (hb9.mono hbw2.size)⟩
  | true =>
  go_wp2_with fail
  refine hF.mono ?_
  rintro e w2 ⟨rfl, hb2⟩
  have hbw2 := hbw1.trans (hb2.mono hbw1.size)
  have hr2 := (hb2.block _ (hlt hr1)).trans hr1
  clear u0 u1 u2 u3 u4 u5 u6 u7 u8 u9 u10 u11 u12 hF hb2 hbw1 hr1
  obtain ⟨⟨v0, v1, v2, v3, v4, v5, v6, v7, v8, v9, v10, v11, v12⟩, _⟩ := row13 hr2
  have hs2 : w.heap.size < w2.heap.size := hlt hr2
  have ho2 := out_new w2 (· < w2.heap.size) (fun k hk => hk)
  have hA2 := (Below.refl w2.heap.size w2).alloc (Nat.le_refl _) (.cells #[.slice none 0 0, .bool false] 36)
  have hbwO := hbw2.trans (hA2.mono hbw2.size)
  have hrO := (hA2.block _ (hlt hr2)).trans hr2
  have hsO : w2.heap.size ≤ (w2.alloc (.cells #[.slice none 0 0, .bool false] 36)).heap.size := hA2.size
  go_wp2_with fail
  refine (to_is k f o t i l c x b A es.length cA si st E sd.length cE _).mono ?_
  rintro e w3 ⟨rfl, hb3⟩
  have hbw3 := hbwO.trans (hb3.mono hbwO.size)
  have hr3 := (hb3.block _ (hlt hrO)).trans hrO
  have hO3 := ho2.below hb3 (Nat.le_refl _)
  have hZ3 : ∀ k, k < w2.heap.size → k < w3.heap.size := fun k hk => Nat.lt_of_lt_of_le hk (Nat.le_trans hsO hb3.size)
  have hold : ∀ k, k < w.heap.size → k < w2.heap.size := fun k hk => Nat.lt_trans hk hs2
  have hP := hPu w3 w2.heap.size [] (· < w2.heap.size) hO3 hZ3 ((hMw w3 hbw3).mono hold)
  rw [List.nil_append] at hP
  clear v0 v1 v2 v3 v4 v5 v6 v7 v8 v9 v10 v11 v12 hPu ho2 hA2 hbwO hrO hsO hb3 hr2 hO3
  go_wp2_with fail
  refine hP.mono ?_
  rintro e w4 ⟨rfl, hO4, k4⟩
  have hbw4 := below_keeps hbw3 k4 hold hbw3.size
  have hr4 := (k4.block _ (hlt hr3) hs2).trans hr3
  have hE := end_fits w4 w2.heap.size T _ hO4 hTl
  obtain ⟨z, hz⟩ : ∃ z, z = T.length := ⟨_, rfl⟩
  rw [← hz] at hE hTl hBy
  have HZ := Lib.hid hz
  clear hP hr3 hO4 k4 hbw3 hz
  go_wp2_with fail
  refine hE.mono ?_
  rintro e w5 ⟨A5, cap5, rfl, hl5, _, hb5⟩
  have hbw5 := hbw4.trans (hb5.mono hbw4.size)
  have hr5 := (hb5.block _ (hlt hr4)).trans hr4
  have hcv : ∀ W, Below w5.heap.size w5 W → (convert 23 9 (.slice A5 z cap5)).run Try.prog W = .ok (.string ⟨T.toArray⟩) W := fun W hW => (hl5.below hW (Nat.le_refl _)).text Try.underlying23 Try.underlying5 Try.underlying9
  have hcv2 : ∀ W A6 c6, Lies W A6 z c6 T → (convert 23 9 (.slice A6 z c6)).run Try.prog W = .ok (.string ⟨T.toArray⟩) W := fun W A6 c6 hl => hl.text Try.underlying23 Try.underlying5 Try.underlying9
  obtain ⟨TX, hTX⟩ : ∃ X : ByteArray, X = ⟨T.toArray⟩ := ⟨_, rfl⟩
  rw [← hTX] at hcv hcv2
  clear hE hb5 hr4 hbw4 hTX
  go_upto_region 6 with fail
  have hst : ∀ W W', Below w5.heap.size w5 W → Below W.heap.size W W' → (fun w' => Below w5.heap.size w5 w' ∧ (w'.cell? ⟨w.heap.size, 0, none⟩ = some (.int .i64 k) ∧ w'.cell? ⟨w.heap.size, 1, none⟩ = some (.int .i64 f) ∧ w'.cell? ⟨w.heap.size, 2, none⟩ = some (.int .i64 o) ∧ w'.cell? ⟨w.heap.size, 3, none⟩ = some (.int .i64 t) ∧ w'.cell? ⟨w.heap.size, 4, none⟩ = some (.int .i64 i) ∧ w'.cell? ⟨w.heap.size, 5, none⟩ = some (.int .i64 l) ∧ w'.cell? ⟨w.heap.size, 6, none⟩ = some (.int .i64 c) ∧ w'.cell? ⟨w.heap.size, 7, none⟩ = some (.int .i64 x) ∧ w'.cell? ⟨w.heap.size, 8, none⟩ = some (.bool b) ∧ w'.cell? ⟨w.heap.size, 9, none⟩ = some (.slice A es.length cA) ∧ w'.cell? ⟨w.heap.size, 10, none⟩ = some (.int .i64 si) ∧ w'.cell? ⟨w.heap.size, 11, none⟩ = some (.int .i64 st) ∧ w'.cell? ⟨w.heap.size, 12, none⟩ = some (.slice E sd.length cE)) ∧ (convert 23 9 (.slice A5 z cap5)).run Try.prog w' = .ok (.string TX) w') W' := fun W W' h1 h2 => by
    have h3 := h1.trans (h2.mono h1.size)
    exact ⟨h3, (row13 ((h3.block _ (hlt hr5)).trans hr5)).1, hcv _ h3⟩
  have hup := fun W (hW : Below w5.heap.size w5 W) => hbw5.trans (hW.mono hbw5.size)
  have hS0 : (fun w' => Below w5.heap.size w5 w' ∧ (w'.cell? ⟨w.heap.size, 0, none⟩ = some (.int .i64 k) ∧ w'.cell? ⟨w.heap.size, 1, none⟩ = some (.int .i64 f) ∧ w'.cell? ⟨w.heap.size, 2, none⟩ = some (.int .i64 o) ∧ w'.cell? ⟨w.heap.size, 3, none⟩ = some (.int .i64 t) ∧ w'.cell? ⟨w.heap.size, 4, none⟩ = some (.int .i64 i) ∧ w'.cell? ⟨w.heap.size, 5, none⟩ = some (.int .i64 l) ∧ w'.cell? ⟨w.heap.size, 6, none⟩ = some (.int .i64 c) ∧ w'.cell? ⟨w.heap.size, 7, none⟩ = some (.int .i64 x) ∧ w'.cell? ⟨w.heap.size, 8, none⟩ = some (.bool b) ∧ w'.cell? ⟨w.heap.size, 9, none⟩ = some (.slice A es.length cA) ∧ w'.cell? ⟨w.heap.size, 10, none⟩ = some (.int .i64 si) ∧ w'.cell? ⟨w.heap.size, 11, none⟩ = some (.int .i64 st) ∧ w'.cell? ⟨w.heap.size, 12, none⟩ = some (.slice E sd.length cE)) ∧ (convert 23 9 (.slice A5 z cap5)).run Try.prog w' = .ok (.string TX) w') w5.drew := by
    have h := hst w5 w5.drew (Below.refl _ _) (Below.refl _ _).drew
    exact h
  refine wp_region_held_drew (S := (fun w' => Below w5.heap.size w5 w' ∧ (w'.cell? ⟨w.heap.size, 0, none⟩ = some (.int .i64 k) ∧ w'.cell? ⟨w.heap.size, 1, none⟩ = some (.int .i64 f) ∧ w'.cell? ⟨w.heap.size, 2, none⟩ = some (.int .i64 o) ∧ w'.cell? ⟨w.heap.size, 3, none⟩ = some (.int .i64 t) ∧ w'.cell? ⟨w.heap.size, 4, none⟩ = some (.int .i64 i) ∧ w'.cell? ⟨w.heap.size, 5, none⟩ = some (.int .i64 l) ∧ w'.cell? ⟨w.heap.size, 6, none⟩ = some (.int .i64 c) ∧ w'.cell? ⟨w.heap.size, 7, none⟩ = some (.int .i64 x) ∧ w'.cell? ⟨w.heap.size, 8, none⟩ = some (.bool b) ∧ w'.cell? ⟨w.heap.size, 9, none⟩ = some (.slice A es.length cA) ∧ w'.cell? ⟨w.heap.size, 10, none⟩ = some (.int .i64 si) ∧ w'.cell? ⟨w.heap.size, 11, none⟩ = some (.int .i64 st) ∧ w'.cell? ⟨w.heap.size, 12, none⟩ = some (.slice E sd.length cE)) ∧ (convert 23 9 (.slice A5 z cap5)).run Try.prog w' = .ok (.string TX) w')) (by kernel_rfl) hS0 (fun hHeld => ?_)
  change wpAnyH _ _ _ _ _ 10 #[false, false, false, false, false, false, false, false, false, false] _ _
  refine wpAnyH_take (i := 0) (oi := { dst := some 23, op := Go.Op.move (Go.Operand.tmp 5), type := 39, pos := "law.go:40", after := #[], guard := none }) (v := ?_) rfl (by kernel_rfl) (by kernel_rfl) (by kernel_rfl) (fun _ _ _ h => h) (Or.inl ⟨by rfl, ?_⟩) (by assumption) ?_
  rotate_left
  · ((intro w hSw; (try dsimp only at hSw); go_simp); (try with_reducible rfl))
  try simp only [Act.put, List.setIfInBounds_toArray, List.set_cons_zero, List.set_cons_succ]
  refine wpAnyH_take (i := 1) (oi := { dst := some 24, op := Go.Op.binOp Go.BinOp.neq 39 (Go.Operand.tmp 23) (Go.Operand.const (Go.Value.int Go.IntKind.i64 0)) 39, type := 4, pos := "law.go:40", after := #[{ on := 0, ground := Go.Ground.data }], guard := none }) (v := ?_) rfl (by kernel_rfl) (by kernel_rfl) (by kernel_rfl) (fun _ _ _ h => h) (Or.inl ⟨by rfl, ?_⟩) (by assumption) ?_
  rotate_left
  · ((intro w hSw; (try dsimp only at hSw); go_simp); (try with_reducible rfl))
  try simp only [Act.put, List.setIfInBounds_toArray, List.set_cons_zero, List.set_cons_succ]
  refine wpAnyH_take (i := 2) (oi := { dst := some 25, op := Go.Op.move (Go.Operand.tmp 24), type := 4, pos := "law.go:40", after := #[{ on := 1, ground := Go.Ground.data }], guard := none }) (v := ?_) rfl (by kernel_rfl) (by kernel_rfl) (by kernel_rfl) (fun _ _ _ h => h) (Or.inl ⟨by rfl, ?_⟩) (by assumption) ?_
  rotate_left
  · ((intro w hSw; (try dsimp only at hSw); go_simp); (try with_reducible rfl))
  try simp only [Act.put, List.setIfInBounds_toArray, List.set_cons_zero, List.set_cons_succ]
  refine wpAnyH_take (i := 3) (oi := { dst := some 26, op := Go.Op.move (Go.Operand.tmp 4), type := 23, pos := "law.go:40", after := #[{ on := 2, ground := Go.Ground.guard }], guard := some (2, false) }) (v := ?_) rfl (by kernel_rfl) (by kernel_rfl) (by kernel_rfl) (fun _ _ _ h => h) (Or.inl ⟨by rfl, ?_⟩) (by assumption) ?_
  rotate_left
  · ((intro w hSw; (try dsimp only at hSw); go_simp); (try with_reducible rfl))
  try simp only [Act.put, List.setIfInBounds_toArray, List.set_cons_zero, List.set_cons_succ]
  refine wpAnyH_take (i := 4) (oi := { dst := some 27, op := Go.Op.convert 23 9 (Go.Operand.tmp 26), type := 9, pos := "law.go:40", after := #[{ on := 3, ground := Go.Ground.data }, { on := 2, ground := Go.Ground.guard }], guard := some (2, false) }) (v := ?_) rfl (by kernel_rfl) (by kernel_rfl) (by kernel_rfl) (fun _ _ _ h => h) (Or.inl ⟨by rfl, ?_⟩) (by assumption) ?_
  rotate_left
  · ((intro w hSw; (try dsimp only at hSw); go_simp); (try with_reducible rfl))
  try simp only [Act.put, List.setIfInBounds_toArray, List.set_cons_zero, List.set_cons_succ]
  refine wpAnyH_take (i := 5) (oi := { dst := some 28, op := Go.Op.load 27 (Go.Operand.tmp 1), type := 27, pos := "law.go:40", after := #[{ on := 2, ground := Go.Ground.guard }], guard := some (2, false) }) (v := ?_) rfl (by kernel_rfl) (by kernel_rfl) (by kernel_rfl) (fun _ _ _ h => h) (Or.inl ⟨by rfl, ?_⟩) (by assumption) ?_
  rotate_left
  · ((intro w hSw; (try dsimp only at hSw); go_simp); (try with_reducible rfl))
  try simp only [Act.put, List.setIfInBounds_toArray, List.set_cons_zero, List.set_cons_succ]
  refine wpAnyH_ready (rs := [6]) (by kernel_rfl) (by simp) ?_
  refine AllReadyH.cons (o := { dst := some 29, op := Go.Op.call { callee := Go.Callee.value (Go.Operand.func 16), args := #[Go.Operand.tmp 28], argTypes := #[27] }, type := 23, pos := "law.go:40", after := #[{ on := 5, ground := Go.Ground.data }, { on := 2, ground := Go.Ground.chain }, { on := 2, ground := Go.Ground.guard }], guard := some (2, false) }) rfl (fun KK hK => ?_) AllReadyH.nil
  go_simp
  refine (hBy _ (hup _ hHeld.1)).mono ?_
  rintro e y6 ⟨A6, c6, rfl, ho6, hb6⟩
  have hl6 := owns_lies ho6
  have hc6 := hcv2 y6 A6 c6 hl6
  have hS7 := hst _ y6 hHeld.1 hb6
  have hB6 := hS7.1
  refine hK.out _ _ hS7 (fun hHeld2 => ?_)
  clear hK KK hHeld
  have hHeld := hHeld2
  clear hHeld2
  try simp only [Act.put, List.setIfInBounds_toArray, List.set_cons_zero, List.set_cons_succ]
  refine wpAnyH_ready (rs := [7]) (by kernel_rfl) (by simp) ?_
  refine AllReadyH.cons (o := { dst := some 30, op := Go.Op.convert 23 9 (Go.Operand.tmp 29), type := 9, pos := "law.go:40", after := #[{ on := 6, ground := Go.Ground.data }, { on := 2, ground := Go.Ground.guard }], guard := some (2, false) }) rfl (fun KK hK => ?_) AllReadyH.nil
  go_simp
  have hS7 := hst _ y6 hB6 (Below.refl _ _)
  refine hK.out _ _ hS7 (fun hHeld2 => ?_)
  clear hK KK hHeld
  have hHeld := hHeld2
  clear hHeld2
  try simp only [Act.put, List.setIfInBounds_toArray, List.set_cons_zero, List.set_cons_succ]
  refine wpAnyH_take (i := 8) (oi := { dst := some 31, op := Go.Op.binOp Go.BinOp.neq 9 (Go.Operand.tmp 27) (Go.Operand.tmp 30) 9, type := 4, pos := "law.go:40", after := #[{ on := 4, ground := Go.Ground.data }, { on := 7, ground := Go.Ground.data }, { on := 2, ground := Go.Ground.guard }], guard := some (2, false) }) (v := ?_) rfl (by kernel_rfl) (by kernel_rfl) (by kernel_rfl) (fun _ _ _ h => h) (Or.inl ⟨by rfl, ?_⟩) (by assumption) ?_
  rotate_left
  · ((intro w hSw; (try dsimp only at hSw); go_simp); (try with_reducible rfl))
  try simp only [Act.put, List.setIfInBounds_toArray, List.set_cons_zero, List.set_cons_succ]
  refine wpAnyH_take (i := 9) (oi := { dst := some 32, op := Go.Op.pick (Go.Operand.tmp 25) (Go.Operand.const (Go.Value.bool true)) (Go.Operand.tmp 31), type := 4, pos := "law.go:40", after := #[{ on := 2, ground := Go.Ground.data }, { on := 8, ground := Go.Ground.data }], guard := none }) (v := ?_) rfl (by kernel_rfl) (by kernel_rfl) (by kernel_rfl) (fun _ _ _ h => h) (Or.inl ⟨by rfl, ?_⟩) (by assumption) ?_
  rotate_left
  · ((intro w hSw; (try dsimp only at hSw); go_simp); (try with_reducible rfl))
  try simp only [Act.put, List.setIfInBounds_toArray, List.set_cons_zero, List.set_cons_succ]
  refine wpAnyH_done (by kernel_rfl) ?_ _
  have hby := hHeld.1
  have hbwy := hup _ hby
  have hry := (hby.block _ (hlt hr5)).trans hr5
  have hly := hl5.below hby (Nat.le_refl _)
  clear hst hup hS0 hHeld hcv hcv2 hBy hl5 hr5 hbw5 hc6 hl6 ho6 hb6 hB6
  have hN := newIn_any A5 z cap5 T y6 (· < y6.heap.size) (fun k hk => hk) hly (by rw [← show z = T.length from HZ]; omega)
  go_wp2_with fail
  refine hN.mono ?_
  rintro e w8 ⟨iN, rfl, hI8, hb8⟩
  have hbw8 := hbwy.trans (hb8.mono hbwy.size)
  have hr8 := (hb8.block _ (hlt hry)).trans hry
  have hI8 : In w8 iN (some T) (fun q => q < y6.heap.size ∨ w8.heap.size ≤ q) := hI8.out fun q hq => hq
  have hlT : left (some T) ≤ 140737488355328 := by show T.length ≤ _; rw [← show z = T.length from HZ]; omega
  have hG := getM_any w8 iN (some T) _ hI8 (fun k hk => .inr hk) hlT
  obtain ⟨F, hF, hFc⟩ := hbk
  rw [hF] at hG
  have hys := hlt hry
  have hwy := hbwy.size
  have hold2 : ∀ k, k < w.heap.size → (k < y6.heap.size ∨ w8.heap.size ≤ k) := fun k hk => .inl (Nat.lt_of_lt_of_le hk hwy)
  clear hN hly hry hbwy hb8 hI8 hlT hF hby hTl
  rcases hFc with ⟨rfl, rfl⟩ | ⟨rfl, rfl⟩
  · dsimp only [msgV] at hG
    go_wp2_with fail
    refine hG.mono ?_
    rintro e w9 ⟨A9, cA9, E9, cE9, rfl, hM9, hI9, k9⟩
    have hbw9 := below_keeps hbw8 k9 hold2 hbw8.size
    have hr9 := (k9.block _ (hlt hr8) (.inl hys)).trans hr8
    have hA := (Below.refl w9.heap.size w9).alloc (Nat.le_refl _) (.cells (mC k f o t i l c x b A9 es.length cA9 si st E9 sd.length cE9) 30)
    have hq := heap_alloc_new w9 (.cells (mC k f o t i l c x b A9 es.length cA9 si st E9 sd.length cE9) 30)
    have hbwa := hbw9.trans (hA.mono hbw9.size)
    have hra := (hA.block _ (hlt hr9)).trans hr9
    have hRR := hRR _ hbwa
    obtain ⟨⟨a0, a1, a2, a3, a4, a5, a6, a7, a8, a9, a10, a11, a12⟩, _⟩ := row13 hra
    clear hG
    go_wp2_with fail
    refine hRR.mono ?_
    rintro e w10 ⟨rfl, hb10⟩
    have hbw10 := hbwa.trans (hb10.mono hbwa.size)
    have hr10 := (hb10.block _ (hlt hra)).trans hra
    have hq10 := (hb10.block _ (hlt hq)).trans hq
    have hI10 := (hI9.below hA (Nat.le_refl _)).below hb10 (Nat.le_refl _)
    have hM10 := (hM9.below hA (Nat.le_refl _)).below hb10 (Nat.le_refl _)
    clear a0 a1 a2 a3 a4 a5 a6 a7 a8 a9 a10 a11 a12 hRR hr8 hr9 hq hra hA hI9 hM9 k9 hb10
    have hst : ∀ W W', Below w10.heap.size w10 W → Below W.heap.size W W' → (fun w' => Below w10.heap.size w10 w' ∧ (w'.cell? ⟨w.heap.size, 0, none⟩ = some (.int .i64 k) ∧ w'.cell? ⟨w.heap.size, 1, none⟩ = some (.int .i64 f) ∧ w'.cell? ⟨w.heap.size, 2, none⟩ = some (.int .i64 o) ∧ w'.cell? ⟨w.heap.size, 3, none⟩ = some (.int .i64 t) ∧ w'.cell? ⟨w.heap.size, 4, none⟩ = some (.int .i64 i) ∧ w'.cell? ⟨w.heap.size, 5, none⟩ = some (.int .i64 l) ∧ w'.cell? ⟨w.heap.size, 6, none⟩ = some (.int .i64 c) ∧ w'.cell? ⟨w.heap.size, 7, none⟩ = some (.int .i64 x) ∧ w'.cell? ⟨w.heap.size, 8, none⟩ = some (.bool b) ∧ w'.cell? ⟨w.heap.size, 9, none⟩ = some (.slice A es.length cA) ∧ w'.cell? ⟨w.heap.size, 10, none⟩ = some (.int .i64 si) ∧ w'.cell? ⟨w.heap.size, 11, none⟩ = some (.int .i64 st) ∧ w'.cell? ⟨w.heap.size, 12, none⟩ = some (.slice E sd.length cE)) ∧ (w'.cell? ⟨w9.heap.size, 0, none⟩ = some (.int .i64 k) ∧ w'.cell? ⟨w9.heap.size, 1, none⟩ = some (.int .i64 f) ∧ w'.cell? ⟨w9.heap.size, 2, none⟩ = some (.int .i64 o) ∧ w'.cell? ⟨w9.heap.size, 3, none⟩ = some (.int .i64 t) ∧ w'.cell? ⟨w9.heap.size, 4, none⟩ = some (.int .i64 i) ∧ w'.cell? ⟨w9.heap.size, 5, none⟩ = some (.int .i64 l) ∧ w'.cell? ⟨w9.heap.size, 6, none⟩ = some (.int .i64 c) ∧ w'.cell? ⟨w9.heap.size, 7, none⟩ = some (.int .i64 x) ∧ w'.cell? ⟨w9.heap.size, 8, none⟩ = some (.bool b) ∧ w'.cell? ⟨w9.heap.size, 9, none⟩ = some (.slice A9 es.length cA9) ∧ w'.cell? ⟨w9.heap.size, 10, none⟩ = some (.int .i64 si) ∧ w'.cell? ⟨w9.heap.size, 11, none⟩ = some (.int .i64 st) ∧ w'.cell? ⟨w9.heap.size, 12, none⟩ = some (.slice E9 sd.length cE9))) W' := fun W W' h1 h2 => by
      have h3 := h1.trans (h2.mono h1.size)
      exact ⟨h3, (row13 ((h3.block _ (hlt hr10)).trans hr10)).1, (row13 ((h3.block _ (hlt hq10)).trans hq10)).1⟩
    have hup := fun W (hW : Below w10.heap.size w10 W) => hbw10.trans (hW.mono hbw10.size)
    have hS0 : (fun w' => Below w10.heap.size w10 w' ∧ (w'.cell? ⟨w.heap.size, 0, none⟩ = some (.int .i64 k) ∧ w'.cell? ⟨w.heap.size, 1, none⟩ = some (.int .i64 f) ∧ w'.cell? ⟨w.heap.size, 2, none⟩ = some (.int .i64 o) ∧ w'.cell? ⟨w.heap.size, 3, none⟩ = some (.int .i64 t) ∧ w'.cell? ⟨w.heap.size, 4, none⟩ = some (.int .i64 i) ∧ w'.cell? ⟨w.heap.size, 5, none⟩ = some (.int .i64 l) ∧ w'.cell? ⟨w.heap.size, 6, none⟩ = some (.int .i64 c) ∧ w'.cell? ⟨w.heap.size, 7, none⟩ = some (.int .i64 x) ∧ w'.cell? ⟨w.heap.size, 8, none⟩ = some (.bool b) ∧ w'.cell? ⟨w.heap.size, 9, none⟩ = some (.slice A es.length cA) ∧ w'.cell? ⟨w.heap.size, 10, none⟩ = some (.int .i64 si) ∧ w'.cell? ⟨w.heap.size, 11, none⟩ = some (.int .i64 st) ∧ w'.cell? ⟨w.heap.size, 12, none⟩ = some (.slice E sd.length cE)) ∧ (w'.cell? ⟨w9.heap.size, 0, none⟩ = some (.int .i64 k) ∧ w'.cell? ⟨w9.heap.size, 1, none⟩ = some (.int .i64 f) ∧ w'.cell? ⟨w9.heap.size, 2, none⟩ = some (.int .i64 o) ∧ w'.cell? ⟨w9.heap.size, 3, none⟩ = some (.int .i64 t) ∧ w'.cell? ⟨w9.heap.size, 4, none⟩ = some (.int .i64 i) ∧ w'.cell? ⟨w9.heap.size, 5, none⟩ = some (.int .i64 l) ∧ w'.cell? ⟨w9.heap.size, 6, none⟩ = some (.int .i64 c) ∧ w'.cell? ⟨w9.heap.size, 7, none⟩ = some (.int .i64 x) ∧ w'.cell? ⟨w9.heap.size, 8, none⟩ = some (.bool b) ∧ w'.cell? ⟨w9.heap.size, 9, none⟩ = some (.slice A9 es.length cA9) ∧ w'.cell? ⟨w9.heap.size, 10, none⟩ = some (.int .i64 si) ∧ w'.cell? ⟨w9.heap.size, 11, none⟩ = some (.int .i64 st) ∧ w'.cell? ⟨w9.heap.size, 12, none⟩ = some (.slice E9 sd.length cE9))) w10.drew := hst w10 w10.drew (Below.refl _ _) (Below.refl _ _).drew
    have hD : Calls Try.prog 20 #[.pointer (some ⟨iN, 0, none⟩)] w10.drew fun e w' => e = .returned (.bool true) ∧ w10.drew = w' := by
      have h1 := done_any w10.drew iN (some []) _ (hI10.below (Below.refl _ _).drew (Nat.le_refl _))
      rw [show decide ((some [] : St) = some []) = true from decide_eq_true rfl] at h1
      exact h1
    go_upto_region 12 with fail
    refine wp_region_held_drew (S := (fun w' => Below w10.heap.size w10 w' ∧ (w'.cell? ⟨w.heap.size, 0, none⟩ = some (.int .i64 k) ∧ w'.cell? ⟨w.heap.size, 1, none⟩ = some (.int .i64 f) ∧ w'.cell? ⟨w.heap.size, 2, none⟩ = some (.int .i64 o) ∧ w'.cell? ⟨w.heap.size, 3, none⟩ = some (.int .i64 t) ∧ w'.cell? ⟨w.heap.size, 4, none⟩ = some (.int .i64 i) ∧ w'.cell? ⟨w.heap.size, 5, none⟩ = some (.int .i64 l) ∧ w'.cell? ⟨w.heap.size, 6, none⟩ = some (.int .i64 c) ∧ w'.cell? ⟨w.heap.size, 7, none⟩ = some (.int .i64 x) ∧ w'.cell? ⟨w.heap.size, 8, none⟩ = some (.bool b) ∧ w'.cell? ⟨w.heap.size, 9, none⟩ = some (.slice A es.length cA) ∧ w'.cell? ⟨w.heap.size, 10, none⟩ = some (.int .i64 si) ∧ w'.cell? ⟨w.heap.size, 11, none⟩ = some (.int .i64 st) ∧ w'.cell? ⟨w.heap.size, 12, none⟩ = some (.slice E sd.length cE)) ∧ (w'.cell? ⟨w9.heap.size, 0, none⟩ = some (.int .i64 k) ∧ w'.cell? ⟨w9.heap.size, 1, none⟩ = some (.int .i64 f) ∧ w'.cell? ⟨w9.heap.size, 2, none⟩ = some (.int .i64 o) ∧ w'.cell? ⟨w9.heap.size, 3, none⟩ = some (.int .i64 t) ∧ w'.cell? ⟨w9.heap.size, 4, none⟩ = some (.int .i64 i) ∧ w'.cell? ⟨w9.heap.size, 5, none⟩ = some (.int .i64 l) ∧ w'.cell? ⟨w9.heap.size, 6, none⟩ = some (.int .i64 c) ∧ w'.cell? ⟨w9.heap.size, 7, none⟩ = some (.int .i64 x) ∧ w'.cell? ⟨w9.heap.size, 8, none⟩ = some (.bool b) ∧ w'.cell? ⟨w9.heap.size, 9, none⟩ = some (.slice A9 es.length cA9) ∧ w'.cell? ⟨w9.heap.size, 10, none⟩ = some (.int .i64 si) ∧ w'.cell? ⟨w9.heap.size, 11, none⟩ = some (.int .i64 st) ∧ w'.cell? ⟨w9.heap.size, 12, none⟩ = some (.slice E9 sd.length cE9)))) (by kernel_rfl) hS0 (fun hHeld => ?_)
    change wpAnyH _ _ _ _ _ 9 #[false, false, false, false, false, false, false, false, false] _ _
    refine wpAnyH_take (i := 0) (oi := { dst := some 47, op := Go.Op.move (Go.Operand.tmp 6), type := 43, pos := "law.go:48", after := #[], guard := none }) (v := ?_) rfl (by kernel_rfl) (by kernel_rfl) (by kernel_rfl) (fun _ _ _ h => h) (Or.inl ⟨by rfl, ?_⟩) (by assumption) ?_
    rotate_left
    · ((intro w hSw; (try dsimp only at hSw); go_simp); (try with_reducible rfl))
    try simp only [Act.put, List.setIfInBounds_toArray, List.set_cons_zero, List.set_cons_succ]
    refine wpAnyH_ready (rs := [1]) (by kernel_rfl) (by simp) ?_
    refine AllReadyH.cons (o := { dst := some 48, op := Go.Op.call { callee := Go.Callee.value (Go.Operand.func 20), args := #[Go.Operand.tmp 47], argTypes := #[43] }, type := 4, pos := "law.go:48", after := #[{ on := 0, ground := Go.Ground.data }], guard := none }) rfl (fun KK hK => ?_) AllReadyH.nil
    go_simp
    refine hD.mono ?_
    rintro e y1 ⟨rfl, rfl⟩
    refine hK.out _ _ hHeld (fun hHeld2 => ?_)
    clear hK KK hHeld
    have hHeld := hHeld2
    clear hHeld2
    try simp only [Act.put, List.setIfInBounds_toArray, List.set_cons_zero, List.set_cons_succ]
    refine wpAnyH_take (i := 2) (oi := { dst := some 49, op := Go.Op.move (Go.Operand.tmp 48), type := 4, pos := "law.go:48", after := #[{ on := 1, ground := Go.Ground.data }, { on := 1, ground := Go.Ground.chain }], guard := none }) (v := ?_) rfl (by kernel_rfl) (by kernel_rfl) (by kernel_rfl) (fun _ _ _ h => h) (Or.inl ⟨by rfl, ?_⟩) (by assumption) ?_
    rotate_left
    · ((intro w hSw; (try dsimp only at hSw); go_simp); (try with_reducible rfl))
    try simp only [Act.put, List.setIfInBounds_toArray, List.set_cons_zero, List.set_cons_succ]
    refine wpAnyH_take (i := 3) (oi := { dst := some 50, op := Go.Op.load 30 (Go.Operand.tmp 7), type := 30, pos := "law.go:48", after := #[{ on := 2, ground := Go.Ground.guard }], guard := some (2, true) }) (v := ?_) rfl (by kernel_rfl) (by kernel_rfl) (by kernel_rfl) (fun _ _ _ h => h) (Or.inl ⟨by rfl, ?_⟩) (by assumption) ?_
    rotate_left
    · ((intro w hSw; (try dsimp only at hSw); go_simp); (try with_reducible rfl))
    try simp only [Act.put, List.setIfInBounds_toArray, List.set_cons_zero, List.set_cons_succ]
    refine wpAnyH_take (i := 5) (oi := { dst := some 52, op := Go.Op.load 27 (Go.Operand.tmp 1), type := 27, pos := "law.go:48", after := #[{ on := 2, ground := Go.Ground.guard }], guard := some (2, true) }) (v := ?_) rfl (by kernel_rfl) (by kernel_rfl) (by kernel_rfl) (fun _ _ _ h => h) (Or.inl ⟨by rfl, ?_⟩) (by assumption) ?_
    rotate_left
    · ((intro w hSw; (try dsimp only at hSw); go_simp); (try with_reducible rfl))
    try simp only [Act.put, List.setIfInBounds_toArray, List.set_cons_zero, List.set_cons_succ]
    refine wpAnyH_ready (rs := [4]) (by kernel_rfl) (by simp) ?_
    refine AllReadyH.cons (o := { dst := some 51, op := Go.Op.call { callee := Go.Callee.value (Go.Operand.func 21), args := #[Go.Operand.tmp 50], argTypes := #[30] }, type := 27, pos := "law.go:48", after := #[{ on := 3, ground := Go.Ground.data }, { on := 2, ground := Go.Ground.chain }, { on := 2, ground := Go.Ground.guard }], guard := some (2, true) }) rfl (fun KK hK => ?_) AllReadyH.nil
    go_simp
    refine (of_is k f o t i l c x b A9 es.length cA9 si st E9 sd.length cE9 _).mono ?_
    rintro e y4 ⟨rfl, hb4⟩
    have hS7 := hst _ y4 hHeld.1 hb4
    refine hK.out _ _ hS7 (fun hHeld2 => ?_)
    clear hK KK hHeld
    have hHeld := hHeld2
    clear hHeld2
    try simp only [Act.put, List.setIfInBounds_toArray, List.set_cons_zero, List.set_cons_succ]
    refine wpAnyH_ready (rs := [6]) (by kernel_rfl) (by simp) ?_
    refine AllReadyH.cons (o := { dst := some 53, op := Go.Op.call { callee := Go.Callee.value (Go.Operand.func 13), args := #[Go.Operand.tmp 51, Go.Operand.tmp 52], argTypes := #[27, 27] }, type := 4, pos := "law.go:48", after := #[{ on := 4, ground := Go.Ground.data }, { on := 5, ground := Go.Ground.data }, { on := 4, ground := Go.Ground.chain }, { on := 2, ground := Go.Ground.guard }], guard := some (2, true) }) rfl (fun KK hK => ?_) AllReadyH.nil
    go_simp
    refine (hSS _ A9 cA9 E9 cE9 _ _ (hM10.below hHeld.1 (Nat.le_refl _)) (hMw _ (hup _ hHeld.1))).mono ?_
    rintro e y7 ⟨rfl, hb7⟩
    have hS7 := hst _ y7 hHeld.1 hb7
    refine hK.out _ _ hS7 (fun hHeld2 => ?_)
    clear hK KK hHeld
    have hHeld := hHeld2
    clear hHeld2
    try simp only [Act.put, List.setIfInBounds_toArray, List.set_cons_zero, List.set_cons_succ]
    refine wpAnyH_take (i := 7) (oi := { dst := some 54, op := Go.Op.pick (Go.Operand.tmp 49) (Go.Operand.tmp 53) (Go.Operand.const (Go.Value.bool false)), type := 4, pos := "law.go:48", after := #[{ on := 2, ground := Go.Ground.data }, { on := 6, ground := Go.Ground.data }], guard := none }) (v := ?_) rfl (by kernel_rfl) (by kernel_rfl) (by kernel_rfl) (fun _ _ _ h => h) (Or.inl ⟨by rfl, ?_⟩) (by assumption) ?_
    rotate_left
    · ((intro w hSw; (try dsimp only at hSw); go_simp); (try with_reducible rfl))
    try simp only [Act.put, List.setIfInBounds_toArray, List.set_cons_zero, List.set_cons_succ]
    refine wpAnyH_take (i := 8) (oi := { dst := some 2, op := Go.Op.assign (Go.Operand.tmp 54), type := 4, pos := "law.go:48", after := #[{ on := 7, ground := Go.Ground.data }, { on := 6, ground := Go.Ground.chain }, { on := 0, ground := Go.Ground.phase }, { on := 1, ground := Go.Ground.phase }, { on := 2, ground := Go.Ground.phase }, { on := 3, ground := Go.Ground.phase }, { on := 4, ground := Go.Ground.phase }, { on := 5, ground := Go.Ground.phase }, { on := 6, ground := Go.Ground.phase }, { on := 7, ground := Go.Ground.phase }], guard := none }) (v := ?_) rfl (by kernel_rfl) (by kernel_rfl) (by kernel_rfl) (fun _ _ _ h => h) (Or.inl ⟨by rfl, ?_⟩) (by assumption) ?_
    rotate_left
    · ((intro w hSw; (try dsimp only at hSw); go_simp); (try with_reducible rfl))
    try simp only [Act.put, List.setIfInBounds_toArray, List.set_cons_zero, List.set_cons_succ]
    refine wpAnyH_done (by kernel_rfl) ?_ _
    go_wp2
    go_ret
    exact ⟨rfl, hup _ hHeld.1⟩
  · unfold Msg.zero at hG
    dsimp only [msgV, List.length_nil] at hG
    go_wp2_with fail
    refine hG.mono ?_
    rintro e w9 ⟨A9, cA9, E9, cE9, rfl, hM9, hI9, k9⟩
    have hbw9 := below_keeps hbw8 k9 hold2 hbw8.size
    have hr9 := (k9.block _ (hlt hr8) (.inl hys)).trans hr8
    have hA := (Below.refl w9.heap.size w9).alloc (Nat.le_refl _) (.cells (mC 0 0 0 0 0 0 0 0 false A9 0 cA9 0 0 E9 0 cE9) 30)
    have hq := heap_alloc_new w9 (.cells (mC 0 0 0 0 0 0 0 0 false A9 0 cA9 0 0 E9 0 cE9) 30)
    have hbwa := hbw9.trans (hA.mono hbw9.size)
    have hra := (hA.block _ (hlt hr9)).trans hr9
    have hRR := hRR _ hbwa
    obtain ⟨⟨a0, a1, a2, a3, a4, a5, a6, a7, a8, a9, a10, a11, a12⟩, _⟩ := row13 hra
    clear hG
    go_wp2_with fail
    refine hRR.mono ?_
    rintro e w10 ⟨rfl, hb10⟩
    have hbw10 := hbwa.trans (hb10.mono hbwa.size)
    have hq10 := (hb10.block _ (hlt hq)).trans hq
    have hI10 := (hI9.below hA (Nat.le_refl _)).below hb10 (Nat.le_refl _)
    have hM10 := (hM9.below hA (Nat.le_refl _)).below hb10 (Nat.le_refl _)
    have hB := bad_any w10 iN none _ hI10
    have hSame := sameMP_any Msg.zero Msg.zero A9 cA9 E9 cE9 none 0 none 0 w10 _ (fun _ => True) hM10 (MsgIn.zero _ _)
    rw [sameM_refl] at hSame
    unfold Msg.zero at hSame
    dsimp only [msgV, List.length_nil] at hSame
    obtain ⟨⟨c0, c1, c2, c3, c4, c5, c6, c7, c8, c9, c10, c11, c12⟩, _⟩ := row13 hq10
    clear a0 a1 a2 a3 a4 a5 a6 a7 a8 a9 a10 a11 a12 hRR hr8 hr9 hq hra hA hI9 hM9 k9 hb10
    go_wp2_with fail
    refine hB.mono ?_
    rintro e y1 ⟨rfl, rfl⟩
    go_wp2_with fail
    refine hSame.mono ?_
    rintro e y2 ⟨rfl, hb2⟩
    go_wp2
    go_ret
    exact ⟨rfl, hbw10.trans (hb2.mono hbw10.size)⟩

end Go.Proofs.Ytlojjodgoeclfaa.rmsgPuts
