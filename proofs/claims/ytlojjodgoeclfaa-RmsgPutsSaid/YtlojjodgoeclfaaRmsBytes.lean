/- The document's Bytes, by its contract. -/
import Derived.Test.YtlojjodgoeclfaaRmsPut
import Derived.Test.YtlojjodgoeclfaaRmsRightR
import Derived.Deep.Cut
import Derived.Deep.DeepCutAuto
import Derived.Deep.RegionHeld3
import Derived.Outline
namespace Go.Proofs.Ytlojjodgoeclfaa
open Go.RowKit
set_option linter.unusedVariables false
set_option linter.unusedSimpArgs false

/-- The five numbers of a message, and the bytes of the first ones. -/
def five (t i l c x : Int) : Nat → Int
  | 0 => t
  | 1 => i
  | 2 => l
  | 3 => c
  | _ => x

def fiveL (t i l c x : Int) : Nat → List UInt8
  | 0 => []
  | j + 1 => fiveL t i l c x j ++ num8 (five t i l c x j)

theorem fiveL_len (t i l c x : Int) : ∀ j, (fiveL t i l c x j).length = 8 * j
  | 0 => rfl
  | j + 1 => by
    unfold fiveL
    rw [List.length_append, fiveL_len t i l c x j]
    simp [num8]
    omega

theorem five_cell {W : World} {b : Nat} {t i l c x : Int} {T : TypeId} (h : W.heap[b]? = some (.cells #[.int .i64 t, .int .i64 i, .int .i64 l, .int .i64 c, .int .i64 x] T)) (j : Nat) (hj : j < 5) : W.cell? ⟨b, j, none⟩ = some (.int .i64 (five t i l c x j)) := by
  rw [cell_of_row _ _ _ _ _ _ h]
  match j, hj with
  | 0, _ => rfl
  | 1, _ => rfl
  | 2, _ => rfl
  | 3, _ => rfl
  | 4, _ => rfl

theorem own3 {w : World} {k f o : Int} {T : TypeId} (hk : 0 ≤ k ∧ k < 256) (hf : 0 ≤ f ∧ f < 256) (ho : 0 ≤ o ∧ o < 256) :
    Owns T (w.alloc (.cells #[.int .u8 k, .int .u8 f, .int .u8 o] T)) w.heap.size (.slice (some ⟨w.heap.size, 0, none⟩) 3 3) (wide k.toNat 1 ++ (wide f.toNat 1 ++ wide o.toNat 1)) := by
  refine ⟨by simp, .inr ⟨w.heap.size, 3, #[.int .u8 k, .int .u8 f, .int .u8 o], rfl, Nat.le_refl _, heap_alloc_new w _, by simp, by unfold maxLen; simp, rfl, ?_⟩⟩
  have e : ∀ n : Int, 0 ≤ n ∧ n < 256 → (.int .u8 n : Value) = u8 (UInt8.ofNat n.toNat) := fun n hn => by
    unfold u8
    congr 1
    rw [UInt8.toNat_ofNat']
    omega
  simp only [wide, Nat.pow_zero, Nat.div_one, List.cons_append, List.nil_append]
  simp [cellsOf, e k hk, e f hf, e o ho]

theorem own1 {w : World} {T : TypeId} : Owns T (w.alloc (.cells #[.int .u8 0] T)) w.heap.size (.slice (some ⟨w.heap.size, 0, none⟩) 1 1) [0] :=
  ⟨by simp, .inr ⟨w.heap.size, 1, #[.int .u8 0], rfl, Nat.le_refl _, heap_alloc_new w _, by simp, by unfold maxLen; simp, rfl, rfl⟩⟩

set_option maxRecDepth 100000 in
set_option maxHeartbeats 6400000 in
theorem bytesM_any (m : Msg) (A : Option Addr) (cA : Nat) (E : Option Addr) (cE : Nat) (w : World) (Z : Nat → Prop) (hM : MsgIn w Z m A cA E cE) :
    Calls Try.prog 16 #[msgV m A cA E cE] w fun e w' => ∃ A' c', e = .returned (.slice A' (msgBytes m).length c') ∧ Owns 5 w' w.heap.size (.slice A' (msgBytes m).length c') (msgBytes m) ∧ Below w.heap.size w w' := by
  obtain ⟨i0, hi0, hz0, hz1, hz2⟩ := info_parts info_u8
  have hR := fun W (hW : Below w.heap.size w W) => rightMR_any m A cA E cE W Z (hM.below hW (Nat.le_refl _))
  have hb : msgBytes m = if rightM m = true then msgL m else [0] := rfl
  have hnum := fun h => right_nums (m := m) h
  have hMw := fun W (hW : Below w.heap.size w W) => hM.below hW (Nat.le_refl _)
  rw [hb]
  unfold msgL
  clear hM hb
  generalize rightM m = r at *
  obtain ⟨k, f, o, t, i, l, c, x, b, es, si, st, sd⟩ := m
  dsimp only [msgV] at *
  have hb0 : Below w.heap.size w (w.alloc (.cells (mC k f o t i l c x b A es.length cA si st E sd.length cE) 27)) := (Below.refl _ _).alloc (Nat.le_refl _) _
  have hr0 := heap_alloc_new w (.cells (mC k f o t i l c x b A es.length cA si st E sd.length cE) 27)
  have hR := hR _ hb0
  cases r with
  | false =>
    rw [if_neg (by simp)]
    clear hnum hMw
    go_enter Try.func16, Try.ntmps16
    go_wp2_with fail
    refine hR.mono ?_
    rintro e w1 ⟨rfl, hb1⟩
    have hbw1 := hb0.trans (hb1.mono hb0.size)
    have ho := own1 (w := w1) (T := 5)
    have hA := hbw1.alloc hbw1.size (.cells #[.int .u8 0] 5)
    clear hR hb1 hb0 hr0
    go_wp2
    go_ret
    exact ⟨_, _, rfl, ho.rebase fun q hq => Nat.le_trans hbw1.size (ho.lt q hq).1, hA⟩
  | true =>
  rw [if_pos rfl]
  obtain ⟨X7, hX7⟩ : ∃ X, X = (if k = 7 then snapBytes si st sd else []) := ⟨_, rfl⟩
  rw [← hX7]
  obtain ⟨hnk, hnf, hno, hnt, hni, hnl, hnc, hnx, hn4, hrun, hn7, hn8, hn5⟩ := hnum rfl
  clear hnum hnt hni hnl hnc hnx hn5 hn8
  have hrall := run_all hrun
  have u1 := u8_in k (by omega)
  have u2 := u8_in f (by omega)
  have u3 := u8_in o (by omega)
  obtain ⟨RR, hRR⟩ : ∃ RR, RR = (wide k.toNat 1 ++ (wide f.toNat 1 ++ (wide o.toNat 1 ++ (num8 t ++ (num8 i ++ (num8 l ++ (num8 c ++ (num8 x ++ (flagL b ++ (wide es.length 4 ++ (entsBytes es ++ X7))))))))))) := ⟨_, rfl⟩
  rw [← hRR]
  have HRR := Lib.hid hRR
  clear hRR hrun
  go_enter Try.func16, Try.ntmps16
  go_wp2_with fail
  refine hR.mono ?_
  rintro e w1 ⟨rfl, hb1⟩
  have hbw1 := hb0.trans (hb1.mono hb0.size)
  have hr1 := (hb1.block _ (hlt hr0)).trans hr0
  obtain ⟨⟨a0, a1, a2, a3, a4, a5, a6, a7, a8, a9, a10, a11, a12⟩, _⟩ := row13 hr1
  have hlt1 : w.heap.size < w1.heap.size := hlt hr1
  have ho3 := own3 (w := w1) (T := 5) (show 0 ≤ k ∧ k < 256 by omega) (show 0 ≤ f ∧ f < 256 by omega) (show 0 ≤ o ∧ o < 256 by omega)
  have hA1 : Below w1.heap.size w1 ((w1.alloc (.cells #[.int .u8 k, .int .u8 f, .int .u8 o] 5)).alloc (.cells #[.int .i64 t, .int .i64 i, .int .i64 l, .int .i64 c, .int .i64 x] 69)) := ((Below.refl _ _).alloc (Nat.le_refl _) _).alloc (by simp) _
  have hr5 : ((w1.alloc (.cells #[.int .u8 k, .int .u8 f, .int .u8 o] 5)).alloc (.cells #[.int .i64 t, .int .i64 i, .int .i64 l, .int .i64 c, .int .i64 x] 69)).heap[w1.heap.size + 1]? = some (.cells #[.int .i64 t, .int .i64 i, .int .i64 l, .int .i64 c, .int .i64 x] 69) := heap_alloc2_new _ _ _
  have ho5 := ho3.keep (w' := (w1.alloc (.cells #[.int .u8 k, .int .u8 f, .int .u8 o] 5)).alloc (.cells #[.int .i64 t, .int .i64 i, .int .i64 l, .int .i64 c, .int .i64 x] 69)) (fun g hg => Below.heap_alloc _ _ _ (by have := (ho3.lt g hg).2; exact this))
  have hl5 : w1.heap.size + 1 < ((w1.alloc (.cells #[.int .u8 k, .int .u8 f, .int .u8 o] 5)).alloc (.cells #[.int .i64 t, .int .i64 i, .int .i64 l, .int .i64 c, .int .i64 x] 69)).heap.size := hlt hr5
  have hne : ∀ q, (Value.slice (some ⟨w1.heap.size, 0, none⟩) 3 3).ownBlock = some q → q ≠ w1.heap.size + 1 := fun q hq => by
    injection hq with hq
    have : w1.heap.size = q := hq
    omega
  clear hR hb1 hb0 hr0 ho3
  go_wp2
  go_loopg [3, 5, 32] 5 (fun g v kk ii wr => ∃ (j : Nat) (lst : List UInt8), j + g = 5 ∧ ii = .int .i64 (j : Int) ∧ lst = wide k.toNat 1 ++ (wide f.toNat 1 ++ wide o.toNat 1) ++ fiveL t i l c x j ∧ Owns 5 wr w1.heap.size v lst ∧ (∀ q, v.ownBlock = some q → q ≠ w1.heap.size + 1) ∧ Below w1.heap.size w1 wr ∧ wr.heap[w1.heap.size + 1]? = some (.cells #[.int .i64 t, .int .i64 i, .int .i64 l, .int .i64 c, .int .i64 x] 69))
  case atStart => exact ⟨0, _, rfl, rfl, rfl, by simpa [fiveL] using ho5, hne, hA1, hr5⟩
  case round =>
    obtain ⟨j, lst, hj, rfl, hlst, hov, hvn, hbr, hr5'⟩ := hrel
    clear hA1 ho5 hne hl5 hr5
    have hbwr := hbw1.trans (hbr.mono hbw1.size)
    have hrr := (hbr.block _ (hlt hr1)).trans hr1
    have hll : lst.length = 3 + 8 * j := by rw [hlst, List.length_append, fiveL_len]; simp
    have hz5 := hlt hr5'
    have HLST := Lib.hid hlst
    have HJ := Lib.hid hj
    clear hlst a0 a1 a2 a3 a4 a5 a6 a7 a8 a9 a10 a11 a12
    by_cases hjl : j < 5
    · have hlt' : (j : Int) < 5 := by omega
      have hc5 := five_cell hr5' j hjl
      have hsn : fiveL t i l c x (j + 1) = fiveL t i l c x j ++ num8 (five t i l c x j) := rfl
      have HSN := Lib.hid hsn
      have hN := num8_any (five t i l c x j) wr
      have hapl : (lst ++ num8 (five t i l c x j)).length ≤ 140737488355328 := by rw [List.length_append]; simp [num8]; omega
      generalize five t i l c x j = y at *
      generalize num8 y = ny at *
      obtain ⟨Av, cv, rfl, _, _⟩ := lies_of_owns hov
      clear hll
      generalize hzl : lst.length = zl at *
      clear hsn hj hzl
      go_wp2_with fail
      refine hN.mono ?_
      rintro e wn ⟨A8, k8, rfl, ho8, hb8⟩
      have hovn := hov.keep (fun g hg => hb8.block g (hov.lt g hg).2)
      have hl8 := owns_lies ho8
      have hbn := hbr.trans (hb8.mono hbr.size)
      have hr5n := (hb8.block _ hz5).trans hr5'
      clear hN ho8 hov hrr hc5
      go_wp2_with (at_builtin; refine wpList_append_bytes _ rfl _ _ 23 rfl 5 i0 Try.underlying23 hi0 hz0 hz1 hz2 w1.heap.size hbn.size (.slice Av zl cv) lst (by rfl) hovn A8 8 k8 ny (by rfl) hl8 hapl ?_)
      intro v' w' ho' hg' hq'
      have hbn' : Below w1.heap.size w1 w' := hbn.grown hg' hbn.size (fun q hq => (hovn.lt q hq).1)
      have hr5n' := (hg'.block _ (hlt hr5n) (fun e => hvn _ e.symm rfl)).trans hr5n
      have hvn' : ∀ q, v'.ownBlock = some q → q ≠ w1.heap.size + 1 := fun q hq => by
        rcases hq' with e | e
        · exact hvn q (e.symm.trans hq)
        · rw [e] at hq
          injection hq with hq
          have := hlt hr5n
          omega
      have HO' := Lib.hid ho'
      clear hg' hq' ho' hovn hl8 hbn hr5n hb8 hr5' hvn hbr hbwr
      go_wp2
      go_roundg (gk - 1)
      case measure => have : j + gk = 5 := HJ; omega
      case rel => exact ⟨j + 1, lst ++ ny, by have : j + gk = 5 := HJ; omega, by go_num, by rw [show lst = _ from HLST, show fiveL t i l c x (j + 1) = fiveL t i l c x j ++ ny from HSN, List.append_assoc], HO', hvn', hbn', hr5n'⟩
    · obtain rfl : j = 5 := by omega
      clear hjl hr5' hvn hz5 hj
      obtain ⟨Av, cv, rfl, _, _⟩ := lies_of_owns hov
      obtain ⟨⟨a0, a1, a2, a3, a4, a5, a6, a7, a8, a9, a10, a11, a12⟩, _⟩ := row13 hrr
      have HBR := Lib.hid hbr
      have hS0 : (fun w' => Below w1.heap.size w1 w' ∧ (w'.cell? ⟨w.heap.size, 0, none⟩ = some (.int .i64 k) ∧ w'.cell? ⟨w.heap.size, 1, none⟩ = some (.int .i64 f) ∧ w'.cell? ⟨w.heap.size, 2, none⟩ = some (.int .i64 o) ∧ w'.cell? ⟨w.heap.size, 3, none⟩ = some (.int .i64 t) ∧ w'.cell? ⟨w.heap.size, 4, none⟩ = some (.int .i64 i) ∧ w'.cell? ⟨w.heap.size, 5, none⟩ = some (.int .i64 l) ∧ w'.cell? ⟨w.heap.size, 6, none⟩ = some (.int .i64 c) ∧ w'.cell? ⟨w.heap.size, 7, none⟩ = some (.int .i64 x) ∧ w'.cell? ⟨w.heap.size, 8, none⟩ = some (.bool b) ∧ w'.cell? ⟨w.heap.size, 9, none⟩ = some (.slice A es.length cA) ∧ w'.cell? ⟨w.heap.size, 10, none⟩ = some (.int .i64 si) ∧ w'.cell? ⟨w.heap.size, 11, none⟩ = some (.int .i64 st) ∧ w'.cell? ⟨w.heap.size, 12, none⟩ = some (.slice E sd.length cE))) wr.drew := ⟨hbr.drew, (row13 (show wr.drew.heap[w.heap.size]? = some (.cells (mC k f o t i l c x b A es.length cA si st E sd.length cE) 27) from hrr)).1⟩
      have hst : ∀ W, Below w1.heap.size w1 W → (fun w' => Below w1.heap.size w1 w' ∧ (w'.cell? ⟨w.heap.size, 0, none⟩ = some (.int .i64 k) ∧ w'.cell? ⟨w.heap.size, 1, none⟩ = some (.int .i64 f) ∧ w'.cell? ⟨w.heap.size, 2, none⟩ = some (.int .i64 o) ∧ w'.cell? ⟨w.heap.size, 3, none⟩ = some (.int .i64 t) ∧ w'.cell? ⟨w.heap.size, 4, none⟩ = some (.int .i64 i) ∧ w'.cell? ⟨w.heap.size, 5, none⟩ = some (.int .i64 l) ∧ w'.cell? ⟨w.heap.size, 6, none⟩ = some (.int .i64 c) ∧ w'.cell? ⟨w.heap.size, 7, none⟩ = some (.int .i64 x) ∧ w'.cell? ⟨w.heap.size, 8, none⟩ = some (.bool b) ∧ w'.cell? ⟨w.heap.size, 9, none⟩ = some (.slice A es.length cA) ∧ w'.cell? ⟨w.heap.size, 10, none⟩ = some (.int .i64 si) ∧ w'.cell? ⟨w.heap.size, 11, none⟩ = some (.int .i64 st) ∧ w'.cell? ⟨w.heap.size, 12, none⟩ = some (.slice E sd.length cE))) W := fun W h1 => ⟨h1, (row13 ((h1.block _ (hlt hr1)).trans hr1)).1⟩
      have hFl := fun W => flagR_any b W
      have hCn := fun W => countR_any (es.length : Int) es.length (IntWalk.u64_in _ (by omega)) W
      have hovd : Owns 5 wr.drew w1.heap.size (.slice Av lst.length cv) lst := hov
      obtain ⟨FB, hFB⟩ : ∃ FB, FB = flagL b := ⟨_, rfl⟩
      have HFB := Lib.hid hFB
      have hFl : ∀ W, Calls Try.prog 45 #[.bool b] W fun e w' => ∃ A cap, e = .returned (.slice A 1 cap) ∧ Owns 5 w' W.heap.size (.slice A 1 cap) FB ∧ Below W.heap.size W w' := fun W => by rw [hFB]; exact hFl W
      have hfbl : FB.length = 1 := by rw [hFB]; rfl
      generalize hCB : wide es.length 4 = CB at *
      have hcbl : CB.length = 4 := by rw [← hCB]; simp
      have HCB := Lib.hid hCB
      clear hFB hCB hov
      have hap1 : (lst ++ FB).length ≤ 140737488355328 := by rw [List.length_append]; omega
      have hap2 : (lst ++ FB ++ CB).length ≤ 140737488355328 := by rw [List.length_append, List.length_append]; omega
      have hl48 : (lst ++ FB ++ CB).length = 48 := by rw [List.length_append, List.length_append]; omega
      clear hll
      generalize lst.length = zl at *
      go_upto_region 10 with fail
      go_cut [3] (fun u wx => Owns 5 wx w1.heap.size u (lst ++ FB ++ CB) ∧ Below w1.heap.size w1 wx)
      case first =>
        refine wp_region_held_drew (S := (fun w' => Below w1.heap.size w1 w' ∧ (w'.cell? ⟨w.heap.size, 0, none⟩ = some (.int .i64 k) ∧ w'.cell? ⟨w.heap.size, 1, none⟩ = some (.int .i64 f) ∧ w'.cell? ⟨w.heap.size, 2, none⟩ = some (.int .i64 o) ∧ w'.cell? ⟨w.heap.size, 3, none⟩ = some (.int .i64 t) ∧ w'.cell? ⟨w.heap.size, 4, none⟩ = some (.int .i64 i) ∧ w'.cell? ⟨w.heap.size, 5, none⟩ = some (.int .i64 l) ∧ w'.cell? ⟨w.heap.size, 6, none⟩ = some (.int .i64 c) ∧ w'.cell? ⟨w.heap.size, 7, none⟩ = some (.int .i64 x) ∧ w'.cell? ⟨w.heap.size, 8, none⟩ = some (.bool b) ∧ w'.cell? ⟨w.heap.size, 9, none⟩ = some (.slice A es.length cA) ∧ w'.cell? ⟨w.heap.size, 10, none⟩ = some (.int .i64 si) ∧ w'.cell? ⟨w.heap.size, 11, none⟩ = some (.int .i64 st) ∧ w'.cell? ⟨w.heap.size, 12, none⟩ = some (.slice E sd.length cE)))) (by kernel_rfl) hS0 (fun hHeld => ?_)
        change wpAnyH _ _ _ _ _ 11 #[false, false, false, false, false, false, false, false, false, false, false] _ _
        refine wpAnyH_take (i := 0) (oi := { dst := some 42, op := Go.Op.move (Go.Operand.tmp 3), type := 23, pos := "ref.go:62", after := #[], guard := none }) (v := ?_) rfl (by kernel_rfl) (by kernel_rfl) (by kernel_rfl) (fun _ _ _ h => h) (Or.inl ⟨by rfl, ?_⟩) (by assumption) ?_
        rotate_left
        · ((intro w hSw; (try dsimp only at hSw); go_simp); (try with_reducible rfl))
        try simp only [Act.put, List.setIfInBounds_toArray, List.set_cons_zero, List.set_cons_succ]
        refine wpAnyH_take (i := 1) (oi := { dst := some 43, op := Go.Op.fieldAddr 27 (Go.Operand.tmp 1) 8, type := 0, pos := "ref.go:62", after := #[], guard := none }) (v := ?_) rfl (by kernel_rfl) (by kernel_rfl) (by kernel_rfl) (fun _ _ _ h => h) (Or.inl ⟨by rfl, ?_⟩) (by assumption) ?_
        rotate_left
        · ((intro w hSw; (try dsimp only at hSw); go_simp); (try with_reducible rfl))
        try simp only [Act.put, List.setIfInBounds_toArray, List.set_cons_zero, List.set_cons_succ]
        refine wpAnyH_take (i := 2) (oi := { dst := some 44, op := Go.Op.load 4 (Go.Operand.tmp 43), type := 4, pos := "ref.go:62", after := #[{ on := 1, ground := Go.Ground.data }], guard := none }) (v := ?_) rfl (by kernel_rfl) (by kernel_rfl) (by kernel_rfl) (fun _ _ _ h => h) (Or.inl ⟨by rfl, ?_⟩) (by assumption) ?_
        rotate_left
        · ((intro w hSw; (try dsimp only at hSw); go_simp); (try with_reducible rfl))
        try simp only [Act.put, List.setIfInBounds_toArray, List.set_cons_zero, List.set_cons_succ]
        refine wpAnyH_take (i := 5) (oi := { dst := some 47, op := Go.Op.fieldAddr 27 (Go.Operand.tmp 1) 9, type := 0, pos := "ref.go:62", after := #[], guard := none }) (v := ?_) rfl (by kernel_rfl) (by kernel_rfl) (by kernel_rfl) (fun _ _ _ h => h) (Or.inl ⟨by rfl, ?_⟩) (by assumption) ?_
        rotate_left
        · ((intro w hSw; (try dsimp only at hSw); go_simp); (try with_reducible rfl))
        try simp only [Act.put, List.setIfInBounds_toArray, List.set_cons_zero, List.set_cons_succ]
        refine wpAnyH_take (i := 6) (oi := { dst := some 48, op := Go.Op.load 22 (Go.Operand.tmp 47), type := 22, pos := "ref.go:62", after := #[{ on := 5, ground := Go.Ground.data }], guard := none }) (v := ?_) rfl (by kernel_rfl) (by kernel_rfl) (by kernel_rfl) (fun _ _ _ h => h) (Or.inl ⟨by rfl, ?_⟩) (by assumption) ?_
        rotate_left
        · ((intro w hSw; (try dsimp only at hSw); go_simp); (try with_reducible rfl))
        try simp only [Act.put, List.setIfInBounds_toArray, List.set_cons_zero, List.set_cons_succ]
        refine wpAnyH_take (i := 7) (oi := { dst := some 49, op := Go.Op.call { callee := Go.Callee.builtin Go.Builtin.len, args := #[Go.Operand.tmp 48], argTypes := #[22] }, type := 3, pos := "ref.go:62", after := #[{ on := 6, ground := Go.Ground.data }], guard := none }) (v := ?_) rfl (by kernel_rfl) (by kernel_rfl) (by kernel_rfl) (fun _ _ _ h => h) (Or.inl ⟨by rfl, ?_⟩) (by assumption) ?_
        rotate_left
        · ((intro w hSw; (try dsimp only at hSw); go_simp); (try with_reducible rfl))
        try simp only [Act.put, List.setIfInBounds_toArray, List.set_cons_zero, List.set_cons_succ]
        generalize wr.drew = wd at *
        refine wpAnyH_ready (rs := [3]) (by kernel_rfl) (by simp) ?_
        refine AllReadyH.cons (o := { dst := some 45, op := Go.Op.call { callee := Go.Callee.value (Go.Operand.func 45), args := #[Go.Operand.tmp 44], argTypes := #[4] }, type := 23, pos := "ref.go:62", after := #[{ on := 2, ground := Go.Ground.data }], guard := none }) rfl (fun KK hK => ?_) AllReadyH.nil
        go_simp
        refine (hFl _).mono ?_
        rintro e w3 ⟨AF, kF, rfl, hoF, hb3⟩
        have hB3 := hHeld.1.trans (hb3.mono hHeld.1.size)
        have hS7 := hst _ hB3
        have hov3 := hovd.keep (fun g hg => hb3.block g (hovd.lt g hg).2)
        have hlF := owns_lies hoF
        refine hK.out _ _ hS7 (fun hHeld2 => ?_)
        clear hK KK hHeld
        have hHeld := hHeld2
        clear hHeld2
        try simp only [Act.put, List.setIfInBounds_toArray, List.set_cons_zero, List.set_cons_succ]
        refine wpAnyH_ready (rs := [4]) (by kernel_rfl) (by simp) ?_
        refine AllReadyH.cons (o := { dst := some 46, op := Go.Op.call { callee := Go.Callee.builtin Go.Builtin.append, args := #[Go.Operand.tmp 42, Go.Operand.tmp 45], argTypes := #[23, 23] }, type := 23, pos := "ref.go:62", after := #[{ on := 0, ground := Go.Ground.data }, { on := 3, ground := Go.Ground.data }, { on := 3, ground := Go.Ground.chain }], guard := none }) rfl (fun KK hK => ?_) AllReadyH.nil
        refine step_append_bytes _ (by rfl) _ _ 23 (by rfl) 5 i0 Try.underlying23 hi0 hz0 hz1 hz2 w1.heap.size hB3.size (.slice Av zl cv) lst (by rfl) hov3 AF 1 kF FB (by rfl) hlF hap1 ?_
        intro va wa hoa hga hqa
        have hBa : Below w1.heap.size w1 wa := hB3.grown hga hB3.size (fun q hq => (hov3.lt q hq).1)
        have hS7 := hst _ hBa
        refine hK.out _ _ hS7 (fun hHeld2 => ?_)
        clear hK KK hHeld
        have hHeld := hHeld2
        clear hHeld2
        try simp only [Act.put, List.setIfInBounds_toArray, List.set_cons_zero, List.set_cons_succ]
        refine wpAnyH_ready (rs := [8]) (by kernel_rfl) (by simp) ?_
        refine AllReadyH.cons (o := { dst := some 50, op := Go.Op.call { callee := Go.Callee.value (Go.Operand.func 46), args := #[Go.Operand.tmp 49], argTypes := #[3] }, type := 23, pos := "ref.go:62", after := #[{ on := 7, ground := Go.Ground.data }, { on := 4, ground := Go.Ground.chain }], guard := none }) rfl (fun KK hK => ?_) AllReadyH.nil
        go_simp
        refine (hCn _).mono ?_
        rintro e w8 ⟨AC, kC, rfl, hoC, hb8⟩
        have hB8 := hBa.trans (hb8.mono hBa.size)
        have hS7 := hst _ hB8
        have hlC := owns_lies hoC
        have hoa8 := Owns.keep hoa (fun g hg => hb8.block g (hoa.lt g hg).2)
        refine hK.out _ _ hS7 (fun hHeld2 => ?_)
        clear hK KK hHeld
        have hHeld := hHeld2
        clear hHeld2
        try simp only [Act.put, List.setIfInBounds_toArray, List.set_cons_zero, List.set_cons_succ]
        refine wpAnyH_ready (rs := [9]) (by kernel_rfl) (by simp) ?_
        refine AllReadyH.cons (o := { dst := some 51, op := Go.Op.call { callee := Go.Callee.builtin Go.Builtin.append, args := #[Go.Operand.tmp 46, Go.Operand.tmp 50], argTypes := #[23, 23] }, type := 23, pos := "ref.go:62", after := #[{ on := 4, ground := Go.Ground.data }, { on := 8, ground := Go.Ground.data }, { on := 8, ground := Go.Ground.chain }], guard := none }) rfl (fun KK hK => ?_) AllReadyH.nil
        refine step_append_bytes _ (by rfl) _ _ 23 (by rfl) 5 i0 Try.underlying23 hi0 hz0 hz1 hz2 w1.heap.size hB8.size va (lst ++ FB) (by rfl) hoa8 AC 4 kC CB (by rfl) hlC hap2 ?_
        intro vf wf hof hgf hqf
        have hBf : Below w1.heap.size w1 wf := hB8.grown hgf hB8.size (fun q hq => (hoa8.lt q hq).1)
        have hS7 := hst _ hBf
        refine hK.out _ _ hS7 (fun hHeld2 => ?_)
        clear hK KK hHeld
        have hHeld := hHeld2
        clear hHeld2
        try simp only [Act.put, List.setIfInBounds_toArray, List.set_cons_zero, List.set_cons_succ]
        refine wpAnyH_take (i := 10) (oi := { dst := some 3, op := Go.Op.assign (Go.Operand.tmp 51), type := 23, pos := "ref.go:62", after := #[{ on := 9, ground := Go.Ground.data }, { on := 9, ground := Go.Ground.chain }, { on := 0, ground := Go.Ground.phase }, { on := 1, ground := Go.Ground.phase }, { on := 2, ground := Go.Ground.phase }, { on := 3, ground := Go.Ground.phase }, { on := 4, ground := Go.Ground.phase }, { on := 5, ground := Go.Ground.phase }, { on := 6, ground := Go.Ground.phase }, { on := 7, ground := Go.Ground.phase }, { on := 8, ground := Go.Ground.phase }, { on := 9, ground := Go.Ground.phase }], guard := none }) (v := ?_) rfl (by kernel_rfl) (by kernel_rfl) (by kernel_rfl) (fun _ _ _ h => h) (Or.inl ⟨by rfl, ?_⟩) (by assumption) ?_
        rotate_left
        · ((intro w hSw; (try dsimp only at hSw); go_simp); (try with_reducible rfl))
        try simp only [Act.put, List.setIfInBounds_toArray, List.set_cons_zero, List.set_cons_succ]
        refine wpAnyH_done (by kernel_rfl) ?_ _
        go_wp2_with fail
        go_meet
        exact ⟨hof, hBf⟩
      case rest =>
        obtain ⟨how, hbc⟩ := hcut
        obtain ⟨LC, hLC⟩ : ∃ LC, LC = lst ++ FB ++ CB := ⟨_, rfl⟩
        rw [← hLC] at how
        have hlc : LC.length = 48 := by rw [hLC]; exact hl48
        have HLC := Lib.hid hLC
        have hrc := (hbc.block _ (hlt hr1)).trans hr1
        clear hLC hS0 hst hFl hCn hovd hfbl hcbl hap1 hap2 hl48 a0 a1 a2 a3 a4 a5 a6 a7 a8 a9 a10 a11 a12 hrr hbr hbwr
        obtain ⟨⟨a0, a1, a2, a3, a4, a5, a6, a7, a8, a9, a10, a11, a12⟩, _⟩ := row13 hrc
        go_wp2
        go_loopg [3, 6, 55] es.length (fun g v kk ii wr => ∃ (j : Nat), j + g = es.length ∧ ii = .int .i64 (j : Int) ∧ Owns 5 wr w1.heap.size v (LC ++ entsBytes (es.take j)) ∧ Below w1.heap.size w1 wr ∧ (entsBytes (es.take j)).length ≤ 12020 * j)
        case atStart => exact ⟨0, by omega, rfl, by rw [List.take_zero, show entsBytes [] = [] from rfl, List.append_nil]; exact how, hbc, by simp [entsBytes]⟩
        case round =>
          obtain ⟨j, hj, rfl, hov, hbr, hel⟩ := hrel
          have hbwr := hbw1.trans (hbr.mono hbw1.size)
          have hrr := (hbr.block _ (hlt hr1)).trans hr1
          have hMr := hMw _ hbwr
          have HJ := Lib.hid hj
          clear a0 a1 a2 a3 a4 a5 a6 a7 a8 a9 a10 a11 a12 hrc how hbc
          obtain ⟨⟨a0, a1, a2, a3, a4, a5, a6, a7, a8, a9, a10, a11, a12⟩, _⟩ := row13 hrr
          by_cases hjl : j < es.length
          · have hlt' : (j : Int) < (es.length : Int) := by omega
            obtain ⟨g, off, F, cc, hA, hg, y0, y1, y2, hly, hlz⟩ := hMr.ents.atZ j hjl
            obtain rfl : A = some ⟨g, off, none⟩ := hA
            have hsn := ents_snoc es j hjl
            have hB := bytesE_any es[j].i es[j].t F es[j].d.length cc es[j].d wr hly
            have hel2 : (entsBytes (es.take (j + 1))).length ≤ 12020 * (j + 1) := by
              have := entBytes_fits (i := es[j].i) (t := es[j].t) (d := es[j].d)
              rw [hsn, List.length_append]
              omega
            have hbl := entBytes_fits (i := es[j].i) (t := es[j].t) (d := es[j].d)
            have HSN := Lib.hid hsn
            have HEL := Lib.hid hel2
            generalize hEB : entBytes es[j].i es[j].t es[j].d = EB at *
            have HMR := Lib.hid hMr
            have HMW := Lib.hid hMw
            generalize es[j] = a at *
            obtain ⟨ei, et, ed⟩ := a
            dsimp only at *
            generalize ed.length = en at *
            have hapl : (LC ++ entsBytes (es.take j) ++ EB).length ≤ 140737488355328 := by rw [List.length_append, List.length_append]; omega
            obtain ⟨Av, cv, rfl, _, _⟩ := lies_of_owns hov
            generalize hLJ : LC ++ entsBytes (es.take j) = LJ at *
            have HLJ := Lib.hid hLJ
            generalize hLJl : LJ.length = zl at *
            generalize hEBl : EB.length = ebl at *
            clear hMr hMw hly hlz hsn hel2 hel hj hLJ hEB hrall hrr
            go_wp2_with fail
            refine hB.mono ?_
            rintro e wn ⟨A8, k8, rfl, ho8, hb8⟩
            have hovn := hov.keep (fun g hg => hb8.block g (hov.lt g hg).2)
            have hl8 := owns_lies ho8
            have hbn := hbr.trans (hb8.mono hbr.size)
            clear hB ho8 hov
            go_wp2_with (at_builtin; refine wpList_append_bytes _ rfl _ _ 23 rfl 5 i0 Try.underlying23 hi0 hz0 hz1 hz2 w1.heap.size hbn.size (.slice Av zl cv) LJ (by rfl) hovn A8 ebl k8 EB (by rfl) hl8 hapl ?_)
            intro v' w' ho' hg' hq'
            have hbn' : Below w1.heap.size w1 w' := hbn.grown hg' hbn.size (fun q hq => (hovn.lt q hq).1)
            have HO' := Lib.hid ho'
            clear hg' hq' ho' hovn hl8 hbn hb8 hbr hbwr
            go_wp2
            go_roundg (gk - 1)
            case measure => have : j + gk = es.length := HJ; omega
            case rel => exact ⟨j + 1, by have : j + gk = es.length := HJ; omega, by go_num, by rw [show entsBytes (es.take (j + 1)) = _ from HSN, ← List.append_assoc, show LC ++ entsBytes (es.take j) = LJ from HLJ]; exact HO', hbn', HEL⟩
          · obtain rfl : j = es.length := by omega
            have hdec : decide ((es.length : Int) < (es.length : Int)) = false := decide_eq_false (by omega)
            rw [List.take_length] at hov hel
            have hFIN : RR = LC ++ entsBytes es ++ X7 := by
              rw [show RR = _ from HRR, show LC = lst ++ FB ++ CB from HLC, show lst = _ from HLST, show FB = flagL b from HFB, ← show wide es.length 4 = CB from HCB]
              simp only [fiveL, five, List.nil_append, List.append_assoc]
            have hlRR : RR.length = (LC ++ entsBytes es ++ X7).length := by rw [hFIN]
            clear hj hrr
            by_cases h7 : k = 7
            · subst h7
              rw [if_pos rfl] at hX7
              have hsn := (snapB_nums (hn7 rfl)).2.2
              have hB := bytesS_any si st E sd.length cE sd wr hMr.lies
              have hbl := snapBytes_fits (i := si) (t := st) (d := sd)
              rw [← hX7] at hB hbl
              have hapl : (LC ++ entsBytes es ++ X7).length ≤ 140737488355328 := by rw [List.length_append, List.length_append]; omega
              have HFIN := Lib.hid hFIN
              obtain ⟨Av, cv, rfl, _, _⟩ := lies_of_owns hov
              generalize hLJ : LC ++ entsBytes es = LJ at *
              have HLJ := Lib.hid hLJ
              generalize hLJl : LJ.length = zl at *
              generalize hEBl : X7.length = ebl at *
              clear hMr hMw hel hLJ hrall hFIN hX7 hn7
              go_wp2_with fail
              refine hB.mono ?_
              rintro e wn ⟨A8, k8, rfl, ho8, hb8⟩
              have hovn := hov.keep (fun g hg => hb8.block g (hov.lt g hg).2)
              have hl8 := owns_lies ho8
              have hbn := hbr.trans (hb8.mono hbr.size)
              clear hB ho8 hov
              go_wp2_with (at_builtin; refine wpList_append_bytes _ rfl _ _ 23 rfl 5 i0 Try.underlying23 hi0 hz0 hz1 hz2 w1.heap.size hbn.size (.slice Av zl cv) LJ (by rfl) hovn A8 ebl k8 X7 (by rfl) hl8 hapl ?_)
              intro v' w' ho' hg' hq'
              have hbn' : Below w1.heap.size w1 w' := hbn.grown hg' hbn.size (fun q hq => (hovn.lt q hq).1)
              rw [← show RR = LJ ++ X7 from HFIN] at ho'
              obtain ⟨Af, cf, rfl, _, _⟩ := lies_of_owns ho'
              have HO' := Lib.hid ho'
              have HB' := Lib.hid (hbw1.trans (hbn'.mono hbw1.size))
              have HS' := Lib.hid hbw1.size
              clear hg' hq' ho' hovn hl8 hbn hb8 hbr hbwr hbn'
              go_wp2
              go_ret
              exact ⟨Af, cf, rfl, Owns.rebase HO' fun q hq => Nat.le_trans HS' (Owns.lt HO' q hq).1, HB'⟩
            · rw [if_neg h7] at hX7
              subst hX7
              have e7 : (k == 7) = false := beq_eq_false_iff_ne.2 h7
              have e8 : (k = 7) = False := eq_false h7
              rw [List.append_nil] at hFIN
              rw [← hFIN] at hov
              obtain ⟨Af, cf, rfl, _, _⟩ := lies_of_owns hov
              have HO' := Lib.hid hov
              have HB' := Lib.hid hbwr
              have HS' := Lib.hid hbw1.size
              clear hov hMr hMw hel hFIN hlRR hn7 h7 hbr hbwr
              go_wp2
              go_ret
              exact ⟨Af, cf, rfl, Owns.rebase HO' fun q hq => Nat.le_trans HS' (Owns.lt HO' q hq).1, HB'⟩

end Go.Proofs.Ytlojjodgoeclfaa
