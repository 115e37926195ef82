/- The document's From, by its contract. -/
import Derived.Test.YtlojjodgoeclfaaRmsFromA
import Derived.Test.YtlojjodgoeclfaaRmsAwake
import Derived.Lib.Hide
import Derived.Deep.LoopGhost
import Derived.Deep.RegionHeld3
import Derived.Outline
namespace Go.Proofs.Ytlojjodgoeclfaa
open Go.RowKit
set_option linter.unusedVariables false
set_option linter.unusedSimpArgs false

set_option maxRecDepth 100000 in
set_option maxHeartbeats 12800000 in
theorem fromMR_any (A : Option Addr) (cap : Nat) (s : St) (w : World) (hL : left s ≤ 140737488355328) (h : RLies w A cap s) :
    Calls Try.prog 22 #[inv A cap s] w fun e w' => ∃ A1 cA E cE A' cap', e = .returned (.tuple #[msgV (fromM s).1 A1 cA E cE, inv A' cap' (fromM s).2]) ∧ MsgIn w' (fun k => w.heap.size ≤ k) (fromM s).1 A1 cA E cE ∧ (∀ w0, RLies w0 A cap s → RLies w0 A' cap' (fromM s).2) ∧ Below w.heap.size w w' := by
  have hRL0 : ∀ W, Below w.heap.size w W → RLies W A cap s := fun W hW => h.below hW (Nat.le_refl _)
  obtain ⟨F, hF⟩ : ∃ F, fromM s = F := ⟨_, rfl⟩
  rw [hF]
  obtain ⟨FM, FS⟩ := F
  unfold fromM at hF
  obtain ⟨TK, hTK⟩ : ∃ TK, takeM s = TK := ⟨_, rfl⟩
  rw [hTK] at hF
  obtain ⟨TM, TS⟩ := TK
  unfold takeM at hTK
  dsimp only at hTK hF
  have hC0 := fun A cap W hW => byteR_any A cap s W hW
  have hL0 := left_number s 1 hL
  have hb0 := numberN_lt s 1
  generalize numberN s 1 = tt0 at *
  obtain ⟨k0, s1⟩ := tt0
  dsimp only at *
  have hC1 := fun A cap W hW => byteR_any A cap s1 W hW
  have hL1 := left_number s1 1 hL0
  have hb1 := numberN_lt s1 1
  generalize numberN s1 1 = tt1 at *
  obtain ⟨f0, s2⟩ := tt1
  dsimp only at *
  have hC2 := fun A cap W hW => byteR_any A cap s2 W hW
  have hL2 := left_number s2 1 hL1
  have hb2 := numberN_lt s2 1
  generalize numberN s2 1 = tt2 at *
  obtain ⟨o0, s3⟩ := tt2
  dsimp only at *
  have hC3 := fun A cap W hW => numR2_any A cap s3 W hW
  have hL3 := left_number s3 8 hL2
  generalize numberN s3 8 = tt3 at *
  obtain ⟨t0, s4⟩ := tt3
  dsimp only at *
  have hC4 := fun A cap W hW => numR2_any A cap s4 W hW
  have hL4 := left_number s4 8 hL3
  generalize numberN s4 8 = tt4 at *
  obtain ⟨i0, s5⟩ := tt4
  dsimp only at *
  have hC5 := fun A cap W hW => numR2_any A cap s5 W hW
  have hL5 := left_number s5 8 hL4
  generalize numberN s5 8 = tt5 at *
  obtain ⟨l0, s6⟩ := tt5
  dsimp only at *
  have hC6 := fun A cap W hW => numR2_any A cap s6 W hW
  have hL6 := left_number s6 8 hL5
  generalize numberN s6 8 = tt6 at *
  obtain ⟨c0, s7⟩ := tt6
  dsimp only at *
  have hC7 := fun A cap W hW => numR2_any A cap s7 W hW
  have hL7 := left_number s7 8 hL6
  generalize numberN s7 8 = tt7 at *
  obtain ⟨x0, s8⟩ := tt7
  dsimp only at *
  have hC8 := fun A cap W hW => flagR2_any A cap s8 W hW
  have hL8 := left_flag s8 hL7
  generalize flagN s8 = tt8 at *
  obtain ⟨b0, s9⟩ := tt8
  dsimp only at *
  have hC9 := fun A cap W hW => countR2_any A cap s9 W 4 (by omega) hL8 hW
  have hLn := left_count s9 4 hL8
  have hn4 := count_le s9
  generalize countN s9 4 = tt9 at *
  obtain ⟨n0, s10⟩ := tt9
  dsimp only at *
  have hLs := left_steps s10 hLn
  have hstl := steps_len s10
  have hst0 := hstl n0
  obtain ⟨ES, hES⟩ : ∃ ES, stepsN s10 n0 = ES := ⟨_, rfl⟩
  have hLE := hLs n0
  rw [hES] at hst0 hLE hTK
  obtain ⟨es, sE⟩ := ES
  dsimp only at *
  have HES := Lib.hid hES
  clear hES
  generalize IntKind.i64.wrap (t0 : Int) = t at *
  generalize IntKind.i64.wrap (i0 : Int) = i at *
  generalize IntKind.i64.wrap (l0 : Int) = l at *
  generalize IntKind.i64.wrap (c0 : Int) = c at *
  generalize IntKind.i64.wrap (x0 : Int) = x at *
  have hw0 : IntKind.i64.wrap (k0 : Int) = (k0 : Int) := IntWalk.i64_in _ (by omega)
  have hw1 : IntKind.i64.wrap (f0 : Int) = (f0 : Int) := IntWalk.i64_in _ (by omega)
  have hw2 : IntKind.i64.wrap (o0 : Int) = (o0 : Int) := IntWalk.i64_in _ (by omega)
  generalize (k0 : Int) = k at *
  generalize (f0 : Int) = f at *
  generalize (o0 : Int) = o at *
  obtain ⟨Q, hQ⟩ : ∃ Q, lastN k sE = Q := ⟨_, rfl⟩
  rw [hQ] at hTK
  obtain ⟨qi, qt, qd, qs⟩ := Q
  dsimp only at *
  obtain ⟨hTM, hTS⟩ := Prod.mk.inj hTK
  subst hTM
  subst hTS
  clear hTK
  unfold inv
  simp only [inv] at hC0 hC1 hC2 hC3 hC4 hC5 hC6 hC7 hC8 hC9
  generalize hlf0 : left s = lf0 at *
  generalize hen0 : s.isNone = en0 at *
  generalize hlf1 : left s1 = lf1 at *
  generalize hen1 : s1.isNone = en1 at *
  generalize hlf2 : left s2 = lf2 at *
  generalize hen2 : s2.isNone = en2 at *
  generalize hlf3 : left s3 = lf3 at *
  generalize hen3 : s3.isNone = en3 at *
  generalize hlf4 : left s4 = lf4 at *
  generalize hen4 : s4.isNone = en4 at *
  generalize hlf5 : left s5 = lf5 at *
  generalize hen5 : s5.isNone = en5 at *
  generalize hlf6 : left s6 = lf6 at *
  generalize hen6 : s6.isNone = en6 at *
  generalize hlf7 : left s7 = lf7 at *
  generalize hen7 : s7.isNone = en7 at *
  generalize hlf8 : left s8 = lf8 at *
  generalize hen8 : s8.isNone = en8 at *
  generalize hlf9 : left s9 = lf9 at *
  generalize hen9 : s9.isNone = en9 at *
  obtain ⟨lf10, hlf10⟩ : ∃ x, left s10 = x := ⟨_, rfl⟩
  obtain ⟨en10, hen10⟩ : ∃ x, s10.isNone = x := ⟨_, rfl⟩
  rw [hlf10, hen10] at hC9
  have HF := Lib.hid hF
  have HLF := Lib.hid hlf10
  have HEN := Lib.hid hen10
  obtain ⟨r0, r1, r2, r3, hb4⟩ := alloc4 w (.cells #[.slice A lf0 cap, .bool en0] 48) (.cells (mC 0 0 0 0 0 0 0 0 false none 0 0 0 0 none 0 0) 27) (.cells #[.slice none 0 0, .bool false] 48) (.cells #[.int .u8 0, .int .u8 0, .int .u8 0] 77)
  obtain ⟨w4, hw4⟩ : ∃ W, W = ((((w.alloc (.cells #[.slice A lf0 cap, .bool en0] 48)).alloc (.cells (mC 0 0 0 0 0 0 0 0 false none 0 0 0 0 none 0 0) 27)).alloc (.cells #[.slice none 0 0, .bool false] 48)).alloc (.cells #[.int .u8 0, .int .u8 0, .int .u8 0] 77)) := ⟨_, rfl⟩
  rw [← hw4] at r0 r1 r2 r3 hb4
  have HW4 := Lib.hid hw4.symm
  clear hw4 hF hL0 hL1 hL2 hL3 hL4 hL5 hL6 hL7 hL8 hL hb0 hb1 hb2 h hlf0 hen0 hlf1 hen1 hlf2 hen2 hlf3 hen3 hlf4 hen4 hlf5 hen5 hlf6 hen6 hlf7 hen7 hlf8 hen8 hlf9 hen9 hlf10 hen10
  go_enter Try.func22, Try.ntmps22
  go_upto_region 2 with fail
  rw [show ((((w.alloc (.cells #[.slice A lf0 cap, .bool en0] 48)).alloc (.cells (mC 0 0 0 0 0 0 0 0 false none 0 0 0 0 none 0 0) 27)).alloc (.cells #[.slice none 0 0, .bool false] 48)).alloc (.cells #[.int .u8 0, .int .u8 0, .int .u8 0] 77)) = w4 from HW4]
  go_wp2
  go_loopg [5, 12] 3 (fun g kk ii wr => ∃ (j : Nat) (A' : Option Addr) (cap' : Nat), j + g = 3 ∧ ii = .int .i64 (j : Int) ∧ (∀ w0, RLies w0 A cap s → RLies w0 A' cap' (sel4 s s1 s2 s3 j)) ∧ wr.heap[w.heap.size]? = some (.cells #[.slice A' (sel4 lf0 lf1 lf2 lf3 j) cap', .bool (sel4 en0 en1 en2 en3 j)] 48) ∧ wr.heap[w.heap.size + 1]? = some (.cells (mC 0 0 0 0 0 0 0 0 false none 0 0 0 0 none 0 0) 27) ∧ wr.heap[w.heap.size + 1 + 1]? = some (.cells #[.slice none 0 0, .bool false] 48) ∧ wr.heap[w.heap.size + 1 + 1 + 1]? = some (.cells (sel4 (#[.int .u8 0, .int .u8 0, .int .u8 0] : Array Value) (#[.int .u8 k, .int .u8 0, .int .u8 0] : Array Value) (#[.int .u8 k, .int .u8 f, .int .u8 0] : Array Value) (#[.int .u8 k, .int .u8 f, .int .u8 o] : Array Value) j) 77) ∧ Below w.heap.size w wr)
  case atStart => exact ⟨0, A, cap, rfl, rfl, fun _ hx => hx, r0, r1, r2, r3, hb4⟩
  case round =>
  obtain ⟨j, A', cap', hj, rfl, hkl, r0, r1, r2, r3, hbr⟩ := hrel
  rcases (show j = 0 ∨ j = 1 ∨ j = 2 ∨ j = 3 by omega) with rfl | rfl | rfl | rfl
  · dsimp only [sel4] at hkl r0 r3
    have hC := hC0 A' cap' wr (hkl wr (hRL0 wr hbr))
    have HJ := Lib.hid hj
    obtain ⟨⟨a0, a1⟩, _⟩ := row2 r0
    clear hj hC0 hC1 hC2 hC3 hC4 hC5 hC6 hC7 hC8 hC9
    go_wp2_with fail
    refine hC.mono ?_
    rintro e wn ⟨A2, cap2, rfl, hk2, hbn⟩
    have r0n := (hbn.block _ (hlt r0)).trans r0
    have r1n := (hbn.block _ (hlt r1)).trans r1
    have r2n := (hbn.block _ (hlt r2)).trans r2
    have r3n := (hbn.block _ (hlt r3)).trans r3
    have hbwn := hbr.trans (hbn.mono hbr.size)
    clear hC a0 a1 r0 r1 r2 r3 hbn hbr
    obtain ⟨⟨a0, a1⟩, ⟨b0', b1'⟩⟩ := row2 r0n
    obtain ⟨⟨c0', c1', c2'⟩, ⟨d0, d1, d2⟩⟩ := row3 r3n
    obtain ⟨q0, q3, hN⟩ := set_arr (W := wn) (p := w.heap.size) (b := w.heap.size + 1 + 1 + 1) (j := 0) (v := .int .u8 k) (x := .slice A2 lf1 cap2) (y := .bool en1) (by omega) r0n r3n
    go_upto_region 6 with fail
    generalize hX : ((wn.setCell ⟨w.heap.size + 1 + 1 + 1, 0, none⟩ (.int .u8 k)).setCell ⟨w.heap.size, 0, none⟩ (.slice A2 lf1 cap2)).setCell ⟨w.heap.size, 1, none⟩ (.bool en1) = X at *
    have q1 := hN.row r1n (by omega) (by omega)
    have q2 := hN.row r2n (by omega) (by omega)
    have hbX := hN.below hbwn (Nat.le_refl _) (by omega)
    clear hX hN r0n r1n r2n r3n hbwn a0 a1 b0' b1' c0' c1' c2' d0 d1 d2
    go_wp2
    go_roundg (gk - 1)
    case measure => have : 0 + gk = 3 := HJ; omega
    case rel => exact ⟨1, A2, cap2, by have : 0 + gk = 3 := HJ; omega, rfl, fun w0 hx => hk2 w0 (hkl w0 hx), q0, q1, q2, q3, hbX⟩
  · dsimp only [sel4] at hkl r0 r3
    have hC := hC1 A' cap' wr (hkl wr (hRL0 wr hbr))
    have HJ := Lib.hid hj
    obtain ⟨⟨a0, a1⟩, _⟩ := row2 r0
    clear hj hC0 hC1 hC2 hC3 hC4 hC5 hC6 hC7 hC8 hC9
    go_wp2_with fail
    refine hC.mono ?_
    rintro e wn ⟨A2, cap2, rfl, hk2, hbn⟩
    have r0n := (hbn.block _ (hlt r0)).trans r0
    have r1n := (hbn.block _ (hlt r1)).trans r1
    have r2n := (hbn.block _ (hlt r2)).trans r2
    have r3n := (hbn.block _ (hlt r3)).trans r3
    have hbwn := hbr.trans (hbn.mono hbr.size)
    clear hC a0 a1 r0 r1 r2 r3 hbn hbr
    obtain ⟨⟨a0, a1⟩, ⟨b0', b1'⟩⟩ := row2 r0n
    obtain ⟨⟨c0', c1', c2'⟩, ⟨d0, d1, d2⟩⟩ := row3 r3n
    obtain ⟨q0, q3, hN⟩ := set_arr (W := wn) (p := w.heap.size) (b := w.heap.size + 1 + 1 + 1) (j := 1) (v := .int .u8 f) (x := .slice A2 lf2 cap2) (y := .bool en2) (by omega) r0n r3n
    go_upto_region 6 with fail
    generalize hX : ((wn.setCell ⟨w.heap.size + 1 + 1 + 1, 1, none⟩ (.int .u8 f)).setCell ⟨w.heap.size, 0, none⟩ (.slice A2 lf2 cap2)).setCell ⟨w.heap.size, 1, none⟩ (.bool en2) = X at *
    have q1 := hN.row r1n (by omega) (by omega)
    have q2 := hN.row r2n (by omega) (by omega)
    have hbX := hN.below hbwn (Nat.le_refl _) (by omega)
    clear hX hN r0n r1n r2n r3n hbwn a0 a1 b0' b1' c0' c1' c2' d0 d1 d2
    go_wp2
    go_roundg (gk - 1)
    case measure => have : 1 + gk = 3 := HJ; omega
    case rel => exact ⟨2, A2, cap2, by have : 1 + gk = 3 := HJ; omega, rfl, fun w0 hx => hk2 w0 (hkl w0 hx), q0, q1, q2, q3, hbX⟩
  · dsimp only [sel4] at hkl r0 r3
    have hC := hC2 A' cap' wr (hkl wr (hRL0 wr hbr))
    have HJ := Lib.hid hj
    obtain ⟨⟨a0, a1⟩, _⟩ := row2 r0
    clear hj hC0 hC1 hC2 hC3 hC4 hC5 hC6 hC7 hC8 hC9
    go_wp2_with fail
    refine hC.mono ?_
    rintro e wn ⟨A2, cap2, rfl, hk2, hbn⟩
    have r0n := (hbn.block _ (hlt r0)).trans r0
    have r1n := (hbn.block _ (hlt r1)).trans r1
    have r2n := (hbn.block _ (hlt r2)).trans r2
    have r3n := (hbn.block _ (hlt r3)).trans r3
    have hbwn := hbr.trans (hbn.mono hbr.size)
    clear hC a0 a1 r0 r1 r2 r3 hbn hbr
    obtain ⟨⟨a0, a1⟩, ⟨b0', b1'⟩⟩ := row2 r0n
    obtain ⟨⟨c0', c1', c2'⟩, ⟨d0, d1, d2⟩⟩ := row3 r3n
    obtain ⟨q0, q3, hN⟩ := set_arr (W := wn) (p := w.heap.size) (b := w.heap.size + 1 + 1 + 1) (j := 2) (v := .int .u8 o) (x := .slice A2 lf3 cap2) (y := .bool en3) (by omega) r0n r3n
    go_upto_region 6 with fail
    generalize hX : ((wn.setCell ⟨w.heap.size + 1 + 1 + 1, 2, none⟩ (.int .u8 o)).setCell ⟨w.heap.size, 0, none⟩ (.slice A2 lf3 cap2)).setCell ⟨w.heap.size, 1, none⟩ (.bool en3) = X at *
    have q1 := hN.row r1n (by omega) (by omega)
    have q2 := hN.row r2n (by omega) (by omega)
    have hbX := hN.below hbwn (Nat.le_refl _) (by omega)
    clear hX hN r0n r1n r2n r3n hbwn a0 a1 b0' b1' c0' c1' c2' d0 d1 d2
    go_wp2
    go_roundg (gk - 1)
    case measure => have : 2 + gk = 3 := HJ; omega
    case rel => exact ⟨3, A2, cap2, by have : 2 + gk = 3 := HJ; omega, rfl, fun w0 hx => hk2 w0 (hkl w0 hx), q0, q1, q2, q3, hbX⟩
  dsimp only [sel4] at hkl r0 r3
  clear hj hC0 hC1 hC2
  have hA6 := (Below.refl wr.heap.size wr).alloc (Nat.le_refl _) (.cells #[.int .i64 0, .int .i64 0, .int .i64 0, .int .i64 0, .int .i64 0] 69)
  have r6 := heap_alloc_new wr (.cells #[.int .i64 0, .int .i64 0, .int .i64 0, .int .i64 0, .int .i64 0] 69)
  have hs3 := hlt r3
  replace r0 := (hA6.block _ (hlt r0)).trans r0
  replace r1 := (hA6.block _ (hlt r1)).trans r1
  replace r2 := (hA6.block _ (hlt r2)).trans r2
  replace r3 := (hA6.block _ (hlt r3)).trans r3
  replace hbr := hbr.trans (hA6.mono hbr.size)
  go_upto_region 8 with fail
  generalize hb6 : wr.heap.size = b6 at *
  generalize wr.alloc (.cells #[.int .i64 0, .int .i64 0, .int .i64 0, .int .i64 0, .int .i64 0] 69) = w6 at *
  clear hA6 hb6
  go_wp2
  go_loopg [7, 23] 5 (fun g kk ii wr => ∃ (j : Nat) (A' : Option Addr) (cap' : Nat), j + g = 5 ∧ ii = .int .i64 (j : Int) ∧ (∀ w0, RLies w0 A cap s → RLies w0 A' cap' (sel6 s3 s4 s5 s6 s7 s8 j)) ∧ wr.heap[w.heap.size]? = some (.cells #[.slice A' (sel6 lf3 lf4 lf5 lf6 lf7 lf8 j) cap', .bool (sel6 en3 en4 en5 en6 en7 en8 j)] 48) ∧ wr.heap[w.heap.size + 1]? = some (.cells (mC 0 0 0 0 0 0 0 0 false none 0 0 0 0 none 0 0) 27) ∧ wr.heap[w.heap.size + 1 + 1]? = some (.cells #[.slice none 0 0, .bool false] 48) ∧ wr.heap[w.heap.size + 1 + 1 + 1]? = some (.cells #[.int .u8 k, .int .u8 f, .int .u8 o] 77) ∧ wr.heap[b6]? = some (.cells (sel6 (#[.int .i64 0, .int .i64 0, .int .i64 0, .int .i64 0, .int .i64 0] : Array Value) (#[.int .i64 t, .int .i64 0, .int .i64 0, .int .i64 0, .int .i64 0] : Array Value) (#[.int .i64 t, .int .i64 i, .int .i64 0, .int .i64 0, .int .i64 0] : Array Value) (#[.int .i64 t, .int .i64 i, .int .i64 l, .int .i64 0, .int .i64 0] : Array Value) (#[.int .i64 t, .int .i64 i, .int .i64 l, .int .i64 c, .int .i64 0] : Array Value) (#[.int .i64 t, .int .i64 i, .int .i64 l, .int .i64 c, .int .i64 x] : Array Value) j) 69) ∧ Below w.heap.size w wr)
  case atStart => exact ⟨0, A', cap', rfl, rfl, hkl, r0, r1, r2, r3, r6, hbr⟩
  case round =>
  clear r0 r1 r2 r3 r6 hbr hkl
  obtain ⟨j, A', cap', hj, rfl, hkl, r0, r1, r2, r3, r6, hbr⟩ := hrel
  rcases (show j = 0 ∨ j = 1 ∨ j = 2 ∨ j = 3 ∨ j = 4 ∨ j = 5 by omega) with rfl | rfl | rfl | rfl | rfl | rfl
  · dsimp only [sel6] at hkl r0 r6
    have hC := hC3 A' cap' wr (hkl wr (hRL0 wr hbr))
    have HJ := Lib.hid hj
    obtain ⟨⟨a0, a1⟩, _⟩ := row2 r0
    clear hj hC3 hC4 hC5 hC6 hC7 hC8 hC9
    go_wp2_with fail
    refine hC.mono ?_
    rintro e wn ⟨A2, cap2, rfl, hk2, hbn⟩
    have r0n := (hbn.block _ (hlt r0)).trans r0
    have r1n := (hbn.block _ (hlt r1)).trans r1
    have r2n := (hbn.block _ (hlt r2)).trans r2
    have r3n := (hbn.block _ (hlt r3)).trans r3
    have r6n := (hbn.block _ (hlt r6)).trans r6
    have hbwn := hbr.trans (hbn.mono hbr.size)
    clear hC a0 a1 r0 r1 r2 r3 r6 hbn hbr
    obtain ⟨⟨a0, a1⟩, ⟨b0', b1'⟩⟩ := row2 r0n
    obtain ⟨⟨c0', c1', c2', c3', c4'⟩, ⟨d0, d1, d2, d3, d4⟩⟩ := row5 r6n
    obtain ⟨q0, q6, hN⟩ := set_arr (W := wn) (p := w.heap.size) (b := b6) (j := 0) (v := .int .i64 t) (x := .slice A2 lf4 cap2) (y := .bool en4) (by omega) r0n r6n
    go_upto_region 12 with fail
    generalize hX : ((wn.setCell ⟨b6, 0, none⟩ (.int .i64 t)).setCell ⟨w.heap.size, 0, none⟩ (.slice A2 lf4 cap2)).setCell ⟨w.heap.size, 1, none⟩ (.bool en4) = X at *
    have q1 := hN.row r1n (by omega) (by omega)
    have q2 := hN.row r2n (by omega) (by omega)
    have q3 := hN.row r3n (by omega) (by omega)
    have hbX := hN.below hbwn (Nat.le_refl _) (by omega)
    clear hX hN r0n r1n r2n r3n r6n hbwn a0 a1 b0' b1' c0' c1' c2' c3' c4' d0 d1 d2 d3 d4
    go_wp2
    go_roundg (gk - 1)
    case measure => have : 0 + gk = 5 := HJ; omega
    case rel => exact ⟨1, A2, cap2, by have : 0 + gk = 5 := HJ; omega, rfl, fun w0 hx => hk2 w0 (hkl w0 hx), q0, q1, q2, q3, q6, hbX⟩
  · dsimp only [sel6] at hkl r0 r6
    have hC := hC4 A' cap' wr (hkl wr (hRL0 wr hbr))
    have HJ := Lib.hid hj
    obtain ⟨⟨a0, a1⟩, _⟩ := row2 r0
    clear hj hC3 hC4 hC5 hC6 hC7 hC8 hC9
    go_wp2_with fail
    refine hC.mono ?_
    rintro e wn ⟨A2, cap2, rfl, hk2, hbn⟩
    have r0n := (hbn.block _ (hlt r0)).trans r0
    have r1n := (hbn.block _ (hlt r1)).trans r1
    have r2n := (hbn.block _ (hlt r2)).trans r2
    have r3n := (hbn.block _ (hlt r3)).trans r3
    have r6n := (hbn.block _ (hlt r6)).trans r6
    have hbwn := hbr.trans (hbn.mono hbr.size)
    clear hC a0 a1 r0 r1 r2 r3 r6 hbn hbr
    obtain ⟨⟨a0, a1⟩, ⟨b0', b1'⟩⟩ := row2 r0n
    obtain ⟨⟨c0', c1', c2', c3', c4'⟩, ⟨d0, d1, d2, d3, d4⟩⟩ := row5 r6n
    obtain ⟨q0, q6, hN⟩ := set_arr (W := wn) (p := w.heap.size) (b := b6) (j := 1) (v := .int .i64 i) (x := .slice A2 lf5 cap2) (y := .bool en5) (by omega) r0n r6n
    go_upto_region 12 with fail
    generalize hX : ((wn.setCell ⟨b6, 1, none⟩ (.int .i64 i)).setCell ⟨w.heap.size, 0, none⟩ (.slice A2 lf5 cap2)).setCell ⟨w.heap.size, 1, none⟩ (.bool en5) = X at *
    have q1 := hN.row r1n (by omega) (by omega)
    have q2 := hN.row r2n (by omega) (by omega)
    have q3 := hN.row r3n (by omega) (by omega)
    have hbX := hN.below hbwn (Nat.le_refl _) (by omega)
    clear hX hN r0n r1n r2n r3n r6n hbwn a0 a1 b0' b1' c0' c1' c2' c3' c4' d0 d1 d2 d3 d4
    go_wp2
    go_roundg (gk - 1)
    case measure => have : 1 + gk = 5 := HJ; omega
    case rel => exact ⟨2, A2, cap2, by have : 1 + gk = 5 := HJ; omega, rfl, fun w0 hx => hk2 w0 (hkl w0 hx), q0, q1, q2, q3, q6, hbX⟩
  · dsimp only [sel6] at hkl r0 r6
    have hC := hC5 A' cap' wr (hkl wr (hRL0 wr hbr))
    have HJ := Lib.hid hj
    obtain ⟨⟨a0, a1⟩, _⟩ := row2 r0
    clear hj hC3 hC4 hC5 hC6 hC7 hC8 hC9
    go_wp2_with fail
    refine hC.mono ?_
    rintro e wn ⟨A2, cap2, rfl, hk2, hbn⟩
    have r0n := (hbn.block _ (hlt r0)).trans r0
    have r1n := (hbn.block _ (hlt r1)).trans r1
    have r2n := (hbn.block _ (hlt r2)).trans r2
    have r3n := (hbn.block _ (hlt r3)).trans r3
    have r6n := (hbn.block _ (hlt r6)).trans r6
    have hbwn := hbr.trans (hbn.mono hbr.size)
    clear hC a0 a1 r0 r1 r2 r3 r6 hbn hbr
    obtain ⟨⟨a0, a1⟩, ⟨b0', b1'⟩⟩ := row2 r0n
    obtain ⟨⟨c0', c1', c2', c3', c4'⟩, ⟨d0, d1, d2, d3, d4⟩⟩ := row5 r6n
    obtain ⟨q0, q6, hN⟩ := set_arr (W := wn) (p := w.heap.size) (b := b6) (j := 2) (v := .int .i64 l) (x := .slice A2 lf6 cap2) (y := .bool en6) (by omega) r0n r6n
    go_upto_region 12 with fail
    generalize hX : ((wn.setCell ⟨b6, 2, none⟩ (.int .i64 l)).setCell ⟨w.heap.size, 0, none⟩ (.slice A2 lf6 cap2)).setCell ⟨w.heap.size, 1, none⟩ (.bool en6) = X at *
    have q1 := hN.row r1n (by omega) (by omega)
    have q2 := hN.row r2n (by omega) (by omega)
    have q3 := hN.row r3n (by omega) (by omega)
    have hbX := hN.below hbwn (Nat.le_refl _) (by omega)
    clear hX hN r0n r1n r2n r3n r6n hbwn a0 a1 b0' b1' c0' c1' c2' c3' c4' d0 d1 d2 d3 d4
    go_wp2
    go_roundg (gk - 1)
    case measure => have : 2 + gk = 5 := HJ; omega
    case rel => exact ⟨3, A2, cap2, by have : 2 + gk = 5 := HJ; omega, rfl, fun w0 hx => hk2 w0 (hkl w0 hx), q0, q1, q2, q3, q6, hbX⟩
  · dsimp only [sel6] at hkl r0 r6
    have hC := hC6 A' cap' wr (hkl wr (hRL0 wr hbr))
    have HJ := Lib.hid hj
    obtain ⟨⟨a0, a1⟩, _⟩ := row2 r0
    clear hj hC3 hC4 hC5 hC6 hC7 hC8 hC9
    go_wp2_with fail
    refine hC.mono ?_
    rintro e wn ⟨A2, cap2, rfl, hk2, hbn⟩
    have r0n := (hbn.block _ (hlt r0)).trans r0
    have r1n := (hbn.block _ (hlt r1)).trans r1
    have r2n := (hbn.block _ (hlt r2)).trans r2
    have r3n := (hbn.block _ (hlt r3)).trans r3
    have r6n := (hbn.block _ (hlt r6)).trans r6
    have hbwn := hbr.trans (hbn.mono hbr.size)
    clear hC a0 a1 r0 r1 r2 r3 r6 hbn hbr
    obtain ⟨⟨a0, a1⟩, ⟨b0', b1'⟩⟩ := row2 r0n
    obtain ⟨⟨c0', c1', c2', c3', c4'⟩, ⟨d0, d1, d2, d3, d4⟩⟩ := row5 r6n
    obtain ⟨q0, q6, hN⟩ := set_arr (W := wn) (p := w.heap.size) (b := b6) (j := 3) (v := .int .i64 c) (x := .slice A2 lf7 cap2) (y := .bool en7) (by omega) r0n r6n
    go_upto_region 12 with fail
    generalize hX : ((wn.setCell ⟨b6, 3, none⟩ (.int .i64 c)).setCell ⟨w.heap.size, 0, none⟩ (.slice A2 lf7 cap2)).setCell ⟨w.heap.size, 1, none⟩ (.bool en7) = X at *
    have q1 := hN.row r1n (by omega) (by omega)
    have q2 := hN.row r2n (by omega) (by omega)
    have q3 := hN.row r3n (by omega) (by omega)
    have hbX := hN.below hbwn (Nat.le_refl _) (by omega)
    clear hX hN r0n r1n r2n r3n r6n hbwn a0 a1 b0' b1' c0' c1' c2' c3' c4' d0 d1 d2 d3 d4
    go_wp2
    go_roundg (gk - 1)
    case measure => have : 3 + gk = 5 := HJ; omega
    case rel => exact ⟨4, A2, cap2, by have : 3 + gk = 5 := HJ; omega, rfl, fun w0 hx => hk2 w0 (hkl w0 hx), q0, q1, q2, q3, q6, hbX⟩
  · dsimp only [sel6] at hkl r0 r6
    have hC := hC7 A' cap' wr (hkl wr (hRL0 wr hbr))
    have HJ := Lib.hid hj
    obtain ⟨⟨a0, a1⟩, _⟩ := row2 r0
    clear hj hC3 hC4 hC5 hC6 hC7 hC8 hC9
    go_wp2_with fail
    refine hC.mono ?_
    rintro e wn ⟨A2, cap2, rfl, hk2, hbn⟩
    have r0n := (hbn.block _ (hlt r0)).trans r0
    have r1n := (hbn.block _ (hlt r1)).trans r1
    have r2n := (hbn.block _ (hlt r2)).trans r2
    have r3n := (hbn.block _ (hlt r3)).trans r3
    have r6n := (hbn.block _ (hlt r6)).trans r6
    have hbwn := hbr.trans (hbn.mono hbr.size)
    clear hC a0 a1 r0 r1 r2 r3 r6 hbn hbr
    obtain ⟨⟨a0, a1⟩, ⟨b0', b1'⟩⟩ := row2 r0n
    obtain ⟨⟨c0', c1', c2', c3', c4'⟩, ⟨d0, d1, d2, d3, d4⟩⟩ := row5 r6n
    obtain ⟨q0, q6, hN⟩ := set_arr (W := wn) (p := w.heap.size) (b := b6) (j := 4) (v := .int .i64 x) (x := .slice A2 lf8 cap2) (y := .bool en8) (by omega) r0n r6n
    go_upto_region 12 with fail
    generalize hX : ((wn.setCell ⟨b6, 4, none⟩ (.int .i64 x)).setCell ⟨w.heap.size, 0, none⟩ (.slice A2 lf8 cap2)).setCell ⟨w.heap.size, 1, none⟩ (.bool en8) = X at *
    have q1 := hN.row r1n (by omega) (by omega)
    have q2 := hN.row r2n (by omega) (by omega)
    have q3 := hN.row r3n (by omega) (by omega)
    have hbX := hN.below hbwn (Nat.le_refl _) (by omega)
    clear hX hN r0n r1n r2n r3n r6n hbwn a0 a1 b0' b1' c0' c1' c2' c3' c4' d0 d1 d2 d3 d4
    go_wp2
    go_roundg (gk - 1)
    case measure => have : 4 + gk = 5 := HJ; omega
    case rel => exact ⟨5, A2, cap2, by have : 4 + gk = 5 := HJ; omega, rfl, fun w0 hx => hk2 w0 (hkl w0 hx), q0, q1, q2, q3, q6, hbX⟩
  dsimp only [sel6] at hkl r0 r6
  clear hj hC3 hC4 hC5 hC6 hC7
  have hC := hC8 A' cap' wr (hkl wr (hRL0 wr hbr))
  obtain ⟨⟨a0, a1⟩, _⟩ := row2 r0
  clear hC8
  go_wp2_with fail
  refine hC.mono ?_
  rintro e wn ⟨A13, cap13, rfl, hk2, hbn⟩
  replace hkl := fun w0 hx => hk2 w0 (hkl w0 hx)
  replace r0 := (hbn.block _ (hlt r0)).trans r0
  replace r1 := (hbn.block _ (hlt r1)).trans r1
  replace r2 := (hbn.block _ (hlt r2)).trans r2
  replace r3 := (hbn.block _ (hlt r3)).trans r3
  replace r6 := (hbn.block _ (hlt r6)).trans r6
  replace hbr := hbr.trans (hbn.mono hbr.size)
  clear hC a0 a1 hbn hk2
  obtain ⟨⟨a0, a1⟩, ⟨b0', b1'⟩⟩ := row2 r0
  obtain ⟨q0, hN⟩ := set_two (W := wn) (p := w.heap.size) (q := w.heap.size) (x := .slice A13 lf9 cap13) (y := .bool en9) r0
  go_upto_region 14 with fail
  generalize hX : (wn.setCell ⟨w.heap.size, 0, none⟩ (.slice A13 lf9 cap13)).setCell ⟨w.heap.size, 1, none⟩ (.bool en9) = X13 at *
  replace r0 := q0
  replace r1 := hN.row r1 (by omega) (by omega)
  replace r2 := hN.row r2 (by omega) (by omega)
  replace r3 := hN.row r3 (by omega) (by omega)
  replace r6 := hN.row r6 (by omega) (by omega)
  replace hbr := hN.below hbr (Nat.le_refl _) (Nat.le_refl _)
  clear hX hN a0 a1 b0' b1' q0
  have hC := hC9 A13 cap13 X13 (hkl X13 (hRL0 X13 hbr))
  obtain ⟨⟨a0, a1⟩, _⟩ := row2 r0
  clear hC9
  go_wp2_with fail
  refine hC.mono ?_
  rintro e wn ⟨A14, cap14, rfl, hk2, hbn⟩
  replace hkl := fun w0 hx => hk2 w0 (hkl w0 hx)
  replace r0 := (hbn.block _ (hlt r0)).trans r0
  replace r1 := (hbn.block _ (hlt r1)).trans r1
  replace r2 := (hbn.block _ (hlt r2)).trans r2
  replace r3 := (hbn.block _ (hlt r3)).trans r3
  replace r6 := (hbn.block _ (hlt r6)).trans r6
  replace hbr := hbr.trans (hbn.mono hbr.size)
  clear hC a0 a1 hbn hk2
  obtain ⟨⟨a0, a1⟩, ⟨b0', b1'⟩⟩ := row2 r0
  obtain ⟨q0, hN⟩ := set_two (W := wn) (p := w.heap.size) (q := w.heap.size) (x := .slice A14 lf10 cap14) (y := .bool en10) r0
  go_upto_region 15 with fail
  generalize hX : (wn.setCell ⟨w.heap.size, 0, none⟩ (.slice A14 lf10 cap14)).setCell ⟨w.heap.size, 1, none⟩ (.bool en10) = X14 at *
  replace r0 := q0
  replace r1 := hN.row r1 (by omega) (by omega)
  replace r2 := hN.row r2 (by omega) (by omega)
  replace r3 := hN.row r3 (by omega) (by omega)
  replace r6 := hN.row r6 (by omega) (by omega)
  replace hbr := hN.below hbr (Nat.le_refl _) (Nat.le_refl _)
  clear hX hN a0 a1 b0' b1' q0
  obtain ⟨⟨m0, m1, m2⟩, _⟩ := row3 r3
  obtain ⟨⟨v0, v1, v2, v3, v4⟩, _⟩ := row5 r6
  have hA10 := (Below.refl X14.heap.size X14).alloc (Nat.le_refl _) (.cells (mC k f o t i l c x b0 none 0 0 0 0 none 0 0) 27)
  have rb := heap_alloc_new X14 (.cells (mC k f o t i l c x b0 none 0 0 0 0 none 0 0) 27)
  have hs14 := hlt r3
  have hs6 := hlt r6
  replace r0 := (hA10.block _ (hlt r0)).trans r0
  replace r1 := (hA10.block _ (hlt r1)).trans r1
  replace r2 := (hA10.block _ (hlt r2)).trans r2
  replace hbr := hbr.trans (hA10.mono hbr.size)
  go_upto_region 16 with fail
  generalize hb10 : X14.heap.size = b10 at *
  generalize X14.alloc (.cells (mC k f o t i l c x b0 none 0 0 0 0 none 0 0) 27) = w16 at *
  clear hA10 hb10 m0 m1 m2 v0 v1 v2 v3 v4 r3 r6
  rw [show lf10 = left s10 from Eq.symm HLF, show en10 = s10.isNone from Eq.symm HEN] at r0
  go_wp2
  go_loopg [66] n0 (fun g ii wr => ∃ (j : Nat) (AE : Option Addr) (cE : Nat) (A' : Option Addr) (cap' : Nat), j + g = n0 ∧ ii = .int .i64 (j : Int) ∧ (∀ w0, RLies w0 A cap s → RLies w0 A' cap' (stepsN s10 j).2) ∧ wr.heap[w.heap.size]? = some (.cells #[.slice A' (left (stepsN s10 j).2) cap', .bool (stepsN s10 j).2.isNone] 48) ∧ wr.heap[w.heap.size + 1]? = some (.cells (mC 0 0 0 0 0 0 0 0 false none 0 0 0 0 none 0 0) 27) ∧ wr.heap[w.heap.size + 1 + 1]? = some (.cells #[.slice none 0 0, .bool false] 48) ∧ wr.heap[b10]? = some (.cells (mC k f o t i l c x b0 AE j cE 0 0 none 0 0) 27) ∧ Taken wr (b10 + 1) (.slice AE j cE) (stepsN s10 j).1 ∧ Below w.heap.size w wr)
  case atStart => exact ⟨0, none, 0, A14, cap14, by omega, rfl, hkl, r0, r1, r2, rb, Taken.nil _ _, hbr⟩
  case round =>
  clear r0 r1 r2 rb hbr hkl
  obtain ⟨j, AE, cE, A', cap', hj, rfl, hkl, r0, r1, r2, rb, hT, hbr⟩ := hrel
  have hsb := hlt rb
  by_cases hjl : j < n0
  · have hlt' : (j : Int) < (n0 : Int) := by omega
    have hLj := hLs j
    have hjn := hstl j
    obtain ⟨RS, hRS⟩ : ∃ RS, stepsN s10 j = RS := ⟨_, rfl⟩
    have hstep : stepsN s10 (j + 1) = ((stepsN s10 j).1 ++ [⟨(fromN rightB (stepsN s10 j).2 12000).i, (fromN rightB (stepsN s10 j).2 12000).t, (fromN rightB (stepsN s10 j).2 12000).d⟩], (fromN rightB (stepsN s10 j).2 12000).s) := rfl
    rw [hRS] at hstep hLj hjn hkl r0 hT
    obtain ⟨ls, sj⟩ := RS
    dsimp only at *
    have hC := fun W hW => fromR_any A' cap' sj W hLj hW
    obtain ⟨FF, hFF⟩ : ∃ FF, fromN rightB sj 12000 = FF := ⟨_, rfl⟩
    rw [hFF] at hstep hC
    obtain ⟨fi, ft, fd, fs⟩ := FF
    dsimp only at hstep hC
    have HSTEP := Lib.hid hstep
    have HJ := Lib.hid hj
    simp only [inv] at hC
    generalize hlj : left sj = lj at *
    generalize hej : sj.isNone = ej at *
    obtain ⟨lf, hlf⟩ : ∃ x, left fs = x := ⟨_, rfl⟩
    obtain ⟨ef, hef⟩ : ∃ x, fs.isNone = x := ⟨_, rfl⟩
    rw [hlf, hef] at hC
    have HLF2 := Lib.hid hlf
    have HEF2 := Lib.hid hef
    have hA := (Below.refl wr.heap.size wr).alloc (Nat.le_refl _) (.cells #[.int .i64 0, .int .i64 0, .slice none 0 0] 58)
    have re := heap_alloc_new wr (.cells #[.int .i64 0, .int .i64 0, .slice none 0 0] 58)
    have hC := hC _ (hkl _ (hRL0 _ (hbr.trans (hA.mono hbr.size))))
    have r0a := (hA.block _ (hlt r0)).trans r0
    have r1a := (hA.block _ (hlt r1)).trans r1
    have r2a := (hA.block _ (hlt r2)).trans r2
    have rba := (hA.block _ (hlt rb)).trans rb
    have hba := hbr.trans (hA.mono hbr.size)
    have hsz : wr.heap.size < (wr.alloc (.cells #[.int .i64 0, .int .i64 0, .slice none 0 0] 58)).heap.size := by simp
    have hwr := fun k (hk : k < wr.heap.size) => hA.block k hk
    have hs2 := hlt r2
    obtain ⟨⟨a0, a1⟩, _⟩ := row2 r0a
    clear hlj hej hlf hef hstep hj r0 r1 r2 rb hA hLs hstl hRS hFF HES HF HLF HEN
    go_wp2_with fail
    refine hC.mono ?_
    rintro e wn ⟨D, dn, cc, A2, cap2, rfl, hlD, hD, hk2, hbn⟩
    obtain rfl : fd.length = dn := hlD.1
    have r0n := (hbn.block _ (hlt r0a)).trans r0a
    have r1n := (hbn.block _ (hlt r1a)).trans r1a
    have r2n := (hbn.block _ (hlt r2a)).trans r2a
    have rbn := (hbn.block _ (hlt rba)).trans rba
    have ren := (hbn.block _ (hlt re)).trans re
    have hbwn := hba.trans (hbn.mono hba.size)
    have hwn : ∀ k, k < wr.heap.size → wn.heap[k]? = wr.heap[k]? := fun k hk => (hbn.block k (Nat.lt_trans hk hsz)).trans (hwr k hk)
    have hsn : wr.heap.size < wn.heap.size := Nat.lt_of_lt_of_le hsz hbn.size
    have hD' : 0 < fd.length → ∀ g off, D = some ⟨g, off, none⟩ → wr.heap.size < g := fun h0 g off e => Nat.lt_of_lt_of_le hsz (hD h0 g off e)
    clear hC a0 a1 r0a r1a r2a rba re hbn hba hwr hsz hD
    obtain ⟨⟨a0, a1⟩, ⟨b0', b1'⟩⟩ := row2 r0n
    obtain ⟨⟨c0', c1', c2'⟩, ⟨d0, d1, d2⟩⟩ := row3 ren
    obtain ⟨q0, qe, hN⟩ := set_tri (W := wn) (p := w.heap.size) (b := wr.heap.size) (j0 := 0) (j1 := 1) (j2 := 2) (u0 := .int .i64 fi) (u1 := .int .i64 ft) (u2 := .slice D fd.length cc) (x := .slice A2 lf cap2) (y := .bool ef) (by omega) r0n ren
    go_upto_region 20 with fail
    generalize hX : ((((wn.setCell ⟨wr.heap.size, 0, none⟩ (.int .i64 fi)).setCell ⟨wr.heap.size, 1, none⟩ (.int .i64 ft)).setCell ⟨wr.heap.size, 2, none⟩ (.slice D fd.length cc)).setCell ⟨w.heap.size, 0, none⟩ (.slice A2 lf cap2)).setCell ⟨w.heap.size, 1, none⟩ (.bool ef) = X at *
    have qe' : X.heap[wr.heap.size]? = some (.cells #[.int .i64 fi, .int .i64 ft, .slice D fd.length cc] 58) := qe
    have q1 := hN.row r1n (by omega) (by omega)
    have q2 := hN.row r2n (by omega) (by omega)
    have qb := hN.row rbn (by omega) (by omega)
    have hbX := hN.below hbwn (Nat.le_refl _) (by omega)
    have hTX : Taken X (b10 + 1) (.slice AE j cE) ls := hT.keep (by rw [hN.size]; exact Nat.le_of_lt hsn) (fun k hk1 hk2 => (hN.off k (by omega) (by omega)).trans (hwn k hk2))
    have hlX : Lies X D fd.length cc fd := hlD.keep (Nat.le_of_eq hN.size.symm) fun h0 g off e _ => hN.off g (by have := hD' h0 g off e; omega) (by have := hD' h0 g off e; omega)
    have hsX : wn.heap.size = X.heap.size := hN.size.symm
    have hown0 : ∀ q, (Value.slice AE j cE).ownBlock = some q → q < wr.heap.size := fun q hq => by
      obtain ⟨_, _, ho, _⟩ := hT
      exact (World.ownsRow.lt ho q hq).2
    have HQ0 := Lib.hid q0
    have HQE := Lib.hid qe'
    clear hX hN r0n r1n r2n rbn ren hbwn hwn hT hlD qe q0 a0 a1 b0' b1' c0' c1' c2' d0 d1 d2
    have hA := (Below.refl X.heap.size X).alloc (Nat.le_refl _) (.cells #[.int .i64 fi, .int .i64 ft, .slice D fd.length cc] 58)
    have hq := heap_alloc_new X (.cells #[.int .i64 fi, .int .i64 ft, .slice D fd.length cc] 58)
    have q0a := (hA.block _ (hlt HQ0)).trans HQ0
    have q1a := (hA.block _ (hlt q1)).trans q1
    have q2a := (hA.block _ (hlt q2)).trans q2
    have qba := (hA.block _ (hlt qb)).trans qb
    have hbA := hbX.trans (hA.mono hbX.size)
    have hTA := hTX.keep hA.size (fun k _ hk2 => hA.block k hk2)
    have hlA := hlX.below hA (Nat.le_refl _)
    have hbase : b10 + 1 ≤ (X.alloc (.cells #[.int .i64 fi, .int .i64 ft, .slice D fd.length cc] 58)).heap.size := hlt qba
    obtain ⟨⟨c0', c1', c2'⟩, _⟩ := row3 HQE
    obtain ⟨⟨_, _, _, _, _, _, _, _, _, x9, _⟩, _⟩ := row13 qb
    have hlte : wr.heap.size < X.heap.size := by omega
    have hltb : b10 < X.heap.size := by omega
    obtain ⟨xs, hxs, hown, hok⟩ := hTA
    have hbd : ∀ q, (Value.slice AE j cE).ownBlock = some q → b10 + 1 ≤ q ∧ q < (X.alloc (.cells #[.int .i64 fi, .int .i64 ft, .slice D fd.length cc] 58)).heap.size := World.ownsRow.lt hown
    clear hTX hlX q1 q2 qb hbX HQ0 HQE hA
    go_wp2_with (at_builtin; refine wpList_append_ents _ rfl _ _ rfl (b10 + 1) hbase (.slice AE j cE) ls.length (rowOf xs) rfl hown ⟨X.heap.size, 0, none⟩ 1 1 [⟨⟨fi, ft, fd⟩, D, cc⟩] rfl rfl (cells_oneE _ hq) (by omega) ?_)
    intro v' w3 hown' hgw hq'
    have hy : LayOk (X.alloc (.cells #[.int .i64 fi, .int .i64 ft, .slice D fd.length cc] 58)) (fun k => b10 + 1 ≤ k ∧ k < (X.alloc (.cells #[.int .i64 fi, .int .i64 ft, .slice D fd.length cc] 58)).heap.size ∧ (Value.slice AE j cE).ownBlock ≠ some k) ⟨⟨fi, ft, fd⟩, D, cc⟩ := by
      refine ⟨Nat.le_refl _, hlA, fun h0 q o e => ?_⟩
      obtain ⟨g, off, e2, hgl, _⟩ := hlA.2.2.2 h0
      have hq0 := hD' h0 q o e
      have e3 : D = some ⟨q, o, none⟩ := e
      rw [e3] at e2
      injection e2 with e2
      injection e2 with e4 _
      subst e4
      exact ⟨by omega, hgl, fun e5 => by have := hown0 q e5; omega⟩
    have hT3 := Taken.grow hxs (fun q hq => (hbd q hq).2) hok ⟨⟨fi, ft, fd⟩, D, cc⟩ hy (by rw [hjn]; exact hown') hgw (by simpa using hq')
    obtain ⟨A3, cA3, hv', _, _⟩ := hT3.ents
    rw [show (ls ++ [(⟨fi, ft, fd⟩ : Ent)]).length = j + 1 by rw [List.length_append, List.length_singleton]; omega] at hv'
    subst hv'
    have r03 := (hgw.block _ (hlt q0a) (fun e => by have := (hbd _ e.symm).1; omega)).trans q0a
    have r13 := (hgw.block _ (hlt q1a) (fun e => by have := (hbd _ e.symm).1; omega)).trans q1a
    have r23 := (hgw.block _ (hlt q2a) (fun e => by have := (hbd _ e.symm).1; omega)).trans q2a
    have rb3 := (hgw.block _ (hlt qba) (fun e => by have := (hbd _ e.symm).1; omega)).trans qba
    have hb3 : Below w.heap.size w w3 := hbA.grown hgw hbA.size (fun q hq => by have := (hbd q hq).1; omega)
    have x93 := (row13 rb3).1.2.2.2.2.2.2.2.2.2.1
    have f93 := (row13 rb3).2.2.2.2.2.2.2.2.2.2.1
    clear hown hown' hgw hq' hok hxs hy hlA hbA q0a q1a q2a qba hq hbd hbase c0' c1' c2' x9
    obtain ⟨qb', hN⟩ := set_one (W := w3) (b := b10) (j := 9) (v := .slice A3 (j + 1) cA3) rb3
    go_upto_region 21 with fail
    generalize hX2 : w3.setCell ⟨b10, 9, none⟩ (.slice A3 (j + 1) cA3) = X2 at *
    have qb2 : X2.heap[b10]? = some (.cells (mC k f o t i l c x b0 A3 (j + 1) cA3 0 0 none 0 0) 27) := qb'
    have q02 := hN.row r03 (by omega) (by omega)
    have q12 := hN.row r13 (by omega) (by omega)
    have q22 := hN.row r23 (by omega) (by omega)
    have hb2 := hN.below hb3 (by omega) (by omega)
    have hT2 := hT3.keep (Nat.le_of_eq hN.size.symm) (fun k hk1 hk2 => hN.off k (by omega) (by omega))
    clear hX2 hN qb' r03 r13 r23 rb3 hb3 hT3 x93 f93
    go_wp2
    go_roundg (gk - 1)
    case measure => have : j + gk = n0 := HJ; omega
    case rel => exact ⟨j + 1, A3, cA3, A2, cap2, by have : j + gk = n0 := HJ; omega, by go_num, by rw [show stepsN s10 (j + 1) = _ from HSTEP]; exact fun w0 hx => hk2 w0 (hkl w0 hx), by rw [show stepsN s10 (j + 1) = _ from HSTEP]; dsimp only; rw [show left fs = lf from HLF2, show fs.isNone = ef from HEF2]; exact q02, q12, q22, qb2, by rw [show stepsN s10 (j + 1) = _ from HSTEP]; exact hT2, hb2⟩
  · obtain rfl : j = n0 := by omega
    have hdec : decide ((j : Int) < (j : Int)) = false := decide_eq_false (by omega)
    rw [show stepsN s10 j = (es, sE) from HES] at hkl r0 hT
    dsimp only at hkl r0 hT
    clear hLs hstl HES HLF HEN hj hjl
    subst hst0
    have hs2 := hlt r2
    by_cases h7 : k = 7
    · subst h7
      have hQ7 : fromN snapB sE 50000 = ⟨qi, qt, qd, qs⟩ := by rw [← hQ]; unfold lastN; rw [if_pos rfl]
      have hC := fun W hW => snapFromR_any A' cap' sE W hLE hW
      rw [hQ7] at hC
      dsimp only at hC
      simp only [inv] at hC
      clear hQ hQ7
      generalize left sE = lE at *
      generalize sE.isNone = eE at *
      obtain ⟨lq, hlq⟩ : ∃ x, left qs = x := ⟨_, rfl⟩
      obtain ⟨eq', heq⟩ : ∃ x, qs.isNone = x := ⟨_, rfl⟩
      rw [hlq, heq] at hC
      have HLQ := Lib.hid hlq
      have HEQ := Lib.hid heq
      have hC := hC _ (hkl _ (hRL0 _ hbr))
      obtain ⟨⟨a0, a1⟩, _⟩ := row2 r0
      obtain ⟨⟨x0', _⟩, _⟩ := row13 rb
      clear hlq heq
      go_wp2_with fail
      refine hC.mono ?_
      rintro e wn ⟨D, dn, cc, A2, cap2, rfl, hlD, hD, hk2, hbn⟩
      obtain rfl : qd.length = dn := hlD.1
      have r0n := (hbn.block _ (hlt r0)).trans r0
      have r1n := (hbn.block _ (hlt r1)).trans r1
      have r2n := (hbn.block _ (hlt r2)).trans r2
      have rbn := (hbn.block _ (hlt rb)).trans rb
      have hbwn := hbr.trans (hbn.mono hbr.size)
      have hTn := hT.keep hbn.size (fun k _ hk2 => hbn.block k hk2)
      clear hC a0 a1 x0' r0 r1 r2 rb hbn hbr hT
      obtain ⟨⟨a0, a1⟩, ⟨b0', b1'⟩⟩ := row2 r0n
      obtain ⟨⟨_, _, _, _, _, _, _, _, _, _, g10, g11, g12⟩, ⟨_, _, _, _, _, _, _, _, _, _, z10, z11, z12⟩⟩ := row13 rbn
      obtain ⟨q0, qb0, hN⟩ := set_tri (W := wn) (p := w.heap.size) (b := b10) (j0 := 10) (j1 := 11) (j2 := 12) (u0 := .int .i64 qi) (u1 := .int .i64 qt) (u2 := .slice D qd.length cc) (x := .slice A2 lq cap2) (y := .bool eq') (by omega) r0n rbn
      go_upto_region 24 with fail
      generalize hX : ((((wn.setCell ⟨b10, 10, none⟩ (.int .i64 qi)).setCell ⟨b10, 11, none⟩ (.int .i64 qt)).setCell ⟨b10, 12, none⟩ (.slice D qd.length cc)).setCell ⟨w.heap.size, 0, none⟩ (.slice A2 lq cap2)).setCell ⟨w.heap.size, 1, none⟩ (.bool eq') = X at *
      have qb : X.heap[b10]? = some (.cells (mC 7 f o t i l c x b0 AE es.length cE qi qt D qd.length cc) 27) := qb0
      have q1 := hN.row r1n (by omega) (by omega)
      have q2 := hN.row r2n (by omega) (by omega)
      have hbX := hN.below hbwn (Nat.le_refl _) (by omega)
      have hTX := hTn.keep (Nat.le_of_eq hN.size.symm) (fun k hk1 hk2 => hN.off k (by omega) (by omega))
      have hlX : Lies X D qd.length cc qd := hlD.keep (Nat.le_of_eq hN.size.symm) fun h0 g off e _ => hN.off g (by have := hD h0 g off e; omega) (by have := hD h0 g off e; omega)
      have hDX : 0 < qd.length → ∀ g off, D = some ⟨g, off, none⟩ → b10 + 1 ≤ g := fun h0 g off e => by have := hD h0 g off e; omega
      replace hkl := fun w0 hx => hk2 w0 (hkl w0 hx)
      rw [← show left qs = lq from HLQ, ← show qs.isNone = eq' from HEQ] at q0
      clear hX hN hk2 r0n r1n r2n rbn hbwn hTn hlD hD qb0 a0 a1 b0' b1' g10 g11 g12 z10 z11 z12
      obtain ⟨AX, cX, hAX, hcm, hents⟩ := hTX.ents
      injection hAX with y1 y2 y3
      subst y1
      subst y3
      have hM : MsgIn X (fun k => b10 + 1 ≤ k) ⟨7, f, o, t, i, l, c, x, b0, es, ⟨qi, qt, qd⟩⟩ AE cE D cc := ⟨hents, hcm, hlX, hDX⟩
      have hRR := rightMR_any ⟨7, f, o, t, i, l, c, x, b0, es, ⟨qi, qt, qd⟩⟩ AE cE D cc X _ hM
      obtain ⟨MM, hMM⟩ : ∃ MM : Msg, MM = ⟨7, f, o, t, i, l, c, x, b0, es, ⟨qi, qt, qd⟩⟩ := ⟨_, rfl⟩
      have hF : (if qs ≠ none ∧ rightM MM = true then (MM, qs) else (Msg.zero, none)) = (FM, FS) := by rw [hMM]; exact HF
      rw [← hMM] at hRR hM
      generalize rightM MM = qq at *
      rw [hMM] at hRR
      dsimp only [msgV] at hRR
      have HMM := Lib.hid hMM
      have HM := Lib.hid hM
      clear hMM hM HF hents hcm hlX hDX y2 hTX
      obtain ⟨⟨a0, a1⟩, _⟩ := row2 q0
      cases qs with
      | none =>
        rw [if_neg (by simp)] at hF
        obtain ⟨rfl, rfl⟩ := Prod.mk.inj hF
        simp only [Option.isNone_none] at a1
        clear hRR HM HMM hF
        have hz1 := setRow_at #[.int .i64 0, .int .i64 0, .int .i64 0, .int .i64 0, .int .i64 0, .int .i64 0, .int .i64 0, .int .i64 0, .bool false, .slice none 0 0, .int .i64 0, .int .i64 0, .slice none 0 0] q1
        have hz2 : (X.setRow (w.heap.size + 1) #[.int .i64 0, .int .i64 0, .int .i64 0, .int .i64 0, .int .i64 0, .int .i64 0, .int .i64 0, .int .i64 0, .bool false, .slice none 0 0, .int .i64 0, .int .i64 0, .slice none 0 0]).heap[w.heap.size + 1 + 1]? = some (.cells #[.slice none 0 0, .bool false] 48) := (setRow_other _ _ _ _ (by omega)).trans q2
        have hz3 := setRow_at #[.slice none 0 0, .bool true] hz2
        have hz4 : ((X.setRow (w.heap.size + 1) #[.int .i64 0, .int .i64 0, .int .i64 0, .int .i64 0, .int .i64 0, .int .i64 0, .int .i64 0, .int .i64 0, .bool false, .slice none 0 0, .int .i64 0, .int .i64 0, .slice none 0 0]).setRow (w.heap.size + 1 + 1) #[.slice none 0 0, .bool true]).heap[w.heap.size + 1]? = some (.cells #[.int .i64 0, .int .i64 0, .int .i64 0, .int .i64 0, .int .i64 0, .int .i64 0, .int .i64 0, .int .i64 0, .bool false, .slice none 0 0, .int .i64 0, .int .i64 0, .slice none 0 0] 27) := (setRow_other _ _ _ _ (by omega)).trans hz1
        have hz5 := below_setRow (below_setRow hbX (g := w.heap.size + 1) (by omega) #[.int .i64 0, .int .i64 0, .int .i64 0, .int .i64 0, .int .i64 0, .int .i64 0, .int .i64 0, .int .i64 0, .bool false, .slice none 0 0, .int .i64 0, .int .i64 0, .slice none 0 0]) (g := w.heap.size + 1 + 1) (by omega) #[.slice none 0 0, .bool true]
        go_wp2_with (first | refine wpList_store_row rfl _ _ _ rfl (w.heap.size + 1) #[.int .i64 0, .int .i64 0, .int .i64 0, .int .i64 0, .int .i64 0, .int .i64 0, .int .i64 0, .int .i64 0, .bool false, .slice none 0 0, .int .i64 0, .int .i64 0, .slice none 0 0] (by rfl) (by rfl) _ _ q1 (by kernel_rfl) rfl (by first | rfl | kernel_rfl | simp [Value.oneCell']) ?_ | refine wpList_store_row rfl _ _ _ rfl (w.heap.size + 1 + 1) #[.slice none 0 0, .bool true] (by rfl) (by rfl) _ _ hz2 (by kernel_rfl) rfl (by first | rfl | kernel_rfl | simp [Value.oneCell']) ?_)
        refine bodyPost_ret (res_cell2 rfl _ _ (w.heap.size + 1) (w.heap.size + 1 + 1) _ _ _ _ _ _ rfl rfl hz4 hz3 Try.underlying27 Try.underlying48 rfl rfl (by kernel_rfl) (by kernel_rfl)) rfl ?_
        exact ⟨none, 0, none, 0, none, 0, rfl, MsgIn.zero _ _, fun w0 _ => RLies.bad w0, hz5⟩
      | some sl =>
        simp only [Option.isNone_some] at a1
        obtain ⟨⟨n0, n1, n2, n3, n4, n5, n6, n7, n8, n9, n10, n11, n12⟩, _⟩ := row13 qb
        go_wp2_with fail
        refine hRR.mono ?_
        rintro e w8 ⟨rfl, hb8⟩
        have p0 := (hb8.block _ (hlt q0)).trans q0
        have p1 := (hb8.block _ (hlt q1)).trans q1
        have p2 := (hb8.block _ (hlt q2)).trans q2
        have pb := (hb8.block _ (hlt qb)).trans qb
        have hbw8 := hbX.trans (hb8.mono hbX.size)
        have hM8 := (show MsgIn X (fun k => b10 + 1 ≤ k) MM AE cE D cc from HM).below hb8 (Nat.le_refl _)
        clear hRR a0 a1 n0 n1 n2 n3 n4 n5 n6 n7 n8 n9 n10 n11 n12 q0 q1 q2 qb hb8 hbX
        cases qq with
        | false =>
          rw [if_neg (by simp)] at hF
          obtain ⟨rfl, rfl⟩ := Prod.mk.inj hF
          clear hM8 HM HMM hF
          have hz1 := setRow_at #[.int .i64 0, .int .i64 0, .int .i64 0, .int .i64 0, .int .i64 0, .int .i64 0, .int .i64 0, .int .i64 0, .bool false, .slice none 0 0, .int .i64 0, .int .i64 0, .slice none 0 0] p1
          have hz2 : (w8.setRow (w.heap.size + 1) #[.int .i64 0, .int .i64 0, .int .i64 0, .int .i64 0, .int .i64 0, .int .i64 0, .int .i64 0, .int .i64 0, .bool false, .slice none 0 0, .int .i64 0, .int .i64 0, .slice none 0 0]).heap[w.heap.size + 1 + 1]? = some (.cells #[.slice none 0 0, .bool false] 48) := (setRow_other _ _ _ _ (by omega)).trans p2
          have hz3 := setRow_at #[.slice none 0 0, .bool true] hz2
          have hz4 : ((w8.setRow (w.heap.size + 1) #[.int .i64 0, .int .i64 0, .int .i64 0, .int .i64 0, .int .i64 0, .int .i64 0, .int .i64 0, .int .i64 0, .bool false, .slice none 0 0, .int .i64 0, .int .i64 0, .slice none 0 0]).setRow (w.heap.size + 1 + 1) #[.slice none 0 0, .bool true]).heap[w.heap.size + 1]? = some (.cells #[.int .i64 0, .int .i64 0, .int .i64 0, .int .i64 0, .int .i64 0, .int .i64 0, .int .i64 0, .int .i64 0, .bool false, .slice none 0 0, .int .i64 0, .int .i64 0, .slice none 0 0] 27) := (setRow_other _ _ _ _ (by omega)).trans hz1
          have hz5 := below_setRow (below_setRow hbw8 (g := w.heap.size + 1) (by omega) #[.int .i64 0, .int .i64 0, .int .i64 0, .int .i64 0, .int .i64 0, .int .i64 0, .int .i64 0, .int .i64 0, .bool false, .slice none 0 0, .int .i64 0, .int .i64 0, .slice none 0 0]) (g := w.heap.size + 1 + 1) (by omega) #[.slice none 0 0, .bool true]
          go_wp2_with (first | refine wpList_store_row rfl _ _ _ rfl (w.heap.size + 1) #[.int .i64 0, .int .i64 0, .int .i64 0, .int .i64 0, .int .i64 0, .int .i64 0, .int .i64 0, .int .i64 0, .bool false, .slice none 0 0, .int .i64 0, .int .i64 0, .slice none 0 0] (by rfl) (by rfl) _ _ p1 (by kernel_rfl) rfl (by first | rfl | kernel_rfl | simp [Value.oneCell']) ?_ | refine wpList_store_row rfl _ _ _ rfl (w.heap.size + 1 + 1) #[.slice none 0 0, .bool true] (by rfl) (by rfl) _ _ hz2 (by kernel_rfl) rfl (by first | rfl | kernel_rfl | simp [Value.oneCell']) ?_)
          refine bodyPost_ret (res_cell2 rfl _ _ (w.heap.size + 1) (w.heap.size + 1 + 1) _ _ _ _ _ _ rfl rfl hz4 hz3 Try.underlying27 Try.underlying48 rfl rfl (by kernel_rfl) (by kernel_rfl)) rfl ?_
          exact ⟨none, 0, none, 0, none, 0, rfl, MsgIn.zero _ _, fun w0 _ => RLies.bad w0, hz5⟩
        | true =>
          rw [if_pos ⟨by simp, rfl⟩] at hF
          obtain ⟨rfl, rfl⟩ := Prod.mk.inj hF
          clear hF
          have hz1 := setRow_at (W := w8.drew) #[.int .i64 7, .int .i64 f, .int .i64 o, .int .i64 t, .int .i64 i, .int .i64 l, .int .i64 c, .int .i64 x, .bool b0, .slice AE es.length cE, .int .i64 qi, .int .i64 qt, .slice D qd.length cc] p1
          have hz2 : (w8.drew.setRow (w.heap.size + 1) #[.int .i64 7, .int .i64 f, .int .i64 o, .int .i64 t, .int .i64 i, .int .i64 l, .int .i64 c, .int .i64 x, .bool b0, .slice AE es.length cE, .int .i64 qi, .int .i64 qt, .slice D qd.length cc]).heap[w.heap.size + 1 + 1]? = some (.cells #[.slice none 0 0, .bool false] 48) := (setRow_other _ _ _ _ (by omega)).trans p2
          have hz3 := setRow_at #[.slice A2 (left (some sl)) cap2, .bool false] hz2
          have hz4 : ((w8.drew.setRow (w.heap.size + 1) #[.int .i64 7, .int .i64 f, .int .i64 o, .int .i64 t, .int .i64 i, .int .i64 l, .int .i64 c, .int .i64 x, .bool b0, .slice AE es.length cE, .int .i64 qi, .int .i64 qt, .slice D qd.length cc]).setRow (w.heap.size + 1 + 1) #[.slice A2 (left (some sl)) cap2, .bool false]).heap[w.heap.size + 1]? = some (.cells #[.int .i64 7, .int .i64 f, .int .i64 o, .int .i64 t, .int .i64 i, .int .i64 l, .int .i64 c, .int .i64 x, .bool b0, .slice AE es.length cE, .int .i64 qi, .int .i64 qt, .slice D qd.length cc] 27) := (setRow_other _ _ _ _ (by omega)).trans hz1
          have hz5 := below_setRow (below_setRow hbw8.drew (g := w.heap.size + 1) (by omega) #[.int .i64 7, .int .i64 f, .int .i64 o, .int .i64 t, .int .i64 i, .int .i64 l, .int .i64 c, .int .i64 x, .bool b0, .slice AE es.length cE, .int .i64 qi, .int .i64 qt, .slice D qd.length cc]) (g := w.heap.size + 1 + 1) (by omega) #[.slice A2 (left (some sl)) cap2, .bool false]
          have hoff : ∀ qz, b10 + 1 ≤ qz → ((w8.drew.setRow (w.heap.size + 1) #[.int .i64 7, .int .i64 f, .int .i64 o, .int .i64 t, .int .i64 i, .int .i64 l, .int .i64 c, .int .i64 x, .bool b0, .slice AE es.length cE, .int .i64 qi, .int .i64 qt, .slice D qd.length cc]).setRow (w.heap.size + 1 + 1) #[.slice A2 (left (some sl)) cap2, .bool false]).heap[qz]? = w8.heap[qz]? := fun qz hk => (setRow_other _ _ _ _ (by omega)).trans ((setRow_other _ _ _ _ (by omega)).trans rfl)
          have hsz : ((w8.drew.setRow (w.heap.size + 1) #[.int .i64 7, .int .i64 f, .int .i64 o, .int .i64 t, .int .i64 i, .int .i64 l, .int .i64 c, .int .i64 x, .bool b0, .slice AE es.length cE, .int .i64 qi, .int .i64 qt, .slice D qd.length cc]).setRow (w.heap.size + 1 + 1) #[.slice A2 (left (some sl)) cap2, .bool false]).heap.size = w8.heap.size := by simp
          have hb1 : (w8.drew.setRow (w.heap.size + 1) #[.int .i64 7, .int .i64 f, .int .i64 o, .int .i64 t, .int .i64 i, .int .i64 l, .int .i64 c, .int .i64 x, .bool b0, .slice AE es.length cE, .int .i64 qi, .int .i64 qt, .slice D qd.length cc]).heap[b10]? = some (.cells #[.int .i64 7, .int .i64 f, .int .i64 o, .int .i64 t, .int .i64 i, .int .i64 l, .int .i64 c, .int .i64 x, .bool b0, .slice AE es.length cE, .int .i64 qi, .int .i64 qt, .slice D qd.length cc] 27) := (setRow_other _ _ _ _ (by omega)).trans pb
          have hb2 : ((w8.drew.setRow (w.heap.size + 1) #[.int .i64 7, .int .i64 f, .int .i64 o, .int .i64 t, .int .i64 i, .int .i64 l, .int .i64 c, .int .i64 x, .bool b0, .slice AE es.length cE, .int .i64 qi, .int .i64 qt, .slice D qd.length cc]).setRow (w.heap.size + 1 + 1) #[.slice A2 (left (some sl)) cap2, .bool false]).heap[b10]? = some (.cells #[.int .i64 7, .int .i64 f, .int .i64 o, .int .i64 t, .int .i64 i, .int .i64 l, .int .i64 c, .int .i64 x, .bool b0, .slice AE es.length cE, .int .i64 qi, .int .i64 qt, .slice D qd.length cc] 27) := (setRow_other _ _ _ _ (by omega)).trans hb1
          have hc1 : (w8.drew.setRow (w.heap.size + 1) #[.int .i64 7, .int .i64 f, .int .i64 o, .int .i64 t, .int .i64 i, .int .i64 l, .int .i64 c, .int .i64 x, .bool b0, .slice AE es.length cE, .int .i64 qi, .int .i64 qt, .slice D qd.length cc]).heap[w.heap.size]? = some (.cells #[.slice A2 (left (some sl)) cap2, .bool (some sl : St).isNone] 48) := (setRow_other _ _ _ _ (by omega)).trans p0
          have hc2 : ((w8.drew.setRow (w.heap.size + 1) #[.int .i64 7, .int .i64 f, .int .i64 o, .int .i64 t, .int .i64 i, .int .i64 l, .int .i64 c, .int .i64 x, .bool b0, .slice AE es.length cE, .int .i64 qi, .int .i64 qt, .slice D qd.length cc]).setRow (w.heap.size + 1 + 1) #[.slice A2 (left (some sl)) cap2, .bool false]).heap[w.heap.size]? = some (.cells #[.slice A2 (left (some sl)) cap2, .bool (some sl : St).isNone] 48) := (setRow_other _ _ _ _ (by omega)).trans hc1
          have hS0 : (fun w' => (w'.cell? ⟨b10, 0, none⟩ = some (.int .i64 7) ∧ w'.cell? ⟨b10, 1, none⟩ = some (.int .i64 f) ∧ w'.cell? ⟨b10, 2, none⟩ = some (.int .i64 o) ∧ w'.cell? ⟨b10, 3, none⟩ = some (.int .i64 t) ∧ w'.cell? ⟨b10, 4, none⟩ = some (.int .i64 i) ∧ w'.cell? ⟨b10, 5, none⟩ = some (.int .i64 l) ∧ w'.cell? ⟨b10, 6, none⟩ = some (.int .i64 c) ∧ w'.cell? ⟨b10, 7, none⟩ = some (.int .i64 x) ∧ w'.cell? ⟨b10, 8, none⟩ = some (.bool b0) ∧ w'.cell? ⟨b10, 9, none⟩ = some (.slice AE es.length cE) ∧ w'.cell? ⟨b10, 10, none⟩ = some (.int .i64 qi) ∧ w'.cell? ⟨b10, 11, none⟩ = some (.int .i64 qt) ∧ w'.cell? ⟨b10, 12, none⟩ = some (.slice D qd.length cc)) ∧ (w'.cell? ⟨w.heap.size, 0, none⟩ = some (.slice A2 (left (some sl)) cap2) ∧ w'.cell? ⟨w.heap.size, 1, none⟩ = some (.bool false))) w8.drew := ⟨(row13 (show w8.drew.heap[b10]? = _ from pb)).1, (row2 (show w8.drew.heap[w.heap.size]? = _ from p0)).1⟩
          have hS1 : (fun w' => (w'.cell? ⟨b10, 0, none⟩ = some (.int .i64 7) ∧ w'.cell? ⟨b10, 1, none⟩ = some (.int .i64 f) ∧ w'.cell? ⟨b10, 2, none⟩ = some (.int .i64 o) ∧ w'.cell? ⟨b10, 3, none⟩ = some (.int .i64 t) ∧ w'.cell? ⟨b10, 4, none⟩ = some (.int .i64 i) ∧ w'.cell? ⟨b10, 5, none⟩ = some (.int .i64 l) ∧ w'.cell? ⟨b10, 6, none⟩ = some (.int .i64 c) ∧ w'.cell? ⟨b10, 7, none⟩ = some (.int .i64 x) ∧ w'.cell? ⟨b10, 8, none⟩ = some (.bool b0) ∧ w'.cell? ⟨b10, 9, none⟩ = some (.slice AE es.length cE) ∧ w'.cell? ⟨b10, 10, none⟩ = some (.int .i64 qi) ∧ w'.cell? ⟨b10, 11, none⟩ = some (.int .i64 qt) ∧ w'.cell? ⟨b10, 12, none⟩ = some (.slice D qd.length cc)) ∧ (w'.cell? ⟨w.heap.size, 0, none⟩ = some (.slice A2 (left (some sl)) cap2) ∧ w'.cell? ⟨w.heap.size, 1, none⟩ = some (.bool false))) (w8.drew.setRow (w.heap.size + 1) #[.int .i64 7, .int .i64 f, .int .i64 o, .int .i64 t, .int .i64 i, .int .i64 l, .int .i64 c, .int .i64 x, .bool b0, .slice AE es.length cE, .int .i64 qi, .int .i64 qt, .slice D qd.length cc]) := ⟨(row13 hb1).1, (row2 hc1).1⟩
          have hS2 : (fun w' => (w'.cell? ⟨b10, 0, none⟩ = some (.int .i64 7) ∧ w'.cell? ⟨b10, 1, none⟩ = some (.int .i64 f) ∧ w'.cell? ⟨b10, 2, none⟩ = some (.int .i64 o) ∧ w'.cell? ⟨b10, 3, none⟩ = some (.int .i64 t) ∧ w'.cell? ⟨b10, 4, none⟩ = some (.int .i64 i) ∧ w'.cell? ⟨b10, 5, none⟩ = some (.int .i64 l) ∧ w'.cell? ⟨b10, 6, none⟩ = some (.int .i64 c) ∧ w'.cell? ⟨b10, 7, none⟩ = some (.int .i64 x) ∧ w'.cell? ⟨b10, 8, none⟩ = some (.bool b0) ∧ w'.cell? ⟨b10, 9, none⟩ = some (.slice AE es.length cE) ∧ w'.cell? ⟨b10, 10, none⟩ = some (.int .i64 qi) ∧ w'.cell? ⟨b10, 11, none⟩ = some (.int .i64 qt) ∧ w'.cell? ⟨b10, 12, none⟩ = some (.slice D qd.length cc)) ∧ (w'.cell? ⟨w.heap.size, 0, none⟩ = some (.slice A2 (left (some sl)) cap2) ∧ w'.cell? ⟨w.heap.size, 1, none⟩ = some (.bool false))) ((w8.drew.setRow (w.heap.size + 1) #[.int .i64 7, .int .i64 f, .int .i64 o, .int .i64 t, .int .i64 i, .int .i64 l, .int .i64 c, .int .i64 x, .bool b0, .slice AE es.length cE, .int .i64 qi, .int .i64 qt, .slice D qd.length cc]).setRow (w.heap.size + 1 + 1) #[.slice A2 (left (some sl)) cap2, .bool false]) := ⟨(row13 hb2).1, (row2 hc2).1⟩
          have hp1 : w8.drew.heap[w.heap.size + 1]? = some (.cells #[.int .i64 0, .int .i64 0, .int .i64 0, .int .i64 0, .int .i64 0, .int .i64 0, .int .i64 0, .int .i64 0, .bool false, .slice none 0 0, .int .i64 0, .int .i64 0, .slice none 0 0] 27) := p1
          go_upto_region 26 with fail
          refine wp_region_held_drew (S := (fun w' => (w'.cell? ⟨b10, 0, none⟩ = some (.int .i64 7) ∧ w'.cell? ⟨b10, 1, none⟩ = some (.int .i64 f) ∧ w'.cell? ⟨b10, 2, none⟩ = some (.int .i64 o) ∧ w'.cell? ⟨b10, 3, none⟩ = some (.int .i64 t) ∧ w'.cell? ⟨b10, 4, none⟩ = some (.int .i64 i) ∧ w'.cell? ⟨b10, 5, none⟩ = some (.int .i64 l) ∧ w'.cell? ⟨b10, 6, none⟩ = some (.int .i64 c) ∧ w'.cell? ⟨b10, 7, none⟩ = some (.int .i64 x) ∧ w'.cell? ⟨b10, 8, none⟩ = some (.bool b0) ∧ w'.cell? ⟨b10, 9, none⟩ = some (.slice AE es.length cE) ∧ w'.cell? ⟨b10, 10, none⟩ = some (.int .i64 qi) ∧ w'.cell? ⟨b10, 11, none⟩ = some (.int .i64 qt) ∧ w'.cell? ⟨b10, 12, none⟩ = some (.slice D qd.length cc)) ∧ (w'.cell? ⟨w.heap.size, 0, none⟩ = some (.slice A2 (left (some sl)) cap2) ∧ w'.cell? ⟨w.heap.size, 1, none⟩ = some (.bool false)))) (by kernel_rfl) hS0 (fun hHeld => ?_)
          change wpAnyH _ _ _ _ _ 4 #[false, false, false, false] _ _
          refine wpAnyH_take (i := 0) (oi := { dst := some 99, op := Go.Op.load 27 (Go.Operand.tmp 10), type := 27, pos := "ref.go:96", after := #[], guard := none }) (v := ?_) rfl (by kernel_rfl) (by kernel_rfl) (by kernel_rfl) (fun _ _ _ h => h) (Or.inl ⟨by rfl, ?_⟩) (by assumption) ?_
          rotate_left
          · ((intro w hSw; (try dsimp only at hSw); go_simp); (try with_reducible rfl))
          try simp only [Act.put, List.setIfInBounds_toArray, List.set_cons_zero, List.set_cons_succ]
          refine wpAnyH_take (i := 1) (oi := { dst := some 100, op := Go.Op.load 48 (Go.Operand.tmp 1), type := 48, pos := "ref.go:96", after := #[{ on := 2, ground := Go.Ground.gcOnly Go.Departure.lateStores }], guard := none }) (v := ?_) rfl (by kernel_rfl) (by kernel_rfl) (by kernel_rfl) (fun _ _ _ h => h) (Or.inl ⟨by rfl, ?_⟩) (by assumption) ?_
          rotate_left
          · ((intro w hSw; (try dsimp only at hSw); go_simp); (try with_reducible rfl))
          try simp only [Act.put, List.setIfInBounds_toArray, List.set_cons_zero, List.set_cons_succ]
          refine wpAnyH_ready (rs := [2]) (by kernel_rfl) (by simp) ?_
          refine AllReadyH.cons (o := { dst := none, op := Go.Op.store 27 (Go.Operand.tmp 2) (Go.Operand.tmp 99), type := 0, pos := "ref.go:96", after := #[{ on := 0, ground := Go.Ground.data }, { on := 0, ground := Go.Ground.phase }, { on := 1, ground := Go.Ground.textOnly Go.Departure.lateStores }], guard := none }) rfl (fun KK hK => ?_) AllReadyH.nil
          rw [if_pos (by rfl)]
          refine wp_store_row _ _ _ rfl (w.heap.size + 1) #[.int .i64 7, .int .i64 f, .int .i64 o, .int .i64 t, .int .i64 i, .int .i64 l, .int .i64 c, .int .i64 x, .bool b0, .slice AE es.length cE, .int .i64 qi, .int .i64 qt, .slice D qd.length cc] (by rfl) (by rfl) _ _ hp1 (by kernel_rfl) rfl (by first | rfl | kernel_rfl | simp [Value.oneCell']) ?_
          refine hK.out _ _ hS1 (fun hHeld2 => ?_)
          clear hK KK hHeld
          have hHeld := hHeld2
          clear hHeld2
          try simp only [Act.put, List.setIfInBounds_toArray, List.set_cons_zero, List.set_cons_succ]
          refine wpAnyH_ready (rs := [3]) (by kernel_rfl) (by simp) ?_
          refine AllReadyH.cons (o := { dst := none, op := Go.Op.store 48 (Go.Operand.tmp 3) (Go.Operand.tmp 100), type := 0, pos := "ref.go:96", after := #[{ on := 1, ground := Go.Ground.data }, { on := 2, ground := Go.Ground.chain }, { on := 0, ground := Go.Ground.phase }, { on := 1, ground := Go.Ground.phase }, { on := 2, ground := Go.Ground.phase }], guard := none }) rfl (fun KK hK => ?_) AllReadyH.nil
          rw [if_pos (by rfl)]
          refine wp_store_row _ _ _ rfl (w.heap.size + 1 + 1) #[.slice A2 (left (some sl)) cap2, .bool false] (by rfl) (by rfl) _ _ hz2 (by kernel_rfl) rfl (by first | rfl | kernel_rfl | simp [Value.oneCell']) ?_
          refine hK.out _ _ hS2 (fun hHeld2 => ?_)
          clear hK KK hHeld
          have hHeld := hHeld2
          clear hHeld2
          try simp only [Act.put, List.setIfInBounds_toArray, List.set_cons_zero, List.set_cons_succ]
          refine wpAnyH_done (by kernel_rfl) ?_ _
          clear hHeld hS0 hS1 hS2 hb1 hb2 hc1 hc2 hp1
          go_wp2
          refine bodyPost_ret (res_cell2 rfl _ _ (w.heap.size + 1) (w.heap.size + 1 + 1) _ _ _ _ _ _ rfl rfl hz4 hz3 Try.underlying27 Try.underlying48 rfl rfl (by kernel_rfl) (by kernel_rfl)) rfl ?_
          rw [show MM = ⟨7, f, o, t, i, l, c, x, b0, es, ⟨qi, qt, qd⟩⟩ from HMM]
          have hM9 := hM8.keep (Nat.le_of_eq hsz.symm) (fun k _ hk2 => hoff k hk2)
          rw [show MM = ⟨7, f, o, t, i, l, c, x, b0, es, ⟨qi, qt, qd⟩⟩ from HMM] at hM9
          exact ⟨AE, cE, D, cc, A2, cap2, rfl, hM9.mono fun k hk => by omega, hkl, hz5⟩
    · have hQ0 : (⟨qi, qt, qd, qs⟩ : FromL) = ⟨0, 0, [], sE⟩ := by rw [← hQ]; unfold lastN; rw [if_neg h7]
      injection hQ0 with e1 e2 e3 e4
      subst e1 e2 e3 e4
      have e7 : (k == 7) = false := beq_eq_false_iff_ne.2 h7
      have e8 : (k = 7) = False := eq_false h7
      clear hQ h7
      obtain ⟨⟨x0', _⟩, _⟩ := row13 rb
      go_upto_region 24 with fail
      clear x0' e7 e8
      have hlX : Lies wr none 0 0 [] := Lies.nil wr
      have hDX : 0 < ([] : List UInt8).length → ∀ (g off : Nat), (none : Option Addr) = some ⟨g, off, none⟩ → b10 + 1 ≤ g := fun h0 => absurd h0 (by simp)
      obtain ⟨AX, cX, hAX, hcm, hents⟩ := hT.ents
      injection hAX with y1 y2 y3
      subst y1
      subst y3
      have hM : MsgIn wr (fun k => b10 + 1 ≤ k) ⟨k, f, o, t, i, l, c, x, b0, es, ⟨0, 0, []⟩⟩ AE cE none 0 := ⟨hents, hcm, hlX, hDX⟩
      have hRR := rightMR_any ⟨k, f, o, t, i, l, c, x, b0, es, ⟨0, 0, []⟩⟩ AE cE none 0 wr _ hM
      obtain ⟨MM, hMM⟩ : ∃ MM : Msg, MM = ⟨k, f, o, t, i, l, c, x, b0, es, ⟨0, 0, []⟩⟩ := ⟨_, rfl⟩
      have hF : (if qs ≠ none ∧ rightM MM = true then (MM, qs) else (Msg.zero, none)) = (FM, FS) := by rw [hMM]; exact HF
      rw [← hMM] at hRR hM
      generalize rightM MM = qq at *
      rw [hMM] at hRR
      dsimp only [msgV] at hRR
      have HMM := Lib.hid hMM
      have HM := Lib.hid hM
      clear hMM hM HF hents hcm hlX hDX y2 hT
      obtain ⟨⟨a0, a1⟩, _⟩ := row2 r0
      cases qs with
      | none =>
        rw [if_neg (by simp)] at hF
        obtain ⟨rfl, rfl⟩ := Prod.mk.inj hF
        simp only [Option.isNone_none] at a1
        clear hRR HM HMM hF
        have hz1 := setRow_at #[.int .i64 0, .int .i64 0, .int .i64 0, .int .i64 0, .int .i64 0, .int .i64 0, .int .i64 0, .int .i64 0, .bool false, .slice none 0 0, .int .i64 0, .int .i64 0, .slice none 0 0] r1
        have hz2 : (wr.setRow (w.heap.size + 1) #[.int .i64 0, .int .i64 0, .int .i64 0, .int .i64 0, .int .i64 0, .int .i64 0, .int .i64 0, .int .i64 0, .bool false, .slice none 0 0, .int .i64 0, .int .i64 0, .slice none 0 0]).heap[w.heap.size + 1 + 1]? = some (.cells #[.slice none 0 0, .bool false] 48) := (setRow_other _ _ _ _ (by omega)).trans r2
        have hz3 := setRow_at #[.slice none 0 0, .bool true] hz2
        have hz4 : ((wr.setRow (w.heap.size + 1) #[.int .i64 0, .int .i64 0, .int .i64 0, .int .i64 0, .int .i64 0, .int .i64 0, .int .i64 0, .int .i64 0, .bool false, .slice none 0 0, .int .i64 0, .int .i64 0, .slice none 0 0]).setRow (w.heap.size + 1 + 1) #[.slice none 0 0, .bool true]).heap[w.heap.size + 1]? = some (.cells #[.int .i64 0, .int .i64 0, .int .i64 0, .int .i64 0, .int .i64 0, .int .i64 0, .int .i64 0, .int .i64 0, .bool false, .slice none 0 0, .int .i64 0, .int .i64 0, .slice none 0 0] 27) := (setRow_other _ _ _ _ (by omega)).trans hz1
        have hz5 := below_setRow (below_setRow hbr (g := w.heap.size + 1) (by omega) #[.int .i64 0, .int .i64 0, .int .i64 0, .int .i64 0, .int .i64 0, .int .i64 0, .int .i64 0, .int .i64 0, .bool false, .slice none 0 0, .int .i64 0, .int .i64 0, .slice none 0 0]) (g := w.heap.size + 1 + 1) (by omega) #[.slice none 0 0, .bool true]
        go_wp2_with (first | refine wpList_store_row rfl _ _ _ rfl (w.heap.size + 1) #[.int .i64 0, .int .i64 0, .int .i64 0, .int .i64 0, .int .i64 0, .int .i64 0, .int .i64 0, .int .i64 0, .bool false, .slice none 0 0, .int .i64 0, .int .i64 0, .slice none 0 0] (by rfl) (by rfl) _ _ r1 (by kernel_rfl) rfl (by first | rfl | kernel_rfl | simp [Value.oneCell']) ?_ | refine wpList_store_row rfl _ _ _ rfl (w.heap.size + 1 + 1) #[.slice none 0 0, .bool true] (by rfl) (by rfl) _ _ hz2 (by kernel_rfl) rfl (by first | rfl | kernel_rfl | simp [Value.oneCell']) ?_)
        refine bodyPost_ret (res_cell2 rfl _ _ (w.heap.size + 1) (w.heap.size + 1 + 1) _ _ _ _ _ _ rfl rfl hz4 hz3 Try.underlying27 Try.underlying48 rfl rfl (by kernel_rfl) (by kernel_rfl)) rfl ?_
        exact ⟨none, 0, none, 0, none, 0, rfl, MsgIn.zero _ _, fun w0 _ => RLies.bad w0, hz5⟩
      | some sl =>
        simp only [Option.isNone_some] at a1
        obtain ⟨⟨n0, n1, n2, n3, n4, n5, n6, n7, n8, n9, n10, n11, n12⟩, _⟩ := row13 rb
        go_wp2_with fail
        refine hRR.mono ?_
        rintro e w8 ⟨rfl, hb8⟩
        have p0 := (hb8.block _ (hlt r0)).trans r0
        have p1 := (hb8.block _ (hlt r1)).trans r1
        have p2 := (hb8.block _ (hlt r2)).trans r2
        have pb := (hb8.block _ (hlt rb)).trans rb
        have hbw8 := hbr.trans (hb8.mono hbr.size)
        have hM8 := (show MsgIn wr (fun k => b10 + 1 ≤ k) MM AE cE none 0 from HM).below hb8 (Nat.le_refl _)
        clear hRR a0 a1 n0 n1 n2 n3 n4 n5 n6 n7 n8 n9 n10 n11 n12 r0 r1 r2 rb hb8 hbr
        cases qq with
        | false =>
          rw [if_neg (by simp)] at hF
          obtain ⟨rfl, rfl⟩ := Prod.mk.inj hF
          clear hM8 HM HMM hF
          have hz1 := setRow_at #[.int .i64 0, .int .i64 0, .int .i64 0, .int .i64 0, .int .i64 0, .int .i64 0, .int .i64 0, .int .i64 0, .bool false, .slice none 0 0, .int .i64 0, .int .i64 0, .slice none 0 0] p1
          have hz2 : (w8.setRow (w.heap.size + 1) #[.int .i64 0, .int .i64 0, .int .i64 0, .int .i64 0, .int .i64 0, .int .i64 0, .int .i64 0, .int .i64 0, .bool false, .slice none 0 0, .int .i64 0, .int .i64 0, .slice none 0 0]).heap[w.heap.size + 1 + 1]? = some (.cells #[.slice none 0 0, .bool false] 48) := (setRow_other _ _ _ _ (by omega)).trans p2
          have hz3 := setRow_at #[.slice none 0 0, .bool true] hz2
          have hz4 : ((w8.setRow (w.heap.size + 1) #[.int .i64 0, .int .i64 0, .int .i64 0, .int .i64 0, .int .i64 0, .int .i64 0, .int .i64 0, .int .i64 0, .bool false, .slice none 0 0, .int .i64 0, .int .i64 0, .slice none 0 0]).setRow (w.heap.size + 1 + 1) #[.slice none 0 0, .bool true]).heap[w.heap.size + 1]? = some (.cells #[.int .i64 0, .int .i64 0, .int .i64 0, .int .i64 0, .int .i64 0, .int .i64 0, .int .i64 0, .int .i64 0, .bool false, .slice none 0 0, .int .i64 0, .int .i64 0, .slice none 0 0] 27) := (setRow_other _ _ _ _ (by omega)).trans hz1
          have hz5 := below_setRow (below_setRow hbw8 (g := w.heap.size + 1) (by omega) #[.int .i64 0, .int .i64 0, .int .i64 0, .int .i64 0, .int .i64 0, .int .i64 0, .int .i64 0, .int .i64 0, .bool false, .slice none 0 0, .int .i64 0, .int .i64 0, .slice none 0 0]) (g := w.heap.size + 1 + 1) (by omega) #[.slice none 0 0, .bool true]
          go_wp2_with (first | refine wpList_store_row rfl _ _ _ rfl (w.heap.size + 1) #[.int .i64 0, .int .i64 0, .int .i64 0, .int .i64 0, .int .i64 0, .int .i64 0, .int .i64 0, .int .i64 0, .bool false, .slice none 0 0, .int .i64 0, .int .i64 0, .slice none 0 0] (by rfl) (by rfl) _ _ p1 (by kernel_rfl) rfl (by first | rfl | kernel_rfl | simp [Value.oneCell']) ?_ | refine wpList_store_row rfl _ _ _ rfl (w.heap.size + 1 + 1) #[.slice none 0 0, .bool true] (by rfl) (by rfl) _ _ hz2 (by kernel_rfl) rfl (by first | rfl | kernel_rfl | simp [Value.oneCell']) ?_)
          refine bodyPost_ret (res_cell2 rfl _ _ (w.heap.size + 1) (w.heap.size + 1 + 1) _ _ _ _ _ _ rfl rfl hz4 hz3 Try.underlying27 Try.underlying48 rfl rfl (by kernel_rfl) (by kernel_rfl)) rfl ?_
          exact ⟨none, 0, none, 0, none, 0, rfl, MsgIn.zero _ _, fun w0 _ => RLies.bad w0, hz5⟩
        | true =>
          rw [if_pos ⟨by simp, rfl⟩] at hF
          obtain ⟨rfl, rfl⟩ := Prod.mk.inj hF
          clear hF
          have hz1 := setRow_at (W := w8.drew) #[.int .i64 k, .int .i64 f, .int .i64 o, .int .i64 t, .int .i64 i, .int .i64 l, .int .i64 c, .int .i64 x, .bool b0, .slice AE es.length cE, .int .i64 0, .int .i64 0, .slice none 0 0] p1
          have hz2 : (w8.drew.setRow (w.heap.size + 1) #[.int .i64 k, .int .i64 f, .int .i64 o, .int .i64 t, .int .i64 i, .int .i64 l, .int .i64 c, .int .i64 x, .bool b0, .slice AE es.length cE, .int .i64 0, .int .i64 0, .slice none 0 0]).heap[w.heap.size + 1 + 1]? = some (.cells #[.slice none 0 0, .bool false] 48) := (setRow_other _ _ _ _ (by omega)).trans p2
          have hz3 := setRow_at #[.slice A' (left (some sl)) cap', .bool false] hz2
          have hz4 : ((w8.drew.setRow (w.heap.size + 1) #[.int .i64 k, .int .i64 f, .int .i64 o, .int .i64 t, .int .i64 i, .int .i64 l, .int .i64 c, .int .i64 x, .bool b0, .slice AE es.length cE, .int .i64 0, .int .i64 0, .slice none 0 0]).setRow (w.heap.size + 1 + 1) #[.slice A' (left (some sl)) cap', .bool false]).heap[w.heap.size + 1]? = some (.cells #[.int .i64 k, .int .i64 f, .int .i64 o, .int .i64 t, .int .i64 i, .int .i64 l, .int .i64 c, .int .i64 x, .bool b0, .slice AE es.length cE, .int .i64 0, .int .i64 0, .slice none 0 0] 27) := (setRow_other _ _ _ _ (by omega)).trans hz1
          have hz5 := below_setRow (below_setRow hbw8.drew (g := w.heap.size + 1) (by omega) #[.int .i64 k, .int .i64 f, .int .i64 o, .int .i64 t, .int .i64 i, .int .i64 l, .int .i64 c, .int .i64 x, .bool b0, .slice AE es.length cE, .int .i64 0, .int .i64 0, .slice none 0 0]) (g := w.heap.size + 1 + 1) (by omega) #[.slice A' (left (some sl)) cap', .bool false]
          have hoff : ∀ qz, b10 + 1 ≤ qz → ((w8.drew.setRow (w.heap.size + 1) #[.int .i64 k, .int .i64 f, .int .i64 o, .int .i64 t, .int .i64 i, .int .i64 l, .int .i64 c, .int .i64 x, .bool b0, .slice AE es.length cE, .int .i64 0, .int .i64 0, .slice none 0 0]).setRow (w.heap.size + 1 + 1) #[.slice A' (left (some sl)) cap', .bool false]).heap[qz]? = w8.heap[qz]? := fun qz hk => (setRow_other _ _ _ _ (by omega)).trans ((setRow_other _ _ _ _ (by omega)).trans rfl)
          have hsz : ((w8.drew.setRow (w.heap.size + 1) #[.int .i64 k, .int .i64 f, .int .i64 o, .int .i64 t, .int .i64 i, .int .i64 l, .int .i64 c, .int .i64 x, .bool b0, .slice AE es.length cE, .int .i64 0, .int .i64 0, .slice none 0 0]).setRow (w.heap.size + 1 + 1) #[.slice A' (left (some sl)) cap', .bool false]).heap.size = w8.heap.size := by simp
          have hb1 : (w8.drew.setRow (w.heap.size + 1) #[.int .i64 k, .int .i64 f, .int .i64 o, .int .i64 t, .int .i64 i, .int .i64 l, .int .i64 c, .int .i64 x, .bool b0, .slice AE es.length cE, .int .i64 0, .int .i64 0, .slice none 0 0]).heap[b10]? = some (.cells #[.int .i64 k, .int .i64 f, .int .i64 o, .int .i64 t, .int .i64 i, .int .i64 l, .int .i64 c, .int .i64 x, .bool b0, .slice AE es.length cE, .int .i64 0, .int .i64 0, .slice none 0 0] 27) := (setRow_other _ _ _ _ (by omega)).trans pb
          have hb2 : ((w8.drew.setRow (w.heap.size + 1) #[.int .i64 k, .int .i64 f, .int .i64 o, .int .i64 t, .int .i64 i, .int .i64 l, .int .i64 c, .int .i64 x, .bool b0, .slice AE es.length cE, .int .i64 0, .int .i64 0, .slice none 0 0]).setRow (w.heap.size + 1 + 1) #[.slice A' (left (some sl)) cap', .bool false]).heap[b10]? = some (.cells #[.int .i64 k, .int .i64 f, .int .i64 o, .int .i64 t, .int .i64 i, .int .i64 l, .int .i64 c, .int .i64 x, .bool b0, .slice AE es.length cE, .int .i64 0, .int .i64 0, .slice none 0 0] 27) := (setRow_other _ _ _ _ (by omega)).trans hb1
          have hc1 : (w8.drew.setRow (w.heap.size + 1) #[.int .i64 k, .int .i64 f, .int .i64 o, .int .i64 t, .int .i64 i, .int .i64 l, .int .i64 c, .int .i64 x, .bool b0, .slice AE es.length cE, .int .i64 0, .int .i64 0, .slice none 0 0]).heap[w.heap.size]? = some (.cells #[.slice A' (left (some sl)) cap', .bool (some sl : St).isNone] 48) := (setRow_other _ _ _ _ (by omega)).trans p0
          have hc2 : ((w8.drew.setRow (w.heap.size + 1) #[.int .i64 k, .int .i64 f, .int .i64 o, .int .i64 t, .int .i64 i, .int .i64 l, .int .i64 c, .int .i64 x, .bool b0, .slice AE es.length cE, .int .i64 0, .int .i64 0, .slice none 0 0]).setRow (w.heap.size + 1 + 1) #[.slice A' (left (some sl)) cap', .bool false]).heap[w.heap.size]? = some (.cells #[.slice A' (left (some sl)) cap', .bool (some sl : St).isNone] 48) := (setRow_other _ _ _ _ (by omega)).trans hc1
          have hS0 : (fun w' => (w'.cell? ⟨b10, 0, none⟩ = some (.int .i64 k) ∧ w'.cell? ⟨b10, 1, none⟩ = some (.int .i64 f) ∧ w'.cell? ⟨b10, 2, none⟩ = some (.int .i64 o) ∧ w'.cell? ⟨b10, 3, none⟩ = some (.int .i64 t) ∧ w'.cell? ⟨b10, 4, none⟩ = some (.int .i64 i) ∧ w'.cell? ⟨b10, 5, none⟩ = some (.int .i64 l) ∧ w'.cell? ⟨b10, 6, none⟩ = some (.int .i64 c) ∧ w'.cell? ⟨b10, 7, none⟩ = some (.int .i64 x) ∧ w'.cell? ⟨b10, 8, none⟩ = some (.bool b0) ∧ w'.cell? ⟨b10, 9, none⟩ = some (.slice AE es.length cE) ∧ w'.cell? ⟨b10, 10, none⟩ = some (.int .i64 0) ∧ w'.cell? ⟨b10, 11, none⟩ = some (.int .i64 0) ∧ w'.cell? ⟨b10, 12, none⟩ = some (.slice none 0 0)) ∧ (w'.cell? ⟨w.heap.size, 0, none⟩ = some (.slice A' (left (some sl)) cap') ∧ w'.cell? ⟨w.heap.size, 1, none⟩ = some (.bool false))) w8.drew := ⟨(row13 (show w8.drew.heap[b10]? = _ from pb)).1, (row2 (show w8.drew.heap[w.heap.size]? = _ from p0)).1⟩
          have hS1 : (fun w' => (w'.cell? ⟨b10, 0, none⟩ = some (.int .i64 k) ∧ w'.cell? ⟨b10, 1, none⟩ = some (.int .i64 f) ∧ w'.cell? ⟨b10, 2, none⟩ = some (.int .i64 o) ∧ w'.cell? ⟨b10, 3, none⟩ = some (.int .i64 t) ∧ w'.cell? ⟨b10, 4, none⟩ = some (.int .i64 i) ∧ w'.cell? ⟨b10, 5, none⟩ = some (.int .i64 l) ∧ w'.cell? ⟨b10, 6, none⟩ = some (.int .i64 c) ∧ w'.cell? ⟨b10, 7, none⟩ = some (.int .i64 x) ∧ w'.cell? ⟨b10, 8, none⟩ = some (.bool b0) ∧ w'.cell? ⟨b10, 9, none⟩ = some (.slice AE es.length cE) ∧ w'.cell? ⟨b10, 10, none⟩ = some (.int .i64 0) ∧ w'.cell? ⟨b10, 11, none⟩ = some (.int .i64 0) ∧ w'.cell? ⟨b10, 12, none⟩ = some (.slice none 0 0)) ∧ (w'.cell? ⟨w.heap.size, 0, none⟩ = some (.slice A' (left (some sl)) cap') ∧ w'.cell? ⟨w.heap.size, 1, none⟩ = some (.bool false))) (w8.drew.setRow (w.heap.size + 1) #[.int .i64 k, .int .i64 f, .int .i64 o, .int .i64 t, .int .i64 i, .int .i64 l, .int .i64 c, .int .i64 x, .bool b0, .slice AE es.length cE, .int .i64 0, .int .i64 0, .slice none 0 0]) := ⟨(row13 hb1).1, (row2 hc1).1⟩
          have hS2 : (fun w' => (w'.cell? ⟨b10, 0, none⟩ = some (.int .i64 k) ∧ w'.cell? ⟨b10, 1, none⟩ = some (.int .i64 f) ∧ w'.cell? ⟨b10, 2, none⟩ = some (.int .i64 o) ∧ w'.cell? ⟨b10, 3, none⟩ = some (.int .i64 t) ∧ w'.cell? ⟨b10, 4, none⟩ = some (.int .i64 i) ∧ w'.cell? ⟨b10, 5, none⟩ = some (.int .i64 l) ∧ w'.cell? ⟨b10, 6, none⟩ = some (.int .i64 c) ∧ w'.cell? ⟨b10, 7, none⟩ = some (.int .i64 x) ∧ w'.cell? ⟨b10, 8, none⟩ = some (.bool b0) ∧ w'.cell? ⟨b10, 9, none⟩ = some (.slice AE es.length cE) ∧ w'.cell? ⟨b10, 10, none⟩ = some (.int .i64 0) ∧ w'.cell? ⟨b10, 11, none⟩ = some (.int .i64 0) ∧ w'.cell? ⟨b10, 12, none⟩ = some (.slice none 0 0)) ∧ (w'.cell? ⟨w.heap.size, 0, none⟩ = some (.slice A' (left (some sl)) cap') ∧ w'.cell? ⟨w.heap.size, 1, none⟩ = some (.bool false))) ((w8.drew.setRow (w.heap.size + 1) #[.int .i64 k, .int .i64 f, .int .i64 o, .int .i64 t, .int .i64 i, .int .i64 l, .int .i64 c, .int .i64 x, .bool b0, .slice AE es.length cE, .int .i64 0, .int .i64 0, .slice none 0 0]).setRow (w.heap.size + 1 + 1) #[.slice A' (left (some sl)) cap', .bool false]) := ⟨(row13 hb2).1, (row2 hc2).1⟩
          have hp1 : w8.drew.heap[w.heap.size + 1]? = some (.cells #[.int .i64 0, .int .i64 0, .int .i64 0, .int .i64 0, .int .i64 0, .int .i64 0, .int .i64 0, .int .i64 0, .bool false, .slice none 0 0, .int .i64 0, .int .i64 0, .slice none 0 0] 27) := p1
          go_upto_region 26 with fail
          refine wp_region_held_drew (S := (fun w' => (w'.cell? ⟨b10, 0, none⟩ = some (.int .i64 k) ∧ w'.cell? ⟨b10, 1, none⟩ = some (.int .i64 f) ∧ w'.cell? ⟨b10, 2, none⟩ = some (.int .i64 o) ∧ w'.cell? ⟨b10, 3, none⟩ = some (.int .i64 t) ∧ w'.cell? ⟨b10, 4, none⟩ = some (.int .i64 i) ∧ w'.cell? ⟨b10, 5, none⟩ = some (.int .i64 l) ∧ w'.cell? ⟨b10, 6, none⟩ = some (.int .i64 c) ∧ w'.cell? ⟨b10, 7, none⟩ = some (.int .i64 x) ∧ w'.cell? ⟨b10, 8, none⟩ = some (.bool b0) ∧ w'.cell? ⟨b10, 9, none⟩ = some (.slice AE es.length cE) ∧ w'.cell? ⟨b10, 10, none⟩ = some (.int .i64 0) ∧ w'.cell? ⟨b10, 11, none⟩ = some (.int .i64 0) ∧ w'.cell? ⟨b10, 12, none⟩ = some (.slice none 0 0)) ∧ (w'.cell? ⟨w.heap.size, 0, none⟩ = some (.slice A' (left (some sl)) cap') ∧ w'.cell? ⟨w.heap.size, 1, none⟩ = some (.bool false)))) (by kernel_rfl) hS0 (fun hHeld => ?_)
          change wpAnyH _ _ _ _ _ 4 #[false, false, false, false] _ _
          refine wpAnyH_take (i := 0) (oi := { dst := some 99, op := Go.Op.load 27 (Go.Operand.tmp 10), type := 27, pos := "ref.go:96", after := #[], guard := none }) (v := ?_) rfl (by kernel_rfl) (by kernel_rfl) (by kernel_rfl) (fun _ _ _ h => h) (Or.inl ⟨by rfl, ?_⟩) (by assumption) ?_
          rotate_left
          · ((intro w hSw; (try dsimp only at hSw); go_simp); (try with_reducible rfl))
          try simp only [Act.put, List.setIfInBounds_toArray, List.set_cons_zero, List.set_cons_succ]
          refine wpAnyH_take (i := 1) (oi := { dst := some 100, op := Go.Op.load 48 (Go.Operand.tmp 1), type := 48, pos := "ref.go:96", after := #[{ on := 2, ground := Go.Ground.gcOnly Go.Departure.lateStores }], guard := none }) (v := ?_) rfl (by kernel_rfl) (by kernel_rfl) (by kernel_rfl) (fun _ _ _ h => h) (Or.inl ⟨by rfl, ?_⟩) (by assumption) ?_
          rotate_left
          · ((intro w hSw; (try dsimp only at hSw); go_simp); (try with_reducible rfl))
          try simp only [Act.put, List.setIfInBounds_toArray, List.set_cons_zero, List.set_cons_succ]
          refine wpAnyH_ready (rs := [2]) (by kernel_rfl) (by simp) ?_
          refine AllReadyH.cons (o := { dst := none, op := Go.Op.store 27 (Go.Operand.tmp 2) (Go.Operand.tmp 99), type := 0, pos := "ref.go:96", after := #[{ on := 0, ground := Go.Ground.data }, { on := 0, ground := Go.Ground.phase }, { on := 1, ground := Go.Ground.textOnly Go.Departure.lateStores }], guard := none }) rfl (fun KK hK => ?_) AllReadyH.nil
          rw [if_pos (by rfl)]
          refine wp_store_row _ _ _ rfl (w.heap.size + 1) #[.int .i64 k, .int .i64 f, .int .i64 o, .int .i64 t, .int .i64 i, .int .i64 l, .int .i64 c, .int .i64 x, .bool b0, .slice AE es.length cE, .int .i64 0, .int .i64 0, .slice none 0 0] (by rfl) (by rfl) _ _ hp1 (by kernel_rfl) rfl (by first | rfl | kernel_rfl | simp [Value.oneCell']) ?_
          refine hK.out _ _ hS1 (fun hHeld2 => ?_)
          clear hK KK hHeld
          have hHeld := hHeld2
          clear hHeld2
          try simp only [Act.put, List.setIfInBounds_toArray, List.set_cons_zero, List.set_cons_succ]
          refine wpAnyH_ready (rs := [3]) (by kernel_rfl) (by simp) ?_
          refine AllReadyH.cons (o := { dst := none, op := Go.Op.store 48 (Go.Operand.tmp 3) (Go.Operand.tmp 100), type := 0, pos := "ref.go:96", after := #[{ on := 1, ground := Go.Ground.data }, { on := 2, ground := Go.Ground.chain }, { on := 0, ground := Go.Ground.phase }, { on := 1, ground := Go.Ground.phase }, { on := 2, ground := Go.Ground.phase }], guard := none }) rfl (fun KK hK => ?_) AllReadyH.nil
          rw [if_pos (by rfl)]
          refine wp_store_row _ _ _ rfl (w.heap.size + 1 + 1) #[.slice A' (left (some sl)) cap', .bool false] (by rfl) (by rfl) _ _ hz2 (by kernel_rfl) rfl (by first | rfl | kernel_rfl | simp [Value.oneCell']) ?_
          refine hK.out _ _ hS2 (fun hHeld2 => ?_)
          clear hK KK hHeld
          have hHeld := hHeld2
          clear hHeld2
          try simp only [Act.put, List.setIfInBounds_toArray, List.set_cons_zero, List.set_cons_succ]
          refine wpAnyH_done (by kernel_rfl) ?_ _
          clear hHeld hS0 hS1 hS2 hb1 hb2 hc1 hc2 hp1
          go_wp2
          refine bodyPost_ret (res_cell2 rfl _ _ (w.heap.size + 1) (w.heap.size + 1 + 1) _ _ _ _ _ _ rfl rfl hz4 hz3 Try.underlying27 Try.underlying48 rfl rfl (by kernel_rfl) (by kernel_rfl)) rfl ?_
          rw [show MM = ⟨k, f, o, t, i, l, c, x, b0, es, ⟨0, 0, []⟩⟩ from HMM]
          have hM9 := hM8.keep (Nat.le_of_eq hsz.symm) (fun k _ hk2 => hoff k hk2)
          rw [show MM = ⟨k, f, o, t, i, l, c, x, b0, es, ⟨0, 0, []⟩⟩ from HMM] at hM9
          exact ⟨AE, cE, none, 0, A', cap', rfl, hM9.mono fun k hk => by omega, hkl, hz5⟩

end Go.Proofs.Ytlojjodgoeclfaa
