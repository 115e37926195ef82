/- The program's take and Get, by their contracts. -/
import Derived.Test.YtlojjodgoeclfaaRmsTake
import Derived.Test.YtlojjodgoeclfaaRmsAwake
import Derived.Lib.Hide
import Derived.Deep.LoopGhost
namespace Go.Proofs.Ytlojjodgoeclfaa
open Go.RowKit
set_option linter.unusedVariables false
set_option linter.unusedSimpArgs false

theorem Keeps.newer {w w1 w2 : World} {Z : Nat → Prop} {b : Nat} (h : Keeps Z w w1) (k : Keeps (fun k => k ≠ b) w1 w2) (hb : w.heap.size ≤ b) : Keeps Z w w2 :=
  ⟨k.os.trans h.os, k.tape.trans h.tape, k.output.trans h.output, Nat.le_trans h.size k.size, fun j hj hz => (k.block j (Nat.lt_of_lt_of_le hj h.size) (by omega)).trans (h.block j hj hz)⟩

/-- A cell of a block of the call's own is stored anew, beside an In. -/
structure Set1 (W X : World) (b i : Nat) (s : St) (Z : Nat → Prop) (C : Array Value) (T : TypeId) : Prop where
  row : X.heap[b]? = some (.cells C T)
  inn : In X i s Z
  keeps : Keeps (fun k => k ≠ b) W X
  size : X.heap.size = W.heap.size

theorem Set1.fin {W : World} {b i : Nat} {s : St} {Z : Nat → Prop} {C : Array Value} {T : TypeId} (q : Nat) (v : Value) (hr : W.heap[b]? = some (.cells C T)) (h : In W i s Z) (hb : Z b) :
    Set1 W (W.setCell ⟨b, q, none⟩ v) b i s Z (C.setIfInBounds q v) T := by
  have hoff : ∀ k, k ≠ b → (W.setCell ⟨b, q, none⟩ v).heap[k]? = W.heap[k]? := fun k hk => Below.heap_setCell _ _ _ _ (by exact hk)
  exact ⟨setCell_at W ⟨b, q, none⟩ v C T (0, 0) rfl hr, h.keep (by simp) fun k _ hnz => hoff k fun e => hnz (e ▸ hb), keeps_setCell _ _ _ (by simp), by simp⟩

theorem set1_row {W : World} {b i : Nat} {s : St} {Z : Nat → Prop} {C : Array Value} {T : TypeId} (cs : Array Value) (hr : W.heap[b]? = some (.cells C T)) (h : In W i s Z) (hb : Z b) :
    Set1 W (W.setRow b cs) b i s Z cs T :=
  ⟨setRow_at cs hr, h.keep (by simp) fun k _ hnz => setRow_other W b k cs fun e => hnz (e ▸ hb), ⟨rfl, rfl, rfl, by simp, fun k _ hk => setRow_other W b k cs hk⟩, by simp⟩

theorem Set1.other {W X : World} {b i : Nat} {s : St} {Z : Nat → Prop} {C : Array Value} {T : TypeId} (h : Set1 W X b i s Z C T) {k : Nat} {O : Obj} (hk : W.heap[k]? = some O) (hne : k ≠ b) : X.heap[k]? = some O :=
  (h.keeps.block k (hlt hk) hne).trans hk

set_option maxRecDepth 100000 in
set_option maxHeartbeats 6400000 in
theorem takeM_any (w : World) (p : Nat) (s : St) (Z : Nat → Prop) (h : In w p s Z) (hZ : ∀ k, w.heap.size ≤ k → Z k) (hL : left s ≤ 140737488355328) :
    Calls Try.prog 49 #[.pointer (some ⟨p, 0, none⟩)] w fun e w' => ∃ A cA E cE, e = .returned (msgV (takeM s).1 A cA E cE) ∧ MsgIn w' (fun k => w.heap.size ≤ k) (takeM s).1 A cA E cE ∧ In w' p (takeM s).2 Z ∧ Keeps Z w w' := by
  have hA0 := (Below.refl w.heap.size w).alloc (Nat.le_refl _) (.cells (mC 0 0 0 0 0 0 0 0 false none 0 0 0 0 none 0 0) 30)
  have hI := h.below hA0 (Nat.le_refl _)
  have hr0 := heap_alloc_new w (.cells (mC 0 0 0 0 0 0 0 0 false none 0 0 0 0 none 0 0) 30)
  have hk : Keeps Z w (w.alloc (.cells (mC 0 0 0 0 0 0 0 0 false none 0 0 0 0 none 0 0) 30)) := keeps_alloc _ _
  have hzb : Z w.heap.size := hZ _ (Nat.le_refl _)
  have hpz : ¬ w.heap.size ≤ p := by have := h.lt; omega
  unfold takeM
  have hC0 := fun W hW => byteIn_any W p s Z hW
  have hL0 := left_number s 1 hL
  have hb0 := numberN_lt s 1
  generalize numberN s 1 = tt0 at *
  obtain ⟨k0, s1⟩ := tt0
  dsimp only at *
  have hC1 := fun W hW => byteIn_any W p s1 Z hW
  have hL1 := left_number s1 1 hL0
  have hb1 := numberN_lt s1 1
  generalize numberN s1 1 = tt1 at *
  obtain ⟨f0, s2⟩ := tt1
  dsimp only at *
  have hC2 := fun W hW => byteIn_any W p s2 Z hW
  have hL2 := left_number s2 1 hL1
  have hb2 := numberN_lt s2 1
  generalize numberN s2 1 = tt2 at *
  obtain ⟨o0, s3⟩ := tt2
  dsimp only at *
  have hC3 := fun W hW => numIn_any W p s3 Z hW
  have hL3 := left_number s3 8 hL2
  generalize numberN s3 8 = tt3 at *
  obtain ⟨t0, s4⟩ := tt3
  dsimp only at *
  have hC4 := fun W hW => numIn_any W p s4 Z hW
  have hL4 := left_number s4 8 hL3
  generalize numberN s4 8 = tt4 at *
  obtain ⟨i0, s5⟩ := tt4
  dsimp only at *
  have hC5 := fun W hW => numIn_any W p s5 Z hW
  have hL5 := left_number s5 8 hL4
  generalize numberN s5 8 = tt5 at *
  obtain ⟨l0, s6⟩ := tt5
  dsimp only at *
  have hC6 := fun W hW => numIn_any W p s6 Z hW
  have hL6 := left_number s6 8 hL5
  generalize numberN s6 8 = tt6 at *
  obtain ⟨c0, s7⟩ := tt6
  dsimp only at *
  have hC7 := fun W hW => numIn_any W p s7 Z hW
  have hL7 := left_number s7 8 hL6
  generalize numberN s7 8 = tt7 at *
  obtain ⟨x0, s8⟩ := tt7
  dsimp only at *
  have hC8 := fun W hW => flagIn_any W p s8 Z hW
  have hL8 := left_flag s8 hL7
  generalize flagN s8 = tt8 at *
  obtain ⟨b0, s9⟩ := tt8
  dsimp only at *
  have hC9 := fun W hW => countIn_any 4 (by omega) W p s9 Z hW hL8
  have hLn := left_count s9 4 hL8
  have hn4 := count_le s9
  generalize countN s9 4 = tt9 at *
  obtain ⟨n0, s10⟩ := tt9
  dsimp only at *
  have hLs := left_steps s10 hLn
  have hstl := steps_len s10
  generalize IntKind.i64.wrap (t0 : Int) = t at *
  generalize IntKind.i64.wrap (i0 : Int) = i at *
  generalize IntKind.i64.wrap (l0 : Int) = l at *
  generalize IntKind.i64.wrap (c0 : Int) = c at *
  generalize IntKind.i64.wrap (x0 : Int) = x at *
  have hw0 : IntKind.i64.wrap (k0 : Int) = (k0 : Int) := IntWalk.i64_in _ (by omega)
  have hw1 : IntKind.i64.wrap (f0 : Int) = (f0 : Int) := IntWalk.i64_in _ (by omega)
  have hw2 : IntKind.i64.wrap (o0 : Int) = (o0 : Int) := IntWalk.i64_in _ (by omega)
  have hst0 := hstl n0
  obtain ⟨ES, hES⟩ : ∃ ES, stepsN s10 n0 = ES := ⟨_, rfl⟩
  have hLE := hLs n0
  rw [hES] at hst0 hLE
  rw [hES]
  obtain ⟨es, sE⟩ := ES
  dsimp only at *
  have HES := Lib.hid hES
  clear hES
  clear h hA0 hL hL0 hL1 hL2 hL3 hL4 hL5 hL6 hL7 hL8 hb0 hb1 hb2
  generalize (k0 : Int) = k at *
  obtain ⟨Q, hQ⟩ : ∃ Q, lastN k sE = Q := ⟨_, rfl⟩
  rw [hQ]
  obtain ⟨qi, qt, qd, qs⟩ := Q
  dsimp only at *
  generalize (f0 : Int) = f at *
  generalize (o0 : Int) = o at *
  go_enter Try.func49, Try.ntmps49
  go_wp2_with fail
  refine (hC0 _ hI).mono ?_
  rintro e w1 ⟨rfl, hI2, kk⟩
  replace hI := hI2
  replace hr0 := (kk.block _ (hlt hr0) hzb).trans hr0
  replace hk := hk.trans kk
  clear hC0 hI2 kk
  go_wp2_with fail
  refine (hC1 _ hI).mono ?_
  rintro e w2 ⟨rfl, hI2, kk⟩
  replace hI := hI2
  replace hr0 := (kk.block _ (hlt hr0) hzb).trans hr0
  replace hk := hk.trans kk
  clear hC1 hI2 kk
  go_wp2_with fail
  refine (hC2 _ hI).mono ?_
  rintro e w3 ⟨rfl, hI2, kk⟩
  replace hI := hI2
  replace hr0 := (kk.block _ (hlt hr0) hzb).trans hr0
  replace hk := hk.trans kk
  clear hC2 hI2 kk
  have hA1 := (Below.refl w3.heap.size w3).alloc (Nat.le_refl _) (.cells (mC k f o 0 0 0 0 0 false none 0 0 0 0 none 0 0) 30)
  have hsz : w.heap.size < w3.heap.size := hlt hr0
  have hzb1 : Z w3.heap.size := hZ _ (Nat.le_of_lt hsz)
  have hr1 := heap_alloc_new w3 (.cells (mC k f o 0 0 0 0 0 false none 0 0 0 0 none 0 0) 30)
  replace hI := hI.below hA1 (Nat.le_refl _)
  replace hr0 := (hA1.block _ (hlt hr0)).trans hr0
  replace hk := hk.trans (keeps_alloc w3 (.cells (mC k f o 0 0 0 0 0 false none 0 0 0 0 none 0 0) 30))
  have hne : w.heap.size ≠ w3.heap.size := Nat.ne_of_lt hsz
  generalize hb1 : w3.heap.size = b1 at *
  clear hA1
  go_wp2_with fail
  refine (hC3 _ hI).mono ?_
  rintro e w4 ⟨rfl, hI2, kk⟩
  replace hI := hI2
  replace hr0 := (kk.block _ (hlt hr0) hzb).trans hr0
  replace hr1 := (kk.block _ (hlt hr1) hzb1).trans hr1
  replace hk := hk.trans kk
  have hst := Set1.fin 3 (.int .i64 t) hr1 hI hzb1
  obtain ⟨⟨a0, a1, a2, a3, a4, a5, a6, a7, a8, a9, a10, a11, a12⟩, ⟨z0, z1, z2, z3, z4, z5, z6, z7, z8, z9, z10, z11, z12⟩⟩ := row13 hr1
  clear hC3 hI2 kk
  go_upto_region 3 with fail
  generalize hX : World.setCell _ _ _ = X0 at *
  have hr1' : X0.heap[b1]? = some (.cells (mC k f o t 0 0 0 0 false none 0 0 0 0 none 0 0) 30) := hst.row
  have hr0' := hst.other hr0 hne
  have hI' := hst.inn
  have hk' := hk.newer hst.keeps (by omega)
  clear hX hst hI hr0 hr1 hk a0 a1 a2 a3 a4 a5 a6 a7 a8 a9 a10 a11 a12 z0 z1 z2 z3 z4 z5 z6 z7 z8 z9 z10 z11 z12
  have hI := hI'
  have hr0 := hr0'
  have hr1 := hr1'
  have hk := hk'
  clear hI' hr0' hr1' hk'
  go_wp2_with fail
  refine (hC4 _ hI).mono ?_
  rintro e w5 ⟨rfl, hI2, kk⟩
  replace hI := hI2
  replace hr0 := (kk.block _ (hlt hr0) hzb).trans hr0
  replace hr1 := (kk.block _ (hlt hr1) hzb1).trans hr1
  replace hk := hk.trans kk
  have hst := Set1.fin 4 (.int .i64 i) hr1 hI hzb1
  obtain ⟨⟨a0, a1, a2, a3, a4, a5, a6, a7, a8, a9, a10, a11, a12⟩, ⟨z0, z1, z2, z3, z4, z5, z6, z7, z8, z9, z10, z11, z12⟩⟩ := row13 hr1
  clear hC4 hI2 kk
  go_upto_region 4 with fail
  generalize hX : World.setCell _ _ _ = X1 at *
  have hr1' : X1.heap[b1]? = some (.cells (mC k f o t i 0 0 0 false none 0 0 0 0 none 0 0) 30) := hst.row
  have hr0' := hst.other hr0 hne
  have hI' := hst.inn
  have hk' := hk.newer hst.keeps (by omega)
  clear hX hst hI hr0 hr1 hk a0 a1 a2 a3 a4 a5 a6 a7 a8 a9 a10 a11 a12 z0 z1 z2 z3 z4 z5 z6 z7 z8 z9 z10 z11 z12
  have hI := hI'
  have hr0 := hr0'
  have hr1 := hr1'
  have hk := hk'
  clear hI' hr0' hr1' hk'
  go_wp2_with fail
  refine (hC5 _ hI).mono ?_
  rintro e w6 ⟨rfl, hI2, kk⟩
  replace hI := hI2
  replace hr0 := (kk.block _ (hlt hr0) hzb).trans hr0
  replace hr1 := (kk.block _ (hlt hr1) hzb1).trans hr1
  replace hk := hk.trans kk
  have hst := Set1.fin 5 (.int .i64 l) hr1 hI hzb1
  obtain ⟨⟨a0, a1, a2, a3, a4, a5, a6, a7, a8, a9, a10, a11, a12⟩, ⟨z0, z1, z2, z3, z4, z5, z6, z7, z8, z9, z10, z11, z12⟩⟩ := row13 hr1
  clear hC5 hI2 kk
  go_upto_region 5 with fail
  generalize hX : World.setCell _ _ _ = X2 at *
  have hr1' : X2.heap[b1]? = some (.cells (mC k f o t i l 0 0 false none 0 0 0 0 none 0 0) 30) := hst.row
  have hr0' := hst.other hr0 hne
  have hI' := hst.inn
  have hk' := hk.newer hst.keeps (by omega)
  clear hX hst hI hr0 hr1 hk a0 a1 a2 a3 a4 a5 a6 a7 a8 a9 a10 a11 a12 z0 z1 z2 z3 z4 z5 z6 z7 z8 z9 z10 z11 z12
  have hI := hI'
  have hr0 := hr0'
  have hr1 := hr1'
  have hk := hk'
  clear hI' hr0' hr1' hk'
  go_wp2_with fail
  refine (hC6 _ hI).mono ?_
  rintro e w7 ⟨rfl, hI2, kk⟩
  replace hI := hI2
  replace hr0 := (kk.block _ (hlt hr0) hzb).trans hr0
  replace hr1 := (kk.block _ (hlt hr1) hzb1).trans hr1
  replace hk := hk.trans kk
  have hst := Set1.fin 6 (.int .i64 c) hr1 hI hzb1
  obtain ⟨⟨a0, a1, a2, a3, a4, a5, a6, a7, a8, a9, a10, a11, a12⟩, ⟨z0, z1, z2, z3, z4, z5, z6, z7, z8, z9, z10, z11, z12⟩⟩ := row13 hr1
  clear hC6 hI2 kk
  go_upto_region 6 with fail
  generalize hX : World.setCell _ _ _ = X3 at *
  have hr1' : X3.heap[b1]? = some (.cells (mC k f o t i l c 0 false none 0 0 0 0 none 0 0) 30) := hst.row
  have hr0' := hst.other hr0 hne
  have hI' := hst.inn
  have hk' := hk.newer hst.keeps (by omega)
  clear hX hst hI hr0 hr1 hk a0 a1 a2 a3 a4 a5 a6 a7 a8 a9 a10 a11 a12 z0 z1 z2 z3 z4 z5 z6 z7 z8 z9 z10 z11 z12
  have hI := hI'
  have hr0 := hr0'
  have hr1 := hr1'
  have hk := hk'
  clear hI' hr0' hr1' hk'
  go_wp2_with fail
  refine (hC7 _ hI).mono ?_
  rintro e w8 ⟨rfl, hI2, kk⟩
  replace hI := hI2
  replace hr0 := (kk.block _ (hlt hr0) hzb).trans hr0
  replace hr1 := (kk.block _ (hlt hr1) hzb1).trans hr1
  replace hk := hk.trans kk
  have hst := Set1.fin 7 (.int .i64 x) hr1 hI hzb1
  obtain ⟨⟨a0, a1, a2, a3, a4, a5, a6, a7, a8, a9, a10, a11, a12⟩, ⟨z0, z1, z2, z3, z4, z5, z6, z7, z8, z9, z10, z11, z12⟩⟩ := row13 hr1
  clear hC7 hI2 kk
  go_upto_region 7 with fail
  generalize hX : World.setCell _ _ _ = X4 at *
  have hr1' : X4.heap[b1]? = some (.cells (mC k f o t i l c x false none 0 0 0 0 none 0 0) 30) := hst.row
  have hr0' := hst.other hr0 hne
  have hI' := hst.inn
  have hk' := hk.newer hst.keeps (by omega)
  clear hX hst hI hr0 hr1 hk a0 a1 a2 a3 a4 a5 a6 a7 a8 a9 a10 a11 a12 z0 z1 z2 z3 z4 z5 z6 z7 z8 z9 z10 z11 z12
  have hI := hI'
  have hr0 := hr0'
  have hr1 := hr1'
  have hk := hk'
  clear hI' hr0' hr1' hk'
  go_wp2_with fail
  refine (hC8 _ hI).mono ?_
  rintro e w9 ⟨rfl, hI2, kk⟩
  replace hI := hI2
  replace hr0 := (kk.block _ (hlt hr0) hzb).trans hr0
  replace hr1 := (kk.block _ (hlt hr1) hzb1).trans hr1
  replace hk := hk.trans kk
  have hst := Set1.fin 8 (.bool b0) hr1 hI hzb1
  obtain ⟨⟨a0, a1, a2, a3, a4, a5, a6, a7, a8, a9, a10, a11, a12⟩, ⟨z0, z1, z2, z3, z4, z5, z6, z7, z8, z9, z10, z11, z12⟩⟩ := row13 hr1
  clear hC8 hI2 kk
  go_upto_region 8 with fail
  generalize hX : World.setCell _ _ _ = X5 at *
  have hr1' : X5.heap[b1]? = some (.cells (mC k f o t i l c x b0 none 0 0 0 0 none 0 0) 30) := hst.row
  have hr0' := hst.other hr0 hne
  have hI' := hst.inn
  have hk' := hk.newer hst.keeps (by omega)
  clear hX hst hI hr0 hr1 hk a0 a1 a2 a3 a4 a5 a6 a7 a8 a9 a10 a11 a12 z0 z1 z2 z3 z4 z5 z6 z7 z8 z9 z10 z11 z12
  have hI := hI'
  have hr0 := hr0'
  have hr1 := hr1'
  have hk := hk'
  clear hI' hr0' hr1' hk'
  go_wp2_with fail
  refine (hC9 _ hI).mono ?_
  rintro e w10 ⟨rfl, hI2, kk⟩
  replace hI := hI2
  replace hr0 := (kk.block _ (hlt hr0) hzb).trans hr0
  replace hr1 := (kk.block _ (hlt hr1) hzb1).trans hr1
  replace hk := hk.trans kk
  clear hC9 hI2 kk
  go_wp2
  go_loopg [34] n0 (fun g ii wr => ∃ (j : Nat) (A : Option Addr) (cA : Nat), j + g = n0 ∧ ii = .int .i64 (j : Int) ∧ In wr p (stepsN s10 j).2 Z ∧ Taken wr (b1 + 1) (.slice A j cA) (stepsN s10 j).1 ∧ wr.heap[b1]? = some (.cells (mC k f o t i l c x b0 A j cA 0 0 none 0 0) 30) ∧ wr.heap[w.heap.size]? = some (.cells (mC 0 0 0 0 0 0 0 0 false none 0 0 0 0 none 0 0) 30) ∧ Keeps Z w wr)
  case atStart => exact ⟨0, none, 0, by omega, rfl, hI, Taken.nil _ _, hr1, hr0, hk⟩
  case round =>
    obtain ⟨j, A, cA, hj, rfl, hIr, hTr, hr1r, hr0r, hkr⟩ := hrel
    clear hI hr0 hr1 hk
    have hle : w.heap.size < wr.heap.size := hlt hr0r
    have hb1w : b1 < wr.heap.size := hlt hr1r
    by_cases hjl : j < n0
    · have hlt' : (j : Int) < (n0 : Int) := by omega
      have hLs := hLs j
      have hstep : stepsN s10 (j + 1) = ((stepsN s10 j).1 ++ [⟨(fromN rightB (stepsN s10 j).2 12000).i, (fromN rightB (stepsN s10 j).2 12000).t, (fromN rightB (stepsN s10 j).2 12000).d⟩], (fromN rightB (stepsN s10 j).2 12000).s) := rfl
      have HSTEP := Lib.hid hstep
      have hjn := hstl j
      generalize stepsN s10 j = R at *
      obtain ⟨ls, sj⟩ := R
      dsimp only at *
      obtain ⟨F, hF⟩ : ∃ F, fromN rightB sj 12000 = F := ⟨_, rfl⟩
      rw [hF] at hstep HSTEP
      obtain ⟨fi, ft, fd, fs⟩ := F
      dsimp only at hstep
      have HJ := Lib.hid hj
      have hG := getE_any wr.drew p sj Z (hIr.below (Below.refl _ _).drew (Nat.le_refl _)) (fun k hk => hZ k (Nat.le_trans (Nat.le_of_lt hle) hk)) (hLs)
      rw [hF] at hG
      dsimp only at hG
      have hown0 : ∀ q, (Value.slice A j cA).ownBlock = some q → b1 + 1 ≤ q ∧ q < wr.heap.size := fun q hq => by
        obtain ⟨_, _, ho, _⟩ := hTr
        exact World.ownsRow.lt ho q hq
      have hx9 : wr.drew.cell? ⟨b1, 9, none⟩ = some (.slice A j cA) := (row13 hr1r).1.2.2.2.2.2.2.2.2.2.1
      have hIrd : In wr.drew p sj Z := hIr.below (Below.refl _ _).drew (Nat.le_refl _)
      have hTrd : Taken wr.drew (b1 + 1) (.slice A j cA) ls := hTr
      have hr1d : wr.drew.heap[b1]? = some (.cells (mC k f o t i l c x b0 A j cA 0 0 none 0 0) 30) := hr1r
      have hr0d : wr.drew.heap[w.heap.size]? = some (.cells (mC 0 0 0 0 0 0 0 0 false none 0 0 0 0 none 0 0) 30) := hr0r
      have hkd : Keeps Z w wr.drew := hkr.drew
      have hled : w.heap.size < wr.drew.heap.size := hle
      have hb1d : b1 < wr.drew.heap.size := hb1w
      have hownd : ∀ q, (Value.slice A j cA).ownBlock = some q → b1 + 1 ≤ q ∧ q < wr.drew.heap.size := hown0
      clear hstep hj hIr hTr hr1r hr0r hkr hle hb1w hown0
      go_upto_region 10 with fail
      refine wp_region_held_drew (S := (fun _ => True)) (by kernel_rfl) trivial (fun hHeld => ?_)
      change wpAnyH _ _ _ _ _ 8 #[false, false, false, false, false, false, false, false] _ _
      refine wpAnyH_take (i := 0) (oi := { dst := some 36, op := Go.Op.fieldAddr 30 (Go.Operand.tmp 3) 9, type := 0, pos := "bytes.go:56", after := #[], guard := none }) (v := ?_) rfl (by kernel_rfl) (by kernel_rfl) (by kernel_rfl) (fun _ _ _ h => h) (Or.inl ⟨by rfl, ?_⟩) (by assumption) ?_
      rotate_left
      · ((intro w hSw; (try dsimp only at hSw); go_simp); (try with_reducible rfl))
      try simp only [Act.put, List.setIfInBounds_toArray, List.set_cons_zero, List.set_cons_succ]
      refine wpAnyH_take (i := 2) (oi := { dst := some 38, op := Go.Op.move (Go.Operand.tmp 0), type := 43, pos := "bytes.go:56", after := #[], guard := none }) (v := ?_) rfl (by kernel_rfl) (by kernel_rfl) (by kernel_rfl) (fun _ _ _ h => h) (Or.inl ⟨by rfl, ?_⟩) (by assumption) ?_
      rotate_left
      · ((intro w hSw; (try dsimp only at hSw); go_simp); (try with_reducible rfl))
      try simp only [Act.put, List.setIfInBounds_toArray, List.set_cons_zero, List.set_cons_succ]
      generalize wr.drew = wd at *
      refine wpAnyH_ready (rs := [1, 3]) (by kernel_rfl) (by simp) ?_
      refine AllReadyH.cons (o := { dst := some 37, op := Go.Op.load 22 (Go.Operand.tmp 36), type := 22, pos := "bytes.go:56", after := #[{ on := 0, ground := Go.Ground.data }], guard := none }) rfl (fun KK hK => ?_) ?_
      · go_simp
        refine hK.out _ _ trivial (fun hHeld2 => ?_)
        clear hK KK hHeld
        have hHeld := hHeld2
        clear hHeld2
        try simp only [Act.put, List.setIfInBounds_toArray, List.set_cons_zero, List.set_cons_succ]
        refine wpAnyH_ready (rs := [3]) (by kernel_rfl) (by simp) ?_
        refine AllReadyH.cons (o := { dst := some 39, op := Go.Op.call { callee := Go.Callee.value (Go.Operand.func 75), args := #[Go.Operand.tmp 38], argTypes := #[43] }, type := 58, pos := "bytes.go:56", after := #[{ on := 2, ground := Go.Ground.data }], guard := none }) rfl (fun KK hK => ?_) AllReadyH.nil
        go_simp
        refine hG.mono ?_
        rintro e w1 ⟨D, n, cc, rfl, hlD, hD, hI1, k1⟩
        obtain rfl : fd.length = n := hlD.1
        have hr1a := (k1.block b1 hb1d hzb1).trans hr1d
        have hr0a := (k1.block _ hled hzb).trans hr0d
        have hT1 := hTrd.keep k1.size (fun k hk1 hk2 => k1.block k hk2 (hZ k (by omega)))
        have hx9a : w1.cell? ⟨b1, 9, none⟩ = some (.slice A j cA) := (row13 hr1a).1.2.2.2.2.2.2.2.2.2.1
        have hka := hkd.trans k1
        refine hK.out _ _ trivial (fun hHeld2 => ?_)
        clear hK KK hHeld
        have hHeld := hHeld2
        clear hHeld2
        try simp only [Act.put, List.setIfInBounds_toArray, List.set_cons_zero, List.set_cons_succ]
        refine wpAnyH_ready (rs := [4]) (by kernel_rfl) (by simp) ?_
        refine AllReadyH.cons (o := { dst := some 40, op := Go.Op.buildSlice 22 1 #[(0, Go.Operand.tmp 39)], type := 22, pos := "bytes.go:56", after := #[{ on := 3, ground := Go.Ground.data }], guard := none }) rfl (fun KK hK => ?_) AllReadyH.nil
        go_simp
        generalize hW : World.alloc _ (.cells #[.int .i64 fi, .int .i64 ft, .slice D fd.length cc] 58) = w2
        have hbn := (Below.refl w1.heap.size w1).alloc (Nat.le_refl _) (.cells #[.int .i64 fi, .int .i64 ft, .slice D fd.length cc] 58)
        rw [hW] at hbn
        have hr1b := (hbn.block _ (hlt hr1a)).trans hr1a
        have hr0b := (hbn.block _ (hlt hr0a)).trans hr0a
        have hT2 := hT1.keep hbn.size (fun k _ hk2 => hbn.block k hk2)
        have hI2 := hI1.below hbn (Nat.le_refl _)
        have hlD2 := hlD.below hbn (Nat.le_refl _)
        have hqn := heap_alloc_new w1 (.cells #[.int .i64 fi, .int .i64 ft, .slice D fd.length cc] 58)
        rw [hW] at hqn
        have hx9b : w2.cell? ⟨b1, 9, none⟩ = some (.slice A j cA) := (row13 hr1b).1.2.2.2.2.2.2.2.2.2.1
        have hkb := hka.trans (keeps_below hbn (Nat.le_refl _))
        clear hW
        refine hK.out _ _ trivial (fun hHeld2 => ?_)
        clear hK KK hHeld
        have hHeld := hHeld2
        clear hHeld2
        try simp only [Act.put, List.setIfInBounds_toArray, List.set_cons_zero, List.set_cons_succ]
        refine wpAnyH_ready (rs := [5]) (by kernel_rfl) (by simp) ?_
        refine AllReadyH.cons (o := { dst := some 41, op := Go.Op.call { callee := Go.Callee.builtin Go.Builtin.append, args := #[Go.Operand.tmp 37, Go.Operand.tmp 40], argTypes := #[22, 22] }, type := 22, pos := "bytes.go:56", after := #[{ on := 1, ground := Go.Ground.data }, { on := 4, ground := Go.Ground.data }, { on := 3, ground := Go.Ground.chain }], guard := none }) rfl (fun KK hK => ?_) AllReadyH.nil
        obtain ⟨xs, hxs, hown, hok⟩ := hT2
        have hbase : b1 + 1 ≤ w2.heap.size := hlt hr1b
        have hbd : ∀ q, (Value.slice A j cA).ownBlock = some q → b1 + 1 ≤ q ∧ q < w2.heap.size := World.ownsRow.lt hown
        refine step_append_ents _ (by rfl) _ _ (by rfl) (b1 + 1) hbase (.slice A j cA) ls.length (rowOf xs) (by rfl) hown ⟨w1.heap.size, 0, none⟩ 1 1 [⟨⟨fi, ft, fd⟩, D, cc⟩] (by rfl) rfl (cells_oneE _ hqn) (by omega) ?_
        intro v' w3 hown' hgw hq'
        have hy : LayOk w2 (fun k => b1 + 1 ≤ k ∧ k < w2.heap.size ∧ (Value.slice A j cA).ownBlock ≠ some k) ⟨⟨fi, ft, fd⟩, D, cc⟩ := by
          refine ⟨Nat.le_refl _, hlD2, fun h0 q o e => ?_⟩
          obtain ⟨g, off, e2, hgl, _⟩ := hlD2.2.2.2 h0
          have hq0 := hD h0 q o e
          have e3 : D = some ⟨q, o, none⟩ := e
          rw [e3] at e2
          injection e2 with e2
          injection e2 with e4 _
          subst e4
          exact ⟨by omega, hgl, fun e5 => by have := (hownd q e5).2; omega⟩
        have hT3 := Taken.grow hxs (fun q hq => (hbd q hq).2) hok ⟨⟨fi, ft, fd⟩, D, cc⟩ hy hown' hgw hq'
        obtain ⟨A', cA', hv', _, _⟩ := hT3.ents
        rw [show (ls ++ [(⟨fi, ft, fd⟩ : Ent)]).length = j + 1 by rw [List.length_append, List.length_singleton]; omega] at hv'
        subst hv'
        have hr1c := (hgw.block b1 (hlt hr1b) (fun e => by have := (hbd b1 e.symm).1; omega)).trans hr1b
        have hr0c := (hgw.block _ (hlt hr0b) (fun e => by have := (hbd _ e.symm).1; omega)).trans hr0b
        have hI3 : In w3 p fs Z := hI2.keep hgw.size fun k hk hnz => hgw.block k hk fun e => hnz (hZ k (by have := (hbd k e.symm).1; omega))
        have hkc : Keeps Z w w3 := ⟨hgw.os.trans hkb.os, hgw.tape.trans hkb.tape, hgw.output.trans hkb.output, Nat.le_trans hkb.size hgw.size, fun k hk hz => (hgw.block k (Nat.lt_of_lt_of_le hk hkb.size) (fun e => by have := (hbd k e.symm).1; omega)).trans (hkb.block k hk hz)⟩
        have hx9c : w3.cell? ⟨b1, 9, none⟩ = some (.slice A j cA) := (row13 hr1c).1.2.2.2.2.2.2.2.2.2.1
        have hf9c : w3.frozen? ⟨b1, 9, none⟩ = false := (row13 hr1c).2.2.2.2.2.2.2.2.2.2.1
        refine hK.out _ _ trivial (fun hHeld2 => ?_)
        clear hK KK hHeld
        have hHeld := hHeld2
        clear hHeld2
        try simp only [Act.put, List.setIfInBounds_toArray, List.set_cons_zero, List.set_cons_succ]
        refine wpAnyH_take (i := 6) (oi := { dst := some 42, op := Go.Op.fieldAddr 30 (Go.Operand.tmp 3) 9, type := 0, pos := "bytes.go:56", after := #[{ on := 0, ground := Go.Ground.phase }, { on := 1, ground := Go.Ground.phase }, { on := 2, ground := Go.Ground.phase }, { on := 3, ground := Go.Ground.phase }, { on := 4, ground := Go.Ground.phase }, { on := 5, ground := Go.Ground.phase }], guard := none }) (v := ?_) rfl (by kernel_rfl) (by kernel_rfl) (by kernel_rfl) (fun _ _ _ h => h) (Or.inl ⟨by rfl, ?_⟩) (by assumption) ?_
        rotate_left
        · ((intro w hSw; (try dsimp only at hSw); go_simp); (try with_reducible rfl))
        try simp only [Act.put, List.setIfInBounds_toArray, List.set_cons_zero, List.set_cons_succ]
        refine wpAnyH_ready (rs := [7]) (by kernel_rfl) (by simp) ?_
        refine AllReadyH.cons (o := { dst := none, op := Go.Op.store 22 (Go.Operand.tmp 42) (Go.Operand.tmp 41), type := 0, pos := "bytes.go:56", after := #[{ on := 6, ground := Go.Ground.data }, { on := 5, ground := Go.Ground.data }, { on := 5, ground := Go.Ground.chain }, { on := 0, ground := Go.Ground.phase }, { on := 1, ground := Go.Ground.phase }, { on := 2, ground := Go.Ground.phase }, { on := 3, ground := Go.Ground.phase }, { on := 4, ground := Go.Ground.phase }, { on := 5, ground := Go.Ground.phase }], guard := none }) rfl (fun KK hK => ?_) AllReadyH.nil
        go_simp
        have hst := Set1.fin 9 (.slice A' (j + 1) cA') hr1c hI3 hzb1
        generalize hX : World.setCell _ _ _ = w5 at *
        have hr1e : w5.heap[b1]? = some (.cells (mC k f o t i l c x b0 A' (j + 1) cA' 0 0 none 0 0) 30) := hst.row
        have hr0e := hst.other hr0c hne
        have hI5 := hst.inn
        have hk5 := hkc.newer hst.keeps (by omega)
        have hT5 := hT3.keep (Nat.le_of_eq hst.size.symm) (fun k hk1 hk2 => hst.keeps.block k hk2 (by omega))
        clear hX
        refine hK.out _ _ trivial (fun hHeld2 => ?_)
        clear hK KK hHeld
        have hHeld := hHeld2
        clear hHeld2
        try simp only [Act.put, List.setIfInBounds_toArray, List.set_cons_zero, List.set_cons_succ]
        refine wpAnyH_done (by kernel_rfl) ?_ _
        clear hHeld
        go_wp2
        go_roundg (gk - 1)
        case measure => have : j + gk = n0 := HJ; omega
        case rel => exact ⟨j + 1, A', cA', by have : j + gk = n0 := HJ; omega, by go_num, by rw [show stepsN s10 (j + 1) = _ from HSTEP]; exact hI5, by rw [show stepsN s10 (j + 1) = _ from HSTEP]; exact hT5, hr1e, hr0e, hk5⟩
      refine AllReadyH.cons (o := { dst := some 39, op := Go.Op.call { callee := Go.Callee.value (Go.Operand.func 75), args := #[Go.Operand.tmp 38], argTypes := #[43] }, type := 58, pos := "bytes.go:56", after := #[{ on := 2, ground := Go.Ground.data }], guard := none }) rfl (fun KK hK => ?_) AllReadyH.nil
      go_simp
      refine hG.mono ?_
      rintro e w1 ⟨D, n, cc, rfl, hlD, hD, hI1, k1⟩
      obtain rfl : fd.length = n := hlD.1
      have hr1a := (k1.block b1 hb1d hzb1).trans hr1d
      have hr0a := (k1.block _ hled hzb).trans hr0d
      have hT1 := hTrd.keep k1.size (fun k hk1 hk2 => k1.block k hk2 (hZ k (by omega)))
      have hx9a : w1.cell? ⟨b1, 9, none⟩ = some (.slice A j cA) := (row13 hr1a).1.2.2.2.2.2.2.2.2.2.1
      have hka := hkd.trans k1
      refine hK.out _ _ trivial (fun hHeld2 => ?_)
      clear hK KK hHeld
      have hHeld := hHeld2
      clear hHeld2
      try simp only [Act.put, List.setIfInBounds_toArray, List.set_cons_zero, List.set_cons_succ]
      refine wpAnyH_ready (rs := [1, 4]) (by kernel_rfl) (by simp) ?_
      refine AllReadyH.cons (o := { dst := some 37, op := Go.Op.load 22 (Go.Operand.tmp 36), type := 22, pos := "bytes.go:56", after := #[{ on := 0, ground := Go.Ground.data }], guard := none }) rfl (fun KK hK => ?_) ?_
      · go_simp
        refine hK.out _ _ trivial (fun hHeld2 => ?_)
        clear hK KK hHeld
        have hHeld := hHeld2
        clear hHeld2
        try simp only [Act.put, List.setIfInBounds_toArray, List.set_cons_zero, List.set_cons_succ]
        refine wpAnyH_ready (rs := [4]) (by kernel_rfl) (by simp) ?_
        refine AllReadyH.cons (o := { dst := some 40, op := Go.Op.buildSlice 22 1 #[(0, Go.Operand.tmp 39)], type := 22, pos := "bytes.go:56", after := #[{ on := 3, ground := Go.Ground.data }], guard := none }) rfl (fun KK hK => ?_) AllReadyH.nil
        go_simp
        generalize hW : World.alloc _ (.cells #[.int .i64 fi, .int .i64 ft, .slice D fd.length cc] 58) = w2
        have hbn := (Below.refl w1.heap.size w1).alloc (Nat.le_refl _) (.cells #[.int .i64 fi, .int .i64 ft, .slice D fd.length cc] 58)
        rw [hW] at hbn
        have hr1b := (hbn.block _ (hlt hr1a)).trans hr1a
        have hr0b := (hbn.block _ (hlt hr0a)).trans hr0a
        have hT2 := hT1.keep hbn.size (fun k _ hk2 => hbn.block k hk2)
        have hI2 := hI1.below hbn (Nat.le_refl _)
        have hlD2 := hlD.below hbn (Nat.le_refl _)
        have hqn := heap_alloc_new w1 (.cells #[.int .i64 fi, .int .i64 ft, .slice D fd.length cc] 58)
        rw [hW] at hqn
        have hx9b : w2.cell? ⟨b1, 9, none⟩ = some (.slice A j cA) := (row13 hr1b).1.2.2.2.2.2.2.2.2.2.1
        have hkb := hka.trans (keeps_below hbn (Nat.le_refl _))
        clear hW
        refine hK.out _ _ trivial (fun hHeld2 => ?_)
        clear hK KK hHeld
        have hHeld := hHeld2
        clear hHeld2
        try simp only [Act.put, List.setIfInBounds_toArray, List.set_cons_zero, List.set_cons_succ]
        refine wpAnyH_ready (rs := [5]) (by kernel_rfl) (by simp) ?_
        refine AllReadyH.cons (o := { dst := some 41, op := Go.Op.call { callee := Go.Callee.builtin Go.Builtin.append, args := #[Go.Operand.tmp 37, Go.Operand.tmp 40], argTypes := #[22, 22] }, type := 22, pos := "bytes.go:56", after := #[{ on := 1, ground := Go.Ground.data }, { on := 4, ground := Go.Ground.data }, { on := 3, ground := Go.Ground.chain }], guard := none }) rfl (fun KK hK => ?_) AllReadyH.nil
        obtain ⟨xs, hxs, hown, hok⟩ := hT2
        have hbase : b1 + 1 ≤ w2.heap.size := hlt hr1b
        have hbd : ∀ q, (Value.slice A j cA).ownBlock = some q → b1 + 1 ≤ q ∧ q < w2.heap.size := World.ownsRow.lt hown
        refine step_append_ents _ (by rfl) _ _ (by rfl) (b1 + 1) hbase (.slice A j cA) ls.length (rowOf xs) (by rfl) hown ⟨w1.heap.size, 0, none⟩ 1 1 [⟨⟨fi, ft, fd⟩, D, cc⟩] (by rfl) rfl (cells_oneE _ hqn) (by omega) ?_
        intro v' w3 hown' hgw hq'
        have hy : LayOk w2 (fun k => b1 + 1 ≤ k ∧ k < w2.heap.size ∧ (Value.slice A j cA).ownBlock ≠ some k) ⟨⟨fi, ft, fd⟩, D, cc⟩ := by
          refine ⟨Nat.le_refl _, hlD2, fun h0 q o e => ?_⟩
          obtain ⟨g, off, e2, hgl, _⟩ := hlD2.2.2.2 h0
          have hq0 := hD h0 q o e
          have e3 : D = some ⟨q, o, none⟩ := e
          rw [e3] at e2
          injection e2 with e2
          injection e2 with e4 _
          subst e4
          exact ⟨by omega, hgl, fun e5 => by have := (hownd q e5).2; omega⟩
        have hT3 := Taken.grow hxs (fun q hq => (hbd q hq).2) hok ⟨⟨fi, ft, fd⟩, D, cc⟩ hy hown' hgw hq'
        obtain ⟨A', cA', hv', _, _⟩ := hT3.ents
        rw [show (ls ++ [(⟨fi, ft, fd⟩ : Ent)]).length = j + 1 by rw [List.length_append, List.length_singleton]; omega] at hv'
        subst hv'
        have hr1c := (hgw.block b1 (hlt hr1b) (fun e => by have := (hbd b1 e.symm).1; omega)).trans hr1b
        have hr0c := (hgw.block _ (hlt hr0b) (fun e => by have := (hbd _ e.symm).1; omega)).trans hr0b
        have hI3 : In w3 p fs Z := hI2.keep hgw.size fun k hk hnz => hgw.block k hk fun e => hnz (hZ k (by have := (hbd k e.symm).1; omega))
        have hkc : Keeps Z w w3 := ⟨hgw.os.trans hkb.os, hgw.tape.trans hkb.tape, hgw.output.trans hkb.output, Nat.le_trans hkb.size hgw.size, fun k hk hz => (hgw.block k (Nat.lt_of_lt_of_le hk hkb.size) (fun e => by have := (hbd k e.symm).1; omega)).trans (hkb.block k hk hz)⟩
        have hx9c : w3.cell? ⟨b1, 9, none⟩ = some (.slice A j cA) := (row13 hr1c).1.2.2.2.2.2.2.2.2.2.1
        have hf9c : w3.frozen? ⟨b1, 9, none⟩ = false := (row13 hr1c).2.2.2.2.2.2.2.2.2.2.1
        refine hK.out _ _ trivial (fun hHeld2 => ?_)
        clear hK KK hHeld
        have hHeld := hHeld2
        clear hHeld2
        try simp only [Act.put, List.setIfInBounds_toArray, List.set_cons_zero, List.set_cons_succ]
        refine wpAnyH_take (i := 6) (oi := { dst := some 42, op := Go.Op.fieldAddr 30 (Go.Operand.tmp 3) 9, type := 0, pos := "bytes.go:56", after := #[{ on := 0, ground := Go.Ground.phase }, { on := 1, ground := Go.Ground.phase }, { on := 2, ground := Go.Ground.phase }, { on := 3, ground := Go.Ground.phase }, { on := 4, ground := Go.Ground.phase }, { on := 5, ground := Go.Ground.phase }], guard := none }) (v := ?_) rfl (by kernel_rfl) (by kernel_rfl) (by kernel_rfl) (fun _ _ _ h => h) (Or.inl ⟨by rfl, ?_⟩) (by assumption) ?_
        rotate_left
        · ((intro w hSw; (try dsimp only at hSw); go_simp); (try with_reducible rfl))
        try simp only [Act.put, List.setIfInBounds_toArray, List.set_cons_zero, List.set_cons_succ]
        refine wpAnyH_ready (rs := [7]) (by kernel_rfl) (by simp) ?_
        refine AllReadyH.cons (o := { dst := none, op := Go.Op.store 22 (Go.Operand.tmp 42) (Go.Operand.tmp 41), type := 0, pos := "bytes.go:56", after := #[{ on := 6, ground := Go.Ground.data }, { on := 5, ground := Go.Ground.data }, { on := 5, ground := Go.Ground.chain }, { on := 0, ground := Go.Ground.phase }, { on := 1, ground := Go.Ground.phase }, { on := 2, ground := Go.Ground.phase }, { on := 3, ground := Go.Ground.phase }, { on := 4, ground := Go.Ground.phase }, { on := 5, ground := Go.Ground.phase }], guard := none }) rfl (fun KK hK => ?_) AllReadyH.nil
        go_simp
        have hst := Set1.fin 9 (.slice A' (j + 1) cA') hr1c hI3 hzb1
        generalize hX : World.setCell _ _ _ = w5 at *
        have hr1e : w5.heap[b1]? = some (.cells (mC k f o t i l c x b0 A' (j + 1) cA' 0 0 none 0 0) 30) := hst.row
        have hr0e := hst.other hr0c hne
        have hI5 := hst.inn
        have hk5 := hkc.newer hst.keeps (by omega)
        have hT5 := hT3.keep (Nat.le_of_eq hst.size.symm) (fun k hk1 hk2 => hst.keeps.block k hk2 (by omega))
        clear hX
        refine hK.out _ _ trivial (fun hHeld2 => ?_)
        clear hK KK hHeld
        have hHeld := hHeld2
        clear hHeld2
        try simp only [Act.put, List.setIfInBounds_toArray, List.set_cons_zero, List.set_cons_succ]
        refine wpAnyH_done (by kernel_rfl) ?_ _
        clear hHeld
        go_wp2
        go_roundg (gk - 1)
        case measure => have : j + gk = n0 := HJ; omega
        case rel => exact ⟨j + 1, A', cA', by have : j + gk = n0 := HJ; omega, by go_num, by rw [show stepsN s10 (j + 1) = _ from HSTEP]; exact hI5, by rw [show stepsN s10 (j + 1) = _ from HSTEP]; exact hT5, hr1e, hr0e, hk5⟩
      refine AllReadyH.cons (o := { dst := some 40, op := Go.Op.buildSlice 22 1 #[(0, Go.Operand.tmp 39)], type := 22, pos := "bytes.go:56", after := #[{ on := 3, ground := Go.Ground.data }], guard := none }) rfl (fun KK hK => ?_) AllReadyH.nil
      go_simp
      generalize hW : World.alloc _ (.cells #[.int .i64 fi, .int .i64 ft, .slice D fd.length cc] 58) = w2
      have hbn := (Below.refl w1.heap.size w1).alloc (Nat.le_refl _) (.cells #[.int .i64 fi, .int .i64 ft, .slice D fd.length cc] 58)
      rw [hW] at hbn
      have hr1b := (hbn.block _ (hlt hr1a)).trans hr1a
      have hr0b := (hbn.block _ (hlt hr0a)).trans hr0a
      have hT2 := hT1.keep hbn.size (fun k _ hk2 => hbn.block k hk2)
      have hI2 := hI1.below hbn (Nat.le_refl _)
      have hlD2 := hlD.below hbn (Nat.le_refl _)
      have hqn := heap_alloc_new w1 (.cells #[.int .i64 fi, .int .i64 ft, .slice D fd.length cc] 58)
      rw [hW] at hqn
      have hx9b : w2.cell? ⟨b1, 9, none⟩ = some (.slice A j cA) := (row13 hr1b).1.2.2.2.2.2.2.2.2.2.1
      have hkb := hka.trans (keeps_below hbn (Nat.le_refl _))
      clear hW
      refine hK.out _ _ trivial (fun hHeld2 => ?_)
      clear hK KK hHeld
      have hHeld := hHeld2
      clear hHeld2
      try simp only [Act.put, List.setIfInBounds_toArray, List.set_cons_zero, List.set_cons_succ]
      refine wpAnyH_ready (rs := [1]) (by kernel_rfl) (by simp) ?_
      refine AllReadyH.cons (o := { dst := some 37, op := Go.Op.load 22 (Go.Operand.tmp 36), type := 22, pos := "bytes.go:56", after := #[{ on := 0, ground := Go.Ground.data }], guard := none }) rfl (fun KK hK => ?_) AllReadyH.nil
      go_simp
      refine hK.out _ _ trivial (fun hHeld2 => ?_)
      clear hK KK hHeld
      have hHeld := hHeld2
      clear hHeld2
      try simp only [Act.put, List.setIfInBounds_toArray, List.set_cons_zero, List.set_cons_succ]
      refine wpAnyH_ready (rs := [5]) (by kernel_rfl) (by simp) ?_
      refine AllReadyH.cons (o := { dst := some 41, op := Go.Op.call { callee := Go.Callee.builtin Go.Builtin.append, args := #[Go.Operand.tmp 37, Go.Operand.tmp 40], argTypes := #[22, 22] }, type := 22, pos := "bytes.go:56", after := #[{ on := 1, ground := Go.Ground.data }, { on := 4, ground := Go.Ground.data }, { on := 3, ground := Go.Ground.chain }], guard := none }) rfl (fun KK hK => ?_) AllReadyH.nil
      obtain ⟨xs, hxs, hown, hok⟩ := hT2
      have hbase : b1 + 1 ≤ w2.heap.size := hlt hr1b
      have hbd : ∀ q, (Value.slice A j cA).ownBlock = some q → b1 + 1 ≤ q ∧ q < w2.heap.size := World.ownsRow.lt hown
      refine step_append_ents _ (by rfl) _ _ (by rfl) (b1 + 1) hbase (.slice A j cA) ls.length (rowOf xs) (by rfl) hown ⟨w1.heap.size, 0, none⟩ 1 1 [⟨⟨fi, ft, fd⟩, D, cc⟩] (by rfl) rfl (cells_oneE _ hqn) (by omega) ?_
      intro v' w3 hown' hgw hq'
      have hy : LayOk w2 (fun k => b1 + 1 ≤ k ∧ k < w2.heap.size ∧ (Value.slice A j cA).ownBlock ≠ some k) ⟨⟨fi, ft, fd⟩, D, cc⟩ := by
        refine ⟨Nat.le_refl _, hlD2, fun h0 q o e => ?_⟩
        obtain ⟨g, off, e2, hgl, _⟩ := hlD2.2.2.2 h0
        have hq0 := hD h0 q o e
        have e3 : D = some ⟨q, o, none⟩ := e
        rw [e3] at e2
        injection e2 with e2
        injection e2 with e4 _
        subst e4
        exact ⟨by omega, hgl, fun e5 => by have := (hownd q e5).2; omega⟩
      have hT3 := Taken.grow hxs (fun q hq => (hbd q hq).2) hok ⟨⟨fi, ft, fd⟩, D, cc⟩ hy hown' hgw hq'
      obtain ⟨A', cA', hv', _, _⟩ := hT3.ents
      rw [show (ls ++ [(⟨fi, ft, fd⟩ : Ent)]).length = j + 1 by rw [List.length_append, List.length_singleton]; omega] at hv'
      subst hv'
      have hr1c := (hgw.block b1 (hlt hr1b) (fun e => by have := (hbd b1 e.symm).1; omega)).trans hr1b
      have hr0c := (hgw.block _ (hlt hr0b) (fun e => by have := (hbd _ e.symm).1; omega)).trans hr0b
      have hI3 : In w3 p fs Z := hI2.keep hgw.size fun k hk hnz => hgw.block k hk fun e => hnz (hZ k (by have := (hbd k e.symm).1; omega))
      have hkc : Keeps Z w w3 := ⟨hgw.os.trans hkb.os, hgw.tape.trans hkb.tape, hgw.output.trans hkb.output, Nat.le_trans hkb.size hgw.size, fun k hk hz => (hgw.block k (Nat.lt_of_lt_of_le hk hkb.size) (fun e => by have := (hbd k e.symm).1; omega)).trans (hkb.block k hk hz)⟩
      have hx9c : w3.cell? ⟨b1, 9, none⟩ = some (.slice A j cA) := (row13 hr1c).1.2.2.2.2.2.2.2.2.2.1
      have hf9c : w3.frozen? ⟨b1, 9, none⟩ = false := (row13 hr1c).2.2.2.2.2.2.2.2.2.2.1
      refine hK.out _ _ trivial (fun hHeld2 => ?_)
      clear hK KK hHeld
      have hHeld := hHeld2
      clear hHeld2
      try simp only [Act.put, List.setIfInBounds_toArray, List.set_cons_zero, List.set_cons_succ]
      refine wpAnyH_take (i := 6) (oi := { dst := some 42, op := Go.Op.fieldAddr 30 (Go.Operand.tmp 3) 9, type := 0, pos := "bytes.go:56", after := #[{ on := 0, ground := Go.Ground.phase }, { on := 1, ground := Go.Ground.phase }, { on := 2, ground := Go.Ground.phase }, { on := 3, ground := Go.Ground.phase }, { on := 4, ground := Go.Ground.phase }, { on := 5, ground := Go.Ground.phase }], guard := none }) (v := ?_) rfl (by kernel_rfl) (by kernel_rfl) (by kernel_rfl) (fun _ _ _ h => h) (Or.inl ⟨by rfl, ?_⟩) (by assumption) ?_
      rotate_left
      · ((intro w hSw; (try dsimp only at hSw); go_simp); (try with_reducible rfl))
      try simp only [Act.put, List.setIfInBounds_toArray, List.set_cons_zero, List.set_cons_succ]
      refine wpAnyH_ready (rs := [7]) (by kernel_rfl) (by simp) ?_
      refine AllReadyH.cons (o := { dst := none, op := Go.Op.store 22 (Go.Operand.tmp 42) (Go.Operand.tmp 41), type := 0, pos := "bytes.go:56", after := #[{ on := 6, ground := Go.Ground.data }, { on := 5, ground := Go.Ground.data }, { on := 5, ground := Go.Ground.chain }, { on := 0, ground := Go.Ground.phase }, { on := 1, ground := Go.Ground.phase }, { on := 2, ground := Go.Ground.phase }, { on := 3, ground := Go.Ground.phase }, { on := 4, ground := Go.Ground.phase }, { on := 5, ground := Go.Ground.phase }], guard := none }) rfl (fun KK hK => ?_) AllReadyH.nil
      go_simp
      have hst := Set1.fin 9 (.slice A' (j + 1) cA') hr1c hI3 hzb1
      generalize hX : World.setCell _ _ _ = w5 at *
      have hr1e : w5.heap[b1]? = some (.cells (mC k f o t i l c x b0 A' (j + 1) cA' 0 0 none 0 0) 30) := hst.row
      have hr0e := hst.other hr0c hne
      have hI5 := hst.inn
      have hk5 := hkc.newer hst.keeps (by omega)
      have hT5 := hT3.keep (Nat.le_of_eq hst.size.symm) (fun k hk1 hk2 => hst.keeps.block k hk2 (by omega))
      clear hX
      refine hK.out _ _ trivial (fun hHeld2 => ?_)
      clear hK KK hHeld
      have hHeld := hHeld2
      clear hHeld2
      try simp only [Act.put, List.setIfInBounds_toArray, List.set_cons_zero, List.set_cons_succ]
      refine wpAnyH_done (by kernel_rfl) ?_ _
      clear hHeld
      go_wp2
      go_roundg (gk - 1)
      case measure => have : j + gk = n0 := HJ; omega
      case rel => exact ⟨j + 1, A', cA', by have : j + gk = n0 := HJ; omega, by go_num, by rw [show stepsN s10 (j + 1) = _ from HSTEP]; exact hI5, by rw [show stepsN s10 (j + 1) = _ from HSTEP]; exact hT5, hr1e, hr0e, hk5⟩
    · obtain rfl : j = n0 := by omega
      have hdec : decide ((j : Int) < (j : Int)) = false := decide_eq_false (by omega)
      rw [show stepsN s10 j = (es, sE) from HES] at hIr hTr
      dsimp only at hIr hTr
      clear hjl hj hLs hstl
      by_cases h7 : k = 7
      · have hQ7 : fromN snapB sE 50000 = ⟨qi, qt, qd, qs⟩ := by rw [← hQ]; unfold lastN; rw [if_pos h7]
        have hS := getS_any wr p sE Z hIr (fun k hk => hZ k (by omega)) hLE
        rw [hQ7] at hS
        dsimp only at hS
        subst h7
        clear hQ hQ7 hIr
        obtain ⟨⟨u0, u1, u2, u3, u4, u5, u6, u7, u8, u9, u10, u11, u12⟩, _⟩ := row13 hr1r
        go_wp2_with fail
        refine hS.mono ?_
        rintro e w6 ⟨D, n, c', rfl, hlD, hD, hI6, k6⟩
        obtain rfl : qd.length = n := hlD.1
        have hr1a := (k6.block b1 hb1w hzb1).trans hr1r
        have hr0a := (k6.block _ hle hzb).trans hr0r
        have hT6 := hTr.keep k6.size (fun k hk1 hk2 => k6.block k hk2 (hZ k (by omega)))
        have hk6 := hkr.trans k6
        clear hS hr1r hr0r hTr hkr k6 u0 u1 u2 u3 u4 u5 u6 u7 u8 u9 u10 u11 u12
        obtain ⟨⟨v0, v1, v2, v3, v4, v5, v6, v7, v8, v9, v10, v11, v12⟩, ⟨y0, y1, y2, y3, y4, y5, y6, y7, y8, y9, y10, y11, y12⟩⟩ := row13 hr1a
        have hs1 := Set1.fin 10 (.int .i64 qi) hr1a hI6 hzb1
        have hs2 := Set1.fin 11 (.int .i64 qt) hs1.row hs1.inn hzb1
        have hs3 := Set1.fin 12 (.slice D qd.length c') hs2.row hs2.inn hzb1
        have hsk := (hs1.keeps.trans hs2.keeps).trans hs3.keeps
        have hss : (((w6.setCell ⟨b1, 10, none⟩ (.int .i64 qi)).setCell ⟨b1, 11, none⟩ (.int .i64 qt)).setCell ⟨b1, 12, none⟩ (.slice D qd.length c')).heap.size = w6.heap.size := by simp
        go_upto_region 14 with fail
        generalize hX : ((w6.setCell ⟨b1, 10, none⟩ (.int .i64 qi)).setCell ⟨b1, 11, none⟩ (.int .i64 qt)).setCell ⟨b1, 12, none⟩ (.slice D qd.length c') = X at *
        have hr1x : X.heap[b1]? = some (.cells (mC 7 f o t i l c x b0 A j cA qi qt D qd.length c') 30) := hs3.row
        have hr0x : X.heap[w.heap.size]? = some (.cells (mC 0 0 0 0 0 0 0 0 false none 0 0 0 0 none 0 0) 30) := (hsk.block _ (hlt hr0a) hne).trans hr0a
        have hIx := hs3.inn
        have hkx := hk6.newer hsk (by omega)
        have hTx := hT6.keep (Nat.le_of_eq hss.symm) (fun k hk1 hk2 => hsk.block k hk2 (by omega))
        have hlx : Lies X D qd.length c' qd := hlD.keep (Nat.le_of_eq hss.symm) fun h0 g off e hg => hsk.block g hg (by have := hD h0 g off e; omega)
        have hDx : 0 < qd.length → ∀ g off, D = some ⟨g, off, none⟩ → w.heap.size < g := fun h0 g off e => by have := hD h0 g off e; omega
        have hbx : b1 < X.heap.size := hlt hr1x
        clear hX hs1 hs2 hs3 hsk hss hr1a hr0a hT6 hk6 hlD hD hI6 v0 v1 v2 v3 v4 v5 v6 v7 v8 v9 v10 v11 v12 y0 y1 y2 y3 y4 y5 y6 y7 y8 y9 y10 y11 y12
        obtain ⟨⟨u0, u1, u2, u3, u4, u5, u6, u7, u8, u9, u10, u11, u12⟩, _⟩ := row13 hr1x
        have hstf := set1_row (mC 7 f o t i l c x b0 A j cA qi qt D qd.length c') hr0x hIx hzb
        go_wp2_with (refine wpList_store_row rfl _ _ _ rfl w.heap.size (mC 7 f o t i l c x b0 A j cA qi qt D qd.length c') (by rfl) (by rfl) _ _ hr0x (by kernel_rfl) rfl (by first | rfl | kernel_rfl | simp [Value.oneCell']) ?_)
        generalize hY : World.setRow _ _ _ = Y at *
        have hTy := hTx.keep (Nat.le_of_eq hstf.size.symm) (fun k hk1 hk2 => hstf.keeps.block k hk2 (by omega))
        have hly : Lies Y D qd.length c' qd := hlx.keep (Nat.le_of_eq hstf.size.symm) fun h0 g off e hg => hstf.keeps.block g hg (by have := hDx h0 g off e; omega)
        have hky := hkx.newer hstf.keeps (Nat.le_refl _)
        obtain ⟨A', cA', hA', hcm, hents⟩ := hTy.ents
        rw [hst0] at hA' hents
        injection hA' with q1 q2 q3
        subst q1
        subst q3
        go_wp2
        refine bodyPost_ret (res_cell (n := w.heap.size) rfl rfl hstf.row Try.underlying30 rfl (by kernel_rfl)) rfl ?_
        exact ⟨A, cA, D, c', by dsimp only [msgV]; (rw [hst0]; first | done | rfl), ⟨by dsimp only; rw [hst0]; exact hents.mono fun k hk => by omega, hcm, hly, fun h0 g off e => Nat.le_of_lt (hDx h0 g off e)⟩, hstf.inn, hky⟩
      · have hQ0 : (⟨qi, qt, qd, qs⟩ : FromL) = ⟨0, 0, [], sE⟩ := by rw [← hQ]; unfold lastN; rw [if_neg h7]
        injection hQ0 with e1 e2 e3 e4
        subst e1 e2 e3 e4
        have e7 : (k == 7) = false := beq_eq_false_iff_ne.2 h7
        have e8 : (k = 7) = False := eq_false h7
        clear hQ h7
        obtain ⟨⟨u0, u1, u2, u3, u4, u5, u6, u7, u8, u9, u10, u11, u12⟩, _⟩ := row13 hr1r
        go_upto_region 14 with fail
        clear u0 u1 u2 u3 u4 u5 u6 u7 u8 u9 u10 u11 u12
        have hr1x := hr1r
        have hr0x := hr0r
        have hIx := hIr
        have hkx := hkr
        have hTx := hTr
        have hlx : Lies wr none 0 0 [] := Lies.nil wr
        have hDx : 0 < 0 → ∀ (g off : Nat), (none : Option Addr) = some ⟨g, off, none⟩ → w.heap.size < g := fun h0 => absurd h0 (by omega)
        clear hr1r hr0r hIr hkr hTr
        obtain ⟨⟨u0, u1, u2, u3, u4, u5, u6, u7, u8, u9, u10, u11, u12⟩, _⟩ := row13 hr1x
        have hstf := set1_row (mC k f o t i l c x b0 A j cA 0 0 none 0 0) hr0x hIx hzb
        go_wp2_with (refine wpList_store_row rfl _ _ _ rfl w.heap.size (mC k f o t i l c x b0 A j cA 0 0 none 0 0) (by rfl) (by rfl) _ _ hr0x (by kernel_rfl) rfl (by first | rfl | kernel_rfl | simp [Value.oneCell']) ?_)
        generalize hY : World.setRow _ _ _ = Y at *
        have hTy := hTx.keep (Nat.le_of_eq hstf.size.symm) (fun k hk1 hk2 => hstf.keeps.block k hk2 (by omega))
        have hly : Lies Y none 0 0 [] := hlx.keep (Nat.le_of_eq hstf.size.symm) fun h0 g off e hg => hstf.keeps.block g hg (by have := hDx h0 g off e; omega)
        have hky := hkx.newer hstf.keeps (Nat.le_refl _)
        obtain ⟨A', cA', hA', hcm, hents⟩ := hTy.ents
        rw [hst0] at hA' hents
        injection hA' with q1 q2 q3
        subst q1
        subst q3
        go_wp2
        refine bodyPost_ret (res_cell (n := w.heap.size) rfl rfl hstf.row Try.underlying30 rfl (by kernel_rfl)) rfl ?_
        exact ⟨A, cA, none, 0, by dsimp only [msgV]; (rw [hst0]; first | done | rfl), ⟨by dsimp only; rw [hst0]; exact hents.mono fun k hk => by omega, hcm, hly, fun h0 g off e => Nat.le_of_lt (hDx h0 g off e)⟩, hstf.inn, hky⟩

end Go.Proofs.Ytlojjodgoeclfaa
