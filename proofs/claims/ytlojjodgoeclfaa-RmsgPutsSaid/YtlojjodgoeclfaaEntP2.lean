/- The program's PutHard, and sound, each by its contract. -/
import Derived.Test.YtlojjodgoeclfaaEntP1
import Derived.Test.YtlojjodgoeclfaaOctI
import Derived.Test.YtlojjodgoeclfaaEntRefG
import Derived.Test.YtlojjodgoeclfaaEntRefI
import Derived.Test.YtlojjodgoeclfaaEntRefJ
namespace Go.Proofs.Ytlojjodgoeclfaa
open Go.RowKit
set_option linter.unusedVariables false
set_option linter.unusedSimpArgs false

/-- A block of two beside an Out, made zero. -/
structure Two1 (w X : World) (o b : Nat) (l : List UInt8) (T : TypeId) (Z : Nat → Prop) : Prop where
  out : Out X o l (fun k => Z k ∨ k = b)
  row : X.heap[b]? = some (.cells #[.int .i64 0, .int .i64 0] T)
  keeps : Keeps Z w X
  size : X.heap.size = w.heap.size

theorem Two1.zero {w : World} {o b : Nat} {l : List UInt8} {T : TypeId} {Z : Nat → Prop} {x0 x1 : Value} (hz : ¬ Z b) (h : Out w o l (fun k => Z k ∨ k = b)) (hr : w.heap[b]? = some (.cells #[x0, x1] T)) :
    Two1 w ((w.setCell ⟨b, 0, none⟩ (.int .i64 0)).setCell ⟨b, 1, none⟩ (.int .i64 0)) o b l T Z := by
  refine ⟨h.keep (by simp) fun k hk hnz => ?_, set2_at _ _ _ _ _ _ _ hr, (keeps_setCell _ _ _ hz).trans (keeps_setCell _ _ _ hz), by simp⟩
  have hne : k ≠ b := fun e => hnz (.inr e)
  exact (Below.heap_setCell _ _ _ _ (by exact hne)).trans (Below.heap_setCell _ _ _ _ (by exact hne))

theorem hard_zero : num8 0 ++ num8 0 = List.replicate 16 0 := by decide +kernel

/-- What is hard is put, once it is known. -/
def hardL (t v : Int) : List UInt8 := num8 t ++ num8 v
theorem hardBytes_of (t v : Int) : hardBytes t v = if hardB t v = true then hardL t v else hardL 0 0 := by
  unfold hardL
  rw [hard_zero]
  rfl

/-- Whether what was taken may be answered; if not, nothing is left. -/
theorem sound_any (b : Bool) (w : World) (i : Nat) (s : St) (Z : Nat → Prop) (h : In w i s Z) :
    Calls Try.prog 86 #[.pointer (some ⟨i, 0, none⟩), .bool b] w fun e w' => e = .returned (.bool (b && s.isSome)) ∧ In w' i (if b = true then s else none) Z ∧ Keeps Z w w' := by
  cases b with
  | true =>
    have hB := bad_any w i s Z h
    have hs : s.isSome = !s.isNone := by cases s <;> rfl
    rw [if_pos rfl, Bool.true_and, hs]
    clear hs
    generalize s.isNone = n at *
    go_enter Try.func86, Try.ntmps86
    go_wp2_with fail
    refine hB.mono ?_
    rintro e w1 ⟨rfl, rfl⟩
    go_wp2
    go_ret
    exact ⟨rfl, h, Keeps.refl _ _⟩
  | false =>
    rw [if_neg (by simp), Bool.false_and]
    have hF := fail_any w i s Z h
    go_enter Try.func86, Try.ntmps86
    go_wp2_with fail
    refine hF.mono ?_
    rintro e w1 ⟨rfl, h1, k1⟩
    have hB := bad_any w1 i none Z h1
    go_wp2_with fail
    refine hB.mono ?_
    rintro e w2 ⟨rfl, rfl⟩
    go_wp2
    go_ret
    exact ⟨rfl, h1, k1⟩

end Go.Proofs.Ytlojjodgoeclfaa

namespace Go.Proofs.Ytlojjodgoeclfaa
open Go.RowKit
set_option linter.unusedVariables false
set_option linter.unusedSimpArgs false

theorem In.newer {w w' : World} {Z : Nat → Prop} (hZ : ∀ k, w.heap.size ≤ k → Z k) (hs : w.heap.size ≤ w'.heap.size) : ∀ k, w'.heap.size ≤ k → Z k := fun k hk => hZ k (Nat.le_trans hs hk)

theorem left_text (s : St) (m : Int) {b : Nat} (h : left s ≤ b) : left (textN s m).2 ≤ b := by
  have hc : left (countN s m).2 ≤ b := by
    unfold countN
    split
    · simp [left]
    · exact left_number s 4 h
  unfold textN
  generalize countN s m = t at hc
  obtain ⟨n, s'⟩ := t
  cases s' with
  | none => simp [takeN, left]
  | some l =>
    simp only [takeN]
    split
    · simp only [left, List.length_drop] at *
      omega
    · simp [left]

theorem Keeps.own3 {w w1 w2 : World} {Z : Nat → Prop} (h : Keeps Z w w1) (k : Keeps (fun k => k ≠ w.heap.size) w1 w2) : Keeps Z w w2 :=
  ⟨k.os.trans h.os, k.tape.trans h.tape, k.output.trans h.output, Nat.le_trans h.size k.size, fun j hj hz => (k.block j (Nat.lt_of_lt_of_le hj h.size) (Nat.ne_of_lt hj)).trans (h.block j hj hz)⟩

/-- A block of three of the call's own is stored anew, beside an In and bytes. -/
structure Set3 (w X : World) (b i : Nat) (s : St) (Z : Nat → Prop) (D : Option Addr) (n c : Nat) (d : List UInt8) (C : Array Value) (T : TypeId) : Prop where
  row : X.heap[b]? = some (.cells C T)
  inn : In X i s Z
  lies : Lies X D n c d
  keeps : Keeps (fun k => k ≠ b) w X
  size : X.heap.size = w.heap.size

theorem Set3.fin {w : World} {b i : Nat} {s : St} {Z : Nat → Prop} {D : Option Addr} {n c : Nat} {d : List UInt8} {x0 x1 x2 : Value} {T : TypeId} (y0 y1 y2 : Value) (hib : i ≠ b) (hr : w.heap[b]? = some (.cells #[x0, x1, x2] T)) (h : In w i s Z) (hzb : Z b)
    (hl : Lies w D n c d) (hD : 0 < n → ∀ g off, D = some ⟨g, off, none⟩ → b < g) :
    Set3 w (((w.setCell ⟨b, 0, none⟩ y0).setCell ⟨b, 1, none⟩ y1).setCell ⟨b, 2, none⟩ y2) b i s Z D n c d #[y0, y1, y2] T := by
  have hoff : ∀ k, k ≠ b → (((w.setCell ⟨b, 0, none⟩ y0).setCell ⟨b, 1, none⟩ y1).setCell ⟨b, 2, none⟩ y2).heap[k]? = w.heap[k]? := fun k hk =>
    (Below.heap_setCell _ _ _ _ (by exact hk)).trans ((Below.heap_setCell _ _ _ _ (by exact hk)).trans (Below.heap_setCell _ _ _ _ (by exact hk)))
  refine ⟨set3_at _ _ _ _ _ _ _ _ _ hr, h.keep (by simp) fun k _ hnz => hoff k fun e => hnz (e ▸ hzb), hl.keep (by simp) fun h0 g off e _ => hoff g fun e2 => ?_, ?_, by simp⟩
  · have := hD h0 g off e; omega
  · exact (((keeps_setCell _ _ _ (by simp)).trans (keeps_setCell _ _ _ (by simp))).trans (keeps_setCell _ _ _ (by simp)))

set_option maxRecDepth 100000 in
set_option maxHeartbeats 1600000 in
theorem take3_any (w : World) (i : Nat) (s : St) (Z : Nat → Prop) (most : Int) (hm : -9223372036854775808 ≤ most ∧ most ≤ 9223372036854775807) (h : In w i s Z) (hZ : ∀ k, w.heap.size ≤ k → Z k) (hL : left s ≤ 140737488355328) :
    Calls Try.prog 85 #[.pointer (some ⟨i, 0, none⟩), .int .i64 most] w fun e w' => ∃ D n c, e = .returned (entV (takenN s most).i (takenN s most).t D n c) ∧ Lies w' D n c (takenN s most).d ∧ (0 < n → ∀ g off, D = some ⟨g, off, none⟩ → w.heap.size ≤ g) ∧ In w' i (takenN s most).s Z ∧ Keeps Z w w' := by
  have h1 := h.below ((Below.refl w.heap.size w).alloc (Nat.le_refl _) (.cells #[.int .i64 0, .int .i64 0, .slice none 0 0] 58)) (Nat.le_refl _)
  have hr1 := heap_alloc_new w (.cells #[.int .i64 0, .int .i64 0, .slice none 0 0] 58)
  have hk1 : Keeps Z w (w.alloc (.cells #[.int .i64 0, .int .i64 0, .slice none 0 0] 58)) := keeps_alloc _ _
  have hs1 : w.heap.size < (w.alloc (.cells #[.int .i64 0, .int .i64 0, .slice none 0 0] 58)).heap.size := by simp
  have hzb : Z w.heap.size := hZ _ (Nat.le_refl _)
  have hib : i ≠ w.heap.size := Nat.ne_of_lt h.lt
  have hN1 := fun W hW => numIn_any W i s Z hW
  have hL1 := left_number s 8 hL
  unfold takenN
  generalize numberN s 8 = t1 at *
  obtain ⟨n1, s1⟩ := t1
  dsimp only at *
  have hN2 := fun W hW => numIn_any W i s1 Z hW
  have hL2 := left_number s1 8 hL1
  generalize numberN s1 8 = t2 at *
  obtain ⟨n2, s2⟩ := t2
  dsimp only at *
  have hT := fun W hW => bytesIn_any most hm W i s2 Z hW hL2
  generalize textN s2 most = t3 at *
  obtain ⟨d, s3⟩ := t3
  dsimp only at *
  rw [IntWalk.i64_left, IntWalk.i64_left] at *
  generalize wrap64 (n1 : Int) = z1 at *
  generalize wrap64 (n2 : Int) = z2 at *
  clear hL hL1 hL2 hm h
  go_enter Try.func85, Try.ntmps85
  go_wp2_with fail
  refine (hN1 _ h1).mono ?_
  rintro e w1 ⟨rfl, h2, k2⟩
  have hr2 := (k2.block w.heap.size hs1 hzb).trans hr1
  clear h1 hN1
  go_wp2_with fail
  refine (hN2 _ h2).mono ?_
  rintro e w2 ⟨rfl, h3, k3⟩
  have hr3 := (k3.block w.heap.size (hlt hr2) hzb).trans hr2
  clear h2 hN2
  go_wp2_with fail
  refine (hT _ h3).mono ?_
  rintro e w3 ⟨D, n, c, rfl, hl4, ho4, h4, k4⟩
  have hr4 := (k4.block w.heap.size (hlt hr3) hzb).trans hr3
  obtain ⟨⟨a0, a1, a2⟩, ⟨f0, f1, f2⟩⟩ := row3 hr4
  have hkw : Keeps Z w w3 := ((hk1.trans k2).trans k3).trans k4
  have hD2 : w.heap.size < w2.heap.size := hlt hr3
  have hDz : 0 < n → ∀ g off, D = some ⟨g, off, none⟩ → w.heap.size < g := fun h0 g off e => by
    subst e
    exact Nat.lt_of_lt_of_le hD2 (ho4.lt g rfl).1
  have hfin := Set3.fin (.int .i64 z1) (.int .i64 z2) (.slice D n c) hib hr4 h4 hzb hl4 hDz
  clear hT h3 k2 k3 k4 hk1 hr1 hr2 hr3 h4 hl4 ho4 hr4
  go_wp2
  generalize hX : ((w3.setCell ⟨w.heap.size, 0, none⟩ (.int .i64 z1)).setCell ⟨w.heap.size, 1, none⟩ (.int .i64 z2)).setCell ⟨w.heap.size, 2, none⟩ (.slice D n c) = X at *
  refine bodyPost_ret (res_cell (n := w.heap.size) rfl rfl hfin.row Try.underlying58 rfl (by kernel_rfl)) rfl ?_
  exact ⟨D, n, c, rfl, hfin.lies, fun h0 g off e => Nat.le_of_lt (hDz h0 g off e), hfin.inn, hkw.own3 hfin.keeps⟩

end Go.Proofs.Ytlojjodgoeclfaa

namespace Go.Proofs.Ytlojjodgoeclfaa
open Go.RowKit
set_option linter.unusedVariables false
set_option linter.unusedSimpArgs false

set_option maxRecDepth 100000 in
set_option maxHeartbeats 3200000 in
theorem getE_any (w : World) (i : Nat) (s : St) (Z : Nat → Prop) (h : In w i s Z) (hZ : ∀ k, w.heap.size ≤ k → Z k) (hL : left s ≤ 140737488355328) :
    Calls Try.prog 75 #[.pointer (some ⟨i, 0, none⟩)] w fun e w' => ∃ D n c, e = .returned (entV (fromN rightB s 12000).i (fromN rightB s 12000).t D n c) ∧ Lies w' D n c (fromN rightB s 12000).d ∧ (0 < n → ∀ g off, D = some ⟨g, off, none⟩ → w.heap.size ≤ g) ∧ In w' i (fromN rightB s 12000).s Z ∧ Keeps Z w w' := by
  have h1 := h.below ((Below.refl w.heap.size w).alloc (Nat.le_refl _) (.cells #[.int .i64 0, .int .i64 0, .slice none 0 0] 58)) (Nat.le_refl _)
  have hr1 := heap_alloc_new w (.cells #[.int .i64 0, .int .i64 0, .slice none 0 0] 58)
  have hk1 : Keeps Z w (w.alloc (.cells #[.int .i64 0, .int .i64 0, .slice none 0 0] 58)) := keeps_alloc _ _
  have hs1 : (w.alloc (.cells #[.int .i64 0, .int .i64 0, .slice none 0 0] 58)).heap.size = w.heap.size + 1 := by simp
  have hzb : Z w.heap.size := hZ _ (Nat.le_refl _)
  have hib : i ≠ w.heap.size := Nat.ne_of_lt h.lt
  have hT := fun W (hW : In W i s Z) (hZ : ∀ k, W.heap.size ≤ k → Z k) => take3_any W i s Z 12000 (by omega) hW hZ hL
  unfold fromN
  generalize takenN s 12000 = T at *
  obtain ⟨ti, tt, td, ts⟩ := T
  dsimp only at *
  obtain ⟨R, hR⟩ : ∃ R : FromL, R = if ts = none then ⟨0, 0, [], none⟩ else if rightB ti tt td.length = true then ⟨ti, tt, td, ts⟩ else ⟨0, 0, [], none⟩ := ⟨_, rfl⟩
  rw [← hR]
  clear hL h
  go_enter Try.func75, Try.ntmps75
  go_wp2_with fail
  refine (hT _ h1 (fun k hk => hZ k (by omega))).mono ?_
  rintro e w1 ⟨D, n, c, rfl, hl1, hD1, h2, k2⟩
  have hr2 := (k2.block w.heap.size (by omega) hzb).trans hr1
  have hlb : w.heap.size < w1.heap.size := hlt hr2
  have hD0 : 0 < n → ∀ g off, D = some ⟨g, off, none⟩ → w.heap.size < g := fun h0 g off e => by have := hD1 h0 g off e; omega
  have hDz : 0 < n → ∀ g off, D = some ⟨g, off, none⟩ → Z g := fun h0 g off e => hZ g (Nat.le_of_lt (hD0 h0 g off e))
  have hkw1 : Keeps Z w w1 := hk1.trans k2
  have hn := hl1.1
  rw [hn] at hR
  have hZ1 : Z w1.heap.size := hZ _ (Nat.le_of_lt hlb)
  clear hT h1 k2 hk1 hr1 hs1 hD1 hn
  -- the entry in a block of its own
  have hA1 := (Below.refl w1.heap.size w1).alloc (Nat.le_refl _) (.cells #[.int .i64 ti, .int .i64 tt, .slice D n c] 58)
  have h3 := h2.below hA1 (Nat.le_refl _)
  have hr3 := (hA1.block w.heap.size hlb).trans hr2
  have hq3 := heap_alloc_new w1 (.cells #[.int .i64 ti, .int .i64 tt, .slice D n c] 58)
  have hl3 := hl1.below hA1 (Nat.le_refl _)
  have hkw3 : Keeps Z w (w1.alloc (.cells #[.int .i64 ti, .int .i64 tt, .slice D n c] 58)) := hkw1.trans (keeps_alloc _ _)
  clear h2 hl1 hA1 hr2 hkw1
  have hP := fun W => rightP_is ti tt D n c W
  generalize rightB ti tt n = r at *
  obtain ⟨⟨a0, a1, a2⟩, _⟩ := row3 hq3
  go_wp2_with fail
  refine (hP _).mono ?_
  rintro e w2 ⟨rfl, hb2⟩
  have h4 := h3.below hb2 (Nat.le_refl _)
  have hr4 := (hb2.block _ (hlt hr3)).trans hr3
  have hq4 := (hb2.block _ (hlt hq3)).trans hq3
  have hl4 := hl3.below hb2 (Nat.le_refl _)
  have hkw4 : Keeps Z w w2 := hkw3.trans (keeps_below hb2 (Nat.le_refl _))
  clear h3 hr3 hq3 hl3 hkw3 hb2 a0 a1 a2 hP
  have hS := sound_any r w2 i ts Z h4
  go_wp2_with fail
  refine hS.mono ?_
  rintro e w3 ⟨rfl, h5, k5⟩
  have hr5 := (k5.block _ (hlt hr4) hzb).trans hr4
  have hq5 := (k5.block _ (hlt hq4) hZ1).trans hq4
  have hl5 := hl4.keeps k5 hDz
  have hkw5 : Keeps Z w w3 := hkw4.trans k5
  clear hS h4 hr4 hq4 hl4 hkw4 k5
  obtain ⟨⟨a0, a1, a2⟩, ⟨f0, f1, f2⟩⟩ := row3 hr5
  obtain ⟨⟨b0, b1, b2⟩, _⟩ := row3 hq5
  by_cases hyes : r = true ∧ ∃ sl, ts = some sl
  · obtain ⟨rfl, sl, rfl⟩ := hyes
    rw [if_neg (by simp), if_pos rfl] at hR
    rw [if_pos rfl] at h5
    have hfin := Set3.fin (.int .i64 ti) (.int .i64 tt) (.slice D n c) hib hr5 h5 hzb hl5 hD0
    have HR := Lib.hid hR
    clear hR hr5 hq5 h5 hl5
    simp only [Option.isSome, Bool.true_and] at *
    go_wp2
    generalize hX : ((w3.setCell ⟨w.heap.size, 0, none⟩ (.int .i64 ti)).setCell ⟨w.heap.size, 1, none⟩ (.int .i64 tt)).setCell ⟨w.heap.size, 2, none⟩ (.slice D n c) = X at *
    refine bodyPost_ret (res_cell (n := w.heap.size) rfl rfl hfin.row Try.underlying58 rfl (by kernel_rfl)) rfl ?_
    have e : R = _ := HR
    rw [e]
    exact ⟨D, n, c, rfl, hfin.lies, fun h0 g off e => Nat.le_of_lt (hD0 h0 g off e), hfin.inn, hkw5.own3 hfin.keeps⟩
  · have hno : (r && ts.isSome) = false := by
      cases r with
      | false => rfl
      | true =>
        cases ts with
        | none => rfl
        | some l => exact absurd ⟨rfl, l, rfl⟩ hyes
    have hRz : R = ⟨0, 0, [], none⟩ := by
      rw [hR]
      cases r with
      | false => split <;> rfl
      | true =>
        cases ts with
        | none => rfl
        | some l => exact absurd ⟨rfl, l, rfl⟩ hyes
    have hsz : (if r = true then ts else none) = none := by
      cases r with
      | false => rfl
      | true =>
        cases ts with
        | none => rfl
        | some l => exact absurd ⟨rfl, l, rfl⟩ hyes
    rw [hsz] at h5
    have hfin := Set3.fin (.int .i64 0) (.int .i64 0) (.slice none 0 0) hib hr5 h5 hzb (Lies.nil w3) (fun h0 => absurd h0 (by omega))
    have HR := Lib.hid hRz
    clear hR hr5 hq5 h5 hl5 hyes hsz hRz
    generalize (r && ts.isSome) = q at *
    subst hno
    go_wp2
    generalize hX : ((w3.setCell ⟨w.heap.size, 0, none⟩ (.int .i64 0)).setCell ⟨w.heap.size, 1, none⟩ (.int .i64 0)).setCell ⟨w.heap.size, 2, none⟩ (.slice none 0 0) = X at *
    refine bodyPost_ret (res_cell (n := w.heap.size) rfl rfl hfin.row Try.underlying58 rfl (by kernel_rfl)) rfl ?_
    have e : R = _ := HR
    rw [e]
    exact ⟨none, 0, 0, rfl, hfin.lies, fun h0 => absurd h0 (by omega), hfin.inn, hkw5.own3 hfin.keeps⟩

end Go.Proofs.Ytlojjodgoeclfaa

namespace Go.Proofs.Ytlojjodgoeclfaa
open Go.RowKit
set_option linter.unusedVariables false
set_option linter.unusedSimpArgs false

set_option maxRecDepth 100000 in
set_option maxHeartbeats 3200000 in
theorem getS_any (w : World) (i : Nat) (s : St) (Z : Nat → Prop) (h : In w i s Z) (hZ : ∀ k, w.heap.size ≤ k → Z k) (hL : left s ≤ 140737488355328) :
    Calls Try.prog 76 #[.pointer (some ⟨i, 0, none⟩)] w fun e w' => ∃ D n c, e = .returned (entV (fromN snapB s 50000).i (fromN snapB s 50000).t D n c) ∧ Lies w' D n c (fromN snapB s 50000).d ∧ (0 < n → ∀ g off, D = some ⟨g, off, none⟩ → w.heap.size ≤ g) ∧ In w' i (fromN snapB s 50000).s Z ∧ Keeps Z w w' := by
  have h1 := h.below ((Below.refl w.heap.size w).alloc (Nat.le_refl _) (.cells #[.int .i64 0, .int .i64 0, .slice none 0 0] 25)) (Nat.le_refl _)
  have hr1 := heap_alloc_new w (.cells #[.int .i64 0, .int .i64 0, .slice none 0 0] 25)
  have hk1 : Keeps Z w (w.alloc (.cells #[.int .i64 0, .int .i64 0, .slice none 0 0] 25)) := keeps_alloc _ _
  have hs1 : (w.alloc (.cells #[.int .i64 0, .int .i64 0, .slice none 0 0] 25)).heap.size = w.heap.size + 1 := by simp
  have hzb : Z w.heap.size := hZ _ (Nat.le_refl _)
  have hib : i ≠ w.heap.size := Nat.ne_of_lt h.lt
  have hT := fun W (hW : In W i s Z) (hZ : ∀ k, W.heap.size ≤ k → Z k) => take3_any W i s Z 50000 (by omega) hW hZ hL
  unfold fromN
  generalize takenN s 50000 = T at *
  obtain ⟨ti, tt, td, ts⟩ := T
  dsimp only at *
  obtain ⟨R, hR⟩ : ∃ R : FromL, R = if ts = none then ⟨0, 0, [], none⟩ else if snapB ti tt td.length = true then ⟨ti, tt, td, ts⟩ else ⟨0, 0, [], none⟩ := ⟨_, rfl⟩
  rw [← hR]
  clear hL h
  go_enter Try.func76, Try.ntmps76
  go_wp2_with fail
  refine (hT _ h1 (fun k hk => hZ k (by omega))).mono ?_
  rintro e w1 ⟨D, n, c, rfl, hl1, hD1, h2, k2⟩
  have hr2 := (k2.block w.heap.size (by omega) hzb).trans hr1
  have hlb : w.heap.size < w1.heap.size := hlt hr2
  have hD0 : 0 < n → ∀ g off, D = some ⟨g, off, none⟩ → w.heap.size < g := fun h0 g off e => by have := hD1 h0 g off e; omega
  have hDz : 0 < n → ∀ g off, D = some ⟨g, off, none⟩ → Z g := fun h0 g off e => hZ g (Nat.le_of_lt (hD0 h0 g off e))
  have hkw1 : Keeps Z w w1 := hk1.trans k2
  have hn := hl1.1
  rw [hn] at hR
  have hZ1 : Z w1.heap.size := hZ _ (Nat.le_of_lt hlb)
  clear hT h1 k2 hk1 hr1 hs1 hD1 hn
  -- the entry in a block of its own
  have hA1 := (Below.refl w1.heap.size w1).alloc (Nat.le_refl _) (.cells #[.int .i64 ti, .int .i64 tt, .slice D n c] 25)
  have h3 := h2.below hA1 (Nat.le_refl _)
  have hr3 := (hA1.block w.heap.size hlb).trans hr2
  have hq3 := heap_alloc_new w1 (.cells #[.int .i64 ti, .int .i64 tt, .slice D n c] 25)
  have hl3 := hl1.below hA1 (Nat.le_refl _)
  have hkw3 : Keeps Z w (w1.alloc (.cells #[.int .i64 ti, .int .i64 tt, .slice D n c] 25)) := hkw1.trans (keeps_alloc _ _)
  clear h2 hl1 hA1 hr2 hkw1
  have hP := fun W => snapP_is ti tt D n c W
  generalize snapB ti tt n = r at *
  obtain ⟨⟨a0, a1, a2⟩, _⟩ := row3 hq3
  go_wp2_with fail
  refine (hP _).mono ?_
  rintro e w2 ⟨rfl, hb2⟩
  have h4 := h3.below hb2 (Nat.le_refl _)
  have hr4 := (hb2.block _ (hlt hr3)).trans hr3
  have hq4 := (hb2.block _ (hlt hq3)).trans hq3
  have hl4 := hl3.below hb2 (Nat.le_refl _)
  have hkw4 : Keeps Z w w2 := hkw3.trans (keeps_below hb2 (Nat.le_refl _))
  clear h3 hr3 hq3 hl3 hkw3 hb2 a0 a1 a2 hP
  have hS := sound_any r w2 i ts Z h4
  go_wp2_with fail
  refine hS.mono ?_
  rintro e w3 ⟨rfl, h5, k5⟩
  have hr5 := (k5.block _ (hlt hr4) hzb).trans hr4
  have hq5 := (k5.block _ (hlt hq4) hZ1).trans hq4
  have hl5 := hl4.keeps k5 hDz
  have hkw5 : Keeps Z w w3 := hkw4.trans k5
  clear hS h4 hr4 hq4 hl4 hkw4 k5
  obtain ⟨⟨a0, a1, a2⟩, ⟨f0, f1, f2⟩⟩ := row3 hr5
  obtain ⟨⟨b0, b1, b2⟩, _⟩ := row3 hq5
  by_cases hyes : r = true ∧ ∃ sl, ts = some sl
  · obtain ⟨rfl, sl, rfl⟩ := hyes
    rw [if_neg (by simp), if_pos rfl] at hR
    rw [if_pos rfl] at h5
    have hfin := Set3.fin (.int .i64 ti) (.int .i64 tt) (.slice D n c) hib hr5 h5 hzb hl5 hD0
    have HR := Lib.hid hR
    clear hR hr5 hq5 h5 hl5
    simp only [Option.isSome, Bool.true_and] at *
    go_wp2
    generalize hX : ((w3.setCell ⟨w.heap.size, 0, none⟩ (.int .i64 ti)).setCell ⟨w.heap.size, 1, none⟩ (.int .i64 tt)).setCell ⟨w.heap.size, 2, none⟩ (.slice D n c) = X at *
    refine bodyPost_ret (res_cell (n := w.heap.size) rfl rfl hfin.row Try.underlying25 rfl (by kernel_rfl)) rfl ?_
    have e : R = _ := HR
    rw [e]
    exact ⟨D, n, c, rfl, hfin.lies, fun h0 g off e => Nat.le_of_lt (hD0 h0 g off e), hfin.inn, hkw5.own3 hfin.keeps⟩
  · have hno : (r && ts.isSome) = false := by
      cases r with
      | false => rfl
      | true =>
        cases ts with
        | none => rfl
        | some l => exact absurd ⟨rfl, l, rfl⟩ hyes
    have hRz : R = ⟨0, 0, [], none⟩ := by
      rw [hR]
      cases r with
      | false => split <;> rfl
      | true =>
        cases ts with
        | none => rfl
        | some l => exact absurd ⟨rfl, l, rfl⟩ hyes
    have hsz : (if r = true then ts else none) = none := by
      cases r with
      | false => rfl
      | true =>
        cases ts with
        | none => rfl
        | some l => exact absurd ⟨rfl, l, rfl⟩ hyes
    rw [hsz] at h5
    have hfin := Set3.fin (.int .i64 0) (.int .i64 0) (.slice none 0 0) hib hr5 h5 hzb (Lies.nil w3) (fun h0 => absurd h0 (by omega))
    have HR := Lib.hid hRz
    clear hR hr5 hq5 h5 hl5 hyes hsz hRz
    generalize (r && ts.isSome) = q at *
    subst hno
    go_wp2
    generalize hX : ((w3.setCell ⟨w.heap.size, 0, none⟩ (.int .i64 0)).setCell ⟨w.heap.size, 1, none⟩ (.int .i64 0)).setCell ⟨w.heap.size, 2, none⟩ (.slice none 0 0) = X at *
    refine bodyPost_ret (res_cell (n := w.heap.size) rfl rfl hfin.row Try.underlying25 rfl (by kernel_rfl)) rfl ?_
    have e : R = _ := HR
    rw [e]
    exact ⟨none, 0, 0, rfl, hfin.lies, fun h0 => absurd h0 (by omega), hfin.inn, hkw5.own3 hfin.keeps⟩

end Go.Proofs.Ytlojjodgoeclfaa

namespace Go.Proofs.Ytlojjodgoeclfaa
open Go.RowKit
set_option linter.unusedVariables false
set_option linter.unusedSimpArgs false

theorem Keeps.own2 {w w1 w2 : World} {Z : Nat → Prop} (h : Keeps Z w w1) (k : Keeps (fun k => k ≠ w.heap.size) w1 w2) : Keeps Z w w2 := h.own3 k

/-- A block of two of the call's own is stored anew, beside an In. -/
structure Set2 (w X : World) (b i : Nat) (s : St) (Z : Nat → Prop) (C : Array Value) (T : TypeId) : Prop where
  row : X.heap[b]? = some (.cells C T)
  inn : In X i s Z
  keeps : Keeps (fun k => k ≠ b) w X
  size : X.heap.size = w.heap.size

theorem Set2.fin {w : World} {b i : Nat} {s : St} {Z : Nat → Prop} {x0 x1 : Value} {T : TypeId} (y0 y1 : Value) (hib : i ≠ b) (hr : w.heap[b]? = some (.cells #[x0, x1] T)) (h : In w i s Z) (hzb : Z b) :
    Set2 w ((w.setCell ⟨b, 0, none⟩ y0).setCell ⟨b, 1, none⟩ y1) b i s Z #[y0, y1] T := by
  have hoff : ∀ k, k ≠ b → ((w.setCell ⟨b, 0, none⟩ y0).setCell ⟨b, 1, none⟩ y1).heap[k]? = w.heap[k]? := fun k hk =>
    (Below.heap_setCell _ _ _ _ (by exact hk)).trans (Below.heap_setCell _ _ _ _ (by exact hk))
  refine ⟨set2_at _ _ _ _ _ _ _ hr, h.keep (by simp) fun k _ hnz => hoff k fun e => hnz (e ▸ hzb), ?_, by simp⟩
  exact (keeps_setCell _ _ _ (by simp)).trans (keeps_setCell _ _ _ (by simp))

end Go.Proofs.Ytlojjodgoeclfaa
