/- The program's rightList and Right, by their contracts. -/
import Derived.Test.YtlojjodgoeclfaaRmsProgA
import Derived.Test.YtlojjodgoeclfaaRmsSameP
import Derived.BigQuiet
import Derived.Deep.RegionHeld3
namespace Go.Proofs.Ytlojjodgoeclfaa
open Go.RowKit
set_option linter.unusedVariables false
set_option linter.unusedSimpArgs false

set_option maxRecDepth 100000 in
set_option maxHeartbeats 3200000 in
theorem listB_any (k f o t i l c x : Int) (b : Bool) (A : Option Addr) (cA : Nat) (si st : Int) (E : Option Addr) (sn cE : Nat) (es : List Ent) (w : World) (Z : Nat → Prop) (he : Ents w Z A es.length cA es) (hm : cA ≤ maxLen) :
    Calls Try.prog 27 #[.agg (mC k f o t i l c x b A es.length cA si st E sn cE)] w fun e w' => e = .returned (.bool (listB t i l es)) ∧ Below w.heap.size w w' := by
  have hlen := Nat.le_trans he.2.1 hm
  have hnm := hlen
  unfold maxLen at hnm
  have hb : Below w.heap.size w (w.alloc (.cells (mC k f o t i l c x b A es.length cA si st E sn cE) 30)) := (Below.refl _ _).alloc (Nat.le_refl _) _
  have hr0 := heap_alloc_new w (.cells (mC k f o t i l c x b A es.length cA si st E sn cE) 30)
  unfold listB
  by_cases h4 : es.length ≤ 4
  case neg =>
    rw [decide_eq_false h4, Bool.false_and]
    have g4 : (4 : Int) < (es.length : Int) := by omega
    clear he h4 hr0
    go_enter Try.func27, Try.ntmps27
    go_wp2
    go_ret
    exact ⟨rfl, hb⟩
  rw [decide_eq_true h4, Bool.true_and]
  have g4 : ((4 : Int) < (es.length : Int)) = False := eq_false (by omega)
  have d4 : decide ((4 : Int) < (es.length : Int)) = false := decide_eq_false (by omega)
  have hRun := fun W (hW : Below w.heap.size w W) => runP_any Z A es.length cA es i l W (he.below hW (Nat.le_refl _)) hlen
  generalize runB i l es = z at *
  cases z
  case false =>
    rw [Bool.false_and]
    clear he hr0
    go_enter Try.func27, Try.ntmps27
    go_wp2_with fail
    refine (hRun _ hb).mono ?_
    rintro e w1 ⟨rfl, hb1⟩
    go_wp2
    go_ret
    exact ⟨rfl, hb.trans (hb1.mono hb.size)⟩
  rw [Bool.true_and]
  have hlast : es.length = 0 ∨ ∃ T, 0 < es.length ∧ lastB t es = decide (T ≤ t) ∧ (∀ h : es.length - 1 < es.length, es[es.length - 1].t = T) := by
    by_cases h0 : es.length = 0
    · exact .inl h0
    · refine .inr ⟨(es[es.length - 1]'(by omega)).t, by omega, ?_, fun h => rfl⟩
      unfold lastB
      rw [decide_eq_false h0, Bool.false_or, List.getElem?_eq_getElem (by omega)]
      rfl
  rcases hlast with h0 | ⟨T, h0, hT, hTe⟩
  · have hl0 : lastB t es = true := by unfold lastB; rw [decide_eq_true h0, Bool.true_or]
    rw [hl0]
    have z1 : ((es.length : Int) == 0) = true := beq_iff_eq.2 (by omega)
    have z2 : ((es.length : Int) = 0) = True := eq_true (by omega)
    clear hl0 he h0
    go_enter Try.func27, Try.ntmps27
    go_wp2_with fail
    refine (hRun _ hb).mono ?_
    rintro e w1 ⟨rfl, hb1⟩
    have hr1 := (hb1.block _ (hlt hr0)).trans hr0
    obtain ⟨⟨x0, x1, x2, x3, x4, x5, x6, x7, x8, x9, x10, x11, x12⟩, _⟩ := row13 hr1
    clear hRun hr0 hr1
    go_wp2
    go_big_quiet (fail)
    go_wp2
    go_ret
    exact ⟨rfl, below_drewN (hb.trans (hb1.mono hb.size)) _⟩
  · rw [hT]
    have z1 : ((es.length : Int) == 0) = false := beq_eq_false_iff_ne.2 (by omega)
    have z2 : ((es.length : Int) = 0) = False := eq_false (by omega)
    have z3 : IntKind.i64.wrap ((es.length : Int) - 1) = ((es.length - 1 : Nat) : Int) := by rw [IntWalk.i64_in _ (by omega)]; omega
    have z4 : ((es.length - 1 : Nat) : Int) < (es.length : Int) := by omega
    have z5 : es.length - 1 < es.length := by omega
    have hTe := hTe z5
    have hat := fun W (hW : Below w.heap.size w W) => (he.below hW (Nat.le_refl _)).at_ (es.length - 1) z5
    have HTE := Lib.hid hTe
    clear hT h0 hTe h4
    generalize hj : es.length - 1 = j at *
    clear hj
    have hdec : ∀ q : Bool, decide (T ≤ t) = q → Calls Try.prog 27 #[.agg (mC k f o t i l c x b A es.length cA si st E sn cE)] w fun e w' => e = .returned (.bool q) ∧ Below w.heap.size w w' := by
      intro q hq
      have HQ := Lib.hid hq
      go_enter Try.func27, Try.ntmps27
      go_wp2_with fail
      refine (hRun _ hb).mono ?_
      rintro e w1 ⟨rfl, hb1⟩
      have hbw := hb.trans (hb1.mono hb.size)
      have hr1 := (hb1.block _ (hlt hr0)).trans hr0
      obtain ⟨⟨x0, x1, x2, x3, x4, x5, x6, x7, x8, x9, x10, x11, x12⟩, _⟩ := row13 hr1
      obtain ⟨g, off, F, cc, rfl, hg, y0, y1, y2, hly⟩ := hat w1 hbw
      rw [show (es[j]'z5).t = T from HTE] at y1
      clear hat hly he hRun hr0 hr1 y0 y2 hb hq
      go_wp2
      go_big_quiet (fail)
      go_wp2
      go_ret
      exact ⟨by rw [← show decide (T ≤ t) = q from HQ]; rfl, below_drewN hbw _⟩
    exact hdec _ rfl

theorem bareM_1 (m : Msg) (h : m.k = 1) : bareM m = ⟨m.k, m.f, m.o, m.t, 0, 0, m.c, m.x, m.b, m.es, m.s⟩ := by simp [bareM, h]
theorem bareM_2 (m : Msg) (h : m.k = 2) : bareM m = ⟨m.k, m.f, m.o, m.t, m.i, m.l, m.c, m.x, false, m.es, m.s⟩ := by simp [bareM, h]
theorem bareM_3 (m : Msg) (h : m.k = 3) : bareM m = ⟨m.k, m.f, m.o, m.t, 0, 0, m.c, m.x, m.b, m.es, m.s⟩ := by simp [bareM, h]
theorem bareM_4 (m : Msg) (h : m.k = 4) : bareM m = ⟨m.k, m.f, m.o, m.t, m.i, m.l, m.c, m.x, false, m.es, m.s⟩ := by simp [bareM, h]
theorem bareM_5 (m : Msg) (h : m.k = 5) : bareM m = ⟨m.k, m.f, m.o, m.t, 0, 0, 0, 0, m.b, [], m.s⟩ := by simp [bareM, h]
theorem bareM_6 (m : Msg) (h : m.k = 6) : bareM m = ⟨m.k, m.f, m.o, m.t, 0, m.l, m.c, 0, false, m.es, m.s⟩ := by simp [bareM, h]
theorem bareM_7 (m : Msg) (h : m.k = 7) : bareM m = ⟨m.k, m.f, m.o, m.t, m.i, m.l, m.c, m.x, m.b, m.es, ⟨0, 0, []⟩⟩ := by simp [bareM, h]

theorem bareMP_any (m : Msg) (A : Option Addr) (cA : Nat) (E : Option Addr) (cE : Nat) (w : World) (h1 : 1 ≤ m.k) (h7 : m.k ≤ 7) :
    Calls Try.prog 29 #[msgV m A cA E cE] w fun e w' => ∃ A' cA' E' cE', e = .returned (msgV (bareM m) A' cA' E' cE') ∧ (∀ W Z, MsgIn W Z m A cA E cE → MsgIn W Z (bareM m) A' cA' E' cE') ∧ Below w.heap.size w w' := by
  obtain ⟨k, f, o, t, i, l, c, x, b, es, si, st, sd⟩ := m
  dsimp only at h1 h7
  rcases (show k = 1 ∨ k = 2 ∨ k = 3 ∨ k = 4 ∨ k = 5 ∨ k = 6 ∨ k = 7 by omega) with rfl | rfl | rfl | rfl | rfl | rfl | rfl
  · rw [bareM_1 _ rfl]
    exact (bareP_1 f o t i l c x b A es.length cA si st E sd.length cE w).mono fun e w' ⟨he, hb⟩ => ⟨A, cA, E, cE, he, fun W Z h => ⟨h.ents, h.hm, h.lies, h.hz⟩, hb⟩
  · rw [bareM_2 _ rfl]
    exact (bareP_2 f o t i l c x b A es.length cA si st E sd.length cE w).mono fun e w' ⟨he, hb⟩ => ⟨A, cA, E, cE, he, fun W Z h => ⟨h.ents, h.hm, h.lies, h.hz⟩, hb⟩
  · rw [bareM_3 _ rfl]
    exact (bareP_3 f o t i l c x b A es.length cA si st E sd.length cE w).mono fun e w' ⟨he, hb⟩ => ⟨A, cA, E, cE, he, fun W Z h => ⟨h.ents, h.hm, h.lies, h.hz⟩, hb⟩
  · rw [bareM_4 _ rfl]
    exact (bareP_4 f o t i l c x b A es.length cA si st E sd.length cE w).mono fun e w' ⟨he, hb⟩ => ⟨A, cA, E, cE, he, fun W Z h => ⟨h.ents, h.hm, h.lies, h.hz⟩, hb⟩
  · rw [bareM_5 _ rfl]
    exact (bareP_5 f o t i l c x b A es.length cA si st E sd.length cE w).mono fun e w' ⟨he, hb⟩ => ⟨none, 0, E, cE, he, fun W Z h => ⟨ents_nil W Z, Nat.zero_le _, h.lies, h.hz⟩, hb⟩
  · rw [bareM_6 _ rfl]
    exact (bareP_6 f o t i l c x b A es.length cA si st E sd.length cE w).mono fun e w' ⟨he, hb⟩ => ⟨A, cA, E, cE, he, fun W Z h => ⟨h.ents, h.hm, h.lies, h.hz⟩, hb⟩
  · rw [bareM_7 _ rfl]
    exact (bareP_7 f o t i l c x b A es.length cA si st E sd.length cE w).mono fun e w' ⟨he, hb⟩ => ⟨A, cA, none, 0, he, fun W Z h => ⟨h.ents, h.hm, Lies.nil W, fun h0 => absurd h0 (by simp)⟩, hb⟩

set_option maxRecDepth 100000 in
set_option maxHeartbeats 6400000 in
theorem rightMP_any (m : Msg) (A : Option Addr) (cA : Nat) (E : Option Addr) (cE : Nat) (w : World) (Z : Nat → Prop) (h : MsgIn w Z m A cA E cE) :
    Calls Try.prog 10 #[msgV m A cA E cE] w fun e w' => e = .returned (.bool (rightM m)) ∧ Below w.heap.size w w' := by
  rw [← right_eq m]
  have hlen := h.len
  obtain ⟨R, hR⟩ : ∃ R, rightP m = R := ⟨_, rfl⟩
  rw [hR]
  unfold rightP at hR
  have hBare := fun W h1 h7 => bareMP_any m A cA E cE W h1 h7
  have hSame := fun W A' cA' E' cE' (hW : MsgIn W Z (bareM m) A' cA' E' cE') => sameMP_any (bareM m) (headM m) A' cA' E' cE' none 0 none 0 W Z (fun _ => True) hW (MsgIn.of (MsgIn.zero W _) rfl rfl)
  have hIn := fun W (hW : Below w.heap.size w W) => h.below hW (Nat.le_refl _)
  have hL := fun W (hW : Below w.heap.size w W) => listB_any m.k m.f m.o m.t m.i m.l m.c m.x m.b A cA m.s.i m.s.t E m.s.d.length cE m.es W Z (hIn W hW).ents h.hm
  generalize sameM (bareM m) (headM m) = z5 at *
  generalize bareM m = bm at *
  obtain ⟨k, f, o, t, i, l, c, x, b, es, si, st, sd⟩ := m
  obtain ⟨bk, bf, bo, bt, bi, bl, bc, bx, bb, bes, bsi, bst, bsd⟩ := bm
  unfold headM at hSame
  dsimp only [msgV] at *
  have hHd := fun W => headP_is k f o t i l c x b A es.length cA si st E sd.length cE W
  have hHk := headB_iff k f o t
  have hN := fun W => numsP_is k f o t i l c x b A es.length cA si st E sd.length cE W
  have hSn := fun W => snapOk_is k f o t i l c x b A es.length cA si st E sd.length cE W
  have hHd1 := headP_is k f o t 0 0 0 0 false none 0 0 0 0 none 0 0
  rw [show (headB k f o t && decide (t ≤ 1099511627776)) = headP k f o t from rfl, show (numZ i && (numZ l && (numZ c && numZ x))) = numsP i l c x from rfl] at hR
  have hk17 : headP k f o t = true → 1 ≤ k ∧ k ≤ 7 := fun hh => by
    unfold headP at hh
    rw [Bool.and_eq_true] at hh
    have := hHk.1 hh.1
    omega
  clear h hlen hHk
  obtain ⟨w2, hw2⟩ : ∃ W, W = ((w.alloc (.cells (mC k f o t i l c x b A es.length cA si st E sd.length cE) 30)).alloc (.cells (mC k f o t 0 0 0 0 false none 0 0 0 0 none 0 0) 30)) := ⟨_, rfl⟩
  have hbw2 : Below w.heap.size w w2 := by rw [hw2]; exact ((Below.refl _ _).alloc (Nat.le_refl _) _).alloc (by simp) _
  have hr1 : w2.heap[w.heap.size]? = some (.cells (mC k f o t i l c x b A es.length cA si st E sd.length cE) 30) := by rw [hw2]; exact (Below.heap_alloc _ _ _ (by simp)).trans (heap_alloc_new _ _)
  have hr2 : w2.heap[w.heap.size + 1]? = some (.cells (mC k f o t 0 0 0 0 false none 0 0 0 0 none 0 0) 30) := by rw [hw2]; exact heap_alloc2_new _ _ _
  have HW2 := Lib.hid hw2.symm
  clear hw2
  have hrd1 : w2.drew.heap[w.heap.size]? = some (.cells (mC k f o t i l c x b A es.length cA si st E sd.length cE) 30) := hr1
  have hrd2 : w2.drew.heap[w.heap.size + 1]? = some (.cells (mC k f o t 0 0 0 0 false none 0 0 0 0 none 0 0) 30) := hr2
  generalize hb1 : w.heap.size = b1 at hr1 hr2 hrd1 hrd2
  have HB1 := Lib.hid hb1
  clear hb1
  have hst : ∀ W W', Below w2.heap.size w2 W → Below W.heap.size W W' → (fun w' => Below w2.heap.size w2 w' ∧ (w'.cell? ⟨b1, 0, none⟩ = some (.int .i64 k) ∧ w'.cell? ⟨b1, 1, none⟩ = some (.int .i64 f) ∧ w'.cell? ⟨b1, 2, none⟩ = some (.int .i64 o) ∧ w'.cell? ⟨b1, 3, none⟩ = some (.int .i64 t) ∧ w'.cell? ⟨b1, 4, none⟩ = some (.int .i64 i) ∧ w'.cell? ⟨b1, 5, none⟩ = some (.int .i64 l) ∧ w'.cell? ⟨b1, 6, none⟩ = some (.int .i64 c) ∧ w'.cell? ⟨b1, 7, none⟩ = some (.int .i64 x) ∧ w'.cell? ⟨b1, 8, none⟩ = some (.bool b) ∧ w'.cell? ⟨b1, 9, none⟩ = some (.slice A es.length cA) ∧ w'.cell? ⟨b1, 10, none⟩ = some (.int .i64 si) ∧ w'.cell? ⟨b1, 11, none⟩ = some (.int .i64 st) ∧ w'.cell? ⟨b1, 12, none⟩ = some (.slice E sd.length cE)) ∧ (w'.cell? ⟨b1 + 1, 0, none⟩ = some (.int .i64 k) ∧ w'.cell? ⟨b1 + 1, 1, none⟩ = some (.int .i64 f) ∧ w'.cell? ⟨b1 + 1, 2, none⟩ = some (.int .i64 o) ∧ w'.cell? ⟨b1 + 1, 3, none⟩ = some (.int .i64 t) ∧ w'.cell? ⟨b1 + 1, 4, none⟩ = some (.int .i64 0) ∧ w'.cell? ⟨b1 + 1, 5, none⟩ = some (.int .i64 0) ∧ w'.cell? ⟨b1 + 1, 6, none⟩ = some (.int .i64 0) ∧ w'.cell? ⟨b1 + 1, 7, none⟩ = some (.int .i64 0) ∧ w'.cell? ⟨b1 + 1, 8, none⟩ = some (.bool false) ∧ w'.cell? ⟨b1 + 1, 9, none⟩ = some (.slice none 0 0) ∧ w'.cell? ⟨b1 + 1, 10, none⟩ = some (.int .i64 0) ∧ w'.cell? ⟨b1 + 1, 11, none⟩ = some (.int .i64 0) ∧ w'.cell? ⟨b1 + 1, 12, none⟩ = some (.slice none 0 0))) W' := fun W W' h1 h2 => by
    have h3 := h1.trans (h2.mono h1.size)
    exact ⟨h3, (row13 ((h3.block _ (hlt hr1)).trans hr1)).1, (row13 ((h3.block _ (hlt hr2)).trans hr2)).1⟩
  have hS0 : (fun w' => Below w2.heap.size w2 w' ∧ (w'.cell? ⟨b1, 0, none⟩ = some (.int .i64 k) ∧ w'.cell? ⟨b1, 1, none⟩ = some (.int .i64 f) ∧ w'.cell? ⟨b1, 2, none⟩ = some (.int .i64 o) ∧ w'.cell? ⟨b1, 3, none⟩ = some (.int .i64 t) ∧ w'.cell? ⟨b1, 4, none⟩ = some (.int .i64 i) ∧ w'.cell? ⟨b1, 5, none⟩ = some (.int .i64 l) ∧ w'.cell? ⟨b1, 6, none⟩ = some (.int .i64 c) ∧ w'.cell? ⟨b1, 7, none⟩ = some (.int .i64 x) ∧ w'.cell? ⟨b1, 8, none⟩ = some (.bool b) ∧ w'.cell? ⟨b1, 9, none⟩ = some (.slice A es.length cA) ∧ w'.cell? ⟨b1, 10, none⟩ = some (.int .i64 si) ∧ w'.cell? ⟨b1, 11, none⟩ = some (.int .i64 st) ∧ w'.cell? ⟨b1, 12, none⟩ = some (.slice E sd.length cE)) ∧ (w'.cell? ⟨b1 + 1, 0, none⟩ = some (.int .i64 k) ∧ w'.cell? ⟨b1 + 1, 1, none⟩ = some (.int .i64 f) ∧ w'.cell? ⟨b1 + 1, 2, none⟩ = some (.int .i64 o) ∧ w'.cell? ⟨b1 + 1, 3, none⟩ = some (.int .i64 t) ∧ w'.cell? ⟨b1 + 1, 4, none⟩ = some (.int .i64 0) ∧ w'.cell? ⟨b1 + 1, 5, none⟩ = some (.int .i64 0) ∧ w'.cell? ⟨b1 + 1, 6, none⟩ = some (.int .i64 0) ∧ w'.cell? ⟨b1 + 1, 7, none⟩ = some (.int .i64 0) ∧ w'.cell? ⟨b1 + 1, 8, none⟩ = some (.bool false) ∧ w'.cell? ⟨b1 + 1, 9, none⟩ = some (.slice none 0 0) ∧ w'.cell? ⟨b1 + 1, 10, none⟩ = some (.int .i64 0) ∧ w'.cell? ⟨b1 + 1, 11, none⟩ = some (.int .i64 0) ∧ w'.cell? ⟨b1 + 1, 12, none⟩ = some (.slice none 0 0))) w2.drew := ⟨(Below.refl _ _).drew, (row13 hrd1).1, (row13 hrd2).1⟩
  have hup := fun W (hW : Below w2.heap.size w2 W) => hbw2.trans (hW.mono hbw2.size)
  generalize headP k f o t = z1 at *
  generalize numsP i l c x = z2 at *
  generalize listB t i l es = z3 at *
  generalize snapOk k si st sd.length = z4 at *
  cases z1
  case false =>
    obtain rfl : false = R := by rw [← hR]; simp
    go_enter Try.func10, Try.ntmps10
    go_upto_region 2 with fail
    rw [show ((w.alloc (.cells (mC k f o t i l c x b A es.length cA si st E sd.length cE) 30)).alloc (.cells (mC k f o t 0 0 0 0 false none 0 0 0 0 none 0 0) 30)) = w2 from HW2, show w.heap.size = b1 from HB1]
    refine wp_region_held_drew (S := (fun w' => Below w2.heap.size w2 w' ∧ (w'.cell? ⟨b1, 0, none⟩ = some (.int .i64 k) ∧ w'.cell? ⟨b1, 1, none⟩ = some (.int .i64 f) ∧ w'.cell? ⟨b1, 2, none⟩ = some (.int .i64 o) ∧ w'.cell? ⟨b1, 3, none⟩ = some (.int .i64 t) ∧ w'.cell? ⟨b1, 4, none⟩ = some (.int .i64 i) ∧ w'.cell? ⟨b1, 5, none⟩ = some (.int .i64 l) ∧ w'.cell? ⟨b1, 6, none⟩ = some (.int .i64 c) ∧ w'.cell? ⟨b1, 7, none⟩ = some (.int .i64 x) ∧ w'.cell? ⟨b1, 8, none⟩ = some (.bool b) ∧ w'.cell? ⟨b1, 9, none⟩ = some (.slice A es.length cA) ∧ w'.cell? ⟨b1, 10, none⟩ = some (.int .i64 si) ∧ w'.cell? ⟨b1, 11, none⟩ = some (.int .i64 st) ∧ w'.cell? ⟨b1, 12, none⟩ = some (.slice E sd.length cE)) ∧ (w'.cell? ⟨b1 + 1, 0, none⟩ = some (.int .i64 k) ∧ w'.cell? ⟨b1 + 1, 1, none⟩ = some (.int .i64 f) ∧ w'.cell? ⟨b1 + 1, 2, none⟩ = some (.int .i64 o) ∧ w'.cell? ⟨b1 + 1, 3, none⟩ = some (.int .i64 t) ∧ w'.cell? ⟨b1 + 1, 4, none⟩ = some (.int .i64 0) ∧ w'.cell? ⟨b1 + 1, 5, none⟩ = some (.int .i64 0) ∧ w'.cell? ⟨b1 + 1, 6, none⟩ = some (.int .i64 0) ∧ w'.cell? ⟨b1 + 1, 7, none⟩ = some (.int .i64 0) ∧ w'.cell? ⟨b1 + 1, 8, none⟩ = some (.bool false) ∧ w'.cell? ⟨b1 + 1, 9, none⟩ = some (.slice none 0 0) ∧ w'.cell? ⟨b1 + 1, 10, none⟩ = some (.int .i64 0) ∧ w'.cell? ⟨b1 + 1, 11, none⟩ = some (.int .i64 0) ∧ w'.cell? ⟨b1 + 1, 12, none⟩ = some (.slice none 0 0)))) (by kernel_rfl) hS0 (fun hHeld => ?_)
    change wpAnyH _ _ _ _ _ 21 #[false, false, false, false, false, false, false, false, false, false, false, false, false, false, false, false, false, false, false, false, false] _ _
    refine wpAnyH_take (i := 0) (oi := { dst := some 13, op := Go.Op.load 30 (Go.Operand.tmp 3), type := 30, pos := "rmsg.go:33", after := #[], guard := none }) (v := ?_) rfl (by kernel_rfl) (by kernel_rfl) (by kernel_rfl) (fun _ _ _ h => h) (Or.inl ⟨by rfl, ?_⟩) (by assumption) ?_
    rotate_left
    · ((intro w hSw; (try dsimp only at hSw); go_simp); (try with_reducible rfl))
    try simp only [Act.put, List.setIfInBounds_toArray, List.set_cons_zero, List.set_cons_succ]
    refine wpAnyH_ready (rs := [1]) (by kernel_rfl) (by simp) ?_
    refine AllReadyH.cons (o := { dst := some 14, op := Go.Op.call { callee := Go.Callee.value (Go.Operand.func 25), args := #[Go.Operand.tmp 13], argTypes := #[30] }, type := 4, pos := "rmsg.go:33", after := #[{ on := 0, ground := Go.Ground.data }], guard := none }) rfl (fun KK hK => ?_) AllReadyH.nil
    go_simp
    refine (hHd1 _).mono ?_
    rintro e w1 ⟨rfl, hb1⟩
    have hS7 := hst _ w1 (by first | exact hHeld.1 | exact hS0.1) hb1
    refine hK.out _ _ hS7 (fun hHeld2 => ?_)
    clear hK KK hHeld
    have hHeld := hHeld2
    clear hHeld2
    try simp only [Act.put, List.setIfInBounds_toArray, List.set_cons_zero, List.set_cons_succ]
    refine wpAnyH_take (i := 2) (oi := { dst := some 15, op := Go.Op.move (Go.Operand.tmp 14), type := 4, pos := "rmsg.go:33", after := #[{ on := 1, ground := Go.Ground.data }, { on := 1, ground := Go.Ground.chain }], guard := none }) (v := ?_) rfl (by kernel_rfl) (by kernel_rfl) (by kernel_rfl) (fun _ _ _ h => h) (Or.inl ⟨by rfl, ?_⟩) (by assumption) ?_
    rotate_left
    · ((intro w hSw; (try dsimp only at hSw); go_simp); (try with_reducible rfl))
    try simp only [Act.put, List.setIfInBounds_toArray, List.set_cons_zero, List.set_cons_succ]
    refine wpAnyH_take (i := 3) (oi := { dst := some 16, op := Go.Op.load 30 (Go.Operand.tmp 1), type := 30, pos := "rmsg.go:33", after := #[{ on := 2, ground := Go.Ground.guard }], guard := some (2, true) }) (v := undef) rfl (by kernel_rfl) (by kernel_rfl) (by kernel_rfl) (fun _ _ _ h => h) (Or.inr ⟨by rfl, rfl⟩) (by assumption) ?_
    try simp only [Act.put, List.setIfInBounds_toArray, List.set_cons_zero, List.set_cons_succ]
    refine wpAnyH_take (i := 4) (oi := { dst := some 17, op := Go.Op.call { callee := Go.Callee.value (Go.Operand.func 26), args := #[Go.Operand.tmp 16], argTypes := #[30] }, type := 4, pos := "rmsg.go:33", after := #[{ on := 3, ground := Go.Ground.data }, { on := 2, ground := Go.Ground.chain }, { on := 2, ground := Go.Ground.guard }], guard := some (2, true) }) (v := undef) rfl (by kernel_rfl) (by kernel_rfl) (by kernel_rfl) (fun _ _ _ h => h) (Or.inr ⟨by rfl, rfl⟩) (by assumption) ?_
    try simp only [Act.put, List.setIfInBounds_toArray, List.set_cons_zero, List.set_cons_succ]
    refine wpAnyH_take (i := 5) (oi := { dst := some 18, op := Go.Op.pick (Go.Operand.tmp 15) (Go.Operand.tmp 17) (Go.Operand.const (Go.Value.bool false)), type := 4, pos := "rmsg.go:33", after := #[{ on := 2, ground := Go.Ground.data }, { on := 4, ground := Go.Ground.data }], guard := none }) (v := ?_) rfl (by kernel_rfl) (by kernel_rfl) (by kernel_rfl) (fun _ _ _ h => h) (Or.inl ⟨by rfl, ?_⟩) (by assumption) ?_
    rotate_left
    · ((intro w hSw; (try dsimp only at hSw); go_simp); (try with_reducible rfl))
    try simp only [Act.put, List.setIfInBounds_toArray, List.set_cons_zero, List.set_cons_succ]
    refine wpAnyH_take (i := 6) (oi := { dst := some 19, op := Go.Op.move (Go.Operand.tmp 18), type := 4, pos := "rmsg.go:33", after := #[{ on := 5, ground := Go.Ground.data }, { on := 4, ground := Go.Ground.chain }], guard := none }) (v := ?_) rfl (by kernel_rfl) (by kernel_rfl) (by kernel_rfl) (fun _ _ _ h => h) (Or.inl ⟨by rfl, ?_⟩) (by assumption) ?_
    rotate_left
    · ((intro w hSw; (try dsimp only at hSw); go_simp); (try with_reducible rfl))
    try simp only [Act.put, List.setIfInBounds_toArray, List.set_cons_zero, List.set_cons_succ]
    refine wpAnyH_take (i := 7) (oi := { dst := some 20, op := Go.Op.load 30 (Go.Operand.tmp 1), type := 30, pos := "rmsg.go:33", after := #[{ on := 6, ground := Go.Ground.guard }], guard := some (6, true) }) (v := undef) rfl (by kernel_rfl) (by kernel_rfl) (by kernel_rfl) (fun _ _ _ h => h) (Or.inr ⟨by rfl, rfl⟩) (by assumption) ?_
    try simp only [Act.put, List.setIfInBounds_toArray, List.set_cons_zero, List.set_cons_succ]
    refine wpAnyH_take (i := 8) (oi := { dst := some 21, op := Go.Op.call { callee := Go.Callee.value (Go.Operand.func 27), args := #[Go.Operand.tmp 20], argTypes := #[30] }, type := 4, pos := "rmsg.go:33", after := #[{ on := 7, ground := Go.Ground.data }, { on := 6, ground := Go.Ground.chain }, { on := 6, ground := Go.Ground.guard }], guard := some (6, true) }) (v := undef) rfl (by kernel_rfl) (by kernel_rfl) (by kernel_rfl) (fun _ _ _ h => h) (Or.inr ⟨by rfl, rfl⟩) (by assumption) ?_
    try simp only [Act.put, List.setIfInBounds_toArray, List.set_cons_zero, List.set_cons_succ]
    refine wpAnyH_take (i := 9) (oi := { dst := some 22, op := Go.Op.pick (Go.Operand.tmp 19) (Go.Operand.tmp 21) (Go.Operand.const (Go.Value.bool false)), type := 4, pos := "rmsg.go:33", after := #[{ on := 6, ground := Go.Ground.data }, { on := 8, ground := Go.Ground.data }], guard := none }) (v := ?_) rfl (by kernel_rfl) (by kernel_rfl) (by kernel_rfl) (fun _ _ _ h => h) (Or.inl ⟨by rfl, ?_⟩) (by assumption) ?_
    rotate_left
    · ((intro w hSw; (try dsimp only at hSw); go_simp); (try with_reducible rfl))
    try simp only [Act.put, List.setIfInBounds_toArray, List.set_cons_zero, List.set_cons_succ]
    refine wpAnyH_take (i := 10) (oi := { dst := some 23, op := Go.Op.move (Go.Operand.tmp 22), type := 4, pos := "rmsg.go:33", after := #[{ on := 9, ground := Go.Ground.data }, { on := 8, ground := Go.Ground.chain }], guard := none }) (v := ?_) rfl (by kernel_rfl) (by kernel_rfl) (by kernel_rfl) (fun _ _ _ h => h) (Or.inl ⟨by rfl, ?_⟩) (by assumption) ?_
    rotate_left
    · ((intro w hSw; (try dsimp only at hSw); go_simp); (try with_reducible rfl))
    try simp only [Act.put, List.setIfInBounds_toArray, List.set_cons_zero, List.set_cons_succ]
    refine wpAnyH_take (i := 11) (oi := { dst := some 24, op := Go.Op.load 30 (Go.Operand.tmp 1), type := 30, pos := "rmsg.go:33", after := #[{ on := 10, ground := Go.Ground.guard }], guard := some (10, true) }) (v := undef) rfl (by kernel_rfl) (by kernel_rfl) (by kernel_rfl) (fun _ _ _ h => h) (Or.inr ⟨by rfl, rfl⟩) (by assumption) ?_
    try simp only [Act.put, List.setIfInBounds_toArray, List.set_cons_zero, List.set_cons_succ]
    refine wpAnyH_take (i := 12) (oi := { dst := some 25, op := Go.Op.call { callee := Go.Callee.value (Go.Operand.func 28), args := #[Go.Operand.tmp 24], argTypes := #[30] }, type := 4, pos := "rmsg.go:33", after := #[{ on := 11, ground := Go.Ground.data }, { on := 10, ground := Go.Ground.chain }, { on := 10, ground := Go.Ground.guard }], guard := some (10, true) }) (v := undef) rfl (by kernel_rfl) (by kernel_rfl) (by kernel_rfl) (fun _ _ _ h => h) (Or.inr ⟨by rfl, rfl⟩) (by assumption) ?_
    try simp only [Act.put, List.setIfInBounds_toArray, List.set_cons_zero, List.set_cons_succ]
    refine wpAnyH_take (i := 13) (oi := { dst := some 26, op := Go.Op.pick (Go.Operand.tmp 23) (Go.Operand.tmp 25) (Go.Operand.const (Go.Value.bool false)), type := 4, pos := "rmsg.go:33", after := #[{ on := 10, ground := Go.Ground.data }, { on := 12, ground := Go.Ground.data }], guard := none }) (v := ?_) rfl (by kernel_rfl) (by kernel_rfl) (by kernel_rfl) (fun _ _ _ h => h) (Or.inl ⟨by rfl, ?_⟩) (by assumption) ?_
    rotate_left
    · ((intro w hSw; (try dsimp only at hSw); go_simp); (try with_reducible rfl))
    try simp only [Act.put, List.setIfInBounds_toArray, List.set_cons_zero, List.set_cons_succ]
    refine wpAnyH_take (i := 14) (oi := { dst := some 27, op := Go.Op.move (Go.Operand.tmp 26), type := 4, pos := "rmsg.go:33", after := #[{ on := 13, ground := Go.Ground.data }, { on := 12, ground := Go.Ground.chain }], guard := none }) (v := ?_) rfl (by kernel_rfl) (by kernel_rfl) (by kernel_rfl) (fun _ _ _ h => h) (Or.inl ⟨by rfl, ?_⟩) (by assumption) ?_
    rotate_left
    · ((intro w hSw; (try dsimp only at hSw); go_simp); (try with_reducible rfl))
    try simp only [Act.put, List.setIfInBounds_toArray, List.set_cons_zero, List.set_cons_succ]
    refine wpAnyH_take (i := 15) (oi := { dst := some 28, op := Go.Op.load 30 (Go.Operand.tmp 1), type := 30, pos := "rmsg.go:33", after := #[{ on := 14, ground := Go.Ground.guard }], guard := some (14, true) }) (v := undef) rfl (by kernel_rfl) (by kernel_rfl) (by kernel_rfl) (fun _ _ _ h => h) (Or.inr ⟨by rfl, rfl⟩) (by assumption) ?_
    try simp only [Act.put, List.setIfInBounds_toArray, List.set_cons_zero, List.set_cons_succ]
    refine wpAnyH_take (i := 16) (oi := { dst := some 29, op := Go.Op.call { callee := Go.Callee.value (Go.Operand.func 29), args := #[Go.Operand.tmp 28], argTypes := #[30] }, type := 30, pos := "rmsg.go:33", after := #[{ on := 15, ground := Go.Ground.data }, { on := 14, ground := Go.Ground.chain }, { on := 14, ground := Go.Ground.guard }], guard := some (14, true) }) (v := undef) rfl (by kernel_rfl) (by kernel_rfl) (by kernel_rfl) (fun _ _ _ h => h) (Or.inr ⟨by rfl, rfl⟩) (by assumption) ?_
    try simp only [Act.put, List.setIfInBounds_toArray, List.set_cons_zero, List.set_cons_succ]
    refine wpAnyH_take (i := 17) (oi := { dst := some 30, op := Go.Op.load 30 (Go.Operand.tmp 3), type := 30, pos := "rmsg.go:33", after := #[{ on := 14, ground := Go.Ground.guard }], guard := some (14, true) }) (v := undef) rfl (by kernel_rfl) (by kernel_rfl) (by kernel_rfl) (fun _ _ _ h => h) (Or.inr ⟨by rfl, rfl⟩) (by assumption) ?_
    try simp only [Act.put, List.setIfInBounds_toArray, List.set_cons_zero, List.set_cons_succ]
    refine wpAnyH_take (i := 18) (oi := { dst := some 31, op := Go.Op.call { callee := Go.Callee.value (Go.Operand.func 12), args := #[Go.Operand.tmp 29, Go.Operand.tmp 30], argTypes := #[30, 30] }, type := 4, pos := "rmsg.go:33", after := #[{ on := 16, ground := Go.Ground.data }, { on := 17, ground := Go.Ground.data }, { on := 16, ground := Go.Ground.chain }, { on := 14, ground := Go.Ground.guard }], guard := some (14, true) }) (v := undef) rfl (by kernel_rfl) (by kernel_rfl) (by kernel_rfl) (fun _ _ _ h => h) (Or.inr ⟨by rfl, rfl⟩) (by assumption) ?_
    try simp only [Act.put, List.setIfInBounds_toArray, List.set_cons_zero, List.set_cons_succ]
    refine wpAnyH_take (i := 19) (oi := { dst := some 32, op := Go.Op.pick (Go.Operand.tmp 27) (Go.Operand.tmp 31) (Go.Operand.const (Go.Value.bool false)), type := 4, pos := "rmsg.go:33", after := #[{ on := 14, ground := Go.Ground.data }, { on := 18, ground := Go.Ground.data }], guard := none }) (v := ?_) rfl (by kernel_rfl) (by kernel_rfl) (by kernel_rfl) (fun _ _ _ h => h) (Or.inl ⟨by rfl, ?_⟩) (by assumption) ?_
    rotate_left
    · ((intro w hSw; (try dsimp only at hSw); go_simp); (try with_reducible rfl))
    try simp only [Act.put, List.setIfInBounds_toArray, List.set_cons_zero, List.set_cons_succ]
    refine wpAnyH_take (i := 20) (oi := { dst := some 2, op := Go.Op.assign (Go.Operand.tmp 32), type := 4, pos := "rmsg.go:33", after := #[{ on := 19, ground := Go.Ground.data }, { on := 18, ground := Go.Ground.chain }, { on := 0, ground := Go.Ground.phase }, { on := 1, ground := Go.Ground.phase }, { on := 2, ground := Go.Ground.phase }, { on := 3, ground := Go.Ground.phase }, { on := 4, ground := Go.Ground.phase }, { on := 5, ground := Go.Ground.phase }, { on := 6, ground := Go.Ground.phase }, { on := 7, ground := Go.Ground.phase }, { on := 8, ground := Go.Ground.phase }, { on := 9, ground := Go.Ground.phase }, { on := 10, ground := Go.Ground.phase }, { on := 11, ground := Go.Ground.phase }, { on := 12, ground := Go.Ground.phase }, { on := 13, ground := Go.Ground.phase }, { on := 14, ground := Go.Ground.phase }, { on := 15, ground := Go.Ground.phase }, { on := 16, ground := Go.Ground.phase }, { on := 17, ground := Go.Ground.phase }, { on := 18, ground := Go.Ground.phase }, { on := 19, ground := Go.Ground.phase }], guard := none }) (v := ?_) rfl (by kernel_rfl) (by kernel_rfl) (by kernel_rfl) (fun _ _ _ h => h) (Or.inl ⟨by rfl, ?_⟩) (by assumption) ?_
    rotate_left
    · ((intro w hSw; (try dsimp only at hSw); go_simp); (try with_reducible rfl))
    try simp only [Act.put, List.setIfInBounds_toArray, List.set_cons_zero, List.set_cons_succ]
    refine wpAnyH_done (by kernel_rfl) ?_ _
    go_wp2
    go_ret
    exact ⟨rfl, by have hq := hup _ hHeld.1; rw [show w.heap.size = b1 from HB1] at hq; exact hq⟩
  cases z2
  case false =>
    obtain rfl : false = R := by rw [← hR]; simp
    go_enter Try.func10, Try.ntmps10
    go_upto_region 2 with fail
    rw [show ((w.alloc (.cells (mC k f o t i l c x b A es.length cA si st E sd.length cE) 30)).alloc (.cells (mC k f o t 0 0 0 0 false none 0 0 0 0 none 0 0) 30)) = w2 from HW2, show w.heap.size = b1 from HB1]
    refine wp_region_held_drew (S := (fun w' => Below w2.heap.size w2 w' ∧ (w'.cell? ⟨b1, 0, none⟩ = some (.int .i64 k) ∧ w'.cell? ⟨b1, 1, none⟩ = some (.int .i64 f) ∧ w'.cell? ⟨b1, 2, none⟩ = some (.int .i64 o) ∧ w'.cell? ⟨b1, 3, none⟩ = some (.int .i64 t) ∧ w'.cell? ⟨b1, 4, none⟩ = some (.int .i64 i) ∧ w'.cell? ⟨b1, 5, none⟩ = some (.int .i64 l) ∧ w'.cell? ⟨b1, 6, none⟩ = some (.int .i64 c) ∧ w'.cell? ⟨b1, 7, none⟩ = some (.int .i64 x) ∧ w'.cell? ⟨b1, 8, none⟩ = some (.bool b) ∧ w'.cell? ⟨b1, 9, none⟩ = some (.slice A es.length cA) ∧ w'.cell? ⟨b1, 10, none⟩ = some (.int .i64 si) ∧ w'.cell? ⟨b1, 11, none⟩ = some (.int .i64 st) ∧ w'.cell? ⟨b1, 12, none⟩ = some (.slice E sd.length cE)) ∧ (w'.cell? ⟨b1 + 1, 0, none⟩ = some (.int .i64 k) ∧ w'.cell? ⟨b1 + 1, 1, none⟩ = some (.int .i64 f) ∧ w'.cell? ⟨b1 + 1, 2, none⟩ = some (.int .i64 o) ∧ w'.cell? ⟨b1 + 1, 3, none⟩ = some (.int .i64 t) ∧ w'.cell? ⟨b1 + 1, 4, none⟩ = some (.int .i64 0) ∧ w'.cell? ⟨b1 + 1, 5, none⟩ = some (.int .i64 0) ∧ w'.cell? ⟨b1 + 1, 6, none⟩ = some (.int .i64 0) ∧ w'.cell? ⟨b1 + 1, 7, none⟩ = some (.int .i64 0) ∧ w'.cell? ⟨b1 + 1, 8, none⟩ = some (.bool false) ∧ w'.cell? ⟨b1 + 1, 9, none⟩ = some (.slice none 0 0) ∧ w'.cell? ⟨b1 + 1, 10, none⟩ = some (.int .i64 0) ∧ w'.cell? ⟨b1 + 1, 11, none⟩ = some (.int .i64 0) ∧ w'.cell? ⟨b1 + 1, 12, none⟩ = some (.slice none 0 0)))) (by kernel_rfl) hS0 (fun hHeld => ?_)
    change wpAnyH _ _ _ _ _ 21 #[false, false, false, false, false, false, false, false, false, false, false, false, false, false, false, false, false, false, false, false, false] _ _
    refine wpAnyH_take (i := 0) (oi := { dst := some 13, op := Go.Op.load 30 (Go.Operand.tmp 3), type := 30, pos := "rmsg.go:33", after := #[], guard := none }) (v := ?_) rfl (by kernel_rfl) (by kernel_rfl) (by kernel_rfl) (fun _ _ _ h => h) (Or.inl ⟨by rfl, ?_⟩) (by assumption) ?_
    rotate_left
    · ((intro w hSw; (try dsimp only at hSw); go_simp); (try with_reducible rfl))
    try simp only [Act.put, List.setIfInBounds_toArray, List.set_cons_zero, List.set_cons_succ]
    refine wpAnyH_ready (rs := [1]) (by kernel_rfl) (by simp) ?_
    refine AllReadyH.cons (o := { dst := some 14, op := Go.Op.call { callee := Go.Callee.value (Go.Operand.func 25), args := #[Go.Operand.tmp 13], argTypes := #[30] }, type := 4, pos := "rmsg.go:33", after := #[{ on := 0, ground := Go.Ground.data }], guard := none }) rfl (fun KK hK => ?_) AllReadyH.nil
    go_simp
    refine (hHd1 _).mono ?_
    rintro e w1 ⟨rfl, hb1⟩
    have hS7 := hst _ w1 (by first | exact hHeld.1 | exact hS0.1) hb1
    refine hK.out _ _ hS7 (fun hHeld2 => ?_)
    clear hK KK hHeld
    have hHeld := hHeld2
    clear hHeld2
    try simp only [Act.put, List.setIfInBounds_toArray, List.set_cons_zero, List.set_cons_succ]
    refine wpAnyH_take (i := 2) (oi := { dst := some 15, op := Go.Op.move (Go.Operand.tmp 14), type := 4, pos := "rmsg.go:33", after := #[{ on := 1, ground := Go.Ground.data }, { on := 1, ground := Go.Ground.chain }], guard := none }) (v := ?_) rfl (by kernel_rfl) (by kernel_rfl) (by kernel_rfl) (fun _ _ _ h => h) (Or.inl ⟨by rfl, ?_⟩) (by assumption) ?_
    rotate_left
    · ((intro w hSw; (try dsimp only at hSw); go_simp); (try with_reducible rfl))
    try simp only [Act.put, List.setIfInBounds_toArray, List.set_cons_zero, List.set_cons_succ]
    refine wpAnyH_take (i := 3) (oi := { dst := some 16, op := Go.Op.load 30 (Go.Operand.tmp 1), type := 30, pos := "rmsg.go:33", after := #[{ on := 2, ground := Go.Ground.guard }], guard := some (2, true) }) (v := ?_) rfl (by kernel_rfl) (by kernel_rfl) (by kernel_rfl) (fun _ _ _ h => h) (Or.inl ⟨by rfl, ?_⟩) (by assumption) ?_
    rotate_left
    · ((intro w hSw; (try dsimp only at hSw); go_simp); (try with_reducible rfl))
    try simp only [Act.put, List.setIfInBounds_toArray, List.set_cons_zero, List.set_cons_succ]
    refine wpAnyH_ready (rs := [4]) (by kernel_rfl) (by simp) ?_
    refine AllReadyH.cons (o := { dst := some 17, op := Go.Op.call { callee := Go.Callee.value (Go.Operand.func 26), args := #[Go.Operand.tmp 16], argTypes := #[30] }, type := 4, pos := "rmsg.go:33", after := #[{ on := 3, ground := Go.Ground.data }, { on := 2, ground := Go.Ground.chain }, { on := 2, ground := Go.Ground.guard }], guard := some (2, true) }) rfl (fun KK hK => ?_) AllReadyH.nil
    go_simp
    refine (hN _).mono ?_
    rintro e w4 ⟨rfl, hb4⟩
    have hS7 := hst _ w4 (by first | exact hHeld.1 | exact hS0.1) hb4
    refine hK.out _ _ hS7 (fun hHeld2 => ?_)
    clear hK KK hHeld
    have hHeld := hHeld2
    clear hHeld2
    try simp only [Act.put, List.setIfInBounds_toArray, List.set_cons_zero, List.set_cons_succ]
    refine wpAnyH_take (i := 5) (oi := { dst := some 18, op := Go.Op.pick (Go.Operand.tmp 15) (Go.Operand.tmp 17) (Go.Operand.const (Go.Value.bool false)), type := 4, pos := "rmsg.go:33", after := #[{ on := 2, ground := Go.Ground.data }, { on := 4, ground := Go.Ground.data }], guard := none }) (v := ?_) rfl (by kernel_rfl) (by kernel_rfl) (by kernel_rfl) (fun _ _ _ h => h) (Or.inl ⟨by rfl, ?_⟩) (by assumption) ?_
    rotate_left
    · ((intro w hSw; (try dsimp only at hSw); go_simp); (try with_reducible rfl))
    try simp only [Act.put, List.setIfInBounds_toArray, List.set_cons_zero, List.set_cons_succ]
    refine wpAnyH_take (i := 6) (oi := { dst := some 19, op := Go.Op.move (Go.Operand.tmp 18), type := 4, pos := "rmsg.go:33", after := #[{ on := 5, ground := Go.Ground.data }, { on := 4, ground := Go.Ground.chain }], guard := none }) (v := ?_) rfl (by kernel_rfl) (by kernel_rfl) (by kernel_rfl) (fun _ _ _ h => h) (Or.inl ⟨by rfl, ?_⟩) (by assumption) ?_
    rotate_left
    · ((intro w hSw; (try dsimp only at hSw); go_simp); (try with_reducible rfl))
    try simp only [Act.put, List.setIfInBounds_toArray, List.set_cons_zero, List.set_cons_succ]
    refine wpAnyH_take (i := 7) (oi := { dst := some 20, op := Go.Op.load 30 (Go.Operand.tmp 1), type := 30, pos := "rmsg.go:33", after := #[{ on := 6, ground := Go.Ground.guard }], guard := some (6, true) }) (v := undef) rfl (by kernel_rfl) (by kernel_rfl) (by kernel_rfl) (fun _ _ _ h => h) (Or.inr ⟨by rfl, rfl⟩) (by assumption) ?_
    try simp only [Act.put, List.setIfInBounds_toArray, List.set_cons_zero, List.set_cons_succ]
    refine wpAnyH_take (i := 8) (oi := { dst := some 21, op := Go.Op.call { callee := Go.Callee.value (Go.Operand.func 27), args := #[Go.Operand.tmp 20], argTypes := #[30] }, type := 4, pos := "rmsg.go:33", after := #[{ on := 7, ground := Go.Ground.data }, { on := 6, ground := Go.Ground.chain }, { on := 6, ground := Go.Ground.guard }], guard := some (6, true) }) (v := undef) rfl (by kernel_rfl) (by kernel_rfl) (by kernel_rfl) (fun _ _ _ h => h) (Or.inr ⟨by rfl, rfl⟩) (by assumption) ?_
    try simp only [Act.put, List.setIfInBounds_toArray, List.set_cons_zero, List.set_cons_succ]
    refine wpAnyH_take (i := 9) (oi := { dst := some 22, op := Go.Op.pick (Go.Operand.tmp 19) (Go.Operand.tmp 21) (Go.Operand.const (Go.Value.bool false)), type := 4, pos := "rmsg.go:33", after := #[{ on := 6, ground := Go.Ground.data }, { on := 8, ground := Go.Ground.data }], guard := none }) (v := ?_) rfl (by kernel_rfl) (by kernel_rfl) (by kernel_rfl) (fun _ _ _ h => h) (Or.inl ⟨by rfl, ?_⟩) (by assumption) ?_
    rotate_left
    · ((intro w hSw; (try dsimp only at hSw); go_simp); (try with_reducible rfl))
    try simp only [Act.put, List.setIfInBounds_toArray, List.set_cons_zero, List.set_cons_succ]
    refine wpAnyH_take (i := 10) (oi := { dst := some 23, op := Go.Op.move (Go.Operand.tmp 22), type := 4, pos := "rmsg.go:33", after := #[{ on := 9, ground := Go.Ground.data }, { on := 8, ground := Go.Ground.chain }], guard := none }) (v := ?_) rfl (by kernel_rfl) (by kernel_rfl) (by kernel_rfl) (fun _ _ _ h => h) (Or.inl ⟨by rfl, ?_⟩) (by assumption) ?_
    rotate_left
    · ((intro w hSw; (try dsimp only at hSw); go_simp); (try with_reducible rfl))
    try simp only [Act.put, List.setIfInBounds_toArray, List.set_cons_zero, List.set_cons_succ]
    refine wpAnyH_take (i := 11) (oi := { dst := some 24, op := Go.Op.load 30 (Go.Operand.tmp 1), type := 30, pos := "rmsg.go:33", after := #[{ on := 10, ground := Go.Ground.guard }], guard := some (10, true) }) (v := undef) rfl (by kernel_rfl) (by kernel_rfl) (by kernel_rfl) (fun _ _ _ h => h) (Or.inr ⟨by rfl, rfl⟩) (by assumption) ?_
    try simp only [Act.put, List.setIfInBounds_toArray, List.set_cons_zero, List.set_cons_succ]
    refine wpAnyH_take (i := 12) (oi := { dst := some 25, op := Go.Op.call { callee := Go.Callee.value (Go.Operand.func 28), args := #[Go.Operand.tmp 24], argTypes := #[30] }, type := 4, pos := "rmsg.go:33", after := #[{ on := 11, ground := Go.Ground.data }, { on := 10, ground := Go.Ground.chain }, { on := 10, ground := Go.Ground.guard }], guard := some (10, true) }) (v := undef) rfl (by kernel_rfl) (by kernel_rfl) (by kernel_rfl) (fun _ _ _ h => h) (Or.inr ⟨by rfl, rfl⟩) (by assumption) ?_
    try simp only [Act.put, List.setIfInBounds_toArray, List.set_cons_zero, List.set_cons_succ]
    refine wpAnyH_take (i := 13) (oi := { dst := some 26, op := Go.Op.pick (Go.Operand.tmp 23) (Go.Operand.tmp 25) (Go.Operand.const (Go.Value.bool false)), type := 4, pos := "rmsg.go:33", after := #[{ on := 10, ground := Go.Ground.data }, { on := 12, ground := Go.Ground.data }], guard := none }) (v := ?_) rfl (by kernel_rfl) (by kernel_rfl) (by kernel_rfl) (fun _ _ _ h => h) (Or.inl ⟨by rfl, ?_⟩) (by assumption) ?_
    rotate_left
    · ((intro w hSw; (try dsimp only at hSw); go_simp); (try with_reducible rfl))
    try simp only [Act.put, List.setIfInBounds_toArray, List.set_cons_zero, List.set_cons_succ]
    refine wpAnyH_take (i := 14) (oi := { dst := some 27, op := Go.Op.move (Go.Operand.tmp 26), type := 4, pos := "rmsg.go:33", after := #[{ on := 13, ground := Go.Ground.data }, { on := 12, ground := Go.Ground.chain }], guard := none }) (v := ?_) rfl (by kernel_rfl) (by kernel_rfl) (by kernel_rfl) (fun _ _ _ h => h) (Or.inl ⟨by rfl, ?_⟩) (by assumption) ?_
    rotate_left
    · ((intro w hSw; (try dsimp only at hSw); go_simp); (try with_reducible rfl))
    try simp only [Act.put, List.setIfInBounds_toArray, List.set_cons_zero, List.set_cons_succ]
    refine wpAnyH_take (i := 15) (oi := { dst := some 28, op := Go.Op.load 30 (Go.Operand.tmp 1), type := 30, pos := "rmsg.go:33", after := #[{ on := 14, ground := Go.Ground.guard }], guard := some (14, true) }) (v := undef) rfl (by kernel_rfl) (by kernel_rfl) (by kernel_rfl) (fun _ _ _ h => h) (Or.inr ⟨by rfl, rfl⟩) (by assumption) ?_
    try simp only [Act.put, List.setIfInBounds_toArray, List.set_cons_zero, List.set_cons_succ]
    refine wpAnyH_take (i := 16) (oi := { dst := some 29, op := Go.Op.call { callee := Go.Callee.value (Go.Operand.func 29), args := #[Go.Operand.tmp 28], argTypes := #[30] }, type := 30, pos := "rmsg.go:33", after := #[{ on := 15, ground := Go.Ground.data }, { on := 14, ground := Go.Ground.chain }, { on := 14, ground := Go.Ground.guard }], guard := some (14, true) }) (v := undef) rfl (by kernel_rfl) (by kernel_rfl) (by kernel_rfl) (fun _ _ _ h => h) (Or.inr ⟨by rfl, rfl⟩) (by assumption) ?_
    try simp only [Act.put, List.setIfInBounds_toArray, List.set_cons_zero, List.set_cons_succ]
    refine wpAnyH_take (i := 17) (oi := { dst := some 30, op := Go.Op.load 30 (Go.Operand.tmp 3), type := 30, pos := "rmsg.go:33", after := #[{ on := 14, ground := Go.Ground.guard }], guard := some (14, true) }) (v := undef) rfl (by kernel_rfl) (by kernel_rfl) (by kernel_rfl) (fun _ _ _ h => h) (Or.inr ⟨by rfl, rfl⟩) (by assumption) ?_
    try simp only [Act.put, List.setIfInBounds_toArray, List.set_cons_zero, List.set_cons_succ]
    refine wpAnyH_take (i := 18) (oi := { dst := some 31, op := Go.Op.call { callee := Go.Callee.value (Go.Operand.func 12), args := #[Go.Operand.tmp 29, Go.Operand.tmp 30], argTypes := #[30, 30] }, type := 4, pos := "rmsg.go:33", after := #[{ on := 16, ground := Go.Ground.data }, { on := 17, ground := Go.Ground.data }, { on := 16, ground := Go.Ground.chain }, { on := 14, ground := Go.Ground.guard }], guard := some (14, true) }) (v := undef) rfl (by kernel_rfl) (by kernel_rfl) (by kernel_rfl) (fun _ _ _ h => h) (Or.inr ⟨by rfl, rfl⟩) (by assumption) ?_
    try simp only [Act.put, List.setIfInBounds_toArray, List.set_cons_zero, List.set_cons_succ]
    refine wpAnyH_take (i := 19) (oi := { dst := some 32, op := Go.Op.pick (Go.Operand.tmp 27) (Go.Operand.tmp 31) (Go.Operand.const (Go.Value.bool false)), type := 4, pos := "rmsg.go:33", after := #[{ on := 14, ground := Go.Ground.data }, { on := 18, ground := Go.Ground.data }], guard := none }) (v := ?_) rfl (by kernel_rfl) (by kernel_rfl) (by kernel_rfl) (fun _ _ _ h => h) (Or.inl ⟨by rfl, ?_⟩) (by assumption) ?_
    rotate_left
    · ((intro w hSw; (try dsimp only at hSw); go_simp); (try with_reducible rfl))
    try simp only [Act.put, List.setIfInBounds_toArray, List.set_cons_zero, List.set_cons_succ]
    refine wpAnyH_take (i := 20) (oi := { dst := some 2, op := Go.Op.assign (Go.Operand.tmp 32), type := 4, pos := "rmsg.go:33", after := #[{ on := 19, ground := Go.Ground.data }, { on := 18, ground := Go.Ground.chain }, { on := 0, ground := Go.Ground.phase }, { on := 1, ground := Go.Ground.phase }, { on := 2, ground := Go.Ground.phase }, { on := 3, ground := Go.Ground.phase }, { on := 4, ground := Go.Ground.phase }, { on := 5, ground := Go.Ground.phase }, { on := 6, ground := Go.Ground.phase }, { on := 7, ground := Go.Ground.phase }, { on := 8, ground := Go.Ground.phase }, { on := 9, ground := Go.Ground.phase }, { on := 10, ground := Go.Ground.phase }, { on := 11, ground := Go.Ground.phase }, { on := 12, ground := Go.Ground.phase }, { on := 13, ground := Go.Ground.phase }, { on := 14, ground := Go.Ground.phase }, { on := 15, ground := Go.Ground.phase }, { on := 16, ground := Go.Ground.phase }, { on := 17, ground := Go.Ground.phase }, { on := 18, ground := Go.Ground.phase }, { on := 19, ground := Go.Ground.phase }], guard := none }) (v := ?_) rfl (by kernel_rfl) (by kernel_rfl) (by kernel_rfl) (fun _ _ _ h => h) (Or.inl ⟨by rfl, ?_⟩) (by assumption) ?_
    rotate_left
    · ((intro w hSw; (try dsimp only at hSw); go_simp); (try with_reducible rfl))
    try simp only [Act.put, List.setIfInBounds_toArray, List.set_cons_zero, List.set_cons_succ]
    refine wpAnyH_done (by kernel_rfl) ?_ _
    go_wp2
    go_ret
    exact ⟨rfl, by have hq := hup _ hHeld.1; rw [show w.heap.size = b1 from HB1] at hq; exact hq⟩
  cases z3
  case false =>
    obtain rfl : false = R := by rw [← hR]; simp
    go_enter Try.func10, Try.ntmps10
    go_upto_region 2 with fail
    rw [show ((w.alloc (.cells (mC k f o t i l c x b A es.length cA si st E sd.length cE) 30)).alloc (.cells (mC k f o t 0 0 0 0 false none 0 0 0 0 none 0 0) 30)) = w2 from HW2, show w.heap.size = b1 from HB1]
    refine wp_region_held_drew (S := (fun w' => Below w2.heap.size w2 w' ∧ (w'.cell? ⟨b1, 0, none⟩ = some (.int .i64 k) ∧ w'.cell? ⟨b1, 1, none⟩ = some (.int .i64 f) ∧ w'.cell? ⟨b1, 2, none⟩ = some (.int .i64 o) ∧ w'.cell? ⟨b1, 3, none⟩ = some (.int .i64 t) ∧ w'.cell? ⟨b1, 4, none⟩ = some (.int .i64 i) ∧ w'.cell? ⟨b1, 5, none⟩ = some (.int .i64 l) ∧ w'.cell? ⟨b1, 6, none⟩ = some (.int .i64 c) ∧ w'.cell? ⟨b1, 7, none⟩ = some (.int .i64 x) ∧ w'.cell? ⟨b1, 8, none⟩ = some (.bool b) ∧ w'.cell? ⟨b1, 9, none⟩ = some (.slice A es.length cA) ∧ w'.cell? ⟨b1, 10, none⟩ = some (.int .i64 si) ∧ w'.cell? ⟨b1, 11, none⟩ = some (.int .i64 st) ∧ w'.cell? ⟨b1, 12, none⟩ = some (.slice E sd.length cE)) ∧ (w'.cell? ⟨b1 + 1, 0, none⟩ = some (.int .i64 k) ∧ w'.cell? ⟨b1 + 1, 1, none⟩ = some (.int .i64 f) ∧ w'.cell? ⟨b1 + 1, 2, none⟩ = some (.int .i64 o) ∧ w'.cell? ⟨b1 + 1, 3, none⟩ = some (.int .i64 t) ∧ w'.cell? ⟨b1 + 1, 4, none⟩ = some (.int .i64 0) ∧ w'.cell? ⟨b1 + 1, 5, none⟩ = some (.int .i64 0) ∧ w'.cell? ⟨b1 + 1, 6, none⟩ = some (.int .i64 0) ∧ w'.cell? ⟨b1 + 1, 7, none⟩ = some (.int .i64 0) ∧ w'.cell? ⟨b1 + 1, 8, none⟩ = some (.bool false) ∧ w'.cell? ⟨b1 + 1, 9, none⟩ = some (.slice none 0 0) ∧ w'.cell? ⟨b1 + 1, 10, none⟩ = some (.int .i64 0) ∧ w'.cell? ⟨b1 + 1, 11, none⟩ = some (.int .i64 0) ∧ w'.cell? ⟨b1 + 1, 12, none⟩ = some (.slice none 0 0)))) (by kernel_rfl) hS0 (fun hHeld => ?_)
    change wpAnyH _ _ _ _ _ 21 #[false, false, false, false, false, false, false, false, false, false, false, false, false, false, false, false, false, false, false, false, false] _ _
    refine wpAnyH_take (i := 0) (oi := { dst := some 13, op := Go.Op.load 30 (Go.Operand.tmp 3), type := 30, pos := "rmsg.go:33", after := #[], guard := none }) (v := ?_) rfl (by kernel_rfl) (by kernel_rfl) (by kernel_rfl) (fun _ _ _ h => h) (Or.inl ⟨by rfl, ?_⟩) (by assumption) ?_
    rotate_left
    · ((intro w hSw; (try dsimp only at hSw); go_simp); (try with_reducible rfl))
    try simp only [Act.put, List.setIfInBounds_toArray, List.set_cons_zero, List.set_cons_succ]
    refine wpAnyH_ready (rs := [1]) (by kernel_rfl) (by simp) ?_
    refine AllReadyH.cons (o := { dst := some 14, op := Go.Op.call { callee := Go.Callee.value (Go.Operand.func 25), args := #[Go.Operand.tmp 13], argTypes := #[30] }, type := 4, pos := "rmsg.go:33", after := #[{ on := 0, ground := Go.Ground.data }], guard := none }) rfl (fun KK hK => ?_) AllReadyH.nil
    go_simp
    refine (hHd1 _).mono ?_
    rintro e w1 ⟨rfl, hb1⟩
    have hS7 := hst _ w1 (by first | exact hHeld.1 | exact hS0.1) hb1
    refine hK.out _ _ hS7 (fun hHeld2 => ?_)
    clear hK KK hHeld
    have hHeld := hHeld2
    clear hHeld2
    try simp only [Act.put, List.setIfInBounds_toArray, List.set_cons_zero, List.set_cons_succ]
    refine wpAnyH_take (i := 2) (oi := { dst := some 15, op := Go.Op.move (Go.Operand.tmp 14), type := 4, pos := "rmsg.go:33", after := #[{ on := 1, ground := Go.Ground.data }, { on := 1, ground := Go.Ground.chain }], guard := none }) (v := ?_) rfl (by kernel_rfl) (by kernel_rfl) (by kernel_rfl) (fun _ _ _ h => h) (Or.inl ⟨by rfl, ?_⟩) (by assumption) ?_
    rotate_left
    · ((intro w hSw; (try dsimp only at hSw); go_simp); (try with_reducible rfl))
    try simp only [Act.put, List.setIfInBounds_toArray, List.set_cons_zero, List.set_cons_succ]
    refine wpAnyH_take (i := 3) (oi := { dst := some 16, op := Go.Op.load 30 (Go.Operand.tmp 1), type := 30, pos := "rmsg.go:33", after := #[{ on := 2, ground := Go.Ground.guard }], guard := some (2, true) }) (v := ?_) rfl (by kernel_rfl) (by kernel_rfl) (by kernel_rfl) (fun _ _ _ h => h) (Or.inl ⟨by rfl, ?_⟩) (by assumption) ?_
    rotate_left
    · ((intro w hSw; (try dsimp only at hSw); go_simp); (try with_reducible rfl))
    try simp only [Act.put, List.setIfInBounds_toArray, List.set_cons_zero, List.set_cons_succ]
    refine wpAnyH_ready (rs := [4]) (by kernel_rfl) (by simp) ?_
    refine AllReadyH.cons (o := { dst := some 17, op := Go.Op.call { callee := Go.Callee.value (Go.Operand.func 26), args := #[Go.Operand.tmp 16], argTypes := #[30] }, type := 4, pos := "rmsg.go:33", after := #[{ on := 3, ground := Go.Ground.data }, { on := 2, ground := Go.Ground.chain }, { on := 2, ground := Go.Ground.guard }], guard := some (2, true) }) rfl (fun KK hK => ?_) AllReadyH.nil
    go_simp
    refine (hN _).mono ?_
    rintro e w4 ⟨rfl, hb4⟩
    have hS7 := hst _ w4 (by first | exact hHeld.1 | exact hS0.1) hb4
    refine hK.out _ _ hS7 (fun hHeld2 => ?_)
    clear hK KK hHeld
    have hHeld := hHeld2
    clear hHeld2
    try simp only [Act.put, List.setIfInBounds_toArray, List.set_cons_zero, List.set_cons_succ]
    refine wpAnyH_take (i := 5) (oi := { dst := some 18, op := Go.Op.pick (Go.Operand.tmp 15) (Go.Operand.tmp 17) (Go.Operand.const (Go.Value.bool false)), type := 4, pos := "rmsg.go:33", after := #[{ on := 2, ground := Go.Ground.data }, { on := 4, ground := Go.Ground.data }], guard := none }) (v := ?_) rfl (by kernel_rfl) (by kernel_rfl) (by kernel_rfl) (fun _ _ _ h => h) (Or.inl ⟨by rfl, ?_⟩) (by assumption) ?_
    rotate_left
    · ((intro w hSw; (try dsimp only at hSw); go_simp); (try with_reducible rfl))
    try simp only [Act.put, List.setIfInBounds_toArray, List.set_cons_zero, List.set_cons_succ]
    refine wpAnyH_take (i := 6) (oi := { dst := some 19, op := Go.Op.move (Go.Operand.tmp 18), type := 4, pos := "rmsg.go:33", after := #[{ on := 5, ground := Go.Ground.data }, { on := 4, ground := Go.Ground.chain }], guard := none }) (v := ?_) rfl (by kernel_rfl) (by kernel_rfl) (by kernel_rfl) (fun _ _ _ h => h) (Or.inl ⟨by rfl, ?_⟩) (by assumption) ?_
    rotate_left
    · ((intro w hSw; (try dsimp only at hSw); go_simp); (try with_reducible rfl))
    try simp only [Act.put, List.setIfInBounds_toArray, List.set_cons_zero, List.set_cons_succ]
    refine wpAnyH_take (i := 7) (oi := { dst := some 20, op := Go.Op.load 30 (Go.Operand.tmp 1), type := 30, pos := "rmsg.go:33", after := #[{ on := 6, ground := Go.Ground.guard }], guard := some (6, true) }) (v := ?_) rfl (by kernel_rfl) (by kernel_rfl) (by kernel_rfl) (fun _ _ _ h => h) (Or.inl ⟨by rfl, ?_⟩) (by assumption) ?_
    rotate_left
    · ((intro w hSw; (try dsimp only at hSw); go_simp); (try with_reducible rfl))
    try simp only [Act.put, List.setIfInBounds_toArray, List.set_cons_zero, List.set_cons_succ]
    refine wpAnyH_ready (rs := [8]) (by kernel_rfl) (by simp) ?_
    refine AllReadyH.cons (o := { dst := some 21, op := Go.Op.call { callee := Go.Callee.value (Go.Operand.func 27), args := #[Go.Operand.tmp 20], argTypes := #[30] }, type := 4, pos := "rmsg.go:33", after := #[{ on := 7, ground := Go.Ground.data }, { on := 6, ground := Go.Ground.chain }, { on := 6, ground := Go.Ground.guard }], guard := some (6, true) }) rfl (fun KK hK => ?_) AllReadyH.nil
    go_simp
    refine (hL _ (hup _ hHeld.1)).mono ?_
    rintro e w8 ⟨rfl, hb8⟩
    have hS7 := hst _ w8 (by first | exact hHeld.1 | exact hS0.1) hb8
    refine hK.out _ _ hS7 (fun hHeld2 => ?_)
    clear hK KK hHeld
    have hHeld := hHeld2
    clear hHeld2
    try simp only [Act.put, List.setIfInBounds_toArray, List.set_cons_zero, List.set_cons_succ]
    refine wpAnyH_take (i := 9) (oi := { dst := some 22, op := Go.Op.pick (Go.Operand.tmp 19) (Go.Operand.tmp 21) (Go.Operand.const (Go.Value.bool false)), type := 4, pos := "rmsg.go:33", after := #[{ on := 6, ground := Go.Ground.data }, { on := 8, ground := Go.Ground.data }], guard := none }) (v := ?_) rfl (by kernel_rfl) (by kernel_rfl) (by kernel_rfl) (fun _ _ _ h => h) (Or.inl ⟨by rfl, ?_⟩) (by assumption) ?_
    rotate_left
    · ((intro w hSw; (try dsimp only at hSw); go_simp); (try with_reducible rfl))
    try simp only [Act.put, List.setIfInBounds_toArray, List.set_cons_zero, List.set_cons_succ]
    refine wpAnyH_take (i := 10) (oi := { dst := some 23, op := Go.Op.move (Go.Operand.tmp 22), type := 4, pos := "rmsg.go:33", after := #[{ on := 9, ground := Go.Ground.data }, { on := 8, ground := Go.Ground.chain }], guard := none }) (v := ?_) rfl (by kernel_rfl) (by kernel_rfl) (by kernel_rfl) (fun _ _ _ h => h) (Or.inl ⟨by rfl, ?_⟩) (by assumption) ?_
    rotate_left
    · ((intro w hSw; (try dsimp only at hSw); go_simp); (try with_reducible rfl))
    try simp only [Act.put, List.setIfInBounds_toArray, List.set_cons_zero, List.set_cons_succ]
    refine wpAnyH_take (i := 11) (oi := { dst := some 24, op := Go.Op.load 30 (Go.Operand.tmp 1), type := 30, pos := "rmsg.go:33", after := #[{ on := 10, ground := Go.Ground.guard }], guard := some (10, true) }) (v := undef) rfl (by kernel_rfl) (by kernel_rfl) (by kernel_rfl) (fun _ _ _ h => h) (Or.inr ⟨by rfl, rfl⟩) (by assumption) ?_
    try simp only [Act.put, List.setIfInBounds_toArray, List.set_cons_zero, List.set_cons_succ]
    refine wpAnyH_take (i := 12) (oi := { dst := some 25, op := Go.Op.call { callee := Go.Callee.value (Go.Operand.func 28), args := #[Go.Operand.tmp 24], argTypes := #[30] }, type := 4, pos := "rmsg.go:33", after := #[{ on := 11, ground := Go.Ground.data }, { on := 10, ground := Go.Ground.chain }, { on := 10, ground := Go.Ground.guard }], guard := some (10, true) }) (v := undef) rfl (by kernel_rfl) (by kernel_rfl) (by kernel_rfl) (fun _ _ _ h => h) (Or.inr ⟨by rfl, rfl⟩) (by assumption) ?_
    try simp only [Act.put, List.setIfInBounds_toArray, List.set_cons_zero, List.set_cons_succ]
    refine wpAnyH_take (i := 13) (oi := { dst := some 26, op := Go.Op.pick (Go.Operand.tmp 23) (Go.Operand.tmp 25) (Go.Operand.const (Go.Value.bool false)), type := 4, pos := "rmsg.go:33", after := #[{ on := 10, ground := Go.Ground.data }, { on := 12, ground := Go.Ground.data }], guard := none }) (v := ?_) rfl (by kernel_rfl) (by kernel_rfl) (by kernel_rfl) (fun _ _ _ h => h) (Or.inl ⟨by rfl, ?_⟩) (by assumption) ?_
    rotate_left
    · ((intro w hSw; (try dsimp only at hSw); go_simp); (try with_reducible rfl))
    try simp only [Act.put, List.setIfInBounds_toArray, List.set_cons_zero, List.set_cons_succ]
    refine wpAnyH_take (i := 14) (oi := { dst := some 27, op := Go.Op.move (Go.Operand.tmp 26), type := 4, pos := "rmsg.go:33", after := #[{ on := 13, ground := Go.Ground.data }, { on := 12, ground := Go.Ground.chain }], guard := none }) (v := ?_) rfl (by kernel_rfl) (by kernel_rfl) (by kernel_rfl) (fun _ _ _ h => h) (Or.inl ⟨by rfl, ?_⟩) (by assumption) ?_
    rotate_left
    · ((intro w hSw; (try dsimp only at hSw); go_simp); (try with_reducible rfl))
    try simp only [Act.put, List.setIfInBounds_toArray, List.set_cons_zero, List.set_cons_succ]
    refine wpAnyH_take (i := 15) (oi := { dst := some 28, op := Go.Op.load 30 (Go.Operand.tmp 1), type := 30, pos := "rmsg.go:33", after := #[{ on := 14, ground := Go.Ground.guard }], guard := some (14, true) }) (v := undef) rfl (by kernel_rfl) (by kernel_rfl) (by kernel_rfl) (fun _ _ _ h => h) (Or.inr ⟨by rfl, rfl⟩) (by assumption) ?_
    try simp only [Act.put, List.setIfInBounds_toArray, List.set_cons_zero, List.set_cons_succ]
    refine wpAnyH_take (i := 16) (oi := { dst := some 29, op := Go.Op.call { callee := Go.Callee.value (Go.Operand.func 29), args := #[Go.Operand.tmp 28], argTypes := #[30] }, type := 30, pos := "rmsg.go:33", after := #[{ on := 15, ground := Go.Ground.data }, { on := 14, ground := Go.Ground.chain }, { on := 14, ground := Go.Ground.guard }], guard := some (14, true) }) (v := undef) rfl (by kernel_rfl) (by kernel_rfl) (by kernel_rfl) (fun _ _ _ h => h) (Or.inr ⟨by rfl, rfl⟩) (by assumption) ?_
    try simp only [Act.put, List.setIfInBounds_toArray, List.set_cons_zero, List.set_cons_succ]
    refine wpAnyH_take (i := 17) (oi := { dst := some 30, op := Go.Op.load 30 (Go.Operand.tmp 3), type := 30, pos := "rmsg.go:33", after := #[{ on := 14, ground := Go.Ground.guard }], guard := some (14, true) }) (v := undef) rfl (by kernel_rfl) (by kernel_rfl) (by kernel_rfl) (fun _ _ _ h => h) (Or.inr ⟨by rfl, rfl⟩) (by assumption) ?_
    try simp only [Act.put, List.setIfInBounds_toArray, List.set_cons_zero, List.set_cons_succ]
    refine wpAnyH_take (i := 18) (oi := { dst := some 31, op := Go.Op.call { callee := Go.Callee.value (Go.Operand.func 12), args := #[Go.Operand.tmp 29, Go.Operand.tmp 30], argTypes := #[30, 30] }, type := 4, pos := "rmsg.go:33", after := #[{ on := 16, ground := Go.Ground.data }, { on := 17, ground := Go.Ground.data }, { on := 16, ground := Go.Ground.chain }, { on := 14, ground := Go.Ground.guard }], guard := some (14, true) }) (v := undef) rfl (by kernel_rfl) (by kernel_rfl) (by kernel_rfl) (fun _ _ _ h => h) (Or.inr ⟨by rfl, rfl⟩) (by assumption) ?_
    try simp only [Act.put, List.setIfInBounds_toArray, List.set_cons_zero, List.set_cons_succ]
    refine wpAnyH_take (i := 19) (oi := { dst := some 32, op := Go.Op.pick (Go.Operand.tmp 27) (Go.Operand.tmp 31) (Go.Operand.const (Go.Value.bool false)), type := 4, pos := "rmsg.go:33", after := #[{ on := 14, ground := Go.Ground.data }, { on := 18, ground := Go.Ground.data }], guard := none }) (v := ?_) rfl (by kernel_rfl) (by kernel_rfl) (by kernel_rfl) (fun _ _ _ h => h) (Or.inl ⟨by rfl, ?_⟩) (by assumption) ?_
    rotate_left
    · ((intro w hSw; (try dsimp only at hSw); go_simp); (try with_reducible rfl))
    try simp only [Act.put, List.setIfInBounds_toArray, List.set_cons_zero, List.set_cons_succ]
    refine wpAnyH_take (i := 20) (oi := { dst := some 2, op := Go.Op.assign (Go.Operand.tmp 32), type := 4, pos := "rmsg.go:33", after := #[{ on := 19, ground := Go.Ground.data }, { on := 18, ground := Go.Ground.chain }, { on := 0, ground := Go.Ground.phase }, { on := 1, ground := Go.Ground.phase }, { on := 2, ground := Go.Ground.phase }, { on := 3, ground := Go.Ground.phase }, { on := 4, ground := Go.Ground.phase }, { on := 5, ground := Go.Ground.phase }, { on := 6, ground := Go.Ground.phase }, { on := 7, ground := Go.Ground.phase }, { on := 8, ground := Go.Ground.phase }, { on := 9, ground := Go.Ground.phase }, { on := 10, ground := Go.Ground.phase }, { on := 11, ground := Go.Ground.phase }, { on := 12, ground := Go.Ground.phase }, { on := 13, ground := Go.Ground.phase }, { on := 14, ground := Go.Ground.phase }, { on := 15, ground := Go.Ground.phase }, { on := 16, ground := Go.Ground.phase }, { on := 17, ground := Go.Ground.phase }, { on := 18, ground := Go.Ground.phase }, { on := 19, ground := Go.Ground.phase }], guard := none }) (v := ?_) rfl (by kernel_rfl) (by kernel_rfl) (by kernel_rfl) (fun _ _ _ h => h) (Or.inl ⟨by rfl, ?_⟩) (by assumption) ?_
    rotate_left
    · ((intro w hSw; (try dsimp only at hSw); go_simp); (try with_reducible rfl))
    try simp only [Act.put, List.setIfInBounds_toArray, List.set_cons_zero, List.set_cons_succ]
    refine wpAnyH_done (by kernel_rfl) ?_ _
    go_wp2
    go_ret
    exact ⟨rfl, by have hq := hup _ hHeld.1; rw [show w.heap.size = b1 from HB1] at hq; exact hq⟩
  cases z4
  case false =>
    obtain rfl : false = R := by rw [← hR]; simp
    go_enter Try.func10, Try.ntmps10
    go_upto_region 2 with fail
    rw [show ((w.alloc (.cells (mC k f o t i l c x b A es.length cA si st E sd.length cE) 30)).alloc (.cells (mC k f o t 0 0 0 0 false none 0 0 0 0 none 0 0) 30)) = w2 from HW2, show w.heap.size = b1 from HB1]
    refine wp_region_held_drew (S := (fun w' => Below w2.heap.size w2 w' ∧ (w'.cell? ⟨b1, 0, none⟩ = some (.int .i64 k) ∧ w'.cell? ⟨b1, 1, none⟩ = some (.int .i64 f) ∧ w'.cell? ⟨b1, 2, none⟩ = some (.int .i64 o) ∧ w'.cell? ⟨b1, 3, none⟩ = some (.int .i64 t) ∧ w'.cell? ⟨b1, 4, none⟩ = some (.int .i64 i) ∧ w'.cell? ⟨b1, 5, none⟩ = some (.int .i64 l) ∧ w'.cell? ⟨b1, 6, none⟩ = some (.int .i64 c) ∧ w'.cell? ⟨b1, 7, none⟩ = some (.int .i64 x) ∧ w'.cell? ⟨b1, 8, none⟩ = some (.bool b) ∧ w'.cell? ⟨b1, 9, none⟩ = some (.slice A es.length cA) ∧ w'.cell? ⟨b1, 10, none⟩ = some (.int .i64 si) ∧ w'.cell? ⟨b1, 11, none⟩ = some (.int .i64 st) ∧ w'.cell? ⟨b1, 12, none⟩ = some (.slice E sd.length cE)) ∧ (w'.cell? ⟨b1 + 1, 0, none⟩ = some (.int .i64 k) ∧ w'.cell? ⟨b1 + 1, 1, none⟩ = some (.int .i64 f) ∧ w'.cell? ⟨b1 + 1, 2, none⟩ = some (.int .i64 o) ∧ w'.cell? ⟨b1 + 1, 3, none⟩ = some (.int .i64 t) ∧ w'.cell? ⟨b1 + 1, 4, none⟩ = some (.int .i64 0) ∧ w'.cell? ⟨b1 + 1, 5, none⟩ = some (.int .i64 0) ∧ w'.cell? ⟨b1 + 1, 6, none⟩ = some (.int .i64 0) ∧ w'.cell? ⟨b1 + 1, 7, none⟩ = some (.int .i64 0) ∧ w'.cell? ⟨b1 + 1, 8, none⟩ = some (.bool false) ∧ w'.cell? ⟨b1 + 1, 9, none⟩ = some (.slice none 0 0) ∧ w'.cell? ⟨b1 + 1, 10, none⟩ = some (.int .i64 0) ∧ w'.cell? ⟨b1 + 1, 11, none⟩ = some (.int .i64 0) ∧ w'.cell? ⟨b1 + 1, 12, none⟩ = some (.slice none 0 0)))) (by kernel_rfl) hS0 (fun hHeld => ?_)
    change wpAnyH _ _ _ _ _ 21 #[false, false, false, false, false, false, false, false, false, false, false, false, false, false, false, false, false, false, false, false, false] _ _
    refine wpAnyH_take (i := 0) (oi := { dst := some 13, op := Go.Op.load 30 (Go.Operand.tmp 3), type := 30, pos := "rmsg.go:33", after := #[], guard := none }) (v := ?_) rfl (by kernel_rfl) (by kernel_rfl) (by kernel_rfl) (fun _ _ _ h => h) (Or.inl ⟨by rfl, ?_⟩) (by assumption) ?_
    rotate_left
    · ((intro w hSw; (try dsimp only at hSw); go_simp); (try with_reducible rfl))
    try simp only [Act.put, List.setIfInBounds_toArray, List.set_cons_zero, List.set_cons_succ]
    refine wpAnyH_ready (rs := [1]) (by kernel_rfl) (by simp) ?_
    refine AllReadyH.cons (o := { dst := some 14, op := Go.Op.call { callee := Go.Callee.value (Go.Operand.func 25), args := #[Go.Operand.tmp 13], argTypes := #[30] }, type := 4, pos := "rmsg.go:33", after := #[{ on := 0, ground := Go.Ground.data }], guard := none }) rfl (fun KK hK => ?_) AllReadyH.nil
    go_simp
    refine (hHd1 _).mono ?_
    rintro e w1 ⟨rfl, hb1⟩
    have hS7 := hst _ w1 (by first | exact hHeld.1 | exact hS0.1) hb1
    refine hK.out _ _ hS7 (fun hHeld2 => ?_)
    clear hK KK hHeld
    have hHeld := hHeld2
    clear hHeld2
    try simp only [Act.put, List.setIfInBounds_toArray, List.set_cons_zero, List.set_cons_succ]
    refine wpAnyH_take (i := 2) (oi := { dst := some 15, op := Go.Op.move (Go.Operand.tmp 14), type := 4, pos := "rmsg.go:33", after := #[{ on := 1, ground := Go.Ground.data }, { on := 1, ground := Go.Ground.chain }], guard := none }) (v := ?_) rfl (by kernel_rfl) (by kernel_rfl) (by kernel_rfl) (fun _ _ _ h => h) (Or.inl ⟨by rfl, ?_⟩) (by assumption) ?_
    rotate_left
    · ((intro w hSw; (try dsimp only at hSw); go_simp); (try with_reducible rfl))
    try simp only [Act.put, List.setIfInBounds_toArray, List.set_cons_zero, List.set_cons_succ]
    refine wpAnyH_take (i := 3) (oi := { dst := some 16, op := Go.Op.load 30 (Go.Operand.tmp 1), type := 30, pos := "rmsg.go:33", after := #[{ on := 2, ground := Go.Ground.guard }], guard := some (2, true) }) (v := ?_) rfl (by kernel_rfl) (by kernel_rfl) (by kernel_rfl) (fun _ _ _ h => h) (Or.inl ⟨by rfl, ?_⟩) (by assumption) ?_
    rotate_left
    · ((intro w hSw; (try dsimp only at hSw); go_simp); (try with_reducible rfl))
    try simp only [Act.put, List.setIfInBounds_toArray, List.set_cons_zero, List.set_cons_succ]
    refine wpAnyH_ready (rs := [4]) (by kernel_rfl) (by simp) ?_
    refine AllReadyH.cons (o := { dst := some 17, op := Go.Op.call { callee := Go.Callee.value (Go.Operand.func 26), args := #[Go.Operand.tmp 16], argTypes := #[30] }, type := 4, pos := "rmsg.go:33", after := #[{ on := 3, ground := Go.Ground.data }, { on := 2, ground := Go.Ground.chain }, { on := 2, ground := Go.Ground.guard }], guard := some (2, true) }) rfl (fun KK hK => ?_) AllReadyH.nil
    go_simp
    refine (hN _).mono ?_
    rintro e w4 ⟨rfl, hb4⟩
    have hS7 := hst _ w4 (by first | exact hHeld.1 | exact hS0.1) hb4
    refine hK.out _ _ hS7 (fun hHeld2 => ?_)
    clear hK KK hHeld
    have hHeld := hHeld2
    clear hHeld2
    try simp only [Act.put, List.setIfInBounds_toArray, List.set_cons_zero, List.set_cons_succ]
    refine wpAnyH_take (i := 5) (oi := { dst := some 18, op := Go.Op.pick (Go.Operand.tmp 15) (Go.Operand.tmp 17) (Go.Operand.const (Go.Value.bool false)), type := 4, pos := "rmsg.go:33", after := #[{ on := 2, ground := Go.Ground.data }, { on := 4, ground := Go.Ground.data }], guard := none }) (v := ?_) rfl (by kernel_rfl) (by kernel_rfl) (by kernel_rfl) (fun _ _ _ h => h) (Or.inl ⟨by rfl, ?_⟩) (by assumption) ?_
    rotate_left
    · ((intro w hSw; (try dsimp only at hSw); go_simp); (try with_reducible rfl))
    try simp only [Act.put, List.setIfInBounds_toArray, List.set_cons_zero, List.set_cons_succ]
    refine wpAnyH_take (i := 6) (oi := { dst := some 19, op := Go.Op.move (Go.Operand.tmp 18), type := 4, pos := "rmsg.go:33", after := #[{ on := 5, ground := Go.Ground.data }, { on := 4, ground := Go.Ground.chain }], guard := none }) (v := ?_) rfl (by kernel_rfl) (by kernel_rfl) (by kernel_rfl) (fun _ _ _ h => h) (Or.inl ⟨by rfl, ?_⟩) (by assumption) ?_
    rotate_left
    · ((intro w hSw; (try dsimp only at hSw); go_simp); (try with_reducible rfl))
    try simp only [Act.put, List.setIfInBounds_toArray, List.set_cons_zero, List.set_cons_succ]
    refine wpAnyH_take (i := 7) (oi := { dst := some 20, op := Go.Op.load 30 (Go.Operand.tmp 1), type := 30, pos := "rmsg.go:33", after := #[{ on := 6, ground := Go.Ground.guard }], guard := some (6, true) }) (v := ?_) rfl (by kernel_rfl) (by kernel_rfl) (by kernel_rfl) (fun _ _ _ h => h) (Or.inl ⟨by rfl, ?_⟩) (by assumption) ?_
    rotate_left
    · ((intro w hSw; (try dsimp only at hSw); go_simp); (try with_reducible rfl))
    try simp only [Act.put, List.setIfInBounds_toArray, List.set_cons_zero, List.set_cons_succ]
    refine wpAnyH_ready (rs := [8]) (by kernel_rfl) (by simp) ?_
    refine AllReadyH.cons (o := { dst := some 21, op := Go.Op.call { callee := Go.Callee.value (Go.Operand.func 27), args := #[Go.Operand.tmp 20], argTypes := #[30] }, type := 4, pos := "rmsg.go:33", after := #[{ on := 7, ground := Go.Ground.data }, { on := 6, ground := Go.Ground.chain }, { on := 6, ground := Go.Ground.guard }], guard := some (6, true) }) rfl (fun KK hK => ?_) AllReadyH.nil
    go_simp
    refine (hL _ (hup _ hHeld.1)).mono ?_
    rintro e w8 ⟨rfl, hb8⟩
    have hS7 := hst _ w8 (by first | exact hHeld.1 | exact hS0.1) hb8
    refine hK.out _ _ hS7 (fun hHeld2 => ?_)
    clear hK KK hHeld
    have hHeld := hHeld2
    clear hHeld2
    try simp only [Act.put, List.setIfInBounds_toArray, List.set_cons_zero, List.set_cons_succ]
    refine wpAnyH_take (i := 9) (oi := { dst := some 22, op := Go.Op.pick (Go.Operand.tmp 19) (Go.Operand.tmp 21) (Go.Operand.const (Go.Value.bool false)), type := 4, pos := "rmsg.go:33", after := #[{ on := 6, ground := Go.Ground.data }, { on := 8, ground := Go.Ground.data }], guard := none }) (v := ?_) rfl (by kernel_rfl) (by kernel_rfl) (by kernel_rfl) (fun _ _ _ h => h) (Or.inl ⟨by rfl, ?_⟩) (by assumption) ?_
    rotate_left
    · ((intro w hSw; (try dsimp only at hSw); go_simp); (try with_reducible rfl))
    try simp only [Act.put, List.setIfInBounds_toArray, List.set_cons_zero, List.set_cons_succ]
    refine wpAnyH_take (i := 10) (oi := { dst := some 23, op := Go.Op.move (Go.Operand.tmp 22), type := 4, pos := "rmsg.go:33", after := #[{ on := 9, ground := Go.Ground.data }, { on := 8, ground := Go.Ground.chain }], guard := none }) (v := ?_) rfl (by kernel_rfl) (by kernel_rfl) (by kernel_rfl) (fun _ _ _ h => h) (Or.inl ⟨by rfl, ?_⟩) (by assumption) ?_
    rotate_left
    · ((intro w hSw; (try dsimp only at hSw); go_simp); (try with_reducible rfl))
    try simp only [Act.put, List.setIfInBounds_toArray, List.set_cons_zero, List.set_cons_succ]
    refine wpAnyH_take (i := 11) (oi := { dst := some 24, op := Go.Op.load 30 (Go.Operand.tmp 1), type := 30, pos := "rmsg.go:33", after := #[{ on := 10, ground := Go.Ground.guard }], guard := some (10, true) }) (v := ?_) rfl (by kernel_rfl) (by kernel_rfl) (by kernel_rfl) (fun _ _ _ h => h) (Or.inl ⟨by rfl, ?_⟩) (by assumption) ?_
    rotate_left
    · ((intro w hSw; (try dsimp only at hSw); go_simp); (try with_reducible rfl))
    try simp only [Act.put, List.setIfInBounds_toArray, List.set_cons_zero, List.set_cons_succ]
    refine wpAnyH_ready (rs := [12]) (by kernel_rfl) (by simp) ?_
    refine AllReadyH.cons (o := { dst := some 25, op := Go.Op.call { callee := Go.Callee.value (Go.Operand.func 28), args := #[Go.Operand.tmp 24], argTypes := #[30] }, type := 4, pos := "rmsg.go:33", after := #[{ on := 11, ground := Go.Ground.data }, { on := 10, ground := Go.Ground.chain }, { on := 10, ground := Go.Ground.guard }], guard := some (10, true) }) rfl (fun KK hK => ?_) AllReadyH.nil
    go_simp
    refine (hSn _).mono ?_
    rintro e w12 ⟨rfl, hb12⟩
    have hS7 := hst _ w12 (by first | exact hHeld.1 | exact hS0.1) hb12
    refine hK.out _ _ hS7 (fun hHeld2 => ?_)
    clear hK KK hHeld
    have hHeld := hHeld2
    clear hHeld2
    try simp only [Act.put, List.setIfInBounds_toArray, List.set_cons_zero, List.set_cons_succ]
    refine wpAnyH_take (i := 13) (oi := { dst := some 26, op := Go.Op.pick (Go.Operand.tmp 23) (Go.Operand.tmp 25) (Go.Operand.const (Go.Value.bool false)), type := 4, pos := "rmsg.go:33", after := #[{ on := 10, ground := Go.Ground.data }, { on := 12, ground := Go.Ground.data }], guard := none }) (v := ?_) rfl (by kernel_rfl) (by kernel_rfl) (by kernel_rfl) (fun _ _ _ h => h) (Or.inl ⟨by rfl, ?_⟩) (by assumption) ?_
    rotate_left
    · ((intro w hSw; (try dsimp only at hSw); go_simp); (try with_reducible rfl))
    try simp only [Act.put, List.setIfInBounds_toArray, List.set_cons_zero, List.set_cons_succ]
    refine wpAnyH_take (i := 14) (oi := { dst := some 27, op := Go.Op.move (Go.Operand.tmp 26), type := 4, pos := "rmsg.go:33", after := #[{ on := 13, ground := Go.Ground.data }, { on := 12, ground := Go.Ground.chain }], guard := none }) (v := ?_) rfl (by kernel_rfl) (by kernel_rfl) (by kernel_rfl) (fun _ _ _ h => h) (Or.inl ⟨by rfl, ?_⟩) (by assumption) ?_
    rotate_left
    · ((intro w hSw; (try dsimp only at hSw); go_simp); (try with_reducible rfl))
    try simp only [Act.put, List.setIfInBounds_toArray, List.set_cons_zero, List.set_cons_succ]
    refine wpAnyH_take (i := 15) (oi := { dst := some 28, op := Go.Op.load 30 (Go.Operand.tmp 1), type := 30, pos := "rmsg.go:33", after := #[{ on := 14, ground := Go.Ground.guard }], guard := some (14, true) }) (v := undef) rfl (by kernel_rfl) (by kernel_rfl) (by kernel_rfl) (fun _ _ _ h => h) (Or.inr ⟨by rfl, rfl⟩) (by assumption) ?_
    try simp only [Act.put, List.setIfInBounds_toArray, List.set_cons_zero, List.set_cons_succ]
    refine wpAnyH_take (i := 16) (oi := { dst := some 29, op := Go.Op.call { callee := Go.Callee.value (Go.Operand.func 29), args := #[Go.Operand.tmp 28], argTypes := #[30] }, type := 30, pos := "rmsg.go:33", after := #[{ on := 15, ground := Go.Ground.data }, { on := 14, ground := Go.Ground.chain }, { on := 14, ground := Go.Ground.guard }], guard := some (14, true) }) (v := undef) rfl (by kernel_rfl) (by kernel_rfl) (by kernel_rfl) (fun _ _ _ h => h) (Or.inr ⟨by rfl, rfl⟩) (by assumption) ?_
    try simp only [Act.put, List.setIfInBounds_toArray, List.set_cons_zero, List.set_cons_succ]
    refine wpAnyH_take (i := 17) (oi := { dst := some 30, op := Go.Op.load 30 (Go.Operand.tmp 3), type := 30, pos := "rmsg.go:33", after := #[{ on := 14, ground := Go.Ground.guard }], guard := some (14, true) }) (v := undef) rfl (by kernel_rfl) (by kernel_rfl) (by kernel_rfl) (fun _ _ _ h => h) (Or.inr ⟨by rfl, rfl⟩) (by assumption) ?_
    try simp only [Act.put, List.setIfInBounds_toArray, List.set_cons_zero, List.set_cons_succ]
    refine wpAnyH_take (i := 18) (oi := { dst := some 31, op := Go.Op.call { callee := Go.Callee.value (Go.Operand.func 12), args := #[Go.Operand.tmp 29, Go.Operand.tmp 30], argTypes := #[30, 30] }, type := 4, pos := "rmsg.go:33", after := #[{ on := 16, ground := Go.Ground.data }, { on := 17, ground := Go.Ground.data }, { on := 16, ground := Go.Ground.chain }, { on := 14, ground := Go.Ground.guard }], guard := some (14, true) }) (v := undef) rfl (by kernel_rfl) (by kernel_rfl) (by kernel_rfl) (fun _ _ _ h => h) (Or.inr ⟨by rfl, rfl⟩) (by assumption) ?_
    try simp only [Act.put, List.setIfInBounds_toArray, List.set_cons_zero, List.set_cons_succ]
    refine wpAnyH_take (i := 19) (oi := { dst := some 32, op := Go.Op.pick (Go.Operand.tmp 27) (Go.Operand.tmp 31) (Go.Operand.const (Go.Value.bool false)), type := 4, pos := "rmsg.go:33", after := #[{ on := 14, ground := Go.Ground.data }, { on := 18, ground := Go.Ground.data }], guard := none }) (v := ?_) rfl (by kernel_rfl) (by kernel_rfl) (by kernel_rfl) (fun _ _ _ h => h) (Or.inl ⟨by rfl, ?_⟩) (by assumption) ?_
    rotate_left
    · ((intro w hSw; (try dsimp only at hSw); go_simp); (try with_reducible rfl))
    try simp only [Act.put, List.setIfInBounds_toArray, List.set_cons_zero, List.set_cons_succ]
    refine wpAnyH_take (i := 20) (oi := { dst := some 2, op := Go.Op.assign (Go.Operand.tmp 32), type := 4, pos := "rmsg.go:33", after := #[{ on := 19, ground := Go.Ground.data }, { on := 18, ground := Go.Ground.chain }, { on := 0, ground := Go.Ground.phase }, { on := 1, ground := Go.Ground.phase }, { on := 2, ground := Go.Ground.phase }, { on := 3, ground := Go.Ground.phase }, { on := 4, ground := Go.Ground.phase }, { on := 5, ground := Go.Ground.phase }, { on := 6, ground := Go.Ground.phase }, { on := 7, ground := Go.Ground.phase }, { on := 8, ground := Go.Ground.phase }, { on := 9, ground := Go.Ground.phase }, { on := 10, ground := Go.Ground.phase }, { on := 11, ground := Go.Ground.phase }, { on := 12, ground := Go.Ground.phase }, { on := 13, ground := Go.Ground.phase }, { on := 14, ground := Go.Ground.phase }, { on := 15, ground := Go.Ground.phase }, { on := 16, ground := Go.Ground.phase }, { on := 17, ground := Go.Ground.phase }, { on := 18, ground := Go.Ground.phase }, { on := 19, ground := Go.Ground.phase }], guard := none }) (v := ?_) rfl (by kernel_rfl) (by kernel_rfl) (by kernel_rfl) (fun _ _ _ h => h) (Or.inl ⟨by rfl, ?_⟩) (by assumption) ?_
    rotate_left
    · ((intro w hSw; (try dsimp only at hSw); go_simp); (try with_reducible rfl))
    try simp only [Act.put, List.setIfInBounds_toArray, List.set_cons_zero, List.set_cons_succ]
    refine wpAnyH_done (by kernel_rfl) ?_ _
    go_wp2
    go_ret
    exact ⟨rfl, by have hq := hup _ hHeld.1; rw [show w.heap.size = b1 from HB1] at hq; exact hq⟩
  obtain ⟨hk1, hk7⟩ := hk17 rfl
  obtain rfl : z5 = R := by rw [← hR]; simp
  go_enter Try.func10, Try.ntmps10
  go_upto_region 2 with fail
  rw [show ((w.alloc (.cells (mC k f o t i l c x b A es.length cA si st E sd.length cE) 30)).alloc (.cells (mC k f o t 0 0 0 0 false none 0 0 0 0 none 0 0) 30)) = w2 from HW2, show w.heap.size = b1 from HB1]
  refine wp_region_held_drew (S := (fun w' => Below w2.heap.size w2 w' ∧ (w'.cell? ⟨b1, 0, none⟩ = some (.int .i64 k) ∧ w'.cell? ⟨b1, 1, none⟩ = some (.int .i64 f) ∧ w'.cell? ⟨b1, 2, none⟩ = some (.int .i64 o) ∧ w'.cell? ⟨b1, 3, none⟩ = some (.int .i64 t) ∧ w'.cell? ⟨b1, 4, none⟩ = some (.int .i64 i) ∧ w'.cell? ⟨b1, 5, none⟩ = some (.int .i64 l) ∧ w'.cell? ⟨b1, 6, none⟩ = some (.int .i64 c) ∧ w'.cell? ⟨b1, 7, none⟩ = some (.int .i64 x) ∧ w'.cell? ⟨b1, 8, none⟩ = some (.bool b) ∧ w'.cell? ⟨b1, 9, none⟩ = some (.slice A es.length cA) ∧ w'.cell? ⟨b1, 10, none⟩ = some (.int .i64 si) ∧ w'.cell? ⟨b1, 11, none⟩ = some (.int .i64 st) ∧ w'.cell? ⟨b1, 12, none⟩ = some (.slice E sd.length cE)) ∧ (w'.cell? ⟨b1 + 1, 0, none⟩ = some (.int .i64 k) ∧ w'.cell? ⟨b1 + 1, 1, none⟩ = some (.int .i64 f) ∧ w'.cell? ⟨b1 + 1, 2, none⟩ = some (.int .i64 o) ∧ w'.cell? ⟨b1 + 1, 3, none⟩ = some (.int .i64 t) ∧ w'.cell? ⟨b1 + 1, 4, none⟩ = some (.int .i64 0) ∧ w'.cell? ⟨b1 + 1, 5, none⟩ = some (.int .i64 0) ∧ w'.cell? ⟨b1 + 1, 6, none⟩ = some (.int .i64 0) ∧ w'.cell? ⟨b1 + 1, 7, none⟩ = some (.int .i64 0) ∧ w'.cell? ⟨b1 + 1, 8, none⟩ = some (.bool false) ∧ w'.cell? ⟨b1 + 1, 9, none⟩ = some (.slice none 0 0) ∧ w'.cell? ⟨b1 + 1, 10, none⟩ = some (.int .i64 0) ∧ w'.cell? ⟨b1 + 1, 11, none⟩ = some (.int .i64 0) ∧ w'.cell? ⟨b1 + 1, 12, none⟩ = some (.slice none 0 0)))) (by kernel_rfl) hS0 (fun hHeld => ?_)
  change wpAnyH _ _ _ _ _ 21 #[false, false, false, false, false, false, false, false, false, false, false, false, false, false, false, false, false, false, false, false, false] _ _
  refine wpAnyH_take (i := 0) (oi := { dst := some 13, op := Go.Op.load 30 (Go.Operand.tmp 3), type := 30, pos := "rmsg.go:33", after := #[], guard := none }) (v := ?_) rfl (by kernel_rfl) (by kernel_rfl) (by kernel_rfl) (fun _ _ _ h => h) (Or.inl ⟨by rfl, ?_⟩) (by assumption) ?_
  rotate_left
  · ((intro w hSw; (try dsimp only at hSw); go_simp); (try with_reducible rfl))
  try simp only [Act.put, List.setIfInBounds_toArray, List.set_cons_zero, List.set_cons_succ]
  refine wpAnyH_ready (rs := [1]) (by kernel_rfl) (by simp) ?_
  refine AllReadyH.cons (o := { dst := some 14, op := Go.Op.call { callee := Go.Callee.value (Go.Operand.func 25), args := #[Go.Operand.tmp 13], argTypes := #[30] }, type := 4, pos := "rmsg.go:33", after := #[{ on := 0, ground := Go.Ground.data }], guard := none }) rfl (fun KK hK => ?_) AllReadyH.nil
  go_simp
  refine (hHd1 _).mono ?_
  rintro e w1 ⟨rfl, hb1⟩
  have hS7 := hst _ w1 (by first | exact hHeld.1 | exact hS0.1) hb1
  refine hK.out _ _ hS7 (fun hHeld2 => ?_)
  clear hK KK hHeld
  have hHeld := hHeld2
  clear hHeld2
  try simp only [Act.put, List.setIfInBounds_toArray, List.set_cons_zero, List.set_cons_succ]
  refine wpAnyH_take (i := 2) (oi := { dst := some 15, op := Go.Op.move (Go.Operand.tmp 14), type := 4, pos := "rmsg.go:33", after := #[{ on := 1, ground := Go.Ground.data }, { on := 1, ground := Go.Ground.chain }], guard := none }) (v := ?_) rfl (by kernel_rfl) (by kernel_rfl) (by kernel_rfl) (fun _ _ _ h => h) (Or.inl ⟨by rfl, ?_⟩) (by assumption) ?_
  rotate_left
  · ((intro w hSw; (try dsimp only at hSw); go_simp); (try with_reducible rfl))
  try simp only [Act.put, List.setIfInBounds_toArray, List.set_cons_zero, List.set_cons_succ]
  refine wpAnyH_take (i := 3) (oi := { dst := some 16, op := Go.Op.load 30 (Go.Operand.tmp 1), type := 30, pos := "rmsg.go:33", after := #[{ on := 2, ground := Go.Ground.guard }], guard := some (2, true) }) (v := ?_) rfl (by kernel_rfl) (by kernel_rfl) (by kernel_rfl) (fun _ _ _ h => h) (Or.inl ⟨by rfl, ?_⟩) (by assumption) ?_
  rotate_left
  · ((intro w hSw; (try dsimp only at hSw); go_simp); (try with_reducible rfl))
  try simp only [Act.put, List.setIfInBounds_toArray, List.set_cons_zero, List.set_cons_succ]
  refine wpAnyH_ready (rs := [4]) (by kernel_rfl) (by simp) ?_
  refine AllReadyH.cons (o := { dst := some 17, op := Go.Op.call { callee := Go.Callee.value (Go.Operand.func 26), args := #[Go.Operand.tmp 16], argTypes := #[30] }, type := 4, pos := "rmsg.go:33", after := #[{ on := 3, ground := Go.Ground.data }, { on := 2, ground := Go.Ground.chain }, { on := 2, ground := Go.Ground.guard }], guard := some (2, true) }) rfl (fun KK hK => ?_) AllReadyH.nil
  go_simp
  refine (hN _).mono ?_
  rintro e w4 ⟨rfl, hb4⟩
  have hS7 := hst _ w4 (by first | exact hHeld.1 | exact hS0.1) hb4
  refine hK.out _ _ hS7 (fun hHeld2 => ?_)
  clear hK KK hHeld
  have hHeld := hHeld2
  clear hHeld2
  try simp only [Act.put, List.setIfInBounds_toArray, List.set_cons_zero, List.set_cons_succ]
  refine wpAnyH_take (i := 5) (oi := { dst := some 18, op := Go.Op.pick (Go.Operand.tmp 15) (Go.Operand.tmp 17) (Go.Operand.const (Go.Value.bool false)), type := 4, pos := "rmsg.go:33", after := #[{ on := 2, ground := Go.Ground.data }, { on := 4, ground := Go.Ground.data }], guard := none }) (v := ?_) rfl (by kernel_rfl) (by kernel_rfl) (by kernel_rfl) (fun _ _ _ h => h) (Or.inl ⟨by rfl, ?_⟩) (by assumption) ?_
  rotate_left
  · ((intro w hSw; (try dsimp only at hSw); go_simp); (try with_reducible rfl))
  try simp only [Act.put, List.setIfInBounds_toArray, List.set_cons_zero, List.set_cons_succ]
  refine wpAnyH_take (i := 6) (oi := { dst := some 19, op := Go.Op.move (Go.Operand.tmp 18), type := 4, pos := "rmsg.go:33", after := #[{ on := 5, ground := Go.Ground.data }, { on := 4, ground := Go.Ground.chain }], guard := none }) (v := ?_) rfl (by kernel_rfl) (by kernel_rfl) (by kernel_rfl) (fun _ _ _ h => h) (Or.inl ⟨by rfl, ?_⟩) (by assumption) ?_
  rotate_left
  · ((intro w hSw; (try dsimp only at hSw); go_simp); (try with_reducible rfl))
  try simp only [Act.put, List.setIfInBounds_toArray, List.set_cons_zero, List.set_cons_succ]
  refine wpAnyH_take (i := 7) (oi := { dst := some 20, op := Go.Op.load 30 (Go.Operand.tmp 1), type := 30, pos := "rmsg.go:33", after := #[{ on := 6, ground := Go.Ground.guard }], guard := some (6, true) }) (v := ?_) rfl (by kernel_rfl) (by kernel_rfl) (by kernel_rfl) (fun _ _ _ h => h) (Or.inl ⟨by rfl, ?_⟩) (by assumption) ?_
  rotate_left
  · ((intro w hSw; (try dsimp only at hSw); go_simp); (try with_reducible rfl))
  try simp only [Act.put, List.setIfInBounds_toArray, List.set_cons_zero, List.set_cons_succ]
  refine wpAnyH_ready (rs := [8]) (by kernel_rfl) (by simp) ?_
  refine AllReadyH.cons (o := { dst := some 21, op := Go.Op.call { callee := Go.Callee.value (Go.Operand.func 27), args := #[Go.Operand.tmp 20], argTypes := #[30] }, type := 4, pos := "rmsg.go:33", after := #[{ on := 7, ground := Go.Ground.data }, { on := 6, ground := Go.Ground.chain }, { on := 6, ground := Go.Ground.guard }], guard := some (6, true) }) rfl (fun KK hK => ?_) AllReadyH.nil
  go_simp
  refine (hL _ (hup _ hHeld.1)).mono ?_
  rintro e w8 ⟨rfl, hb8⟩
  have hS7 := hst _ w8 (by first | exact hHeld.1 | exact hS0.1) hb8
  refine hK.out _ _ hS7 (fun hHeld2 => ?_)
  clear hK KK hHeld
  have hHeld := hHeld2
  clear hHeld2
  try simp only [Act.put, List.setIfInBounds_toArray, List.set_cons_zero, List.set_cons_succ]
  refine wpAnyH_take (i := 9) (oi := { dst := some 22, op := Go.Op.pick (Go.Operand.tmp 19) (Go.Operand.tmp 21) (Go.Operand.const (Go.Value.bool false)), type := 4, pos := "rmsg.go:33", after := #[{ on := 6, ground := Go.Ground.data }, { on := 8, ground := Go.Ground.data }], guard := none }) (v := ?_) rfl (by kernel_rfl) (by kernel_rfl) (by kernel_rfl) (fun _ _ _ h => h) (Or.inl ⟨by rfl, ?_⟩) (by assumption) ?_
  rotate_left
  · ((intro w hSw; (try dsimp only at hSw); go_simp); (try with_reducible rfl))
  try simp only [Act.put, List.setIfInBounds_toArray, List.set_cons_zero, List.set_cons_succ]
  refine wpAnyH_take (i := 10) (oi := { dst := some 23, op := Go.Op.move (Go.Operand.tmp 22), type := 4, pos := "rmsg.go:33", after := #[{ on := 9, ground := Go.Ground.data }, { on := 8, ground := Go.Ground.chain }], guard := none }) (v := ?_) rfl (by kernel_rfl) (by kernel_rfl) (by kernel_rfl) (fun _ _ _ h => h) (Or.inl ⟨by rfl, ?_⟩) (by assumption) ?_
  rotate_left
  · ((intro w hSw; (try dsimp only at hSw); go_simp); (try with_reducible rfl))
  try simp only [Act.put, List.setIfInBounds_toArray, List.set_cons_zero, List.set_cons_succ]
  refine wpAnyH_take (i := 11) (oi := { dst := some 24, op := Go.Op.load 30 (Go.Operand.tmp 1), type := 30, pos := "rmsg.go:33", after := #[{ on := 10, ground := Go.Ground.guard }], guard := some (10, true) }) (v := ?_) rfl (by kernel_rfl) (by kernel_rfl) (by kernel_rfl) (fun _ _ _ h => h) (Or.inl ⟨by rfl, ?_⟩) (by assumption) ?_
  rotate_left
  · ((intro w hSw; (try dsimp only at hSw); go_simp); (try with_reducible rfl))
  try simp only [Act.put, List.setIfInBounds_toArray, List.set_cons_zero, List.set_cons_succ]
  refine wpAnyH_ready (rs := [12]) (by kernel_rfl) (by simp) ?_
  refine AllReadyH.cons (o := { dst := some 25, op := Go.Op.call { callee := Go.Callee.value (Go.Operand.func 28), args := #[Go.Operand.tmp 24], argTypes := #[30] }, type := 4, pos := "rmsg.go:33", after := #[{ on := 11, ground := Go.Ground.data }, { on := 10, ground := Go.Ground.chain }, { on := 10, ground := Go.Ground.guard }], guard := some (10, true) }) rfl (fun KK hK => ?_) AllReadyH.nil
  go_simp
  refine (hSn _).mono ?_
  rintro e w12 ⟨rfl, hb12⟩
  have hS7 := hst _ w12 (by first | exact hHeld.1 | exact hS0.1) hb12
  refine hK.out _ _ hS7 (fun hHeld2 => ?_)
  clear hK KK hHeld
  have hHeld := hHeld2
  clear hHeld2
  try simp only [Act.put, List.setIfInBounds_toArray, List.set_cons_zero, List.set_cons_succ]
  refine wpAnyH_take (i := 13) (oi := { dst := some 26, op := Go.Op.pick (Go.Operand.tmp 23) (Go.Operand.tmp 25) (Go.Operand.const (Go.Value.bool false)), type := 4, pos := "rmsg.go:33", after := #[{ on := 10, ground := Go.Ground.data }, { on := 12, ground := Go.Ground.data }], guard := none }) (v := ?_) rfl (by kernel_rfl) (by kernel_rfl) (by kernel_rfl) (fun _ _ _ h => h) (Or.inl ⟨by rfl, ?_⟩) (by assumption) ?_
  rotate_left
  · ((intro w hSw; (try dsimp only at hSw); go_simp); (try with_reducible rfl))
  try simp only [Act.put, List.setIfInBounds_toArray, List.set_cons_zero, List.set_cons_succ]
  refine wpAnyH_take (i := 14) (oi := { dst := some 27, op := Go.Op.move (Go.Operand.tmp 26), type := 4, pos := "rmsg.go:33", after := #[{ on := 13, ground := Go.Ground.data }, { on := 12, ground := Go.Ground.chain }], guard := none }) (v := ?_) rfl (by kernel_rfl) (by kernel_rfl) (by kernel_rfl) (fun _ _ _ h => h) (Or.inl ⟨by rfl, ?_⟩) (by assumption) ?_
  rotate_left
  · ((intro w hSw; (try dsimp only at hSw); go_simp); (try with_reducible rfl))
  try simp only [Act.put, List.setIfInBounds_toArray, List.set_cons_zero, List.set_cons_succ]
  refine wpAnyH_take (i := 15) (oi := { dst := some 28, op := Go.Op.load 30 (Go.Operand.tmp 1), type := 30, pos := "rmsg.go:33", after := #[{ on := 14, ground := Go.Ground.guard }], guard := some (14, true) }) (v := ?_) rfl (by kernel_rfl) (by kernel_rfl) (by kernel_rfl) (fun _ _ _ h => h) (Or.inl ⟨by rfl, ?_⟩) (by assumption) ?_
  rotate_left
  · ((intro w hSw; (try dsimp only at hSw); go_simp); (try with_reducible rfl))
  try simp only [Act.put, List.setIfInBounds_toArray, List.set_cons_zero, List.set_cons_succ]
  refine wpAnyH_take (i := 17) (oi := { dst := some 30, op := Go.Op.load 30 (Go.Operand.tmp 3), type := 30, pos := "rmsg.go:33", after := #[{ on := 14, ground := Go.Ground.guard }], guard := some (14, true) }) (v := ?_) rfl (by kernel_rfl) (by kernel_rfl) (by kernel_rfl) (fun _ _ _ h => h) (Or.inl ⟨by rfl, ?_⟩) (by assumption) ?_
  rotate_left
  · ((intro w hSw; (try dsimp only at hSw); go_simp); (try with_reducible rfl))
  try simp only [Act.put, List.setIfInBounds_toArray, List.set_cons_zero, List.set_cons_succ]
  refine wpAnyH_ready (rs := [16]) (by kernel_rfl) (by simp) ?_
  refine AllReadyH.cons (o := { dst := some 29, op := Go.Op.call { callee := Go.Callee.value (Go.Operand.func 29), args := #[Go.Operand.tmp 28], argTypes := #[30] }, type := 30, pos := "rmsg.go:33", after := #[{ on := 15, ground := Go.Ground.data }, { on := 14, ground := Go.Ground.chain }, { on := 14, ground := Go.Ground.guard }], guard := some (14, true) }) rfl (fun KK hK => ?_) AllReadyH.nil
  go_simp
  refine (hBare _ hk1 hk7).mono ?_
  rintro e w16 ⟨A', cA', E', cE', rfl, hP, hb16⟩
  have hBm := hP w16 Z (hIn _ (hup _ (hHeld.1.trans (hb16.mono hHeld.1.size))))
  have hS7 := hst _ w16 (by first | exact hHeld.1 | exact hS0.1) hb16
  refine hK.out _ _ hS7 (fun hHeld2 => ?_)
  clear hK KK hHeld
  have hHeld := hHeld2
  clear hHeld2
  try simp only [Act.put, List.setIfInBounds_toArray, List.set_cons_zero, List.set_cons_succ]
  refine wpAnyH_ready (rs := [18]) (by kernel_rfl) (by simp) ?_
  refine AllReadyH.cons (o := { dst := some 31, op := Go.Op.call { callee := Go.Callee.value (Go.Operand.func 12), args := #[Go.Operand.tmp 29, Go.Operand.tmp 30], argTypes := #[30, 30] }, type := 4, pos := "rmsg.go:33", after := #[{ on := 16, ground := Go.Ground.data }, { on := 17, ground := Go.Ground.data }, { on := 16, ground := Go.Ground.chain }, { on := 14, ground := Go.Ground.guard }], guard := some (14, true) }) rfl (fun KK hK => ?_) AllReadyH.nil
  go_simp
  refine (hSame _ A' cA' E' cE' hBm).mono ?_
  rintro e w18 ⟨rfl, hb18⟩
  have hS7 := hst _ w18 (by first | exact hHeld.1 | exact hS0.1) hb18
  refine hK.out _ _ hS7 (fun hHeld2 => ?_)
  clear hK KK hHeld
  have hHeld := hHeld2
  clear hHeld2
  try simp only [Act.put, List.setIfInBounds_toArray, List.set_cons_zero, List.set_cons_succ]
  refine wpAnyH_take (i := 19) (oi := { dst := some 32, op := Go.Op.pick (Go.Operand.tmp 27) (Go.Operand.tmp 31) (Go.Operand.const (Go.Value.bool false)), type := 4, pos := "rmsg.go:33", after := #[{ on := 14, ground := Go.Ground.data }, { on := 18, ground := Go.Ground.data }], guard := none }) (v := ?_) rfl (by kernel_rfl) (by kernel_rfl) (by kernel_rfl) (fun _ _ _ h => h) (Or.inl ⟨by rfl, ?_⟩) (by assumption) ?_
  rotate_left
  · ((intro w hSw; (try dsimp only at hSw); go_simp); (try with_reducible rfl))
  try simp only [Act.put, List.setIfInBounds_toArray, List.set_cons_zero, List.set_cons_succ]
  refine wpAnyH_take (i := 20) (oi := { dst := some 2, op := Go.Op.assign (Go.Operand.tmp 32), type := 4, pos := "rmsg.go:33", after := #[{ on := 19, ground := Go.Ground.data }, { on := 18, ground := Go.Ground.chain }, { on := 0, ground := Go.Ground.phase }, { on := 1, ground := Go.Ground.phase }, { on := 2, ground := Go.Ground.phase }, { on := 3, ground := Go.Ground.phase }, { on := 4, ground := Go.Ground.phase }, { on := 5, ground := Go.Ground.phase }, { on := 6, ground := Go.Ground.phase }, { on := 7, ground := Go.Ground.phase }, { on := 8, ground := Go.Ground.phase }, { on := 9, ground := Go.Ground.phase }, { on := 10, ground := Go.Ground.phase }, { on := 11, ground := Go.Ground.phase }, { on := 12, ground := Go.Ground.phase }, { on := 13, ground := Go.Ground.phase }, { on := 14, ground := Go.Ground.phase }, { on := 15, ground := Go.Ground.phase }, { on := 16, ground := Go.Ground.phase }, { on := 17, ground := Go.Ground.phase }, { on := 18, ground := Go.Ground.phase }, { on := 19, ground := Go.Ground.phase }], guard := none }) (v := ?_) rfl (by kernel_rfl) (by kernel_rfl) (by kernel_rfl) (fun _ _ _ h => h) (Or.inl ⟨by rfl, ?_⟩) (by assumption) ?_
  rotate_left
  · ((intro w hSw; (try dsimp only at hSw); go_simp); (try with_reducible rfl))
  try simp only [Act.put, List.setIfInBounds_toArray, List.set_cons_zero, List.set_cons_succ]
  refine wpAnyH_done (by kernel_rfl) ?_ _
  go_wp2
  go_ret
  exact ⟨rfl, by have hq := hup _ hHeld.1; rw [show w.heap.size = b1 from HB1] at hq; exact hq⟩

end Go.Proofs.Ytlojjodgoeclfaa
