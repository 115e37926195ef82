/- What a Reset and a Saved do to a log, by the program and by the document. -/
import Derived.Test.YtlanjlboipnpfaaLogDoA
namespace Go.Proofs.Ytlanjlboipnpfaa
open Go.RowKit
set_option linter.unusedVariables false
set_option linter.unusedSimpArgs false

set_option maxRecDepth 100000 in
set_option maxHeartbeats 3200000 in
theorem do_reset {w : World} {p : Nat} {r : RL} {s : Nat} {ZL ZE : Nat → Prop} {A : Option Addr} {n c : Nat} (hL : Lg w p r s ZL) (hg : Good r) (hs : frel r s) (hE : Ents w ZE A n c r.l) (hZ : ∀ q, ZL q → q < w.heap.size) (hZE : ∀ q, ZE q → ZL q)
    (i t : Int) (D : Option Addr) (dn dc : Nat) (B : Option Addr) (m cB : Nat) :
    Calls Try.prog 12 #[ptrV p, lgV r A n c, .agg (actC 3 i t D dn dc B m cB)] w (DoPost w p r ZL ZE) := by
  obtain ⟨hu, hsz, hbx⟩ := boxed_all w (lgC r A n c) (actC 3 i t D dn dc B m cB)
  obtain ⟨⟨a0, a1, a2, a3, a4⟩, _⟩ := row5 hbx.act
  have hLu := lg_boxed hL hu
  have hEu := hE.below hu (Nat.le_refl _)
  have hR := fun W => baseR_is i t W
  cases ho : RL.base i t with
  | false =>
    have hP := resetP_no (w := (((w.alloc (.cells (lgC r A n c) 32)).alloc (.cells (actC 3 i t D dn dc B m cB) 39)).alloc (.cells zL 32))) (p := p) i t ho
    rw [ho] at hR
    clear hL hE ho
    go_enter Try.func12, Try.ntmps12
    go_wp2_with fail
    generalize (((w.alloc (.cells (lgC r A n c) 32)).alloc (.cells (actC 3 i t D dn dc B m cB) 39)).alloc (.cells zL 32)) = u at *
    refine hP.mono ?_
    rintro e w1 ⟨rfl, rfl⟩
    go_wp2_with fail
    refine (hR _).mono ?_
    rintro e w1 ⟨rfl, rfl⟩
    obtain ⟨⟨b0, b1, b2, b3⟩, _⟩ := row4 hbx.box
    obtain ⟨_, ⟨f0, f1, f2, f3⟩⟩ := row4 hbx.ans
    have hfin := set4_at _ (w.heap.size + 2) (.int .i64 r.i) (.int .i64 r.t) (.slice A n c) (.int .i64 r.f) _ _ _ _ _ hbx.ans
    have hend := do_end (r := r) hu hsz hZ hZE (Keeps.refl _ _) hLu hg hs (Below.refl _ _) (hEu.mono (Z' := fun q => ZE q ∨ u.heap.size ≤ q) fun q hq => .inl hq) (keeps_fill (.int .i64 r.i) (.int .i64 r.t) (.slice A n c) (.int .i64 r.f)) (by omega) _ rfl
    have HE := Lib.hid hend
    clear hend hLu hEu hR hP hbx hg hs hu a0 a1 a2 a3 a4
    go_wp2
    refine bodyPost_ret (res_cell_tmp' (n := w.heap.size + 2) rfl rfl hfin Try.underlying32 rfl (by kernel_rfl)) rfl ?_
    exact HE.out
  | true =>
    have hP := resetP_yes hLu i t ho
    rw [ho] at hR
    have hgt : Good ⟨i, t, [], 0⟩ := ⟨ho, rfl⟩
    clear hL hE ho hLu hEu
    go_enter Try.func12, Try.ntmps12
    go_wp2_with fail
    generalize (((w.alloc (.cells (lgC r A n c) 32)).alloc (.cells (actC 3 i t D dn dc B m cB) 39)).alloc (.cells zL 32)) = u at *
    refine hP.mono ?_
    rintro e w1 ⟨rfl, hL1, hk1⟩
    have hbx1 := hbx.keeps hk1 fun q h1 h2 => .inr ⟨h1, by omega⟩
    obtain ⟨⟨d0, d1, d2, d3, d4⟩, _⟩ := row5 hbx1.act
    obtain ⟨_, ⟨f0, f1, f2, f3⟩⟩ := row4 hbx1.ans
    clear hP hbx a0 a1 a2 a3 a4
    go_wp2_with fail
    refine (hR _).mono ?_
    rintro e w2 ⟨rfl, rfl⟩
    have hfin := set4_at _ (w.heap.size + 2) (.int .i64 i) (.int .i64 t) (.slice none 0 0) (.int .i64 0) _ _ _ _ _ hbx1.ans
    have hE1 : Ents w1 (fun q => ZE q ∨ w1.heap.size ≤ q) none 0 0 (⟨i, t, [], 0⟩ : RL).l := ⟨rfl, Nat.le_refl _, fun _ => rfl, fun h => absurd h (by simp)⟩
    have hend := do_end (r := r) hu hsz hZ hZE hk1 hL1 hgt (.inl ⟨rfl, rfl⟩) (Below.refl _ _) hE1 (keeps_fill (.int .i64 i) (.int .i64 t) (.slice none 0 0) (.int .i64 0)) (by show 0 ≤ _; omega) _ rfl
    have HE := Lib.hid hend
    clear hend hL1 hk1 hR hbx1 hgt hg hs hu hE1
    go_wp2
    refine bodyPost_ret (res_cell_tmp' (n := w.heap.size + 2) rfl rfl hfin Try.underlying32 rfl (by kernel_rfl)) rfl ?_
    exact HE.out

set_option maxRecDepth 100000 in
set_option maxHeartbeats 3200000 in
theorem do_saved {w : World} {p : Nat} {r : RL} {s : Nat} {ZL ZE : Nat → Prop} {A : Option Addr} {n c : Nat} (hL : Lg w p r s ZL) (hg : Good r) (hs : frel r s) (hE : Ents w ZE A n c r.l) (hZ : ∀ q, ZL q → q < w.heap.size) (hZE : ∀ q, ZE q → ZL q)
    (k i t : Int) (h0 : k ≠ 0) (h1 : k ≠ 1) (h2 : k ≠ 2) (h3 : k ≠ 3) (D : Option Addr) (dn dc : Nat) (B : Option Addr) (m cB : Nat) :
    Calls Try.prog 12 #[ptrV p, lgV r A n c, .agg (actC k i t D dn dc B m cB)] w (DoPost w p r ZL ZE) := by
  obtain ⟨hu, hsz, hbx⟩ := boxed_all w (lgC r A n c) (actC k i t D dn dc B m cB)
  obtain ⟨⟨a0, a1, a2, a3, a4⟩, _⟩ := row5 hbx.act
  have hLu := lg_boxed hL hu
  have hEu := hE.below hu (Nat.le_refl _)
  have hP := savedP_any hLu
  have hgt : Good ⟨r.i, r.t, r.l, 0⟩ := ⟨hg.base, hg.run⟩
  have k0 : (k == 0) = false := beq_eq_false_iff_ne.2 h0
  have k1 : (k == 1) = false := beq_eq_false_iff_ne.2 h1
  have k2 : (k == 2) = false := beq_eq_false_iff_ne.2 h2
  have k3 : (k == 3) = false := beq_eq_false_iff_ne.2 h3
  have j0 : (k = 0) = False := eq_false h0
  have j1 : (k = 1) = False := eq_false h1
  have j2 : (k = 2) = False := eq_false h2
  have j3 : (k = 3) = False := eq_false h3
  clear hL hE hLu h0 h1 h2 h3
  go_enter Try.func12, Try.ntmps12
  go_wp2_with fail
  generalize (((w.alloc (.cells (lgC r A n c) 32)).alloc (.cells (actC k i t D dn dc B m cB) 39)).alloc (.cells zL 32)) = u at *
  refine hP.mono ?_
  rintro e w1 ⟨rfl, hL1, hk1⟩
  have hbx1 := hbx.keeps hk1 fun q h1 h2 => .inr ⟨h1, by omega⟩
  have hE1 := (hEu.keep hk1.size fun q hq hz => hk1.block q hq (.inl (hZE q hz))).mono (Z' := fun q => ZE q ∨ w1.heap.size ≤ q) fun q hq => .inl hq
  obtain ⟨_, ⟨z0, z1, z2, z3⟩⟩ := row4 hbx1.box
  have hrow := set_fourth (e := .int .i64 0) hbx1.box
  have hans : (w1.setCell ⟨w.heap.size, 3, none⟩ (.int .i64 0)).heap[w.heap.size + 2]? = some (.cells zL 32) := (Below.heap_setCell _ _ _ _ (by show w.heap.size + 2 ≠ w.heap.size; omega)).trans hbx1.ans
  obtain ⟨⟨b0, b1, b2, b3⟩, _⟩ := row4 hrow
  obtain ⟨_, ⟨f0, f1, f2, f3⟩⟩ := row4 hans
  have hfin := set4_at _ (w.heap.size + 2) (.int .i64 r.i) (.int .i64 r.t) (.slice A n c) (.int .i64 0) _ _ _ _ _ hans
  have hend := do_end (r := r) hu hsz hZ hZE hk1 (hL1.same (r' := ⟨r.i, r.t, r.l, 0⟩) rfl rfl rfl) hgt (.inl ⟨rfl, rfl⟩) (Below.refl _ _) hE1 ((keeps_ans (.int .i64 0) 3 w.heap.size (Nat.le_refl _) (by omega)).trans (keeps_fill (.int .i64 r.i) (.int .i64 r.t) (.slice A n c) (.int .i64 0))) (by show r.l.length ≤ _; omega) _ rfl
  have HE := Lib.hid hend
  clear hend hL1 hk1 hP hbx1 hgt hg hs hu hE1 hEu hbx a0 a1 a2 a3 a4 hrow hans
  go_wp2
  refine bodyPost_ret (res_cell_tmp' (n := w.heap.size + 2) rfl rfl hfin Try.underlying32 rfl (by kernel_rfl)) rfl ?_
  exact HE.out

end Go.Proofs.Ytlanjlboipnpfaa
