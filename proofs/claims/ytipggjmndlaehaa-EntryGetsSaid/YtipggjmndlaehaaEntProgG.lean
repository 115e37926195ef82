/- The program's GetHard, by its contract. -/
import Derived.Test.YtipggjmndlaehaaEntProgD
import Derived.Test.YtipggjmndlaehaaEntRefJ
namespace Go.Proofs.Ytipggjmndlaehaa
open Go.RowKit
set_option linter.unusedVariables false
set_option linter.unusedSimpArgs false

theorem Keeps.own2 {w w1 w2 : World} {Z : Nat → Prop} (h : Keeps Z w w1) (k : Keeps (fun k => k ≠ w.heap.size) w1 w2) : Keeps Z w w2 := h.own3 k

/-- A block of two of the call's own is stored anew, beside an In. -/
structure Set2 (w X : World) (b i : Nat) (s : St) (Z : Nat → Prop) (C : Array Value) (T : TypeId) : Prop where
  row : X.heap[b]? = some (.cells C T)
  inn : In X i s Z
  keeps : Keeps (fun k => k ≠ b) w X
  size : X.heap.size = w.heap.size

theorem Set2.fin {w : World} {b i : Nat} {s : St} {Z : Nat → Prop} {x0 x1 : Value} {T : TypeId} (y0 y1 : Value) (hib : i ≠ b) (hr : w.heap[b]? = some (.cells #[x0, x1] T)) (h : In w i s Z) (hzb : Z b) :
    Set2 w ((w.setCell ⟨b, 0, none⟩ y0).setCell ⟨b, 1, none⟩ y1) b i s Z #[y0, y1] T := by
  have hoff : ∀ k, k ≠ b → ((w.setCell ⟨b, 0, none⟩ y0).setCell ⟨b, 1, none⟩ y1).heap[k]? = w.heap[k]? := fun k hk =>
    (Below.heap_setCell _ _ _ _ (by exact hk)).trans (Below.heap_setCell _ _ _ _ (by exact hk))
  refine ⟨set2_at _ _ _ _ _ _ _ hr, h.keep (by simp) fun k _ hnz => hoff k fun e => hnz (e ▸ hzb), ?_, by simp⟩
  exact (keeps_setCell _ _ _ (by simp)).trans (keeps_setCell _ _ _ (by simp))

set_option maxRecDepth 100000 in
set_option maxHeartbeats 3200000 in
theorem getH_any (w : World) (i : Nat) (s : St) (Z : Nat → Prop) (h : In w i s Z) (hZ : ∀ k, w.heap.size ≤ k → Z k) :
    Calls Try.prog 27 #[.pointer (some ⟨i, 0, none⟩)] w fun e w' => e = .returned (.agg #[.int .i64 (hardFromN s).t, .int .i64 (hardFromN s).v]) ∧ In w' i (hardFromN s).s Z ∧ Keeps Z w w' := by
  have h1 := h.below ((Below.refl w.heap.size w).alloc (Nat.le_refl _) (.cells #[.int .i64 0, .int .i64 0] 24)) (Nat.le_refl _)
  have hr1 := heap_alloc_new w (.cells #[.int .i64 0, .int .i64 0] 24)
  have hk1 : Keeps Z w (w.alloc (.cells #[.int .i64 0, .int .i64 0] 24)) := keeps_alloc _ _
  have hzb : Z w.heap.size := hZ _ (Nat.le_refl _)
  have hib : i ≠ w.heap.size := Nat.ne_of_lt h.lt
  have hN1 := fun W hW => numIn_any W i s Z hW
  unfold hardFromN
  generalize numberN s 8 = t1 at *
  obtain ⟨n1, s1⟩ := t1
  dsimp only at *
  have hN2 := fun W hW => numIn_any W i s1 Z hW
  generalize numberN s1 8 = t2 at *
  obtain ⟨n2, ts⟩ := t2
  dsimp only at *
  rw [IntWalk.i64_left, IntWalk.i64_left] at *
  obtain ⟨R, hR⟩ : ∃ R : HardL, R = if ts = none then ⟨0, 0, none⟩ else if hardB (wrap64 (n1 : Int)) (wrap64 (n2 : Int)) = true then ⟨wrap64 (n1 : Int), wrap64 (n2 : Int), ts⟩ else ⟨0, 0, none⟩ := ⟨_, rfl⟩
  rw [← hR]
  generalize wrap64 (n1 : Int) = z1 at *
  generalize wrap64 (n2 : Int) = z2 at *
  clear h
  go_enter Try.func27, Try.ntmps27
  go_wp2_with fail
  refine (hN1 _ h1).mono ?_
  rintro e w0 ⟨rfl, h2, k2⟩
  have hr2 := (k2.block w.heap.size (hlt hr1) hzb).trans hr1
  have hkw0 := hk1.trans k2
  clear h1 hN1 hr1 k2 hk1
  go_wp2_with fail
  refine (hN2 _ h2).mono ?_
  rintro e w1 ⟨rfl, h2', k3⟩
  have hr2' := (k3.block w.heap.size (hlt hr2) hzb).trans hr2
  have hlb : w.heap.size < w1.heap.size := hlt hr2'
  have hkw1 := hkw0.trans k3
  have hZ1 : Z w1.heap.size := hZ _ (Nat.le_of_lt hlb)
  clear h2 hN2 hr2 k3 hkw0
  have hA1 := (Below.refl w1.heap.size w1).alloc (Nat.le_refl _) (.cells #[.int .i64 z1, .int .i64 z2] 24)
  have h3 := h2'.below hA1 (Nat.le_refl _)
  have hr3 := (hA1.block w.heap.size hlb).trans hr2'
  have hq3 := heap_alloc_new w1 (.cells #[.int .i64 z1, .int .i64 z2] 24)
  have hkw3 : Keeps Z w (w1.alloc (.cells #[.int .i64 z1, .int .i64 z2] 24)) := hkw1.trans (keeps_alloc _ _)
  clear h2' hA1 hr2' hkw1
  have hP := fun W => hardP_is z1 z2 W
  generalize hardB z1 z2 = r at *
  obtain ⟨⟨a0, a1⟩, _⟩ := row2 hq3
  go_wp2_with fail
  refine (hP _).mono ?_
  rintro e w2 ⟨rfl, hb2⟩
  have h4 := h3.below hb2 (Nat.le_refl _)
  have hr4 := (hb2.block _ (hlt hr3)).trans hr3
  have hq4 := (hb2.block _ (hlt hq3)).trans hq3
  have hkw4 : Keeps Z w w2 := hkw3.trans (keeps_below hb2 (Nat.le_refl _))
  clear h3 hr3 hq3 hkw3 hb2 a0 a1 hP
  have hS := sound_any r w2 i ts Z h4
  go_wp2_with fail
  refine hS.mono ?_
  rintro e w3 ⟨rfl, h5, k5⟩
  have hr5 := (k5.block _ (hlt hr4) hzb).trans hr4
  have hq5 := (k5.block _ (hlt hq4) hZ1).trans hq4
  have hkw5 : Keeps Z w w3 := hkw4.trans k5
  clear hS h4 hr4 hq4 hkw4 k5
  obtain ⟨⟨a0, a1⟩, ⟨f0, f1⟩⟩ := row2 hr5
  obtain ⟨⟨b0, b1⟩, _⟩ := row2 hq5
  by_cases hyes : r = true ∧ ∃ sl, ts = some sl
  · obtain ⟨rfl, sl, rfl⟩ := hyes
    rw [if_neg (by simp), if_pos rfl] at hR
    rw [if_pos rfl] at h5
    have hfin := Set2.fin (.int .i64 z1) (.int .i64 z2) hib hr5 h5 hzb
    have HR := Lib.hid hR
    clear hR hr5 hq5 h5
    simp only [Option.isSome, Bool.true_and] at *
    go_wp2
    generalize hX : (w3.setCell ⟨w.heap.size, 0, none⟩ (.int .i64 z1)).setCell ⟨w.heap.size, 1, none⟩ (.int .i64 z2) = X at *
    refine bodyPost_ret (res_cell (n := w.heap.size) rfl rfl hfin.row Try.underlying24 rfl (by kernel_rfl)) rfl ?_
    have e : R = _ := HR
    rw [e]
    exact ⟨rfl, hfin.inn, hkw5.own2 hfin.keeps⟩
  · have hno : (r && ts.isSome) = false := by
      cases r with
      | false => rfl
      | true =>
        cases ts with
        | none => rfl
        | some l => exact absurd ⟨rfl, l, rfl⟩ hyes
    have hRz : R = ⟨0, 0, none⟩ := by
      rw [hR]
      cases r with
      | false => split <;> rfl
      | true =>
        cases ts with
        | none => rfl
        | some l => exact absurd ⟨rfl, l, rfl⟩ hyes
    have hsz : (if r = true then ts else none) = none := by
      cases r with
      | false => rfl
      | true =>
        cases ts with
        | none => rfl
        | some l => exact absurd ⟨rfl, l, rfl⟩ hyes
    rw [hsz] at h5
    have hfin := Set2.fin (.int .i64 0) (.int .i64 0) hib hr5 h5 hzb
    have HR := Lib.hid hRz
    clear hR hr5 hq5 h5 hyes hsz hRz
    generalize (r && ts.isSome) = q at *
    subst hno
    go_wp2
    generalize hX : (w3.setCell ⟨w.heap.size, 0, none⟩ (.int .i64 0)).setCell ⟨w.heap.size, 1, none⟩ (.int .i64 0) = X at *
    refine bodyPost_ret (res_cell (n := w.heap.size) rfl rfl hfin.row Try.underlying24 rfl (by kernel_rfl)) rfl ?_
    have e : R = _ := HR
    rw [e]
    exact ⟨rfl, hfin.inn, hkw5.own2 hfin.keeps⟩

end Go.Proofs.Ytipggjmndlaehaa
