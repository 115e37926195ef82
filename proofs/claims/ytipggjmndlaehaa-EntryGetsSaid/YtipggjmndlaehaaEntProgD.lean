/- The program's take, by its contract. -/
import Derived.Test.YtipggjmndlaehaaEntProgC
import Derived.Test.YtipggjmndlaehaaEntRefG
namespace Go.Proofs.Ytipggjmndlaehaa
open Go.RowKit
set_option linter.unusedVariables false
set_option linter.unusedSimpArgs false

theorem In.newer {w w' : World} {Z : Nat → Prop} (hZ : ∀ k, w.heap.size ≤ k → Z k) (hs : w.heap.size ≤ w'.heap.size) : ∀ k, w'.heap.size ≤ k → Z k := fun k hk => hZ k (Nat.le_trans hs hk)

theorem left_text (s : St) (m : Int) {b : Nat} (h : left s ≤ b) : left (textN s m).2 ≤ b := by
  have hc : left (countN s m).2 ≤ b := by
    unfold countN
    split
    · simp [left]
    · exact left_number s 4 h
  unfold textN
  generalize countN s m = t at hc
  obtain ⟨n, s'⟩ := t
  cases s' with
  | none => simp [takeN, left]
  | some l =>
    simp only [takeN]
    split
    · simp only [left, List.length_drop] at *
      omega
    · simp [left]

theorem Keeps.own3 {w w1 w2 : World} {Z : Nat → Prop} (h : Keeps Z w w1) (k : Keeps (fun k => k ≠ w.heap.size) w1 w2) : Keeps Z w w2 :=
  ⟨k.os.trans h.os, k.tape.trans h.tape, k.output.trans h.output, Nat.le_trans h.size k.size, fun j hj hz => (k.block j (Nat.lt_of_lt_of_le hj h.size) (Nat.ne_of_lt hj)).trans (h.block j hj hz)⟩

/-- A block of three of the call's own is stored anew, beside an In and bytes. -/
structure Set3 (w X : World) (b i : Nat) (s : St) (Z : Nat → Prop) (D : Option Addr) (n c : Nat) (d : List UInt8) (C : Array Value) (T : TypeId) : Prop where
  row : X.heap[b]? = some (.cells C T)
  inn : In X i s Z
  lies : Lies X D n c d
  keeps : Keeps (fun k => k ≠ b) w X
  size : X.heap.size = w.heap.size

theorem Set3.fin {w : World} {b i : Nat} {s : St} {Z : Nat → Prop} {D : Option Addr} {n c : Nat} {d : List UInt8} {x0 x1 x2 : Value} {T : TypeId} (y0 y1 y2 : Value) (hib : i ≠ b) (hr : w.heap[b]? = some (.cells #[x0, x1, x2] T)) (h : In w i s Z) (hzb : Z b)
    (hl : Lies w D n c d) (hD : 0 < n → ∀ g off, D = some ⟨g, off, none⟩ → b < g) :
    Set3 w (((w.setCell ⟨b, 0, none⟩ y0).setCell ⟨b, 1, none⟩ y1).setCell ⟨b, 2, none⟩ y2) b i s Z D n c d #[y0, y1, y2] T := by
  have hoff : ∀ k, k ≠ b → (((w.setCell ⟨b, 0, none⟩ y0).setCell ⟨b, 1, none⟩ y1).setCell ⟨b, 2, none⟩ y2).heap[k]? = w.heap[k]? := fun k hk =>
    (Below.heap_setCell _ _ _ _ (by exact hk)).trans ((Below.heap_setCell _ _ _ _ (by exact hk)).trans (Below.heap_setCell _ _ _ _ (by exact hk)))
  refine ⟨set3_at _ _ _ _ _ _ _ _ _ hr, h.keep (by simp) fun k _ hnz => hoff k fun e => hnz (e ▸ hzb), hl.keep (by simp) fun h0 g off e _ => hoff g fun e2 => ?_, ?_, by simp⟩
  · have := hD h0 g off e; omega
  · exact (((keeps_setCell _ _ _ (by simp)).trans (keeps_setCell _ _ _ (by simp))).trans (keeps_setCell _ _ _ (by simp)))

set_option maxRecDepth 100000 in
set_option maxHeartbeats 1600000 in
theorem take3_any (w : World) (i : Nat) (s : St) (Z : Nat → Prop) (most : Int) (hm : -9223372036854775808 ≤ most ∧ most ≤ 9223372036854775807) (h : In w i s Z) (hZ : ∀ k, w.heap.size ≤ k → Z k) (hL : left s ≤ 140737488355328) :
    Calls Try.prog 45 #[.pointer (some ⟨i, 0, none⟩), .int .i64 most] w fun e w' => ∃ D n c, e = .returned (entV (takenN s most).i (takenN s most).t D n c) ∧ Lies w' D n c (takenN s most).d ∧ (0 < n → ∀ g off, D = some ⟨g, off, none⟩ → w.heap.size ≤ g) ∧ In w' i (takenN s most).s Z ∧ Keeps Z w w' := by
  have h1 := h.below ((Below.refl w.heap.size w).alloc (Nat.le_refl _) (.cells #[.int .i64 0, .int .i64 0, .slice none 0 0] 31)) (Nat.le_refl _)
  have hr1 := heap_alloc_new w (.cells #[.int .i64 0, .int .i64 0, .slice none 0 0] 31)
  have hk1 : Keeps Z w (w.alloc (.cells #[.int .i64 0, .int .i64 0, .slice none 0 0] 31)) := keeps_alloc _ _
  have hs1 : w.heap.size < (w.alloc (.cells #[.int .i64 0, .int .i64 0, .slice none 0 0] 31)).heap.size := by simp
  have hzb : Z w.heap.size := hZ _ (Nat.le_refl _)
  have hib : i ≠ w.heap.size := Nat.ne_of_lt h.lt
  have hN1 := fun W hW => numIn_any W i s Z hW
  have hL1 := left_number s 8 hL
  unfold takenN
  generalize numberN s 8 = t1 at *
  obtain ⟨n1, s1⟩ := t1
  dsimp only at *
  have hN2 := fun W hW => numIn_any W i s1 Z hW
  have hL2 := left_number s1 8 hL1
  generalize numberN s1 8 = t2 at *
  obtain ⟨n2, s2⟩ := t2
  dsimp only at *
  have hT := fun W hW => bytesIn_any most hm W i s2 Z hW hL2
  generalize textN s2 most = t3 at *
  obtain ⟨d, s3⟩ := t3
  dsimp only at *
  rw [IntWalk.i64_left, IntWalk.i64_left] at *
  generalize wrap64 (n1 : Int) = z1 at *
  generalize wrap64 (n2 : Int) = z2 at *
  clear hL hL1 hL2 hm h
  go_enter Try.func45, Try.ntmps45
  go_wp2_with fail
  refine (hN1 _ h1).mono ?_
  rintro e w1 ⟨rfl, h2, k2⟩
  have hr2 := (k2.block w.heap.size hs1 hzb).trans hr1
  clear h1 hN1
  go_wp2_with fail
  refine (hN2 _ h2).mono ?_
  rintro e w2 ⟨rfl, h3, k3⟩
  have hr3 := (k3.block w.heap.size (hlt hr2) hzb).trans hr2
  clear h2 hN2
  go_wp2_with fail
  refine (hT _ h3).mono ?_
  rintro e w3 ⟨D, n, c, rfl, hl4, ho4, h4, k4⟩
  have hr4 := (k4.block w.heap.size (hlt hr3) hzb).trans hr3
  obtain ⟨⟨a0, a1, a2⟩, ⟨f0, f1, f2⟩⟩ := row3 hr4
  have hkw : Keeps Z w w3 := ((hk1.trans k2).trans k3).trans k4
  have hD2 : w.heap.size < w2.heap.size := hlt hr3
  have hDz : 0 < n → ∀ g off, D = some ⟨g, off, none⟩ → w.heap.size < g := fun h0 g off e => by
    subst e
    exact Nat.lt_of_lt_of_le hD2 (ho4.lt g rfl).1
  have hfin := Set3.fin (.int .i64 z1) (.int .i64 z2) (.slice D n c) hib hr4 h4 hzb hl4 hDz
  clear hT h3 k2 k3 k4 hk1 hr1 hr2 hr3 h4 hl4 ho4 hr4
  go_wp2
  generalize hX : ((w3.setCell ⟨w.heap.size, 0, none⟩ (.int .i64 z1)).setCell ⟨w.heap.size, 1, none⟩ (.int .i64 z2)).setCell ⟨w.heap.size, 2, none⟩ (.slice D n c) = X at *
  refine bodyPost_ret (res_cell (n := w.heap.size) rfl rfl hfin.row Try.underlying31 rfl (by kernel_rfl)) rfl ?_
  exact ⟨D, n, c, rfl, hfin.lies, fun h0 g off e => Nat.le_of_lt (hDz h0 g off e), hfin.inn, hkw.own3 hfin.keeps⟩

end Go.Proofs.Ytipggjmndlaehaa
