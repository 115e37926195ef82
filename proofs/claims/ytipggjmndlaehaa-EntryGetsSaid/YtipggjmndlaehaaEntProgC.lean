/- The program's PutHard, and sound, each by its contract. -/
import Derived.Test.YtipggjmndlaehaaEntProgB
import Derived.Test.YtipggjmndlaehaaOctInB
namespace Go.Proofs.Ytipggjmndlaehaa
open Go.RowKit
set_option linter.unusedVariables false
set_option linter.unusedSimpArgs false

/-- A block of two beside an Out, made zero. -/
structure Two1 (w X : World) (o b : Nat) (l : List UInt8) (T : TypeId) (Z : Nat → Prop) : Prop where
  out : Out X o l (fun k => Z k ∨ k = b)
  row : X.heap[b]? = some (.cells #[.int .i64 0, .int .i64 0] T)
  keeps : Keeps Z w X
  size : X.heap.size = w.heap.size

theorem Two1.zero {w : World} {o b : Nat} {l : List UInt8} {T : TypeId} {Z : Nat → Prop} {x0 x1 : Value} (hz : ¬ Z b) (h : Out w o l (fun k => Z k ∨ k = b)) (hr : w.heap[b]? = some (.cells #[x0, x1] T)) :
    Two1 w ((w.setCell ⟨b, 0, none⟩ (.int .i64 0)).setCell ⟨b, 1, none⟩ (.int .i64 0)) o b l T Z := by
  refine ⟨h.keep (by simp) fun k hk hnz => ?_, set2_at _ _ _ _ _ _ _ hr, (keeps_setCell _ _ _ hz).trans (keeps_setCell _ _ _ hz), by simp⟩
  have hne : k ≠ b := fun e => hnz (.inr e)
  exact (Below.heap_setCell _ _ _ _ (by exact hne)).trans (Below.heap_setCell _ _ _ _ (by exact hne))

theorem hard_zero : num8 0 ++ num8 0 = List.replicate 16 0 := by decide +kernel

/-- What is hard is put, once it is known. -/
def hardL (t v : Int) : List UInt8 := num8 t ++ num8 v
theorem hardBytes_of (t v : Int) : hardBytes t v = if hardB t v = true then hardL t v else hardL 0 0 := by
  unfold hardL
  rw [hard_zero]
  rfl

set_option maxHeartbeats 1000000 in
theorem putH_any (t v : Int) (w : World) (o : Nat) (l : List UInt8) (Z : Nat → Prop) (h : Out w o l Z) (hZ : ∀ k, Z k → k < w.heap.size) :
    Calls Try.prog 18 #[.pointer (some ⟨o, 0, none⟩), .agg #[.int .i64 t, .int .i64 v]] w fun e w' => e = .returned (.tuple #[]) ∧ Out w' o (l ++ hardBytes t v) Z ∧ Keeps Z w w' := by
  have h1 := h.box (.cells #[.int .i64 t, .int .i64 v] 24)
  have hZ1 := box_new hZ (.cells #[.int .i64 t, .int .i64 v] 24)
  have hr1 := heap_alloc_new w (.cells #[.int .i64 t, .int .i64 v] 24)
  have hs1 : w.heap.size < (w.alloc (.cells #[.int .i64 t, .int .i64 v] 24)).heap.size := by simp
  have hbx : Keeps Z w (w.alloc (.cells #[.int .i64 t, .int .i64 v] 24)) := keeps_alloc _ _
  have hzn : ¬ Z w.heap.size := fun hz => absurd (hZ _ hz) (by omega)
  have hR := fun W => hardP_is t v W
  rw [hardBytes_of]
  generalize hardB t v = r at *
  have e8 : ∀ z1 z2 : Int, (l ++ num8 z1) ++ num8 z2 = l ++ hardL z1 z2 := fun z1 z2 => by unfold hardL; simp
  clear h hZ
  cases r with
  | true =>
    rw [if_pos rfl]
    obtain ⟨⟨a0, a1⟩, _⟩ := row2 hr1
    go_enter Try.func18, Try.ntmps18
    go_wp2_with fail
    refine (hR _).mono ?_
    rintro e w1 ⟨rfl, hb1⟩
    have hr2 := (hb1.block w.heap.size hs1).trans hr1
    obtain ⟨⟨b0, b1⟩, ⟨f0, f1⟩⟩ := row2 hr2
    have h2 := h1.below hb1 (Nat.le_refl _)
    have hZ2 : ∀ k, (Z k ∨ k = w.heap.size) → k < w1.heap.size := fun k hk => Nat.lt_of_lt_of_le (hZ1 k hk) hb1.size
    have hk2 : Keeps Z w w1 := hbx.trans (keeps_below hb1 (Nat.le_refl _))
    clear a0 a1 hR h1 hZ1 hb1 hbx hr1 hs1
    go_wp2_with fail
    refine (num_any t _ rfl w1 o _ _ h2 hZ2).mono ?_
    rintro e w2 ⟨rfl, h3, k3⟩
    have h3' : Out w2 o (l ++ num8 t) (fun k => Z k ∨ k = w.heap.size) := h3
    have hr3 := (k3.block w.heap.size (hlt hr2) (.inr rfl)).trans hr2
    have hZ3 : ∀ k, (Z k ∨ k = w.heap.size) → k < w2.heap.size := fun k hk => Nat.lt_of_lt_of_le (hZ2 k hk) k3.size
    obtain ⟨⟨c0, c1⟩, _⟩ := row2 hr3
    clear b0 b1 f0 f1 h3
    go_wp2_with fail
    refine (num_any v _ rfl w2 o _ _ h3' hZ3).mono ?_
    rintro e w3 ⟨rfl, h4, k4⟩
    have h4' : Out w3 o ((l ++ num8 t) ++ num8 v) (fun k => Z k ∨ k = w.heap.size) := h4
    rw [e8] at h4'
    go_wp2
    refine bodyPost_end (results_none rfl _ _ _) rfl ?_
    exact ⟨rfl, h4'.un, hk2.trans ((k3.trans k4).mono fun k hk => .inl hk)⟩
  | false =>
    rw [if_neg (by simp)]
    obtain ⟨⟨a0, a1⟩, _⟩ := row2 hr1
    go_enter Try.func18, Try.ntmps18
    go_wp2_with fail
    refine (hR _).mono ?_
    rintro e w1 ⟨rfl, hb1⟩
    have hr2 := (hb1.block w.heap.size hs1).trans hr1
    obtain ⟨⟨b0, b1⟩, ⟨f0, f1⟩⟩ := row2 hr2
    have h2 := h1.below hb1 (Nat.le_refl _)
    have hZ2 : ∀ k, (Z k ∨ k = w.heap.size) → k < w1.heap.size := fun k hk => Nat.lt_of_lt_of_le (hZ1 k hk) hb1.size
    have hk2 : Keeps Z w w1 := hbx.trans (keeps_below hb1 (Nat.le_refl _))
    clear a0 a1 hR h1 hZ1 hb1 hbx hr1 hs1
    have h3 := Two1.zero (w := w1) hzn h2 hr2
    generalize hX : ((w1.setCell ⟨w.heap.size, 0, none⟩ (.int .i64 0)).setCell ⟨w.heap.size, 1, none⟩ (.int .i64 0)) = X at *
    obtain ⟨⟨c0, c1⟩, _⟩ := row2 h3.row
    have hr3 := h3.row
    have hkst := h3.keeps
    have hO3 := h3.out
    have hZ3 : ∀ k, (Z k ∨ k = w.heap.size) → k < X.heap.size := fun k hk => by rw [h3.size]; exact hZ2 k hk
    clear h3 h2
    go_wp2_with fail
    refine (num_any 0 _ rfl X o _ _ hO3 hZ3).mono ?_
    rintro e w2 ⟨rfl, h3, k3⟩
    have h3' : Out w2 o (l ++ num8 0) (fun k => Z k ∨ k = w.heap.size) := h3
    have hr4 := (k3.block w.heap.size (hlt hr3) (.inr rfl)).trans hr3
    have hZ4 : ∀ k, (Z k ∨ k = w.heap.size) → k < w2.heap.size := fun k hk => Nat.lt_of_lt_of_le (hZ3 k hk) k3.size
    obtain ⟨⟨d0, d1⟩, _⟩ := row2 hr4
    clear b0 b1 f0 f1 c0 c1 h3 hO3 hX
    go_wp2_with fail
    refine (num_any 0 _ rfl w2 o _ _ h3' hZ4).mono ?_
    rintro e w3 ⟨rfl, h4, k4⟩
    have h4' : Out w3 o ((l ++ num8 0) ++ num8 0) (fun k => Z k ∨ k = w.heap.size) := h4
    rw [e8] at h4'
    go_wp2
    refine bodyPost_end (results_none rfl _ _ _) rfl ?_
    exact ⟨rfl, h4'.un, (hk2.trans hkst).trans ((k3.trans k4).mono fun k hk => .inl hk)⟩

/-- Whether what was taken may be answered; if not, nothing is left. -/
theorem sound_any (b : Bool) (w : World) (i : Nat) (s : St) (Z : Nat → Prop) (h : In w i s Z) :
    Calls Try.prog 46 #[.pointer (some ⟨i, 0, none⟩), .bool b] w fun e w' => e = .returned (.bool (b && s.isSome)) ∧ In w' i (if b = true then s else none) Z ∧ Keeps Z w w' := by
  cases b with
  | true =>
    have hB := bad_any w i s Z h
    have hs : s.isSome = !s.isNone := by cases s <;> rfl
    rw [if_pos rfl, Bool.true_and, hs]
    clear hs
    generalize s.isNone = n at *
    go_enter Try.func46, Try.ntmps46
    go_wp2_with fail
    refine hB.mono ?_
    rintro e w1 ⟨rfl, rfl⟩
    go_wp2
    go_ret
    exact ⟨rfl, h, Keeps.refl _ _⟩
  | false =>
    rw [if_neg (by simp), Bool.false_and]
    have hF := fail_any w i s Z h
    go_enter Try.func46, Try.ntmps46
    go_wp2_with fail
    refine hF.mono ?_
    rintro e w1 ⟨rfl, h1, k1⟩
    have hB := bad_any w1 i none Z h1
    go_wp2_with fail
    refine hB.mono ?_
    rintro e w2 ⟨rfl, rfl⟩
    go_wp2
    go_ret
    exact ⟨rfl, h1, k1⟩

end Go.Proofs.Ytipggjmndlaehaa
