/- The program's placed, Right, RightHard, RightSnap, each by its contract. -/
import Derived.Test.YtlojjodgoeclfaaEntR1
import Derived.Test.YtlojjodgoeclfaaEntR2
import Derived.Test.YtlojjodgoeclfaaOctO
namespace Go.Proofs.Ytlojjodgoeclfaa
open Go.RowKit
set_option linter.unusedVariables false
set_option linter.unusedSimpArgs false

def placedB (i t : Int) : Bool := numB i && numB t

theorem rightB_placed (i t : Int) (n : Nat) : rightB i t n = (placedB i t && decide (n ≤ 12000)) := rfl

theorem placed_is (i t : Int) (w : World) : Calls Try.prog 79 #[.int .i64 i, .int .i64 t] w fun e w' => e = .returned (.bool (placedB i t)) ∧ w = w' := by
  unfold placedB numB
  by_cases h1 : 1 ≤ i
  · rw [decide_eq_true h1, Bool.true_and]
    by_cases h2 : i ≤ 1099511627776
    · rw [decide_eq_true h2, Bool.true_and]
      by_cases h3 : 1 ≤ t
      · rw [decide_eq_true h3, Bool.true_and]
        go_enter Try.func79, Try.ntmps79
        go_wp2
        go_ret
        exact ⟨rfl, rfl⟩
      · have e1 : decide (1 ≤ t) = false := decide_eq_false h3
        have e2 : (1 ≤ t) = False := eq_false h3
        rw [e1, Bool.false_and]
        clear h3
        go_enter Try.func79, Try.ntmps79
        go_wp2
        go_ret
        exact ⟨rfl, rfl⟩
    · have e1 : decide (i ≤ 1099511627776) = false := decide_eq_false h2
      have e2 : (i ≤ 1099511627776) = False := eq_false h2
      rw [e1, Bool.false_and]
      clear h2
      go_enter Try.func79, Try.ntmps79
      go_wp2
      go_ret
      exact ⟨rfl, rfl⟩
  · have e1 : decide (1 ≤ i) = false := decide_eq_false h1
    have e2 : (1 ≤ i) = False := eq_false h1
    rw [e1, Bool.false_and, Bool.false_and]
    clear h1
    go_enter Try.func79, Try.ntmps79
    go_wp2
    go_ret
    exact ⟨rfl, rfl⟩

theorem rightP_is (i t : Int) (A : Option Addr) (n c : Nat) (w : World) : Calls Try.prog 67 #[entV i t A n c] w fun e w' => e = .returned (.bool (rightB i t n)) ∧ Below w.heap.size w w' := by
  have hi := fun W => placed_is i t W
  have hb : Below w.heap.size w (w.alloc (.cells #[.int .i64 i, .int .i64 t, .slice A n c] 58)) := (Below.refl _ _).alloc (Nat.le_refl _) _
  rw [rightB_placed]
  generalize placedB i t = bi at *
  cases bi with
  | false =>
    go_enter Try.func67, Try.ntmps67
    go_wp2_with fail
    refine (hi _).mono ?_
    rintro e w1 ⟨rfl, rfl⟩
    go_wp2
    go_ret
    exact ⟨rfl, hb⟩
  | true =>
    go_enter Try.func67, Try.ntmps67
    go_wp2_with fail
    refine (hi _).mono ?_
    rintro e w1 ⟨rfl, rfl⟩
    go_wp2
    go_ret
    refine ⟨?_, hb⟩
    show Ending.returned (.bool (decide ((n : Int) ≤ 12000))) = _
    rw [le_lit n 12000 12000 rfl]
    rfl

theorem snapP_is (i t : Int) (A : Option Addr) (n c : Nat) (w : World) : Calls Try.prog 60 #[entV i t A n c] w fun e w' => e = .returned (.bool (snapB i t n)) ∧ Below w.heap.size w w' := by
  have hi := fun W => placed_is i t W
  have hb : Below w.heap.size w (w.alloc (.cells #[.int .i64 i, .int .i64 t, .slice A n c] 25)) := (Below.refl _ _).alloc (Nat.le_refl _) _
  have hs : snapB i t n = if i = 0 ∧ t = 0 then decide (n = 0) else placedB i t && decide (n ≤ 50000) := rfl
  rw [hs]
  clear hs
  by_cases h0 : i = 0 ∧ t = 0
  · rw [if_pos h0]
    obtain ⟨rfl, rfl⟩ := h0
    clear hi
    go_enter Try.func60, Try.ntmps60
    go_wp2
    go_ret
    refine ⟨?_, hb⟩
    show Ending.returned (.bool ((n : Int) == 0)) = _
    rw [eq_zero]
  · rw [if_neg h0]
    generalize placedB i t = bi at *
    have hif : (i == 0) = false ∨ (i = 0 ∧ (t == 0) = false ∧ (t = 0) = False) := by
      by_cases h : i = 0
      · refine .inr ⟨h, ?_, eq_false fun e => h0 ⟨h, e⟩⟩
        exact beq_eq_false_iff_ne.2 fun e => h0 ⟨h, e⟩
      · exact .inl (beq_eq_false_iff_ne.2 h)
    clear h0
    rcases hif with hif | ⟨rfl, htf, htf2⟩
    all_goals
      cases bi
      · go_enter Try.func60, Try.ntmps60
        go_wp2_with fail
        refine (hi _).mono ?_
        rintro e w1 ⟨rfl, rfl⟩
        go_wp2
        go_ret
        exact ⟨rfl, hb⟩
      · go_enter Try.func60, Try.ntmps60
        go_wp2_with fail
        refine (hi _).mono ?_
        rintro e w1 ⟨rfl, rfl⟩
        go_wp2
        go_ret
        refine ⟨?_, hb⟩
        show Ending.returned (.bool (decide ((n : Int) ≤ 50000))) = _
        rw [le_lit n 50000 50000 rfl]
        rfl

end Go.Proofs.Ytlojjodgoeclfaa

namespace Go.Proofs.Ytlojjodgoeclfaa
open Go.RowKit
set_option linter.unusedVariables false
set_option linter.unusedSimpArgs false

/-- An Out beside a block of the call's own. -/
theorem Out.box {w : World} {o : Nat} {l : List UInt8} {Z : Nat → Prop} (h : Out w o l Z) (O : Obj) : Out (w.alloc O) o l (fun k => Z k ∨ k = w.heap.size) :=
  (h.out (fun k hk => hk.imp id fun e => Nat.le_of_eq e.symm)).below ((Below.refl w.heap.size w).alloc (Nat.le_refl _) O) (Nat.le_refl _)

theorem box_new {w : World} {Z : Nat → Prop} (hZ : ∀ k, Z k → k < w.heap.size) (O : Obj) : ∀ k, (Z k ∨ k = w.heap.size) → k < (w.alloc O).heap.size := by
  intro k hk
  rw [World.size_alloc]
  rcases hk with h | h
  · have := hZ k h; omega
  · omega

theorem Keeps.unbox {w w' : World} {Z : Nat → Prop} {O : Obj} (h : Keeps (fun k => Z k ∨ k = w.heap.size) (w.alloc O) w') : Keeps Z w w' :=
  (keeps_alloc w O).trans (h.mono fun k hk => .inl hk)

theorem Out.un {w : World} {o n : Nat} {l : List UInt8} {Z : Nat → Prop} (h : Out w o l (fun k => Z k ∨ k = n)) : Out w o l Z := h.out fun k hk => .inl (.inl hk)

theorem in_new {Z : Nat → Prop} {A : Option Addr} {n : Nat} (h : 0 < n → ∀ g off, A = some ⟨g, off, none⟩ → Z g) (m : Nat) : 0 < n → ∀ g off, A = some ⟨g, off, none⟩ → (Z g ∨ g = m) :=
  fun h0 g off e => .inl (h h0 g off e)

set_option maxHeartbeats 1000000 in
theorem put3_any (i t : Int) (A : Option Addr) (n c : Nat) (d : List UInt8) (w : World) (o : Nat) (l : List UInt8) (Z : Nat → Prop) (h : Out w o l Z) (hZ : ∀ k, Z k → k < w.heap.size) (hn : n ≤ 1099511627776)
    (hd : Lies w A n c d) (hdz : 0 < n → ∀ g off, A = some ⟨g, off, none⟩ → Z g) :
    Calls Try.prog 68 #[.pointer (some ⟨o, 0, none⟩), entV i t A n c] w fun e w' => e = .returned (.tuple #[]) ∧ Out w' o (l ++ threeL i t d) Z ∧ Keeps Z w w' := by
  have h1 := h.box (.cells #[.int .i64 i, .int .i64 t, .slice A n c] 58)
  have hZ1 := box_new hZ (.cells #[.int .i64 i, .int .i64 t, .slice A n c] 58)
  have hd1 := hd.below ((Below.refl w.heap.size w).alloc (Nat.le_refl _) (.cells #[.int .i64 i, .int .i64 t, .slice A n c] 58)) (Nat.le_refl _)
  have hdz1 := in_new hdz w.heap.size
  have hr1 := heap_alloc_new w (.cells #[.int .i64 i, .int .i64 t, .slice A n c] 58)
  have hs1 : w.heap.size < (w.alloc (.cells #[.int .i64 i, .int .i64 t, .slice A n c] 58)).heap.size := by simp
  have hfin : ∀ w', Keeps (fun k => Z k ∨ k = w.heap.size) (w.alloc (.cells #[.int .i64 i, .int .i64 t, .slice A n c] 58)) w' → Keeps Z w w' := fun w' hk => hk.unbox
  have e8 : ∀ L : List UInt8, ((L ++ num8 i) ++ num8 t) ++ textOf d = L ++ threeL i t d := fun L => by unfold threeL; simp
  clear h hd hdz hZ
  go_enter Try.func68, Try.ntmps68
  obtain ⟨⟨a0, a1, a2⟩, _⟩ := row3 hr1
  go_wp2_with fail
  refine (num_any i _ rfl _ o l _ h1 hZ1).mono ?_
  rintro e w1 ⟨rfl, h2, k2⟩
  have h2' : Out w1 o (l ++ num8 i) (fun k => Z k ∨ k = w.heap.size) := h2
  have hr2 := (k2.block w.heap.size hs1 (.inr rfl)).trans hr1
  have hZ2 : ∀ k, (Z k ∨ k = w.heap.size) → k < w1.heap.size := fun k hk => Nat.lt_of_lt_of_le (hZ1 k hk) k2.size
  have hd2 := hd1.keeps k2 hdz1
  obtain ⟨⟨b0, b1, b2⟩, _⟩ := row3 hr2
  clear a0 a1 a2 h1 h2 hd1
  go_wp2_with fail
  refine (num_any t _ rfl w1 o _ _ h2' hZ2).mono ?_
  rintro e w2 ⟨rfl, h3, k3⟩
  have h3' : Out w2 o ((l ++ num8 i) ++ num8 t) (fun k => Z k ∨ k = w.heap.size) := h3
  have hr3 := (k3.block w.heap.size (hlt hr2) (.inr rfl)).trans hr2
  have hZ3 : ∀ k, (Z k ∨ k = w.heap.size) → k < w2.heap.size := fun k hk => Nat.lt_of_lt_of_le (hZ2 k hk) k3.size
  have hd3 := hd2.keeps k3 hdz1
  obtain ⟨⟨c0, c1, c2⟩, _⟩ := row3 hr3
  clear b0 b1 b2 h2' h3 hd2
  go_wp2_with fail
  refine (bytes_any A n c d hn w2 o _ _ h3' hZ3 hd3 hdz1).mono ?_
  rintro e w3 ⟨rfl, h4, k4⟩
  go_wp2
  refine bodyPost_end (results_none rfl _ _ _) rfl ?_
  rw [e8 l] at h4
  exact ⟨rfl, h4.un, hfin _ ((k2.trans k3).trans k4)⟩

/-- A block of three beside an Out, made zero. -/
structure Three1 (w X : World) (o b : Nat) (l : List UInt8) (T : TypeId) (Z : Nat → Prop) : Prop where
  out : Out X o l (fun k => Z k ∨ k = b)
  row : X.heap[b]? = some (.cells #[.int .i64 0, .int .i64 0, .slice none 0 0] T)
  keeps : Keeps Z w X
  size : X.heap.size = w.heap.size

theorem Three1.zero {w : World} {o b : Nat} {l : List UInt8} {T : TypeId} {Z : Nat → Prop} {x0 x1 x2 : Value} (hz : ¬ Z b) (h : Out w o l (fun k => Z k ∨ k = b)) (hr : w.heap[b]? = some (.cells #[x0, x1, x2] T)) :
    Three1 w (((w.setCell ⟨b, 0, none⟩ (.int .i64 0)).setCell ⟨b, 1, none⟩ (.int .i64 0)).setCell ⟨b, 2, none⟩ (.slice none 0 0)) o b l T Z := by
  refine ⟨h.keep (by simp) fun k hk hnz => ?_, set3_at _ _ _ _ _ _ _ _ _ hr, ((keeps_setCell _ _ _ hz).trans (keeps_setCell _ _ _ hz)).trans (keeps_setCell _ _ _ hz), by simp⟩
  have hne : k ≠ b := fun e => hnz (.inr e)
  exact (Below.heap_setCell _ _ _ _ (by exact hne)).trans ((Below.heap_setCell _ _ _ _ (by exact hne)).trans (Below.heap_setCell _ _ _ _ (by exact hne)))

theorem three_zero : threeL 0 0 [] = List.replicate 20 0 := by decide +kernel

theorem entBytes_of (i t : Int) (d : List UInt8) : entBytes i t d = if rightB i t d.length = true then threeL i t d else threeL 0 0 [] := by rw [three_zero]; rfl
theorem snapBytes_of (i t : Int) (d : List UInt8) : snapBytes i t d = if snapB i t d.length = true then threeL i t d else threeL 0 0 [] := by rw [three_zero]; rfl

set_option maxHeartbeats 1000000 in
theorem putE_any (i t : Int) (A : Option Addr) (n c : Nat) (d : List UInt8) (w : World) (o : Nat) (l : List UInt8) (Z : Nat → Prop) (h : Out w o l Z) (hZ : ∀ k, Z k → k < w.heap.size) (hn : n ≤ 1099511627776)
    (hd : Lies w A n c d) (hdz : 0 < n → ∀ g off, A = some ⟨g, off, none⟩ → Z g) :
    Calls Try.prog 41 #[.pointer (some ⟨o, 0, none⟩), entV i t A n c] w fun e w' => e = .returned (.tuple #[]) ∧ Out w' o (l ++ entBytes i t d) Z ∧ Keeps Z w w' := by
  have h1 := h.box (.cells #[.int .i64 i, .int .i64 t, .slice A n c] 58)
  have hZ1 := box_new hZ (.cells #[.int .i64 i, .int .i64 t, .slice A n c] 58)
  have hd1 := hd.below ((Below.refl w.heap.size w).alloc (Nat.le_refl _) (.cells #[.int .i64 i, .int .i64 t, .slice A n c] 58)) (Nat.le_refl _)
  have hdz1 := in_new hdz w.heap.size
  have hr1 := heap_alloc_new w (.cells #[.int .i64 i, .int .i64 t, .slice A n c] 58)
  have hs1 : w.heap.size < (w.alloc (.cells #[.int .i64 i, .int .i64 t, .slice A n c] 58)).heap.size := by simp
  have hfin : ∀ w', Keeps (fun k => Z k) w w' → Keeps Z w w' := fun w' hk => hk
  have hbx : Keeps Z w (w.alloc (.cells #[.int .i64 i, .int .i64 t, .slice A n c] 58)) := keeps_alloc _ _
  have hzn : ¬ Z w.heap.size := fun hz => absurd (hZ _ hz) (by omega)
  have hR := fun W => rightP_is i t A n c W
  have hdl := hd.1
  have e8 := entBytes_of i t d
  rw [hdl] at e8
  rw [e8]
  clear e8 h hd hdz hZ
  generalize rightB i t n = r at *
  have hP := fun W hO hZ2 hd2 hz2 => put3_any i t A n c d W o l (fun k => Z k ∨ k = w.heap.size) hO hZ2 hn hd2 hz2
  have hP0 := fun W hO hZ2 hd2 hz2 => put3_any 0 0 none 0 0 [] W o l (fun k => Z k ∨ k = w.heap.size) hO hZ2 (by omega) hd2 hz2
  generalize threeL i t d = T at *
  generalize threeL 0 0 [] = T0 at *
  go_enter Try.func41, Try.ntmps41
  obtain ⟨⟨a0, a1, a2⟩, _⟩ := row3 hr1
  cases r with
  | true =>
    rw [if_pos rfl]
    clear hP0
    go_wp2_with fail
    refine (hR _).mono ?_
    rintro e w1 ⟨rfl, hb1⟩
    have hr2 := (hb1.block w.heap.size hs1).trans hr1
    have hP := hP w1 (h1.below hb1 (Nat.le_refl _)) (fun k hk => Nat.lt_of_lt_of_le (hZ1 k hk) hb1.size) (hd1.below hb1 (Nat.le_refl _)) hdz1
    obtain ⟨⟨b0, b1, b2⟩, _⟩ := row3 hr2
    clear a0 a1 a2 hR
    go_wp2_with fail
    refine hP.mono ?_
    rintro e w2 ⟨rfl, h3, k3⟩
    go_wp2
    refine bodyPost_end (results_none rfl _ _ _) rfl ?_
    exact ⟨rfl, h3.un, (hbx.trans (keeps_below hb1 (Nat.le_refl _))).trans (k3.mono fun k hk => .inl hk)⟩
  | false =>
    rw [if_neg (by simp)]
    clear hP
    go_wp2_with fail
    refine (hR _).mono ?_
    rintro e w1 ⟨rfl, hb1⟩
    have hr2 := (hb1.block w.heap.size hs1).trans hr1
    obtain ⟨⟨b0, b1, b2⟩, ⟨f0, f1, f2⟩⟩ := row3 hr2
    have hz2 : ∀ k, Z k → k < w1.heap.size := fun k hk => Nat.lt_of_lt_of_le (hZ1 k (.inl hk)) hb1.size
    have h3 := Three1.zero (w := w1) hzn (h1.below hb1 (Nat.le_refl _)) hr2
    generalize hX : (((w1.setCell ⟨w.heap.size, 0, none⟩ (.int .i64 0)).setCell ⟨w.heap.size, 1, none⟩ (.int .i64 0)).setCell ⟨w.heap.size, 2, none⟩ (.slice none 0 0)) = X at *
    have hP0 := hP0 X h3.out (fun k hk => by rw [h3.size]; exact Nat.lt_of_lt_of_le (hZ1 k hk) hb1.size) (Lies.nil X) (fun h0 => absurd h0 (by omega))
    obtain ⟨⟨c0, c1, c2⟩, _⟩ := row3 h3.row
    have hkst := h3.keeps
    clear h3 a0 a1 a2 hR
    go_wp2_with fail
    refine hP0.mono ?_
    rintro e w2 ⟨rfl, h3, k3⟩
    go_wp2
    refine bodyPost_end (results_none rfl _ _ _) rfl ?_
    exact ⟨rfl, h3.un, ((hbx.trans (keeps_below hb1 (Nat.le_refl _))).trans hkst).trans (k3.mono fun k hk => .inl hk)⟩

set_option maxHeartbeats 1000000 in
theorem putS_any (i t : Int) (A : Option Addr) (n c : Nat) (d : List UInt8) (w : World) (o : Nat) (l : List UInt8) (Z : Nat → Prop) (h : Out w o l Z) (hZ : ∀ k, Z k → k < w.heap.size) (hn : n ≤ 1099511627776)
    (hd : Lies w A n c d) (hdz : 0 < n → ∀ g off, A = some ⟨g, off, none⟩ → Z g) :
    Calls Try.prog 42 #[.pointer (some ⟨o, 0, none⟩), entV i t A n c] w fun e w' => e = .returned (.tuple #[]) ∧ Out w' o (l ++ snapBytes i t d) Z ∧ Keeps Z w w' := by
  have h1 := h.box (.cells #[.int .i64 i, .int .i64 t, .slice A n c] 25)
  have hZ1 := box_new hZ (.cells #[.int .i64 i, .int .i64 t, .slice A n c] 25)
  have hd1 := hd.below ((Below.refl w.heap.size w).alloc (Nat.le_refl _) (.cells #[.int .i64 i, .int .i64 t, .slice A n c] 25)) (Nat.le_refl _)
  have hdz1 := in_new hdz w.heap.size
  have hr1 := heap_alloc_new w (.cells #[.int .i64 i, .int .i64 t, .slice A n c] 25)
  have hs1 : w.heap.size < (w.alloc (.cells #[.int .i64 i, .int .i64 t, .slice A n c] 25)).heap.size := by simp
  have hfin : ∀ w', Keeps (fun k => Z k) w w' → Keeps Z w w' := fun w' hk => hk
  have hbx : Keeps Z w (w.alloc (.cells #[.int .i64 i, .int .i64 t, .slice A n c] 25)) := keeps_alloc _ _
  have hzn : ¬ Z w.heap.size := fun hz => absurd (hZ _ hz) (by omega)
  have hR := fun W => snapP_is i t A n c W
  have hdl := hd.1
  have e8 := snapBytes_of i t d
  rw [hdl] at e8
  rw [e8]
  clear e8 h hd hdz hZ
  generalize snapB i t n = r at *
  have hP := fun W hO hZ2 hd2 hz2 => put3_any i t A n c d W o l (fun k => Z k ∨ k = w.heap.size) hO hZ2 hn hd2 hz2
  have hP0 := fun W hO hZ2 hd2 hz2 => put3_any 0 0 none 0 0 [] W o l (fun k => Z k ∨ k = w.heap.size) hO hZ2 (by omega) hd2 hz2
  generalize threeL i t d = T at *
  generalize threeL 0 0 [] = T0 at *
  go_enter Try.func42, Try.ntmps42
  obtain ⟨⟨a0, a1, a2⟩, _⟩ := row3 hr1
  cases r with
  | true =>
    rw [if_pos rfl]
    clear hP0
    go_wp2_with fail
    refine (hR _).mono ?_
    rintro e w1 ⟨rfl, hb1⟩
    have hr2 := (hb1.block w.heap.size hs1).trans hr1
    have hP := hP w1 (h1.below hb1 (Nat.le_refl _)) (fun k hk => Nat.lt_of_lt_of_le (hZ1 k hk) hb1.size) (hd1.below hb1 (Nat.le_refl _)) hdz1
    obtain ⟨⟨b0, b1, b2⟩, _⟩ := row3 hr2
    clear a0 a1 a2 hR
    go_wp2_with fail
    refine hP.mono ?_
    rintro e w2 ⟨rfl, h3, k3⟩
    go_wp2
    refine bodyPost_end (results_none rfl _ _ _) rfl ?_
    exact ⟨rfl, h3.un, (hbx.trans (keeps_below hb1 (Nat.le_refl _))).trans (k3.mono fun k hk => .inl hk)⟩
  | false =>
    rw [if_neg (by simp)]
    clear hP
    go_wp2_with fail
    refine (hR _).mono ?_
    rintro e w1 ⟨rfl, hb1⟩
    have hr2 := (hb1.block w.heap.size hs1).trans hr1
    obtain ⟨⟨b0, b1, b2⟩, ⟨f0, f1, f2⟩⟩ := row3 hr2
    have hz2 : ∀ k, Z k → k < w1.heap.size := fun k hk => Nat.lt_of_lt_of_le (hZ1 k (.inl hk)) hb1.size
    have h3 := Three1.zero (w := w1) hzn (h1.below hb1 (Nat.le_refl _)) hr2
    generalize hX : (((w1.setCell ⟨w.heap.size, 0, none⟩ (.int .i64 0)).setCell ⟨w.heap.size, 1, none⟩ (.int .i64 0)).setCell ⟨w.heap.size, 2, none⟩ (.slice none 0 0)) = X at *
    have hP0 := hP0 X h3.out (fun k hk => by rw [h3.size]; exact Nat.lt_of_lt_of_le (hZ1 k hk) hb1.size) (Lies.nil X) (fun h0 => absurd h0 (by omega))
    obtain ⟨⟨c0, c1, c2⟩, _⟩ := row3 h3.row
    have hkst := h3.keeps
    clear h3 a0 a1 a2 hR
    go_wp2_with fail
    refine hP0.mono ?_
    rintro e w2 ⟨rfl, h3, k3⟩
    go_wp2
    refine bodyPost_end (results_none rfl _ _ _) rfl ?_
    exact ⟨rfl, h3.un, ((hbx.trans (keeps_below hb1 (Nat.le_refl _))).trans hkst).trans (k3.mono fun k hk => .inl hk)⟩

end Go.Proofs.Ytlojjodgoeclfaa
