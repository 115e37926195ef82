/- The laws' own 'alike', by its contract. -/
import Derived.Test.YtjmcbnoofonanaaOctRefC
import Derived.Deep.RegionHeld3
import Derived.Deep.RegionWith
namespace Go.Proofs.Ytjmcbnoofonanaa
open Go.RowKit
set_option linter.unusedVariables false
set_option linter.unusedSimpArgs false

/-- What is left when something of this kind was asked for. -/
def nextOf (k most : Int) (s : St) : St :=
  if k = 0 then (numberN s 1).2 else if k = 1 then (flagN s).2 else if k = 2 then (countN s most).2 else if k = 3 then (numberN s 8).2 else if k = 4 then (textN s most).2 else if k = 5 then (textN s most).2 else none

theorem left_take (s : St) (n : Nat) {b : Nat} (h : left s ≤ b) : left (takeN s n).2 ≤ b := left_number s n h

theorem left_count (s : St) (m : Int) {b : Nat} (h : left s ≤ b) : left (countN s m).2 ≤ b := by
  unfold countN
  split
  · simp [left]
  · exact left_number s 4 h

theorem left_next (k most : Int) (s : St) {b : Nat} (h : left s ≤ b) : left (nextOf k most s) ≤ b := by
  unfold nextOf
  split
  · exact left_number s 1 h
  split
  · unfold flagN
    split
    · simp [left]
    · exact left_number s 1 h
  split
  · exact left_count s most h
  split
  · exact left_number s 8 h
  split
  · exact left_take _ _ (left_count s most h)
  split
  · exact left_take _ _ (left_count s most h)
  · simp [left]

theorem res_cell_tmp {fn : Func} {u p : Tmp} (h : fn.results = #[.cell p 40, .tmp u]) (tmps : Array Value) (W : World) (n : Nat) (x y : Value) (fr : Nat × Nat) (h1 : tmps.getD p undef = .pointer (some ⟨n, 0, none⟩))
    (hW : W.heap[n]? = some (.cells #[x, y] 40 fr)) : (results fn tmps).run Try.prog W = .ok (.tuple #[.agg #[x, y], tmps.getD u undef]) W := by
  rw [results_cell_tmp h, h1]
  simp [asAddr, run_loadVar_row W n 40 40 #[x, y] fr _ hW Try.underlying40 rfl (by kernel_rfl)]

theorem In.store {w : World} {i : Nat} {s : St} {Z : Nat → Prop} (h : In w i s Z) (a : Addr) (u : Value) (hz : Z a.block) : In (w.setCell a u) i s Z :=
  h.keep (by simp) fun k hk hnz => Below.heap_setCell _ _ _ _ fun e => hnz (e ▸ hz)

set_option maxRecDepth 100000 in
set_option maxHeartbeats 6400000 in
theorem alike_any (A : Option Addr) (cap : Nat) (s : St) (w : World) (i : Nat) (Z : Nat → Prop) (k most : Int) (hi : In w i s Z) (h : RLies w A cap s) (hZ : ∀ q, Z q → q < w.heap.size) (hL : left s ≤ 140737488355328) (hm : -9223372036854775808 ≤ most ∧ most ≤ 9223372036854775807) :
    Calls Try.prog 13 #[.pointer (some ⟨i, 0, none⟩), inv A cap s, .agg #[.int .u8 k, .int .i64 most]] w fun e w' => ∃ A' cap', e = .returned (.tuple #[inv A' cap' (nextOf k most s), .bool true]) ∧ (∀ w0, RLies w0 A cap s → RLies w0 A' cap' (nextOf k most s)) ∧ In w' i (nextOf k most s) Z ∧ Keeps Z w w' := by
  unfold nextOf
  by_cases k0 : k = 0
  · subst k0
    rw [if_pos rfl]
    have hb0 : Below w.heap.size w (((w.alloc (.cells #[.slice A (left s) cap, .bool s.isNone] 40)).alloc (.cells #[.int .u8 0, .int .i64 most] 44)).alloc (.cells #[.slice none 0 0, .bool false] 40)) := (((Below.refl _ _).alloc (Nat.le_refl _) _).alloc (by simp) _).alloc (by simp; omega) _
    have hs0 : w.heap.size + 3 = (((w.alloc (.cells #[.slice A (left s) cap, .bool s.isNone] 40)).alloc (.cells #[.int .u8 0, .int .i64 most] 44)).alloc (.cells #[.slice none 0 0, .bool false] 40)).heap.size := by simp
    have hi0 := (hi.out (Z' := fun q => Z q ∨ w.heap.size ≤ q) (fun q hq => hq)).below hb0 (Nat.le_refl _)
    have m0 : (((w.alloc (.cells #[.slice A (left s) cap, .bool s.isNone] 40)).alloc (.cells #[.int .u8 0, .int .i64 most] 44)).alloc (.cells #[.slice none 0 0, .bool false] 40)).heap[w.heap.size]? = some (.cells #[.slice A (left s) cap, .bool s.isNone] 40) := (Below.heap_alloc _ _ _ (by simp; omega)).trans (heap_alloc2_old _ _ _)
    have m1 : (((w.alloc (.cells #[.slice A (left s) cap, .bool s.isNone] 40)).alloc (.cells #[.int .u8 0, .int .i64 most] 44)).alloc (.cells #[.slice none 0 0, .bool false] 40)).heap[w.heap.size + 1]? = some (.cells #[.int .u8 0, .int .i64 most] 44) := (Below.heap_alloc _ _ _ (by simp)).trans (heap_alloc2_new _ _ _)
    have m2 : (((w.alloc (.cells #[.slice A (left s) cap, .bool s.isNone] 40)).alloc (.cells #[.int .u8 0, .int .i64 most] 44)).alloc (.cells #[.slice none 0 0, .bool false] 40)).heap[w.heap.size + 1 + 1]? = some (.cells #[.slice none 0 0, .bool false] 40) := by
      have := heap_alloc_new ((w.alloc (.cells #[.slice A (left s) cap, .bool s.isNone] 40)).alloc (.cells #[.int .u8 0, .int .i64 most] 44)) (.cells #[.slice none 0 0, .bool false] 40)
      simpa only [World.size_alloc] using this
    have hr0 := h.below hb0 (Nat.le_refl _)
    generalize hW : (((w.alloc (.cells #[.slice A (left s) cap, .bool s.isNone] 40)).alloc (.cells #[.int .u8 0, .int .i64 most] 44)).alloc (.cells #[.slice none 0 0, .bool false] 40)) = W at hb0 hs0 hi0 m0 m1 m2 hr0
    have f0 : W.cell? ⟨w.heap.size, 0, none⟩ = some (.slice A (left s) cap) := by simp [World.cell?, m0]
    have f1 : W.cell? ⟨w.heap.size, 1, none⟩ = some (.bool s.isNone) := by simp [World.cell?, m0]
    have f2 : W.cell? ⟨w.heap.size + 1, 0, none⟩ = some (.int .u8 0) := by simp [World.cell?, m1]
    have f3 : W.cell? ⟨w.heap.size + 1, 1, none⟩ = some (.int .i64 most) := by simp [World.cell?, m1]
    have hR := byteR_any A cap s _ hr0
    have hB := fun W1 h1 => byteIn_any W1 i s (fun q => Z q ∨ w.heap.size ≤ q) h1
    generalize numberN s 1 = t at hR hB ⊢
    obtain ⟨v, s'⟩ := t
    simp only [inv] at hR hB ⊢
    go_enter Try.func13, Try.ntmps13
    go_wp2_with (go_at_call 36; refine hR.mono ?_; rintro e w1 ⟨A', cap', rfl, hr, hb⟩)
    have hq : w.heap.size + 3 ≤ w1.heap.size := Nat.le_trans (Nat.le_of_eq hs0) hb.size
    have n1 : (w1.alloc (.cells #[.slice A' (left s') cap', .bool (Option.isNone s')] 40)).heap[w.heap.size + 1]? = some (.cells #[.int .u8 0, .int .i64 most] 44) := (Below.heap_alloc _ _ _ (by omega)).trans ((hb.block _ (hlt m1)).trans m1)
    have n2 : (w1.alloc (.cells #[.slice A' (left s') cap', .bool (Option.isNone s')] 40)).heap[w.heap.size + 1 + 1]? = some (.cells #[.slice none 0 0, .bool false] 40) := (Below.heap_alloc _ _ _ (by omega)).trans ((hb.block _ (hlt m2)).trans m2)
    have n3 : (w1.alloc (.cells #[.slice A' (left s') cap', .bool (Option.isNone s')] 40)).heap[w1.heap.size]? = some (.cells #[.slice A' (left s') cap', .bool (Option.isNone s')] 40) := heap_alloc_new _ _
    have hbX : Below w.heap.size w (w1.alloc (.cells #[.slice A' (left s') cap', .bool (Option.isNone s')] 40)) := (hb0.trans (hb.mono hb0.size)).alloc (by omega) _
    have hiX : In (w1.alloc (.cells #[.slice A' (left s') cap', .bool (Option.isNone s')] 40)) i s (fun q => Z q ∨ w.heap.size ≤ q) := (hi0.below hb (Nat.le_refl _)).below ((Below.refl w1.heap.size w1).alloc (Nat.le_refl _) _) (Nat.le_refl _)
    have hkX : Keeps Z w (w1.alloc (.cells #[.slice A' (left s') cap', .bool (Option.isNone s')] 40)) := keeps_below hbX (Nat.le_refl _)
    generalize (w1.alloc (.cells #[.slice A' (left s') cap', .bool (Option.isNone s')] 40)) = X at n1 n2 n3 hbX hiX hkX ⊢
    generalize w1.heap.size = qn at hq n3 ⊢
    clear hb hb0 hs0 hi0 m0 m1 m2 hr0 hW f0 f1 f2 f3
    have g0 : X.cell? ⟨qn, 0, none⟩ = some (.slice A' (left s') cap') := by simp [World.cell?, n3]
    have g1 : X.cell? ⟨qn, 1, none⟩ = some (.bool (Option.isNone s')) := by simp [World.cell?, n3]
    have g2 : X.cell? ⟨w.heap.size + 1, 1, none⟩ = some (.int .i64 most) := by simp [World.cell?, n1]
    go_region_held3 (fun w' => w'.cell? ⟨qn, 0, none⟩ = some (.slice A' (left s') cap') ∧ w'.cell? ⟨qn, 1, none⟩ = some (.bool (Option.isNone s')))
      (first | (go_keep; done) | exact ⟨p0, p1⟩ | ((try dsimp only); (repeat' apply And.intro) <;> (first | (go_keep; done) | ((repeat (refine (World.cell?_setCell_other _ _ _ _ (by intro e; injection e with e; omega)).trans ?_)); assumption))))
      ((go_at_call 18
        refine (hB _ (hiX.below ((Below.refl X.heap.size X).drew) (Nat.le_refl _))).mono ?_
        rintro e w7 ⟨rfl, h7, k7⟩
        have p2 : w7.heap[w.heap.size + 1 + 1]? = some (.cells #[.slice none 0 0, .bool false] 40) := (k7.block (w.heap.size + 1 + 1) (hlt (w := X) n2) (.inr (by omega))).trans n2
        have p0 : w7.cell? ⟨qn, 0, none⟩ = some (.slice A' (left s') cap') := k7.cell (w := X.drew) g0 (.inr (show w.heap.size ≤ qn by omega))
        have p1 : w7.cell? ⟨qn, 1, none⟩ = some (.bool (Option.isNone s')) := k7.cell (w := X.drew) g1 (.inr (show w.heap.size ≤ qn by omega))
        have p3 : w7.cell? ⟨w.heap.size + 1, 1, none⟩ = some (.int .i64 most) := k7.cell (w := X.drew) g2 (.inr (show w.heap.size ≤ w.heap.size + 1 by omega))
        have o0 : w7.cell? ⟨w.heap.size + 1 + 1, 0, none⟩ = some (.slice none 0 0) := by simp [World.cell?, p2]
        have o1 : w7.cell? ⟨w.heap.size + 1 + 1, 1, none⟩ = some (.bool false) := by simp [World.cell?, p2]
        have o2 : w7.frozen? ⟨w.heap.size + 1 + 1, 0, none⟩ = false := by simp [World.frozen?, p2]
        have o3 : w7.frozen? ⟨w.heap.size + 1 + 1, 1, none⟩ = false := by simp [World.frozen?, p2]
        have hk7 : Keeps Z w w7 := hkX.drew.trans (k7.mono fun q hq => .inl hq)))
    go_wp2
    refine bodyPost_ret (res_cell_tmp rfl _ _ (w.heap.size + 1 + 1) _ _ _ rfl (two_set _ _ _ _ _ _ _ p2)) rfl ?_
    exact ⟨A', cap', rfl, hr, ((h7.store _ _ (.inr (by show w.heap.size ≤ w.heap.size + 1 + 1; omega))).store _ _ (.inr (by show w.heap.size ≤ w.heap.size + 1 + 1; omega))).out (fun q hq => .inl (.inl hq)), (hk7.trans (keeps_setCell _ _ _ (fun hz => absurd (hZ _ hz) (by show ¬ (w.heap.size + 1 + 1 < w.heap.size); omega)))).trans (keeps_setCell _ _ _ (fun hz => absurd (hZ _ hz) (by show ¬ (w.heap.size + 1 + 1 < w.heap.size); omega)))⟩
  rw [if_neg k0]
  by_cases k1 : k = 1
  · subst k1
    rw [if_pos rfl]
    have hb0 : Below w.heap.size w (((w.alloc (.cells #[.slice A (left s) cap, .bool s.isNone] 40)).alloc (.cells #[.int .u8 1, .int .i64 most] 44)).alloc (.cells #[.slice none 0 0, .bool false] 40)) := (((Below.refl _ _).alloc (Nat.le_refl _) _).alloc (by simp) _).alloc (by simp; omega) _
    have hs0 : w.heap.size + 3 = (((w.alloc (.cells #[.slice A (left s) cap, .bool s.isNone] 40)).alloc (.cells #[.int .u8 1, .int .i64 most] 44)).alloc (.cells #[.slice none 0 0, .bool false] 40)).heap.size := by simp
    have hi0 := (hi.out (Z' := fun q => Z q ∨ w.heap.size ≤ q) (fun q hq => hq)).below hb0 (Nat.le_refl _)
    have m0 : (((w.alloc (.cells #[.slice A (left s) cap, .bool s.isNone] 40)).alloc (.cells #[.int .u8 1, .int .i64 most] 44)).alloc (.cells #[.slice none 0 0, .bool false] 40)).heap[w.heap.size]? = some (.cells #[.slice A (left s) cap, .bool s.isNone] 40) := (Below.heap_alloc _ _ _ (by simp; omega)).trans (heap_alloc2_old _ _ _)
    have m1 : (((w.alloc (.cells #[.slice A (left s) cap, .bool s.isNone] 40)).alloc (.cells #[.int .u8 1, .int .i64 most] 44)).alloc (.cells #[.slice none 0 0, .bool false] 40)).heap[w.heap.size + 1]? = some (.cells #[.int .u8 1, .int .i64 most] 44) := (Below.heap_alloc _ _ _ (by simp)).trans (heap_alloc2_new _ _ _)
    have m2 : (((w.alloc (.cells #[.slice A (left s) cap, .bool s.isNone] 40)).alloc (.cells #[.int .u8 1, .int .i64 most] 44)).alloc (.cells #[.slice none 0 0, .bool false] 40)).heap[w.heap.size + 1 + 1]? = some (.cells #[.slice none 0 0, .bool false] 40) := by
      have := heap_alloc_new ((w.alloc (.cells #[.slice A (left s) cap, .bool s.isNone] 40)).alloc (.cells #[.int .u8 1, .int .i64 most] 44)) (.cells #[.slice none 0 0, .bool false] 40)
      simpa only [World.size_alloc] using this
    have hr0 := h.below hb0 (Nat.le_refl _)
    generalize hW : (((w.alloc (.cells #[.slice A (left s) cap, .bool s.isNone] 40)).alloc (.cells #[.int .u8 1, .int .i64 most] 44)).alloc (.cells #[.slice none 0 0, .bool false] 40)) = W at hb0 hs0 hi0 m0 m1 m2 hr0
    have f0 : W.cell? ⟨w.heap.size, 0, none⟩ = some (.slice A (left s) cap) := by simp [World.cell?, m0]
    have f1 : W.cell? ⟨w.heap.size, 1, none⟩ = some (.bool s.isNone) := by simp [World.cell?, m0]
    have f2 : W.cell? ⟨w.heap.size + 1, 0, none⟩ = some (.int .u8 1) := by simp [World.cell?, m1]
    have f3 : W.cell? ⟨w.heap.size + 1, 1, none⟩ = some (.int .i64 most) := by simp [World.cell?, m1]
    have hR := flagR2_any A cap s _ hr0
    have hB := fun W1 h1 => flagIn_any W1 i s (fun q => Z q ∨ w.heap.size ≤ q) h1
    generalize flagN s = t at hR hB ⊢
    obtain ⟨v, s'⟩ := t
    simp only [inv] at hR hB ⊢
    go_enter Try.func13, Try.ntmps13
    go_wp2_with (go_at_call 37; refine hR.mono ?_; rintro e w1 ⟨A', cap', rfl, hr, hb⟩)
    have hq : w.heap.size + 3 ≤ w1.heap.size := Nat.le_trans (Nat.le_of_eq hs0) hb.size
    have n1 : (w1.alloc (.cells #[.slice A' (left s') cap', .bool (Option.isNone s')] 40)).heap[w.heap.size + 1]? = some (.cells #[.int .u8 1, .int .i64 most] 44) := (Below.heap_alloc _ _ _ (by omega)).trans ((hb.block _ (hlt m1)).trans m1)
    have n2 : (w1.alloc (.cells #[.slice A' (left s') cap', .bool (Option.isNone s')] 40)).heap[w.heap.size + 1 + 1]? = some (.cells #[.slice none 0 0, .bool false] 40) := (Below.heap_alloc _ _ _ (by omega)).trans ((hb.block _ (hlt m2)).trans m2)
    have n3 : (w1.alloc (.cells #[.slice A' (left s') cap', .bool (Option.isNone s')] 40)).heap[w1.heap.size]? = some (.cells #[.slice A' (left s') cap', .bool (Option.isNone s')] 40) := heap_alloc_new _ _
    have hbX : Below w.heap.size w (w1.alloc (.cells #[.slice A' (left s') cap', .bool (Option.isNone s')] 40)) := (hb0.trans (hb.mono hb0.size)).alloc (by omega) _
    have hiX : In (w1.alloc (.cells #[.slice A' (left s') cap', .bool (Option.isNone s')] 40)) i s (fun q => Z q ∨ w.heap.size ≤ q) := (hi0.below hb (Nat.le_refl _)).below ((Below.refl w1.heap.size w1).alloc (Nat.le_refl _) _) (Nat.le_refl _)
    have hkX : Keeps Z w (w1.alloc (.cells #[.slice A' (left s') cap', .bool (Option.isNone s')] 40)) := keeps_below hbX (Nat.le_refl _)
    generalize (w1.alloc (.cells #[.slice A' (left s') cap', .bool (Option.isNone s')] 40)) = X at n1 n2 n3 hbX hiX hkX ⊢
    generalize w1.heap.size = qn at hq n3 ⊢
    clear hb hb0 hs0 hi0 m0 m1 m2 hr0 hW f0 f1 f2 f3
    have g0 : X.cell? ⟨qn, 0, none⟩ = some (.slice A' (left s') cap') := by simp [World.cell?, n3]
    have g1 : X.cell? ⟨qn, 1, none⟩ = some (.bool (Option.isNone s')) := by simp [World.cell?, n3]
    have g2 : X.cell? ⟨w.heap.size + 1, 1, none⟩ = some (.int .i64 most) := by simp [World.cell?, n1]
    go_region_held3 (fun w' => w'.cell? ⟨qn, 0, none⟩ = some (.slice A' (left s') cap') ∧ w'.cell? ⟨qn, 1, none⟩ = some (.bool (Option.isNone s')))
      (first | (go_keep; done) | exact ⟨p0, p1⟩ | ((try dsimp only); (repeat' apply And.intro) <;> (first | (go_keep; done) | ((repeat (refine (World.cell?_setCell_other _ _ _ _ (by intro e; injection e with e; omega)).trans ?_)); assumption))))
      ((go_at_call 19
        refine (hB _ (hiX.below ((Below.refl X.heap.size X).drew) (Nat.le_refl _))).mono ?_
        rintro e w7 ⟨rfl, h7, k7⟩
        have p2 : w7.heap[w.heap.size + 1 + 1]? = some (.cells #[.slice none 0 0, .bool false] 40) := (k7.block (w.heap.size + 1 + 1) (hlt (w := X) n2) (.inr (by omega))).trans n2
        have p0 : w7.cell? ⟨qn, 0, none⟩ = some (.slice A' (left s') cap') := k7.cell (w := X.drew) g0 (.inr (show w.heap.size ≤ qn by omega))
        have p1 : w7.cell? ⟨qn, 1, none⟩ = some (.bool (Option.isNone s')) := k7.cell (w := X.drew) g1 (.inr (show w.heap.size ≤ qn by omega))
        have p3 : w7.cell? ⟨w.heap.size + 1, 1, none⟩ = some (.int .i64 most) := k7.cell (w := X.drew) g2 (.inr (show w.heap.size ≤ w.heap.size + 1 by omega))
        have o0 : w7.cell? ⟨w.heap.size + 1 + 1, 0, none⟩ = some (.slice none 0 0) := by simp [World.cell?, p2]
        have o1 : w7.cell? ⟨w.heap.size + 1 + 1, 1, none⟩ = some (.bool false) := by simp [World.cell?, p2]
        have o2 : w7.frozen? ⟨w.heap.size + 1 + 1, 0, none⟩ = false := by simp [World.frozen?, p2]
        have o3 : w7.frozen? ⟨w.heap.size + 1 + 1, 1, none⟩ = false := by simp [World.frozen?, p2]
        have hk7 : Keeps Z w w7 := hkX.drew.trans (k7.mono fun q hq => .inl hq)))
    go_wp2
    refine bodyPost_ret (res_cell_tmp rfl _ _ (w.heap.size + 1 + 1) _ _ _ rfl (two_set _ _ _ _ _ _ _ p2)) rfl ?_
    exact ⟨A', cap', rfl, hr, ((h7.store _ _ (.inr (by show w.heap.size ≤ w.heap.size + 1 + 1; omega))).store _ _ (.inr (by show w.heap.size ≤ w.heap.size + 1 + 1; omega))).out (fun q hq => .inl (.inl hq)), (hk7.trans (keeps_setCell _ _ _ (fun hz => absurd (hZ _ hz) (by show ¬ (w.heap.size + 1 + 1 < w.heap.size); omega)))).trans (keeps_setCell _ _ _ (fun hz => absurd (hZ _ hz) (by show ¬ (w.heap.size + 1 + 1 < w.heap.size); omega)))⟩
  rw [if_neg k1]
  by_cases k2 : k = 2
  · subst k2
    rw [if_pos rfl]
    have hb0 : Below w.heap.size w (((w.alloc (.cells #[.slice A (left s) cap, .bool s.isNone] 40)).alloc (.cells #[.int .u8 2, .int .i64 most] 44)).alloc (.cells #[.slice none 0 0, .bool false] 40)) := (((Below.refl _ _).alloc (Nat.le_refl _) _).alloc (by simp) _).alloc (by simp; omega) _
    have hs0 : w.heap.size + 3 = (((w.alloc (.cells #[.slice A (left s) cap, .bool s.isNone] 40)).alloc (.cells #[.int .u8 2, .int .i64 most] 44)).alloc (.cells #[.slice none 0 0, .bool false] 40)).heap.size := by simp
    have hi0 := (hi.out (Z' := fun q => Z q ∨ w.heap.size ≤ q) (fun q hq => hq)).below hb0 (Nat.le_refl _)
    have m0 : (((w.alloc (.cells #[.slice A (left s) cap, .bool s.isNone] 40)).alloc (.cells #[.int .u8 2, .int .i64 most] 44)).alloc (.cells #[.slice none 0 0, .bool false] 40)).heap[w.heap.size]? = some (.cells #[.slice A (left s) cap, .bool s.isNone] 40) := (Below.heap_alloc _ _ _ (by simp; omega)).trans (heap_alloc2_old _ _ _)
    have m1 : (((w.alloc (.cells #[.slice A (left s) cap, .bool s.isNone] 40)).alloc (.cells #[.int .u8 2, .int .i64 most] 44)).alloc (.cells #[.slice none 0 0, .bool false] 40)).heap[w.heap.size + 1]? = some (.cells #[.int .u8 2, .int .i64 most] 44) := (Below.heap_alloc _ _ _ (by simp)).trans (heap_alloc2_new _ _ _)
    have m2 : (((w.alloc (.cells #[.slice A (left s) cap, .bool s.isNone] 40)).alloc (.cells #[.int .u8 2, .int .i64 most] 44)).alloc (.cells #[.slice none 0 0, .bool false] 40)).heap[w.heap.size + 1 + 1]? = some (.cells #[.slice none 0 0, .bool false] 40) := by
      have := heap_alloc_new ((w.alloc (.cells #[.slice A (left s) cap, .bool s.isNone] 40)).alloc (.cells #[.int .u8 2, .int .i64 most] 44)) (.cells #[.slice none 0 0, .bool false] 40)
      simpa only [World.size_alloc] using this
    have hr0 := h.below hb0 (Nat.le_refl _)
    generalize hW : (((w.alloc (.cells #[.slice A (left s) cap, .bool s.isNone] 40)).alloc (.cells #[.int .u8 2, .int .i64 most] 44)).alloc (.cells #[.slice none 0 0, .bool false] 40)) = W at hb0 hs0 hi0 m0 m1 m2 hr0
    have f0 : W.cell? ⟨w.heap.size, 0, none⟩ = some (.slice A (left s) cap) := by simp [World.cell?, m0]
    have f1 : W.cell? ⟨w.heap.size, 1, none⟩ = some (.bool s.isNone) := by simp [World.cell?, m0]
    have f2 : W.cell? ⟨w.heap.size + 1, 0, none⟩ = some (.int .u8 2) := by simp [World.cell?, m1]
    have f3 : W.cell? ⟨w.heap.size + 1, 1, none⟩ = some (.int .i64 most) := by simp [World.cell?, m1]
    have hR := countR2_any A cap s _ most hm hL hr0
    have hB := fun W1 h1 => countIn_any most hm W1 i s (fun q => Z q ∨ w.heap.size ≤ q) h1 hL
    generalize countN s most = t at hR hB ⊢
    obtain ⟨v, s'⟩ := t
    simp only [inv] at hR hB ⊢
    go_enter Try.func13, Try.ntmps13
    go_wp2_with (go_at_call 38; refine hR.mono ?_; rintro e w1 ⟨A', cap', rfl, hr, hb⟩)
    have hq : w.heap.size + 3 ≤ w1.heap.size := Nat.le_trans (Nat.le_of_eq hs0) hb.size
    have n1 : (w1.alloc (.cells #[.slice A' (left s') cap', .bool (Option.isNone s')] 40)).heap[w.heap.size + 1]? = some (.cells #[.int .u8 2, .int .i64 most] 44) := (Below.heap_alloc _ _ _ (by omega)).trans ((hb.block _ (hlt m1)).trans m1)
    have n2 : (w1.alloc (.cells #[.slice A' (left s') cap', .bool (Option.isNone s')] 40)).heap[w.heap.size + 1 + 1]? = some (.cells #[.slice none 0 0, .bool false] 40) := (Below.heap_alloc _ _ _ (by omega)).trans ((hb.block _ (hlt m2)).trans m2)
    have n3 : (w1.alloc (.cells #[.slice A' (left s') cap', .bool (Option.isNone s')] 40)).heap[w1.heap.size]? = some (.cells #[.slice A' (left s') cap', .bool (Option.isNone s')] 40) := heap_alloc_new _ _
    have hbX : Below w.heap.size w (w1.alloc (.cells #[.slice A' (left s') cap', .bool (Option.isNone s')] 40)) := (hb0.trans (hb.mono hb0.size)).alloc (by omega) _
    have hiX : In (w1.alloc (.cells #[.slice A' (left s') cap', .bool (Option.isNone s')] 40)) i s (fun q => Z q ∨ w.heap.size ≤ q) := (hi0.below hb (Nat.le_refl _)).below ((Below.refl w1.heap.size w1).alloc (Nat.le_refl _) _) (Nat.le_refl _)
    have hkX : Keeps Z w (w1.alloc (.cells #[.slice A' (left s') cap', .bool (Option.isNone s')] 40)) := keeps_below hbX (Nat.le_refl _)
    generalize (w1.alloc (.cells #[.slice A' (left s') cap', .bool (Option.isNone s')] 40)) = X at n1 n2 n3 hbX hiX hkX ⊢
    generalize w1.heap.size = qn at hq n3 ⊢
    clear hb hb0 hs0 hi0 m0 m1 m2 hr0 hW f0 f1 f2 f3
    have g0 : X.cell? ⟨qn, 0, none⟩ = some (.slice A' (left s') cap') := by simp [World.cell?, n3]
    have g1 : X.cell? ⟨qn, 1, none⟩ = some (.bool (Option.isNone s')) := by simp [World.cell?, n3]
    have g2 : X.cell? ⟨w.heap.size + 1, 1, none⟩ = some (.int .i64 most) := by simp [World.cell?, n1]
    go_region_held3 (fun w' => w'.cell? ⟨qn, 0, none⟩ = some (.slice A' (left s') cap') ∧ w'.cell? ⟨qn, 1, none⟩ = some (.bool (Option.isNone s')) ∧ w'.cell? ⟨w.heap.size + 1, 1, none⟩ = some (.int .i64 most))
      (first | (go_keep; done) | exact ⟨p0, p1, p3⟩ | ((try dsimp only); (repeat' apply And.intro) <;> (first | (go_keep; done) | ((repeat (refine (World.cell?_setCell_other _ _ _ _ (by intro e; injection e with e; omega)).trans ?_)); assumption))))
      ((go_at_call 25
        refine (hB _ (hiX.below ((Below.refl X.heap.size X).drew) (Nat.le_refl _))).mono ?_
        rintro e w7 ⟨rfl, h7, k7⟩
        have p2 : w7.heap[w.heap.size + 1 + 1]? = some (.cells #[.slice none 0 0, .bool false] 40) := (k7.block (w.heap.size + 1 + 1) (hlt (w := X) n2) (.inr (by omega))).trans n2
        have p0 : w7.cell? ⟨qn, 0, none⟩ = some (.slice A' (left s') cap') := k7.cell (w := X.drew) g0 (.inr (show w.heap.size ≤ qn by omega))
        have p1 : w7.cell? ⟨qn, 1, none⟩ = some (.bool (Option.isNone s')) := k7.cell (w := X.drew) g1 (.inr (show w.heap.size ≤ qn by omega))
        have p3 : w7.cell? ⟨w.heap.size + 1, 1, none⟩ = some (.int .i64 most) := k7.cell (w := X.drew) g2 (.inr (show w.heap.size ≤ w.heap.size + 1 by omega))
        have o0 : w7.cell? ⟨w.heap.size + 1 + 1, 0, none⟩ = some (.slice none 0 0) := by simp [World.cell?, p2]
        have o1 : w7.cell? ⟨w.heap.size + 1 + 1, 1, none⟩ = some (.bool false) := by simp [World.cell?, p2]
        have o2 : w7.frozen? ⟨w.heap.size + 1 + 1, 0, none⟩ = false := by simp [World.frozen?, p2]
        have o3 : w7.frozen? ⟨w.heap.size + 1 + 1, 1, none⟩ = false := by simp [World.frozen?, p2]
        have hk7 : Keeps Z w w7 := hkX.drew.trans (k7.mono fun q hq => .inl hq)))
    go_wp2
    refine bodyPost_ret (res_cell_tmp rfl _ _ (w.heap.size + 1 + 1) _ _ _ rfl (two_set _ _ _ _ _ _ _ p2)) rfl ?_
    exact ⟨A', cap', rfl, hr, ((h7.store _ _ (.inr (by show w.heap.size ≤ w.heap.size + 1 + 1; omega))).store _ _ (.inr (by show w.heap.size ≤ w.heap.size + 1 + 1; omega))).out (fun q hq => .inl (.inl hq)), (hk7.trans (keeps_setCell _ _ _ (fun hz => absurd (hZ _ hz) (by show ¬ (w.heap.size + 1 + 1 < w.heap.size); omega)))).trans (keeps_setCell _ _ _ (fun hz => absurd (hZ _ hz) (by show ¬ (w.heap.size + 1 + 1 < w.heap.size); omega)))⟩
  rw [if_neg k2]
  by_cases k3 : k = 3
  · subst k3
    rw [if_pos rfl]
    have hb0 : Below w.heap.size w (((w.alloc (.cells #[.slice A (left s) cap, .bool s.isNone] 40)).alloc (.cells #[.int .u8 3, .int .i64 most] 44)).alloc (.cells #[.slice none 0 0, .bool false] 40)) := (((Below.refl _ _).alloc (Nat.le_refl _) _).alloc (by simp) _).alloc (by simp; omega) _
    have hs0 : w.heap.size + 3 = (((w.alloc (.cells #[.slice A (left s) cap, .bool s.isNone] 40)).alloc (.cells #[.int .u8 3, .int .i64 most] 44)).alloc (.cells #[.slice none 0 0, .bool false] 40)).heap.size := by simp
    have hi0 := (hi.out (Z' := fun q => Z q ∨ w.heap.size ≤ q) (fun q hq => hq)).below hb0 (Nat.le_refl _)
    have m0 : (((w.alloc (.cells #[.slice A (left s) cap, .bool s.isNone] 40)).alloc (.cells #[.int .u8 3, .int .i64 most] 44)).alloc (.cells #[.slice none 0 0, .bool false] 40)).heap[w.heap.size]? = some (.cells #[.slice A (left s) cap, .bool s.isNone] 40) := (Below.heap_alloc _ _ _ (by simp; omega)).trans (heap_alloc2_old _ _ _)
    have m1 : (((w.alloc (.cells #[.slice A (left s) cap, .bool s.isNone] 40)).alloc (.cells #[.int .u8 3, .int .i64 most] 44)).alloc (.cells #[.slice none 0 0, .bool false] 40)).heap[w.heap.size + 1]? = some (.cells #[.int .u8 3, .int .i64 most] 44) := (Below.heap_alloc _ _ _ (by simp)).trans (heap_alloc2_new _ _ _)
    have m2 : (((w.alloc (.cells #[.slice A (left s) cap, .bool s.isNone] 40)).alloc (.cells #[.int .u8 3, .int .i64 most] 44)).alloc (.cells #[.slice none 0 0, .bool false] 40)).heap[w.heap.size + 1 + 1]? = some (.cells #[.slice none 0 0, .bool false] 40) := by
      have := heap_alloc_new ((w.alloc (.cells #[.slice A (left s) cap, .bool s.isNone] 40)).alloc (.cells #[.int .u8 3, .int .i64 most] 44)) (.cells #[.slice none 0 0, .bool false] 40)
      simpa only [World.size_alloc] using this
    have hr0 := h.below hb0 (Nat.le_refl _)
    generalize hW : (((w.alloc (.cells #[.slice A (left s) cap, .bool s.isNone] 40)).alloc (.cells #[.int .u8 3, .int .i64 most] 44)).alloc (.cells #[.slice none 0 0, .bool false] 40)) = W at hb0 hs0 hi0 m0 m1 m2 hr0
    have f0 : W.cell? ⟨w.heap.size, 0, none⟩ = some (.slice A (left s) cap) := by simp [World.cell?, m0]
    have f1 : W.cell? ⟨w.heap.size, 1, none⟩ = some (.bool s.isNone) := by simp [World.cell?, m0]
    have f2 : W.cell? ⟨w.heap.size + 1, 0, none⟩ = some (.int .u8 3) := by simp [World.cell?, m1]
    have f3 : W.cell? ⟨w.heap.size + 1, 1, none⟩ = some (.int .i64 most) := by simp [World.cell?, m1]
    have hR := numR2_any A cap s _ hr0
    have hB := fun W1 h1 => numIn_any W1 i s (fun q => Z q ∨ w.heap.size ≤ q) h1
    generalize numberN s 8 = t at hR hB ⊢
    obtain ⟨v, s'⟩ := t
    simp only [inv] at hR hB ⊢
    generalize IntKind.i64.wrap (v : Int) = z at hR hB
    go_enter Try.func13, Try.ntmps13
    go_wp2_with (go_at_call 39; refine hR.mono ?_; rintro e w1 ⟨A', cap', rfl, hr, hb⟩)
    have hq : w.heap.size + 3 ≤ w1.heap.size := Nat.le_trans (Nat.le_of_eq hs0) hb.size
    have n1 : (w1.alloc (.cells #[.slice A' (left s') cap', .bool (Option.isNone s')] 40)).heap[w.heap.size + 1]? = some (.cells #[.int .u8 3, .int .i64 most] 44) := (Below.heap_alloc _ _ _ (by omega)).trans ((hb.block _ (hlt m1)).trans m1)
    have n2 : (w1.alloc (.cells #[.slice A' (left s') cap', .bool (Option.isNone s')] 40)).heap[w.heap.size + 1 + 1]? = some (.cells #[.slice none 0 0, .bool false] 40) := (Below.heap_alloc _ _ _ (by omega)).trans ((hb.block _ (hlt m2)).trans m2)
    have n3 : (w1.alloc (.cells #[.slice A' (left s') cap', .bool (Option.isNone s')] 40)).heap[w1.heap.size]? = some (.cells #[.slice A' (left s') cap', .bool (Option.isNone s')] 40) := heap_alloc_new _ _
    have hbX : Below w.heap.size w (w1.alloc (.cells #[.slice A' (left s') cap', .bool (Option.isNone s')] 40)) := (hb0.trans (hb.mono hb0.size)).alloc (by omega) _
    have hiX : In (w1.alloc (.cells #[.slice A' (left s') cap', .bool (Option.isNone s')] 40)) i s (fun q => Z q ∨ w.heap.size ≤ q) := (hi0.below hb (Nat.le_refl _)).below ((Below.refl w1.heap.size w1).alloc (Nat.le_refl _) _) (Nat.le_refl _)
    have hkX : Keeps Z w (w1.alloc (.cells #[.slice A' (left s') cap', .bool (Option.isNone s')] 40)) := keeps_below hbX (Nat.le_refl _)
    generalize (w1.alloc (.cells #[.slice A' (left s') cap', .bool (Option.isNone s')] 40)) = X at n1 n2 n3 hbX hiX hkX ⊢
    generalize w1.heap.size = qn at hq n3 ⊢
    clear hb hb0 hs0 hi0 m0 m1 m2 hr0 hW f0 f1 f2 f3
    have g0 : X.cell? ⟨qn, 0, none⟩ = some (.slice A' (left s') cap') := by simp [World.cell?, n3]
    have g1 : X.cell? ⟨qn, 1, none⟩ = some (.bool (Option.isNone s')) := by simp [World.cell?, n3]
    have g2 : X.cell? ⟨w.heap.size + 1, 1, none⟩ = some (.int .i64 most) := by simp [World.cell?, n1]
    go_region_held3 (fun w' => w'.cell? ⟨qn, 0, none⟩ = some (.slice A' (left s') cap') ∧ w'.cell? ⟨qn, 1, none⟩ = some (.bool (Option.isNone s')))
      (first | (go_keep; done) | exact ⟨p0, p1⟩ | ((try dsimp only); (repeat' apply And.intro) <;> (first | (go_keep; done) | ((repeat (refine (World.cell?_setCell_other _ _ _ _ (by intro e; injection e with e; omega)).trans ?_)); assumption))))
      ((go_at_call 20
        refine (hB _ (hiX.below ((Below.refl X.heap.size X).drew) (Nat.le_refl _))).mono ?_
        rintro e w7 ⟨rfl, h7, k7⟩
        have p2 : w7.heap[w.heap.size + 1 + 1]? = some (.cells #[.slice none 0 0, .bool false] 40) := (k7.block (w.heap.size + 1 + 1) (hlt (w := X) n2) (.inr (by omega))).trans n2
        have p0 : w7.cell? ⟨qn, 0, none⟩ = some (.slice A' (left s') cap') := k7.cell (w := X.drew) g0 (.inr (show w.heap.size ≤ qn by omega))
        have p1 : w7.cell? ⟨qn, 1, none⟩ = some (.bool (Option.isNone s')) := k7.cell (w := X.drew) g1 (.inr (show w.heap.size ≤ qn by omega))
        have p3 : w7.cell? ⟨w.heap.size + 1, 1, none⟩ = some (.int .i64 most) := k7.cell (w := X.drew) g2 (.inr (show w.heap.size ≤ w.heap.size + 1 by omega))
        have o0 : w7.cell? ⟨w.heap.size + 1 + 1, 0, none⟩ = some (.slice none 0 0) := by simp [World.cell?, p2]
        have o1 : w7.cell? ⟨w.heap.size + 1 + 1, 1, none⟩ = some (.bool false) := by simp [World.cell?, p2]
        have o2 : w7.frozen? ⟨w.heap.size + 1 + 1, 0, none⟩ = false := by simp [World.frozen?, p2]
        have o3 : w7.frozen? ⟨w.heap.size + 1 + 1, 1, none⟩ = false := by simp [World.frozen?, p2]
        have hk7 : Keeps Z w w7 := hkX.drew.trans (k7.mono fun q hq => .inl hq)))
    go_wp2
    refine bodyPost_ret (res_cell_tmp rfl _ _ (w.heap.size + 1 + 1) _ _ _ rfl (two_set _ _ _ _ _ _ _ p2)) rfl ?_
    exact ⟨A', cap', rfl, hr, ((h7.store _ _ (.inr (by show w.heap.size ≤ w.heap.size + 1 + 1; omega))).store _ _ (.inr (by show w.heap.size ≤ w.heap.size + 1 + 1; omega))).out (fun q hq => .inl (.inl hq)), (hk7.trans (keeps_setCell _ _ _ (fun hz => absurd (hZ _ hz) (by show ¬ (w.heap.size + 1 + 1 < w.heap.size); omega)))).trans (keeps_setCell _ _ _ (fun hz => absurd (hZ _ hz) (by show ¬ (w.heap.size + 1 + 1 < w.heap.size); omega)))⟩
  rw [if_neg k3]
  by_cases k4 : k = 4
  · subst k4
    rw [if_pos rfl]
    have hb0 : Below w.heap.size w (((w.alloc (.cells #[.slice A (left s) cap, .bool s.isNone] 40)).alloc (.cells #[.int .u8 4, .int .i64 most] 44)).alloc (.cells #[.slice none 0 0, .bool false] 40)) := (((Below.refl _ _).alloc (Nat.le_refl _) _).alloc (by simp) _).alloc (by simp; omega) _
    have hs0 : w.heap.size + 3 = (((w.alloc (.cells #[.slice A (left s) cap, .bool s.isNone] 40)).alloc (.cells #[.int .u8 4, .int .i64 most] 44)).alloc (.cells #[.slice none 0 0, .bool false] 40)).heap.size := by simp
    have hi0 := (hi.out (Z' := fun q => Z q ∨ w.heap.size ≤ q) (fun q hq => hq)).below hb0 (Nat.le_refl _)
    have m0 : (((w.alloc (.cells #[.slice A (left s) cap, .bool s.isNone] 40)).alloc (.cells #[.int .u8 4, .int .i64 most] 44)).alloc (.cells #[.slice none 0 0, .bool false] 40)).heap[w.heap.size]? = some (.cells #[.slice A (left s) cap, .bool s.isNone] 40) := (Below.heap_alloc _ _ _ (by simp; omega)).trans (heap_alloc2_old _ _ _)
    have m1 : (((w.alloc (.cells #[.slice A (left s) cap, .bool s.isNone] 40)).alloc (.cells #[.int .u8 4, .int .i64 most] 44)).alloc (.cells #[.slice none 0 0, .bool false] 40)).heap[w.heap.size + 1]? = some (.cells #[.int .u8 4, .int .i64 most] 44) := (Below.heap_alloc _ _ _ (by simp)).trans (heap_alloc2_new _ _ _)
    have m2 : (((w.alloc (.cells #[.slice A (left s) cap, .bool s.isNone] 40)).alloc (.cells #[.int .u8 4, .int .i64 most] 44)).alloc (.cells #[.slice none 0 0, .bool false] 40)).heap[w.heap.size + 1 + 1]? = some (.cells #[.slice none 0 0, .bool false] 40) := by
      have := heap_alloc_new ((w.alloc (.cells #[.slice A (left s) cap, .bool s.isNone] 40)).alloc (.cells #[.int .u8 4, .int .i64 most] 44)) (.cells #[.slice none 0 0, .bool false] 40)
      simpa only [World.size_alloc] using this
    have hr0 := h.below hb0 (Nat.le_refl _)
    generalize hW : (((w.alloc (.cells #[.slice A (left s) cap, .bool s.isNone] 40)).alloc (.cells #[.int .u8 4, .int .i64 most] 44)).alloc (.cells #[.slice none 0 0, .bool false] 40)) = W at hb0 hs0 hi0 m0 m1 m2 hr0
    have f0 : W.cell? ⟨w.heap.size, 0, none⟩ = some (.slice A (left s) cap) := by simp [World.cell?, m0]
    have f1 : W.cell? ⟨w.heap.size, 1, none⟩ = some (.bool s.isNone) := by simp [World.cell?, m0]
    have f2 : W.cell? ⟨w.heap.size + 1, 0, none⟩ = some (.int .u8 4) := by simp [World.cell?, m1]
    have f3 : W.cell? ⟨w.heap.size + 1, 1, none⟩ = some (.int .i64 most) := by simp [World.cell?, m1]
    have hR := textR2_any A cap s _ most hm hL hr0
    have hB := fun W1 h1 => textIn_any most hm W1 i s (fun q => Z q ∨ w.heap.size ≤ q) h1 hL
    generalize textN s most = t at hR hB ⊢
    obtain ⟨v, s'⟩ := t
    simp only [inv] at hR hB ⊢
    go_enter Try.func13, Try.ntmps13
    go_wp2_with (go_at_call 40; refine hR.mono ?_; rintro e w1 ⟨A', cap', rfl, hr, hb⟩)
    have hq : w.heap.size + 3 ≤ w1.heap.size := Nat.le_trans (Nat.le_of_eq hs0) hb.size
    have n1 : (w1.alloc (.cells #[.slice A' (left s') cap', .bool (Option.isNone s')] 40)).heap[w.heap.size + 1]? = some (.cells #[.int .u8 4, .int .i64 most] 44) := (Below.heap_alloc _ _ _ (by omega)).trans ((hb.block _ (hlt m1)).trans m1)
    have n2 : (w1.alloc (.cells #[.slice A' (left s') cap', .bool (Option.isNone s')] 40)).heap[w.heap.size + 1 + 1]? = some (.cells #[.slice none 0 0, .bool false] 40) := (Below.heap_alloc _ _ _ (by omega)).trans ((hb.block _ (hlt m2)).trans m2)
    have n3 : (w1.alloc (.cells #[.slice A' (left s') cap', .bool (Option.isNone s')] 40)).heap[w1.heap.size]? = some (.cells #[.slice A' (left s') cap', .bool (Option.isNone s')] 40) := heap_alloc_new _ _
    have hbX : Below w.heap.size w (w1.alloc (.cells #[.slice A' (left s') cap', .bool (Option.isNone s')] 40)) := (hb0.trans (hb.mono hb0.size)).alloc (by omega) _
    have hiX : In (w1.alloc (.cells #[.slice A' (left s') cap', .bool (Option.isNone s')] 40)) i s (fun q => Z q ∨ w.heap.size ≤ q) := (hi0.below hb (Nat.le_refl _)).below ((Below.refl w1.heap.size w1).alloc (Nat.le_refl _) _) (Nat.le_refl _)
    have hkX : Keeps Z w (w1.alloc (.cells #[.slice A' (left s') cap', .bool (Option.isNone s')] 40)) := keeps_below hbX (Nat.le_refl _)
    generalize (w1.alloc (.cells #[.slice A' (left s') cap', .bool (Option.isNone s')] 40)) = X at n1 n2 n3 hbX hiX hkX ⊢
    generalize w1.heap.size = qn at hq n3 ⊢
    clear hb hb0 hs0 hi0 m0 m1 m2 hr0 hW f0 f1 f2 f3
    have g0 : X.cell? ⟨qn, 0, none⟩ = some (.slice A' (left s') cap') := by simp [World.cell?, n3]
    have g1 : X.cell? ⟨qn, 1, none⟩ = some (.bool (Option.isNone s')) := by simp [World.cell?, n3]
    have g2 : X.cell? ⟨w.heap.size + 1, 1, none⟩ = some (.int .i64 most) := by simp [World.cell?, n1]
    go_region_held3 (fun w' => w'.cell? ⟨qn, 0, none⟩ = some (.slice A' (left s') cap') ∧ w'.cell? ⟨qn, 1, none⟩ = some (.bool (Option.isNone s')) ∧ w'.cell? ⟨w.heap.size + 1, 1, none⟩ = some (.int .i64 most))
      (first | (go_keep; done) | exact ⟨p0, p1, p3⟩ | ((try dsimp only); (repeat' apply And.intro) <;> (first | (go_keep; done) | ((repeat (refine (World.cell?_setCell_other _ _ _ _ (by intro e; injection e with e; omega)).trans ?_)); assumption))))
      ((go_at_call 21
        refine (hB _ (hiX.below ((Below.refl X.heap.size X).drew) (Nat.le_refl _))).mono ?_
        rintro e w7 ⟨rfl, h7, k7⟩
        have p2 : w7.heap[w.heap.size + 1 + 1]? = some (.cells #[.slice none 0 0, .bool false] 40) := (k7.block (w.heap.size + 1 + 1) (hlt (w := X) n2) (.inr (by omega))).trans n2
        have p0 : w7.cell? ⟨qn, 0, none⟩ = some (.slice A' (left s') cap') := k7.cell (w := X.drew) g0 (.inr (show w.heap.size ≤ qn by omega))
        have p1 : w7.cell? ⟨qn, 1, none⟩ = some (.bool (Option.isNone s')) := k7.cell (w := X.drew) g1 (.inr (show w.heap.size ≤ qn by omega))
        have p3 : w7.cell? ⟨w.heap.size + 1, 1, none⟩ = some (.int .i64 most) := k7.cell (w := X.drew) g2 (.inr (show w.heap.size ≤ w.heap.size + 1 by omega))
        have o0 : w7.cell? ⟨w.heap.size + 1 + 1, 0, none⟩ = some (.slice none 0 0) := by simp [World.cell?, p2]
        have o1 : w7.cell? ⟨w.heap.size + 1 + 1, 1, none⟩ = some (.bool false) := by simp [World.cell?, p2]
        have o2 : w7.frozen? ⟨w.heap.size + 1 + 1, 0, none⟩ = false := by simp [World.frozen?, p2]
        have o3 : w7.frozen? ⟨w.heap.size + 1 + 1, 1, none⟩ = false := by simp [World.frozen?, p2]
        have hk7 : Keeps Z w w7 := hkX.drew.trans (k7.mono fun q hq => .inl hq)))
    go_wp2
    refine bodyPost_ret (res_cell_tmp rfl _ _ (w.heap.size + 1 + 1) _ _ _ rfl (two_set _ _ _ _ _ _ _ p2)) rfl ?_
    exact ⟨A', cap', rfl, hr, ((h7.store _ _ (.inr (by show w.heap.size ≤ w.heap.size + 1 + 1; omega))).store _ _ (.inr (by show w.heap.size ≤ w.heap.size + 1 + 1; omega))).out (fun q hq => .inl (.inl hq)), (hk7.trans (keeps_setCell _ _ _ (fun hz => absurd (hZ _ hz) (by show ¬ (w.heap.size + 1 + 1 < w.heap.size); omega)))).trans (keeps_setCell _ _ _ (fun hz => absurd (hZ _ hz) (by show ¬ (w.heap.size + 1 + 1 < w.heap.size); omega)))⟩
  rw [if_neg k4]
  by_cases k5 : k = 5
  · subst k5
    rw [if_pos rfl]
    have hb0 : Below w.heap.size w (((w.alloc (.cells #[.slice A (left s) cap, .bool s.isNone] 40)).alloc (.cells #[.int .u8 5, .int .i64 most] 44)).alloc (.cells #[.slice none 0 0, .bool false] 40)) := (((Below.refl _ _).alloc (Nat.le_refl _) _).alloc (by simp) _).alloc (by simp; omega) _
    have hs0 : w.heap.size + 3 = (((w.alloc (.cells #[.slice A (left s) cap, .bool s.isNone] 40)).alloc (.cells #[.int .u8 5, .int .i64 most] 44)).alloc (.cells #[.slice none 0 0, .bool false] 40)).heap.size := by simp
    have hi0 := (hi.out (Z' := fun q => Z q ∨ w.heap.size ≤ q) (fun q hq => hq)).below hb0 (Nat.le_refl _)
    have m0 : (((w.alloc (.cells #[.slice A (left s) cap, .bool s.isNone] 40)).alloc (.cells #[.int .u8 5, .int .i64 most] 44)).alloc (.cells #[.slice none 0 0, .bool false] 40)).heap[w.heap.size]? = some (.cells #[.slice A (left s) cap, .bool s.isNone] 40) := (Below.heap_alloc _ _ _ (by simp; omega)).trans (heap_alloc2_old _ _ _)
    have m1 : (((w.alloc (.cells #[.slice A (left s) cap, .bool s.isNone] 40)).alloc (.cells #[.int .u8 5, .int .i64 most] 44)).alloc (.cells #[.slice none 0 0, .bool false] 40)).heap[w.heap.size + 1]? = some (.cells #[.int .u8 5, .int .i64 most] 44) := (Below.heap_alloc _ _ _ (by simp)).trans (heap_alloc2_new _ _ _)
    have m2 : (((w.alloc (.cells #[.slice A (left s) cap, .bool s.isNone] 40)).alloc (.cells #[.int .u8 5, .int .i64 most] 44)).alloc (.cells #[.slice none 0 0, .bool false] 40)).heap[w.heap.size + 1 + 1]? = some (.cells #[.slice none 0 0, .bool false] 40) := by
      have := heap_alloc_new ((w.alloc (.cells #[.slice A (left s) cap, .bool s.isNone] 40)).alloc (.cells #[.int .u8 5, .int .i64 most] 44)) (.cells #[.slice none 0 0, .bool false] 40)
      simpa only [World.size_alloc] using this
    have hr0 := h.below hb0 (Nat.le_refl _)
    generalize hW : (((w.alloc (.cells #[.slice A (left s) cap, .bool s.isNone] 40)).alloc (.cells #[.int .u8 5, .int .i64 most] 44)).alloc (.cells #[.slice none 0 0, .bool false] 40)) = W at hb0 hs0 hi0 m0 m1 m2 hr0
    have f0 : W.cell? ⟨w.heap.size, 0, none⟩ = some (.slice A (left s) cap) := by simp [World.cell?, m0]
    have f1 : W.cell? ⟨w.heap.size, 1, none⟩ = some (.bool s.isNone) := by simp [World.cell?, m0]
    have f2 : W.cell? ⟨w.heap.size + 1, 0, none⟩ = some (.int .u8 5) := by simp [World.cell?, m1]
    have f3 : W.cell? ⟨w.heap.size + 1, 1, none⟩ = some (.int .i64 most) := by simp [World.cell?, m1]
    have hR := textR2_any A cap s _ most hm hL hr0
    have hB := fun W1 h1 => bytesIn_any most hm W1 i s (fun q => Z q ∨ w.heap.size ≤ q) h1 hL
    generalize textN s most = t at hR hB ⊢
    obtain ⟨v, s'⟩ := t
    simp only [inv] at hR hB ⊢
    go_enter Try.func13, Try.ntmps13
    go_wp2_with (go_at_call 40; refine hR.mono ?_; rintro e w1 ⟨A', cap', rfl, hr, hb⟩)
    have hq : w.heap.size + 3 ≤ w1.heap.size := Nat.le_trans (Nat.le_of_eq hs0) hb.size
    have n1 : (w1.alloc (.cells #[.slice A' (left s') cap', .bool (Option.isNone s')] 40)).heap[w.heap.size + 1]? = some (.cells #[.int .u8 5, .int .i64 most] 44) := (Below.heap_alloc _ _ _ (by omega)).trans ((hb.block _ (hlt m1)).trans m1)
    have n2 : (w1.alloc (.cells #[.slice A' (left s') cap', .bool (Option.isNone s')] 40)).heap[w.heap.size + 1 + 1]? = some (.cells #[.slice none 0 0, .bool false] 40) := (Below.heap_alloc _ _ _ (by omega)).trans ((hb.block _ (hlt m2)).trans m2)
    have n3 : (w1.alloc (.cells #[.slice A' (left s') cap', .bool (Option.isNone s')] 40)).heap[w1.heap.size]? = some (.cells #[.slice A' (left s') cap', .bool (Option.isNone s')] 40) := heap_alloc_new _ _
    have hbX : Below w.heap.size w (w1.alloc (.cells #[.slice A' (left s') cap', .bool (Option.isNone s')] 40)) := (hb0.trans (hb.mono hb0.size)).alloc (by omega) _
    have hiX : In (w1.alloc (.cells #[.slice A' (left s') cap', .bool (Option.isNone s')] 40)) i s (fun q => Z q ∨ w.heap.size ≤ q) := (hi0.below hb (Nat.le_refl _)).below ((Below.refl w1.heap.size w1).alloc (Nat.le_refl _) _) (Nat.le_refl _)
    have hkX : Keeps Z w (w1.alloc (.cells #[.slice A' (left s') cap', .bool (Option.isNone s')] 40)) := keeps_below hbX (Nat.le_refl _)
    generalize (w1.alloc (.cells #[.slice A' (left s') cap', .bool (Option.isNone s')] 40)) = X at n1 n2 n3 hbX hiX hkX ⊢
    generalize w1.heap.size = qn at hq n3 ⊢
    clear hb hb0 hs0 hi0 m0 m1 m2 hr0 hW f0 f1 f2 f3
    have g0 : X.cell? ⟨qn, 0, none⟩ = some (.slice A' (left s') cap') := by simp [World.cell?, n3]
    have g1 : X.cell? ⟨qn, 1, none⟩ = some (.bool (Option.isNone s')) := by simp [World.cell?, n3]
    have g2 : X.cell? ⟨w.heap.size + 1, 1, none⟩ = some (.int .i64 most) := by simp [World.cell?, n1]
    go_region_with (go_at_call 22
                    refine (hB _ (hiX.below ((Below.refl X.heap.size X).drew) (Nat.le_refl _))).mono ?_
                    rintro e w7 ⟨A7, len7, cap7, rfl, hl7, ho7, h7, k7⟩; have ht7 := hl7.text Try.underlying24 Try.underlying5 Try.underlying9; have ht8 := (hl7.keep (w' := (w7.setCell ⟨w.heap.size + 1 + 1, 0, none⟩ (.slice A' (left s') cap')).setCell ⟨w.heap.size + 1 + 1, 1, none⟩ (.bool (Option.isNone s'))) (by simp) (fun h0 g off e hg => by subst e; have hg2 := (ho7.lt g rfl).1; have hg3 : X.heap.size ≤ g := hg2; have hg4 := hlt n2; rw [Below.heap_setCell _ _ _ _ (by show g ≠ w.heap.size + 1 + 1; omega), Below.heap_setCell _ _ _ _ (by show g ≠ w.heap.size + 1 + 1; omega)])).text Try.underlying24 Try.underlying5 Try.underlying9; clear hl7 ho7
                    have p2 : w7.heap[w.heap.size + 1 + 1]? = some (.cells #[.slice none 0 0, .bool false] 40) := (k7.block (w.heap.size + 1 + 1) (hlt (w := X) n2) (.inr (by omega))).trans n2
                    have p0 : w7.cell? ⟨qn, 0, none⟩ = some (.slice A' (left s') cap') := k7.cell (w := X.drew) g0 (.inr (show w.heap.size ≤ qn by omega))
                    have p1 : w7.cell? ⟨qn, 1, none⟩ = some (.bool (Option.isNone s')) := k7.cell (w := X.drew) g1 (.inr (show w.heap.size ≤ qn by omega))
                    have p3 : w7.cell? ⟨w.heap.size + 1, 1, none⟩ = some (.int .i64 most) := k7.cell (w := X.drew) g2 (.inr (show w.heap.size ≤ w.heap.size + 1 by omega))
                    have o0 : w7.cell? ⟨w.heap.size + 1 + 1, 0, none⟩ = some (.slice none 0 0) := by simp [World.cell?, p2]
                    have o1 : w7.cell? ⟨w.heap.size + 1 + 1, 1, none⟩ = some (.bool false) := by simp [World.cell?, p2]
                    have o2 : w7.frozen? ⟨w.heap.size + 1 + 1, 0, none⟩ = false := by simp [World.frozen?, p2]
                    have o3 : w7.frozen? ⟨w.heap.size + 1 + 1, 1, none⟩ = false := by simp [World.frozen?, p2]
                    have hk7 : Keeps Z w w7 := hkX.drew.trans (k7.mono fun q hq => .inl hq))
    all_goals
      go_wp2
      refine bodyPost_ret (res_cell_tmp rfl _ _ (w.heap.size + 1 + 1) _ _ _ rfl (two_set _ _ _ _ _ _ _ p2)) rfl ?_
      exact ⟨A', cap', rfl, hr, ((h7.store _ _ (.inr (by show w.heap.size ≤ w.heap.size + 1 + 1; omega))).store _ _ (.inr (by show w.heap.size ≤ w.heap.size + 1 + 1; omega))).out (fun q hq => .inl (.inl hq)), (hk7.trans (keeps_setCell _ _ _ (fun hz => absurd (hZ _ hz) (by show ¬ (w.heap.size + 1 + 1 < w.heap.size); omega)))).trans (keeps_setCell _ _ _ (fun hz => absurd (hZ _ hz) (by show ¬ (w.heap.size + 1 + 1 < w.heap.size); omega)))⟩
  rw [if_neg k5]
  have hb0 : Below w.heap.size w (((w.alloc (.cells #[.slice A (left s) cap, .bool s.isNone] 40)).alloc (.cells #[.int .u8 k, .int .i64 most] 44)).alloc (.cells #[.slice none 0 0, .bool false] 40)) := (((Below.refl _ _).alloc (Nat.le_refl _) _).alloc (by simp) _).alloc (by simp; omega) _
  have hs0 : w.heap.size + 3 = (((w.alloc (.cells #[.slice A (left s) cap, .bool s.isNone] 40)).alloc (.cells #[.int .u8 k, .int .i64 most] 44)).alloc (.cells #[.slice none 0 0, .bool false] 40)).heap.size := by simp
  have hi0 := (hi.out (Z' := fun q => Z q ∨ w.heap.size ≤ q) (fun q hq => hq)).below hb0 (Nat.le_refl _)
  have m0 : (((w.alloc (.cells #[.slice A (left s) cap, .bool s.isNone] 40)).alloc (.cells #[.int .u8 k, .int .i64 most] 44)).alloc (.cells #[.slice none 0 0, .bool false] 40)).heap[w.heap.size]? = some (.cells #[.slice A (left s) cap, .bool s.isNone] 40) := (Below.heap_alloc _ _ _ (by simp; omega)).trans (heap_alloc2_old _ _ _)
  have m1 : (((w.alloc (.cells #[.slice A (left s) cap, .bool s.isNone] 40)).alloc (.cells #[.int .u8 k, .int .i64 most] 44)).alloc (.cells #[.slice none 0 0, .bool false] 40)).heap[w.heap.size + 1]? = some (.cells #[.int .u8 k, .int .i64 most] 44) := (Below.heap_alloc _ _ _ (by simp)).trans (heap_alloc2_new _ _ _)
  have m2 : (((w.alloc (.cells #[.slice A (left s) cap, .bool s.isNone] 40)).alloc (.cells #[.int .u8 k, .int .i64 most] 44)).alloc (.cells #[.slice none 0 0, .bool false] 40)).heap[w.heap.size + 1 + 1]? = some (.cells #[.slice none 0 0, .bool false] 40) := by
    have := heap_alloc_new ((w.alloc (.cells #[.slice A (left s) cap, .bool s.isNone] 40)).alloc (.cells #[.int .u8 k, .int .i64 most] 44)) (.cells #[.slice none 0 0, .bool false] 40)
    simpa only [World.size_alloc] using this
  have hr0 := h.below hb0 (Nat.le_refl _)
  generalize hW : (((w.alloc (.cells #[.slice A (left s) cap, .bool s.isNone] 40)).alloc (.cells #[.int .u8 k, .int .i64 most] 44)).alloc (.cells #[.slice none 0 0, .bool false] 40)) = W at hb0 hs0 hi0 m0 m1 m2 hr0
  have f0 : W.cell? ⟨w.heap.size, 0, none⟩ = some (.slice A (left s) cap) := by simp [World.cell?, m0]
  have f1 : W.cell? ⟨w.heap.size, 1, none⟩ = some (.bool s.isNone) := by simp [World.cell?, m0]
  have f2 : W.cell? ⟨w.heap.size + 1, 0, none⟩ = some (.int .u8 k) := by simp [World.cell?, m1]
  have f3 : W.cell? ⟨w.heap.size + 1, 1, none⟩ = some (.int .i64 most) := by simp [World.cell?, m1]
  go_enter Try.func13, Try.ntmps13
  go_wp2_with (
      go_at_call 24
      refine (fail_any _ _ _ _ hi0).mono ?_
      rintro e w7 ⟨rfl, h7, k7⟩
      have p2 : w7.heap[w.heap.size + 1 + 1]? = some (.cells #[.slice none 0 0, .bool false] 40) := (k7.block _ (hlt m2) (.inr (by omega))).trans m2
      have o0 : w7.cell? ⟨w.heap.size + 1 + 1, 0, none⟩ = some (.slice none 0 0) := by simp [World.cell?, p2]
      have o1 : w7.cell? ⟨w.heap.size + 1 + 1, 1, none⟩ = some (.bool false) := by simp [World.cell?, p2]
      have o2 : w7.frozen? ⟨w.heap.size + 1 + 1, 0, none⟩ = false := by simp [World.frozen?, p2]
      have o3 : w7.frozen? ⟨w.heap.size + 1 + 1, 1, none⟩ = false := by simp [World.frozen?, p2]
      have hk7 : Keeps Z w w7 := (keeps_below hb0 (Nat.le_refl _)).trans (k7.mono fun q hq => .inl hq))
  refine bodyPost_ret (res_cell_tmp rfl _ _ (w.heap.size + 1 + 1) _ _ _ rfl (two_set _ _ _ _ _ _ _ p2)) rfl ?_
  exact ⟨none, 0, rfl, fun w0 _ => RLies.bad w0, ((h7.store _ _ (.inr (by show w.heap.size ≤ w.heap.size + 1 + 1; omega))).store _ _ (.inr (by show w.heap.size ≤ w.heap.size + 1 + 1; omega))).out (fun q hq => .inl (.inl hq)), (hk7.trans (keeps_setCell _ _ _ (fun hz => absurd (hZ _ hz) (by show ¬ (w.heap.size + 1 + 1 < w.heap.size); omega)))).trans (keeps_setCell _ _ _ (fun hz => absurd (hZ _ hz) (by show ¬ (w.heap.size + 1 + 1 < w.heap.size); omega)))⟩

end Go.Proofs.Ytjmcbnoofonanaa
