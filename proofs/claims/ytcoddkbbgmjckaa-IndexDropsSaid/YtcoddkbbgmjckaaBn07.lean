/- The calls count, depth, Compare and join of a tree's node, each by its contract. -/
import Derived.Test.YtcoddkbbgmjckaaRows
import Derived.Test.YtcoddkbbgmjckaaBn06
import Derived.WalkKit
import Derived.WalkSpells
import Derived.WalkLawsBesides
import Derived.StillTailTactics
import Derived.Deep.RegionHeld3
import Derived.Lib.Hide
import Derived.Deep.QuietTactic
import Derived.BigQuiet
import Derived.IntWalk
namespace Go.Proofs.Ytcoddkbbgmjckaa.MapKh
open Go.RowKit Go.Proofs.Ytcoddkbbgmjckaa
set_option linter.unusedVariables false
variable {P : Nat → Prop}

theorem count_any (t : T) (u : Option Addr) (w : World) (h : Rp P w u t) : Calls Try.prog 89 #[.pointer u] w fun e w' => e = .returned (.int .i64 (t.size : Int)) ∧ w = w' := by
  cases t with
  | nil =>
    have h0 := h
    obtain ⟨rfl, hE⟩ := h
    go_enter Try.func89, Try.ntmps89
    go_wp2
    go_ret
    exact ⟨rfl, rfl⟩
  | node k v l r =>
    obtain ⟨b, ul, ur, rfl, hPb, c0, c1, c2, c3, c4, c5, hl, hr⟩ := h
    rw [Tr.size_node]
    generalize l.size + 1 + r.size = n at c4 ⊢
    go_enter Try.func89, Try.ntmps89
    go_wp2
    go_ret
    exact ⟨rfl, rfl⟩

theorem depth_any (t : T) (u : Option Addr) (w : World) (h : Rp P w u t) : Calls Try.prog 112 #[.pointer u] w fun e w' => e = .returned (.int .i64 (t.deep : Int)) ∧ w = w' := by
  cases t with
  | nil =>
    have h0 := h
    obtain ⟨rfl, hE⟩ := h
    go_enter Try.func112, Try.ntmps112
    go_wp2
    go_ret
    exact ⟨rfl, rfl⟩
  | node k v l r =>
    obtain ⟨b, ul, ur, rfl, hPb, c0, c1, c2, c3, c4, c5, hl, hr⟩ := h
    rw [Tr.deep_node]
    generalize Nat.max l.deep r.deep + 1 = n at c5 ⊢
    go_enter Try.func112, Try.ntmps112
    go_wp2
    go_ret
    exact ⟨rfl, rfl⟩


theorem nan_any (a : ByteArray) (w : World) : Calls Try.prog 103 #[Value.string a] w fun e w' => e = .returned (.bool false) ∧ w = w' := by
  go_enter Try.func103, Try.ntmps103
  go_wp2
  go_ret
  exact ⟨by simp, rfl⟩

theorem cmp_lt (a b : ByteArray) (h : ltS a b = true) (w : World) : Calls Try.prog 102 #[Value.string a, Value.string b] w fun e w' => e = .returned (.int .i64 (-1)) ∧ w = w' := by
  have h1 : Op.bytesLess a.toList b.toList = true := h
  go_enter Try.func102, Try.ntmps102
  go_wp2_with (go_at_call 103; refine (nan_any _ _).mono ?_; rintro e w' ⟨rfl, rfl⟩)
  go_ret
  exact ⟨rfl, rfl⟩

theorem cmp_gt (a b : ByteArray) (h : ltS b a = true) (w : World) : Calls Try.prog 102 #[Value.string a, Value.string b] w fun e w' => e = .returned (.int .i64 1) ∧ w = w' := by
  have h1 : Op.bytesLess a.toList b.toList = false := ltS_asymm h
  have h2 : (a.toList == b.toList) = false := ltS_ne h
  go_enter Try.func102, Try.ntmps102
  go_wp2_with (go_at_call 103; refine (nan_any _ _).mono ?_; rintro e w' ⟨rfl, rfl⟩)
  go_ret
  exact ⟨rfl, rfl⟩

theorem cmp_eq (a : ByteArray) (w : World) : Calls Try.prog 102 #[Value.string a, Value.string a] w fun e w' => e = .returned (.int .i64 0) ∧ w = w' := by
  have h1 : Op.bytesLess a.toList a.toList = false := ltS_irr a
  go_enter Try.func102, Try.ntmps102
  go_wp2_with (go_at_call 103; refine (nan_any _ _).mono ?_; rintro e w' ⟨rfl, rfl⟩)
  go_ret
  exact ⟨rfl, rfl⟩

/-- A node made of two sides. -/
theorem join_any (l r : T) (ul ur : Option Addr) (k : ByteArray) (v : HL) (w : World) (hl : Rp P w ul l) (hr : Rp P w ur r) (hs : l.size + 1 + r.size ≤ 4000000) :
    Calls Try.prog 108 #[.pointer ul, .agg #[Value.string k, (hlV v)], .pointer ur] w fun e w' => ∃ u, e = .returned (.pointer u) ∧ Rp P w' u (.node k v l r) ∧ Below w.heap.size w w' := by
  have dl := l.deep_le
  have dr := r.deep_le
  have e1 : IntKind.i64.wrap ((l.size : Int) + 1) = (l.size : Int) + 1 := IntWalk.i64_in _ (by omega)
  have e2 : IntKind.i64.wrap ((l.size : Int) + 1 + (r.size : Int)) = (l.size : Int) + 1 + (r.size : Int) := IntWalk.i64_in _ (by omega)
  have e3 : IntKind.i64.wrap ((l.deep : Int) + 1) = (l.deep : Int) + 1 := IntWalk.i64_in _ (by omega)
  have e4 : IntKind.i64.wrap ((r.deep : Int) + 1) = (r.deep : Int) + 1 := IntWalk.i64_in _ (by omega)
  by_cases hlt : l.deep < r.deep
  all_goals
    go_enter Try.func108, Try.ntmps108
    go_wp2
    go_region_held3 (fun w' => w'.cell? ⟨w.heap.size, 0, none⟩ = some (Value.string k) ∧ w'.cell? ⟨w.heap.size, 1, none⟩ = some ((hlV v))) (go_keep)
      (first
        | (go_at_call_of 89 (Value.pointer ul); refine (count_any (P := P) l ul _ ?_).mono ?_; (repeat (first | with_reducible exact hl | refine Rp.alloc _ ?_ | refine Rp.drew ?_)); rintro e w' ⟨rfl, rfl⟩)
        | (go_at_call_of 89 (Value.pointer ur); refine (count_any (P := P) r ur _ ?_).mono ?_; (repeat (first | with_reducible exact hr | refine Rp.alloc _ ?_ | refine Rp.drew ?_)); rintro e w' ⟨rfl, rfl⟩)
        | (go_at_call_of 112 (Value.pointer ul); refine (depth_any (P := P) l ul _ ?_).mono ?_; (repeat (first | with_reducible exact hl | refine Rp.alloc _ ?_ | refine Rp.drew ?_)); rintro e w' ⟨rfl, rfl⟩)
        | (go_at_call_of 112 (Value.pointer ur); refine (depth_any (P := P) r ur _ ?_).mono ?_; (repeat (first | with_reducible exact hr | refine Rp.alloc _ ?_ | refine Rp.drew ?_)); rintro e w' ⟨rfl, rfl⟩))
    go_wp2
    go_ret
  · refine ⟨some ⟨w.heap.size + 1, 0, none⟩, rfl, Rp.made hl hr _ _ ?_ ?_, (((Below.refl _ _).alloc (Nat.le_refl _) _).alloc (by simp) _).drew⟩
    · push_cast; rfl
    · rw [show Nat.max l.deep r.deep = r.deep from Nat.max_eq_right (Nat.le_of_lt hlt)]; push_cast; rfl
  · refine ⟨some ⟨w.heap.size + 1, 0, none⟩, rfl, Rp.made hl hr _ _ ?_ ?_, (((Below.refl _ _).alloc (Nat.le_refl _) _).alloc (by simp) _).drew⟩
    · push_cast; rfl
    · rw [show Nat.max l.deep r.deep = l.deep from Nat.max_eq_left (Nat.not_lt.1 hlt)]; push_cast; rfl

end Go.Proofs.Ytcoddkbbgmjckaa.MapKh

namespace Go.Proofs.Ytcoddkbbgmjckaa.MapKh
open Go.RowKit Go.Proofs.Ytcoddkbbgmjckaa
set_option linter.unusedVariables false
variable {P : Nat → Prop}

set_option maxHeartbeats 1600000 in
theorem leanR_one (lk k : ByteArray) (lv v : HL) (ll lr r : T) (ul ur : Option Addr) (w : World) (hl : Rp P w ul (.node lk lv ll lr)) (hr : Rp P w ur r) (hs : (ll.size + 1 + lr.size) + 1 + r.size ≤ 4000000) (hd : lr.deep ≤ ll.deep) :
    Calls Try.prog 113 #[.pointer ul, .agg #[Value.string k, (hlV v)], .pointer ur] w fun e w' => ∃ u, e = .returned (.pointer u) ∧ Rp P w' u (.node lk lv ll (.node k v lr r)) ∧ Below w.heap.size w w' := by
  obtain ⟨b, ull, ulr, rfl, hPb, c0, c1, c2, c3, c4, c5, hll, hlr⟩ := hl
  have hbw : b < w.heap.size := World.block_lt_of_cell? w _ c0
  have hd' : decide (lr.deep ≤ ll.deep) = true := decide_eq_true hd
  go_enter Try.func113, Try.ntmps113
  go_wp2
  go_region_held3 (fun w' => w'.cell? ⟨b, 2, none⟩ = some (.pointer ull)) (go_keep)
    (first
      | (go_at_call_of 112 (Value.pointer ulr); refine (depth_any (P := P) lr ulr _ ?_).mono ?_; (repeat (first | with_reducible exact hlr | refine Rp.alloc _ ?_ | refine Rp.drew ?_)); rintro e w' ⟨rfl, rfl⟩)
      | (go_at_call_of 112 (Value.pointer ull); refine (depth_any (P := P) ll ull _ ?_).mono ?_; (repeat (first | with_reducible exact hll | refine Rp.alloc _ ?_ | refine Rp.drew ?_)); rintro e w' ⟨rfl, rfl⟩))
  go_wp2
  go_region_held3 (fun w' => (w'.cell? ⟨b, 0, none⟩ = some (Value.string lk) ∧ w'.cell? ⟨b, 1, none⟩ = some ((hlV lv)) ∧ w'.cell? ⟨b, 2, none⟩ = some (.pointer ull)) ∧ w'.cell? ⟨w.heap.size, 0, none⟩ = some (Value.string k) ∧ w'.cell? ⟨w.heap.size, 1, none⟩ = some ((hlV v)))
    (first | go_keep | ((repeat' apply And.intro) <;> (refine (hb1.cell (by simp <;> omega)).trans ?_; simp [go_sem, *])))
    (first
      | (go_at_call_of 108 (Value.pointer ur); refine (join_any (P := P) lr r ulr ur _ _ _ ?_ ?_ (by omega)).mono ?_; (repeat (first | with_reducible exact hlr | refine Rp.alloc _ ?_ | refine Rp.drew ?_)); (repeat (first | with_reducible exact hr | refine Rp.alloc _ ?_ | refine Rp.drew ?_)); rintro e w1 ⟨u1, rfl, hr1, hb1⟩)
      | (go_at_call_of 108 (Value.pointer ull); refine (join_any (P := P) ll (.node k v lr r) ull u1 _ _ _ ?_ ?_ (by simp only [Tr.size_node]; omega)).mono ?_; refine Rp.below hb1 (Nat.le_refl _) ?_; (repeat (first | with_reducible exact hll | refine Rp.alloc _ ?_ | refine Rp.drew ?_)); exact hr1; rintro e w2 ⟨u2, rfl, hr2, hb2⟩; replace hb1 := hb1.trans (hb2.mono hb1.size)))
  go_wp2
  go_ret
  exact ⟨_, rfl, hr2, Tr.below_of hb1 (by repeat (first | exact Below.refl _ _ | apply Below.drew | refine Below.alloc ?_ (by simp <;> omega) _))⟩

set_option maxHeartbeats 3200000 in
theorem leanR_two (lk mk k : ByteArray) (lv mv v : HL) (ll ml mr r : T) (ul ur : Option Addr) (w : World) (hl : Rp P w ul (.node lk lv ll (.node mk mv ml mr))) (hr : Rp P w ur r)
    (hs : (ll.size + 1 + (ml.size + 1 + mr.size)) + 1 + r.size ≤ 4000000) (hd : ll.deep < Nat.max ml.deep mr.deep + 1) :
    Calls Try.prog 113 #[.pointer ul, .agg #[Value.string k, (hlV v)], .pointer ur] w fun e w' => ∃ u, e = .returned (.pointer u) ∧ Rp P w' u (.node mk mv (.node lk lv ll ml) (.node k v mr r)) ∧ Below w.heap.size w w' := by
  obtain ⟨b, ull, ulr, rfl, hPb, c0, c1, c2, c3, c4, c5, hll, hlr⟩ := hl
  have hlr' := hlr
  obtain ⟨m, uml, umr, rfl, hPd, d0, d1, d2, d3, d4, d5, hml, hmr⟩ := hlr'
  have hbw : b < w.heap.size := World.block_lt_of_cell? w _ c0
  have hmw : m < w.heap.size := World.block_lt_of_cell? w _ d0
  have hd' : decide ((Tr.node mk mv ml mr).deep ≤ ll.deep) = false := decide_eq_false (by rw [Tr.deep_node]; omega)
  go_enter Try.func113, Try.ntmps113
  go_wp2
  go_region_held3 (fun w' => w'.cell? ⟨b, 2, none⟩ = some (.pointer ull)) (go_keep)
    (first
      | (go_at_call_of 112 (Value.pointer ull); refine (depth_any (P := P) ll ull _ ?_).mono ?_; (repeat (first | with_reducible exact hll | refine Rp.alloc _ ?_ | refine Rp.drew ?_)); rintro e w' ⟨rfl, rfl⟩)
      | (go_at_call 112; refine (depth_any (P := P) (.node mk mv ml mr) (some ⟨m, 0, none⟩) _ ?_).mono ?_; (repeat (first | with_reducible exact hlr | refine Rp.alloc _ ?_ | refine Rp.drew ?_)); rintro e w' ⟨rfl, rfl⟩))
  go_wp2
  go_region_held3 (fun w' => (w'.cell? ⟨b, 0, none⟩ = some (Value.string lk) ∧ w'.cell? ⟨b, 1, none⟩ = some ((hlV lv)) ∧ w'.cell? ⟨b, 2, none⟩ = some (.pointer ull)) ∧
      (w'.cell? ⟨m, 0, none⟩ = some (Value.string mk) ∧ w'.cell? ⟨m, 1, none⟩ = some ((hlV mv)) ∧ w'.cell? ⟨m, 2, none⟩ = some (.pointer uml) ∧ w'.cell? ⟨m, 3, none⟩ = some (.pointer umr)) ∧
      w'.cell? ⟨w.heap.size, 0, none⟩ = some (Value.string k) ∧ w'.cell? ⟨w.heap.size, 1, none⟩ = some ((hlV v)))
    (first | go_keep | ((repeat' apply And.intro) <;> (refine (hb1.cell (by simp <;> omega)).trans ?_; simp [go_sem, *])))
    (first
      | (go_at_call_of 108 (Value.pointer ull); refine (join_any (P := P) ll ml ull uml _ _ _ ?_ ?_ (by omega)).mono ?_; (repeat (first | with_reducible exact hll | refine Rp.alloc _ ?_ | refine Rp.drew ?_)); (repeat (first | with_reducible exact hml | refine Rp.alloc _ ?_ | refine Rp.drew ?_)); rintro e w1 ⟨u1, rfl, hr1, hb1⟩)
      | (go_at_call_of 108 (Value.pointer ur); refine (join_any (P := P) mr r umr ur _ _ _ ?_ ?_ (by omega)).mono ?_; (refine Rp.below hb1 (Nat.le_refl _) ?_; (repeat (first | with_reducible exact hmr | refine Rp.alloc _ ?_ | refine Rp.drew ?_))); (refine Rp.below hb1 (Nat.le_refl _) ?_; (repeat (first | with_reducible exact hr | refine Rp.alloc _ ?_ | refine Rp.drew ?_))); rintro e w2 ⟨u2, rfl, hr2, hb2⟩; replace hr1 := hr1.below hb2 (Nat.le_refl _); replace hb1 := hb1.trans (hb2.mono hb1.size))
      | (go_at_call_of 108 (Value.pointer u1); refine (join_any (P := P) (.node lk lv ll ml) (.node k v mr r) u1 u2 _ _ _ hr1 hr2 (by simp only [Tr.size_node]; omega)).mono ?_; rintro e w3 ⟨u3, rfl, hr3, hb3⟩; replace hb1 := hb1.trans (hb3.mono hb1.size)))
  go_wp2
  go_ret
  exact ⟨_, rfl, hr3, Tr.below_of hb1 (by repeat (first | exact Below.refl _ _ | apply Below.drew | refine Below.alloc ?_ (by simp <;> omega) _))⟩

set_option maxHeartbeats 1600000 in
theorem leanL_one (rk k : ByteArray) (rv v : HL) (l rl rr : T) (ul ur : Option Addr) (w : World) (hr : Rp P w ur (.node rk rv rl rr)) (hl : Rp P w ul l) (hs : l.size + 1 + (rl.size + 1 + rr.size) ≤ 4000000) (hd : rl.deep ≤ rr.deep) :
    Calls Try.prog 114 #[.pointer ul, .agg #[Value.string k, (hlV v)], .pointer ur] w fun e w' => ∃ u, e = .returned (.pointer u) ∧ Rp P w' u (.node rk rv (.node k v l rl) rr) ∧ Below w.heap.size w w' := by
  obtain ⟨b, url, urr, rfl, hPb, c0, c1, c2, c3, c4, c5, hrl, hrr⟩ := hr
  have hbw : b < w.heap.size := World.block_lt_of_cell? w _ c0
  have hd' : decide (rl.deep ≤ rr.deep) = true := decide_eq_true hd
  go_enter Try.func114, Try.ntmps114
  go_wp2
  go_region_held3 (fun w' => w'.cell? ⟨b, 3, none⟩ = some (.pointer urr)) (go_keep)
    (first
      | (go_at_call_of 112 (Value.pointer url); refine (depth_any (P := P) rl url _ ?_).mono ?_; (repeat (first | with_reducible exact hrl | refine Rp.alloc _ ?_ | refine Rp.drew ?_)); rintro e w' ⟨rfl, rfl⟩)
      | (go_at_call_of 112 (Value.pointer urr); refine (depth_any (P := P) rr urr _ ?_).mono ?_; (repeat (first | with_reducible exact hrr | refine Rp.alloc _ ?_ | refine Rp.drew ?_)); rintro e w' ⟨rfl, rfl⟩))
  go_wp2
  go_region_held3 (fun w' => (w'.cell? ⟨b, 0, none⟩ = some (Value.string rk) ∧ w'.cell? ⟨b, 1, none⟩ = some ((hlV rv)) ∧ w'.cell? ⟨b, 3, none⟩ = some (.pointer urr)) ∧ w'.cell? ⟨w.heap.size, 0, none⟩ = some (Value.string k) ∧ w'.cell? ⟨w.heap.size, 1, none⟩ = some ((hlV v)))
    (first | go_keep | ((repeat' apply And.intro) <;> (refine (hb1.cell (by simp <;> omega)).trans ?_; simp [go_sem, *])))
    (first
      | (go_at_call_of 108 (Value.pointer ul); refine (join_any (P := P) l rl ul url _ _ _ ?_ ?_ (by omega)).mono ?_; (repeat (first | with_reducible exact hl | refine Rp.alloc _ ?_ | refine Rp.drew ?_)); (repeat (first | with_reducible exact hrl | refine Rp.alloc _ ?_ | refine Rp.drew ?_)); rintro e w1 ⟨u1, rfl, hr1, hb1⟩)
      | (go_at_call_of 108 (Value.pointer urr); refine (join_any (P := P) (.node k v l rl) rr u1 urr _ _ _ hr1 ?_ (by simp only [Tr.size_node]; omega)).mono ?_; refine Rp.below hb1 (Nat.le_refl _) ?_; (repeat (first | with_reducible exact hrr | refine Rp.alloc _ ?_ | refine Rp.drew ?_)); rintro e w2 ⟨u2, rfl, hr2, hb2⟩; replace hb1 := hb1.trans (hb2.mono hb1.size)))
  go_wp2
  go_ret
  exact ⟨_, rfl, hr2, Tr.below_of hb1 (by repeat (first | exact Below.refl _ _ | apply Below.drew | refine Below.alloc ?_ (by simp <;> omega) _))⟩

set_option maxHeartbeats 3200000 in
theorem leanL_two (rk mk k : ByteArray) (rv mv v : HL) (l ml mr rr : T) (ul ur : Option Addr) (w : World) (hr : Rp P w ur (.node rk rv (.node mk mv ml mr) rr)) (hl : Rp P w ul l)
    (hs : l.size + 1 + ((ml.size + 1 + mr.size) + 1 + rr.size) ≤ 4000000) (hd : rr.deep < Nat.max ml.deep mr.deep + 1) :
    Calls Try.prog 114 #[.pointer ul, .agg #[Value.string k, (hlV v)], .pointer ur] w fun e w' => ∃ u, e = .returned (.pointer u) ∧ Rp P w' u (.node mk mv (.node k v l ml) (.node rk rv mr rr)) ∧ Below w.heap.size w w' := by
  obtain ⟨b, url, urr, rfl, hPb, c0, c1, c2, c3, c4, c5, hrl, hrr⟩ := hr
  have hrl' := hrl
  obtain ⟨m, uml, umr, rfl, hPd, d0, d1, d2, d3, d4, d5, hml, hmr⟩ := hrl'
  have hbw : b < w.heap.size := World.block_lt_of_cell? w _ c0
  have hmw : m < w.heap.size := World.block_lt_of_cell? w _ d0
  have hd' : decide ((Tr.node mk mv ml mr).deep ≤ rr.deep) = false := decide_eq_false (by rw [Tr.deep_node]; omega)
  go_enter Try.func114, Try.ntmps114
  go_wp2
  go_region_held3 (fun w' => w'.cell? ⟨b, 3, none⟩ = some (.pointer urr)) (go_keep)
    (first
      | (go_at_call_of 112 (Value.pointer urr); refine (depth_any (P := P) rr urr _ ?_).mono ?_; (repeat (first | with_reducible exact hrr | refine Rp.alloc _ ?_ | refine Rp.drew ?_)); rintro e w' ⟨rfl, rfl⟩)
      | (go_at_call 112; refine (depth_any (P := P) (.node mk mv ml mr) (some ⟨m, 0, none⟩) _ ?_).mono ?_; (repeat (first | with_reducible exact hrl | refine Rp.alloc _ ?_ | refine Rp.drew ?_)); rintro e w' ⟨rfl, rfl⟩))
  go_wp2
  go_region_held3 (fun w' => (w'.cell? ⟨b, 0, none⟩ = some (Value.string rk) ∧ w'.cell? ⟨b, 1, none⟩ = some ((hlV rv)) ∧ w'.cell? ⟨b, 3, none⟩ = some (.pointer urr)) ∧
      (w'.cell? ⟨m, 0, none⟩ = some (Value.string mk) ∧ w'.cell? ⟨m, 1, none⟩ = some ((hlV mv)) ∧ w'.cell? ⟨m, 2, none⟩ = some (.pointer uml) ∧ w'.cell? ⟨m, 3, none⟩ = some (.pointer umr)) ∧
      w'.cell? ⟨w.heap.size, 0, none⟩ = some (Value.string k) ∧ w'.cell? ⟨w.heap.size, 1, none⟩ = some ((hlV v)))
    (first | go_keep | ((repeat' apply And.intro) <;> (refine (hb1.cell (by simp <;> omega)).trans ?_; simp [go_sem, *])))
    (first
      | (go_at_call_of 108 (Value.pointer ul); refine (join_any (P := P) l ml ul uml _ _ _ ?_ ?_ (by omega)).mono ?_; (repeat (first | with_reducible exact hl | refine Rp.alloc _ ?_ | refine Rp.drew ?_)); (repeat (first | with_reducible exact hml | refine Rp.alloc _ ?_ | refine Rp.drew ?_)); rintro e w1 ⟨u1, rfl, hr1, hb1⟩)
      | (go_at_call_of 108 (Value.pointer urr); refine (join_any (P := P) mr rr umr urr _ _ _ ?_ ?_ (by omega)).mono ?_; (refine Rp.below hb1 (Nat.le_refl _) ?_; (repeat (first | with_reducible exact hmr | refine Rp.alloc _ ?_ | refine Rp.drew ?_))); (refine Rp.below hb1 (Nat.le_refl _) ?_; (repeat (first | with_reducible exact hrr | refine Rp.alloc _ ?_ | refine Rp.drew ?_))); rintro e w2 ⟨u2, rfl, hr2, hb2⟩; replace hr1 := hr1.below hb2 (Nat.le_refl _); replace hb1 := hb1.trans (hb2.mono hb1.size))
      | (go_at_call_of 108 (Value.pointer u1); refine (join_any (P := P) (.node k v l ml) (.node rk rv mr rr) u1 u2 _ _ _ hr1 hr2 (by simp only [Tr.size_node]; omega)).mono ?_; rintro e w3 ⟨u3, rfl, hr3, hb3⟩; replace hb1 := hb1.trans (hb3.mono hb1.size)))
  go_wp2
  go_ret
  exact ⟨_, rfl, hr3, Tr.below_of hb1 (by repeat (first | exact Below.refl _ _ | apply Below.drew | refine Below.alloc ?_ (by simp <;> omega) _))⟩

theorem leanR_any (l r : T) (ul ur : Option Addr) (k : ByteArray) (v : HL) (w : World) (hl : Rp P w ul l) (hr : Rp P w ur r) (hs : l.size + 1 + r.size ≤ 4000000) (hd : 1 ≤ l.deep) :
    Calls Try.prog 113 #[.pointer ul, .agg #[Value.string k, (hlV v)], .pointer ur] w fun e w' => ∃ u, e = .returned (.pointer u) ∧ Rp P w' u (Tr.leanR l k v r) ∧ Below w.heap.size w w' := by
  unfold Tr.leanR
  split
  · rw [Tr.deep_nil] at hd; omega
  · rename_i lk lv ll lr
    split
    · rename_i h; exact leanR_one lk k lv v ll lr r ul ur w hl hr (by simpa only [Tr.size_node] using hs) h
    · rename_i h
      split
      · rw [Tr.deep_nil] at h; omega
      · rename_i mk mv ml mr; rw [Tr.deep_node] at h; exact leanR_two lk mk k lv mv v ll ml mr r ul ur w hl hr (by simpa only [Tr.size_node] using hs) (by omega)

theorem leanL_any (l r : T) (ul ur : Option Addr) (k : ByteArray) (v : HL) (w : World) (hl : Rp P w ul l) (hr : Rp P w ur r) (hs : l.size + 1 + r.size ≤ 4000000) (hd : 1 ≤ r.deep) :
    Calls Try.prog 114 #[.pointer ul, .agg #[Value.string k, (hlV v)], .pointer ur] w fun e w' => ∃ u, e = .returned (.pointer u) ∧ Rp P w' u (Tr.leanL l k v r) ∧ Below w.heap.size w w' := by
  unfold Tr.leanL
  split
  · rw [Tr.deep_nil] at hd; omega
  · rename_i rk rv rl rr
    split
    · rename_i h; exact leanL_one rk k rv v l rl rr ul ur w hr hl (by simpa only [Tr.size_node] using hs) h
    · rename_i h
      split
      · rw [Tr.deep_nil] at h; omega
      · rename_i mk mv ml mr; rw [Tr.deep_node] at h; exact leanL_two rk mk k rv mv v l ml mr rr ul ur w hr hl (by simpa only [Tr.size_node] using hs) (by omega)

end Go.Proofs.Ytcoddkbbgmjckaa.MapKh

namespace Go.Proofs.Ytcoddkbbgmjckaa.MapKh
open Go.RowKit Go.Proofs.Ytcoddkbbgmjckaa
set_option linter.unusedVariables false
variable {P : Nat → Prop}

theorem balance_any (l r : T) (ul ur : Option Addr) (k : ByteArray) (v : HL) (w : World) (hl : Rp P w ul l) (hr : Rp P w ur r) (hs : l.size + 1 + r.size ≤ 4000000) :
    Calls Try.prog 107 #[.pointer ul, .agg #[Value.string k, (hlV v)], .pointer ur] w fun e w' => ∃ u, e = .returned (.pointer u) ∧ Rp P w' u (Tr.bal l k v r) ∧ Below w.heap.size w w' := by
  have dl := l.deep_le
  have dr := r.deep_le
  have e1 : IntKind.i64.wrap ((l.deep : Int) + 1) = (l.deep : Int) + 1 := IntWalk.i64_in _ (by omega)
  have e2 : IntKind.i64.wrap ((r.deep : Int) + 1) = (r.deep : Int) + 1 := IntWalk.i64_in _ (by omega)
  by_cases h1 : r.deep + 1 < l.deep
  · have h1' : (r.deep : Int) + 1 < (l.deep : Int) := by omega
    rw [show Tr.bal l k v r = Tr.leanR l k v r from if_pos h1]
    go_enter Try.func107, Try.ntmps107
    go_wp2_with (first
      | (go_at_call_of 112 (Value.pointer ul); refine (depth_any (P := P) l ul _ ?_).mono ?_; (repeat (first | with_reducible exact hl | refine Rp.alloc _ ?_ | refine Rp.drew ?_)); rintro e w' ⟨rfl, rfl⟩)
      | (go_at_call_of 112 (Value.pointer ur); refine (depth_any (P := P) r ur _ ?_).mono ?_; (repeat (first | with_reducible exact hr | refine Rp.alloc _ ?_ | refine Rp.drew ?_)); rintro e w' ⟨rfl, rfl⟩)
      | (go_at_call 113; refine (leanR_any (P := P) l r ul ur _ _ _ ?_ ?_ hs (by omega)).mono ?_; (repeat (first | with_reducible exact hl | refine Rp.alloc _ ?_ | refine Rp.drew ?_)); (repeat (first | with_reducible exact hr | refine Rp.alloc _ ?_ | refine Rp.drew ?_)); rintro e w1 ⟨u1, rfl, hr1, hb1⟩))
    go_ret
    exact ⟨_, rfl, hr1, Tr.below_of hb1 (by repeat (first | exact Below.refl _ _ | apply Below.drew | refine Below.alloc ?_ (by simp <;> omega) _))⟩
  · by_cases h2 : l.deep + 1 < r.deep
    · have h1' : (l.deep : Int) ≤ (r.deep : Int) + 1 := by omega
      have h2' : (l.deep : Int) + 1 < (r.deep : Int) := by omega
      rw [show Tr.bal l k v r = Tr.leanL l k v r from (if_neg h1).trans (if_pos h2)]
      go_enter Try.func107, Try.ntmps107
      go_wp2_with (first
        | (go_at_call_of 112 (Value.pointer ul); refine (depth_any (P := P) l ul _ ?_).mono ?_; (repeat (first | with_reducible exact hl | refine Rp.alloc _ ?_ | refine Rp.drew ?_)); rintro e w' ⟨rfl, rfl⟩)
        | (go_at_call_of 112 (Value.pointer ur); refine (depth_any (P := P) r ur _ ?_).mono ?_; (repeat (first | with_reducible exact hr | refine Rp.alloc _ ?_ | refine Rp.drew ?_)); rintro e w' ⟨rfl, rfl⟩)
        | (go_at_call 114; refine (leanL_any (P := P) l r ul ur _ _ _ ?_ ?_ hs (by omega)).mono ?_; (repeat (first | with_reducible exact hl | refine Rp.alloc _ ?_ | refine Rp.drew ?_)); (repeat (first | with_reducible exact hr | refine Rp.alloc _ ?_ | refine Rp.drew ?_)); rintro e w1 ⟨u1, rfl, hr1, hb1⟩))
      go_ret
      exact ⟨_, rfl, hr1, Tr.below_of hb1 (by repeat (first | exact Below.refl _ _ | apply Below.drew | refine Below.alloc ?_ (by simp <;> omega) _))⟩
    · have h1' : (l.deep : Int) ≤ (r.deep : Int) + 1 := by omega
      have h2' : (r.deep : Int) ≤ (l.deep : Int) + 1 := by omega
      rw [show Tr.bal l k v r = Tr.node k v l r from (if_neg h1).trans (if_neg h2)]
      go_enter Try.func107, Try.ntmps107
      go_wp2_with (first
        | (go_at_call_of 112 (Value.pointer ul); refine (depth_any (P := P) l ul _ ?_).mono ?_; (repeat (first | with_reducible exact hl | refine Rp.alloc _ ?_ | refine Rp.drew ?_)); rintro e w' ⟨rfl, rfl⟩)
        | (go_at_call_of 112 (Value.pointer ur); refine (depth_any (P := P) r ur _ ?_).mono ?_; (repeat (first | with_reducible exact hr | refine Rp.alloc _ ?_ | refine Rp.drew ?_)); rintro e w' ⟨rfl, rfl⟩)
        | (go_at_call 108; refine (join_any (P := P) l r ul ur _ _ _ ?_ ?_ hs).mono ?_; (repeat (first | with_reducible exact hl | refine Rp.alloc _ ?_ | refine Rp.drew ?_)); (repeat (first | with_reducible exact hr | refine Rp.alloc _ ?_ | refine Rp.drew ?_)); rintro e w1 ⟨u1, rfl, hr1, hb1⟩))
      go_ret
      exact ⟨_, rfl, hr1, Tr.below_of hb1 (by repeat (first | exact Below.refl _ _ | apply Below.drew | refine Below.alloc ?_ (by simp <;> omega) _))⟩

set_option maxHeartbeats 3200000 in
theorem put_any (k : ByteArray) (v : HL) (t : T) : ∀ (u : Option Addr) (w : World), Rp P w u t → t.size + 1 ≤ 4000000 →
    Calls Try.prog 99 #[.pointer u, .agg #[Value.string k, (hlV v)]] w fun e w' => ∃ u', e = .returned (.pointer u') ∧ Rp P w' u' (Tr.put ltS k v t) ∧ Below w.heap.size w w' := by
  induction t with
  | nil =>
    intro u w h hs
    have h0 := h
    obtain ⟨rfl, hE⟩ := h
    go_enter Try.func99, Try.ntmps99
    go_wp2_with (go_at_call 108; refine (join_any (P := P) .nil .nil none none _ _ _ ?_ ?_ (by simp only [Tr.size_nil]; omega)).mono ?_; (repeat (first | with_reducible exact h0 | refine Rp.alloc _ ?_ | refine Rp.drew ?_)); (repeat (first | with_reducible exact h0 | refine Rp.alloc _ ?_ | refine Rp.drew ?_)); rintro e w1 ⟨u1, rfl, hr1, hb1⟩)
    go_ret
    exact ⟨_, rfl, hr1, Tr.below_of hb1 (by repeat (first | exact Below.refl _ _ | apply Below.drew | refine Below.alloc ?_ (by simp <;> omega) _))⟩
  | node nk nv l r ihl ihr =>
    intro u w h hs
    rw [Tr.size_node] at hs
    obtain ⟨b, ul, ur, rfl, hPb, c0, c1, c2, c3, c4, c5, hl, hr⟩ := h
    have hbw : b < w.heap.size := World.block_lt_of_cell? w _ c0
    have szl := Tr.size_put ltS k v l
    have szr := Tr.size_put ltS k v r
    cases hlt : ltS k nk with
    | true =>
      rw [show Tr.put ltS k v (.node nk nv l r) = Tr.bal (Tr.put ltS k v l) nk nv r by rw [Tr.put, if_pos hlt]]
      go_enter Try.func99, Try.ntmps99
      go_wp2
      go_region_held3 (fun w' => w'.cell? ⟨b, 0, none⟩ = some (Value.string nk) ∧ w'.cell? ⟨w.heap.size, 0, none⟩ = some (Value.string k)) (go_keep)
        (first
          | (go_at_call 102; refine (cmp_lt _ _ hlt _).mono ?_; rintro e w' ⟨rfl, rfl⟩))
      go_wp2
      go_region_held3 (fun w' => (w'.cell? ⟨b, 0, none⟩ = some (Value.string nk) ∧ w'.cell? ⟨b, 1, none⟩ = some ((hlV nv)) ∧ w'.cell? ⟨b, 2, none⟩ = some (.pointer ul) ∧ w'.cell? ⟨b, 3, none⟩ = some (.pointer ur)) ∧
          w'.cell? ⟨w.heap.size, 0, none⟩ = some (Value.string k) ∧ w'.cell? ⟨w.heap.size, 1, none⟩ = some ((hlV v)))
        (first | go_keep | ((repeat' apply And.intro) <;> (refine (hb1.cell (by simp <;> omega)).trans ?_; simp [go_sem, *])))
        (first
          | (go_at_call 99; refine (ihl ul _ ?_ (by omega)).mono ?_; (repeat (first | with_reducible exact hl | refine Rp.alloc _ ?_ | refine Rp.drew ?_)); rintro e w1 ⟨u1, rfl, hr1, hb1⟩)
          | (go_at_call 107; refine (balance_any (P := P) (Tr.put ltS k v l) r u1 ur _ _ _ hr1 ?_ (by omega)).mono ?_; refine Rp.below hb1 (Nat.le_refl _) ?_; (repeat (first | with_reducible exact hr | refine Rp.alloc _ ?_ | refine Rp.drew ?_)); rintro e w2 ⟨u2, rfl, hr2, hb2⟩; replace hb1 := hb1.trans (hb2.mono hb1.size)))
      go_wp2
      go_ret
      exact ⟨_, rfl, hr2, Tr.below_of hb1 (by repeat (first | exact Below.refl _ _ | apply Below.drew | refine Below.alloc ?_ (by simp <;> omega) _))⟩
    | false =>
      cases hgt : ltS nk k with
      | true =>
        rw [show Tr.put ltS k v (.node nk nv l r) = Tr.bal l nk nv (Tr.put ltS k v r) by rw [Tr.put, if_neg (by rw [hlt]; decide), if_pos hgt]]
        go_enter Try.func99, Try.ntmps99
        go_wp2
        go_region_held3 (fun w' => w'.cell? ⟨b, 0, none⟩ = some (Value.string nk) ∧ w'.cell? ⟨w.heap.size, 0, none⟩ = some (Value.string k)) (go_keep)
          (first
            | (go_at_call 102; refine (cmp_gt _ _ hgt _).mono ?_; rintro e w' ⟨rfl, rfl⟩))
        go_wp2
        go_region_held3 (fun w' => (w'.cell? ⟨b, 0, none⟩ = some (Value.string nk) ∧ w'.cell? ⟨b, 1, none⟩ = some ((hlV nv)) ∧ w'.cell? ⟨b, 2, none⟩ = some (.pointer ul) ∧ w'.cell? ⟨b, 3, none⟩ = some (.pointer ur)) ∧
            w'.cell? ⟨w.heap.size, 0, none⟩ = some (Value.string k) ∧ w'.cell? ⟨w.heap.size, 1, none⟩ = some ((hlV v)))
          (first | go_keep | ((repeat' apply And.intro) <;> (refine (hb1.cell (by simp <;> omega)).trans ?_; simp [go_sem, *])))
          (first
            | (go_at_call 99; refine (ihr ur _ ?_ (by omega)).mono ?_; (repeat (first | with_reducible exact hr | refine Rp.alloc _ ?_ | refine Rp.drew ?_)); rintro e w1 ⟨u1, rfl, hr1, hb1⟩)
            | (go_at_call 107; refine (balance_any (P := P) l (Tr.put ltS k v r) ul u1 _ _ _ ?_ hr1 (by omega)).mono ?_; refine Rp.below hb1 (Nat.le_refl _) ?_; (repeat (first | with_reducible exact hl | refine Rp.alloc _ ?_ | refine Rp.drew ?_)); rintro e w2 ⟨u2, rfl, hr2, hb2⟩; replace hb1 := hb1.trans (hb2.mono hb1.size)))
        go_wp2
        go_ret
        exact ⟨_, rfl, hr2, Tr.below_of hb1 (by repeat (first | exact Below.refl _ _ | apply Below.drew | refine Below.alloc ?_ (by simp <;> omega) _))⟩
      | false =>
        obtain rfl : k = nk := ltS_con hlt hgt
        rw [show Tr.put ltS k v (.node k nv l r) = Tr.node k v l r by rw [Tr.put, if_neg (by rw [hlt]; decide), if_neg (by rw [hlt]; decide)]]
        go_enter Try.func99, Try.ntmps99
        go_wp2
        go_region_held3 (fun w' => w'.cell? ⟨b, 0, none⟩ = some (Value.string k) ∧ w'.cell? ⟨w.heap.size, 0, none⟩ = some (Value.string k)) (go_keep)
          (first
            | (go_at_call 102; refine (cmp_eq _ _).mono ?_; rintro e w' ⟨rfl, rfl⟩))
        go_wp2
        go_region_held3 (fun w' => (w'.cell? ⟨b, 2, none⟩ = some (.pointer ul) ∧ w'.cell? ⟨b, 3, none⟩ = some (.pointer ur)) ∧
            w'.cell? ⟨w.heap.size, 0, none⟩ = some (Value.string k) ∧ w'.cell? ⟨w.heap.size, 1, none⟩ = some ((hlV v)))
          (first | go_keep | ((repeat' apply And.intro) <;> (refine (hb1.cell (by simp <;> omega)).trans ?_; simp [go_sem, *])))
          (first
            | (go_at_call 108; refine (join_any (P := P) l r ul ur _ _ _ ?_ ?_ (by omega)).mono ?_; (repeat (first | with_reducible exact hl | refine Rp.alloc _ ?_ | refine Rp.drew ?_)); (repeat (first | with_reducible exact hr | refine Rp.alloc _ ?_ | refine Rp.drew ?_)); rintro e w1 ⟨u1, rfl, hr1, hb1⟩))
        go_wp2
        go_ret
        exact ⟨_, rfl, hr1, Tr.below_of hb1 (by repeat (first | exact Below.refl _ _ | apply Below.drew | refine Below.alloc ?_ (by simp <;> omega) _))⟩

end Go.Proofs.Ytcoddkbbgmjckaa.MapKh
