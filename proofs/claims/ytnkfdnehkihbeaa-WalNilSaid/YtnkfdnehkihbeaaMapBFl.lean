/- The calls leanRight, leanLeft and balance of a tree's node, each by its contract. -/
import Derived.Test.YtnkfdnehkihbeaaMapAFl
namespace Go.Proofs.Ytnkfdnehkihbeaa.MapFl
open Go.RowKit Go.Proofs.Ytnkfdnehkihbeaa
set_option linter.unusedVariables false
variable {P : Nat → Prop}

set_option maxHeartbeats 1600000 in
theorem leanR_one (lk k : ByteArray) (lv v : FV) (ll lr r : T) (ul ur : Option Addr) (w : World) (hl : Rp P w ul (.node lk lv ll lr)) (hr : Rp P w ur r) (hs : (ll.size + 1 + lr.size) + 1 + r.size ≤ 4000000) (hd : lr.deep ≤ ll.deep) :
    Calls Try.prog 75 #[.pointer ul, .agg #[Value.string k, fvS v, fvN v], .pointer ur] w fun e w' => ∃ u, e = .returned (.pointer u) ∧ Rp P w' u (.node lk lv ll (.node k v lr r)) ∧ Below w.heap.size w w' := by
  obtain ⟨b, ull, ulr, rfl, hPb, c0, c1, c1b, c2, c3, c4, c5, hll, hlr⟩ := hl
  have hbw : b < w.heap.size := World.block_lt_of_cell? w _ c0
  have hd' : decide (lr.deep ≤ ll.deep) = true := decide_eq_true hd
  go_enter Try.func75, Try.ntmps75
  go_wp2
  go_region_held3 (fun w' => w'.cell? ⟨b, 3, none⟩ = some (.pointer ull)) (go_keep)
    (first
      | (go_at_call_of 74 (Value.pointer ulr); refine (depth_any (P := P) lr ulr _ ?_).mono ?_; (repeat (first | with_reducible exact hlr | refine Rp.alloc _ ?_ | refine Rp.drew ?_)); rintro e w' ⟨rfl, rfl⟩)
      | (go_at_call_of 74 (Value.pointer ull); refine (depth_any (P := P) ll ull _ ?_).mono ?_; (repeat (first | with_reducible exact hll | refine Rp.alloc _ ?_ | refine Rp.drew ?_)); rintro e w' ⟨rfl, rfl⟩))
  go_wp2
  go_region_held3 (fun w' => (w'.cell? ⟨b, 0, none⟩ = some (Value.string lk) ∧ w'.cell? ⟨b, 1, none⟩ = some (fvS lv) ∧ w'.cell? ⟨b, 2, none⟩ = some (fvN lv) ∧ w'.cell? ⟨b, 3, none⟩ = some (.pointer ull)) ∧ w'.cell? ⟨w.heap.size, 0, none⟩ = some (Value.string k) ∧ w'.cell? ⟨w.heap.size, 1, none⟩ = some (fvS v) ∧ w'.cell? ⟨w.heap.size, 2, none⟩ = some (fvN v))
    (first | go_keep | ((repeat' apply And.intro) <;> (refine (hb1.cell (by simp <;> omega)).trans ?_; simp [go_sem, *])))
    (first
      | (go_at_call_of 72 (Value.pointer ur); refine (join_any (P := P) lr r ulr ur _ _ _ ?_ ?_ (by omega)).mono ?_; (repeat (first | with_reducible exact hlr | refine Rp.alloc _ ?_ | refine Rp.drew ?_)); (repeat (first | with_reducible exact hr | refine Rp.alloc _ ?_ | refine Rp.drew ?_)); rintro e w1 ⟨u1, rfl, hr1, hb1⟩)
      | (go_at_call_of 72 (Value.pointer ull); refine (join_any (P := P) ll (.node k v lr r) ull u1 _ _ _ ?_ ?_ (by simp only [Tr.size_node]; omega)).mono ?_; refine Rp.below hb1 (Nat.le_refl _) ?_; (repeat (first | with_reducible exact hll | refine Rp.alloc _ ?_ | refine Rp.drew ?_)); exact hr1; rintro e w2 ⟨u2, rfl, hr2, hb2⟩; replace hb1 := hb1.trans (hb2.mono hb1.size)))
  go_wp2
  go_ret
  exact ⟨_, rfl, hr2, Tr.below_of hb1 (by repeat (first | exact Below.refl _ _ | apply Below.drew | refine Below.alloc ?_ (by simp <;> omega) _))⟩

set_option maxHeartbeats 3200000 in
theorem leanR_two (lk mk k : ByteArray) (lv mv v : FV) (ll ml mr r : T) (ul ur : Option Addr) (w : World) (hl : Rp P w ul (.node lk lv ll (.node mk mv ml mr))) (hr : Rp P w ur r)
    (hs : (ll.size + 1 + (ml.size + 1 + mr.size)) + 1 + r.size ≤ 4000000) (hd : ll.deep < Nat.max ml.deep mr.deep + 1) :
    Calls Try.prog 75 #[.pointer ul, .agg #[Value.string k, fvS v, fvN v], .pointer ur] w fun e w' => ∃ u, e = .returned (.pointer u) ∧ Rp P w' u (.node mk mv (.node lk lv ll ml) (.node k v mr r)) ∧ Below w.heap.size w w' := by
  obtain ⟨b, ull, ulr, rfl, hPb, c0, c1, c1b, c2, c3, c4, c5, hll, hlr⟩ := hl
  have hlr' := hlr
  obtain ⟨m, uml, umr, rfl, hPd, d0, d1, d1b, d2, d3, d4, d5, hml, hmr⟩ := hlr'
  have hbw : b < w.heap.size := World.block_lt_of_cell? w _ c0
  have hmw : m < w.heap.size := World.block_lt_of_cell? w _ d0
  have hd' : decide ((Tr.node mk mv ml mr).deep ≤ ll.deep) = false := decide_eq_false (by rw [Tr.deep_node]; omega)
  go_enter Try.func75, Try.ntmps75
  go_wp2
  go_region_held3 (fun w' => w'.cell? ⟨b, 3, none⟩ = some (.pointer ull)) (go_keep)
    (first
      | (go_at_call_of 74 (Value.pointer ull); refine (depth_any (P := P) ll ull _ ?_).mono ?_; (repeat (first | with_reducible exact hll | refine Rp.alloc _ ?_ | refine Rp.drew ?_)); rintro e w' ⟨rfl, rfl⟩)
      | (go_at_call 74; refine (depth_any (P := P) (.node mk mv ml mr) (some ⟨m, 0, none⟩) _ ?_).mono ?_; (repeat (first | with_reducible exact hlr | refine Rp.alloc _ ?_ | refine Rp.drew ?_)); rintro e w' ⟨rfl, rfl⟩))
  go_wp2
  go_region_held3 (fun w' => (w'.cell? ⟨b, 0, none⟩ = some (Value.string lk) ∧ w'.cell? ⟨b, 1, none⟩ = some (fvS lv) ∧ w'.cell? ⟨b, 2, none⟩ = some (fvN lv) ∧ w'.cell? ⟨b, 3, none⟩ = some (.pointer ull)) ∧
      (w'.cell? ⟨m, 0, none⟩ = some (Value.string mk) ∧ w'.cell? ⟨m, 1, none⟩ = some (fvS mv) ∧ w'.cell? ⟨m, 2, none⟩ = some (fvN mv) ∧ w'.cell? ⟨m, 3, none⟩ = some (.pointer uml) ∧ w'.cell? ⟨m, 4, none⟩ = some (.pointer umr)) ∧
      w'.cell? ⟨w.heap.size, 0, none⟩ = some (Value.string k) ∧ w'.cell? ⟨w.heap.size, 1, none⟩ = some (fvS v) ∧ w'.cell? ⟨w.heap.size, 2, none⟩ = some (fvN v))
    (first | go_keep | ((repeat' apply And.intro) <;> (refine (hb1.cell (by simp <;> omega)).trans ?_; simp [go_sem, *])))
    (first
      | (go_at_call_of 72 (Value.pointer ull); refine (join_any (P := P) ll ml ull uml _ _ _ ?_ ?_ (by omega)).mono ?_; (repeat (first | with_reducible exact hll | refine Rp.alloc _ ?_ | refine Rp.drew ?_)); (repeat (first | with_reducible exact hml | refine Rp.alloc _ ?_ | refine Rp.drew ?_)); rintro e w1 ⟨u1, rfl, hr1, hb1⟩)
      | (go_at_call_of 72 (Value.pointer ur); refine (join_any (P := P) mr r umr ur _ _ _ ?_ ?_ (by omega)).mono ?_; (refine Rp.below hb1 (Nat.le_refl _) ?_; (repeat (first | with_reducible exact hmr | refine Rp.alloc _ ?_ | refine Rp.drew ?_))); (refine Rp.below hb1 (Nat.le_refl _) ?_; (repeat (first | with_reducible exact hr | refine Rp.alloc _ ?_ | refine Rp.drew ?_))); rintro e w2 ⟨u2, rfl, hr2, hb2⟩; replace hr1 := hr1.below hb2 (Nat.le_refl _); replace hb1 := hb1.trans (hb2.mono hb1.size))
      | (go_at_call_of 72 (Value.pointer u1); refine (join_any (P := P) (.node lk lv ll ml) (.node k v mr r) u1 u2 _ _ _ hr1 hr2 (by simp only [Tr.size_node]; omega)).mono ?_; rintro e w3 ⟨u3, rfl, hr3, hb3⟩; replace hb1 := hb1.trans (hb3.mono hb1.size)))
  go_wp2
  go_ret
  exact ⟨_, rfl, hr3, Tr.below_of hb1 (by repeat (first | exact Below.refl _ _ | apply Below.drew | refine Below.alloc ?_ (by simp <;> omega) _))⟩

set_option maxHeartbeats 1600000 in
theorem leanL_one (rk k : ByteArray) (rv v : FV) (l rl rr : T) (ul ur : Option Addr) (w : World) (hr : Rp P w ur (.node rk rv rl rr)) (hl : Rp P w ul l) (hs : l.size + 1 + (rl.size + 1 + rr.size) ≤ 4000000) (hd : rl.deep ≤ rr.deep) :
    Calls Try.prog 76 #[.pointer ul, .agg #[Value.string k, fvS v, fvN v], .pointer ur] w fun e w' => ∃ u, e = .returned (.pointer u) ∧ Rp P w' u (.node rk rv (.node k v l rl) rr) ∧ Below w.heap.size w w' := by
  obtain ⟨b, url, urr, rfl, hPb, c0, c1, c1b, c2, c3, c4, c5, hrl, hrr⟩ := hr
  have hbw : b < w.heap.size := World.block_lt_of_cell? w _ c0
  have hd' : decide (rl.deep ≤ rr.deep) = true := decide_eq_true hd
  go_enter Try.func76, Try.ntmps76
  go_wp2
  go_region_held3 (fun w' => w'.cell? ⟨b, 4, none⟩ = some (.pointer urr)) (go_keep)
    (first
      | (go_at_call_of 74 (Value.pointer url); refine (depth_any (P := P) rl url _ ?_).mono ?_; (repeat (first | with_reducible exact hrl | refine Rp.alloc _ ?_ | refine Rp.drew ?_)); rintro e w' ⟨rfl, rfl⟩)
      | (go_at_call_of 74 (Value.pointer urr); refine (depth_any (P := P) rr urr _ ?_).mono ?_; (repeat (first | with_reducible exact hrr | refine Rp.alloc _ ?_ | refine Rp.drew ?_)); rintro e w' ⟨rfl, rfl⟩))
  go_wp2
  go_region_held3 (fun w' => (w'.cell? ⟨b, 0, none⟩ = some (Value.string rk) ∧ w'.cell? ⟨b, 1, none⟩ = some (fvS rv) ∧ w'.cell? ⟨b, 2, none⟩ = some (fvN rv) ∧ w'.cell? ⟨b, 4, none⟩ = some (.pointer urr)) ∧ w'.cell? ⟨w.heap.size, 0, none⟩ = some (Value.string k) ∧ w'.cell? ⟨w.heap.size, 1, none⟩ = some (fvS v) ∧ w'.cell? ⟨w.heap.size, 2, none⟩ = some (fvN v))
    (first | go_keep | ((repeat' apply And.intro) <;> (refine (hb1.cell (by simp <;> omega)).trans ?_; simp [go_sem, *])))
    (first
      | (go_at_call_of 72 (Value.pointer ul); refine (join_any (P := P) l rl ul url _ _ _ ?_ ?_ (by omega)).mono ?_; (repeat (first | with_reducible exact hl | refine Rp.alloc _ ?_ | refine Rp.drew ?_)); (repeat (first | with_reducible exact hrl | refine Rp.alloc _ ?_ | refine Rp.drew ?_)); rintro e w1 ⟨u1, rfl, hr1, hb1⟩)
      | (go_at_call_of 72 (Value.pointer urr); refine (join_any (P := P) (.node k v l rl) rr u1 urr _ _ _ hr1 ?_ (by simp only [Tr.size_node]; omega)).mono ?_; refine Rp.below hb1 (Nat.le_refl _) ?_; (repeat (first | with_reducible exact hrr | refine Rp.alloc _ ?_ | refine Rp.drew ?_)); rintro e w2 ⟨u2, rfl, hr2, hb2⟩; replace hb1 := hb1.trans (hb2.mono hb1.size)))
  go_wp2
  go_ret
  exact ⟨_, rfl, hr2, Tr.below_of hb1 (by repeat (first | exact Below.refl _ _ | apply Below.drew | refine Below.alloc ?_ (by simp <;> omega) _))⟩

set_option maxHeartbeats 3200000 in
theorem leanL_two (rk mk k : ByteArray) (rv mv v : FV) (l ml mr rr : T) (ul ur : Option Addr) (w : World) (hr : Rp P w ur (.node rk rv (.node mk mv ml mr) rr)) (hl : Rp P w ul l)
    (hs : l.size + 1 + ((ml.size + 1 + mr.size) + 1 + rr.size) ≤ 4000000) (hd : rr.deep < Nat.max ml.deep mr.deep + 1) :
    Calls Try.prog 76 #[.pointer ul, .agg #[Value.string k, fvS v, fvN v], .pointer ur] w fun e w' => ∃ u, e = .returned (.pointer u) ∧ Rp P w' u (.node mk mv (.node k v l ml) (.node rk rv mr rr)) ∧ Below w.heap.size w w' := by
  obtain ⟨b, url, urr, rfl, hPb, c0, c1, c1b, c2, c3, c4, c5, hrl, hrr⟩ := hr
  have hrl' := hrl
  obtain ⟨m, uml, umr, rfl, hPd, d0, d1, d1b, d2, d3, d4, d5, hml, hmr⟩ := hrl'
  have hbw : b < w.heap.size := World.block_lt_of_cell? w _ c0
  have hmw : m < w.heap.size := World.block_lt_of_cell? w _ d0
  have hd' : decide ((Tr.node mk mv ml mr).deep ≤ rr.deep) = false := decide_eq_false (by rw [Tr.deep_node]; omega)
  go_enter Try.func76, Try.ntmps76
  go_wp2
  go_region_held3 (fun w' => w'.cell? ⟨b, 4, none⟩ = some (.pointer urr)) (go_keep)
    (first
      | (go_at_call_of 74 (Value.pointer urr); refine (depth_any (P := P) rr urr _ ?_).mono ?_; (repeat (first | with_reducible exact hrr | refine Rp.alloc _ ?_ | refine Rp.drew ?_)); rintro e w' ⟨rfl, rfl⟩)
      | (go_at_call 74; refine (depth_any (P := P) (.node mk mv ml mr) (some ⟨m, 0, none⟩) _ ?_).mono ?_; (repeat (first | with_reducible exact hrl | refine Rp.alloc _ ?_ | refine Rp.drew ?_)); rintro e w' ⟨rfl, rfl⟩))
  go_wp2
  go_region_held3 (fun w' => (w'.cell? ⟨b, 0, none⟩ = some (Value.string rk) ∧ w'.cell? ⟨b, 1, none⟩ = some (fvS rv) ∧ w'.cell? ⟨b, 2, none⟩ = some (fvN rv) ∧ w'.cell? ⟨b, 4, none⟩ = some (.pointer urr)) ∧
      (w'.cell? ⟨m, 0, none⟩ = some (Value.string mk) ∧ w'.cell? ⟨m, 1, none⟩ = some (fvS mv) ∧ w'.cell? ⟨m, 2, none⟩ = some (fvN mv) ∧ w'.cell? ⟨m, 3, none⟩ = some (.pointer uml) ∧ w'.cell? ⟨m, 4, none⟩ = some (.pointer umr)) ∧
      w'.cell? ⟨w.heap.size, 0, none⟩ = some (Value.string k) ∧ w'.cell? ⟨w.heap.size, 1, none⟩ = some (fvS v) ∧ w'.cell? ⟨w.heap.size, 2, none⟩ = some (fvN v))
    (first | go_keep | ((repeat' apply And.intro) <;> (refine (hb1.cell (by simp <;> omega)).trans ?_; simp [go_sem, *])))
    (first
      | (go_at_call_of 72 (Value.pointer ul); refine (join_any (P := P) l ml ul uml _ _ _ ?_ ?_ (by omega)).mono ?_; (repeat (first | with_reducible exact hl | refine Rp.alloc _ ?_ | refine Rp.drew ?_)); (repeat (first | with_reducible exact hml | refine Rp.alloc _ ?_ | refine Rp.drew ?_)); rintro e w1 ⟨u1, rfl, hr1, hb1⟩)
      | (go_at_call_of 72 (Value.pointer urr); refine (join_any (P := P) mr rr umr urr _ _ _ ?_ ?_ (by omega)).mono ?_; (refine Rp.below hb1 (Nat.le_refl _) ?_; (repeat (first | with_reducible exact hmr | refine Rp.alloc _ ?_ | refine Rp.drew ?_))); (refine Rp.below hb1 (Nat.le_refl _) ?_; (repeat (first | with_reducible exact hrr | refine Rp.alloc _ ?_ | refine Rp.drew ?_))); rintro e w2 ⟨u2, rfl, hr2, hb2⟩; replace hr1 := hr1.below hb2 (Nat.le_refl _); replace hb1 := hb1.trans (hb2.mono hb1.size))
      | (go_at_call_of 72 (Value.pointer u1); refine (join_any (P := P) (.node k v l ml) (.node rk rv mr rr) u1 u2 _ _ _ hr1 hr2 (by simp only [Tr.size_node]; omega)).mono ?_; rintro e w3 ⟨u3, rfl, hr3, hb3⟩; replace hb1 := hb1.trans (hb3.mono hb1.size)))
  go_wp2
  go_ret
  exact ⟨_, rfl, hr3, Tr.below_of hb1 (by repeat (first | exact Below.refl _ _ | apply Below.drew | refine Below.alloc ?_ (by simp <;> omega) _))⟩

theorem leanR_any (l r : T) (ul ur : Option Addr) (k : ByteArray) (v : FV) (w : World) (hl : Rp P w ul l) (hr : Rp P w ur r) (hs : l.size + 1 + r.size ≤ 4000000) (hd : 1 ≤ l.deep) :
    Calls Try.prog 75 #[.pointer ul, .agg #[Value.string k, fvS v, fvN v], .pointer ur] w fun e w' => ∃ u, e = .returned (.pointer u) ∧ Rp P w' u (Tr.leanR l k v r) ∧ Below w.heap.size w w' := by
  unfold Tr.leanR
  split
  · rw [Tr.deep_nil] at hd; omega
  · rename_i lk lv ll lr
    split
    · rename_i h; exact leanR_one lk k lv v ll lr r ul ur w hl hr (by simpa only [Tr.size_node] using hs) h
    · rename_i h
      split
      · rw [Tr.deep_nil] at h; omega
      · rename_i mk mv ml mr; rw [Tr.deep_node] at h; exact leanR_two lk mk k lv mv v ll ml mr r ul ur w hl hr (by simpa only [Tr.size_node] using hs) (by omega)

theorem leanL_any (l r : T) (ul ur : Option Addr) (k : ByteArray) (v : FV) (w : World) (hl : Rp P w ul l) (hr : Rp P w ur r) (hs : l.size + 1 + r.size ≤ 4000000) (hd : 1 ≤ r.deep) :
    Calls Try.prog 76 #[.pointer ul, .agg #[Value.string k, fvS v, fvN v], .pointer ur] w fun e w' => ∃ u, e = .returned (.pointer u) ∧ Rp P w' u (Tr.leanL l k v r) ∧ Below w.heap.size w w' := by
  unfold Tr.leanL
  split
  · rw [Tr.deep_nil] at hd; omega
  · rename_i rk rv rl rr
    split
    · rename_i h; exact leanL_one rk k rv v l rl rr ul ur w hr hl (by simpa only [Tr.size_node] using hs) h
    · rename_i h
      split
      · rw [Tr.deep_nil] at h; omega
      · rename_i mk mv ml mr; rw [Tr.deep_node] at h; exact leanL_two rk mk k rv mv v l ml mr rr ul ur w hr hl (by simpa only [Tr.size_node] using hs) (by omega)

end Go.Proofs.Ytnkfdnehkihbeaa.MapFl
