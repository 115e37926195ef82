/- The calls balance and put of a tree's node, each by its contract. -/
import Derived.Test.YtjccjbnbjcbagaaOrdBS
namespace Go.Proofs.Ytjccjbnbjcbagaa.OrdS
open Go.RowKit Go.Proofs.Ytjccjbnbjcbagaa

theorem balance_any (l r : T) (ul ur : Option Addr) (k : ByteArray) (v : Int) (w : World) (hl : Rp w ul l) (hr : Rp w ur r) (hs : l.size + 1 + r.size ≤ 1000000) :
    Calls Try.prog 59 #[.pointer ul, .agg #[Value.string k, (Value.int .i64) v], .pointer ur] w fun e w' => ∃ u, e = .returned (.pointer u) ∧ Rp w' u (Tr.bal l k v r) ∧ Below w.heap.size w w' := by
  have dl := l.deep_le
  have dr := r.deep_le
  have e1 : IntKind.i64.wrap ((l.deep : Int) + 1) = (l.deep : Int) + 1 := IntWalk.i64_in _ (by omega)
  have e2 : IntKind.i64.wrap ((r.deep : Int) + 1) = (r.deep : Int) + 1 := IntWalk.i64_in _ (by omega)
  by_cases h1 : r.deep + 1 < l.deep
  · have h1' : (r.deep : Int) + 1 < (l.deep : Int) := by omega
    rw [show Tr.bal l k v r = Tr.leanR l k v r from if_pos h1]
    go_enter Try.func59, Try.ntmps59
    go_wp2_with (first
      | (go_at_call_of 70 (Value.pointer ul); refine (depth_any l ul _ ?_).mono ?_; (repeat (first | with_reducible exact hl | refine Tr.Rep.alloc _ ?_ | refine Tr.Rep.drew ?_)); rintro e w' ⟨rfl, rfl⟩)
      | (go_at_call_of 70 (Value.pointer ur); refine (depth_any r ur _ ?_).mono ?_; (repeat (first | with_reducible exact hr | refine Tr.Rep.alloc _ ?_ | refine Tr.Rep.drew ?_)); rintro e w' ⟨rfl, rfl⟩)
      | (go_at_call 71; refine (leanR_any l r ul ur _ _ _ ?_ ?_ hs (by omega)).mono ?_; (repeat (first | with_reducible exact hl | refine Tr.Rep.alloc _ ?_ | refine Tr.Rep.drew ?_)); (repeat (first | with_reducible exact hr | refine Tr.Rep.alloc _ ?_ | refine Tr.Rep.drew ?_)); rintro e w1 ⟨u1, rfl, hr1, hb1⟩))
    go_ret
    exact ⟨_, rfl, hr1, Tr.below_of hb1 (by repeat (first | exact Below.refl _ _ | apply Below.drew | refine Below.alloc ?_ (by simp) _))⟩
  · by_cases h2 : l.deep + 1 < r.deep
    · have h1' : (l.deep : Int) ≤ (r.deep : Int) + 1 := by omega
      have h2' : (l.deep : Int) + 1 < (r.deep : Int) := by omega
      rw [show Tr.bal l k v r = Tr.leanL l k v r from (if_neg h1).trans (if_pos h2)]
      go_enter Try.func59, Try.ntmps59
      go_wp2_with (first
        | (go_at_call_of 70 (Value.pointer ul); refine (depth_any l ul _ ?_).mono ?_; (repeat (first | with_reducible exact hl | refine Tr.Rep.alloc _ ?_ | refine Tr.Rep.drew ?_)); rintro e w' ⟨rfl, rfl⟩)
        | (go_at_call_of 70 (Value.pointer ur); refine (depth_any r ur _ ?_).mono ?_; (repeat (first | with_reducible exact hr | refine Tr.Rep.alloc _ ?_ | refine Tr.Rep.drew ?_)); rintro e w' ⟨rfl, rfl⟩)
        | (go_at_call 72; refine (leanL_any l r ul ur _ _ _ ?_ ?_ hs (by omega)).mono ?_; (repeat (first | with_reducible exact hl | refine Tr.Rep.alloc _ ?_ | refine Tr.Rep.drew ?_)); (repeat (first | with_reducible exact hr | refine Tr.Rep.alloc _ ?_ | refine Tr.Rep.drew ?_)); rintro e w1 ⟨u1, rfl, hr1, hb1⟩))
      go_ret
      exact ⟨_, rfl, hr1, Tr.below_of hb1 (by repeat (first | exact Below.refl _ _ | apply Below.drew | refine Below.alloc ?_ (by simp) _))⟩
    · have h1' : (l.deep : Int) ≤ (r.deep : Int) + 1 := by omega
      have h2' : (r.deep : Int) ≤ (l.deep : Int) + 1 := by omega
      rw [show Tr.bal l k v r = Tr.node k v l r from (if_neg h1).trans (if_neg h2)]
      go_enter Try.func59, Try.ntmps59
      go_wp2_with (first
        | (go_at_call_of 70 (Value.pointer ul); refine (depth_any l ul _ ?_).mono ?_; (repeat (first | with_reducible exact hl | refine Tr.Rep.alloc _ ?_ | refine Tr.Rep.drew ?_)); rintro e w' ⟨rfl, rfl⟩)
        | (go_at_call_of 70 (Value.pointer ur); refine (depth_any r ur _ ?_).mono ?_; (repeat (first | with_reducible exact hr | refine Tr.Rep.alloc _ ?_ | refine Tr.Rep.drew ?_)); rintro e w' ⟨rfl, rfl⟩)
        | (go_at_call 58; refine (join_any l r ul ur _ _ _ ?_ ?_ hs).mono ?_; (repeat (first | with_reducible exact hl | refine Tr.Rep.alloc _ ?_ | refine Tr.Rep.drew ?_)); (repeat (first | with_reducible exact hr | refine Tr.Rep.alloc _ ?_ | refine Tr.Rep.drew ?_)); rintro e w1 ⟨u1, rfl, hr1, hb1⟩))
      go_ret
      exact ⟨_, rfl, hr1, Tr.below_of hb1 (by repeat (first | exact Below.refl _ _ | apply Below.drew | refine Below.alloc ?_ (by simp) _))⟩

set_option maxHeartbeats 3200000 in
theorem put_any (k : ByteArray) (v : Int) (t : T) : ∀ (u : Option Addr) (w : World), Rp w u t → t.size + 1 ≤ 1000000 →
    Calls Try.prog 42 #[.pointer u, .agg #[Value.string k, (Value.int .i64) v]] w fun e w' => ∃ u', e = .returned (.pointer u') ∧ Rp w' u' (Tr.put ltS k v t) ∧ Below w.heap.size w w' := by
  induction t with
  | nil =>
    intro u w h hs
    obtain rfl : u = none := h
    go_enter Try.func42, Try.ntmps42
    go_wp2_with (go_at_call 58; refine (join_any .nil .nil none none _ _ _ rfl rfl (by simp only [Tr.size_nil]; omega)).mono ?_; rintro e w1 ⟨u1, rfl, hr1, hb1⟩)
    go_ret
    exact ⟨_, rfl, hr1, Tr.below_of hb1 (by repeat (first | exact Below.refl _ _ | apply Below.drew | refine Below.alloc ?_ (by simp) _))⟩
  | node nk nv l r ihl ihr =>
    intro u w h hs
    rw [Tr.size_node] at hs
    obtain ⟨b, ul, ur, rfl, c0, c1, c2, c3, c4, c5, hl, hr⟩ := h
    have hbw : b < w.heap.size := World.block_lt_of_cell? w _ c0
    have szl := Tr.size_put ltS k v l
    have szr := Tr.size_put ltS k v r
    cases hlt : ltS k nk with
    | true =>
      rw [show Tr.put ltS k v (.node nk nv l r) = Tr.bal (Tr.put ltS k v l) nk nv r by rw [Tr.put, if_pos hlt]]
      go_enter Try.func42, Try.ntmps42
      go_wp2
      go_region_held3 (fun w' => w'.cell? ⟨b, 0, none⟩ = some (Value.string nk) ∧ w'.cell? ⟨w.heap.size, 0, none⟩ = some (Value.string k)) (go_keep)
        (first
          | (go_at_call 55; refine (cmp_lt _ _ hlt _).mono ?_; rintro e w' ⟨rfl, rfl⟩))
      go_wp2
      go_region_held3 (fun w' => (w'.cell? ⟨b, 0, none⟩ = some (Value.string nk) ∧ w'.cell? ⟨b, 1, none⟩ = some ((Value.int .i64) nv) ∧ w'.cell? ⟨b, 2, none⟩ = some (.pointer ul) ∧ w'.cell? ⟨b, 3, none⟩ = some (.pointer ur)) ∧
          w'.cell? ⟨w.heap.size, 0, none⟩ = some (Value.string k) ∧ w'.cell? ⟨w.heap.size, 1, none⟩ = some ((Value.int .i64) v))
        (first | go_keep | ((repeat' apply And.intro) <;> (refine (hb1.cell (by simp <;> omega)).trans ?_; simp [go_sem, *])))
        (first
          | (go_at_call 42; refine (ihl ul _ ?_ (by omega)).mono ?_; (repeat (first | with_reducible exact hl | refine Tr.Rep.alloc _ ?_ | refine Tr.Rep.drew ?_)); rintro e w1 ⟨u1, rfl, hr1, hb1⟩)
          | (go_at_call 59; refine (balance_any (Tr.put ltS k v l) r u1 ur _ _ _ hr1 ?_ (by omega)).mono ?_; refine Tr.Rep.below hb1 (Nat.le_refl _) ?_; (repeat (first | with_reducible exact hr | refine Tr.Rep.alloc _ ?_ | refine Tr.Rep.drew ?_)); rintro e w2 ⟨u2, rfl, hr2, hb2⟩; replace hb1 := hb1.trans (hb2.mono hb1.size)))
      go_wp2
      go_ret
      exact ⟨_, rfl, hr2, Tr.below_of hb1 (by repeat (first | exact Below.refl _ _ | apply Below.drew | refine Below.alloc ?_ (by simp) _))⟩
    | false =>
      cases hgt : ltS nk k with
      | true =>
        rw [show Tr.put ltS k v (.node nk nv l r) = Tr.bal l nk nv (Tr.put ltS k v r) by rw [Tr.put, if_neg (by rw [hlt]; decide), if_pos hgt]]
        go_enter Try.func42, Try.ntmps42
        go_wp2
        go_region_held3 (fun w' => w'.cell? ⟨b, 0, none⟩ = some (Value.string nk) ∧ w'.cell? ⟨w.heap.size, 0, none⟩ = some (Value.string k)) (go_keep)
          (first
            | (go_at_call 55; refine (cmp_gt _ _ hgt _).mono ?_; rintro e w' ⟨rfl, rfl⟩))
        go_wp2
        go_region_held3 (fun w' => (w'.cell? ⟨b, 0, none⟩ = some (Value.string nk) ∧ w'.cell? ⟨b, 1, none⟩ = some ((Value.int .i64) nv) ∧ w'.cell? ⟨b, 2, none⟩ = some (.pointer ul) ∧ w'.cell? ⟨b, 3, none⟩ = some (.pointer ur)) ∧
            w'.cell? ⟨w.heap.size, 0, none⟩ = some (Value.string k) ∧ w'.cell? ⟨w.heap.size, 1, none⟩ = some ((Value.int .i64) v))
          (first | go_keep | ((repeat' apply And.intro) <;> (refine (hb1.cell (by simp <;> omega)).trans ?_; simp [go_sem, *])))
          (first
            | (go_at_call 42; refine (ihr ur _ ?_ (by omega)).mono ?_; (repeat (first | with_reducible exact hr | refine Tr.Rep.alloc _ ?_ | refine Tr.Rep.drew ?_)); rintro e w1 ⟨u1, rfl, hr1, hb1⟩)
            | (go_at_call 59; refine (balance_any l (Tr.put ltS k v r) ul u1 _ _ _ ?_ hr1 (by omega)).mono ?_; refine Tr.Rep.below hb1 (Nat.le_refl _) ?_; (repeat (first | with_reducible exact hl | refine Tr.Rep.alloc _ ?_ | refine Tr.Rep.drew ?_)); rintro e w2 ⟨u2, rfl, hr2, hb2⟩; replace hb1 := hb1.trans (hb2.mono hb1.size)))
        go_wp2
        go_ret
        exact ⟨_, rfl, hr2, Tr.below_of hb1 (by repeat (first | exact Below.refl _ _ | apply Below.drew | refine Below.alloc ?_ (by simp) _))⟩
      | false =>
        obtain rfl : k = nk := ltS_con hlt hgt
        rw [show Tr.put ltS k v (.node k nv l r) = Tr.node k v l r by rw [Tr.put, if_neg (by rw [hlt]; decide), if_neg (by rw [hlt]; decide)]]
        go_enter Try.func42, Try.ntmps42
        go_wp2
        go_region_held3 (fun w' => w'.cell? ⟨b, 0, none⟩ = some (Value.string k) ∧ w'.cell? ⟨w.heap.size, 0, none⟩ = some (Value.string k)) (go_keep)
          (first
            | (go_at_call 55; refine (cmp_eq _ _).mono ?_; rintro e w' ⟨rfl, rfl⟩))
        go_wp2
        go_region_held3 (fun w' => (w'.cell? ⟨b, 2, none⟩ = some (.pointer ul) ∧ w'.cell? ⟨b, 3, none⟩ = some (.pointer ur)) ∧
            w'.cell? ⟨w.heap.size, 0, none⟩ = some (Value.string k) ∧ w'.cell? ⟨w.heap.size, 1, none⟩ = some ((Value.int .i64) v))
          (first | go_keep | ((repeat' apply And.intro) <;> (refine (hb1.cell (by simp <;> omega)).trans ?_; simp [go_sem, *])))
          (first
            | (go_at_call 58; refine (join_any l r ul ur _ _ _ ?_ ?_ (by omega)).mono ?_; (repeat (first | with_reducible exact hl | refine Tr.Rep.alloc _ ?_ | refine Tr.Rep.drew ?_)); (repeat (first | with_reducible exact hr | refine Tr.Rep.alloc _ ?_ | refine Tr.Rep.drew ?_)); rintro e w1 ⟨u1, rfl, hr1, hb1⟩))
        go_wp2
        go_ret
        exact ⟨_, rfl, hr1, Tr.below_of hb1 (by repeat (first | exact Below.refl _ _ | apply Below.drew | refine Below.alloc ?_ (by simp) _))⟩

end Go.Proofs.Ytjccjbnbjcbagaa.OrdS
