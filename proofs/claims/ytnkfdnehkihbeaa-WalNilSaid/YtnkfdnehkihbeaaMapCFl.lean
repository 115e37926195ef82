/- The calls balance and put of a tree's node, each by its contract. -/
import Derived.Test.YtnkfdnehkihbeaaMapBFl
namespace Go.Proofs.Ytnkfdnehkihbeaa.MapFl
open Go.RowKit Go.Proofs.Ytnkfdnehkihbeaa
set_option linter.unusedVariables false
variable {P : Nat → Prop}

theorem balance_any (l r : T) (ul ur : Option Addr) (k : ByteArray) (v : FV) (w : World) (hl : Rp P w ul l) (hr : Rp P w ur r) (hs : l.size + 1 + r.size ≤ 4000000) :
    Calls Try.prog 70 #[.pointer ul, .agg #[Value.string k, fvS v, fvN v], .pointer ur] w fun e w' => ∃ u, e = .returned (.pointer u) ∧ Rp P w' u (Tr.bal l k v r) ∧ Below w.heap.size w w' := by
  have dl := l.deep_le
  have dr := r.deep_le
  have e1 : IntKind.i64.wrap ((l.deep : Int) + 1) = (l.deep : Int) + 1 := IntWalk.i64_in _ (by omega)
  have e2 : IntKind.i64.wrap ((r.deep : Int) + 1) = (r.deep : Int) + 1 := IntWalk.i64_in _ (by omega)
  by_cases h1 : r.deep + 1 < l.deep
  · have h1' : (r.deep : Int) + 1 < (l.deep : Int) := by omega
    rw [show Tr.bal l k v r = Tr.leanR l k v r from if_pos h1]
    go_enter Try.func70, Try.ntmps70
    go_wp2_with (first
      | (go_at_call_of 74 (Value.pointer ul); refine (depth_any (P := P) l ul _ ?_).mono ?_; (repeat (first | with_reducible exact hl | refine Rp.alloc _ ?_ | refine Rp.drew ?_)); rintro e w' ⟨rfl, rfl⟩)
      | (go_at_call_of 74 (Value.pointer ur); refine (depth_any (P := P) r ur _ ?_).mono ?_; (repeat (first | with_reducible exact hr | refine Rp.alloc _ ?_ | refine Rp.drew ?_)); rintro e w' ⟨rfl, rfl⟩)
      | (go_at_call 75; refine (leanR_any (P := P) l r ul ur _ _ _ ?_ ?_ hs (by omega)).mono ?_; (repeat (first | with_reducible exact hl | refine Rp.alloc _ ?_ | refine Rp.drew ?_)); (repeat (first | with_reducible exact hr | refine Rp.alloc _ ?_ | refine Rp.drew ?_)); rintro e w1 ⟨u1, rfl, hr1, hb1⟩))
    go_ret
    exact ⟨_, rfl, hr1, Tr.below_of hb1 (by repeat (first | exact Below.refl _ _ | apply Below.drew | refine Below.alloc ?_ (by simp <;> omega) _))⟩
  · by_cases h2 : l.deep + 1 < r.deep
    · have h1' : (l.deep : Int) ≤ (r.deep : Int) + 1 := by omega
      have h2' : (l.deep : Int) + 1 < (r.deep : Int) := by omega
      rw [show Tr.bal l k v r = Tr.leanL l k v r from (if_neg h1).trans (if_pos h2)]
      go_enter Try.func70, Try.ntmps70
      go_wp2_with (first
        | (go_at_call_of 74 (Value.pointer ul); refine (depth_any (P := P) l ul _ ?_).mono ?_; (repeat (first | with_reducible exact hl | refine Rp.alloc _ ?_ | refine Rp.drew ?_)); rintro e w' ⟨rfl, rfl⟩)
        | (go_at_call_of 74 (Value.pointer ur); refine (depth_any (P := P) r ur _ ?_).mono ?_; (repeat (first | with_reducible exact hr | refine Rp.alloc _ ?_ | refine Rp.drew ?_)); rintro e w' ⟨rfl, rfl⟩)
        | (go_at_call 76; refine (leanL_any (P := P) l r ul ur _ _ _ ?_ ?_ hs (by omega)).mono ?_; (repeat (first | with_reducible exact hl | refine Rp.alloc _ ?_ | refine Rp.drew ?_)); (repeat (first | with_reducible exact hr | refine Rp.alloc _ ?_ | refine Rp.drew ?_)); rintro e w1 ⟨u1, rfl, hr1, hb1⟩))
      go_ret
      exact ⟨_, rfl, hr1, Tr.below_of hb1 (by repeat (first | exact Below.refl _ _ | apply Below.drew | refine Below.alloc ?_ (by simp <;> omega) _))⟩
    · have h1' : (l.deep : Int) ≤ (r.deep : Int) + 1 := by omega
      have h2' : (r.deep : Int) ≤ (l.deep : Int) + 1 := by omega
      rw [show Tr.bal l k v r = Tr.node k v l r from (if_neg h1).trans (if_neg h2)]
      go_enter Try.func70, Try.ntmps70
      go_wp2_with (first
        | (go_at_call_of 74 (Value.pointer ul); refine (depth_any (P := P) l ul _ ?_).mono ?_; (repeat (first | with_reducible exact hl | refine Rp.alloc _ ?_ | refine Rp.drew ?_)); rintro e w' ⟨rfl, rfl⟩)
        | (go_at_call_of 74 (Value.pointer ur); refine (depth_any (P := P) r ur _ ?_).mono ?_; (repeat (first | with_reducible exact hr | refine Rp.alloc _ ?_ | refine Rp.drew ?_)); rintro e w' ⟨rfl, rfl⟩)
        | (go_at_call 72; refine (join_any (P := P) l r ul ur _ _ _ ?_ ?_ hs).mono ?_; (repeat (first | with_reducible exact hl | refine Rp.alloc _ ?_ | refine Rp.drew ?_)); (repeat (first | with_reducible exact hr | refine Rp.alloc _ ?_ | refine Rp.drew ?_)); rintro e w1 ⟨u1, rfl, hr1, hb1⟩))
      go_ret
      exact ⟨_, rfl, hr1, Tr.below_of hb1 (by repeat (first | exact Below.refl _ _ | apply Below.drew | refine Below.alloc ?_ (by simp <;> omega) _))⟩

set_option maxHeartbeats 3200000 in
theorem put_any (k : ByteArray) (v : FV) (t : T) : ∀ (u : Option Addr) (w : World), Rp P w u t → t.size + 1 ≤ 4000000 →
    Calls Try.prog 66 #[.pointer u, .agg #[Value.string k, fvS v, fvN v]] w fun e w' => ∃ u', e = .returned (.pointer u') ∧ Rp P w' u' (Tr.put ltS k v t) ∧ Below w.heap.size w w' := by
  induction t with
  | nil =>
    intro u w h hs
    have h0 := h
    obtain ⟨rfl, hE⟩ := h
    go_enter Try.func66, Try.ntmps66
    go_wp2_with (go_at_call 72; refine (join_any (P := P) .nil .nil none none _ _ _ ?_ ?_ (by simp only [Tr.size_nil]; omega)).mono ?_; (repeat (first | with_reducible exact h0 | refine Rp.alloc _ ?_ | refine Rp.drew ?_)); (repeat (first | with_reducible exact h0 | refine Rp.alloc _ ?_ | refine Rp.drew ?_)); rintro e w1 ⟨u1, rfl, hr1, hb1⟩)
    go_ret
    exact ⟨_, rfl, hr1, Tr.below_of hb1 (by repeat (first | exact Below.refl _ _ | apply Below.drew | refine Below.alloc ?_ (by simp <;> omega) _))⟩
  | node nk nv l r ihl ihr =>
    intro u w h hs
    rw [Tr.size_node] at hs
    obtain ⟨b, ul, ur, rfl, hPb, c0, c1, c1b, c2, c3, c4, c5, hl, hr⟩ := h
    have hbw : b < w.heap.size := World.block_lt_of_cell? w _ c0
    have szl := Tr.size_put ltS k v l
    have szr := Tr.size_put ltS k v r
    cases hlt : ltS k nk with
    | true =>
      rw [show Tr.put ltS k v (.node nk nv l r) = Tr.bal (Tr.put ltS k v l) nk nv r by rw [Tr.put, if_pos hlt]]
      go_enter Try.func66, Try.ntmps66
      go_wp2
      go_region_held3 (fun w' => w'.cell? ⟨b, 0, none⟩ = some (Value.string nk) ∧ w'.cell? ⟨w.heap.size, 0, none⟩ = some (Value.string k)) (go_keep)
        (first
          | (go_at_call 69; refine (cmp_lt _ _ hlt _).mono ?_; rintro e w' ⟨rfl, rfl⟩))
      go_wp2
      go_region_held3 (fun w' => (w'.cell? ⟨b, 0, none⟩ = some (Value.string nk) ∧ w'.cell? ⟨b, 1, none⟩ = some (fvS nv) ∧ w'.cell? ⟨b, 2, none⟩ = some (fvN nv) ∧ w'.cell? ⟨b, 3, none⟩ = some (.pointer ul) ∧ w'.cell? ⟨b, 4, none⟩ = some (.pointer ur)) ∧
          w'.cell? ⟨w.heap.size, 0, none⟩ = some (Value.string k) ∧ w'.cell? ⟨w.heap.size, 1, none⟩ = some (fvS v) ∧ w'.cell? ⟨w.heap.size, 2, none⟩ = some (fvN v))
        (first | go_keep | ((repeat' apply And.intro) <;> (refine (hb1.cell (by simp <;> omega)).trans ?_; simp [go_sem, *])))
        (first
          | (go_at_call 66; refine (ihl ul _ ?_ (by omega)).mono ?_; (repeat (first | with_reducible exact hl | refine Rp.alloc _ ?_ | refine Rp.drew ?_)); rintro e w1 ⟨u1, rfl, hr1, hb1⟩)
          | (go_at_call 70; refine (balance_any (P := P) (Tr.put ltS k v l) r u1 ur _ _ _ hr1 ?_ (by omega)).mono ?_; refine Rp.below hb1 (Nat.le_refl _) ?_; (repeat (first | with_reducible exact hr | refine Rp.alloc _ ?_ | refine Rp.drew ?_)); rintro e w2 ⟨u2, rfl, hr2, hb2⟩; replace hb1 := hb1.trans (hb2.mono hb1.size)))
      go_wp2
      go_ret
      exact ⟨_, rfl, hr2, Tr.below_of hb1 (by repeat (first | exact Below.refl _ _ | apply Below.drew | refine Below.alloc ?_ (by simp <;> omega) _))⟩
    | false =>
      cases hgt : ltS nk k with
      | true =>
        rw [show Tr.put ltS k v (.node nk nv l r) = Tr.bal l nk nv (Tr.put ltS k v r) by rw [Tr.put, if_neg (by rw [hlt]; decide), if_pos hgt]]
        go_enter Try.func66, Try.ntmps66
        go_wp2
        go_region_held3 (fun w' => w'.cell? ⟨b, 0, none⟩ = some (Value.string nk) ∧ w'.cell? ⟨w.heap.size, 0, none⟩ = some (Value.string k)) (go_keep)
          (first
            | (go_at_call 69; refine (cmp_gt _ _ hgt _).mono ?_; rintro e w' ⟨rfl, rfl⟩))
        go_wp2
        go_region_held3 (fun w' => (w'.cell? ⟨b, 0, none⟩ = some (Value.string nk) ∧ w'.cell? ⟨b, 1, none⟩ = some (fvS nv) ∧ w'.cell? ⟨b, 2, none⟩ = some (fvN nv) ∧ w'.cell? ⟨b, 3, none⟩ = some (.pointer ul) ∧ w'.cell? ⟨b, 4, none⟩ = some (.pointer ur)) ∧
            w'.cell? ⟨w.heap.size, 0, none⟩ = some (Value.string k) ∧ w'.cell? ⟨w.heap.size, 1, none⟩ = some (fvS v) ∧ w'.cell? ⟨w.heap.size, 2, none⟩ = some (fvN v))
          (first | go_keep | ((repeat' apply And.intro) <;> (refine (hb1.cell (by simp <;> omega)).trans ?_; simp [go_sem, *])))
          (first
            | (go_at_call 66; refine (ihr ur _ ?_ (by omega)).mono ?_; (repeat (first | with_reducible exact hr | refine Rp.alloc _ ?_ | refine Rp.drew ?_)); rintro e w1 ⟨u1, rfl, hr1, hb1⟩)
            | (go_at_call 70; refine (balance_any (P := P) l (Tr.put ltS k v r) ul u1 _ _ _ ?_ hr1 (by omega)).mono ?_; refine Rp.below hb1 (Nat.le_refl _) ?_; (repeat (first | with_reducible exact hl | refine Rp.alloc _ ?_ | refine Rp.drew ?_)); rintro e w2 ⟨u2, rfl, hr2, hb2⟩; replace hb1 := hb1.trans (hb2.mono hb1.size)))
        go_wp2
        go_ret
        exact ⟨_, rfl, hr2, Tr.below_of hb1 (by repeat (first | exact Below.refl _ _ | apply Below.drew | refine Below.alloc ?_ (by simp <;> omega) _))⟩
      | false =>
        obtain rfl : k = nk := ltS_con hlt hgt
        rw [show Tr.put ltS k v (.node k nv l r) = Tr.node k v l r by rw [Tr.put, if_neg (by rw [hlt]; decide), if_neg (by rw [hlt]; decide)]]
        go_enter Try.func66, Try.ntmps66
        go_wp2
        go_region_held3 (fun w' => w'.cell? ⟨b, 0, none⟩ = some (Value.string k) ∧ w'.cell? ⟨w.heap.size, 0, none⟩ = some (Value.string k)) (go_keep)
          (first
            | (go_at_call 69; refine (cmp_eq _ _).mono ?_; rintro e w' ⟨rfl, rfl⟩))
        go_wp2
        go_region_held3 (fun w' => (w'.cell? ⟨b, 3, none⟩ = some (.pointer ul) ∧ w'.cell? ⟨b, 4, none⟩ = some (.pointer ur)) ∧
            w'.cell? ⟨w.heap.size, 0, none⟩ = some (Value.string k) ∧ w'.cell? ⟨w.heap.size, 1, none⟩ = some (fvS v) ∧ w'.cell? ⟨w.heap.size, 2, none⟩ = some (fvN v))
          (first | go_keep | ((repeat' apply And.intro) <;> (refine (hb1.cell (by simp <;> omega)).trans ?_; simp [go_sem, *])))
          (first
            | (go_at_call 72; refine (join_any (P := P) l r ul ur _ _ _ ?_ ?_ (by omega)).mono ?_; (repeat (first | with_reducible exact hl | refine Rp.alloc _ ?_ | refine Rp.drew ?_)); (repeat (first | with_reducible exact hr | refine Rp.alloc _ ?_ | refine Rp.drew ?_)); rintro e w1 ⟨u1, rfl, hr1, hb1⟩))
        go_wp2
        go_ret
        exact ⟨_, rfl, hr1, Tr.below_of hb1 (by repeat (first | exact Below.refl _ _ | apply Below.drew | refine Below.alloc ?_ (by simp <;> omega) _))⟩

end Go.Proofs.Ytnkfdnehkihbeaa.MapFl
