/- The exported calls of a map, each by its contract. -/
import Derived.Test.YtjccjbnbjcbagaaOrdDU
namespace Go.Proofs.Ytjccjbnbjcbagaa.OrdU
open Go.RowKit Go.Proofs.Ytjccjbnbjcbagaa

theorem put_map (t : T) (u : Option Addr) (k : Int) (v : Bool) (w : World) (h : Rp w u t) (hs : t.size + 1 ≤ 1000000) :
    Calls Try.prog 23 #[.agg #[.pointer u], (Value.int .u16) k, Value.bool v] w fun e w' => ∃ u', e = .returned (.agg #[.pointer u']) ∧ Rp w' u' (Tr.put ltI k v t) ∧ Below w.heap.size w w' := by
  go_enter Try.func23, Try.ntmps23
  go_wp2_with (go_at_call 43; refine (put_any k v t u _ ?_ hs).mono ?_; (repeat (first | with_reducible exact h | refine Tr.Rep.alloc _ ?_ | refine Tr.Rep.drew ?_)); rintro e w1 ⟨u1, rfl, hr1, hb1⟩
               have hz : w.heap.size + 1 < w1.heap.size := by have := hb1.size; simp at this; omega
               have k0 : w1.cell? ⟨w.heap.size + 1, 0, none⟩ = some (.pointer none) := (hb1.cell (by simp)).trans (by simp [go_sem])
               have k1 : w1.cell? ⟨w.heap.size + 1, 1, none⟩ = none := (hb1.cell (by simp)).trans (by simp [go_sem])
               have k2 : w1.frozen? ⟨w.heap.size + 1, 0, none⟩ = false := (hb1.frozen (by simp)).trans (by simp [go_sem]))
  have ks : (w1.setCell ⟨w.heap.size + 1, 0, none⟩ (.pointer u1)).cell? ⟨w.heap.size + 1, 0, none⟩ = some (.pointer u1) := World.cell?_setCell_same _ _ _ k0
  exact bodyPost_ret (v := .agg #[.pointer u1]) (by simp [results, Try.results23, go_sem, ks]) rfl ⟨u1, rfl, hr1.setCell k1 _, (Tr.below_of hb1 (by repeat (first | exact Below.refl _ _ | apply Below.drew | refine Below.alloc ?_ (by simp) _))).setCell (by simp) _⟩

theorem len_map (t : T) (u : Option Addr) (w : World) (h : Rp w u t) :
    Calls Try.prog 27 #[.agg #[.pointer u]] w fun e w' => e = .returned (.int .i64 (t.size : Int)) ∧ Below w.heap.size w w' := by
  go_enter Try.func27, Try.ntmps27
  go_wp2_with (go_at_call 47; refine (count_any t u _ ?_).mono ?_; (repeat (first | with_reducible exact h | refine Tr.Rep.alloc _ ?_ | refine Tr.Rep.drew ?_)); rintro e w1 ⟨rfl, rfl⟩)
  go_ret
  exact ⟨rfl, (Below.refl _ _).alloc (Nat.le_refl _) _⟩

theorem deep_map (t : T) (u : Option Addr) (w : World) (h : Rp w u t) :
    Calls Try.prog 25 #[.agg #[.pointer u]] w fun e w' => e = .returned (.int .i64 (t.deep : Int)) ∧ Below w.heap.size w w' := by
  go_enter Try.func25, Try.ntmps25
  go_wp2_with (go_at_call 46; refine (depth_any t u _ ?_).mono ?_; (repeat (first | with_reducible exact h | refine Tr.Rep.alloc _ ?_ | refine Tr.Rep.drew ?_)); rintro e w1 ⟨rfl, rfl⟩)
  go_ret
  exact ⟨rfl, (Below.refl _ _).alloc (Nat.le_refl _) _⟩

theorem del_map_yes (t : T) (u : Option Addr) (k k' : Int) (v' : Bool) (a b : T) (w : World) (h : Rp w u t) (hB : Tr.Bst ltI t) (hs : t.size ≤ 1000000) (hf : Tr.find ltI k t = .node k' v' a b) :
    Calls Try.prog 24 #[.agg #[.pointer u], (Value.int .u16) k] w fun e w' => ∃ u', e = .returned (.agg #[.pointer u']) ∧ Rp w' u' (Tr.del ltI t k) ∧ Below w.heap.size w w' := by
  have H := find_any k t u
  rw [hf] at H
  have hf' : Tr.find ltI k t ≠ .nil := by rw [hf]; exact fun e => by cases e
  clear hf
  go_enter Try.func24, Try.ntmps24
  go_wp2_with (first
    | (go_at_call 44; refine (H _ ?_).mono ?_; (repeat (first | with_reducible exact h | refine Tr.Rep.alloc _ ?_ | refine Tr.Rep.drew ?_)); rintro e w1 ⟨u1, rfl, ⟨b, ul, ur, rfl, _⟩, rfl⟩)
    | (go_at_call 45; refine (del_any t k u _ ?_ hB hf' hs).mono ?_; (repeat (first | with_reducible exact h | refine Tr.Rep.alloc _ ?_ | refine Tr.Rep.drew ?_)); rintro e w1 ⟨u1, rfl, hr1, hb1⟩
       have hz : w.heap.size + 1 < w1.heap.size := by have := hb1.size; simp at this; omega
       have k0 : w1.cell? ⟨w.heap.size + 1, 0, none⟩ = some (.pointer none) := (hb1.cell (by simp)).trans (by simp [go_sem])
       have k1 : w1.cell? ⟨w.heap.size + 1, 1, none⟩ = none := (hb1.cell (by simp)).trans (by simp [go_sem])
       have k2 : w1.frozen? ⟨w.heap.size + 1, 0, none⟩ = false := (hb1.frozen (by simp)).trans (by simp [go_sem])))
  have ks : (w1.setCell ⟨w.heap.size + 1, 0, none⟩ (.pointer u1)).cell? ⟨w.heap.size + 1, 0, none⟩ = some (.pointer u1) := World.cell?_setCell_same _ _ _ k0
  exact bodyPost_ret (v := .agg #[.pointer u1]) (by simp [results, Try.results24, go_sem, ks]) rfl ⟨u1, rfl, hr1.setCell k1 _, (Tr.below_of hb1 (by repeat (first | exact Below.refl _ _ | apply Below.drew | refine Below.alloc ?_ (by simp) _))).setCell (by simp) _⟩

theorem del_map_no (t : T) (u : Option Addr) (k : Int) (w : World) (h : Rp w u t) (hf : Tr.find ltI k t = .nil) :
    Calls Try.prog 24 #[.agg #[.pointer u], (Value.int .u16) k] w fun e w' => ∃ u', e = .returned (.agg #[.pointer u']) ∧ Rp w' u' t ∧ Below w.heap.size w w' := by
  have H := find_any k t u
  rw [hf] at H
  clear hf
  go_enter Try.func24, Try.ntmps24
  go_wp2_with (go_at_call 44; refine (H _ ?_).mono ?_; (repeat (first | with_reducible exact h | refine Tr.Rep.alloc _ ?_ | refine Tr.Rep.drew ?_)); rintro e w1 ⟨u1, rfl, rfl, rfl⟩)
  exact bodyPost_ret (v := .agg #[.pointer u]) (by simp [results, Try.results24, go_sem]) rfl ⟨u, rfl, (h.alloc _).alloc _, ((Below.refl _ _).alloc (Nat.le_refl _) _).alloc (by simp) _⟩

/-- Del, whether the key is there or not: the list without it. -/
theorem del_map (t : T) (u : Option Addr) (k : Int) (w : World) (h : Rp w u t) (hB : Tr.Bst ltI t) (hs : t.size ≤ 1000000) :
    Calls Try.prog 24 #[.agg #[.pointer u], (Value.int .u16) k] w fun e w' => ∃ u' t', e = .returned (.agg #[.pointer u']) ∧ Rp w' u' t' ∧ (t' = Tr.del ltI t k ∧ Tr.find ltI k t ≠ .nil ∨ t' = t ∧ Tr.find ltI k t = .nil) ∧ Below w.heap.size w w' := by
  cases hf : Tr.find ltI k t with
  | nil => exact (del_map_no t u k w h hf).mono fun e w' ⟨u', he, hr, hb⟩ => ⟨u', t, he, hr, .inr ⟨rfl, rfl⟩, hb⟩
  | node k' v' a b => exact (del_map_yes t u k k' v' a b w h hB hs hf).mono fun e w' ⟨u', he, hr, hb⟩ => ⟨u', Tr.del ltI t k, he, hr, .inl ⟨rfl, fun e => by cases e⟩, hb⟩

end Go.Proofs.Ytjccjbnbjcbagaa.OrdU
