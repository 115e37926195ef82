/- The exported calls of a map, each by its contract. -/
import Derived.Test.YtnkfdnehkihbeaaMapEFl
import Derived.Test.YtnkfdnehkihbeaaRes
namespace Go.Proofs.Ytnkfdnehkihbeaa.MapFl
open Go.RowKit Go.Proofs.Ytnkfdnehkihbeaa
set_option linter.unusedVariables false
variable {P : Nat → Prop}

theorem put_map (t : T) (u : Option Addr) (k : ByteArray) (v : FV) (w : World) (h : Rp P w u t) (hs : t.size + 1 ≤ 4000000) :
    Calls Try.prog 56 #[.agg #[.pointer u], Value.string k, (.agg #[fvS v, fvN v])] w fun e w' => ∃ u', e = .returned (.agg #[.pointer u']) ∧ Rp P w' u' (Tr.put ltS k v t) ∧ Below w.heap.size w w' := by
  go_enter Try.func56, Try.ntmps56
  go_wp2_with (go_at_call 66; refine (put_any (P := P) k v t u _ ?_ hs).mono ?_; (repeat (first | with_reducible exact h | refine Rp.alloc _ ?_ | refine Rp.drew ?_)); rintro e w1 ⟨u1, rfl, hr1, hb1⟩
               have hz : w.heap.size + 2 < w1.heap.size := by have := hb1.size; simp at this; omega
               have k0 : w1.cell? ⟨w.heap.size + 2, 0, none⟩ = some (.pointer none) := (hb1.cell (by simp)).trans (by simp [go_sem])
               have k1 : w1.cell? ⟨w.heap.size + 2, 1, none⟩ = none := (hb1.cell (by simp)).trans (by simp [go_sem])
               have k2 : w1.frozen? ⟨w.heap.size + 2, 0, none⟩ = false := (hb1.frozen (by simp)).trans (by simp [go_sem]))
  have ks : (w1.setCell ⟨w.heap.size + 2, 0, none⟩ (.pointer u1)).cell? ⟨w.heap.size + 2, 0, none⟩ = some (.pointer u1) := World.cell?_setCell_same _ _ _ k0
  exact bodyPost_ret (v := .agg #[.pointer u1]) (by simp [results, Try.results56, go_sem, ks]) rfl ⟨u1, rfl, hr1.setCell k1 _, (Tr.below_of hb1 (by repeat (first | exact Below.refl _ _ | apply Below.drew | refine Below.alloc ?_ (by simp <;> omega) _))).setCell (by simp <;> omega) _⟩

theorem find_yes (t : T) (u : Option Addr) (k k' : ByteArray) (v' : FV) (a b : T) (hf : Tr.find ltS k t = .node k' v' a b) (w : World) (h : Rp P w u t) :
    Calls Try.prog 64 #[.pointer u, Value.string k] w fun e w' => ∃ b, e = .returned (.pointer (some ⟨b, 0, none⟩)) ∧ b < w.heap.size ∧ (w.cell? ⟨b, 1, none⟩ = some (fvS v') ∧ w.cell? ⟨b, 2, none⟩ = some (fvN v')) ∧ w = w' := by
  have H := find_any (P := P) k t u w h
  rw [hf] at H
  refine H.mono ?_
  rintro e w' ⟨u1, rfl, hr, rfl⟩
  obtain ⟨b, ul, ur, rfl, hPb, c0, c1, c1b, c2, c3, c4, c5, hl, hr⟩ := hr
  exact ⟨b, rfl, World.block_lt_of_cell? w _ c0, ⟨c1, c1b⟩, rfl⟩

theorem find_no (t : T) (u : Option Addr) (k : ByteArray) (hf : Tr.find ltS k t = .nil) (w : World) (h : Rp P w u t) :
    Calls Try.prog 64 #[.pointer u, Value.string k] w fun e w' => e = .returned (.pointer none) ∧ w = w' := by
  have H := find_any (P := P) k t u w h
  rw [hf] at H
  refine H.mono ?_
  rintro e w' ⟨u1, rfl, hr, rfl⟩
  obtain ⟨rfl, _⟩ := hr
  exact ⟨rfl, rfl⟩

theorem len_map (t : T) (u : Option Addr) (w : World) (h : Rp P w u t) :
    Calls Try.prog 53 #[.agg #[.pointer u]] w fun e w' => e = .returned (.int .i64 (t.size : Int)) ∧ Below w.heap.size w w' := by
  go_enter Try.func53, Try.ntmps53
  go_wp2_with (go_at_call 63; refine (count_any (P := P) t u _ ?_).mono ?_; (repeat (first | with_reducible exact h | refine Rp.alloc _ ?_ | refine Rp.drew ?_)); rintro e w1 ⟨rfl, rfl⟩)
  go_ret
  exact ⟨rfl, (Below.refl _ _).alloc (Nat.le_refl _) _⟩

set_option maxHeartbeats 3200000 in
theorem get_yes (t : T) (u : Option Addr) (k k' : ByteArray) (v' : FV) (a b : T) (w : World) (h : Rp P w u t) (hf : Tr.find ltS k t = .node k' v' a b) :
    Calls Try.prog 54 #[.agg #[.pointer u], Value.string k] w fun e w' => e = .returned (.tuple #[(.agg #[fvS v', fvN v']), .bool true]) ∧ Below w.heap.size w w' := by
  have H := fun w h => find_yes (P := P) t u k k' v' a b hf w h
  clear hf
  go_enter Try.func54, Try.ntmps54
  go_wp2_with (go_at_call 64; refine (H _ ?_).mono ?_; (repeat (first | with_reducible exact h | refine Rp.alloc _ ?_ | refine Rp.drew ?_)); rintro e w1 ⟨b, rfl, hbw, ⟨c1, c1b⟩, rfl⟩)
  refine bodyPost_ret (res_cell_tmp' (n := w.heap.size + 1) rfl rfl (heap_alloc2_new _ _ _) Try.underlying83 rfl (by kernel_rfl)) rfl ?_
  exact ⟨rfl, ((Below.refl _ _).alloc (Nat.le_refl _) _).alloc (by simp) _⟩

set_option maxHeartbeats 3200000 in
theorem get_no (t : T) (u : Option Addr) (k : ByteArray) (w : World) (h : Rp P w u t) (hf : Tr.find ltS k t = .nil) :
    Calls Try.prog 54 #[.agg #[.pointer u], Value.string k] w fun e w' => e = .returned (.tuple #[(.agg #[(Value.slice none 0 0), (Value.int .i64 0)]), .bool false]) ∧ Below w.heap.size w w' := by
  have H := fun w h => find_no (P := P) t u k hf w h
  clear hf
  go_enter Try.func54, Try.ntmps54
  go_wp2_with (go_at_call 64; refine (H _ ?_).mono ?_; (repeat (first | with_reducible exact h | refine Rp.alloc _ ?_ | refine Rp.drew ?_)); rintro e w1 ⟨rfl, rfl⟩)
  have HX : (((w.alloc (.cells #[.pointer u] 71)).alloc (.cells #[(Value.slice none 0 0), (Value.int .i64 0)] 83)).alloc (.cells #[(Value.slice none 0 0), (Value.int .i64 0)] 83)).heap[w.heap.size + 1]? = some (.cells #[(Value.slice none 0 0), (Value.int .i64 0)] 83) := (Below.heap_alloc _ _ _ (by simp)).trans (heap_alloc2_new _ _ _)
  refine bodyPost_ret (res_cell_tmp' (n := w.heap.size + 1) rfl rfl HX Try.underlying83 rfl (by kernel_rfl)) rfl ?_
  exact ⟨rfl, (((Below.refl _ _).alloc (Nat.le_refl _) _).alloc (by simp) _).alloc (by simp; omega) _⟩

theorem del_map_yes (t : T) (u : Option Addr) (k k' : ByteArray) (v' : FV) (a b : T) (w : World) (h : Rp P w u t) (hB : Tr.Bst ltS t) (hs : t.size ≤ 4000000) (hf : Tr.find ltS k t = .node k' v' a b) :
    Calls Try.prog 55 #[.agg #[.pointer u], Value.string k] w fun e w' => ∃ u', e = .returned (.agg #[.pointer u']) ∧ Rp P w' u' (Tr.del ltS t k) ∧ Below w.heap.size w w' := by
  have H := fun w h => find_yes (P := P) t u k k' v' a b hf w h
  have hf' : Tr.find ltS k t ≠ .nil := by rw [hf]; exact fun e => by cases e
  clear hf
  go_enter Try.func55, Try.ntmps55
  go_wp2_with (first
    | (go_at_call 64; refine (H _ ?_).mono ?_; (repeat (first | with_reducible exact h | refine Rp.alloc _ ?_ | refine Rp.drew ?_)); rintro e w1 ⟨b, rfl, hbw, _, rfl⟩)
    | (go_at_call 65; refine (del_any (P := P) t k u _ ?_ hB hf' hs).mono ?_; (repeat (first | with_reducible exact h | refine Rp.alloc _ ?_ | refine Rp.drew ?_)); rintro e w1 ⟨u1, rfl, hr1, hb1⟩
       have hz : w.heap.size + 1 < w1.heap.size := by have := hb1.size; simp at this; omega
       have k0 : w1.cell? ⟨w.heap.size + 1, 0, none⟩ = some (.pointer none) := (hb1.cell (by simp)).trans (by simp [go_sem])
       have k1 : w1.cell? ⟨w.heap.size + 1, 1, none⟩ = none := (hb1.cell (by simp)).trans (by simp [go_sem])
       have k2 : w1.frozen? ⟨w.heap.size + 1, 0, none⟩ = false := (hb1.frozen (by simp)).trans (by simp [go_sem])))
  have ks : (w1.setCell ⟨w.heap.size + 1, 0, none⟩ (.pointer u1)).cell? ⟨w.heap.size + 1, 0, none⟩ = some (.pointer u1) := World.cell?_setCell_same _ _ _ k0
  exact bodyPost_ret (v := .agg #[.pointer u1]) (by simp [results, Try.results55, go_sem, ks]) rfl ⟨u1, rfl, hr1.setCell k1 _, (Tr.below_of hb1 (by repeat (first | exact Below.refl _ _ | apply Below.drew | refine Below.alloc ?_ (by simp <;> omega) _))).setCell (by simp <;> omega) _⟩

theorem del_map_no (t : T) (u : Option Addr) (k : ByteArray) (w : World) (h : Rp P w u t) (hf : Tr.find ltS k t = .nil) :
    Calls Try.prog 55 #[.agg #[.pointer u], Value.string k] w fun e w' => ∃ u', e = .returned (.agg #[.pointer u']) ∧ Rp P w' u' t ∧ Below w.heap.size w w' := by
  have H := fun w h => find_no (P := P) t u k hf w h
  clear hf
  go_enter Try.func55, Try.ntmps55
  go_wp2_with (go_at_call 64; refine (H _ ?_).mono ?_; (repeat (first | with_reducible exact h | refine Rp.alloc _ ?_ | refine Rp.drew ?_)); rintro e w1 ⟨rfl, rfl⟩)
  exact bodyPost_ret (v := .agg #[.pointer u]) (by simp [results, Try.results55, go_sem]) rfl ⟨u, rfl, (h.alloc _).alloc _, ((Below.refl _ _).alloc (Nat.le_refl _) _).alloc (by simp) _⟩

/-- Del, whether the key is there or not: the list without it. -/
theorem del_map (t : T) (u : Option Addr) (k : ByteArray) (w : World) (h : Rp P w u t) (hB : Tr.Bst ltS t) (hs : t.size ≤ 4000000) :
    Calls Try.prog 55 #[.agg #[.pointer u], Value.string k] w fun e w' => ∃ u' t', e = .returned (.agg #[.pointer u']) ∧ Rp P w' u' t' ∧ (t' = Tr.del ltS t k ∧ Tr.find ltS k t ≠ .nil ∨ t' = t ∧ Tr.find ltS k t = .nil) ∧ Below w.heap.size w w' := by
  cases hf : Tr.find ltS k t with
  | nil => exact (del_map_no t u k w h hf).mono fun e w' ⟨u', he, hr, hb⟩ => ⟨u', t, he, hr, .inr ⟨rfl, rfl⟩, hb⟩
  | node k' v' a b => exact (del_map_yes t u k k' v' a b w h hB hs hf).mono fun e w' ⟨u', he, hr, hb⟩ => ⟨u', Tr.del ltS t k, he, hr, .inl ⟨rfl, fun e => by cases e⟩, hb⟩

theorem own_mono {w : World} {B B' : Nat} {e : TypeId} {size n : Nat} {v : Value} {xs : List Value} (h : w.ownsRow B e size v n xs) (hB : B' ≤ B) : w.ownsRow B' e size v n xs := by
  obtain ⟨h1, h2⟩ := h
  rcases h2 with h2 | ⟨g, cap, cur, a, b, c⟩
  · exact ⟨h1, .inl h2⟩
  · exact ⟨h1, .inr ⟨g, cap, cur, a, Nat.le_trans hB b, c⟩⟩

/-- What a list of pairs is in the end of a call: a slice of the call's own. -/
def Lst (w : World) (l : List (ByteArray × FV)) (e : Ending) (w' : World) : Prop :=
  ∃ A c, e = .returned (.slice A l.length c) ∧ w'.ownsRow w.heap.size 85 3 (.slice A l.length c) l.length (cellsL l) ∧ Below w.heap.size w w'

theorem places_any (t : T) (u : Option Addr) (f o : Nat) (w : World) (h : Rp P w u t) (hs : t.size ≤ 4000000) (hf : f ≤ 4000000) (ho : o ≤ 4000000) :
    Calls Try.prog 52 #[.agg #[.pointer u], .int .i64 f, .int .i64 o] w (Lst w (Tr.sub f o t.list)) := by
  by_cases hfo : o ≤ f
  · have HE : RowKit.Hid (Tr.sub f o t.list = []) := (show _ = _ from Tr.sub_none f o t.list hfo)
    have hfo' : (o : Int) ≤ (f : Int) := by omega
    go_enter Try.func52, Try.ntmps52
    go_wp2
    go_ret
    rw [HE.out]
    exact ⟨none, 0, rfl, World.ownsRow_nil _ _ _ _, (Below.refl _ _).alloc (Nat.le_refl _) _⟩
  · obtain ⟨c, hc⟩ : ∃ c, o - f = c := ⟨_, rfl⟩
    have hfo' : (f : Int) < (o : Int) := by omega
    have hcb : c ≤ 4000000 := by omega
    have e1 : IntKind.i64.wrap ((o : Int) - (f : Int)) = (c : Int) := by rw [IntWalk.i64_in _ (by omega)]; omega
    have bf1 : (t.size : Int) ≤ (f : Int) + 8000000 := by omega
    have bf2 : (t.size : Int) ≤ (o : Int) + 8000000 := by omega
    have bf3 : (f : Int) ≤ 4000000 := by omega
    have bf4 : (o : Int) ≤ 4000000 := by omega
    clear hc hfo
    obtain ⟨i0, hi0, hz0, hz1, hz2⟩ := info_parts pairInfo
    have hmk : ∀ w1 : World, (Instr.makeSlice 80 (.int .i64 0) (.int .i64 (c : Int))).run Try.prog w1 = .ok (.slice (some ⟨w1.heap.size, 0, none⟩) 0 c) (w1.alloc (.cells (madeCells #[(Value.string ⟨#[]⟩), (Value.slice none 0 0), (Value.int .i64 0)] (c * 3)) 85)) := fun w1 => by
      have := run_make (P := Try.prog) w1 80 85 i0 _ Try.underlying80 hi0 hz0 .i64 .i64 0 (c : Int) (Int.le_refl _) (by omega) (by rw [hz2]; omega) (by omega)
      rw [hz1] at this
      exact this
    clear hz0 hz1 hz2 hi0
    have hown : ((w.alloc (.cells #[.pointer u] 71)).alloc (.cells (madeCells #[(Value.string ⟨#[]⟩), (Value.slice none 0 0), (Value.int .i64 0)] (c * 3)) 85)).ownsRow (w.alloc (.cells #[.pointer u] 71)).heap.size 85 3 (.slice (some ⟨w.heap.size + 1, 0, none⟩) 0 c) 0 [] := by
      have := World.ownsRow_made (base := (w.alloc (.cells #[.pointer u] 71)).heap.size) (e := 85) (size := 3) (w.alloc (.cells #[.pointer u] 71)) (madeCells #[(Value.string ⟨#[]⟩), (Value.slice none 0 0), (Value.int .i64 0)] (c * 3)) c (Nat.le_refl _) (by unfold maxLen; omega) (size_madeCells _ _)
      rwa [show (⟨(w.alloc (.cells #[.pointer u] 71)).heap.size, 0, none⟩ : Addr) = ⟨w.heap.size + 1, 0, none⟩ by rw [World.size_alloc]] at this
    go_enter Try.func52, Try.ntmps52
    go_wp2
    go_region_held3 (fun w' => w'.cell? ⟨w.heap.size, 0, none⟩ = some (.pointer u)) (first | go_keep | (refine (hb1.cell (by simp)).trans ?_; simp [go_sem]))
      (first
        | (go_at_call 62
           refine (gather_any (P := P) (w.alloc (.cells #[.pointer u] 71)) t u _ (w.heap.size + 1) 0 c [] f o (h.alloc _) ?_ ?_ (by omega) bf1 bf2 bf3 bf4).mono ?_
           exact ((Below.refl _ _).alloc (Nat.le_refl _) _).drew
           exact hown
           rintro e w1 ⟨g1, cap1, rfl, ho1, hb1⟩
           rw [Nat.zero_add] at ho1 ⊢))
    go_wp2
    go_ret
    exact ⟨_, _, rfl, own_mono ho1 (by simp), Tr.below_of hb1 (by repeat (first | exact Below.refl _ _ | apply Below.drew | refine Below.alloc ?_ (by simp <;> omega) _))⟩

theorem all_map (t : T) (u : Option Addr) (w : World) (h : Rp P w u t) (hs : t.size ≤ 4000000) :
    Calls Try.prog 36 #[.agg #[.pointer u]] w (Lst w t.list) := by
  have H := fun w h => places_any (P := P) t u 0 t.size w h hs (by omega) hs
  rw [Tr.sub_all t.list (Tr.length_list t)] at H
  go_enter Try.func36, Try.ntmps36
  go_wp2
  go_region_held3 (fun w' => w'.cell? ⟨w.heap.size, 0, none⟩ = some (.pointer u)) (first | go_keep | (refine (hb1.cell (by simp)).trans ?_; simp [go_sem]))
    (first
      | (go_at_call 53; refine (len_map (P := P) t u _ ?_).mono ?_; (repeat (first | with_reducible exact h | refine Rp.alloc _ ?_ | refine Rp.drew ?_)); rintro e w1 ⟨rfl, hb1⟩)
      | (go_at_call 52; refine (H _ (h.below (Tr.below_of hb1 (by repeat (first | exact Below.refl _ _ | apply Below.drew | refine Below.alloc ?_ (by simp <;> omega) _))) (Nat.le_refl _))).mono ?_; rintro e w2 ⟨A, c, rfl, ho2, hb2⟩; have hw := hb1.size; replace hb1 := hb1.trans (hb2.mono hb1.size)))
  go_wp2
  go_ret
  exact ⟨_, _, rfl, own_mono ho2 (Nat.le_trans (by simp) hw), Tr.below_of hb1 (by repeat (first | exact Below.refl _ _ | apply Below.drew | refine Below.alloc ?_ (by simp <;> omega) _))⟩

end Go.Proofs.Ytnkfdnehkihbeaa.MapFl
