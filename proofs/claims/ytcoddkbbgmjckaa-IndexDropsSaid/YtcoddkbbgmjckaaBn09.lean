/- The exported calls of a map, each by its contract. -/
import Derived.Test.YtcoddkbbgmjckaaBn08
import Derived.Test.YtcoddkbbgmjckaaBn03
namespace Go.Proofs.Ytcoddkbbgmjckaa.MapKh
open Go.RowKit Go.Proofs.Ytcoddkbbgmjckaa
set_option linter.unusedVariables false
variable {P : Nat → Prop}

theorem put_map (t : T) (u : Option Addr) (k : ByteArray) (v : HL) (w : World) (h : Rp P w u t) (hs : t.size + 1 ≤ 4000000) :
    Calls Try.prog 71 #[.agg #[.pointer u], Value.string k, ((hlV v))] w fun e w' => ∃ u', e = .returned (.agg #[.pointer u']) ∧ Rp P w' u' (Tr.put ltS k v t) ∧ Below w.heap.size w w' := by
  go_enter Try.func71, Try.ntmps71
  go_wp2_with (go_at_call 99; refine (put_any (P := P) k v t u _ ?_ hs).mono ?_; (repeat (first | with_reducible exact h | refine Rp.alloc _ ?_ | refine Rp.drew ?_)); rintro e w1 ⟨u1, rfl, hr1, hb1⟩
               have hz : w.heap.size + 1 < w1.heap.size := by have := hb1.size; simp at this; omega
               have k0 : w1.cell? ⟨w.heap.size + 1, 0, none⟩ = some (.pointer none) := (hb1.cell (by simp)).trans (by simp [go_sem])
               have k1 : w1.cell? ⟨w.heap.size + 1, 1, none⟩ = none := (hb1.cell (by simp)).trans (by simp [go_sem])
               have k2 : w1.frozen? ⟨w.heap.size + 1, 0, none⟩ = false := (hb1.frozen (by simp)).trans (by simp [go_sem]))
  have ks : (w1.setCell ⟨w.heap.size + 1, 0, none⟩ (.pointer u1)).cell? ⟨w.heap.size + 1, 0, none⟩ = some (.pointer u1) := World.cell?_setCell_same _ _ _ k0
  exact bodyPost_ret (v := .agg #[.pointer u1]) (by simp [results, Try.results71, go_sem, ks]) rfl ⟨u1, rfl, hr1.setCell k1 _, (Tr.below_of hb1 (by repeat (first | exact Below.refl _ _ | apply Below.drew | refine Below.alloc ?_ (by simp <;> omega) _))).setCell (by simp <;> omega) _⟩

theorem find_yes (t : T) (u : Option Addr) (k k' : ByteArray) (v' : HL) (a b : T) (hf : Tr.find ltS k t = .node k' v' a b) (w : World) (h : Rp P w u t) :
    Calls Try.prog 83 #[.pointer u, Value.string k] w fun e w' => ∃ b, e = .returned (.pointer (some ⟨b, 0, none⟩)) ∧ b < w.heap.size ∧ (w.cell? ⟨b, 1, none⟩ = some ((hlV v'))) ∧ w = w' := by
  have H := find_any (P := P) k t u w h
  rw [hf] at H
  refine H.mono ?_
  rintro e w' ⟨u1, rfl, hr, rfl⟩
  obtain ⟨b, ul, ur, rfl, hPb, c0, c1, c2, c3, c4, c5, hl, hr⟩ := hr
  exact ⟨b, rfl, World.block_lt_of_cell? w _ c0, c1, rfl⟩

theorem find_no (t : T) (u : Option Addr) (k : ByteArray) (hf : Tr.find ltS k t = .nil) (w : World) (h : Rp P w u t) :
    Calls Try.prog 83 #[.pointer u, Value.string k] w fun e w' => e = .returned (.pointer none) ∧ w = w' := by
  have H := find_any (P := P) k t u w h
  rw [hf] at H
  refine H.mono ?_
  rintro e w' ⟨u1, rfl, hr, rfl⟩
  obtain ⟨rfl, _⟩ := hr
  exact ⟨rfl, rfl⟩

theorem len_map (t : T) (u : Option Addr) (w : World) (h : Rp P w u t) :
    Calls Try.prog 90 #[.agg #[.pointer u]] w fun e w' => e = .returned (.int .i64 (t.size : Int)) ∧ Below w.heap.size w w' := by
  go_enter Try.func90, Try.ntmps90
  go_wp2_with (go_at_call 89; refine (count_any (P := P) t u _ ?_).mono ?_; (repeat (first | with_reducible exact h | refine Rp.alloc _ ?_ | refine Rp.drew ?_)); rintro e w1 ⟨rfl, rfl⟩)
  go_ret
  exact ⟨rfl, (Below.refl _ _).alloc (Nat.le_refl _) _⟩

set_option maxHeartbeats 3200000 in
theorem get_yes (t : T) (u : Option Addr) (k k' : ByteArray) (v' : HL) (a b : T) (w : World) (h : Rp P w u t) (hf : Tr.find ltS k t = .node k' v' a b) :
    Calls Try.prog 53 #[.agg #[.pointer u], Value.string k] w fun e w' => e = .returned (.tuple #[((hlV v')), .bool true]) ∧ Below w.heap.size w w' := by
  have H := fun w h => find_yes (P := P) t u k k' v' a b hf w h
  clear hf
  go_enter Try.func53, Try.ntmps53
  go_wp2_with (go_at_call 83; refine (H _ ?_).mono ?_; (repeat (first | with_reducible exact h | refine Rp.alloc _ ?_ | refine Rp.drew ?_)); rintro e w1 ⟨b, rfl, hbw, c1, rfl⟩)
  go_ret2
  exact ⟨rfl, (Below.refl _ _).alloc (Nat.le_refl _) _⟩

set_option maxHeartbeats 3200000 in
theorem get_no (t : T) (u : Option Addr) (k : ByteArray) (w : World) (h : Rp P w u t) (hf : Tr.find ltS k t = .nil) :
    Calls Try.prog 53 #[.agg #[.pointer u], Value.string k] w fun e w' => e = .returned (.tuple #[(Value.slice none 0 0), .bool false]) ∧ Below w.heap.size w w' := by
  have H := fun w h => find_no (P := P) t u k hf w h
  clear hf
  go_enter Try.func53, Try.ntmps53
  go_wp2_with (go_at_call 83; refine (H _ ?_).mono ?_; (repeat (first | with_reducible exact h | refine Rp.alloc _ ?_ | refine Rp.drew ?_)); rintro e w1 ⟨rfl, rfl⟩)
  go_ret2
  exact ⟨rfl, (Below.refl _ _).alloc (Nat.le_refl _) _⟩

theorem del_map_yes (t : T) (u : Option Addr) (k k' : ByteArray) (v' : HL) (a b : T) (w : World) (h : Rp P w u t) (hB : Tr.Bst ltS t) (hs : t.size ≤ 4000000) (hf : Tr.find ltS k t = .node k' v' a b) :
    Calls Try.prog 70 #[.agg #[.pointer u], Value.string k] w fun e w' => ∃ u', e = .returned (.agg #[.pointer u']) ∧ Rp P w' u' (Tr.del ltS t k) ∧ Below w.heap.size w w' := by
  have H := fun w h => find_yes (P := P) t u k k' v' a b hf w h
  have hf' : Tr.find ltS k t ≠ .nil := by rw [hf]; exact fun e => by cases e
  clear hf
  go_enter Try.func70, Try.ntmps70
  go_wp2_with (first
    | (go_at_call 83; refine (H _ ?_).mono ?_; (repeat (first | with_reducible exact h | refine Rp.alloc _ ?_ | refine Rp.drew ?_)); rintro e w1 ⟨b, rfl, hbw, _, rfl⟩)
    | (go_at_call 98; refine (del_any (P := P) t k u _ ?_ hB hf' hs).mono ?_; (repeat (first | with_reducible exact h | refine Rp.alloc _ ?_ | refine Rp.drew ?_)); rintro e w1 ⟨u1, rfl, hr1, hb1⟩
       have hz : w.heap.size + 1 < w1.heap.size := by have := hb1.size; simp at this; omega
       have k0 : w1.cell? ⟨w.heap.size + 1, 0, none⟩ = some (.pointer none) := (hb1.cell (by simp)).trans (by simp [go_sem])
       have k1 : w1.cell? ⟨w.heap.size + 1, 1, none⟩ = none := (hb1.cell (by simp)).trans (by simp [go_sem])
       have k2 : w1.frozen? ⟨w.heap.size + 1, 0, none⟩ = false := (hb1.frozen (by simp)).trans (by simp [go_sem])))
  have ks : (w1.setCell ⟨w.heap.size + 1, 0, none⟩ (.pointer u1)).cell? ⟨w.heap.size + 1, 0, none⟩ = some (.pointer u1) := World.cell?_setCell_same _ _ _ k0
  exact bodyPost_ret (v := .agg #[.pointer u1]) (by simp [results, Try.results70, go_sem, ks]) rfl ⟨u1, rfl, hr1.setCell k1 _, (Tr.below_of hb1 (by repeat (first | exact Below.refl _ _ | apply Below.drew | refine Below.alloc ?_ (by simp <;> omega) _))).setCell (by simp <;> omega) _⟩

theorem del_map_no (t : T) (u : Option Addr) (k : ByteArray) (w : World) (h : Rp P w u t) (hf : Tr.find ltS k t = .nil) :
    Calls Try.prog 70 #[.agg #[.pointer u], Value.string k] w fun e w' => ∃ u', e = .returned (.agg #[.pointer u']) ∧ Rp P w' u' t ∧ Below w.heap.size w w' := by
  have H := fun w h => find_no (P := P) t u k hf w h
  clear hf
  go_enter Try.func70, Try.ntmps70
  go_wp2_with (go_at_call 83; refine (H _ ?_).mono ?_; (repeat (first | with_reducible exact h | refine Rp.alloc _ ?_ | refine Rp.drew ?_)); rintro e w1 ⟨rfl, rfl⟩)
  exact bodyPost_ret (v := .agg #[.pointer u]) (by simp [results, Try.results70, go_sem]) rfl ⟨u, rfl, (h.alloc _).alloc _, ((Below.refl _ _).alloc (Nat.le_refl _) _).alloc (by simp) _⟩

/-- Del, whether the key is there or not: the list without it. -/
theorem del_map (t : T) (u : Option Addr) (k : ByteArray) (w : World) (h : Rp P w u t) (hB : Tr.Bst ltS t) (hs : t.size ≤ 4000000) :
    Calls Try.prog 70 #[.agg #[.pointer u], Value.string k] w fun e w' => ∃ u' t', e = .returned (.agg #[.pointer u']) ∧ Rp P w' u' t' ∧ (t' = Tr.del ltS t k ∧ Tr.find ltS k t ≠ .nil ∨ t' = t ∧ Tr.find ltS k t = .nil) ∧ Below w.heap.size w w' := by
  cases hf : Tr.find ltS k t with
  | nil => exact (del_map_no t u k w h hf).mono fun e w' ⟨u', he, hr, hb⟩ => ⟨u', t, he, hr, .inr ⟨rfl, rfl⟩, hb⟩
  | node k' v' a b => exact (del_map_yes t u k k' v' a b w h hB hs hf).mono fun e w' ⟨u', he, hr, hb⟩ => ⟨u', Tr.del ltS t k, he, hr, .inl ⟨rfl, fun e => by cases e⟩, hb⟩

theorem less_any (a b : ByteArray) (w : World) : Calls Try.prog 88 #[Value.string a, Value.string b] w fun e w' => e = .returned (.bool (ltS a b)) ∧ w = w' := by
  go_enter Try.func88, Try.ntmps88
  go_wp2_with (go_at_call 103; refine (nan_any _ _).mono ?_; rintro e w' ⟨rfl, rfl⟩)
  go_ret
  exact ⟨rfl, rfl⟩

theorem less_yes (a b : ByteArray) (h : ltS a b = true) (w : World) : Calls Try.prog 88 #[Value.string a, Value.string b] w fun e w' => e = .returned (.bool true) ∧ w = w' := by
  have := less_any a b w
  rwa [h] at this
theorem less_no (a b : ByteArray) (h : ltS a b = false) (w : World) : Calls Try.prog 88 #[Value.string a, Value.string b] w fun e w' => e = .returned (.bool false) ∧ w = w' := by
  have := less_any a b w
  rwa [h] at this

theorem rank_map (k : ByteArray) (t : T) (u : Option Addr) (w : World) (h : Rp P w u t) (hs : t.size ≤ 4000000) :
    Calls Try.prog 59 #[.agg #[.pointer u], Value.string k] w fun e w' => e = .returned (.int .i64 (Tr.rank ltS k t : Int)) ∧ Below w.heap.size w w' := by
  generalize hF : Tr.rank ltS k t = F
  go_enter Try.func59, Try.ntmps59
  go_wp2
  go_loopg [5, 6] t.size (fun g x p wr => wr = w.alloc (.cells #[.pointer u] 30) ∧ ∃ u' t' j, x = .int .i64 ((j : Nat) : Int) ∧ p = .pointer u' ∧ Rp P w u' t' ∧ t'.size ≤ g ∧ j + t'.size ≤ 4000000 ∧ RowKit.Hid (j + Tr.rank ltS k t' = F))
  case atStart => exact ⟨rfl, u, t, 0, rfl, rfl, h, Nat.le_refl _, by omega, show _ = _ by rw [← hF, Nat.zero_add]⟩
  case round =>
    obtain ⟨rfl, u', t', j, rfl, rfl, h', hg, hj, hF'⟩ := hrel
    clear hF
    cases t' with
    | nil =>
      obtain ⟨rfl, _⟩ := h'
      have hF2 : RowKit.Hid (F = j) := (show _ = _ from hF'.out.symm)
      clear hF'
      go_wp2
      go_ret
      exact ⟨by rw [hF2.out]; rfl, (Below.refl _ _).alloc (Nat.le_refl _) _⟩
    | node nk nv l r =>
      obtain ⟨b, ul, ur, rfl, hPb, c0, c1, c2, c3, c4, c5, hl, hr⟩ := h'
      have hbw : b < w.heap.size := World.block_lt_of_cell? w _ c0
      rw [Tr.size_node] at hg hj
      have HF : RowKit.Hid (j + (if ltS nk k then l.size + 1 + Tr.rank ltS k r else Tr.rank ltS k l) = F) := hF'
      clear hF'
      have jb : (j : Int) ≤ 4000000 := by omega
      have lb : (l.size : Int) ≤ 4000000 := by omega
      cases hlt : ltS nk k with
      | true =>
        have HL : RowKit.Hid (j + (l.size + 1) + Tr.rank ltS k r = F) := by have := HF.out; rw [if_pos hlt] at this; show _ = _; omega
        clear HF
        go_wp2_with (first
          | (go_at_call 88; refine (less_yes _ _ hlt _).mono ?_; rintro e w' ⟨rfl, rfl⟩)
          | (go_at_call 89; refine (count_any (P := P) l ul _ ?_).mono ?_; (repeat (first | with_reducible exact hl | refine Rp.alloc _ ?_ | refine Rp.drew ?_)); rintro e w' ⟨rfl, rfl⟩))
        go_roundg r.size
        case measure => omega
        case rel => exact ⟨rfl, ur, r, j + (l.size + 1), by go_num, rfl, hr, Nat.le_refl _, by omega, HL⟩
      | false =>
        have HL : RowKit.Hid (j + Tr.rank ltS k l = F) := by have := HF.out; rw [if_neg (by rw [hlt]; decide)] at this; exact this
        clear HF
        go_wp2_with (first
          | (go_at_call 88; refine (less_no _ _ hlt _).mono ?_; rintro e w' ⟨rfl, rfl⟩))
        go_roundg l.size
        case measure => omega
        case rel => exact ⟨rfl, ul, l, j, rfl, rfl, hl, Nat.le_refl _, by omega, HL⟩

theorem own_mono {w : World} {B B' : Nat} {e : TypeId} {size n : Nat} {v : Value} {xs : List Value} (h : w.ownsRow B e size v n xs) (hB : B' ≤ B) : w.ownsRow B' e size v n xs := by
  obtain ⟨h1, h2⟩ := h
  rcases h2 with h2 | ⟨g, cap, cur, a, b, c⟩
  · exact ⟨h1, .inl h2⟩
  · exact ⟨h1, .inr ⟨g, cap, cur, a, Nat.le_trans hB b, c⟩⟩

/-- What a list of pairs is in the end of a call: a slice of the call's own. -/
def Lst (w : World) (l : List (ByteArray × HL)) (e : Ending) (w' : World) : Prop :=
  ∃ A c, e = .returned (.slice A l.length c) ∧ w'.ownsRow w.heap.size 81 2 (.slice A l.length c) l.length (cellsL l) ∧ Below w.heap.size w w'

theorem places_any (t : T) (u : Option Addr) (f o : Nat) (w : World) (h : Rp P w u t) (hs : t.size ≤ 4000000) (hf : f ≤ 4000000) (ho : o ≤ 4000000) :
    Calls Try.prog 97 #[.agg #[.pointer u], .int .i64 f, .int .i64 o] w (Lst w (Tr.sub f o t.list)) := by
  by_cases hfo : o ≤ f
  · have HE : RowKit.Hid (Tr.sub f o t.list = []) := (show _ = _ from Tr.sub_none f o t.list hfo)
    have hfo' : (o : Int) ≤ (f : Int) := by omega
    go_enter Try.func97, Try.ntmps97
    go_wp2
    go_ret
    rw [HE.out]
    exact ⟨none, 0, rfl, World.ownsRow_nil _ _ _ _, (Below.refl _ _).alloc (Nat.le_refl _) _⟩
  · obtain ⟨c, hc⟩ : ∃ c, o - f = c := ⟨_, rfl⟩
    have hfo' : (f : Int) < (o : Int) := by omega
    have hcb : c ≤ 4000000 := by omega
    have e1 : IntKind.i64.wrap ((o : Int) - (f : Int)) = (c : Int) := by rw [IntWalk.i64_in _ (by omega)]; omega
    have bf1 : (t.size : Int) ≤ (f : Int) + 8000000 := by omega
    have bf2 : (t.size : Int) ≤ (o : Int) + 8000000 := by omega
    have bf3 : (f : Int) ≤ 4000000 := by omega
    have bf4 : (o : Int) ≤ 4000000 := by omega
    clear hc hfo
    obtain ⟨i0, hi0, hz0, hz1, hz2⟩ := info_parts pairInfo
    have hmk : ∀ w1 : World, (Instr.makeSlice 78 (.int .i64 0) (.int .i64 (c : Int))).run Try.prog w1 = .ok (.slice (some ⟨w1.heap.size, 0, none⟩) 0 c) (w1.alloc (.cells (madeCells #[(Value.string ⟨#[]⟩), (Value.slice none 0 0)] (c * 2)) 81)) := fun w1 => by
      have := run_make (P := Try.prog) w1 78 81 i0 _ Try.underlying78 hi0 hz0 .i64 .i64 0 (c : Int) (Int.le_refl _) (by omega) (by rw [hz2]; omega) (by omega)
      rw [hz1] at this
      exact this
    clear hz0 hz1 hz2 hi0
    have hown : ((w.alloc (.cells #[.pointer u] 30)).alloc (.cells (madeCells #[(Value.string ⟨#[]⟩), (Value.slice none 0 0)] (c * 2)) 81)).ownsRow (w.alloc (.cells #[.pointer u] 30)).heap.size 81 2 (.slice (some ⟨w.heap.size + 1, 0, none⟩) 0 c) 0 [] := by
      have := World.ownsRow_made (base := (w.alloc (.cells #[.pointer u] 30)).heap.size) (e := 81) (size := 2) (w.alloc (.cells #[.pointer u] 30)) (madeCells #[(Value.string ⟨#[]⟩), (Value.slice none 0 0)] (c * 2)) c (Nat.le_refl _) (by unfold maxLen; omega) (size_madeCells _ _)
      rwa [show (⟨(w.alloc (.cells #[.pointer u] 30)).heap.size, 0, none⟩ : Addr) = ⟨w.heap.size + 1, 0, none⟩ by rw [World.size_alloc]] at this
    go_enter Try.func97, Try.ntmps97
    go_wp2
    go_region_held3 (fun w' => w'.cell? ⟨w.heap.size, 0, none⟩ = some (.pointer u)) (first | go_keep | (refine (hb1.cell (by simp)).trans ?_; simp [go_sem]))
      (first
        | (go_at_call 106
           refine (gather_any (P := P) (w.alloc (.cells #[.pointer u] 30)) t u _ (w.heap.size + 1) 0 c [] f o (h.alloc _) ?_ ?_ (by omega) bf1 bf2 bf3 bf4).mono ?_
           exact ((Below.refl _ _).alloc (Nat.le_refl _) _).drew
           exact hown
           rintro e w1 ⟨g1, cap1, rfl, ho1, hb1⟩
           rw [Nat.zero_add] at ho1 ⊢))
    go_wp2
    go_ret
    exact ⟨_, _, rfl, own_mono ho1 (by simp), Tr.below_of hb1 (by repeat (first | exact Below.refl _ _ | apply Below.drew | refine Below.alloc ?_ (by simp <;> omega) _))⟩

theorem all_map (t : T) (u : Option Addr) (w : World) (h : Rp P w u t) (hs : t.size ≤ 4000000) :
    Calls Try.prog 68 #[.agg #[.pointer u]] w (Lst w t.list) := by
  have H := fun w h => places_any (P := P) t u 0 t.size w h hs (by omega) hs
  rw [Tr.sub_all t.list (Tr.length_list t)] at H
  go_enter Try.func68, Try.ntmps68
  go_wp2
  go_region_held3 (fun w' => w'.cell? ⟨w.heap.size, 0, none⟩ = some (.pointer u)) (first | go_keep | (refine (hb1.cell (by simp)).trans ?_; simp [go_sem]))
    (first
      | (go_at_call 90; refine (len_map (P := P) t u _ ?_).mono ?_; (repeat (first | with_reducible exact h | refine Rp.alloc _ ?_ | refine Rp.drew ?_)); rintro e w1 ⟨rfl, hb1⟩)
      | (go_at_call 97; refine (H _ (h.below (Tr.below_of hb1 (by repeat (first | exact Below.refl _ _ | apply Below.drew | refine Below.alloc ?_ (by simp <;> omega) _))) (Nat.le_refl _))).mono ?_; rintro e w2 ⟨A, c, rfl, ho2, hb2⟩; have hw := hb1.size; replace hb1 := hb1.trans (hb2.mono hb1.size)))
  go_wp2
  go_ret
  exact ⟨_, _, rfl, own_mono ho2 (Nat.le_trans (by simp) hw), Tr.below_of hb1 (by repeat (first | exact Below.refl _ _ | apply Below.drew | refine Below.alloc ?_ (by simp <;> omega) _))⟩

theorem between_map (t : T) (u : Option Addr) (a b : ByteArray) (w : World) (h : Rp P w u t) (hB : Tr.Bst ltS t) (hs : t.size ≤ 4000000) :
    Calls Try.prog 86 #[.agg #[.pointer u], Value.string a, Value.string b] w (Lst w (Tr.sub (Tr.rank ltS a t) (Tr.rank ltS b t) t.list)) := by
  have ra := Nat.le_trans (Tr.rank_le linS a hB) hs
  have rb := Nat.le_trans (Tr.rank_le linS b hB) hs
  have Ha := fun w h => rank_map (P := P) a t u w h hs
  have Hb := fun w h => rank_map (P := P) b t u w h hs
  generalize Tr.rank ltS a t = x at *
  generalize Tr.rank ltS b t = y at *
  clear hB
  by_cases hab : a = b
  · subst hab
    go_enter Try.func86, Try.ntmps86
    go_wp2
    go_region_held3 (fun w' => w'.cell? ⟨w.heap.size, 0, none⟩ = some (.pointer u)) (first | go_keep | (refine (hb1.cell (by simp)).trans ?_; simp [go_sem]))
      (first
        | (go_at_call 59; first | (have _t := tok1; refine (Hb _ (h.below (Tr.below_of hb1 (by repeat (first | exact Below.refl _ _ | apply Below.drew | refine Below.alloc ?_ (by simp <;> omega) _))) (Nat.le_refl _))).mono ?_; rintro e w2 ⟨rfl, hb2⟩; replace hb1 := hb1.trans (hb2.mono hb1.size)) | (refine (Ha _ ?_).mono ?_; (repeat (first | with_reducible exact h | refine Rp.alloc _ ?_ | refine Rp.drew ?_)); rintro e w1 ⟨rfl, hb1⟩; have tok1 : True := trivial))
        | (go_at_call 97; refine (places_any (P := P) t u x y _ (h.below (Tr.below_of hb1 (by repeat (first | exact Below.refl _ _ | apply Below.drew | refine Below.alloc ?_ (by simp <;> omega) _))) (Nat.le_refl _)) hs ra rb).mono ?_; rintro e w3 ⟨A, c, rfl, ho3, hb3⟩; have hw := hb1.size; replace hb1 := hb1.trans (hb3.mono hb1.size)))
    go_wp2
    go_ret
    exact ⟨_, _, rfl, own_mono ho3 (Nat.le_trans (by simp) hw), Tr.below_of hb1 (by repeat (first | exact Below.refl _ _ | apply Below.drew | refine Below.alloc ?_ (by simp <;> omega) _))⟩
  · go_enter Try.func86, Try.ntmps86
    go_wp2
    go_region_held3 (fun w' => w'.cell? ⟨w.heap.size, 0, none⟩ = some (.pointer u)) (first | go_keep | (refine (hb1.cell (by simp)).trans ?_; simp [go_sem]))
      (first
        | (go_at_call_of 59 (Value.string a); refine (Ha _ ?_).mono ?_; (repeat (first | with_reducible exact h | refine Rp.alloc _ ?_ | refine Rp.drew ?_)); rintro e w1 ⟨rfl, hb1⟩)
        | (go_at_call_of 59 (Value.string b); refine (Hb _ (h.below (Tr.below_of hb1 (by repeat (first | exact Below.refl _ _ | apply Below.drew | refine Below.alloc ?_ (by simp <;> omega) _))) (Nat.le_refl _))).mono ?_; rintro e w2 ⟨rfl, hb2⟩; replace hb1 := hb1.trans (hb2.mono hb1.size))
        | (go_at_call 97; refine (places_any (P := P) t u x y _ (h.below (Tr.below_of hb1 (by repeat (first | exact Below.refl _ _ | apply Below.drew | refine Below.alloc ?_ (by simp <;> omega) _))) (Nat.le_refl _)) hs ra rb).mono ?_; rintro e w3 ⟨A, c, rfl, ho3, hb3⟩; have hw := hb1.size; replace hb1 := hb1.trans (hb3.mono hb1.size)))
    go_wp2
    go_ret
    exact ⟨_, _, rfl, own_mono ho3 (Nat.le_trans (by simp) hw), Tr.below_of hb1 (by repeat (first | exact Below.refl _ _ | apply Below.drew | refine Below.alloc ?_ (by simp <;> omega) _))⟩

end Go.Proofs.Ytcoddkbbgmjckaa.MapKh

namespace Go.Proofs.Ytcoddkbbgmjckaa
open Go.RowKit
set_option linter.unusedVariables false
set_option linter.unusedSimpArgs false

/-- The keys of a tree, with their histories. -/
def kht (t : MapKh.T) : List Idx.KH := t.list.map fun p => (p.1, p.2.h)

structure IxT (w : World) (u : Option Addr) (t : MapKh.T) : Prop where
  rp : MapKh.Rp (fun _ => True) w u t
  bst : Tr.Bst ltS t
  vs : ∀ p ∈ t.list, Vers w p.2.B p.2.h.length p.2.h ∧ p.2.h.length ≤ p.2.c

section
variable {w w' : World} {u u' : Option Addr} {t : MapKh.T}

theorem IxT.below (h : IxT w u t) (hb : Below w.heap.size w w') : IxT w' u t := ⟨h.rp.below hb (Nat.le_refl _), h.bst, fun p hp => ⟨(h.vs p hp).1.below hb, (h.vs p hp).2⟩⟩

theorem IxT.zero (w : World) : IxT w none .nil := ⟨⟨rfl, fun _ _ => trivial⟩, List.Pairwise.nil, fun p hp => by cases hp⟩

theorem kht_len (t : MapKh.T) : (kht t).length = t.size := by unfold kht; rw [List.length_map, Tr.length_list]

theorem kht_up (h : Tr.Bst ltS t) : (kht t).Pairwise fun a b => ltS a.1 b.1 = true := by
  unfold kht
  rw [List.pairwise_map]
  exact h

theorem kht_filter (t : MapKh.T) (f : ByteArray → Bool) : (kht t).filter (fun p => f p.1) = (t.list.filter fun p => f p.1).map fun p => (p.1, p.2.h) := by
  unfold kht
  rw [List.filter_map]
  rfl

theorem kht_put (h : Tr.Bst ltS t) (k : ByteArray) (v : HL) (hv : v.h ≠ []) : kht (Tr.put ltS k v t) = Idx.setL (kht t) k v.h := by
  unfold Idx.setL
  rw [if_neg hv, kht_filter t (fun x => ltS x k), kht_filter t (fun x => ltS k x)]
  unfold kht
  rw [Tr.list_put linS k v t h]
  unfold Tr.insL
  rw [List.map_append, List.map_cons]
  rfl

theorem kht_del (h : Tr.Bst ltS t) (k : ByteArray) : kht (Tr.del ltS t k) = Idx.setL (kht t) k [] := by
  have key : ∀ l : List (ByteArray × HL), l.Pairwise (fun a b => ltS a.1 b.1 = true) → l.filter (fun p => ltS p.1 k || ltS k p.1) = l.filter (fun p => ltS p.1 k) ++ l.filter fun p => ltS k p.1 := by
    intro l
    induction l with
    | nil => intro _; rfl
    | cons x l ih =>
      intro hp
      obtain ⟨h1, h2⟩ := List.pairwise_cons.1 hp
      cases hx : ltS x.1 k with
      | true =>
        have hk : ltS k x.1 = false := linS.as hx
        simp [List.filter_cons, hx, hk, ih h2]
      | false =>
        have hall : ∀ y ∈ l, ltS y.1 k = false := fun y hy => by
          cases hy1 : ltS y.1 k with
          | false => rfl
          | true => have := ltS_trans (h1 y hy) hy1; rw [hx] at this; cases this
        have e0 : l.filter (fun p => ltS p.1 k) = [] := Tr.filter_none hall
        have e1 : l.filter (fun p => ltS p.1 k || ltS k p.1) = l.filter fun p => ltS k p.1 := List.filter_congr fun y hy => by rw [hall y hy, Bool.false_or]
        cases hk : ltS k x.1 <;> simp [List.filter_cons, hx, hk, e0, e1]
  unfold Idx.setL
  rw [if_pos rfl, List.nil_append, kht_filter t (fun x => ltS x k), kht_filter t (fun x => ltS k x)]
  unfold kht
  rw [Tr.list_del linS t k h]
  unfold Tr.delL
  rw [key t.list h, List.map_append]

theorem kht_same {k : ByteArray} (h : ∀ p ∈ t.list, p.1 ≠ k) (hb : Tr.Bst ltS t) : Idx.setL (kht t) k [] = kht t := by
  rw [← kht_del hb]
  unfold kht
  rw [Tr.list_del linS t k hb]
  unfold Tr.delL
  rw [List.filter_eq_self.2]
  intro p hp
  cases h1 : ltS p.1 k with
  | true => rfl
  | false =>
    cases h2 : ltS k p.1 with
    | true => rfl
    | false => exact absurd (ltS_con h1 h2) (h p hp)

/-- A key that is there, and one that isn't. -/
theorem kht_yes (h : Tr.Bst ltS t) {k k' : ByteArray} {v' : HL} {a b : MapKh.T} (hf : Tr.find ltS k t = .node k' v' a b) : (k, v') ∈ t.list ∧ Idx.getL (kht t) k = v'.h := by
  have hm := (Tr.find_node linS k t hf).2
  refine ⟨hm, ?_⟩
  exact Idx.get_mem (kht_up h) (p := (k, v'.h)) (List.mem_map.2 ⟨_, hm, rfl⟩)

theorem kht_no (h : Tr.Bst ltS t) {k : ByteArray} (hf : Tr.find ltS k t = .nil) : (∀ p ∈ t.list, p.1 ≠ k) ∧ Idx.getL (kht t) k = [] := by
  have hm := Tr.find_mem linS k t h hf
  refine ⟨hm, Idx.get_none fun p hp => ?_⟩
  obtain ⟨q, hq, rfl⟩ := List.mem_map.1 hp
  exact hm q hq

/-- Between two keys. -/
theorem sub_is (h : Tr.Bst ltS t) (a b : ByteArray) : Tr.sub (Tr.rank ltS a t : Int) (Tr.rank ltS b t : Int) t.list = t.list.filter fun p => !ltS p.1 a && ltS p.1 b := by
  rw [Tr.rank_eq linS a t h, Tr.rank_eq linS b t h]
  unfold Tr.sub
  rw [Int.toNat_natCast, Int.toNat_natCast]
  have key : ∀ l : List (ByteArray × HL), l.Pairwise (fun a b => ltS a.1 b.1 = true) → ∀ a : ByteArray, l.take (l.filter fun p => ltS p.1 a).length = (l.filter fun p => ltS p.1 a) ∧ l.drop (l.filter fun p => ltS p.1 a).length = l.filter fun p => !ltS p.1 a := by
    intro l
    induction l with
    | nil => intro _ a; exact ⟨rfl, rfl⟩
    | cons x l ih =>
      intro hp a
      obtain ⟨h1, h2⟩ := List.pairwise_cons.1 hp
      obtain ⟨i1, i2⟩ := ih h2 a
      cases hx : ltS x.1 a with
      | true =>
        constructor
        · simp only [List.filter_cons, hx, if_true, List.length_cons, List.take_succ_cons, i1]
        · simp only [List.filter_cons, hx, if_true, List.length_cons, List.drop_succ_cons, i2]
          rfl
      | false =>
        have hall : ∀ y ∈ l, ltS y.1 a = false := fun y hy => by
          cases hy1 : ltS y.1 a with
          | false => rfl
          | true => have := ltS_trans (h1 y hy) hy1; rw [hx] at this; cases this
        have e0 : l.filter (fun p => ltS p.1 a) = [] := Tr.filter_none hall
        have e1 : l.filter (fun p => !ltS p.1 a) = l := List.filter_eq_self.2 fun y hy => by rw [hall y hy]; rfl
        simp [List.filter_cons, hx, e0, e1]
  obtain ⟨a1, a2⟩ := key t.list h a
  obtain ⟨b1, b2⟩ := key t.list h b
  rw [← List.drop_take, b1]
  -- drop a prefix of what is below b
  obtain ⟨c1, c2⟩ := key (t.list.filter fun p => ltS p.1 b) (h.sublist List.filter_sublist) a
  by_cases hab : ltS b a = true ∨ a = b
  · have e1 : ∀ p : ByteArray × HL, ltS p.1 b = true → ltS p.1 a = true := fun p hp => by
      rcases hab with q | rfl
      · exact ltS_trans hp q
      · exact hp
    have hle : (t.list.filter fun p => ltS p.1 b).length ≤ (t.list.filter fun p => ltS p.1 a).length := by
      rw [← List.countP_eq_length_filter, ← List.countP_eq_length_filter]
      exact List.countP_mono_left fun p _ hp => e1 p hp
    rw [List.drop_eq_nil_of_le hle]
    refine (List.filter_eq_nil_iff.2 fun p _ => ?_).symm
    cases h1 : ltS p.1 b with
    | false => simp
    | true => rw [e1 p h1]; simp
  · have hab2 : ltS a b = true := by
      cases h1 : ltS a b with
      | true => rfl
      | false =>
        cases h2 : ltS b a with
        | true => exact absurd (.inl h2) hab
        | false => exact absurd (.inr (ltS_con h1 h2)) hab
    have e2 : ((t.list.filter fun p => ltS p.1 b).filter fun p => ltS p.1 a) = t.list.filter fun p => ltS p.1 a := by
      rw [List.filter_filter]
      refine List.filter_congr fun p _ => ?_
      cases h1 : ltS p.1 a with
      | false => rfl
      | true => rw [ltS_trans h1 hab2]; rfl
    rw [e2] at c2
    rw [c2, List.filter_filter]
end

theorem IxT.put {w w' : World} {u u' : Option Addr} {t : MapKh.T} (h : IxT w u t) (hb : Below w.heap.size w w') {k : ByteArray} {v : HL} (hr : MapKh.Rp (fun _ => True) w' u' (Tr.put ltS k v t)) (hv : Vers w' v.B v.h.length v.h) (hc : v.h.length ≤ v.c) : IxT w' u' (Tr.put ltS k v t) :=
  ⟨hr, h.bst.put linS k v, fun p hp => by
    rw [Tr.list_put linS k v t h.bst] at hp
    unfold Tr.insL at hp
    rcases List.mem_append.1 hp with hp | hp
    · have := h.vs p (List.mem_filter.1 hp).1
      exact ⟨this.1.below hb, this.2⟩
    · rcases List.mem_cons.1 hp with rfl | hp
      · exact ⟨hv, hc⟩
      · have := h.vs p (List.mem_filter.1 hp).1
        exact ⟨this.1.below hb, this.2⟩⟩

theorem IxT.del {w w' : World} {u u' : Option Addr} {t : MapKh.T} (h : IxT w u t) (hb : Below w.heap.size w w') {k : ByteArray} (hr : MapKh.Rp (fun _ => True) w' u' (Tr.del ltS t k)) : IxT w' u' (Tr.del ltS t k) :=
  ⟨hr, h.bst.del linS k, fun p hp => by
    rw [Tr.list_del linS t k h.bst] at hp
    have := h.vs p (List.mem_filter.1 hp).1
    exact ⟨this.1.below hb, this.2⟩⟩
end Go.Proofs.Ytcoddkbbgmjckaa
