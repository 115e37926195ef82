/- The exported calls of a map, each by its contract. -/
import Derived.Test.YtjccjbnbjcbagaaOrdES
namespace Go.Proofs.Ytjccjbnbjcbagaa.OrdS
open Go.RowKit Go.Proofs.Ytjccjbnbjcbagaa

theorem put_map (t : T) (u : Option Addr) (k : ByteArray) (v : Int) (w : World) (h : Rp w u t) (hs : t.size + 1 ≤ 1000000) :
    Calls Try.prog 22 #[.agg #[.pointer u], Value.string k, (Value.int .i64) v] w fun e w' => ∃ u', e = .returned (.agg #[.pointer u']) ∧ Rp w' u' (Tr.put ltS k v t) ∧ Below w.heap.size w w' := by
  go_enter Try.func22, Try.ntmps22
  go_wp2_with (go_at_call 42; refine (put_any k v t u _ ?_ hs).mono ?_; (repeat (first | with_reducible exact h | refine Tr.Rep.alloc _ ?_ | refine Tr.Rep.drew ?_)); rintro e w1 ⟨u1, rfl, hr1, hb1⟩
               have hz : w.heap.size + 1 < w1.heap.size := by have := hb1.size; simp at this; omega
               have k0 : w1.cell? ⟨w.heap.size + 1, 0, none⟩ = some (.pointer none) := (hb1.cell (by simp)).trans (by simp [go_sem])
               have k1 : w1.cell? ⟨w.heap.size + 1, 1, none⟩ = none := (hb1.cell (by simp)).trans (by simp [go_sem])
               have k2 : w1.frozen? ⟨w.heap.size + 1, 0, none⟩ = false := (hb1.frozen (by simp)).trans (by simp [go_sem]))
  have ks : (w1.setCell ⟨w.heap.size + 1, 0, none⟩ (.pointer u1)).cell? ⟨w.heap.size + 1, 0, none⟩ = some (.pointer u1) := World.cell?_setCell_same _ _ _ k0
  exact bodyPost_ret (v := .agg #[.pointer u1]) (by simp [results, Try.results22, go_sem, ks]) rfl ⟨u1, rfl, hr1.setCell k1 _, (Tr.below_of hb1 (by repeat (first | exact Below.refl _ _ | apply Below.drew | refine Below.alloc ?_ (by simp) _))).setCell (by simp) _⟩

theorem len_map (t : T) (u : Option Addr) (w : World) (h : Rp w u t) :
    Calls Try.prog 14 #[.agg #[.pointer u]] w fun e w' => e = .returned (.int .i64 (t.size : Int)) ∧ Below w.heap.size w w' := by
  go_enter Try.func14, Try.ntmps14
  go_wp2_with (go_at_call 38; refine (count_any t u _ ?_).mono ?_; (repeat (first | with_reducible exact h | refine Tr.Rep.alloc _ ?_ | refine Tr.Rep.drew ?_)); rintro e w1 ⟨rfl, rfl⟩)
  go_ret
  exact ⟨rfl, (Below.refl _ _).alloc (Nat.le_refl _) _⟩

/-- What a key has. -/
theorem get_yes (t : T) (u : Option Addr) (k k' : ByteArray) (v' : Int) (a b : T) (w : World) (h : Rp w u t) (hf : Tr.find ltS k t = .node k' v' a b) :
    Calls Try.prog 12 #[.agg #[.pointer u], Value.string k] w fun e w' => e = .returned (.tuple #[(Value.int .i64) v', .bool true]) ∧ Below w.heap.size w w' := by
  have H := find_any k t u
  rw [hf] at H
  clear hf
  go_enter Try.func12, Try.ntmps12
  go_wp2_with (go_at_call 37; refine (H _ ?_).mono ?_; (repeat (first | with_reducible exact h | refine Tr.Rep.alloc _ ?_ | refine Tr.Rep.drew ?_)); rintro e w1 ⟨u1, rfl, ⟨b, ul, ur, rfl, c0, c1, c2, c3, c4, c5, hl, hr⟩, rfl⟩)
  go_ret2
  exact ⟨rfl, (Below.refl _ _).alloc (Nat.le_refl _) _⟩

theorem get_no (t : T) (u : Option Addr) (k : ByteArray) (w : World) (h : Rp w u t) (hf : Tr.find ltS k t = .nil) :
    Calls Try.prog 12 #[.agg #[.pointer u], Value.string k] w fun e w' => e = .returned (.tuple #[(Value.int .i64 0), .bool false]) ∧ Below w.heap.size w w' := by
  have H := find_any k t u
  rw [hf] at H
  clear hf
  go_enter Try.func12, Try.ntmps12
  go_wp2_with (go_at_call 37; refine (H _ ?_).mono ?_; (repeat (first | with_reducible exact h | refine Tr.Rep.alloc _ ?_ | refine Tr.Rep.drew ?_)); rintro e w1 ⟨u1, rfl, rfl, rfl⟩)
  go_ret2
  exact ⟨rfl, (Below.refl _ _).alloc (Nat.le_refl _) _⟩

theorem del_map_yes (t : T) (u : Option Addr) (k k' : ByteArray) (v' : Int) (a b : T) (w : World) (h : Rp w u t) (hB : Tr.Bst ltS t) (hs : t.size ≤ 1000000) (hf : Tr.find ltS k t = .node k' v' a b) :
    Calls Try.prog 34 #[.agg #[.pointer u], Value.string k] w fun e w' => ∃ u', e = .returned (.agg #[.pointer u']) ∧ Rp w' u' (Tr.del ltS t k) ∧ Below w.heap.size w w' := by
  have H := find_any k t u
  rw [hf] at H
  have hf' : Tr.find ltS k t ≠ .nil := by rw [hf]; exact fun e => by cases e
  clear hf
  go_enter Try.func34, Try.ntmps34
  go_wp2_with (first
    | (go_at_call 37; refine (H _ ?_).mono ?_; (repeat (first | with_reducible exact h | refine Tr.Rep.alloc _ ?_ | refine Tr.Rep.drew ?_)); rintro e w1 ⟨u1, rfl, ⟨b, ul, ur, rfl, _⟩, rfl⟩)
    | (go_at_call 54; refine (del_any t k u _ ?_ hB hf' hs).mono ?_; (repeat (first | with_reducible exact h | refine Tr.Rep.alloc _ ?_ | refine Tr.Rep.drew ?_)); rintro e w1 ⟨u1, rfl, hr1, hb1⟩
       have hz : w.heap.size + 1 < w1.heap.size := by have := hb1.size; simp at this; omega
       have k0 : w1.cell? ⟨w.heap.size + 1, 0, none⟩ = some (.pointer none) := (hb1.cell (by simp)).trans (by simp [go_sem])
       have k1 : w1.cell? ⟨w.heap.size + 1, 1, none⟩ = none := (hb1.cell (by simp)).trans (by simp [go_sem])
       have k2 : w1.frozen? ⟨w.heap.size + 1, 0, none⟩ = false := (hb1.frozen (by simp)).trans (by simp [go_sem])))
  have ks : (w1.setCell ⟨w.heap.size + 1, 0, none⟩ (.pointer u1)).cell? ⟨w.heap.size + 1, 0, none⟩ = some (.pointer u1) := World.cell?_setCell_same _ _ _ k0
  exact bodyPost_ret (v := .agg #[.pointer u1]) (by simp [results, Try.results34, go_sem, ks]) rfl ⟨u1, rfl, hr1.setCell k1 _, (Tr.below_of hb1 (by repeat (first | exact Below.refl _ _ | apply Below.drew | refine Below.alloc ?_ (by simp) _))).setCell (by simp) _⟩

theorem del_map_no (t : T) (u : Option Addr) (k : ByteArray) (w : World) (h : Rp w u t) (hf : Tr.find ltS k t = .nil) :
    Calls Try.prog 34 #[.agg #[.pointer u], Value.string k] w fun e w' => ∃ u', e = .returned (.agg #[.pointer u']) ∧ Rp w' u' t ∧ Below w.heap.size w w' := by
  have H := find_any k t u
  rw [hf] at H
  clear hf
  go_enter Try.func34, Try.ntmps34
  go_wp2_with (go_at_call 37; refine (H _ ?_).mono ?_; (repeat (first | with_reducible exact h | refine Tr.Rep.alloc _ ?_ | refine Tr.Rep.drew ?_)); rintro e w1 ⟨u1, rfl, rfl, rfl⟩)
  exact bodyPost_ret (v := .agg #[.pointer u]) (by simp [results, Try.results34, go_sem]) rfl ⟨u, rfl, (h.alloc _).alloc _, ((Below.refl _ _).alloc (Nat.le_refl _) _).alloc (by simp) _⟩

/-- Del, whether the key is there or not: the list without it. -/
theorem del_map (t : T) (u : Option Addr) (k : ByteArray) (w : World) (h : Rp w u t) (hB : Tr.Bst ltS t) (hs : t.size ≤ 1000000) :
    Calls Try.prog 34 #[.agg #[.pointer u], Value.string k] w fun e w' => ∃ u' t', e = .returned (.agg #[.pointer u']) ∧ Rp w' u' t' ∧ (t' = Tr.del ltS t k ∧ Tr.find ltS k t ≠ .nil ∨ t' = t ∧ Tr.find ltS k t = .nil) ∧ Below w.heap.size w w' := by
  cases hf : Tr.find ltS k t with
  | nil => exact (del_map_no t u k w h hf).mono fun e w' ⟨u', he, hr, hb⟩ => ⟨u', t, he, hr, .inr ⟨rfl, rfl⟩, hb⟩
  | node k' v' a b => exact (del_map_yes t u k k' v' a b w h hB hs hf).mono fun e w' ⟨u', he, hr, hb⟩ => ⟨u', Tr.del ltS t k, he, hr, .inl ⟨rfl, fun e => by cases e⟩, hb⟩

theorem less_any (a b : ByteArray) (w : World) : Calls Try.prog 39 #[Value.string a, Value.string b] w fun e w' => e = .returned (.bool (ltS a b)) ∧ w = w' := by
  go_enter Try.func39, Try.ntmps39
  go_wp2_with (go_at_call 56; refine (nan_any _ _).mono ?_; rintro e w' ⟨rfl, rfl⟩)
  go_ret
  exact ⟨rfl, rfl⟩

theorem less_yes (a b : ByteArray) (h : ltS a b = true) (w : World) : Calls Try.prog 39 #[Value.string a, Value.string b] w fun e w' => e = .returned (.bool true) ∧ w = w' := by
  have := less_any a b w
  rwa [h] at this
theorem less_no (a b : ByteArray) (h : ltS a b = false) (w : World) : Calls Try.prog 39 #[Value.string a, Value.string b] w fun e w' => e = .returned (.bool false) ∧ w = w' := by
  have := less_any a b w
  rwa [h] at this

theorem rank_map (k : ByteArray) (t : T) (u : Option Addr) (w : World) (h : Rp w u t) (hs : t.size ≤ 1000000) :
    Calls Try.prog 15 #[.agg #[.pointer u], Value.string k] w fun e w' => e = .returned (.int .i64 (Tr.rank ltS k t : Int)) ∧ Below w.heap.size w w' := by
  generalize hF : Tr.rank ltS k t = F
  go_enter Try.func15, Try.ntmps15
  go_wp2
  go_loopg [5, 6] t.size (fun g x p wr => wr = w.alloc (.cells #[.pointer u] 27) ∧ ∃ u' t' j, x = .int .i64 ((j : Nat) : Int) ∧ p = .pointer u' ∧ Rp w u' t' ∧ t'.size ≤ g ∧ j + t'.size ≤ 1000000 ∧ Hid (j + Tr.rank ltS k t' = F))
  case atStart => exact ⟨rfl, u, t, 0, rfl, rfl, h, Nat.le_refl _, by omega, show _ = _ by rw [← hF, Nat.zero_add]⟩
  case round =>
    obtain ⟨rfl, u', t', j, rfl, rfl, h', hg, hj, hF'⟩ := hrel
    clear hF
    cases t' with
    | nil =>
      obtain rfl : u' = none := h'
      have hF2 : Hid (F = j) := (show _ = _ from hF'.out.symm)
      clear hF'
      go_wp2
      go_ret
      exact ⟨by rw [hF2.out]; rfl, (Below.refl _ _).alloc (Nat.le_refl _) _⟩
    | node nk nv l r =>
      obtain ⟨b, ul, ur, rfl, c0, c1, c2, c3, c4, c5, hl, hr⟩ := h'
      have hbw : b < w.heap.size := World.block_lt_of_cell? w _ c0
      rw [Tr.size_node] at hg hj
      have HF : Hid (j + (if ltS nk k then l.size + 1 + Tr.rank ltS k r else Tr.rank ltS k l) = F) := hF'
      clear hF'
      have jb : (j : Int) ≤ 1000000 := by omega
      have lb : (l.size : Int) ≤ 1000000 := by omega
      cases hlt : ltS nk k with
      | true =>
        have HL : Hid (j + (l.size + 1) + Tr.rank ltS k r = F) := by have := HF.out; rw [if_pos hlt] at this; show _ = _; omega
        clear HF
        go_wp2_with (first
          | (go_at_call 39; refine (less_yes _ _ hlt _).mono ?_; rintro e w' ⟨rfl, rfl⟩)
          | (go_at_call 38; refine (count_any l ul _ ?_).mono ?_; (repeat (first | with_reducible exact hl | refine Tr.Rep.alloc _ ?_ | refine Tr.Rep.drew ?_)); rintro e w' ⟨rfl, rfl⟩))
        go_roundg r.size
        case measure => omega
        case rel => exact ⟨rfl, ur, r, j + (l.size + 1), by go_num, rfl, hr, Nat.le_refl _, by omega, HL⟩
      | false =>
        have HL : Hid (j + Tr.rank ltS k l = F) := by have := HF.out; rw [if_neg (by rw [hlt]; decide)] at this; exact this
        clear HF
        go_wp2_with (first
          | (go_at_call 39; refine (less_no _ _ hlt _).mono ?_; rintro e w' ⟨rfl, rfl⟩))
        go_roundg l.size
        case measure => omega
        case rel => exact ⟨rfl, ul, l, j, rfl, rfl, hl, Nat.le_refl _, by omega, HL⟩

theorem own_mono {w : World} {B B' : Nat} {e : TypeId} {size n : Nat} {v : Value} {xs : List Value} (h : w.ownsRow B e size v n xs) (hB : B' ≤ B) : w.ownsRow B' e size v n xs := by
  obtain ⟨h1, h2⟩ := h
  rcases h2 with h2 | ⟨g, cap, cur, a, b, c⟩
  · exact ⟨h1, .inl h2⟩
  · exact ⟨h1, .inr ⟨g, cap, cur, a, Nat.le_trans hB b, c⟩⟩

/-- What a list of pairs is in the end of a call: a slice of the call's own. -/
def Lst (w : World) (l : List (ByteArray × Int)) (e : Ending) (w' : World) : Prop :=
  ∃ A c, e = .returned (.slice A l.length c) ∧ w'.ownsRow w.heap.size 44 2 (.slice A l.length c) l.length (cellsL l) ∧ Below w.heap.size w w'

theorem places_any (t : T) (u : Option Addr) (f o : Nat) (w : World) (h : Rp w u t) (hs : t.size ≤ 1000000) (hf : f ≤ 1000000) (ho : o ≤ 1000000) :
    Calls Try.prog 40 #[.agg #[.pointer u], .int .i64 f, .int .i64 o] w (Lst w (Tr.sub f o t.list)) := by
  by_cases hfo : o ≤ f
  · have HE : Hid (Tr.sub f o t.list = []) := (show _ = _ from Tr.sub_none f o t.list hfo)
    have hfo' : (o : Int) ≤ (f : Int) := by omega
    go_enter Try.func40, Try.ntmps40
    go_wp2
    go_ret
    rw [HE.out]
    exact ⟨none, 0, rfl, World.ownsRow_nil _ _ _ _, (Below.refl _ _).alloc (Nat.le_refl _) _⟩
  · obtain ⟨c, hc⟩ : ∃ c, o - f = c := ⟨_, rfl⟩
    have hfo' : (f : Int) < (o : Int) := by omega
    have hcb : c ≤ 1000000 := by omega
    have e1 : IntKind.i64.wrap ((o : Int) - (f : Int)) = (c : Int) := by rw [IntWalk.i64_in _ (by omega)]; omega
    have bf1 : (t.size : Int) ≤ (f : Int) + 2000000 := by omega
    have bf2 : (t.size : Int) ≤ (o : Int) + 2000000 := by omega
    have bf3 : (f : Int) ≤ 1000000 := by omega
    have bf4 : (o : Int) ≤ 1000000 := by omega
    clear hc hfo
    obtain ⟨i0, hi0, hz0, hz1, hz2⟩ := info_parts pairInfo
    have hmk : ∀ w1 : World, (Instr.makeSlice 40 (.int .i64 0) (.int .i64 (c : Int))).run Try.prog w1 = .ok (.slice (some ⟨w1.heap.size, 0, none⟩) 0 c) (w1.alloc (.cells (madeCells #[(Value.string ⟨#[]⟩), (Value.int .i64 0)] (c * 2)) 44)) := fun w1 => by
      have := run_make (P := Try.prog) w1 40 44 i0 _ Try.underlying40 hi0 hz0 .i64 .i64 0 (c : Int) (Int.le_refl _) (by omega) (by rw [hz2]; omega) (by omega)
      rw [hz1] at this
      exact this
    clear hz0 hz1 hz2 hi0
    have hown : ((w.alloc (.cells #[.pointer u] 27)).alloc (.cells (madeCells #[(Value.string ⟨#[]⟩), (Value.int .i64 0)] (c * 2)) 44)).ownsRow (w.alloc (.cells #[.pointer u] 27)).heap.size 44 2 (.slice (some ⟨w.heap.size + 1, 0, none⟩) 0 c) 0 [] := by
      have := World.ownsRow_made (base := (w.alloc (.cells #[.pointer u] 27)).heap.size) (e := 44) (size := 2) (w.alloc (.cells #[.pointer u] 27)) (madeCells #[(Value.string ⟨#[]⟩), (Value.int .i64 0)] (c * 2)) c (Nat.le_refl _) (by unfold maxLen; omega) (size_madeCells _ _)
      rwa [show (⟨(w.alloc (.cells #[.pointer u] 27)).heap.size, 0, none⟩ : Addr) = ⟨w.heap.size + 1, 0, none⟩ by rw [World.size_alloc]] at this
    go_enter Try.func40, Try.ntmps40
    go_wp2
    go_region_held3 (fun w' => w'.cell? ⟨w.heap.size, 0, none⟩ = some (.pointer u)) (first | go_keep | (refine (hb1.cell (by simp)).trans ?_; simp [go_sem]))
      (first
        | (go_at_call 57
           refine (gather_any (w.alloc (.cells #[.pointer u] 27)) t u _ (w.heap.size + 1) 0 c [] f o (h.alloc _) ?_ ?_ (by omega) bf1 bf2 bf3 bf4).mono ?_
           exact ((Below.refl _ _).alloc (Nat.le_refl _) _).drew
           exact hown
           rintro e w1 ⟨g1, cap1, rfl, ho1, hb1⟩
           rw [Nat.zero_add] at ho1 ⊢))
    go_wp2
    go_ret
    exact ⟨_, _, rfl, own_mono ho1 (by simp), Tr.below_of hb1 (by repeat (first | exact Below.refl _ _ | apply Below.drew | refine Below.alloc ?_ (by simp) _))⟩

theorem all_map (t : T) (u : Option Addr) (w : World) (h : Rp w u t) (hs : t.size ≤ 1000000) :
    Calls Try.prog 21 #[.agg #[.pointer u]] w (Lst w t.list) := by
  have H := fun w h => places_any t u 0 t.size w h hs (by omega) hs
  rw [Tr.sub_all t.list (Tr.length_list t)] at H
  go_enter Try.func21, Try.ntmps21
  go_wp2
  go_region_held3 (fun w' => w'.cell? ⟨w.heap.size, 0, none⟩ = some (.pointer u)) (first | go_keep | (refine (hb1.cell (by simp)).trans ?_; simp [go_sem]))
    (first
      | (go_at_call 14; refine (len_map t u _ ?_).mono ?_; (repeat (first | with_reducible exact h | refine Tr.Rep.alloc _ ?_ | refine Tr.Rep.drew ?_)); rintro e w1 ⟨rfl, hb1⟩)
      | (go_at_call 40; refine (H _ (h.below (Tr.below_of hb1 (by repeat (first | exact Below.refl _ _ | apply Below.drew | refine Below.alloc ?_ (by simp) _))) (Nat.le_refl _))).mono ?_; rintro e w2 ⟨A, c, rfl, ho2, hb2⟩; have hw := hb1.size; replace hb1 := hb1.trans (hb2.mono hb1.size)))
  go_wp2
  go_ret
  exact ⟨_, _, rfl, own_mono ho2 (Nat.le_trans (by simp) hw), Tr.below_of hb1 (by repeat (first | exact Below.refl _ _ | apply Below.drew | refine Below.alloc ?_ (by simp) _))⟩

theorem between_map (t : T) (u : Option Addr) (a b : ByteArray) (w : World) (h : Rp w u t) (hB : Tr.Bst ltS t) (hs : t.size ≤ 1000000) :
    Calls Try.prog 18 #[.agg #[.pointer u], Value.string a, Value.string b] w (Lst w (Tr.sub (Tr.rank ltS a t) (Tr.rank ltS b t) t.list)) := by
  have ra := Nat.le_trans (Tr.rank_le linS a hB) hs
  have rb := Nat.le_trans (Tr.rank_le linS b hB) hs
  have Ha := fun w h => rank_map a t u w h hs
  have Hb := fun w h => rank_map b t u w h hs
  generalize Tr.rank ltS a t = x at *
  generalize Tr.rank ltS b t = y at *
  clear hB
  by_cases hab : a = b
  · subst hab
    go_enter Try.func18, Try.ntmps18
    go_wp2
    go_region_held3 (fun w' => w'.cell? ⟨w.heap.size, 0, none⟩ = some (.pointer u)) (first | go_keep | (refine (hb1.cell (by simp)).trans ?_; simp [go_sem]))
      (first
        | (go_at_call 15; first | (have _t := tok1; refine (Hb _ (h.below (Tr.below_of hb1 (by repeat (first | exact Below.refl _ _ | apply Below.drew | refine Below.alloc ?_ (by simp) _))) (Nat.le_refl _))).mono ?_; rintro e w2 ⟨rfl, hb2⟩; replace hb1 := hb1.trans (hb2.mono hb1.size)) | (refine (Ha _ ?_).mono ?_; (repeat (first | with_reducible exact h | refine Tr.Rep.alloc _ ?_ | refine Tr.Rep.drew ?_)); rintro e w1 ⟨rfl, hb1⟩; have tok1 : True := trivial))
        | (go_at_call 40; refine (places_any t u x y _ (h.below (Tr.below_of hb1 (by repeat (first | exact Below.refl _ _ | apply Below.drew | refine Below.alloc ?_ (by simp) _))) (Nat.le_refl _)) hs ra rb).mono ?_; rintro e w3 ⟨A, c, rfl, ho3, hb3⟩; have hw := hb1.size; replace hb1 := hb1.trans (hb3.mono hb1.size)))
    go_wp2
    go_ret
    exact ⟨_, _, rfl, own_mono ho3 (Nat.le_trans (by simp) hw), Tr.below_of hb1 (by repeat (first | exact Below.refl _ _ | apply Below.drew | refine Below.alloc ?_ (by simp) _))⟩
  · go_enter Try.func18, Try.ntmps18
    go_wp2
    go_region_held3 (fun w' => w'.cell? ⟨w.heap.size, 0, none⟩ = some (.pointer u)) (first | go_keep | (refine (hb1.cell (by simp)).trans ?_; simp [go_sem]))
      (first
        | (go_at_call_of 15 (Value.string a); refine (Ha _ ?_).mono ?_; (repeat (first | with_reducible exact h | refine Tr.Rep.alloc _ ?_ | refine Tr.Rep.drew ?_)); rintro e w1 ⟨rfl, hb1⟩)
        | (go_at_call_of 15 (Value.string b); refine (Hb _ (h.below (Tr.below_of hb1 (by repeat (first | exact Below.refl _ _ | apply Below.drew | refine Below.alloc ?_ (by simp) _))) (Nat.le_refl _))).mono ?_; rintro e w2 ⟨rfl, hb2⟩; replace hb1 := hb1.trans (hb2.mono hb1.size))
        | (go_at_call 40; refine (places_any t u x y _ (h.below (Tr.below_of hb1 (by repeat (first | exact Below.refl _ _ | apply Below.drew | refine Below.alloc ?_ (by simp) _))) (Nat.le_refl _)) hs ra rb).mono ?_; rintro e w3 ⟨A, c, rfl, ho3, hb3⟩; have hw := hb1.size; replace hb1 := hb1.trans (hb3.mono hb1.size)))
    go_wp2
    go_ret
    exact ⟨_, _, rfl, own_mono ho3 (Nat.le_trans (by simp) hw), Tr.below_of hb1 (by repeat (first | exact Below.refl _ _ | apply Below.drew | refine Below.alloc ?_ (by simp) _))⟩

theorem two_stores {w1 : World} {g : Nat} {z0 z1 x y : Value} (k0 : w1.cell? ⟨g, 0, none⟩ = some z0) (k1 : w1.cell? ⟨g, 1, none⟩ = some z1) :
    ((w1.setCell ⟨g, 0, none⟩ x).setCell ⟨g, 1, none⟩ y).cell? ⟨g, 0, none⟩ = some x ∧ ((w1.setCell ⟨g, 0, none⟩ x).setCell ⟨g, 1, none⟩ y).cell? ⟨g, 1, none⟩ = some y := by
  have q1 : (w1.setCell ⟨g, 0, none⟩ x).cell? ⟨g, 1, none⟩ = some z1 := (World.cell?_setCell_other _ _ _ _ (fun e => by injection e with _ e; cases e)).trans k1
  exact ⟨(World.cell?_setCell_other _ _ _ _ (fun e => by injection e with _ e; cases e)).trans (World.cell?_setCell_same _ _ _ k0), World.cell?_setCell_same _ _ _ q1⟩

theorem at_map_yes (t : T) (u : Option Addr) (i : Nat) (p : ByteArray × Int) (w : World) (h : Rp w u t) (hs : t.size ≤ 1000000) (hp : t.list[i]? = some p) :
    Calls Try.prog 20 #[.agg #[.pointer u], .int .i64 i] w fun e w' => e = .returned (.tuple #[.agg #[Value.string p.1, (Value.int .i64) p.2], .bool true]) ∧ Below w.heap.size w w' := by
  have hi : i < t.size := by
    rcases Nat.lt_or_ge i t.list.length with h1 | h1
    · rwa [Tr.length_list] at h1
    · rw [List.getElem?_eq_none h1] at hp; cases hp
  have hi' : (i : Int) < (t.size : Int) := by omega
  have hi0 : (0 : Int) ≤ (i : Int) := by omega
  have H := fun w h => at_any t u i p w h hs hp
  clear hp
  go_enter Try.func20, Try.ntmps20
  go_wp2_with (first
    | (go_at_call 14; refine (len_map t u _ ?_).mono ?_; (repeat (first | with_reducible exact h | refine Tr.Rep.alloc _ ?_ | refine Tr.Rep.drew ?_)); rintro e w1 ⟨rfl, hb1⟩
       have j0 : w1.cell? ⟨w.heap.size, 0, none⟩ = some (.pointer u) := (hb1.cell (by simp; omega)).trans (by simp [go_sem]))
    | (go_at_call 41; refine (H _ (h.below (Tr.below_of hb1 (by repeat (first | exact Below.refl _ _ | apply Below.drew | refine Below.alloc ?_ (by simp) _))) (Nat.le_refl _))).mono ?_; rintro e w2 ⟨rfl, hb2⟩
       replace hb1 := hb1.trans (hb2.mono hb1.size)
       have hz : w.heap.size + 1 < w2.heap.size := by have := hb1.size; simp at this; omega
       have k0 : w2.cell? ⟨w.heap.size + 1, 0, none⟩ = some (Value.string ⟨#[]⟩) := (hb1.cell (by simp)).trans (by simp [go_sem])
       have k1 : w2.cell? ⟨w.heap.size + 1, 1, none⟩ = some (Value.int .i64 0) := (hb1.cell (by simp)).trans (by simp [go_sem])
       have k2 : w2.frozen? ⟨w.heap.size + 1, 0, none⟩ = false := (hb1.frozen (by simp)).trans (by simp [go_sem])
       have k3 : w2.frozen? ⟨w.heap.size + 1, 1, none⟩ = false := (hb1.frozen (by simp)).trans (by simp [go_sem])))
  obtain ⟨ks0, ks1⟩ := two_stores (x := Value.string p.1) (y := (Value.int .i64) p.2) k0 k1
  exact bodyPost_ret (v := .tuple #[.agg #[Value.string p.1, (Value.int .i64) p.2], .bool true]) (by simp [results, Try.results20, go_sem, ks0, ks1]) rfl ⟨rfl, ((Tr.below_of hb1 (by repeat (first | exact Below.refl _ _ | apply Below.drew | refine Below.alloc ?_ (by simp) _))).setCell (by simp) _).setCell (by simp) _⟩

theorem at_map_no (t : T) (u : Option Addr) (i : Int) (w : World) (h : Rp w u t) (hi : i < 0 ∨ (t.size : Int) ≤ i) :
    Calls Try.prog 20 #[.agg #[.pointer u], .int .i64 i] w fun e w' => e = .returned (.tuple #[.agg #[(Value.string ⟨#[]⟩), (Value.int .i64 0)], .bool false]) ∧ Below w.heap.size w w' := by
  have h0 : i < 0 ∨ (0 ≤ i ∧ (t.size : Int) ≤ i) := by omega
  clear hi
  rcases h0 with h0 | ⟨h0, h1⟩
  · go_enter Try.func20, Try.ntmps20
    go_wp2
    exact bodyPost_ret (v := .tuple #[.agg #[(Value.string ⟨#[]⟩), (Value.int .i64 0)], .bool false]) (by simp [results, Try.results20, go_sem]) rfl ⟨rfl, ((Below.refl _ _).alloc (Nat.le_refl _) _).alloc (by simp) _⟩
  · go_enter Try.func20, Try.ntmps20
    go_wp2_with (first
      | (go_at_call 14; refine (len_map t u _ ?_).mono ?_; (repeat (first | with_reducible exact h | refine Tr.Rep.alloc _ ?_ | refine Tr.Rep.drew ?_)); rintro e w1 ⟨rfl, hb1⟩
         have hz : w.heap.size + 1 < w1.heap.size := by have := hb1.size; simp at this; omega
         have k0 : w1.cell? ⟨w.heap.size + 1, 0, none⟩ = some (Value.string ⟨#[]⟩) := (hb1.cell (by simp)).trans (by simp [go_sem])
         have k1 : w1.cell? ⟨w.heap.size + 1, 1, none⟩ = some (Value.int .i64 0) := (hb1.cell (by simp)).trans (by simp [go_sem])
         have k2 : w1.frozen? ⟨w.heap.size + 1, 0, none⟩ = false := (hb1.frozen (by simp)).trans (by simp [go_sem])
         have k3 : w1.frozen? ⟨w.heap.size + 1, 1, none⟩ = false := (hb1.frozen (by simp)).trans (by simp [go_sem])))
    obtain ⟨ks0, ks1⟩ := two_stores (x := (Value.string ⟨#[]⟩)) (y := (Value.int .i64 0)) k0 k1
    exact bodyPost_ret (v := .tuple #[.agg #[(Value.string ⟨#[]⟩), (Value.int .i64 0)], .bool false]) (by simp [results, Try.results20, go_sem, ks0, ks1]) rfl ⟨rfl, ((Tr.below_of hb1 (by repeat (first | exact Below.refl _ _ | apply Below.drew | refine Below.alloc ?_ (by simp) _))).setCell (by simp) _).setCell (by simp) _⟩

end Go.Proofs.Ytjccjbnbjcbagaa.OrdS
