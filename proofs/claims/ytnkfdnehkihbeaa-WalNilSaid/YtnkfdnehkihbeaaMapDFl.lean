/- The calls find, at and del of a tree's node, each by its contract. -/
import Derived.Test.YtnkfdnehkihbeaaMapCFl
import Derived.Test.YtnkfdnehkihbeaaDskPure
import Derived.Deep.LoopGhost
namespace Go.Proofs.Ytnkfdnehkihbeaa.MapFl
open Go.RowKit Go.Proofs.Ytnkfdnehkihbeaa
set_option linter.unusedVariables false
variable {P : Nat → Prop}

theorem find_any (k : ByteArray) (t : T) (u : Option Addr) (w : World) (h : Rp P w u t) :
    Calls Try.prog 64 #[.pointer u, Value.string k] w fun e w' => ∃ u', e = .returned (.pointer u') ∧ Rp P w u' (Tr.find ltS k t) ∧ w = w' := by
  generalize hF : Tr.find ltS k t = F
  go_enter Try.func64, Try.ntmps64
  go_wp2
  go_loopg [0] t.size (fun g p wr => w = wr ∧ ∃ u' t', p = .pointer u' ∧ Rp P w u' t' ∧ t'.size ≤ g ∧ RowKit.Hid (Tr.find ltS k t' = F))
  case atStart => exact ⟨rfl, u, t, rfl, h, Nat.le_refl _, hF⟩
  case round =>
    obtain ⟨rfl, u', t', rfl, h', hg, hF'⟩ := hrel
    cases t' with
    | nil =>
      obtain ⟨rfl, hE⟩ := h'
      have hF2 : Tr.nil = F := hF'.out
      have HR : Rp P w none F := by rw [← hF2]; exact ⟨rfl, hE⟩
      clear hF2
      go_wp2
      go_ret
      exact ⟨_, rfl, HR, rfl⟩
    | node nk nv l r =>
      have h2 := h'
      obtain ⟨b, ul, ur, rfl, hPb, c0, c1, c1b, c2, c3, c4, c5, hl, hr⟩ := h2
      rw [Tr.size_node] at hg
      have HF : RowKit.Hid ((if ltS k nk then Tr.find ltS k l else if ltS nk k then Tr.find ltS k r else .node nk nv l r) = F) := hF'
      clear hF'
      cases hlt : ltS k nk with
      | true =>
        have HL : RowKit.Hid (Tr.find ltS k l = F) := by have := HF.out; rw [if_pos hlt] at this; exact this
        go_wp2_with (go_at_call 69; refine (cmp_lt _ _ hlt _).mono ?_; rintro e w' ⟨rfl, rfl⟩)
        go_roundg l.size
        case measure => omega
        case rel => exact ⟨rfl, ul, l, rfl, hl, Nat.le_refl _, HL⟩
      | false =>
        cases hgt : ltS nk k with
        | true =>
          have HL : RowKit.Hid (Tr.find ltS k r = F) := by have := HF.out; rw [if_neg (by rw [hlt]; decide), if_pos hgt] at this; exact this
          go_wp2_with (go_at_call 69; refine (cmp_gt _ _ hgt _).mono ?_; rintro e w' ⟨rfl, rfl⟩)
          go_roundg r.size
          case measure => omega
          case rel => exact ⟨rfl, ur, r, rfl, hr, Nat.le_refl _, HL⟩
        | false =>
          obtain rfl : k = nk := ltS_con hlt hgt
          have HR : Rp P w (some ⟨b, 0, none⟩) F := by have := HF.out; rw [if_neg (by rw [hlt]; decide), if_neg (by rw [hlt]; decide)] at this; rw [← this]; exact h'
          go_wp2_with (go_at_call 69; refine (cmp_eq _ _).mono ?_; rintro e w' ⟨rfl, rfl⟩)
          go_ret
          exact ⟨_, rfl, HR, rfl⟩

theorem at_any (t : T) (u : Option Addr) (i : Nat) (p : ByteArray × FV) (w : World) (h : Rp P w u t) (hs : t.size ≤ 4000000) (hp : t.list[i]? = some p) :
    Calls Try.prog 71 #[.pointer u, .int .i64 i] w fun e w' => e = .returned (.agg #[Value.string p.1, fvS p.2, fvN p.2]) ∧ Below w.heap.size w w' := by
  go_enter Try.func71, Try.ntmps71
  go_wp2
  go_loopg [0, 1] t.size (fun g n x wr => wr = w.alloc (.cells #[(Value.string ⟨#[]⟩), (Value.slice none 0 0), (Value.int .i64 0)] 85) ∧ ∃ u' t' j, n = .pointer u' ∧ x = .int .i64 ((j : Nat) : Int) ∧ Rp P w u' t' ∧ t'.size ≤ g ∧ g ≤ t.size ∧ RowKit.Hid (t'.list[j]? = some p))
  case atStart => exact ⟨rfl, u, t, i, rfl, rfl, h, Nat.le_refl _, Nat.le_refl _, hp⟩
  case round =>
    obtain ⟨rfl, u', t', j, rfl, rfl, h', hg, hg2, hp'⟩ := hrel
    clear hp
    cases t' with
    | nil => exact absurd hp'.out (by simp [Tr.list])
    | node nk nv l r =>
      obtain ⟨b, ul, ur, rfl, hPb, c0, c1, c1b, c2, c3, c4, c5, hl, hr⟩ := h'
      rw [Tr.size_node] at hg
      have HP : RowKit.Hid ((l.list ++ (nk, nv) :: r.list)[j]? = some p) := hp'
      clear hp'
      have hbw : b < w.heap.size := World.block_lt_of_cell? w _ c0
      rcases Nat.lt_trichotomy j l.size with hj | hj | hj
      · have HL : RowKit.Hid (l.list[j]? = some p) := Tr.at_left HP.out (by rw [Tr.length_list]; exact hj)
        have hj' : (j : Int) < (l.size : Int) := by omega
        go_wp2_with (go_at_call 63; refine (count_any (P := P) l ul _ ?_).mono ?_; (repeat (first | with_reducible exact hl | refine Rp.alloc _ ?_ | refine Rp.drew ?_)); rintro e w' ⟨rfl, rfl⟩)
        go_roundg l.size
        case measure => omega
        case rel => exact ⟨rfl, ul, l, j, rfl, rfl, hl, Nat.le_refl _, by omega, HL⟩
      · have HE : RowKit.Hid ((nk, nv) = p) := Tr.at_here HP.out (by rw [Tr.length_list]; exact hj)
        have hj1 : (j : Int) ≤ (l.size : Int) := by omega
        have hj2 : (l.size : Int) ≤ (j : Int) := by omega
        go_wp2_with (go_at_call 63; refine (count_any (P := P) l ul _ ?_).mono ?_; (repeat (first | with_reducible exact hl | refine Rp.alloc _ ?_ | refine Rp.drew ?_)); rintro e w' ⟨rfl, rfl⟩)
        exact bodyPost_ret (v := .agg #[Value.string nk, fvS nv, fvN nv]) (by simp [results, Try.results71, go_sem]) rfl ⟨by rw [← HE.out], (Below.refl _ _).alloc (Nat.le_refl _) _⟩
      · have HL : RowKit.Hid (r.list[j - l.size - 1]? = some p) := by have := Tr.at_right HP.out (by rw [Tr.length_list]; exact hj); rw [Tr.length_list] at this; exact this
        have hj1 : (l.size : Int) < (j : Int) := by omega
        have hx : j ≤ l.size + 1 + r.size := by
          have h0 := HP.out
          have : j < (l.list ++ (nk, nv) :: r.list).length := by
            rcases Nat.lt_or_ge j (l.list ++ (nk, nv) :: r.list).length with h1 | h1
            · exact h1
            · rw [List.getElem?_eq_none h1] at h0; cases h0
          rw [List.length_append, List.length_cons, Tr.length_list, Tr.length_list] at this
          omega
        have hx' : (j : Int) ≤ 4000000 := by omega
        clear hx
        go_wp2_with (go_at_call 63; refine (count_any (P := P) l ul _ ?_).mono ?_; (repeat (first | with_reducible exact hl | refine Rp.alloc _ ?_ | refine Rp.drew ?_)); rintro e w' ⟨rfl, rfl⟩)
        go_roundg r.size
        case measure => omega
        case rel => exact ⟨rfl, ur, r, j - l.size - 1, rfl, by rw [show ((j - l.size - 1 : Nat) : Int) = (j : Int) - l.size - 1 by omega], hr, Nat.le_refl _, by omega, HL⟩

theorem at_zero (t : T) (u : Option Addr) (p : ByteArray × FV) (w : World) (h : Rp P w u t) (hs : t.size ≤ 4000000) (hp : t.list[0]? = some p) :
    Calls Try.prog 71 #[.pointer u, .int .i64 0] w fun e w' => e = .returned (.agg #[Value.string p.1, fvS p.2, fvN p.2]) ∧ Below w.heap.size w w' :=
  at_any t u 0 p w h hs hp

set_option maxHeartbeats 3200000 in
theorem del_any (t : T) : ∀ (k : ByteArray) (u : Option Addr) (w : World), Rp P w u t → Tr.Bst ltS t → Tr.find ltS k t ≠ .nil → t.size ≤ 4000000 →
    Calls Try.prog 65 #[.pointer u, Value.string k] w fun e w' => ∃ u', e = .returned (.pointer u') ∧ Rp P w' u' (Tr.del ltS t k) ∧ Below w.heap.size w w' := by
  induction t with
  | nil => intro k u w _ _ hf; exact absurd rfl hf
  | node nk nv l r ihl ihr =>
    intro k u w h hB hf hs
    rw [Tr.size_node] at hs
    obtain ⟨b, ul, ur, rfl, hPb, c0, c1, c1b, c2, c3, c4, c5, hl, hr⟩ := h
    have hbw : b < w.heap.size := World.block_lt_of_cell? w _ c0
    obtain ⟨hBl, hBr, hlk, hrk⟩ := hB.node
    clear hB
    cases hlt : ltS k nk with
    | true =>
      have szl := Tr.size_del linS k hBl
      have hfl : Tr.find ltS k l ≠ .nil := by rwa [Tr.find, if_pos hlt] at hf
      clear hf hlk hrk
      rw [show Tr.del ltS (.node nk nv l r) k = Tr.bal (Tr.del ltS l k) nk nv r by rw [Tr.del, if_pos hlt]]
      go_enter Try.func65, Try.ntmps65
      go_wp2_with (go_at_call 69; refine (cmp_lt _ _ hlt _).mono ?_; rintro e w' ⟨rfl, rfl⟩)
      go_region_held3 (fun w' => w'.cell? ⟨b, 0, none⟩ = some (Value.string nk) ∧ w'.cell? ⟨b, 1, none⟩ = some (fvS nv) ∧ w'.cell? ⟨b, 2, none⟩ = some (fvN nv) ∧ w'.cell? ⟨b, 3, none⟩ = some (.pointer ul) ∧ w'.cell? ⟨b, 4, none⟩ = some (.pointer ur))
        (first | go_keep | ((repeat' apply And.intro) <;> (refine (hb1.cell (by simp <;> omega)).trans ?_; simp [go_sem, *])))
        (first
          | (go_at_call 65; refine (ihl k ul _ ?_ hBl hfl (by omega)).mono ?_; (repeat (first | with_reducible exact hl | refine Rp.alloc _ ?_ | refine Rp.drew ?_)); rintro e w1 ⟨u1, rfl, hr1, hb1⟩)
          | (go_at_call 70; refine (balance_any (P := P) (Tr.del ltS l k) r u1 ur _ _ _ hr1 ?_ (by omega)).mono ?_; refine Rp.below hb1 (Nat.le_refl _) ?_; (repeat (first | with_reducible exact hr | refine Rp.alloc _ ?_ | refine Rp.drew ?_)); rintro e w2 ⟨u2, rfl, hr2, hb2⟩; replace hb1 := hb1.trans (hb2.mono hb1.size)))
      go_wp2
      go_ret
      exact ⟨_, rfl, hr2, Tr.below_of hb1 (by repeat (first | exact Below.refl _ _ | apply Below.drew | refine Below.alloc ?_ (by simp <;> omega) _))⟩
    | false =>
      cases hgt : ltS nk k with
      | true =>
        have szr := Tr.size_del linS k hBr
        have hfr : Tr.find ltS k r ≠ .nil := by rwa [Tr.find, if_neg (by rw [hlt]; decide), if_pos hgt] at hf
        clear hf hlk hrk
        rw [show Tr.del ltS (.node nk nv l r) k = Tr.bal l nk nv (Tr.del ltS r k) by rw [Tr.del, if_neg (by rw [hlt]; decide), if_pos hgt]]
        go_enter Try.func65, Try.ntmps65
        go_wp2_with (go_at_call 69; refine (cmp_gt _ _ hgt _).mono ?_; rintro e w' ⟨rfl, rfl⟩)
        go_region_held3 (fun w' => w'.cell? ⟨b, 0, none⟩ = some (Value.string nk) ∧ w'.cell? ⟨b, 1, none⟩ = some (fvS nv) ∧ w'.cell? ⟨b, 2, none⟩ = some (fvN nv) ∧ w'.cell? ⟨b, 3, none⟩ = some (.pointer ul) ∧ w'.cell? ⟨b, 4, none⟩ = some (.pointer ur))
          (first | go_keep | ((repeat' apply And.intro) <;> (refine (hb1.cell (by simp <;> omega)).trans ?_; simp [go_sem, *])))
          (first
            | (go_at_call 65; refine (ihr k ur _ ?_ hBr hfr (by omega)).mono ?_; (repeat (first | with_reducible exact hr | refine Rp.alloc _ ?_ | refine Rp.drew ?_)); rintro e w1 ⟨u1, rfl, hr1, hb1⟩)
            | (go_at_call 70; refine (balance_any (P := P) l (Tr.del ltS r k) ul u1 _ _ _ ?_ hr1 (by omega)).mono ?_; refine Rp.below hb1 (Nat.le_refl _) ?_; (repeat (first | with_reducible exact hl | refine Rp.alloc _ ?_ | refine Rp.drew ?_)); rintro e w2 ⟨u2, rfl, hr2, hb2⟩; replace hb1 := hb1.trans (hb2.mono hb1.size)))
        go_wp2
        go_ret
        exact ⟨_, rfl, hr2, Tr.below_of hb1 (by repeat (first | exact Below.refl _ _ | apply Below.drew | refine Below.alloc ?_ (by simp <;> omega) _))⟩
      | false =>
        obtain rfl : k = nk := ltS_con hlt hgt
        clear hf hlk hrk
        cases l with
        | nil =>
          obtain ⟨rfl, hE⟩ := hl
          rw [show Tr.del ltS (.node k nv .nil r) k = r by rw [Tr.del, if_neg (by rw [hlt]; decide), if_neg (by rw [hlt]; decide)]; rfl]
          go_enter Try.func65, Try.ntmps65
          go_wp2_with (go_at_call 69; refine (cmp_eq _ _).mono ?_; rintro e w' ⟨rfl, rfl⟩)
          go_ret
          exact ⟨_, rfl, hr, Below.refl _ _⟩
        | node lk lv ll lr =>
          have hl2 := hl
          obtain ⟨bl, ull, ulr, rfl, _⟩ := hl2
          cases r with
          | nil =>
            obtain ⟨rfl, hE⟩ := hr
            rw [show Tr.del ltS (.node k nv (.node lk lv ll lr) .nil) k = .node lk lv ll lr by rw [Tr.del, if_neg (by rw [hlt]; decide), if_neg (by rw [hlt]; decide)]; rfl]
            go_enter Try.func65, Try.ntmps65
            go_wp2_with (go_at_call 69; refine (cmp_eq _ _).mono ?_; rintro e w' ⟨rfl, rfl⟩)
            go_ret
            exact ⟨_, rfl, hl, Below.refl _ _⟩
          | node rk rv rl rr =>
            have hr2 := hr
            obtain ⟨br, url, urr, rfl, _⟩ := hr2
            rw [show Tr.del ltS (.node k nv (.node lk lv ll lr) (.node rk rv rl rr)) k = Tr.bal (.node lk lv ll lr) (Tr.first (k, nv) (.node rk rv rl rr)).1 (Tr.first (k, nv) (.node rk rv rl rr)).2 (Tr.del ltS (.node rk rv rl rr) (Tr.first (k, nv) (.node rk rv rl rr)).1) by rw [Tr.del, if_neg (by rw [hlt]; decide), if_neg (by rw [hlt]; decide)]; rfl]
            have hp0 : (Tr.node rk rv rl rr).list[0]? = some (Tr.first (k, nv) (.node rk rv rl rr)) := by
              obtain ⟨m, hm⟩ := Tr.first_head (k, nv) (.node rk rv rl rr) rfl
              rw [hm]; rfl
            have hff : Tr.find ltS (Tr.first (k, nv) (.node rk rv rl rr)).1 (.node rk rv rl rr) ≠ .nil := by
              obtain ⟨m, hm⟩ := Tr.first_head (k, nv) (.node rk rv rl rr) rfl
              exact Tr.find_of_mem linS (v := (Tr.first (k, nv) (.node rk rv rl rr)).2) hBr (by rw [hm]; exact List.mem_cons_self)
            generalize Tr.first (k, nv) (.node rk rv rl rr) = p at hp0 hff ⊢
            obtain ⟨pk, pv⟩ := p
            have szr := Tr.size_del linS pk hBr
            have HP : RowKit.Hid ((Tr.node rk rv rl rr).list[0]? = some (pk, pv)) := hp0
            clear hp0
            go_enter Try.func65, Try.ntmps65
            go_wp2_with (first
              | (go_at_call 69; refine (cmp_eq _ _).mono ?_; rintro e w' ⟨rfl, rfl⟩)
              | (go_at_call 71; refine (at_zero (P := P) (.node rk rv rl rr) _ (pk, pv) _ hr (by simp only [Tr.size_node] at hs ⊢; omega) HP.out).mono ?_; rintro e w0 ⟨rfl, hb0⟩))
            have hbw0 : b < w0.heap.size := Nat.lt_of_lt_of_le hbw hb0.size
            have c2' : w0.cell? ⟨b, 3, none⟩ = some (.pointer (some ⟨bl, 0, none⟩)) := (hb0.cell hbw).trans c2
            have c3' : w0.cell? ⟨b, 4, none⟩ = some (.pointer (some ⟨br, 0, none⟩)) := (hb0.cell hbw).trans c3
            have hl0 := hl.below hb0 (Nat.le_refl _)
            have hr0 := hr.below hb0 (Nat.le_refl _)
            go_region_held3 (fun w' => (w'.cell? ⟨b, 3, none⟩ = some (.pointer (some ⟨bl, 0, none⟩)) ∧ w'.cell? ⟨b, 4, none⟩ = some (.pointer (some ⟨br, 0, none⟩))) ∧
                w'.cell? ⟨w0.heap.size, 0, none⟩ = some (Value.string pk) ∧ w'.cell? ⟨w0.heap.size, 1, none⟩ = some (fvS pv) ∧ w'.cell? ⟨w0.heap.size, 2, none⟩ = some (fvN pv))
              (first | go_keep | ((repeat' apply And.intro) <;> (refine (hb1.cell (by simp <;> omega)).trans ?_; simp [go_sem, *])))
              (first
                | (go_at_call 65; refine (ihr pk _ _ ?_ hBr hff (by simp only [Tr.size_node] at hs ⊢; omega)).mono ?_; (repeat (first | with_reducible exact hr0 | refine Rp.alloc _ ?_ | refine Rp.drew ?_)); rintro e w1 ⟨u1, rfl, hr1, hb1⟩)
                | (go_at_call 70; refine (balance_any (P := P) (.node lk lv ll lr) (Tr.del ltS (.node rk rv rl rr) pk) _ u1 _ _ _ ?_ hr1 (by simp only [Tr.size_node] at hs szr ⊢; omega)).mono ?_; refine Rp.below hb1 (Nat.le_refl _) ?_; (repeat (first | with_reducible exact hl0 | refine Rp.alloc _ ?_ | refine Rp.drew ?_)); rintro e w2 ⟨u2, rfl, hr2, hb2⟩; replace hb1 := hb1.trans (hb2.mono hb1.size)))
            go_wp2
            go_ret
            exact ⟨_, rfl, hr2, Tr.below_of hb0 (Below.refl _ _) |>.trans ((Tr.below_of hb1 (by repeat (first | exact Below.refl _ _ | apply Below.drew | refine Below.alloc ?_ (by simp <;> omega) _))).mono hb0.size)⟩

end Go.Proofs.Ytnkfdnehkihbeaa.MapFl
