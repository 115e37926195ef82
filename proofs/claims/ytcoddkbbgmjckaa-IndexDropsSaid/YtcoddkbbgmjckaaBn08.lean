/- The calls find, at and del of a tree's node, each by its contract. -/
import Derived.Test.YtcoddkbbgmjckaaBn07
import Derived.Test.YtcoddkbbgmjckaaBn01
import Derived.Deep.LoopGhost
import Derived.Deep.AppendLies
import Derived.OwnWalk
namespace Go.Proofs.Ytcoddkbbgmjckaa.MapKh
open Go.RowKit Go.Proofs.Ytcoddkbbgmjckaa
set_option linter.unusedVariables false
variable {P : Nat → Prop}

theorem find_any (k : ByteArray) (t : T) (u : Option Addr) (w : World) (h : Rp P w u t) :
    Calls Try.prog 83 #[.pointer u, Value.string k] w fun e w' => ∃ u', e = .returned (.pointer u') ∧ Rp P w u' (Tr.find ltS k t) ∧ w = w' := by
  generalize hF : Tr.find ltS k t = F
  go_enter Try.func83, Try.ntmps83
  go_wp2
  go_loopg [0] t.size (fun g p wr => w = wr ∧ ∃ u' t', p = .pointer u' ∧ Rp P w u' t' ∧ t'.size ≤ g ∧ RowKit.Hid (Tr.find ltS k t' = F))
  case atStart => exact ⟨rfl, u, t, rfl, h, Nat.le_refl _, hF⟩
  case round =>
    obtain ⟨rfl, u', t', rfl, h', hg, hF'⟩ := hrel
    cases t' with
    | nil =>
      obtain ⟨rfl, hE⟩ := h'
      have hF2 : Tr.nil = F := hF'.out
      have HR : Rp P w none F := by rw [← hF2]; exact ⟨rfl, hE⟩
      clear hF2
      go_wp2
      go_ret
      exact ⟨_, rfl, HR, rfl⟩
    | node nk nv l r =>
      have h2 := h'
      obtain ⟨b, ul, ur, rfl, hPb, c0, c1, c2, c3, c4, c5, hl, hr⟩ := h2
      rw [Tr.size_node] at hg
      have HF : RowKit.Hid ((if ltS k nk then Tr.find ltS k l else if ltS nk k then Tr.find ltS k r else .node nk nv l r) = F) := hF'
      clear hF'
      cases hlt : ltS k nk with
      | true =>
        have HL : RowKit.Hid (Tr.find ltS k l = F) := by have := HF.out; rw [if_pos hlt] at this; exact this
        go_wp2_with (go_at_call 102; refine (cmp_lt _ _ hlt _).mono ?_; rintro e w' ⟨rfl, rfl⟩)
        go_roundg l.size
        case measure => omega
        case rel => exact ⟨rfl, ul, l, rfl, hl, Nat.le_refl _, HL⟩
      | false =>
        cases hgt : ltS nk k with
        | true =>
          have HL : RowKit.Hid (Tr.find ltS k r = F) := by have := HF.out; rw [if_neg (by rw [hlt]; decide), if_pos hgt] at this; exact this
          go_wp2_with (go_at_call 102; refine (cmp_gt _ _ hgt _).mono ?_; rintro e w' ⟨rfl, rfl⟩)
          go_roundg r.size
          case measure => omega
          case rel => exact ⟨rfl, ur, r, rfl, hr, Nat.le_refl _, HL⟩
        | false =>
          obtain rfl : k = nk := ltS_con hlt hgt
          have HR : Rp P w (some ⟨b, 0, none⟩) F := by have := HF.out; rw [if_neg (by rw [hlt]; decide), if_neg (by rw [hlt]; decide)] at this; rw [← this]; exact h'
          go_wp2_with (go_at_call 102; refine (cmp_eq _ _).mono ?_; rintro e w' ⟨rfl, rfl⟩)
          go_ret
          exact ⟨_, rfl, HR, rfl⟩

theorem at_any (t : T) (u : Option Addr) (i : Nat) (p : ByteArray × HL) (w : World) (h : Rp P w u t) (hs : t.size ≤ 4000000) (hp : t.list[i]? = some p) :
    Calls Try.prog 91 #[.pointer u, .int .i64 i] w fun e w' => e = .returned (.agg #[Value.string p.1, (hlV p.2)]) ∧ Below w.heap.size w w' := by
  go_enter Try.func91, Try.ntmps91
  go_wp2
  go_loopg [0, 1] t.size (fun g n x wr => wr = w.alloc (.cells #[(Value.string ⟨#[]⟩), (Value.slice none 0 0)] 81) ∧ ∃ u' t' j, n = .pointer u' ∧ x = .int .i64 ((j : Nat) : Int) ∧ Rp P w u' t' ∧ t'.size ≤ g ∧ g ≤ t.size ∧ RowKit.Hid (t'.list[j]? = some p))
  case atStart => exact ⟨rfl, u, t, i, rfl, rfl, h, Nat.le_refl _, Nat.le_refl _, hp⟩
  case round =>
    obtain ⟨rfl, u', t', j, rfl, rfl, h', hg, hg2, hp'⟩ := hrel
    clear hp
    cases t' with
    | nil => exact absurd hp'.out (by simp [Tr.list])
    | node nk nv l r =>
      obtain ⟨b, ul, ur, rfl, hPb, c0, c1, c2, c3, c4, c5, hl, hr⟩ := h'
      rw [Tr.size_node] at hg
      have HP : RowKit.Hid ((l.list ++ (nk, nv) :: r.list)[j]? = some p) := hp'
      clear hp'
      have hbw : b < w.heap.size := World.block_lt_of_cell? w _ c0
      rcases Nat.lt_trichotomy j l.size with hj | hj | hj
      · have HL : RowKit.Hid (l.list[j]? = some p) := Tr.at_left HP.out (by rw [Tr.length_list]; exact hj)
        have hj' : (j : Int) < (l.size : Int) := by omega
        go_wp2_with (go_at_call 89; refine (count_any (P := P) l ul _ ?_).mono ?_; (repeat (first | with_reducible exact hl | refine Rp.alloc _ ?_ | refine Rp.drew ?_)); rintro e w' ⟨rfl, rfl⟩)
        go_roundg l.size
        case measure => omega
        case rel => exact ⟨rfl, ul, l, j, rfl, rfl, hl, Nat.le_refl _, by omega, HL⟩
      · have HE : RowKit.Hid ((nk, nv) = p) := Tr.at_here HP.out (by rw [Tr.length_list]; exact hj)
        have hj1 : (j : Int) ≤ (l.size : Int) := by omega
        have hj2 : (l.size : Int) ≤ (j : Int) := by omega
        go_wp2_with (go_at_call 89; refine (count_any (P := P) l ul _ ?_).mono ?_; (repeat (first | with_reducible exact hl | refine Rp.alloc _ ?_ | refine Rp.drew ?_)); rintro e w' ⟨rfl, rfl⟩)
        exact bodyPost_ret (v := .agg #[Value.string nk, (hlV nv)]) (by simp [results, Try.results91, go_sem]) rfl ⟨by rw [← HE.out], (Below.refl _ _).alloc (Nat.le_refl _) _⟩
      · have HL : RowKit.Hid (r.list[j - l.size - 1]? = some p) := by have := Tr.at_right HP.out (by rw [Tr.length_list]; exact hj); rw [Tr.length_list] at this; exact this
        have hj1 : (l.size : Int) < (j : Int) := by omega
        have hx : j ≤ l.size + 1 + r.size := by
          have h0 := HP.out
          have : j < (l.list ++ (nk, nv) :: r.list).length := by
            rcases Nat.lt_or_ge j (l.list ++ (nk, nv) :: r.list).length with h1 | h1
            · exact h1
            · rw [List.getElem?_eq_none h1] at h0; cases h0
          rw [List.length_append, List.length_cons, Tr.length_list, Tr.length_list] at this
          omega
        have hx' : (j : Int) ≤ 4000000 := by omega
        clear hx
        go_wp2_with (go_at_call 89; refine (count_any (P := P) l ul _ ?_).mono ?_; (repeat (first | with_reducible exact hl | refine Rp.alloc _ ?_ | refine Rp.drew ?_)); rintro e w' ⟨rfl, rfl⟩)
        go_roundg r.size
        case measure => omega
        case rel => exact ⟨rfl, ur, r, j - l.size - 1, rfl, by rw [show ((j - l.size - 1 : Nat) : Int) = (j : Int) - l.size - 1 by omega], hr, Nat.le_refl _, by omega, HL⟩

theorem at_zero (t : T) (u : Option Addr) (p : ByteArray × HL) (w : World) (h : Rp P w u t) (hs : t.size ≤ 4000000) (hp : t.list[0]? = some p) :
    Calls Try.prog 91 #[.pointer u, .int .i64 0] w fun e w' => e = .returned (.agg #[Value.string p.1, (hlV p.2)]) ∧ Below w.heap.size w w' :=
  at_any t u 0 p w h hs hp

set_option maxHeartbeats 3200000 in
theorem del_any (t : T) : ∀ (k : ByteArray) (u : Option Addr) (w : World), Rp P w u t → Tr.Bst ltS t → Tr.find ltS k t ≠ .nil → t.size ≤ 4000000 →
    Calls Try.prog 98 #[.pointer u, Value.string k] w fun e w' => ∃ u', e = .returned (.pointer u') ∧ Rp P w' u' (Tr.del ltS t k) ∧ Below w.heap.size w w' := by
  induction t with
  | nil => intro k u w _ _ hf; exact absurd rfl hf
  | node nk nv l r ihl ihr =>
    intro k u w h hB hf hs
    rw [Tr.size_node] at hs
    obtain ⟨b, ul, ur, rfl, hPb, c0, c1, c2, c3, c4, c5, hl, hr⟩ := h
    have hbw : b < w.heap.size := World.block_lt_of_cell? w _ c0
    obtain ⟨hBl, hBr, hlk, hrk⟩ := hB.node
    clear hB
    cases hlt : ltS k nk with
    | true =>
      have szl := Tr.size_del linS k hBl
      have hfl : Tr.find ltS k l ≠ .nil := by rwa [Tr.find, if_pos hlt] at hf
      clear hf hlk hrk
      rw [show Tr.del ltS (.node nk nv l r) k = Tr.bal (Tr.del ltS l k) nk nv r by rw [Tr.del, if_pos hlt]]
      go_enter Try.func98, Try.ntmps98
      go_wp2_with (go_at_call 102; refine (cmp_lt _ _ hlt _).mono ?_; rintro e w' ⟨rfl, rfl⟩)
      go_region_held3 (fun w' => w'.cell? ⟨b, 0, none⟩ = some (Value.string nk) ∧ w'.cell? ⟨b, 1, none⟩ = some ((hlV nv)) ∧ w'.cell? ⟨b, 2, none⟩ = some (.pointer ul) ∧ w'.cell? ⟨b, 3, none⟩ = some (.pointer ur))
        (first | go_keep | ((repeat' apply And.intro) <;> (refine (hb1.cell (by simp <;> omega)).trans ?_; simp [go_sem, *])))
        (first
          | (go_at_call 98; refine (ihl k ul _ ?_ hBl hfl (by omega)).mono ?_; (repeat (first | with_reducible exact hl | refine Rp.alloc _ ?_ | refine Rp.drew ?_)); rintro e w1 ⟨u1, rfl, hr1, hb1⟩)
          | (go_at_call 107; refine (balance_any (P := P) (Tr.del ltS l k) r u1 ur _ _ _ hr1 ?_ (by omega)).mono ?_; refine Rp.below hb1 (Nat.le_refl _) ?_; (repeat (first | with_reducible exact hr | refine Rp.alloc _ ?_ | refine Rp.drew ?_)); rintro e w2 ⟨u2, rfl, hr2, hb2⟩; replace hb1 := hb1.trans (hb2.mono hb1.size)))
      go_wp2
      go_ret
      exact ⟨_, rfl, hr2, Tr.below_of hb1 (by repeat (first | exact Below.refl _ _ | apply Below.drew | refine Below.alloc ?_ (by simp <;> omega) _))⟩
    | false =>
      cases hgt : ltS nk k with
      | true =>
        have szr := Tr.size_del linS k hBr
        have hfr : Tr.find ltS k r ≠ .nil := by rwa [Tr.find, if_neg (by rw [hlt]; decide), if_pos hgt] at hf
        clear hf hlk hrk
        rw [show Tr.del ltS (.node nk nv l r) k = Tr.bal l nk nv (Tr.del ltS r k) by rw [Tr.del, if_neg (by rw [hlt]; decide), if_pos hgt]]
        go_enter Try.func98, Try.ntmps98
        go_wp2_with (go_at_call 102; refine (cmp_gt _ _ hgt _).mono ?_; rintro e w' ⟨rfl, rfl⟩)
        go_region_held3 (fun w' => w'.cell? ⟨b, 0, none⟩ = some (Value.string nk) ∧ w'.cell? ⟨b, 1, none⟩ = some ((hlV nv)) ∧ w'.cell? ⟨b, 2, none⟩ = some (.pointer ul) ∧ w'.cell? ⟨b, 3, none⟩ = some (.pointer ur))
          (first | go_keep | ((repeat' apply And.intro) <;> (refine (hb1.cell (by simp <;> omega)).trans ?_; simp [go_sem, *])))
          (first
            | (go_at_call 98; refine (ihr k ur _ ?_ hBr hfr (by omega)).mono ?_; (repeat (first | with_reducible exact hr | refine Rp.alloc _ ?_ | refine Rp.drew ?_)); rintro e w1 ⟨u1, rfl, hr1, hb1⟩)
            | (go_at_call 107; refine (balance_any (P := P) l (Tr.del ltS r k) ul u1 _ _ _ ?_ hr1 (by omega)).mono ?_; refine Rp.below hb1 (Nat.le_refl _) ?_; (repeat (first | with_reducible exact hl | refine Rp.alloc _ ?_ | refine Rp.drew ?_)); rintro e w2 ⟨u2, rfl, hr2, hb2⟩; replace hb1 := hb1.trans (hb2.mono hb1.size)))
        go_wp2
        go_ret
        exact ⟨_, rfl, hr2, Tr.below_of hb1 (by repeat (first | exact Below.refl _ _ | apply Below.drew | refine Below.alloc ?_ (by simp <;> omega) _))⟩
      | false =>
        obtain rfl : k = nk := ltS_con hlt hgt
        clear hf hlk hrk
        cases l with
        | nil =>
          obtain ⟨rfl, hE⟩ := hl
          rw [show Tr.del ltS (.node k nv .nil r) k = r by rw [Tr.del, if_neg (by rw [hlt]; decide), if_neg (by rw [hlt]; decide)]; rfl]
          go_enter Try.func98, Try.ntmps98
          go_wp2_with (go_at_call 102; refine (cmp_eq _ _).mono ?_; rintro e w' ⟨rfl, rfl⟩)
          go_ret
          exact ⟨_, rfl, hr, Below.refl _ _⟩
        | node lk lv ll lr =>
          have hl2 := hl
          obtain ⟨bl, ull, ulr, rfl, _⟩ := hl2
          cases r with
          | nil =>
            obtain ⟨rfl, hE⟩ := hr
            rw [show Tr.del ltS (.node k nv (.node lk lv ll lr) .nil) k = .node lk lv ll lr by rw [Tr.del, if_neg (by rw [hlt]; decide), if_neg (by rw [hlt]; decide)]; rfl]
            go_enter Try.func98, Try.ntmps98
            go_wp2_with (go_at_call 102; refine (cmp_eq _ _).mono ?_; rintro e w' ⟨rfl, rfl⟩)
            go_ret
            exact ⟨_, rfl, hl, Below.refl _ _⟩
          | node rk rv rl rr =>
            have hr2 := hr
            obtain ⟨br, url, urr, rfl, _⟩ := hr2
            rw [show Tr.del ltS (.node k nv (.node lk lv ll lr) (.node rk rv rl rr)) k = Tr.bal (.node lk lv ll lr) (Tr.first (k, nv) (.node rk rv rl rr)).1 (Tr.first (k, nv) (.node rk rv rl rr)).2 (Tr.del ltS (.node rk rv rl rr) (Tr.first (k, nv) (.node rk rv rl rr)).1) by rw [Tr.del, if_neg (by rw [hlt]; decide), if_neg (by rw [hlt]; decide)]; rfl]
            have hp0 : (Tr.node rk rv rl rr).list[0]? = some (Tr.first (k, nv) (.node rk rv rl rr)) := by
              obtain ⟨m, hm⟩ := Tr.first_head (k, nv) (.node rk rv rl rr) rfl
              rw [hm]; rfl
            have hff : Tr.find ltS (Tr.first (k, nv) (.node rk rv rl rr)).1 (.node rk rv rl rr) ≠ .nil := by
              obtain ⟨m, hm⟩ := Tr.first_head (k, nv) (.node rk rv rl rr) rfl
              exact Tr.find_of_mem linS (v := (Tr.first (k, nv) (.node rk rv rl rr)).2) hBr (by rw [hm]; exact List.mem_cons_self)
            generalize Tr.first (k, nv) (.node rk rv rl rr) = p at hp0 hff ⊢
            obtain ⟨pk, pv⟩ := p
            have szr := Tr.size_del linS pk hBr
            have HP : RowKit.Hid ((Tr.node rk rv rl rr).list[0]? = some (pk, pv)) := hp0
            clear hp0
            go_enter Try.func98, Try.ntmps98
            go_wp2_with (first
              | (go_at_call 102; refine (cmp_eq _ _).mono ?_; rintro e w' ⟨rfl, rfl⟩)
              | (go_at_call 91; refine (at_zero (P := P) (.node rk rv rl rr) _ (pk, pv) _ hr (by simp only [Tr.size_node] at hs ⊢; omega) HP.out).mono ?_; rintro e w0 ⟨rfl, hb0⟩))
            have hbw0 : b < w0.heap.size := Nat.lt_of_lt_of_le hbw hb0.size
            have c2' : w0.cell? ⟨b, 2, none⟩ = some (.pointer (some ⟨bl, 0, none⟩)) := (hb0.cell hbw).trans c2
            have c3' : w0.cell? ⟨b, 3, none⟩ = some (.pointer (some ⟨br, 0, none⟩)) := (hb0.cell hbw).trans c3
            have hl0 := hl.below hb0 (Nat.le_refl _)
            have hr0 := hr.below hb0 (Nat.le_refl _)
            go_region_held3 (fun w' => (w'.cell? ⟨b, 2, none⟩ = some (.pointer (some ⟨bl, 0, none⟩)) ∧ w'.cell? ⟨b, 3, none⟩ = some (.pointer (some ⟨br, 0, none⟩))) ∧
                w'.cell? ⟨w0.heap.size, 0, none⟩ = some (Value.string pk) ∧ w'.cell? ⟨w0.heap.size, 1, none⟩ = some ((hlV pv)))
              (first | go_keep | ((repeat' apply And.intro) <;> (refine (hb1.cell (by simp <;> omega)).trans ?_; simp [go_sem, *])))
              (first
                | (go_at_call 98; refine (ihr pk _ _ ?_ hBr hff (by simp only [Tr.size_node] at hs ⊢; omega)).mono ?_; (repeat (first | with_reducible exact hr0 | refine Rp.alloc _ ?_ | refine Rp.drew ?_)); rintro e w1 ⟨u1, rfl, hr1, hb1⟩)
                | (go_at_call 107; refine (balance_any (P := P) (.node lk lv ll lr) (Tr.del ltS (.node rk rv rl rr) pk) _ u1 _ _ _ ?_ hr1 (by simp only [Tr.size_node] at hs szr ⊢; omega)).mono ?_; refine Rp.below hb1 (Nat.le_refl _) ?_; (repeat (first | with_reducible exact hl0 | refine Rp.alloc _ ?_ | refine Rp.drew ?_)); rintro e w2 ⟨u2, rfl, hr2, hb2⟩; replace hb1 := hb1.trans (hb2.mono hb1.size)))
            go_wp2
            go_ret
            exact ⟨_, rfl, hr2, Tr.below_of hb0 (Below.refl _ _) |>.trans ((Tr.below_of hb1 (by repeat (first | exact Below.refl _ _ | apply Below.drew | refine Below.alloc ?_ (by simp <;> omega) _))).mono hb0.size)⟩

end Go.Proofs.Ytcoddkbbgmjckaa.MapKh

namespace Go.Proofs.Ytcoddkbbgmjckaa.MapKh
open Go.RowKit Go.Proofs.Ytcoddkbbgmjckaa
set_option linter.unusedVariables false
variable {P : Nat → Prop}

theorem pairInfo : (Try.prog.info? 81).map (fun i => (i.zero, i.size, i.bytes)) = some (some (.agg #[(Value.string ⟨#[]⟩), (Value.slice none 0 0)]), 2, 40) := by kernel_rfl

def cellsL (l : List (ByteArray × HL)) : List Value := l.flatMap fun p => [Value.string p.1, (hlV p.2)]
theorem cellsL_nil : cellsL [] = [] := rfl
theorem cellsL_app (a b : List (ByteArray × HL)) : cellsL (a ++ b) = cellsL a ++ cellsL b := List.flatMap_append
theorem cellsL_one (p : ByteArray × HL) : cellsL [p] = [Value.string p.1, (hlV p.2)] := rfl

/-- What gather ends in. -/
def Gath (W : World) (n : Nat) (xs : List Value) (l : List (ByteArray × HL)) (e : Ending) (w' : World) : Prop :=
  ∃ g cap, e = .returned (.slice (some ⟨g, 0, none⟩) (n + l.length) cap) ∧ w'.ownsRow W.heap.size 81 2 (.slice (some ⟨g, 0, none⟩) (n + l.length) cap) (n + l.length) (xs ++ cellsL l) ∧ Below W.heap.size W w'

theorem gath_nil {W w : World} {n g cap : Nat} {xs : List Value} {l : List (ByteArray × HL)} (hl : l = []) (ho : w.ownsRow W.heap.size 81 2 (.slice (some ⟨g, 0, none⟩) n cap) n xs) (hb : Below W.heap.size W w) :
    Gath W n xs l (.returned (.slice (some ⟨g, 0, none⟩) n cap)) w := by
  subst hl
  exact ⟨g, cap, rfl, by simpa [cellsL_nil] using ho, hb⟩

theorem gath_fin {W w : World} {n m : Nat} {xs xs1 : List Value} {pre l tot : List (ByteArray × HL)} {e : Ending} (h : Gath W m xs1 l e w) (h1 : RowKit.Hid (xs1 = xs ++ cellsL pre)) (h2 : RowKit.Hid (m = n + pre.length)) (h3 : RowKit.Hid (tot = pre ++ l)) : Gath W n xs tot e w := by
  have h1 := h1.out
  have h2 := h2.out
  have h3 := h3.out
  subst h1 h2 h3
  obtain ⟨g, cap, he, ho, hb⟩ := h
  refine ⟨g, cap, ?_, ?_, hb⟩
  · rw [he, List.length_append, Nat.add_assoc]
  · rw [List.length_append, cellsL_app, ← Nat.add_assoc, ← List.append_assoc]; exact ho

set_option maxRecDepth 100000 in
set_option maxHeartbeats 3200000 in
theorem gather_any (W : World) (t : T) : ∀ (u : Option Addr) (w : World) (g n cap : Nat) (xs : List Value) (f o : Int), Rp P W u t → Below W.heap.size W w →
    w.ownsRow W.heap.size 81 2 (.slice (some ⟨g, 0, none⟩) n cap) n xs → n + t.size ≤ 4000000 → (t.size : Int) ≤ f + 8000000 → (t.size : Int) ≤ o + 8000000 → f ≤ 4000000 → o ≤ 4000000 →
    Calls Try.prog 106 #[.pointer u, .slice (some ⟨g, 0, none⟩) n cap, .int .i64 f, .int .i64 o] w (Gath W n xs (Tr.sub f o t.list)) := by
  induction t with
  | nil =>
    intro u w g n cap xs f o h hb ho _ _ _ _ _
    have h0 := h
    obtain ⟨rfl, hE⟩ := h
    have hg := gath_nil (l := Tr.sub f o ([] : List (ByteArray × HL))) (Tr.sub_nil f o) ho hb
    go_enter Try.func106, Try.ntmps106
    go_wp2
    go_ret
    exact hg
  | node nk nv l r ihl ihr =>
    intro u w g n cap xs f o h hb ho hs hf1 ho1 hf2 ho2
    have hsz := Tr.size_node nk nv l r
    obtain ⟨b, ul, ur, rfl, hPb, c0, c1, c2, c3, c4, c5, hl, hr⟩ := h
    have hbW : b < W.heap.size := World.block_lt_of_cell? W _ c0
    have lenl : (l.list.length : Int) = l.size := by rw [Tr.length_list]
    by_cases h1 : o ≤ 0
    · have hg := gath_nil (l := Tr.sub f o (Tr.node nk nv l r).list) (Tr.sub_to f o _ h1) ho hb
      go_enter Try.func106, Try.ntmps106
      go_wp2
      go_ret
      exact hg
    · obtain ⟨sz, hsz'⟩ : ∃ sz : Nat, l.size + 1 + r.size = sz := ⟨_, rfl⟩
      rw [hsz'] at c4 hsz
      have d0 : w.cell? ⟨b, 0, none⟩ = some (Value.string nk) := (hb.cell hbW).trans c0
      have d1 : w.cell? ⟨b, 1, none⟩ = some ((hlV nv)) := (hb.cell hbW).trans c1
      have d2 : w.cell? ⟨b, 2, none⟩ = some (.pointer ul) := (hb.cell hbW).trans c2
      have d3 : w.cell? ⟨b, 3, none⟩ = some (.pointer ur) := (hb.cell hbW).trans c3
      have d4 : w.cell? ⟨b, 4, none⟩ = some (.int .i64 (sz : Int)) := (hb.cell hbW).trans c4
      by_cases h2 : (sz : Int) ≤ f
      · have hg := gath_nil (l := Tr.sub f o (Tr.node nk nv l r).list) (Tr.sub_from f o _ (by rw [Tr.length_list, hsz]; exact h2)) ho hb
        clear hsz hsz' lenl
        go_enter Try.func106, Try.ntmps106
        go_wp2
        go_ret
        exact hg
      · have h1' : 0 < o := by omega
        have h2' : f < (sz : Int) := by omega
        have hlb : (l.size : Int) ≤ 4000000 := by omega
        have hrb : (r.size : Int) ≤ 4000000 := by omega
        have bl1 : (l.size : Int) ≤ f + 8000000 := by omega
        have bl2 : (l.size : Int) ≤ o + 8000000 := by omega
        have br1 : (r.size : Int) ≤ (f - l.size - 1) + 8000000 := by omega
        have br2 : (r.size : Int) ≤ (o - l.size - 1) + 8000000 := by omega
        have br3 : f - l.size - 1 ≤ 4000000 := by omega
        have br4 : o - l.size - 1 ≤ 4000000 := by omega
        have bn1 : n + l.size ≤ 4000000 := by omega
        have bn2 : n + l.size + 1 + r.size ≤ 4000000 := by omega
        have hle : (Tr.sub f o l.list).length ≤ l.size := by unfold Tr.sub; rw [← Tr.length_list]; simp; omega
        have HS : RowKit.Hid (Tr.sub f o (Tr.node nk nv l r).list = Tr.sub f o l.list ++ ((if f ≤ l.list.length ∧ (l.list.length : Int) < o then [(nk, nv)] else []) ++ Tr.sub (f - l.list.length - 1) (o - l.list.length - 1) r.list)) := Tr.sub_node f o l.list r.list (nk, nv)
        rw [lenl] at HS
        clear hsz hsz' lenl hs h1 h2
        obtain ⟨i0, hi0, hz0, hz1, hz2⟩ := info_parts pairInfo
        by_cases h3 : f ≤ (l.size : Int) ∧ (l.size : Int) < o
        · obtain ⟨h3a, h3b⟩ := h3
          have HT : RowKit.Hid (Tr.sub f o (Tr.node nk nv l r).list = (Tr.sub f o l.list ++ [(nk, nv)]) ++ Tr.sub (f - l.size - 1) (o - l.size - 1) r.list) := by
            have := HS.out
            rw [if_pos ⟨h3a, h3b⟩] at this
            rw [List.append_assoc]; exact this
          clear HS
          have IH : ∀ w', Below W.heap.size W w' → ∀ g n cap xs, w'.ownsRow W.heap.size 81 2 (.slice (some ⟨g, 0, none⟩) n cap) n xs → n + r.size ≤ 4000000 →
              Calls Try.prog 106 #[.pointer ur, .slice (some ⟨g, 0, none⟩) n cap, .int .i64 (f - l.size - 1), .int .i64 (o - l.size - 1)] w' (Gath W n xs (Tr.sub (f - l.size - 1) (o - l.size - 1) r.list)) :=
            fun w' hb' g n cap xs ho' hn => ihr ur w' g n cap xs _ _ hr hb' ho' hn br1 br2 br3 br4
          go_enter Try.func106, Try.ntmps106
          go_wp2_with (first
            | (go_at_call 89; refine (count_any (P := P) l ul _ (Rp.below hb (Nat.le_refl _) hl)).mono ?_; rintro e w' ⟨rfl, rfl⟩)
            | (go_at_call_of 106 (Value.pointer ul); refine (ihl ul _ g n cap xs f o hl hb ho bn1 bl1 bl2 hf2 ho2).mono ?_; rintro e w1 ⟨g1, cap1, rfl, ho1, hb1⟩
               generalize hm : n + (Tr.sub f o l.list).length = m at ho1 ⊢
               have HM : RowKit.Hid (m = n + (Tr.sub f o l.list).length) := hm.symm
               have hm2 : m + 1 + r.size ≤ 4000000 := by omega
               clear hm
               have e0 : w1.cell? ⟨b, 0, none⟩ = some (Value.string nk) := (hb1.cell hbW).trans c0
               have e1 : w1.cell? ⟨b, 1, none⟩ = some ((hlV nv)) := (hb1.cell hbW).trans c1
               have hbw1 : b < w1.heap.size := Nat.lt_of_lt_of_le hbW hb1.size)
            | (at_builtin; refine wpList_append_lies _ rfl _ _ 78 rfl W.heap.size 81 i0 _ 2 40 Try.underlying78 hi0 hz0 hz1 hz2 rfl (by omega) (.slice (some ⟨g1, 0, none⟩) m cap1) m _ rfl (ho1.alloc _) ⟨w1.heap.size, 0, none⟩ 1 1 [Value.string nk, (hlV nv)] rfl rfl (World.news_of_block (heap_alloc_new w1 _)) (by simp [Value.oneCell']) (by omega) (by unfold maxLen; omega) (by omega) (by have := hb1.size; simp; omega) (w1.heap.size + 1) (by simp) ?_
               intro g2 cap2 w2 ho2 hgr2 hat2 hlt2
               have hb2 : Below W.heap.size W w2 := (hb1.alloc hb1.size _).grown hgr2 (by have := hb1.size; simp; omega) (fun k hk => (ho1.lt k hk).1)
               have e3 : w2.cell? ⟨b, 3, none⟩ = some (.pointer ur) := (hb2.cell hbW).trans c3)
            | (go_at_call_of 106 (Value.pointer ur); refine (IH w2 hb2 g2 (m + 1) cap2 _ ho2 hm2).mono ?_; rintro e w3 ⟨g3, cap3, rfl, ho3, hb3⟩
               have hG : Gath W (m + 1) (xs ++ cellsL (Tr.sub f o l.list) ++ [Value.string nk, (hlV nv)]) (Tr.sub (f - l.size - 1) (o - l.size - 1) r.list) (.returned (.slice (some ⟨g3, 0, none⟩) (m + 1 + (Tr.sub (f - l.size - 1) (o - l.size - 1) r.list).length) cap3)) w3 := ⟨g3, cap3, rfl, ho3, hb3⟩
               clear ho3 hb3))
          go_ret
          exact gath_fin (pre := Tr.sub f o l.list ++ [(nk, nv)]) hG (show _ = _ by rw [cellsL_app, cellsL_one, List.append_assoc]) (show _ = _ by rw [List.length_append, HM.out, Nat.add_assoc]; rfl) HT
        · have HT : RowKit.Hid (Tr.sub f o (Tr.node nk nv l r).list = Tr.sub f o l.list ++ Tr.sub (f - l.size - 1) (o - l.size - 1) r.list) := by
            have := HS.out
            rw [if_neg h3] at this
            rw [this]; rfl
          clear HS
          have IH : ∀ w', Below W.heap.size W w' → ∀ g n cap xs, w'.ownsRow W.heap.size 81 2 (.slice (some ⟨g, 0, none⟩) n cap) n xs → n + r.size ≤ 4000000 →
              Calls Try.prog 106 #[.pointer ur, .slice (some ⟨g, 0, none⟩) n cap, .int .i64 (f - l.size - 1), .int .i64 (o - l.size - 1)] w' (Gath W n xs (Tr.sub (f - l.size - 1) (o - l.size - 1) r.list)) :=
            fun w' hb' g n cap xs ho' hn => ihr ur w' g n cap xs _ _ hr hb' ho' hn br1 br2 br3 br4
          have h3' : (f ≤ (l.size : Int) ∧ o ≤ (l.size : Int)) ∨ (l.size : Int) < f := by omega
          clear h3
          rcases h3' with ⟨h3a, h3b⟩ | h3a
          all_goals
            go_enter Try.func106, Try.ntmps106
            go_wp2_with (first
              | (go_at_call 89; refine (count_any (P := P) l ul _ (Rp.below hb (Nat.le_refl _) hl)).mono ?_; rintro e w' ⟨rfl, rfl⟩)
              | (go_at_call_of 106 (Value.pointer ul); refine (ihl ul _ g n cap xs f o hl hb ho bn1 bl1 bl2 hf2 ho2).mono ?_; rintro e w1 ⟨g1, cap1, rfl, ho1, hb1⟩
                 generalize hm : n + (Tr.sub f o l.list).length = m at ho1 ⊢
                 have HM : RowKit.Hid (m = n + (Tr.sub f o l.list).length) := hm.symm
                 have hm2 : m + r.size ≤ 4000000 := by omega
                 clear hm
                 have e3 : w1.cell? ⟨b, 3, none⟩ = some (.pointer ur) := (hb1.cell hbW).trans c3)
              | (go_at_call_of 106 (Value.pointer ur); refine (IH w1 hb1 g1 m cap1 _ ho1 hm2).mono ?_; rintro e w3 ⟨g3, cap3, rfl, ho3, hb3⟩
                 have hG : Gath W m (xs ++ cellsL (Tr.sub f o l.list)) (Tr.sub (f - l.size - 1) (o - l.size - 1) r.list) (.returned (.slice (some ⟨g3, 0, none⟩) (m + (Tr.sub (f - l.size - 1) (o - l.size - 1) r.list).length) cap3)) w3 := ⟨g3, cap3, rfl, ho3, hb3⟩
                 clear ho3 hb3))
            go_ret
            exact gath_fin hG rfl HM HT

end Go.Proofs.Ytcoddkbbgmjckaa.MapKh
