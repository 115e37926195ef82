/- Rename, Append of the program's disk, each by its contract. -/
import Derived.Test.YtnkfdnehkihbeaaDskDeedB
namespace Go.Proofs.Ytnkfdnehkihbeaa
open Go.RowKit
set_option linter.unusedVariables false
set_option linter.unusedSimpArgs false

theorem may_left {D : Dsk} {a b : ByteArray} (h : D.may a b = 0) : D.may a a = 0 := by
  obtain ⟨h1, h2, h3⟩ := may_ok (D := D) (a := a) (b := b) (fun e => e h)
  simp [Dsk.may, h1, h2]

set_option maxHeartbeats 2000000 in
theorem rename_any (w : World) (d : Nat) (D : Dsk) (M Z : Nat → Prop) (a b : ByteArray) (h : DkG w d D M Z) (hg : Good D) (hM : ∀ k, M k → k < w.heap.size) (hZ : ∀ k, Z k → k < w.heap.size) :
    Calls Try.prog 58 #[.pointer (some ⟨d, 0, none⟩), .string a, .string b] w fun e w' => e = .returned (.int .i64 (((D.rename a b).2 : Nat) : Int)) ∧ DkG w' d (D.rename a b).1 M Z ∧ Keeps (· ≠ d) w w' := by
  obtain ⟨t, h⟩ := h
  have HD := Lib.hid h
  have hR : ∀ w' A, Below w.heap.size w w' → RStr w' A [a, b] → Calls Try.prog 35 #[.pointer (some ⟨d, 0, none⟩), .slice A 2 2] w' fun e w'' => e = .returned (.int .i64 ((D.may a b : Nat) : Int)) ∧ Below w'.heap.size w' w'' := fun w' A hb hA => by
    have := ready_any w' d D M Z noX t (h.below hb) A 2 [a, b] hA (by simp)
    rwa [readyN_two] at this
  have hd := h.lt
  clear h
  by_cases hm : D.may a b = 0
  · rw [hm] at hR
    go_enter Try.func58, Try.ntmps58
    go_wp2_with (first
      | (go_at_call 35
         refine (hR _ _ (by repeat (first | exact Below.refl _ _ | refine Below.alloc ?_ (by simp <;> omega) _)) (RStr.two _ _ _ _ _ _ (by simp))).mono ?_
         rintro e w0 ⟨rfl, hb0⟩
         have hbz : Below w.heap.size w w0 := Tr.below_of hb0 (by repeat (first | exact Below.refl _ _ | refine Below.alloc ?_ (by simp <;> omega) _)))
      | fail)
    refine (finds_any w0 d D M Z noX t (HD.out.below hbz) a).mono ?_
    rintro e w1 ⟨v, c, rfl, hF, hb1⟩
    have hb : Below w.heap.size w (w1.alloc (.cells #[fvS v, fvN v] 83)) := (hbz.trans (hb1.mono hbz.size)).alloc (Nat.le_trans hbz.size hb1.size) _
    have hD := HD.out.below hb
    have hk := Lib.hid (keeps_below (Z := (· ≠ d)) hb (Nat.le_refl _))
    have hma := may_left hm
    rcases hF with ⟨hm1, _, _⟩ | ⟨_, hget, rfl, rfl⟩ | ⟨_, hget2, rfl, hmem, hget⟩
    · exact absurd hma hm1
    · have HS : Hid (D.rename a b = (D, 6)) := ⟨by simp [Dsk.rename, hm, hget]⟩
      have HX := Lib.hid hD
      clear hD
      go_wp2
      go_ret
      exact ⟨by rw [HS.out]; rfl, by rw [HS.out]; exact ⟨t, HX.out⟩, hk.out⟩
    · have hlost := (may_ok (D := D) (a := a) (b := b) (fun e => e hm)).1
      have hvl : v.l.length ≤ 1048576 := by have := HD.out.len hmem; have := hg.usedN; omega
      have hsafe : v.safe ≤ v.l.length := (hg.fils.each (filOf (a, v)) (by rw [← HD.out.fil]; exact List.mem_map_of_mem hmem)).2.1
      have hbox : (w1.alloc (.cells #[fvS v, fvN v] 83)).heap[w1.heap.size]? = some (.cells #[fvS v, fvN v] 83) := heap_alloc_new _ _
      have hne : w1.heap.size ≠ d := by have := hb1.size; have := hbz.size; omega
      have hW := fun w' => waits_any v w' hsafe (by omega)
      by_cases hbusy : v.safe < v.l.length
      · have HS : Hid (D.rename a b = (D, 7)) := ⟨by
          have : (filOf (a, v)).safe < (filOf (a, v)).b.size := hbusy
          simp [Dsk.rename, hm, hget, this]⟩
        have HX := Lib.hid (fun w' (hb' : Below (w1.alloc (.cells #[fvS v, fvN v] 83)).heap.size (w1.alloc (.cells #[fvS v, fvN v] 83)) w') => hD.below hb')
        have hq : (0 : Int) < (v.l.length : Int) - (v.safe : Int) := by omega
        clear hD
        go_wp2_with (first
          | (go_at_call 37
             refine (hW _).mono ?_
             rintro e w2 ⟨rfl, hb2⟩)
          | fail)
        go_ret
        exact ⟨by rw [HS.out]; rfl, by rw [HS.out]; exact ⟨t, HX.out _ hb2⟩, hk.out.trans (keeps_below hb2 (Nat.le_refl _))⟩
      · have hs : D.rename a b = D.done (filOf (b, v)) a := by
          have : ¬ ((filOf (a, v)).safe < (filOf (a, v)).b.size) := hbusy
          simp only [Dsk.rename, hm, hget, this]
          rfl
        have hq : ¬ ((0 : Int) < (v.l.length : Int) - (v.safe : Int)) := by omega
        go_wp2_with (first
          | (go_at_call 37
             refine (hW _).mono ?_
             rintro e w2 ⟨rfl, hb2⟩
             have hbox2 := (hb2.block w1.heap.size (Go.Proofs.Ytnkfdnehkihbeaa.hlt hbox)).trans hbox
             have hD2 := hD.below hb2)
          | fail)
        refine (power_any _ d D M Z noX t hD2 hg hlost).mono ?_
        rintro e w3 ⟨rfl, hD3, hk3⟩
        have hbox3 := (hk3.block w1.heap.size (Go.Proofs.Ytnkfdnehkihbeaa.hlt hbox2) hne).trans hbox2
        obtain ⟨⟨k0, k1⟩, _⟩ := row2 hbox3
        have hkk := Lib.hid ((hk.out.trans (keeps_below hb2 (Nat.le_refl _))).trans hk3)
        have hsw : w.heap.size ≤ w3.heap.size := hkk.out.size
        clear hD hD2 hbox hbox2 hk hW
        by_cases hbl : D.burn.lost = true
        · rw [if_pos hbl]
          have HS : Hid (D.rename a b = (D.burn, 5)) := ⟨by rw [hs, done_no D _ a hbl]⟩
          have HX := Lib.hid hD3
          clear hD3
          go_wp2
          go_ret
          exact ⟨by rw [HS.out]; rfl, by rw [HS.out]; exact ⟨t, HX.out⟩, hkk.out⟩
        · rw [if_neg hbl]
          have HS : Hid (D.rename a b = ({ D.burn with l := putF (putF D.burn.l (filOf (a, noFV))) (filOf (b, v)) }, 0)) := ⟨by rw [hs, Dsk.done, if_neg hbl]; rfl⟩
          have hM3 : ∀ k, M k → k < w3.heap.size := fun k hk => Nat.lt_of_lt_of_le (hM k hk) hsw
          have hrow := hD3.row _ hmem (fun h => h)
          have hlen := hg.len
          have hsz := hD3.size
          have hu := hg.usedN
          have hbl2 := burn_l D
          have hput1 := putF_len1 D.burn.l (filOf (a, noFV))
          have hu1 := hD3.used (filOf (a, noFV))
          have hfb1 : (filOf (a, noFV)).b.size = 0 := rfl
          have hS1 := set_any w3 d D.burn M Z t a noFV (hD3.weak _) hM3 (Owns.nil _ _ _) (fun g e => by cases e) (fun p hp hne g e => by cases e) (by rw [hbl2]; omega) (by show 0 ≤ _; omega) (by rw [hsz, hbl2]; omega)
          have hS2 := fun w4 t' (hD4 : Dt w4 d { D.burn with l := putF D.burn.l (filOf (a, noFV)) } M Z noX t') (hin : ∀ p ∈ t'.list, p = (a, noFV) ∨ (p ∈ t.list ∧ p.1 ≠ a)) (hk4 : Keeps (· ≠ d) w3 w4) => set_any w4 d { D.burn with l := putF D.burn.l (filOf (a, noFV)) } M Z t' b v (hD4.weak _)
            (fun k hk => Nat.lt_of_lt_of_le (hM3 k hk) hk4.size)
            (by obtain ⟨u3, hbx3, _⟩ := hD3.box; exact hrow.own.keep fun g hg => hk4.block g (hrow.lt hg) (fun e => hrow.ne hbx3 (e ▸ hg)))
            hrow.out
            (fun p hp _ g hg => by
              rcases hin p hp with rfl | ⟨hp, hne⟩
              · exact fun e => by cases e
              · exact hD3.apart _ hmem p hp (fun e => hne e.symm) (fun h => h) (fun h => h) g hg)
            (by
              show usedF (putF D.burn.l (filOf (a, noFV))) ≤ _
              have e : (filOf (a, noFV)).name = a := rfl
              rw [hbl2] at hu1 ⊢
              omega) (by omega) (by rw [hD4.size]; show (putF D.burn.l (filOf (a, noFV))).length + 1 ≤ _; rw [hbl2] at hput1 ⊢; omega)
          clear hD3 hmem hget hbl hs hrow hput1 hu1
          go_wp2_with fail
          refine hS1.mono ?_
          rintro e w4 ⟨rfl, t4, hD4, hin4, _, hk4⟩
          have hSS := hS2 w4 t4 hD4 hin4 hk4
          have HK4 := Lib.hid (hkk.out.trans hk4)
          have hbox4 := (hk4.block w1.heap.size (Go.Proofs.Ytnkfdnehkihbeaa.hlt hbox3) hne).trans hbox3
          obtain ⟨⟨q0, q1⟩, _⟩ := row2 hbox4
          clear hS1 hS2 hD4 hin4 hk4 hbox3 k0 k1
          go_wp2_with fail
          refine hSS.mono ?_
          rintro e w5 ⟨rfl, t5, hD5, _, _, hk5⟩
          have HD5 := Lib.hid hD5
          have HK5 := Lib.hid (HK4.out.trans hk5)
          clear hD5 hk5 hSS
          go_wp2
          go_ret
          exact ⟨by rw [HS.out]; rfl, by rw [HS.out]; exact ⟨t5, HD5.out⟩, HK5.out⟩
  · have HS : Hid (D.rename a b = (D, D.may a b)) := ⟨by simp [Dsk.rename, hm]⟩
    generalize D.may a b = c at *
    have hm' : ¬ ((c : Int) = 0) := by omega
    go_enter Try.func58, Try.ntmps58
    go_wp2_with (first
      | (go_at_call 35
         refine (hR _ _ (by repeat (first | exact Below.refl _ _ | refine Below.alloc ?_ (by simp <;> omega) _)) (RStr.two _ _ _ _ _ _ (by simp))).mono ?_
         rintro e w0 ⟨rfl, hb0⟩
         have hbz : Below w.heap.size w w0 := Tr.below_of hb0 (by repeat (first | exact Below.refl _ _ | refine Below.alloc ?_ (by simp <;> omega) _)))
      | fail)
    go_ret
    exact ⟨by rw [HS.out]; rfl, by rw [HS.out]; exact ⟨t, HD.out.below hbz⟩, keeps_below hbz (Nat.le_refl _)⟩

end Go.Proofs.Ytnkfdnehkihbeaa
