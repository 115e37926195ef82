/- Sync, Cut, Remove, Rename of the program's disk, each by its contract. -/
import Derived.Test.YtnkfdnehkihbeaaDskDeedA
namespace Go.Proofs.Ytnkfdnehkihbeaa
open Go.RowKit
set_option linter.unusedVariables false
set_option linter.unusedSimpArgs false

theorem extract_take (l : List UInt8) (k : Nat) : (ByteArray.mk l.toArray).extract 0 k = ⟨(l.take k).toArray⟩ := by
  apply ByteArray.ext
  simp

set_option maxHeartbeats 2000000 in
theorem remove_any (w : World) (d : Nat) (D : Dsk) (M Z : Nat → Prop) (name : ByteArray) (h : DkG w d D M Z) (hg : Good D) (hM : ∀ k, M k → k < w.heap.size) (hZ : ∀ k, Z k → k < w.heap.size) :
    Calls Try.prog 67 #[.pointer (some ⟨d, 0, none⟩), .string name] w fun e w' => e = .returned (.int .i64 (((D.remove name).2 : Nat) : Int)) ∧ DkG w' d (D.remove name).1 M Z ∧ Keeps (· ≠ d) w w' := by
  obtain ⟨t, h⟩ := h
  have HD := Lib.hid h
  go_enter Try.func67, Try.ntmps67
  go_wp2_with fail
  refine (finds_any w d D M Z noX t h name).mono ?_
  clear h
  rintro e w1 ⟨v, c, rfl, hF, hb1⟩
  have hb : Below w.heap.size w (w1.alloc (.cells #[fvS v, fvN v] 83)) := hb1.alloc hb1.size _
  have hD := HD.out.below hb
  have hk := Lib.hid (keeps_below (Z := (· ≠ d)) hb (Nat.le_refl _))
  rcases hF with ⟨hm, rfl, rfl⟩ | ⟨hm, hget, rfl, rfl⟩ | ⟨hm, hget2, rfl, hmem, hget⟩
  · have HS : Hid (D.remove name = (D, D.may name name)) := ⟨by simp [Dsk.remove, hm]⟩
    have HX := Lib.hid hD
    clear hD
    generalize D.may name name = c at *
    have hm' : ¬ ((c : Int) = 0) := by omega
    go_wp2
    go_ret
    exact ⟨by rw [HS.out]; rfl, by rw [HS.out]; exact ⟨t, HX.out⟩, hk.out⟩
  · have HS : Hid (D.remove name = (D, 6)) := ⟨by simp [Dsk.remove, hm, hget]⟩
    have HX := Lib.hid hD
    clear hD
    go_wp2
    go_ret
    exact ⟨by rw [HS.out]; rfl, by rw [HS.out]; exact ⟨t, HX.out⟩, hk.out⟩
  · have hlost := (may_ok (D := D) (a := name) (b := name) (fun e => e hm)).1
    have hs : D.remove name = D.done (filOf (name, noFV)) name := by
      simp only [Dsk.remove, hm, hget]
      rfl
    have hd := HD.out.lt
    have hbox : (w1.alloc (.cells #[fvS v, fvN v] 83)).heap[w1.heap.size]? = some (.cells #[fvS v, fvN v] 83) := heap_alloc_new _ _
    have hne : w1.heap.size ≠ d := by have := hb1.size; omega
    go_wp2_with fail
    refine (power_any _ d D M Z noX t hD hg hlost).mono ?_
    rintro e w3 ⟨rfl, hD3, hk3⟩
    have hbox3 := (hk3.block w1.heap.size (Go.Proofs.Ytnkfdnehkihbeaa.hlt hbox) hne).trans hbox
    obtain ⟨⟨k0, k1⟩, _⟩ := row2 hbox3
    have hsz := hk3.size
    have hkk := Lib.hid (hk.out.trans hk3)
    have hsw : w.heap.size ≤ w3.heap.size := hkk.out.size
    clear hD hbox hk
    by_cases hbl : D.burn.lost = true
    · rw [if_pos hbl]
      have HS : Hid (D.remove name = (D.burn, 5)) := ⟨by rw [hs, done_no D _ name hbl]⟩
      have HX := Lib.hid hD3
      clear hD3
      go_wp2
      go_ret
      exact ⟨by rw [HS.out]; rfl, by rw [HS.out]; exact ⟨t, HX.out⟩, hkk.out⟩
    · rw [if_neg hbl]
      have HS : Hid (D.remove name = ({ D.burn with l := putF D.burn.l (filOf (name, noFV)) }, 0)) := ⟨by rw [hs, done_ok D _ name hbl rfl]⟩
      have hSe := setv_any w3 w3 d D.burn M Z t name v noFV hD3 (Below.refl _ _) hg.burn (fun k hk => Nat.lt_of_lt_of_le (hM k hk) hsw) (fun k hk => Nat.lt_of_lt_of_le (hZ k hk) hsw) hmem (Owns.nil _ _ _) (fun g e => by cases e) (by show 0 ≤ _; omega)
      have hvl : v.l.length ≤ 1048576 := by have := HD.out.len hmem; have := hg.usedN; omega
      clear hD3 hmem hget hbl hs
      go_wp2_with (first
        | (go_at_call 39
           refine hSe.mono ?_
           rintro e w5 ⟨rfl, hD5, hk5⟩
           have HD5 := Lib.hid hD5
           have HK5 := Lib.hid (hkk.out.trans hk5)
           clear hD5 hk5 hSe)
        | fail)
      go_ret
      exact ⟨by rw [HS.out]; rfl, by rw [HS.out]; exact HD5.out, HK5.out⟩

set_option maxHeartbeats 2000000 in
theorem cut_any (w : World) (d : Nat) (D : Dsk) (M Z : Nat → Prop) (name : ByteArray) (n : Int) (hn : -9223372036854775808 ≤ n ∧ n ≤ 9223372036854775807) (h : DkG w d D M Z) (hg : Good D) (hM : ∀ k, M k → k < w.heap.size) (hZ : ∀ k, Z k → k < w.heap.size) :
    Calls Try.prog 33 #[.pointer (some ⟨d, 0, none⟩), .string name, .int .i64 n] w fun e w' => e = .returned (.int .i64 (((D.cut name n).2 : Nat) : Int)) ∧ DkG w' d (D.cut name n).1 M Z ∧ Keeps (· ≠ d) w w' := by
  obtain ⟨t, h⟩ := h
  have HD := Lib.hid h
  go_enter Try.func33, Try.ntmps33
  go_wp2_with fail
  refine (finds_any w d D M Z noX t h name).mono ?_
  clear h
  rintro e w1 ⟨v, c, rfl, hF, hb1⟩
  have hb : Below w.heap.size w (w1.alloc (.cells #[fvS v, fvN v] 83)) := hb1.alloc hb1.size _
  have hD := HD.out.below hb
  have hk := Lib.hid (keeps_below (Z := (· ≠ d)) hb (Nat.le_refl _))
  rcases hF with ⟨hm, rfl, rfl⟩ | ⟨hm, hget, rfl, rfl⟩ | ⟨hm, hget2, rfl, hmem, hget⟩
  · have HS : Hid (D.cut name n = (D, D.may name name)) := ⟨by simp [Dsk.cut, hm]⟩
    have HX := Lib.hid hD
    clear hD
    generalize D.may name name = c at *
    have hm' : ¬ ((c : Int) = 0) := by omega
    go_wp2
    go_ret
    exact ⟨by rw [HS.out]; rfl, by rw [HS.out]; exact ⟨t, HX.out⟩, hk.out⟩
  · have HS : Hid (D.cut name n = (D, 6)) := ⟨by simp [Dsk.cut, hm, hget]⟩
    have HX := Lib.hid hD
    clear hD
    go_wp2
    go_ret
    exact ⟨by rw [HS.out]; rfl, by rw [HS.out]; exact ⟨t, HX.out⟩, hk.out⟩
  · have hlost := (may_ok (D := D) (a := name) (b := name) (fun e => e hm)).1
    have hd := HD.out.lt
    have hvl : v.l.length ≤ 1048576 := by have := HD.out.len hmem; have := hg.usedN; omega
    by_cases hr : n < 0 ∨ (v.l.length : Int) < n
    · have HS : Hid (D.cut name n = (D, 1)) := ⟨by
        have : n < 0 ∨ ((filOf (name, v)).b.size : Int) < n := hr
        simp [Dsk.cut, hm, hget, this]⟩
      have HX := Lib.hid hD
      clear hD
      have hr' : n < 0 ∨ (0 ≤ n ∧ (v.l.length : Int) < n) := by omega
      rcases hr' with h0 | ⟨h0, h1⟩
      all_goals
        go_wp2
        go_ret
        exact ⟨by rw [HS.out]; rfl, by rw [HS.out]; exact ⟨t, HX.out⟩, hk.out⟩
    obtain ⟨k, rfl⟩ : ∃ k : Nat, n = (k : Int) := ⟨n.toNat, by omega⟩
    have hkl : k ≤ v.l.length := by omega
    have hkl' : (k : Int) ≤ (v.l.length : Int) := by omega
    have h0 : (0 : Int) ≤ (k : Int) := by omega
    have hs : D.cut name k = D.done (filOf (name, { v with l := v.l.take k, safe := k })) name := by
      have hr2 : ¬ ((k : Int) < 0 ∨ ((filOf (name, v)).b.size : Int) < (k : Int)) := hr
      simp only [Dsk.cut, hm, hget, hr2]
      simp only [filOf, Int.toNat_natCast, ne_eq, not_true_eq_false, if_false]
      rw [extract_take]
      rfl
    clear hr
    have hbox : (w1.alloc (.cells #[fvS v, fvN v] 83)).heap[w1.heap.size]? = some (.cells #[fvS v, fvN v] 83) := heap_alloc_new _ _
    have hne : w1.heap.size ≠ d := by have := hb1.size; omega
    go_wp2_with fail
    refine (power_any _ d D M Z noX t hD hg hlost).mono ?_
    rintro e w3 ⟨rfl, hD3, hk3⟩
    have hbox3 := (hk3.block w1.heap.size (Go.Proofs.Ytnkfdnehkihbeaa.hlt hbox) hne).trans hbox
    obtain ⟨⟨k0, k1⟩, _⟩ := row2 hbox3
    have hsz := hk3.size
    have hkk := Lib.hid (hk.out.trans hk3)
    have hsw : w.heap.size ≤ w3.heap.size := hkk.out.size
    clear hD hbox hk
    by_cases hbl : D.burn.lost = true
    · rw [if_pos hbl]
      have HS : Hid (D.cut name k = (D.burn, 5)) := ⟨by rw [hs, done_no D _ name hbl]⟩
      have HX := Lib.hid hD3
      clear hD3
      go_wp2
      go_ret
      exact ⟨by rw [HS.out]; rfl, by rw [HS.out]; exact ⟨t, HX.out⟩, hkk.out⟩
    · rw [if_neg hbl]
      have HS : Hid (D.cut name k = ({ D.burn with l := putF D.burn.l (filOf (name, { v with l := v.l.take k, safe := k })) }, 0)) := ⟨by rw [hs, done_ok D _ name hbl rfl]⟩
      have hFi := firstv_any w3 d D.burn M Z t name v k hD3 hg.burn hmem hkl
      have hSe := fun w4 v' hb hv hvb hl => setv_any w3 w4 d D.burn M Z t name v v' hD3 hb hg.burn (fun k hk => Nat.lt_of_lt_of_le (hM k hk) hsw) (fun k hk => Nat.lt_of_lt_of_le (hZ k hk) hsw) hmem hv hvb hl
      clear hD3 hmem hget hbl hs
      go_wp2_with (first
        | (go_at_call 40
           refine hFi.mono ?_
           rintro e w4 ⟨v', rfl, hl', hs', hv', hvb, hb4⟩
           have hfo : filOf (name, v') = filOf (name, { v with l := v.l.take k, safe := k }) := by simp only [filOf, hl', hs']
           have hSe' := hSe w4 v' hb4 hv' hvb (by rw [hl', List.length_take]; omega)
           rw [hfo] at hSe')
        | (go_at_call 39
           refine hSe'.mono ?_
           rintro e w5 ⟨rfl, hD5, hk5⟩
           have HD5 := Lib.hid hD5
           have HK5 := Lib.hid (hkk.out.trans hk5)
           clear hD5 hk5 hSe' hSe hFi)
        | fail)
      go_ret
      exact ⟨by rw [HS.out]; rfl, by rw [HS.out]; exact HD5.out, HK5.out⟩

end Go.Proofs.Ytnkfdnehkihbeaa
