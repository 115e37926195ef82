/- Append of the program's disk, by its contract. -/
import Derived.Test.YtnkfdnehkihbeaaDskDeedC
namespace Go.Proofs.Ytnkfdnehkihbeaa
open Go.RowKit
set_option linter.unusedVariables false
set_option linter.unusedSimpArgs false

/-- A file's row isn't a node. -/
theorem FRow.node {w : World} {base : Nat} {v : FV} (h : FRow w base v) (h0 : 0 < v.l.length) {b : Nat} {k : ByteArray} (hc : w.cell? ⟨b, 0, none⟩ = some (.string k)) : blk v ≠ some b := by
  intro e
  obtain ⟨g, he, _, _, h1, _⟩ := Owns.at_ h 0 h0
  have : g = b := by
    have e' : blk v = some g := by unfold blk fvS; rw [he]; rfl
    rw [e'] at e
    injection e
  subst this
  rw [hc] at h1
  cases h1

/-- A row was appended to: the file's own is not vouched for. -/
theorem Dt.more {w w' : World} {d : Nat} {D : Dsk} {M Z : Nat → Prop} {t : FT} {name : ByteArray} {v : FV} (h : Dt w d D M Z noX t) (hv : v = noFV ∨ ((name, v) ∈ t.list ∧ 0 < v.l.length)) (hg : w.grownBy w' (blk v)) :
    Dt w' d D M Z (· = name) t ∧ Keeps Z w w' := by
  obtain ⟨u, hbx, hr⟩ := h.box
  have hd := h.lt
  have hdn : some d ≠ blk v := by
    rcases hv with rfl | ⟨hm, _⟩
    · exact fun e => by cases e
    · exact fun e => (h.row _ hm (fun h => h)).ne hbx e.symm
  refine ⟨⟨⟨u, (hg.block d hd hdn).trans hbx, hr.carry (fun k hk => .inr hk) fun b hlt hP ⟨k, hc⟩ => ⟨hP.elim .inl (fun e => by omega), hg.block b hlt ?_⟩⟩, h.bst, h.fil, ?_, fun a ha b hb hab _ _ => h.apart a ha b hb hab (fun h => h) (fun h => h), h.own⟩, keeps_grown hg ?_⟩
  · rcases hv with rfl | ⟨hm, h0⟩
    · exact fun e => by cases e
    · exact fun e => (h.row _ hm (fun h => h)).own.node h0 hc e.symm
  · intro p hp hne
    have hrw := h.row p hp (fun h => h)
    refine ⟨hrw.own.keep fun g hg' => hg.block g (hrw.lt hg') fun e => ?_, hrw.out⟩
    rcases hv with rfl | ⟨hm, _⟩
    · cases e
    · exact h.apart _ hm p hp (fun e => hne e.symm) (fun h => h) (fun h => h) g e.symm hg'
  · intro k e
    rcases hv with rfl | ⟨hm, _⟩
    · cases e
    · exact ((h.row _ hm (fun h => h)).out k e).2

/-- Bytes don't lie in the disk's block. -/
theorem lies_disk {w : World} {d g off : Nat} {r used fuse : Int} {u : Option Addr} {lost : Bool} {T : TypeId} {A : Option Addr} {len cap : Nat} {l : List UInt8} (h : Lies w A len cap l) (h0 : 0 < len) (e : A = some ⟨g, off, none⟩)
    (hbx : w.heap[d]? = some (.cells #[.int .i64 r, .int .i64 used, .pointer u, .int .i64 fuse, .bool lost] T)) : g ≠ d := by
  rintro rfl
  obtain ⟨g', off', e', _, hc⟩ := h.cell 0 (by have := h.1; omega)
  rw [e] at e'
  injection e' with e'
  injection e' with e1 e2
  subst e1 e2
  rw [cell_of_row _ _ _ _ _ _ hbx] at hc
  have : off + 0 = 0 ∨ off + 0 = 1 ∨ off + 0 = 2 ∨ off + 0 = 3 ∨ off + 0 = 4 ∨ 5 ≤ off + 0 := by omega
  rcases this with h | h | h | h | h | h
  · rw [h] at hc; cases hc
  · rw [h] at hc; cases hc
  · rw [h] at hc; cases hc
  · rw [h] at hc; cases hc
  · rw [h] at hc; cases hc
  · rw [Array.getElem?_eq_none (by simpa using h)] at hc; cases hc

theorem bytes_app (a b : List UInt8) : (ByteArray.mk a.toArray) ++ (ByteArray.mk b.toArray) = ⟨(a ++ b).toArray⟩ := by
  apply ByteArray.ext
  simp

theorem burn_with (D : Dsk) (l : List Fil) : Dsk.burn { D with l := l } = { D.burn with l := l } := by
  unfold Dsk.burn
  dsimp only
  split
  · rfl
  · split <;> rfl

set_option maxHeartbeats 2000000 in
theorem append_any (w : World) (d : Nat) (D : Dsk) (M Z : Nat → Prop) (name : ByteArray) (A : Option Addr) (cap : Nat) (l : List UInt8) (h : DkG w d D M Z) (hg : Good D) (hM : ∀ k, M k → k < w.heap.size) (hZ : ∀ k, Z k → k < w.heap.size)
    (hA : Lies w A l.length cap l) (hl : l.length ≤ 2147483647) :
    Calls Try.prog 49 #[.pointer (some ⟨d, 0, none⟩), .string name, .slice A l.length cap] w fun e w' => e = .returned (.int .i64 (((D.append name ⟨l.toArray⟩).2 : Nat) : Int)) ∧ DkG w' d (D.append name ⟨l.toArray⟩).1 M Z ∧ Keeps Z w w' := by
  obtain ⟨t, h⟩ := h
  have HD := Lib.hid h
  have hR : ∀ w' A, Below w.heap.size w w' → RStr w' A [name] → Calls Try.prog 35 #[.pointer (some ⟨d, 0, none⟩), .slice A 1 1] w' fun e w'' => e = .returned (.int .i64 ((D.may name name : Nat) : Int)) ∧ Below w'.heap.size w' w'' := fun w' A hb hA => by
    have := ready_any w' d D M Z noX t (h.below hb) A 1 [name] hA (by simp)
    rwa [readyN_one] at this
  have hd := h.lt
  have hbz0 : (⟨l.toArray⟩ : ByteArray).size = l.length := rfl
  obtain ⟨u0, hbx0, _⟩ := h.box
  obtain ⟨⟨a0, a1, _, _, _⟩, _⟩ := row5 hbx0
  have hroom := hg.room
  have hused := hg.used
  clear h
  by_cases hm : D.may name name = 0
  · rw [hm] at hR
    have e1 : IntKind.i64.wrap (D.room - ((usedF D.l : Nat) : Int)) = D.room - ((usedF D.l : Nat) : Int) := IntWalk.i64_in _ (by omega)
    by_cases hfull : D.room < (usedF D.l : Int) + (l.length : Int)
    · have HS : Hid (D.append name ⟨l.toArray⟩ = (D, 4)) := ⟨by
        have : D.room < (usedF D.l : Int) + ((⟨l.toArray⟩ : ByteArray).size : Int) := hfull
        simp [Dsk.append, hm, this]⟩
      have hq : D.room - ((usedF D.l : Nat) : Int) < (l.length : Int) := by omega
      clear hbx0
      go_enter Try.func49, Try.ntmps49
      go_wp2_with (first
        | (go_at_call 35
           refine (hR _ _ (by repeat (first | exact Below.refl _ _ | refine Below.alloc ?_ (by simp <;> omega) _)) (RStr.one _ _ _ _ _ (by simp))).mono ?_
           rintro e w0 ⟨rfl, hb0⟩
           have hbz : Below w.heap.size w w0 := Tr.below_of hb0 (by repeat (first | exact Below.refl _ _ | refine Below.alloc ?_ (by simp <;> omega) _))
           have c0 := (hbz.cell (p := ⟨d, 0, none⟩) hd).trans a0
           have c1 := (hbz.cell (p := ⟨d, 1, none⟩) hd).trans a1)
        | fail)
      go_quiet (fail)
      go_wp2
      go_ret
      have hbq := below_drewN hbz nq
      exact ⟨by rw [HS.out]; rfl, by rw [HS.out]; exact ⟨t, HD.out.below hbq⟩, keeps_below hbq (Nat.le_refl _)⟩
    · have hq : ¬ (D.room - ((usedF D.l : Nat) : Int) < (l.length : Int)) := by omega
      have hlost := (may_ok (D := D) (a := name) (b := name) (fun e => e hm)).1
      go_enter Try.func49, Try.ntmps49
      go_wp2_with (first
        | (go_at_call 35
           refine (hR _ _ (by repeat (first | exact Below.refl _ _ | refine Below.alloc ?_ (by simp <;> omega) _)) (RStr.one _ _ _ _ _ (by simp))).mono ?_
           rintro e w0 ⟨rfl, hb0⟩
           have hbz : Below w.heap.size w w0 := Tr.below_of hb0 (by repeat (first | exact Below.refl _ _ | refine Below.alloc ?_ (by simp <;> omega) _))
           have c0 := (hbz.cell (p := ⟨d, 0, none⟩) hd).trans a0
           have c1 := (hbz.cell (p := ⟨d, 1, none⟩) hd).trans a1)
        | fail)
      go_quiet (fail)
      go_wp2_with fail
      have hbq := below_drewN hbz nq
      refine (power_any _ d D M Z noX t (HD.out.below hbq) hg hlost).mono ?_
      rintro e w3 ⟨rfl, hD3, hk3⟩
      obtain ⟨c, hc⟩ : ∃ c : Nat, (if D.burn.lost = true then 5 else 0) = c := ⟨_, rfl⟩
      rw [hc]
      have hkk := Lib.hid ((keeps_below (Z := (· ≠ d)) hbq (Nat.le_refl _)).trans hk3)
      have hsw : w.heap.size ≤ w3.heap.size := hkk.out.size
      have hlA : Lies w3 A l.length cap l := hA.keep hsw fun h0 g off e hlt => hkk.out.block g hlt (lies_disk hA h0 e hbx0)
      obtain ⟨v0, ok, gs, gsafe, gok, gno, gq, hG⟩ := hD3.gets name
      obtain ⟨u3, hbx3, hr3⟩ := hD3.box
      obtain ⟨⟨_, _, b2, _, _⟩, _⟩ := row5 hbx3
      have hd3 := hD3.lt
      have hbl2 := burn_l D
      have hv : v0 = noFV ∨ ((name, v0) ∈ t.list ∧ 0 < v0.l.length) := by
        cases ok with
        | false => exact .inl (gno rfl)
        | true =>
          have hmem := gok rfl
          exact .inr ⟨hmem, (hg.fils.each (filOf (name, v0)) (by rw [← hbl2, ← hD3.fil]; exact List.mem_map_of_mem hmem)).1⟩
      have hget : getF D.l name = (filOf (name, v0), ok) := by
        rw [← hbl2]
        cases ok with
        | false =>
          rw [gno rfl]
          rcases hD3.has name with ⟨v, _, _, _, hmem, hx⟩ | ⟨_, _, hx⟩
          · rw [hx] at gq; cases gq
          · rw [hx]; rfl
        | true => rw [hD3.get (gok rfl)]
      have hD' := hD3
      have HS : Hid (D.append name ⟨l.toArray⟩ = ({ D.burn with l := putF D.burn.l (filOf (name, { v0 with l := v0.l ++ l })) }, c)) := ⟨by
        have hnf : ¬ D.room < (usedF D.l : Int) + ((⟨l.toArray⟩ : ByteArray).size : Int) := by
          show ¬ D.room < (usedF D.l : Int) + (l.length : Int)
          omega
        unfold Dsk.append
        rw [hm, if_neg (by simp), if_neg hnf, hget]
        dsimp only
        rw [burn_with, hbl2]
        have e : (filOf (name, v0)).b ++ (⟨l.toArray⟩ : ByteArray) = ⟨(v0.l ++ l).toArray⟩ := bytes_app _ _
        rw [e]
        rw [← hc]
        by_cases hbl : D.burn.lost = true
        · rw [if_pos hbl, if_pos hbl]; rfl
        · rw [if_neg hbl, if_neg hbl]; rfl⟩
      clear hc
      have hvl : v0.l.length ≤ usedF D.l := by
        rcases hv with rfl | ⟨hmem, _⟩
        · exact Nat.zero_le _
        · have := hD3.len hmem; rwa [hbl2] at this
      have hrow0 : FRow w3 0 v0 := by
        rcases hv with rfl | ⟨hmem, _⟩
        · exact Owns.nil _ _ _
        · exact (hD3.row _ hmem (fun h => h)).own
      have hG3 := hG (Pn M w3) w3 u3 hr3
      have hM3 : ∀ k, M k → k < w3.heap.size := fun k hk => Nat.lt_of_lt_of_le (hM k hk) hsw
      have hZ3 : ∀ k, Z k → k < w3.heap.size := fun k hk => Nat.lt_of_lt_of_le (hZ k hk) hsw
      have hMo := fun w4 (hb4 : Below w3.heap.size w3 w4) => more_any v0 A l.length cap l w4 (hrow0.keep fun g hg => hb4.block g (hrow0.lt g hg).2) (hlA.below hb4 (Nat.le_refl _)) (by rw [List.length_append]; omega)
      have hSe := fun w4 w5 v' (hb4 : Below w3.heap.size w3 w4) (hgr : w4.grownBy w5 (blk v0)) (hv' : FRow w5 0 v') (hll : v'.l = v0.l ++ l) (hvb : blk v' = blk v0 ∨ ∃ g, blk v' = some g ∧ w4.heap.size ≤ g) =>
        set_any w5 d D.burn M Z t name v' (Dt.more (hD3.below hb4) hv hgr).1 (fun k hk => Nat.lt_of_lt_of_le (hM3 k hk) (Nat.le_trans hb4.size hgr.size)) hv'
          (fun g hg' => by
            rcases hvb with e | ⟨g', e, hge⟩
            · rcases hv with rfl | ⟨hmem, _⟩
              · rw [e] at hg'; cases hg'
              · exact (hD3.row _ hmem (fun h => h)).out g (e ▸ hg')
            · rw [hg'] at e
              injection e with e
              subst e
              have := hb4.size
              exact ⟨fun q => by have := hM3 g q; omega, fun q => by have := hZ3 g q; omega⟩)
          (fun p hp hne g hg' => by
            rcases hvb with e | ⟨g', e, hge⟩
            · rcases hv with rfl | ⟨hmem, _⟩
              · rw [e] at hg'; cases hg'
              · exact hD3.apart _ hmem p hp (fun q => hne q.symm) (fun h => h) (fun h => h) g (e ▸ hg')
            · rw [hg'] at e
              injection e with e
              subst e
              intro q
              have := (hD3.row p hp (fun h => h)).lt q
              have := hb4.size
              omega)
          (by have := hg.usedN; rw [hbl2]; omega) (by rw [hll, List.length_append]; have := hg.usedN; omega) (by have := hg.len; rw [hD3.size, hbl2]; omega)
      have hKe := fun w4 w5 (hb4 : Below w3.heap.size w3 w4) (hgr : w4.grownBy w5 (blk v0)) => (Dt.more (hD3.below hb4) hv hgr).2
      have hZd := hD3.own.2
      clear hD3 hD' hget hv gs gsafe gok gno gq hG hbx3 hr3 hrow0 hA hbx0 a0 a1 c0 c1 hk3 hbl2 hlA
      go_wp2_with (first
        | (go_at_call 54
           refine hG3.mono ?_
           rintro e w4 ⟨rfl, hb4⟩
           have hb4' := hb4.alloc hb4.size (.cells #[fvS v0, fvN v0] 83))
        | (go_at_call 61
           refine (hMo _ hb4').mono ?_
           rintro e w5 ⟨v', rfl, hll, hs', hv', hgr, hvb⟩
           have hS5 := hSe _ w5 v' hb4' hgr hv' hll hvb
           have hfo : filOf (name, v') = filOf (name, { v0 with l := v0.l ++ l }) := by simp only [filOf, hll, hs']
           rw [hfo] at hS5
           have hK5 := Lib.hid (((hkk.out.mono (Z' := Z) (fun k hk e => hZd (e ▸ hk))).trans (keeps_below hb4' (Nat.le_refl _))).trans (hKe _ w5 hb4' hgr)))
        | (go_at_call 39
           refine hS5.mono ?_
           rintro e w6 ⟨rfl, t6, hD6, _, _, hk6⟩
           have HD6 := Lib.hid hD6
           have HK6 := Lib.hid (hK5.out.trans (hk6.mono (Z' := Z) (fun k hk e => hZd (e ▸ hk))))
           clear hD6 hk6 hS5)
        | fail)
      go_ret
      exact ⟨by rw [HS.out]; rfl, by rw [HS.out]; exact ⟨t6, HD6.out⟩, HK6.out⟩
  · have HS : Hid (D.append name ⟨l.toArray⟩ = (D, D.may name name)) := ⟨by simp [Dsk.append, hm]⟩
    generalize D.may name name = c at *
    have hm' : ¬ ((c : Int) = 0) := by omega
    go_enter Try.func49, Try.ntmps49
    go_wp2_with (first
      | (go_at_call 35
         refine (hR _ _ (by repeat (first | exact Below.refl _ _ | refine Below.alloc ?_ (by simp <;> omega) _)) (RStr.one _ _ _ _ _ (by simp))).mono ?_
         rintro e w0 ⟨rfl, hb0⟩
         have hbz : Below w.heap.size w w0 := Tr.below_of hb0 (by repeat (first | exact Below.refl _ _ | refine Below.alloc ?_ (by simp <;> omega) _)))
      | fail)
    go_ret
    exact ⟨by rw [HS.out]; rfl, by rw [HS.out]; exact ⟨t, HD.out.below hbz⟩, keeps_below hbz (Nat.le_refl _)⟩

end Go.Proofs.Ytnkfdnehkihbeaa
