/- Sync, Cut, Remove of the program's disk, each by its contract. -/
import Derived.Test.YtnkfdnehkihbeaaDskSet
namespace Go.Proofs.Ytnkfdnehkihbeaa
open Go.RowKit
set_option linter.unusedVariables false
set_option linter.unusedSimpArgs false

theorem Dt.weak {w : World} {d : Nat} {D : Dsk} {M Z : Nat → Prop} {t : FT} (h : Dt w d D M Z noX t) (X : ByteArray → Prop) : Dt w d D M Z X t :=
  ⟨h.box, h.bst, h.fil, fun p hp _ => h.row p hp (fun h => h), fun a ha b hb hab _ _ => h.apart a ha b hb hab (fun h => h) (fun h => h), h.own⟩

theorem FRow.capMax {w : World} {base : Nat} {v : FV} (h : FRow w base v) : v.cap ≤ maxLen := by
  rcases h.2 with ⟨e, h0⟩ | ⟨g, cap, cur, e, hb, hg, hc, hm, _⟩
  · injection e with _ _ e3
    rw [e3]; exact Nat.zero_le _
  · injection e with _ _ e3
    rw [e3]; exact hm

theorem Dt.len {w : World} {d : Nat} {D : Dsk} {M Z : Nat → Prop} {X : ByteArray → Prop} {t : FT} (h : Dt w d D M Z X t) {name : ByteArray} {v : FV} (hm : (name, v) ∈ t.list) : v.l.length ≤ usedF D.l := by
  have := h.used ⟨name, ByteArray.empty, 0⟩
  rw [h.get hm] at this
  have e : (filOf (name, v)).b.size = v.l.length := rfl
  dsimp only at this
  rw [e] at this
  have : (ByteArray.empty).size = 0 := rfl
  omega

theorem burn_l (D : Dsk) : D.burn.l = D.l := by unfold Dsk.burn; split <;> (try split) <;> rfl

theorem putF_twice (l : List Fil) (f g : Fil) (hn : g.name = f.name) (hg : g.b.size = 0) : putF (putF l g) f = putF l f := by
  have h1 : ∀ l : List Fil, (l.filter (fun x => ltS x.name f.name)).filter (fun x => ltS x.name f.name) = l.filter (fun x => ltS x.name f.name) := fun l => by simp
  have h2 : ∀ l : List Fil, (l.filter (fun x => ltS f.name x.name)).filter (fun x => ltS f.name x.name) = l.filter (fun x => ltS f.name x.name) := fun l => by simp
  have h3 : ∀ l : List Fil, (l.filter (fun x => ltS f.name x.name)).filter (fun x => ltS x.name f.name) = [] := fun l => List.filter_eq_nil_iff.2 fun x hx => by
    rw [ltS_asymm (List.mem_filter.1 hx).2]; decide
  have h4 : ∀ l : List Fil, (l.filter (fun x => ltS x.name f.name)).filter (fun x => ltS f.name x.name) = [] := fun l => List.filter_eq_nil_iff.2 fun x hx => by
    rw [ltS_asymm (List.mem_filter.1 hx).2]; decide
  unfold putF
  rw [hn, if_neg (by omega)]
  simp only [List.nil_append, List.filter_append, h1, h2, h3, h4, List.append_nil]

theorem done_ok (D : Dsk) (f : Fil) (name : ByteArray) (h : ¬ D.burn.lost = true) (hn : f.name = name) : D.done f name = ({ D.burn with l := putF D.burn.l f }, 0) := by
  rw [Dsk.done, if_neg h, putF_twice _ f ⟨name, ByteArray.empty, 0⟩ hn.symm rfl]
theorem done_no (D : Dsk) (f : Fil) (name : ByteArray) (h : D.burn.lost = true) : D.done f name = (D.burn, 5) := by simp [Dsk.done, h]

/-- What set asks of a file that takes the place of another one. -/
theorem Dt.pre {w w1 : World} {d : Nat} {D : Dsk} {M Z : Nat → Prop} {t : FT} (h : Dt w d D M Z noX t) (hM : ∀ k, M k → k < w.heap.size) (hZ : ∀ k, Z k → k < w.heap.size) {name : ByteArray} {v v' : FV} (hm : (name, v) ∈ t.list)
    (hvb : ∀ g, blk v' = some g → blk v = some g ∨ w.heap.size ≤ g) : (∀ g, blk v' = some g → ¬ M g ∧ ¬ Z g) ∧ (∀ p ∈ t.list, p.1 ≠ name → ∀ g, blk v' = some g → blk p.2 ≠ some g) := by
  refine ⟨fun g hg => ?_, fun p hp hne g hg e => ?_⟩
  · rcases hvb g hg with hg | hg
    · exact (h.row _ hm (fun h => h)).out g hg
    · exact ⟨fun e => by have := hM g e; omega, fun e => by have := hZ g e; omega⟩
  · rcases hvb g hg with hg | hg
    · exact h.apart _ hm p hp (fun e => hne e.symm) (fun h => h) (fun h => h) g hg e
    · have := (h.row p hp (fun h => h)).lt e
      omega

/-- The disk, as the laws want it. -/
def DkG (w : World) (d : Nat) (D : Dsk) (M Z : Nat → Prop) : Prop := ∃ t, Dt w d D M Z noX t

theorem DkG.below {w w' : World} {d : Nat} {D : Dsk} {M Z : Nat → Prop} (h : DkG w d D M Z) (hb : Below w.heap.size w w') : DkG w' d D M Z := by
  obtain ⟨t, h⟩ := h
  exact ⟨t, h.below hb⟩

/-- set, for a file that takes the place of another one. -/
theorem setv_any (w w1 : World) (d : Nat) (D : Dsk) (M Z : Nat → Prop) (t : FT) (name : ByteArray) (v v' : FV) (h : Dt w d D M Z noX t) (hb : Below w.heap.size w w1) (hg : Good D) (hM : ∀ k, M k → k < w.heap.size) (hZ : ∀ k, Z k → k < w.heap.size)
    (hm : (name, v) ∈ t.list) (hv : FRow w1 0 v') (hvb : ∀ g, blk v' = some g → blk v = some g ∨ w.heap.size ≤ g) (hvl : v'.l.length ≤ 2000000000) :
    Calls Try.prog 39 #[.pointer (some ⟨d, 0, none⟩), .string name, fvV v'] w1 fun e w' => e = .returned (.tuple #[]) ∧ DkG w' d { D with l := putF D.l (filOf (name, v')) } M Z ∧ Keeps (· ≠ d) w w' := by
  obtain ⟨h1, h2⟩ := h.pre (w1 := w1) hM hZ hm hvb
  have hlen := hg.len
  have hsz := h.size
  have hu := hg.usedN
  refine (set_any w1 d D M Z t name v' ((h.below hb).weak _) (fun k hk => Nat.lt_of_lt_of_le (hM k hk) hb.size) hv h1 h2 (by omega) hvl (by omega)).mono ?_
  rintro e w' ⟨rfl, t', hD, _, _, hk⟩
  exact ⟨rfl, ⟨t', hD⟩, (keeps_below hb (Nat.le_refl _)).trans hk⟩

/-- first, of a file that is there. -/
theorem firstv_any (w : World) (d : Nat) (D : Dsk) (M Z : Nat → Prop) (t : FT) (name : ByteArray) (v : FV) (n : Nat) (h : Dt w d D M Z noX t) (hg : Good D) (hm : (name, v) ∈ t.list) (hn : n ≤ v.l.length) :
    Calls Try.prog 40 #[fvV v, .int .i64 (n : Int)] w fun e w' => ∃ v', e = .returned (fvV v') ∧ v'.l = v.l.take n ∧ v'.safe = n ∧ FRow w' 0 v' ∧
      (∀ g, blk v' = some g → blk v = some g ∨ w.heap.size ≤ g) ∧ Below w.heap.size w w' := by
  have hr := h.row _ hm (fun h => h)
  have := h.len hm
  have := hg.usedN
  exact first_any v n w hr.own hn (by omega) hr.own.capMax

set_option maxHeartbeats 2000000 in
theorem sync_any (w : World) (d : Nat) (D : Dsk) (M Z : Nat → Prop) (name : ByteArray) (h : DkG w d D M Z) (hg : Good D) (hM : ∀ k, M k → k < w.heap.size) (hZ : ∀ k, Z k → k < w.heap.size) :
    Calls Try.prog 50 #[.pointer (some ⟨d, 0, none⟩), .string name] w fun e w' => e = .returned (.int .i64 (((D.sync name).2 : Nat) : Int)) ∧ DkG w' d (D.sync name).1 M Z ∧ Keeps (· ≠ d) w w' := by
  obtain ⟨t, h⟩ := h
  have HD := Lib.hid h
  go_enter Try.func50, Try.ntmps50
  go_wp2_with fail
  refine (finds_any w d D M Z noX t h name).mono ?_
  clear h
  rintro e w1 ⟨v, c, rfl, hF, hb1⟩
  have hb : Below w.heap.size w (w1.alloc (.cells #[fvS v, fvN v] 83)) := hb1.alloc hb1.size _
  have hD := HD.out.below hb
  have hk := Lib.hid (keeps_below (Z := (· ≠ d)) hb (Nat.le_refl _))
  rcases hF with ⟨hm, rfl, rfl⟩ | ⟨hm, hget, rfl, rfl⟩ | ⟨hm, hget2, rfl, hmem, hget⟩
  · have HS : Hid (D.sync name = (D, D.may name name)) := ⟨by simp [Dsk.sync, hm]⟩
    have HX := Lib.hid hD
    clear hD
    generalize D.may name name = c at *
    have hm' : ¬ ((c : Int) = 0) := by omega
    go_wp2
    go_ret
    exact ⟨by rw [HS.out]; rfl, by rw [HS.out]; exact ⟨t, HX.out⟩, hk.out⟩
  · have HS : Hid (D.sync name = (D, 6)) := ⟨by simp [Dsk.sync, hm, hget]⟩
    have HX := Lib.hid hD
    clear hD
    go_wp2
    go_ret
    exact ⟨by rw [HS.out]; rfl, by rw [HS.out]; exact ⟨t, HX.out⟩, hk.out⟩
  · have hlost := (may_ok (D := D) (a := name) (b := name) (fun e => e hm)).1
    have hs : D.sync name = D.done (filOf (name, { v with safe := v.l.length })) name := by
      simp only [Dsk.sync, hm, hget]
      rfl
    have hd := HD.out.lt
    have hbox : (w1.alloc (.cells #[fvS v, fvN v] 83)).heap[w1.heap.size]? = some (.cells #[fvS v, fvN v] 83) := heap_alloc_new _ _
    have hne : w1.heap.size ≠ d := by have := hb1.size; omega
    go_wp2_with fail
    refine (power_any _ d D M Z noX t hD hg hlost).mono ?_
    rintro e w3 ⟨rfl, hD3, hk3⟩
    have hbox3 := (hk3.block w1.heap.size (Go.Proofs.Ytnkfdnehkihbeaa.hlt hbox) hne).trans hbox
    obtain ⟨⟨k0, k1⟩, _⟩ := row2 hbox3
    have hsz := hk3.size
    have hkk := Lib.hid (hk.out.trans hk3)
    have hsw : w.heap.size ≤ w3.heap.size := hkk.out.size
    clear hD hbox hk
    by_cases hbl : D.burn.lost = true
    · rw [if_pos hbl]
      have HS : Hid (D.sync name = (D.burn, 5)) := ⟨by rw [hs, done_no D _ name hbl]⟩
      have HX := Lib.hid hD3
      clear hD3
      go_wp2
      go_ret
      exact ⟨by rw [HS.out]; rfl, by rw [HS.out]; exact ⟨t, HX.out⟩, hkk.out⟩
    · rw [if_neg hbl]
      have HS : Hid (D.sync name = ({ D.burn with l := putF D.burn.l (filOf (name, { v with safe := v.l.length })) }, 0)) := ⟨by rw [hs, done_ok D _ name hbl rfl]⟩
      have hFi := firstv_any w3 d D.burn M Z t name v v.l.length hD3 hg.burn hmem (Nat.le_refl _)
      have hSe := fun w4 v' hb hv hvb hl => setv_any w3 w4 d D.burn M Z t name v v' hD3 hb hg.burn (fun k hk => Nat.lt_of_lt_of_le (hM k hk) hsw) (fun k hk => Nat.lt_of_lt_of_le (hZ k hk) hsw) hmem hv hvb hl
      have hvl : v.l.length ≤ 1048576 := by have := HD.out.len hmem; have := hg.usedN; omega
      clear hD3 hmem hget hbl hs
      go_wp2_with (first
        | (go_at_call 40
           refine hFi.mono ?_
           rintro e w4 ⟨v', rfl, hl', hs', hv', hvb, hb4⟩
           rw [List.take_length] at hl'
           have hfo : filOf (name, v') = filOf (name, { v with safe := v.l.length }) := by simp only [filOf, hl', hs']
           have hSe' := hSe w4 v' hb4 hv' hvb (by rw [hl']; omega)
           rw [hfo] at hSe')
        | (go_at_call 39
           refine hSe'.mono ?_
           rintro e w5 ⟨rfl, hD5, hk5⟩
           have HD5 := Lib.hid hD5
           have HK5 := Lib.hid (hkk.out.trans hk5)
           clear hD5 hk5 hSe' hSe hFi)
        | fail)
      go_ret
      exact ⟨by rw [HS.out]; rfl, by rw [HS.out]; exact HD5.out, HK5.out⟩

end Go.Proofs.Ytnkfdnehkihbeaa
