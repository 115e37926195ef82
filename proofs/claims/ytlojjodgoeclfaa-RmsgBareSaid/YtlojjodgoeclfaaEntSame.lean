/- Same of the document, by its contract. -/
import Derived.Test.YtlojjodgoeclfaaEnts
import Derived.Deep.RegionWith
namespace Go.Proofs.Ytlojjodgoeclfaa
open Go.RowKit
set_option linter.unusedVariables false
set_option linter.unusedSimpArgs false

def oneAt (a b : List Ent) (k : Nat) : Bool :=
  match a[k]?, b[k]? with
  | some x, some y => oneB x.i x.t x.d y.i y.t y.d
  | _, _ => false
def sameE (a b : List Ent) : Bool := decide (a.length = b.length) && (List.range a.length).all (oneAt a b)

theorem sameE_no {a b : List Ent} (k : Nat) (hk : k < a.length) (h : oneAt a b k = false) : sameE a b = false := by
  unfold sameE
  cases hr : (List.range a.length).all (oneAt a b) with
  | false => rw [Bool.and_false]
  | true =>
    have := List.all_eq_true.1 hr k (List.mem_range.2 hk)
    rw [h] at this
    cases this

theorem sameE_yes {a b : List Ent} (hl : a.length = b.length) (h : ∀ k, k < a.length → oneAt a b k = true) : sameE a b = true := by
  unfold sameE
  rw [decide_eq_true hl, Bool.true_and]
  exact List.all_eq_true.2 fun k hk => h k (List.mem_range.1 hk)

theorem oneAt_at (a b : List Ent) (k : Nat) (h1 : k < a.length) (h2 : k < b.length) : oneAt a b k = oneB a[k].i a[k].t a[k].d b[k].i b[k].t b[k].d := by
  unfold oneAt
  rw [List.getElem?_eq_getElem h1, List.getElem?_eq_getElem h2]

set_option maxRecDepth 100000 in
set_option maxHeartbeats 2000000 in
theorem sameR_any (Z Y : Nat → Prop) (A : Option Addr) (len cap : Nat) (ls : List Ent) (B : Option Addr) (n capB : Nat) (ts : List Ent) (w : World) (h : Ents w Z A len cap ls) (h' : Ents w Y B n capB ts) (hm : len ≤ maxLen) :
    Calls Try.prog 35 #[.slice A len cap, .slice B n capB] w fun e w' => e = .returned (.bool (sameE ls ts)) ∧ Below w.heap.size w w' := by
  unfold maxLen at hm
  have hll := h.1
  have hln := h'.1
  by_cases hlen : len = n
  · subst hlen
    go_enter Try.func35, Try.ntmps35
    go_wp2
    go_loopg [5, 13] len (fun g r i wr => ∃ k : Nat, k + g = len ∧ i = .int .i64 (k : Int) ∧ (∀ j, j < k → oneAt ls ts j = true) ∧ Below w.heap.size w wr)
    case atStart => exact ⟨0, by omega, rfl, fun j hj => absurd hj (by omega), Below.refl _ _⟩
    case round =>
      obtain ⟨k, hk, rfl, hall, hb⟩ := hrel
      by_cases hlt : k < len
      · have hlt' : (k : Int) < (len : Int) := by omega
        obtain ⟨g, off, E, c, rfl, hg, x0, x1, x2, hl⟩ := (h.below hb (Nat.le_refl _)).at_ k hlt
        obtain ⟨g', off', E', c', rfl, hg', y0, y1, y2, hl'⟩ := (h'.below hb (Nat.le_refl _)).at_ k hlt
        have hone := oneAt_at ls ts k (by omega) (by omega)
        generalize (ls[k]'(by omega)) = a at *
        generalize (ts[k]'(by omega)) = b at *
        obtain ⟨ai, at_, ad⟩ := a
        obtain ⟨bi, bt, bd⟩ := b
        dsimp only at *
        have hO := fun W (hW : Below wr.heap.size wr W) => oneR_any ai at_ E ad.length c ad bi bt E' bd.length c' bd W (hl.below hW (Nat.le_refl _)) (hl'.below hW (Nat.le_refl _))
        rw [← hone] at hO
        have HALL := Lib.hid hall
        have HB := Lib.hid hb
        have HK := Lib.hid hk
        cases hv : oneAt ls ts k with
        | true =>
          rw [hv] at hO
          have HT := Lib.hid hv
          clear hone hall hv hl hl' hb hk
          generalize ad.length = n1 at *
          generalize bd.length = n2 at *
          go_wp2
          go_region_with (go_at_call 65
                          refine (hO _ (by first | exact Below.refl _ _ | exact (Below.refl _ _).drew)).mono ?_
                          rintro e w1 ⟨rfl, hb1⟩
                          have hbw : Below w.heap.size w w1 := Below.trans (HB : Below w.heap.size w wr) (Below.mono (by first | exact hb1 | exact Below.trans (Below.refl wr.heap.size wr).drew hb1) (HB : Below w.heap.size w wr).size))
          all_goals
            go_wp2
            go_roundg (gk - 1)
            case measure => have : k + gk = len := HK; omega
            case rel => exact ⟨k + 1, by have : k + gk = len := HK; omega, by go_num, fun j hj => by
              rcases Nat.lt_or_ge j k with h1 | h1
              · exact (HALL : ∀ j, j < k → oneAt ls ts j = true) j h1
              · have e : j = k := by omega
                rw [e]; exact HT, by first | exact hbw | exact hbw.drew⟩
        | false =>
          rw [hv] at hO
          have HF := Lib.hid (sameE_no (a := ls) (b := ts) k (by omega) hv)
          clear hone hall hv hl hl' hb hk
          generalize ad.length = n1 at *
          generalize bd.length = n2 at *
          go_wp2
          go_region_with (go_at_call 65
                          refine (hO _ (by first | exact Below.refl _ _ | exact (Below.refl _ _).drew)).mono ?_
                          rintro e w1 ⟨rfl, hb1⟩
                          have hbw : Below w.heap.size w w1 := Below.trans (HB : Below w.heap.size w wr) (Below.mono (by first | exact hb1 | exact Below.trans (Below.refl wr.heap.size wr).drew hb1) (HB : Below w.heap.size w wr).size))
          all_goals
            go_wp2
            go_ret
            exact ⟨by have e : sameE ls ts = false := HF; rw [e]; rfl, by first | exact hbw | exact hbw.drew⟩
      · obtain rfl : k = len := by omega
        have hdec : decide ((k : Int) < (k : Int)) = false := decide_eq_false (by omega)
        have HT := Lib.hid (sameE_yes (a := ls) (b := ts) (by omega) (fun j hj => hall j (by omega)))
        clear h h' hall hk hm
        go_wp2
        go_ret
        exact ⟨by have e : sameE ls ts = true := HT; rw [e]; rfl, hb⟩
  · have hF := Lib.hid (show sameE ls ts = false by unfold sameE; rw [decide_eq_false (by omega), Bool.false_and])
    have hne : ((len : Int) != (n : Int)) = true := by simp; omega
    have hne2 : ((len : Int) = (n : Int)) = False := eq_false (by omega)
    clear h h' hlen hll hln hm
    go_enter Try.func35, Try.ntmps35
    go_wp2
    go_ret
    exact ⟨by have e : sameE ls ts = false := hF; rw [e]; rfl, Below.refl _ _⟩

end Go.Proofs.Ytlojjodgoeclfaa
