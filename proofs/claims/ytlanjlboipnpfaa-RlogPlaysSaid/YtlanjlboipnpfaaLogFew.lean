/- Are there few acts: by its contract; an act of any kind. -/
import Derived.Test.YtlanjlboipnpfaaLogArgs
import Derived.Test.YtlanjlboipnpfaaLogDoB
import Derived.Test.YtlanjlboipnpfaaLogDoC
namespace Go.Proofs.Ytlanjlboipnpfaa
open Go.RowKit
set_option linter.unusedVariables false
set_option linter.unusedSimpArgs false

def fewAt (a : ActL) : Bool := decide (a.d.length ≤ 500) && fewE a.ms 12
def fewA (K : Nat → ActL) (len most : Nat) : Bool := decide (len ≤ most) && (List.range len).all fun j => fewAt (K j)

theorem fewA_no {K : Nat → ActL} {len most k : Nat} (hk : k < len) (h : most ≤ k ∨ fewAt (K k) = false) : fewA K len most = false := by
  unfold fewA
  rcases h with h | h
  · rw [decide_eq_false (by omega), Bool.false_and]
  · cases hr : (List.range len).all fun j => fewAt (K j) with
    | false => rw [Bool.and_false]
    | true =>
      have := List.all_eq_true.1 hr k (List.mem_range.2 hk)
      rw [h] at this
      cases this

theorem fewA_yes {K : Nat → ActL} {len most : Nat} (hl : len ≤ most) (h : ∀ j, j < len → fewAt (K j) = true) : fewA K len most = true := by
  unfold fewA
  rw [decide_eq_true hl, Bool.true_and]
  exact List.all_eq_true.2 fun j hj => h j (List.mem_range.1 hj)

theorem fewA_at {K : Nat → ActL} {len most : Nat} (h : fewA K len most = true) : len ≤ most ∧ ∀ j, j < len → fewAt (K j) = true := by
  unfold fewA at h
  rw [Bool.and_eq_true] at h
  exact ⟨of_decide_eq_true h.1, fun j hj => List.all_eq_true.1 h.2 j (List.mem_range.2 hj)⟩

set_option maxRecDepth 100000 in
set_option maxHeartbeats 1600000 in
theorem few8_any (Z : Nat → Prop) (A : Option Addr) (len cap : Nat) (K : Nat → ActL) (most : Nat) (w : World) (hA : ActsIn w A len K) (hK : ∀ j, j < len → ActIn w Z (K j)) (hw : ∀ j, j < len → ∀ e ∈ (K j).ms, e.d.length ≤ 140737488355328) (hl : len ≤ maxLen) (hmost : most ≤ 1000) :
    Calls Try.prog 8 #[.slice A len cap, .int .i64 (most : Int)] w fun e w' => e = .returned (.bool (fewA K len most)) ∧ Below w.heap.size w w' := by
  unfold maxLen at hl
  go_enter Try.func8, Try.ntmps8
  go_wp2
  go_loopg [5, 8] len (fun g s5 kk wr => ∃ k : Nat, k + g = len ∧ kk = .int .i64 (k : Int) ∧ k ≤ most ∧ (∀ j, j < k → fewAt (K j) = true) ∧ Below w.heap.size w wr)
  case atStart => exact ⟨0, by omega, rfl, by omega, fun j hj => absurd hj (by omega), Below.refl _ _⟩
  case round =>
    obtain ⟨k, hk, rfl, hkm, hall, hb⟩ := hrel
    have HK := Lib.hid hk
    have HALL := Lib.hid hall
    by_cases hkl : k < len
    · have hkl' : (k : Int) < (len : Int) := by omega
      obtain ⟨g, off, rfl, hg, hc⟩ := hA (by omega)
      obtain ⟨x0, x1, x2, x3, x4⟩ := hc k hkl
      have x3 := (hb.cell (p := ⟨g, off + k * 5 + 3, none⟩) hg).trans x3
      have x4 := (hb.cell (p := ⟨g, off + k * 5 + 4, none⟩) hg).trans x4
      have hF := fewR_any Z (K k).B (K k).m (K k).cB (K k).ms 12 wr ((hK k hkl).ents.below hb (Nat.le_refl _)) (Nat.le_trans (hK k hkl).ents.2.1 (hK k hkl).capB) (by omega) (hw k hkl)
      have hNO := Lib.hid (fun h => fewA_no (K := K) (len := len) (most := most) (k := k) hkl h)
      have hdl : (K k).d.length ≤ maxLen := Nat.le_trans (hK k hkl).dat.2.1.2.1 (hK k hkl).dat.1
      have HAT := Lib.hid (show fewAt (K k) = (decide ((K k).d.length ≤ 500) && fewE (K k).ms 12) from rfl)
      unfold maxLen at hdl
      generalize (K k).d.length = dn at *
      generalize fewE (K k).ms 12 = q at *
      clear hc x0 x1 x2 hK hw hA hall hk hl
      by_cases h1 : most ≤ k
      · have HE := Lib.hid (hNO.out (.inl h1))
        have q1 : (most : Int) ≤ (k : Int) := by omega
        clear h1 hkm hF hmost
        go_wp2
        go_ret
        exact ⟨by rw [HE.out]; rfl, hb⟩
      · have q1 : ((most : Int) ≤ (k : Int)) = False := eq_false (by omega)
        have q1d : decide ((most : Int) ≤ (k : Int)) = false := decide_eq_false (by omega)
        have hm1 : k + 1 ≤ most := by omega
        have HM1 := Lib.hid (And.intro hm1 hmost)
        by_cases h2 : 500 < dn
        · have HE := Lib.hid (hNO.out (.inr (by rw [HAT.out, decide_eq_false (by omega), Bool.false_and])))
          have q2 : (500 : Int) < (dn : Int) := by omega
          clear h1 h2 hkm hF hmost hm1
          go_wp2
          go_ret
          exact ⟨by rw [HE.out]; rfl, hb⟩
        · have q2 : ((500 : Int) < (dn : Int)) = False := eq_false (by omega)
          have q2d : decide ((500 : Int) < (dn : Int)) = false := decide_eq_false (by omega)
          have HD := Lib.hid (show dn ≤ 500 by omega)
          clear h1 h2 hkm hmost hm1 hdl
          cases q with
          | false =>
            have HE := Lib.hid (hNO.out (.inr (by rw [HAT.out, Bool.and_false])))
            go_wp2_with fail
            refine hF.mono ?_
            rintro e w1 ⟨rfl, rfl⟩
            go_wp2
            go_ret
            exact ⟨by rw [HE.out]; rfl, hb⟩
          | true =>
            have HT := Lib.hid (show fewAt (K k) = true by rw [HAT.out, decide_eq_true HD.out]; rfl)
            go_wp2_with fail
            refine hF.mono ?_
            rintro e w1 ⟨rfl, rfl⟩
            go_wp2
            go_roundg (gk - 1)
            case measure => have : k + gk = len := HK.out; omega
            case rel =>
             obtain ⟨m1, m2⟩ := HM1.out
             have hw : wrap64 ((k : Int) + 1) = ((k + 1 : Nat) : Int) := by rw [← IntWalk.i64_left, IntWalk.i64_in _ (by omega)]; omega
             exact ⟨k + 1, by have : k + gk = len := HK.out; omega, by rw [hw], m1, fun j hj => by
              rcases Nat.lt_or_ge j k with h1 | h1
              · exact HALL.out j h1
              · obtain rfl : j = k := by omega
                exact HT.out, hb⟩
    · obtain rfl : k = len := by omega
      have hdec : decide ((k : Int) < (k : Int)) = false := decide_eq_false (by omega)
      have HE := Lib.hid (fewA_yes (K := K) hkm hall)
      clear hA hK hw hall hk hl hkm
      go_wp2
      go_ret
      exact ⟨by rw [HE.out]; rfl, hb⟩

/-- An act of any kind. -/
theorem do_any {w : World} {p : Nat} {r : RL} {s : Nat} {ZL ZE : Nat → Prop} {A : Option Addr} {n c : Nat} (hL : Lg w p r s ZL) (hg : Good r) (hs : frel r s) (hE : Ents w ZE A n c r.l) (hZ : ∀ q, ZL q → q < w.heap.size) (hZE : ∀ q, ZE q → ZL q) (hn : n ≤ 1000)
    (a : ActL) (ha : ActIn w ZE a) (hm : a.m ≤ 12) :
    Calls Try.prog 12 #[ptrV p, lgV r A n c, .agg (actC a.k a.i a.t a.D a.d.length a.dc a.B a.m a.cB)] w (DoPost w p r ZL ZE) := by
  obtain ⟨k, i, t, D, dc, d, B, m, cB, ms⟩ := a
  dsimp only at *
  by_cases h0 : k = 0
  · subst h0
    exact do_add hL hg hs hE hZ hZE hn i t D d.length dc d ⟨ha.dat.1, ha.dat.2.1, ha.dat.2.2⟩ rfl B m cB
  by_cases h1 : k = 1
  · subst h1
    exact do_take hL hg hs hE hZ hZE hn i t ha.iin.2 D d.length dc B m cB ms ha.ents hm
  by_cases h2 : k = 2
  · subst h2
    exact do_compact hL hg hs hE hZ hZE hn i t D d.length dc B m cB
  by_cases h3 : k = 3
  · subst h3
    exact do_reset hL hg hs hE hZ hZE i t D d.length dc B m cB
  exact do_saved hL hg hs hE hZ hZE k i t h0 h1 h2 h3 D d.length dc B m cB

end Go.Proofs.Ytlanjlboipnpfaa
