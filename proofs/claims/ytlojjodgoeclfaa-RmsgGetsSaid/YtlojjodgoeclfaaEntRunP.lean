/- The program's Run, by its contract. -/
import Derived.Test.YtlojjodgoeclfaaEntRun
import Derived.Test.YtlojjodgoeclfaaEntP1
import Derived.Test.YtlojjodgoeclfaaCmn
import Derived.BigQuiet
import Derived.Lib.Hide
namespace Go.Proofs.Ytlojjodgoeclfaa
open Go.RowKit
set_option linter.unusedVariables false
set_option linter.unusedSimpArgs false

set_option maxRecDepth 100000 in
set_option maxHeartbeats 3200000 in
theorem runP_any (Z : Nat → Prop) (A : Option Addr) (len cap : Nat) (ls : List Ent) (i t : Int) (w : World) (h : Ents w Z A len cap ls) (hm : len ≤ maxLen) :
    Calls Try.prog 59 #[.int .i64 i, .int .i64 t, .slice A len cap] w fun e w' => e = .returned (.bool (runB i t ls)) ∧ Below w.heap.size w w' := by
  unfold maxLen at hm
  have hll := h.1
  go_enter Try.func59, Try.ntmps59
  go_wp2
  go_loopg [0, 1, 8, 11] len (fun g ii tt r kk wr => ∃ k : Nat, k + g = len ∧ kk = .int .i64 (k : Int) ∧ ii = .int .i64 (prevI i ls k) ∧ tt = .int .i64 (prevT t ls k) ∧ (∀ j, j < k → stepB i t ls j = true) ∧ Below w.heap.size w wr)
  case atStart => exact ⟨0, by omega, rfl, rfl, rfl, fun j hj => absurd hj (by omega), Below.refl _ _⟩
  case round =>
    obtain ⟨k, hk, rfl, rfl, rfl, hall, hb⟩ := hrel
    by_cases hlt : k < len
    · have hlt' : (k : Int) < (len : Int) := by omega
      have hbelow := h.below hb (Nat.le_refl _)
      obtain ⟨g, off, E, c, rfl, hg, x0, x1, x2, hl⟩ := hbelow.at_ k hlt
      have hst := stepB_at i t ls k (by omega)
      have hnx := prev_next i t ls k (by omega)
      have HNI := Lib.hid hnx.1
      have HNT := Lib.hid hnx.2
      clear hnx
      generalize hpT : prevT t ls k = T at *
      generalize hpI : prevI i ls k = I at *
      generalize (ls[k]'(by omega)) = a at *
      obtain ⟨ai, at_, ad⟩ := a
      dsimp only at *
      have hR := fun W => rightP_is ai at_ E ad.length c W
      have hri := rightB_iff ai at_ ad.length
      have hA1 := (Below.refl wr.heap.size wr).alloc (Nat.le_refl _) (.cells #[.int .i64 ai, .int .i64 at_, .slice E ad.length c] 58)
      have hr1 := heap_alloc_new wr (.cells #[.int .i64 ai, .int .i64 at_, .slice E ad.length c] 58)
      have hbA : Below w.heap.size w (wr.alloc (.cells #[.int .i64 ai, .int .i64 at_, .slice E ad.length c] 58)) := hb.trans (hA1.mono hb.size)
      generalize ad.length = n at *
      obtain ⟨⟨y0, y1, y2⟩, _⟩ := row3 hr1
      have HALL := Lib.hid hall
      have HK := Lib.hid hk
      have hsz : wr.heap.size < (wr.alloc (.cells #[.int .i64 ai, .int .i64 at_, .slice E n c] 58)).heap.size := by simp
      cases hb2 : rightB ai at_ n with
      | false =>
        rw [hb2] at hR hst
        rw [Bool.false_and] at hst
        have HF := Lib.hid (runB_no (i := i) (t := t) (l := ls) k (by omega) hst)
        clear hst hpT hpI hri hall hk hbelow h hl hb2
        go_wp2_with fail
        refine (hR _).mono ?_
        rintro e w1 ⟨rfl, hb1⟩
        have hbw : Below w.heap.size w w1 := hbA.trans (hb1.mono hbA.size)
        go_wp2
        go_ret
        exact ⟨by have e : runB i t ls = false := HF; rw [e]; rfl, hbw⟩
      | true =>
        rw [hb2, Bool.true_and] at hst
        rw [hb2] at hR
        have hrr := hri.1 hb2
        clear hpT hpI hri hall hk hbelow h hl hb2 hb
        go_wp2_with fail
        refine (hR _).mono ?_
        rintro e w1 ⟨rfl, hb1⟩
        have hbw : Below w.heap.size w w1 := hbA.trans (hb1.mono hbA.size)
        obtain ⟨⟨z0, z1, z2⟩, _⟩ := row3 ((hb1.block _ hsz).trans hr1)
        obtain ⟨J, hJ⟩ : ∃ J, ai - 1 = J := ⟨_, rfl⟩
        have q4 : wrap64 (ai - 1) = J := by rw [← hJ, ← IntWalk.i64_left]; exact IntWalk.i64_in _ (by omega)
        clear hR x0 x1 x2 y0 y1 y2 hr1 hA1 hb1 hbA hsz
        by_cases hI : ai = I + 1
        · have hJI : J = I := by omega
          subst hJI
          rw [decide_eq_true hI, Bool.and_true] at hst
          clear hI hJ
          by_cases hT : T ≤ at_
          · have q1 : (at_ < T) = False := eq_false (by omega)
            have HST := Lib.hid (hst.trans (decide_eq_true hT))
            clear hst hT hrr
            go_wp2
            go_big_quiet (fail)
            go_wp2
            go_roundg (gk - 1)
            case measure => have : k + gk = len := HK; omega
            case rel => exact ⟨k + 1, by have : k + gk = len := HK; omega, by go_num, by have e : prevI i ls (k + 1) = ai := HNI; rw [e], by have e : prevT t ls (k + 1) = at_ := HNT; rw [e], fun j hj => by
              rcases Nat.lt_or_ge j k with h1 | h1
              · exact (HALL : ∀ j, j < k → stepB i t ls j = true) j h1
              · have e : j = k := by omega
                rw [e]; exact HST, below_drewN hbw _⟩
          · have q1 : at_ < T := by omega
            have HF := Lib.hid (runB_no (i := i) (t := t) (l := ls) k (by omega) (by rw [hst, decide_eq_false hT]))
            clear hst hT hrr
            go_wp2
            go_ret
            exact ⟨by have e : runB i t ls = false := HF; rw [e]; rfl, hbw⟩
        · have hJI : ¬ J = I := by omega
          have q5 : (J != I) = true := by simp [hJI]
          have q6 : (J = I) = False := eq_false hJI
          have HF := Lib.hid (runB_no (i := i) (t := t) (l := ls) k (by omega) (by rw [hst, decide_eq_false hI, Bool.and_false]))
          clear hst hrr hI hJ hJI
          go_wp2
          go_ret
          exact ⟨by have e : runB i t ls = false := HF; rw [e]; rfl, hbw⟩
    · obtain rfl : k = len := by omega
      have hdec : decide ((k : Int) < (k : Int)) = false := decide_eq_false (by omega)
      have HT := Lib.hid (runB_yes (i := i) (t := t) (l := ls) (fun j hj => hall j (by omega)))
      clear h hall hk hm
      go_wp2
      go_ret
      exact ⟨by have e : runB i t ls = true := HT; rw [e]; rfl, hb⟩

end Go.Proofs.Ytlojjodgoeclfaa
