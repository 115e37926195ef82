/- Run of the document, by its contract. -/
import Derived.Test.YtlojjodgoeclfaaEnts
import Derived.BigQuiet
namespace Go.Proofs.Ytlojjodgoeclfaa
open Go.RowKit
set_option linter.unusedVariables false
set_option linter.unusedSimpArgs false

set_option maxRecDepth 100000 in
set_option maxHeartbeats 3200000 in
theorem runR_any (Z : Nat → Prop) (A : Option Addr) (len cap : Nat) (ls : List Ent) (i t : Int) (w : World) (h : Ents w Z A len cap ls) (hm : len ≤ maxLen) :
    Calls Try.prog 32 #[.int .i64 i, .int .i64 t, .slice A len cap] w fun e w' => e = .returned (.bool (runB i t ls)) ∧ Below w.heap.size w w' := by
  unfold maxLen at hm
  have hll := h.1
  go_enter Try.func32, Try.ntmps32
  go_wp2
  go_loopg [1, 7, 10] len (fun g tt r ii wr => ∃ k : Nat, k + g = len ∧ ii = .int .i64 (k : Int) ∧ tt = .int .i64 (prevT t ls k) ∧ (∀ j, j < k → stepB i t ls j = true) ∧ Below w.heap.size w wr)
  case atStart => exact ⟨0, by omega, rfl, rfl, fun j hj => absurd hj (by omega), Below.refl _ _⟩
  case round =>
    obtain ⟨k, hk, rfl, rfl, hall, hb⟩ := hrel
    by_cases hlt : k < len
    · have hlt' : (k : Int) < (len : Int) := by omega
      have hbelow := h.below hb (Nat.le_refl _)
      obtain ⟨g, off, E, c, rfl, hg, x0, x1, x2, hl⟩ := hbelow.at_ k hlt
      have hst := stepB_at i t ls k (by omega)
      have hnx := prev_next i t ls k (by omega)
      have hprev : 0 < k → wr.cell? ⟨g, off + (k - 1) * 3, none⟩ = some (.int .i64 (prevI i ls k)) ∧ 1 ≤ prevI i ls k ∧ prevI i ls k ≤ 1099511627776 := fun h0 => by
        obtain ⟨g2, off2, E2, c2, e2, _, p0, _, _, _⟩ := hbelow.at_ (k - 1) (by omega)
        injection e2 with e2
        injection e2 with e3 e4
        subst e3 e4
        have hp : prevI i ls k = (ls[k - 1]'(by omega)).i := by
          have := (prev_next i t ls (k - 1) (by omega)).1
          rwa [Nat.sub_add_cancel h0] at this
        have hs := hall (k - 1) (by omega)
        rw [stepB_at i t ls (k - 1) (by omega)] at hs
        simp only [Bool.and_eq_true] at hs
        have hr := (rightB_iff _ _ _).1 hs.1
        rw [hp]
        exact ⟨p0, hr.1.1, hr.1.2⟩
      generalize hpT : prevT t ls k = T at *
      generalize hpI : prevI i ls k = I at *
      have hI0 : k = 0 → I = i := fun e => by rw [← hpI, e]; rfl
      have HNX := Lib.hid hnx.2
      generalize (ls[k]'(by omega)) = a at *
      obtain ⟨ai, at_, ad⟩ := a
      dsimp only at *
      have hR := fun W => rightR_is ai at_ E ad.length c W
      have hri := rightB_iff ai at_ ad.length
      generalize ad.length = n at *
      have HALL := Lib.hid hall
      have HB := Lib.hid hb
      have HK := Lib.hid hk
      cases hb2 : rightB ai at_ n with
      | false =>
        rw [hb2] at hR hst
        rw [Bool.false_and] at hst
        have HF := Lib.hid (runB_no (i := i) (t := t) (l := ls) k (by omega) hst)
        clear hst hnx hprev hpT hpI hI0 hri hall hb hk hbelow h hl
        go_wp2_with fail
        refine (hR _).mono ?_
        rintro e w1 ⟨rfl, hb1⟩
        have hbw : Below w.heap.size w w1 := Below.trans (HB : Below w.heap.size w wr) (Below.mono hb1 (HB : Below w.heap.size w wr).size)
        go_wp2
        go_ret
        exact ⟨by have e : runB i t ls = false := HF; rw [e]; rfl, hbw⟩
      | true =>
        rw [hb2, Bool.true_and] at hst
        rw [hb2] at hR
        have hrr := hri.1 hb2
        have hIr : 0 < k → 1 ≤ I ∧ I ≤ 1099511627776 := fun h0 => (hprev h0).2
        have hpc : 0 < k → wr.cell? ⟨g, off + (k - 1) * 3, none⟩ = some (.int .i64 I) := fun h0 => (hprev h0).1
        clear hprev hpT hpI hri hall hb hk hbelow h hl hnx hb2
        go_wp2_with fail
        refine (hR _).mono ?_
        rintro e w1 ⟨rfl, hb1⟩
        have hbw : Below w.heap.size w w1 := Below.trans (HB : Below w.heap.size w wr) (Below.mono hb1 (HB : Below w.heap.size w wr).size)
        have x0' := (hb1.cell (p := ⟨g, off + k * 3, none⟩) hg).trans x0
        have x1' := (hb1.cell (p := ⟨g, off + k * 3 + 1, none⟩) hg).trans x1
        have hpc' : 0 < k → w1.cell? ⟨g, off + (k - 1) * 3, none⟩ = some (.int .i64 I) := fun h0 => (hb1.cell (p := ⟨g, off + (k - 1) * 3, none⟩) hg).trans (hpc h0)
        clear hpc hR x0 x1 x2
        by_cases hT : T ≤ at_
        · have q1 : (at_ < T) = False := eq_false (by omega)
          rw [decide_eq_true hT, Bool.true_and] at hst
          by_cases hk0 : k = 0
          · obtain rfl := hI0 hk0
            subst hk0
            have x0' : w1.cell? ⟨g, off, none⟩ = some (.int .i64 ai) := by simpa using x0'
            by_cases hI : ai = I + 1
            · have HST := Lib.hid (hst.trans (decide_eq_true hI))
              have q2 : (I < 0) = False := eq_false (by omega)
              have q3 : ((1099511627776 : Int) ≤ I) = False := eq_false (by omega)
              have q2d : decide (I < 0) = false := decide_eq_false (by omega)
              have q3d : decide ((1099511627776 : Int) ≤ I) = false := decide_eq_false (by omega)
              have q4 : IntKind.i64.wrap (I + 1) = ai := by rw [hI]; exact IntWalk.i64_in _ (by omega)
              clear hst hI hrr hIr hpc' hI0
              go_wp2
              go_big_quiet (fail)
              go_wp2
              go_roundg (gk - 1)
              case measure => have : 0 + gk = len := HK; omega
              case rel => exact ⟨0 + 1, by have : 0 + gk = len := HK; omega, by go_num, by have e : prevT t ls (0 + 1) = at_ := HNX; rw [e], fun j hj => by
                rcases Nat.lt_or_ge j 0 with h1 | h1
                · exact (HALL : ∀ j, j < 0 → stepB I t ls j = true) j h1
                · have e : j = 0 := by omega
                  rw [e]; exact HST, below_drewN hbw _⟩
            · have HF := Lib.hid (runB_no (i := I) (t := t) (l := ls) 0 (by omega) (hst.trans (decide_eq_false hI)))
              have q5 : (ai == I + 1) = false := beq_eq_false_iff_ne.2 hI
              have q7 : (ai != I + 1) = true := by simp [hI]
              have q6 : (ai = I + 1) = False := eq_false hI
              clear hst hI hrr hIr hpc' hI0
              by_cases hn : I < 0
              · have q2d : decide (I < 0) = true := decide_eq_true hn
                go_wp2
                go_big_quiet (fail)
                go_wp2
                go_ret
                exact ⟨by have e : runB I t ls = false := HF; rw [e]; rfl, below_drewN hbw _⟩
              · have q2 : (I < 0) = False := eq_false hn
                have q2d : decide (I < 0) = false := decide_eq_false hn
                clear hn
                by_cases hm2 : (1099511627776 : Int) ≤ I
                · have q3d : decide ((1099511627776 : Int) ≤ I) = true := decide_eq_true hm2
                  go_wp2
                  go_big_quiet (fail)
                  go_wp2
                  go_ret
                  exact ⟨by have e : runB I t ls = false := HF; rw [e]; rfl, below_drewN hbw _⟩
                · obtain ⟨J, hJ⟩ : ∃ J, I + 1 = J := ⟨_, rfl⟩
                  have q4 : IntKind.i64.wrap (I + 1) = J := by rw [← hJ]; exact IntWalk.i64_in _ (by have := of_eq_false q2; omega)
                  rw [hJ] at q5 q6 q7
                  have q3 : ((1099511627776 : Int) ≤ I) = False := eq_false hm2
                  have q3d : decide ((1099511627776 : Int) ≤ I) = false := decide_eq_false hm2
                  clear hm2 hJ
                  go_wp2
                  go_big_quiet (fail)
                  go_wp2
                  go_ret
                  exact ⟨by have e : runB I t ls = false := HF; rw [e]; rfl, below_drewN hbw _⟩
          · have k1 : (0 : Int) < (k : Int) := by omega
            have k6 : 0 < k := by omega
            have k7 : decide (0 < k) = true := decide_eq_true k6
            have k2 : ((k : Int) == 0) = false := beq_eq_false_iff_ne.2 (by omega)
            have k3 : IntKind.i64.wrap ((k : Int) - 1) = ((k - 1 : Nat) : Int) := by rw [IntWalk.i64_in _ (by omega)]; omega
            have hp := hpc' (by omega)
            have hI1 := hIr (by omega)
            obtain ⟨J, hJ⟩ : ∃ J, I + 1 = J := ⟨_, rfl⟩
            have q4 : IntKind.i64.wrap (I + 1) = J := by rw [← hJ]; exact IntWalk.i64_in _ (by omega)
            rw [hJ] at hst
            have k4 : ((k - 1 : Nat) : Int) < (len : Int) := by omega
            have k5 : ((k : Int) = 0) = False := eq_false (by omega)
            generalize k - 1 = k' at *
            clear hJ
            by_cases hI : ai = J
            · have HST := Lib.hid (hst.trans (decide_eq_true hI))
              subst hI
              clear hst hrr hIr hpc' hI0 hk0
              go_wp2
              go_big_quiet (fail)
              go_wp2
              go_roundg (gk - 1)
              case measure => have : k + gk = len := HK; omega
              case rel => exact ⟨k + 1, by have : k + gk = len := HK; omega, by go_num, by have e : prevT t ls (k + 1) = at_ := HNX; rw [e], fun j hj => by
                rcases Nat.lt_or_ge j k with h1 | h1
                · exact (HALL : ∀ j, j < k → stepB i t ls j = true) j h1
                · have e : j = k := by omega
                  rw [e]; exact HST, below_drewN hbw _⟩
            · have HF := Lib.hid (runB_no (i := i) (t := t) (l := ls) k (by omega) (hst.trans (decide_eq_false hI)))
              have q5 : (ai == J) = false := beq_eq_false_iff_ne.2 hI
              have q7 : (ai != J) = true := by simp [hI]
              have q6 : (ai = J) = False := eq_false hI
              clear hst hrr hIr hpc' hI0 hk0 hI
              go_wp2
              go_big_quiet (fail)
              go_wp2
              go_ret
              exact ⟨by have e : runB i t ls = false := HF; rw [e]; rfl, below_drewN hbw _⟩
        · have q1 : at_ < T := by omega
          have HF := Lib.hid (runB_no (i := i) (t := t) (l := ls) k (by omega) (by rw [hst, decide_eq_false hT, Bool.false_and]))
          clear hst hT hrr hIr hpc' hI0
          go_wp2
          go_ret
          exact ⟨by have e : runB i t ls = false := HF; rw [e]; rfl, hbw⟩
    · obtain rfl : k = len := by omega
      have hdec : decide ((k : Int) < (k : Int)) = false := decide_eq_false (by omega)
      have HT := Lib.hid (runB_yes (i := i) (t := t) (l := ls) (fun j hj => hall j (by omega)))
      clear h hall hk hm
      go_wp2
      go_ret
      exact ⟨by have e : runB i t ls = true := HT; rw [e]; rfl, hb⟩

end Go.Proofs.Ytlojjodgoeclfaa
