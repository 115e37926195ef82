/- The document's Right, by its contract. (Written by mkright.py.) -/
import Derived.Test.YtmihijlegacjdaaHisVer
import Derived.BigQuiet
namespace Go.Proofs.Ytmihijlegacjdaa
open Go.RowKit
set_option linter.unusedVariables false
set_option linter.unusedSimpArgs false
attribute [local go_sem] Oper.semAt_some

set_option maxRecDepth 100000 in
set_option maxHeartbeats 3200000 in
theorem rightR_any (A : Option Addr) (len cap : Nat) (l : List Ver) (w : World) (h : Vers w A len l) (hm : len ≤ maxLen) :
    Calls Try.prog 11 #[.slice A len cap] w fun e w' => e = .returned (.bool (His.rightL l)) ∧ Below w.heap.size w w' := by
  unfold maxLen at hm
  have hll := h.1
  have HV := Lib.hid h
  clear h
  go_enter Try.func11, Try.ntmps11
  go_wp2_with fail
  go_loopw [6] (fun v6 wr => ∃ k : Nat, k ≤ len ∧ v6 = .int .i64 (k : Int) ∧ Below w.heap.size w wr ∧ ∀ i, i < k → His.stepH l i = true) (fun v6 _ => len - (intOf v6).toNat)
  case atStart => exact ⟨0, Nat.zero_le _, rfl, Below.refl _ _, fun i hi => absurd hi (by omega)⟩
  case round =>
    obtain ⟨k, hk, rfl, hb, hall⟩ := hrel
    have HALL := Lib.hid hall
    have HB := Lib.hid hb
    have hbel := HV.out.below hb
    clear hall hb
    by_cases hlt : k < len
    · have l1 : decide ((k : Int) < (len : Int)) = true := decide_eq_true (by omega)
      obtain ⟨g, off, rfl, hg, hc⟩ := hbel.2 (by omega)
      obtain ⟨c0, c1, c2, c3, c4, c5, c6⟩ := hc k (by omega)
      have hst0 := His.step_zero l
      have hstk := His.step_at l k (by omega)
      have hpr : 0 < k → wr.cell? ⟨g, off + (k - 1) * 7, none⟩ = some (.int .i64 (l[k - 1]'(by omega)).r) ∧ wr.cell? ⟨g, off + (k - 1) * 7 + 2, none⟩ = some (.int .i64 (l[k - 1]'(by omega)).m) := fun h0 => ⟨(hc (k - 1) (by omega)).1, (hc (k - 1) (by omega)).2.2.1⟩
      obtain ⟨x, hx⟩ : ∃ x, l[k]'(by omega) = x := ⟨_, rfl⟩
      rw [hx] at c0 c1 c2 c3 c4 c5 c6 hstk
      have hV := fun W => verR_any x W
      have HX := Lib.hid hx
      clear hc hbel hx
      cases hvb : His.verB x with
      | false =>
        rw [hvb] at hV
        have HF := Lib.hid (His.right_no (l := l) k (by omega) (by
          by_cases h0 : k = 0
          · subst h0
            rw [hst0 (by omega), HX.out, hvb]
          · rw [hstk h0, hvb, Bool.false_and]))
        clear hst0 hstk hpr hvb
        go_wp2_with fail
        refine (hV _).mono ?_
        rintro e w1 ⟨rfl, hb1⟩
        have hbw := HB.out.trans (hb1.mono HB.out.size)
        go_wp2
        go_ret
        exact ⟨by rw [HF.out]; rfl, hbw⟩
      | true =>
        rw [hvb] at hV
        rw [hvb] at hstk
        have HVB := Lib.hid hvb
        clear hvb
        go_wp2_with fail
        refine (hV _).mono ?_
        rintro e w1 ⟨rfl, hb1⟩
        have hbw := HB.out.trans (hb1.mono HB.out.size)
        have hcx : ∀ o, w1.cell? ⟨g, o, none⟩ = wr.cell? ⟨g, o, none⟩ := fun o => World.cell?_of_block (hb1.block g hg)
        rw [← hcx] at c0 c2
        rw [← hcx, ← hcx] at hpr
        clear c1 c3 c4 c5 c6 hcx hV hb1
        by_cases h0 : k = 0
        · have HST := Lib.hid (show His.stepH l k = true by subst h0; rw [hst0 (by omega), HX.out, HVB.out])
          subst h0
          clear hst0 hstk hpr
          go_wp2
          go_big_quiet (fail)
          go_wp2
          go_roundw
          case rel => exact ⟨0 + 1, by omega, by go_num, below_drewN hbw _, fun i hi => by
            rcases Nat.lt_or_ge i 0 with h1 | h1
            · exact HALL.out i h1
            · obtain rfl : i = 0 := by omega
              exact HST.out⟩
          case measure =>
            simp [intOf]
            omega
        · have k1 : decide ((0 : Int) < (k : Int)) = true := decide_eq_true (by omega)
          have k6 : 0 < k := by omega
          have k7 : decide (0 < k) = true := decide_eq_true k6
          have k8 : (0 : Int) < (k : Int) := by omega
          have k3 : IntKind.i64.wrap ((k : Int) - 1) = ((k - 1 : Nat) : Int) := by rw [IntWalk.i64_in _ (by omega)]; omega
          have k4 : ((k - 1 : Nat) : Int) < (len : Int) := by omega
          obtain ⟨p0, p2⟩ := hpr (by omega)
          have hs := hstk h0
          rw [Bool.true_and] at hs
          obtain ⟨y, hy⟩ : ∃ y, l[k - 1]'(by omega) = y := ⟨_, rfl⟩
          rw [hy] at p0 p2 hs
          have hR : His.Rises y x ↔ y.r < x.r ∧ y.m < x.m := Iff.rfl
          clear hy hpr hstk hst0
          generalize k - 1 = k' at *
          by_cases h1 : y.r < x.r
          · have e1 : decide (x.r ≤ y.r) = false := decide_eq_false (by omega)
            by_cases h2 : y.m < x.m
            · have e2 : decide (x.m ≤ y.m) = false := decide_eq_false (by omega)
              have HST := Lib.hid (hs.trans (decide_eq_true (hR.2 ⟨h1, h2⟩)))
              clear hs hR h1 h2
              go_wp2
              go_big_quiet (fail)
              go_wp2
              go_roundw
              case rel => exact ⟨k + 1, by omega, by go_num, below_drewN hbw _, fun i hi => by
                rcases Nat.lt_or_ge i k with h1 | h1
                · exact HALL.out i h1
                · obtain rfl : i = k := by omega
                  exact HST.out⟩
              case measure =>
                simp [intOf]
                omega
            · have e2 : decide (x.m ≤ y.m) = true := decide_eq_true (by omega)
              have HF := Lib.hid (His.right_no (l := l) k (by omega) (hs.trans (decide_eq_false fun q => h2 (hR.1 q).2)))
              clear hs hR h1 h2
              go_wp2
              go_big_quiet (fail)
              go_wp2
              go_ret
              exact ⟨by rw [HF.out]; rfl, below_drewN hbw _⟩
          · have e1 : decide (x.r ≤ y.r) = true := decide_eq_true (by omega)
            have HF := Lib.hid (His.right_no (l := l) k (by omega) (hs.trans (decide_eq_false fun q => h1 (hR.1 q).1)))
            clear hs hR h1
            go_wp2
            go_big_quiet (fail)
            go_wp2
            go_ret
            exact ⟨by rw [HF.out]; rfl, below_drewN hbw _⟩
    · obtain rfl : k = len := by omega
      have l1 : decide ((k : Int) < (k : Int)) = false := decide_eq_false (by omega)
      have HT := Lib.hid (His.right_yes (l := l) fun j hj => HALL.out j (by omega))
      clear hbel
      go_wp2
      go_ret
      exact ⟨by rw [HT.out]; rfl, HB.out⟩

end Go.Proofs.Ytmihijlegacjdaa
