/- HistParts's walk. (Written by mkwalk.py.) -/
import Derived.Test.YtmihijlegacjdaaHisMade
namespace Go.Proofs.Ytmihijlegacjdaa
open Go.RowKit
set_option linter.unusedVariables false
set_option linter.unusedSimpArgs false
attribute [local go_sem] Oper.semAt_some

set_option maxRecDepth 100000 in
set_option maxHeartbeats 6400000 in
theorem histParts_walk (A : Option Addr) (len cap : Nat) (K : Nat → HAct) (a mid z : Int) (w : World) (hA : HActs w A len K) (hm : len ≤ maxLen) (hs : ∀ j, j < len → HActWf (K j)) :
    Calls Try.prog 8 #[.slice A len cap, .int .i64 a, .int .i64 mid, .int .i64 z] w fun e w' => e = .returned (.bool true) ∧ Below w.heap.size w w' := by
  have HV := Lib.hid (And.intro hA hs)
  clear hA hs
  go_enter Try.func8, Try.ntmps8
  go_wp2_with fail
  refine (awake14_any _).mono ?_
  rintro e w1 ⟨rfl, hb1⟩
  have hF := fewActs_any A len cap K w1 (HV.out.1.below hb1) hm HV.out.2
  have HB := Lib.hid hb1
  clear hb1
  go_wp2_with fail
  refine hF.mono ?_
  rintro e w1' ⟨b, rfl, hb40, rfl⟩
  cases b with
  | false =>
    go_wp2_with fail
    refine (awake14_any _).mono ?_
    rintro e w8 ⟨rfl, hb8⟩
    have hbz := HB.out.trans (hb8.mono HB.out.size)
    go_wp2
    go_ret
    exact ⟨rfl, hbz⟩
  | true =>
    have h40 := hb40 rfl
    clear hF hb40
    by_cases g1 : mid < 0
    · have e1 : decide (mid < 0) = true := decide_eq_true g1
      clear g1
      go_wp2_with fail
      refine (awake14_any _).mono ?_
      rintro e w8 ⟨rfl, hb8⟩
      have hbz := HB.out.trans (hb8.mono HB.out.size)
      go_wp2
      go_ret
      exact ⟨rfl, hbz⟩
    have e1 : decide (mid < 0) = false := decide_eq_false g1
    by_cases g2 : 1099511627776 < mid
    · have e2 : decide (1099511627776 < mid) = true := decide_eq_true g2
      clear g2
      go_wp2_with fail
      refine (awake14_any _).mono ?_
      rintro e w8 ⟨rfl, hb8⟩
      have hbz := HB.out.trans (hb8.mono HB.out.size)
      go_wp2
      go_ret
      exact ⟨rfl, hbz⟩
    have e2 : decide (1099511627776 < mid) = false := decide_eq_false g2
    have k9 : IntKind.i64.wrap (mid + 1) = mid + 1 := IntWalk.i64_in _ (by omega)
    by_cases g3 : mid + 1 < a
    · have e3 : decide (mid + 1 < a) = true := decide_eq_true g3
      clear g3
      go_wp2_with fail
      refine (awake14_any _).mono ?_
      rintro e w8 ⟨rfl, hb8⟩
      have hbz := HB.out.trans (hb8.mono HB.out.size)
      go_wp2
      go_ret
      exact ⟨rfl, hbz⟩
    have e3 : decide (mid + 1 < a) = false := decide_eq_false g3
    by_cases g4 : z < mid
    · have e4 : decide (z < mid) = true := decide_eq_true g4
      clear g4
      go_wp2_with fail
      refine (awake14_any _).mono ?_
      rintro e w8 ⟨rfl, hb8⟩
      have hbz := HB.out.trans (hb8.mono HB.out.size)
      go_wp2
      go_ret
      exact ⟨rfl, hbz⟩
    have e4 : decide (z < mid) = false := decide_eq_false g4
    have HG := Lib.hid (show a ≤ mid + 1 ∧ mid ≤ z from ⟨by omega, by omega⟩)
    clear g1 g2 g3 g4
    go_wp2_with fail
    go_loopw [9, 40] (fun v9 v40 wr => ∃ k : Nat, k ≤ len ∧ v40 = .int .i64 (k : Int) ∧ ∃ R n c, v9 = .slice R n c ∧ MadeH w wr K k R n c) (fun _ v40 _ => len - (intOf v40).toNat)
    case atStart => exact ⟨0, Nat.zero_le _, rfl, none, 0, 0, rfl, MadeH.start K HB.out⟩
    case round =>
      obtain ⟨k, hk, rfl, R, n, c, rfl, hM⟩ := hrel
      by_cases hlt : k < len
      · have l1 : decide ((k : Int) < (len : Int)) = true := decide_eq_true (by omega)
        have k4 : (k : Int) < (len : Int) := by omega
        obtain ⟨g, off, rfl, c0, c1, c2, c3, c4, c5, c6, c7, c8, c9, c10, c11⟩ := (HV.out.1.below hM.b).cells hlt
        have hD := hM.do_ (by omega)
        dsimp only [hactV] at hD
        clear hM
        go_wp2_with fail
        refine hD.mono ?_
        rintro e w2 ⟨R2, n2, c2', rfl, hM2⟩
        have HM := Lib.hid hM2
        clear hM2 hD c0 c1 c2 c3 c4 c5 c6 c7 c8 c9 c10 c11
        go_wp2
        go_roundw
        case rel => exact ⟨k + 1, by omega, by go_num, R2, n2, c2', rfl, HM.out⟩
        case measure =>
          simp [intOf]
          omega
      · obtain rfl : k = len := by omega
        have l1 : decide ((k : Int) < (k : Int)) = false := decide_eq_false (by omega)
        have hn := hM.len
        have HM := Lib.hid hM
        have HR := Lib.hid (His.run_right K k)
        obtain ⟨l, hl⟩ : ∃ l, His.runL K k = l := ⟨_, rfl⟩
        have HM := Lib.hid (show Vers wr R n l ∧ n ≤ c ∧ Below w.heap.size w wr from ⟨by rw [← hl]; exact hM.v, hM.c, hM.b⟩)
        have HR := Lib.hid (show His.Right l by rw [← hl]; exact His.run_right K k)
        clear hM hl
        have Hwr := Lib.hid (show Below wr.heap.size wr wr from Below.refl _ _)
        have HVS := Lib.hid (show ∀ W, Below wr.heap.size wr W → Vers W R n l from fun W hW => HM.out.1.below hW)
        have htt := Lib.hid (His.since_parts (l := l) a mid z HG.out.1 HG.out.2)
        have hC := sinceP_any R n c l a z wr (HVS.out _ Hwr.out) HM.out.2.1 (by omega)
        go_wp2_with fail
        refine hC.mono ?_
        rintro e wx1 ⟨R1, n1, c1, rfl, hO, hbq⟩
        have Hwx1 := Lib.hid (Hwr.out.trans (hbq.mono Hwr.out.size))
        clear hC hbq
        have HO1 := Lib.hid (show Own14 _ wx1 R1 n1 c1 (His.sinceL l a z) from hO)
        clear hO
        have HL1 := Lib.hid (show ∀ q, blk R1 q → q < wx1.heap.size from fun q hq => HO1.out.sp.lt hq)
        have hC := sinceP_any R n c l a mid wx1 (HVS.out _ Hwx1.out) HM.out.2.1 (by omega)
        go_wp2_with fail
        refine hC.mono ?_
        rintro e wx2 ⟨R2, n2, c2, rfl, hO, hbq⟩
        have Hwx2 := Lib.hid (Hwx1.out.trans (hbq.mono Hwx1.out.size))
        replace HO1 := Lib.hid (HO1.out.next hbq)
        clear hC hbq
        have HN2 := Lib.hid (show ∀ q, blk R2 q → wx1.heap.size ≤ q from hO.new)
        have HO2 := Lib.hid (show Own14 _ wx2 R2 n2 c2 (His.sinceL l a mid) from hO)
        clear hO
        have hC := sinceP_any R n c l (mid + 1) z wx2 (HVS.out _ Hwx2.out) HM.out.2.1 (by omega)
        go_wp2_with fail
        refine hC.mono ?_
        rintro e wx3 ⟨R3, n3, c3, rfl, hO, hbq⟩
        have Hwx3 := Lib.hid (Hwx2.out.trans (hbq.mono Hwx2.out.size))
        replace HO1 := Lib.hid (HO1.out.next hbq)
        replace HO2 := Lib.hid (HO2.out.next hbq)
        clear hC hbq
        have HO3 := Lib.hid (show Own14 _ wx3 R3 n3 c3 (His.sinceL l (mid + 1) z) from hO)
        clear hO
        have hl2 : n2 ≤ 40 := by have := His.since_len l a mid; have := HM.out.1.1; have := HO2.out.len; omega
        have hl3 : n3 ≤ 40 := by have := His.since_len l (mid + 1) z; have := HM.out.1.1; have := HO3.out.len; omega
        go_wp2_with (at_builtin
                     go_loud (refine wpList_append_sp elem_ver _ rfl _ _ rfl R2 n2 c2 (rowH (His.sinceL l a mid)) rfl (HO2.out.sp.keep fun q hq => (show Below wx3.heap.size wx3 _ from (by repeat (first | exact Below.refl _ _ | apply Below.drew | apply below_drewN))).block q (HO2.out.sp.lt hq)) R3 n3 c3 (rowH (His.sinceL l (mid + 1) z)) rfl HO3.out.sp.vers.none_ HO3.out.sp.1 (rowH_ones _) (fun b e => (HO3.out.sp.vers.below (show Below wx3.heap.size wx3 _ from (by repeat (first | exact Below.refl _ _ | apply Below.drew | apply below_drewN)))).cells e) (by omega) ?_)
                     intro A8 c8 w8 hsp8 hA8 hg8
                     have hb8 : Below wr.heap.size wr w8 := hg8.below (Hwx3.out.trans ((show Below wx3.heap.size wx3 _ from (by repeat (first | exact Below.refl _ _ | apply Below.drew | apply below_drewN))).mono Hwx3.out.size)) Hwx3.out.size (fun q hq => Nat.le_trans Hwx1.out.size (HN2.out q hq))
                     have hv8 : Vers w8 R1 n1 (His.sinceL l a z) := HO1.out.sp.vers.keep hg8.size (fun q hq hq2 => (hg8.block q hq2 (fun e => by have := HN2.out q e; have := HL1.out q hq; omega)).trans ((show Below wx3.heap.size wx3 _ from (by repeat (first | exact Below.refl _ _ | apply Below.drew | apply below_drewN))).block q hq2))
                     have hsp8 : Sp 26 7 w8 A8 (n2 + n3) c8 (rowH (His.sinceL l a mid ++ His.sinceL l (mid + 1) z)) := by rw [rowH_app]; exact hsp8
                     have hC := same_own (c1 := c1) (c2 := c8) hv8 hsp8.vers htt.out (by have := His.since_len l a z; have := HM.out.1.1; omega))
        refine hC.mono ?_
        rintro e w9 ⟨rfl, hb9⟩
        have hbz := HM.out.2.2.trans ((hb8.trans (hb9.mono hb8.size)).mono HM.out.2.2.size)
        go_wp2
        go_ret
        exact ⟨rfl, hbz⟩


end Go.Proofs.Ytmihijlegacjdaa
