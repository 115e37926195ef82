/- The program's Changes. (Written by mkpi.py.) -/
import Derived.Test.YtcoddkbbgmjckaaBn45
import Derived.Test.YtcoddkbbgmjckaaBn05
import Derived.Test.YtcoddkbbgmjckaaBn32
import Derived.Test.YtcoddkbbgmjckaaBn34
import Derived.Test.YtcoddkbbgmjckaaBn35
import Derived.Test.YtcoddkbbgmjckaaBn37
import Derived.Test.YtcoddkbbgmjckaaBn39
import Derived.Test.YtcoddkbbgmjckaaRows
import Derived.WalkKit
import Derived.ProofKit
import Derived.OpenShut
import Derived.Carry
namespace Go.Proofs.Ytcoddkbbgmjckaa
open Go.RowKit
set_option linter.unusedVariables false
set_option linter.unusedSimpArgs false
attribute [local go_sem] Oper.semAt_some

def lenV : Value → Nat
  | .slice _ n _ => n
  | _ => 0
theorem rowI_join (y : Idx.Bat) (B : List Idx.Bat) : rowI (Idx.join (y :: B)) = rowI y.2 ++ rowI (Idx.join B) := by
  unfold Idx.join rowI
  rw [List.flatMap_cons, List.flatMap_append]
theorem rowI_take (y : Idx.Bat) (B : List Idx.Bat) : (rowI (Idx.join (y :: B))).take (y.2.length * 8) = rowI y.2 ∧ (rowI (Idx.join (y :: B))).drop (y.2.length * 8) = rowI (Idx.join B) := by
  rw [rowI_join, ← rowI_len]
  exact ⟨List.take_left, List.drop_left⟩
theorem cut_stop {most n : Int} {b : Idx.Bat} {bs : List Idx.Bat} (h : most < n + (b.2.length : Int)) : Idx.cutI most n false (b :: bs) = [] := if_pos ⟨h, rfl⟩
theorem cut_on {most n : Int} {f : Bool} {b : Idx.Bat} {bs : List Idx.Bat} (h : ¬ (most < n + (b.2.length : Int) ∧ f = false)) : Idx.cutI most n f (b :: bs) = b :: Idx.cutI most (n + (b.2.length : Int)) false bs := if_neg h
theorem cut_end (most n : Int) (f : Bool) : Idx.cutI most n f [] = [] := rfl

set_option maxRecDepth 100000 in
set_option maxHeartbeats 3200000 in
theorem changesP_any {P : Nat → Prop} (u : Option Addr) (t : MapKh.T) (a b : ByteArray) (sa sb most : Int) (w : World) (hT : IxTP P w u t) (hF : Fit (kht t)) (ha : a.size ≤ maxLen) (hb : b.size ≤ maxLen) :
    Calls Try.prog 32 #[ixV u, .string a, .string b, .int .i64 sa, .int .i64 sb, .int .i64 most] w fun e w' => ∃ R m d ys, e = .returned (.slice R m d) ∧ OwnB w w' R m d ys ∧ bats ys = Idx.changesI (kht t) a b sa sb most ∧ Below w.heap.size w w' := by
  obtain ⟨W1, hW1⟩ : ∃ W1, (w.alloc (.cells #[.pointer u] 32)) = W1 := ⟨_, rfl⟩
  have hb1 : Below w.heap.size w W1 := by rw [← hW1]; exact ((Below.refl _ _).alloc (Nat.le_refl _) _)
  have hs1 : W1.heap.size = w.heap.size + 1 := by rw [← hW1]; simp
  have hr0 : W1.heap[w.heap.size]? = some (.cells #[.pointer u] 32) := by rw [← hW1]; exact heap_alloc_new w _
  have hSi := since_any u t a b sa sb W1 (hT.below hb1) hF ha hb
  have z0 : W1.cell? ⟨w.heap.size, 0, none⟩ = some (.pointer u) := (row1 hr0).1
  have HB := Lib.hid hb1
  obtain ⟨all, hall⟩ : ∃ all, Idx.allI (kht t) (Idx.inB a b) sa sb = all := ⟨_, rfl⟩
  have HAl := Lib.hid (And.intro (show Idx.Bats all by rw [← hall]; exact Idx.all_bats _ _ _) (show Idx.changesI (kht t) a b sa sb most = Idx.cutI most 0 true all by rw [← hall]; rfl))
  rw [hall] at hSi
  clear hT hF hb1 hs1 hr0 hall
  go_enter Try.func32, Try.ntmps32
  go_wp2_with fail
  try rw [hW1]
  refine hSi.mono ?_
  rintro e w3 ⟨gA, oA, m0, d0, rfl, hgw, hg3, hm0, hR0, hb3⟩
  obtain ⟨W4, hW4⟩ : ∃ W4, w3.alloc (.cells #[] 69) = W4 := ⟨_, rfl⟩
  have hb4 : Below w3.heap.size w3 W4 := by rw [← hW4]; exact (Below.refl _ _).alloc (Nat.le_refl _) _
  have hz4 : W4.heap[w3.heap.size]? = some (.cells #[] 69) := by rw [← hW4]; exact heap_alloc_new w3 _
  have H3 := Lib.hid (And.intro (HB.out.trans (hb3.mono HB.out.size)) (And.intro hg3 hm0))
  have HS := Lib.hid (show OwnB w3 W4 (some ⟨w3.heap.size, 0, none⟩) 0 0 [] ∧ Below w3.heap.size w3 W4 from ⟨⟨⟨Sp.empty hz4, fun x hx => by cases hx⟩, fun q hq => by rw [blk_some] at hq; omega, fun x hx => by cases hx⟩, hb4⟩)
  have HR0 := Lib.hid (show Sp 62 8 w3 (some ⟨gA, oA, none⟩) m0 d0 (rowI (Idx.join all)) ∧ (Idx.join all).length = m0 from ⟨hR0.sp, hR0.len⟩)
  have HW4 := Lib.hid hW4
  clear hSi hgw hg3 hm0 hR0 hb3 hb4 hz4 z0 hW1 hW4
  go_upto_region 3 with fail
  rw [HW4.out]
  go_wp2_with fail
  go_loopw [13, 14, 15] (fun v13 v14 v15 wr => ∃ A m d R k c ys bs, ∃ told : Nat, v13 = .slice A m d ∧ v14 = .slice R k c ∧ v15 = .int .i64 (told : Int) ∧ Sp 62 8 w3 A m d (rowI (Idx.join bs)) ∧ (Idx.join bs).length = m ∧ told + m ≤ 100000 ∧ (told = 0 ↔ ys = []) ∧ Idx.Bats bs ∧ Idx.cutI most 0 true all = bats ys ++ Idx.cutI most (told : Int) (decide (told = 0)) bs ∧ OwnB w3 wr R k c ys ∧ Below w3.heap.size w3 wr ∧ (∀ y ∈ ys, ∀ q, blk y.B q → q < wr.heap.size) ∧ k ≤ told) (fun v13 _ _ _ => lenV v13)
  case atStart => exact ⟨_, m0, d0, _, 0, 0, [], all, 0, rfl, rfl, rfl, HR0.out.1, HR0.out.2, by have := H3.out.2.2; omega, by simp, HAl.out.1, rfl, HS.out.1, HS.out.2, (fun y hy => by cases hy), Nat.le_refl _⟩
  case round =>
    obtain ⟨A, m, d, R, k, c, ys, bs, told, rfl, rfl, rfl, hSp, hjm, htm, hty, hBt, hcut, hO, hb, hyq, hkt⟩ := hrel
    have HSp := Lib.hid (And.intro hSp hjm)
    have HBt := Lib.hid hBt
    have HCu := Lib.hid hcut
    have HO := Lib.hid (And.intro hO (And.intro hb hyq))
    have HTy := Lib.hid hty
    clear hSp hjm hBt hcut hO hb hyq hty
    by_cases hm0 : 0 < m
    · have l1 : decide ((0 : Int) < (m : Int)) = true := decide_eq_true (by omega)
      have l1' : (0 : Int) < (m : Int) := by omega
      cases bs with
      | nil => have := HSp.out.2; rw [show (Idx.join ([] : List Idx.Bat)).length = 0 from rfl] at this; omega
      | cons y B =>
        obtain ⟨g, o, hAe, hgl, _⟩ := HSp.out.1.at_ (by omega) 0 hm0
        subst hAe
        have hRw : RowW w3 g o m d (Idx.join (y :: B)) := ⟨HSp.out.2, HSp.out.1⟩
        have hTg := together_any g o m d (Idx.join (y :: B)) wr (hRw.below HO.out.2.1) (by omega) hm0
        have hcl : ∀ W, Below w3.heap.size w3 W → W.cell? ⟨g, o + 1, none⟩ = some (.int .i64 y.1) := fun W hW => by
          have h1 := (hRw.below hW).cell 0 hm0 1
          have h2 : kR ((Idx.join (y :: B))[0]'(by rw [HSp.out.2]; exact hm0)) = y.1 := by
            have hne := HBt.out.ne y (List.mem_cons_self ..)
            have hmem : (Idx.join (y :: B))[0]'(by rw [HSp.out.2]; exact hm0) ∈ y.2 := by
              simp only [show Idx.join (y :: B) = y.2 ++ Idx.join B from List.flatMap_cons ..]
              rw [List.getElem_append_left (List.length_pos_iff.2 hne)]
              exact List.getElem_mem _
            exact HBt.out.rev y (List.mem_cons_self ..) _ hmem
          have h3 := h1 (.int .i64 y.1) (by rw [← h2]; rfl)
          rw [Addr.add_lit] at h3
          simpa using h3
        have HC := Lib.hid hcl
        have HRw := Lib.hid hRw
        have hne : 0 < y.2.length := List.length_pos_iff.2 (HBt.out.ne y (List.mem_cons_self ..))
        obtain ⟨q, hq⟩ : ∃ q, y.2.length = q := ⟨_, rfl⟩
        have hqm : q ≤ m := by
          have h1 := HSp.out.2
          rw [show Idx.join (y :: B) = y.2 ++ Idx.join B from List.flatMap_cons .., List.length_append] at h1
          omega
        have hdm : m ≤ d := HSp.out.1.2.1
        have HQ := Lib.hid hq
        rw [hq] at hne
        clear hRw hcl hq
        go_wp2_with fail
        refine hTg.mono ?_
        rintro e w5 ⟨q', rfl, htg, hb5⟩
        obtain rfl : q = q' := by rw [← HQ.out]; exact (htg.is HBt.out).symm
        have HB5 := Lib.hid hb5
        have k1 : IntKind.i64.wrap ((told : Int) + (q : Int)) = ((told + q : Nat) : Int) := by rw [IntWalk.i64_in _ (by omega)]; omega
        obtain ⟨tq, htq⟩ : ∃ tq, told + q = tq := ⟨_, rfl⟩
        rw [htq] at k1
        have HTQ := Lib.hid htq
        have htq1 : told + q ≤ tq := Nat.le_of_eq htq
        have htq2 : tq ≤ told + q := Nat.le_of_eq htq.symm
        clear hTg htg hb5 htq
        by_cases hstop : 0 < told ∧ most < (tq : Int)
        · have s1 : decide ((0 : Int) < (told : Int)) = true := decide_eq_true (by omega)
          have s2 : decide (most < (tq : Int)) = true := decide_eq_true hstop.2
          have s3 : (0 : Int) < (told : Int) := by omega
          have HE := Lib.hid (show bats ys = Idx.changesI (kht t) a b sa sb most by
            have h1 := HCu.out
            rw [decide_eq_false (by omega), cut_stop (by rw [HQ.out]; have := hstop.2; omega), List.append_nil] at h1
            rw [HAl.out.2, h1])
          have HZ := Lib.hid (show OwnB w w5 R k c ys ∧ Below w.heap.size w w5 from ⟨(HO.out.1.next HB5.out).from H3.out.1.size, H3.out.1.trans ((HO.out.2.1.trans (HB5.out.mono HO.out.2.1.size)).mono H3.out.1.size)⟩)
          go_wp2
          go_ret
          exact ⟨R, k, c, ys, rfl, HZ.out.1, HE.out, HZ.out.2⟩
        · have s1 : told = 0 ∨ ¬ most < (tq : Int) := by omega
          have HCn := Lib.hid (show Idx.cutI most 0 true all = bats ys ++ (y :: Idx.cutI most (tq : Int) false B) by
            have h1 := HCu.out
            rw [cut_on (by
              rintro ⟨h2, h3⟩
              rw [decide_eq_false_iff_not] at h3
              rw [HQ.out] at h2
              omega)] at h1
            rw [h1, HQ.out, ← HTQ.out]
            congr 3)
          have hsl := fun W => slice_to (A := some ⟨g, o, none⟩) (n := m) (cap := d) elem_item (k := q) (by omega) W
          have hsf := fun W => slice_from (A := some ⟨g, o, none⟩) (n := m) (cap := d) elem_item (k := q) hqm hdm W
          have HX5 := Lib.hid (HO.out.2.1.trans (HB5.out.mono HO.out.2.1.size))
          have HO5 := Lib.hid (HO.out.1.next HB5.out)
          have hr0 : (0 : Int) < (m : Int) := by omega
          rcases Nat.eq_zero_or_pos told with ht0 | ht0
          · have f1 : decide ((0 : Int) < (told : Int)) = false := decide_eq_false (by omega)
            have f2 : ¬ (0 : Int) < (told : Int) := by omega
            go_upto_region 7 with fail
            refine wp_region_held_drew (S := fun w' => w'.cell? ⟨g, o + 1, none⟩ = some (.int .i64 y.1)) (by kernel_rfl) (HC.out _ HX5.out.drew) (fun hHeld => ?_)
            refine lsq 14 ?_
            refine tkq 0 ?_
            refine tkq 1 ?_
            refine tkq 2 ?_
            refine tkq 3 ?_
            refine tkq 4 ?_
            refine tkq 5 ?_
            refine tkq 6 ?_
            refine tkq 7 ?_
            refine tkq 8 ?_
            refine rdq1 9 fun KK hK => ?_
            go_simp
            refine (cloneI_any g o q d y.2 w5.drew (by
              have h1 := (HRw.out.sp.keep fun z hz => HX5.out.drew.block z (HRw.out.sp.lt hz)).take hqm
              rw [← HQ.out, (rowI_take y B).1] at h1
              rw [← HQ.out]
              exact h1) HQ.out (by omega)).mono ?_
            rintro e w6 ⟨R6, c6, rfl, hsp6, hn6, hb6⟩
            have HB6 := Lib.hid (show Below w5.heap.size w5 w6 from (Below.refl _ _).drew.trans hb6)
            have HX6 := Lib.hid (HX5.out.trans (HB6.out.mono HX5.out.size))
            have HO6 := Lib.hid (And.intro (HO5.out.next HB6.out) (And.intro hsp6 hn6))
            refine hK.out _ _ (HC.out _ HX6.out) ?_
            clear hK KK hHeld hsp6 hn6 hb6
            intro hHeld
            try simp only [lpq]
            refine tkq 10 ?_
            refine rdq1 11 fun KK hK => ?_
            go_simp
            obtain ⟨w7, hW7⟩ : ∃ w7, w6.alloc (.cells #[.int .i64 y.1, .slice R6 q c6] 69) = w7 := ⟨_, rfl⟩
            have hb7 : Below w6.heap.size w6 w7 := by rw [← hW7]; exact (Below.refl _ _).alloc (Nat.le_refl _) _
            have hr7 : w7.heap[w6.heap.size]? = some (.cells #[.int .i64 y.1, .slice R6 q c6] 69) := by rw [← hW7]; exact heap_alloc_new w6 _
            rw [hW7]
            refine hK.out _ _ (HC.out _ (HX6.out.trans (hb7.mono HX6.out.size))) ?_
            clear hK KK hHeld hW7
            intro hHeld
            try simp only [lpq]
            refine rdq1 12 fun KK hK => ?_
            refine step_append_sp elem_batch _ (by rfl) _ _ (by rfl) R k c (rowB ys) (by rfl) (HO6.out.1.ba.sp.keep fun z hz => hb7.block z (HO6.out.1.ba.sp.lt hz)) (some ⟨w6.heap.size, 0, none⟩) 1 1 [.int .i64 y.1, .slice R6 q c6] (by rfl) (fun e => by cases e) rfl (fun z hz => by simp only [List.mem_cons, List.not_mem_nil, or_false] at hz; rcases hz with rfl | rfl <;> rfl) (fun b e => by cases e; exact cells_lit (C := [.int .i64 y.1, .slice R6 q c6]) hr7) (by omega) ?_
            intro A8 c8 w8 hsp8 hA8 hg8
            have hP := HO6.out.1.push (x := ⟨y.1, y.2, R6, c6⟩) HX6.out hb7 hg8 (by
              have e : BLay.cells ⟨y.1, y.2, R6, c6⟩ = [.int .i64 y.1, .slice R6 q c6] := by unfold BLay.cells; dsimp only; rw [HQ.out]
              rw [e]; exact hsp8) hA8 (by dsimp only; rw [HQ.out]; exact HO6.out.2.1.items) (fun z hz => ⟨Nat.le_trans (Nat.le_trans HX5.out.size (show w5.heap.size ≤ w5.drew.heap.size from Nat.le_refl _)) (HO6.out.2.2 z hz), HO6.out.2.1.lt hz, fun hx => by
              have h1 : w5.heap.size ≤ z := HO6.out.2.2 z hz
              have h2 := HO5.out.ba.sp.lt hx
              omega⟩) (fun z hz p hp => Nat.lt_of_lt_of_le (HO.out.2.2 z hz p hp) (Nat.le_trans HB5.out.size HB6.out.size))
            have hq8 : ∀ z ∈ ys ++ [(⟨y.1, y.2, R6, c6⟩ : BLay)], ∀ p, blk z.B p → p < w8.heap.size := fun z hz p hp => by
              have h0 := Nat.le_trans hb7.size hg8.size
              rcases List.mem_append.1 hz with hz | hz
              · have := HO.out.2.2 z hz p hp; have := HB5.out.size; have := HB6.out.size; omega
              · rw [List.mem_singleton] at hz
                subst hz
                have := HO6.out.2.1.lt hp
                omega
            have HPP := Lib.hid (And.intro hP hq8)
            refine hK.out _ _ (HC.out _ hP.2) ?_
            clear hK KK hHeld hP hsp8 hA8 hg8 hb7 hr7 hq8
            intro hHeld
            try simp only [lpq]
            refine tkq 13 ?_
            refine dnq ?_
            clear hHeld
            have HSn := Lib.hid (show Sp 62 8 w3 (tailS 8 (some ⟨g, o, none⟩) d q) (m - q) (d - q) (rowI (Idx.join B)) ∧ (Idx.join B).length = m - q from by
              have h1 := HSp.out.1.drop hqm
              have h2 := (rowI_take y B).2
              rw [HQ.out] at h2
              rw [h2] at h1
              refine ⟨h1, ?_⟩
              have h3 := HSp.out.2
              rw [show Idx.join (y :: B) = y.2 ++ Idx.join B from List.flatMap_cons .., List.length_append, HQ.out] at h3
              omega)
            have HBn := Lib.hid (show Idx.Bats B from ⟨(List.pairwise_cons.1 HBt.out.up).2, fun z hz => HBt.out.rev z (List.mem_cons_of_mem _ hz), fun z hz => HBt.out.ne z (List.mem_cons_of_mem _ hz)⟩)
            obtain ⟨mq, hmq⟩ : ∃ mq, m - q = mq := ⟨_, rfl⟩
            obtain ⟨dq, hdq⟩ : ∃ dq, d - q = dq := ⟨_, rfl⟩
            rw [hmq, hdq] at HSn
            rw [hmq, hdq] at hsf
            have hmq1 : mq < m := by omega
            have hmq2 : told + q + mq ≤ 100000 := by omega
            clear hmq hdq
            go_wp2
            go_roundw
            case rel => exact ⟨_, mq, dq, A8, k + 1, c8, ys ++ [⟨y.1, y.2, R6, c6⟩], B, tq, rfl, rfl, by go_num, HSn.out.1, HSn.out.2, by omega, ⟨fun h => by omega, fun h => by simp at h⟩, HBn.out, by rw [decide_eq_false (by omega), bats_add, List.append_assoc]; exact HCn.out, HPP.out.1.1, HPP.out.1.2, HPP.out.2, by omega⟩
            case measure =>
              simp [lenV]
              omega
          · have f1 : decide ((0 : Int) < (told : Int)) = true := decide_eq_true (by omega)
            have f2 : (0 : Int) < (told : Int) := by omega
            have f3 : decide (most < (tq : Int)) = false := decide_eq_false (by omega)
            have f4 : ¬ most < (tq : Int) := by omega
            go_upto_region 7 with fail
            refine wp_region_held_drew (S := fun w' => w'.cell? ⟨g, o + 1, none⟩ = some (.int .i64 y.1)) (by kernel_rfl) (HC.out _ HX5.out.drew) (fun hHeld => ?_)
            refine lsq 14 ?_
            refine tkq 0 ?_
            refine tkq 1 ?_
            refine tkq 2 ?_
            refine tkq 3 ?_
            refine tkq 4 ?_
            refine tkq 5 ?_
            refine tkq 6 ?_
            refine tkq 7 ?_
            refine tkq 8 ?_
            refine rdq1 9 fun KK hK => ?_
            go_simp
            refine (cloneI_any g o q d y.2 w5.drew (by
              have h1 := (HRw.out.sp.keep fun z hz => HX5.out.drew.block z (HRw.out.sp.lt hz)).take hqm
              rw [← HQ.out, (rowI_take y B).1] at h1
              rw [← HQ.out]
              exact h1) HQ.out (by omega)).mono ?_
            rintro e w6 ⟨R6, c6, rfl, hsp6, hn6, hb6⟩
            have HB6 := Lib.hid (show Below w5.heap.size w5 w6 from (Below.refl _ _).drew.trans hb6)
            have HX6 := Lib.hid (HX5.out.trans (HB6.out.mono HX5.out.size))
            have HO6 := Lib.hid (And.intro (HO5.out.next HB6.out) (And.intro hsp6 hn6))
            refine hK.out _ _ (HC.out _ HX6.out) ?_
            clear hK KK hHeld hsp6 hn6 hb6
            intro hHeld
            try simp only [lpq]
            refine tkq 10 ?_
            refine rdq1 11 fun KK hK => ?_
            go_simp
            obtain ⟨w7, hW7⟩ : ∃ w7, w6.alloc (.cells #[.int .i64 y.1, .slice R6 q c6] 69) = w7 := ⟨_, rfl⟩
            have hb7 : Below w6.heap.size w6 w7 := by rw [← hW7]; exact (Below.refl _ _).alloc (Nat.le_refl _) _
            have hr7 : w7.heap[w6.heap.size]? = some (.cells #[.int .i64 y.1, .slice R6 q c6] 69) := by rw [← hW7]; exact heap_alloc_new w6 _
            rw [hW7]
            refine hK.out _ _ (HC.out _ (HX6.out.trans (hb7.mono HX6.out.size))) ?_
            clear hK KK hHeld hW7
            intro hHeld
            try simp only [lpq]
            refine rdq1 12 fun KK hK => ?_
            refine step_append_sp elem_batch _ (by rfl) _ _ (by rfl) R k c (rowB ys) (by rfl) (HO6.out.1.ba.sp.keep fun z hz => hb7.block z (HO6.out.1.ba.sp.lt hz)) (some ⟨w6.heap.size, 0, none⟩) 1 1 [.int .i64 y.1, .slice R6 q c6] (by rfl) (fun e => by cases e) rfl (fun z hz => by simp only [List.mem_cons, List.not_mem_nil, or_false] at hz; rcases hz with rfl | rfl <;> rfl) (fun b e => by cases e; exact cells_lit (C := [.int .i64 y.1, .slice R6 q c6]) hr7) (by omega) ?_
            intro A8 c8 w8 hsp8 hA8 hg8
            have hP := HO6.out.1.push (x := ⟨y.1, y.2, R6, c6⟩) HX6.out hb7 hg8 (by
              have e : BLay.cells ⟨y.1, y.2, R6, c6⟩ = [.int .i64 y.1, .slice R6 q c6] := by unfold BLay.cells; dsimp only; rw [HQ.out]
              rw [e]; exact hsp8) hA8 (by dsimp only; rw [HQ.out]; exact HO6.out.2.1.items) (fun z hz => ⟨Nat.le_trans (Nat.le_trans HX5.out.size (show w5.heap.size ≤ w5.drew.heap.size from Nat.le_refl _)) (HO6.out.2.2 z hz), HO6.out.2.1.lt hz, fun hx => by
              have h1 : w5.heap.size ≤ z := HO6.out.2.2 z hz
              have h2 := HO5.out.ba.sp.lt hx
              omega⟩) (fun z hz p hp => Nat.lt_of_lt_of_le (HO.out.2.2 z hz p hp) (Nat.le_trans HB5.out.size HB6.out.size))
            have hq8 : ∀ z ∈ ys ++ [(⟨y.1, y.2, R6, c6⟩ : BLay)], ∀ p, blk z.B p → p < w8.heap.size := fun z hz p hp => by
              have h0 := Nat.le_trans hb7.size hg8.size
              rcases List.mem_append.1 hz with hz | hz
              · have := HO.out.2.2 z hz p hp; have := HB5.out.size; have := HB6.out.size; omega
              · rw [List.mem_singleton] at hz
                subst hz
                have := HO6.out.2.1.lt hp
                omega
            have HPP := Lib.hid (And.intro hP hq8)
            refine hK.out _ _ (HC.out _ hP.2) ?_
            clear hK KK hHeld hP hsp8 hA8 hg8 hb7 hr7 hq8
            intro hHeld
            try simp only [lpq]
            refine tkq 13 ?_
            refine dnq ?_
            clear hHeld
            have HSn := Lib.hid (show Sp 62 8 w3 (tailS 8 (some ⟨g, o, none⟩) d q) (m - q) (d - q) (rowI (Idx.join B)) ∧ (Idx.join B).length = m - q from by
              have h1 := HSp.out.1.drop hqm
              have h2 := (rowI_take y B).2
              rw [HQ.out] at h2
              rw [h2] at h1
              refine ⟨h1, ?_⟩
              have h3 := HSp.out.2
              rw [show Idx.join (y :: B) = y.2 ++ Idx.join B from List.flatMap_cons .., List.length_append, HQ.out] at h3
              omega)
            have HBn := Lib.hid (show Idx.Bats B from ⟨(List.pairwise_cons.1 HBt.out.up).2, fun z hz => HBt.out.rev z (List.mem_cons_of_mem _ hz), fun z hz => HBt.out.ne z (List.mem_cons_of_mem _ hz)⟩)
            obtain ⟨mq, hmq⟩ : ∃ mq, m - q = mq := ⟨_, rfl⟩
            obtain ⟨dq, hdq⟩ : ∃ dq, d - q = dq := ⟨_, rfl⟩
            rw [hmq, hdq] at HSn
            rw [hmq, hdq] at hsf
            have hmq1 : mq < m := by omega
            have hmq2 : told + q + mq ≤ 100000 := by omega
            clear hmq hdq
            go_wp2
            go_roundw
            case rel => exact ⟨_, mq, dq, A8, k + 1, c8, ys ++ [⟨y.1, y.2, R6, c6⟩], B, tq, rfl, rfl, by go_num, HSn.out.1, HSn.out.2, by omega, ⟨fun h => by omega, fun h => by simp at h⟩, HBn.out, by rw [decide_eq_false (by omega), bats_add, List.append_assoc]; exact HCn.out, HPP.out.1.1, HPP.out.1.2, HPP.out.2, by omega⟩
            case measure =>
              simp [lenV]
              omega
    · obtain rfl : m = 0 := by omega
      have l1 : decide ((0 : Int) < ((0 : Nat) : Int)) = false := rfl
      have hbs : bs = [] := by
        cases bs with
        | nil => rfl
        | cons y B =>
          exfalso
          have h1 := HSp.out.2
          have h2 := List.length_pos_iff.2 (HBt.out.ne y (List.mem_cons_self ..))
          rw [show Idx.join (y :: B) = y.2 ++ Idx.join B from List.flatMap_cons .., List.length_append] at h1
          omega
      have HE := Lib.hid (show bats ys = Idx.changesI (kht t) a b sa sb most by
        have h1 := HCu.out
        rw [hbs, cut_end, List.append_nil] at h1
        rw [HAl.out.2, h1])
      have HZ := Lib.hid (show OwnB w wr R k c ys ∧ Below w.heap.size w wr from ⟨HO.out.1.from H3.out.1.size, H3.out.1.trans (HO.out.2.1.mono H3.out.1.size)⟩)
      go_wp2
      go_ret
      exact ⟨R, k, c, ys, rfl, HZ.out.1, HE.out, HZ.out.2⟩

end Go.Proofs.Ytcoddkbbgmjckaa

namespace Go.Proofs.Ytcoddkbbgmjckaa
open Go.RowKit
set_option linter.unusedVariables false

theorem Below.of_eq {w w' : World} (h : w' = w) : Below w.heap.size w w' := by subst h; exact Below.refl _ _

theorem says : Says where
  key s w hs := (keyP_any s hs w).mono fun e w' ⟨he, hb⟩ => ⟨he, Below.of_eq hb⟩
  range a b w ha hb := (rangeP_any a b ha hb w).mono fun e w' ⟨he, hb⟩ => ⟨he, Below.of_eq hb⟩
  inn a b k w ha hb hk := (inP_any a b k ha hb hk w).mono fun e w' ⟨he, hb⟩ => ⟨he, Below.of_eq hb⟩
  put u l k r m s le w hI hF hk := by
    obtain ⟨t, hT, rfl⟩ := ixpP_iff.1 hI.p
    exact (putI_any u t k r m s le w hT hF hk).mono fun e w' ⟨u', he, hI', hb⟩ => ⟨u', he, hI'.ixp, hb⟩
  add u l k x w hI hF hk := by
    obtain ⟨t, hT, rfl⟩ := ixpP_iff.1 hI.p
    exact (addI_any u t k x w hT hF hk).mono fun e w' ⟨u', he, hI', hb⟩ => ⟨u', he, hI'.ixp, hb⟩
  del u l a b r m w hI hF ha hb := by
    obtain ⟨t, hT, rfl⟩ := ixpP_iff.1 hI.p
    exact (delI_any u t a b r m w hT hF ha hb).mono fun e w' ⟨u', he, hI', hb⟩ => ⟨u', he, hI'.ixp, hb⟩
  drop u l a b w hI hF ha hb := by
    obtain ⟨t, hT, rfl⟩ := ixpP_iff.1 hI.p
    exact (dropP_any u t a b w hT hF ha hb).mono fun e w' ⟨u', he, hI', hb⟩ => ⟨u', he, hI'.ixp, hb⟩
  trim u l f w hI hF := by
    obtain ⟨t, hT, rfl⟩ := ixpP_iff.1 hI.p
    exact (trimI_any u t f w hT hF).mono fun e w' ⟨u', he, hI', hb⟩ => ⟨u', he, hI'.ixp, hb⟩
  live u l k w hI hF hk := by
    obtain ⟨t, hT, rfl⟩ := ixpP_iff.1 hI.p
    exact liveI_any u t k w hT hF
  at_ u l a b r most w hI hF ha hb := by
    obtain ⟨t, hT, rfl⟩ := ixpP_iff.1 hI.p
    exact atP15_any u t a b r most w hT hF ha hb
  behind u l p k r most w hI hF hp hk := by
    obtain ⟨t, hT, rfl⟩ := ixpP_iff.1 hI.p
    exact behindP_any u t p k r most w hT hF hp hk
  changes u l a b s t most w hI hF ha hb := by
    obtain ⟨t', hT, rfl⟩ := ixpP_iff.1 hI.p
    exact changesP_any u t' a b s t most w hT hF ha hb
  leased u l le w hI hF := by
    obtain ⟨t, hT, rfl⟩ := ixpP_iff.1 hI.p
    exact leasedP_any u t le w hT hF
  all u l w hI hF := by
    obtain ⟨t, hT, rfl⟩ := ixpP_iff.1 hI.p
    exact allP_any u t w hT hF
end Go.Proofs.Ytcoddkbbgmjckaa

namespace Go.Proofs.Ytcoddkbbgmjckaa
open Go.ChangeShapes Go.WideShapes Go.ChangeAt Go.RowKit

section
variable {H : Type} {enc : TypeId × Value → H} {P : Program}

theorem stays_all (hl : laidOutB P = true) {W W' : World} {sp : Nat → Bool} : ∀ {ts : List TypeId} {vs : List Value} {ds : List (DataW H)} {ps : List MemPlace}, (∀ t ∈ ts, P.readableRec t = true ∧ t < P.types.size) →
    DataW.TrodAll enc P W 0 (fun _ => true) true ts vs ds ps → (∀ x ∈ ps, W.sameAt W' x) → (∀ x ∈ ps, sp x.block = true) → DataW.TrodAll enc P W' 0 sp true ts vs ds ps
  | [], [], [], _, _, h, _, _ => h
  | t :: _, _ :: _, _ :: _, _, hT, ⟨p, q, h1, h2, e⟩, hs, hp =>
    ⟨p, q, WideElems.Trod_stays hl (hT t List.mem_cons_self).1 (hT t List.mem_cons_self).2 h1 (fun x hx => hs x (by rw [e]; exact List.mem_append_left _ hx)) (fun x hx => hp x (by rw [e]; exact List.mem_append_left _ hx)),
      stays_all hl (fun t ht => hT t (List.mem_cons_of_mem _ ht)) h2 (fun x hx => hs x (by rw [e]; exact List.mem_append_right _ hx)) (fun x hx => hp x (by rw [e]; exact List.mem_append_right _ hx)), e⟩

/-- A law that answers true, and below whose first new block nothing has turned. -/
theorem law_end (hl : laidOutB P = true) {f : Func} {s : ChangeSpec} {T : TypeId} {W W' : World} {args : Array Value} {ds gs : List (DataW H)} {before : List MemPlace}
    (hT : ∀ t ∈ f.params.toList, P.readableRec t = true ∧ t < P.types.size) (hvars : s.vars = []) (hres : f.resultTypes = #[T]) (hb : P.underlying T = some .bool)
    (hW : DataW.Whole enc P f.params.toList s.vars false W args.toList ds gs before)
    (hr : (s.fn H (ds ++ gs)).results = [.lit (.bool true)]) (ha : (s.fn H (ds ++ gs)).args = ds) (hv : (s.fn H (ds ++ gs)).vars = [])
    (hbel : Below W.heap.size W W') : s.post enc P f false true false false W args (.bool true) W' := by
  have hW' := hW
  obtain ⟨p, q, hA, hV, hps, hfz, _⟩ := hW
  rw [hvars] at hV
  obtain ⟨rfl, rfl⟩ := trodVars_none hV
  rw [List.append_nil] at hps
  subst hps
  have hlt : ∀ x ∈ before, x.block < W.heap.size := fun x hx => hW'.lt x hx
  have harg : ∀ sp : Nat → Bool, (∀ x ∈ before, sp x.block = true) → DataW.TrodAll enc P W' 0 sp true f.params.toList args.toList (s.fn H (ds ++ [])).args before := fun sp hsp => by
    rw [ha]
    exact stays_all hl hT hA (fun x hx => hbel.same (hlt x hx)) hsp
  have hvar : ∀ sp : Nat → Bool, DataW.TrodVars enc P W' sp s.vars (s.fn H (ds ++ [])).vars [] := fun sp => by
    rw [hvars, hv]
    exact rfl
  have hresult : ∀ (b : Nat) (sp : Nat → Bool) (hd : Bool), DataW.TrodAll enc P W' b sp hd f.resultTypes.toList ((Value.bool true).resultList f.resultTypes.size) (s.fn H (ds ++ [])).results [] := fun b sp hd => by
    rw [hr, hres]
    exact trodAll_cons_mk (shut_bool hb _) trodAll_mk0
  refine ⟨ds, [], before, [], before, [], hW', hresult _ _ _, harg _ (fun x hx => by simpa using hlt x hx), hvar _, World.keptBut_mono (fun x hx => ⟨hx, Or.inr (Or.inl hx)⟩) (hbel.frame (· ∈ before)), fun h => by cases h⟩
end

end Go.Proofs.Ytcoddkbbgmjckaa
