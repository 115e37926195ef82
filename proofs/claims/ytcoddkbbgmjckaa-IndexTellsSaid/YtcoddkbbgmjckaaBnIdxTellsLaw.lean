/- IndexTells: all changes of a range are told, in order; from what comes next on the rest. For every input. -/
import Derived.Test.YtcoddkbbgmjckaaBn27
import Derived.Test.YtcoddkbbgmjckaaBn18
import Derived.Test.YtcoddkbbgmjckaaBn46
import Derived.ChangeMaps5
import Derived.BigQuiet
namespace Go.Proofs.Ytcoddkbbgmjckaa
open Go.RowKit
set_option linter.unusedVariables false
set_option linter.unusedSimpArgs false
attribute [local go_sem] Oper.semAt_some

set_option maxRecDepth 100000 in
set_option maxHeartbeats 6400000 in
theorem indexTells_walk (S : Says) (A : Option Addr) (len cap : Nat) (K : Nat → Idx.IAct) (q : IAsk) (w : World) (hA : IActs w A len K) (hm : len ≤ maxLen) (hs : ∀ j, j < len → IActWf (K j)) (hq : IAskWf q) :
    Calls Try.prog 7 #[.slice A len cap, iaskV q] w fun e w' => e = .returned (.bool true) ∧ Below w.heap.size w w' := by
  dsimp only [iaskV]
  obtain ⟨W1, hW1⟩ : ∃ W1, w.alloc (.cells #[.string q.a, .string q.e, .string q.p, .int .i64 q.r, .int .i64 q.s, .int .i64 q.t, .int .i64 q.n, .int .i64 q.l] 47) = W1 := ⟨_, rfl⟩
  have HE := Lib.hid (show Below w.heap.size w W1 by rw [← hW1]; exact (Below.refl _ _).alloc (Nat.le_refl _) _)
  have RQ := Lib.hid (show W1.heap[w.heap.size]? = some (.cells #[.string q.a, .string q.e, .string q.p, .int .i64 q.r, .int .i64 q.s, .int .i64 q.t, .int .i64 q.n, .int .i64 q.l] 47) by rw [← hW1]; exact heap_alloc_new w _)
  have HV := Lib.hid (And.intro (hA.below HE.out) hs)
  have HW := Lib.hid hW1
  clear hA hs hW1
  have H0 := Lib.hid (show Below W1.heap.size W1 W1 from Below.refl _ _)
  go_enter Try.func7, Try.ntmps7
  go_upto_region 1 with fail
  rw [HW.out]
  clear HW
  have hC := awake15_any S W1
  go_wp2_with fail
  refine hC.mono ?_
  rintro e w1 ⟨rfl, hbq⟩
  replace H0 := Lib.hid (H0.out.trans (hbq.mono H0.out.size))
  replace RQ := Lib.hid ((hbq.block _ (hlt RQ.out)).trans RQ.out)
  clear hC hbq
  have hC := fewI_any A len cap K 60 w1 (HV.out.1.below H0.out) hm HV.out.2 (by omega)
  go_wp2_with fail
  refine hC.mono ?_
  rintro e w1' ⟨b0, rfl, hb40, rfl⟩
  clear hC
  cases b0 with
  | false =>
    have hC := awake15_any S w1
    go_wp2_with fail
    refine hC.mono ?_
    rintro e w2 ⟨rfl, hbq⟩
    replace H0 := Lib.hid (H0.out.trans (hbq.mono H0.out.size))
    replace RQ := Lib.hid ((hbq.block _ (hlt RQ.out)).trans RQ.out)
    clear hC hbq
    have hbz := HE.out.trans (H0.out.mono HE.out.size)
    obtain ⟨q0, q1, q2, q3, q4, q5, q6, q7⟩ := (row8 RQ.out).1
    go_wp2
    go_ret
    exact ⟨rfl, hbz⟩
  | true =>
    obtain ⟨h60, hsh⟩ := hb40 rfl
    have HS := Lib.hid hsh
    clear hb40 hsh
    obtain ⟨n1, y1⟩ : ∃ n1, IntKind.i64.wrap ((q.a.size : Int) + (q.e.size : Int)) = n1 := ⟨_, rfl⟩
    by_cases hg : 500 < n1
    · have e5 : decide (500 < n1) = true := decide_eq_true hg
      clear hg
      have hC := fun W => awake15_any S W
      obtain ⟨q0, q1, q2, q3, q4, q5, q6, q7⟩ := (row8 RQ.out).1
      go_wp2_with fail
      refine (hC _).mono ?_
      rintro e w2 ⟨rfl, hbq⟩
      clear q0 q1 q2 q3 q4 q5 q6 q7
      replace H0 := Lib.hid (H0.out.trans (hbq.mono H0.out.size))
      replace RQ := Lib.hid ((hbq.block _ (hlt RQ.out)).trans RQ.out)
      clear hC hbq
      have hbz := HE.out.trans (H0.out.mono HE.out.size)
      obtain ⟨q0, q1, q2, q3, q4, q5, q6, q7⟩ := (row8 RQ.out).1
      go_wp2
      go_ret
      exact ⟨rfl, hbz⟩
    have e5 : decide (500 < n1) = false := decide_eq_false hg
    have HZ := Lib.hid (show q.a.size ≤ maxLen ∧ q.e.size ≤ maxLen from ⟨hq.a, hq.e⟩)
    clear hg
    have hC := made15_any S A len cap K w1 (HV.out.1.below H0.out) (by omega) HS.out
    obtain ⟨q0, q1, q2, q3, q4, q5, q6, q7⟩ := (row8 RQ.out).1
    go_wp2_with fail
    refine hC.mono ?_
    rintro e w2 ⟨u, R, n, c, xs, rfl, hM, hbq⟩
    clear q0 q1 q2 q3 q4 q5 q6 q7
    replace H0 := Lib.hid (H0.out.trans (hbq.mono H0.out.size))
    replace RQ := Lib.hid ((hbq.block _ (hlt RQ.out)).trans RQ.out)
    have HI := Lib.hid hM
    clear hM
    clear hC hbq
    have HF := Lib.hid (runK_fit K (show len ≤ 100 by omega))
    obtain ⟨l, hl⟩ : ∃ l, runK K len = l := ⟨_, rfl⟩
    rw [hl] at HI HF
    clear hl
    obtain ⟨W3, hW⟩ : ∃ W, w2.alloc (.cells #[.pointer u] 32) = W := ⟨_, rfl⟩
    have hbq : Below w2.heap.size w2 W3 := by rw [← hW]; exact (Below.refl _ _).alloc (Nat.le_refl _) _
    have hrq : Box W3 w2.heap.size u := by rw [← hW]; exact heap_alloc_new _ _
    have HW := Lib.hid hW
    clear hW
    replace H0 := Lib.hid (H0.out.trans (hbq.mono H0.out.size))
    replace RQ := Lib.hid ((hbq.block _ (hlt RQ.out)).trans RQ.out)
    replace HI := Lib.hid (HI.out.below hbq)
    have HX := Lib.hid hrq
    clear hbq hrq
    go_upto_region 4 with fail
    rw [HW.out]
    clear HW
    have H0z := Lib.hid H0.out.size
    have hC := S.changes u l q.a q.e q.s q.t q.n W3 HI.out.ix HF.out HZ.out.1 HZ.out.2
    obtain ⟨q0, q1, q2, q3, q4, q5, q6, q7⟩ := (row8 RQ.out).1
    have bHX := HX.out.cell
    go_wp2_with fail
    refine hC.mono ?_
    rintro e w4 ⟨R1, n1, c1, ys1, rfl, hO, hy, hbq⟩
    clear q0 q1 q2 q3 q4 q5 q6 q7 bHX
    replace H0 := Lib.hid (H0.out.trans (hbq.mono H0.out.size))
    replace RQ := Lib.hid ((hbq.block _ (hlt RQ.out)).trans RQ.out)
    replace HX := Lib.hid (HX.out.below hbq)
    replace HI := Lib.hid (HI.out.below hbq)
    have HO1 := Lib.hid (show OwnB _ w4 R1 n1 c1 ys1 from hO)
    have HE1 := Lib.hid (show bats ys1 = (Idx.changesI l q.a q.e q.s q.t q.n) from hy)
    clear hO hy
    have HL1 := Lib.hid (show (∀ q, blk R1 q → q < w4.heap.size) from fun q hq => HO1.out.ba.sp.lt hq)
    have HS1 := Lib.hid (Nat.le_refl w4.heap.size)
    clear hC hbq
    have hC := changesR_any R n c xs q.a q.e q.s q.t q.n w4 (HI.out.g HF.out) HZ.out.1 HZ.out.2 (by rw [flat_tot, HI.out.e]; exact HF.out.t)
    rw [HI.out.e] at hC
    obtain ⟨q0, q1, q2, q3, q4, q5, q6, q7⟩ := (row8 RQ.out).1
    have bHX := HX.out.cell
    go_wp2_with fail
    refine hC.mono ?_
    rintro e w5 ⟨R2, n2, c2, ys2, rfl, hO, hy, hbq⟩
    clear q0 q1 q2 q3 q4 q5 q6 q7 bHX
    replace H0 := Lib.hid (H0.out.trans (hbq.mono H0.out.size))
    replace RQ := Lib.hid ((hbq.block _ (hlt RQ.out)).trans RQ.out)
    replace HX := Lib.hid (HX.out.below hbq)
    replace HI := Lib.hid (HI.out.below hbq)
    replace HO1 := Lib.hid (HO1.out.next hbq)
    replace HS1 := Lib.hid (Nat.le_trans HS1.out hbq.size)
    have HO2 := Lib.hid (show OwnB _ w5 R2 n2 c2 ys2 from hO)
    have HE2 := Lib.hid (show bats ys2 = (Idx.changesI l q.a q.e q.s q.t q.n) from hy)
    clear hO hy
    clear hC hbq
    have hC := same_bats (c1 := c1) (c2 := c2) HO1.out.ba HO2.out.ba HE1.out HE2.out (Nat.le_trans (chg_small HF.out _ _ _ _ _).1 (by omega)) (chg_small HF.out _ _ _ _ _).2
    go_wp2_with fail
    refine hC.mono ?_
    rintro e w6 ⟨rfl, hbq⟩
    replace H0 := Lib.hid (H0.out.trans (hbq.mono H0.out.size))
    replace RQ := Lib.hid ((hbq.block _ (hlt RQ.out)).trans RQ.out)
    replace HX := Lib.hid (HX.out.below hbq)
    replace HI := Lib.hid (HI.out.below hbq)
    replace HO1 := Lib.hid (HO1.out.next hbq)
    replace HO2 := Lib.hid (HO2.out.next hbq)
    replace HS1 := Lib.hid (Nat.le_trans HS1.out hbq.size)
    clear hC hbq
    have HS3 := Lib.hid HS1.out
    have hC := changesR_any R n c xs q.a q.e q.s q.t 100000 w6 (HI.out.g HF.out) HZ.out.1 HZ.out.2 (by rw [flat_tot, HI.out.e]; exact HF.out.t)
    rw [HI.out.e] at hC
    obtain ⟨q0, q1, q2, q3, q4, q5, q6, q7⟩ := (row8 RQ.out).1
    have bHX := HX.out.cell
    go_wp2_with fail
    refine hC.mono ?_
    rintro e w7 ⟨R3, n3, c3, ys3, rfl, hO, hy, hbq⟩
    clear q0 q1 q2 q3 q4 q5 q6 q7 bHX
    replace H0 := Lib.hid (H0.out.trans (hbq.mono H0.out.size))
    replace RQ := Lib.hid ((hbq.block _ (hlt RQ.out)).trans RQ.out)
    replace HX := Lib.hid (HX.out.below hbq)
    replace HI := Lib.hid (HI.out.below hbq)
    replace HO1 := Lib.hid (HO1.out.next hbq)
    replace HO2 := Lib.hid (HO2.out.next hbq)
    replace HS1 := Lib.hid (Nat.le_trans HS1.out hbq.size)
    have HN3 := Lib.hid (show ∀ q, blk R3 q → w6.heap.size ≤ q from hO.new)
    have HM3 := Lib.hid (show ∀ x ∈ ys3, ∀ q, blk x.B q → w6.heap.size ≤ q from fun x hx q hq => (hO.own x hx q hq).1)
    have HO3 := Lib.hid (show OwnB _ w7 R3 n3 c3 ys3 from hO)
    have HE3 := Lib.hid (show bats ys3 = (Idx.changesI l q.a q.e q.s q.t 100000) from hy)
    clear hO hy
    clear hC hbq
    have htt := Idx.tells HF.out.wf HF.out.t q.a q.e q.s q.t q.n
    have hcl := HO1.out.ba.len
    have hcs := chg_small HF.out q.a q.e q.s q.t q.n
    have hca := chg_small HF.out q.a q.e q.s q.t 100000
    have hal := HO3.out.ba.len
    have hq1 : n1 ≤ 100000 := by have h1 := bats_len ys1; rw [HE1.out] at h1; omega
    have hq3 : n3 ≤ 100000 := by have h1 := bats_len ys3; rw [HE3.out] at h1; omega
    by_cases h0 : n1 = 0
    · have e6 : ((n1 : Int) == 0) = true := by rw [h0]; rfl
      have e7 : ((n3 : Int) == 0) = true := by
        have h1 := bats_len ys1
        rw [HE1.out, hcl, h0] at h1
        have h2 := htt.1 (List.eq_nil_of_length_eq_zero h1)
        have h3 := bats_len ys3
        rw [HE3.out, h2, hal] at h3
        have h3 : 0 = n3 := h3
        rw [← h3]; rfl
      clear htt hcl hcs hca hal h0
      have hbz := HE.out.trans (H0.out.mono HE.out.size)
      obtain ⟨q0, q1, q2, q3, q4, q5, q6, q7⟩ := (row8 RQ.out).1
      have bHX := HX.out.cell
      go_wp2
      go_ret
      exact ⟨rfl, hbz⟩
    · have e6 : ((n1 : Int) == 0) = false := beq_eq_false_iff_ne.2 (by omega)
      have k3 : IntKind.i64.wrap ((n1 : Int) - 1) = ((n1 - 1 : Nat) : Int) := by rw [IntWalk.i64_in _ (by omega)]; omega
      have k4 : ((n1 - 1 : Nat) : Int) < (n1 : Int) := by omega
      obtain ⟨g, off, hR1, hg, z0, z1⟩ := HO1.out.ba.at_ (n1 - 1) (by omega)
      clear z1
      subst hR1
      have hin : (ys1[n1 - 1]'(by omega)).b ∈ Idx.changesI l q.a q.e q.s q.t q.n := by rw [← HE1.out]; exact List.mem_map.2 ⟨_, List.getElem_mem _, rfl⟩
      have hrv := chg_rev HF.out _ _ _ _ _ _ hin
      have hla : (Idx.changesI l q.a q.e q.s q.t q.n).getLast? = some (ys1[n1 - 1]'(by omega)).b := by
        have h9 : (bats ys1).length - 1 = n1 - 1 := by rw [bats_len, hcl]
        rw [← HE1.out, List.getLast?_eq_getElem?, h9, List.getElem?_eq_getElem (by rw [bats_len]; omega), bats_get]
      have htr := htt.2 _ _ hla
      obtain ⟨y, hy⟩ : ∃ y, ys1[n1 - 1]'(by omega) = y := ⟨_, rfl⟩
      rw [hy] at z0 hrv htr
      have HY := Lib.hid htr
      obtain ⟨yr, yl, yB, yc⟩ := y
      dsimp only [BLay.b] at z0 hrv HY
      have k5 : IntKind.i64.wrap (yr + 1) = yr + 1 := IntWalk.i64_in _ (by omega)
      clear htt hla htr hin hy hrv h0
      generalize n1 - 1 = j at *
      have HS4 := Lib.hid HS1.out
      obtain ⟨q0, q1, q2, q3, q4, q5, q6, q7⟩ := (row8 RQ.out).1
      have bHX := HX.out.cell
      go_upto_region 12 with fail
      refine wp_region_held_drew (S := (fun w' => w'.cell? ⟨w2.heap.size, 0, none⟩ = some (.pointer u) ∧ w'.cell? ⟨w.heap.size, 0, none⟩ = some (.string q.a) ∧ w'.cell? ⟨w.heap.size, 1, none⟩ = some (.string q.e) ∧ w'.cell? ⟨w.heap.size, 5, none⟩ = some (.int .i64 q.t) ∧ w'.cell? ⟨g, off + j * 2, none⟩ = some (.int .i64 yr))) (by kernel_rfl) ⟨HX.out.cell, q0, q1, q5, z0⟩ (fun hHeld => ?_)
      refine lsq 17 ?_
      refine tkq 0 ?_
      refine tkq 1 ?_
      refine tkq 2 ?_
      refine tkq 3 ?_
      refine tkq 4 ?_
      refine tkq 5 ?_
      refine tkq 6 ?_
      refine tkq 7 ?_
      refine tkq 8 ?_
      refine tkq 9 ?_
      refine tkq 10 ?_
      refine tkq 11 ?_
      refine tkq 12 ?_
      refine tkq 13 ?_
      refine tkq 14 ?_
      clear q0 q1 q2 q3 q4 q5 q6 q7 bHX
      clear z0
      have hI4 := HI.out.below (show Below w7.heap.size w7 w7.drew from (Below.refl _ _).drew)
      have hC := S.changes u l q.a q.e (yr + 1) q.t 100000 w7.drew hI4.ix HF.out HZ.out.1 HZ.out.2
      refine rdq1 15 fun KK hK => ?_
      go_simp
      refine hC.mono ?_
      rintro e w20 ⟨R4, n4, c4, ys4, rfl, hO, hy, hbq⟩
      have hbq := show Below w7.heap.size w7 w20 from ⟨hbq.os, hbq.tape, hbq.output, hbq.size, hbq.block⟩
      have z0 := (hbq.cell (p := ⟨g, off + j * 2, none⟩) hg).trans hHeld.2.2.2.2
      replace H0 := Lib.hid (H0.out.trans (hbq.mono H0.out.size))
      replace RQ := Lib.hid ((hbq.block _ (hlt RQ.out)).trans RQ.out)
      replace HX := Lib.hid (HX.out.below hbq)
      replace HI := Lib.hid (HI.out.below hbq)
      replace HO1 := Lib.hid (HO1.out.next hbq)
      replace HO2 := Lib.hid (HO2.out.next hbq)
      replace HO3 := Lib.hid (HO3.out.next hbq)
      replace HS1 := Lib.hid (Nat.le_trans HS1.out hbq.size)
      refine hK.out _ _ ⟨HX.out.cell, (row8 RQ.out).1.1, (row8 RQ.out).1.2.1, (row8 RQ.out).1.2.2.2.2.2.1, z0⟩ ?_
      clear hK KK hHeld z0
      intro hHeld
      try simp only [lpq]
      refine tkq 16 ?_
      refine dnq ?_
      clear hHeld hC hI4
      have HN4 := Lib.hid (show ∀ q, blk R4 q → w7.heap.size ≤ q from hO.new)
      have HM4 := Lib.hid (show ∀ x ∈ ys4, ∀ q, blk x.B q → w7.heap.size ≤ q from fun x hx q hq => (hO.own x hx q hq).1)
      have HO4 := Lib.hid (show OwnB _ w20 R4 n4 c4 ys4 from hO)
      have HE4 := Lib.hid (show bats ys4 = (Idx.changesI l q.a q.e (yr + 1) q.t 100000) from hy)
      clear hO hy
      clear hbq
      have hn4 : n4 ≤ 100000 := by have h1 := bats_len ys4; rw [HE4.out] at h1; have h2 := HO4.out.ba.len; have h3 := (chg_small HF.out q.a q.e (yr + 1) q.t 100000).1; omega
      have HLL := Lib.hid HL1.out
      have s3 := HS3.out
      have s4 := HS4.out
      go_wp2_with (at_builtin
                   go_loud (refine wpList_append_sp elem_batch _ rfl _ _ rfl (some ⟨g, off, none⟩) n1 c1 (rowB ys1) rfl (HO1.out.ba.sp.keep fun q hq => (show Below w20.heap.size w20 _ from (by repeat (first | exact Below.refl _ _ | apply Below.drew | apply below_drewN))).block q (HO1.out.ba.sp.lt hq)) R4 n4 c4 (rowB ys4) rfl (fun e => by rcases Nat.eq_zero_or_pos n4 with h1 | h1; exact h1; obtain ⟨_, _, e2, _⟩ := HO4.out.ba.at_ 0 h1; rw [e] at e2; cases e2) HO4.out.ba.sp.1 (fun v hv => by obtain ⟨x, _, hx⟩ := List.mem_flatMap.1 hv; exact rowB_one x v hx) (fun b e => (HO4.out.ba.sp.keep fun q hq => (show Below w20.heap.size w20 _ from (by repeat (first | exact Below.refl _ _ | apply Below.drew | apply below_drewN))).block q (HO4.out.ba.sp.lt hq)).cells e) (by omega) ?_)
                   intro A8 c8 w21 hsp8 hA8 hg8
                   have hb21 : Below W1.heap.size W1 w21 := hg8.below (H0.out.trans ((show Below w20.heap.size w20 _ from (by repeat (first | exact Below.refl _ _ | apply Below.drew | apply below_drewN))).mono H0.out.size)) H0.out.size (fun p hp => Nat.le_trans H0z.out (HO1.out.new p hp))
                   have hI3 : BatL w21 R3 n3 c3 ys3 := ⟨HO3.out.ba.sp.keep fun p hp => (hg8.block p (HO3.out.ba.sp.lt hp) (fun e => by have := HLL.out p e; have := HN3.out p hp; omega)).trans ((show Below w20.heap.size w20 _ from (by repeat (first | exact Below.refl _ _ | apply Below.drew | apply below_drewN))).block p (HO3.out.ba.sp.lt hp)), fun x hx => (HO3.out.ba.its x hx).keep (Nat.le_trans (show Below w20.heap.size w20 _ from (by repeat (first | exact Below.refl _ _ | apply Below.drew | apply below_drewN))).size hg8.size) fun _ p hp hlt => (hg8.block p (Nat.lt_of_lt_of_le hlt (show Below w20.heap.size w20 _ from (by repeat (first | exact Below.refl _ _ | apply Below.drew | apply below_drewN))).size) (fun e => by have := HLL.out p e; have := HM3.out x hx p hp; omega)).trans ((show Below w20.heap.size w20 _ from (by repeat (first | exact Below.refl _ _ | apply Below.drew | apply below_drewN))).block p hlt)⟩
                   have hI8 : BatL w21 A8 (n1 + n4) c8 (ys1 ++ ys4) := ⟨by rw [rowB_app]; exact hsp8, fun x hx => by
                     rcases List.mem_append.1 hx with hx | hx
                     · exact (HO1.out.ba.its x hx).keep (Nat.le_trans (show Below w20.heap.size w20 _ from (by repeat (first | exact Below.refl _ _ | apply Below.drew | apply below_drewN))).size hg8.size) fun _ p hp hlt => (hg8.block p (Nat.lt_of_lt_of_le hlt (show Below w20.heap.size w20 _ from (by repeat (first | exact Below.refl _ _ | apply Below.drew | apply below_drewN))).size) (HO1.out.own x hx p hp).2).trans ((show Below w20.heap.size w20 _ from (by repeat (first | exact Below.refl _ _ | apply Below.drew | apply below_drewN))).block p hlt)
                     · exact (HO4.out.ba.its x hx).keep (Nat.le_trans (show Below w20.heap.size w20 _ from (by repeat (first | exact Below.refl _ _ | apply Below.drew | apply below_drewN))).size hg8.size) fun _ p hp hlt => (hg8.block p (Nat.lt_of_lt_of_le hlt (show Below w20.heap.size w20 _ from (by repeat (first | exact Below.refl _ _ | apply Below.drew | apply below_drewN))).size) (fun e => by have := HLL.out p e; have := HM4.out x hx p hp; omega)).trans ((show Below w20.heap.size w20 _ from (by repeat (first | exact Below.refl _ _ | apply Below.drew | apply below_drewN))).block p hlt)⟩
                   have hC := same_bats (c1 := c8) (c2 := c3) hI8 hI3 (by rw [bats_app, HE1.out, HE4.out]; exact HY.out) HE3.out (Nat.le_trans (chg_small HF.out _ _ _ _ _).1 (by omega)) (chg_small HF.out _ _ _ _ _).2)
      refine hC.mono ?_
      rintro e w22 ⟨rfl, hb22⟩
      have hbz := HE.out.trans ((hb21.trans (hb22.mono hb21.size)).mono HE.out.size)
      go_wp2
      go_ret
      exact ⟨rfl, hbz⟩


end Go.Proofs.Ytcoddkbbgmjckaa

namespace Go.Proofs.Ytcoddkbbgmjckaa.indexTells
open Go.ChangeShapes Go.WideShapes Go.ChangeAt Go.RowKit Go.Proofs.Ytcoddkbbgmjckaa
set_option linter.unusedVariables false
set_option linter.unusedSimpArgs false

theorem own : ownKnob Try.prog.godebug = none := by kernel_rfl

set_option maxRecDepth 100000 in
theorem lifted (os : Os) (started : os.Started) (H : Type) (enc : TypeId × Value → H) :
    ReturnsInHanded {} Try.checked os 7 .any (Rows.indexTellsSpec.pre6 enc Try.prog Try.f7 Rows.indexTellsRow.domain false) (Rows.indexTellsSpec.post enc Try.prog Try.f7 false true false false) := by
  refine returnsInHanded_of_change (C := Try.checked) own started (by kernel_rfl) Try.func7
    (ChangeSpec.witness6 (enc := enc) (C := Try.checked) false ⟨#[], #[.slice none 0 0, .agg #[.string ⟨#[]⟩, .string ⟨#[]⟩, .string ⟨#[]⟩, .int .i64 0, .int .i64 0, .int .i64 0, .int .i64 0, .int .i64 0]], []⟩ 8 (by kernel_rfl) (by kernel_rfl) (by kernel_rfl) (by kernel_rfl)) ?_
  intro W base args ds gs before hval0 hW hcnd _
  have hval : ∀ (j : Nat) t v, Try.f7.params[j]? = some t → args[j]? = some v → Value.okWide Try.prog W .any base t v := hval0
  have hW' := hW
  obtain ⟨p, q, hA0, hV, rfl, hfz, hnd⟩ := hW
  have hA : DataW.TrodAll enc Try.prog W 0 (fun _ => true) true Try.f7.params.toList args.toList ds p := hA0
  rw [Try.params7] at hA hval
  obtain ⟨v0, vs0, d0, ds0, p0, q0, hargs, rfl, rfl, h0, r0⟩ := trodAll_cons hA
  obtain ⟨v1, vs1, d1, ds1, p1, q1, rfl, rfl, rfl, h1, r1⟩ := trodAll_cons r0
  obtain ⟨rfl, rfl, rfl⟩ := trodAll_nil r1
  obtain rfl : args = #[v0, v1] := by cases args; simp_all
  obtain ⟨rfl, rfl⟩ := trodVars_none hV
  obtain ⟨A0, len0, cap0, K0, rfl, hlc0, hm0, ha0, hw0⟩ := arg_iacts (hval 0 26 v0 rfl rfl) h0 (fun x hx => hW'.lt x (by simp [hx]))
  obtain ⟨q1, rfl, hq1⟩ := arg_iask (hval 1 47 v1 rfl rfl) h1 (fun x hx => hW'.lt x (by simp [hx]))
  have fin : ∀ W', Below W.heap.size W W' → Rows.indexTellsSpec.post enc Try.prog Try.f7 false true false false W #[.slice A0 len0 cap0, iaskV q1] (.bool true) W' :=
    fun W' hb => law_end (by kernel_rfl) (by decide +kernel) rfl rfl Try.underlying4 hW' rfl rfl rfl hb
  exact (indexTells_walk says A0 len0 cap0 K0 q1 W ha0 (Nat.le_trans hlc0 hm0) hw0 hq1).mono fun e W' ⟨he, hb⟩ => ⟨_, he, fin W' hb⟩

theorem over : Rows.indexTellsRow.holds Try.pinned (OpenSpec.ofChange Rows.indexTellsSpec) :=
  OpenClaim.holds_of_wide 7 Try.f7 rfl rfl rfl rfl rfl rfl rfl ⟨rfl, rfl, rfl, rfl, rfl⟩ rfl rfl rfl rfl rfl (by kernel_rfl) Try.func7 (by kernel_rfl)
    (of_decide_eq_true (by kernel_rfl)) (by unfold Func.isWrapper; first | (rw [if_pos (by decide +kernel)]; kernel_rfl) | (rw [if_neg (by decide +kernel)]; exact ⟨rfl, rfl⟩))
    (fun os started H enc _ => lifted os started H enc)

theorem proved : Rows.IndexTellsSaid := over


end Go.Proofs.Ytcoddkbbgmjckaa.indexTells
