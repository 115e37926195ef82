/- IndexDrops: what is dropped is as if it had not been. For every input. -/
import Derived.Test.YtcoddkbbgmjckaaBn27
import Derived.Test.YtcoddkbbgmjckaaBn18
import Derived.Test.YtcoddkbbgmjckaaBn46
import Derived.ChangeMaps5
import Derived.BigQuiet
namespace Go.Proofs.Ytcoddkbbgmjckaa
open Go.RowKit
set_option linter.unusedVariables false
set_option linter.unusedSimpArgs false
attribute [local go_sem] Oper.semAt_some

set_option maxRecDepth 100000 in
set_option maxHeartbeats 6400000 in
theorem indexDrops_walk (S : Says) (A : Option Addr) (len cap : Nat) (K : Nat → Idx.IAct) (a b : ByteArray) (q : IAsk) (w : World) (hA : IActs w A len K) (hm : len ≤ maxLen) (hs : ∀ j, j < len → IActWf (K j)) (ha : a.size ≤ maxLen) (hb : b.size ≤ maxLen) (hq : IAskWf q) :
    Calls Try.prog 12 #[.slice A len cap, .string a, .string b, iaskV q] w fun e w' => e = .returned (.bool true) ∧ Below w.heap.size w w' := by
  dsimp only [iaskV]
  obtain ⟨W1, hW1⟩ : ∃ W1, w.alloc (.cells #[.string q.a, .string q.e, .string q.p, .int .i64 q.r, .int .i64 q.s, .int .i64 q.t, .int .i64 q.n, .int .i64 q.l] 47) = W1 := ⟨_, rfl⟩
  have HE := Lib.hid (show Below w.heap.size w W1 by rw [← hW1]; exact (Below.refl _ _).alloc (Nat.le_refl _) _)
  have RQ := Lib.hid (show W1.heap[w.heap.size]? = some (.cells #[.string q.a, .string q.e, .string q.p, .int .i64 q.r, .int .i64 q.s, .int .i64 q.t, .int .i64 q.n, .int .i64 q.l] 47) by rw [← hW1]; exact heap_alloc_new w _)
  have HV := Lib.hid (And.intro (hA.below HE.out) hs)
  have HW := Lib.hid hW1
  clear hA hs hW1
  have H0 := Lib.hid (show Below W1.heap.size W1 W1 from Below.refl _ _)
  go_enter Try.func12, Try.ntmps12
  go_upto_region 1 with fail
  rw [HW.out]
  clear HW
  have hC := awake15_any S W1
  go_wp2_with fail
  refine hC.mono ?_
  rintro e w1 ⟨rfl, hbq⟩
  replace H0 := Lib.hid (H0.out.trans (hbq.mono H0.out.size))
  replace RQ := Lib.hid ((hbq.block _ (hlt RQ.out)).trans RQ.out)
  clear hC hbq
  have hC := fewI_any A len cap K 60 w1 (HV.out.1.below H0.out) hm HV.out.2 (by omega)
  go_wp2_with fail
  refine hC.mono ?_
  rintro e w1' ⟨b0, rfl, hb40, rfl⟩
  clear hC
  cases b0 with
  | false =>
    have hC := awake15_any S w1
    go_wp2_with fail
    refine hC.mono ?_
    rintro e w2 ⟨rfl, hbq⟩
    replace H0 := Lib.hid (H0.out.trans (hbq.mono H0.out.size))
    replace RQ := Lib.hid ((hbq.block _ (hlt RQ.out)).trans RQ.out)
    clear hC hbq
    have hbz := HE.out.trans (H0.out.mono HE.out.size)
    obtain ⟨q0, q1, q2, q3, q4, q5, q6, q7⟩ := (row8 RQ.out).1
    go_wp2
    go_ret
    exact ⟨rfl, hbz⟩
  | true =>
    obtain ⟨h60, hsh⟩ := hb40 rfl
    have HS := Lib.hid hsh
    clear hb40 hsh
    have HZ := Lib.hid (show q.a.size ≤ maxLen ∧ q.e.size ≤ maxLen from ⟨hq.a, hq.e⟩)
    obtain ⟨n1, y1⟩ : ∃ n1, IntKind.i64.wrap ((a.size : Int) + (b.size : Int)) = n1 := ⟨_, rfl⟩
    obtain ⟨n2, y2⟩ : ∃ n2, IntKind.i64.wrap (n1 + (q.a.size : Int)) = n2 := ⟨_, rfl⟩
    obtain ⟨n3, y3⟩ : ∃ n3, IntKind.i64.wrap (n2 + (q.e.size : Int)) = n3 := ⟨_, rfl⟩
    by_cases hg : 500 < n3
    · have e5 : decide (500 < n3) = true := decide_eq_true hg
      clear hg
      have hC := fun W => awake15_any S W
      obtain ⟨q0, q1, q2, q3, q4, q5, q6, q7⟩ := (row8 RQ.out).1
      go_wp2_with fail
      refine (hC _).mono ?_
      rintro e w2 ⟨rfl, hbq⟩
      clear q0 q1 q2 q3 q4 q5 q6 q7
      replace H0 := Lib.hid (H0.out.trans (hbq.mono H0.out.size))
      replace RQ := Lib.hid ((hbq.block _ (hlt RQ.out)).trans RQ.out)
      clear hC hbq
      have hbz := HE.out.trans (H0.out.mono HE.out.size)
      obtain ⟨q0, q1, q2, q3, q4, q5, q6, q7⟩ := (row8 RQ.out).1
      go_wp2
      go_ret
      exact ⟨rfl, hbz⟩
    have e5 : decide (500 < n3) = false := decide_eq_false hg
    clear hg
    have hC := made15_any S A len cap K w1 (HV.out.1.below H0.out) (by omega) HS.out
    obtain ⟨q0, q1, q2, q3, q4, q5, q6, q7⟩ := (row8 RQ.out).1
    go_wp2_with fail
    refine hC.mono ?_
    rintro e w2 ⟨u, R, n, c, xs, rfl, hM, hbq⟩
    clear q0 q1 q2 q3 q4 q5 q6 q7
    replace H0 := Lib.hid (H0.out.trans (hbq.mono H0.out.size))
    replace RQ := Lib.hid ((hbq.block _ (hlt RQ.out)).trans RQ.out)
    have HI := Lib.hid hM
    clear hM
    clear hC hbq
    have HF := Lib.hid (runK_fit K (show len ≤ 100 by omega))
    obtain ⟨l, hl⟩ : ∃ l, runK K len = l := ⟨_, rfl⟩
    rw [hl] at HI HF
    clear hl
    obtain ⟨W3, hW⟩ : ∃ W, w2.alloc (.cells #[.pointer u] 32) = W := ⟨_, rfl⟩
    have hbq : Below w2.heap.size w2 W3 := by rw [← hW]; exact (Below.refl _ _).alloc (Nat.le_refl _) _
    have hrq : Box W3 w2.heap.size u := by rw [← hW]; exact heap_alloc_new _ _
    have HW := Lib.hid hW
    clear hW
    replace H0 := Lib.hid (H0.out.trans (hbq.mono H0.out.size))
    replace RQ := Lib.hid ((hbq.block _ (hlt RQ.out)).trans RQ.out)
    replace HI := Lib.hid (HI.out.below hbq)
    have HX := Lib.hid hrq
    clear hbq hrq
    go_upto_region 4 with fail
    rw [HW.out]
    clear HW
    have hC := S.drop u l a b W3 HI.out.ix HF.out ha hb
    obtain ⟨q0, q1, q2, q3, q4, q5, q6, q7⟩ := (row8 RQ.out).1
    have bHX := HX.out.cell
    go_wp2_with fail
    refine hC.mono ?_
    rintro e w4 ⟨v, rfl, hD, hbq⟩
    clear q0 q1 q2 q3 q4 q5 q6 q7 bHX
    replace H0 := Lib.hid (H0.out.trans (hbq.mono H0.out.size))
    replace RQ := Lib.hid ((hbq.block _ (hlt RQ.out)).trans RQ.out)
    replace HX := Lib.hid (HX.out.below hbq)
    replace HI := Lib.hid (HI.out.below hbq)
    have HJ := Lib.hid hD
    clear hD
    clear hC hbq
    have HFd := Lib.hid (show Fit (Idx.dropI l a b) from ⟨Idx.drop_wf HF.out.wf a b, Nat.le_trans (List.length_filter_le _ _) HF.out.n, Nat.le_trans (Idx.sub_tot List.filter_sublist) HF.out.t⟩)
    obtain ⟨W5, hW⟩ : ∃ W, w4.alloc (.cells #[.pointer v] 32) = W := ⟨_, rfl⟩
    have hbq : Below w4.heap.size w4 W5 := by rw [← hW]; exact (Below.refl _ _).alloc (Nat.le_refl _) _
    have hrq : Box W5 w4.heap.size v := by rw [← hW]; exact heap_alloc_new _ _
    have HW := Lib.hid hW
    clear hW
    replace H0 := Lib.hid (H0.out.trans (hbq.mono H0.out.size))
    replace RQ := Lib.hid ((hbq.block _ (hlt RQ.out)).trans RQ.out)
    replace HX := Lib.hid (HX.out.below hbq)
    replace HI := Lib.hid (HI.out.below hbq)
    replace HJ := Lib.hid (HJ.out.below hbq)
    have HYb := Lib.hid hrq
    clear hbq hrq
    go_upto_region 7 with fail
    rw [HW.out]
    clear HW
    have hit : Idx.atI (Idx.dropI l a b) a b q.r 100000 = ([], 0) := by unfold Idx.atI; rw [Idx.items_dropped HF.out.wf a b q.r]; rfl
    have hch : Idx.changesI (Idx.dropI l a b) a b 0 1099511627776 100000 = [] := by unfold Idx.changesI; rw [Idx.all_dropped HF.out.wf a b]; rfl
    have HIT := Lib.hid (And.intro hit hch)
    clear hit hch
    have hC := S.at_ v (Idx.dropI l a b) a b q.r 100000 W5 HJ.out HFd.out ha hb
    rw [HIT.out.1] at hC
    dsimp only at hC
    obtain ⟨q0, q1, q2, q3, q4, q5, q6, q7⟩ := (row8 RQ.out).1
    have bHX := HX.out.cell
    have bHYb := HYb.out.cell
    go_wp2_with fail
    refine hC.mono ?_
    rintro e w6 ⟨R1, n1, c1, rfl, hO, hbq⟩
    clear q0 q1 q2 q3 q4 q5 q6 q7 bHX bHYb
    replace H0 := Lib.hid (H0.out.trans (hbq.mono H0.out.size))
    replace RQ := Lib.hid ((hbq.block _ (hlt RQ.out)).trans RQ.out)
    replace HX := Lib.hid (HX.out.below hbq)
    replace HYb := Lib.hid (HYb.out.below hbq)
    replace HI := Lib.hid (HI.out.below hbq)
    replace HJ := Lib.hid (HJ.out.below hbq)
    obtain rfl : n1 = 0 := by have h1 := hO.sp.1; rw [show rowI ([] : List (ByteArray × Ver)) = [] from rfl] at h1; simp at h1; omega
    clear hO
    clear hC hbq
    have hC := S.changes v (Idx.dropI l a b) a b 0 1099511627776 100000 w6 HJ.out HFd.out ha hb
    rw [HIT.out.2] at hC
    obtain ⟨q0, q1, q2, q3, q4, q5, q6, q7⟩ := (row8 RQ.out).1
    have bHX := HX.out.cell
    have bHYb := HYb.out.cell
    go_wp2_with fail
    refine hC.mono ?_
    rintro e w7 ⟨R2, n2, c2, ys2, rfl, hO, hy, hbq⟩
    clear q0 q1 q2 q3 q4 q5 q6 q7 bHX bHYb
    replace H0 := Lib.hid (H0.out.trans (hbq.mono H0.out.size))
    replace RQ := Lib.hid ((hbq.block _ (hlt RQ.out)).trans RQ.out)
    replace HX := Lib.hid (HX.out.below hbq)
    replace HYb := Lib.hid (HYb.out.below hbq)
    replace HI := Lib.hid (HI.out.below hbq)
    replace HJ := Lib.hid (HJ.out.below hbq)
    obtain rfl : n2 = 0 := by have h1 := hO.ba.len; have h2 := bats_len ys2; rw [hy] at h2; have h2 : 0 = ys2.length := h2; omega
    clear hO hy
    clear hC hbq
    have hC := S.at_ v (Idx.dropI l a b) q.a q.e q.r q.n w7 HJ.out HFd.out HZ.out.1 HZ.out.2
    obtain ⟨q0, q1, q2, q3, q4, q5, q6, q7⟩ := (row8 RQ.out).1
    have bHX := HX.out.cell
    have bHYb := HYb.out.cell
    go_wp2_with fail
    refine hC.mono ?_
    rintro e w8 ⟨R3, n3, c3, rfl, hO, hbq⟩
    clear q0 q1 q2 q3 q4 q5 q6 q7 bHX bHYb
    replace H0 := Lib.hid (H0.out.trans (hbq.mono H0.out.size))
    replace RQ := Lib.hid ((hbq.block _ (hlt RQ.out)).trans RQ.out)
    replace HX := Lib.hid (HX.out.below hbq)
    replace HYb := Lib.hid (HYb.out.below hbq)
    replace HI := Lib.hid (HI.out.below hbq)
    replace HJ := Lib.hid (HJ.out.below hbq)
    have HO3 := Lib.hid (show OwnI _ w8 R3 n3 c3 (Idx.atI (Idx.dropI l a b) q.a q.e q.r q.n).1 from hO)
    clear hO
    clear hC hbq
    go_upto_region 11 with fail
    refine wp_region_held_drew (S := (fun w' => w'.cell? ⟨w.heap.size, 0, none⟩ = some (.string q.a) ∧ w'.cell? ⟨w.heap.size, 1, none⟩ = some (.string q.e) ∧ w'.cell? ⟨w.heap.size, 3, none⟩ = some (.int .i64 q.r) ∧ w'.cell? ⟨w.heap.size, 6, none⟩ = some (.int .i64 q.n))) (by kernel_rfl) ⟨(row8 RQ.out).1.1, (row8 RQ.out).1.2.1, (row8 RQ.out).1.2.2.2.1, (row8 RQ.out).1.2.2.2.2.2.2.1⟩ (fun hHeld => ?_)
    refine lsq 18 ?_
    refine tkq 0 ?_
    refine tkq 1 ?_
    refine tkq 2 ?_
    refine tkq 4 ?_
    refine tkq 5 ?_
    refine tkq 6 ?_
    refine tkq 7 ?_
    refine tkq 8 ?_
    refine tkq 9 ?_
    refine tkq 10 ?_
    refine tkq 11 ?_
    have hI4 := HI.out.below (show Below w8.heap.size w8 w8.drew from (Below.refl _ _).drew)
    have hC := dropR15_any R n c xs a b w8.drew (hI4.g HF.out) ha hb
    refine rdq1 3 fun KK hK => ?_
    go_simp
    refine hC.mono ?_
    rintro e w30 ⟨R4, n4, c4, rfl, hO, hbq⟩
    have hbq := show Below w8.heap.size w8 w30 from ⟨hbq.os, hbq.tape, hbq.output, hbq.size, hbq.block⟩
    replace H0 := Lib.hid (H0.out.trans (hbq.mono H0.out.size))
    replace RQ := Lib.hid ((hbq.block _ (hlt RQ.out)).trans RQ.out)
    replace HX := Lib.hid (HX.out.below hbq)
    replace HYb := Lib.hid (HYb.out.below hbq)
    replace HI := Lib.hid (HI.out.below hbq)
    replace HJ := Lib.hid (HJ.out.below hbq)
    replace HO3 := Lib.hid (HO3.out.next hbq)
    have hDx : khs (xs.filter fun x => !Idx.inB a b x.k) = Idx.dropI l a b := by rw [← HI.out.e]; unfold khs Idx.dropI; rw [List.filter_map]; rfl
    have hGd := (show Both w30 v R4 n4 c4 (xs.filter fun x => !Idx.inB a b x.k) (Idx.dropI l a b) from ⟨HJ.out, hO.ix, hDx⟩).g HFd.out
    refine hK.out _ _ ⟨(row8 RQ.out).1.1, (row8 RQ.out).1.2.1, (row8 RQ.out).1.2.2.2.1, (row8 RQ.out).1.2.2.2.2.2.2.1⟩ ?_
    clear hK KK hHeld
    intro hHeld
    try simp only [lpq]
    clear hC hbq hI4 hO
    have hC := atR15_any R4 n4 c4 _ q.a q.e q.r q.n w30 hGd HZ.out.1 HZ.out.2
    rw [hDx] at hC
    refine rdq1 12 fun KK hK => ?_
    go_simp
    refine hC.mono ?_
    rintro e w31 ⟨R5, n5, c5, rfl, hO, hn, hbq⟩
    replace H0 := Lib.hid (H0.out.trans (hbq.mono H0.out.size))
    replace RQ := Lib.hid ((hbq.block _ (hlt RQ.out)).trans RQ.out)
    replace HX := Lib.hid (HX.out.below hbq)
    replace HYb := Lib.hid (HYb.out.below hbq)
    replace HI := Lib.hid (HI.out.below hbq)
    replace HJ := Lib.hid (HJ.out.below hbq)
    replace HO3 := Lib.hid (HO3.out.next hbq)
    clear hn
    have HO5 := Lib.hid (show OwnI _ w31 R5 n5 c5 (Idx.atI (Idx.dropI l a b) q.a q.e q.r q.n).1 from hO)
    clear hO
    refine hK.out _ _ ⟨(row8 RQ.out).1.1, (row8 RQ.out).1.2.1, (row8 RQ.out).1.2.2.2.1, (row8 RQ.out).1.2.2.2.2.2.2.1⟩ ?_
    clear hK KK hHeld
    intro hHeld
    try simp only [lpq]
    clear hC hbq hGd hDx
    refine tkq 13 ?_
    refine tkq 14 ?_
    refine tkq 15 ?_
    refine tkq 16 ?_
    refine tkq 17 ?_
    refine dnq ?_
    clear hHeld
    have hC := same_items (c1 := c3) (c2 := c5) HO3.out.sp.items HO5.out.sp.items rfl (by have := at_len (Idx.dropI l a b) q.a q.e q.r q.n; have := HFd.out.n; omega)
    go_wp2_with fail
    refine hC.mono ?_
    rintro e w9 ⟨rfl, hbq⟩
    replace H0 := Lib.hid (H0.out.trans (hbq.mono H0.out.size))
    replace RQ := Lib.hid ((hbq.block _ (hlt RQ.out)).trans RQ.out)
    replace HX := Lib.hid (HX.out.below hbq)
    replace HYb := Lib.hid (HYb.out.below hbq)
    replace HI := Lib.hid (HI.out.below hbq)
    replace HJ := Lib.hid (HJ.out.below hbq)
    replace HO3 := Lib.hid (HO3.out.next hbq)
    replace HO5 := Lib.hid (HO5.out.next hbq)
    clear hC hbq
    have hC := of15_any S u l w9 HI.out.ix HF.out
    have bHX := HX.out.cell
    go_wp2_with fail
    refine hC.mono ?_
    rintro e w10 ⟨R6, n6, c6, ys6, rfl, hO, hy, hbq⟩
    clear bHX
    replace H0 := Lib.hid (H0.out.trans (hbq.mono H0.out.size))
    replace RQ := Lib.hid ((hbq.block _ (hlt RQ.out)).trans RQ.out)
    replace HX := Lib.hid (HX.out.below hbq)
    replace HYb := Lib.hid (HYb.out.below hbq)
    replace HI := Lib.hid (HI.out.below hbq)
    replace HJ := Lib.hid (HJ.out.below hbq)
    replace HO3 := Lib.hid (HO3.out.next hbq)
    replace HO5 := Lib.hid (HO5.out.next hbq)
    have HO6 := Lib.hid (show OwnK w10 w10 R6 n6 c6 ys6 ∨ IxL w10 R6 n6 c6 ys6 from .inr hO)
    have h6 := hO
    clear hO
    clear hC hbq
    have hC := same_keys15 (c1 := c6) (c2 := c) h6 HI.out.dx hy HI.out.e HF.out
    clear HO6
    go_wp2_with fail
    refine hC.mono ?_
    rintro e w11 ⟨rfl, hbq⟩
    clear h6
    replace H0 := Lib.hid (H0.out.trans (hbq.mono H0.out.size))
    replace RQ := Lib.hid ((hbq.block _ (hlt RQ.out)).trans RQ.out)
    replace HX := Lib.hid (HX.out.below hbq)
    replace HYb := Lib.hid (HYb.out.below hbq)
    replace HI := Lib.hid (HI.out.below hbq)
    replace HJ := Lib.hid (HJ.out.below hbq)
    replace HO3 := Lib.hid (HO3.out.next hbq)
    replace HO5 := Lib.hid (HO5.out.next hbq)
    clear hC hbq
    have hbz := HE.out.trans (H0.out.mono HE.out.size)
    go_wp2
    go_ret
    exact ⟨rfl, hbz⟩


end Go.Proofs.Ytcoddkbbgmjckaa

namespace Go.Proofs.Ytcoddkbbgmjckaa.indexDrops
open Go.ChangeShapes Go.WideShapes Go.ChangeAt Go.RowKit Go.Proofs.Ytcoddkbbgmjckaa
set_option linter.unusedVariables false
set_option linter.unusedSimpArgs false

theorem own : ownKnob Try.prog.godebug = none := by kernel_rfl

set_option maxRecDepth 100000 in
theorem lifted (os : Os) (started : os.Started) (H : Type) (enc : TypeId × Value → H) :
    ReturnsInHanded {} Try.checked os 12 .any (Rows.indexDropsSpec.pre6 enc Try.prog Try.f12 Rows.indexDropsRow.domain false) (Rows.indexDropsSpec.post enc Try.prog Try.f12 false true false false) := by
  refine returnsInHanded_of_change (C := Try.checked) own started (by kernel_rfl) Try.func12
    (ChangeSpec.witness6 (enc := enc) (C := Try.checked) false ⟨#[], #[.slice none 0 0, .string ⟨#[]⟩, .string ⟨#[]⟩, .agg #[.string ⟨#[]⟩, .string ⟨#[]⟩, .string ⟨#[]⟩, .int .i64 0, .int .i64 0, .int .i64 0, .int .i64 0, .int .i64 0]], []⟩ 8 (by kernel_rfl) (by kernel_rfl) (by kernel_rfl) (by kernel_rfl)) ?_
  intro W base args ds gs before hval0 hW hcnd _
  have hval : ∀ (j : Nat) t v, Try.f12.params[j]? = some t → args[j]? = some v → Value.okWide Try.prog W .any base t v := hval0
  have hW' := hW
  obtain ⟨p, q, hA0, hV, rfl, hfz, hnd⟩ := hW
  have hA : DataW.TrodAll enc Try.prog W 0 (fun _ => true) true Try.f12.params.toList args.toList ds p := hA0
  rw [Try.params12] at hA hval
  obtain ⟨v0, vs0, d0, ds0, p0, q0, hargs, rfl, rfl, h0, r0⟩ := trodAll_cons hA
  obtain ⟨v1, vs1, d1, ds1, p1, q1, rfl, rfl, rfl, h1, r1⟩ := trodAll_cons r0
  obtain ⟨v2, vs2, d2, ds2, p2, q2, rfl, rfl, rfl, h2, r2⟩ := trodAll_cons r1
  obtain ⟨v3, vs3, d3, ds3, p3, q3, rfl, rfl, rfl, h3, r3⟩ := trodAll_cons r2
  obtain ⟨rfl, rfl, rfl⟩ := trodAll_nil r3
  obtain rfl : args = #[v0, v1, v2, v3] := by cases args; simp_all
  obtain ⟨rfl, rfl⟩ := trodVars_none hV
  obtain ⟨A0, len0, cap0, K0, rfl, hlc0, hm0, ha0, hw0⟩ := arg_iacts (hval 0 26 v0 rfl rfl) h0 (fun x hx => hW'.lt x (by simp [hx]))
  obtain ⟨s1, rfl, rfl, rfl, ws1⟩ := ChangeMaps.open_string Try.underlying9 (hval 1 9 v1 rfl rfl) h1
  obtain ⟨s2, rfl, rfl, rfl, ws2⟩ := ChangeMaps.open_string Try.underlying9 (hval 2 9 v2 rfl rfl) h2
  obtain ⟨q3, rfl, hq3⟩ := arg_iask (hval 3 47 v3 rfl rfl) h3 (fun x hx => hW'.lt x (by simp [hx]))
  have fin : ∀ W', Below W.heap.size W W' → Rows.indexDropsSpec.post enc Try.prog Try.f12 false true false false W #[.slice A0 len0 cap0, .string s1, .string s2, iaskV q3] (.bool true) W' :=
    fun W' hb => law_end (by kernel_rfl) (by decide +kernel) rfl rfl Try.underlying4 hW' rfl rfl rfl hb
  exact (indexDrops_walk says A0 len0 cap0 K0 s1 s2 q3 W ha0 (Nat.le_trans hlc0 hm0) hw0 ws1 ws2 hq3).mono fun e W' ⟨he, hb⟩ => ⟨_, he, fin W' hb⟩

theorem over : Rows.indexDropsRow.holds Try.pinned (OpenSpec.ofChange Rows.indexDropsSpec) :=
  OpenClaim.holds_of_wide 12 Try.f12 rfl rfl rfl rfl rfl rfl rfl ⟨rfl, rfl, rfl, rfl, rfl⟩ rfl rfl rfl rfl rfl (by kernel_rfl) Try.func12 (by kernel_rfl)
    (of_decide_eq_true (by kernel_rfl)) (by unfold Func.isWrapper; first | (rw [if_pos (by decide +kernel)]; kernel_rfl) | (rw [if_neg (by decide +kernel)]; exact ⟨rfl, rfl⟩))
    (fun os started H enc _ => lifted os started H enc)

theorem proved : Rows.IndexDropsSaid := over


end Go.Proofs.Ytcoddkbbgmjckaa.indexDrops
