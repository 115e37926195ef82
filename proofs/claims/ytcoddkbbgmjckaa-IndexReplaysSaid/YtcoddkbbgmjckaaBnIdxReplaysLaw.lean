/- IndexReplays: the changes of a range make of what was what is. For every input. -/
import Derived.Test.YtcoddkbbgmjckaaBn27
import Derived.Test.YtcoddkbbgmjckaaBn18
import Derived.Test.YtcoddkbbgmjckaaBn46
import Derived.ChangeMaps5
import Derived.BigQuiet
namespace Go.Proofs.Ytcoddkbbgmjckaa
open Go.RowKit
set_option linter.unusedVariables false
set_option linter.unusedSimpArgs false
attribute [local go_sem] Oper.semAt_some

set_option maxRecDepth 100000 in
set_option maxHeartbeats 6400000 in
theorem indexReplays_walk (S : Says) (A : Option Addr) (len cap : Nat) (K : Nat → Idx.IAct) (a b : ByteArray) (si : Int) (w : World) (hA : IActs w A len K) (hm : len ≤ maxLen) (hs : ∀ j, j < len → IActWf (K j)) (ha : a.size ≤ maxLen) (hb : b.size ≤ maxLen) :
    Calls Try.prog 8 #[.slice A len cap, .string a, .string b, .int .i64 si] w fun e w' => e = .returned (.bool true) ∧ Below w.heap.size w w' := by
  have HV := Lib.hid (And.intro hA hs)
  clear hA hs
  have H0 := Lib.hid (show Below w.heap.size w w from Below.refl _ _)
  go_enter Try.func8, Try.ntmps8
  have hC := awake15_any S w
  go_wp2_with fail
  refine hC.mono ?_
  rintro e w1 ⟨rfl, hbq⟩
  replace H0 := Lib.hid (H0.out.trans (hbq.mono H0.out.size))
  clear hC hbq
  have hC := fewI_any A len cap K 60 w1 (HV.out.1.below H0.out) hm HV.out.2 (by omega)
  go_wp2_with fail
  refine hC.mono ?_
  rintro e w1' ⟨b0, rfl, hb40, rfl⟩
  clear hC
  cases b0 with
  | false =>
    have hC := awake15_any S w1
    go_wp2_with fail
    refine hC.mono ?_
    rintro e w2 ⟨rfl, hbq⟩
    replace H0 := Lib.hid (H0.out.trans (hbq.mono H0.out.size))
    clear hC hbq
    have hbz := H0.out
    go_wp2
    go_ret
    exact ⟨rfl, hbz⟩
  | true =>
    obtain ⟨h60, hsh⟩ := hb40 rfl
    have HS := Lib.hid hsh
    clear hb40 hsh
    obtain ⟨n1, y1⟩ : ∃ n1, IntKind.i64.wrap ((a.size : Int) + (b.size : Int)) = n1 := ⟨_, rfl⟩
    by_cases hg : 500 < n1
    · have e5 : decide (500 < n1) = true := decide_eq_true hg
      clear hg
      have hC := awake15_any S w1
      go_wp2_with fail
      refine hC.mono ?_
      rintro e w2 ⟨rfl, hbq⟩
      replace H0 := Lib.hid (H0.out.trans (hbq.mono H0.out.size))
      clear hC hbq
      have hbz := H0.out
      go_wp2
      go_ret
      exact ⟨rfl, hbz⟩
    have e5 : decide (500 < n1) = false := decide_eq_false hg
    clear hg
    by_cases hg : si < 2
    · have e6 : decide (si < 2) = true := decide_eq_true hg
      clear hg
      have hC := awake15_any S w1
      go_wp2_with fail
      refine hC.mono ?_
      rintro e w2 ⟨rfl, hbq⟩
      replace H0 := Lib.hid (H0.out.trans (hbq.mono H0.out.size))
      clear hC hbq
      have hbz := H0.out
      go_wp2
      go_ret
      exact ⟨rfl, hbz⟩
    have e6 : decide (si < 2) = false := decide_eq_false hg
    have hs2 : 2 ≤ si := by omega
    clear hg
    by_cases hg : 1099511627776 < si
    · have e7 : decide (1099511627776 < si) = true := decide_eq_true hg
      clear hg
      have hC := awake15_any S w1
      go_wp2_with fail
      refine hC.mono ?_
      rintro e w2 ⟨rfl, hbq⟩
      replace H0 := Lib.hid (H0.out.trans (hbq.mono H0.out.size))
      clear hC hbq
      have hbz := H0.out
      go_wp2
      go_ret
      exact ⟨rfl, hbz⟩
    have e7 : decide (1099511627776 < si) = false := decide_eq_false hg
    have HSI := Lib.hid (show 2 ≤ si ∧ si ≤ 1099511627776 from ⟨hs2, by omega⟩)
    have k9 : IntKind.i64.wrap (si - 1) = si - 1 := IntWalk.i64_in _ (by omega)
    clear hg hs2
    have hC := made15_any S A len cap K w1 (HV.out.1.below H0.out) (by omega) HS.out
    go_wp2_with fail
    refine hC.mono ?_
    rintro e w2 ⟨u, R, n, c, xs, rfl, hM, hbq⟩
    replace H0 := Lib.hid (H0.out.trans (hbq.mono H0.out.size))
    have HI := Lib.hid hM
    clear hM
    clear hC hbq
    have HF := Lib.hid (runK_fit K (show len ≤ 100 by omega))
    obtain ⟨l, hl⟩ : ∃ l, runK K len = l := ⟨_, rfl⟩
    rw [hl] at HI HF
    clear hl
    obtain ⟨W3, hW⟩ : ∃ W, w2.alloc (.cells #[.pointer u] 32) = W := ⟨_, rfl⟩
    have hbq : Below w2.heap.size w2 W3 := by rw [← hW]; exact (Below.refl _ _).alloc (Nat.le_refl _) _
    have hrq : Box W3 w2.heap.size u := by rw [← hW]; exact heap_alloc_new _ _
    have HW := Lib.hid hW
    clear hW
    replace H0 := Lib.hid (H0.out.trans (hbq.mono H0.out.size))
    replace HI := Lib.hid (HI.out.below hbq)
    have HX := Lib.hid hrq
    clear hbq hrq
    go_upto_region 4 with fail
    rw [HW.out]
    clear HW
    have HLE := Lib.hid (show l.length ≤ 1000 from HF.out.n)
    have HTK := Lib.hid (show ∀ r, (Idx.atI l a b r 1000).1 = Idx.itemsI l r (Idx.inB a b) from fun r => by
      show List.take _ _ = _
      rw [List.take_of_length_le]
      have h1 := Idx.items_len l r (Idx.inB a b)
      have h2 := HLE.out
      show _ ≤ 1000
      omega)
    have hC := S.at_ u l a b (si - 1) 1000 W3 HI.out.ix HF.out ha hb
    have bHX := HX.out.cell
    go_wp2_with fail
    refine hC.mono ?_
    rintro e w4 ⟨R0, m0, d0, rfl, hO, hbq⟩
    clear bHX
    replace H0 := Lib.hid (H0.out.trans (hbq.mono H0.out.size))
    replace HX := Lib.hid (HX.out.below hbq)
    replace HI := Lib.hid (HI.out.below hbq)
    have HO0 := Lib.hid (show OwnI _ w4 R0 m0 d0 (Idx.itemsI l (si - 1) (Idx.inB a b)) from by have q := hO; rw [HTK.out] at q; exact q)
    clear hO
    clear hC hbq
    have hcl : Idx.changesI l a b si 1099511627776 100000 = (Idx.allI l (Idx.inB a b) si 1099511627776) := by
      unfold Idx.changesI
      refine Idx.cut_all _ _ _ _ ?_
      have h1 := Idx.all_lens l (Idx.inB a b) si 1099511627776
      have h2 := HF.out.t
      omega
    have HCL := Lib.hid hcl
    clear hcl
    have hC := S.changes u l a b si 1099511627776 100000 w4 HI.out.ix HF.out ha hb
    rw [HCL.out] at hC
    have bHX := HX.out.cell
    go_wp2_with fail
    refine hC.mono ?_
    rintro e w5 ⟨R9, n9, c9, ys9, rfl, hO, hy, hbq⟩
    clear bHX
    replace H0 := Lib.hid (H0.out.trans (hbq.mono H0.out.size))
    replace HX := Lib.hid (HX.out.below hbq)
    replace HI := Lib.hid (HI.out.below hbq)
    replace HO0 := Lib.hid (HO0.out.next hbq)
    have HO9 := Lib.hid (show OwnB _ w5 R9 n9 c9 ys9 from hO)
    have HE9 := Lib.hid (show bats ys9 = (Idx.allI l (Idx.inB a b) si 1099511627776) from hy)
    clear hO hy
    clear hC hbq
    have hln := Nat.le_trans (Idx.all_lens l (Idx.inB a b) si 1099511627776) HF.out.t
    obtain ⟨BS, hBS⟩ : ∃ BS, (Idx.allI l (Idx.inB a b) si 1099511627776) = BS := ⟨_, rfl⟩
    rw [hBS] at HE9 hln
    have HBS := Lib.hid hBS
    obtain ⟨now0, hnow0⟩ : ∃ now0, (Idx.itemsI l (si - 1) (Idx.inB a b)) = now0 := ⟨_, rfl⟩
    have hn0 : now0.length ≤ 1000 := by rw [← hnow0]; exact Nat.le_trans (Idx.items_len _ _ _) HF.out.n
    rw [hnow0] at HO0
    have HN0 := Lib.hid hnow0
    have HLN := Lib.hid (And.intro hln hn0)
    clear hBS hnow0 hln hn0
    have hb9 : BS.length = n9 := by rw [← HE9.out, bats_len]; exact HO9.out.ba.len
    have hn9 : n9 ≤ 100000 := by have h1 := bats_len ys9; have h3 := (chg_small HF.out a b si 1099511627776 100000).1; rw [HCL.out, HBS.out] at h3; omega
    have HB9 := Lib.hid hb9
    clear hb9
    go_wp2_with fail
    go_loopw [12, 71] (fun v12 v71 wr => ∃ k : Nat, k ≤ n9 ∧ v71 = .int .i64 (k : Int) ∧ ∃ R m d, v12 = .slice R m d ∧ ItemsR wr R m (Idx.replay now0 (BS.take k)) ∧ Below w5.heap.size w5 wr) (fun _ v71 _ => n9 - (intOf v71).toNat)
    case atStart => exact ⟨0, Nat.zero_le _, rfl, R0, m0, d0, rfl, HO0.out.sp.items, Below.refl _ _⟩
    case round =>
      obtain ⟨k, hk, rfl, Rn, mn, dn, rfl, hN, hb⟩ := hrel
      have HK := Lib.hid (And.intro hN hb)
      clear hN hb
      by_cases hlt : k < n9
      · have l1 : decide ((k : Int) < (n9 : Int)) = true := decide_eq_true (by omega)
        have k4 : (k : Int) < (n9 : Int) := by omega
        obtain ⟨xb, hxb⟩ : ∃ xb, ys9[k]'(by rw [HO9.out.ba.len]; exact hlt) = xb := ⟨_, rfl⟩
        have hxm : xb ∈ ys9 := by rw [← hxb]; exact List.getElem_mem _
        have hbk : BS[k]'(by rw [HB9.out]; exact hlt) = xb.b := by have h1 := bats_get ys9 k (by rw [HO9.out.ba.len]; exact hlt); rw [hxb] at h1; rw [← h1]; simp only [← HE9.out]
        have hrn := replay_next BS now0 (show k < BS.length by rw [HB9.out]; exact hlt)
        rw [hbk] at hrn
        have hll : Idx.lens (BS.take k) + xb.ls.length ≤ 100000 := by
          have h1 : Idx.lens (BS.take (k + 1)) ≤ Idx.lens BS := by
            have h2 : Idx.lens BS = Idx.lens (BS.take (k + 1)) + Idx.lens (BS.drop (k + 1)) := by (conv => lhs; rw [← List.take_append_drop (k + 1) BS]); unfold Idx.lens; rw [List.map_append, List.sum_append]
            omega
          have h3 : Idx.lens (BS.take (k + 1)) = Idx.lens (BS.take k) + xb.ls.length := by rw [List.take_succ_eq_append_getElem (by rw [HB9.out]; exact hlt), hbk]; unfold Idx.lens; rw [List.map_append, List.sum_append]; simp [BLay.b]
          have h4 := HLN.out.1
          omega
        have HRN := Lib.hid hrn
        have HLL := Lib.hid hll
        have HXB := Lib.hid (show ∀ W : World, Below w5.heap.size w5 W → (∃ g off, R9 = some ⟨g, off, none⟩ ∧ W.cell? ⟨g, off + k * 2 + 1, none⟩ = some (.slice xb.B xb.ls.length xb.c)) ∧ ItemsR W xb.B xb.ls.length xb.ls from fun W hW => by
          obtain ⟨g, off, e, _, _, h1⟩ := (HO9.out.next hW).ba.at_ k hlt
          rw [hxb] at h1
          exact ⟨⟨g, off, e, h1⟩, (HO9.out.next hW).ba.its xb hxm⟩)
        clear hxb hxm hbk hrn hll
        obtain ⟨g, off, hR9, d1⟩ := (HXB.out wr HK.out.2).1
        subst hR9
        obtain ⟨base, hbase⟩ : ∃ base, Idx.replay now0 (BS.take k) = base := ⟨_, rfl⟩
        have hbl : base.length ≤ 1000 + Idx.lens (BS.take k) := by rw [← hbase]; have h1 := replay_len (BS.take k) now0; have h2 := HLN.out.2; omega
        rw [hbase] at HK HRN
        have HBL := Lib.hid hbl
        clear hbase hbl
        obtain ⟨hn, hhn⟩ : ∃ hn, xb.ls.length = hn := ⟨_, rfl⟩
        rw [hhn] at d1
        have HHN := Lib.hid hhn
        have hnb : hn ≤ 100000 := by have h1 := HLL.out; omega
        clear hhn
        go_wp2_with fail
        go_loopw [12, 80] (fun v12 v80 wr => ∃ i : Nat, i ≤ hn ∧ v80 = .int .i64 (i : Int) ∧ ∃ R m d, v12 = .slice R m d ∧ ItemsR wr R m ((xb.ls.take i).foldl Idx.stepN base) ∧ Below w5.heap.size w5 wr) (fun _ v80 _ => hn - (intOf v80).toNat)
        case atStart => exact ⟨0, Nat.zero_le _, rfl, Rn, mn, dn, rfl, HK.out.1, HK.out.2⟩
        case round =>
          clear d1
          obtain ⟨i, hi, rfl, R, m, d, rfl, hN, hb⟩ := hrel
          have HM := Lib.hid (And.intro hN hb)
          clear hN hb
          by_cases hlti : i < hn
          · have l2 : decide ((i : Int) < (hn : Int)) = true := decide_eq_true (by omega)
            have k5 : (i : Int) < (hn : Int) := by omega
            obtain ⟨⟨g', off', e', d1⟩, hits⟩ := HXB.out wr HM.out.2
            injection e' with e'
            injection e' with e1 e2
            subst e1 e2
            have hfn := fold_next xb.ls base (show i < xb.ls.length by rw [HHN.out]; exact hlti)
            obtain ⟨g3, off3, eB, hg3, q0, q1, q2, q3, q4, q5, q6, q7⟩ := hits.2 i (by rw [HHN.out]; exact hlti)
            obtain ⟨y, hy⟩ : ∃ y, xb.ls[i]'(by rw [HHN.out]; exact hlti) = y := ⟨_, rfl⟩
            rw [hy] at q0 q1 q2 q3 q4 q5 q6 q7 hfn
            rw [HHN.out, eB] at d1
            obtain ⟨yk, yr, yq, ym, yv, ys, yl, yg⟩ := y
            dsimp only at q0 q1 q2 q3 q4 q5 q6 q7
            have HFN := Lib.hid hfn
            clear hits eB hy hfn
            obtain ⟨now, hnow⟩ : ∃ now, (xb.ls.take i).foldl Idx.stepN base = now := ⟨_, rfl⟩
            have hnb2 : now.length ≤ 102000 := by rw [← hnow]; have h1 := fold_stepN_len (xb.ls.take i) base; rw [List.length_take] at h1; have h2 := HBL.out; have h3 := HLL.out; omega
            rw [hnow] at HM HFN
            have HNB := Lib.hid hnb2
            have HNL := Lib.hid HM.out.1.1
            clear hnow hnb2
            have hmb : m ≤ 102000 := by have h1 := HNL.out; have h2 := HNB.out; omega
            obtain ⟨wB, hwB⟩ : ∃ W, wr.alloc (.cells #[.string yk, .int .i64 yr, .int .i64 yq, .int .i64 ym, .int .i64 yv, .string ys, .int .i64 yl, .bool yg] 62) = W := ⟨_, rfl⟩
            have hrB : wB.heap[wr.heap.size]? = some (.cells #[.string yk, .int .i64 yr, .int .i64 yq, .int .i64 ym, .int .i64 yv, .string ys, .int .i64 yl, .bool yg] 62) := by rw [← hwB]; exact heap_alloc_new _ _
            have hbB : Below wr.heap.size wr wB := by rw [← hwB]; exact (Below.refl _ _).alloc (Nat.le_refl _) _
            have HWB := Lib.hid hwB
            have HYB := Lib.hid (show ∀ W : World, Below wB.heap.size wB W → W.heap[wr.heap.size]? = some (.cells #[.string yk, .int .i64 yr, .int .i64 yq, .int .i64 ym, .int .i64 yv, .string ys, .int .i64 yl, .bool yg] 62) from fun W hW => (hW.block _ (Go.Proofs.Ytcoddkbbgmjckaa.hlt hrB)).trans hrB)
            have HNW := Lib.hid (show ∀ W : World, Below wB.heap.size wB W → ItemsR W R m now from fun W hW => (HM.out.1.below hbB).below hW)
            have HBB := Lib.hid (HM.out.2.trans (hbB.mono HM.out.2.size))
            clear hwB hrB hbB
            go_upto_region 15 with fail
            rw [HWB.out]
            clear HWB d1 q0 q1 q2 q3 q4 q5 q6 q7
            go_wp2_with fail
            go_loopw [18, 93] (fun v18 v93 wr => ∃ j : Nat, j ≤ m ∧ v93 = .int .i64 (j : Int) ∧ ∃ R1 m1 d1, v18 = .slice R1 m1 d1 ∧ OwnI wB wr R1 m1 d1 ([] ++ (now.take j).filter (fun p : ByteArray × Ver => ltS p.1 yk)) ∧ Below wB.heap.size wB wr) (fun _ v93 _ => m - (intOf v93).toNat)
            case atStart => exact ⟨0, Nat.zero_le _, rfl, none, 0, 0, rfl, OwnR.none _ _ _ _, Below.refl _ _⟩
            case round =>
              obtain ⟨j, hj, rfl, R1, m1, d1, rfl, hO, hb⟩ := hrel
              have HO := Lib.hid (And.intro hO hb)
              have hm1 : m1 ≤ 500000 := by have h1 := hO.sp.1; rw [rowI_len, List.length_append] at h1; (try rw [List.length_nil] at h1); have h2 := List.length_filter_le (fun p : ByteArray × Ver => ltS p.1 yk) (now.take j); rw [List.length_take] at h2; have h3 := HNB.out; omega
              clear hO hb
              by_cases hltj : j < m
              · have l3 : decide ((j : Int) < (m : Int)) = true := decide_eq_true (by omega)
                have k6 : (j : Int) < (m : Int) := by omega
                have htf := take_filter_item (fun p : ByteArray × Ver => ltS p.1 yk) (show j < now.length by rw [HNL.out]; exact hltj)
                obtain ⟨g1, off1, rfl, hg1, c0, c1, c2, c3, c4, c5, c6, c7⟩ := (HNW.out wr HO.out.2).2 j (by rw [HNL.out]; exact hltj)
                obtain ⟨p, hp⟩ : ∃ p, now[j]'(by rw [HNL.out]; exact hltj) = p := ⟨_, rfl⟩
                rw [hp] at c0 c1 c2 c3 c4 c5 c6 c7 htf
                obtain ⟨pk, pr, pq, pm, pv, ps, pl, pg⟩ := p
                dsimp only at c0 c1 c2 c3 c4 c5 c6 c7 htf
                have HTF := Lib.hid htf
                clear htf hp
                obtain ⟨y0, y1, y2, y3, y4, y5, y6, y7⟩ := (row8 (HYB.out wr HO.out.2)).1
                cases hq : ltS pk yk with
                | false =>
                  have e1 : Op.bytesLess pk.toList yk.toList = false := hq
                  have HQ := Lib.hid hq
                  clear hq
                  go_wp2_with fail
                  go_big_quiet (fail)
                  go_wp2
                  go_roundw
                  case rel => exact ⟨j + 1, by omega, by go_num, R1, m1, d1, rfl, by rw [HTF.out, HQ.out, if_neg (by decide), List.append_nil]; exact HO.out.1.next (show Below wr.heap.size wr _ from below_drewN (Below.refl _ _) _), HO.out.2.trans ((show Below wr.heap.size wr _ from below_drewN (Below.refl _ _) _).mono HO.out.2.size)⟩
                  case measure =>
                    simp [intOf]
                    omega
                | true =>
                  have e1 : Op.bytesLess pk.toList yk.toList = true := hq
                  have HQ := Lib.hid hq
                  have h1c : ∀ u ∈ ([.string pk, .int .i64 pr, .int .i64 pq, .int .i64 pm, .int .i64 pv, .string ps, .int .i64 pl, .bool pg] : List Value), u.oneCell' = true := fun u hu => itemC_one ((pk, ⟨pr, pq, pm, pv, ps, pl, pg⟩) : ByteArray × Ver) u hu
                  clear hq
                  go_wp2_with fail
                  go_big_quiet (fail)
                  go_wp2_with (at_builtin
                               go_loud (refine wpList_append_sp elem_item _ rfl _ _ rfl R1 m1 d1 (rowI ([] ++ (now.take j).filter (fun p : ByteArray × Ver => ltS p.1 yk))) rfl (HO.out.1.sp.keep fun q hq => (show Below wr.heap.size wr _ from (by repeat (first | exact Below.refl _ _ | apply Below.drew | apply below_drewN | refine Below.alloc ?_ (by simp) _))).block q (HO.out.1.sp.lt hq)) _ 1 1 [.string pk, .int .i64 pr, .int .i64 pq, .int .i64 pm, .int .i64 pv, .string ps, .int .i64 pl, .bool pg] rfl (fun e => by cases e) rfl h1c (fun b e => by cases e; exact cells_lit (C := [.string pk, .int .i64 pr, .int .i64 pq, .int .i64 pm, .int .i64 pv, .string ps, .int .i64 pl, .bool pg]) (heap_alloc_new _ _)) (by omega) ?_)
                               intro A8 c8 w8 hsp8 hA8 hg8
                               have hP := HO.out.1.push HO.out.2 (show Below wr.heap.size wr _ from (by repeat (first | exact Below.refl _ _ | apply Below.drew | apply below_drewN | refine Below.alloc ?_ (by simp) _))) hg8 hsp8 hA8)
                  have HP := Lib.hid (show OwnI wB w8 A8 (m1 + 1) c8 ([] ++ (now.take (j + 1)).filter (fun p : ByteArray × Ver => ltS p.1 yk)) ∧ Below wB.heap.size wB w8 from ⟨by rw [HTF.out, HQ.out, if_pos rfl, ← List.append_assoc]; show OwnR _ _ _ _ _ _ _ (rowI _); rw [rowI_add]; exact hP.1, hP.2⟩)
                  clear hP hsp8 hA8 hg8
                  go_roundw
                  case rel => exact ⟨j + 1, by omega, by go_num, A8, m1 + 1, c8, rfl, HP.out⟩
                  case measure =>
                    simp [intOf]
                    omega
              · obtain rfl : m = j := by omega
                have l3 : decide ((m : Int) < (m : Int)) = false := decide_eq_false (by omega)
                have hO1 := HO.out.1
                rw [List.take_of_length_le (by rw [HNL.out]; omega)] at hO1
                have HN := Lib.hid (And.intro hO1 HO.out.2)
                clear hO1
                obtain ⟨y0, y1, y2, y3, y4, y5, y6, y7⟩ := (row8 (HYB.out wr HN.out.2)).1
                have hpl : m1 ≤ 102000 := by have h1 := HN.out.1.sp.1; rw [rowI_len, List.nil_append] at h1; have h2 := List.length_filter_le (fun p : ByteArray × Ver => ltS p.1 yk) now; have h3 := HNB.out; omega
                cases yg with
                | true =>
                  have HPL := Lib.hid (show (now.filter (fun p : ByteArray × Ver => ltS p.1 yk)).length ≤ 102000 from Nat.le_trans (List.length_filter_le _ _) HNB.out)
                  obtain ⟨R5, m5, d5, e5⟩ : ∃ R5 m5 d5, R1 = R5 ∧ m1 = m5 ∧ d1 = d5 := ⟨_, _, _, rfl, rfl, rfl⟩
                  obtain ⟨rfl, rfl, rfl⟩ := e5
                  have HN := Lib.hid (show OwnI wB wr R1 m1 d1 (now.filter (fun p : ByteArray × Ver => ltS p.1 yk)) ∧ Below wB.heap.size wB wr from HN.out)
                  go_wp2_with fail
                  go_loopw [18, 122] (fun v18 v122 wr => ∃ j : Nat, j ≤ m ∧ v122 = .int .i64 (j : Int) ∧ ∃ R1 m1 d1, v18 = .slice R1 m1 d1 ∧ OwnI wB wr R1 m1 d1 ((now.filter (fun p : ByteArray × Ver => ltS p.1 yk)) ++ (now.take j).filter (fun p : ByteArray × Ver => ltS yk p.1)) ∧ Below wB.heap.size wB wr) (fun _ v122 _ => m - (intOf v122).toNat)
                  case atStart => exact ⟨0, Nat.zero_le _, rfl, R1, m1, d1, rfl, by simpa using HN.out.1, HN.out.2⟩
                  case round =>
                    obtain ⟨j, hj, rfl, R1, m1, d1, rfl, hO, hb⟩ := hrel
                    have HO := Lib.hid (And.intro hO hb)
                    have hm1 : m1 ≤ 500000 := by have h1 := hO.sp.1; rw [rowI_len, List.length_append] at h1; (try rw [List.length_nil] at h1); have h2 := List.length_filter_le (fun p : ByteArray × Ver => ltS yk p.1) (now.take j); rw [List.length_take] at h2; have h3 := HNB.out; have h4 := HPL.out; omega
                    clear hO hb
                    by_cases hltj : j < m
                    · have l3 : decide ((j : Int) < (m : Int)) = true := decide_eq_true (by omega)
                      have k6 : (j : Int) < (m : Int) := by omega
                      have htf := take_filter_item (fun p : ByteArray × Ver => ltS yk p.1) (show j < now.length by rw [HNL.out]; exact hltj)
                      obtain ⟨g1, off1, rfl, hg1, c0, c1, c2, c3, c4, c5, c6, c7⟩ := (HNW.out wr HO.out.2).2 j (by rw [HNL.out]; exact hltj)
                      obtain ⟨p, hp⟩ : ∃ p, now[j]'(by rw [HNL.out]; exact hltj) = p := ⟨_, rfl⟩
                      rw [hp] at c0 c1 c2 c3 c4 c5 c6 c7 htf
                      obtain ⟨pk, pr, pq, pm, pv, ps, pl, pg⟩ := p
                      dsimp only at c0 c1 c2 c3 c4 c5 c6 c7 htf
                      have HTF := Lib.hid htf
                      clear htf hp
                      obtain ⟨y0, y1, y2, y3, y4, y5, y6, y7⟩ := (row8 (HYB.out wr HO.out.2)).1
                      cases hq : ltS yk pk with
                      | false =>
                        have e1 : (!(Op.bytesLess pk.toList yk.toList || pk.toList == yk.toList)) = false := by rw [gt_is, hq]
                        have HQ := Lib.hid hq
                        clear hq
                        go_wp2_with fail
                        go_big_quiet (fail)
                        go_wp2
                        go_roundw
                        case rel => exact ⟨j + 1, by omega, by go_num, R1, m1, d1, rfl, by rw [HTF.out, HQ.out, if_neg (by decide), List.append_nil]; exact HO.out.1.next (show Below wr.heap.size wr _ from below_drewN (Below.refl _ _) _), HO.out.2.trans ((show Below wr.heap.size wr _ from below_drewN (Below.refl _ _) _).mono HO.out.2.size)⟩
                        case measure =>
                          simp [intOf]
                          omega
                      | true =>
                        have e1 : (!(Op.bytesLess pk.toList yk.toList || pk.toList == yk.toList)) = true := by rw [gt_is, hq]
                        have HQ := Lib.hid hq
                        have h1c : ∀ u ∈ ([.string pk, .int .i64 pr, .int .i64 pq, .int .i64 pm, .int .i64 pv, .string ps, .int .i64 pl, .bool pg] : List Value), u.oneCell' = true := fun u hu => itemC_one ((pk, ⟨pr, pq, pm, pv, ps, pl, pg⟩) : ByteArray × Ver) u hu
                        clear hq
                        go_wp2_with fail
                        go_big_quiet (fail)
                        go_wp2_with (at_builtin
                                     go_loud (refine wpList_append_sp elem_item _ rfl _ _ rfl R1 m1 d1 (rowI ((now.filter (fun p : ByteArray × Ver => ltS p.1 yk)) ++ (now.take j).filter (fun p : ByteArray × Ver => ltS yk p.1))) rfl (HO.out.1.sp.keep fun q hq => (show Below wr.heap.size wr _ from (by repeat (first | exact Below.refl _ _ | apply Below.drew | apply below_drewN | refine Below.alloc ?_ (by simp) _))).block q (HO.out.1.sp.lt hq)) _ 1 1 [.string pk, .int .i64 pr, .int .i64 pq, .int .i64 pm, .int .i64 pv, .string ps, .int .i64 pl, .bool pg] rfl (fun e => by cases e) rfl h1c (fun b e => by cases e; exact cells_lit (C := [.string pk, .int .i64 pr, .int .i64 pq, .int .i64 pm, .int .i64 pv, .string ps, .int .i64 pl, .bool pg]) (heap_alloc_new _ _)) (by omega) ?_)
                                     intro A8 c8 w8 hsp8 hA8 hg8
                                     have hP := HO.out.1.push HO.out.2 (show Below wr.heap.size wr _ from (by repeat (first | exact Below.refl _ _ | apply Below.drew | apply below_drewN | refine Below.alloc ?_ (by simp) _))) hg8 hsp8 hA8)
                        have HP := Lib.hid (show OwnI wB w8 A8 (m1 + 1) c8 ((now.filter (fun p : ByteArray × Ver => ltS p.1 yk)) ++ (now.take (j + 1)).filter (fun p : ByteArray × Ver => ltS yk p.1)) ∧ Below wB.heap.size wB w8 from ⟨by rw [HTF.out, HQ.out, if_pos rfl, ← List.append_assoc]; show OwnR _ _ _ _ _ _ _ (rowI _); rw [rowI_add]; exact hP.1, hP.2⟩)
                        clear hP hsp8 hA8 hg8
                        go_roundw
                        case rel => exact ⟨j + 1, by omega, by go_num, A8, m1 + 1, c8, rfl, HP.out⟩
                        case measure =>
                          simp [intOf]
                          omega
                    · obtain rfl : m = j := by omega
                      have l3 : decide ((m : Int) < (m : Int)) = false := decide_eq_false (by omega)
                      have hO1 := HO.out.1
                      rw [List.take_of_length_le (by rw [HNL.out]; omega)] at hO1
                      have HN := Lib.hid (And.intro hO1 HO.out.2)
                      clear hO1
                      have HE := Lib.hid (show ItemsR wr R1 m1 ((xb.ls.take (i + 1)).foldl Idx.stepN base) ∧ Below w5.heap.size w5 wr from ⟨by rw [HFN.out]; have q := HN.out.1.sp.items; rw [show ((now.filter (fun p : ByteArray × Ver => ltS p.1 yk)) ++ now.filter (fun p : ByteArray × Ver => ltS yk p.1)) = Idx.stepN now ((yk, ⟨yr, yq, ym, yv, ys, yl, true⟩) : ByteArray × Ver) from by unfold Idx.stepN; simp] at q; exact q, HBB.out.trans (HN.out.2.mono HBB.out.size)⟩)
                      go_wp2
                      go_roundw
                      case rel => exact ⟨i + 1, by omega, by go_num, R1, m1, d1, rfl, HE.out⟩
                      case measure =>
                        simp [intOf]
                        omega
                | false =>
                  have h1c : ∀ u ∈ ([.string yk, .int .i64 yr, .int .i64 yq, .int .i64 ym, .int .i64 yv, .string ys, .int .i64 yl, .bool false] : List Value), u.oneCell' = true := fun u hu => itemC_one ((yk, ⟨yr, yq, ym, yv, ys, yl, false⟩) : ByteArray × Ver) u hu
                  have HPL := Lib.hid (show ((now.filter (fun p : ByteArray × Ver => ltS p.1 yk)) ++ [((yk, ⟨yr, yq, ym, yv, ys, yl, false⟩) : ByteArray × Ver)]).length ≤ 102001 from by rw [List.length_append]; have h1 := List.length_filter_le (fun p : ByteArray × Ver => ltS p.1 yk) now; have h2 := HNB.out; simp only [List.length_singleton]; omega)
                  go_upto_region 24 with (at_builtin
                                          go_loud (refine wpList_append_sp elem_item _ rfl _ _ rfl R1 m1 d1 (rowI (now.filter (fun p : ByteArray × Ver => ltS p.1 yk))) rfl (HN.out.1.sp.keep fun q hq => (show Below wr.heap.size wr _ from (by repeat (first | exact Below.refl _ _ | apply Below.drew | apply below_drewN | refine Below.alloc ?_ (by simp) _))).block q (HN.out.1.sp.lt hq)) _ 1 1 [.string yk, .int .i64 yr, .int .i64 yq, .int .i64 ym, .int .i64 yv, .string ys, .int .i64 yl, .bool false] rfl (fun e => by cases e) rfl h1c (fun b e => by cases e; exact cells_lit (C := [.string yk, .int .i64 yr, .int .i64 yq, .int .i64 ym, .int .i64 yv, .string ys, .int .i64 yl, .bool false]) (heap_alloc_new _ _)) (by omega) ?_)
                                          intro R5 d5 w8 hsp8 hA8 hg8
                                          have hP := HN.out.1.push HN.out.2 (show Below wr.heap.size wr _ from (by repeat (first | exact Below.refl _ _ | apply Below.drew | apply below_drewN | refine Below.alloc ?_ (by simp) _))) hg8 hsp8 hA8)
                  have HN := Lib.hid (show OwnI wB w8 R5 (m1 + 1) d5 ((now.filter (fun p : ByteArray × Ver => ltS p.1 yk)) ++ [((yk, ⟨yr, yq, ym, yv, ys, yl, false⟩) : ByteArray × Ver)]) ∧ Below wB.heap.size wB w8 from ⟨by show OwnR _ _ _ _ _ _ _ (rowI _); rw [rowI_add]; exact hP.1, hP.2⟩)
                  clear hP hsp8 hA8 hg8 y0 y1 y2 y3 y4 y5 y6 y7 h1c
                  obtain ⟨m5, hm5⟩ : ∃ m5, m1 + 1 = m5 := ⟨_, rfl⟩
                  rw [hm5] at HN ⊢
                  clear hm5
                  go_wp2_with fail
                  go_loopw [18, 122] (fun v18 v122 wr => ∃ j : Nat, j ≤ m ∧ v122 = .int .i64 (j : Int) ∧ ∃ R1 m1 d1, v18 = .slice R1 m1 d1 ∧ OwnI wB wr R1 m1 d1 (((now.filter (fun p : ByteArray × Ver => ltS p.1 yk)) ++ [((yk, ⟨yr, yq, ym, yv, ys, yl, false⟩) : ByteArray × Ver)]) ++ (now.take j).filter (fun p : ByteArray × Ver => ltS yk p.1)) ∧ Below wB.heap.size wB wr) (fun _ v122 _ => m - (intOf v122).toNat)
                  case atStart => exact ⟨0, Nat.zero_le _, rfl, R5, m5, d5, rfl, by simpa using HN.out.1, HN.out.2⟩
                  case round =>
                    obtain ⟨j, hj, rfl, R1, m1, d1, rfl, hO, hb⟩ := hrel
                    have HO := Lib.hid (And.intro hO hb)
                    have hm1 : m1 ≤ 500000 := by have h1 := hO.sp.1; rw [rowI_len, List.length_append] at h1; (try rw [List.length_nil] at h1); have h2 := List.length_filter_le (fun p : ByteArray × Ver => ltS yk p.1) (now.take j); rw [List.length_take] at h2; have h3 := HNB.out; have h4 := HPL.out; omega
                    clear hO hb
                    by_cases hltj : j < m
                    · have l3 : decide ((j : Int) < (m : Int)) = true := decide_eq_true (by omega)
                      have k6 : (j : Int) < (m : Int) := by omega
                      have htf := take_filter_item (fun p : ByteArray × Ver => ltS yk p.1) (show j < now.length by rw [HNL.out]; exact hltj)
                      obtain ⟨g1, off1, rfl, hg1, c0, c1, c2, c3, c4, c5, c6, c7⟩ := (HNW.out wr HO.out.2).2 j (by rw [HNL.out]; exact hltj)
                      obtain ⟨p, hp⟩ : ∃ p, now[j]'(by rw [HNL.out]; exact hltj) = p := ⟨_, rfl⟩
                      rw [hp] at c0 c1 c2 c3 c4 c5 c6 c7 htf
                      obtain ⟨pk, pr, pq, pm, pv, ps, pl, pg⟩ := p
                      dsimp only at c0 c1 c2 c3 c4 c5 c6 c7 htf
                      have HTF := Lib.hid htf
                      clear htf hp
                      obtain ⟨y0, y1, y2, y3, y4, y5, y6, y7⟩ := (row8 (HYB.out wr HO.out.2)).1
                      cases hq : ltS yk pk with
                      | false =>
                        have e1 : (!(Op.bytesLess pk.toList yk.toList || pk.toList == yk.toList)) = false := by rw [gt_is, hq]
                        have HQ := Lib.hid hq
                        clear hq
                        go_wp2_with fail
                        go_big_quiet (fail)
                        go_wp2
                        go_roundw
                        case rel => exact ⟨j + 1, by omega, by go_num, R1, m1, d1, rfl, by rw [HTF.out, HQ.out, if_neg (by decide), List.append_nil]; exact HO.out.1.next (show Below wr.heap.size wr _ from below_drewN (Below.refl _ _) _), HO.out.2.trans ((show Below wr.heap.size wr _ from below_drewN (Below.refl _ _) _).mono HO.out.2.size)⟩
                        case measure =>
                          simp [intOf]
                          omega
                      | true =>
                        have e1 : (!(Op.bytesLess pk.toList yk.toList || pk.toList == yk.toList)) = true := by rw [gt_is, hq]
                        have HQ := Lib.hid hq
                        have h1c : ∀ u ∈ ([.string pk, .int .i64 pr, .int .i64 pq, .int .i64 pm, .int .i64 pv, .string ps, .int .i64 pl, .bool pg] : List Value), u.oneCell' = true := fun u hu => itemC_one ((pk, ⟨pr, pq, pm, pv, ps, pl, pg⟩) : ByteArray × Ver) u hu
                        clear hq
                        go_wp2_with fail
                        go_big_quiet (fail)
                        go_wp2_with (at_builtin
                                     go_loud (refine wpList_append_sp elem_item _ rfl _ _ rfl R1 m1 d1 (rowI (((now.filter (fun p : ByteArray × Ver => ltS p.1 yk)) ++ [((yk, ⟨yr, yq, ym, yv, ys, yl, false⟩) : ByteArray × Ver)]) ++ (now.take j).filter (fun p : ByteArray × Ver => ltS yk p.1))) rfl (HO.out.1.sp.keep fun q hq => (show Below wr.heap.size wr _ from (by repeat (first | exact Below.refl _ _ | apply Below.drew | apply below_drewN | refine Below.alloc ?_ (by simp) _))).block q (HO.out.1.sp.lt hq)) _ 1 1 [.string pk, .int .i64 pr, .int .i64 pq, .int .i64 pm, .int .i64 pv, .string ps, .int .i64 pl, .bool pg] rfl (fun e => by cases e) rfl h1c (fun b e => by cases e; exact cells_lit (C := [.string pk, .int .i64 pr, .int .i64 pq, .int .i64 pm, .int .i64 pv, .string ps, .int .i64 pl, .bool pg]) (heap_alloc_new _ _)) (by omega) ?_)
                                     intro A8 c8 w8 hsp8 hA8 hg8
                                     have hP := HO.out.1.push HO.out.2 (show Below wr.heap.size wr _ from (by repeat (first | exact Below.refl _ _ | apply Below.drew | apply below_drewN | refine Below.alloc ?_ (by simp) _))) hg8 hsp8 hA8)
                        have HP := Lib.hid (show OwnI wB w8 A8 (m1 + 1) c8 (((now.filter (fun p : ByteArray × Ver => ltS p.1 yk)) ++ [((yk, ⟨yr, yq, ym, yv, ys, yl, false⟩) : ByteArray × Ver)]) ++ (now.take (j + 1)).filter (fun p : ByteArray × Ver => ltS yk p.1)) ∧ Below wB.heap.size wB w8 from ⟨by rw [HTF.out, HQ.out, if_pos rfl, ← List.append_assoc]; show OwnR _ _ _ _ _ _ _ (rowI _); rw [rowI_add]; exact hP.1, hP.2⟩)
                        clear hP hsp8 hA8 hg8
                        go_roundw
                        case rel => exact ⟨j + 1, by omega, by go_num, A8, m1 + 1, c8, rfl, HP.out⟩
                        case measure =>
                          simp [intOf]
                          omega
                    · obtain rfl : m = j := by omega
                      have l3 : decide ((m : Int) < (m : Int)) = false := decide_eq_false (by omega)
                      have hO1 := HO.out.1
                      rw [List.take_of_length_le (by rw [HNL.out]; omega)] at hO1
                      have HN := Lib.hid (And.intro hO1 HO.out.2)
                      clear hO1
                      have HE := Lib.hid (show ItemsR wr R1 m1 ((xb.ls.take (i + 1)).foldl Idx.stepN base) ∧ Below w5.heap.size w5 wr from ⟨by rw [HFN.out]; have q := HN.out.1.sp.items; rw [show (((now.filter (fun p : ByteArray × Ver => ltS p.1 yk)) ++ [((yk, ⟨yr, yq, ym, yv, ys, yl, false⟩) : ByteArray × Ver)]) ++ now.filter (fun p : ByteArray × Ver => ltS yk p.1)) = Idx.stepN now ((yk, ⟨yr, yq, ym, yv, ys, yl, false⟩) : ByteArray × Ver) from by unfold Idx.stepN; simp] at q; exact q, HBB.out.trans (HN.out.2.mono HBB.out.size)⟩)
                      go_wp2
                      go_roundw
                      case rel => exact ⟨i + 1, by omega, by go_num, R1, m1, d1, rfl, HE.out⟩
                      case measure =>
                        simp [intOf]
                        omega
          · obtain rfl : i = hn := by omega
            have l2 : decide ((i : Int) < (i : Int)) = false := decide_eq_false (by omega)
            have HE := Lib.hid (show ItemsR wr R m (Idx.replay now0 (BS.take (k + 1))) ∧ Below w5.heap.size w5 wr from ⟨by rw [HRN.out]; have q := HM.out.1; rw [List.take_of_length_le (by rw [HHN.out]; omega)] at q; exact q, HM.out.2⟩)
            go_wp2
            go_roundw
            case rel => exact ⟨k + 1, by omega, by go_num, R, m, d, rfl, HE.out⟩
            case measure =>
              simp [intOf]
              omega
      · obtain rfl : k = n9 := by omega
        have l1 : decide ((k : Int) < (k : Int)) = false := decide_eq_false (by omega)
        have hfin : Idx.replay now0 (BS.take k) = Idx.itemsI l 1099511627776 (Idx.inB a b) := by
          rw [List.take_of_length_le (by rw [HB9.out]; omega), ← HBS.out, ← HN0.out]
          exact Idx.replays HF.out.wf _ _ _ (by have h1 := HSI.out; omega)
        rw [hfin] at HK
        clear hfin
        have bX := (HX.out.below HK.out.2).cell
        have hC := S.at_ u l a b 1099511627776 1000 wr (HI.out.ix.below HK.out.2) HF.out ha hb
        go_wp2_with fail
        refine hC.mono ?_
        rintro e w50 ⟨R6, n6, c6, rfl, hO, hbq⟩
        have hit : ItemsR w50 R6 n6 (Idx.itemsI l 1099511627776 (Idx.inB a b)) := by have q := hO.sp.items; rw [HTK.out] at q; exact q
        have hC2 := same_items (c1 := dn) (c2 := c6) (HK.out.1.below hbq) hit rfl (Nat.le_trans (Idx.items_len _ _ _) (Nat.le_trans HF.out.n (by omega)))
        have hb50 := H0.out.trans ((HK.out.2.trans (hbq.mono HK.out.2.size)).mono H0.out.size)
        clear hC hO hbq hit bX
        go_wp2_with fail
        refine hC2.mono ?_
        rintro e w51 ⟨rfl, hbq⟩
        have hbz := hb50.trans (hbq.mono hb50.size)
        clear hC2
        go_wp2
        go_ret
        exact ⟨rfl, hbz⟩


end Go.Proofs.Ytcoddkbbgmjckaa

namespace Go.Proofs.Ytcoddkbbgmjckaa.indexReplays
open Go.ChangeShapes Go.WideShapes Go.ChangeAt Go.RowKit Go.Proofs.Ytcoddkbbgmjckaa
set_option linter.unusedVariables false
set_option linter.unusedSimpArgs false

theorem own : ownKnob Try.prog.godebug = none := by kernel_rfl

set_option maxRecDepth 100000 in
theorem lifted (os : Os) (started : os.Started) (H : Type) (enc : TypeId × Value → H) :
    ReturnsInHanded {} Try.checked os 8 .any (Rows.indexReplaysSpec.pre6 enc Try.prog Try.f8 Rows.indexReplaysRow.domain false) (Rows.indexReplaysSpec.post enc Try.prog Try.f8 false true false false) := by
  refine returnsInHanded_of_change (C := Try.checked) own started (by kernel_rfl) Try.func8
    (ChangeSpec.witness6 (enc := enc) (C := Try.checked) false ⟨#[], #[.slice none 0 0, .string ⟨#[]⟩, .string ⟨#[]⟩, .int .i64 0], []⟩ 8 (by kernel_rfl) (by kernel_rfl) (by kernel_rfl) (by kernel_rfl)) ?_
  intro W base args ds gs before hval0 hW hcnd _
  have hval : ∀ (j : Nat) t v, Try.f8.params[j]? = some t → args[j]? = some v → Value.okWide Try.prog W .any base t v := hval0
  have hW' := hW
  obtain ⟨p, q, hA0, hV, rfl, hfz, hnd⟩ := hW
  have hA : DataW.TrodAll enc Try.prog W 0 (fun _ => true) true Try.f8.params.toList args.toList ds p := hA0
  rw [Try.params8] at hA hval
  obtain ⟨v0, vs0, d0, ds0, p0, q0, hargs, rfl, rfl, h0, r0⟩ := trodAll_cons hA
  obtain ⟨v1, vs1, d1, ds1, p1, q1, rfl, rfl, rfl, h1, r1⟩ := trodAll_cons r0
  obtain ⟨v2, vs2, d2, ds2, p2, q2, rfl, rfl, rfl, h2, r2⟩ := trodAll_cons r1
  obtain ⟨v3, vs3, d3, ds3, p3, q3, rfl, rfl, rfl, h3, r3⟩ := trodAll_cons r2
  obtain ⟨rfl, rfl, rfl⟩ := trodAll_nil r3
  obtain rfl : args = #[v0, v1, v2, v3] := by cases args; simp_all
  obtain ⟨rfl, rfl⟩ := trodVars_none hV
  obtain ⟨A0, len0, cap0, K0, rfl, hlc0, hm0, ha0, hw0⟩ := arg_iacts (hval 0 26 v0 rfl rfl) h0 (fun x hx => hW'.lt x (by simp [hx]))
  obtain ⟨s1, rfl, rfl, rfl, ws1⟩ := ChangeMaps.open_string Try.underlying9 (hval 1 9 v1 rfl rfl) h1
  obtain ⟨s2, rfl, rfl, rfl, ws2⟩ := ChangeMaps.open_string Try.underlying9 (hval 2 9 v2 rfl rfl) h2
  obtain ⟨a3, rfl, rfl, rfl, w3⟩ := open_int Try.underlying2 (hval 3 2 v3 rfl rfl) h3
  have fin : ∀ W', Below W.heap.size W W' → Rows.indexReplaysSpec.post enc Try.prog Try.f8 false true false false W #[.slice A0 len0 cap0, .string s1, .string s2, .int .i64 a3] (.bool true) W' :=
    fun W' hb => law_end (by kernel_rfl) (by decide +kernel) rfl rfl Try.underlying4 hW' rfl rfl rfl hb
  exact (indexReplays_walk says A0 len0 cap0 K0 s1 s2 a3 W ha0 (Nat.le_trans hlc0 hm0) hw0 ws1 ws2).mono fun e W' ⟨he, hb⟩ => ⟨_, he, fin W' hb⟩

theorem over : Rows.indexReplaysRow.holds Try.pinned (OpenSpec.ofChange Rows.indexReplaysSpec) :=
  OpenClaim.holds_of_wide 8 Try.f8 rfl rfl rfl rfl rfl rfl rfl ⟨rfl, rfl, rfl, rfl, rfl⟩ rfl rfl rfl rfl rfl (by kernel_rfl) Try.func8 (by kernel_rfl)
    (of_decide_eq_true (by kernel_rfl)) (by unfold Func.isWrapper; first | (rw [if_pos (by decide +kernel)]; kernel_rfl) | (rw [if_neg (by decide +kernel)]; exact ⟨rfl, rfl⟩))
    (fun os started H enc _ => lifted os started H enc)

theorem proved : Rows.IndexReplaysSaid := over


end Go.Proofs.Ytcoddkbbgmjckaa.indexReplays
