/- The program's since. (Written by mkpi.py.) -/
import Derived.Test.YtcoddkbbgmjckaaBn44
namespace Go.Proofs.Ytcoddkbbgmjckaa
open Go.RowKit
set_option linter.unusedVariables false
set_option linter.unusedSimpArgs false
attribute [local go_sem] Oper.semAt_some

section
variable {T : TypeId} {sz : Nat} {w2 w5 wr : World} {e n c m d g : Nat} {A A8 : Option Addr} {vs us : List Value}
/-- From here on: the row's own block alone may turn. -/
theorem Acc.rebase (h : Acc T sz w2 w5 e A n c vs) : ∃ g off, A = Option.some ⟨g, off, Option.none⟩ ∧ Acc T sz w5 w5 g A n c vs ∧ (g = e ∨ w2.heap.size ≤ g) ∧ g < w5.heap.size := by
  cases hA : A with
  | none => exact absurd hA h.some
  | some a =>
    obtain ⟨g, off, cur, e1, hg, _⟩ := h.sp.2.2.2 a hA
    subst e1
    subst hA
    exact ⟨g, off, rfl, ⟨h.sp, fun q hq => .inl ((blk_some g off q).1 hq), Grew.of2 _ _, h.some⟩, h.new g ⟨off, rfl⟩, hlt hg⟩
theorem Acc.back (h : Acc T sz w2 w5 e A n c vs) (k : Acc T sz w5 wr g A8 m d us) (hg : g = e ∨ w2.heap.size ≤ g) : Acc T sz w2 wr e A8 m d us := by
  refine ⟨k.sp, fun q hq => ?_, ⟨h.g.os.trans k.g.os, h.g.tape.trans k.g.tape, h.g.output.trans k.g.output, Nat.le_trans h.g.size k.g.size, fun q hq hn => (k.g.block q (Nat.lt_of_lt_of_le hq h.g.size) fun hx => ?_).trans (h.g.block q hq hn)⟩, k.some⟩
  · rcases k.new q hq with h1 | h1
    · rw [h1]; exact hg
    · exact .inr (Nat.le_trans h.g.size h1)
  · rw [blk_some] at hx
    rw [blk_some] at hn
    rcases hg with h1 | h1 <;> omega
end

set_option maxRecDepth 100000 in
set_option maxHeartbeats 3200000 in
theorem since_any {P : Nat → Prop} (u : Option Addr) (t : MapKh.T) (a b : ByteArray) (sa sb : Int) (w : World) (hT : IxTP P w u t) (hF : Fit (kht t)) (ha : a.size ≤ maxLen) (hb : b.size ≤ maxLen) :
    Calls Try.prog 64 #[ixV u, .string a, .string b, .int .i64 sa, .int .i64 sb] w fun e w' => ∃ g off m d, e = .returned (.slice (some ⟨g, off, none⟩) m d) ∧ w.heap.size ≤ g ∧ g < w'.heap.size ∧ m ≤ 100000 ∧ RowW w' g off m d (Idx.join (Idx.allI (kht t) (Idx.inB a b) sa sb)) ∧ Below w.heap.size w w' := by
  obtain ⟨W1, hW1⟩ : ∃ W1, ((w.alloc (.cells #[.pointer u] 32)).alloc (.cells #[] 62)) = W1 := ⟨_, rfl⟩
  have hb1 : Below w.heap.size w W1 := by rw [← hW1]; exact (((Below.refl _ _).alloc (Nat.le_refl _) _).alloc (by simp) _)
  have hs1 : W1.heap.size = w.heap.size + 2 := by rw [← hW1]; simp
  have hr0 : W1.heap[w.heap.size + 0]? = some (.cells #[.pointer u] 32) := by rw [← hW1]; exact (alloc2_at w _ _).1
  have hr1 : W1.heap[w.heap.size + 1]? = some (.cells #[] 62) := by rw [← hW1]; exact (alloc2_at w _ _).2
  have hWi := withinP_any u t a b W1 (hT.below hb1) hF ha hb
  have HT := Lib.hid (And.intro hT hF)
  have HB := Lib.hid (And.intro hb1 (And.intro hs1 hr1))
  have z0 : W1.cell? ⟨w.heap.size, 0, none⟩ = some (.pointer u) := (row1 hr0).1
  clear hT hF hb1 hs1 hr0 hr1
  go_enter Try.func64, Try.ntmps64
  go_upto_region 2 with fail
  try rw [hW1]
  go_wp2_with fail
  refine hWi.mono ?_
  rintro e w2 ⟨R, c, xs, rfl, hRow, hks, hin, hb2⟩
  obtain ⟨n, hn⟩ : ∃ n, xs.length = n := ⟨_, rfl⟩
  rw [hn] at hRow ⊢
  have hb2' := HB.out.1.trans (hb2.mono HB.out.1.size)
  have HRow := Lib.hid (show RowP w w2 R n c xs from hRow.tree HB.out.1.size HT.out.1 hin)
  have HSep := Lib.hid (show ∀ q, blk R q → q ≠ w.heap.size + 1 from fun q hq => by have := hRow.new q hq; rw [HB.out.2.1] at this; omega)
  have HS := Lib.hid (show Acc 62 8 w2 w2 (w.heap.size + 1) (some ⟨w.heap.size + 1, 0, none⟩) 0 0 [] from Acc.start ((hb2.block _ (hlq HB.out.2.2)).trans HB.out.2.2))
  have HB2 := Lib.hid hb2'
  have HK := Lib.hid hks
  have hsub : (khs xs).Sublist (kht t) := by rw [hks]; exact List.filter_sublist
  have htot : ∀ k, (Idx.flatS ((khs xs).take k) sa sb).length ≤ 100000 := fun k => by
    have h1 := Idx.flatS_len ((khs xs).take k) sa sb
    have h2 := Idx.sub_tot ((List.take_sublist k (khs xs)).trans hsub)
    have h3 := HT.out.2.t
    omega
  have HN := Lib.hid (And.intro hn (And.intro hsub htot))
  have hn1 : n ≤ 1000 := by
    have h1 := HT.out.2.n
    have h2 := hsub.length_le
    unfold khs at h2
    rw [List.length_map] at h2
    omega
  clear hRow hks hin hb2 hb2' hWi z0 hW1 hn hsub htot
  go_wp2_with fail
  go_loopw [11, 22] (fun v11 v22 wr => ∃ k : Nat, k ≤ n ∧ v22 = .int .i64 (k : Int) ∧ ∃ A m d ls, v11 = .slice A m d ∧ Idx.flatS ((khs xs).take k) sa sb = ls ∧ m = ls.length ∧ Acc 62 8 w2 wr (w.heap.size + 1) A m d (rowI ls)) (fun _ v22 _ => n - (intOf v22).toNat)
  case atStart => exact ⟨0, Nat.zero_le _, rfl, _, 0, 0, [], rfl, rfl, rfl, HS.out⟩
  case round =>
    obtain ⟨k, hk, rfl, A, m, d, ls, rfl, hls, hml, hA⟩ := hrel
    have HA := Lib.hid hA
    have HL := Lib.hid (show RowP w wr R n c xs ∧ Below w.heap.size w wr from ⟨hA.row HRow.out HSep.out, hA.below HB2.out (Nat.le_add_right _ _) HB2.out.size⟩)
    have HM := Lib.hid (And.intro hml hls)
    clear hA hml hls
    by_cases hlt : k < n
    · have l1 : decide ((k : Int) < (n : Int)) = true := decide_eq_true (by omega)
      have k4 : (k : Int) < (n : Int) := by omega
      obtain ⟨g, off, hRe, hg, c0, c1⟩ := HL.out.1.at_ k hlt
      obtain ⟨x, hx⟩ : ∃ x, xs[k]'(by rw [HL.out.1.len]; exact hlt) = x := ⟨_, rfl⟩
      rw [hx] at c0 c1
      have HX := Lib.hid hx
      subst hRe
      obtain ⟨W8, hW8⟩ : ∃ W8, wr.alloc (.cells #[.string x.k, .slice x.B x.h.length x.c] 81) = W8 := ⟨_, rfl⟩
      have hb8 : Below wr.heap.size wr W8 := by rw [← hW8]; exact (Below.refl _ _).alloc (Nat.le_refl _) _
      have hp8 : W8.heap[wr.heap.size]? = some (.cells #[.string x.k, .slice x.B x.h.length x.c] 81) := by rw [← hW8]; exact heap_alloc_new wr _
      have HP8 := Lib.hid (And.intro hb8 hp8)
      have y0 : W8.cell? ⟨wr.heap.size, 0, none⟩ = some (.string x.k) := by have := cells_lit (C := [.string x.k, .slice x.B x.h.length x.c]) hp8 0 _ rfl; simpa [Addr.add_lit] using this
      have y1 : W8.cell? ⟨wr.heap.size, 1, none⟩ = some (.slice x.B x.h.length x.c) := by have := cells_lit (C := [.string x.k, .slice x.B x.h.length x.c]) hp8 1 _ rfl; simpa [Addr.add_lit] using this
      have HW8 := Lib.hid hW8
      clear hx hg hb8 hp8 hW8
      have hkl : k < (khs xs).length := by unfold khs; rw [List.length_map, HN.out.1]; exact hlt
      have hkx : (khs xs)[k] = (x.k, x.h) := by
        rw [← HX.out]
        unfold khs
        rw [List.getElem_map]
        rfl
      have hxm : x ∈ xs := by rw [← HX.out]; exact List.getElem_mem _
      have hxv := HL.out.1.vs x hxm
      have hxl : x.h.length ≤ 900000 := by
        have h1 := len_tot (HN.out.2.1.subset (List.getElem_mem hkl))
        rw [hkx] at h1
        have h2 := HT.out.2.t
        dsimp only at h1
        omega
      obtain ⟨zs, hzs⟩ : ∃ zs, His.sinceL x.h sa sb = zs := ⟨_, rfl⟩
      have htf := Idx.flatS_next (khs xs) sa sb hkl
      rw [hkx, HM.out.2] at htf
      dsimp only at htf
      rw [hzs] at htf
      have htl := HN.out.2.2 (k + 1)
      rw [htf, List.length_append, List.length_map] at htl
      have HF := Lib.hid htf
      have HXV := Lib.hid hxv
      clear hxm hxv hkx htf
      have HB8 := Lib.hid (HL.out.2.trans (HP8.out.1.mono HL.out.2.size))
      have hSi := sinceP_any x.B x.h.length x.c x.h sa sb W8 (HXV.out.1.below HB8.out) HXV.out.2 hxl
      rw [hzs] at hSi
      clear hzs
      go_upto_region 5 with fail
      rw [HW8.out]
      go_wp2_with fail
      refine hSi.mono ?_
      rintro e w5 ⟨R5, n5, c5, rfl, hO5, hb5⟩
      have hbr5 : Below wr.heap.size wr w5 := HP8.out.1.trans (hb5.mono HP8.out.1.size)
      have hA5 := HA.out.next hbr5
      obtain ⟨gA, oA, hAe, hAc, hgA, hgA2⟩ := hA5.rebase
      have hgw : gA < wr.heap.size := by
        rcases HA.out.new gA (by rw [hAe]; exact ⟨oA, rfl⟩) with h1 | h1
        · exact HA.out.sp.lt (by rw [hAe]; exact ⟨oA, rfl⟩)
        · exact HA.out.sp.lt (by rw [hAe]; exact ⟨oA, rfl⟩)
      have hn5 : zs.length = n5 := hO5.len
      have hv5 : Vers w5 R5 n5 zs := hO5.sp.vers
      have h5q : ∀ q, blk R5 q → q ≠ gA := fun q hq e => by
        have h1 := hO5.new q hq
        have h2 := HP8.out.1.size
        omega
      have hp5 := (hb5.block _ (hlq HP8.out.2)).trans HP8.out.2
      obtain ⟨pb, hpb⟩ : ∃ pb, wr.heap.size = pb := ⟨_, rfl⟩
      rw [hpb] at hp5 hgw
      have H5 := Lib.hid (And.intro hv5 (And.intro h5q (And.intro hp5 (And.intro hn5 (And.intro hA5 (And.intro hgA hgw))))))
      have HA5 := Lib.hid hAc
      have hn6 : ls.length + n5 ≤ 100000 := by omega
      have HF2 := Lib.hid hAe
      clear hSi hO5 hb5 hbr5 hA5 hAe hAc hgA hgA2 hgw hv5 h5q hp5 c0 c1 y0 y1 htl hn5
      rw [hpb]
      clear hpb
      go_wp2_with fail
      go_loopw [11, 32] (fun v11 v32 wr2 => ∃ j : Nat, j ≤ n5 ∧ v32 = .int .i64 (j : Int) ∧ ∃ A m d, v11 = .slice A m d ∧ m = ls.length + j ∧ Acc 62 8 w5 wr2 gA A m d (rowI (ls ++ (zs.take j).map fun v => (x.k, v)))) (fun _ v32 _ => n5 - (intOf v32).toNat)
      case atStart => exact ⟨0, Nat.zero_le _, rfl, A, m, d, rfl, HM.out.1, by rw [List.take_zero, List.map_nil, List.append_nil]; exact HA5.out⟩
      case round =>
        obtain ⟨j, hj, rfl, A2, m2, d2, rfl, hm2, hA2⟩ := hrel
        have HA2 := Lib.hid hA2
        have HM2 := Lib.hid hm2
        clear hA2 hm2
        by_cases hjt : j < n5
        · have l2 : decide ((j : Int) < (n5 : Int)) = true := decide_eq_true (by omega)
          have j4 : (j : Int) < (n5 : Int) := by omega
          have hjz : j < zs.length := by have := H5.out.2.2.2.1; omega
          have hkeep : ∀ q, q < w5.heap.size → q ≠ gA → wr.heap[q]? = w5.heap[q]? := fun q hq hne => HA2.out.g.block q hq fun hx => hne ((blk_some gA 0 q).1 hx)
          have hvr : Vers wr R5 n5 zs := H5.out.1.keep HA2.out.g.size fun q hq hlt2 => hkeep q hlt2 (H5.out.2.1 q hq)
          obtain ⟨g5, o5, hR5, hg5, hc5⟩ := hvr.2 (by omega)
          obtain ⟨v, hv⟩ : ∃ v, zs[j] = v := ⟨_, rfl⟩
          have hcj := hc5 j hjz
          rw [hv] at hcj
          obtain ⟨d0, d1, d2', d3, d4, d5, d6⟩ := hcj
          have hpr := (hkeep _ (hlq H5.out.2.2.1) (by have := H5.out.2.2.2.2.2.2; omega)).trans H5.out.2.2.1
          obtain ⟨W9, hW9⟩ : ∃ W9, wr.alloc (.cells #[.int .i64 v.r, .int .i64 v.k, .int .i64 v.m, .int .i64 v.v, .string v.s, .int .i64 v.l, .bool v.g] 37) = W9 := ⟨_, rfl⟩
          have hb9 : Below wr.heap.size wr W9 := by rw [← hW9]; exact (Below.refl _ _).alloc (Nat.le_refl _) _
          have hv9 : W9.heap[wr.heap.size]? = some (.cells #[.int .i64 v.r, .int .i64 v.k, .int .i64 v.m, .int .i64 v.v, .string v.s, .int .i64 v.l, .bool v.g] 37) := by rw [← hW9]; exact heap_alloc_new wr _
          have hp9 := (hb9.block _ (hlq hpr)).trans hpr
          have HV := Lib.hid hv
          have HW9 := Lib.hid hW9
          subst hR5
          have HA9 := Lib.hid (HA2.out.next hb9)
          have hm6 : m2 + 1 ≤ 1000000 := by have := HM2.out; omega
          have HTk := Lib.hid (show ls ++ (zs.take (j + 1)).map (fun v => (x.k, v)) = (ls ++ (zs.take j).map fun v => (x.k, v)) ++ [(x.k, v)] by
            rw [List.take_succ_eq_append_getElem hjz, List.map_append, hv, List.append_assoc]
            rfl)
          clear hkeep hvr hc5 hpr hW9 hv
          go_upto_region 8 with fail
          rw [HW9.out]
          have y5 : W9.cell? ⟨pb, 0, none⟩ = some (.string x.k) := by have := cells_lit (C := [.string x.k, .slice x.B x.h.length x.c]) hp9 0 _ rfl; simpa [Addr.add_lit] using this
          obtain ⟨v0, v1, v2, v3, v4, v5, v6⟩ := (row7 hv9).1
          go_wp2_with (at_builtin
                       go_loud (refine wpList_append_sp elem_item _ rfl _ _ rfl A2 m2 d2 (rowI (ls ++ (zs.take j).map fun v => (x.k, v))) rfl (HA9.out.sp.keep fun q hq => (show Below W9.heap.size W9 _ from (by repeat (first | exact Below.refl _ _ | apply Below.drew | apply below_drewN | refine Below.alloc ?_ (by simp) _))).block q (HA9.out.sp.lt hq)) _ 1 1 (itemC (x.k, v)) rfl (fun e => by cases e) rfl (itemC_one _) (fun b e => by cases e; exact cells_lit (C := itemC (x.k, v)) (heap_alloc_new _ _)) hm6 ?_)
                       intro A8 c8 w8 hsp8 hA8 hg8
                       have hP := HA9.out.push (show Below W9.heap.size W9 _ from (by repeat (first | exact Below.refl _ _ | apply Below.drew | apply below_drewN | refine Below.alloc ?_ (by simp) _))) hg8 hsp8 hA8)
          have HPP := Lib.hid hP
          clear hP hsp8 hA8 hg8 v0 v1 v2 v3 v4 v5 v6 y5 d0 d1 d2' d3 d4 d5 d6
          go_roundw
          case rel => exact ⟨j + 1, by omega, by go_num, A8, m2 + 1, c8, rfl, by have := HM2.out; omega, by rw [HTk.out, rowI_add]; exact HPP.out⟩
          case measure =>
            simp [intOf]
            omega
        · obtain rfl : j = n5 := by omega
          have l2 : decide ((j : Int) < (j : Int)) = false := decide_eq_false (by omega)
          have HE := Lib.hid (show Acc 62 8 w2 wr (w.heap.size + 1) A2 m2 d2 (rowI (ls ++ zs.map fun v => (x.k, v))) from by
            have h1 := H5.out.2.2.2.2.1.back HA2.out H5.out.2.2.2.2.2.1
            rw [List.take_of_length_le (by rw [H5.out.2.2.2.1]; exact Nat.le_refl _)] at h1
            exact h1)
          have hm3 : m2 = (ls ++ zs.map fun v => (x.k, v)).length := by rw [List.length_append, List.length_map, H5.out.2.2.2.1]; exact HM2.out
          have HM3 := Lib.hid hm3
          clear hm3
          go_wp2
          go_roundw
          case rel => exact ⟨k + 1, hlt, by go_num, A2, m2, d2, _, rfl, HF.out, HM3.out, HE.out⟩
          case measure =>
            simp [intOf]
            omega
    · obtain rfl : n = k := by omega
      have l1 : decide ((n : Int) < (n : Int)) = false := decide_eq_false (by omega)
      obtain ⟨gA, oA, hAe, hAc, hgA, hgA2⟩ := HA.out.rebase
      subst hAe
      have hR : RowW wr gA oA m d ls := ⟨HM.out.1.symm, HA.out.sp⟩
      have hml : m ≤ 100000 := by have h1 := HN.out.2.2 n; rw [HM.out.2] at h1; rw [HM.out.1]; exact h1
      have hge : w.heap.size ≤ gA := by
        rcases hgA with h1 | h1
        · omega
        · have := HB2.out.size; omega
      have hSo := fun W (hW : RowW W gA oA m d ls) => sortStable_any gA oA m d ls W hW (by omega)
      have HR := Lib.hid (And.intro hR (And.intro hge hgA2))
      clear hAc hgA hgA2 hge
      go_wp2_with fail
      refine (hSo _ hR).mono ?_
      rintro e w7 ⟨rfl, l7, hu7, hst7, hT7⟩
      have hj := Idx.sorted_is HT.out.2.wf (Idx.inB a b) sa sb hu7 (by
        have h1 := HM.out.2
        rw [List.take_of_length_le (by unfold khs; rw [List.length_map, HN.out.1]; exact Nat.le_refl _), HK.out] at h1
        rw [h1]
        exact hst7)
      have HE := Lib.hid (show RowW w7 gA oA m d (Idx.join (Idx.allI (kht t) (Idx.inB a b) sa sb)) by rw [← hj]; exact hT7.row)
      have HZ := Lib.hid (show Below w.heap.size w w7 from ⟨hT7.grew.os.symm.trans HL.out.2.os, hT7.grew.tape.symm.trans HL.out.2.tape, hT7.grew.output.symm.trans HL.out.2.output, Nat.le_trans HL.out.2.size hT7.grew.size, fun q hq => (hT7.grew.block q (Nat.lt_of_lt_of_le hq HL.out.2.size) fun hx => by rw [blk_some] at hx; have := HR.out.2.1; omega).trans (HL.out.2.block q hq)⟩)
      clear hSo hR hu7 hst7 hT7 hj
      go_wp2
      go_ret
      exact ⟨gA, oA, m, d, rfl, HR.out.2.1, HE.out.lt, hml, HE.out, HZ.out⟩

end Go.Proofs.Ytcoddkbbgmjckaa
