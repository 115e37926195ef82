/- The program's Behind. (Written by mkpi.py.) -/
import Derived.Test.YtcoddkbbgmjckaaBn38
namespace Go.Proofs.Ytcoddkbbgmjckaa
open Go.RowKit
set_option linter.unusedVariables false
set_option linter.unusedSimpArgs false
attribute [local go_sem] Oper.semAt_some

set_option maxRecDepth 100000 in
set_option maxHeartbeats 3200000 in
theorem behindP_any {P : Nat → Prop} (u : Option Addr) (t : MapKh.T) (pre after : ByteArray) (r most : Int) (w : World) (hT : IxTP P w u t) (hF : Fit (kht t)) (hp0 : pre.size ≤ maxLen) (ha : after.size ≤ 2000000) :
    Calls Try.prog 29 #[ixV u, .string pre, .string after, .int .i64 r, .int .i64 most] w fun e w' => ∃ R m c, e = .returned (.tuple #[.slice R m c, .bool (Idx.behindI (kht t) pre after r most).2]) ∧ OwnI w w' R m c (Idx.behindI (kht t) pre after r most).1 ∧ Below w.heap.size w w' := by
  obtain ⟨W1, hW1⟩ : ∃ W1, ((w.alloc (.cells #[.pointer u] 32)).alloc (.cells #[] 62)) = W1 := ⟨_, rfl⟩
  have hb1 : Below w.heap.size w W1 := by rw [← hW1]; exact (((Below.refl _ _).alloc (Nat.le_refl _) _).alloc (by simp) _)
  have hs1 : W1.heap.size = w.heap.size + 2 := by rw [← hW1]; simp
  have hr0 : W1.heap[w.heap.size + 0]? = some (.cells #[.pointer u] 32) := by rw [← hW1]; exact (alloc2_at w _ _).1
  have hr1 : W1.heap[w.heap.size + 1]? = some (.cells #[] 62) := by rw [← hW1]; exact (alloc2_at w _ _).2
  have hx : ∀ W, Below W1.heap.size W1 W → W.cell? ⟨w.heap.size, 0, none⟩ = some (.pointer u) := fun W hW => (row1 ((hW.block _ (hlq hr0)).trans hr0)).1
  have hsz : t.size ≤ 4000000 := by have := hF.n; rw [kht_len] at this; omega
  have hRk := fun (k : ByteArray) W (hW : Below w.heap.size w W) => MapKh.rank_map (P := P) k t u W (hT.1.below hW (Nat.le_refl _)) hsz
  have hNx := fun W => nextP_any after (by omega) W
  have hrk : ∀ k : ByteArray, Tr.rank ltS k t = ((kht t).filter fun p => ltS p.1 k).length := fun k => by rw [Tr.rank_eq linS k t hT.2.1, kht_filter t (fun x => ltS x k), List.length_map]
  obtain ⟨l, hl⟩ : ∃ l, kht t = l := ⟨_, rfl⟩
  have hll : l.length = t.size := by rw [← hl, kht_len]
  have hln : l.length ≤ 1000 := by rw [← hl]; exact hF.n
  have hll1 := Nat.le_of_eq hll
  have hll2 := Nat.le_of_eq hll.symm
  clear hll
  have hRa := hRk pre
  have hRb := hRk (nextB after)
  obtain ⟨ra, hra⟩ : ∃ ra, Tr.rank ltS pre t = ra := ⟨_, rfl⟩
  obtain ⟨rb, hrb⟩ : ∃ rb, Tr.rank ltS (nextB after) t = rb := ⟨_, rfl⟩
  obtain ⟨s, hs⟩ : ∃ s, max ra rb = s := ⟨_, rfl⟩
  have hras : ra ≤ t.size := by rw [← hra]; exact Tr.rank_le linS pre hT.2.1
  have hrbs : rb ≤ t.size := by rw [← hrb]; exact Tr.rank_le linS _ hT.2.1
  rw [hra] at hRa
  rw [hrb] at hRb
  have HS := Lib.hid (show BehS l pre after s by
    have := beh_start (l := kht t) hF.wf.up pre after
    rw [← hrk, ← hrk, hra, hrb, hs, hl] at this
    exact this)
  have HT := Lib.hid (And.intro hT (And.intro hF hl))
  have HB := Lib.hid (And.intro hb1 (And.intro hs1 (And.intro hr1 hx)))
  have HR := Lib.hid (And.intro hRa (And.intro hNx hRb))
  have hsl : s ≤ l.length := by omega
  obtain ⟨mo, hmo⟩ : ∃ mo, most.toNat = mo := ⟨_, rfl⟩
  have HMo := Lib.hid hmo
  have z0 := hx W1 (Below.refl _ _)
  have HR0 := Lib.hid hr0
  rw [hl]
  clear hT hF hb1 hs1 hr1 hr0 hx hRk hNx hrk hRa hRb hra hrb hl hmo
  go_enter Try.func29, Try.ntmps29
  go_upto_region 2 with fail
  try rw [hW1]
  refine wp_region_held_drew (S := fun w' => w'.cell? ⟨w.heap.size, 0, none⟩ = some (.pointer u)) (by kernel_rfl) (HB.out.2.2.2 _ (Below.refl _ _).drew) (fun hHeld => ?_)
  clear z0 hW1
  refine lsq 11 ?_
  refine tkq 0 ?_
  refine tkq 1 ?_
  refine tkq 2 ?_
  refine tkq 4 ?_
  refine tkq 5 ?_
  refine tkq 6 ?_
  refine rdq1 3 fun KK hK => ?_
  go_simp
  refine (HR.out.1 _ HB.out.1.drew).mono ?_
  rintro e w2 ⟨rfl, hb2⟩
  have HB2 := Lib.hid (show Below W1.heap.size W1 w2 from (Below.refl _ _).drew.trans hb2)
  refine hK.out _ _ (HB.out.2.2.2 _ HB2.out) ?_
  clear hK KK hHeld hb2
  intro hHeld
  try simp only [lpq]
  refine rdq1 7 fun KK hK => ?_
  go_simp
  refine (HR.out.2.1 _).mono ?_
  rintro e w3 ⟨rfl, hw3⟩
  subst hw3
  refine hK.out _ _ hHeld ?_
  clear hK KK hHeld
  intro hHeld
  try simp only [lpq]
  refine rdq1 8 fun KK hK => ?_
  go_simp
  refine (HR.out.2.2 _ (HB.out.1.trans (HB2.out.mono HB.out.1.size))).mono ?_
  rintro e w4 ⟨rfl, hb4⟩
  have HB4 := Lib.hid (HB2.out.trans (hb4.mono HB2.out.size))
  refine hK.out _ _ (HB.out.2.2.2 _ HB4.out) ?_
  clear hK KK hHeld hb4
  intro hHeld
  try simp only [lpq]
  refine tkq 9 ?_ (v := .int .i64 (s : Int)) (hy := fun w h => by
    by_cases d : (ra : Int) < (rb : Int)
    · have e : s = rb := by omega
      rw [e]
      go_simp
    · have e : s = ra := by omega
      rw [e]
      go_simp)
  refine tkq 10 ?_
  refine dnq ?_
  have HAc := Lib.hid (show Acc 62 8 w4 w4 (w.heap.size + 1) (some ⟨w.heap.size + 1, 0, none⟩) 0 0 [] from Acc.start ((HB4.out.block _ (hlq HB.out.2.2.1)).trans HB.out.2.2.1))
  have HBx := Lib.hid (HB.out.1.trans (HB4.out.mono HB.out.1.size))
  have HX4 := Lib.hid (show w4.heap[w.heap.size]? = some (.cells #[.pointer u] 32) from (HB4.out.block _ (hlq HR0.out)).trans HR0.out)
  clear hHeld hs hras hrbs
  go_wp2_with fail
  go_loopw [12, 13] (fun v12 v13 wr => ∃ i : Nat, s ≤ i ∧ i ≤ l.length ∧ v13 = .int .i64 (i : Int) ∧ ∃ A m d ls, v12 = .slice A m d ∧ behT l pre after r i = ls ∧ m = ls.length ∧ m ≤ mo ∧ m ≤ i ∧ Acc 62 8 w4 wr (w.heap.size + 1) A m d (rowI ls)) (fun _ v13 _ => l.length + 1 - (intOf v13).toNat)
  case atStart => exact ⟨s, Nat.le_refl _, hsl, rfl, _, 0, 0, [], rfl, HS.out.start hsl, rfl, Nat.zero_le _, Nat.zero_le _, HAc.out⟩
  case round =>
    obtain ⟨i, hsi, hil, rfl, A, m, d, ls, rfl, hls, hml, hmo2, hmi, hA⟩ := hrel
    have HA := Lib.hid hA
    have HL := Lib.hid (show Below w.heap.size w wr ∧ wr.heap[w.heap.size]? = some (.cells #[.pointer u] 32) from ⟨hA.below HBx.out (Nat.le_add_right _ _) HBx.out.size, (hA.g.block _ (hlq HX4.out) fun hx => by rw [blk_some] at hx; omega).trans HX4.out⟩)
    have HM := Lib.hid (And.intro hml hls)
    have hl1 : ls.length ≤ 4000 := by omega
    clear hA hml hls
    have z0 : wr.cell? ⟨w.heap.size, 0, none⟩ = some (.pointer u) := (row1 HL.out.2).1
    by_cases hlt : i < l.length
    · obtain ⟨p, hp⟩ : ∃ p, t.list[i]? = some p := by
        refine ⟨t.list[i]'(by rw [Tr.length_list]; omega), List.getElem?_eq_getElem _⟩
      have hAt := atM_yes (P := P) u t i p wr (HT.out.1.1.below HL.out.1 (Nat.le_refl _)) hsz (by omega) hp
      have hli : l[i] = (p.1, p.2.h) := by
        have h1 : (kht t)[i]? = some (p.1, p.2.h) := by unfold kht; rw [List.getElem?_map, hp]; rfl
        rw [HT.out.2.2, List.getElem?_eq_getElem hlt] at h1
        exact Option.some.inj h1
      have hpm : (p.1, p.2.h) ∈ kht t := by rw [HT.out.2.2, ← hli]; exact List.getElem_mem _
      have hpv := HT.out.1.2.2 p (List.mem_of_getElem? hp)
      have hxl : p.2.h.length ≤ 900000 := by
        have h1 := len_tot hpm
        have h2 := HT.out.2.1.t
        dsimp only at h1
        omega
      have hks : p.1.size ≤ maxLen := by
        have h1 := key_size (HT.out.2.1.wf.key _ hpm)
        unfold maxLen
        dsimp only at h1
        omega
      have HPV := Lib.hid (And.intro hpv hli)
      obtain ⟨x, hx⟩ : ∃ x : KLay, x = ⟨p.1, p.2.h, p.2.B, p.2.c⟩ := ⟨_, rfl⟩
      have e1 : p.1 = x.k := by rw [hx]
      have e2 : p.2.h = x.h := by rw [hx]
      have e3 : p.2.B = x.B := by rw [hx]
      have e4 : p.2.c = x.c := by rw [hx]
      dsimp only [hlV] at hAt
      rw [e1, e2, e3, e4] at hAt HPV
      rw [e1] at hks
      rw [e2] at hxl
      clear hp hli hpm hpv hx e1 e2 e3 e4
      go_wp2_with fail
      refine hAt.mono ?_
      rintro e w7 ⟨rfl, hb7⟩
      obtain ⟨W8, hW8⟩ : ∃ W8, w7.alloc (.cells #[.string x.k, .slice x.B x.h.length x.c] 81) = W8 := ⟨_, rfl⟩
      have hb8 : Below wr.heap.size wr W8 := by rw [← hW8]; exact hb7.alloc hb7.size _
      have hp8 : W8.heap[w7.heap.size]? = some (.cells #[.string x.k, .slice x.B x.h.length x.c] 81) := by rw [← hW8]; exact heap_alloc_new w7 _
      have HP8 := Lib.hid (And.intro hb8 hp8)
      have HW8 := Lib.hid hW8
      have y0 : W8.cell? ⟨w7.heap.size, 0, none⟩ = some (.string x.k) := by have := cells_lit (C := [.string x.k, .slice x.B x.h.length x.c]) hp8 0 _ rfl; simpa [Addr.add_lit] using this
      have y1 : W8.cell? ⟨w7.heap.size, 1, none⟩ = some (.slice x.B x.h.length x.c) := by have := cells_lit (C := [.string x.k, .slice x.B x.h.length x.c]) hp8 1 _ rfl; simpa [Addr.add_lit] using this
      clear hAt hb7 hb8 hp8 hW8
      go_upto_region 5 with fail
      rw [HW8.out]
      have hPr := hasPrefix_any x.k pre hks hp0 W8
      cases hq : Idx.begins x.k pre with
      | false =>
        rw [hq] at hPr
        have HE := Lib.hid (show Idx.behindI l pre after r most = (ls, true) by
          unfold Idx.behindI
          rw [HS.out.done hsi (fun _ => by rw [HPV.out.2]; exact hq), HM.out.2, HMo.out, List.take_of_length_le (by have := HM.out.1; omega), decide_eq_true (by have := HM.out.1; omega)])
        have HO := Lib.hid (And.intro ((HA.out.next HP8.out.1).own HBx.out.size (Nat.le_add_right _ _)) (HL.out.1.trans (HP8.out.1.mono HL.out.1.size)))
        clear hq
        go_wp2_with fail
        refine hPr.mono ?_
        rintro e w9 ⟨rfl, hw9⟩
        obtain rfl : W8 = w9 := hw9.symm
        go_wp2
        refine bodyPost_ret (results_tmp2 rfl _ _ _) rfl ?_
        exact ⟨A, m, d, by rw [HE.out]; rfl, by rw [HE.out]; exact HO.out.1, HO.out.2⟩
      | true =>
        rw [hq] at hPr
        have HQ := Lib.hid hq
        clear hq
        have HSt := Lib.hid (show behT l pre after r (i + 1) = ls ++ ((His.atL x.h r).map fun v => (x.k, v)).toList by
          have h1 := HS.out.step (r := r) hsi hlt (by rw [HPV.out.2]; exact HQ.out)
          rw [HPV.out.2, HM.out.2] at h1
          exact h1)
        have HXV := Lib.hid (show Vers W8 x.B x.h.length x.h ∧ x.h.length ≤ x.c from ⟨(HPV.out.1.1.below HL.out.1).below HP8.out.1, HPV.out.1.2.1⟩)
        have k1 : IntKind.i64.wrap ((i : Int) + 1) = ((i + 1 : Nat) : Int) := by rw [IntWalk.i64_in _ (by omega)]; omega
        have hLv := atP_any x.B x.h.length x.c x.h r W8 HXV.out.1 HXV.out.2 hxl
        obtain ⟨o, ho⟩ : ∃ o, His.atL x.h r = o := ⟨_, rfl⟩
        rw [ho] at hLv
        have HO := Lib.hid ho
        clear ho
        unfold atV at hLv
        dsimp only [verV] at hLv
        obtain ⟨y, hy⟩ : ∃ y, o.getD His.none_ = y := ⟨_, rfl⟩
        obtain ⟨bo, hbo⟩ : ∃ bo, o.isSome = bo := ⟨_, rfl⟩
        rw [hy, hbo] at hLv
        obtain ⟨vr, vk, vm, vv, vs, vl, vg⟩ := y
        dsimp only at hLv
        have HY := Lib.hid (And.intro hy hbo)
        clear hy hbo

        go_wp2_with fail
        refine hPr.mono ?_
        rintro e w9 ⟨rfl, hw9⟩
        obtain rfl : W8 = w9 := hw9.symm
        go_wp2_with fail
        refine hLv.mono ?_
        rintro e w5 ⟨rfl, hb5⟩
        obtain ⟨W9, hW9⟩ : ∃ W9, w5.alloc (.cells #[.int .i64 vr, .int .i64 vk, .int .i64 vm, .int .i64 vv, .string vs, .int .i64 vl, .bool vg] 37) = W9 := ⟨_, rfl⟩
        have hb9 : Below W8.heap.size W8 W9 := by rw [← hW9]; exact hb5.alloc hb5.size _
        have hv9 : W9.heap[w5.heap.size]? = some (.cells #[.int .i64 vr, .int .i64 vk, .int .i64 vm, .int .i64 vv, .string vs, .int .i64 vl, .bool vg] 37) := by rw [← hW9]; exact heap_alloc_new w5 _
        have hp9 := (hb9.block _ (hlq HP8.out.2)).trans HP8.out.2
        have y5 : W9.cell? ⟨w7.heap.size, 0, none⟩ = some (.string x.k) := by have := cells_lit (C := [.string x.k, .slice x.B x.h.length x.c]) hp9 0 _ rfl; simpa [Addr.add_lit] using this
        have y6 : W9.cell? ⟨w7.heap.size, 1, none⟩ = some (.slice x.B x.h.length x.c) := by have := cells_lit (C := [.string x.k, .slice x.B x.h.length x.c]) hp9 1 _ rfl; simpa [Addr.add_lit] using this
        have HW9 := Lib.hid hW9
        have hbr9 : Below wr.heap.size wr W9 := HP8.out.1.trans (hb9.mono HP8.out.1.size)
        clear hLv hb5 hb9 y0 y1 hp9 hW9
        go_upto_region 8 with fail
        rw [HW9.out]

        have HA9 := Lib.hid (HA.out.next hbr9)
        cases bo with
        | false =>
          have ho : o = none := by
            cases o with
            | none => rfl
            | some y => have := HY.out.2; cases this
          have HF2 := Lib.hid (show behT l pre after r (i + 1) = ls by
            rw [HSt.out, HO.out, ho]
            exact List.append_nil _)
          clear ho
          go_wp2
          go_roundw
          case rel => exact ⟨i + 1, by omega, hlt, by go_num, A, m, d, ls, rfl, HF2.out, HM.out.1, hmo2, by omega, HA9.out⟩
          case measure =>
            simp [intOf]
            omega
        | true =>
          have ho : o = some ⟨vr, vk, vm, vv, vs, vl, vg⟩ := by
            cases o with
            | none => have := HY.out.2; cases this
            | some y => have := HY.out.1; exact congrArg some this
          have HF2 := Lib.hid (show behT l pre after r (i + 1) = ls ++ [(x.k, (⟨vr, vk, vm, vv, vs, vl, vg⟩ : Ver))] by
            rw [HSt.out, HO.out, ho]
            rfl)
          clear ho
          by_cases hfull : m < mo
          · have e1 : decide (most ≤ (m : Int)) = false := decide_eq_false (by have := HMo.out; omega)
            have hm6 : m + 1 ≤ 1000000 := by omega
            obtain ⟨v0, v1, v2, v3, v4, v5, v6⟩ := (row7 hv9).1
            go_upto_region 11 with fail
            go_wp2_with (at_builtin
                         go_loud (refine wpList_append_sp elem_item _ rfl _ _ rfl A m d (rowI ls) rfl (HA9.out.sp.keep fun q hq => (show Below W9.heap.size W9 _ from (by repeat (first | exact Below.refl _ _ | apply Below.drew | apply below_drewN | refine Below.alloc ?_ (by simp) _))).block q (HA9.out.sp.lt hq)) _ 1 1 (itemC (x.k, (⟨vr, vk, vm, vv, vs, vl, vg⟩ : Ver))) rfl (fun e => by cases e) rfl (itemC_one _) (fun b e => by cases e; exact cells_lit (C := itemC (x.k, (⟨vr, vk, vm, vv, vs, vl, vg⟩ : Ver))) (heap_alloc_new _ _)) hm6 ?_)
                         intro A8 c8 w8 hsp8 hA8 hg8
                         have hP := HA9.out.push (show Below W9.heap.size W9 _ from (by repeat (first | exact Below.refl _ _ | apply Below.drew | apply below_drewN | refine Below.alloc ?_ (by simp) _))) hg8 hsp8 hA8)
            have HPP := Lib.hid hP
            clear hP hsp8 hA8 hg8 v0 v1 v2 v3 v4 v5 v6
            go_roundw
            case rel => exact ⟨i + 1, by omega, hlt, by go_num, A8, m + 1, c8, ls ++ [(x.k, (⟨vr, vk, vm, vv, vs, vl, vg⟩ : Ver))], rfl, HF2.out, by rw [List.length_append, HM.out.1]; rfl, hfull, by omega, by rw [rowI_add]; exact HPP.out⟩
            case measure =>
              simp [intOf]
              omega
          · have e1 : decide (most ≤ (m : Int)) = true := decide_eq_true (by have := HMo.out; omega)
            have HE := Lib.hid (show Idx.behindI l pre after r most = (ls, false) by
              obtain ⟨us, hus⟩ := behT_more l pre after r (i + 1)
              have hm := HM.out.1
              unfold Idx.behindI
              rw [hus, HF2.out, HMo.out, List.append_assoc, List.take_append_of_le_length (by omega), List.take_of_length_le (by omega), decide_eq_false (by rw [List.length_append, List.length_append]; simp; omega)])
            have HO2 := Lib.hid (And.intro (HA9.out.own HBx.out.size (Nat.le_add_right _ _)) (HL.out.1.trans (hbr9.mono HL.out.1.size)))
            go_wp2
            refine bodyPost_ret (results_tmp2 rfl _ _ _) rfl ?_
            exact ⟨A, m, d, by rw [HE.out]; rfl, by rw [HE.out]; exact HO2.out.1, HO2.out.2⟩
    · obtain rfl : i = l.length := by omega
      have hAt := atM_no (P := P) u t l.length wr (HT.out.1.1.below HL.out.1 (Nat.le_refl _)) hsz (by omega) (by omega)
      have HE := Lib.hid (show Idx.behindI l pre after r most = (ls, true) by
        unfold Idx.behindI
        rw [HS.out.done hsi (fun h => absurd h (Nat.lt_irrefl _)), HM.out.2, HMo.out, List.take_of_length_le (by have := HM.out.1; omega), decide_eq_true (by have := HM.out.1; omega)])
      go_wp2_with fail
      refine hAt.mono ?_
      rintro e w7 ⟨rfl, hb7⟩
      have HO := Lib.hid (show ∀ W, Below wr.heap.size wr W → OwnI w W A m d ls ∧ Below w.heap.size w W from fun W hW => And.intro ((HA.out.next hW).own HBx.out.size (Nat.le_add_right _ _)) (HL.out.1.trans (hW.mono HL.out.1.size)))
      have hb8 := hb7.alloc hb7.size (.cells #[.string ⟨#[]⟩, .slice none 0 0] 81)
      have HO8 := Lib.hid (HO.out _ hb8)
      clear hAt hb7 hb8
      go_wp2
      refine bodyPost_ret (results_tmp2 rfl _ _ _) rfl ?_
      exact ⟨A, m, d, by rw [HE.out]; rfl, by rw [HE.out]; exact HO8.out.1, HO8.out.2⟩


end Go.Proofs.Ytcoddkbbgmjckaa
