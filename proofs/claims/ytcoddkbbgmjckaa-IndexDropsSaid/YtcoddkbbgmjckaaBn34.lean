/- The program's Del. (Written by mkpi.py.) -/
import Derived.Test.YtcoddkbbgmjckaaBn33
namespace Go.Proofs.Ytcoddkbbgmjckaa
open Go.RowKit
set_option linter.unusedVariables false
set_option linter.unusedSimpArgs false
attribute [local go_sem] Oper.semAt_some

theorem delI_no {l : List Idx.KH} {a b : ByteArray} {r m : Int} (h : Idx.rangeB a b = false) : Idx.delI l a b r m = none := by
  unfold Idx.delI
  rw [if_neg (by rw [h]; exact Bool.false_ne_true)]
theorem delI_none {l : List Idx.KH} {a b : ByteArray} {r m : Int} (hd : Idx.delAll l (Idx.keysI l a b) r m = none) : Idx.delI l a b r m = none := by
  unfold Idx.delI
  split
  · rw [hd]
  · rfl
theorem delI_some {l o : List Idx.KH} {a b : ByteArray} {r m : Int} (h : Idx.rangeB a b = true) (hd : Idx.delAll l (Idx.keysI l a b) r m = some o) : Idx.delI l a b r m = some (o, (Idx.keysI l a b).length) := by
  unfold Idx.delI
  rw [if_pos h, hd]
def Idx.delN (o : Option (List Idx.KH × Nat)) : Nat := (o.map (·.2)).getD 0
def Idx.delO (o : Option (List Idx.KH × Nat)) : List Idx.KH := (o.map (·.1)).getD []

set_option maxRecDepth 100000 in
set_option maxHeartbeats 3200000 in
theorem delI_any {P : Nat → Prop} (u : Option Addr) (t : MapKh.T) (a b : ByteArray) (r m : Int) (w : World) (hT : IxTP P w u t) (hF : Fit (kht t)) (ha : a.size ≤ maxLen) (hb : b.size ≤ maxLen) :
    Calls Try.prog 48 #[ixV u, .string a, .string b, .int .i64 r, .int .i64 m] w fun e w' => ∃ u', e = .returned (.tuple #[ixV u', .int .i64 (Idx.delN (Idx.delI (kht t) a b r m) : Nat), .int .i64 (Idx.errS (Idx.delI (kht t) a b r m))]) ∧ IxpP P w' u' (Idx.delO (Idx.delI (kht t) a b r m)) ∧ Below w.heap.size w w' := by
  obtain ⟨W1, hW1⟩ : ∃ W1, ((w.alloc (.cells #[.pointer u] 32)).alloc (.cells #[.pointer none] 32)) = W1 := ⟨_, rfl⟩
  have hb1 : Below w.heap.size w W1 := by rw [← hW1]; exact (((Below.refl _ _).alloc (Nat.le_refl _) _).alloc (by simp) _)
  have hs1 : W1.heap.size = w.heap.size + 2 := by rw [← hW1]; simp
  have hr0 : W1.heap[w.heap.size + 0]? = some (.cells #[.pointer u] 32) := by rw [← hW1]; exact (alloc2_at w _ _).1
  have hr1 : W1.heap[w.heap.size + 1]? = some (.cells #[.pointer none] 32) := by rw [← hW1]; exact (alloc2_at w _ _).2
  have hRg := fun W => rangeP_any a b ha hb W
  have HT := Lib.hid (And.intro hT hF)
  have HB := Lib.hid (And.intro hb1 (And.intro hs1 (And.intro hr0 hr1)))
  cases hq : Idx.rangeB a b with
  | false =>
    rw [hq] at hRg
    have HE := Lib.hid (delI_no (l := kht t) (r := r) (m := m) hq)
    have HZ := Lib.hid (And.intro (setRow_heap W1 _ _ #[.pointer none] _ _ hr1) (below_setRow hb1 (show w.heap.size ≤ w.heap.size + 1 from Nat.le_succ _) #[.pointer none]))
    clear hT hF hb1 hs1 hr0 hq
    go_enter Try.func48, Try.ntmps48
    go_wp2_with fail
    try rw [hW1]
    refine (hRg _).mono ?_
    rintro e w2 ⟨rfl, rfl⟩
    clear hW1 hRg
    go_wp2_with (refine wpList_store_row rfl _ _ _ rfl (w.heap.size + 1) #[.pointer none] (by rfl) (by rfl) _ _ hr1 (by kernel_rfl) rfl (by first | rfl | kernel_rfl | simp [Value.oneCell']) ?_)
    refine bodyPost_ret (res_cell_tmp_tmp (n := w.heap.size + 1) rfl rfl HZ.out.1 Try.underlying32 rfl (by kernel_rfl)) rfl ?_
    exact ⟨none, by rw [HE.out]; rfl, by rw [HE.out]; exact HT.out.1.nil HZ.out.2.size, HZ.out.2⟩
  | true =>
    rw [hq] at hRg
    have HQ := Lib.hid hq
    have z0 : W1.cell? ⟨w.heap.size, 0, none⟩ = some (.pointer u) := (row1 hr0).1
    obtain ⟨W2, hW2⟩ : ∃ W2, W1.alloc (.cells #[.pointer u] 30) = W2 := ⟨_, rfl⟩
    have hb2 : Below W1.heap.size W1 W2 := by rw [← hW2]; exact (Below.refl _ _).alloc (Nat.le_refl _) _
    have hk2 : W2.heap[w.heap.size + 2]? = some (.cells #[.pointer u] 30) := by rw [← hW2, ← hs1]; exact heap_alloc_new W1 _
    have hs2 : W2.heap.size = w.heap.size + 3 := by rw [← hW2]; simp; omega
    have HB2 := Lib.hid (And.intro (hb1.trans (hb2.mono hb1.size)) (And.intro hs2 (And.intro hk2 ((hb2.block _ (hlq hr1)).trans hr1))))
    have x0 : W2.cell? ⟨w.heap.size, 0, none⟩ = some (.pointer u) := (row1 ((hb2.block _ (hlq hr0)).trans hr0)).1
    have hWi := withinP_any u t a b W2 (hT.below HB2.out.1) hF ha hb
    have HW2 := Lib.hid hW2
    have HS1 := Lib.hid hs1
    clear hT hF hb1 hs1 hr0 hr1 hq hb2 hk2 hs2 hW2
    go_enter Try.func48, Try.ntmps48
    go_wp2_with fail
    try rw [hW1]
    refine (hRg _).mono ?_
    rintro e w2 ⟨rfl, hw2⟩
    subst hw2
    clear hW1 hRg
    go_upto_region 4 with fail
    rw [HW2.out, HS1.out]
    go_wp2_with fail
    refine hWi.mono ?_
    rintro e w3 ⟨R, c, xs, rfl, hRow, hks, hin, hb3⟩
    obtain ⟨n, hn⟩ : ∃ n, xs.length = n := ⟨_, rfl⟩
    rw [hn] at hRow ⊢
    have hb3' := HB2.out.1.trans (hb3.mono HB2.out.1.size)
    have H3 := Lib.hid (show KLp P w w3 2 30 R n c xs 3 u (kht t) from ⟨(ixpP_iff.2 ⟨t, HT.out.1, rfl⟩).below hb3', (hb3.block _ (hlq HB2.out.2.2.1)).trans HB2.out.2.2.1, hRow.tree HB2.out.1.size HT.out.1 hin, fun q hq => by have := hRow.new q hq; rw [HB2.out.2.1] at this; exact this, hb3'⟩)
    have HR3 := Lib.hid ((hb3.block _ (hlq HB2.out.2.2.2)).trans HB2.out.2.2.2)
    have hys : (khs xs).Sublist (kht t) := by rw [hks]; exact List.filter_sublist
    have hka : Idx.keysI (kht t) a b = ((khs xs).filter Idx.lv).map (·.1) := by rw [hks]; exact Idx.keys_is HT.out.2.wf a b
    have HK := Lib.hid (And.intro hys (And.intro hn hka))
    have hn1 : n ≤ 1000 := by
      have h1 := HT.out.2.n
      have h2 := hys.length_le
      unfold khs at h2
      rw [List.length_map] at h2
      omega
    clear hRow hks hin hb3 hb3' hWi z0 x0 hn hys hka
    go_wp2_with fail
    go_loopw [14, 33] (fun v14 v33 wr => ∃ k cnt : Nat, k ≤ n ∧ cnt ≤ k ∧ v33 = .int .i64 (k : Int) ∧ v14 = .int .i64 (cnt : Int) ∧ ∃ uk lk, Idx.DelK (kht t) (khs xs) r m k lk cnt ∧ KLp P w wr 2 30 R n c xs 3 uk lk ∧ wr.heap[w.heap.size + 1]? = some (.cells #[.pointer none] 32)) (fun _ v33 _ => n - (intOf v33).toNat)
    case atStart => exact ⟨0, 0, Nat.zero_le _, Nat.le_refl _, rfl, rfl, u, kht t, Idx.DelK.start HT.out.2.wf HK.out.1 r m, H3.out, HR3.out⟩
    case round =>
      obtain ⟨k, cnt, hk, hck, rfl, rfl, uk, lk, hD, hL, hR⟩ := hrel
      have HL := Lib.hid hL
      have HR := Lib.hid hR
      have HD := Lib.hid hD
      clear hL hR hD
      by_cases hlt : k < n
      · have l1 : decide ((k : Int) < (n : Int)) = true := decide_eq_true (by omega)
        have k4 : (k : Int) < (n : Int) := by omega
        obtain ⟨g, off, hRe, hg, c0, c1⟩ := HL.out.row.at_ k hlt
        obtain ⟨x, hx⟩ : ∃ x, xs[k]'(by rw [HL.out.row.len]; exact hlt) = x := ⟨_, rfl⟩
        rw [hx] at c0 c1
        have HX := Lib.hid hx
        subst hRe
        obtain ⟨W8, hW8⟩ : ∃ W8, wr.alloc (.cells #[.string x.k, .slice x.B x.h.length x.c] 81) = W8 := ⟨_, rfl⟩
        have hb8 : Below wr.heap.size wr W8 := by rw [← hW8]; exact (Below.refl _ _).alloc (Nat.le_refl _) _
        have hp8 : W8.heap[wr.heap.size]? = some (.cells #[.string x.k, .slice x.B x.h.length x.c] 81) := by rw [← hW8]; exact heap_alloc_new wr _
        have HP8 := Lib.hid (And.intro hb8 hp8)
        have y0 : W8.cell? ⟨wr.heap.size, 0, none⟩ = some (.string x.k) := by have := cells_lit (C := [.string x.k, .slice x.B x.h.length x.c]) hp8 0 _ rfl; simpa [Addr.add_lit] using this
        have y1 : W8.cell? ⟨wr.heap.size, 1, none⟩ = some (.slice x.B x.h.length x.c) := by have := cells_lit (C := [.string x.k, .slice x.B x.h.length x.c]) hp8 1 _ rfl; simpa [Addr.add_lit] using this
        have HW8 := Lib.hid hW8
        clear hx hg hb8 hp8 hW8
        have hkl : k < (khs xs).length := by unfold khs; rw [List.length_map, HK.out.2.1]; exact hlt
        have hkx : (khs xs)[k] = (x.k, x.h) := by
          rw [← HX.out]
          unfold khs
          rw [List.getElem_map]
          rfl
        have hxm : x ∈ xs := by rw [← HX.out]; exact List.getElem_mem _
        have hxv := HL.out.row.vs x hxm
        have hxl : x.h.length ≤ 900000 := by
          have h1 := len_tot (HK.out.1.subset (List.getElem_mem hkl))
          rw [hkx] at h1
          have h2 := HT.out.2.t
          dsimp only at h1
          omega
        have HXV := Lib.hid (And.intro hxv (And.intro hkx (And.intro hkl (HT.out.2.wf.up.sublist HK.out.1))))
        clear hxm hxv hkx
        have HL8 := Lib.hid (HL.out.below HP8.out.1)
        have HR8 := Lib.hid ((HP8.out.1.block _ (hlq HR.out)).trans HR.out)
        have hLv := liveP_any x.B x.h.length x.c x.h W8 (HXV.out.1.1.below HL8.out.b) HXV.out.1.2 hxl
        obtain ⟨o, ho⟩ : ∃ o, His.liveL x.h = o := ⟨_, rfl⟩
        rw [ho] at hLv
        have HO := Lib.hid ho
        clear ho
        unfold atV at hLv
        dsimp only [verV] at hLv
        obtain ⟨y, hy⟩ : ∃ y, o.getD His.none_ = y := ⟨_, rfl⟩
        obtain ⟨bo, hbo⟩ : ∃ bo, o.isSome = bo := ⟨_, rfl⟩
        rw [hy, hbo] at hLv
        obtain ⟨yr, yk, ym, yv, ys, yl, yg⟩ := y
        dsimp only at hLv
        have HBo := Lib.hid (show (His.liveL x.h).isSome = bo by rw [HO.out, hbo])
        clear hy hbo
        have hlk3 : lk.length + 1 ≤ 4000000 := by have := HD.out.len; have := HT.out.2.n; omega
        go_upto_region 7 with fail
        rw [HW8.out]
        go_wp2_with fail
        refine hLv.mono ?_
        rintro e w5 ⟨rfl, hb5⟩
        obtain ⟨W9, hW9⟩ : ∃ W9, w5.alloc (.cells #[.int .i64 yr, .int .i64 yk, .int .i64 ym, .int .i64 yv, .string ys, .int .i64 yl, .bool yg] 37) = W9 := ⟨_, rfl⟩
        have hb9 : Below W8.heap.size W8 W9 := by rw [← hW9]; exact hb5.alloc hb5.size _
        have HL9 := Lib.hid (HL8.out.below hb9)
        have HR9 := Lib.hid ((hb9.block _ (hlq HR8.out)).trans HR8.out)
        have hp9 := (hb9.block _ (hlq HP8.out.2)).trans HP8.out.2
        have y5 : W9.cell? ⟨wr.heap.size, 0, none⟩ = some (.string x.k) := by have := cells_lit (C := [.string x.k, .slice x.B x.h.length x.c]) hp9 0 _ rfl; simpa [Addr.add_lit] using this
        have y6 : W9.cell? ⟨wr.heap.size, 1, none⟩ = some (.slice x.B x.h.length x.c) := by have := cells_lit (C := [.string x.k, .slice x.B x.h.length x.c]) hp9 1 _ rfl; simpa [Addr.add_lit] using this
        have HP9 := Lib.hid hp9
        have HW9 := Lib.hid hW9
        clear hLv hb5 hb9 c0 c1 y0 y1 hp9 hW9
        go_upto_region 8 with fail
        rw [HW9.out]
        cases bo with
        | false =>
          have HE := Lib.hid (HD.out.skip HXV.out.2.2.1 (by unfold Idx.lv; rw [HXV.out.2.1]; exact HBo.out))
          go_wp2
          go_roundw
          case rel => exact ⟨k + 1, cnt, by omega, by omega, by go_num, rfl, uk, lk, HE.out, HL9.out, HR9.out⟩
          case measure =>
            simp [intOf]
            omega
        | true =>
          have hDl := delP_any x.B x.h.length x.c x.h r m W9 (HXV.out.1.1.below HL9.out.b) HXV.out.1.2 hxl
          rcases Idx.del_live (h := x.h) (r := r) (m := m) HBo.out with ⟨hd0, hdn⟩ | hd1
          · rw [hd0] at hDl
            have HS := Lib.hid (HD.out.step HXV.out.2.2.2 HXV.out.2.2.1 (by unfold Idx.lv; rw [HXV.out.2.1]; exact HBo.out) (by rw [HXV.out.2.1]; exact hd0))
            rw [HXV.out.2.1] at HS
            have HDN := Lib.hid hdn
            clear hd0 hdn
            go_wp2_with fail
            refine hDl.mono ?_
            rintro e w6 ⟨R6, n6, c6, rfl, hO6, hb6⟩
            have HL6 := Lib.hid (HL9.out.below hb6)
            have HR6 := Lib.hid ((hb6.block _ (hlq HR9.out)).trans HR9.out)
            have hp6 := (hb6.block _ (hlq HP9.out)).trans HP9.out
            have y7 : w6.cell? ⟨wr.heap.size, 0, none⟩ = some (.string x.k) := by have := cells_lit (C := [.string x.k, .slice x.B x.h.length x.c]) hp6 0 _ rfl; simpa [Addr.add_lit] using this
            have z6 : w6.cell? ⟨w.heap.size + 2, 0, none⟩ = some (.pointer uk) := (row1 HL6.out.box).1
            have hn6 : (His.delL x.h r m).1.length = n6 := hO6.len
            have HO6 := Lib.hid hO6
            have hbs : w.heap.size ≤ W9.heap.size := HL9.out.b.size
            have HPn := Lib.hid (show ∀ q, blk R6 q → P q from fun q hq => HT.out.1.1.ev q (Nat.le_trans hbs (hO6.new q hq)))
            obtain ⟨t6, ht6, e6⟩ := ixpP_iff.1 HL6.out.ix
            have hlk6 : t6.size + 1 ≤ 4000000 := by rw [← kht_len, e6]; exact hlk3
            have hPm := MapKh.put_map (P := P) t6 uk x.k ⟨R6, (His.delL x.h r m).1, c6⟩ w6 ht6.1 hlk6
            dsimp only [hlV] at hPm
            rw [hn6] at hPm
            have HT6 := Lib.hid (And.intro ht6 e6)
            have HN6 := Lib.hid hn6
            clear hDl hO6 hb6 hp6 ht6 e6 hn6 y5 y6
            go_wp2_with fail
            refine hPm.mono ?_
            rintro e w7 ⟨u7, rfl, hr7, hb7⟩
            have h6 := (HT6.out.1.put hb7 hr7 (by have := HO6.out.sp.vers; rw [HN6.out]; exact this) hb7 (by rw [HN6.out]; exact HO6.out.sp.2.1) HPn.out)
            have h7 := ixpP_iff.2 ⟨_, h6, kht_put HT6.out.1.2.1 x.k ⟨R6, (His.delL x.h r m).1, c6⟩ HDN.out⟩
            rw [HT6.out.2] at h7
            have hL7 := HL6.out.below hb7
            have hbx := hL7.box
            have hR7 := (hb7.block _ (hlq HR6.out)).trans HR6.out
            have HE := Lib.hid (show KLp P w (w7.setRow (w.heap.size + 2) #[.pointer u7]) 2 30 (some ⟨g, off, none⟩) n c xs 3 u7 (Idx.setL lk x.k (His.delL x.h r m).1) ∧ (w7.setRow (w.heap.size + 2) #[.pointer u7]).heap[w.heap.size + 1]? = some (.cells #[.pointer none] 32) from ⟨hL7.put h7 (by omega), hL7.other hR7 (by omega) _⟩)
            clear hPm hr7 hb7 h6 h7 hL7 hR7 y7 z6
            have kc : IntKind.i64.wrap ((cnt : Int) + 1) = ((cnt + 1 : Nat) : Int) := by rw [IntWalk.i64_in _ (by omega)]; omega
            go_wp2_with (refine wpList_store_row rfl _ _ _ rfl (w.heap.size + 2) #[.pointer u7] (by rfl) (by rfl) _ _ hbx (by kernel_rfl) rfl (by first | rfl | kernel_rfl | simp [Value.oneCell']) ?_)
            go_roundw
            case rel => exact ⟨k + 1, cnt + 1, by omega, by omega, by go_num, by go_num, u7, _, HS.out, HE.out⟩
            case measure =>
              simp [intOf]
              omega
          · rw [hd1] at hDl
            have HE := Lib.hid (delI_none (by rw [HK.out.2.2]; exact HD.out.no HXV.out.2.2.1 (by unfold Idx.lv; rw [HXV.out.2.1]; exact HBo.out) (by rw [HXV.out.2.1, hd1]; decide)) : Idx.delI (kht t) a b r m = none)
            clear hd1
            go_wp2_with fail
            refine hDl.mono ?_
            rintro e w6 ⟨R6, n6, c6, rfl, hO6, hb6⟩
            have hR6 := (hb6.block _ (hlq HR9.out)).trans HR9.out
            have HL6 := Lib.hid (HL9.out.below hb6)
            have HZ := Lib.hid (And.intro (setRow_heap w6 _ _ #[.pointer none] _ _ hR6) (below_setRow HL6.out.b (show w.heap.size ≤ w.heap.size + 1 from Nat.le_succ _) #[.pointer none]))
            clear hDl hO6 hb6 y5 y6
            go_wp2_with (refine wpList_store_row rfl _ _ _ rfl (w.heap.size + 1) #[.pointer none] (by rfl) (by rfl) _ _ hR6 (by kernel_rfl) rfl (by first | rfl | kernel_rfl | simp [Value.oneCell']) ?_)
            refine bodyPost_ret (res_cell_tmp_tmp (n := w.heap.size + 1) rfl rfl HZ.out.1 Try.underlying32 rfl (by kernel_rfl)) rfl ?_
            exact ⟨none, by rw [HE.out]; rfl, by rw [HE.out]; exact HT.out.1.nil HZ.out.2.size, HZ.out.2⟩
      · obtain rfl : k = n := by omega
        have l1 : decide ((k : Int) < (k : Int)) = false := decide_eq_false (by omega)
        have z8 : wr.cell? ⟨w.heap.size + 2, 0, none⟩ = some (.pointer uk) := (row1 HL.out.box).1
        have hR := HR.out
        have hdn := (show Idx.DelK (kht t) (khs xs) r m (khs xs).length lk cnt by
          have e : (khs xs).length = k := by unfold khs; rw [List.length_map, HK.out.2.1]
          rw [e]; exact HD.out).done
        have HE := Lib.hid (show Idx.delI (kht t) a b r m = some (lk, cnt) by
          rw [delI_some HQ.out (by rw [HK.out.2.2]; exact hdn.1), HK.out.2.2, ← hdn.2])
        have HZ := Lib.hid (And.intro (HL.out.ix.store1 hR #[.pointer uk]) (And.intro (setRow_heap wr _ _ #[.pointer uk] _ _ hR) (below_setRow HL.out.b (show w.heap.size ≤ w.heap.size + 1 from Nat.le_succ _) #[.pointer uk])))
        clear hdn
        go_wp2_with (refine wpList_store_row rfl _ _ _ rfl (w.heap.size + 1) #[.pointer uk] (by rfl) (by rfl) _ _ hR (by kernel_rfl) rfl (by first | rfl | kernel_rfl | simp [Value.oneCell']) ?_)
        refine bodyPost_ret (res_cell_tmp_tmp (n := w.heap.size + 1) rfl rfl HZ.out.2.1 Try.underlying32 rfl (by kernel_rfl)) rfl ?_
        exact ⟨uk, by rw [HE.out]; rfl, by rw [HE.out]; exact HZ.out.1, HZ.out.2.2⟩

end Go.Proofs.Ytcoddkbbgmjckaa
