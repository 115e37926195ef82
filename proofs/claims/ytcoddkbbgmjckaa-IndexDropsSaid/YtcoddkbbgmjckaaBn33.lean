/- The program's Drop and Trim. (Written by mkpi.py.) -/
import Derived.Test.YtcoddkbbgmjckaaBn32
namespace Go.Proofs.Ytcoddkbbgmjckaa
open Go.RowKit
set_option linter.unusedVariables false
set_option linter.unusedSimpArgs false
attribute [local go_sem] Oper.semAt_some

theorem IxTP.del_or {P : Nat → Prop} {w w' : World} {u u' : Option Addr} {t t' : MapKh.T} (h : IxTP P w u t) (hb : Below w.heap.size w w') {k : ByteArray} (hr : MapKh.Rp P w' u' t') (ho : t' = Tr.del ltS t k ∧ Tr.find ltS k t ≠ .nil ∨ t' = t ∧ Tr.find ltS k t = .nil) : IxpP P w' u' (Idx.setL (kht t) k []) := by
  rcases ho with ⟨rfl, _⟩ | ⟨rfl, hf⟩
  · refine ixpP_iff.2 ⟨_, ⟨hr, h.2.1.del linS k, fun p hp => ?_⟩, kht_del h.2.1 k⟩
    rw [Tr.list_del linS t k h.2.1] at hp
    have := h.2.2 p (List.mem_filter.1 hp).1
    exact ⟨this.1.below hb, this.2⟩
  · refine ixpP_iff.2 ⟨_, ⟨hr, h.2.1, fun p hp => ?_⟩, (kht_same (kht_no h.2.1 hf).1 h.2.1).symm⟩
    have := h.2.2 p hp
    exact ⟨this.1.below hb, this.2⟩
theorem RowP.tree {P : Nat → Prop} {w w1 wr : World} {u : Option Addr} {t : MapKh.T} {R : Option Addr} {n c : Nat} {xs : List KLay} (h : RowP w1 wr R n c xs) (hs : w.heap.size ≤ w1.heap.size) (hT : IxTP P w u t) (hx : ∀ x ∈ xs, ∃ p ∈ t.list, x = klOf p) : RowP w wr R n c xs :=
  h.from hs fun x hm => by
    obtain ⟨p, hp, rfl⟩ := hx x hm
    exact (hT.2.2 p hp).1
theorem khs_map (xs : List KLay) : (khs xs).map (·.1) = xs.map KLay.k := by
  unfold khs
  rw [List.map_map]
  rfl
theorem take_k (xs : List KLay) {k : Nat} (hk : k < xs.length) : (xs.take (k + 1)).map KLay.k = (xs.take k).map KLay.k ++ [xs[k].k] := by
  rw [List.take_succ_eq_append_getElem hk, List.map_append]
  rfl

set_option maxRecDepth 100000 in
set_option maxHeartbeats 3200000 in
theorem dropP_any {P : Nat → Prop} (u : Option Addr) (t : MapKh.T) (a b : ByteArray) (w : World) (hT : IxTP P w u t) (hF : Fit (kht t)) (ha : a.size ≤ maxLen) (hb : b.size ≤ maxLen) :
    Calls Try.prog 41 #[ixV u, .string a, .string b] w fun e w' => ∃ u', e = .returned (ixV u') ∧ IxpP P w' u' (Idx.dropI (kht t) a b) ∧ Below w.heap.size w w' := by
  obtain ⟨W1, hW1⟩ : ∃ W1, ((w.alloc (.cells #[.pointer u] 32)).alloc (.cells #[.pointer none] 32)) = W1 := ⟨_, rfl⟩
  have hb1 : Below w.heap.size w W1 := by rw [← hW1]; exact (((Below.refl _ _).alloc (Nat.le_refl _) _).alloc (by simp) _)
  have hs1 : W1.heap.size = w.heap.size + 2 := by rw [← hW1]; simp
  have hr0 : W1.heap[w.heap.size + 0]? = some (.cells #[.pointer u] 32) := by rw [← hW1]; exact (alloc2_at w _ _).1
  have hr1 : W1.heap[w.heap.size + 1]? = some (.cells #[.pointer none] 32) := by rw [← hW1]; exact (alloc2_at w _ _).2
  have hWi := withinP_any u t a b W1 (hT.below hb1) hF ha hb
  have HT := Lib.hid (And.intro hT hF)
  have HB := Lib.hid (And.intro hb1 (And.intro hs1 (And.intro hr0 hr1)))
  have z0 : W1.cell? ⟨w.heap.size, 0, none⟩ = some (.pointer u) := (row1 hr0).1
  clear hT hF hb1 hs1 hr0 hr1
  go_enter Try.func41, Try.ntmps41
  go_wp2_with fail
  try rw [hW1]
  refine hWi.mono ?_
  rintro e w2 ⟨R, c, xs, rfl, hRow, hks, hin, hb2⟩
  obtain ⟨n, hn⟩ : ∃ n, xs.length = n := ⟨_, rfl⟩
  rw [hn] at hRow ⊢
  have hb2' := HB.out.1.trans (hb2.mono HB.out.1.size)
  have H2 := Lib.hid (show KLp P w w2 0 32 R n c xs 2 u (kht t) from ⟨(ixpP_iff.2 ⟨t, HT.out.1, rfl⟩).below hb2', (hb2.block _ (hlq HB.out.2.2.1)).trans HB.out.2.2.1, hRow.tree HB.out.1.size HT.out.1 hin, fun q hq => by have := hRow.new q hq; rw [HB.out.2.1] at this; exact this, hb2'⟩)
  have HR2 := Lib.hid ((hb2.block _ (hlq HB.out.2.2.2)).trans HB.out.2.2.2)
  have HK := Lib.hid (And.intro hks hn)
  have hn1 : n ≤ 1000 := by
    have h1 := HT.out.2.n
    have h2 : (khs xs).length ≤ (kht t).length := by rw [hks]; exact List.length_filter_le ..
    unfold khs at h2
    rw [List.length_map] at h2
    omega
  clear hRow hks hin hb2 hb2' hWi z0 hW1 hn
  go_wp2_with fail
  go_loopw [14] (fun v14 wr => ∃ k : Nat, k ≤ n ∧ v14 = .int .i64 (k : Int) ∧ ∃ uk, KLp P w wr 0 32 R n c xs 2 uk (Idx.dropK (kht t) ((xs.take k).map KLay.k)) ∧ wr.heap[w.heap.size + 1]? = some (.cells #[.pointer none] 32)) (fun v14 _ => n - (intOf v14).toNat)
  case atStart => exact ⟨0, Nat.zero_le _, rfl, u, H2.out, HR2.out⟩
  case round =>
    obtain ⟨k, hk, rfl, uk, hL, hR⟩ := hrel
    have HL := Lib.hid hL
    have HR := Lib.hid hR
    have hlk := Idx.dropK_len (kht t) ((xs.take k).map KLay.k)
    obtain ⟨lk, hlk2⟩ : ∃ lk, Idx.dropK (kht t) ((xs.take k).map KLay.k) = lk := ⟨_, rfl⟩
    rw [hlk2] at HL hlk
    have HLK := Lib.hid hlk2
    have hlk3 : lk.length ≤ 4000000 := by
      have h1 := HT.out.2.n
      rw [List.length_map, List.length_take] at hlk
      omega
    clear hL hR hlk hlk2
    by_cases hlt : k < n
    · have l1 : decide ((k : Int) < (n : Int)) = true := decide_eq_true (by omega)
      have k4 : (k : Int) < (n : Int) := by omega
      obtain ⟨g, off, hRe, hg, c0, c1⟩ := HL.out.row.at_ k hlt
      obtain ⟨x, hx⟩ : ∃ x, xs[k]'(by rw [HL.out.row.len]; exact hlt) = x := ⟨_, rfl⟩
      rw [hx] at c0 c1
      have HX := Lib.hid hx
      subst hRe
      obtain ⟨W8, hW8⟩ : ∃ W8, wr.alloc (.cells #[.string x.k, .slice x.B x.h.length x.c] 81) = W8 := ⟨_, rfl⟩
      have hb8 : Below wr.heap.size wr W8 := by rw [← hW8]; exact (Below.refl _ _).alloc (Nat.le_refl _) _
      have hp8 : W8.heap[wr.heap.size]? = some (.cells #[.string x.k, .slice x.B x.h.length x.c] 81) := by rw [← hW8]; exact heap_alloc_new wr _
      have HP8 := Lib.hid (And.intro hb8 hp8)
      have y0 : W8.cell? ⟨wr.heap.size, 0, none⟩ = some (.string x.k) := by have := cells_lit (C := [.string x.k, .slice x.B x.h.length x.c]) hp8 0 _ rfl; simpa [Addr.add_lit] using this
      have y1 : W8.cell? ⟨wr.heap.size, 1, none⟩ = some (.slice x.B x.h.length x.c) := by have := cells_lit (C := [.string x.k, .slice x.B x.h.length x.c]) hp8 1 _ rfl; simpa [Addr.add_lit] using this
      have HW8 := Lib.hid hW8
      clear hx hg hb8 hp8 hW8
      have HL8 := Lib.hid (HL.out.below HP8.out.1)
      have HR8 := Lib.hid ((HP8.out.1.block _ (hlq HR.out)).trans HR.out)
      have z8 : W8.cell? ⟨w.heap.size, 0, none⟩ = some (.pointer uk) := (row1 HL8.out.box).1
      obtain ⟨t8, ht8, e8⟩ := ixpP_iff.1 HL8.out.ix
      have hD := MapKh.del_map t8 uk x.k W8 ht8.1 ht8.2.1 (by rw [← kht_len, e8]; exact hlk3)
      have HT8 := Lib.hid (And.intro ht8 e8)
      clear ht8 e8
      go_upto_region 4 with fail
      rw [HW8.out]
      go_wp2_with fail
      refine hD.mono ?_
      rintro e w5 ⟨u5, t5, rfl, hr5, hor, hb5⟩
      have h5 := HT8.out.1.del_or hb5 hr5 hor
      rw [HT8.out.2] at h5
      have hL5 := HL8.out.below hb5
      have hbx := hL5.box
      have hR5 := (hb5.block _ (hlq HR8.out)).trans HR8.out
      have HE := Lib.hid (show KLp P w (w5.setRow (w.heap.size + 0) #[.pointer u5]) 0 32 (some ⟨g, off, none⟩) n c xs 2 u5 (Idx.dropK (kht t) ((xs.take (k + 1)).map KLay.k)) ∧ (w5.setRow (w.heap.size + 0) #[.pointer u5]).heap[w.heap.size + 1]? = some (.cells #[.pointer none] 32) from ⟨by
        rw [take_k xs (by rw [HL.out.row.len]; exact hlt), Idx.dropK_add, HLK.out, HX.out]
        exact hL5.put h5 (by omega), hL5.other hR5 (by omega) _⟩)
      clear hD hr5 hor hb5 h5 hL5 hR5 c0 c1 y0 y1 z8
      go_wp2_with (refine wpList_store_row rfl _ _ _ rfl w.heap.size #[.pointer u5] (by rfl) (by rfl) _ _ hbx (by kernel_rfl) rfl (by first | rfl | kernel_rfl | simp [Value.oneCell']) ?_)
      go_roundw
      case rel => exact ⟨k + 1, by omega, by go_num, u5, HE.out⟩
      case measure =>
        simp [intOf]
        omega
    · obtain rfl : k = n := by omega
      have l1 : decide ((k : Int) < (k : Int)) = false := decide_eq_false (by omega)
      have z8 : wr.cell? ⟨w.heap.size, 0, none⟩ = some (.pointer uk) := (row1 HL.out.box).1
      have hR := HR.out
      have HE := Lib.hid (show lk = Idx.dropI (kht t) a b by
        have := HLK.out
        rw [List.take_of_length_le (by rw [HK.out.2]; exact Nat.le_refl _), ← khs_map, HK.out.1, Idx.drop_is HT.out.2.wf] at this
        exact this.symm)
      have HZ := Lib.hid (And.intro (HL.out.ix.store1 hR #[.pointer uk]) (And.intro (setRow_heap wr _ _ #[.pointer uk] _ _ hR) (below_setRow HL.out.b (show w.heap.size ≤ w.heap.size + 1 from Nat.le_succ _) #[.pointer uk])))
      go_wp2_with (refine wpList_store_row rfl _ _ _ rfl (w.heap.size + 1) #[.pointer uk] (by rfl) (by rfl) _ _ hR (by kernel_rfl) rfl (by first | rfl | kernel_rfl | simp [Value.oneCell']) ?_)
      refine bodyPost_ret (res_cell (n := w.heap.size + 1) rfl rfl HZ.out.2.1 Try.underlying32 rfl (by kernel_rfl)) rfl ?_
      exact ⟨uk, rfl, by rw [← HE.out]; exact HZ.out.1, HZ.out.2.2⟩

set_option maxRecDepth 100000 in
set_option maxHeartbeats 3200000 in
theorem trimI_any {P : Nat → Prop} (u : Option Addr) (t : MapKh.T) (f : Int) (w : World) (hT : IxTP P w u t) (hF : Fit (kht t)) :
    Calls Try.prog 35 #[ixV u, .int .i64 f] w fun e w' => ∃ u', e = .returned (ixV u') ∧ IxpP P w' u' (Idx.trimI (kht t) f) ∧ Below w.heap.size w w' := by
  obtain ⟨W1, hW1⟩ : ∃ W1, ((w.alloc (.cells #[.pointer u] 32)).alloc (.cells #[.pointer none] 32)) = W1 := ⟨_, rfl⟩
  have hb1 : Below w.heap.size w W1 := by rw [← hW1]; exact (((Below.refl _ _).alloc (Nat.le_refl _) _).alloc (by simp) _)
  have hs1 : W1.heap.size = w.heap.size + 2 := by rw [← hW1]; simp
  have hr0 : W1.heap[w.heap.size + 0]? = some (.cells #[.pointer u] 32) := by rw [← hW1]; exact (alloc2_at w _ _).1
  have hr1 : W1.heap[w.heap.size + 1]? = some (.cells #[.pointer none] 32) := by rw [← hW1]; exact (alloc2_at w _ _).2
  have hAl := MapKh.all_map t u W1 (hT.1.below hb1 (Nat.le_refl _)) (by have := hF.n; rw [kht_len] at this; omega)
  have HT := Lib.hid (And.intro hT hF)
  have HB := Lib.hid (And.intro hb1 (And.intro hs1 (And.intro hr0 hr1)))
  have z0 : W1.cell? ⟨w.heap.size, 0, none⟩ = some (.pointer u) := (row1 hr0).1
  clear hT hF hb1 hs1 hr0 hr1
  go_enter Try.func35, Try.ntmps35
  go_wp2_with fail
  try rw [hW1]
  refine hAl.mono ?_
  rintro e w2 ⟨R, c, rfl, ho, hb2⟩
  obtain ⟨xs, hxs⟩ : ∃ xs, t.list.map klOf = xs := ⟨_, rfl⟩
  obtain ⟨n, hn⟩ : ∃ n, t.list.length = n := ⟨_, rfl⟩
  have hRow := RowP.of ho fun p hp => ⟨(HT.out.1.2.2 p hp).1.below HB.out.1, (HT.out.1.2.2 p hp).2.1⟩
  rw [hn, hxs] at hRow
  rw [hn]
  have hks : khs xs = kht t := by rw [← hxs, khs_of]; rfl
  have hin : ∀ x ∈ xs, ∃ p ∈ t.list, x = klOf p := fun x hx => by
    rw [← hxs] at hx
    obtain ⟨p, hp, e⟩ := List.mem_map.1 hx
    exact ⟨p, hp, e.symm⟩
  have hnl : xs.length = n := by rw [← hxs, List.length_map, hn]
  have hb2' := HB.out.1.trans (hb2.mono HB.out.1.size)
  have H2 := Lib.hid (show KLp P w w2 0 32 R n c xs 2 u (kht t) from ⟨(ixpP_iff.2 ⟨t, HT.out.1, rfl⟩).below hb2', (hb2.block _ (hlq HB.out.2.2.1)).trans HB.out.2.2.1, hRow.tree HB.out.1.size HT.out.1 hin, fun q hq => by have := hRow.new q hq; rw [HB.out.2.1] at this; exact this, hb2'⟩)
  have HR2 := Lib.hid ((hb2.block _ (hlq HB.out.2.2.2)).trans HB.out.2.2.2)
  have HK := Lib.hid (And.intro hks hnl)
  have HIn := Lib.hid hin
  have hn1 : (kht t).length = n := by rw [← hks]; unfold khs; rw [List.length_map, hnl]
  have hn2 : n ≤ 1000 := by have := HT.out.2.n; omega
  have HN := Lib.hid hn1
  clear hRow hks hin hb2 hb2' hAl z0 hW1 hn hnl ho hxs hn1
  go_wp2_with fail
  go_loopw [12] (fun v12 wr => ∃ k : Nat, k ≤ n ∧ v12 = .int .i64 (k : Int) ∧ ∃ uk lk, Idx.TrimK (kht t) f k lk ∧ KLp P w wr 0 32 R n c xs 2 uk lk ∧ wr.heap[w.heap.size + 1]? = some (.cells #[.pointer none] 32)) (fun v12 _ => n - (intOf v12).toNat)
  case atStart => exact ⟨0, Nat.zero_le _, rfl, u, kht t, Idx.TrimK.start HT.out.2.wf f, H2.out, HR2.out⟩
  case round =>
    obtain ⟨k, hk, rfl, uk, lk, hD, hL, hR⟩ := hrel
    have HL := Lib.hid hL
    have HR := Lib.hid hR
    have HD := Lib.hid hD
    clear hL hR hD
    by_cases hlt : k < n
    · have l1 : decide ((k : Int) < (n : Int)) = true := decide_eq_true (by omega)
      have k4 : (k : Int) < (n : Int) := by omega
      obtain ⟨g, off, hRe, hg, c0, c1⟩ := HL.out.row.at_ k hlt
      obtain ⟨x, hx⟩ : ∃ x, xs[k]'(by rw [HL.out.row.len]; exact hlt) = x := ⟨_, rfl⟩
      rw [hx] at c0 c1
      have HX := Lib.hid hx
      subst hRe
      obtain ⟨W8, hW8⟩ : ∃ W8, wr.alloc (.cells #[.string x.k, .slice x.B x.h.length x.c] 81) = W8 := ⟨_, rfl⟩
      have hb8 : Below wr.heap.size wr W8 := by rw [← hW8]; exact (Below.refl _ _).alloc (Nat.le_refl _) _
      have hp8 : W8.heap[wr.heap.size]? = some (.cells #[.string x.k, .slice x.B x.h.length x.c] 81) := by rw [← hW8]; exact heap_alloc_new wr _
      have HP8 := Lib.hid (And.intro hb8 hp8)
      have y0 : W8.cell? ⟨wr.heap.size, 0, none⟩ = some (.string x.k) := by have := cells_lit (C := [.string x.k, .slice x.B x.h.length x.c]) hp8 0 _ rfl; simpa [Addr.add_lit] using this
      have y1 : W8.cell? ⟨wr.heap.size, 1, none⟩ = some (.slice x.B x.h.length x.c) := by have := cells_lit (C := [.string x.k, .slice x.B x.h.length x.c]) hp8 1 _ rfl; simpa [Addr.add_lit] using this
      have HW8 := Lib.hid hW8
      clear hx hg hb8 hp8 hW8
      have hkl : k < (kht t).length := by rw [HN.out]; exact hlt
      have hkx : (kht t)[k] = (x.k, x.h) := by
        have h1 : (khs xs)[k]'(by rw [HK.out.1]; exact hkl) = (x.k, x.h) := by
          rw [← HX.out]
          unfold khs
          rw [List.getElem_map]
          rfl
        rw [← h1]
        exact List.getElem_of_eq HK.out.1.symm _
      have hxR : His.Right x.h := by have := HT.out.2.wf.right _ (List.getElem_mem hkl); rw [hkx] at this; exact this
      have hxN : x.h ≠ [] := by have := HT.out.2.wf.some _ (List.getElem_mem hkl); rw [hkx] at this; exact this
      have hxg : Idx.getL lk x.k = x.h := by have := HD.out.at_ hkl; rw [hkx] at this; exact this
      have hstep := HD.out.step HT.out.2.wf hkl
      rw [hkx] at hstep
      have hxm : x ∈ xs := by rw [← HX.out]; exact List.getElem_mem _
      have hxv := HL.out.row.vs x hxm
      have hxl : x.h.length ≤ 900000 := by
        have h1 := len_tot (List.getElem_mem hkl)
        rw [hkx] at h1
        have h2 := HT.out.2.t
        dsimp only at h1
        omega
      have HS := Lib.hid (And.intro hstep (And.intro hxR (And.intro hxN hxg)))
      have HXV := Lib.hid hxv
      clear hkx hxR hxN hxg hstep hxm hxv hkl
      have HL8 := Lib.hid (HL.out.below HP8.out.1)
      have HR8 := Lib.hid ((HP8.out.1.block _ (hlq HR.out)).trans HR.out)
      have hTr := trimP_any x.B x.h.length x.c x.h f W8 (HXV.out.1.below HL8.out.b) HXV.out.2 hxl
      have z8 : W8.cell? ⟨w.heap.size, 0, none⟩ = some (.pointer uk) := (row1 HL8.out.box).1
      have hlk3 : lk.length + 1 ≤ 4000000 := by have := HD.out.len; have := HT.out.2.n; omega
      go_upto_region 4 with fail
      rw [HW8.out]
      go_wp2_with fail
      refine hTr.mono ?_
      rintro e w5 ⟨R5, n5, c5, rfl, hO5, hb5⟩
      have HL5 := Lib.hid (HL8.out.below hb5)
      have HR5 := Lib.hid ((hb5.block _ (hlq HR8.out)).trans HR8.out)
      have hp5 := (hb5.block _ (hlq HP8.out.2)).trans HP8.out.2
      have z5 : w5.cell? ⟨w.heap.size, 0, none⟩ = some (.pointer uk) := (row1 HL5.out.box).1
      have y5 : w5.cell? ⟨wr.heap.size, 0, none⟩ = some (.string x.k) := by have := cells_lit (C := [.string x.k, .slice x.B x.h.length x.c]) hp5 0 _ rfl; simpa [Addr.add_lit] using this
      have y6 : w5.cell? ⟨wr.heap.size, 1, none⟩ = some (.slice x.B x.h.length x.c) := by have := cells_lit (C := [.string x.k, .slice x.B x.h.length x.c]) hp5 1 _ rfl; simpa [Addr.add_lit] using this
      have hn5 : (His.trimL x.h f).length = n5 := hO5.len
      have HO5 := Lib.hid hO5
      have hbs : w.heap.size ≤ W8.heap.size := HL8.out.b.size
      have HPn := Lib.hid (show ∀ q, blk R5 q → P q from fun q hq => HT.out.1.1.ev q (Nat.le_trans hbs (hO5.new q hq)))
      obtain ⟨t5, ht5, e5⟩ := ixpP_iff.1 HL5.out.ix
      have hlk5 : t5.size + 1 ≤ 4000000 := by rw [← kht_len, e5]; exact hlk3
      have HT5 := Lib.hid (And.intro ht5 e5)
      clear hTr hO5 hb5 c0 c1 y0 y1 z8 hp5 ht5 e5
      by_cases e1 : n5 = x.h.length
      · have HE := Lib.hid (show Idx.TrimK (kht t) f (k + 1) lk by
          have h1 := HS.out.1
          rw [Idx.trim_len_same HS.out.2.1 (by rw [hn5, e1]), Idx.set_same HD.out.wf HS.out.2.2.2 HS.out.2.2.1] at h1
          exact h1)
        have q1 : ((n5 : Int) == (x.h.length : Int)) = true := by rw [e1]; simp
        have q2 : decide ((n5 : Int) = (x.h.length : Int)) = true := decide_eq_true (by omega)
        go_wp2
        go_roundw
        case rel => exact ⟨k + 1, by omega, by go_num, uk, lk, HE.out, HL5.out, HR5.out⟩
        case measure =>
          simp [intOf]
          omega
      · have q1 : ((n5 : Int) == (x.h.length : Int)) = false := beq_eq_false_iff_ne.2 (by omega)
        have q2 : decide ((n5 : Int) = (x.h.length : Int)) = false := decide_eq_false (by omega)
        have q3 : ¬ n5 = x.h.length := e1
        by_cases e2 : n5 = 0
        · have r1 : ((n5 : Int) == 0) = true := by rw [e2]; rfl
          have hD := MapKh.del_map t5 uk x.k w5 HT5.out.1.1 HT5.out.1.2.1 (by omega)
          have HN5 := Lib.hid (show His.trimL x.h f = [] from List.eq_nil_of_length_eq_zero (by omega))
          clear hn5
          go_wp2_with fail
          refine hD.mono ?_
          rintro e w6 ⟨u6, t6, rfl, hr6, hor, hb6⟩
          have h6 := HT5.out.1.del_or hb6 hr6 hor
          rw [HT5.out.2] at h6
          have hL6 := HL5.out.below hb6
          have hbx := hL6.box
          have hR6 := (hb6.block _ (hlq HR5.out)).trans HR5.out
          have HE := Lib.hid (show Idx.TrimK (kht t) f (k + 1) (Idx.setL lk x.k []) ∧ KLp P w (w6.setRow (w.heap.size + 0) #[.pointer u6]) 0 32 (some ⟨g, off, none⟩) n c xs 2 u6 (Idx.setL lk x.k []) ∧ (w6.setRow (w.heap.size + 0) #[.pointer u6]).heap[w.heap.size + 1]? = some (.cells #[.pointer none] 32) from ⟨by
            have h1 := HS.out.1
            rw [HN5.out] at h1
            exact h1, hL6.put h6 (by omega), hL6.other hR6 (by omega) _⟩)
          clear hD hr6 hor hb6 h6 hL6 hR6
          go_wp2_with (refine wpList_store_row rfl _ _ _ rfl w.heap.size #[.pointer u6] (by rfl) (by rfl) _ _ hbx (by kernel_rfl) rfl (by first | rfl | kernel_rfl | simp [Value.oneCell']) ?_)
          go_roundw
          case rel => exact ⟨k + 1, by omega, by go_num, u6, Idx.setL lk x.k [], HE.out⟩
          case measure =>
            simp [intOf]
            omega
        · have r1 : ((n5 : Int) == 0) = false := beq_eq_false_iff_ne.2 (by omega)
          have r2 : ¬ (n5 : Int) = 0 := by omega
          have hPm := MapKh.put_map (P := P) t5 uk x.k ⟨R5, His.trimL x.h f, c5⟩ w5 HT5.out.1.1 hlk5
          have hne : His.trimL x.h f ≠ [] := fun e => e2 (by rw [← hn5, e]; rfl)
          dsimp only [hlV] at hPm
          rw [hn5] at hPm
          have HN5 := Lib.hid (And.intro hn5 hne)
          clear hn5 hne
          go_wp2_with fail
          refine hPm.mono ?_
          rintro e w6 ⟨u6, rfl, hr6, hb6⟩
          have h6 := (HT5.out.1.put hb6 hr6 (by have := HO5.out.sp.vers; rw [HN5.out.1]; exact this) hb6 (by rw [HN5.out.1]; exact HO5.out.sp.2.1) HPn.out)
          have h7 := ixpP_iff.2 ⟨_, h6, kht_put HT5.out.1.2.1 x.k ⟨R5, His.trimL x.h f, c5⟩ HN5.out.2⟩
          rw [HT5.out.2] at h7
          have hL6 := HL5.out.below hb6
          have hbx := hL6.box
          have hR6 := (hb6.block _ (hlq HR5.out)).trans HR5.out
          have HE := Lib.hid (show Idx.TrimK (kht t) f (k + 1) (Idx.setL lk x.k (His.trimL x.h f)) ∧ KLp P w (w6.setRow (w.heap.size + 0) #[.pointer u6]) 0 32 (some ⟨g, off, none⟩) n c xs 2 u6 (Idx.setL lk x.k (His.trimL x.h f)) ∧ (w6.setRow (w.heap.size + 0) #[.pointer u6]).heap[w.heap.size + 1]? = some (.cells #[.pointer none] 32) from ⟨HS.out.1, hL6.put h7 (by omega), hL6.other hR6 (by omega) _⟩)
          clear hPm hr6 hb6 h6 h7 hL6 hR6
          go_wp2_with (refine wpList_store_row rfl _ _ _ rfl w.heap.size #[.pointer u6] (by rfl) (by rfl) _ _ hbx (by kernel_rfl) rfl (by first | rfl | kernel_rfl | simp [Value.oneCell']) ?_)
          go_roundw
          case rel => exact ⟨k + 1, by omega, by go_num, u6, _, HE.out⟩
          case measure =>
            simp [intOf]
            omega
    · obtain rfl : k = n := by omega
      have l1 : decide ((k : Int) < (k : Int)) = false := decide_eq_false (by omega)
      have z8 : wr.cell? ⟨w.heap.size, 0, none⟩ = some (.pointer uk) := (row1 HL.out.box).1
      have hR := HR.out
      have HE := Lib.hid (show lk = Idx.trimI (kht t) f from (show Idx.TrimK (kht t) f (kht t).length lk by rw [HN.out]; exact HD.out).done)
      have HZ := Lib.hid (And.intro (HL.out.ix.store1 hR #[.pointer uk]) (And.intro (setRow_heap wr _ _ #[.pointer uk] _ _ hR) (below_setRow HL.out.b (show w.heap.size ≤ w.heap.size + 1 from Nat.le_succ _) #[.pointer uk])))
      go_wp2_with (refine wpList_store_row rfl _ _ _ rfl (w.heap.size + 1) #[.pointer uk] (by rfl) (by rfl) _ _ hR (by kernel_rfl) rfl (by first | rfl | kernel_rfl | simp [Value.oneCell']) ?_)
      refine bodyPost_ret (res_cell (n := w.heap.size + 1) rfl rfl HZ.out.2.1 Try.underlying32 rfl (by kernel_rfl)) rfl ?_
      exact ⟨uk, rfl, by rw [← HE.out]; exact HZ.out.1, HZ.out.2.2⟩


end Go.Proofs.Ytcoddkbbgmjckaa
