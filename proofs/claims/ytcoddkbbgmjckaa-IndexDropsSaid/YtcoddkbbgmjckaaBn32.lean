/- The program's Put and Add. (Written by mkpi.py.) -/
import Derived.Test.YtcoddkbbgmjckaaBn31
namespace Go.Proofs.Ytcoddkbbgmjckaa
open Go.RowKit
set_option linter.unusedVariables false
set_option linter.unusedSimpArgs false
attribute [local go_sem] Oper.semAt_some

theorem IxTP.nil {P : Nat → Prop} {w w' : World} {u : Option Addr} {t : MapKh.T} (h : IxTP P w u t) (hs : w.heap.size ≤ w'.heap.size) : IxpP P w' none [] :=
  ⟨.nil, ⟨rfl, fun k hk => h.1.ev k (Nat.le_trans hs hk)⟩, List.Pairwise.nil, (fun p hp => by cases hp), rfl⟩
theorem IxTP.put {P : Nat → Prop} {w w' w3 : World} {u u' : Option Addr} {t : MapKh.T} (h : IxTP P w u t) (hb : Below w.heap.size w w') {k : ByteArray} {v : HL} (hr : MapKh.Rp P w' u' (Tr.put ltS k v t)) (hv : Vers w3 v.B v.h.length v.h) (hb3 : Below w3.heap.size w3 w') (hc : v.h.length ≤ v.c) (hP : ∀ q, blk v.B q → P q) : IxTP P w' u' (Tr.put ltS k v t) :=
  ⟨hr, h.2.1.put linS k v, fun p hp => by
    rw [Tr.list_put linS k v t h.2.1] at hp
    unfold Tr.insL at hp
    rcases List.mem_append.1 hp with hp | hp
    · have := h.2.2 p (List.mem_filter.1 hp).1
      exact ⟨this.1.below hb, this.2⟩
    · rcases List.mem_cons.1 hp with rfl | hp
      · exact ⟨hv.below hb3, hc, hP⟩
      · have := h.2.2 p (List.mem_filter.1 hp).1
        exact ⟨this.1.below hb, this.2⟩⟩
theorem Idx.errS_none {α : Type} : Idx.errS (none : Option α) = 1 := rfl
theorem Idx.errS_some {α : Type} (x : α) : Idx.errS (some x) = 0 := rfl
theorem putI_no {l : List Idx.KH} {k : ByteArray} {r m : Int} {s : ByteArray} {le : Int} (h : Idx.keyB k = false) : Idx.putI l k r m s le = none := by
  unfold Idx.putI
  split
  · rfl
  · rw [if_neg (by rw [h]; exact Bool.false_ne_true)]
theorem addI_no {l : List Idx.KH} {k : ByteArray} {x : Ver} (h : Idx.keyB k = false) : Idx.addI l k x = none := by
  unfold Idx.addI
  split
  · rfl
  · rw [if_neg (by rw [h]; exact Bool.false_ne_true)]
theorem add_some_ne {h o : List Ver} {x : Ver} (e : His.addL h x = some o) : o ≠ [] := by
  have := (His.add_pre e).2
  rw [this]
  simp
theorem put_some_ne {h o : List Ver} {r m : Int} {s : ByteArray} {le : Int} (e : His.putL h r m s le = some o) : o ≠ [] := by
  rw [His.put_is] at e
  exact add_some_ne e

theorem alloc2_at (w : World) (A B : Obj) : ((w.alloc A).alloc B).heap[w.heap.size]? = some A ∧ ((w.alloc A).alloc B).heap[w.heap.size + 1]? = some B := by
  refine ⟨?_, ?_⟩
  · rw [Below.heap_alloc _ _ _ (by simp)]; exact heap_alloc_new w _
  · have := heap_alloc_new (w.alloc A) B; simpa using this
theorem alloc3_at (w : World) (A B C : Obj) : (((w.alloc A).alloc B).alloc C).heap[w.heap.size]? = some A ∧ (((w.alloc A).alloc B).alloc C).heap[w.heap.size + 1]? = some B ∧ (((w.alloc A).alloc B).alloc C).heap[w.heap.size + 2]? = some C := by
  refine ⟨?_, ?_, ?_⟩
  · rw [Below.heap_alloc _ _ _ (by simp; omega)]; exact (alloc2_at w A B).1
  · rw [Below.heap_alloc _ _ _ (by simp)]; exact (alloc2_at w A B).2
  · have := heap_alloc_new ((w.alloc A).alloc B) C; simpa using this

set_option maxRecDepth 100000 in
set_option maxHeartbeats 3200000 in
theorem putI_any {P : Nat → Prop} (u : Option Addr) (t : MapKh.T) (k : ByteArray) (r m : Int) (s : ByteArray) (le : Int) (w : World) (hT : IxTP P w u t) (hF : Fit (kht t)) (hk : k.size ≤ maxLen) :
    Calls Try.prog 43 #[ixV u, .string k, .int .i64 r, .int .i64 m, .string s, .int .i64 le] w fun e w' => ∃ u', e = .returned (.tuple #[ixV u', .int .i64 (Idx.errS (Idx.putI (kht t) k r m s le))]) ∧ IxpP P w' u' ((Idx.putI (kht t) k r m s le).getD []) ∧ Below w.heap.size w w' := by
  obtain ⟨W1, hW1⟩ : ∃ W1, ((w.alloc (.cells #[.pointer u] 32)).alloc (.cells #[.pointer none] 32)) = W1 := ⟨_, rfl⟩
  have hb1 : Below w.heap.size w W1 := by rw [← hW1]; exact (((Below.refl _ _).alloc (Nat.le_refl _) _).alloc (by simp) _)
  have hr0 : W1.heap[w.heap.size]? = some (.cells #[.pointer u] 32) := by rw [← hW1]; exact (alloc2_at w _ _).1
  have hrr : W1.heap[w.heap.size + 1]? = some (.cells #[.pointer none] 32) := by rw [← hW1]; exact (alloc2_at w _ _).2
  have z0 : ∀ W, Below W1.heap.size W1 W → W.cell? ⟨w.heap.size, 0, none⟩ = some (.pointer u) := fun W hW => by have := cells_lit (C := [.pointer u]) ((hW.block _ (hlq hr0)).trans hr0) 0 _ rfl; simpa [Addr.add_lit] using this
  have hK := keyP_any k hk W1
  have HB := Lib.hid (And.intro hb1 (And.intro hrr z0))
  cases hq : Idx.keyB k with
  | false =>
    rw [hq] at hK
    have HE := Lib.hid (show Idx.putI (kht t) k r m s le = none from putI_no hq)
    have HT := Lib.hid hT
    have hrr := HB.out.2.1
    have HZ := Lib.hid (And.intro (setRow_heap W1 _ _ #[.pointer none] _ _ hrr) (below_setRow hb1 (show w.heap.size ≤ w.heap.size + 1 from Nat.le_add_right _ _) #[.pointer none]))
    clear hb1 z0 hT hF hq hr0
    go_enter Try.func43, Try.ntmps43
    go_wp2_with fail
    try rw [hW1]
    refine hK.mono ?_
    rintro e w2 ⟨rfl, rfl⟩
    clear hW1
    go_wp2_with (refine wpList_store_row rfl _ _ _ rfl (w.heap.size + 1) #[.pointer none] (by rfl) (by rfl) _ _ hrr (by kernel_rfl) rfl (by first | rfl | kernel_rfl | simp [Value.oneCell']) ?_)
    refine bodyPost_ret (res_cell_tmp' (n := w.heap.size + 1) rfl rfl HZ.out.1 Try.underlying32 rfl (by kernel_rfl)) rfl ?_
    exact ⟨none, by rw [HE.out]; rfl, by rw [HE.out]; exact HT.out.nil HZ.out.2.size, HZ.out.2⟩
  | true =>
    rw [hq] at hK
    obtain ⟨v, hG, hv, hV, hc, hm⟩ := get_yes_no hT hF k
    have hP := fun W (hW : Below w.heap.size w W) => putP_any v.B v.h.length v.c v.h r m s le W (hV.below hW) hc (by omega)
    obtain ⟨o, ho⟩ : ∃ o, His.putL v.h r m s le = o := ⟨_, rfl⟩
    rw [ho] at hP
    have HE := Lib.hid (show Idx.putI (kht t) k r m s le = o.map (fun h => Idx.setL (kht t) k h) by
      unfold Idx.putI
      rw [← hv, ho]
      cases o with
      | none => rfl
      | some h => exact if_pos hq)
    have HN := Lib.hid (show ∀ h, o = some h → h ≠ [] from fun h e => by rw [e] at ho; exact put_some_ne ho)
    have HT := Lib.hid (And.intro hT hF)
    have HG := Lib.hid (And.intro hG hP)
    clear hT hF hG hP hv hV hc hm ho hb1 hrr hq hr0
    obtain ⟨vB, vh, vc⟩ := v
    dsimp only [hlV] at HG
    generalize vh.length = vl at *
    go_enter Try.func43, Try.ntmps43
    go_wp2_with fail
    try rw [hW1]
    refine hK.mono ?_
    rintro e w2 ⟨rfl, rfl⟩
    clear hW1
    have z0 := HB.out.2.2 w2 (Below.refl _ _)
    go_wp2_with fail
    refine (HG.out.1 _ HB.out.1).mono ?_
    rintro e w3 ⟨⟨bb, rfl⟩, hb3⟩
    have H3 := Lib.hid (And.intro hb3 (HB.out.1.trans (hb3.mono HB.out.1.size)))
    clear hb3 z0
    have hP := HG.out.2 w3 H3.out.2
    go_wp2_with fail
    refine hP.mono ?_
    rintro e w4 ⟨R, n, c, rfl, hO, hb4⟩
    have hb4' := H3.out.1.trans (hb4.mono H3.out.1.size)
    have H4 := Lib.hid (And.intro hO (And.intro hb4' (H3.out.2.trans (hb4.mono H3.out.2.size))))
    have hrr := (hb4'.block _ (hlq HB.out.2.1)).trans HB.out.2.1
    have z0 := HB.out.2.2 w4 hb4'
    clear hb4 hb4' hO hP
    cases o with
    | none =>
      have HZ := Lib.hid (And.intro (setRow_heap w4 _ _ #[.pointer none] _ _ hrr) (below_setRow H4.out.2.2 (show w.heap.size ≤ w.heap.size + 1 from Nat.le_add_right _ _) #[.pointer none]))
      have hq1 : His.errO (none : Option (List Ver)) = 1 := rfl
      go_wp2_with (refine wpList_store_row rfl _ _ _ rfl (w.heap.size + 1) #[.pointer none] (by rfl) (by rfl) _ _ hrr (by kernel_rfl) rfl (by first | rfl | kernel_rfl | simp [Value.oneCell']) ?_)
      refine bodyPost_ret (res_cell_tmp' (n := w.heap.size + 1) rfl rfl HZ.out.1 Try.underlying32 rfl (by kernel_rfl)) rfl ?_
      exact ⟨none, by rw [HE.out]; rfl, by rw [HE.out]; exact HT.out.1.nil HZ.out.2.size, HZ.out.2⟩
    | some h =>
      have hq0 : His.errO (some h) = 0 := rfl
      have hn : h.length = n := H4.out.1.len
      have hsz : (kht t).length + 1 ≤ 4000000 := by have := HT.out.2.n; omega
      rw [kht_len] at hsz
      have hPm := MapKh.put_map (P := P) t u k ⟨R, h, c⟩ w4 (HT.out.1.1.below H4.out.2.2 (Nat.le_refl _)) hsz
      dsimp only [hlV] at hPm
      rw [hn] at hPm
      have HN2 := Lib.hid (And.intro hn (HN.out h rfl))
      clear hn hsz
      go_wp2_with fail
      refine hPm.mono ?_
      rintro e w5 ⟨u5, rfl, hr5, hb5⟩
      have hb5' := H4.out.2.2.trans (hb5.mono H4.out.2.2.size)
      have hrr5 := (hb5.block _ (hlq hrr)).trans hrr
      have H5 := Lib.hid (show IxTP P w5 u5 (Tr.put ltS k ⟨R, h, c⟩ t) from HT.out.1.put hb5' hr5 (by have := H4.out.1.sp.vers; rw [HN2.out.1]; exact this) hb5 (by rw [HN2.out.1]; exact H4.out.1.sp.2.1) fun q hq => HT.out.1.1.ev q (Nat.le_trans H3.out.2.size (H4.out.1.new q hq)))
      have HZ := Lib.hid (And.intro (setRow_heap w5 _ _ #[.pointer u5] _ _ hrr5) (below_setRow hb5' (show w.heap.size ≤ w.heap.size + 1 from Nat.le_add_right _ _) #[.pointer u5]))
      clear hPm hr5 hb5 hb5' hrr z0
      go_wp2_with (refine wpList_store_row rfl _ _ _ rfl (w.heap.size + 1) #[.pointer u5] (by rfl) (by rfl) _ _ hrr5 (by kernel_rfl) rfl (by first | rfl | kernel_rfl | simp [Value.oneCell']) ?_)
      refine bodyPost_ret (res_cell_tmp' (n := w.heap.size + 1) rfl rfl HZ.out.1 Try.underlying32 rfl (by kernel_rfl)) rfl ?_
      refine ⟨u5, by rw [HE.out]; rfl, ?_, HZ.out.2⟩
      rw [HE.out]
      exact (ixpP_iff.2 ⟨_, H5.out, kht_put HT.out.1.2.1 k ⟨R, h, c⟩ HN2.out.2⟩).store (show Box w5 _ none from hrr5) _

set_option maxRecDepth 100000 in
set_option maxHeartbeats 3200000 in
theorem addI_any {P : Nat → Prop} (u : Option Addr) (t : MapKh.T) (k : ByteArray) (x : Ver) (w : World) (hT : IxTP P w u t) (hF : Fit (kht t)) (hk : k.size ≤ maxLen) :
    Calls Try.prog 50 #[ixV u, .string k, verV x] w fun e w' => ∃ u', e = .returned (.tuple #[ixV u', .int .i64 (Idx.errS (Idx.addI (kht t) k x))]) ∧ IxpP P w' u' ((Idx.addI (kht t) k x).getD []) ∧ Below w.heap.size w w' := by
  obtain ⟨W1, hW1⟩ : ∃ W1, (((w.alloc (.cells #[.pointer u] 32)).alloc (.cells #[.int .i64 x.r, .int .i64 x.k, .int .i64 x.m, .int .i64 x.v, .string x.s, .int .i64 x.l, .bool x.g] 37)).alloc (.cells #[.pointer none] 32)) = W1 := ⟨_, rfl⟩
  have hb1 : Below w.heap.size w W1 := by rw [← hW1]; exact ((((Below.refl _ _).alloc (Nat.le_refl _) _).alloc (by simp) _).alloc (by simp; omega) _)
  have hr0 : W1.heap[w.heap.size]? = some (.cells #[.pointer u] 32) := by rw [← hW1]; exact (alloc3_at w _ _ _).1
  have hr1 : W1.heap[w.heap.size + 1]? = some (.cells #[.int .i64 x.r, .int .i64 x.k, .int .i64 x.m, .int .i64 x.v, .string x.s, .int .i64 x.l, .bool x.g] 37) := by rw [← hW1]; exact (alloc3_at w _ _ _).2.1
  have hrr : W1.heap[w.heap.size + 2]? = some (.cells #[.pointer none] 32) := by rw [← hW1]; exact (alloc3_at w _ _ _).2.2
  have z0 : ∀ W, Below W1.heap.size W1 W → W.cell? ⟨w.heap.size, 0, none⟩ = some (.pointer u) := fun W hW => by have := cells_lit (C := [.pointer u]) ((hW.block _ (hlq hr0)).trans hr0) 0 _ rfl; simpa [Addr.add_lit] using this
  have zx : ∀ W, Below W1.heap.size W1 W → W.cell? ⟨w.heap.size + 1, 0, none⟩ = some (.int .i64 x.r) ∧ W.cell? ⟨w.heap.size + 1, 1, none⟩ = some (.int .i64 x.k) ∧ W.cell? ⟨w.heap.size + 1, 2, none⟩ = some (.int .i64 x.m) ∧ W.cell? ⟨w.heap.size + 1, 3, none⟩ = some (.int .i64 x.v) ∧ W.cell? ⟨w.heap.size + 1, 4, none⟩ = some (.string x.s) ∧ W.cell? ⟨w.heap.size + 1, 5, none⟩ = some (.int .i64 x.l) ∧ W.cell? ⟨w.heap.size + 1, 6, none⟩ = some (.bool x.g) := fun W hW => (row7 ((hW.block _ (hlq hr1)).trans hr1)).1
  have hK := keyP_any k hk W1
  have HB := Lib.hid (And.intro hb1 (And.intro hrr z0))
  have HX := Lib.hid zx
  cases hq : Idx.keyB k with
  | false =>
    rw [hq] at hK
    have HE := Lib.hid (show Idx.addI (kht t) k x = none from addI_no hq)
    have HT := Lib.hid hT
    have hrr := HB.out.2.1
    have HZ := Lib.hid (And.intro (setRow_heap W1 _ _ #[.pointer none] _ _ hrr) (below_setRow hb1 (show w.heap.size ≤ w.heap.size + 2 from Nat.le_add_right _ _) #[.pointer none]))
    clear hb1 z0 hT hF hq zx hr0 hr1
    go_enter Try.func50, Try.ntmps50
    go_wp2_with fail
    try rw [hW1]
    refine hK.mono ?_
    rintro e w2 ⟨rfl, rfl⟩
    clear hW1
    go_wp2_with (refine wpList_store_row rfl _ _ _ rfl (w.heap.size + 2) #[.pointer none] (by rfl) (by rfl) _ _ hrr (by kernel_rfl) rfl (by first | rfl | kernel_rfl | simp [Value.oneCell']) ?_)
    refine bodyPost_ret (res_cell_tmp' (n := w.heap.size + 2) rfl rfl HZ.out.1 Try.underlying32 rfl (by kernel_rfl)) rfl ?_
    exact ⟨none, by rw [HE.out]; rfl, by rw [HE.out]; exact HT.out.nil HZ.out.2.size, HZ.out.2⟩
  | true =>
    rw [hq] at hK
    obtain ⟨v, hG, hv, hV, hc, hm⟩ := get_yes_no hT hF k
    have hP := fun W (hW : Below w.heap.size w W) => addP_any v.B v.h.length v.c v.h x W (hV.below hW) hc (by omega)
    obtain ⟨o, ho⟩ : ∃ o, His.addL v.h x = o := ⟨_, rfl⟩
    rw [ho] at hP
    have HE := Lib.hid (show Idx.addI (kht t) k x = o.map (fun h => Idx.setL (kht t) k h) by
      unfold Idx.addI
      rw [← hv, ho]
      cases o with
      | none => rfl
      | some h => exact if_pos hq)
    have HN := Lib.hid (show ∀ h, o = some h → h ≠ [] from fun h e => by rw [e] at ho; exact add_some_ne ho)
    have HT := Lib.hid (And.intro hT hF)
    have HG := Lib.hid (And.intro hG hP)
    clear hT hF hG hP hv hV hc hm ho hb1 hrr zx hq hr0 hr1
    obtain ⟨vB, vh, vc⟩ := v
    dsimp only [hlV] at HG
    generalize vh.length = vl at *
    go_enter Try.func50, Try.ntmps50
    go_wp2_with fail
    try rw [hW1]
    refine hK.mono ?_
    rintro e w2 ⟨rfl, rfl⟩
    clear hW1
    have z0 := HB.out.2.2 w2 (Below.refl _ _)
    go_wp2_with fail
    refine (HG.out.1 _ HB.out.1).mono ?_
    rintro e w3 ⟨⟨bb, rfl⟩, hb3⟩
    have H3 := Lib.hid (And.intro hb3 (HB.out.1.trans (hb3.mono HB.out.1.size)))
    clear hb3 z0
    have hP := HG.out.2 w3 H3.out.2
    obtain ⟨x0, x1, x2, x3, x4, x5, x6⟩ := HX.out w3 H3.out.1
    dsimp only [verV] at hP
    go_wp2_with fail
    refine hP.mono ?_
    rintro e w4 ⟨R, n, c, rfl, hO, hb4⟩
    have hb4' := H3.out.1.trans (hb4.mono H3.out.1.size)
    have H4 := Lib.hid (And.intro hO (And.intro hb4' (H3.out.2.trans (hb4.mono H3.out.2.size))))
    have hrr := (hb4'.block _ (hlq HB.out.2.1)).trans HB.out.2.1
    have z0 := HB.out.2.2 w4 hb4'
    clear hb4 hb4' hO hP x0 x1 x2 x3 x4 x5 x6
    cases o with
    | none =>
      have HZ := Lib.hid (And.intro (setRow_heap w4 _ _ #[.pointer none] _ _ hrr) (below_setRow H4.out.2.2 (show w.heap.size ≤ w.heap.size + 2 from Nat.le_add_right _ _) #[.pointer none]))
      have hq1 : His.errO (none : Option (List Ver)) = 1 := rfl
      go_wp2_with (refine wpList_store_row rfl _ _ _ rfl (w.heap.size + 2) #[.pointer none] (by rfl) (by rfl) _ _ hrr (by kernel_rfl) rfl (by first | rfl | kernel_rfl | simp [Value.oneCell']) ?_)
      refine bodyPost_ret (res_cell_tmp' (n := w.heap.size + 2) rfl rfl HZ.out.1 Try.underlying32 rfl (by kernel_rfl)) rfl ?_
      exact ⟨none, by rw [HE.out]; rfl, by rw [HE.out]; exact HT.out.1.nil HZ.out.2.size, HZ.out.2⟩
    | some h =>
      have hq0 : His.errO (some h) = 0 := rfl
      have hn : h.length = n := H4.out.1.len
      have hsz : (kht t).length + 1 ≤ 4000000 := by have := HT.out.2.n; omega
      rw [kht_len] at hsz
      have hPm := MapKh.put_map (P := P) t u k ⟨R, h, c⟩ w4 (HT.out.1.1.below H4.out.2.2 (Nat.le_refl _)) hsz
      dsimp only [hlV] at hPm
      rw [hn] at hPm
      have HN2 := Lib.hid (And.intro hn (HN.out h rfl))
      clear hn hsz
      go_wp2_with fail
      refine hPm.mono ?_
      rintro e w5 ⟨u5, rfl, hr5, hb5⟩
      have hb5' := H4.out.2.2.trans (hb5.mono H4.out.2.2.size)
      have hrr5 := (hb5.block _ (hlq hrr)).trans hrr
      have H5 := Lib.hid (show IxTP P w5 u5 (Tr.put ltS k ⟨R, h, c⟩ t) from HT.out.1.put hb5' hr5 (by have := H4.out.1.sp.vers; rw [HN2.out.1]; exact this) hb5 (by rw [HN2.out.1]; exact H4.out.1.sp.2.1) fun q hq => HT.out.1.1.ev q (Nat.le_trans H3.out.2.size (H4.out.1.new q hq)))
      have HZ := Lib.hid (And.intro (setRow_heap w5 _ _ #[.pointer u5] _ _ hrr5) (below_setRow hb5' (show w.heap.size ≤ w.heap.size + 2 from Nat.le_add_right _ _) #[.pointer u5]))
      clear hPm hr5 hb5 hb5' hrr z0
      go_wp2_with (refine wpList_store_row rfl _ _ _ rfl (w.heap.size + 2) #[.pointer u5] (by rfl) (by rfl) _ _ hrr5 (by kernel_rfl) rfl (by first | rfl | kernel_rfl | simp [Value.oneCell']) ?_)
      refine bodyPost_ret (res_cell_tmp' (n := w.heap.size + 2) rfl rfl HZ.out.1 Try.underlying32 rfl (by kernel_rfl)) rfl ?_
      refine ⟨u5, by rw [HE.out]; rfl, ?_, HZ.out.2⟩
      rw [HE.out]
      exact (ixpP_iff.2 ⟨_, H5.out, kht_put HT.out.1.2.1 k ⟨R, h, c⟩ HN2.out.2⟩).store (show Box w5 _ none from hrr5) _


end Go.Proofs.Ytcoddkbbgmjckaa

namespace Go.Proofs.Ytcoddkbbgmjckaa
open Go.RowKit
set_option linter.unusedVariables false
set_option linter.unusedSimpArgs false
attribute [local go_sem] Oper.semAt_some

namespace Idx
open His
theorem set_len1 (l : List KH) (k : ByteArray) (x : List Ver) : (setL l k x).length ≤ l.length + 1 := by
  have key : (l.filter fun p => ltS p.1 k).length + (l.filter fun p => ltS k p.1).length ≤ l.length := by
    induction l with
    | nil => exact Nat.le_refl _
    | cons p l ih =>
      cases h1 : ltS p.1 k with
      | true => simp [List.filter_cons, h1, linS.as h1]; omega
      | false => cases h2 : ltS k p.1 <;> simp [List.filter_cons, h1, h2] <;> omega
  unfold setL
  rw [List.length_append, List.length_append]
  split <;> simp <;> omega
/-- Keys dropped one by one. -/
def dropK (l : List KH) (ks : List ByteArray) : List KH := ks.foldl (fun o k => setL o k []) l
open Classical in
theorem dropK_get : ∀ (ks : List ByteArray) (l : List KH), (l.Pairwise fun a b => ltS a.1 b.1 = true) → (∀ p ∈ l, p.2 ≠ []) →
    (dropK l ks).Pairwise (fun a b => ltS a.1 b.1 = true) ∧ (∀ p ∈ dropK l ks, p.2 ≠ []) ∧ ∀ j, getL (dropK l ks) j = if j ∈ ks then [] else getL l j
  | [], l, h1, h2 => ⟨h1, h2, fun j => by simp [dropK]⟩
  | k :: ks, l, h1, h2 => by
    obtain ⟨a1, a2, a3⟩ := dropK_get ks (setL l k []) (set_pair h1 k []) fun p hp => by
      rcases set_mem hp with h | h
      · exact h2 p h.1
      · exact absurd rfl h.2
    refine ⟨a1, a2, fun j => ?_⟩
    show getL (dropK (setL l k []) ks) j = _
    rw [a3, get_set h1]
    by_cases hj : j ∈ ks
    · rw [if_pos hj, if_pos (List.mem_cons_of_mem _ hj)]
    · rw [if_neg hj]
      by_cases e : j = k
      · subst e; rw [if_pos rfl, if_pos (List.mem_cons_self ..)]
      · rw [if_neg e, if_neg (fun h => by rcases List.mem_cons.1 h with h | h; exact e h; exact hj h)]
open Classical in
theorem drop_is {l : List KH} (h : Wf l) (a b : ByteArray) : dropK l ((l.filter fun p => inB a b p.1).map (·.1)) = dropI l a b := by
  obtain ⟨a1, a2, a3⟩ := dropK_get ((l.filter fun p => inB a b p.1).map (·.1)) l h.up h.some
  have hw := drop_wf h a b
  refine ext a1 hw.up a2 hw.some fun j => ?_
  rw [a3, drop_get h]
  by_cases hj : j ∈ (l.filter fun p => inB a b p.1).map (·.1)
  · rw [if_pos hj]
    obtain ⟨p, hp, rfl⟩ := List.mem_map.1 hj
    rw [if_pos (by simpa using (List.mem_filter.1 hp).2)]
  · rw [if_neg hj]
    split
    · rename_i hi
      refine get_none fun p hp e => hj (List.mem_map.2 ⟨p, List.mem_filter.2 ⟨hp, ?_⟩, e⟩)
      rw [e]; exact hi
    · rfl
theorem dropK_add (l : List KH) (ks : List ByteArray) (k : ByteArray) : dropK l (ks ++ [k]) = setL (dropK l ks) k [] := by
  unfold dropK
  rw [List.foldl_append]
  rfl
theorem dropK_len (l : List KH) : ∀ ks : List ByteArray, (dropK l ks).length ≤ l.length + ks.length := by
  intro ks
  induction ks generalizing l with
  | nil => exact Nat.le_refl _
  | cons k ks ih =>
    show (dropK (setL l k []) ks).length ≤ _
    have h1 := ih (setL l k [])
    have h2 := set_len1 l k []
    rw [List.length_cons]
    omega

/-- What is there set anew as it is. -/
theorem set_same {l : List KH} (h : Wf l) {k : ByteArray} {x : List Ver} (hg : getL l k = x) (hx : x ≠ []) : setL l k x = l := by
  refine ext (set_pair h.up k x) h.up (fun p hp => ?_) h.some fun j => ?_
  · rcases set_mem hp with h1 | h1
    · exact h.some p h1.1
    · rw [h1.1]; exact h1.2
  · rw [get_set h.up]
    split
    · rename_i e; rw [e, hg]
    · rfl
/-- Trimmed up to the k-th key. -/
structure TrimK (l : List KH) (f : Int) (k : Nat) (o : List KH) : Prop where
  fold : trimI l f = (l.drop k).foldl (fun o p => setL o p.1 (trimL p.2 f)) o
  rest : ∀ p ∈ l.drop k, getL o p.1 = p.2
  wf : Wf o
  len : o.length ≤ l.length + k
theorem TrimK.start {l : List KH} (h : Wf l) (f : Int) : TrimK l f 0 l := ⟨rfl, fun p hp => get_mem h.up (List.mem_of_mem_drop hp), h, by omega⟩
theorem drop_ne {l : List KH} (h : l.Pairwise fun a b => ltS a.1 b.1 = true) {k : Nat} (hk : k < l.length) {p : KH} (hp : p ∈ l.drop (k + 1)) : p.1 ≠ l[k].1 := by
  have h1 := h.sublist (List.drop_sublist k l)
  rw [List.drop_eq_getElem_cons hk] at h1
  have := (List.pairwise_cons.1 h1).1 p hp
  exact fun e => ltS_ne' this e.symm
theorem TrimK.step {l o : List KH} {f : Int} {k : Nat} (h : TrimK l f k o) (hl : Wf l) (hk : k < l.length) : TrimK l f (k + 1) (setL o l[k].1 (trimL l[k].2 f)) := by
  obtain ⟨h1, h2, h3, h4⟩ := h
  refine ⟨?_, fun p hp => ?_, h3.set (hl.key _ (List.getElem_mem hk)) (trim_right (hl.right _ (List.getElem_mem hk)) f), ?_⟩
  · rw [h1, List.drop_eq_getElem_cons hk]; rfl
  · rw [get_set h3.up, if_neg (drop_ne hl.up hk hp)]
    exact h2 p (by rw [List.drop_eq_getElem_cons hk]; exact List.mem_cons_of_mem _ hp)
  · have := set_len1 o l[k].1 (trimL l[k].2 f)
    omega
theorem TrimK.at_ {l o : List KH} {f : Int} {k : Nat} (h : TrimK l f k o) (hk : k < l.length) : getL o l[k].1 = l[k].2 := h.rest _ (by rw [List.drop_eq_getElem_cons hk]; exact List.mem_cons_self ..)
theorem TrimK.done {l o : List KH} {f : Int} (h : TrimK l f l.length o) : o = trimI l f := by
  rw [h.fold, List.drop_length]
  rfl
theorem trim_len_same {h : List Ver} (hR : Right h) {f : Int} (e : (trimL h f).length = h.length) : trimL h f = h := (trim_sub hR f).eq_of_length e

def lv (p : KH) : Bool := (liveL p.2).isSome
theorem keys_is {l : List KH} (h : Wf l) (a b : ByteArray) : keysI l a b = ((l.filter fun p => inB a b p.1).filter lv).map (·.1) := by
  unfold keysI
  rw [List.filter_filter]
  congr 1
  refine List.filter_congr fun p hp => ?_
  unfold lv liveI
  rw [get_mem h.up hp, live_top (h.right p hp)]
  rfl
/-- Deleted up to the i-th key of those in the range. -/
structure DelK (l ys : List KH) (r m : Int) (i : Nat) (o : List KH) (c : Nat) : Prop where
  all : delAll l ((ys.filter lv).map (·.1)) r m = delAll o (((ys.drop i).filter lv).map (·.1)) r m
  rest : ∀ p ∈ ys.drop i, getL o p.1 = p.2
  up : o.Pairwise fun a b => ltS a.1 b.1 = true
  len : o.length ≤ l.length + i
  cnt : c = ((ys.take i).filter lv).length
theorem DelK.start {l ys : List KH} (h : Wf l) (hy : ys.Sublist l) (r m : Int) : DelK l ys r m 0 l 0 := ⟨rfl, fun p hp => get_mem h.up (hy.subset (List.mem_of_mem_drop hp)), h.up, by omega, rfl⟩
section
variable {l ys o : List KH} {r m : Int} {i c : Nat}
theorem take_lv (hi : i < ys.length) : ((ys.take (i + 1)).filter lv).length = ((ys.take i).filter lv).length + if lv ys[i] = true then 1 else 0 := by
  rw [List.take_succ_eq_append_getElem hi, List.filter_append, List.length_append, List.filter_cons]
  split <;> simp_all
theorem DelK.skip (h : DelK l ys r m i o c) (hi : i < ys.length) (hl : lv ys[i] = false) : DelK l ys r m (i + 1) o c := by
  obtain ⟨h1, h2, h3, h4, h5⟩ := h
  refine ⟨?_, fun p hp => h2 p (by rw [List.drop_eq_getElem_cons hi]; exact List.mem_cons_of_mem _ hp), h3, by omega, by rw [take_lv hi, hl]; exact h5⟩
  rw [h1, List.drop_eq_getElem_cons hi, List.filter_cons, if_neg (by rw [hl]; exact Bool.false_ne_true)]
theorem DelK.step (h : DelK l ys r m i o c) (hy : ys.Pairwise fun a b => ltS a.1 b.1 = true) (hi : i < ys.length) (hl : lv ys[i] = true) (hd : (delL ys[i].2 r m).2 = 0) : DelK l ys r m (i + 1) (setL o ys[i].1 (delL ys[i].2 r m).1) (c + 1) := by
  obtain ⟨h1, h2, h3, h4, h5⟩ := h
  have hg : getL o ys[i].1 = ys[i].2 := h2 _ (by rw [List.drop_eq_getElem_cons hi]; exact List.mem_cons_self ..)
  refine ⟨?_, fun p hp => ?_, set_pair h3 _ _, ?_, by rw [take_lv hi, hl, h5]; rfl⟩
  · rw [h1, List.drop_eq_getElem_cons hi, List.filter_cons, if_pos hl, List.map_cons, delAll_step (by rw [hg]; exact hd), hg]
  · rw [get_set h3, if_neg (drop_ne hy hi hp)]
    exact h2 p (by rw [List.drop_eq_getElem_cons hi]; exact List.mem_cons_of_mem _ hp)
  · have := set_len1 o ys[i].1 (delL ys[i].2 r m).1
    omega
theorem DelK.no (h : DelK l ys r m i o c) (hi : i < ys.length) (hl : lv ys[i] = true) (hd : ¬ (delL ys[i].2 r m).2 = 0) : delAll l ((ys.filter lv).map (·.1)) r m = none := by
  have hg : getL o ys[i].1 = ys[i].2 := h.rest _ (by rw [List.drop_eq_getElem_cons hi]; exact List.mem_cons_self ..)
  rw [h.all, List.drop_eq_getElem_cons hi, List.filter_cons, if_pos hl, List.map_cons]
  exact delAll_no (by rw [hg]; exact hd)
theorem DelK.done (h : DelK l ys r m ys.length o c) : delAll l ((ys.filter lv).map (·.1)) r m = some o ∧ c = ((ys.filter lv).map (·.1)).length := by
  refine ⟨by rw [h.all, List.drop_length]; rfl, by rw [h.cnt, List.take_length, List.length_map]⟩
end
theorem del_live {h : List Ver} {r m : Int} (hl : (liveL h).isSome = true) : ((delL h r m).2 = 0 ∧ (delL h r m).1 ≠ []) ∨ (delL h r m).2 = 1 := by
  rw [del_is]
  cases ho : addL h (goneV r m) with
  | none => exact .inr rfl
  | some o =>
    cases hv : liveL h with
    | none => rw [hv] at hl; cases hl
    | some y => exact .inl ⟨rfl, Go.Proofs.Ytcoddkbbgmjckaa.add_some_ne ho⟩
end Idx

section
variable {w w' : World} {g : Nat} {v : Value} {T : TypeId} {P : Nat → Prop} {u u' : Option Addr} {l : List Idx.KH}
theorem Vers.store1 {A : Option Addr} {n : Nat} {l : List Ver} (h : Vers w A n l) (hb : w.heap[g]? = some (.cells #[v] T)) (C : Array Value) : Vers (w.setRow g C) A n l := by
  rcases Nat.eq_zero_or_pos n with h0 | h0
  · subst h0
    exact ⟨h.1, fun h => absurd h (Nat.lt_irrefl _)⟩
  · refine h.keep (by simp) fun q hq hlt => setRow_other w g q C fun e => ?_
    subst e
    obtain ⟨g', off, e, hg, hc⟩ := h.2 h0
    obtain ⟨o, e2⟩ := hq
    rw [e] at e2
    injection e2 with e2
    injection e2 with e2 e3
    subst e2
    have := (hc 0 (by have := h.1; omega)).2.1
    rw [row1_no hb (by omega)] at this
    cases this
theorem IxpP.store1 (h : IxpP P w u l) (hb : w.heap[g]? = some (.cells #[.pointer u'] T)) (C : Array Value) : IxpP P (w.setRow g C) u l := by
  obtain ⟨t, h1, h2, h3, h4⟩ := h
  refine ⟨t, h1.carry (fun k hk => h1.ev k (by simpa using hk)) fun b hlt hP hk => ⟨hP, setRow_other w g b C fun e => ?_⟩, h2, fun p hp => ⟨(h3 p hp).1.store1 hb C, (h3 p hp).2⟩, h4⟩
  subst e
  obtain ⟨k, hk⟩ := hk
  rw [(row1 hb).1] at hk
  injection hk with hk
  cases hk
end

/-- A loop's state: the index so far, in a box; the rows of what is gone through lie apart. -/
structure KLp (P : Nat → Prop) (w wr : World) (bx : Nat) (T : TypeId) (R : Option Addr) (n c : Nat) (xs : List KLay) (nb : Nat) (u : Option Addr) (l : List Idx.KH) : Prop where
  ix : IxpP P wr u l
  box : wr.heap[w.heap.size + bx]? = some (.cells #[.pointer u] T)
  row : RowP w wr R n c xs
  sep : ∀ q, blk R q → w.heap.size + nb ≤ q
  b : Below w.heap.size w wr
section
variable {P : Nat → Prop} {w wr w' : World} {bx nb n c : Nat} {T : TypeId} {R u u' : Option Addr} {xs : List KLay} {l l' : List Idx.KH}
theorem KLp.below (h : KLp P w wr bx T R n c xs nb u l) (hb : Below wr.heap.size wr w') : KLp P w w' bx T R n c xs nb u l := ⟨h.ix.below hb, (hb.block _ (hlq h.box)).trans h.box, h.row.next hb, h.sep, h.b.trans (hb.mono h.b.size)⟩
theorem KLp.put (h : KLp P w wr bx T R n c xs nb u l) (hi : IxpP P wr u' l') (hbx : bx < nb) : KLp P w (wr.setRow (w.heap.size + bx) #[.pointer u']) bx T R n c xs nb u' l' :=
  ⟨hi.store1 h.box _, setRow_heap wr _ _ _ _ _ h.box, h.row.off fun q hq => setRow_other wr _ q _ (by have := h.sep q hq; omega), h.sep, below_setRow h.b (Nat.le_add_right _ _) _⟩
theorem KLp.other (h : KLp P w wr bx T R n c xs nb u l) {k : Nat} {o : Obj} (hk : wr.heap[w.heap.size + k]? = some o) (hne : k ≠ bx) (C : Array Value) : (wr.setRow (w.heap.size + bx) C).heap[w.heap.size + k]? = some o := (setRow_other wr _ _ C (by omega)).trans hk
end

end Go.Proofs.Ytcoddkbbgmjckaa
