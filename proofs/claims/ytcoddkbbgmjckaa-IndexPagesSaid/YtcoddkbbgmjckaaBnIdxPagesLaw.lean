/- IndexPages: page by page at one revision is as at once, whatever comes between. For every input. -/
import Derived.Test.YtcoddkbbgmjckaaBn28
import Derived.Test.YtcoddkbbgmjckaaBn27
import Derived.Test.YtcoddkbbgmjckaaBn32
import Derived.Test.YtcoddkbbgmjckaaBn34
import Derived.Test.YtcoddkbbgmjckaaBn18
import Derived.Test.YtcoddkbbgmjckaaBn46
import Derived.ChangeMaps5
import Derived.BigQuiet
namespace Go.Proofs.Ytcoddkbbgmjckaa
open Go.RowKit
set_option linter.unusedVariables false
set_option linter.unusedSimpArgs false
attribute [local go_sem] Oper.semAt_some

set_option maxRecDepth 100000 in
set_option maxHeartbeats 6400000 in
theorem do15Q_any (S : Says) (SP : SaysP) (Rg : Option Addr) (u A : Option Addr) (n cap : Nat) (xs : List KLay) (l : List Idx.KH) (a : Idx.IAct) (w : World) (h : BothQ Rg w u A n cap xs l) (hf : Fit l) (ha : Short a) (hk2 : a.kind < 2) :
    Calls Try.prog 21 #[ixV u, .slice A n cap, iactV a] w fun e w' => ∃ u' R m d ys, e = .returned (.tuple #[ixV u', .slice R m d, .bool true]) ∧ BothQ Rg w' u' R m d ys (Idx.doI l a) ∧ Below w.heap.size w w' := by
  have hdo : Idx.doI l a = match (if a.kind = 0 then (Idx.putI l a.k a.r a.m a.s a.l).map fun o => (o, 0) else if a.kind = 1 then Idx.delI l a.k a.e a.r a.m else if a.kind = 2 then (Idx.addI l a.k a.v).map fun o => (o, 0) else if a.kind = 3 then some (Idx.dropI l a.k a.e, 0) else some (Idx.trimI l a.r, 0)) with | none => l | some o => o.1 := rfl
  have hak := Nat.le_trans ha.k (show 100 ≤ maxLen by unfold maxLen; decide)
  have hae := Nat.le_trans ha.e (show 100 ≤ maxLen by unfold maxLen; decide)
  obtain ⟨T, hT⟩ : ∃ T, Idx.doI l a = T := ⟨_, rfl⟩
  rw [hT] at hdo ⊢
  clear hT ha
  dsimp only [ixV, iactV]
  obtain ⟨W4, hW4⟩ : ∃ W4, (((w.alloc (.cells #[.pointer u] 32)).alloc (.cells #[.int .u8 (a.kind : Int), .string a.k, .string a.e, .int .i64 a.r, .int .i64 a.m, .string a.s, .int .i64 a.l, .int .i64 a.v.r, .int .i64 a.v.k, .int .i64 a.v.m, .int .i64 a.v.v, .string a.v.s, .int .i64 a.v.l, .bool a.v.g] 39)).alloc (.cells #[.pointer none] 32)).alloc (.cells #[.pointer u] 32) = W4 := ⟨_, rfl⟩
  have hs0 : (w.alloc (.cells #[.pointer u] 32)).heap.size = w.heap.size + 1 := by simp
  have hs1 : ((w.alloc (.cells #[.pointer u] 32)).alloc (.cells #[.int .u8 (a.kind : Int), .string a.k, .string a.e, .int .i64 a.r, .int .i64 a.m, .string a.s, .int .i64 a.l, .int .i64 a.v.r, .int .i64 a.v.k, .int .i64 a.v.m, .int .i64 a.v.v, .string a.v.s, .int .i64 a.v.l, .bool a.v.g] 39)).heap.size = w.heap.size + 2 := by simp
  have hs2 : (((w.alloc (.cells #[.pointer u] 32)).alloc (.cells #[.int .u8 (a.kind : Int), .string a.k, .string a.e, .int .i64 a.r, .int .i64 a.m, .string a.s, .int .i64 a.l, .int .i64 a.v.r, .int .i64 a.v.k, .int .i64 a.v.m, .int .i64 a.v.v, .string a.v.s, .int .i64 a.v.l, .bool a.v.g] 39)).alloc (.cells #[.pointer none] 32)).heap.size = w.heap.size + 3 := by simp
  have HB := Lib.hid (show Below w.heap.size w W4 by rw [← hW4]; exact ((((Below.refl _ _).alloc (Nat.le_refl _) _).alloc (by simp <;> omega) _).alloc (by simp <;> omega) _).alloc (by simp <;> omega) _)
  have HX := Lib.hid (show Box W4 w.heap.size u by rw [← hW4]; exact (Below.heap_alloc _ _ _ (by simp <;> omega)).trans ((Below.heap_alloc _ _ _ (by simp <;> omega)).trans ((Below.heap_alloc _ _ _ (by simp <;> omega)).trans (heap_alloc_new w _))))
  have HA := Lib.hid (show W4.heap[w.heap.size + 1]? = some (.cells #[.int .u8 (a.kind : Int), .string a.k, .string a.e, .int .i64 a.r, .int .i64 a.m, .string a.s, .int .i64 a.l, .int .i64 a.v.r, .int .i64 a.v.k, .int .i64 a.v.m, .int .i64 a.v.v, .string a.v.s, .int .i64 a.v.l, .bool a.v.g] 39) by rw [← hW4]; refine (Below.heap_alloc _ _ _ (by simp <;> omega)).trans ((Below.heap_alloc _ _ _ (by simp <;> omega)).trans ?_); rw [← hs0]; exact heap_alloc_new _ _)
  have HR := Lib.hid (show Box W4 (w.heap.size + 2) none by rw [← hW4]; refine (Below.heap_alloc _ _ _ (by simp <;> omega)).trans ?_; rw [← hs1]; exact heap_alloc_new _ _)
  have HY := Lib.hid (show Box W4 (w.heap.size + 3) u by rw [← hW4]; show _ = _; rw [← hs2]; exact heap_alloc_new _ _)
  have HI := Lib.hid (h.below HB.out)
  have HF := Lib.hid hf
  have HW := Lib.hid hW4
  clear hW4 hs0 hs1 hs2 h hf
  go_enter Try.func21, Try.ntmps21
  go_upto_region 3 with fail
  rw [HW.out]
  clear HW
  by_cases h0 : a.kind = 0
  · rw [if_pos h0] at hdo
    have l0 : ((a.kind : Int) == (0 : Int)) = true := by rw [h0]; rfl
    clear h0
    obtain ⟨o, ho⟩ : ∃ o, Idx.putI l a.k a.r a.m a.s a.l = o := ⟨_, rfl⟩
    have hP := SP.put (fun q => ¬ blk Rg q) u l a.k a.r a.m a.s a.l W4 HI.out.ix HF.out hak
    have hQ := fun W (hW : BothQ Rg W u A n cap xs l) => putR15_loc A n cap xs a.k a.r a.m a.s a.l W (hW.both.g HF.out) hak
    rw [ho] at hP hdo
    have hQ : ∀ W, BothQ Rg W u A n cap xs l → Calls _ _ _ W _ := fun W hW => by have := hQ W hW; rw [hW.e, ho] at this; exact this
    clear ho
    cases o with
    | none =>
      have HT := Lib.hid (show T = l from hdo)
      clear hdo
      have HQ0 := Lib.hid hQ
      clear hQ
      have bx := HX.out.cell
      obtain ⟨a0, a1, a2, a3, a4, a5, a6, a7, a8, a9, a10, a11, a12, a13⟩ := row14 HA.out
      dsimp only [Option.getD, Option.map] at hP
      rw [show Idx.errS (none : Option (List Idx.KH)) = 1 from rfl] at hP
      have hC := hP
      go_wp2_with fail
      refine hC.mono ?_
      rintro e w5 ⟨u1, rfl, hI1, hbq⟩
      clear bx a0 a1 a2 a3 a4 a5 a6 a7 a8 a9 a10 a11 a12 a13
      replace HB := Lib.hid (HB.out.trans (hbq.mono HB.out.size))
      replace HX := Lib.hid (HX.out.below hbq)
      replace HY := Lib.hid (HY.out.below hbq)
      replace HR := Lib.hid (HR.out.below hbq)
      replace HA := Lib.hid ((hbq.block _ (hlt HA.out)).trans HA.out)
      replace HI := Lib.hid (HI.out.below hbq)
      clear hC hbq
      clear hP
      have HQ := Lib.hid hI1
      clear hI1
      go_upto_region 7 with (refine wpList_store_row rfl _ _ _ rfl (w.heap.size + 3) #[.pointer u1] (by rfl) (by rfl) _ _ HY.out (by kernel_rfl) rfl (by first | rfl | kernel_rfl) ?_)
      obtain ⟨W6, hW⟩ : ∃ W, w5.setRow (w.heap.size + 3) #[.pointer u1] = W := ⟨_, rfl⟩
      rw [hW]
      replace HB := Lib.hid (show Below w.heap.size w W6 by rw [← hW]; exact below_setRow HB.out (by omega) _)
      replace HX := Lib.hid (show Box W6 w.heap.size u by rw [← hW]; exact HX.out.far (by omega) _)
      replace HR := Lib.hid (show Box W6 (w.heap.size + 2) none by rw [← hW]; exact HR.out.far (by omega) _)
      replace HA := Lib.hid (show W6.heap[w.heap.size + 1]? = some (.cells #[.int .u8 (a.kind : Int), .string a.k, .string a.e, .int .i64 a.r, .int .i64 a.m, .string a.s, .int .i64 a.l, .int .i64 a.v.r, .int .i64 a.v.k, .int .i64 a.v.m, .int .i64 a.v.v, .string a.v.s, .int .i64 a.v.l, .bool a.v.g] 39) by rw [← hW]; exact (setRow_other _ _ _ _ (by omega)).trans HA.out)
      replace HI := Lib.hid (by have q := HI.out.store HY.out #[.pointer u1]; rw [hW] at q; exact q)
      replace HQ := Lib.hid (by have q := HQ.out.store HY.out #[.pointer u1]; rw [hW] at q; exact q)
      replace HY := Lib.hid (show Box W6 (w.heap.size + 3) u1 by rw [← hW]; exact HY.out.stored _)
      clear hW
      have bx := HX.out.cell
      obtain ⟨a0, a1, a2, a3, a4, a5, a6, a7, a8, a9, a10, a11, a12, a13⟩ := row14 HA.out
      have HI6 := Lib.hid HI.out
      have hC := HQ0.out W6 HI.out
      go_wp2_with fail
      refine hC.mono ?_
      rintro e w7 ⟨R2, m2, d2, ys, rfl, hO2, hy2, hbq⟩
      clear bx a0 a1 a2 a3 a4 a5 a6 a7 a8 a9 a10 a11 a12 a13
      replace HB := Lib.hid (HB.out.trans (hbq.mono HB.out.size))
      replace HX := Lib.hid (HX.out.below hbq)
      replace HY := Lib.hid (HY.out.below hbq)
      replace HR := Lib.hid (HR.out.below hbq)
      replace HA := Lib.hid ((hbq.block _ (hlt HA.out)).trans HA.out)
      replace HI := Lib.hid (HI.out.below hbq)
      replace HQ := Lib.hid (HQ.out.below hbq)
      clear hC hbq
      clear hO2 hy2
      clear HQ0
      have hal := (HQ.out)
      have bx := HX.out.cell
      have bY := HY.out.cell
      have hC := S.all u1 [] w7 HQ.out.ixp fit_nil
      clear hal
      go_wp2_with fail
      refine hC.mono ?_
      rintro e w8 ⟨R9, m9, c9, xs9, rfl, hP9, hx9, hbq⟩
      clear bx bY
      replace HB := Lib.hid (HB.out.trans (hbq.mono HB.out.size))
      replace HX := Lib.hid (HX.out.below hbq)
      replace HY := Lib.hid (HY.out.below hbq)
      replace HR := Lib.hid (HR.out.below hbq)
      replace HA := Lib.hid ((hbq.block _ (hlt HA.out)).trans HA.out)
      replace HI := Lib.hid (HI.out.below hbq)
      replace HQ := Lib.hid (HQ.out.below hbq)
      clear hC hbq
      have hm9 : m9 = 0 := by
        have h1 := hP9.sp.1
        rw [rowK_len] at h1
        have h2 : xs9.length = 0 := by rw [← List.length_map (f := KLay.kh)]; exact congrArg List.length hx9
        omega
      subst hm9
      clear hP9 hx9
      have bx := HX.out.cell
      have bY := HY.out.cell
      have hZ := HR.out.stored u
      have hBz := below_setRow HB.out (g := w.heap.size + 2) (by omega) #[.pointer u]
      have hQ := (HI.out).store HR.out #[.pointer u]
      have HZ := Lib.hid (And.intro hZ (And.intro hBz hQ))
      clear hZ hBz hQ
      go_wp2_with (refine wpList_store_row rfl _ _ _ rfl (w.heap.size + 2) #[.pointer u] (by rfl) (by rfl) _ _ HR.out (by kernel_rfl) rfl (by first | rfl | kernel_rfl) ?_)
      refine bodyPost_ret (res_cell_tmp_tmp (n := w.heap.size + 2) rfl rfl HZ.out.1 Try.underlying32 rfl (by kernel_rfl)) rfl ?_
      exact ⟨u, A, n, cap, xs, rfl, by rw [HT.out]; exact HZ.out.2.2, HZ.out.2.1⟩
    | some o =>
      have HT := Lib.hid (show T = o from hdo)
      clear hdo
      have HQ0 := Lib.hid hQ
      clear hQ
      have bx := HX.out.cell
      obtain ⟨a0, a1, a2, a3, a4, a5, a6, a7, a8, a9, a10, a11, a12, a13⟩ := row14 HA.out
      dsimp only [Option.getD, Option.map] at hP
      rw [show Idx.errS (some o) = 0 from rfl] at hP
      have hC := hP
      go_wp2_with fail
      refine hC.mono ?_
      rintro e w5 ⟨u1, rfl, hI1, hbq⟩
      clear bx a0 a1 a2 a3 a4 a5 a6 a7 a8 a9 a10 a11 a12 a13
      replace HB := Lib.hid (HB.out.trans (hbq.mono HB.out.size))
      replace HX := Lib.hid (HX.out.below hbq)
      replace HY := Lib.hid (HY.out.below hbq)
      replace HR := Lib.hid (HR.out.below hbq)
      replace HA := Lib.hid ((hbq.block _ (hlt HA.out)).trans HA.out)
      replace HI := Lib.hid (HI.out.below hbq)
      clear hC hbq
      clear hP
      have HQ := Lib.hid hI1
      clear hI1
      go_upto_region 7 with (refine wpList_store_row rfl _ _ _ rfl (w.heap.size + 3) #[.pointer u1] (by rfl) (by rfl) _ _ HY.out (by kernel_rfl) rfl (by first | rfl | kernel_rfl) ?_)
      obtain ⟨W6, hW⟩ : ∃ W, w5.setRow (w.heap.size + 3) #[.pointer u1] = W := ⟨_, rfl⟩
      rw [hW]
      replace HB := Lib.hid (show Below w.heap.size w W6 by rw [← hW]; exact below_setRow HB.out (by omega) _)
      replace HX := Lib.hid (show Box W6 w.heap.size u by rw [← hW]; exact HX.out.far (by omega) _)
      replace HR := Lib.hid (show Box W6 (w.heap.size + 2) none by rw [← hW]; exact HR.out.far (by omega) _)
      replace HA := Lib.hid (show W6.heap[w.heap.size + 1]? = some (.cells #[.int .u8 (a.kind : Int), .string a.k, .string a.e, .int .i64 a.r, .int .i64 a.m, .string a.s, .int .i64 a.l, .int .i64 a.v.r, .int .i64 a.v.k, .int .i64 a.v.m, .int .i64 a.v.v, .string a.v.s, .int .i64 a.v.l, .bool a.v.g] 39) by rw [← hW]; exact (setRow_other _ _ _ _ (by omega)).trans HA.out)
      replace HI := Lib.hid (by have q := HI.out.store HY.out #[.pointer u1]; rw [hW] at q; exact q)
      replace HQ := Lib.hid (by have q := HQ.out.store HY.out #[.pointer u1]; rw [hW] at q; exact q)
      replace HY := Lib.hid (show Box W6 (w.heap.size + 3) u1 by rw [← hW]; exact HY.out.stored _)
      clear hW
      have bx := HX.out.cell
      obtain ⟨a0, a1, a2, a3, a4, a5, a6, a7, a8, a9, a10, a11, a12, a13⟩ := row14 HA.out
      have HI6 := Lib.hid HI.out
      have hC := HQ0.out W6 HI.out
      go_wp2_with fail
      refine hC.mono ?_
      rintro e w7 ⟨R2, m2, d2, ys, rfl, hO2, hy2, hbq⟩
      clear bx a0 a1 a2 a3 a4 a5 a6 a7 a8 a9 a10 a11 a12 a13
      replace HB := Lib.hid (HB.out.trans (hbq.mono HB.out.size))
      replace HX := Lib.hid (HX.out.below hbq)
      replace HY := Lib.hid (HY.out.below hbq)
      replace HR := Lib.hid (HR.out.below hbq)
      replace HA := Lib.hid ((hbq.block _ (hlt HA.out)).trans HA.out)
      replace HI := Lib.hid (HI.out.below hbq)
      replace HQ := Lib.hid (HQ.out.below hbq)
      clear hC hbq
      clear HQ0
      have HD := Lib.hid (show IxL w7 R2 m2 d2 ys ∧ khs ys = o ∧ ∀ y ∈ ys, ∀ q, blk y.B q → ¬ blk Rg q from ⟨hO2.1.ix, hy2, HI6.out.moved hO2.2⟩)
      clear hO2 hy2
      have bY := HY.out.cell
      have hZ := HR.out.stored u1
      have hBz := below_setRow HB.out (g := w.heap.size + 2) (by omega) #[.pointer u1]
      have hQ := ((show BothQ Rg w7 u1 R2 m2 d2 ys o from ⟨HQ.out, HD.out.1, HD.out.2.1, HD.out.2.2⟩)).store HR.out #[.pointer u1]
      have HZ := Lib.hid (And.intro hZ (And.intro hBz hQ))
      clear hZ hBz hQ
      go_wp2_with (refine wpList_store_row rfl _ _ _ rfl (w.heap.size + 2) #[.pointer u1] (by rfl) (by rfl) _ _ HR.out (by kernel_rfl) rfl (by first | rfl | kernel_rfl) ?_)
      refine bodyPost_ret (res_cell_tmp_tmp (n := w.heap.size + 2) rfl rfl HZ.out.1 Try.underlying32 rfl (by kernel_rfl)) rfl ?_
      exact ⟨u1, R2, m2, d2, ys, rfl, by rw [HT.out]; exact HZ.out.2.2, HZ.out.2.1⟩
  · rw [if_neg h0] at hdo
    have l0 : ((a.kind : Int) == (0 : Int)) = false := beq_eq_false_iff_ne.2 (by omega)
    by_cases h1 : a.kind = 1
    · rw [if_pos h1] at hdo
      have l1 : ((a.kind : Int) == (1 : Int)) = true := by rw [h1]; rfl
      clear h0 h1
      obtain ⟨o, ho⟩ : ∃ o, Idx.delI l a.k a.e a.r a.m = o := ⟨_, rfl⟩
      have hP := SP.del (fun q => ¬ blk Rg q) u l a.k a.e a.r a.m W4 HI.out.ix HF.out hak hae
      have hQ := fun W (hW : BothQ Rg W u A n cap xs l) => delR15_loc A n cap xs a.k a.e a.r a.m W (hW.both.g HF.out) hak hae
      rw [ho] at hP hdo
      have hQ : ∀ W, BothQ Rg W u A n cap xs l → Calls _ _ _ W _ := fun W hW => by have := hQ W hW; rw [hW.e, ho] at this; exact this
      clear ho
      cases o with
      | none =>
        have HT := Lib.hid (show T = l from hdo)
        clear hdo
        have HQ0 := Lib.hid hQ
        clear hQ
        have bx := HX.out.cell
        obtain ⟨a0, a1, a2, a3, a4, a5, a6, a7, a8, a9, a10, a11, a12, a13⟩ := row14 HA.out
        dsimp only [Option.getD, Option.map] at hP
        rw [show Idx.errS (none : Option (List Idx.KH × Nat)) = 1 from rfl] at hP
        have hC := hP
        go_wp2_with fail
        refine hC.mono ?_
        rintro e w5 ⟨u1, rfl, hI1, hbq⟩
        clear bx a0 a1 a2 a3 a4 a5 a6 a7 a8 a9 a10 a11 a12 a13
        replace HB := Lib.hid (HB.out.trans (hbq.mono HB.out.size))
        replace HX := Lib.hid (HX.out.below hbq)
        replace HY := Lib.hid (HY.out.below hbq)
        replace HR := Lib.hid (HR.out.below hbq)
        replace HA := Lib.hid ((hbq.block _ (hlt HA.out)).trans HA.out)
        replace HI := Lib.hid (HI.out.below hbq)
        clear hC hbq
        clear hP
        have HQ := Lib.hid hI1
        clear hI1
        go_upto_region 10 with (refine wpList_store_row rfl _ _ _ rfl (w.heap.size + 3) #[.pointer u1] (by rfl) (by rfl) _ _ HY.out (by kernel_rfl) rfl (by first | rfl | kernel_rfl) ?_)
        obtain ⟨W6, hW⟩ : ∃ W, w5.setRow (w.heap.size + 3) #[.pointer u1] = W := ⟨_, rfl⟩
        rw [hW]
        replace HB := Lib.hid (show Below w.heap.size w W6 by rw [← hW]; exact below_setRow HB.out (by omega) _)
        replace HX := Lib.hid (show Box W6 w.heap.size u by rw [← hW]; exact HX.out.far (by omega) _)
        replace HR := Lib.hid (show Box W6 (w.heap.size + 2) none by rw [← hW]; exact HR.out.far (by omega) _)
        replace HA := Lib.hid (show W6.heap[w.heap.size + 1]? = some (.cells #[.int .u8 (a.kind : Int), .string a.k, .string a.e, .int .i64 a.r, .int .i64 a.m, .string a.s, .int .i64 a.l, .int .i64 a.v.r, .int .i64 a.v.k, .int .i64 a.v.m, .int .i64 a.v.v, .string a.v.s, .int .i64 a.v.l, .bool a.v.g] 39) by rw [← hW]; exact (setRow_other _ _ _ _ (by omega)).trans HA.out)
        replace HI := Lib.hid (by have q := HI.out.store HY.out #[.pointer u1]; rw [hW] at q; exact q)
        replace HQ := Lib.hid (by have q := HQ.out.store HY.out #[.pointer u1]; rw [hW] at q; exact q)
        replace HY := Lib.hid (show Box W6 (w.heap.size + 3) u1 by rw [← hW]; exact HY.out.stored _)
        clear hW
        have bx := HX.out.cell
        obtain ⟨a0, a1, a2, a3, a4, a5, a6, a7, a8, a9, a10, a11, a12, a13⟩ := row14 HA.out
        have HI6 := Lib.hid HI.out
        have hC := HQ0.out W6 HI.out
        go_wp2_with fail
        refine hC.mono ?_
        rintro e w7 ⟨rfl, hbq⟩
        clear bx a0 a1 a2 a3 a4 a5 a6 a7 a8 a9 a10 a11 a12 a13
        replace HB := Lib.hid (HB.out.trans (hbq.mono HB.out.size))
        replace HX := Lib.hid (HX.out.below hbq)
        replace HY := Lib.hid (HY.out.below hbq)
        replace HR := Lib.hid (HR.out.below hbq)
        replace HA := Lib.hid ((hbq.block _ (hlt HA.out)).trans HA.out)
        replace HI := Lib.hid (HI.out.below hbq)
        replace HQ := Lib.hid (HQ.out.below hbq)
        clear hC hbq
        clear HQ0
        have hal := (HQ.out)
        have bx := HX.out.cell
        have bY := HY.out.cell
        have hC := S.all u1 [] w7 HQ.out.ixp fit_nil
        clear hal
        go_wp2_with fail
        refine hC.mono ?_
        rintro e w8 ⟨R9, m9, c9, xs9, rfl, hP9, hx9, hbq⟩
        clear bx bY
        replace HB := Lib.hid (HB.out.trans (hbq.mono HB.out.size))
        replace HX := Lib.hid (HX.out.below hbq)
        replace HY := Lib.hid (HY.out.below hbq)
        replace HR := Lib.hid (HR.out.below hbq)
        replace HA := Lib.hid ((hbq.block _ (hlt HA.out)).trans HA.out)
        replace HI := Lib.hid (HI.out.below hbq)
        replace HQ := Lib.hid (HQ.out.below hbq)
        clear hC hbq
        have hm9 : m9 = 0 := by
          have h1 := hP9.sp.1
          rw [rowK_len] at h1
          have h2 : xs9.length = 0 := by rw [← List.length_map (f := KLay.kh)]; exact congrArg List.length hx9
          omega
        subst hm9
        clear hP9 hx9
        have bx := HX.out.cell
        have bY := HY.out.cell
        have hZ := HR.out.stored u
        have hBz := below_setRow HB.out (g := w.heap.size + 2) (by omega) #[.pointer u]
        have hQ := (HI.out).store HR.out #[.pointer u]
        have HZ := Lib.hid (And.intro hZ (And.intro hBz hQ))
        clear hZ hBz hQ
        go_wp2_with (refine wpList_store_row rfl _ _ _ rfl (w.heap.size + 2) #[.pointer u] (by rfl) (by rfl) _ _ HR.out (by kernel_rfl) rfl (by first | rfl | kernel_rfl) ?_)
        refine bodyPost_ret (res_cell_tmp_tmp (n := w.heap.size + 2) rfl rfl HZ.out.1 Try.underlying32 rfl (by kernel_rfl)) rfl ?_
        exact ⟨u, A, n, cap, xs, rfl, by rw [HT.out]; exact HZ.out.2.2, HZ.out.2.1⟩
      | some o =>
        have HT := Lib.hid (show T = o.1 from hdo)
        clear hdo
        have HQ0 := Lib.hid hQ
        clear hQ
        have bx := HX.out.cell
        obtain ⟨a0, a1, a2, a3, a4, a5, a6, a7, a8, a9, a10, a11, a12, a13⟩ := row14 HA.out
        dsimp only [Option.getD, Option.map] at hP
        rw [show Idx.errS (some o) = 0 from rfl] at hP
        have hC := hP
        go_wp2_with fail
        refine hC.mono ?_
        rintro e w5 ⟨u1, rfl, hI1, hbq⟩
        clear bx a0 a1 a2 a3 a4 a5 a6 a7 a8 a9 a10 a11 a12 a13
        replace HB := Lib.hid (HB.out.trans (hbq.mono HB.out.size))
        replace HX := Lib.hid (HX.out.below hbq)
        replace HY := Lib.hid (HY.out.below hbq)
        replace HR := Lib.hid (HR.out.below hbq)
        replace HA := Lib.hid ((hbq.block _ (hlt HA.out)).trans HA.out)
        replace HI := Lib.hid (HI.out.below hbq)
        clear hC hbq
        clear hP
        have HQ := Lib.hid hI1
        clear hI1
        go_upto_region 10 with (refine wpList_store_row rfl _ _ _ rfl (w.heap.size + 3) #[.pointer u1] (by rfl) (by rfl) _ _ HY.out (by kernel_rfl) rfl (by first | rfl | kernel_rfl) ?_)
        obtain ⟨W6, hW⟩ : ∃ W, w5.setRow (w.heap.size + 3) #[.pointer u1] = W := ⟨_, rfl⟩
        rw [hW]
        replace HB := Lib.hid (show Below w.heap.size w W6 by rw [← hW]; exact below_setRow HB.out (by omega) _)
        replace HX := Lib.hid (show Box W6 w.heap.size u by rw [← hW]; exact HX.out.far (by omega) _)
        replace HR := Lib.hid (show Box W6 (w.heap.size + 2) none by rw [← hW]; exact HR.out.far (by omega) _)
        replace HA := Lib.hid (show W6.heap[w.heap.size + 1]? = some (.cells #[.int .u8 (a.kind : Int), .string a.k, .string a.e, .int .i64 a.r, .int .i64 a.m, .string a.s, .int .i64 a.l, .int .i64 a.v.r, .int .i64 a.v.k, .int .i64 a.v.m, .int .i64 a.v.v, .string a.v.s, .int .i64 a.v.l, .bool a.v.g] 39) by rw [← hW]; exact (setRow_other _ _ _ _ (by omega)).trans HA.out)
        replace HI := Lib.hid (by have q := HI.out.store HY.out #[.pointer u1]; rw [hW] at q; exact q)
        replace HQ := Lib.hid (by have q := HQ.out.store HY.out #[.pointer u1]; rw [hW] at q; exact q)
        replace HY := Lib.hid (show Box W6 (w.heap.size + 3) u1 by rw [← hW]; exact HY.out.stored _)
        clear hW
        have bx := HX.out.cell
        obtain ⟨a0, a1, a2, a3, a4, a5, a6, a7, a8, a9, a10, a11, a12, a13⟩ := row14 HA.out
        have HI6 := Lib.hid HI.out
        have hC := HQ0.out W6 HI.out
        go_wp2_with fail
        refine hC.mono ?_
        rintro e w7 ⟨R2, m2, d2, ys, rfl, hO2, hy2, hbq⟩
        clear bx a0 a1 a2 a3 a4 a5 a6 a7 a8 a9 a10 a11 a12 a13
        replace HB := Lib.hid (HB.out.trans (hbq.mono HB.out.size))
        replace HX := Lib.hid (HX.out.below hbq)
        replace HY := Lib.hid (HY.out.below hbq)
        replace HR := Lib.hid (HR.out.below hbq)
        replace HA := Lib.hid ((hbq.block _ (hlt HA.out)).trans HA.out)
        replace HI := Lib.hid (HI.out.below hbq)
        replace HQ := Lib.hid (HQ.out.below hbq)
        clear hC hbq
        clear HQ0
        have HD := Lib.hid (show IxL w7 R2 m2 d2 ys ∧ khs ys = o.1 ∧ ∀ y ∈ ys, ∀ q, blk y.B q → ¬ blk Rg q from ⟨hO2.1, hy2, HI6.out.moved hO2.2⟩)
        clear hO2 hy2
        have bY := HY.out.cell
        have hZ := HR.out.stored u1
        have hBz := below_setRow HB.out (g := w.heap.size + 2) (by omega) #[.pointer u1]
        have hQ := ((show BothQ Rg w7 u1 R2 m2 d2 ys o.1 from ⟨HQ.out, HD.out.1, HD.out.2.1, HD.out.2.2⟩)).store HR.out #[.pointer u1]
        have HZ := Lib.hid (And.intro hZ (And.intro hBz hQ))
        clear hZ hBz hQ
        go_wp2_with (refine wpList_store_row rfl _ _ _ rfl (w.heap.size + 2) #[.pointer u1] (by rfl) (by rfl) _ _ HR.out (by kernel_rfl) rfl (by first | rfl | kernel_rfl) ?_)
        refine bodyPost_ret (res_cell_tmp_tmp (n := w.heap.size + 2) rfl rfl HZ.out.1 Try.underlying32 rfl (by kernel_rfl)) rfl ?_
        exact ⟨u1, R2, m2, d2, ys, rfl, by rw [HT.out]; exact HZ.out.2.2, HZ.out.2.1⟩
    · exact absurd hk2 (by omega)

end Go.Proofs.Ytcoddkbbgmjckaa

namespace Go.Proofs.Ytcoddkbbgmjckaa
open Go.RowKit
set_option linter.unusedVariables false
set_option linter.unusedSimpArgs false

theorem item_far {w : World} {g : Nat} {u : Option Addr} {A : Option Addr} {n c : Nat} {ls : List (ByteArray × Ver)} (h : Sp 62 8 w A n c (rowI ls)) (hb : Box w g u) : ∀ q, blk A q → q ≠ g := fun q hq e => by
  subst e
  obtain ⟨cur, hg⟩ := h.block hq
  have := hg.symm.trans hb
  injection this with this
  injection this with _ this
  exact absurd this (by decide)

theorem OwnI.store {w0 w : World} {g : Nat} {u : Option Addr} {A : Option Addr} {n c : Nat} {ls : List (ByteArray × Ver)} (h : OwnI w0 w A n c ls) (hb : Box w g u) (C : Array Value) : OwnI w0 (w.setRow g C) A n c ls :=
  ⟨h.sp.keep fun q hq => setRow_other w g q C (item_far h.sp hb q hq), h.new⟩

theorem ItemsR.store {w : World} {g : Nat} {u : Option Addr} {A : Option Addr} {n : Nat} {ls : List (ByteArray × Ver)} (h : ItemsR w A n ls) (hb : Box w g u) (C : Array Value) : ItemsR (w.setRow g C) A n ls :=
  h.keep (by simp) fun h0 q hq hlt => setRow_other w g q C fun e => by
    subst e
    obtain ⟨g', off, e, hg, _, h1, _⟩ := h.2 0 (by have := h.1; omega)
    obtain ⟨o, e2⟩ := hq
    rw [e] at e2
    injection e2 with e2
    injection e2 with e2 e3
    subst e2
    rw [row1_no hb (by omega)] at h1
    cases h1

/-- What the loop holds in memory. -/
structure Pq (w0 wW wr : World) (GX : Nat) (I : List (ByteArray × Ver)) (R2 : Option Addr) (m2 : Nat) (u R : Option Addr) (n c : Nat) (xs : List KLay) (lk : List Idx.KH) (Rg : Option Addr) (ng cg : Nat) (G : List (ByteArray × Ver)) : Prop where
  q : BothQ Rg wr u R n c xs lk
  box : Box wr GX u
  b : Below w0.heap.size w0 wr
  got : OwnI wW wr Rg ng cg G
  want : ItemsR wr R2 m2 I

section
variable {w0 wW wr w' : World} {GX : Nat} {I G : List (ByteArray × Ver)} {R2 u R Rg : Option Addr} {m2 n c ng cg : Nat} {xs : List KLay} {lk : List Idx.KH}

theorem Pq.called (h : Pq w0 wW wr GX I R2 m2 u R n c xs lk Rg ng cg G) (hb : Below wr.heap.size wr w') : Pq w0 wW w' GX I R2 m2 u R n c xs lk Rg ng cg G :=
  ⟨h.q.below hb, h.box.below hb, h.b.trans (hb.mono h.b.size), h.got.next hb, h.want.keep hb.size fun _ q _ hq => hb.block q hq⟩

/-- Behind an act: its index is put into the box. -/
theorem Pq.acted {u' R' : Option Addr} {n' c' : Nat} {xs' : List KLay} {lk' : List Idx.KH} (h : Pq w0 wW wr GX I R2 m2 u R n c xs lk Rg ng cg G) (hb : Below wr.heap.size wr w') (hq : BothQ Rg w' u' R' n' c' xs' lk') (hG : w0.heap.size ≤ GX) :
    Pq w0 wW (w'.setRow GX #[.pointer u']) GX I R2 m2 u' R' n' c' xs' lk' Rg ng cg G := by
  have h' := h.called hb
  exact ⟨hq.store h'.box _, h'.box.stored _, below_setRow h'.b hG _, h'.got.store h'.box _, h'.want.store h'.box _⟩

/-- A page is put behind what was got. -/
theorem Pq.grown {X w8 : World} {A8 : Option Addr} {n3 c8 : Nat} {pg : List (ByteArray × Ver)} (h : Pq w0 wW wr GX I R2 m2 u R n c xs lk Rg ng cg G) (hf : Fit lk) (h0 : w0.heap.size ≤ wW.heap.size) (hw : ∀ q, blk R2 q → I ≠ [] → q < wW.heap.size) (hX : Below wr.heap.size wr X) (hg : Grew X w8 Rg)
    (hsp : Sp 62 8 w8 A8 (ng + n3) c8 (rowI G ++ rowI pg)) (hA : ∀ q, blk A8 q → blk Rg q ∨ X.heap.size ≤ q) (hWr : wW.heap.size ≤ wr.heap.size) : Pq w0 wW w8 GX I R2 m2 u R n c xs lk A8 (ng + n3) c8 (G ++ pg) := by
  have hX' := h.called hX
  have hra : rowI (G ++ pg) = rowI G ++ rowI pg := by unfold rowI; rw [List.flatMap_append]
  refine ⟨h.q.grown hf hX h.got.sp hg hA fun q hq => hsp.lt hq, ?_, hg.below hX'.b hX'.b.size fun q hq => Nat.le_trans h0 (h.got.new q hq), ⟨by rw [hra]; exact hsp, fun q hq => ?_⟩, ?_⟩
  · exact (hg.block _ hX'.box.lt fun e => item_far hX'.got.sp hX'.box _ e rfl).trans hX'.box
  · rcases hA q hq with h1 | h1
    · exact h.got.new q h1
    · have := hX.size; omega
  · refine hX'.want.keep hg.size fun hm q hq hl => hg.block q hl fun e => ?_
    have h1 := h.got.new q e
    have h2 := hw q hq (fun e => by have := h.want.1; rw [e] at this; have : 0 = m2 := this; omega)
    omega
end

/-- What the loop holds, all in all. -/
structure Pm (l : List Idx.KH) (r : Int) (I : List (ByteArray × Ver)) (k : Nat) (lk : List Idx.KH) (p : Nat) (aft : ByteArray) : Prop where
  wf : Idx.Wf lk
  n40 : lk.length ≤ 40 + k
  t40 : Idx.tot lk ≤ (40 + k) * (40 + k)
  it : ∀ f, Idx.itemsI lk r f = Idx.itemsI l r f
  kp : k ≤ p
  pos : (p = 0 ∧ aft = ⟨#[]⟩) ∨ (0 < p ∧ p < I.length ∧ ∃ h : p - 1 < I.length, aft = (I[p - 1]).1)

section
variable {l : List Idx.KH} {r : Int} {pre : ByteArray} {k p : Nat} {lk : List Idx.KH} {aft : ByteArray} {I : List (ByteArray × Ver)}

theorem Pm.k40 (h : Pm l r I k lk p aft) (hI : I.length ≤ 40) : k ≤ 40 := by
  have := h.kp
  rcases h.pos with ⟨h1, _⟩ | ⟨_, h1, _⟩ <;> omega

theorem Pm.fit (h : Pm l r I k lk p aft) (hI : I.length ≤ 40) : Fit lk := by
  have hk := h.k40 hI
  have h1 := h.n40
  have h2 : (40 + k) * (40 + k) ≤ 80 * 80 := Nat.mul_le_mul (by omega) (by omega)
  have h3 := h.t40
  exact ⟨h.wf, by omega, by omega⟩

theorem Pm.small (h : Pm l r I k lk p aft) (hw : Idx.Wf l) (hI : I = Idx.itemsI l r (Idx.behB pre ⟨#[]⟩)) : aft.size ≤ 2000000 := by
  rcases h.pos with ⟨_, rfl⟩ | ⟨_, _, h3, rfl⟩
  · decide
  · have hm : I[p - 1] ∈ Idx.itemsI l r (Idx.behB pre ⟨#[]⟩) := by rw [← hI]; exact List.getElem_mem _
    have h1 := ((Idx.items_mem hw r _ (I[p - 1]).1 (I[p - 1]).2).1 hm).2
    have h2 : Idx.getL l (I[p - 1]).1 ≠ [] := fun e => by rw [e] at h1; cases h1
    have h4 := hw.key _ (Idx.mem_of_get h2)
    unfold Idx.keyB Idx.textB at h4
    rw [Bool.and_eq_true, decide_eq_true_eq] at h4
    dsimp only at h4
    omega

theorem Pm.page (h : Pm l r I k lk p aft) (hw : Idx.Wf l) (hI : I = Idx.itemsI l r (Idx.behB pre ⟨#[]⟩)) (mst : Nat) : Idx.behindI lk pre aft r (mst : Int) = ((I.drop p).take mst, decide ((I.drop p).length ≤ mst)) := by
  unfold Idx.behindI
  rw [h.it, Int.toNat_natCast]
  rcases h.pos with ⟨rfl, rfl⟩ | ⟨h1, h2, h3, rfl⟩
  · rw [← hI, List.drop_zero]
  · subst hI
    rw [Idx.items_behind hw r pre ⟨#[]⟩ (p - 1) h3, show p - 1 + 1 = p by omega]

theorem Pm.more (h : Pm l r I k lk p aft) {mst : Nat} (h1 : 1 ≤ mst) (h2 : ¬ (I.drop p).length ≤ mst) (hlt : mst - 1 < ((I.drop p).take mst).length) : Pm l r I (k + 1) lk (p + mst) (((I.drop p).take mst)[mst - 1]).1 := by
  rw [List.length_drop] at h2
  refine ⟨h.wf, by have := h.n40; omega, Nat.le_trans h.t40 (Nat.mul_le_mul (by omega) (by omega)), h.it, by have := h.kp; omega, .inr ⟨by omega, by omega, by omega, ?_⟩⟩
  rw [List.getElem_take, List.getElem_drop]
  congr 2
  omega

theorem Pm.act (h : Pm l r I k lk p aft) {a : Idx.IAct} (hk : a.kind < 2) (hr : r < a.r) {k' p' : Nat} {aft' : ByteArray} (h' : Pm l r I (k + 1) lk p' aft') : Pm l r I (k + 1) (Idx.doI lk a) p' aft' := by
  obtain ⟨g1, g2, g3⟩ := Idx.do_keeps h.wf a
  have e : (40 + (k + 1)) * (40 + (k + 1)) = (40 + k) * (40 + k) + (40 + k) + (40 + k) + 1 := by rw [show 40 + (k + 1) = (40 + k) + 1 by omega, Nat.succ_mul, Nat.mul_succ]; omega
  refine ⟨g1, by have := h.n40; omega, by have := h.n40; have := h.t40; omega, fun f => ?_, h'.kp, h'.pos⟩
  rw [Idx.do_later h.wf a hk hr f, h.it]
end
end Go.Proofs.Ytcoddkbbgmjckaa

namespace Go.Proofs.Ytcoddkbbgmjckaa
open Go.RowKit
set_option linter.unusedVariables false
set_option linter.unusedSimpArgs false
attribute [local go_sem] Oper.semAt_some

set_option maxRecDepth 100000 in
set_option maxHeartbeats 6400000 in
theorem indexPages_walk (S : Says) (SP : SaysP) (A : Option Addr) (len cap : Nat) (K : Nat → Idx.IAct) (B : Option Addr) (bl bcap : Nat) (K2 : Nat → Idx.IAct) (pre : ByteArray) (mo : Nat) (w : World) (hA : IActs w A len K) (hm : len ≤ maxLen) (hs : ∀ j, j < len → IActWf (K j)) (hA2 : IActs w B bl K2) (hm2 : bl ≤ maxLen) (hs2 : ∀ j, j < bl → IActWf (K2 j)) (hp : pre.size ≤ maxLen) (hmo : mo < 256) :
    Calls Try.prog 6 #[.slice A len cap, .slice B bl bcap, .string pre, .int .u8 (mo : Int)] w fun e w' => e = .returned (.bool true) ∧ Below w.heap.size w w' := by
  have HV0 := Lib.hid (And.intro hA (And.intro hs (And.intro hA2 hs2)))
  have HPZ := Lib.hid (And.intro hp hmo)
  clear hA hs hA2 hs2 hp hmo
  have H0 := Lib.hid (show Below w.heap.size w w from Below.refl _ _)
  go_enter Try.func6, Try.ntmps6
  have hC := awake15_any S w
  go_wp2_with fail
  refine hC.mono ?_
  rintro e w1 ⟨rfl, hbq⟩
  replace H0 := Lib.hid (H0.out.trans (hbq.mono H0.out.size))
  clear hC hbq
  have hC := fewI_any A len cap K 40 w1 (HV0.out.1.below H0.out) hm HV0.out.2.1 (by omega)
  go_wp2_with fail
  refine hC.mono ?_
  rintro e w1' ⟨b0, rfl, hb40, rfl⟩
  clear hC
  cases b0 with
  | false =>
    have hC := awake15_any S w1
    go_wp2_with fail
    refine hC.mono ?_
    rintro e w2 ⟨rfl, hbq⟩
    replace H0 := Lib.hid (H0.out.trans (hbq.mono H0.out.size))
    clear hC hbq
    have hbz := H0.out
    go_wp2
    go_ret
    exact ⟨rfl, hbz⟩
  | true =>
    obtain ⟨h40, hsh⟩ := hb40 rfl
    have HS := Lib.hid hsh
    clear hb40 hsh
    have hC := fewI_any B bl bcap K2 20 w1 (HV0.out.2.2.1.below H0.out) hm2 HV0.out.2.2.2 (by omega)
    go_wp2_with fail
    refine hC.mono ?_
    rintro e w1' ⟨b1, rfl, hb41, rfl⟩
    clear hC
    cases b1 with
    | false =>
      have hC := awake15_any S w1
      go_wp2_with fail
      refine hC.mono ?_
      rintro e w2 ⟨rfl, hbq⟩
      replace H0 := Lib.hid (H0.out.trans (hbq.mono H0.out.size))
      clear hC hbq
      have hbz := H0.out
      go_wp2
      go_ret
      exact ⟨rfl, hbz⟩
    | true =>
      obtain ⟨h20, hsh⟩ := hb41 rfl
      have HS2 := Lib.hid hsh
      clear hb41 hsh
      by_cases hg : (100 : Int) < (pre.size : Int)
      · have e5 : decide ((100 : Int) < (pre.size : Int)) = true := decide_eq_true hg
        clear hg
        have hC := awake15_any S w1
        go_wp2_with fail
        refine hC.mono ?_
        rintro e w2 ⟨rfl, hbq⟩
        replace H0 := Lib.hid (H0.out.trans (hbq.mono H0.out.size))
        clear hC hbq
        have hbz := H0.out
        go_wp2
        go_ret
        exact ⟨rfl, hbz⟩
      have e5 : decide ((100 : Int) < (pre.size : Int)) = false := decide_eq_false hg
      clear hg
      have hC := made15_any S A len cap K w1 (HV0.out.1.below H0.out) (by omega) HS.out
      go_wp2_with fail
      refine hC.mono ?_
      rintro e w2 ⟨u, R, n, c, xs, rfl, hM, hbq⟩
      replace H0 := Lib.hid (H0.out.trans (hbq.mono H0.out.size))
      have HI := Lib.hid hM
      clear hM
      clear hC hbq
      have HF := Lib.hid (runK_fit K (show len ≤ 100 by omega))
      have HT := Lib.hid (show Idx.Wf (runK K len) ∧ (runK K len).length ≤ 40 ∧ Idx.tot (runK K len) ≤ 40 * 40 from ⟨(runK_ok K len).1, Nat.le_trans (runK_ok K len).2.1 h40, Nat.le_trans (runK_ok K len).2.2 (Nat.mul_le_mul h40 h40)⟩)
      obtain ⟨l, hl⟩ : ∃ l, runK K len = l := ⟨_, rfl⟩
      rw [hl] at HI HF HT
      clear hl
      have HG := Lib.hid (show w.heap.size ≤ w2.heap.size from H0.out.size)
      obtain ⟨W3, hW⟩ : ∃ W, w2.alloc (.cells #[.pointer u] 32) = W := ⟨_, rfl⟩
      have hbq : Below w2.heap.size w2 W3 := by rw [← hW]; exact (Below.refl _ _).alloc (Nat.le_refl _) _
      have hrq : Box W3 w2.heap.size u := by rw [← hW]; exact heap_alloc_new _ _
      have HW := Lib.hid hW
      clear hW
      replace H0 := Lib.hid (H0.out.trans (hbq.mono H0.out.size))
      replace HI := Lib.hid (HI.out.below hbq)
      have HX := Lib.hid hrq
      clear hbq hrq
      go_upto_region 4 with fail
      rw [HW.out]
      clear HW
      have hn40 : n ≤ 40 := by have h1 := HI.out.dx.len; have h2 := HT.out.2.1; rw [← HI.out.e] at h2; unfold khs at h2; rw [List.length_map] at h2; omega
      have HN40 := Lib.hid hn40
      go_wp2_with fail
      go_loopw [12, 49] (fun v12 v49 wr => ∃ (k : Nat) (r : Int), k ≤ n ∧ v49 = .int .i64 (k : Int) ∧ v12 = .int .i64 r ∧ Below W3.heap.size W3 wr) (fun _ v49 _ => n - (intOf v49).toNat)
      case atStart => exact ⟨0, 0, Nat.zero_le _, rfl, rfl, Below.refl _ _⟩
      case round =>
        obtain ⟨k, r, hk, rfl, rfl, hb⟩ := hrel
        have HB := Lib.hid hb
        clear hb
        by_cases hlt : k < n
        · have l1 : decide ((k : Int) < (n : Int)) = true := decide_eq_true (by omega)
          have k4 : (k : Int) < (n : Int) := by omega
          obtain ⟨g, off, hR, hg0, d0, d1⟩ := (HI.out.dx.below HB.out).at_ k hlt
          subst hR
          clear d0 hg0
          obtain ⟨x, hx⟩ : ∃ x, xs[k]'(by rw [HI.out.dx.len]; exact hlt) = x := ⟨_, rfl⟩
          have hxm : x ∈ xs := by rw [← hx]; exact List.getElem_mem _
          rw [hx] at d1
          have hne : x.h ≠ [] := HT.out.1.some x.kh (by rw [← HI.out.e]; exact List.mem_map.2 ⟨x, hxm, rfl⟩)
          have hpos : 0 < x.h.length := List.length_pos_iff.2 hne
          have hxt : x.h.length ≤ 1600 := Nat.le_trans (tot_mem (l := l) (p := x.kh) (by rw [← HI.out.e]; exact List.mem_map.2 ⟨x, hxm, rfl⟩)) HT.out.2.2
          obtain ⟨g3, off3, eB, hg3, hvv⟩ := ((HI.out.dx.below HB.out).vs x hxm).2 hpos
          have d2 := (hvv (x.h.length - 1) (by omega)).1
          rw [eB] at d1
          clear hvv hg3 eB hne hx hxm
          obtain ⟨rv, hrv⟩ : ∃ rv, (x.h[x.h.length - 1]'(by omega)).r = rv := ⟨_, rfl⟩
          rw [hrv] at d2
          clear hrv
          obtain ⟨hl, hhl⟩ : ∃ hl, x.h.length = hl := ⟨_, rfl⟩
          rw [hhl] at d1 d2 hpos hxt
          clear hhl
          obtain ⟨c3, hc3⟩ : ∃ c3, x.c = c3 := ⟨_, rfl⟩
          rw [hc3] at d1
          clear hc3
          have k3 : IntKind.i64.wrap ((hl : Int) - 1) = ((hl - 1 : Nat) : Int) := by rw [IntWalk.i64_in _ (by omega)]; omega
          have k5 : ((hl - 1 : Nat) : Int) < (hl : Int) := by omega
          generalize hl - 1 = j at *
          go_upto_region 10 with fail
          refine wp_region_held_drew (S := (fun w' => w'.cell? ⟨g, off + k * 2 + 1, none⟩ = some (.slice (some ⟨g3, off3, none⟩) hl c3) ∧ w'.cell? ⟨g3, off3 + j * 7, none⟩ = some (.int .i64 rv))) (by kernel_rfl) ⟨d1, d2⟩ (fun hHeld => ?_)
          refine lsq 18 ?_
          refine tkq 0 ?_
          refine tkq 1 ?_
          refine tkq 2 ?_
          refine tkq 3 ?_
          refine tkq 4 ?_
          refine tkq 5 ?_
          refine tkq 6 ?_
          refine tkq 7 ?_
          refine tkq 8 ?_
          refine tkq 9 ?_
          refine tkq 10 ?_
          refine tkq 11 ?_
          refine tkq 12 ?_
          refine tkq 13 ?_
          refine tkq 14 ?_
          refine tkq 15 ?_
          refine tkq 16 ?_
          refine tkq 17 ?_
          refine dnq ?_
          clear hHeld d1 d2
          go_wp2
          go_roundw
          case rel => exact ⟨k + 1, _, by omega, by go_num, rfl, HB.out.drew⟩
          case measure =>
            simp [intOf]
            omega
        · obtain rfl : n = k := by omega
          have l1 : decide ((n : Int) < (n : Int)) = false := decide_eq_false (by omega)
          have hC := behindR15_any R n c xs pre ⟨#[]⟩ r 1000 wr ((HI.out.below HB.out).g HF.out) HPZ.out.1
          rw [HI.out.e] at hC
          go_wp2_with fail
          refine hC.mono ?_
          rintro e wW ⟨R2, m2, c2, rfl, hO, hm2, hbq⟩
          clear hC
          have hBH : Idx.behindI l pre ⟨#[]⟩ r 1000 = (Idx.itemsI l r (Idx.behB pre ⟨#[]⟩), true) := by
            unfold Idx.behindI
            have h1 := Idx.items_len l r (Idx.behB pre ⟨#[]⟩)
            have h2 := HT.out.2.1
            rw [List.take_of_length_le (by show _ ≤ 1000; omega), decide_eq_true (by show _ ≤ 1000; omega)]
          have hI40 : (Idx.itemsI l r (Idx.behB pre ⟨#[]⟩)).length ≤ 40 := Nat.le_trans (Idx.items_len l r _) HT.out.2.1
          rw [hBH] at hO
          dsimp only at hO
          clear hBH hm2
          obtain ⟨I, hI⟩ : ∃ I, Idx.itemsI l r (Idx.behB pre ⟨#[]⟩) = I := ⟨_, rfl⟩
          rw [hI] at hO hI40
          have HII := Lib.hid (And.intro hI.symm hI40)
          clear hI hI40
          have hbW := HB.out.trans (hbq.mono HB.out.size)
          have HQ0 := Lib.hid (show Pq w wW wW w2.heap.size I R2 m2 u R n c xs l none 0 0 [] from ⟨(HI.out.below hbW).q, HX.out.below hbW, H0.out.trans (hbW.mono H0.out.size), OwnR.none _ _ _ _, hO.sp.items⟩)
          have HM0 := Lib.hid (show Pm l r I 0 l 0 ⟨#[]⟩ from ⟨HT.out.1, HT.out.2.1, HT.out.2.2, fun _ => rfl, Nat.le_refl _, .inl ⟨rfl, rfl⟩⟩)
          have HWW := Lib.hid (show (∀ q, blk R2 q → I ≠ [] → q < wW.heap.size) ∧ w.heap.size ≤ wW.heap.size from ⟨fun q hq _ => hO.sp.lt hq, Nat.le_trans H0.out.size hbW.size⟩)
          clear hbW hbq hO hk hlt
          have hmd : (mo : Int) % 8 = ((mo % 8 : Nat) : Int) := by omega
          have hm8 : mo % 8 < 8 := Nat.mod_lt _ (by omega)
          obtain ⟨m8, h8⟩ : ∃ m8, mo % 8 = m8 := ⟨_, rfl⟩
          rw [h8] at hmd hm8
          have HMD := Lib.hid (And.intro hmd hm8)
          obtain ⟨mst, hmst⟩ : ∃ mst, 1 + m8 = mst := ⟨_, rfl⟩
          have HMS := Lib.hid hmst
          clear hmst
          clear hmd hm8 h8
          go_wp2_with fail
          go_loopw [10, 11, 16, 17, 77] (fun v10 v11 v16 v17 v77 wr => ∃ (k : Nat), k ≤ 100 ∧ v77 = .int .i64 (k : Int) ∧ v11 = .bool true ∧ ∃ R n c, v10 = .slice R n c ∧ ∃ Rg ng cg, v16 = .slice Rg ng cg ∧ ∃ aft, v17 = .string aft ∧ ∃ u xs lk p, Pm l r I k lk p aft ∧ Pq w wW wr w2.heap.size I R2 m2 u R n c xs lk Rg ng cg (I.take p) ∧ wW.heap.size ≤ wr.heap.size) (fun _ _ _ _ v77 _ => 100 - (intOf v77).toNat)
          case atStart => exact ⟨0, Nat.zero_le _, rfl, rfl, R, n, c, rfl, none, 0, 0, rfl, ⟨#[]⟩, rfl, u, xs, l, 0, HM0.out, HQ0.out, Nat.le_refl _⟩
          case round =>
            obtain ⟨k, hk, rfl, rfl, Ra, na, ca, rfl, Rg, ng, cg, rfl, aft, rfl, ua, xa, lk, p, hPm, hPq, hsz⟩ := hrel
            have HM := Lib.hid hPm
            have HQ := Lib.hid hPq
            have HSZ := Lib.hid hsz
            clear hPm hPq hsz
            have hk40 := HM.out.k40 HII.out.2
            by_cases hlt : k < 100
            · have l1 : decide ((k : Int) < 100) = true := decide_eq_true (by omega)
              have HFk := Lib.hid (HM.out.fit HII.out.2)
              have hC := S.behind ua lk pre aft r (mst : Int) wr HQ.out.q.both.ix HFk.out HPZ.out.1 (HM.out.small HT.out.1 HII.out.1)
              rw [HM.out.page HT.out.1 HII.out.1 mst] at hC
              dsimp only at hC
              have bX := HQ.out.box.cell
              have v1 := HMD.out.1
              have v1 := HMD.out.1
              have v3 : IntKind.i64.wrap (m8 : Int) = (m8 : Int) := IntWalk.i64_in _ (by have := HMD.out.2; omega)
              have v4 : IntKind.i64.wrap (1 + (m8 : Int)) = (mst : Int) := by rw [IntWalk.i64_in _ (by have := HMD.out.2; omega)]; have := HMS.out; omega
              go_wp2_with fail
              refine hC.mono ?_
              rintro e w3 ⟨R3, n3, c3, rfl, hO, hbq⟩
              clear hC bX v1 v3 v4
              have HO := Lib.hid hO
              have HQ3 := Lib.hid (HQ.out.called hbq)
              have HS3 := Lib.hid (Nat.le_trans HSZ.out hbq.size)
              have HLT := Lib.hid (show ∀ q, blk Rg q → q < wr.heap.size from fun q hq => HQ.out.got.sp.lt hq)
              clear hO hbq
              have hng : ng ≤ 40 := by have h1 := HQ.out.got.sp.items.1; rw [List.length_take] at h1; have h2 := HII.out.2; omega
              have hn3 : n3 ≤ 40 := by have h1 := HO.out.sp.items.1; rw [List.length_take, List.length_drop] at h1; have h2 := HII.out.2; omega
              by_cases hd : (I.drop p).length ≤ mst
              · have e6 : decide ((I.drop p).length ≤ mst) = true := decide_eq_true hd
                rw [e6]
                go_wp2_with (at_builtin
                             go_loud (refine wpList_append_sp elem_item _ rfl _ _ rfl Rg ng cg (rowI (I.take p)) rfl (HQ3.out.got.sp.keep fun q hq => (show Below w3.heap.size w3 _ from (by repeat (first | exact Below.refl _ _ | apply Below.drew | apply below_drewN))).block q (HQ3.out.got.sp.lt hq)) R3 n3 c3 (rowI ((I.drop p).take mst)) rfl (fun e => by rcases Nat.eq_zero_or_pos n3 with h1 | h1; exact h1; obtain ⟨_, _, e2, _⟩ := HO.out.sp.items.2 0 (by have := HO.out.sp.items.1; omega); rw [e] at e2; cases e2) HO.out.sp.1 (fun v hv => by obtain ⟨x, _, hx⟩ := List.mem_flatMap.1 hv; exact itemC_one x v hx) (fun b e => (HO.out.sp.keep fun q hq => (show Below w3.heap.size w3 _ from (by repeat (first | exact Below.refl _ _ | apply Below.drew | apply below_drewN))).block q (HO.out.sp.lt hq)).cells e) (by omega) ?_)
                             intro A8 cq8 w8 hsp8 hA8 hg8
                             have HP := Lib.hid (HQ3.out.grown HFk.out HWW.out.2 HWW.out.1 (show Below w3.heap.size w3 _ from (by repeat (first | exact Below.refl _ _ | apply Below.drew | apply below_drewN))) hg8 hsp8 hA8 HS3.out)
                             have HS8 := Lib.hid (Nat.le_trans HS3.out (Nat.le_trans (show Below w3.heap.size w3 _ from (by repeat (first | exact Below.refl _ _ | apply Below.drew | apply below_drewN))).size hg8.size))
                             have heq : I.take p ++ ((I.drop p).take mst) = I := by rw [List.take_of_length_le hd, List.take_append_drop]
                             have hC := same_items (c1 := cq8) (c2 := c2) HP.out.got.sp.items HP.out.want heq (by rw [heq]; have := HII.out.2; omega))
                refine hC.mono ?_
                rintro e w9 ⟨rfl, hbq⟩
                have hbz := HP.out.b.trans (hbq.mono HP.out.b.size)
                clear hC
                go_wp2
                go_ret
                exact ⟨rfl, hbz⟩
              · have e6 : decide ((I.drop p).length ≤ mst) = false := decide_eq_false hd
                rw [e6]
                have hpl : mst - 1 < ((I.drop p).take mst).length := by rw [List.length_take]; have := HMS.out; omega
                obtain rfl : mst = n3 := by have h1 := HO.out.sp.items.1; rw [List.length_take] at h1; omega
                have e7 : ((mst : Int) == 0) = false := beq_eq_false_iff_ne.2 (by have := HMS.out; omega)
                have k3 : IntKind.i64.wrap ((mst : Int) - 1) = ((mst - 1 : Nat) : Int) := by have := HMS.out; rw [IntWalk.i64_in _ (by omega)]; omega
                have k4 : ((mst - 1 : Nat) : Int) < (mst : Int) := by have := HMS.out; omega
                have HMo := Lib.hid (HM.out.more (show 1 ≤ mst by have := HMS.out; omega) hd hpl)
                go_upto_region 20 with (at_builtin
                                        go_loud (refine wpList_append_sp elem_item _ rfl _ _ rfl Rg ng cg (rowI (I.take p)) rfl (HQ3.out.got.sp.keep fun q hq => (show Below w3.heap.size w3 _ from (by repeat (first | exact Below.refl _ _ | apply Below.drew | apply below_drewN))).block q (HQ3.out.got.sp.lt hq)) R3 mst c3 (rowI ((I.drop p).take mst)) rfl (fun e => by rcases Nat.eq_zero_or_pos mst with h1 | h1; exact h1; obtain ⟨_, _, e2, _⟩ := HO.out.sp.items.2 0 (by have := HO.out.sp.items.1; omega); rw [e] at e2; cases e2) HO.out.sp.1 (fun v hv => by obtain ⟨x, _, hx⟩ := List.mem_flatMap.1 hv; exact itemC_one x v hx) (fun b e => (HO.out.sp.keep fun q hq => (show Below w3.heap.size w3 _ from (by repeat (first | exact Below.refl _ _ | apply Below.drew | apply below_drewN))).block q (HO.out.sp.lt hq)).cells e) (by omega) ?_)
                                        intro A8 cq8 w8 hsp8 hA8 hg8
                                        have HP := Lib.hid (HQ3.out.grown HFk.out HWW.out.2 HWW.out.1 (show Below w3.heap.size w3 _ from (by repeat (first | exact Below.refl _ _ | apply Below.drew | apply below_drewN))) hg8 hsp8 hA8 HS3.out)
                                        have HS8 := Lib.hid (Nat.le_trans HS3.out (Nat.le_trans (show Below w3.heap.size w3 _ from (by repeat (first | exact Below.refl _ _ | apply Below.drew | apply below_drewN))).size hg8.size))
                                        have hit : ItemsR w8 R3 mst ((I.drop p).take mst) := (HO.out.sp.keep fun q hq => (hg8.block q (Nat.lt_of_lt_of_le (HO.out.sp.lt hq) (show Below w3.heap.size w3 _ from (by repeat (first | exact Below.refl _ _ | apply Below.drew | apply below_drewN))).size) (fun e => by have h1 := HO.out.new q hq; have h2 := HLT.out q e; omega)).trans ((show Below w3.heap.size w3 _ from (by repeat (first | exact Below.refl _ _ | apply Below.drew | apply below_drewN))).block q (HO.out.sp.lt hq))).items)
                obtain ⟨g9, off9, hR3, hg9, d0, hre⟩ := hit.2 (mst - 1) hpl
                clear hre hg9
                subst hR3
                obtain ⟨ka, hka⟩ : ∃ ka, (((I.drop p).take mst)[mst - 1]'hpl).1 = ka := ⟨_, rfl⟩
                rw [hka] at d0 HMo
                clear hka hit hsp8 hA8 hg8
                obtain ⟨j9, hj9⟩ : ∃ j9, mst - 1 = j9 := ⟨_, rfl⟩
                rw [hj9] at d0 k3 k4
                clear hj9 hpl
                by_cases hib : k < bl
                · have e8 : decide ((k : Int) < (bl : Int)) = true := decide_eq_true (by omega)
                  have k6 : (k : Int) < (bl : Int) := by omega
                  obtain ⟨g, off, rfl, c0, c1, c2, c3, c4, c5, c6, c7, c8, c9, c10, c11, c12, c13⟩ := (HV0.out.2.2.1.below HP.out.b).cells hib
                  have HC := Lib.hid (show ∀ W : World, Below w.heap.size w W → (fun w' => w'.cell? ⟨g, off + k * 14, none⟩ = some (.int .u8 ((K2 k).kind : Int)) ∧ w'.cell? ⟨g, off + k * 14 + 1, none⟩ = some (.string (K2 k).k) ∧ w'.cell? ⟨g, off + k * 14 + 2, none⟩ = some (.string (K2 k).e) ∧ w'.cell? ⟨g, off + k * 14 + 3, none⟩ = some (.int .i64 (K2 k).r) ∧ w'.cell? ⟨g, off + k * 14 + 4, none⟩ = some (.int .i64 (K2 k).m) ∧ w'.cell? ⟨g, off + k * 14 + 5, none⟩ = some (.string (K2 k).s) ∧ w'.cell? ⟨g, off + k * 14 + 6, none⟩ = some (.int .i64 (K2 k).l) ∧ w'.cell? ⟨g, off + k * 14 + 7, none⟩ = some (.int .i64 (K2 k).v.r) ∧ w'.cell? ⟨g, off + k * 14 + 8, none⟩ = some (.int .i64 (K2 k).v.k) ∧ w'.cell? ⟨g, off + k * 14 + 9, none⟩ = some (.int .i64 (K2 k).v.m) ∧ w'.cell? ⟨g, off + k * 14 + 10, none⟩ = some (.int .i64 (K2 k).v.v) ∧ w'.cell? ⟨g, off + k * 14 + 11, none⟩ = some (.string (K2 k).v.s) ∧ w'.cell? ⟨g, off + k * 14 + 12, none⟩ = some (.int .i64 (K2 k).v.l) ∧ w'.cell? ⟨g, off + k * 14 + 13, none⟩ = some (.bool (K2 k).v.g)) W from fun W hW => by
                    obtain ⟨g', off', e', c0', c1', c2', c3', c4', c5', c6', c7', c8', c9', c10', c11', c12', c13'⟩ := (HV0.out.2.2.1.below hW).cells hib
                    injection e' with e'
                    injection e' with e1 e2
                    subst e1 e2
                    exact ⟨c0', c1', c2', c3', c4', c5', c6', c7', c8', c9', c10', c11', c12', c13'⟩)
                  by_cases hkd : (K2 k).kind < 2
                  · have e9 : decide (((K2 k).kind : Int) < 2) = true := decide_eq_true (by omega)
                    by_cases hrk : r < (K2 k).r
                    · have e10 : decide (r < (K2 k).r) = true := decide_eq_true hrk
                      have hD := do15Q_any S SP A8 ua Ra na ca xa lk (K2 k) w8.drew (HP.out.q.below (Below.refl _ _).drew) HFk.out (HS2.out k hib) hkd
                      dsimp only [iactV, ixV] at hD
                      have bx := HP.out.box.cell
                      go_upto_region 26 with fail
                      refine wp_region_held_drew (S := (fun w' => w'.cell? ⟨g, off + k * 14, none⟩ = some (.int .u8 ((K2 k).kind : Int)) ∧ w'.cell? ⟨g, off + k * 14 + 1, none⟩ = some (.string (K2 k).k) ∧ w'.cell? ⟨g, off + k * 14 + 2, none⟩ = some (.string (K2 k).e) ∧ w'.cell? ⟨g, off + k * 14 + 3, none⟩ = some (.int .i64 (K2 k).r) ∧ w'.cell? ⟨g, off + k * 14 + 4, none⟩ = some (.int .i64 (K2 k).m) ∧ w'.cell? ⟨g, off + k * 14 + 5, none⟩ = some (.string (K2 k).s) ∧ w'.cell? ⟨g, off + k * 14 + 6, none⟩ = some (.int .i64 (K2 k).l) ∧ w'.cell? ⟨g, off + k * 14 + 7, none⟩ = some (.int .i64 (K2 k).v.r) ∧ w'.cell? ⟨g, off + k * 14 + 8, none⟩ = some (.int .i64 (K2 k).v.k) ∧ w'.cell? ⟨g, off + k * 14 + 9, none⟩ = some (.int .i64 (K2 k).v.m) ∧ w'.cell? ⟨g, off + k * 14 + 10, none⟩ = some (.int .i64 (K2 k).v.v) ∧ w'.cell? ⟨g, off + k * 14 + 11, none⟩ = some (.string (K2 k).v.s) ∧ w'.cell? ⟨g, off + k * 14 + 12, none⟩ = some (.int .i64 (K2 k).v.l) ∧ w'.cell? ⟨g, off + k * 14 + 13, none⟩ = some (.bool (K2 k).v.g))) (by kernel_rfl) (HC.out _ HP.out.b.drew) (fun hHeld => ?_)
                      clear c0 c1 c2 c3 c4 c5 c6 c7 c8 c9 c10 c11 c12 c13
                      refine lsq 14 ?_
                      refine tkq 1 ?_
                      refine tkq 2 ?_
                      refine tkq 3 ?_
                      refine tkq 4 ?_
                      refine tkq 5 ?_
                      refine rdq1 0 fun KK hK => ?_
                      go_simp
                      refine hK.out _ _ (HC.out _ HP.out.b.drew) ?_
                      clear hK KK hHeld
                      intro hHeld
                      try simp only [lpq]
                      clear bx
                      refine rdq1 6 fun KK hK => ?_
                      go_simp
                      refine hD.mono ?_
                      rintro e w5 ⟨u1, R1, n1, c1, xs1, rfl, hM1, hbq⟩
                      have HB5 := Lib.hid (show Below w8.heap.size w8 w5 from ⟨hbq.os, hbq.tape, hbq.output, hbq.size, hbq.block⟩)
                      have HP5 := Lib.hid (HP.out.called HB5.out)
                      have HM1 := Lib.hid hM1
                      refine hK.out _ _ (HC.out _ HP5.out.b) ?_
                      clear hK KK hHeld
                      intro hHeld
                      try simp only [lpq]
                      clear hD hM1 hbq
                      refine tkq 7 ?_
                      refine tkq 8 ?_
                      refine tkq 9 ?_
                      refine tkq 10 ?_
                      refine rdq1 11 fun KK hK => ?_
                      rw [if_pos]
                      rotate_left
                      · rfl
                      refine wp_store_row 32 _ _ rfl w2.heap.size #[.pointer u1] (by rfl) (by rfl) _ _ HP5.out.box (by kernel_rfl) rfl (by first | rfl | kernel_rfl) ?_
                      have HP6 := Lib.hid (HP.out.acted HB5.out HM1.out HG.out)
                      have HS6 := Lib.hid (show wW.heap.size ≤ (w5.setRow w2.heap.size #[.pointer u1]).heap.size from by rw [setRow_size]; exact Nat.le_trans HS8.out HB5.out.size)
                      refine hK.out _ _ (HC.out _ HP6.out.b) ?_
                      clear hK KK hHeld
                      intro hHeld
                      try simp only [lpq]
                      refine tkq 12 ?_
                      refine tkq 13 ?_
                      refine dnq ?_
                      clear hHeld
                      obtain ⟨W7, hW7⟩ : ∃ W7, w5.setRow w2.heap.size #[.pointer u1] = W7 := ⟨_, rfl⟩
                      rw [hW7] at HP6 HS6 ⊢
                      clear hW7 HP5
                      have HM6 := Lib.hid (HM.out.act (k' := 0) hkd hrk HMo.out)
                      go_wp2
                      go_roundw
                      case rel => exact ⟨k + 1, by omega, by go_num, rfl, R1, n1, c1, rfl, A8, ng + mst, cq8, rfl, ka, rfl, u1, xs1, Idx.doI lk (K2 k), p + mst, HM6.out, by rw [List.take_add]; exact HP6.out, HS6.out⟩
                      case measure =>
                        simp [intOf]
                        omega
                    · have e10 : decide (r < (K2 k).r) = false := decide_eq_false hrk
                      go_wp2
                      go_roundw
                      case rel => exact ⟨k + 1, by omega, by go_num, rfl, Ra, na, ca, rfl, A8, ng + mst, cq8, rfl, ka, rfl, ua, xa, lk, p + mst, HMo.out, by rw [List.take_add]; exact HP.out, HS8.out⟩
                      case measure =>
                        simp [intOf]
                        omega
                  · have e9 : decide (((K2 k).kind : Int) < 2) = false := decide_eq_false (by omega)
                    go_wp2
                    go_roundw
                    case rel => exact ⟨k + 1, by omega, by go_num, rfl, Ra, na, ca, rfl, A8, ng + mst, cq8, rfl, ka, rfl, ua, xa, lk, p + mst, HMo.out, by rw [List.take_add]; exact HP.out, HS8.out⟩
                    case measure =>
                      simp [intOf]
                      omega
                · have e8 : decide ((k : Int) < (bl : Int)) = false := decide_eq_false (by omega)
                  go_wp2
                  go_roundw
                  case rel => exact ⟨k + 1, by omega, by go_num, rfl, Ra, na, ca, rfl, A8, ng + mst, cq8, rfl, ka, rfl, ua, xa, lk, p + mst, HMo.out, by rw [List.take_add]; exact HP.out, HS8.out⟩
                  case measure =>
                    simp [intOf]
                    omega
            · exact absurd hlt (by omega)


end Go.Proofs.Ytcoddkbbgmjckaa

namespace Go.Proofs.Ytcoddkbbgmjckaa
open Go.RowKit
set_option linter.unusedVariables false

theorem saysP : SaysP where
  put P u l k r m s le w hI hF hk := by
    obtain ⟨t, hT, rfl⟩ := ixpP_iff.1 hI
    exact putI_any u t k r m s le w hT hF hk
  del P u l a b r m w hI hF ha hb := by
    obtain ⟨t, hT, rfl⟩ := ixpP_iff.1 hI
    exact delI_any u t a b r m w hT hF ha hb
end Go.Proofs.Ytcoddkbbgmjckaa

namespace Go.Proofs.Ytcoddkbbgmjckaa.indexPages
open Go.ChangeShapes Go.WideShapes Go.ChangeAt Go.RowKit Go.Proofs.Ytcoddkbbgmjckaa
set_option linter.unusedVariables false
set_option linter.unusedSimpArgs false

theorem own : ownKnob Try.prog.godebug = none := by kernel_rfl

set_option maxRecDepth 100000 in
theorem lifted (os : Os) (started : os.Started) (H : Type) (enc : TypeId × Value → H) :
    ReturnsInHanded {} Try.checked os 6 .any (Rows.indexPagesSpec.pre6 enc Try.prog Try.f6 Rows.indexPagesRow.domain false) (Rows.indexPagesSpec.post enc Try.prog Try.f6 false true false false) := by
  refine returnsInHanded_of_change (C := Try.checked) own started (by kernel_rfl) Try.func6
    (ChangeSpec.witness6 (enc := enc) (C := Try.checked) false ⟨#[], #[.slice none 0 0, .slice none 0 0, .string ⟨#[]⟩, .int .u8 0], []⟩ 8 (by kernel_rfl) (by kernel_rfl) (by kernel_rfl) (by kernel_rfl)) ?_
  intro W base args ds gs before hval0 hW hcnd _
  have hval : ∀ (j : Nat) t v, Try.f6.params[j]? = some t → args[j]? = some v → Value.okWide Try.prog W .any base t v := hval0
  have hW' := hW
  obtain ⟨p, q, hA0, hV, rfl, hfz, hnd⟩ := hW
  have hA : DataW.TrodAll enc Try.prog W 0 (fun _ => true) true Try.f6.params.toList args.toList ds p := hA0
  rw [Try.params6] at hA hval
  obtain ⟨v0, vs0, d0, ds0, p0, q0, hargs, rfl, rfl, h0, r0⟩ := trodAll_cons hA
  obtain ⟨v1, vs1, d1, ds1, p1, q1, rfl, rfl, rfl, h1, r1⟩ := trodAll_cons r0
  obtain ⟨v2, vs2, d2, ds2, p2, q2, rfl, rfl, rfl, h2, r2⟩ := trodAll_cons r1
  obtain ⟨v3, vs3, d3, ds3, p3, q3, rfl, rfl, rfl, h3, r3⟩ := trodAll_cons r2
  obtain ⟨rfl, rfl, rfl⟩ := trodAll_nil r3
  obtain rfl : args = #[v0, v1, v2, v3] := by cases args; simp_all
  obtain ⟨rfl, rfl⟩ := trodVars_none hV
  obtain ⟨A0, len0, cap0, K0, rfl, hlc0, hm0, ha0, hw0⟩ := arg_iacts (hval 0 26 v0 rfl rfl) h0 (fun x hx => hW'.lt x (by simp [hx]))
  obtain ⟨A1, len1, cap1, K1, rfl, hlc1, hm1, ha1, hw1⟩ := arg_iacts (hval 1 26 v1 rfl rfl) h1 (fun x hx => hW'.lt x (by simp [hx]))
  obtain ⟨s2, rfl, rfl, rfl, ws2⟩ := ChangeMaps.open_string Try.underlying9 (hval 2 9 v2 rfl rfl) h2
  obtain ⟨a3, rfl, rfl, rfl, w3⟩ := open_int Try.underlying5 (hval 3 5 v3 rfl rfl) h3
  have x3 := wf_u8' w3
  obtain ⟨mo, hmo, rfl⟩ : ∃ mo : Nat, mo < 256 ∧ a3 = (mo : Int) := ⟨a3.toNat, by omega, by omega⟩
  have fin : ∀ W', Below W.heap.size W W' → Rows.indexPagesSpec.post enc Try.prog Try.f6 false true false false W #[.slice A0 len0 cap0, .slice A1 len1 cap1, .string s2, .int .u8 (mo : Int)] (.bool true) W' :=
    fun W' hb => law_end (by kernel_rfl) (by decide +kernel) rfl rfl Try.underlying4 hW' rfl rfl rfl hb
  exact (indexPages_walk says saysP A0 len0 cap0 K0 A1 len1 cap1 K1 s2 mo W ha0 (Nat.le_trans hlc0 hm0) hw0 ha1 (Nat.le_trans hlc1 hm1) hw1 ws2 hmo).mono fun e W' ⟨he, hb⟩ => ⟨_, he, fin W' hb⟩

theorem over : Rows.indexPagesRow.holds Try.pinned (OpenSpec.ofChange Rows.indexPagesSpec) :=
  OpenClaim.holds_of_wide 6 Try.f6 rfl rfl rfl rfl rfl rfl rfl ⟨rfl, rfl, rfl, rfl, rfl⟩ rfl rfl rfl rfl rfl (by kernel_rfl) Try.func6 (by kernel_rfl)
    (of_decide_eq_true (by kernel_rfl)) (by unfold Func.isWrapper; first | (rw [if_pos (by decide +kernel)]; kernel_rfl) | (rw [if_neg (by decide +kernel)]; exact ⟨rfl, rfl⟩))
    (fun os started H enc _ => lifted os started H enc)

theorem proved : Rows.IndexPagesSaid := over


end Go.Proofs.Ytcoddkbbgmjckaa.indexPages
