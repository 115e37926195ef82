/- An act by the program and by the document: they answer alike. (Written by mkdo.py.) -/
import Derived.Test.YtcoddkbbgmjckaaBn19
import Derived.Test.YtcoddkbbgmjckaaBn13
import Derived.Test.YtcoddkbbgmjckaaBn20
namespace Go.Proofs.Ytcoddkbbgmjckaa
open Go.RowKit
set_option linter.unusedVariables false
set_option linter.unusedSimpArgs false
attribute [local go_sem] Oper.semAt_some

theorem row14 {w : World} {g : Nat} {v0 v1 v2 v3 v4 v5 v6 v7 v8 v9 v10 v11 v12 v13 : Value} {T : TypeId} (h : w.heap[g]? = some (.cells #[v0, v1, v2, v3, v4, v5, v6, v7, v8, v9, v10, v11, v12, v13] T)) :
    w.cell? ⟨g, 0, none⟩ = some v0 ∧ w.cell? ⟨g, 1, none⟩ = some v1 ∧ w.cell? ⟨g, 2, none⟩ = some v2 ∧ w.cell? ⟨g, 3, none⟩ = some v3 ∧ w.cell? ⟨g, 4, none⟩ = some v4 ∧ w.cell? ⟨g, 5, none⟩ = some v5 ∧ w.cell? ⟨g, 6, none⟩ = some v6 ∧ w.cell? ⟨g, 7, none⟩ = some v7 ∧ w.cell? ⟨g, 8, none⟩ = some v8 ∧ w.cell? ⟨g, 9, none⟩ = some v9 ∧ w.cell? ⟨g, 10, none⟩ = some v10 ∧ w.cell? ⟨g, 11, none⟩ = some v11 ∧ w.cell? ⟨g, 12, none⟩ = some v12 ∧ w.cell? ⟨g, 13, none⟩ = some v13 := by
  refine ⟨?_, ?_, ?_, ?_, ?_, ?_, ?_, ?_, ?_, ?_, ?_, ?_, ?_, ?_⟩ <;> simp [World.cell?, h]

theorem tot_mem {l : List Idx.KH} {p : Idx.KH} (h : p ∈ l) : p.2.length ≤ Idx.tot l := by
  unfold Idx.tot
  induction l with
  | nil => cases h
  | cons q l ih =>
    rw [List.map_cons, List.sum_cons]
    rcases List.mem_cons.1 h with rfl | h
    · omega
    · have := ih h
      omega

/-- An index by the program and by the document. -/
structure Both (w : World) (u A : Option Addr) (n cap : Nat) (xs : List KLay) (l : List Idx.KH) : Prop where
  ix : Ixp w u l
  dx : IxL w A n cap xs
  e : khs xs = l

section
variable {w w' : World} {u A : Option Addr} {n cap : Nat} {xs : List KLay} {l : List Idx.KH}
theorem Both.below (h : Both w u A n cap xs l) (hb : Below w.heap.size w w') : Both w' u A n cap xs l := ⟨h.ix.below hb, h.dx.below hb, h.e⟩
theorem Both.len (h : Both w u A n cap xs l) : l.length = n := by rw [← h.e, ← h.dx.len]; unfold khs; rw [List.length_map]
theorem Both.g (h : Both w u A n cap xs l) (hf : Fit l) : IxG w A n cap xs :=
  ⟨h.dx, by rw [h.e]; exact hf.wf, by rw [← h.len]; exact hf.n, fun x hx => Nat.le_trans (tot_mem (l := l) (p := x.kh) (by rw [← h.e]; exact List.mem_map.2 ⟨x, hx, rfl⟩)) hf.t⟩
theorem Both.store {g : Nat} {v : Option Addr} (h : Both w u A n cap xs l) (hb : Box w g v) (C : Array Value) : Both (w.setRow g C) u A n cap xs l := ⟨h.ix.store hb C, h.dx.store hb C, h.e⟩
end

theorem box_act {w : World} {g k : Nat} {u : Option Addr} {C D : Array Value} {T : TypeId} (hk : w.heap[k]? = some (.cells C T)) (hg : k ≠ g) : (w.setRow g D).heap[k]? = some (.cells C T) := (setRow_other w g k D hg).trans hk

set_option maxRecDepth 100000 in
set_option maxHeartbeats 6400000 in
theorem do15_any (S : Says) (u A : Option Addr) (n cap : Nat) (xs : List KLay) (l : List Idx.KH) (a : Idx.IAct) (w : World) (h : Both w u A n cap xs l) (hf : Fit l) (ha : Short a) :
    Calls Try.prog 21 #[ixV u, .slice A n cap, iactV a] w fun e w' => ∃ u' R m d ys, e = .returned (.tuple #[ixV u', .slice R m d, .bool true]) ∧ Both w' u' R m d ys (Idx.doI l a) ∧ Below w.heap.size w w' := by
  have hdo : Idx.doI l a = match (if a.kind = 0 then (Idx.putI l a.k a.r a.m a.s a.l).map fun o => (o, 0) else if a.kind = 1 then Idx.delI l a.k a.e a.r a.m else if a.kind = 2 then (Idx.addI l a.k a.v).map fun o => (o, 0) else if a.kind = 3 then some (Idx.dropI l a.k a.e, 0) else some (Idx.trimI l a.r, 0)) with | none => l | some o => o.1 := rfl
  have hak := Nat.le_trans ha.k (show 100 ≤ maxLen by unfold maxLen; decide)
  have hae := Nat.le_trans ha.e (show 100 ≤ maxLen by unfold maxLen; decide)
  obtain ⟨T, hT⟩ : ∃ T, Idx.doI l a = T := ⟨_, rfl⟩
  rw [hT] at hdo ⊢
  clear hT ha
  dsimp only [ixV, iactV]
  obtain ⟨W4, hW4⟩ : ∃ W4, (((w.alloc (.cells #[.pointer u] 32)).alloc (.cells #[.int .u8 (a.kind : Int), .string a.k, .string a.e, .int .i64 a.r, .int .i64 a.m, .string a.s, .int .i64 a.l, .int .i64 a.v.r, .int .i64 a.v.k, .int .i64 a.v.m, .int .i64 a.v.v, .string a.v.s, .int .i64 a.v.l, .bool a.v.g] 39)).alloc (.cells #[.pointer none] 32)).alloc (.cells #[.pointer u] 32) = W4 := ⟨_, rfl⟩
  have hs0 : (w.alloc (.cells #[.pointer u] 32)).heap.size = w.heap.size + 1 := by simp
  have hs1 : ((w.alloc (.cells #[.pointer u] 32)).alloc (.cells #[.int .u8 (a.kind : Int), .string a.k, .string a.e, .int .i64 a.r, .int .i64 a.m, .string a.s, .int .i64 a.l, .int .i64 a.v.r, .int .i64 a.v.k, .int .i64 a.v.m, .int .i64 a.v.v, .string a.v.s, .int .i64 a.v.l, .bool a.v.g] 39)).heap.size = w.heap.size + 2 := by simp
  have hs2 : (((w.alloc (.cells #[.pointer u] 32)).alloc (.cells #[.int .u8 (a.kind : Int), .string a.k, .string a.e, .int .i64 a.r, .int .i64 a.m, .string a.s, .int .i64 a.l, .int .i64 a.v.r, .int .i64 a.v.k, .int .i64 a.v.m, .int .i64 a.v.v, .string a.v.s, .int .i64 a.v.l, .bool a.v.g] 39)).alloc (.cells #[.pointer none] 32)).heap.size = w.heap.size + 3 := by simp
  have HB := Lib.hid (show Below w.heap.size w W4 by rw [← hW4]; exact ((((Below.refl _ _).alloc (Nat.le_refl _) _).alloc (by simp <;> omega) _).alloc (by simp <;> omega) _).alloc (by simp <;> omega) _)
  have HX := Lib.hid (show Box W4 w.heap.size u by rw [← hW4]; exact (Below.heap_alloc _ _ _ (by simp <;> omega)).trans ((Below.heap_alloc _ _ _ (by simp <;> omega)).trans ((Below.heap_alloc _ _ _ (by simp <;> omega)).trans (heap_alloc_new w _))))
  have HA := Lib.hid (show W4.heap[w.heap.size + 1]? = some (.cells #[.int .u8 (a.kind : Int), .string a.k, .string a.e, .int .i64 a.r, .int .i64 a.m, .string a.s, .int .i64 a.l, .int .i64 a.v.r, .int .i64 a.v.k, .int .i64 a.v.m, .int .i64 a.v.v, .string a.v.s, .int .i64 a.v.l, .bool a.v.g] 39) by rw [← hW4]; refine (Below.heap_alloc _ _ _ (by simp <;> omega)).trans ((Below.heap_alloc _ _ _ (by simp <;> omega)).trans ?_); rw [← hs0]; exact heap_alloc_new _ _)
  have HR := Lib.hid (show Box W4 (w.heap.size + 2) none by rw [← hW4]; refine (Below.heap_alloc _ _ _ (by simp <;> omega)).trans ?_; rw [← hs1]; exact heap_alloc_new _ _)
  have HY := Lib.hid (show Box W4 (w.heap.size + 3) u by rw [← hW4]; show _ = _; rw [← hs2]; exact heap_alloc_new _ _)
  have HI := Lib.hid (h.below HB.out)
  have HF := Lib.hid hf
  have HW := Lib.hid hW4
  clear hW4 hs0 hs1 hs2 h hf
  go_enter Try.func21, Try.ntmps21
  go_upto_region 3 with fail
  rw [HW.out]
  clear HW
  by_cases h0 : a.kind = 0
  · rw [if_pos h0] at hdo
    have l0 : ((a.kind : Int) == (0 : Int)) = true := by rw [h0]; rfl
    clear h0
    obtain ⟨o, ho⟩ : ∃ o, Idx.putI l a.k a.r a.m a.s a.l = o := ⟨_, rfl⟩
    have hP := S.put u l a.k a.r a.m a.s a.l W4 HI.out.ix HF.out hak
    have hQ := fun W (hW : Both W u A n cap xs l) => putR15_any A n cap xs a.k a.r a.m a.s a.l W (hW.g HF.out) hak
    rw [ho] at hP hdo
    have hQ : ∀ W, Both W u A n cap xs l → Calls _ _ _ W _ := fun W hW => by have := hQ W hW; rw [hW.e, ho] at this; exact this
    clear ho
    cases o with
    | none =>
      have HT := Lib.hid (show T = l from hdo)
      clear hdo
      have HQ0 := Lib.hid hQ
      clear hQ
      have bx := HX.out.cell
      obtain ⟨a0, a1, a2, a3, a4, a5, a6, a7, a8, a9, a10, a11, a12, a13⟩ := row14 HA.out
      dsimp only [Option.getD, Option.map] at hP
      rw [show Idx.errS (none : Option (List Idx.KH)) = 1 from rfl] at hP
      have hC := hP
      go_wp2_with fail
      refine hC.mono ?_
      rintro e w5 ⟨u1, rfl, hI1, hbq⟩
      clear bx a0 a1 a2 a3 a4 a5 a6 a7 a8 a9 a10 a11 a12 a13
      replace HB := Lib.hid (HB.out.trans (hbq.mono HB.out.size))
      replace HX := Lib.hid (HX.out.below hbq)
      replace HY := Lib.hid (HY.out.below hbq)
      replace HR := Lib.hid (HR.out.below hbq)
      replace HA := Lib.hid ((hbq.block _ (hlt HA.out)).trans HA.out)
      replace HI := Lib.hid (HI.out.below hbq)
      clear hC hbq
      clear hP
      have HQ := Lib.hid hI1
      clear hI1
      go_upto_region 7 with (refine wpList_store_row rfl _ _ _ rfl (w.heap.size + 3) #[.pointer u1] (by rfl) (by rfl) _ _ HY.out (by kernel_rfl) rfl (by first | rfl | kernel_rfl) ?_)
      obtain ⟨W6, hW⟩ : ∃ W, w5.setRow (w.heap.size + 3) #[.pointer u1] = W := ⟨_, rfl⟩
      rw [hW]
      replace HB := Lib.hid (show Below w.heap.size w W6 by rw [← hW]; exact below_setRow HB.out (by omega) _)
      replace HX := Lib.hid (show Box W6 w.heap.size u by rw [← hW]; exact HX.out.far (by omega) _)
      replace HR := Lib.hid (show Box W6 (w.heap.size + 2) none by rw [← hW]; exact HR.out.far (by omega) _)
      replace HA := Lib.hid (show W6.heap[w.heap.size + 1]? = some (.cells #[.int .u8 (a.kind : Int), .string a.k, .string a.e, .int .i64 a.r, .int .i64 a.m, .string a.s, .int .i64 a.l, .int .i64 a.v.r, .int .i64 a.v.k, .int .i64 a.v.m, .int .i64 a.v.v, .string a.v.s, .int .i64 a.v.l, .bool a.v.g] 39) by rw [← hW]; exact (setRow_other _ _ _ _ (by omega)).trans HA.out)
      replace HI := Lib.hid (by have q := HI.out.store HY.out #[.pointer u1]; rw [hW] at q; exact q)
      replace HQ := Lib.hid (by have q := HQ.out.store HY.out #[.pointer u1]; rw [hW] at q; exact q)
      replace HY := Lib.hid (show Box W6 (w.heap.size + 3) u1 by rw [← hW]; exact HY.out.stored _)
      clear hW
      have bx := HX.out.cell
      obtain ⟨a0, a1, a2, a3, a4, a5, a6, a7, a8, a9, a10, a11, a12, a13⟩ := row14 HA.out
      have hC := HQ0.out W6 HI.out
      go_wp2_with fail
      refine hC.mono ?_
      rintro e w7 ⟨R2, m2, d2, ys, rfl, hO2, hy2, hbq⟩
      clear bx a0 a1 a2 a3 a4 a5 a6 a7 a8 a9 a10 a11 a12 a13
      replace HB := Lib.hid (HB.out.trans (hbq.mono HB.out.size))
      replace HX := Lib.hid (HX.out.below hbq)
      replace HY := Lib.hid (HY.out.below hbq)
      replace HR := Lib.hid (HR.out.below hbq)
      replace HA := Lib.hid ((hbq.block _ (hlt HA.out)).trans HA.out)
      replace HI := Lib.hid (HI.out.below hbq)
      replace HQ := Lib.hid (HQ.out.below hbq)
      clear hC hbq
      clear hO2 hy2
      clear HQ0
      have hal := (HQ.out)
      have bx := HX.out.cell
      have bY := HY.out.cell
      have hC := S.all u1 [] w7 HQ.out fit_nil
      clear hal
      go_wp2_with fail
      refine hC.mono ?_
      rintro e w8 ⟨R9, m9, c9, xs9, rfl, hP9, hx9, hbq⟩
      clear bx bY
      replace HB := Lib.hid (HB.out.trans (hbq.mono HB.out.size))
      replace HX := Lib.hid (HX.out.below hbq)
      replace HY := Lib.hid (HY.out.below hbq)
      replace HR := Lib.hid (HR.out.below hbq)
      replace HA := Lib.hid ((hbq.block _ (hlt HA.out)).trans HA.out)
      replace HI := Lib.hid (HI.out.below hbq)
      replace HQ := Lib.hid (HQ.out.below hbq)
      clear hC hbq
      have hm9 : m9 = 0 := by
        have h1 := hP9.sp.1
        rw [rowK_len] at h1
        have h2 : xs9.length = 0 := by rw [← List.length_map (f := KLay.kh)]; exact congrArg List.length hx9
        omega
      subst hm9
      clear hP9 hx9
      have bx := HX.out.cell
      have bY := HY.out.cell
      have hZ := HR.out.stored u
      have hBz := below_setRow HB.out (g := w.heap.size + 2) (by omega) #[.pointer u]
      have hQ := (HI.out).store HR.out #[.pointer u]
      have HZ := Lib.hid (And.intro hZ (And.intro hBz hQ))
      clear hZ hBz hQ
      go_wp2_with (refine wpList_store_row rfl _ _ _ rfl (w.heap.size + 2) #[.pointer u] (by rfl) (by rfl) _ _ HR.out (by kernel_rfl) rfl (by first | rfl | kernel_rfl) ?_)
      refine bodyPost_ret (res_cell_tmp_tmp (n := w.heap.size + 2) rfl rfl HZ.out.1 Try.underlying32 rfl (by kernel_rfl)) rfl ?_
      exact ⟨u, A, n, cap, xs, rfl, by rw [HT.out]; exact HZ.out.2.2, HZ.out.2.1⟩
    | some o =>
      have HT := Lib.hid (show T = o from hdo)
      clear hdo
      have HQ0 := Lib.hid hQ
      clear hQ
      have bx := HX.out.cell
      obtain ⟨a0, a1, a2, a3, a4, a5, a6, a7, a8, a9, a10, a11, a12, a13⟩ := row14 HA.out
      dsimp only [Option.getD, Option.map] at hP
      rw [show Idx.errS (some o) = 0 from rfl] at hP
      have hC := hP
      go_wp2_with fail
      refine hC.mono ?_
      rintro e w5 ⟨u1, rfl, hI1, hbq⟩
      clear bx a0 a1 a2 a3 a4 a5 a6 a7 a8 a9 a10 a11 a12 a13
      replace HB := Lib.hid (HB.out.trans (hbq.mono HB.out.size))
      replace HX := Lib.hid (HX.out.below hbq)
      replace HY := Lib.hid (HY.out.below hbq)
      replace HR := Lib.hid (HR.out.below hbq)
      replace HA := Lib.hid ((hbq.block _ (hlt HA.out)).trans HA.out)
      replace HI := Lib.hid (HI.out.below hbq)
      clear hC hbq
      clear hP
      have HQ := Lib.hid hI1
      clear hI1
      go_upto_region 7 with (refine wpList_store_row rfl _ _ _ rfl (w.heap.size + 3) #[.pointer u1] (by rfl) (by rfl) _ _ HY.out (by kernel_rfl) rfl (by first | rfl | kernel_rfl) ?_)
      obtain ⟨W6, hW⟩ : ∃ W, w5.setRow (w.heap.size + 3) #[.pointer u1] = W := ⟨_, rfl⟩
      rw [hW]
      replace HB := Lib.hid (show Below w.heap.size w W6 by rw [← hW]; exact below_setRow HB.out (by omega) _)
      replace HX := Lib.hid (show Box W6 w.heap.size u by rw [← hW]; exact HX.out.far (by omega) _)
      replace HR := Lib.hid (show Box W6 (w.heap.size + 2) none by rw [← hW]; exact HR.out.far (by omega) _)
      replace HA := Lib.hid (show W6.heap[w.heap.size + 1]? = some (.cells #[.int .u8 (a.kind : Int), .string a.k, .string a.e, .int .i64 a.r, .int .i64 a.m, .string a.s, .int .i64 a.l, .int .i64 a.v.r, .int .i64 a.v.k, .int .i64 a.v.m, .int .i64 a.v.v, .string a.v.s, .int .i64 a.v.l, .bool a.v.g] 39) by rw [← hW]; exact (setRow_other _ _ _ _ (by omega)).trans HA.out)
      replace HI := Lib.hid (by have q := HI.out.store HY.out #[.pointer u1]; rw [hW] at q; exact q)
      replace HQ := Lib.hid (by have q := HQ.out.store HY.out #[.pointer u1]; rw [hW] at q; exact q)
      replace HY := Lib.hid (show Box W6 (w.heap.size + 3) u1 by rw [← hW]; exact HY.out.stored _)
      clear hW
      have bx := HX.out.cell
      obtain ⟨a0, a1, a2, a3, a4, a5, a6, a7, a8, a9, a10, a11, a12, a13⟩ := row14 HA.out
      have hC := HQ0.out W6 HI.out
      go_wp2_with fail
      refine hC.mono ?_
      rintro e w7 ⟨R2, m2, d2, ys, rfl, hO2, hy2, hbq⟩
      clear bx a0 a1 a2 a3 a4 a5 a6 a7 a8 a9 a10 a11 a12 a13
      replace HB := Lib.hid (HB.out.trans (hbq.mono HB.out.size))
      replace HX := Lib.hid (HX.out.below hbq)
      replace HY := Lib.hid (HY.out.below hbq)
      replace HR := Lib.hid (HR.out.below hbq)
      replace HA := Lib.hid ((hbq.block _ (hlt HA.out)).trans HA.out)
      replace HI := Lib.hid (HI.out.below hbq)
      replace HQ := Lib.hid (HQ.out.below hbq)
      clear hC hbq
      clear HQ0
      have HD := Lib.hid (show IxL w7 R2 m2 d2 ys ∧ khs ys = o from ⟨hO2.ix, hy2⟩)
      clear hO2 hy2
      have bY := HY.out.cell
      have hZ := HR.out.stored u1
      have hBz := below_setRow HB.out (g := w.heap.size + 2) (by omega) #[.pointer u1]
      have hQ := ((show Both w7 u1 R2 m2 d2 ys o from ⟨HQ.out, HD.out.1, HD.out.2⟩)).store HR.out #[.pointer u1]
      have HZ := Lib.hid (And.intro hZ (And.intro hBz hQ))
      clear hZ hBz hQ
      go_wp2_with (refine wpList_store_row rfl _ _ _ rfl (w.heap.size + 2) #[.pointer u1] (by rfl) (by rfl) _ _ HR.out (by kernel_rfl) rfl (by first | rfl | kernel_rfl) ?_)
      refine bodyPost_ret (res_cell_tmp_tmp (n := w.heap.size + 2) rfl rfl HZ.out.1 Try.underlying32 rfl (by kernel_rfl)) rfl ?_
      exact ⟨u1, R2, m2, d2, ys, rfl, by rw [HT.out]; exact HZ.out.2.2, HZ.out.2.1⟩
  · rw [if_neg h0] at hdo
    have l0 : ((a.kind : Int) == (0 : Int)) = false := beq_eq_false_iff_ne.2 (by omega)
    by_cases h1 : a.kind = 1
    · rw [if_pos h1] at hdo
      have l1 : ((a.kind : Int) == (1 : Int)) = true := by rw [h1]; rfl
      clear h0 h1
      obtain ⟨o, ho⟩ : ∃ o, Idx.delI l a.k a.e a.r a.m = o := ⟨_, rfl⟩
      have hP := S.del u l a.k a.e a.r a.m W4 HI.out.ix HF.out hak hae
      have hQ := fun W (hW : Both W u A n cap xs l) => delR15_any A n cap xs a.k a.e a.r a.m W (hW.g HF.out) hak hae
      rw [ho] at hP hdo
      have hQ : ∀ W, Both W u A n cap xs l → Calls _ _ _ W _ := fun W hW => by have := hQ W hW; rw [hW.e, ho] at this; exact this
      clear ho
      cases o with
      | none =>
        have HT := Lib.hid (show T = l from hdo)
        clear hdo
        have HQ0 := Lib.hid hQ
        clear hQ
        have bx := HX.out.cell
        obtain ⟨a0, a1, a2, a3, a4, a5, a6, a7, a8, a9, a10, a11, a12, a13⟩ := row14 HA.out
        dsimp only [Option.getD, Option.map] at hP
        rw [show Idx.errS (none : Option (List Idx.KH × Nat)) = 1 from rfl] at hP
        have hC := hP
        go_wp2_with fail
        refine hC.mono ?_
        rintro e w5 ⟨u1, rfl, hI1, hbq⟩
        clear bx a0 a1 a2 a3 a4 a5 a6 a7 a8 a9 a10 a11 a12 a13
        replace HB := Lib.hid (HB.out.trans (hbq.mono HB.out.size))
        replace HX := Lib.hid (HX.out.below hbq)
        replace HY := Lib.hid (HY.out.below hbq)
        replace HR := Lib.hid (HR.out.below hbq)
        replace HA := Lib.hid ((hbq.block _ (hlt HA.out)).trans HA.out)
        replace HI := Lib.hid (HI.out.below hbq)
        clear hC hbq
        clear hP
        have HQ := Lib.hid hI1
        clear hI1
        go_upto_region 10 with (refine wpList_store_row rfl _ _ _ rfl (w.heap.size + 3) #[.pointer u1] (by rfl) (by rfl) _ _ HY.out (by kernel_rfl) rfl (by first | rfl | kernel_rfl) ?_)
        obtain ⟨W6, hW⟩ : ∃ W, w5.setRow (w.heap.size + 3) #[.pointer u1] = W := ⟨_, rfl⟩
        rw [hW]
        replace HB := Lib.hid (show Below w.heap.size w W6 by rw [← hW]; exact below_setRow HB.out (by omega) _)
        replace HX := Lib.hid (show Box W6 w.heap.size u by rw [← hW]; exact HX.out.far (by omega) _)
        replace HR := Lib.hid (show Box W6 (w.heap.size + 2) none by rw [← hW]; exact HR.out.far (by omega) _)
        replace HA := Lib.hid (show W6.heap[w.heap.size + 1]? = some (.cells #[.int .u8 (a.kind : Int), .string a.k, .string a.e, .int .i64 a.r, .int .i64 a.m, .string a.s, .int .i64 a.l, .int .i64 a.v.r, .int .i64 a.v.k, .int .i64 a.v.m, .int .i64 a.v.v, .string a.v.s, .int .i64 a.v.l, .bool a.v.g] 39) by rw [← hW]; exact (setRow_other _ _ _ _ (by omega)).trans HA.out)
        replace HI := Lib.hid (by have q := HI.out.store HY.out #[.pointer u1]; rw [hW] at q; exact q)
        replace HQ := Lib.hid (by have q := HQ.out.store HY.out #[.pointer u1]; rw [hW] at q; exact q)
        replace HY := Lib.hid (show Box W6 (w.heap.size + 3) u1 by rw [← hW]; exact HY.out.stored _)
        clear hW
        have bx := HX.out.cell
        obtain ⟨a0, a1, a2, a3, a4, a5, a6, a7, a8, a9, a10, a11, a12, a13⟩ := row14 HA.out
        have hC := HQ0.out W6 HI.out
        go_wp2_with fail
        refine hC.mono ?_
        rintro e w7 ⟨rfl, hbq⟩
        clear bx a0 a1 a2 a3 a4 a5 a6 a7 a8 a9 a10 a11 a12 a13
        replace HB := Lib.hid (HB.out.trans (hbq.mono HB.out.size))
        replace HX := Lib.hid (HX.out.below hbq)
        replace HY := Lib.hid (HY.out.below hbq)
        replace HR := Lib.hid (HR.out.below hbq)
        replace HA := Lib.hid ((hbq.block _ (hlt HA.out)).trans HA.out)
        replace HI := Lib.hid (HI.out.below hbq)
        replace HQ := Lib.hid (HQ.out.below hbq)
        clear hC hbq
        clear HQ0
        have hal := (HQ.out)
        have bx := HX.out.cell
        have bY := HY.out.cell
        have hC := S.all u1 [] w7 HQ.out fit_nil
        clear hal
        go_wp2_with fail
        refine hC.mono ?_
        rintro e w8 ⟨R9, m9, c9, xs9, rfl, hP9, hx9, hbq⟩
        clear bx bY
        replace HB := Lib.hid (HB.out.trans (hbq.mono HB.out.size))
        replace HX := Lib.hid (HX.out.below hbq)
        replace HY := Lib.hid (HY.out.below hbq)
        replace HR := Lib.hid (HR.out.below hbq)
        replace HA := Lib.hid ((hbq.block _ (hlt HA.out)).trans HA.out)
        replace HI := Lib.hid (HI.out.below hbq)
        replace HQ := Lib.hid (HQ.out.below hbq)
        clear hC hbq
        have hm9 : m9 = 0 := by
          have h1 := hP9.sp.1
          rw [rowK_len] at h1
          have h2 : xs9.length = 0 := by rw [← List.length_map (f := KLay.kh)]; exact congrArg List.length hx9
          omega
        subst hm9
        clear hP9 hx9
        have bx := HX.out.cell
        have bY := HY.out.cell
        have hZ := HR.out.stored u
        have hBz := below_setRow HB.out (g := w.heap.size + 2) (by omega) #[.pointer u]
        have hQ := (HI.out).store HR.out #[.pointer u]
        have HZ := Lib.hid (And.intro hZ (And.intro hBz hQ))
        clear hZ hBz hQ
        go_wp2_with (refine wpList_store_row rfl _ _ _ rfl (w.heap.size + 2) #[.pointer u] (by rfl) (by rfl) _ _ HR.out (by kernel_rfl) rfl (by first | rfl | kernel_rfl) ?_)
        refine bodyPost_ret (res_cell_tmp_tmp (n := w.heap.size + 2) rfl rfl HZ.out.1 Try.underlying32 rfl (by kernel_rfl)) rfl ?_
        exact ⟨u, A, n, cap, xs, rfl, by rw [HT.out]; exact HZ.out.2.2, HZ.out.2.1⟩
      | some o =>
        have HT := Lib.hid (show T = o.1 from hdo)
        clear hdo
        have HQ0 := Lib.hid hQ
        clear hQ
        have bx := HX.out.cell
        obtain ⟨a0, a1, a2, a3, a4, a5, a6, a7, a8, a9, a10, a11, a12, a13⟩ := row14 HA.out
        dsimp only [Option.getD, Option.map] at hP
        rw [show Idx.errS (some o) = 0 from rfl] at hP
        have hC := hP
        go_wp2_with fail
        refine hC.mono ?_
        rintro e w5 ⟨u1, rfl, hI1, hbq⟩
        clear bx a0 a1 a2 a3 a4 a5 a6 a7 a8 a9 a10 a11 a12 a13
        replace HB := Lib.hid (HB.out.trans (hbq.mono HB.out.size))
        replace HX := Lib.hid (HX.out.below hbq)
        replace HY := Lib.hid (HY.out.below hbq)
        replace HR := Lib.hid (HR.out.below hbq)
        replace HA := Lib.hid ((hbq.block _ (hlt HA.out)).trans HA.out)
        replace HI := Lib.hid (HI.out.below hbq)
        clear hC hbq
        clear hP
        have HQ := Lib.hid hI1
        clear hI1
        go_upto_region 10 with (refine wpList_store_row rfl _ _ _ rfl (w.heap.size + 3) #[.pointer u1] (by rfl) (by rfl) _ _ HY.out (by kernel_rfl) rfl (by first | rfl | kernel_rfl) ?_)
        obtain ⟨W6, hW⟩ : ∃ W, w5.setRow (w.heap.size + 3) #[.pointer u1] = W := ⟨_, rfl⟩
        rw [hW]
        replace HB := Lib.hid (show Below w.heap.size w W6 by rw [← hW]; exact below_setRow HB.out (by omega) _)
        replace HX := Lib.hid (show Box W6 w.heap.size u by rw [← hW]; exact HX.out.far (by omega) _)
        replace HR := Lib.hid (show Box W6 (w.heap.size + 2) none by rw [← hW]; exact HR.out.far (by omega) _)
        replace HA := Lib.hid (show W6.heap[w.heap.size + 1]? = some (.cells #[.int .u8 (a.kind : Int), .string a.k, .string a.e, .int .i64 a.r, .int .i64 a.m, .string a.s, .int .i64 a.l, .int .i64 a.v.r, .int .i64 a.v.k, .int .i64 a.v.m, .int .i64 a.v.v, .string a.v.s, .int .i64 a.v.l, .bool a.v.g] 39) by rw [← hW]; exact (setRow_other _ _ _ _ (by omega)).trans HA.out)
        replace HI := Lib.hid (by have q := HI.out.store HY.out #[.pointer u1]; rw [hW] at q; exact q)
        replace HQ := Lib.hid (by have q := HQ.out.store HY.out #[.pointer u1]; rw [hW] at q; exact q)
        replace HY := Lib.hid (show Box W6 (w.heap.size + 3) u1 by rw [← hW]; exact HY.out.stored _)
        clear hW
        have bx := HX.out.cell
        obtain ⟨a0, a1, a2, a3, a4, a5, a6, a7, a8, a9, a10, a11, a12, a13⟩ := row14 HA.out
        have hC := HQ0.out W6 HI.out
        go_wp2_with fail
        refine hC.mono ?_
        rintro e w7 ⟨R2, m2, d2, ys, rfl, hO2, hy2, hbq⟩
        clear bx a0 a1 a2 a3 a4 a5 a6 a7 a8 a9 a10 a11 a12 a13
        replace HB := Lib.hid (HB.out.trans (hbq.mono HB.out.size))
        replace HX := Lib.hid (HX.out.below hbq)
        replace HY := Lib.hid (HY.out.below hbq)
        replace HR := Lib.hid (HR.out.below hbq)
        replace HA := Lib.hid ((hbq.block _ (hlt HA.out)).trans HA.out)
        replace HI := Lib.hid (HI.out.below hbq)
        replace HQ := Lib.hid (HQ.out.below hbq)
        clear hC hbq
        clear HQ0
        have HD := Lib.hid (show IxL w7 R2 m2 d2 ys ∧ khs ys = o.1 from ⟨hO2, hy2⟩)
        clear hO2 hy2
        have bY := HY.out.cell
        have hZ := HR.out.stored u1
        have hBz := below_setRow HB.out (g := w.heap.size + 2) (by omega) #[.pointer u1]
        have hQ := ((show Both w7 u1 R2 m2 d2 ys o.1 from ⟨HQ.out, HD.out.1, HD.out.2⟩)).store HR.out #[.pointer u1]
        have HZ := Lib.hid (And.intro hZ (And.intro hBz hQ))
        clear hZ hBz hQ
        go_wp2_with (refine wpList_store_row rfl _ _ _ rfl (w.heap.size + 2) #[.pointer u1] (by rfl) (by rfl) _ _ HR.out (by kernel_rfl) rfl (by first | rfl | kernel_rfl) ?_)
        refine bodyPost_ret (res_cell_tmp_tmp (n := w.heap.size + 2) rfl rfl HZ.out.1 Try.underlying32 rfl (by kernel_rfl)) rfl ?_
        exact ⟨u1, R2, m2, d2, ys, rfl, by rw [HT.out]; exact HZ.out.2.2, HZ.out.2.1⟩
    · rw [if_neg h1] at hdo
      have l1 : ((a.kind : Int) == (1 : Int)) = false := beq_eq_false_iff_ne.2 (by omega)
      by_cases h2 : a.kind = 2
      · rw [if_pos h2] at hdo
        have l2 : ((a.kind : Int) == (2 : Int)) = true := by rw [h2]; rfl
        clear h0 h1 h2
        obtain ⟨o, ho⟩ : ∃ o, Idx.addI l a.k a.v = o := ⟨_, rfl⟩
        have hP := S.add u l a.k a.v W4 HI.out.ix HF.out hak
        have hQ := fun W (hW : Both W u A n cap xs l) => addR15_any A n cap xs a.k a.v W (hW.g HF.out) hak
        rw [ho] at hP hdo
        have hQ : ∀ W, Both W u A n cap xs l → Calls _ _ _ W _ := fun W hW => by have := hQ W hW; rw [hW.e, ho] at this; exact this
        clear ho
        cases o with
        | none =>
          have HT := Lib.hid (show T = l from hdo)
          clear hdo
          have HQ0 := Lib.hid hQ
          clear hQ
          have bx := HX.out.cell
          obtain ⟨a0, a1, a2, a3, a4, a5, a6, a7, a8, a9, a10, a11, a12, a13⟩ := row14 HA.out
          dsimp only [Option.getD, Option.map] at hP
          rw [show Idx.errS (none : Option (List Idx.KH)) = 1 from rfl] at hP
          have hC := hP
          go_wp2_with fail
          refine hC.mono ?_
          rintro e w5 ⟨u1, rfl, hI1, hbq⟩
          clear bx a0 a1 a2 a3 a4 a5 a6 a7 a8 a9 a10 a11 a12 a13
          replace HB := Lib.hid (HB.out.trans (hbq.mono HB.out.size))
          replace HX := Lib.hid (HX.out.below hbq)
          replace HY := Lib.hid (HY.out.below hbq)
          replace HR := Lib.hid (HR.out.below hbq)
          replace HA := Lib.hid ((hbq.block _ (hlt HA.out)).trans HA.out)
          replace HI := Lib.hid (HI.out.below hbq)
          clear hC hbq
          clear hP
          have HQ := Lib.hid hI1
          clear hI1
          go_upto_region 13 with (refine wpList_store_row rfl _ _ _ rfl (w.heap.size + 3) #[.pointer u1] (by rfl) (by rfl) _ _ HY.out (by kernel_rfl) rfl (by first | rfl | kernel_rfl) ?_)
          obtain ⟨W6, hW⟩ : ∃ W, w5.setRow (w.heap.size + 3) #[.pointer u1] = W := ⟨_, rfl⟩
          rw [hW]
          replace HB := Lib.hid (show Below w.heap.size w W6 by rw [← hW]; exact below_setRow HB.out (by omega) _)
          replace HX := Lib.hid (show Box W6 w.heap.size u by rw [← hW]; exact HX.out.far (by omega) _)
          replace HR := Lib.hid (show Box W6 (w.heap.size + 2) none by rw [← hW]; exact HR.out.far (by omega) _)
          replace HA := Lib.hid (show W6.heap[w.heap.size + 1]? = some (.cells #[.int .u8 (a.kind : Int), .string a.k, .string a.e, .int .i64 a.r, .int .i64 a.m, .string a.s, .int .i64 a.l, .int .i64 a.v.r, .int .i64 a.v.k, .int .i64 a.v.m, .int .i64 a.v.v, .string a.v.s, .int .i64 a.v.l, .bool a.v.g] 39) by rw [← hW]; exact (setRow_other _ _ _ _ (by omega)).trans HA.out)
          replace HI := Lib.hid (by have q := HI.out.store HY.out #[.pointer u1]; rw [hW] at q; exact q)
          replace HQ := Lib.hid (by have q := HQ.out.store HY.out #[.pointer u1]; rw [hW] at q; exact q)
          replace HY := Lib.hid (show Box W6 (w.heap.size + 3) u1 by rw [← hW]; exact HY.out.stored _)
          clear hW
          have bx := HX.out.cell
          obtain ⟨a0, a1, a2, a3, a4, a5, a6, a7, a8, a9, a10, a11, a12, a13⟩ := row14 HA.out
          have hC := HQ0.out W6 HI.out
          go_wp2_with fail
          refine hC.mono ?_
          rintro e w7 ⟨R2, m2, d2, ys, rfl, hO2, hy2, hbq⟩
          clear bx a0 a1 a2 a3 a4 a5 a6 a7 a8 a9 a10 a11 a12 a13
          replace HB := Lib.hid (HB.out.trans (hbq.mono HB.out.size))
          replace HX := Lib.hid (HX.out.below hbq)
          replace HY := Lib.hid (HY.out.below hbq)
          replace HR := Lib.hid (HR.out.below hbq)
          replace HA := Lib.hid ((hbq.block _ (hlt HA.out)).trans HA.out)
          replace HI := Lib.hid (HI.out.below hbq)
          replace HQ := Lib.hid (HQ.out.below hbq)
          clear hC hbq
          clear hO2 hy2
          clear HQ0
          have hal := (HQ.out)
          have bx := HX.out.cell
          have bY := HY.out.cell
          have hC := S.all u1 [] w7 HQ.out fit_nil
          clear hal
          go_wp2_with fail
          refine hC.mono ?_
          rintro e w8 ⟨R9, m9, c9, xs9, rfl, hP9, hx9, hbq⟩
          clear bx bY
          replace HB := Lib.hid (HB.out.trans (hbq.mono HB.out.size))
          replace HX := Lib.hid (HX.out.below hbq)
          replace HY := Lib.hid (HY.out.below hbq)
          replace HR := Lib.hid (HR.out.below hbq)
          replace HA := Lib.hid ((hbq.block _ (hlt HA.out)).trans HA.out)
          replace HI := Lib.hid (HI.out.below hbq)
          replace HQ := Lib.hid (HQ.out.below hbq)
          clear hC hbq
          have hm9 : m9 = 0 := by
            have h1 := hP9.sp.1
            rw [rowK_len] at h1
            have h2 : xs9.length = 0 := by rw [← List.length_map (f := KLay.kh)]; exact congrArg List.length hx9
            omega
          subst hm9
          clear hP9 hx9
          have bx := HX.out.cell
          have bY := HY.out.cell
          have hZ := HR.out.stored u
          have hBz := below_setRow HB.out (g := w.heap.size + 2) (by omega) #[.pointer u]
          have hQ := (HI.out).store HR.out #[.pointer u]
          have HZ := Lib.hid (And.intro hZ (And.intro hBz hQ))
          clear hZ hBz hQ
          go_wp2_with (refine wpList_store_row rfl _ _ _ rfl (w.heap.size + 2) #[.pointer u] (by rfl) (by rfl) _ _ HR.out (by kernel_rfl) rfl (by first | rfl | kernel_rfl) ?_)
          refine bodyPost_ret (res_cell_tmp_tmp (n := w.heap.size + 2) rfl rfl HZ.out.1 Try.underlying32 rfl (by kernel_rfl)) rfl ?_
          exact ⟨u, A, n, cap, xs, rfl, by rw [HT.out]; exact HZ.out.2.2, HZ.out.2.1⟩
        | some o =>
          have HT := Lib.hid (show T = o from hdo)
          clear hdo
          have HQ0 := Lib.hid hQ
          clear hQ
          have bx := HX.out.cell
          obtain ⟨a0, a1, a2, a3, a4, a5, a6, a7, a8, a9, a10, a11, a12, a13⟩ := row14 HA.out
          dsimp only [Option.getD, Option.map] at hP
          rw [show Idx.errS (some o) = 0 from rfl] at hP
          have hC := hP
          go_wp2_with fail
          refine hC.mono ?_
          rintro e w5 ⟨u1, rfl, hI1, hbq⟩
          clear bx a0 a1 a2 a3 a4 a5 a6 a7 a8 a9 a10 a11 a12 a13
          replace HB := Lib.hid (HB.out.trans (hbq.mono HB.out.size))
          replace HX := Lib.hid (HX.out.below hbq)
          replace HY := Lib.hid (HY.out.below hbq)
          replace HR := Lib.hid (HR.out.below hbq)
          replace HA := Lib.hid ((hbq.block _ (hlt HA.out)).trans HA.out)
          replace HI := Lib.hid (HI.out.below hbq)
          clear hC hbq
          clear hP
          have HQ := Lib.hid hI1
          clear hI1
          go_upto_region 13 with (refine wpList_store_row rfl _ _ _ rfl (w.heap.size + 3) #[.pointer u1] (by rfl) (by rfl) _ _ HY.out (by kernel_rfl) rfl (by first | rfl | kernel_rfl) ?_)
          obtain ⟨W6, hW⟩ : ∃ W, w5.setRow (w.heap.size + 3) #[.pointer u1] = W := ⟨_, rfl⟩
          rw [hW]
          replace HB := Lib.hid (show Below w.heap.size w W6 by rw [← hW]; exact below_setRow HB.out (by omega) _)
          replace HX := Lib.hid (show Box W6 w.heap.size u by rw [← hW]; exact HX.out.far (by omega) _)
          replace HR := Lib.hid (show Box W6 (w.heap.size + 2) none by rw [← hW]; exact HR.out.far (by omega) _)
          replace HA := Lib.hid (show W6.heap[w.heap.size + 1]? = some (.cells #[.int .u8 (a.kind : Int), .string a.k, .string a.e, .int .i64 a.r, .int .i64 a.m, .string a.s, .int .i64 a.l, .int .i64 a.v.r, .int .i64 a.v.k, .int .i64 a.v.m, .int .i64 a.v.v, .string a.v.s, .int .i64 a.v.l, .bool a.v.g] 39) by rw [← hW]; exact (setRow_other _ _ _ _ (by omega)).trans HA.out)
          replace HI := Lib.hid (by have q := HI.out.store HY.out #[.pointer u1]; rw [hW] at q; exact q)
          replace HQ := Lib.hid (by have q := HQ.out.store HY.out #[.pointer u1]; rw [hW] at q; exact q)
          replace HY := Lib.hid (show Box W6 (w.heap.size + 3) u1 by rw [← hW]; exact HY.out.stored _)
          clear hW
          have bx := HX.out.cell
          obtain ⟨a0, a1, a2, a3, a4, a5, a6, a7, a8, a9, a10, a11, a12, a13⟩ := row14 HA.out
          have hC := HQ0.out W6 HI.out
          go_wp2_with fail
          refine hC.mono ?_
          rintro e w7 ⟨R2, m2, d2, ys, rfl, hO2, hy2, hbq⟩
          clear bx a0 a1 a2 a3 a4 a5 a6 a7 a8 a9 a10 a11 a12 a13
          replace HB := Lib.hid (HB.out.trans (hbq.mono HB.out.size))
          replace HX := Lib.hid (HX.out.below hbq)
          replace HY := Lib.hid (HY.out.below hbq)
          replace HR := Lib.hid (HR.out.below hbq)
          replace HA := Lib.hid ((hbq.block _ (hlt HA.out)).trans HA.out)
          replace HI := Lib.hid (HI.out.below hbq)
          replace HQ := Lib.hid (HQ.out.below hbq)
          clear hC hbq
          clear HQ0
          have HD := Lib.hid (show IxL w7 R2 m2 d2 ys ∧ khs ys = o from ⟨hO2.ix, hy2⟩)
          clear hO2 hy2
          have bY := HY.out.cell
          have hZ := HR.out.stored u1
          have hBz := below_setRow HB.out (g := w.heap.size + 2) (by omega) #[.pointer u1]
          have hQ := ((show Both w7 u1 R2 m2 d2 ys o from ⟨HQ.out, HD.out.1, HD.out.2⟩)).store HR.out #[.pointer u1]
          have HZ := Lib.hid (And.intro hZ (And.intro hBz hQ))
          clear hZ hBz hQ
          go_wp2_with (refine wpList_store_row rfl _ _ _ rfl (w.heap.size + 2) #[.pointer u1] (by rfl) (by rfl) _ _ HR.out (by kernel_rfl) rfl (by first | rfl | kernel_rfl) ?_)
          refine bodyPost_ret (res_cell_tmp_tmp (n := w.heap.size + 2) rfl rfl HZ.out.1 Try.underlying32 rfl (by kernel_rfl)) rfl ?_
          exact ⟨u1, R2, m2, d2, ys, rfl, by rw [HT.out]; exact HZ.out.2.2, HZ.out.2.1⟩
      · rw [if_neg h2] at hdo
        have l2 : ((a.kind : Int) == (2 : Int)) = false := beq_eq_false_iff_ne.2 (by omega)
        by_cases h3 : a.kind = 3
        · rw [if_pos h3] at hdo
          have l3 : ((a.kind : Int) == (3 : Int)) = true := by rw [h3]; rfl
          clear h0 h1 h2 h3
          have HT := Lib.hid (show T = Idx.dropI l a.k a.e from hdo)
          clear hdo
          obtain ⟨a0, a1, a2, a3, a4, a5, a6, a7, a8, a9, a10, a11, a12, a13⟩ := row14 HA.out
          go_upto_region 15 with fail
          clear a0 a1 a2 a3 a4 a5 a6 a7 a8 a9 a10 a11 a12 a13
          refine wp_region_held_drew (S := (fun w' => w'.cell? ⟨w.heap.size, 0, none⟩ = some (.pointer u) ∧ w'.cell? ⟨w.heap.size + 1, 1, none⟩ = some (.string a.k) ∧ w'.cell? ⟨w.heap.size + 1, 2, none⟩ = some (.string a.e))) (by kernel_rfl) ⟨HX.out.cell, (row14 (HA.out)).2.1, (row14 (HA.out)).2.2.1⟩ (fun hHeld => ?_)
          refine lsq 14 ?_
          refine tkq 0 ?_
          refine tkq 1 ?_
          refine tkq 2 ?_
          refine tkq 3 ?_
          refine tkq 4 ?_
          refine tkq 6 ?_
          refine tkq 7 ?_
          refine tkq 8 ?_
          refine tkq 9 ?_
          refine tkq 10 ?_
          have hI4 := HI.out.below (show Below W4.heap.size W4 W4.drew from (Below.refl _ _).drew)
          have hC := S.drop u l a.k a.e W4.drew hI4.ix HF.out hak hae
          refine rdq1 5 fun KK hK => ?_
          go_simp
          refine hC.mono ?_
          rintro e w5 ⟨u1, rfl, hI1, hbq⟩
          have hbq := show Below W4.heap.size W4 w5 from ⟨hbq.os, hbq.tape, hbq.output, hbq.size, hbq.block⟩
          replace HB := Lib.hid (HB.out.trans (hbq.mono HB.out.size))
          replace HX := Lib.hid (HX.out.below hbq)
          replace HY := Lib.hid (HY.out.below hbq)
          replace HR := Lib.hid (HR.out.below hbq)
          replace HA := Lib.hid ((hbq.block _ (hlt HA.out)).trans HA.out)
          replace HI := Lib.hid (HI.out.below hbq)
          have HQ := Lib.hid hI1
          refine hK.out _ _ ⟨HX.out.cell, (row14 (HA.out)).2.1, (row14 (HA.out)).2.2.1⟩ ?_
          clear hK KK hHeld
          intro hHeld
          try simp only [lpq]
          clear hC hbq hI1 hI4
          have hC := dropR15_any A n cap xs a.k a.e w5 (HI.out.g HF.out) hak hae
          refine rdq1 11 fun KK hK => ?_
          go_simp
          refine hC.mono ?_
          rintro e w6 ⟨R2, m2, d2, rfl, hO2, hbq⟩
          replace HB := Lib.hid (HB.out.trans (hbq.mono HB.out.size))
          replace HX := Lib.hid (HX.out.below hbq)
          replace HY := Lib.hid (HY.out.below hbq)
          replace HR := Lib.hid (HR.out.below hbq)
          replace HA := Lib.hid ((hbq.block _ (hlt HA.out)).trans HA.out)
          replace HI := Lib.hid (HI.out.below hbq)
          replace HQ := Lib.hid (HQ.out.below hbq)
          have HD := Lib.hid (show Both w6 u1 R2 m2 d2 (xs.filter fun x => !Idx.inB a.k a.e x.k) (Idx.dropI l a.k a.e) from ⟨HQ.out, hO2.ix, by rw [← HI.out.e]; unfold khs Idx.dropI; rw [List.filter_map]; rfl⟩)
          refine hK.out _ _ ⟨HX.out.cell, (row14 (HA.out)).2.1, (row14 (HA.out)).2.2.1⟩ ?_
          clear hK KK hHeld
          intro hHeld
          try simp only [lpq]
          clear hC hbq HQ
          refine rdq1 12 fun KK hK => ?_
          rw [if_pos]
          rotate_left
          · rfl
          refine wp_store_row 32 _ _ rfl (w.heap.size + 3) #[.pointer u1] (by rfl) (by rfl) _ _ HY.out (by kernel_rfl) rfl (by first | rfl | kernel_rfl) ?_
          refine hK.out _ _ ⟨(HX.out.far (g := w.heap.size + 3) (by omega) _).cell, (row14 ((setRow_other _ _ _ _ (by omega)).trans HA.out)).2.1, (row14 ((setRow_other _ _ _ _ (by omega)).trans HA.out)).2.2.1⟩ ?_
          clear hK KK hHeld
          intro hHeld
          try simp only [lpq]
          refine tkq 13 ?_
          refine dnq ?_
          clear hHeld
          obtain ⟨W7, hW⟩ : ∃ W, w6.setRow (w.heap.size + 3) #[.pointer u1] = W := ⟨_, rfl⟩
          rw [hW]
          replace HB := Lib.hid (show Below w.heap.size w W7 by rw [← hW]; exact below_setRow HB.out (by omega) _)
          replace HX := Lib.hid (show Box W7 w.heap.size u by rw [← hW]; exact HX.out.far (by omega) _)
          replace HR := Lib.hid (show Box W7 (w.heap.size + 2) none by rw [← hW]; exact HR.out.far (by omega) _)
          replace HA := Lib.hid (show W7.heap[w.heap.size + 1]? = some (.cells #[.int .u8 (a.kind : Int), .string a.k, .string a.e, .int .i64 a.r, .int .i64 a.m, .string a.s, .int .i64 a.l, .int .i64 a.v.r, .int .i64 a.v.k, .int .i64 a.v.m, .int .i64 a.v.v, .string a.v.s, .int .i64 a.v.l, .bool a.v.g] 39) by rw [← hW]; exact (setRow_other _ _ _ _ (by omega)).trans HA.out)
          replace HI := Lib.hid (by have q := HI.out.store HY.out #[.pointer u1]; rw [hW] at q; exact q)
          replace HD := Lib.hid (by have q := HD.out.store HY.out #[.pointer u1]; rw [hW] at q; exact q)
          replace HY := Lib.hid (show Box W7 (w.heap.size + 3) u1 by rw [← hW]; exact HY.out.stored _)
          clear hW
          have bY := HY.out.cell
          have hZ := HR.out.stored u1
          have hBz := below_setRow HB.out (g := w.heap.size + 2) (by omega) #[.pointer u1]
          have hQ := (HD.out).store HR.out #[.pointer u1]
          have HZ := Lib.hid (And.intro hZ (And.intro hBz hQ))
          clear hZ hBz hQ
          go_wp2_with (refine wpList_store_row rfl _ _ _ rfl (w.heap.size + 2) #[.pointer u1] (by rfl) (by rfl) _ _ HR.out (by kernel_rfl) rfl (by first | rfl | kernel_rfl) ?_)
          refine bodyPost_ret (res_cell_tmp_tmp (n := w.heap.size + 2) rfl rfl HZ.out.1 Try.underlying32 rfl (by kernel_rfl)) rfl ?_
          exact ⟨u1, R2, m2, d2, (xs.filter fun x => !Idx.inB a.k a.e x.k), rfl, by rw [HT.out]; exact HZ.out.2.2, HZ.out.2.1⟩
        · rw [if_neg h3] at hdo
          have l3 : ((a.kind : Int) == (3 : Int)) = false := beq_eq_false_iff_ne.2 (by omega)
          clear h0 h1 h2 h3
          have HT := Lib.hid (show T = Idx.trimI l a.r from hdo)
          clear hdo
          obtain ⟨a0, a1, a2, a3, a4, a5, a6, a7, a8, a9, a10, a11, a12, a13⟩ := row14 HA.out
          go_upto_region 4 with fail
          clear a0 a1 a2 a3 a4 a5 a6 a7 a8 a9 a10 a11 a12 a13
          refine wp_region_held_drew (S := (fun w' => w'.cell? ⟨w.heap.size, 0, none⟩ = some (.pointer u) ∧ w'.cell? ⟨w.heap.size + 1, 3, none⟩ = some (.int .i64 a.r))) (by kernel_rfl) ⟨HX.out.cell, (row14 (HA.out)).2.2.2.1⟩ (fun hHeld => ?_)
          refine lsq 10 ?_
          refine tkq 0 ?_
          refine tkq 1 ?_
          refine tkq 2 ?_
          refine tkq 4 ?_
          refine tkq 5 ?_
          refine tkq 6 ?_
          have hI4 := HI.out.below (show Below W4.heap.size W4 W4.drew from (Below.refl _ _).drew)
          have hC := S.trim u l a.r W4.drew hI4.ix HF.out
          refine rdq1 3 fun KK hK => ?_
          go_simp
          refine hC.mono ?_
          rintro e w5 ⟨u1, rfl, hI1, hbq⟩
          have hbq := show Below W4.heap.size W4 w5 from ⟨hbq.os, hbq.tape, hbq.output, hbq.size, hbq.block⟩
          replace HB := Lib.hid (HB.out.trans (hbq.mono HB.out.size))
          replace HX := Lib.hid (HX.out.below hbq)
          replace HY := Lib.hid (HY.out.below hbq)
          replace HR := Lib.hid (HR.out.below hbq)
          replace HA := Lib.hid ((hbq.block _ (hlt HA.out)).trans HA.out)
          replace HI := Lib.hid (HI.out.below hbq)
          have HQ := Lib.hid hI1
          refine hK.out _ _ ⟨HX.out.cell, (row14 (HA.out)).2.2.2.1⟩ ?_
          clear hK KK hHeld
          intro hHeld
          try simp only [lpq]
          clear hC hbq hI1 hI4
          have hC := trimR15_any A n cap xs a.r w5 (HI.out.g HF.out)
          refine rdq1 7 fun KK hK => ?_
          go_simp
          refine hC.mono ?_
          rintro e w6 ⟨R2, m2, d2, ys, rfl, hO2, hy2, hbq⟩
          replace HB := Lib.hid (HB.out.trans (hbq.mono HB.out.size))
          replace HX := Lib.hid (HX.out.below hbq)
          replace HY := Lib.hid (HY.out.below hbq)
          replace HR := Lib.hid (HR.out.below hbq)
          replace HA := Lib.hid ((hbq.block _ (hlt HA.out)).trans HA.out)
          replace HI := Lib.hid (HI.out.below hbq)
          replace HQ := Lib.hid (HQ.out.below hbq)
          have HD := Lib.hid (show Both w6 u1 R2 m2 d2 ys (Idx.trimI l a.r) from ⟨HQ.out, hO2, by rw [hy2, HI.out.e]⟩)
          refine hK.out _ _ ⟨HX.out.cell, (row14 (HA.out)).2.2.2.1⟩ ?_
          clear hK KK hHeld
          intro hHeld
          try simp only [lpq]
          clear hC hbq HQ
          refine rdq1 8 fun KK hK => ?_
          rw [if_pos]
          rotate_left
          · rfl
          refine wp_store_row 32 _ _ rfl (w.heap.size + 3) #[.pointer u1] (by rfl) (by rfl) _ _ HY.out (by kernel_rfl) rfl (by first | rfl | kernel_rfl) ?_
          refine hK.out _ _ ⟨(HX.out.far (g := w.heap.size + 3) (by omega) _).cell, (row14 ((setRow_other _ _ _ _ (by omega)).trans HA.out)).2.2.2.1⟩ ?_
          clear hK KK hHeld
          intro hHeld
          try simp only [lpq]
          refine tkq 9 ?_
          refine dnq ?_
          clear hHeld
          obtain ⟨W7, hW⟩ : ∃ W, w6.setRow (w.heap.size + 3) #[.pointer u1] = W := ⟨_, rfl⟩
          rw [hW]
          replace HB := Lib.hid (show Below w.heap.size w W7 by rw [← hW]; exact below_setRow HB.out (by omega) _)
          replace HX := Lib.hid (show Box W7 w.heap.size u by rw [← hW]; exact HX.out.far (by omega) _)
          replace HR := Lib.hid (show Box W7 (w.heap.size + 2) none by rw [← hW]; exact HR.out.far (by omega) _)
          replace HA := Lib.hid (show W7.heap[w.heap.size + 1]? = some (.cells #[.int .u8 (a.kind : Int), .string a.k, .string a.e, .int .i64 a.r, .int .i64 a.m, .string a.s, .int .i64 a.l, .int .i64 a.v.r, .int .i64 a.v.k, .int .i64 a.v.m, .int .i64 a.v.v, .string a.v.s, .int .i64 a.v.l, .bool a.v.g] 39) by rw [← hW]; exact (setRow_other _ _ _ _ (by omega)).trans HA.out)
          replace HI := Lib.hid (by have q := HI.out.store HY.out #[.pointer u1]; rw [hW] at q; exact q)
          replace HD := Lib.hid (by have q := HD.out.store HY.out #[.pointer u1]; rw [hW] at q; exact q)
          replace HY := Lib.hid (show Box W7 (w.heap.size + 3) u1 by rw [← hW]; exact HY.out.stored _)
          clear hW
          have bY := HY.out.cell
          have hZ := HR.out.stored u1
          have hBz := below_setRow HB.out (g := w.heap.size + 2) (by omega) #[.pointer u1]
          have hQ := (HD.out).store HR.out #[.pointer u1]
          have HZ := Lib.hid (And.intro hZ (And.intro hBz hQ))
          clear hZ hBz hQ
          go_wp2_with (refine wpList_store_row rfl _ _ _ rfl (w.heap.size + 2) #[.pointer u1] (by rfl) (by rfl) _ _ HR.out (by kernel_rfl) rfl (by first | rfl | kernel_rfl) ?_)
          refine bodyPost_ret (res_cell_tmp_tmp (n := w.heap.size + 2) rfl rfl HZ.out.1 Try.underlying32 rfl (by kernel_rfl)) rfl ?_
          exact ⟨u1, R2, m2, d2, ys, rfl, by rw [HT.out]; exact HZ.out.2.2, HZ.out.2.1⟩

end Go.Proofs.Ytcoddkbbgmjckaa
