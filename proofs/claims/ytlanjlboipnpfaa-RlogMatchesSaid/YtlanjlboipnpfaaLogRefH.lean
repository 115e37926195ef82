/- The document's Add, where an entry is added. -/
import Derived.Test.YtlanjlboipnpfaaLogRefG
import Derived.Deep.RegionWith
namespace Go.Proofs.Ytlanjlboipnpfaa
open Go.RowKit
set_option linter.unusedVariables false
set_option linter.unusedSimpArgs false

set_option maxRecDepth 100000 in
set_option maxHeartbeats 3200000 in
theorem addR_yes (r : RL) (t : Int) (D : Option Addr) (dn dc : Nat) (d : List UInt8) (Z : Nat → Prop) (A : Option Addr) (n c : Nat) (w : World) (h : Ents w Z A n c r.l) (hm : n ≤ 100000) (hZ : ∀ k, w.heap.size ≤ k → Z k) (hx : LayOk w Z ⟨⟨r.lastI + 1, t, d⟩, D, dc⟩) (hdn : d.length = dn) (hi : 0 ≤ r.lastI ∧ r.lastI ≤ 1099511627776) (hyes : runB r.lastI r.lastT [⟨r.lastI + 1, t, d⟩] = true) :
    Calls Try.prog 36 #[lgV r A n c, .int .i64 t, .slice D dn dc] w fun e w' => ∃ A' c', e = .returned (.tuple #[lgV ((⟨r.i, r.t, r.l ++ [⟨r.lastI + 1, t, d⟩], r.f⟩ : RL).mark (r.lastI + 1)) A' (n + 1) c', .agg #[.int .i64 (r.lastI + 1), .int .i64 t, .slice D dn dc], .bool true]) ∧ Ents w' Z A' (n + 1) c' (r.l ++ [⟨r.lastI + 1, t, d⟩]) ∧ Below w.heap.size w w' := by
  subst hdn
  have h3 := BoxThree.start w (lgC r A n c)
  have hL := lastR_any r Z A n c _ (h.below h3.below (Nat.le_refl _)) (by unfold maxLen; omega)
  have hR := fun W (hW : Below w.heap.size w W) => runR_any Z _ 1 1 [⟨r.lastI + 1, t, d⟩] r.lastI r.lastT _ (ents_one W ⟨⟨r.lastI + 1, t, d⟩, D, dc⟩ Z 43 (hZ _ hW.size) (hx.keep hW.size fun k hk _ => hW.block k hk)) (by unfold maxLen; omega)
  rw [hyes] at hR
  have hll := h.1
  obtain ⟨xs, hxs, hok, hcell⟩ := h.lays
  have hxl : xs.length = n := by rw [← hll, ← hxs, List.length_map]
  have hnone : A = none → c = 0 ∧ n = 0 := fun e => by
    have h3 := h.2.2.1 e
    have h4 := h.2.1
    omega
  have hg0 : ∀ b, A = some b → ∀ j u, (rowOf xs)[j]? = some u → (b.add j).block < w.heap.size := fun b e j u hu => by
    have hj : j < (rowOf xs).length := (List.getElem?_eq_some_iff.1 hu).1
    rw [rowOf_length] at hj
    obtain ⟨g0, off0, e0, hg, _⟩ := h.2.2.2 (by omega)
    rw [e] at e0
    injection e0 with e0
    subst e0
    rw [Addr.add_lit]
    exact hg
  have hcells : ∀ W, Below w.heap.size w W → ∀ b, A = some b → ∀ j u, (rowOf xs)[j]? = some u → W.cell? (b.add j) = some u := fun W hW b e j u hu => (hW.cell (hg0 b e j u hu)).trans (hcell b e j u hu)
  have hM := fun A' n' c' W => markR_any ⟨r.i, r.t, r.l ++ [⟨r.lastI + 1, t, d⟩], r.f⟩ (r.lastI + 1) A' n' c' W
  generalize r.lastI = li at *
  generalize r.lastT = lt at *
  obtain ⟨J, hJJ⟩ : ∃ J, J = li + 1 := ⟨_, rfl⟩
  have hJ : wrap64 (li + 1) = J := by rw [hJJ, ← IntWalk.i64_left, IntWalk.i64_in _ (by omega)]
  rw [← hJJ] at hR hx hM ⊢
  have HXS := Lib.hid hxs
  generalize hr' : (⟨r.i, r.t, r.l ++ [⟨J, t, d⟩], r.f⟩ : RL).mark J = r' at *
  have HRR := Lib.hid hr'
  clear h hyes hi hJJ hll hxs hcell hg0 hr'
  obtain ⟨⟨a0, a1, a2, a3⟩, _⟩ := row4 h3.box
  go_enter Try.func36, Try.ntmps36
  go_wp2_with fail
  refine hL.mono ?_
  rintro e w1 ⟨rfl, hb1⟩
  have h4 := h3.step hb1
  clear h3 hb1 hL a0 a1 a2 a3
  obtain ⟨⟨b0, b1, b2, b3⟩, _⟩ := row4 h4.box
  have hb5 := (Below.refl w1.heap.size w1).alloc (Nat.le_refl _) (.cells #[.int .i64 J, .int .i64 t, .slice D d.length dc] 43)
  have hv5 := heap_alloc_new w1 (.cells #[.int .i64 J, .int .i64 t, .slice D d.length dc] 43)
  have h5 := h4.step hb5
  replace hR := hR _ h5.below
  simp only [World.size_alloc] at hR
  have hvs : w.heap.size + 3 ≤ w1.heap.size := hlt h4.ent
  generalize hdl : d.length = dl at *
  have HDL := Lib.hid hdl
  clear hdl
  go_wp2_with fail
  refine hR.mono ?_
  rintro e w2 ⟨rfl, hb2⟩
  have hb6 := ((Below.refl _ _).alloc (Nat.le_refl _) (.cells #[.int .i64 J, .int .i64 t, .slice D dl dc] 43)).trans (hb2.mono (by simp))
  have h6 := h5.step hb6
  have hv6 := (hb6.block w1.heap.size (hlt hv5)).trans hv5
  clear b0 b1 b2 b3 hR hb2 h5 h4 hb5 hb6 hv5
  obtain ⟨⟨e0, e1, e2, e3⟩, ⟨p0, p1, p2, p3⟩⟩ := row4 h6.box
  obtain ⟨⟨x0, x1, x2⟩, _⟩ := row3 hv6
  have hs6 : w1.heap.size < w2.heap.size := hlt hv6
  have hB6 := h6.below
  have hlw : w.heap.size < w2.heap.size := hlt h6.box
  have l1 : ∀ O, (w2.alloc O).cell? ⟨w.heap.size, 2, none⟩ = some (.slice A n c) := fun O => (World.cell?_alloc_past _ _ _ hlw).trans e2
  have l2 : ∀ O O', ((w2.alloc O).alloc O').cell? ⟨w.heap.size, 2, none⟩ = some (.slice A n c) := fun O O' => (World.cell?_alloc_past _ _ _ (by rw [World.size_alloc]; omega)).trans (l1 O)
  have m0 : ∀ O, (w2.alloc O).cell? ⟨w1.heap.size, 0, none⟩ = some (.int .i64 J) := fun O => (World.cell?_alloc_past _ _ _ hs6).trans x0
  have m1 : ∀ O, (w2.alloc O).cell? ⟨w1.heap.size, 1, none⟩ = some (.int .i64 t) := fun O => (World.cell?_alloc_past _ _ _ hs6).trans x1
  have m2 : ∀ O, (w2.alloc O).cell? ⟨w1.heap.size, 2, none⟩ = some (.slice D dl dc) := fun O => (World.cell?_alloc_past _ _ _ hs6).trans x2
  go_upto_region 5 with fail
  go_cut [36] (fun v wx => BoxThree w wx #[.int .i64 r.i, .int .i64 r.t, v, .int .i64 r.f] zL zE ∧ wx.heap[w1.heap.size]? = some (.cells #[.int .i64 J, .int .i64 t, .slice D dl dc] 43) ∧ ∃ A5 c5, v = .slice A5 (n + 1) c5 ∧ Ents wx (fun q => (Z q ∧ q < w.heap.size) ∨ w.heap.size + 3 ≤ q) A5 (n + 1) c5 (r.l ++ [⟨J, t, d⟩]))
  case first =>
    go_region_law (first
      | (refine step_append_lays _ (by rfl) _ _ (by rfl) w2.heap.size (by simp <;> omega) _ 0 [] (by rfl) (own_zero (by (simp only [heapd, heapa, World.size_alloc, if_true]; repeat (first | rw [if_pos (by omega)] | rw [if_neg (by omega)]))) (by omega)) A n c xs (by rfl) hxl hnone (hcells _ (by repeat (first | exact hB6 | apply Below.drew | refine Below.alloc ?_ (by first | omega | (simp <;> omega)) _))) (by omega) ?_
         intro v1 wA ho1 hg1 hq1
         have hbA : Below w2.heap.size w2 wA := Below.grown (by repeat (first | exact Below.refl _ _ | apply Below.drew | refine Below.alloc ?_ (by simp <;> omega) _)) hg1 (by simp <;> omega) (fun q hq => by simp [Value.ownBlock] at hq; omega)
         obtain ⟨⟨z0, z1, z2⟩, _⟩ := row3 ((hbA.block w1.heap.size hs6).trans hv6))
      | (refine step_append_lays _ (by rfl) _ _ (by rfl) w2.heap.size (by have := hbA.size; simp <;> omega) v1 (0 + n) ([] ++ rowOf xs) (by rfl) (by repeat (first | exact ho1 | apply World.ownsRow.drew | refine World.ownsRow.alloc ?_ _)) _ 1 1 [⟨⟨J, t, d⟩, D, dc⟩] (by rfl) rfl (fun e => by cases e) (fun b e => by cases e; exact cells_one ⟨⟨J, t, d⟩, D, dc⟩ HDL (by first | exact heap_alloc_new _ _ | ((try simp only [heapd]); rw [hg1.block _ (by simp <;> omega) (by simp [Value.ownBlock] <;> omega)]; (simp only [heapd, heapa, World.size_alloc, if_true]; repeat (first | rw [if_pos (by omega)] | rw [if_neg (by omega)])); first | done | rfl))) (by omega) ?_
         intro v2 wB ho2 hg2 hq2
         obtain ⟨A2, c2, rfl⟩ := row_form ho2
         have hbB : Below w2.heap.size w2 wB := Below.grown (by repeat (first | exact hbA | apply Below.drew | refine Below.alloc ?_ (by have := hbA.size; simp <;> omega) _)) hg2 (by have := hbA.size; simp <;> omega) (fun q hq => (ho1.lt q hq).1)
         have hX := h6.step hbB
         have hVB := (hbB.block w1.heap.size hs6).trans hv6
         obtain ⟨_, ⟨q0, q1, q2, q3⟩⟩ := row4 hX.box))
    all_goals
      rw [Nat.zero_add, List.nil_append] at ho2
      have HE := Lib.hid (ents_set (b := w.heap.size) (k := 2) (added_ents hX.below (by omega) hxl (show xs.map (·.e) = r.l from HXS) hok hx ho2) (fun h => by rcases h with h | h <;> omega) (.slice A2 (n + 1) c2))
      have HX := Lib.hid (hX.turn2 (.slice A2 (n + 1) c2))
      have HV := Lib.hid ((Below.heap_setCell wB ⟨w.heap.size, 2, none⟩ (.slice A2 (n + 1) c2) w1.heap.size (by show w1.heap.size ≠ w.heap.size; omega)).trans hVB)
      clear ho2 hX hVB ho1 hbA hbB
      go_wp2_with fail
      go_meet
      exact ⟨HX, HV, A2, c2, rfl, HE⟩
  case rest =>
    obtain ⟨hX, hV, A5, c5, rfl, hE5⟩ := hcut
    have hMc := fun W => hM A5 (n + 1) c5 W
    have HE5 := Lib.hid hE5
    have hS0 := (hX.step (Below.refl _ _).drew).seen (T := 43) hV
    clear hM hE5 hcells hok hx l1 l2 m0 m1 m2
    go_upto_region 6 with fail
    have hW0 : Below wc.heap.size wc wc := Below.refl _ _
    obtain ⟨⟨b0, b1, b2, b3⟩, _⟩ := row4 hX.box
    obtain ⟨⟨x0, x1, x2⟩, _⟩ := row3 hV
    clear hS0
    go_region_with ((go_at_call 47
                     refine (hMc _).mono ?_
                     rintro e w3 ⟨rfl, hb3⟩
                     have hb3' : Below wc.heap.size wc w3 := by first | exact hW0.trans hb3 | exact hW0.drew.trans hb3
                     have hX3 := hX.step hb3'
                     have hV3 := (hb3'.block w1.heap.size (hlt hV)).trans hV
                     have he3 : w3.heap[w.heap.size + 1 + 1]? = some (.cells zE 43) := hX3.ent
                     obtain ⟨_, ⟨p0, p1, p2, p3⟩⟩ := row4 hX3.ans
                     obtain ⟨_, ⟨g0, g1, g2⟩⟩ := row3 he3
                     obtain ⟨⟨z0, z1, z2⟩, _⟩ := row3 hV3))
    all_goals
      obtain rfl : d.length = dl := HDL.out
      have ha4 := set4_at w3 (w.heap.size + 1) (.int .i64 r'.i) (.int .i64 r'.t) (.slice A5 (n + 1) c5) (.int .i64 r'.f) _ _ _ _ _ hX3.ans
      have he4 := (fill_off w3 (w.heap.size + 1) (.int .i64 r'.i) (.int .i64 r'.t) (.slice A5 (n + 1) c5) (.int .i64 r'.f) (w.heap.size + 1 + 1) (by omega)).trans he3
      have he5 := set3_at _ (w.heap.size + 1 + 1) (.int .i64 J) (.int .i64 t) (.slice D d.length dc) _ _ _ _ he4
      have ha5 := (fill3_off _ (w.heap.size + 1 + 1) (.int .i64 J) (.int .i64 t) (.slice D d.length dc) (w.heap.size + 1) (by omega)).trans ha4
      have hb5 := below_fill3 (below_fill hX3.below (w.heap.size + 1) (by omega) (.int .i64 r'.i) (.int .i64 r'.t) (.slice A5 (n + 1) c5) (.int .i64 r'.f)) (w.heap.size + 1 + 1) (by omega) (.int .i64 J) (.int .i64 t) (.slice D d.length dc)
      have hE6 := Ents.below (show Ents wc (fun q => (Z q ∧ q < w.heap.size) ∨ w.heap.size + 3 ≤ q) A5 (n + 1) c5 (r.l ++ [⟨J, t, d⟩]) from HE5.out) hb3' (Nat.le_refl _)
      have hE7 := (ents_fill3 (ents_fill hE6 (b := w.heap.size + 1) (fun h => by rcases h with h | h <;> omega) (.int .i64 r'.i) (.int .i64 r'.t) (.slice A5 (n + 1) c5) (.int .i64 r'.f)) (b := w.heap.size + 1 + 1) (fun h => by rcases h with h | h <;> omega) (.int .i64 J) (.int .i64 t) (.slice D d.length dc)).mono (Z' := Z) fun q hq => hq.elim (fun h => h.1) (fun h => hZ q (by omega))
      have HE7 := Lib.hid hE7
      clear hE6 hE7 he4 ha4 hX3 hV3 he3 hMc
      go_wp2
      refine bodyPost_ret (res_cell_cell_tmp (n := w.heap.size + 1) (m := w.heap.size + 1 + 1) rfl rfl ha5 Try.underlying32 rfl (by kernel_rfl) rfl he5 Try.underlying43 rfl (by kernel_rfl)) rfl ?_
      exact ⟨A5, c5, rfl, HE7.out, hb5⟩

end Go.Proofs.Ytlanjlboipnpfaa
