/- set of the program's disk: a name has another file. -/
import Derived.Test.YtnkfdnehkihbeaaDskCore
import Derived.Deep.Cut
import Derived.Deep.DeepCutAuto
namespace Go.Proofs.Ytnkfdnehkihbeaa
open Go.RowKit
set_option linter.unusedVariables false
set_option linter.unusedSimpArgs false

/-- What a name has, as the program's own map answers it. -/
theorem Dt.gets {w : World} {d : Nat} {D : Dsk} {M Z : Nat → Prop} {X : ByteArray → Prop} {t : FT} (h : Dt w d D M Z X t) (name : ByteArray) :
    ∃ v ok, (getF D.l name).1.b.size = v.l.length ∧ (getF D.l name).1.safe = v.safe ∧ (ok = true → (name, v) ∈ t.list) ∧ (ok = false → v = noFV) ∧ (getF D.l name).2 = ok ∧
      ∀ (P : Nat → Prop) (w' : World) (u : Option Addr), MapFl.Rp P w' u t → Calls Try.prog 54 #[.agg #[.pointer u], .string name] w' fun e w'' => e = .returned (.tuple #[fvV v, .bool ok]) ∧ Below w'.heap.size w' w'' := by
  rcases h.has name with ⟨v, a, b, hf, hmem, hget⟩ | ⟨hf, hno, hget⟩
  · refine ⟨v, true, by rw [hget]; rfl, by rw [hget]; rfl, (fun _ => hmem), (fun e => by cases e), by rw [hget], fun P w' u hr => MapFl.get_yes t u name name v a b w' hr hf⟩
  · exact ⟨noFV, false, by rw [hget]; rfl, by rw [hget]; rfl, (fun e => by cases e), (fun _ => rfl), by rw [hget], fun P w' u hr => MapFl.get_no t u name w' hr hf⟩

set_option maxHeartbeats 2000000 in
theorem set_any (w : World) (d : Nat) (D : Dsk) (M Z : Nat → Prop) (t : FT) (name : ByteArray) (v : FV) (h : Dt w d D M Z (· = name) t) (hM : ∀ k, M k → k < w.heap.size)
    (hv : FRow w 0 v) (hvo : ∀ g, blk v = some g → ¬ M g ∧ ¬ Z g) (hva : ∀ p ∈ t.list, p.1 ≠ name → ∀ g, blk v = some g → blk p.2 ≠ some g)
    (hu : usedF D.l ≤ 2000000000) (hvl : v.l.length ≤ 2000000000) (hs : t.size + 1 ≤ 4000000) :
    Calls Try.prog 39 #[.pointer (some ⟨d, 0, none⟩), .string name, fvV v] w fun e w' => e = .returned (.tuple #[]) ∧ ∃ t', Dt w' d { D with l := putF D.l (filOf (name, v)) } M Z noX t' ∧ (∀ p ∈ t'.list, p = (name, v) ∨ (p ∈ t.list ∧ p.1 ≠ name)) ∧ (∀ p ∈ t.list, p.1 ≠ name → p ∈ t'.list) ∧ Keeps (· ≠ d) w w' := by
  obtain ⟨v0, ok, g1, _, _, _, _, hG⟩ := h.gets name
  have hused := h.used (filOf (name, v))
  have hfn : (filOf (name, v)).name = name := rfl
  have hfb : (filOf (name, v)).b.size = v.l.length := rfl
  rw [hfn, g1, hfb] at hused
  obtain ⟨u, hbx, hr⟩ := h.box
  have hd := h.lt
  obtain ⟨⟨a0, a1, a2, a3, a4⟩, ⟨f0, f1, f2, f3, f4⟩⟩ := row5 hbx
  have hRp : ∀ w', Keeps (· ≠ d) w w' → MapFl.Rp (Pn M w) w' u t := fun w' hk => rp_keeps hbx (List.toList_toArray) hr hk
  have e1 : IntKind.i64.wrap ((v.l.length : Int) - (v0.l.length : Int)) = (v.l.length : Int) - (v0.l.length : Int) := IntWalk.i64_in _ (by omega)
  have e2 : IntKind.i64.wrap ((usedF D.l : Int) + ((v.l.length : Int) - (v0.l.length : Int))) = ((usedF (putF D.l (filOf (name, v))) : Nat) : Int) := by
    rw [IntWalk.i64_in _ (by omega)]; omega
  have hG' := fun w' (hb : Below w.heap.size w w') => hG (Pn M w) w' u (hr.below hb (Nat.le_refl _))
  clear hG g1 hused hfn hfb
  have HX := Lib.hid hbx
  have HD := Lib.hid h
  have HV := Lib.hid hv
  have HO := Lib.hid hvo
  have HA := Lib.hid hva
  have hbst := h.bst
  have hfil := Lib.hid h.fil
  by_cases hz : v.l.length = 0
  · have hP := fun w' hk => MapFl.del_map t u name w' (hRp w' hk) hbst (by omega)
    have hz' : ((v.l.length : Int) == 0) = true := by simp [hz]
    have HZ := Lib.hid hz
    clear hz
    have hL : ∀ t', (t' = Tr.del ltS t name ∧ Tr.find ltS name t ≠ .nil ∨ t' = t ∧ Tr.find ltS name t = .nil) → Hid (t'.list = Tr.delL ltS name t.list ∧ Tr.Bst ltS t') := fun t' hh => ⟨by
      rcases hh with ⟨rfl, _⟩ | ⟨rfl, hn⟩
      · exact ⟨Tr.list_del linS t name hbst, hbst.del linS name⟩
      · refine ⟨?_, hbst⟩
        have hno := Tr.find_mem linS name t' hbst hn
        refine (List.filter_eq_self.2 fun p hp => ?_).symm
        cases h1 : ltS p.1 name with
        | true => rfl
        | false =>
          cases h2 : ltS name p.1 with
          | true => rfl
          | false => exact absurd (ltS_con h1 h2) (hno p hp)⟩
    clear hRp hr hbx h hv hvo hva hbst
    go_enter Try.func39, Try.ntmps39
    go_wp2_with (first
      | (go_at_call 54
         refine (hG' _ (by repeat (first | exact Below.refl _ _ | refine Below.alloc ?_ (by simp <;> omega) _))).mono ?_
         rintro e w1 ⟨rfl, hb1⟩
         have hb : Below w.heap.size w w1 := Tr.below_of hb1 (by repeat (first | exact Below.refl _ _ | refine Below.alloc ?_ (by simp <;> omega) _))
         have b1 := (hb.cell (p := ⟨d, 1, none⟩) hd).trans a1
         have b2 := (hb.cell (p := ⟨d, 2, none⟩) hd).trans a2
         have q1 := (hb.frozen (p := ⟨d, 1, none⟩) hd).trans f1
         have q2 := (hb.frozen (p := ⟨d, 2, none⟩) hd).trans f2
         have hr1 := (hb1.block w.heap.size (by simp)).trans (heap_alloc_new _ _)
         obtain ⟨⟨k0, k1⟩, _⟩ := row2 hr1
         have hz1 : w.heap.size < w1.heap.size := Go.Proofs.Ytnkfdnehkihbeaa.hlt hr1
         have hd1 : d < w1.heap.size := Nat.lt_of_lt_of_le hd hb.size)
      | fail)
    go_region
    go_wp2_with fail
    generalize hW : World.drew _ = W2
    have kk : Keeps (· ≠ d) w W2 := by
      rw [← hW]
      exact ((keeps_below hb (Nat.le_refl _)).trans ((keeps_store _).trans (keeps_alloc _ _))).drew
    have hbx2 : W2.heap[d]? = some (.cells #[.int .i64 D.room, .int .i64 ((usedF (putF D.l (filOf (name, v))) : Nat) : Int), .pointer u, .int .i64 (fuseOf D), .bool D.lost] 73) := by
      rw [← hW]
      refine (Below.heap_alloc _ _ _ (by simp; omega)).trans ?_
      rw [setCell_at w1 ⟨d, 1, none⟩ _ _ _ _ rfl ((hb.block d hd).trans HX.out)]
      rfl
    have hr2 : W2.heap[w.heap.size]? = some (.cells #[fvS v, fvN v] 83) := by
      rw [← hW]
      exact (Below.heap_alloc _ _ _ (by simp; omega)).trans ((Below.heap_setCell _ _ _ _ (by show w.heap.size ≠ d; omega)).trans hr1)
    clear hW hb1 hb hr1 k0 k1 b1 b2 q1 q2 a0 a1 a2 a3 a4 f0 f1 f2 f3 f4 hz1 hd1 hG'
    obtain ⟨⟨a0, a1, a2, a3, a4⟩, ⟨f0, f1, f2, f3, f4⟩⟩ := row5 hbx2
    obtain ⟨⟨k0, k1⟩, _⟩ := row2 hr2
    have hd2 : d < W2.heap.size := Go.Proofs.Ytnkfdnehkihbeaa.hlt hbx2
    have HK := Lib.hid kk
    have HBX := Lib.hid hbx2
    clear kk hbx2 hr2
    refine (hP _ HK.out).mono ?_
    rintro e w3 ⟨u1, t', rfl, hr3, ht', hb3⟩
    have hbx3 := (hb3.block d hd2).trans HBX.out
    obtain ⟨⟨p0, p1, p2, p3, p4⟩, ⟨m0, m1, m2, m3, m4⟩⟩ := row5 hbx3
    have kk := HK.out
    go_wp2_with fail
    refine bodyPost_end (results_none rfl _ _ _) rfl ?_
    refine ⟨rfl, t', HD.out.fin (kk.trans ((keeps_below hb3 (Nat.le_refl _)).trans (keeps_store _))) hM (by rw [setCell_at w3 ⟨d, 2, none⟩ _ _ _ _ rfl hbx3]; rfl) (hr3.setCell' hbx3) (hL t' ht').out.2 (by rw [(hL t' ht').out.1, map_delL HD.out.bst name (filOf (name, v)) rfl HZ.out, hfil.out]) (fun p hp => .inr (mem_delL ((hL t' ht').out.1 ▸ hp))) HV.out HO.out HA.out, (fun p hp => .inr (mem_delL ((hL t' ht').out.1 ▸ hp))), (fun p hp hn => by rw [(hL t' ht').out.1]; exact in_delL hp hn), kk.trans ((keeps_below hb3 (Nat.le_refl _)).trans (keeps_store _))⟩
  · have hz' : ¬ ((v.l.length : Int) = 0) := by omega
    have hP := fun w' hk => MapFl.put_map t u name v w' (hRp w' hk) hs
    have hlp := Lib.hid (Tr.list_put linS name v t hbst)
    have hbp := Lib.hid (hbst.put linS name v)
    clear hRp hr hbx h hv hvo hva hbst
    go_enter Try.func39, Try.ntmps39
    go_wp2_with (first
      | (go_at_call 54
         refine (hG' _ (by repeat (first | exact Below.refl _ _ | refine Below.alloc ?_ (by simp <;> omega) _))).mono ?_
         rintro e w1 ⟨rfl, hb1⟩
         have hb : Below w.heap.size w w1 := Tr.below_of hb1 (by repeat (first | exact Below.refl _ _ | refine Below.alloc ?_ (by simp <;> omega) _))
         have b1 := (hb.cell (p := ⟨d, 1, none⟩) hd).trans a1
         have b2 := (hb.cell (p := ⟨d, 2, none⟩) hd).trans a2
         have q1 := (hb.frozen (p := ⟨d, 1, none⟩) hd).trans f1
         have q2 := (hb.frozen (p := ⟨d, 2, none⟩) hd).trans f2
         have hr1 := (hb1.block w.heap.size (by simp)).trans (heap_alloc_new _ _)
         obtain ⟨⟨k0, k1⟩, _⟩ := row2 hr1
         have hz1 : w.heap.size < w1.heap.size := Go.Proofs.Ytnkfdnehkihbeaa.hlt hr1
         have hd1 : d < w1.heap.size := Nat.lt_of_lt_of_le hd hb.size)
      | fail)
    go_region
    go_wp2_with fail
    generalize hW : World.drew _ = W2
    have kk : Keeps (· ≠ d) w W2 := by
      rw [← hW]
      exact ((keeps_below hb (Nat.le_refl _)).trans ((keeps_store _).trans (keeps_alloc _ _))).drew
    have hbx2 : W2.heap[d]? = some (.cells #[.int .i64 D.room, .int .i64 ((usedF (putF D.l (filOf (name, v))) : Nat) : Int), .pointer u, .int .i64 (fuseOf D), .bool D.lost] 73) := by
      rw [← hW]
      refine (Below.heap_alloc _ _ _ (by simp; omega)).trans ?_
      rw [setCell_at w1 ⟨d, 1, none⟩ _ _ _ _ rfl ((hb.block d hd).trans HX.out)]
      rfl
    have hr2 : W2.heap[w.heap.size]? = some (.cells #[fvS v, fvN v] 83) := by
      rw [← hW]
      exact (Below.heap_alloc _ _ _ (by simp; omega)).trans ((Below.heap_setCell _ _ _ _ (by show w.heap.size ≠ d; omega)).trans hr1)
    clear hW hb1 hb hr1 k0 k1 b1 b2 q1 q2 a0 a1 a2 a3 a4 f0 f1 f2 f3 f4 hz1 hd1 hG'
    obtain ⟨⟨a0, a1, a2, a3, a4⟩, ⟨f0, f1, f2, f3, f4⟩⟩ := row5 hbx2
    obtain ⟨⟨k0, k1⟩, _⟩ := row2 hr2
    have hd2 : d < W2.heap.size := Go.Proofs.Ytnkfdnehkihbeaa.hlt hbx2
    have HK := Lib.hid kk
    have HBX := Lib.hid hbx2
    clear kk hbx2 hr2
    go_region_with (first
      | (go_at_call 56
         refine (hP _ (by first | exact HK.out | exact HK.out.drew)).mono ?_
         rintro e w3 ⟨u1, rfl, hr3, hb3⟩
         have hbx3 := (hb3.block d hd2).trans HBX.out
         obtain ⟨⟨p0, p1, p2, p3, p4⟩, ⟨m0, m1, m2, m3, m4⟩⟩ := row5 hbx3)
      | fail)
    all_goals
      have kk := HK.out.drew
      go_wp2_with fail
      refine bodyPost_end (results_none rfl _ _ _) rfl ?_
      refine ⟨rfl, _, HD.out.fin (kk.trans ((keeps_below hb3 (Nat.le_refl _)).trans (keeps_store _))) hM (by rw [setCell_at w3 ⟨d, 2, none⟩ _ _ _ _ rfl hbx3]; rfl) (hr3.setCell' hbx3) hbp.out (by rw [hlp.out, map_insL _ _ _ (Nat.pos_of_ne_zero hz), hfil.out]) (fun p hp => mem_insL (hlp.out ▸ hp)) HV.out HO.out HA.out, (fun p hp => mem_insL (hlp.out ▸ hp)), (fun p hp hn => by rw [hlp.out]; exact in_insL hp hn), kk.trans ((keeps_below hb3 (Nat.le_refl _)).trans (keeps_store _))⟩

end Go.Proofs.Ytnkfdnehkihbeaa
