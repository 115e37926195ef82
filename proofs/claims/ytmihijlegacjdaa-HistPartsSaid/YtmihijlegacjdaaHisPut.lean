/- The document's Put and Del, by their contracts. (Written by mkputr.py.) -/
import Derived.Test.YtmihijlegacjdaaHisSame
namespace Go.Proofs.Ytmihijlegacjdaa
open Go.RowKit
set_option linter.unusedVariables false
set_option linter.unusedSimpArgs false
attribute [local go_sem] Oper.semAt_some

theorem Own14.from {w w1 w' : World} {R : Option Addr} {n c : Nat} {l : List Ver} (h : Own14 w1 w' R n c l) (hs : w.heap.size ≤ w1.heap.size) : Own14 w w' R n c l := ⟨h.sp, fun q hq => Nat.le_trans hs (h.new q hq)⟩

set_option maxRecDepth 100000 in
set_option maxHeartbeats 3200000 in
theorem putR_any (A : Option Addr) (len cap : Nat) (l : List Ver) (r m : Int) (s : ByteArray) (le : Int) (w : World) (h : Vers w A len l) (hm : len ≤ 900000) (hw : ∀ x ∈ l, -9223372036854775808 ≤ x.v ∧ x.v ≤ 9223372036854775807) :
    Calls Try.prog 29 #[.slice A len cap, .int .i64 r, .int .i64 m, .string s, .int .i64 le] w fun e w' => ∃ R n c, e = .returned (.tuple #[.slice R n c, .bool (His.putL l r m s le).isSome]) ∧ Own14 w w' R n c ((His.putL l r m s le).getD []) ∧ Below w.heap.size w w' := by
  have hll := h.1
  obtain ⟨W1, hW1⟩ : ∃ W1, w.alloc (.cells #[.int .i64 r, .int .i64 m, .int .i64 m, .int .i64 1, .string s, .int .i64 le, .bool false] 26) = W1 := ⟨_, rfl⟩
  have hb1 : Below w.heap.size w W1 := by rw [← hW1]; exact (Below.refl _ _).alloc (Nat.le_refl _) _
  have hr1 : W1.heap[w.heap.size]? = some (.cells #[.int .i64 r, .int .i64 m, .int .i64 m, .int .i64 1, .string s, .int .i64 le, .bool false] 26) := by rw [← hW1]; exact heap_alloc_new w _
  have hbx := (row7 hr1).1
  have HV := Lib.hid (And.intro h (And.intro hb1 (And.intro hr1 hw)))
  have hadd := fun (x : Ver) (W : World) (hW : Below w.heap.size w W) => addR_any A len cap l x W (h.below hW) hm
  have HA := Lib.hid hadd
  have HW := Lib.hid hW1
  clear h hb1 hr1 hw hadd hW1
  by_cases h0 : len = 0
  · have e0 : His.putL l r m s le = His.addL l ⟨r, m, m, 1, s, le, false⟩ := by
      obtain rfl : l = [] := List.eq_nil_of_length_eq_zero (by omega)
      rfl
    have HE := Lib.hid e0
    have l1 : decide ((0 : Int) < (len : Int)) = false := decide_eq_false (by omega)
    have l2 : decide (0 < len) = false := decide_eq_false (by omega)
    have l3 : ¬ (0 < len) := by omega
    have hA := HA.out ⟨r, m, m, 1, s, le, false⟩ W1 HV.out.2.1
    obtain ⟨x0, x1, x2, x3, x4, x5, x6⟩ := hbx
    subst h0
    clear e0
    go_enter Try.func29, Try.ntmps29
    go_upto_region 2 with fail
    rw [HW.out]
    go_wp2_with fail
    refine hA.mono ?_
    rintro e w3 ⟨R, n, c, rfl, hO, hb3⟩
    have HZ := Lib.hid (And.intro (hO.from HV.out.2.1.size) (HV.out.2.1.trans (hb3.mono HV.out.2.1.size)))
    clear hO hb3 hA
    go_wp2
    refine bodyPost_ret (results_tmp2 rfl _ _ _) rfl ?_
    exact ⟨R, n, c, by rw [HE.out]; rfl, by rw [HE.out]; exact HZ.out.1, HZ.out.2⟩
  · have l1 : decide ((0 : Int) < (len : Int)) = true := decide_eq_true (by omega)
    have l2 : decide (0 < len) = true := decide_eq_true (by omega)
    have l3 : 0 < len := by omega
    have k3 : IntKind.i64.wrap ((len : Int) - 1) = ((len - 1 : Nat) : Int) := by rw [IntWalk.i64_in _ (by omega)]; omega
    have k4 : ((len - 1 : Nat) : Int) < (len : Int) := by omega
    obtain ⟨g, off, rfl, hg, hc⟩ := (HV.out.1.below HV.out.2.1).2 (by omega)
    obtain ⟨c0, c1, c2, c3, c4, c5, c6⟩ := hc (len - 1) (by omega)
    have hlast : l.getLast? = l[len - 1]? := by rw [List.getLast?_eq_getElem?, hll]
    rw [List.getElem?_eq_getElem (show len - 1 < l.length by omega)] at hlast
    have hgw : g < w.heap.size := by
      obtain ⟨g', o', e', hg', _⟩ := HV.out.1.2 (by omega)
      injection e' with e'
      injection e' with e1
      omega
    have hyw := HV.out.2.2.2 _ (List.getElem_mem (show len - 1 < l.length by omega))
    obtain ⟨y, hy⟩ : ∃ y, l[len - 1]'(by omega) = y := ⟨_, rfl⟩
    rw [hy] at c0 c1 c2 c3 c4 c5 c6 hlast hyw
    have hput : His.putL l r m s le = (if y.g = true then some (⟨r, m, m, 1, s, le, false⟩ : Ver) else if 1099511627776 ≤ y.v then none else some ⟨r, y.k, m, y.v + 1, s, le, false⟩).bind (His.addL l) := by
      unfold His.putL His.putV
      rw [hlast]
      rfl
    clear hc hy hlast
    generalize len - 1 = k' at *
    cases hyg : y.g with
    | true =>
      rw [hyg] at c6
      rw [if_pos hyg] at hput
      have HE := Lib.hid hput
      have hA := HA.out ⟨r, m, m, 1, s, le, false⟩ W1 HV.out.2.1
      obtain ⟨x0, x1, x2, x3, x4, x5, x6⟩ := hbx
      clear hput hyg
      go_enter Try.func29, Try.ntmps29
      go_upto_region 2 with fail
      rw [HW.out]
      go_wp2_with fail
      refine hA.mono ?_
      rintro e w3 ⟨R, n, c, rfl, hO, hb3⟩
      have HZ := Lib.hid (And.intro (hO.from HV.out.2.1.size) (HV.out.2.1.trans (hb3.mono HV.out.2.1.size)))
      clear hO hb3 hA
      go_wp2
      refine bodyPost_ret (results_tmp2 rfl _ _ _) rfl ?_
      exact ⟨R, n, c, by rw [HE.out]; rfl, by rw [HE.out]; exact HZ.out.1, HZ.out.2⟩
    | false =>
      rw [hyg] at c6
      rw [if_neg (by rw [hyg]; decide)] at hput
      by_cases hv : 1099511627776 ≤ y.v
      · have e1 : decide (1099511627776 ≤ y.v) = true := decide_eq_true hv
        rw [if_pos hv] at hput
        have HE := Lib.hid hput
        clear hput hyg hv
        go_enter Try.func29, Try.ntmps29
        go_upto_region 2 with fail
        rw [HW.out]
        go_wp2
        refine bodyPost_ret (results_tmp2 rfl _ _ _) rfl ?_
        exact ⟨none, 0, 0, by rw [HE.out]; rfl, by rw [HE.out]; exact Own14.none _ _, HV.out.2.1⟩
      · have e1 : decide (1099511627776 ≤ y.v) = false := decide_eq_false hv
        rw [if_neg hv] at hput
        have HE := Lib.hid hput
        have k5 : IntKind.i64.wrap (y.v + 1) = y.v + 1 := IntWalk.i64_in _ (by omega)
        have HG := Lib.hid (And.intro hgw hg)
        clear hput hyg hv
        go_enter Try.func29, Try.ntmps29
        go_upto_region 2 with fail
        rw [HW.out]
        go_upto_region 6 with fail
        have hr1 := HV.out.2.2.1
        have fr1 := (row7 hr1).2
        have hgl : g < w.heap.size := HG.out.1
        have x1 := hbx.2.1
        have f1 : W1.drew.frozen? ⟨w.heap.size, 1, none⟩ = false := fr1.2.1
        have hfar : ∀ (W : World) (j : Nat) (v : Value) (o : Nat), (W.setCell ⟨w.heap.size, j, none⟩ v).cell? ⟨g, o, none⟩ = W.cell? ⟨g, o, none⟩ := fun W j v o => World.cell?_of_block (Below.heap_setCell _ _ _ _ (by show g ≠ w.heap.size; omega))
        have HF := Lib.hid (And.intro hfar (And.intro hr1 hgl))
        clear hbx hr1 fr1 hgl hfar
        refine wp_region_held_drew (S := (fun w' => w'.cell? ⟨g, off + k' * 7 + 1, none⟩ = some (.int .i64 y.k) ∧ w'.cell? ⟨g, off + k' * 7 + 3, none⟩ = some (.int .i64 y.v))) (by kernel_rfl) ⟨c1, c3⟩ (fun hHeld => ?_)
        refine lsq 17 ?_
        refine tkq 0 ?_
        refine tkq 1 ?_
        refine tkq 2 ?_
        refine tkq 3 ?_
        refine tkq 4 ?_
        refine tkq 5 ?_
        refine tkq 6 ?_
        refine tkq 7 ?_
        refine tkq 8 ?_
        refine tkq 9 ?_
        refine tkq 10 ?_
        refine tkq 11 ?_
        refine tkq 12 ?_
        refine tkq 13 ?_
        refine rdq1 14 fun KK hK => ?_
        go_simp
        refine hK.out _ _ ⟨(HF.out.1 _ _ _ _).trans hHeld.1, (HF.out.1 _ _ _ _).trans hHeld.2⟩ ?_
        clear hK KK hHeld f1 x1
        intro hHeld
        try simp only [lpq]
        obtain ⟨W2, hW2⟩ : ∃ W2, (W1.setCell ⟨w.heap.size, 1, none⟩ (.int .i64 y.k)).drew = W2 := ⟨_, rfl⟩
        rw [hW2] at hHeld ⊢
        have hr2 : W2.heap[w.heap.size]? = some (.cells #[.int .i64 r, .int .i64 y.k, .int .i64 m, .int .i64 1, .string s, .int .i64 le, .bool false] 26) := by rw [← hW2]; exact setCell_at W1 ⟨w.heap.size, 1, none⟩ (.int .i64 y.k) _ _ _ rfl HF.out.2.1
        have hb2 : Below w.heap.size w W2 := by rw [← hW2]; exact (HV.out.2.1.setCell (p := ⟨w.heap.size, 1, none⟩) (Nat.le_refl _) _).drew
        have x3 := (row7 hr2).1.2.2.2.1
        have f3 := (row7 hr2).2.2.2.2.1
        clear hW2
        refine tkq 15 ?_
        refine rdq1 16 fun KK hK => ?_
        go_simp
        refine hK.out _ _ ⟨(HF.out.1 _ _ _ _).trans hHeld.1, (HF.out.1 _ _ _ _).trans hHeld.2⟩ ?_
        clear hK KK hHeld f3 x3
        intro hHeld
        try simp only [lpq]
        refine dnq ?_
        obtain ⟨W9, hW9⟩ : ∃ W9, W2.setCell ⟨w.heap.size, 3, none⟩ (.int .i64 (y.v + 1)) = W9 := ⟨_, rfl⟩
        rw [hW9]
        have hr3 : W9.heap[w.heap.size]? = some (.cells #[.int .i64 r, .int .i64 y.k, .int .i64 m, .int .i64 (y.v + 1), .string s, .int .i64 le, .bool false] 26) := by rw [← hW9]; exact setCell_at W2 ⟨w.heap.size, 3, none⟩ (.int .i64 (y.v + 1)) _ _ _ rfl hr2
        have hb3 : Below w.heap.size w W9 := by rw [← hW9]; exact hb2.setCell (p := ⟨w.heap.size, 3, none⟩) (Nat.le_refl _) _
        have hr9 : W9.heap[w.heap.size]? = some (.cells #[.int .i64 r, .int .i64 y.k, .int .i64 m, .int .i64 (y.v + 1), .string s, .int .i64 le, .bool false] 26) := hr3
        obtain ⟨x0, x1, x2, x3, x4, x5, x6⟩ := (row7 hr9).1
        have hA := HA.out ⟨r, y.k, m, y.v + 1, s, le, false⟩ W9 hb3
        have HB9 := Lib.hid hb3
        clear hW9 hr2 hr3 hr9 hb2 hb3 hHeld c0 c1 c2 c3 c4 c5 c6
        go_wp2_with fail
        refine hA.mono ?_
        rintro e w3 ⟨R, n, c, rfl, hO, hb3⟩
        have HZ := Lib.hid (And.intro (hO.from HB9.out.size) (HB9.out.trans (hb3.mono HB9.out.size)))
        clear hO hb3 hA
        go_wp2
        refine bodyPost_ret (results_tmp2 rfl _ _ _) rfl ?_
        exact ⟨R, n, c, by rw [HE.out]; rfl, by rw [HE.out]; exact HZ.out.1, HZ.out.2⟩

end Go.Proofs.Ytmihijlegacjdaa
