/- Awake; an act by the program and by the document: they answer alike. (Written by mkph.py.) -/
import Derived.Test.YtmihijlegacjdaaHisPg
import Derived.Test.YtmihijlegacjdaaHisDel
import Derived.Test.YtmihijlegacjdaaHisFew
namespace Go.Proofs.Ytmihijlegacjdaa
open Go.RowKit
set_option linter.unusedVariables false
set_option linter.unusedSimpArgs false
attribute [local go_sem] Oper.semAt_some

theorem aw_1 : His.putL [] 5 5 ⟨#[97]⟩ 0 = some [⟨5, 5, 5, 1, ⟨#[97]⟩, 0, false⟩] := by decide +kernel
theorem aw_2 : His.liveL [⟨5, 5, 5, 1, ⟨#[97]⟩, 0, false⟩] = some ⟨5, 5, 5, 1, ⟨#[97]⟩, 0, false⟩ := by decide +kernel

set_option maxRecDepth 100000 in
set_option maxHeartbeats 3200000 in
theorem awake14_any (w : World) : Calls Try.prog 9 #[] w fun e w' => e = .returned (.bool true) ∧ Below w.heap.size w w' := by
  have hP := putP_any none 0 0 [] 5 5 ⟨#[97]⟩ 0 w (Vers.nil w none) (Nat.le_refl _) (by omega)
  have hL := fun R n c W (h : Vers W R n [⟨5, 5, 5, 1, ⟨#[97]⟩, 0, false⟩]) (hc : n ≤ c) (hn : n ≤ 900000) => liveP_any R n c [⟨5, 5, 5, 1, ⟨#[97]⟩, 0, false⟩] W h hc hn
  rw [aw_1] at hP
  rw [aw_2] at hL
  dsimp only [Option.getD] at hP
  rw [show His.errO (some [⟨5, 5, 5, 1, ⟨#[97]⟩, 0, false⟩]) = 0 from rfl] at hP
  unfold atV at hL
  dsimp only [verV, Option.getD, Option.isSome] at hL
  go_enter Try.func9, Try.ntmps9
  go_wp2_with fail
  refine hP.mono ?_
  rintro e w2 ⟨R, n, c, rfl, hO, hb2⟩
  have hn := hO.len
  have hn1 : n = 1 := hn.symm
  have hL2 := hL R n c w2 hO.sp.vers hO.sp.2.1 (by omega)
  have HB := Lib.hid hb2
  clear hP hL hO hb2 hn hn1
  go_wp2_with fail
  refine hL2.mono ?_
  rintro e w3 ⟨rfl, hb3⟩
  have hb := HB.out.trans (hb3.mono HB.out.size)
  have hbz := hb.alloc (o := .cells #[.int .i64 5, .int .i64 5, .int .i64 5, .int .i64 1, .string ⟨#[97]⟩, .int .i64 0, .bool false] 26) hb.size
  have HZ := Lib.hid hbz
  clear hL2 hb3 hb hbz
  go_wp2
  go_ret
  exact ⟨rfl, HZ.out⟩

theorem row12 {w : World} {g : Nat} {v0 v1 v2 v3 v4 v5 v6 v7 v8 v9 v10 v11 : Value} {T : TypeId} (h : w.heap[g]? = some (.cells #[v0, v1, v2, v3, v4, v5, v6, v7, v8, v9, v10, v11] T)) :
    w.cell? ⟨g, 0, none⟩ = some v0 ∧ w.cell? ⟨g, 1, none⟩ = some v1 ∧ w.cell? ⟨g, 2, none⟩ = some v2 ∧ w.cell? ⟨g, 3, none⟩ = some v3 ∧ w.cell? ⟨g, 4, none⟩ = some v4 ∧ w.cell? ⟨g, 5, none⟩ = some v5 ∧ w.cell? ⟨g, 6, none⟩ = some v6 ∧ w.cell? ⟨g, 7, none⟩ = some v7 ∧ w.cell? ⟨g, 8, none⟩ = some v8 ∧ w.cell? ⟨g, 9, none⟩ = some v9 ∧ w.cell? ⟨g, 10, none⟩ = some v10 ∧ w.cell? ⟨g, 11, none⟩ = some v11 := by
  refine ⟨?_, ?_, ?_, ?_, ?_, ?_, ?_, ?_, ?_, ?_, ?_, ?_⟩ <;> simp [World.cell?, h]

theorem His.del_len (l : List Ver) (r m : Int) : (His.delL l r m).1.length ≤ l.length + 1 := by
  rw [His.del_is]
  cases ho : His.addL l (His.goneV r m) with
  | none => exact Nat.zero_le _
  | some o =>
    have := His.add_len ho
    dsimp only
    cases His.liveL l with
    | none => exact Nat.zero_le _
    | some y => show o.length ≤ _; omega

set_option maxRecDepth 100000 in
set_option maxHeartbeats 6400000 in
theorem do14_any (A : Option Addr) (len cap : Nat) (l : List Ver) (a : HAct) (w : World) (h : Vers w A len l) (hlc : len ≤ cap) (hm : len ≤ 1000) (hR : His.Right l) :
    Calls Try.prog 18 #[.slice A len cap, hactV a] w fun e w' => ∃ R n c, e = .returned (.tuple #[.slice R n c, .bool true]) ∧ Vers w' R n (His.doL l a) ∧ n ≤ c ∧ Below w.heap.size w w' := by
  have hv := fun x hx => His.ver_v (hR.ver x hx)
  obtain ⟨kd, r, m, s, le, x⟩ := a
  have hdo : His.doL l ⟨kd, r, m, s, le, x⟩ = if kd = 0 then (His.putL l r m s le).getD l else if kd = 1 then (if (His.delL l r m).2 = 0 then (His.delL l r m).1 else l) else (His.addL l x).getD l := rfl
  have hadp := fun W (hW : Below w.heap.size w W) => addP_any A len cap l x W (h.below hW) hlc (by omega)
  have hadr := fun W (hW : Below w.heap.size w W) => addR_any A len cap l x W (h.below hW) (by omega)
  obtain ⟨xr, xk, xm, xv, xs, xl, xg⟩ := x
  dsimp only [hactV, verV] at hadp hadr ⊢
  obtain ⟨T, hT⟩ : ∃ T, His.doL l ⟨kd, r, m, s, le, ⟨xr, xk, xm, xv, xs, xl, xg⟩⟩ = T := ⟨_, rfl⟩
  rw [hT] at hdo ⊢
  clear hT
  generalize (⟨xr, xk, xm, xv, xs, xl, xg⟩ : Ver) = x at *
  obtain ⟨W1, hW1⟩ : ∃ W1, w.alloc (.cells #[.int .u8 kd, .int .i64 r, .int .i64 m, .string s, .int .i64 le, .int .i64 xr, .int .i64 xk, .int .i64 xm, .int .i64 xv, .string xs, .int .i64 xl, .bool xg] 37) = W1 := ⟨_, rfl⟩
  have hb1 : Below w.heap.size w W1 := by rw [← hW1]; exact (Below.refl _ _).alloc (Nat.le_refl _) _
  have hr1 : W1.heap[w.heap.size]? = some (.cells #[.int .u8 kd, .int .i64 r, .int .i64 m, .string s, .int .i64 le, .int .i64 xr, .int .i64 xk, .int .i64 xm, .int .i64 xv, .string xs, .int .i64 xl, .bool xg] 37) := by rw [← hW1]; exact heap_alloc_new w _
  have HW := Lib.hid hW1
  have HH := Lib.hid (And.intro h (And.intro hb1 hr1))
  clear hW1
  go_enter Try.func18, Try.ntmps18
  go_upto_region 1 with fail
  rw [HW.out]
  obtain ⟨y0, y1, y2, y3, y4, y5, y6, y7, y8, y9, y10, y11⟩ := row12 hr1
  by_cases h0 : kd = 0
  · have l1 : (kd == (0 : Int)) = true := by rw [h0]; rfl
    have HK := Lib.hid h0
    have hP := putP_any A len cap l r m s le W1 (h.below hb1) hlc (by omega)
    have hQ := fun W (hW : Below w.heap.size w W) => putR_any A len cap l r m s le W (h.below hW) (by omega) hv
    clear h hb1 hr1 hv hadp hadr h0
    have hlen := fun o => His.put_len (l := l) (o := o) (r := r) (m := m) (s := s) (le := le)
    have hll := HH.out.1.1
    obtain ⟨o, ho⟩ : ∃ o, His.putL l r m s le = o := ⟨_, rfl⟩
    have HT := Lib.hid (show T = o.getD l by rw [hdo, if_pos HK.out, ho])
    rw [ho] at hP hQ hlen
    have HL := Lib.hid hlen
    clear ho hlen hdo
    go_wp2_with fail
    refine hP.mono ?_
    rintro e w2 ⟨R1, n1, c1, rfl, hO1, hb2⟩
    have hb := HH.out.2.1.trans (hb2.mono HH.out.2.1.size)
    have hr2 := (hb2.block _ (hlq HH.out.2.2)).trans HH.out.2.2
    have hQ2 := hQ w2 hb
    have H2 := Lib.hid (And.intro hO1 hb)
    clear y0 y1 y2 y3 y4 y5 y6 y7 y8 y9 y10 y11
    obtain ⟨y0, y1, y2, y3, y4, y5, y6, y7, y8, y9, y10, y11⟩ := row12 hr2
    clear hP hQ hO1 hb2 hb hr2
    cases o with
    | none =>
      rw [show His.errO none = 1 from rfl]
      dsimp only [Option.isSome] at hQ2
      go_wp2_with fail
      refine hQ2.mono ?_
      rintro e w3 ⟨R2, n2, c2, rfl, hO2, hb3⟩
      have hb := H2.out.2.trans (hb3.mono H2.out.2.size)
      have hO1 := H2.out.1.next hb3
      have hl1 : n1 = 0 := hO1.len.symm
      have hl2 : n2 = 0 := hO2.len.symm
      have hS := sameR_any R1 n1 c1 [] R2 n2 c2 [] w3 hO1.sp.vers hO2.sp.vers (by unfold maxLen; omega) (by unfold maxLen; omega)
      rw [decide_eq_true (rfl : ([] : List Ver) = [])] at hS
      have H3 := Lib.hid hb
      clear y0 y1 y2 y3 y4 y5 y6 y7 y8 y9 y10 y11 hQ2 hO1 hO2 hb3 hb hl1 hl2
      go_wp2_with fail
      refine hS.mono ?_
      rintro e w4 ⟨rfl, hb4⟩
      have hb := H3.out.trans (hb4.mono H3.out.size)
      have hv4 := HH.out.1.below hb
      go_wp2
      refine bodyPost_ret (results_tmp2 rfl _ _ _) rfl ?_
      exact ⟨A, len, cap, rfl, by rw [HT.out]; exact hv4, hlc, hb⟩
    | some o =>
      rw [show His.errO (some o) = 0 from rfl]
      dsimp only [Option.isSome] at hQ2
      go_wp2_with fail
      refine hQ2.mono ?_
      rintro e w3 ⟨R2, n2, c2, rfl, hO2, hb3⟩
      have hb := H2.out.2.trans (hb3.mono H2.out.2.size)
      have hO1 : Own14 W1 w3 R1 n1 c1 o := H2.out.1.next hb3
      have hO2 : Own14 w2 w3 R2 n2 c2 o := hO2
      have hl1 := hO1.len
      have hl2 := hO2.len
      have hol : o.length ≤ 100000 := by have := HL.out o rfl; omega
      have hS := sameR_any R1 n1 c1 o R2 n2 c2 o w3 hO1.sp.vers hO2.sp.vers (by unfold maxLen; omega) (by unfold maxLen; omega)
      rw [decide_eq_true (rfl : o = o)] at hS
      have H3 := Lib.hid (And.intro hO1 hb)
      clear y0 y1 y2 y3 y4 y5 y6 y7 y8 y9 y10 y11 hQ2 hO1 hO2 hb3 hb
      go_wp2_with fail
      refine hS.mono ?_
      rintro e w4 ⟨rfl, hb4⟩
      have hb := H3.out.2.trans (hb4.mono H3.out.2.size)
      have hv4 : Vers w4 R1 n1 o := (H3.out.1.next hb4).sp.vers
      have hc4 := H3.out.1.sp.2.1
      go_wp2
      refine bodyPost_ret (results_tmp2 rfl _ _ _) rfl ?_
      exact ⟨R1, n1, c1, rfl, by rw [HT.out]; exact hv4, hc4, hb⟩
  · have l1 : (kd == (0 : Int)) = false := beq_eq_false_iff_ne.2 h0
    by_cases h1 : kd = 1
    · have l2 : (kd == (1 : Int)) = true := by rw [h1]; rfl
      have hP := delP_any A len cap l r m W1 (h.below hb1) hlc (by omega)
      have hQ := fun W (hW : Below w.heap.size w W) => delR_any A len cap l r m W (h.below hW) (by omega)
      have hT : T = if (His.delL l r m).2 = 0 then (His.delL l r m).1 else l := by rw [hdo, if_neg h0, if_pos h1]
      clear h hb1 hr1 hv hadp hadr h0 h1 hdo
      have hll := HH.out.1.1
      have hol := His.del_len l r m
      generalize His.delL l r m = q at *
      obtain ⟨o, f⟩ := q
      dsimp only at hP hQ hT
      have HT := Lib.hid hT
      clear hT
      go_wp2_with fail
      refine hP.mono ?_
      rintro e w2 ⟨R1, n1, c1, rfl, hO1, hb2⟩
      have hb := HH.out.2.1.trans (hb2.mono HH.out.2.1.size)
      have hr2 := (hb2.block _ (hlq HH.out.2.2)).trans HH.out.2.2
      have hQ2 := hQ w2 hb
      have H2 := Lib.hid (And.intro hO1 hb)
      clear y0 y1 y2 y3 y4 y5 y6 y7 y8 y9 y10 y11
      obtain ⟨y0, y1, y2, y3, y4, y5, y6, y7, y8, y9, y10, y11⟩ := row12 hr2
      clear hP hQ hO1 hb2 hb hr2
      go_wp2_with fail
      refine hQ2.mono ?_
      rintro e w3 ⟨R2, n2, c2, rfl, hO2, hb3⟩
      have hb := H2.out.2.trans (hb3.mono H2.out.2.size)
      have hO1 := H2.out.1.next hb3
      have hl1 := hO1.len
      have hl2 := hO2.len
      have hS := fun (q : o.length ≤ 100000) => sameR_any R1 n1 c1 o R2 n2 c2 o w3 hO1.sp.vers hO2.sp.vers (by unfold maxLen; omega) (by unfold maxLen; omega)
      rw [decide_eq_true (rfl : o = o)] at hS
      replace hol : o.length ≤ l.length + 1 := hol
      replace hS := hS (by omega)
      have H3 := Lib.hid (And.intro hO1 hb)
      clear y0 y1 y2 y3 y4 y5 y6 y7 y8 y9 y10 y11 hQ2 hO1 hO2 hb3 hb
      by_cases hf : f = 0
      · subst hf
        go_wp2_with fail
        refine hS.mono ?_
        rintro e w4 ⟨rfl, hb4⟩
        have hb := H3.out.2.trans (hb4.mono H3.out.2.size)
        have hv4 := (H3.out.1.next hb4).sp.vers
        have hc4 := H3.out.1.sp.2.1
        go_wp2
        refine bodyPost_ret (results_tmp2 rfl _ _ _) rfl ?_
        exact ⟨R1, n1, c1, rfl, by rw [HT.out]; (first | rw [if_pos rfl] | rw [if_pos True.intro]); exact hv4, hc4, hb⟩
      · have HF := Lib.hid hf
        have l3 : (f != 0) = true := by simpa using hf
        have l4 : (f == 0) = false := beq_eq_false_iff_ne.2 hf
        go_wp2_with fail
        refine hS.mono ?_
        rintro e w4 ⟨rfl, hb4⟩
        have hb := H3.out.2.trans (hb4.mono H3.out.2.size)
        have hv4 := HH.out.1.below hb
        go_wp2
        refine bodyPost_ret (results_tmp2 rfl _ _ _) rfl ?_
        exact ⟨A, len, cap, rfl, by rw [HT.out, if_neg HF.out]; exact hv4, hlc, hb⟩
    · have l2 : (kd == (1 : Int)) = false := beq_eq_false_iff_ne.2 h1
      have hP := hadp W1 hb1
      have hQ := hadr
      clear h hb1 hr1 hv hadp hadr
      have hlen := fun o => His.add_len (l := l) (o := o) (x := x)
      have hll := HH.out.1.1
      obtain ⟨o, ho⟩ : ∃ o, His.addL l x = o := ⟨_, rfl⟩
      have HT := Lib.hid (show T = o.getD l by rw [hdo, if_neg h0, if_neg h1, ho])
      rw [ho] at hP hQ hlen
      have HL := Lib.hid hlen
      clear ho hlen hdo h0 h1
      go_wp2_with fail
      refine hP.mono ?_
      rintro e w2 ⟨R1, n1, c1, rfl, hO1, hb2⟩
      have hb := HH.out.2.1.trans (hb2.mono HH.out.2.1.size)
      have hr2 := (hb2.block _ (hlq HH.out.2.2)).trans HH.out.2.2
      have hQ2 := hQ w2 hb
      have H2 := Lib.hid (And.intro hO1 hb)
      clear y0 y1 y2 y3 y4 y5 y6 y7 y8 y9 y10 y11
      obtain ⟨y0, y1, y2, y3, y4, y5, y6, y7, y8, y9, y10, y11⟩ := row12 hr2
      clear hP hQ hO1 hb2 hb hr2
      cases o with
      | none =>
        rw [show His.errO none = 1 from rfl]
        dsimp only [Option.isSome] at hQ2
        go_wp2_with fail
        refine hQ2.mono ?_
        rintro e w3 ⟨R2, n2, c2, rfl, hO2, hb3⟩
        have hb := H2.out.2.trans (hb3.mono H2.out.2.size)
        have hO1 := H2.out.1.next hb3
        have hl1 : n1 = 0 := hO1.len.symm
        have hl2 : n2 = 0 := hO2.len.symm
        have hS := sameR_any R1 n1 c1 [] R2 n2 c2 [] w3 hO1.sp.vers hO2.sp.vers (by unfold maxLen; omega) (by unfold maxLen; omega)
        rw [decide_eq_true (rfl : ([] : List Ver) = [])] at hS
        have H3 := Lib.hid hb
        clear y0 y1 y2 y3 y4 y5 y6 y7 y8 y9 y10 y11 hQ2 hO1 hO2 hb3 hb hl1 hl2
        go_wp2_with fail
        refine hS.mono ?_
        rintro e w4 ⟨rfl, hb4⟩
        have hb := H3.out.trans (hb4.mono H3.out.size)
        have hv4 := HH.out.1.below hb
        go_wp2
        refine bodyPost_ret (results_tmp2 rfl _ _ _) rfl ?_
        exact ⟨A, len, cap, rfl, by rw [HT.out]; exact hv4, hlc, hb⟩
      | some o =>
        rw [show His.errO (some o) = 0 from rfl]
        dsimp only [Option.isSome] at hQ2
        go_wp2_with fail
        refine hQ2.mono ?_
        rintro e w3 ⟨R2, n2, c2, rfl, hO2, hb3⟩
        have hb := H2.out.2.trans (hb3.mono H2.out.2.size)
        have hO1 : Own14 W1 w3 R1 n1 c1 o := H2.out.1.next hb3
        have hO2 : Own14 w2 w3 R2 n2 c2 o := hO2
        have hl1 := hO1.len
        have hl2 := hO2.len
        have hol : o.length ≤ 100000 := by have := HL.out o rfl; omega
        have hS := sameR_any R1 n1 c1 o R2 n2 c2 o w3 hO1.sp.vers hO2.sp.vers (by unfold maxLen; omega) (by unfold maxLen; omega)
        rw [decide_eq_true (rfl : o = o)] at hS
        have H3 := Lib.hid (And.intro hO1 hb)
        clear y0 y1 y2 y3 y4 y5 y6 y7 y8 y9 y10 y11 hQ2 hO1 hO2 hb3 hb
        go_wp2_with fail
        refine hS.mono ?_
        rintro e w4 ⟨rfl, hb4⟩
        have hb := H3.out.2.trans (hb4.mono H3.out.2.size)
        have hv4 : Vers w4 R1 n1 o := (H3.out.1.next hb4).sp.vers
        have hc4 := H3.out.1.sp.2.1
        go_wp2
        refine bodyPost_ret (results_tmp2 rfl _ _ _) rfl ?_
        exact ⟨R1, n1, c1, rfl, by rw [HT.out]; exact hv4, hc4, hb⟩

end Go.Proofs.Ytmihijlegacjdaa
