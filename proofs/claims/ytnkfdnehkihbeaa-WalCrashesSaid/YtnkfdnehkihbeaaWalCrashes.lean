/- WalCrashes' walk. -/
import Derived.Test.YtnkfdnehkihbeaaWalCtx
namespace Go.Proofs.Ytnkfdnehkihbeaa.walCrashes
open Go.ChangeShapes Go.WideShapes Go.ChangeAt Go.RowKit Go.Proofs.Ytnkfdnehkihbeaa
set_option linter.unusedVariables false
set_option linter.unusedSimpArgs false

set_option maxRecDepth 100000 in
set_option maxHeartbeats 3200000 in
theorem walk_no (A : Option Addr) (len cap : Nat) (ls : List (List UInt8)) (A2 : Option Addr) (len2 cap2 : Nat) (more : List (List UInt8)) (fz : Int) (kp : Int) (w : World)
    (h : Recs w (· < w.heap.size) A len cap ls) (hm : cap ≤ maxLen) (h2 : Recs w (· < w.heap.size) A2 len2 cap2 more) (hm2 : cap2 ≤ maxLen) (hno : smallB ls = false ∨ smallB more = false) :
    Calls Try.prog 6 #[.slice A len cap, .slice A2 len2 cap2, .int .u8 fz, .int .i64 kp] w fun e w' => e = .returned (.bool true) ∧ Below w.heap.size w w' := by
  have hs1 := fun w1 (hb : Below w.heap.size w w1) => small_any _ A len cap ls w1 (h.below hb (Nat.le_refl _)) (Nat.le_trans h.2.1 hm)
  have hs2 := fun w1 (hb : Below w.heap.size w w1) => small_any _ A2 len2 cap2 more w1 (h2.below hb (Nat.le_refl _)) (Nat.le_trans h2.2.1 hm2)
  generalize smallB ls = s1 at *
  generalize smallB more = s2 at *
  clear h h2 hm hm2
  cases s1 with
  | false =>
    go_enter Try.func6, Try.ntmps6
    go_wp2_with fail
    refine (awake_any _).mono ?_
    rintro e w1 ⟨rfl, hb1⟩
    have hS := hs1 w1 hb1
    go_wp2_with fail
    refine hS.mono ?_
    rintro e w2 ⟨rfl, rfl⟩
    go_wp2_with fail
    refine (awake_any _).mono ?_
    rintro e w3 ⟨rfl, hb3⟩
    go_wp2
    go_ret
    exact ⟨rfl, hb1.trans (hb3.mono hb1.size)⟩
  | true =>
    obtain rfl : s2 = false := by simpa using hno
    go_enter Try.func6, Try.ntmps6
    go_wp2_with fail
    refine (awake_any _).mono ?_
    rintro e w1 ⟨rfl, hb1⟩
    have hS := hs1 w1 hb1
    go_wp2_with fail
    refine hS.mono ?_
    rintro e w2 ⟨rfl, rfl⟩
    have hS2 := hs2 w1 hb1
    go_wp2_with fail
    refine hS2.mono ?_
    rintro e w2 ⟨rfl, rfl⟩
    go_wp2_with fail
    refine (awake_any _).mono ?_
    rintro e w3 ⟨rfl, hb3⟩
    go_wp2
    go_ret
    exact ⟨rfl, hb1.trans (hb3.mono hb1.size)⟩

set_option maxRecDepth 100000 in
set_option maxHeartbeats 3200000 in
theorem walk_yes (A : Option Addr) (len cap : Nat) (ls : List (List UInt8)) (A2 : Option Addr) (len2 cap2 : Nat) (more : List (List UInt8)) (fz : Nat) (kp : Int) (W : World)
    (h : Recs W (· < W.heap.size) A len cap ls) (h2 : Recs W (· < W.heap.size) A2 len2 cap2 more) (hz : fz < 256) (hkp : -9223372036854775808 ≤ kp ∧ kp ≤ 9223372036854775807) (hy1 : smallB ls = true) (hy2 : smallB more = true) :
    Calls Try.prog 6 #[.slice A len cap, .slice A2 len2 cap2, .int .u8 (fz : Int), .int .i64 kp] W fun e w' => e = .returned (.bool true) ∧ Below W.heap.size W w' := by
  have hf1 := (small_len hy1).1
  have hf2 := (small_len hy2).1
  have hF1 := (small_len hy1).2
  have hF2 := (small_len hy2).2
  have hn1 := (smallB_fit hy1).1
  have hn2 := (smallB_fit hy2).1
  rw [h.1] at hn1
  rw [h2.1] at hn2
  have hs1 := fun w1 (hb : Below W.heap.size W w1) => small_any _ A len cap ls w1 (h.below hb (Nat.le_refl _)) (by unfold maxLen; omega)
  have hs2 := fun w1 (hb : Below W.heap.size W w1) => small_any _ A2 len2 cap2 more w1 (h2.below hb (Nat.le_refl _)) (by unfold maxLen; omega)
  rw [hy1] at hs1
  rw [hy2] at hs2
  have hfirst := first_add ls hy1
  clear hy1 hy2
  go_enter Try.func6, Try.ntmps6
  go_wp2_with fail
  refine (awake_any _).mono ?_
  rintro e w1 ⟨rfl, hb1⟩
  have hS := hs1 w1 hb1
  have hS2 := hs2 w1 hb1
  clear hs1 hs2
  go_wp2_with fail
  refine hS.mono ?_
  rintro e w2 ⟨rfl, rfl⟩
  go_wp2_with fail
  refine hS2.mono ?_
  rintro e w2 ⟨rfl, rfl⟩
  clear hS hS2
  have hN := dsk_new w1 (· < W.heap.size) 1048576 (fun k hk => Nat.lt_of_lt_of_le hk hb1.size) (by omega) (by omega)
  go_wp2_with fail
  refine hN.mono ?_
  rintro e w2 ⟨d, rfl, hD2, hb2⟩
  rw [← dk0] at hD2
  have hbw2 : Below W.heap.size W w2 := hb1.trans (hb2.mono hb1.size)
  have hO := open_two w2 d x0 _ hD2
  rw [scan0] at hO
  clear hN hb2 hD2 hb1
  go_wp2_with fail
  refine hO.mono ?_
  rintro e w3 ⟨D', ⟨j, Aj, capj, Z, rfl, hL3, _, hZ3, hj3, hk3⟩, hD'⟩
  obtain rfl := hD' rfl
  have hC3 : Ctx W w3 j d (dk x0 none false) 0 Z := ctx_open hL3 hZ3 hj3 hbw2 hk3
  have hA3 := add_any w3 j d _ nmA 0 Z hC3.lg A len cap ls (hC3.recs h) (by omega) hf1 (by omega)
  rw [hfirst] at hA3
  clear hO hL3 hk3 hD' hZ3 hj3 hbw2 hfirst
  go_wp2_with fail
  refine hA3.mono ?_
  rintro e w4 ⟨rfl, hd4⟩
  have hC4 := hC3.ldid hd4
  have e4 : cnt (dk (xF (framesL ls)) none false, 0) 0 (0 + (ls.length : Int)) = (len : Int) := by rw [h.1]; simp [cnt]
  rw [e4] at hC4
  have hFu := dsk_fuse w4 d _ Z hC4.lg.dk (fz : Int) (by omega)
  rw [fuse_dk] at hFu
  clear hA3 hd4 hC3 e4
  have hcv : IntKind.i64.wrap (fz : Int) = (fz : Int) := IntWalk.i64_in _ (by omega)
  go_wp2_with fail
  refine hFu.mono ?_
  rintro e w5 ⟨rfl, hd5⟩
  have hC5 := hC4.did hd5
  clear hFu hd5 hC4
  have hA5 := add_any w5 j d _ nmA (len : Int) Z hC5.lg A2 len2 cap2 more (hC5.recs h2) (by omega) hf2 (by omega)
  obtain ⟨ψ, lost, s, e2, hadd, hE⟩ := added_dk (xF (framesL ls)) (some fz) more (xF_ok _) (by rw [xF_false]) (by rw [xF_false, xF_true]; simp; omega)
  have hadd' : (dk (xF (framesL ls)) (some fz) false).added nmA more = _ := hadd
  rw [hadd', xF_false] at hA5
  have hs : (framesL ls).length ≤ s ∧ s ≤ (framesL ls ++ framesL more).length ∧ (e2 = 0 → s = (framesL ls ++ framesL more).length) := by
    rw [List.length_append]
    rw [xF_false] at hE
    dsimp only at hE
    rw [List.length_append] at hE
    rcases hE with ⟨h1, _, h2, _⟩ | ⟨h1, _, h2, _⟩
    · exact ⟨by omega, by omega, fun _ => h2⟩
    · exact ⟨by omega, by omega, fun e => by omega⟩
  clear hadd hadd' hE
  go_wp2_with fail
  refine hA5.mono ?_
  rintro e w6 ⟨rfl, hd6⟩
  have hC6 := hC5.ldid hd6
  clear hA5 hd6 hC5
  generalize hx6 : (xF (framesL ls)).set false ((framesL ls) ++ framesL more, s) = x6 at hC6
  have hx6f : x6 false = (framesL ls ++ framesL more, s) := by rw [← hx6]; exact set_get _ _ _
  have hx6ok : okT x6 := by rw [← hx6]; exact okT_set (xF_ok _) _ _ hs.2.1
  clear hx6
  have hb7 : Below w6.heap.size w6 (w6.alloc (.cells #[.int .i64 kp] 3)) := (Below.refl _ _).alloc (Nat.le_refl _) _
  have hC7 := hC6.below hb7
  have hdlt := hC6.lg.dk.dk.own.2
  have hRI : RI (w6.alloc (.cells #[.int .i64 kp] 3)) (some ⟨w6.heap.size, 0, none⟩) 1 (fun _ => kp) :=
    ⟨fun i _ => hkp, fun _ => ⟨_, 0, rfl, by simp, fun i hi => by
      obtain rfl : i = 0 := by omega
      exact (cell_of_row _ _ _ _ _ _ (heap_alloc_new w6 _)).trans rfl⟩⟩
  have hR7 := dsk_restart _ d _ Z hC7.lg.dk (some ⟨w6.heap.size, 0, none⟩) 1 1 (fun _ => kp) hRI (by omega) (by omega) (fun _ a e => by
    injection e with e
    subst e
    intro e
    have : w6.heap.size = d := e
    omega)
  obtain ⟨k, hk, hrs⟩ := restart_dk x6 ψ lost (fun _ => kp) 1 hx6ok
  rw [hrs] at hR7
  have hk0 := hk false
  rw [hx6f] at hk0
  dsimp only at hk0
  clear hrs hRI hb7 hC6 hx6ok
  go_wp2_with fail
  refine hR7.mono ?_
  rintro e w8 ⟨rfl, hd8⟩
  have hC8 := hC7.did hd8
  clear hR7 hd8 hC7
  have hO8 := open_two w8 d _ Z hC8.lg.dk
  rw [hx6f] at hO8
  dsimp only at hO8
  obtain ⟨jj, hjj, htold, hfull⟩ := told_cut ls more hf1 hf2 (k false) (by omega) hk0.2
  rw [htold] at hO8
  go_wp2_with fail
  refine hO8.mono ?_
  rintro e w9 ⟨D9, ⟨j9, A9, cap9, Z9, rfl, hL9, hr9, hZ9, hj9, hk9⟩, _⟩
  have hbw9 : Below W.heap.size W w9 := below_keeps hC8.low hk9 hC8.all hC8.low.size
  have hall : ls ++ more.take jj = (ls ++ more).take (len + jj) := by
    rw [List.take_append, h.1, List.take_of_length_le (l := ls) (by rw [h.1]; omega), Nat.add_sub_cancel_left]
  have hna : (ls ++ more.take jj).length = len + jj := by rw [List.length_append, List.length_take, h.1, h2.1]; have := h2.1; omega
  have hjl : jj ≤ len2 := by rw [← h2.1]; exact hjj
  have hend : e2 = 0 → jj = len2 := fun e => by
    have := hs.2.2 e
    rw [← h2.1]
    exact hfull (by omega)
  rw [hna] at hr9 ⊢
  clear hO8 hL9 hZ9 hj9 hk9 hC8 htold hfull hs hk hk0 hx6f hjj hna
  have q1 : (((len + jj : Nat) : Int) < (len : Int)) = False := eq_false (by omega)
  have q2 : ((len : Int) + (len2 : Int) < ((len + jj : Nat) : Int)) = False := eq_false (by omega)
  have q3 : IntKind.i64.wrap ((len : Int) + (len2 : Int)) = (len : Int) + (len2 : Int) := IntWalk.i64_in _ (by omega)
  have q4 : e2 = 0 → (((len + jj : Nat) : Int) != (len : Int) + (len2 : Int)) = false := fun e => by
    have := hend e
    simp
    omega
  have hT1 := fun w1 (hb : Below W.heap.size W w1) => texts_any _ A len cap ls w1 (h.below hb (Nat.le_refl _)) (by omega)
  have hT2 := fun w1 (hb : Below W.heap.size W w1) => texts_any _ A2 len2 cap2 more w1 (h2.below hb (Nat.le_refl _)) (by omega)
  have hll : (ls ++ more).length = len + len2 := by rw [List.length_append, h.1, h2.1]
  obtain ⟨i0, hi0, hz0, hz1, hz2⟩ := info_parts info_str
  have HEnd := Lib.hid hend
  by_cases he : e2 = 0
  · have q5 := q4 he
    subst he
    clear q4 hend h h2 hf1 hf2 hF1 hF2
    generalize hN : len + jj = N at *
    go_wp2_with fail
    refine (hT1 w9 hbw9).mono ?_
    rintro e w10 ⟨A10, cap10, rfl, ho10, hb10⟩
    have hbw10 := hbw9.trans (hb10.mono hbw9.size)
    go_wp2_with fail
    refine (hT2 w10 hbw10).mono ?_
    rintro e w11 ⟨A11, cap11, rfl, ho11, hb11⟩
    have hbw11 := hbw10.trans (hb11.mono hbw10.size)
    have hb911 : Below w9.heap.size w9 w11 := hb10.trans (hb11.mono hb10.size)
    have ho10' := row_keep ho10 (fun g hg => hb11.block g (ho10.lt g hg).2)
    clear hT1 hT2 ho10 hb10 hb11 hbw10
    go_wp2_with (first
      | (at_builtin; refine wpList_append_two _ rfl _ _ 32 rfl w9.heap.size 9 i0 _ 1 16 Try.underlying32 hi0 hz0 hz1 hz2 rfl (by omega) (.slice A10 len cap10) len _ rfl ho10' w10.heap.size (.slice A11 len2 cap11) len2 _ rfl ho11 (txt_ones _) (by unfold maxLen; omega) (by omega) hb911.size (len + len2) rfl ((ls ++ more).map txt) List.map_append.symm ?_
         intro A12 cap12 w12 ho12 hgr12
         have hsl := fun W' => run_frontk (P := Try.prog) (t := 32) Try.underlying32 sizeOf_str .i64 A12 (len + len2) cap12 N (by have := row_cap ho12; omega) W')
      | fail)
    have hb12 : Below w9.heap.size w9 w12 := hb911.grown hgr12 hb911.size fun q hq => (ho10'.lt q hq).1
    have hbw12 : Below W.heap.size W w12 := hbw9.trans (hb12.mono hbw9.size)
    rw [← hll] at ho12
    obtain ⟨hst, _⟩ := STexts.of_row ho12
    have hAl := alike_any Z9 A9 N cap9 _ A12 N cap12 _ w12 (hr9.below hb12 (Nat.le_refl _)) (hst.take N) (by rw [List.length_take, hll]; omega) (by unfold maxLen; omega)
    rw [hall, decide_eq_true rfl] at hAl
    go_wp2_with fail
    refine hAl.mono ?_
    rintro e w13 ⟨rfl, hb13⟩
    go_wp2
    go_ret
    exact ⟨rfl, hbw12.trans (hb13.mono hbw12.size)⟩
  · have q6 : ((e2 : Int) = 0) = False := eq_false (by omega)
    have q7 : ((e2 : Int) == 0) = false := beq_eq_false_iff_ne.2 (by omega)
    clear q4 hend h h2 hf1 hf2 hF1 hF2 he
    generalize hN : len + jj = N at *
    go_wp2_with fail
    refine (hT1 w9 hbw9).mono ?_
    rintro e w10 ⟨A10, cap10, rfl, ho10, hb10⟩
    have hbw10 := hbw9.trans (hb10.mono hbw9.size)
    go_wp2_with fail
    refine (hT2 w10 hbw10).mono ?_
    rintro e w11 ⟨A11, cap11, rfl, ho11, hb11⟩
    have hbw11 := hbw10.trans (hb11.mono hbw10.size)
    have hb911 : Below w9.heap.size w9 w11 := hb10.trans (hb11.mono hb10.size)
    have ho10' := row_keep ho10 (fun g hg => hb11.block g (ho10.lt g hg).2)
    clear hT1 hT2 ho10 hb10 hb11 hbw10
    go_wp2_with (first
      | (at_builtin; refine wpList_append_two _ rfl _ _ 32 rfl w9.heap.size 9 i0 _ 1 16 Try.underlying32 hi0 hz0 hz1 hz2 rfl (by omega) (.slice A10 len cap10) len _ rfl ho10' w10.heap.size (.slice A11 len2 cap11) len2 _ rfl ho11 (txt_ones _) (by unfold maxLen; omega) (by omega) hb911.size (len + len2) rfl ((ls ++ more).map txt) List.map_append.symm ?_
         intro A12 cap12 w12 ho12 hgr12
         have hsl := fun W' => run_frontk (P := Try.prog) (t := 32) Try.underlying32 sizeOf_str .i64 A12 (len + len2) cap12 N (by have := row_cap ho12; omega) W')
      | fail)
    have hb12 : Below w9.heap.size w9 w12 := hb911.grown hgr12 hb911.size fun q hq => (ho10'.lt q hq).1
    have hbw12 : Below W.heap.size W w12 := hbw9.trans (hb12.mono hbw9.size)
    rw [← hll] at ho12
    obtain ⟨hst, _⟩ := STexts.of_row ho12
    have hAl := alike_any Z9 A9 N cap9 _ A12 N cap12 _ w12 (hr9.below hb12 (Nat.le_refl _)) (hst.take N) (by rw [List.length_take, hll]; omega) (by unfold maxLen; omega)
    rw [hall, decide_eq_true rfl] at hAl
    go_wp2_with fail
    refine hAl.mono ?_
    rintro e w13 ⟨rfl, hb13⟩
    go_wp2
    go_ret
    exact ⟨rfl, hbw12.trans (hb13.mono hbw12.size)⟩

theorem walk (A : Option Addr) (len cap : Nat) (ls : List (List UInt8)) (A2 : Option Addr) (len2 cap2 : Nat) (more : List (List UInt8)) (fz : Int) (kp : Int) (W : World)
    (h : Recs W (· < W.heap.size) A len cap ls) (hm : cap ≤ maxLen) (h2 : Recs W (· < W.heap.size) A2 len2 cap2 more) (hm2 : cap2 ≤ maxLen) (hz : (Lit.int .u8 fz).wf = true) (hkp : (Lit.int .i64 kp).wf = true) :
    Calls Try.prog 6 #[.slice A len cap, .slice A2 len2 cap2, .int .u8 fz, .int .i64 kp] W fun e w' => e = .returned (.bool true) ∧ Below W.heap.size W w' := by
  have r := wf_u8' hz
  obtain ⟨n, rfl⟩ := Int.eq_ofNat_of_zero_le r.1
  by_cases h1 : smallB ls = true
  · by_cases h3 : smallB more = true
    · exact walk_yes A len cap ls A2 len2 cap2 more n kp W h h2 (by omega) (wf_i64' hkp) h1 h3
    · exact walk_no A len cap ls A2 len2 cap2 more _ kp W h hm h2 hm2 (.inr (by simpa using h3))
  · exact walk_no A len cap ls A2 len2 cap2 more _ kp W h hm h2 hm2 (.inl (by simpa using h1))

end Go.Proofs.Ytnkfdnehkihbeaa.walCrashes
