/- WalResets' walk. -/
import Derived.Test.YtnkfdnehkihbeaaWalCtx
namespace Go.Proofs.Ytnkfdnehkihbeaa.walResets
open Go.ChangeShapes Go.WideShapes Go.ChangeAt Go.RowKit Go.Proofs.Ytnkfdnehkihbeaa
set_option linter.unusedVariables false
set_option linter.unusedSimpArgs false

set_option maxRecDepth 100000 in
set_option maxHeartbeats 3200000 in
theorem walk_no (A : Option Addr) (len cap : Nat) (ls : List (List UInt8)) (A2 : Option Addr) (len2 cap2 : Nat) (more : List (List UInt8)) (fz : Int) (A3 : Option Addr) (len3 cap3 : Nat) (w : World)
    (h : Recs w (· < w.heap.size) A len cap ls) (hm : cap ≤ maxLen) (h2 : Recs w (· < w.heap.size) A2 len2 cap2 more) (hm2 : cap2 ≤ maxLen) (hno : smallB ls = false ∨ smallB more = false ∨ 9 < len3) :
    Calls Try.prog 7 #[.slice A len cap, .slice A2 len2 cap2, .int .u8 fz, .slice A3 len3 cap3] w fun e w' => e = .returned (.bool true) ∧ Below w.heap.size w w' := by
  have hs1 := fun w1 (hb : Below w.heap.size w w1) => small_any _ A len cap ls w1 (h.below hb (Nat.le_refl _)) (Nat.le_trans h.2.1 hm)
  have hs2 := fun w1 (hb : Below w.heap.size w w1) => small_any _ A2 len2 cap2 more w1 (h2.below hb (Nat.le_refl _)) (Nat.le_trans h2.2.1 hm2)
  generalize smallB ls = s1 at *
  generalize smallB more = s2 at *
  clear h h2 hm hm2
  cases s1 with
  | false =>
    clear hno
    go_enter Try.func7, Try.ntmps7
    go_wp2_with fail
    refine (awake_any _).mono ?_
    rintro e w1 ⟨rfl, hb1⟩
    have hS := hs1 w1 hb1
    go_wp2_with fail
    refine hS.mono ?_
    rintro e w2 ⟨rfl, rfl⟩
    go_wp2_with fail
    refine (awake_any _).mono ?_
    rintro e w3 ⟨rfl, hb3⟩
    go_wp2
    go_ret
    exact ⟨rfl, hb1.trans (hb3.mono hb1.size)⟩
  | true =>
    cases s2 with
    | false =>
      clear hno
      go_enter Try.func7, Try.ntmps7
      go_wp2_with fail
      refine (awake_any _).mono ?_
      rintro e w1 ⟨rfl, hb1⟩
      have hS := hs1 w1 hb1
      go_wp2_with fail
      refine hS.mono ?_
      rintro e w2 ⟨rfl, rfl⟩
      have hS2 := hs2 w1 hb1
      go_wp2_with fail
      refine hS2.mono ?_
      rintro e w2 ⟨rfl, rfl⟩
      go_wp2_with fail
      refine (awake_any _).mono ?_
      rintro e w3 ⟨rfl, hb3⟩
      go_wp2
      go_ret
      exact ⟨rfl, hb1.trans (hb3.mono hb1.size)⟩
    | true =>
      have h9 : 9 < len3 := by simpa using hno
      have h9' : (9 : Int) < (len3 : Int) := by omega
      clear hno h9
      go_enter Try.func7, Try.ntmps7
      go_wp2_with fail
      refine (awake_any _).mono ?_
      rintro e w1 ⟨rfl, hb1⟩
      have hS := hs1 w1 hb1
      go_wp2_with fail
      refine hS.mono ?_
      rintro e w2 ⟨rfl, rfl⟩
      have hS2 := hs2 w1 hb1
      go_wp2_with fail
      refine hS2.mono ?_
      rintro e w2 ⟨rfl, rfl⟩
      go_wp2_with fail
      refine (awake_any _).mono ?_
      rintro e w3 ⟨rfl, hb3⟩
      go_wp2
      go_ret
      exact ⟨rfl, hb1.trans (hb3.mono hb1.size)⟩

set_option maxRecDepth 100000 in
set_option maxHeartbeats 3200000 in
theorem walk_yes (A : Option Addr) (len cap : Nat) (ls : List (List UInt8)) (A2 : Option Addr) (len2 cap2 : Nat) (more : List (List UInt8)) (fz : Nat) (A3 : Option Addr) (len3 cap3 : Nat) (Y : Nat → Int) (W : World)
    (h : Recs W (· < W.heap.size) A len cap ls) (h2 : Recs W (· < W.heap.size) A2 len2 cap2 more) (hz : fz < 256) (hK : RI W A3 len3 Y) (hlc3 : len3 ≤ cap3) (h9 : len3 ≤ 9) (hy1 : smallB ls = true) (hy2 : smallB more = true) :
    Calls Try.prog 7 #[.slice A len cap, .slice A2 len2 cap2, .int .u8 (fz : Int), .slice A3 len3 cap3] W fun e w' => e = .returned (.bool true) ∧ Below W.heap.size W w' := by
  have hf1 := (small_len hy1).1
  have hf2 := (small_len hy2).1
  have hF1 := (small_len hy1).2
  have hF2 := (small_len hy2).2
  have hn1 := (smallB_fit hy1).1
  have hn2 := (smallB_fit hy2).1
  rw [h.1] at hn1
  rw [h2.1] at hn2
  have hs1 := fun w1 (hb : Below W.heap.size W w1) => small_any _ A len cap ls w1 (h.below hb (Nat.le_refl _)) (by unfold maxLen; omega)
  have hs2 := fun w1 (hb : Below W.heap.size W w1) => small_any _ A2 len2 cap2 more w1 (h2.below hb (Nat.le_refl _)) (by unfold maxLen; omega)
  rw [hy1] at hs1
  rw [hy2] at hs2
  have hfirst := first_add ls hy1
  have h9' : ((9 : Int) < (len3 : Int)) = False := eq_false (by omega)
  clear hy1 hy2
  go_enter Try.func7, Try.ntmps7
  go_wp2_with fail
  refine (awake_any _).mono ?_
  rintro e w1 ⟨rfl, hb1⟩
  have hS := hs1 w1 hb1
  have hS2 := hs2 w1 hb1
  clear hs1 hs2
  go_wp2_with fail
  refine hS.mono ?_
  rintro e w2 ⟨rfl, rfl⟩
  go_wp2_with fail
  refine hS2.mono ?_
  rintro e w2 ⟨rfl, rfl⟩
  clear hS hS2
  have hN := dsk_new w1 (· < W.heap.size) 1048576 (fun k hk => Nat.lt_of_lt_of_le hk hb1.size) (by omega) (by omega)
  go_wp2_with fail
  refine hN.mono ?_
  rintro e w2 ⟨d, rfl, hD2, hb2⟩
  rw [← dk0] at hD2
  have hbw2 : Below W.heap.size W w2 := hb1.trans (hb2.mono hb1.size)
  have hO := open_two w2 d x0 _ hD2
  rw [scan0] at hO
  clear hN hb2 hD2 hb1
  go_wp2_with fail
  refine hO.mono ?_
  rintro e w3 ⟨D', ⟨j, Aj, capj, Z, rfl, hL3, _, hZ3, hj3, hk3⟩, hD'⟩
  obtain rfl := hD' rfl
  have hC3 : Ctx W w3 j d (dk x0 none false) 0 Z := ctx_open hL3 hZ3 hj3 hbw2 hk3
  have hA3 := add_any w3 j d _ nmA 0 Z hC3.lg A len cap ls (hC3.recs h) (by omega) hf1 (by omega)
  rw [hfirst] at hA3
  clear hO hL3 hk3 hD' hZ3 hj3 hbw2 hfirst
  go_wp2_with fail
  refine hA3.mono ?_
  rintro e w4 ⟨rfl, hd4⟩
  have hC4 := hC3.ldid hd4
  have e4 : cnt (dk (xF (framesL ls)) none false, 0) 0 (0 + (ls.length : Int)) = (len : Int) := by rw [h.1]; simp [cnt]
  rw [e4] at hC4
  have hFu := dsk_fuse w4 d _ Z hC4.lg.dk ((fz % 8 : Nat) : Int) (by omega)
  rw [fuse_dk] at hFu
  have hf8 : ((fz % 8 : Nat) : Int) = (fz : Int) % 8 := by omega
  rw [hf8] at hFu
  clear hf8
  generalize fz % 8 = n8 at *
  clear hA3 hd4 hC3 e4
  go_wp2_with fail
  refine hFu.mono ?_
  rintro e w5 ⟨rfl, hd5⟩
  have hC5 := hC4.did hd5
  clear hFu hd5 hC4
  have hA5 := reset_any w5 j d _ nmA (len : Int) Z hC5.lg A2 len2 cap2 more (hC5.recs h2) (by omega) hf2 (by decide)
  obtain ⟨ψ, lost, x6, e2, hrep, hx6ok, hE⟩ := replaced_dk (xF (framesL ls)) (some n8) (framesL more) (xF_ok _) (by rw [xF_false, xF_true]; simp; omega)
  have hrep' : (dk (xF (framesL ls)) (some n8) false).replaced nmA _ = _ := hrep
  rw [hrep'] at hA5
  clear hrep hrep'
  rw [xF_false, xF_true] at hE
  obtain ⟨G, hG⟩ : ∃ G : List (List UInt8), x6 false = (framesL G, (framesL G).length) ∧ fit G ∧ (x6 true).1.length ≤ 5000 ∧ (framesL G).length ≤ 5000 ∧ ((e2 = 0 ∧ G = more) ∨ (e2 = 5 ∧ G = ls)) := by
    rcases hE with ⟨h1, _, h3, _⟩ | ⟨h1, _, h3, _⟩
    · exact ⟨more, h3.1, hf2, by rw [h3.2]; simp, hF2, .inl ⟨h1, rfl⟩⟩
    · exact ⟨ls, h3.1, hf1, by have := h3.2; simp at this; omega, hF1, .inr ⟨h1, rfl⟩⟩
  clear hE
  obtain ⟨hx6f, hGf, hx6t, hGl, hG⟩ := hG
  go_wp2_with fail
  refine hA5.mono ?_
  rintro e w6 ⟨rfl, hd6⟩
  have hC6 := hC5.ldid hd6
  clear hA5 hd6 hC5
  have hR7 := dsk_restart _ d _ Z hC6.lg.dk A3 len3 cap3 Y (hK.below hC6.low) (by omega) hlc3 (fun h0 a e => by
    obtain ⟨b, off, e3, hb, _⟩ := hK.2 h0
    rw [e] at e3
    injection e3 with e3
    subst e3
    intro e4
    exact hC6.lg.dk.dk.own.1 (e4 ▸ hC6.all b hb))
  obtain ⟨k, hk, hrs⟩ := restart_dk x6 ψ lost Y len3 hx6ok
  rw [hrs] at hR7
  have hk0 := hk false
  have hk1 := hk true
  rw [hx6f] at hk0
  dsimp only at hk0
  have hkf : k false = (framesL G).length := by omega
  generalize hx8 : (fun i => ((x6 i).1.take (k i), k i) : Two) = x8 at hR7
  have hx8f : x8 false = (framesL G, (framesL G).length) := by
    rw [← hx8]
    show ((x6 false).1.take (k false), k false) = _
    rw [hx6f, hkf]
    dsimp only
    rw [List.take_length]
  have hx8t : (x8 true).1.length ≤ 5000 := by
    rw [← hx8]
    show ((x6 true).1.take (k true)).length ≤ _
    rw [List.length_take]
    omega
  have hx8ok : okT x8 := by
    rw [← hx8]
    intro i
    show k i ≤ ((x6 i).1.take (k i)).length
    have := (hk i).2
    rw [List.length_take]
    omega
  clear hrs hx6ok hx8 hk hk0 hk1 hkf hx6f hx6t
  go_wp2_with fail
  refine hR7.mono ?_
  rintro e w8 ⟨rfl, hd8⟩
  have hC8 := hC6.did hd8
  clear hR7 hd8 hC6
  have hO8 := open_two w8 d _ Z hC8.lg.dk
  have hsG := scanL_all G hGf
  rw [hx8f, hsG] at hO8
  dsimp only at hO8
  go_wp2_with fail
  refine hO8.mono ?_
  rintro e w9 ⟨D9, ⟨j9, A9, cap9, Z9, rfl, hL9, hr9, hZ9, hj9, hk9⟩, hD9⟩
  obtain rfl := hD9 trivial
  have hC9 : Ctx W w9 j9 d (dk x8 none false) (G.length : Int) Z9 := ctx_open hL9 (fun k hk => hZ9 k (hC8.all k hk)) (fun k hk => hj9 k (hC8.all k hk)) hC8.low (hk9.mono fun k hk => hC8.all k hk)
  clear hO8 hL9 hZ9 hj9 hk9 hC8 hsG hD9
  have hlG : G.length ≤ 12 := by
    rcases hG with ⟨_, rfl⟩ | ⟨_, rfl⟩
    · rw [h2.1]; exact hn2
    · rw [h.1]; exact hn1
  have hT1 := fun w1 (hb : Below W.heap.size W w1) => texts_any _ A len cap ls w1 (h.below hb (Nat.le_refl _)) (by omega)
  have hT2 := fun w1 (hb : Below W.heap.size W w1) => texts_any _ A2 len2 cap2 more w1 (h2.below hb (Nat.le_refl _)) (by omega)
  have hAl := fun w' (hb : Below w9.heap.size w9 w') B n c ts (hB : STexts w' B ts) (hn : ts.length = n) => alike_any Z9 A9 G.length cap9 G B n c ts w' (hr9.below hb (Nat.le_refl _)) hB hn (by unfold maxLen; omega)
  have H2 := Lib.hid h2
  have HL1 := Lib.hid h.1
  have HL2 := Lib.hid h2.1
  go_wp2_with fail
  refine (hT2 w9 hC9.low).mono ?_
  rintro e w10 ⟨A10, cap10, rfl, ho10, hb10⟩
  have hC10 := hC9.below hb10
  rw [show len2 = more.length from h2.1.symm] at ho10
  obtain ⟨hst10, _⟩ := STexts.of_row ho10
  have hA10 := hAl w10 hb10 A10 len2 cap10 more hst10 h2.1
  clear ho10 hC9
  go_wp2_with fail
  refine hA10.mono ?_
  rintro e w11 ⟨rfl, hb11⟩
  have hC11 := hC10.below hb11
  have hb911 : Below w9.heap.size w9 w11 := hb10.trans (hb11.mono hb10.size)
  clear hA10 hst10 hC10
  go_wp2_with fail
  refine (hT1 w11 hC11.low).mono ?_
  rintro e w12 ⟨A12, cap12, rfl, ho12, hb12⟩
  have hC12 := hC11.below hb12
  have hb912 : Below w9.heap.size w9 w12 := hb911.trans (hb12.mono hb911.size)
  rw [show len = ls.length from h.1.symm] at ho12
  obtain ⟨hst12, _⟩ := STexts.of_row ho12
  have hA12 := hAl w12 hb912 A12 len cap12 ls hst12 h.1
  clear ho12 hC11
  go_wp2_with fail
  refine hA12.mono ?_
  rintro e w13 ⟨rfl, hb13⟩
  have hC13 := hC12.below hb13
  clear hA12 hst12 hC12 hT1 hT2 hAl hr9 hb10 hb11 hb911 hb12 hb912 hb13
  have hRe := reset_any w13 j9 d _ nmA (G.length : Int) Z9 hC13.lg A2 len2 cap2 more (hC13.recs h2) (by omega) hf2 (by decide)
  obtain ⟨ψ9, lost9, x9, e9, hrep, _, hE9⟩ := replaced_dk x8 none (framesL more) hx8ok (by rw [hx8f]; dsimp only; omega)
  have hrep' : (dk x8 none false).replaced nmA _ = _ := hrep
  rw [hrep'] at hRe
  obtain rfl : e9 = 0 := by
    rcases hE9 with ⟨h1, _⟩ | ⟨_, _, _, h1⟩
    · exact h1
    · exact absurd rfl h1
  have ecnt : cnt (dk x9 ψ9 lost9, 0) (G.length : Int) (more.length : Int) = (len2 : Int) := by rw [h2.1]; rfl
  rw [ecnt] at hRe
  have hend : ∀ w14, LDid w13 w14 j9 d (dk x9 ψ9 lost9) nmA (len2 : Int) Z9 → Below W.heap.size W w14 ∧ Calls Try.prog 23 #[jptr j9] w14 fun e w' => e = .returned (.int .i64 (len2 : Int)) ∧ w14 = w' := fun w14 hd => by
    have hC14 := hC13.ldid hd
    exact ⟨hC14.low, loglen_any w14 j9 d _ nmA _ _ hC14.lg⟩
  clear hC13 hrep hrep' hE9 ecnt hx8f hx8t hx8ok hGf hGl hlG h h2 hK hf1 hf2 hF1 hF2 hn1 hn2 h9
  rcases hG with ⟨rfl, hGm⟩ | ⟨rfl, hGm⟩
  · subst hGm
    rw [decide_eq_true rfl]
    generalize decide (G = ls) = was
    go_wp2_with fail
    refine hRe.mono ?_
    rintro e w14 ⟨rfl, hd14⟩
    obtain ⟨hb14, hLen⟩ := hend w14 hd14
    clear hRe hend
    go_wp2_with fail
    refine hLen.mono ?_
    rintro e w15 ⟨rfl, rfl⟩
    go_wp2
    go_ret
    exact ⟨rfl, hb14⟩
  · subst hGm
    rw [decide_eq_true rfl]
    generalize decide (G = more) = is
    cases is
    all_goals
      go_wp2_with fail
      refine hRe.mono ?_
      rintro e w14 ⟨rfl, hd14⟩
      obtain ⟨hb14, hLen⟩ := hend w14 hd14
      clear hRe hend
      go_wp2_with fail
      refine hLen.mono ?_
      rintro e w15 ⟨rfl, rfl⟩
      go_wp2
      go_ret
      exact ⟨rfl, hb14⟩

theorem walk (A : Option Addr) (len cap : Nat) (ls : List (List UInt8)) (A2 : Option Addr) (len2 cap2 : Nat) (more : List (List UInt8)) (fz : Int) (A3 : Option Addr) (len3 cap3 : Nat) (Y : Nat → Int) (W : World)
    (h : Recs W (· < W.heap.size) A len cap ls) (hm : cap ≤ maxLen) (h2 : Recs W (· < W.heap.size) A2 len2 cap2 more) (hm2 : cap2 ≤ maxLen) (hz : (Lit.int .u8 fz).wf = true) (hK : RI W A3 len3 Y) (hlc3 : len3 ≤ cap3) :
    Calls Try.prog 7 #[.slice A len cap, .slice A2 len2 cap2, .int .u8 fz, .slice A3 len3 cap3] W fun e w' => e = .returned (.bool true) ∧ Below W.heap.size W w' := by
  have r := wf_u8' hz
  obtain ⟨n, rfl⟩ := Int.eq_ofNat_of_zero_le r.1
  by_cases h1 : smallB ls = true
  · by_cases h3 : smallB more = true
    · by_cases h9 : 9 < len3
      · exact walk_no A len cap ls A2 len2 cap2 more _ A3 len3 cap3 W h hm h2 hm2 (.inr (.inr h9))
      · exact walk_yes A len cap ls A2 len2 cap2 more n A3 len3 cap3 Y W h h2 (by omega) hK hlc3 (by omega) h1 h3
    · exact walk_no A len cap ls A2 len2 cap2 more _ A3 len3 cap3 W h hm h2 hm2 (.inr (.inl (by simpa using h3)))
  · exact walk_no A len cap ls A2 len2 cap2 more _ A3 len3 cap3 W h hm h2 hm2 (.inl (by simpa using h1))

end Go.Proofs.Ytnkfdnehkihbeaa.walResets
