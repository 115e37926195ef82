/- VaultGoesOn's walk. (Written by mkgo.py.) -/
import Derived.Test.YtmeoooojmhhahaaGreatVauGoA
import Derived.Deep.QuietTactic
import Derived.Deep.LoopGhost
import Derived.Outline
import Derived.Deep.Cut
import Derived.Deep.DeepCutAuto
namespace Go.Proofs.YtmeoooojmhhahaaGreat.vauGoesOn
open Go.ChangeShapes Go.WideShapes Go.ChangeAt Go.RowKit Go.Proofs.YtmeoooojmhhahaaGreat
set_option linter.unusedVariables false
set_option linter.unusedSimpArgs false

set_option maxRecDepth 100000 in
set_option maxHeartbeats 60000000 in
theorem walk_yes (h : Hd) (A : Option Addr) (cap : Nat) (l : List Ent) (nx : Hd) (si st : Int) (sd : List UInt8) (B : Option Addr) (c : Nat) (fz : Nat) (A3 : Option Addr) (len3 cap3 : Nat) (term : Int) (my : Nat) (W : World) (Yk : Nat → Int) (hl : Lies W B sd.length c sd) (hE : Ents W (· < W.heap.size) A l.length cap l) (hf1 : fewE l 10 = true) (hs : sd.length ≤ 2000) (hh : hardB h.t h.v = true) (hnx : hardB nx.t nx.v = true) (hsp : snapB si st sd.length = true) (hi0 : si ≠ 0) (hi9 : si ≤ 549755813888) (hfz : fz < 256) (hmy : my < 256) (hte : -9223372036854775808 ≤ term ∧ term ≤ 9223372036854775807) (hKR : RI W A3 len3 Yk) (hlc3 : len3 ≤ cap3) (h9 : len3 ≤ 9) :
    Calls Tryz.prog 8 #[.agg #[.int .i64 h.t, .int .i64 h.v], .slice A l.length cap, .agg #[.int .i64 nx.t, .int .i64 nx.v], entV si st B sd.length c, .int .u8 (fz : Int), .slice A3 len3 cap3, .int .i64 term, .int .u8 (my : Int)] W fun e w' => e = .returned (.bool true) ∧ Below W.heap.size W w' := by
  obtain ⟨hl1, hw1, hd1⟩ := few_parts hf1
  have hm1 : l.length ≤ maxLen := by unfold maxLen; omega
  have hb0 : Below W.heap.size W (((W.alloc (.cells #[.int .i64 h.t, .int .i64 h.v] 32)).alloc (.cells #[.int .i64 nx.t, .int .i64 nx.v] 32)).alloc (.cells #[.int .i64 si, .int .i64 st, .slice B sd.length c] 35)) := (((Below.refl _ _).alloc (Nat.le_refl _) _).alloc (by simp) _).alloc (by simp; omega) _
  have m0 : (((W.alloc (.cells #[.int .i64 h.t, .int .i64 h.v] 32)).alloc (.cells #[.int .i64 nx.t, .int .i64 nx.v] 32)).alloc (.cells #[.int .i64 si, .int .i64 st, .slice B sd.length c] 35)).heap[W.heap.size]? = some (.cells #[.int .i64 h.t, .int .i64 h.v] 32) := (Below.heap_alloc _ _ _ (by simp; omega)).trans ((Below.heap_alloc _ _ _ (by simp)).trans (heap_alloc_new _ _))
  have m1 : (((W.alloc (.cells #[.int .i64 h.t, .int .i64 h.v] 32)).alloc (.cells #[.int .i64 nx.t, .int .i64 nx.v] 32)).alloc (.cells #[.int .i64 si, .int .i64 st, .slice B sd.length c] 35)).heap[W.heap.size + 1]? = some (.cells #[.int .i64 nx.t, .int .i64 nx.v] 32) := (Below.heap_alloc _ _ _ (by simp)).trans (heap_alloc2_new _ _ _)
  have m2 : (((W.alloc (.cells #[.int .i64 h.t, .int .i64 h.v] 32)).alloc (.cells #[.int .i64 nx.t, .int .i64 nx.v] 32)).alloc (.cells #[.int .i64 si, .int .i64 st, .slice B sd.length c] 35)).heap[W.heap.size + 1 + 1]? = some (.cells #[.int .i64 si, .int .i64 st, .slice B sd.length c] 35) := by
    have := heap_alloc_new ((W.alloc (.cells #[.int .i64 h.t, .int .i64 h.v] 32)).alloc (.cells #[.int .i64 nx.t, .int .i64 nx.v] 32)) (.cells #[.int .i64 si, .int .i64 st, .slice B sd.length c] 35)
    simp only [World.size_alloc] at this
    exact this
  have hF1 := fun w1 (hb : Below W.heap.size W w1) => fewR_any _ A l.length cap l 10 w1 (hE.below hb (Nat.le_refl _)) hm1 (by omega) hd1
  have hRH := fun W => hardR_is h.t h.v W
  have hRN := fun W => hardR_is nx.t nx.v W
  have hSP := fun W => snapR_is si st B sd.length c W
  rw [hf1] at hF1
  rw [hh] at hRH
  rw [hnx] at hRN
  rw [hsp] at hSP
  have hc : ((2000 : Int) < (sd.length : Int)) = False := eq_false (by omega)
  have hk9 : ((9 : Int) < (len3 : Int)) = False := eq_false (by omega)
  have i1 : (si == 0) = false := beq_eq_false_iff_ne.2 hi0
  have i2 : (si = 0) = False := eq_false hi0
  have i3 : ((549755813888 : Int) < si) = False := eq_false (by omega)
  have hhr : rightH h = true := hh
  have hnr : rightH nx = true := hnx
  have hok : keepOk nx ⟨si, st, sd⟩ [] = true := by
    unfold keepOk
    dsimp only
    rw [hsp, hnr, show runB si st [] = true from rfl, decide_eq_true hi0]
    rfl
  have hsi : (1 ≤ si ∧ si ≤ 549755813888) ∧ 1 ≤ st ∧ st ≤ 1099511627776 := by
    unfold snapB at hsp
    split at hsp
    · rename_i h0; exact absurd h0.1 hi0
    · unfold numB at hsp
      simp only [Bool.and_eq_true, decide_eq_true_eq] at hsp
      omega
  clear hd1 hm1 hh hnx hsp
  go_enter Tryz.func8, Tryz.ntmps8
  go_wp2_with fail
  refine (awake10_any _).mono ?_
  rintro e w1 ⟨rfl, hb1⟩
  have hbw := hb0.trans (hb1.mono hb0.size)
  have m0 := (hb1.block _ (hlt m0)).trans m0
  have m1 := (hb1.block _ (hlt m1)).trans m1
  have m2 := (hb1.block _ (hlt m2)).trans m2
  obtain ⟨⟨y0, y1, y2⟩, _⟩ := row3 m2
  clear hb1 hb0
  have hFx := hF1 _ hbw
  go_wp2_with fail
  refine hFx.mono ?_
  rintro e wq ⟨rfl, rfl⟩
  clear hFx
  obtain ⟨⟨x0, x1⟩, _⟩ := row2 m0
  go_wp2_with fail
  refine (hRH _).mono ?_
  rintro e wh4 ⟨rfl, hbx⟩
  have hbw := hbw.trans (hbx.mono hbw.size)
  clear x0 x1
  have m0 := (hbx.block _ (hlt m0)).trans m0
  have m1 := (hbx.block _ (hlt m1)).trans m1
  have m2 := (hbx.block _ (hlt m2)).trans m2
  clear hbx y0 y1 y2
  obtain ⟨⟨y0, y1, y2⟩, _⟩ := row3 m2
  obtain ⟨⟨x0, x1⟩, _⟩ := row2 m1
  go_wp2_with fail
  refine (hRN _).mono ?_
  rintro e wh5 ⟨rfl, hbx⟩
  have hbw := hbw.trans (hbx.mono hbw.size)
  clear x0 x1
  have m0 := (hbx.block _ (hlt m0)).trans m0
  have m1 := (hbx.block _ (hlt m1)).trans m1
  have m2 := (hbx.block _ (hlt m2)).trans m2
  clear hbx y0 y1 y2
  obtain ⟨⟨y0, y1, y2⟩, _⟩ := row3 m2
  go_wp2_with fail
  refine (hSP _).mono ?_
  rintro e wg ⟨rfl, hbx⟩
  have hbw := hbw.trans (hbx.mono hbw.size)
  have m0 := (hbx.block _ (hlt m0)).trans m0
  have m1 := (hbx.block _ (hlt m1)).trans m1
  have m2 := (hbx.block _ (hlt m2)).trans m2
  clear hbx y0 y1 y2
  obtain ⟨⟨y0, y1, y2⟩, _⟩ := row3 m2
  clear hRH hRN hSP hF1 hc hk9
  have hlG := hl.below hbw (Nat.le_refl _)
  have hEG := (hE.below hbw (Nat.le_refl _)).mono (Z' := (· < wg.heap.size)) (fun k hk => Nat.lt_of_lt_of_le hk hbw.size)
  have hFil : Calls Tryz.prog 23 #[.agg #[.int .i64 h.t, .int .i64 h.v], .agg #[.int .i64 0, .int .i64 0, .slice none 0 0], .slice A l.length cap] wg (FilledP wg h snap0 l) := filled_any wg h hhr snap0 none 0 A l.length cap l (Lies.nil _) hEG (Nat.zero_le _) hf1
  obtain ⟨⟨x0, x1⟩, _⟩ := row2 m0
  go_wp2_with fail
  refine hFil.mono ?_
  rintro e w6 ⟨d, v, j, D, n, Z, x, ls, B6, c6, A6, cap6, S, L, hS, hL, rfl, C6, hn, hk, hlS, hzS, hEL⟩
  have hS0 : S = snap0 := hS.trans seed0
  subst hS0
  have hwL : weigh L ≤ 40000 ∧ L.length ≤ 10 := by
    rw [hL]
    unfold seedL
    split
    · exact ⟨hw1, hl1⟩
    · exact ⟨Nat.zero_le _, Nat.zero_le _⟩
  have hrunL : runB 0 0 L = true := hk.run
  have g1 := hlt m1
  have g2 := hlt m2
  have m1 := (C6.low.block _ g1).trans m1
  have m2 := (C6.low.block _ g2).trans m2
  clear hFil x0 x1 y0 y1 y2 m0 hS hL hEG hl hE hf1 hw1 hl1 hlS hzS i1 i2 i3
  go_upto_region 4 with fail
  have ha7 : Below w6.heap.size w6 (w6.alloc (.cells #[.int .i64 h.t, .int .i64 h.v, .int .i64 snap0.i, .int .i64 snap0.t, .slice B6 snap0.d.length c6, .slice A6 L.length cap6] 47)) := (Below.refl _ _).alloc (Nat.le_refl _) _
  have b7 := heap_alloc_new w6 (.cells #[.int .i64 h.t, .int .i64 h.v, .int .i64 snap0.i, .int .i64 snap0.t, .slice B6 snap0.d.length c6, .slice A6 L.length cap6] 47)
  have hlow6 := C6.low
  obtain ⟨Q, hQ⟩ : ∃ Q : Nat → Prop, Q = (fun k => Z k ∨ w6.heap.size ≤ k ∧ k < (w6.alloc (.cells #[.int .i64 h.t, .int .i64 h.v, .int .i64 snap0.i, .int .i64 snap0.t, .slice B6 snap0.d.length c6, .slice A6 L.length cap6] 47)).heap.size) := ⟨_, rfl⟩
  have K7 : KAt wg (w6.alloc (.cells #[.int .i64 h.t, .int .i64 h.v, .int .i64 snap0.i, .int .i64 snap0.t, .slice B6 snap0.d.length c6, .slice A6 L.length cap6] 47)) v j d D h n Q w6.heap.size (W.heap.size + 1) (W.heap.size + 1 + 1) #[.int .i64 h.t, .int .i64 h.v, .int .i64 snap0.i, .int .i64 snap0.t, .slice B6 snap0.d.length c6, .slice A6 L.length cap6] #[.int .i64 nx.t, .int .i64 nx.v] #[.int .i64 si, .int .i64 st, .slice B sd.length c] := by
    rw [hQ]
    exact ⟨C6.wide ha7, b7, (ha7.block _ (hlt m1)).trans m1, (ha7.block _ (hlt m2)).trans m2, ⟨.inr ⟨Nat.le_refl _, hlt b7⟩, by have := C6.vt.lg.lt; omega, by have := C6.vt.lt; omega⟩, ⟨.inl (C6.all _ g1), by have := C6.newj; omega, by have := C6.newv; omega⟩, ⟨.inl (C6.all _ g2), by have := C6.newj; omega, by have := C6.newv; omega⟩⟩
  have hEnt : ∀ w', wg.heap.size ≤ w'.heap.size → w6.heap.size ≤ w'.heap.size → Below wg.heap.size wg w' → Ents w' (· < wg.heap.size) A6 L.length cap6 L := fun w' _ h2 hb => hEL.keep h2 fun q _ hq => (hb.block q hq).trans (hlow6.block q hq).symm
  clear hQ C6 m1 m2 hlow6
  generalize (w6.alloc (.cells #[.int .i64 h.t, .int .i64 h.v, .int .i64 snap0.i, .int .i64 snap0.t, .slice B6 snap0.d.length c6, .slice A6 L.length cap6] 47)) = w7 at *
  clear ha7 b7
  have hEn : ∀ w', KAt wg w' v j d D h n Q w6.heap.size (W.heap.size + 1) (W.heap.size + 1 + 1) #[.int .i64 h.t, .int .i64 h.v, .int .i64 snap0.i, .int .i64 snap0.t, .slice B6 snap0.d.length c6, .slice A6 L.length cap6] #[.int .i64 nx.t, .int .i64 nx.v] #[.int .i64 si, .int .i64 st, .slice B sd.length c] → Ents w' (· < wg.heap.size) A6 L.length cap6 L := fun w' K => hEnt w' K.ctx.low.size (by have := hlt K.b; omega) K.ctx.low
  clear hEnt hEL
  obtain ⟨⟨b0, b1, b2, b3, b4, b5⟩, _⟩ := row6 K7.b
  by_cases hbig : 549755813888 < lastI 0 L
  · have hLp : 0 < L.length := by
      rcases Nat.eq_zero_or_pos L.length with h0 | h0
      · rw [List.length_eq_zero_iff.1 h0] at hbig
        exact absurd hbig (by decide)
      · exact h0
    obtain ⟨k, hkk⟩ : ∃ k, Hid (L.length = k + 1) := ⟨L.length - 1, ⟨by omega⟩⟩
    have hkl : k < L.length := by have := hkk.out; omega
    have e1 : decide (0 < L.length) = true := decide_eq_true (by omega)
    have e2 : (0 < L.length) = True := eq_true (by omega)
    have hlast := last_at 0 0 (l := L) (by omega)
    have hidx : L[L.length - 1]'(by omega) = L[k] := by congr 1; have := hkk.out; omega
    rw [hidx] at hlast
    obtain ⟨g, off, EE, ec, hA6, hg, c0, c1, c2, _⟩ := (hEn w7 K7).at_ k hkl
    subst hA6
    have i1 : wrap64 ((L.length : Int) - 1) = (k : Int) := by have := hkk.out; rw [IntWalk.wrap64_in _ (by omega)]; omega
    have i2 : IntKind.i64.wrap ((L.length : Int) - 1) = (k : Int) := by have := hkk.out; rw [IntWalk.i64_in _ (by omega)]; omega
    have i3 : decide (k < L.length) = true := decide_eq_true hkl
    clear hidx
    generalize L[k] = y at *
    have hb3 : ((549755813888 : Int) < y.i) = True := eq_true (by rw [← hlast.1]; exact hbig)
    clear hlast hbig
    obtain ⟨yi, yt, yd⟩ := y
    dsimp only at c0 hb3
    have HB := Lib.hid (hbw.trans (K7.ctx.low.mono hbw.size))
    clear hbw K7 hk hEn c1 c2
    go_wp2
    go_ret
    exact ⟨rfl, HB.out⟩
  · go_upto_region 5 with fail
    go_cut [101] (fun v19 wx => v19 = .bool false ∧ KAt wg wx v j d D h n Q w6.heap.size (W.heap.size + 1) (W.heap.size + 1 + 1) #[.int .i64 h.t, .int .i64 h.v, .int .i64 snap0.i, .int .i64 snap0.t, .slice B6 snap0.d.length c6, .slice A6 L.length cap6] #[.int .i64 nx.t, .int .i64 nx.v] #[.int .i64 si, .int .i64 st, .slice B sd.length c])
    case first =>
      by_cases hL0 : L.length = 0
      · have e1 : decide (0 < L.length) = false := decide_eq_false (by omega)
        have e2 : (0 < L.length) = False := eq_false (by omega)
        clear hL0
        go_wp2
        go_meet
        exact ⟨rfl, K7⟩
      · have hLp : 0 < L.length := by omega
        clear hL0
        obtain ⟨k, hkk⟩ : ∃ k, Hid (L.length = k + 1) := ⟨L.length - 1, ⟨by omega⟩⟩
        have hkl : k < L.length := by have := hkk.out; omega
        have e1 : decide (0 < L.length) = true := decide_eq_true (by omega)
        have e2 : (0 < L.length) = True := eq_true (by omega)
        have hlast := last_at 0 0 (l := L) (by omega)
        have hidx : L[L.length - 1]'(by omega) = L[k] := by congr 1; have := hkk.out; omega
        rw [hidx] at hlast
        obtain ⟨g, off, EE, ec, hA6, hg, c0, c1, c2, _⟩ := (hEn w7 K7).at_ k hkl
        subst hA6
        have i1 : wrap64 ((L.length : Int) - 1) = (k : Int) := by have := hkk.out; rw [IntWalk.wrap64_in _ (by omega)]; omega
        have i2 : IntKind.i64.wrap ((L.length : Int) - 1) = (k : Int) := by have := hkk.out; rw [IntWalk.i64_in _ (by omega)]; omega
        have i3 : decide (k < L.length) = true := decide_eq_true hkl
        clear hidx
        generalize L[k] = y at *
        have hb3 : ((549755813888 : Int) < y.i) = False := eq_false (by rw [← hlast.1]; exact hbig)
        clear hlast hbig
        obtain ⟨yi, yt, yd⟩ := y
        dsimp only at c0 hb3
        clear c1 c2
        go_wp2
        go_meet
        exact ⟨rfl, K7⟩
    case rest =>
      obtain ⟨rfl, K9⟩ := hcut
      clear K7 b0 b1 b2 b3 b4 b5 hEn
      obtain ⟨w9, rfl⟩ : ∃ w9, w9 = wc := ⟨_, rfl⟩
      have hleft := leftE_runs hrunL (s := ⟨si, st, sd⟩) hsi.1.1
      obtain ⟨m, hm⟩ : ∃ m, Hid (fz % 16 = m) := ⟨_, ⟨rfl⟩⟩
      have f1 : (fz : Int) % 16 = (m : Int) := by have := hm.out; omega
      have hm16 : m < 16 := by have := hm.out; omega
      have f2 : IntKind.i64.wrap (m : Int) = (m : Int) := IntWalk.i64_in _ (by omega)
      obtain ⟨u1, hkF⟩ := hk.fuse m
      have hFu := dsk_fuse w9 d D _ K9.ctx.vt.lg.dk (m : Int) (by omega)
      clear hk
      generalize D.fuse (m : Int) = RF at *
      obtain ⟨DF, eF⟩ := RF
      dsimp only at hFu u1 hkF
      subst u1
      have hla := saveRecs_length h nx []
      have hlb := allRecs_length nx []
      have hlc := snapFrame_length ⟨si, st, sd⟩
      have w0 : weigh [] = 0 := rfl
      simp only [List.length_nil] at hla hlb
      dsimp only at hlc
      obtain ⟨D', a, b, out, x', ls', cS, hkK, cc⟩ := hkF.crash_keep hok (V := 60000 + (framesL (saveRecs h nx [])).length + (frameL (snapRec ⟨si, st, sd⟩)).length + (framesL (allRecs nx [])).length) (W := 41000) rfl (by simp only [List.length_nil]; omega) (by omega) (by omega) hleft Yk len3
      have hkK := hkK.more (V := 110000) (by omega)
      have hfit : Fits b out := crash_fits (nx := nx) (h := h) (a := a) (b := nx) (s := ⟨si, st, sd⟩) hrunL hwL.2 hwL.1 (by omega) hsi.1 hsi.2 (by
        rcases cc with ⟨_, _, qb, qo⟩ | ⟨_, ⟨qb, qo, _⟩ | ⟨qb, qo, _⟩⟩
        · exact .inl ⟨qb, qo⟩
        · exact .inr (.inl ⟨qb, qo⟩)
        · exact .inr (.inr ⟨qb, qo⟩))
      have har : rightH a = true := (tells_right hkK.tells).1
      have hus := keeps_used hkF hok (V := 60000 + (framesL (saveRecs h nx [])).length + (frameL (snapRec ⟨si, st, sd⟩)).length + (framesL (allRecs nx [])).length) rfl (by omega) Yk len3
      have hKp := fun w10 (K : KAt wg w10 v j d DF h n Q w6.heap.size (W.heap.size + 1) (W.heap.size + 1 + 1) #[.int .i64 h.t, .int .i64 h.v, .int .i64 snap0.i, .int .i64 snap0.t, .slice B6 snap0.d.length c6, .slice A6 L.length cap6] #[.int .i64 nx.t, .int .i64 nx.v] #[.int .i64 si, .int .i64 st, .slice B sd.length c]) => vkeep_any w10 v j d DF h n _ K.ctx.vt nx ⟨si, st, sd⟩ B c (K.ctx.lies hlG).1 (K.ctx.lies hlG).2 none 0 0 [] (ents_none _ _) (by omega) (by omega)
      unfold KeepP at hKp
      clear hkF hla hlb hlc w0 hleft cc
      generalize DF.keepV h nx ⟨si, st, sd⟩ [] = RS at *
      obtain ⟨⟨D2, e10⟩, was2⟩ := RS
      dsimp only at hKp cS hus
      clear hbig
      go_wp2_with fail
      refine hFu.mono ?_
      rintro e w10 ⟨rfl, hd10⟩
      have K10 := K9.did hd10
      have hKc := hKp w10 K10
      obtain ⟨⟨o0, o1⟩, _⟩ := row2 K10.m
      obtain ⟨⟨y0, y1, y2⟩, _⟩ := row3 K10.s
      clear hFu hd10 K9 hKp
      go_wp2_with fail
      refine hKc.mono ?_
      rintro e w11 ⟨rfl, n11, _, _, hd11⟩
      have K11 := K10.vdid hd11
      clear hKc hd11 K10 o0 o1 y0 y1 y2
      have hRI := (hKR.below hbw).below K11.ctx.low
      have hRs := dsk_restart w11 d D2 _ K11.ctx.vt.lg.dk A3 len3 cap3 Yk hRI (by omega) hlc3 (fun h0 a e => by
        obtain ⟨b', off', e', hb', _⟩ := hKR.2 h0
        rw [e] at e'
        injection e' with e'
        subst e'
        intro ed
        have ed : b' = d := ed
        exact K11.ctx.vt.lg.dk.dk.own.1 (ed ▸ K11.ctx.all b' (Nat.lt_of_lt_of_le hb' hbw.size)))
      generalize D2.restart Yk len3 = D3 at *
      clear hRI
      go_wp2_with fail
      refine hRs.mono ?_
      rintro e w12 ⟨rfl, hd12⟩
      have K12 := K11.did hd12
      clear hRs hd12 K11
      have hOp := open_known (U := 0) hus cS w12 d _ K12.ctx.vt.lg.dk
      clear hus cS
      have C12 := K12.ctx
      clear K12
      obtain ⟨bi, bt, bd⟩ := b
      go_wp2_with fail
      refine hOp.mono ?_
      rintro e w13 ⟨v2, j2, n2, Q2, Bs, bc, A13, c13, rfl, ho⟩
      have hn2 := ho.num
      have ha14 : Below w13.heap.size w13 ((w13.alloc (.cells #[.int .i64 a.t, .int .i64 a.v] 32)).alloc (.cells #[.int .i64 bi, .int .i64 bt, .slice Bs bd.length bc] 35)) := ((Below.refl _ _).alloc (Nat.le_refl _) _).alloc (by simp) _
      have pa : ((w13.alloc (.cells #[.int .i64 a.t, .int .i64 a.v] 32)).alloc (.cells #[.int .i64 bi, .int .i64 bt, .slice Bs bd.length bc] 35)).heap[w13.heap.size]? = some (.cells #[.int .i64 a.t, .int .i64 a.v] 32) := (Below.heap_alloc _ _ _ (by simp)).trans (heap_alloc_new _ _)
      have ps : ((w13.alloc (.cells #[.int .i64 a.t, .int .i64 a.v] 32)).alloc (.cells #[.int .i64 bi, .int .i64 bt, .slice Bs bd.length bc] 35)).heap[w13.heap.size + 1]? = some (.cells #[.int .i64 bi, .int .i64 bt, .slice Bs bd.length bc] 35) := heap_alloc2_new _ _ _
      have G0 := GAt.made C12 ho ha14 pa ps (Nat.le_refl _) (Nat.le_succ _)
      dsimp only at G0
      obtain ⟨Q4, hQ4⟩ : ∃ Q4 : Nat → Prop, Q4 = (fun k => Q2 k ∨ w13.heap.size ≤ k ∧ k < ((w13.alloc (.cells #[.int .i64 a.t, .int .i64 a.v] 32)).alloc (.cells #[.int .i64 bi, .int .i64 bt, .slice Bs bd.length bc] 35)).heap.size) := ⟨_, rfl⟩
      rw [← hQ4] at G0
      obtain ⟨D4, rfl⟩ : ∃ D4, D4 = D' := ⟨_, rfl⟩
      have G14 : GAt wg ((w13.alloc (.cells #[.int .i64 a.t, .int .i64 a.v] 32)).alloc (.cells #[.int .i64 bi, .int .i64 bt, .slice Bs bd.length bc] 35)) v2 j2 d D4 a n2 Q4 w13.heap.size (w13.heap.size + 1) a ⟨bi, bt, bd⟩ Bs bc A13 c13 out := G0
      clear hOp ho C12 hQ4 G0
      try dsimp only at pa ps
      go_upto_region 13 with fail
      obtain ⟨⟨p0, p1⟩, _⟩ := row2 pa
      obtain ⟨⟨r0, r1, r2⟩, _⟩ := row3 ps
      clear ha14 pa ps
      generalize ((w13.alloc (.cells #[.int .i64 a.t, .int .i64 a.v] 32)).alloc (.cells #[.int .i64 bi, .int .i64 bt, .slice Bs bd.length bc] 35)) = w14 at *
      go_quiet (fail)
      have G15 := G14.below (below_drewM (Below.refl _ _) nq)
      clear G14 p0 p1 r0 r1 r2
      generalize w14.drewN nq = w15 at *
      go_upto_if 131 with fail
      go_cut [25, 26] (fun x y wx => x = .int .i64 (lastI bi out) ∧ y = .int .i64 (lastT bt out) ∧ GAt wg wx v2 j2 d D4 a n2 Q4 w13.heap.size (w13.heap.size + 1) a ⟨bi, bt, bd⟩ Bs bc A13 c13 out)
      case first =>
        by_cases hz : out.length = 0
        · have e1 : decide (0 < out.length) = false := decide_eq_false (by omega)
          have e2 : (0 < out.length) = False := eq_false (by omega)
          have e3 : decide ((0 : Int) < (out.length : Int)) = false := decide_eq_false (by omega)
          have e4 : ((0 : Int) < (out.length : Int)) = False := eq_false (by omega)
          have hnil := List.length_eq_zero_iff.1 hz
          have h1 : lastI bi out = bi := by rw [hnil]; rfl
          have h2 : lastT bt out = bt := by rw [hnil]; rfl
          have HZ := Lib.hid hz
          clear hnil hz
          go_wp2
          · exfalso
            have h0 := HZ.out
            omega
          · go_meet
            exact ⟨by rw [h1], by rw [h2], G15⟩
        · obtain ⟨k, hkk⟩ : ∃ k, Hid (out.length = k + 1) := ⟨out.length - 1, ⟨by omega⟩⟩
          have hkl : k < out.length := by have := hkk.out; omega
          have e1 : decide (0 < out.length) = true := decide_eq_true (by omega)
          have e2 : (0 < out.length) = True := eq_true (by omega)
          have e3 : decide ((0 : Int) < (out.length : Int)) = true := decide_eq_true (by omega)
          have e4 : ((0 : Int) < (out.length : Int)) = True := eq_true (by omega)
          have hlast := last_at bi bt (l := out) (by omega)
          have hidx : out[out.length - 1]'(by omega) = out[k] := by congr 1; have := hkk.out; omega
          rw [hidx] at hlast
          have hol := hfit.len
          obtain ⟨g, off, EE, ec, hA13, hg, c0, c1, c2, _⟩ := G15.sp.ents.at_ k hkl
          subst hA13
          have i1 : wrap64 ((out.length : Int) - 1) = (k : Int) := by have := hkk.out; rw [IntWalk.wrap64_in _ (by omega)]; omega
          have i2 : IntKind.i64.wrap ((out.length : Int) - 1) = (k : Int) := by have := hkk.out; rw [IntWalk.i64_in _ (by omega)]; omega
          have i3 : decide (k < out.length) = true := decide_eq_true hkl
          have HL := Lib.hid hlast
          have HG := Lib.hid G15
          generalize out[k] = y at *
          clear hlast hidx hz G15 hfit hkK
          obtain ⟨yi, yt, yd⟩ := y
          dsimp only at c0 c1 c2
          clear c2
          go_wp2
          go_quiet (fail)
          go_wp2
          go_meet
          exact ⟨by rw [HL.out.1], by rw [HL.out.2], HG.out.below (below_drewM (Below.refl _ _) _)⟩
      case rest =>
        obtain ⟨rfl, rfl, G16⟩ := hcut
        clear G15
        obtain ⟨w16, rfl⟩ : ∃ w16, w16 = wc := ⟨_, rfl⟩
        have hI := hfit.i0
        have hT0 := hfit.t0
        have hol := hfit.len
        have hwo := hfit.wei
        dsimp only at hI hT0
        have hrun := hkK.run
        dsimp only at hrun
        have hgo : ∀ m : Nat, m ≤ 5 → ∀ T, lastT bt out ≤ T → 1 ≤ T ∧ T ≤ 1099511627776 → runB bi bt (out ++ moreE (lastI bi out) T m) = true := fun m hm5 T h1 h2 => runB_app hrun (moreE_run hI.1 (by omega) h1 h2)
        have HGO := Lib.hid hgo
        clear hgo hrun hfit
        generalize lastI bi out = I at *
        generalize lastT bt out = T0 at *
        obtain ⟨m6, hm6⟩ : ∃ m, Hid (my % 6 = m) := ⟨_, ⟨rfl⟩⟩
        have f3 : (my : Int) % 6 = (m6 : Int) := by have := hm6.out; omega
        have hm5 : m6 ≤ 5 := by have := hm6.out; omega
        have f4 : IntKind.i64.wrap (m6 : Int) = (m6 : Int) := IntWalk.i64_in _ (by omega)
        have hTE := termE_ok (t := T0) (term := term) hT0.2
        have HKK := Lib.hid hkK
        have HG16 := Lib.hid G16
        have hC16 := G16.ctx
        clear hkK
        go_wp2
        clear f1 f2 f3 f4
        go_loopg [147, 28] m6 (fun g i r wr => ∃ (k : Nat) (A7 : Option Addr) (c7 : Nat), k + g = m6 ∧ i = .int .i64 (k : Int) ∧ r = .slice A7 k c7 ∧ EntRow wr w16.heap.size (fun q => w16.heap.size ≤ q) (.slice A7 k c7) (moreE I (termE T0 term) k) ∧ Below w16.heap.size w16 wr)
        case atStart =>
          exact ⟨0, none, 0, by omega, rfl, rfl, EntRow.nil _ _ _, Below.refl _ _⟩
        case round =>
          obtain ⟨k, A7, c7, hkg, rfl, rfl, hrow, hbr⟩ := hrel
          by_cases hlt1 : k < m6
          · have hlti : ((k : Int) < (m6 : Int)) = True := eq_true (by omega)
            have s1 : wrap64 (I + 1) = I + 1 := IntWalk.wrap64_in _ (by omega)
            have s2 : wrap64 (I + 1 + (k : Int)) = I + 1 + (k : Int) := IntWalk.wrap64_in _ (by omega)
            have HG := Lib.hid hkg
            have HB := Lib.hid hbr
            have HR := Lib.hid hrow
            have hN2 := moreE_next I (termE T0 term) k
            have HN2 := Lib.hid hN2
            have hszb := hbr.size
            have hA5 : Below wr.heap.size wr (wr.alloc (.cells #[.int .i64 (I + 1 + (k : Int)), .int .i64 (termE T0 term), .slice none 0 0] 69)) := (Below.refl _ _).alloc (Nat.le_refl _) _
            have hrow5 := hrow.below hA5
            have hown : ∀ q, (Value.slice A7 k c7).ownBlock = some q → w16.heap.size ≤ q ∧ q < wr.heap.size := fun q hq => by
              obtain ⟨xs, ho, _⟩ := hrow
              have := ho.lt q hq
              exact this
            have hEB := ents_boxed (w := wr) (Y := fun q => w16.heap.size ≤ q ∧ (Value.slice A7 k c7).ownBlock ≠ some q) (i := I + 1 + (k : Int)) (t := termE T0 term) (D := none) (c := 0) (d := []) (Lies.nil _) (Nat.zero_le _) (fun h0 => absurd h0 (Nat.lt_irrefl _)) ⟨hszb, fun er => by have := (hown _ er).2; omega⟩
            have hY5 : ∀ q, (wr.alloc (.cells #[.int .i64 (I + 1 + (k : Int)), .int .i64 (termE T0 term), .slice none 0 0] 69)).heap.size ≤ q → w16.heap.size ≤ q := fun q hq => by have := hA5.size; omega
            have h9a : w16.heap.size ≤ (wr.alloc (.cells #[.int .i64 (I + 1 + (k : Int)), .int .i64 (termE T0 term), .slice none 0 0] 69)).heap.size := by have := hA5.size; omega
            have hlen : (moreE I (termE T0 term) k).length + 1 ≤ 1000000 := by rw [moreE_length]; omega
            have hlen1 : (moreE I (termE T0 term) k).length + 1 = k + 1 := by rw [moreE_length]
            generalize hTT : termE T0 term = TT at *
            obtain ⟨MN, hMN⟩ : ∃ MN, MN = min term 1099511627776 := ⟨_, rfl⟩
            obtain ⟨M2, hM2⟩ : ∃ M2, M2 = max T0 MN := ⟨_, rfl⟩
            have x1 : (if (1099511627776 : Int) < term then (1099511627776 : Int) else term) = MN := by rw [hMN]; split <;> omega
            have x2 : (if T0 < MN then MN else T0) = M2 := by rw [hM2]; split <;> omega
            have x3 : (if M2 < (1 : Int) then (1 : Int) else M2) = TT := by rw [← hTT]; unfold termE; rw [← hMN, ← hM2]; split <;> omega
            clear hMN hM2
            clear hkg hbr hrow hI hT0 hTE
            go_wp2_with (first
              | (at_builtin
                 (refine wpList_append_entrow _ rfl _ _ rfl w16.heap.size h9a (fun q => w16.heap.size ≤ q) (.slice A7 k c7) (moreE I TT k) hrow5 rfl (some ⟨wr.heap.size, 0, none⟩) 1 1 [⟨I + 1 + (k : Int), TT, []⟩] hEB rfl hY5 hlen (k + 1) hlen1 (moreE I TT (k + 1)) HN2.out.symm ?_)
                 intro A8 c8 w8 hrow8 hg8)
              | fail)
            have hb98 : Below w16.heap.size w16 w8 := (HB.out.trans (hA5.mono HB.out.size)).grown hg8 h9a (fun q hq => (hown q hq).1)
            go_roundg (gk - 1)
            case measure => have e : k + gk = m6 := HG.out; omega
            case rel => exact ⟨k + 1, A8, c8, by have e : k + gk = m6 := HG.out; omega, by go_num, rfl, hrow8, hb98⟩
          · obtain rfl : k = m6 := by omega
            clear hlt1 hkg
            have GL := HG16.out.wide hbr
            obtain ⟨wl, rfl⟩ : ∃ wl, wl = wr := ⟨_, rfl⟩
            obtain ⟨Q5, hQ5⟩ : ∃ Q5 : Nat → Prop, Q5 = (fun q => Q4 q ∨ w16.heap.size ≤ q ∧ q < wl.heap.size) := ⟨_, rfl⟩
            rw [← hQ5] at GL
            have hj16 := hC16.vt.lg.lt
            have hv16 := hC16.vt.lt
            have hrE := hrow.ents
            rw [moreE_length] at hrE
            obtain ⟨xs7, hown7, _⟩ := hrow
            have hown8 : ∀ o, blkS A7 o → w16.heap.size ≤ o ∧ o < wl.heap.size := fun o ⟨f, e⟩ => by subst e; exact hown7.lt o rfl
            clear hown7
            generalize hTT : termE T0 term = TT at *
            have hsv := HKK.out.save (h := a) (more := moreE I TT k) har (HGO.out k hm5 TT hTE.1 hTE.2) (by have := saveRecs_length a a (moreE I TT k); rw [moreE_length, moreE_weigh] at this; omega)
            obtain ⟨z1, z2, x9, ls9, hk8⟩ := hsv
            have hk9 := hk8.more (V := 120000) (by have := saveRecs_length a a (moreE I TT k); rw [moreE_length, moreE_weigh] at this; omega)
            clear hk8
            have hSv := vsave_any wl v2 j2 d D4 a n2 _ GL.ctx.vt a _ A7 k c7 (moreE I TT k) hrE (by omega) (by omega)
            unfold SaveP at hSv
            clear HKK HGO hI hT0 hTE har
            generalize D4.saveV a a (moreE I TT k) = RS at *
            obtain ⟨⟨D5, e17⟩, was5⟩ := RS
            dsimp only at hSv z1 z2 hk9
            subst z1
            have z3 := z2.symm
            subst z3
            clear z2
            obtain ⟨⟨p0, p1⟩, _⟩ := row2 GL.ra
            go_wp2_with fail
            refine hSv.mono ?_
            rintro e w17 ⟨rfl, n17, _, _, hd17⟩
            have G17 := GL.vdid hd17
            have hm17 : Ents w17 (fun q => w16.heap.size ≤ q ∧ q < wl.heap.size) A7 k c7 (moreE I TT k) := hrE.old.keep hd17.2.size fun q h1 h2 => hd17.2.block q h1 ⟨by rw [hQ5]; exact .inr h2, by omega, by omega⟩
            clear hSv GL p0 p1
            obtain ⟨LL, hLL⟩ : ∃ LL, out ++ moreE I TT k = LL := ⟨_, rfl⟩
            have hLn : LL.length = out.length + k := by rw [← hLL, List.length_append, moreE_length]
            have hHLL := Lib.hid hLL
            rw [hLL] at hk9
            have hOp2 := open_kept (U := 120000) hk9 (by omega) w17 d _ G17.ctx.vt.lg.dk
            clear hk9 hLL
            go_wp2_with fail
            refine hOp2.mono ?_
            rintro e w18 ⟨v3, j3, n3, Z3, Bs3, bc3, A18, c18, rfl, ho3⟩
            try dsimp only at ho3
            have ra18 := (ho3.kp.block _ (hlt G17.ra) G17.qa.1).trans G17.ra
            have rs18 := (ho3.kp.block _ (hlt G17.rs) G17.qs.1).trans G17.rs
            have sp18 := G17.sp.keep ho3.kp.size fun q h1 h2 => ho3.kp.block q h1 h2.1
            have ls18 := G17.lies.keep ho3.kp.size fun h0 g off e hg => ho3.kp.block g hg (G17.lz h0 g off e).1
            have hm18 := hm17.keep ho3.kp.size fun q h1 h2 => ho3.kp.block q h1 (by rw [hQ5]; exact .inr h2)
            have hz18 := ho3.ents.ents
            have lz18 := ho3.lies
            try dsimp only at hz18 lz18
            have hb18 := below_keeps G17.ctx.low ho3.kp G17.ctx.all G17.ctx.low.size
            have hblk : ∀ q, blkS A13 q → wg.heap.size ≤ q ∧ q < w16.heap.size := fun q hq => by
              obtain ⟨xs, h1, h2, _⟩ := HG16.out.sp
              exact ⟨(h2 q hq).2.2.2, h1.lt hq⟩
            have h1617 : w16.heap.size ≤ w17.heap.size := by have := hbr.size; have := G17.ctx.low; have := hd17.2.size; omega
            have ha19 : Below w18.heap.size w18 ((w18.alloc (.cells #[.int .i64 a.t, .int .i64 a.v] 32)).alloc (.cells #[.int .i64 bi, .int .i64 bt, .slice Bs3 bd.length bc3] 35)) := ((Below.refl _ _).alloc (Nat.le_refl _) _).alloc (by simp) _
            have rx19 : ((w18.alloc (.cells #[.int .i64 a.t, .int .i64 a.v] 32)).alloc (.cells #[.int .i64 bi, .int .i64 bt, .slice Bs3 bd.length bc3] 35)).heap[w18.heap.size]? = some (.cells #[.int .i64 a.t, .int .i64 a.v] 32) := (Below.heap_alloc _ _ _ (by simp)).trans (heap_alloc_new _ _)
            have ry19 : ((w18.alloc (.cells #[.int .i64 a.t, .int .i64 a.v] 32)).alloc (.cells #[.int .i64 bi, .int .i64 bt, .slice Bs3 bd.length bc3] 35)).heap[w18.heap.size + 1]? = some (.cells #[.int .i64 bi, .int .i64 bt, .slice Bs3 bd.length bc3] 35) := heap_alloc2_new _ _ _
            have ra19 := (ha19.block _ (hlt ra18)).trans ra18
            have rs19 := (ha19.block _ (hlt rs18)).trans rs18
            have sp19 := sp18.below ha19
            have ls19 := ls18.below ha19 (Nat.le_refl _)
            have lz19 := lz18.below ha19 (Nat.le_refl _)
            have hm19 := hm18.below ha19 (Nat.le_refl _)
            have hz19 := hz18.below ha19 (Nat.le_refl _)
            have hb19 := hb18.trans (ha19.mono hb18.size)
            have hSn := sameSnapR_any bi bt Bs3 bd.length bc3 bd bi bt Bs bd.length bc bd _ lz19 ls19
            rw [oneB_self] at hSn
            have z1 := eq_hardC a.t a.v a.t a.v
            rw [show (a.t == a.t && a.v == a.v) = true by simp] at z1
            clear hOp2 ho3 G17 hm17 ra18 rs18 sp18 ls18 hm18 hz18 lz18 hb18
            obtain ⟨⟨p0, p1⟩, _⟩ := row2 ra19
            obtain ⟨⟨r0, r1, r2⟩, _⟩ := row3 rs19
            obtain ⟨⟨s0, s1⟩, _⟩ := row2 rx19
            obtain ⟨⟨t0, t1, t2⟩, _⟩ := row3 ry19
            go_wp2_with fail
            refine hSn.mono ?_
            rintro e w20 ⟨rfl, hb20⟩
            have sp20 := sp19.below hb20
            have hm20 := (hm19.below hb20 (Nat.le_refl _)).mono (Z' := fun q => ¬ blkS A13 q) (fun q hq hB => by have := (hblk q hB).2; omega)
            have hz20 := hz19.below hb20 (Nat.le_refl _)
            have hbG20 := hb19.trans (hb20.mono hb19.size)
            have hf : out.length + k ≤ 1000000 := by omega
            clear hSn hb20 sp19 hm19 hz19 hb19 p0 p1 r0 r1 r2 s0 s1 t0 t1 t2 ra19 rs19 rx19 ry19 ls19 lz19 ha19
            go_wp2_with (first
              | (at_builtin
                 (refine wpList_append_spotE _ (by first | rfl | kernel_rfl) _ _ rfl _ A13 out.length c13 out sp20 rfl A7 k c7 (moreE I TT k) hm20 rfl hf ?_)
                 intro A21 c21 w21 hE21 q1 q2 q3 q4 q5)
              | fail)
            rw [hHLL.out, ← hLn] at hE21
            have hz21 := hz20.keep q4 fun q h1 h2 => q5 q h1 (fun hB => by have := (hblk q hB).2; have := h2.2.2.2; omega)
            have hb21 : Below wg.heap.size wg w21 := hbG20.trans ⟨q1.symm, q2.symm, q3.symm, q4, fun q hq => q5 q (Nat.lt_of_lt_of_le hq hbG20.size) (fun hB => by have := (hblk q hB).1; omega)⟩
            have hSm := sameR_any _ _ A18 LL.length c18 LL A21 LL.length c21 LL w21 hz21 hE21 (by unfold maxLen; omega)
            rw [sameE_refl] at hSm
            rw [hLn] at hSm
            clear hE21 hz21 hz20 hm20 sp20
            go_wp2_with fail
            refine hSm.mono ?_
            rintro e w22 ⟨rfl, hb22⟩
            go_wp2
            go_ret
            exact ⟨rfl, hbw.trans ((hb21.trans (hb22.mono hb21.size)).mono hbw.size)⟩
end Go.Proofs.YtmeoooojmhhahaaGreat.vauGoesOn
