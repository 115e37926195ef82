/- VaultKeeps' walk. (Written by mkkee.py.) -/
import Derived.Test.YtmeoooojmhhahaaGreatVauKeeA
import Derived.Deep.QuietTactic
import Derived.Deep.LoopGhost
namespace Go.Proofs.YtmeoooojmhhahaaGreat.vauKeeps
open Go.ChangeShapes Go.WideShapes Go.ChangeAt Go.RowKit Go.Proofs.YtmeoooojmhhahaaGreat
set_option linter.unusedVariables false
set_option linter.unusedSimpArgs false

theorem hd_beq (a b : Hd) : (a.t == b.t && a.v == b.v) = decide (a = b) := by
  obtain ⟨at_, av⟩ := a
  obtain ⟨bt, bv⟩ := b
  by_cases h1 : at_ = bt <;> by_cases h2 : av = bv <;> simp [h1, h2]

set_option maxRecDepth 100000 in
set_option maxHeartbeats 60000000 in
theorem walk_yes (h : Hd) (A : Option Addr) (cap : Nat) (l : List Ent) (nx : Hd) (si st : Int) (sd : List UInt8) (B : Option Addr) (c : Nat) (A2 : Option Addr) (cap2 : Nat) (more : List Ent) (fz : Nat) (A3 : Option Addr) (len3 cap3 : Nat) (W : World) (Yk : Nat → Int) (hl : Lies W B sd.length c sd) (hE : Ents W (· < W.heap.size) A l.length cap l) (hE2 : Ents W (· < W.heap.size) A2 more.length cap2 more) (hf1 : fewE l 10 = true) (hf2 : fewE more 10 = true) (hs : sd.length ≤ 2000) (hh : hardB h.t h.v = true) (hnx : hardB nx.t nx.v = true) (hsp : snapB si st sd.length = true) (hi0 : si ≠ 0) (hru : runB si st more = true) (hfz : fz < 256) (hKR : RI W A3 len3 Yk) (hlc3 : len3 ≤ cap3) (h9 : len3 ≤ 9) :
    Calls Tryz.prog 5 #[.agg #[.int .i64 h.t, .int .i64 h.v], .slice A l.length cap, .agg #[.int .i64 nx.t, .int .i64 nx.v], entV si st B sd.length c, .slice A2 more.length cap2, .int .u8 (fz : Int), .slice A3 len3 cap3] W fun e w' => e = .returned (.bool true) ∧ Below W.heap.size W w' := by
  obtain ⟨hl1, hw1, hd1⟩ := few_parts hf1
  obtain ⟨hl2, hw2, hd2⟩ := few_parts hf2
  have hm1 : l.length ≤ maxLen := by unfold maxLen; omega
  have hm2 : more.length ≤ maxLen := by unfold maxLen; omega
  have hb0 : Below W.heap.size W (((W.alloc (.cells #[.int .i64 h.t, .int .i64 h.v] 32)).alloc (.cells #[.int .i64 nx.t, .int .i64 nx.v] 32)).alloc (.cells #[.int .i64 si, .int .i64 st, .slice B sd.length c] 35)) := (((Below.refl _ _).alloc (Nat.le_refl _) _).alloc (by simp) _).alloc (by simp; omega) _
  have m0 : (((W.alloc (.cells #[.int .i64 h.t, .int .i64 h.v] 32)).alloc (.cells #[.int .i64 nx.t, .int .i64 nx.v] 32)).alloc (.cells #[.int .i64 si, .int .i64 st, .slice B sd.length c] 35)).heap[W.heap.size]? = some (.cells #[.int .i64 h.t, .int .i64 h.v] 32) := (Below.heap_alloc _ _ _ (by simp; omega)).trans ((Below.heap_alloc _ _ _ (by simp)).trans (heap_alloc_new _ _))
  have m1 : (((W.alloc (.cells #[.int .i64 h.t, .int .i64 h.v] 32)).alloc (.cells #[.int .i64 nx.t, .int .i64 nx.v] 32)).alloc (.cells #[.int .i64 si, .int .i64 st, .slice B sd.length c] 35)).heap[W.heap.size + 1]? = some (.cells #[.int .i64 nx.t, .int .i64 nx.v] 32) := (Below.heap_alloc _ _ _ (by simp)).trans (heap_alloc2_new _ _ _)
  have m2 : (((W.alloc (.cells #[.int .i64 h.t, .int .i64 h.v] 32)).alloc (.cells #[.int .i64 nx.t, .int .i64 nx.v] 32)).alloc (.cells #[.int .i64 si, .int .i64 st, .slice B sd.length c] 35)).heap[W.heap.size + 1 + 1]? = some (.cells #[.int .i64 si, .int .i64 st, .slice B sd.length c] 35) := by
    have := heap_alloc_new ((W.alloc (.cells #[.int .i64 h.t, .int .i64 h.v] 32)).alloc (.cells #[.int .i64 nx.t, .int .i64 nx.v] 32)) (.cells #[.int .i64 si, .int .i64 st, .slice B sd.length c] 35)
    simp only [World.size_alloc] at this
    exact this
  have hF1 := fun w1 (hb : Below W.heap.size W w1) => fewR_any _ A l.length cap l 10 w1 (hE.below hb (Nat.le_refl _)) hm1 (by omega) hd1
  have hF2 := fun w1 (hb : Below W.heap.size W w1) => fewR_any _ A2 more.length cap2 more 10 w1 (hE2.below hb (Nat.le_refl _)) hm2 (by omega) hd2
  have hRH := fun W => hardR_is h.t h.v W
  have hRN := fun W => hardR_is nx.t nx.v W
  have hSP := fun W => snapR_is si st B sd.length c W
  have hRU := fun w1 (hb : Below W.heap.size W w1) => runR_any _ A2 more.length cap2 more si st w1 (hE2.below hb (Nat.le_refl _)) hm2
  rw [hf1] at hF1
  rw [hf2] at hF2
  rw [hh] at hRH
  rw [hnx] at hRN
  rw [hsp] at hSP
  rw [hru] at hRU
  have hc : ((2000 : Int) < (sd.length : Int)) = False := eq_false (by omega)
  have hk9 : ((9 : Int) < (len3 : Int)) = False := eq_false (by omega)
  have i1 : (si == 0) = false := beq_eq_false_iff_ne.2 hi0
  have i2 : (si = 0) = False := eq_false hi0
  have hhr : rightH h = true := hh
  have hok : keepOk nx ⟨si, st, sd⟩ more = true := by
    have hnr : rightH nx = true := hnx
    unfold keepOk
    dsimp only
    rw [hsp, hnr, hru, decide_eq_true hi0]
    rfl
  have hsi : 1 ≤ si ∧ si ≤ 1099511627776 := by
    unfold snapB at hsp
    split at hsp
    · rename_i h0; exact absurd h0.1 hi0
    · unfold numB at hsp
      simp only [Bool.and_eq_true, decide_eq_true_eq] at hsp
      omega
  clear hd1 hd2 hm1 hh hnx hsp hru hf2
  go_enter Tryz.func5, Tryz.ntmps5
  go_wp2_with fail
  refine (awake10_any _).mono ?_
  rintro e w1 ⟨rfl, hb1⟩
  have hbw := hb0.trans (hb1.mono hb0.size)
  have m0 := (hb1.block _ (hlt m0)).trans m0
  have m1 := (hb1.block _ (hlt m1)).trans m1
  have m2 := (hb1.block _ (hlt m2)).trans m2
  obtain ⟨⟨y0, y1, y2⟩, _⟩ := row3 m2
  clear hb1 hb0
  have hFx := hF1 _ hbw
  go_wp2_with fail
  refine hFx.mono ?_
  rintro e wq ⟨rfl, rfl⟩
  clear hFx
  have hFx := hF2 _ hbw
  go_wp2_with fail
  refine hFx.mono ?_
  rintro e wq ⟨rfl, rfl⟩
  clear hFx
  obtain ⟨⟨x0, x1⟩, _⟩ := row2 m0
  go_wp2_with fail
  refine (hRH _).mono ?_
  rintro e wh5 ⟨rfl, hbx⟩
  have hbw := hbw.trans (hbx.mono hbw.size)
  clear x0 x1
  have m0 := (hbx.block _ (hlt m0)).trans m0
  have m1 := (hbx.block _ (hlt m1)).trans m1
  have m2 := (hbx.block _ (hlt m2)).trans m2
  clear hbx y0 y1 y2
  obtain ⟨⟨y0, y1, y2⟩, _⟩ := row3 m2
  obtain ⟨⟨x0, x1⟩, _⟩ := row2 m1
  go_wp2_with fail
  refine (hRN _).mono ?_
  rintro e wh6 ⟨rfl, hbx⟩
  have hbw := hbw.trans (hbx.mono hbw.size)
  clear x0 x1
  have m0 := (hbx.block _ (hlt m0)).trans m0
  have m1 := (hbx.block _ (hlt m1)).trans m1
  have m2 := (hbx.block _ (hlt m2)).trans m2
  clear hbx y0 y1 y2
  obtain ⟨⟨y0, y1, y2⟩, _⟩ := row3 m2
  go_wp2_with fail
  refine (hSP _).mono ?_
  rintro e wh7 ⟨rfl, hbx⟩
  have hbw := hbw.trans (hbx.mono hbw.size)
  have m0 := (hbx.block _ (hlt m0)).trans m0
  have m1 := (hbx.block _ (hlt m1)).trans m1
  have m2 := (hbx.block _ (hlt m2)).trans m2
  clear hbx y0 y1 y2
  obtain ⟨⟨y0, y1, y2⟩, _⟩ := row3 m2
  have hRx := hRU _ hbw
  go_wp2_with fail
  refine (hRx).mono ?_
  rintro e wg ⟨rfl, hbx⟩
  have hbw := hbw.trans (hbx.mono hbw.size)
  have m0 := (hbx.block _ (hlt m0)).trans m0
  have m1 := (hbx.block _ (hlt m1)).trans m1
  have m2 := (hbx.block _ (hlt m2)).trans m2
  clear hbx y0 y1 y2
  obtain ⟨⟨y0, y1, y2⟩, _⟩ := row3 m2
  clear hRx
  clear hRH hRN hSP hRU hF1 hF2 hc hk9 i1 i2
  have hlG := hl.below hbw (Nat.le_refl _)
  have hEG := (hE.below hbw (Nat.le_refl _)).mono (Z' := (· < wg.heap.size)) (fun k hk => Nat.lt_of_lt_of_le hk hbw.size)
  have hEG2 := (hE2.below hbw (Nat.le_refl _)).mono (Z' := (· < wg.heap.size)) (fun k hk => Nat.lt_of_lt_of_le hk hbw.size)
  have hFil : Calls Tryz.prog 23 #[.agg #[.int .i64 h.t, .int .i64 h.v], .agg #[.int .i64 0, .int .i64 0, .slice none 0 0], .slice A l.length cap] wg (FilledP wg h snap0 l) := filled_any wg h hhr snap0 none 0 A l.length cap l (Lies.nil _) hEG (Nat.zero_le _) hf1
  obtain ⟨⟨x0, x1⟩, _⟩ := row2 m0
  go_wp2_with fail
  refine hFil.mono ?_
  rintro e w6 ⟨d, v, j, D, n, Z, x, ls, B6, c6, A6, cap6, S, L, hS, hL, rfl, C6, hn, hk, hlS, hzS, hEL⟩
  have hS0 : S = snap0 := hS.trans seed0
  subst hS0
  have hwL : weigh L ≤ 40000 ∧ L.length ≤ 10 := by
    rw [hL]
    unfold seedL
    split
    · exact ⟨hw1, hl1⟩
    · exact ⟨Nat.zero_le _, Nat.zero_le _⟩
  have hrunL : runB 0 0 L = true := hk.run
  have g1 := hlt m1
  have g2 := hlt m2
  have m1 := (C6.low.block _ g1).trans m1
  have m2 := (C6.low.block _ g2).trans m2
  clear hFil x0 x1 y0 y1 y2 m0 hS hL hEG hl hE hE2 hf1 hw1 hl1 hlS hzS
  go_upto_region 5 with fail
  have ha7 : Below w6.heap.size w6 (w6.alloc (.cells #[.int .i64 h.t, .int .i64 h.v, .int .i64 snap0.i, .int .i64 snap0.t, .slice B6 snap0.d.length c6, .slice A6 L.length cap6] 47)) := (Below.refl _ _).alloc (Nat.le_refl _) _
  have b7 := heap_alloc_new w6 (.cells #[.int .i64 h.t, .int .i64 h.v, .int .i64 snap0.i, .int .i64 snap0.t, .slice B6 snap0.d.length c6, .slice A6 L.length cap6] 47)
  have hlow6 := C6.low
  obtain ⟨Q, hQ⟩ : ∃ Q : Nat → Prop, Q = (fun k => Z k ∨ w6.heap.size ≤ k ∧ k < (w6.alloc (.cells #[.int .i64 h.t, .int .i64 h.v, .int .i64 snap0.i, .int .i64 snap0.t, .slice B6 snap0.d.length c6, .slice A6 L.length cap6] 47)).heap.size) := ⟨_, rfl⟩
  have K7 : KAt wg (w6.alloc (.cells #[.int .i64 h.t, .int .i64 h.v, .int .i64 snap0.i, .int .i64 snap0.t, .slice B6 snap0.d.length c6, .slice A6 L.length cap6] 47)) v j d D h n Q w6.heap.size (W.heap.size + 1) (W.heap.size + 1 + 1) #[.int .i64 h.t, .int .i64 h.v, .int .i64 snap0.i, .int .i64 snap0.t, .slice B6 snap0.d.length c6, .slice A6 L.length cap6] #[.int .i64 nx.t, .int .i64 nx.v] #[.int .i64 si, .int .i64 st, .slice B sd.length c] := by
    rw [hQ]
    exact ⟨C6.wide ha7, b7, (ha7.block _ (hlt m1)).trans m1, (ha7.block _ (hlt m2)).trans m2, ⟨.inr ⟨Nat.le_refl _, hlt b7⟩, by have := C6.vt.lg.lt; omega, by have := C6.vt.lt; omega⟩, ⟨.inl (C6.all _ g1), by have := C6.newj; omega, by have := C6.newv; omega⟩, ⟨.inl (C6.all _ g2), by have := C6.newj; omega, by have := C6.newv; omega⟩⟩
  have hEnt : ∀ w', wg.heap.size ≤ w'.heap.size → w6.heap.size ≤ w'.heap.size → Below wg.heap.size wg w' → Ents w' (· < wg.heap.size) A6 L.length cap6 L := fun w' _ h2 hb => hEL.keep h2 fun q _ hq => (hb.block q hq).trans (hlow6.block q hq).symm
  clear hQ C6 m1 m2 hlow6
  generalize (w6.alloc (.cells #[.int .i64 h.t, .int .i64 h.v, .int .i64 snap0.i, .int .i64 snap0.t, .slice B6 snap0.d.length c6, .slice A6 L.length cap6] 47)) = w7 at *
  clear ha7 b7
  have hEn : ∀ w', KAt wg w' v j d D h n Q w6.heap.size (W.heap.size + 1) (W.heap.size + 1 + 1) #[.int .i64 h.t, .int .i64 h.v, .int .i64 snap0.i, .int .i64 snap0.t, .slice B6 snap0.d.length c6, .slice A6 L.length cap6] #[.int .i64 nx.t, .int .i64 nx.v] #[.int .i64 si, .int .i64 st, .slice B sd.length c] → Ents w' (· < wg.heap.size) A6 L.length cap6 L := fun w' K => hEnt w' K.ctx.low.size (by have := hlt K.b; omega) K.ctx.low
  have HEnt := Lib.hid hEnt
  clear hEnt
  obtain ⟨⟨b0, b1, b2, b3, b4, b5⟩, _⟩ := row6 K7.b
  obtain ⟨⟨y0, y1, y2⟩, _⟩ := row3 K7.s
  go_cut [19] (fun v19 wx => v19 = .bool false ∧ KAt wg wx v j d D h n Q w6.heap.size (W.heap.size + 1) (W.heap.size + 1 + 1) #[.int .i64 h.t, .int .i64 h.v, .int .i64 snap0.i, .int .i64 snap0.t, .slice B6 snap0.d.length c6, .slice A6 L.length cap6] #[.int .i64 nx.t, .int .i64 nx.v] #[.int .i64 si, .int .i64 st, .slice B sd.length c])
  case first =>
    by_cases hL0 : L.length = 0
    · have e1 : decide (0 < L.length) = false := decide_eq_false (by omega)
      have e2 : (0 < L.length) = False := eq_false (by omega)
      clear hL0
      go_quiet (fail)
      go_wp2
      go_meet
      exact ⟨rfl, K7.below (below_drewM (Below.refl _ _) _)⟩
    · have e1 : decide (0 < L.length) = true := decide_eq_true (by omega)
      have e2 : (0 < L.length) = True := eq_true (by omega)
      obtain ⟨g, off, EE, ec, rfl, hg, c0, c1, c2, hll⟩ := (hEn w7 K7).at_ 0 (by omega)
      have hf := run_at hrunL 0 (by omega)
      have hf1 : L[0].i = 1 := by omega
      rw [hf1] at c0
      have c0 : w7.cell? ⟨g, off, none⟩ = some (.int .i64 1) := by simpa using c0
      have hL1 : 0 < L.length := by omega
      obtain ⟨J, hJ⟩ : ∃ J, J = si + 1 := ⟨_, rfl⟩
      have j1 : IntKind.i64.wrap (si + 1) = J := by rw [IntWalk.i64_in _ (by omega)]; exact hJ.symm
      have j2 : wrap64 (si + 1) = J := by rw [IntWalk.wrap64_in _ (by omega)]; exact hJ.symm
      have j3 : ((1 : Int) == J) = false := beq_eq_false_iff_ne.2 (by omega)
      have j4 : ((1 : Int) = J) = False := eq_false (by omega)
      clear hf hf1 hJ c1 c2 hll
      clear hL0
      go_quiet (fail)
      go_wp2
      go_meet
      exact ⟨rfl, K7.below (below_drewM (Below.refl _ _) _)⟩
  case rest =>
    obtain ⟨rfl, K9⟩ := hcut
    clear K7 b0 b1 b2 b3 b4 b5 y0 y1 y2
    obtain ⟨⟨b0, b1, b2, b3, b4, b5⟩, _⟩ := row6 K9.b
    go_wp2
    clear b0 b1 b2 b3 b4 b5
    go_loopg [109, 19] L.length (fun g i b wr => ∃ k : Nat, k + g = L.length ∧ i = .int .i64 (k : Int) ∧ b = .bool ((L.take k).any (matchB si st)) ∧ KAt wg wr v j d D h n Q w6.heap.size (W.heap.size + 1) (W.heap.size + 1 + 1) #[.int .i64 h.t, .int .i64 h.v, .int .i64 snap0.i, .int .i64 snap0.t, .slice B6 snap0.d.length c6, .slice A6 L.length cap6] #[.int .i64 nx.t, .int .i64 nx.v] #[.int .i64 si, .int .i64 st, .slice B sd.length c])
    case atStart => exact ⟨0, by omega, rfl, rfl, K9⟩
    case round =>
      clear K9
      obtain ⟨k, hkg, rfl, rfl, Kr⟩ := hrel
      by_cases hlt1 : k < L.length
      · have hnext := any_next hlt1 (matchB si st)
        have hlti : ((k : Int) < (L.length : Int)) = True := eq_true (by omega)
        have hltd : decide (k < L.length) = true := decide_eq_true hlt1
        have HG := Lib.hid hkg
        obtain ⟨⟨b0, b1, b2, b3, b4, b5⟩, _⟩ := row6 Kr.b
        obtain ⟨⟨y0, y1, y2⟩, _⟩ := row3 Kr.s
        obtain ⟨g, off, EE, ec, hA6, hg, c0, c1, c2, hll⟩ := (hEn wr Kr).at_ k hlt1
        subst hA6
        have HK := Lib.hid Kr
        clear hkg hll c2
        obtain ⟨q, hq⟩ : ∃ q, (L.take k).any (matchB si st) = q := ⟨_, rfl⟩
        rw [hq] at hnext ⊢
        clear hq
        have HN := Lib.hid hnext
        unfold matchB at hnext
        generalize L[k] = y at *
        obtain ⟨yi, yt, yd⟩ := y
        dsimp only at c0 c1 hnext HN
        clear hEn hEL Kr
        cases q with
        | true =>
          clear hnext
          go_wp2
          go_quiet (fail)
          go_wp2
          go_roundg (gk - 1)
          case measure => have e : k + gk = L.length := HG.out; omega
          case rel => exact ⟨k + 1, by have e : k + gk = L.length := HG.out; omega, by go_num, by rw [HN.out]; rfl, HK.out.below (below_drewM (Below.refl _ _) _)⟩
        | false =>
          by_cases hi : yi = si
          · have hi' := hi.symm
            subst hi'
            clear hi
            by_cases ht : yt = st
            · have ht' := ht.symm
              subst ht'
              clear ht
              have HN2 := Lib.hid (show (L.take (k + 1)).any (matchB si st) = true by rw [HN.out]; unfold matchB; simp)
              clear hnext HN
              go_wp2
              go_quiet (fail)
              go_wp2
              go_roundg (gk - 1)
              case measure => have e : k + gk = L.length := HG.out; omega
              case rel => exact ⟨k + 1, by have e : k + gk = L.length := HG.out; omega, by go_num, by rw [HN2.out], HK.out.below (below_drewM (Below.refl _ _) _)⟩
            · have HN2 := Lib.hid (show (L.take (k + 1)).any (matchB si st) = false by rw [HN.out]; unfold matchB; simp [ht])
              have t1 : (yt == st) = false := beq_eq_false_iff_ne.2 ht
              have t2 : (yt = st) = False := eq_false ht
              clear hnext HN ht
              go_wp2
              go_quiet (fail)
              go_wp2
              go_roundg (gk - 1)
              case measure => have e : k + gk = L.length := HG.out; omega
              case rel => exact ⟨k + 1, by have e : k + gk = L.length := HG.out; omega, by go_num, by rw [HN2.out], HK.out.below (below_drewM (Below.refl _ _) _)⟩
          · have HN2 := Lib.hid (show (L.take (k + 1)).any (matchB si st) = false by rw [HN.out]; unfold matchB; simp [hi])
            have t1 : (yi == si) = false := beq_eq_false_iff_ne.2 hi
            have t2 : (yi = si) = False := eq_false hi
            clear hnext HN hi
            go_wp2
            go_quiet (fail)
            go_wp2
            go_roundg (gk - 1)
            case measure => have e : k + gk = L.length := HG.out; omega
            case rel => exact ⟨k + 1, by have e : k + gk = L.length := HG.out; omega, by go_num, by rw [HN2.out], HK.out.below (below_drewM (Below.refl _ _) _)⟩
      · obtain rfl : k = L.length := by omega
        rw [List.take_length]
        obtain ⟨Gd, hGd⟩ : ∃ q, Hid (L.any (matchB si st) = q) := ⟨_, ⟨rfl⟩⟩
        rw [hGd.out]
        obtain ⟨w9, rfl⟩ : ∃ w9, w9 = wr := ⟨_, rfl⟩
        have K9 := Kr
        clear Kr hkg hlt1
        obtain ⟨⟨b0, b1, b2, b3, b4, b5⟩, _⟩ := row6 K9.b
        go_wp2
        clear b0 b1 b2 b3 b4 b5
        obtain ⟨Y, hY⟩ : ∃ Y : Nat → Prop, Y = (fun k => k < wg.heap.size ∨ w9.heap.size ≤ k) := ⟨_, rfl⟩
        go_loopg [139, 18] L.length (fun g i r wr => ∃ (k : Nat) (A7 : Option Addr) (c7 : Nat), k + g = L.length ∧ i = .int .i64 (k : Int) ∧ r = .slice A7 (restE2 Gd si (L.take k)).length c7 ∧ EntRow wr w9.heap.size Y (.slice A7 (restE2 Gd si (L.take k)).length c7) (restE2 Gd si (L.take k)) ∧ Below w9.heap.size w9 wr)
        case atStart =>
          have e0 : restE2 Gd si (L.take 0) = [] := by unfold restE2; split <;> rfl
          exact ⟨0, none, 0, by omega, rfl, by rw [e0]; rfl, by rw [e0]; exact EntRow.nil _ _ _, Below.refl _ _⟩
        case round =>
          obtain ⟨k, A7, c7, hkg, rfl, rfl, hrow, hbr⟩ := hrel
          have Kr := K9.below hbr
          have HY := Lib.hid hY
          clear hY
          by_cases hlt1 : k < L.length
          · have hnext := rest_next hlt1 Gd si
            have hlti : ((k : Int) < (L.length : Int)) = True := eq_true (by omega)
            have hltd : decide (k < L.length) = true := decide_eq_true hlt1
            have HG := Lib.hid hkg
            have HB := Lib.hid hbr
            have hrs : (restE2 Gd si (L.take k)).length ≤ 10 := by
              have h1 : (restE2 Gd si (L.take k)).length ≤ (L.take k).length := by
                unfold restE2
                split
                · exact List.length_filter_le _ _
                · exact Nat.zero_le _
              rw [List.length_take] at h1
              omega
            obtain ⟨⟨b0, b1, b2, b3, b4, b5⟩, _⟩ := row6 Kr.b
            obtain ⟨⟨y0, y1, y2⟩, _⟩ := row3 Kr.s
            have hEr := hEn wr Kr
            obtain ⟨g, off, hA6, hg, hgz, hcc⟩ := hEr.2.2.2 (by omega)
            obtain ⟨EE, ec, c0, c1, c2, hecm, hlE, hzE⟩ := hcc k hlt1
            subst hA6
            have HKB := Lib.hid Kr.b
            have hsz9 := hbr.size
            have hG9 := K9.ctx.low.size
            generalize restE2 Gd si (L.take k) = rs at *
            have HR := Lib.hid hrow
            have HK := Lib.hid K9
            generalize L[k] = y at *
            obtain ⟨yi, yt, yd⟩ := y
            dsimp only at c0 c1 c2 hnext hlE hzE
            clear hkg hcc hEr Kr hbr hrow K9 hEn hEL hgz
            cases Gd with
            | false =>
              have HN2 := Lib.hid (show restE2 false si (L.take (k + 1)) = rs by rw [hnext]; simp)
              clear hnext hlE hzE c0 c1 c2
              go_wp2
              go_quiet (fail)
              go_wp2
              go_roundg (gk - 1)
              case measure => have e : k + gk = L.length := HG.out; omega
              case rel => exact ⟨k + 1, A7, c7, by have e : k + gk = L.length := HG.out; omega, by go_num, by rw [HN2.out], by rw [HN2.out]; exact HR.out.below (below_drewM (Below.refl _ _) _), below_drewM HB.out _⟩
            | true =>
              by_cases hi : si < yi
              · have HN2 := Lib.hid (show restE2 true si (L.take (k + 1)) = rs ++ [⟨yi, yt, yd⟩] by rw [hnext, if_pos ⟨rfl, hi⟩])
                have t1 : (si < yi) = True := eq_true hi
                have HL := Lib.hid hlE
                have HZ := Lib.hid hzE
                clear hnext hlE hzE hi
                go_wp2
                go_quiet (fail)
                have hB5 : Below wr.heap.size wr (wr.drewN nq) := below_drewM (Below.refl _ _) _
                have d0 : (wr.drewN nq).cell? ⟨g, off + k * 3, none⟩ = _ := c0
                have d1 : (wr.drewN nq).cell? ⟨g, off + k * 3 + 1, none⟩ = _ := c1
                have d2 : (wr.drewN nq).cell? ⟨g, off + k * 3 + 2, none⟩ = _ := c2
                have hz5 : wr.heap.size ≤ (wr.drewN nq).heap.size := hB5.size
                clear c0 c1 c2 b0 b1 b2 b3 b4 b5 y0 y1 y2
                generalize wr.drewN nq = W5 at *
                obtain ⟨⟨b0, b1, b2, b3, b4, b5⟩, _⟩ := row6 ((hB5.block _ (hlt HKB.out)).trans HKB.out)
                have hA5 : Below W5.heap.size W5 (W5.alloc (.cells #[.int .i64 yi, .int .i64 yt, .slice EE yd.length ec] 69)) := (Below.refl _ _).alloc (Nat.le_refl _) _
                have hb95 := HB.out.trans (hB5.mono hsz9)
                have hrow5 := (HR.out.below hB5).below hA5
                have hYn : ∀ q, w9.heap.size ≤ q → Y q := fun q hq => by rw [HY.out]; exact .inr hq
                have hYo : ∀ q, q < wg.heap.size → Y q := fun q hq => by rw [HY.out]; exact .inl hq
                have hown : ∀ q, (Value.slice A7 rs.length c7).ownBlock = some q → w9.heap.size ≤ q ∧ q < W5.heap.size := fun q hq => by
                  obtain ⟨xs, ho, _⟩ := HR.out.below hB5
                  exact ho.lt q hq
                have hEB := ents_boxed (Y := fun q => Y q ∧ (Value.slice A7 rs.length c7).ownBlock ≠ some q) (i := yi) (t := yt) (HL.out.below hB5 (Nat.le_refl _)) hecm (fun h0 q o e => ⟨hYo q (HZ.out h0 q o e), fun er => by have := (hown q er).1; have : q < wg.heap.size := HZ.out h0 q o e; omega⟩) ⟨hYn _ (by omega), fun er => by have := (hown _ er).2; omega⟩
                have hY5 : ∀ q, (W5.alloc (.cells #[.int .i64 yi, .int .i64 yt, .slice EE yd.length ec] 69)).heap.size ≤ q → Y q := fun q hq => hYn q (by have := hA5.size; omega)
                have h9a : w9.heap.size ≤ (W5.alloc (.cells #[.int .i64 yi, .int .i64 yt, .slice EE yd.length ec] 69)).heap.size := by have := hA5.size; omega
                have hr1 : rs.length + 1 ≤ 1000000 := by omega
                go_wp2_with (first
                  | (at_builtin
                     refine wpList_append_entrow _ rfl _ _ rfl w9.heap.size h9a Y (.slice A7 rs.length c7) rs hrow5 rfl (some ⟨W5.heap.size, 0, none⟩) 1 1 [⟨yi, yt, yd⟩] hEB rfl hY5 hr1 (rs.length + 1) rfl (rs ++ [⟨yi, yt, yd⟩]) rfl ?_
                     intro A8 c8 w8 hrow8 hg8)
                  | fail)
                have hb98 : Below w9.heap.size w9 w8 := (hb95.trans (hA5.mono hb95.size)).grown hg8 h9a (fun q hq => (hown q hq).1)
                have hll : (rs ++ [(⟨yi, yt, yd⟩ : Ent)]).length = rs.length + 1 := by rw [List.length_append, List.length_singleton]
                go_roundg (gk - 1)
                case measure => have e : k + gk = L.length := HG.out; omega
                case rel => exact ⟨k + 1, A8, c8, by have e : k + gk = L.length := HG.out; omega, by go_num, by rw [HN2.out, hll], by rw [HN2.out, hll]; exact hrow8, hb98⟩
              · have HN2 := Lib.hid (show restE2 true si (L.take (k + 1)) = rs by rw [hnext, if_neg (fun q => hi q.2)]; simp)
                have t1 : (si < yi) = False := eq_false hi
                clear hnext hlE hzE c2 hi
                go_wp2
                go_quiet (fail)
                go_wp2
                go_roundg (gk - 1)
                case measure => have e : k + gk = L.length := HG.out; omega
                case rel => exact ⟨k + 1, A7, c7, by have e : k + gk = L.length := HG.out; omega, by go_num, by rw [HN2.out], by rw [HN2.out]; exact HR.out.below (below_drewM (Below.refl _ _) _), below_drewM HB.out _⟩
          · obtain rfl : k = L.length := by omega
            rw [List.take_length] at hrow ⊢
            have hrest : restE2 Gd si L = leftE ⟨si, st, sd⟩ L := by rw [← hGd.out]; exact (leftE_any hrunL (s := ⟨si, st, sd⟩) hsi.1).symm
            have hleft := leftE_runs hrunL (s := ⟨si, st, sd⟩) hsi.1
            rw [hrest] at hrow ⊢
            obtain ⟨wl, rfl⟩ : ∃ wl, wl = wr := ⟨_, rfl⟩
            obtain ⟨Q2, hQ2⟩ : ∃ Q2 : Nat → Prop, Q2 = (fun k => Q k ∨ w9.heap.size ≤ k ∧ k < wl.heap.size) := ⟨_, rfl⟩
            have KL : KAt wg wl v j d D h n Q2 w6.heap.size (W.heap.size + 1) (W.heap.size + 1 + 1) #[.int .i64 h.t, .int .i64 h.v, .int .i64 snap0.i, .int .i64 snap0.t, .slice B6 snap0.d.length c6, .slice A6 L.length cap6] #[.int .i64 nx.t, .int .i64 nx.v] #[.int .i64 si, .int .i64 st, .slice B sd.length c] := by rw [hQ2]; exact K9.wide hbr
            have hYQ : ∀ k, k < wl.heap.size → Y k → Q2 k ∧ k ≠ j ∧ k ≠ v := fun k hk hy => by
              rw [HY.out] at hy
              rw [hQ2]
              have h1 := K9.ctx.vt.lt
              have h2 := K9.ctx.vt.lg.lt
              have h3 := K9.ctx.newv
              have h4 := K9.ctx.newj
              rcases hy with hy | hy
              · exact ⟨.inl (K9.ctx.all k hy), by omega, by omega⟩
              · exact ⟨.inr ⟨hy, hk⟩, by omega, by omega⟩
            have hEnL := hEn wl Kr
            have hsp := hrow.spot.within
            clear hrest hQ2 Kr hkg hlt1 hbr HY hEn hEL K9 hrow
            obtain ⟨m, hm⟩ : ∃ m, Hid (fz % 16 = m) := ⟨_, ⟨rfl⟩⟩
            have f1 : (fz : Int) % 16 = (m : Int) := by have := hm.out; omega
            have hm16 : m < 16 := by have := hm.out; omega
            have f2 : IntKind.i64.wrap (m : Int) = (m : Int) := IntWalk.i64_in _ (by omega)
            obtain ⟨u1, hkF⟩ := hk.fuse m
            have hFu := dsk_fuse wl d D _ KL.ctx.vt.lg.dk (m : Int) (by omega)
            clear hk
            generalize D.fuse (m : Int) = RF at *
            obtain ⟨DF, eF⟩ := RF
            dsimp only at hFu u1 hkF
            subst u1
            have hla := saveRecs_length h nx []
            have hlb := allRecs_length nx more
            have hlc := snapFrame_length ⟨si, st, sd⟩
            have w0 : weigh [] = 0 := rfl
            simp only [List.length_nil] at hla
            dsimp only at hlc
            obtain ⟨D', a, b, out, x', ls', cS, _, cc⟩ := hkF.crash_keep hok (V := 60000 + (framesL (saveRecs h nx [])).length + (frameL (snapRec ⟨si, st, sd⟩)).length + (framesL (allRecs nx more)).length) (W := 41000) rfl (by omega) (by omega) (by omega) hleft Yk len3
            have hus := keeps_used hkF hok (V := 60000 + (framesL (saveRecs h nx [])).length + (frameL (snapRec ⟨si, st, sd⟩)).length + (framesL (allRecs nx more)).length) rfl (by omega) Yk len3
            have hKp := fun w10 (K : KAt wg w10 v j d DF h n Q2 w6.heap.size (W.heap.size + 1) (W.heap.size + 1 + 1) #[.int .i64 h.t, .int .i64 h.v, .int .i64 snap0.i, .int .i64 snap0.t, .slice B6 snap0.d.length c6, .slice A6 L.length cap6] #[.int .i64 nx.t, .int .i64 nx.v] #[.int .i64 si, .int .i64 st, .slice B sd.length c]) => vkeep_any w10 v j d DF h n _ K.ctx.vt nx ⟨si, st, sd⟩ B c (K.ctx.lies hlG).1 (K.ctx.lies hlG).2 A2 more.length cap2 more (K.ctx.ents hEG2) (by omega) (by omega)
            unfold KeepP at hKp
            clear hkF hla hlb hlc w0 hleft
            generalize DF.keepV h nx ⟨si, st, sd⟩ more = RS at *
            obtain ⟨⟨D2, e10⟩, was2⟩ := RS
            dsimp only at hKp cS cc hus
            go_wp2_with fail
            refine hFu.mono ?_
            rintro e w10 ⟨rfl, hd10⟩
            have K10 := KL.did hd10
            have hKc := hKp w10 K10
            obtain ⟨⟨o0, o1⟩, _⟩ := row2 K10.m
            obtain ⟨⟨y0, y1, y2⟩, _⟩ := row3 K10.s
            have hsp10 := hsp.keep hd10.2.size fun k hk hy => hd10.2.block k hk (hYQ k hy.2 hy.1).1
            clear hFu hd10 KL hKp hsp
            go_wp2_with fail
            refine hKc.mono ?_
            rintro e w11 ⟨rfl, n11, _, _, hd11⟩
            have K11 := K10.vdid hd11
            have hsp11 := hsp10.keep hd11.2.size fun k hk hy => hd11.2.block k hk (hYQ k hy.2 hy.1)
            clear hKc hd11 K10 hsp10 o0 o1 y0 y1 y2
            have hRI := (hKR.below hbw).below K11.ctx.low
            have hRs := dsk_restart w11 d D2 _ K11.ctx.vt.lg.dk A3 len3 cap3 Yk hRI (by omega) hlc3 (fun h0 a e => by
              obtain ⟨b', off', e', hb', _⟩ := hKR.2 h0
              rw [e] at e'
              injection e' with e'
              subst e'
              intro ed
              have ed : b' = d := ed
              exact K11.ctx.vt.lg.dk.dk.own.1 (ed ▸ K11.ctx.all b' (Nat.lt_of_lt_of_le hb' hbw.size)))
            generalize D2.restart Yk len3 = D3 at *
            clear hRI
            go_wp2_with fail
            refine hRs.mono ?_
            rintro e w12 ⟨rfl, hd12⟩
            have K12 := K11.did hd12
            have hsp12 := hsp11.keep hd12.2.size fun k hk hy => hd12.2.block k hk (hYQ k hy.2 hy.1).1
            clear hRs hd12 K11 hsp11
            have hOp := open_known (U := 0) hus cS w12 d _ K12.ctx.vt.lg.dk
            clear hus cS
            rcases cc with ⟨rfl, qa, qb, qo⟩ | ⟨rfl, ⟨qb, qo, ca⟩ | ⟨qb, qo, qa⟩⟩
            · obtain rfl : nx = a := qa.symm
              obtain rfl : (⟨si, st, sd⟩ : Ent) = b := qb.symm
              obtain rfl : more = out := qo.symm
              go_wp2_with fail
              refine hOp.mono ?_
              rintro e w13 ⟨v2, j2, n2, Z2, Bs, bc, A13, c13, rfl, ho⟩
              have K13 := K12.opd ho
              have hsp13 := hsp12.keep ho.kp.size fun k hk hy => ho.kp.block k hk (hYQ k hy.2 hy.1).1
              have hoE := ho.ents.ents
              have hol := ho.lies
              dsimp only at hoE hol K13
              clear hOp ho K12 hsp12
              have ha14 : Below w13.heap.size w13 ((w13.alloc (.cells #[.int .i64 nx.t, .int .i64 nx.v] 32)).alloc (.cells #[.int .i64 si, .int .i64 st, .slice Bs sd.length bc] 35)) := ((Below.refl _ _).alloc (Nat.le_refl _) _).alloc (by simp) _
              have pa : ((w13.alloc (.cells #[.int .i64 nx.t, .int .i64 nx.v] 32)).alloc (.cells #[.int .i64 si, .int .i64 st, .slice Bs sd.length bc] 35)).heap[w13.heap.size]? = some (.cells #[.int .i64 nx.t, .int .i64 nx.v] 32) := (Below.heap_alloc _ _ _ (by simp)).trans (heap_alloc_new _ _)
              have ps : ((w13.alloc (.cells #[.int .i64 nx.t, .int .i64 nx.v] 32)).alloc (.cells #[.int .i64 si, .int .i64 st, .slice Bs sd.length bc] 35)).heap[w13.heap.size + 1]? = some (.cells #[.int .i64 si, .int .i64 st, .slice Bs sd.length bc] 35) := heap_alloc2_new _ _ _
              have K14 := K13.below ha14
              have hoE14 := hoE.below ha14 (Nat.le_refl _)
              have hol14 := hol.below ha14 (Nat.le_refl _)
              have hl14 := hlG.below K14.ctx.low (Nat.le_refl _)
              have hE14 := hEG2.below K14.ctx.low (Nat.le_refl _)
              have hH := has_same _ nx ⟨si, st, sd⟩ Bs bc B c _ _ A13 c13 A2 cap2 more hol14 hl14 hoE14 hE14 (by unfold maxLen; omega)
              dsimp only at hH
              obtain ⟨⟨p0, p1⟩, _⟩ := row2 pa
              obtain ⟨⟨r0, r1, r2⟩, _⟩ := row3 ps
              obtain ⟨⟨o0, o1⟩, _⟩ := row2 K14.m
              obtain ⟨⟨y0, y1, y2⟩, _⟩ := row3 K14.s
              obtain ⟨⟨b0, b1, b2, b3, b4, b5⟩, _⟩ := row6 K14.b
              go_wp2_with fail
              refine hH.mono ?_
              rintro e w15 ⟨rfl, hb15⟩
              have K15 := K14.below hb15
              go_wp2
              go_ret
              exact ⟨rfl, hbw.trans (K15.ctx.low.mono hbw.size)⟩
            · obtain rfl : b = snap0 := qb
              obtain rfl : L = out := qo.symm
              go_wp2_with fail
              refine hOp.mono ?_
              rintro e w13 ⟨v2, j2, n2, Z2, Bs, bc, A13, c13, rfl, ho⟩
              have K13 := K12.opd ho
              have hsp13 := hsp12.keep ho.kp.size fun k hk hy => ho.kp.block k hk (hYQ k hy.2 hy.1).1
              have hoE := ho.ents.ents
              have hol := ho.lies
              dsimp only at hoE hol K13
              clear hOp ho K12 hsp12
              have ha14 : Below w13.heap.size w13 ((w13.alloc (.cells #[.int .i64 a.t, .int .i64 a.v] 32)).alloc (.cells #[.int .i64 snap0.i, .int .i64 snap0.t, .slice Bs snap0.d.length bc] 35)) := ((Below.refl _ _).alloc (Nat.le_refl _) _).alloc (by simp) _
              have pa : ((w13.alloc (.cells #[.int .i64 a.t, .int .i64 a.v] 32)).alloc (.cells #[.int .i64 snap0.i, .int .i64 snap0.t, .slice Bs snap0.d.length bc] 35)).heap[w13.heap.size]? = some (.cells #[.int .i64 a.t, .int .i64 a.v] 32) := (Below.heap_alloc _ _ _ (by simp)).trans (heap_alloc_new _ _)
              have ps : ((w13.alloc (.cells #[.int .i64 a.t, .int .i64 a.v] 32)).alloc (.cells #[.int .i64 snap0.i, .int .i64 snap0.t, .slice Bs snap0.d.length bc] 35)).heap[w13.heap.size + 1]? = some (.cells #[.int .i64 snap0.i, .int .i64 snap0.t, .slice Bs snap0.d.length bc] 35) := heap_alloc2_new _ _ _
              have K14 := K13.below ha14
              have hoE14 := hoE.below ha14 (Nat.le_refl _)
              have hol14 := hol.below ha14 (Nat.le_refl _)
              have hl14 := hlG.below K14.ctx.low (Nat.le_refl _)
              have hE14 := hEG2.below K14.ctx.low (Nat.le_refl _)
              have z0 : (snap0.i == 0) = true := rfl
              have z0' : (snap0.i = 0) = True := eq_true rfl
              have hEL14 := HEnt.out _ K14.ctx.low.size (by have := hlt K14.b; omega) K14.ctx.low
              have hSa := sameR_any _ _ A13 L.length c13 L A6 L.length cap6 L _ hoE14 hEL14 (by unfold maxLen; omega)
              rw [sameE_refl] at hSa
              have hone : oneB snap0.i snap0.t snap0.d si st sd = false := by
                unfold oneB
                rw [decide_eq_false (show ¬ snap0.i = si from fun e => hi0 (by rw [← e]; rfl))]
                rfl
              have hSn := fun w (h1 : Lies w Bs snap0.d.length bc snap0.d) (h2 : Lies w B sd.length c sd) => sameSnapR_any snap0.i snap0.t Bs snap0.d.length bc snap0.d si st B sd.length c sd w h1 h2
              rw [hone] at hSn
              have z1 := eq_hardC a.t a.v h.t h.v
              have z2 := eq_hardC a.t a.v nx.t nx.v
              clear hone hEL14
              by_cases hah : a = h
              · have eH : (a.t == h.t && a.v == h.v) = true := by rw [hah]; simp
                rw [eH] at z1
                clear eH hah ca z2
                obtain ⟨⟨p0, p1⟩, _⟩ := row2 pa
                obtain ⟨⟨r0, r1, r2⟩, _⟩ := row3 ps
                obtain ⟨⟨o0, o1⟩, _⟩ := row2 K14.m
                obtain ⟨⟨y0, y1, y2⟩, _⟩ := row3 K14.s
                obtain ⟨⟨b0, b1, b2, b3, b4, b5⟩, _⟩ := row6 K14.b
                go_wp2_with fail
                refine hSa.mono ?_
                rintro e w15 ⟨rfl, hbx⟩
                have pa := (hbx.block _ (hlt pa)).trans pa
                have ps := (hbx.block _ (hlt ps)).trans ps
                have K14 := K14.below hbx
                have hoE14 := hoE14.below hbx (Nat.le_refl _)
                have hol14 := hol14.below hbx (Nat.le_refl _)
                have hl14 := hl14.below hbx (Nat.le_refl _)
                have hE14 := hE14.below hbx (Nat.le_refl _)
                clear p0 p1 r0 r1 r2 o0 o1 y0 y1 y2 b0 b1 b2 b3 b4 b5
                have hSn1 := hSn w15 hol14 hl14
                clear hSa hbx hSn
                obtain ⟨⟨p0, p1⟩, _⟩ := row2 pa
                obtain ⟨⟨r0, r1, r2⟩, _⟩ := row3 ps
                obtain ⟨⟨o0, o1⟩, _⟩ := row2 K14.m
                obtain ⟨⟨y0, y1, y2⟩, _⟩ := row3 K14.s
                obtain ⟨⟨b0, b1, b2, b3, b4, b5⟩, _⟩ := row6 K14.b
                go_wp2_with fail
                refine hSn1.mono ?_
                rintro e w16 ⟨rfl, hbx⟩
                have pa := (hbx.block _ (hlt pa)).trans pa
                have ps := (hbx.block _ (hlt ps)).trans ps
                have K14 := K14.below hbx
                have hoE14 := hoE14.below hbx (Nat.le_refl _)
                have hol14 := hol14.below hbx (Nat.le_refl _)
                have hl14 := hl14.below hbx (Nat.le_refl _)
                have hE14 := hE14.below hbx (Nat.le_refl _)
                clear p0 p1 r0 r1 r2 o0 o1 y0 y1 y2 b0 b1 b2 b3 b4 b5
                go_wp2
                go_ret
                exact ⟨rfl, hbw.trans (K14.ctx.low.mono hbw.size)⟩
              · have han : a = nx := ca.resolve_left hah
                have eH : (a.t == h.t && a.v == h.v) = false := by rw [hd_beq]; simp [hah]
                have eN : (a.t == nx.t && a.v == nx.v) = true := by rw [han]; simp
                rw [eH] at z1
                rw [eN] at z2
                clear eH eN hah ca han
                obtain ⟨⟨p0, p1⟩, _⟩ := row2 pa
                obtain ⟨⟨r0, r1, r2⟩, _⟩ := row3 ps
                obtain ⟨⟨o0, o1⟩, _⟩ := row2 K14.m
                obtain ⟨⟨y0, y1, y2⟩, _⟩ := row3 K14.s
                obtain ⟨⟨b0, b1, b2, b3, b4, b5⟩, _⟩ := row6 K14.b
                go_wp2_with fail
                refine hSa.mono ?_
                rintro e w15 ⟨rfl, hbx⟩
                have pa := (hbx.block _ (hlt pa)).trans pa
                have ps := (hbx.block _ (hlt ps)).trans ps
                have K14 := K14.below hbx
                have hoE14 := hoE14.below hbx (Nat.le_refl _)
                have hol14 := hol14.below hbx (Nat.le_refl _)
                have hl14 := hl14.below hbx (Nat.le_refl _)
                have hE14 := hE14.below hbx (Nat.le_refl _)
                clear p0 p1 r0 r1 r2 o0 o1 y0 y1 y2 b0 b1 b2 b3 b4 b5
                have hSn1 := hSn w15 hol14 hl14
                clear hSa hbx hSn
                obtain ⟨⟨p0, p1⟩, _⟩ := row2 pa
                obtain ⟨⟨r0, r1, r2⟩, _⟩ := row3 ps
                obtain ⟨⟨o0, o1⟩, _⟩ := row2 K14.m
                obtain ⟨⟨y0, y1, y2⟩, _⟩ := row3 K14.s
                obtain ⟨⟨b0, b1, b2, b3, b4, b5⟩, _⟩ := row6 K14.b
                go_wp2_with fail
                refine hSn1.mono ?_
                rintro e w16 ⟨rfl, hbx⟩
                have pa := (hbx.block _ (hlt pa)).trans pa
                have ps := (hbx.block _ (hlt ps)).trans ps
                have K14 := K14.below hbx
                have hoE14 := hoE14.below hbx (Nat.le_refl _)
                have hol14 := hol14.below hbx (Nat.le_refl _)
                have hl14 := hl14.below hbx (Nat.le_refl _)
                have hE14 := hE14.below hbx (Nat.le_refl _)
                clear p0 p1 r0 r1 r2 o0 o1 y0 y1 y2 b0 b1 b2 b3 b4 b5
                go_wp2
                go_ret
                exact ⟨rfl, hbw.trans (K14.ctx.low.mono hbw.size)⟩
            · obtain rfl : nx = a := qa.symm
              obtain rfl : (⟨si, st, sd⟩ : Ent) = b := qb.symm
              obtain rfl : leftE ⟨si, st, sd⟩ L = out := qo.symm
              have hRl : (leftE ⟨si, st, sd⟩ L).length ≤ 10 := Nat.le_trans (leftE_len _ _) hwL.2
              generalize leftE ⟨si, st, sd⟩ L = RR at *
              go_wp2_with fail
              refine hOp.mono ?_
              rintro e w13 ⟨v2, j2, n2, Z2, Bs, bc, A13, c13, rfl, ho⟩
              have K13 := K12.opd ho
              have hsp13 := hsp12.keep ho.kp.size fun k hk hy => ho.kp.block k hk (hYQ k hy.2 hy.1).1
              have hoE := ho.ents.ents
              have hol := ho.lies
              dsimp only at hoE hol K13
              clear hOp ho K12 hsp12
              have ha14 : Below w13.heap.size w13 ((w13.alloc (.cells #[.int .i64 nx.t, .int .i64 nx.v] 32)).alloc (.cells #[.int .i64 si, .int .i64 st, .slice Bs sd.length bc] 35)) := ((Below.refl _ _).alloc (Nat.le_refl _) _).alloc (by simp) _
              have pa : ((w13.alloc (.cells #[.int .i64 nx.t, .int .i64 nx.v] 32)).alloc (.cells #[.int .i64 si, .int .i64 st, .slice Bs sd.length bc] 35)).heap[w13.heap.size]? = some (.cells #[.int .i64 nx.t, .int .i64 nx.v] 32) := (Below.heap_alloc _ _ _ (by simp)).trans (heap_alloc_new _ _)
              have ps : ((w13.alloc (.cells #[.int .i64 nx.t, .int .i64 nx.v] 32)).alloc (.cells #[.int .i64 si, .int .i64 st, .slice Bs sd.length bc] 35)).heap[w13.heap.size + 1]? = some (.cells #[.int .i64 si, .int .i64 st, .slice Bs sd.length bc] 35) := heap_alloc2_new _ _ _
              have K14 := K13.below ha14
              have hoE14 := hoE.below ha14 (Nat.le_refl _)
              have hol14 := hol.below ha14 (Nat.le_refl _)
              have hl14 := hlG.below K14.ctx.low (Nat.le_refl _)
              have hE14 := hEG2.below K14.ctx.low (Nat.le_refl _)
              have i1 : (si == 0) = false := beq_eq_false_iff_ne.2 hi0
              have i2 : (si = 0) = False := eq_false hi0
              have hsp14 := hsp13.ents.below ha14 (Nat.le_refl _)
              have hSn := sameSnapR_any si st Bs sd.length bc sd si st B sd.length c sd _ hol14 hl14
              rw [oneB_self] at hSn
              have z1 := eq_hardC nx.t nx.v nx.t nx.v
              rw [show (nx.t == nx.t && nx.v == nx.v) = true by simp] at z1
              obtain ⟨⟨p0, p1⟩, _⟩ := row2 pa
              obtain ⟨⟨r0, r1, r2⟩, _⟩ := row3 ps
              obtain ⟨⟨o0, o1⟩, _⟩ := row2 K14.m
              obtain ⟨⟨y0, y1, y2⟩, _⟩ := row3 K14.s
              obtain ⟨⟨b0, b1, b2, b3, b4, b5⟩, _⟩ := row6 K14.b
              go_wp2_with fail
              refine hSn.mono ?_
              rintro e w15 ⟨rfl, hbx⟩
              have pa := (hbx.block _ (hlt pa)).trans pa
              have ps := (hbx.block _ (hlt ps)).trans ps
              have K14 := K14.below hbx
              have hoE14 := hoE14.below hbx (Nat.le_refl _)
              have hol14 := hol14.below hbx (Nat.le_refl _)
              have hl14 := hl14.below hbx (Nat.le_refl _)
              have hE14 := hE14.below hbx (Nat.le_refl _)
              have hsp14 := hsp14.below hbx (Nat.le_refl _)
              clear p0 p1 r0 r1 r2 o0 o1 y0 y1 y2 b0 b1 b2 b3 b4 b5
              clear hSn hbx
              have hSm := sameR_any _ _ A13 RR.length c13 RR A2 more.length cap2 more w15 hoE14 hE14 (by unfold maxLen; omega)
              obtain ⟨⟨p0, p1⟩, _⟩ := row2 pa
              obtain ⟨⟨r0, r1, r2⟩, _⟩ := row3 ps
              obtain ⟨⟨o0, o1⟩, _⟩ := row2 K14.m
              obtain ⟨⟨y0, y1, y2⟩, _⟩ := row3 K14.s
              obtain ⟨⟨b0, b1, b2, b3, b4, b5⟩, _⟩ := row6 K14.b
              cases hq : sameE RR more with
              | true =>
                rw [hq] at hSm
                go_wp2_with fail
                refine hSm.mono ?_
                rintro e w16 ⟨rfl, hbx⟩
                have K14 := K14.below hbx
                go_wp2
                go_ret
                exact ⟨rfl, hbw.trans (K14.ctx.low.mono hbw.size)⟩
              | false =>
                rw [hq] at hSm
                go_wp2_with fail
                refine hSm.mono ?_
                rintro e w16 ⟨rfl, hbx⟩
                have K14 := K14.below hbx
                have hSr := sameR_any _ _ A13 RR.length c13 RR A7 RR.length c7 RR w16 (hoE14.below hbx (Nat.le_refl _)) (hsp14.below hbx (Nat.le_refl _)) (by unfold maxLen; omega)
                rw [sameE_refl] at hSr
                go_wp2_with fail
                refine hSr.mono ?_
                rintro e w17 ⟨rfl, hbx⟩
                have K14 := K14.below hbx
                go_wp2
                go_ret
                exact ⟨rfl, hbw.trans (K14.ctx.low.mono hbw.size)⟩
end Go.Proofs.YtmeoooojmhhahaaGreat.vauKeeps
