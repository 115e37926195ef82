/- The document's Restart, by its contract. -/
import Derived.Test.YtkgkllhocmedoaaDskRefE
namespace Go.Proofs.Ytkgkllhocmedoaa
open Go.RowKit
set_option linter.unusedVariables false
set_option linter.unusedSimpArgs false

/-- A slice that reads as these numbers. -/
def RI (w : World) (K : Option Addr) (klen : Nat) (Z : Nat → Int) : Prop :=
  (∀ j, j < klen → -9223372036854775808 ≤ Z j ∧ Z j ≤ 9223372036854775807) ∧ (0 < klen → ∃ b off, K = some ⟨b, off, none⟩ ∧ b < w.heap.size ∧ ∀ j, j < klen → w.cell? ⟨b, off + j, none⟩ = some (.int .i64 (Z j)))

theorem RI.below {w w' : World} {K : Option Addr} {klen : Nat} {Z : Nat → Int} (h : RI w K klen Z) (hb : Below w.heap.size w w') : RI w' K klen Z := by
  refine ⟨h.1, fun h0 => ?_⟩
  obtain ⟨b, off, e, hg, hc⟩ := h.2 h0
  exact ⟨b, off, e, Nat.lt_of_lt_of_le hg hb.size, fun j hj => (hb.cell (p := ⟨b, off + j, none⟩) hg).trans (hc j hj)⟩

/-- What a restart has come to behind so many files. -/
def BackW (w : World) (A : Option Addr) (cap : Nat) (D : Dsk) (Z : Nat → Int) (klen : Nat) (k : Nat) (wr : World) : Prop :=
  ∃ A' cap', wr.heap[w.heap.size]? = some (.cells #[.int .i64 D.room, .slice A' (backSt Z klen D.l k).2.length cap', .bool D.set, .int .i64 D.n, .bool D.lost] 31) ∧
    wr.heap[w.heap.size + 1]? = some (.cells zeroC 31) ∧ Below w.heap.size w wr ∧ w.heap.size + 2 ≤ wr.heap.size ∧ RF wr A' cap' (backSt Z klen D.l k).2 ∧
    ((A' = A ∧ cap' = cap ∧ (backSt Z klen D.l k).2 = D.l) ∨ New (w.heap.size + 2) A')

set_option maxRecDepth 100000 in
set_option maxHeartbeats 1200000 in
theorem restartR_any (A : Option Addr) (cap : Nat) (D : Dsk) (K : Option Addr) (klen kcap : Nat) (Z : Nat → Int) (w : World) (h : RF w A cap D.l) (hl : D.l.length ≤ 100000000) (hZ : RI w K klen Z) (hk : klen ≤ 9223372036854775807)
    (hsafe : ∀ f ∈ D.l, f.safe ≤ f.b.size ∧ f.b.size ≤ 1099511627776) :
    Calls Try.prog 33 #[diskV A cap D, .slice K klen kcap] w fun e w' => ∃ A' cap', e = .returned (diskV A' cap' (D.restart Z klen)) ∧ Got w A cap D.l w' A' cap' (D.restart Z klen).l := by
  obtain ⟨hbW, hm0, hm1, hsW⟩ := begin2 w (diskC A cap D) 31
  have hP := fun (l' : List Fil) (f : Fil) (A' : Option Addr) (cap' : Nat) w h hl => putR_any A' cap' { D with l := l' } f w h hl
  generalize hW : (w.alloc (.cells (diskC A cap D) 31)).alloc (.cells zeroC 31) = W at hbW hm0 hm1 hsW
  have HW := Lib.hid hW
  clear hW
  have hst : BackW w A cap D Z klen 0 W := ⟨A, cap, hm0, hm1, hbW, Nat.le_of_eq hsW.symm, h.below hbW (Nat.le_refl _), .inl ⟨rfl, rfl, rfl⟩⟩
  clear hm0 hm1
  have hlen := backSt_len Z klen D.l
  obtain ⟨room, l, set, n, lost⟩ := D
  dsimp only at *
  have hn' : (l.length : Int) ≤ 100000000 := by omega
  have hk' : (klen : Int) ≤ 9223372036854775807 := by omega
  go_enter Try.func33, Try.ntmps33
  go_wp2
  rw [HW.out]
  go_loopg [5, 15] l.length (fun g i x wr => ∃ k : Nat, x = .int .i64 (k : Int) ∧ k + g = l.length ∧ i = .int .i64 (((backSt Z klen l k).1 : Nat) : Int) ∧ BackW w A cap ⟨room, l, set, n, lost⟩ Z klen k wr)
  case atStart => exact ⟨0, rfl, by omega, rfl, hst⟩
  case round =>
    clear hst hbW hsW HW
    obtain ⟨k, rfl, hkg, rfl, A', cap', m0, m1, hb, hs, hr, hor⟩ := hrel
    have hlk := hlen k
    dsimp only at m0 m1 hr hor
    by_cases hlt : k < l.length
    · have hlt' : (k : Int) < (l.length : Int) := by omega
      have hno := backSt_no Z klen l k hlt
      have hyes := backSt_yes Z klen l k hlt
      obtain ⟨g, off, rfl, hg, hc⟩ := h.2 (by show 0 < l.length; omega)
      obtain ⟨c0, c1, c2⟩ := hc k hlt
      have e0 : wr.cell? ⟨g, off + k * 3, none⟩ = some (.string l[k].name) := (hb.cell (p := ⟨g, off + k * 3, none⟩) hg).trans c0
      have e1 : wr.cell? ⟨g, off + k * 3 + 1, none⟩ = some (.string l[k].b) := (hb.cell (p := ⟨g, off + k * 3 + 1, none⟩) hg).trans c1
      have e2 : wr.cell? ⟨g, off + k * 3 + 2, none⟩ = some (.int .i64 (l[k].safe : Int)) := (hb.cell (p := ⟨g, off + k * 3 + 2, none⟩) hg).trans c2
      obtain ⟨hs1, hs2⟩ := hsafe l[k] (List.getElem_mem hlt)
      clear c0 c1 c2 hc hsafe
      generalize l[k] = f at *
      obtain ⟨fn, fb, fs⟩ := f
      dsimp only at *
      obtain ⟨m, hm⟩ : ∃ m, (fb.size : Int) - (fs : Int) + 1 = m := ⟨_, rfl⟩
      have hm1 : 1 ≤ m := by omega
      have hm2 : m ≤ 1099511627777 := by omega
      have hfb : (fb.size : Int) ≤ 1099511627776 := by omega
      have hfs : (fs : Int) ≤ (fb.size : Int) := by omega
      have hrow : ∀ (o : Obj) k, k < wr.heap.size → (wr.alloc o).heap[k]? = wr.heap[k]? := fun o k hk => Below.heap_alloc _ _ _ hk
      by_cases hfe : fs = fb.size
      · have HN := Lib.hid (hno hfe)
        obtain rfl : m = 1 := by omega
        have HB : Hid (BackW w (some ⟨g, off, none⟩) cap ⟨room, l, set, n, lost⟩ Z klen (k + 1) (wr.alloc (.cells #[.string fn, .string fb, .int .i64 (fs : Int)] 43))) := ⟨by
          refine ⟨A', cap', ?_, ?_, hb.alloc (by omega) _, by simp; omega, ?_, ?_⟩
          · rw [hrow _ _ (by omega), HN.out]; exact m0
          · rw [hrow _ _ (by omega)]; exact m1
          · show RF _ A' cap' (backSt Z klen l (k + 1)).2
            rw [HN.out]; exact hr.below ((Below.refl _ _).alloc (Nat.le_refl _) _) (Nat.le_refl _)
          · show (_ ∧ _ ∧ (backSt Z klen l (k + 1)).2 = l) ∨ _
            rw [HN.out]; exact hor⟩
        clear hno hyes hr hor m0 m1 hP hfe hrow
        go_wp2
        go_roundg (gk - 1)
        case measure => omega
        case rel => exact ⟨k + 1, by go_num, by omega, by rw [HN.out], HB.out⟩
      · have HY := Lib.hid (hyes hfe)
        clear hno hyes
        have hmt : (m == 1) = false := by simp; omega
        have hmz : (m == 0) = false := by simp; omega
        have hst := stays_lt Z klen (backSt Z klen l k).1 m (by omega)
        generalize hS : backSt Z klen l k = st at *
        obtain ⟨i, out⟩ := st
        dsimp only at *
        obtain ⟨nn, hnn⟩ : ∃ nn, stays Z klen i m = nn := ⟨_, rfl⟩
        rw [hnn] at hst
        obtain ⟨sf, hsf⟩ : ∃ sf, fs + nn = sf := ⟨_, rfl⟩
        have hbk : Hid (back1 Z klen i ⟨fn, fb, fs⟩ = ⟨fn, fb.extract 0 sf, sf⟩) := ⟨by
          unfold back1 left1
          dsimp only
          rw [hm, hnn, hsf]⟩
        have hcut : sf ≤ fb.size := by omega
        have hcut' : (sf : Int) ≤ 1099511627776 := by omega
        have hNX := Lib.hid (fun (w2 : World) h => hP out ⟨fn, fb.extract 0 sf, sf⟩ A' cap' w2 h (by omega))
        clear hP hfe
        by_cases hi : i < klen
        · have hi' : (i : Int) < (klen : Int) := by omega
          obtain ⟨b, offk, rfl, hbz, hcz⟩ := hZ.2 (by omega)
          have z0 : wr.cell? ⟨b, offk + i, none⟩ = some (.int .i64 (Z i)) := (hb.cell (p := ⟨b, offk + i, none⟩) hbz).trans (hcz i hi)
          have hZi := hZ.1 i hi
          have hbl : b < wr.heap.size := Nat.lt_of_lt_of_le hbz hb.size
          have hmod : Z i % m = (nn : Int) := by
            unfold stays at hnn
            rw [if_pos hi] at hnn
            have := Int.emod_nonneg (Z i) (show m ≠ 0 by omega)
            omega
          have hback := tmod_back (Z i) m (by omega)
          rw [hmod] at hback
          have hy1 := Int.lt_tmod_of_pos (Z i) (show 0 < m by omega)
          have hy2 := Int.tmod_lt_of_pos (Z i) (show 0 < m by omega)
          clear hcz hmod
          generalize Z i = zi at *
          obtain ⟨y, hy⟩ : ∃ y, zi.tmod m = y := ⟨_, rfl⟩
          rw [hy] at hback hy1 hy2
          have hym : 0 ≤ y + m := by omega
          have hback2 : (y + m).tmod m = (nn : Int) := by rw [Int.tmod_eq_emod_of_nonneg hym]; exact hback
          have hsum : IntKind.i64.wrap ((fs : Int) + (nn : Int)) = (sf : Int) := by rw [IntWalk.i64_in _ (by omega)]; omega
          have hsum2 : (fs : Int) + (nn : Int) = (sf : Int) := by omega
          clear hsf
          have hyw : IntKind.i64.wrap (y + m) = y + m := IntWalk.i64_in _ (by omega)
          have hx : Below w.heap.size w (wr.alloc (.cells #[.string fn, .string (fb.extract 0 sf), .int .i64 (sf : Int)] 43)) := hb.alloc (by omega) _
          have hQ := hNX.out (wr.alloc (.cells #[.string fn, .string (fb.extract 0 sf), .int .i64 (sf : Int)] 43)) (hr.below ((Below.refl _ _).alloc (Nat.le_refl _) _) (Nat.le_refl _))
          have x0 := (hrow (.cells #[.string fn, .string (fb.extract 0 sf), .int .i64 (sf : Int)] 43) w.heap.size (by omega)).trans m0
          have x1 := (hrow (.cells #[.string fn, .string (fb.extract 0 sf), .int .i64 (sf : Int)] 43) (w.heap.size + 1) (by omega)).trans m1
          have hx2 : w.heap.size + 2 ≤ (wr.alloc (.cells #[.string fn, .string (fb.extract 0 sf), .int .i64 (sf : Int)] 43)).heap.size := by simp; omega
          obtain ⟨⟨a0, a1, a2, a3, a4⟩, ⟨b0, b1, b2, b3, b4⟩⟩ := row5 m0
          have hz0 : w.heap.size < wr.heap.size := by omega
          have hz1 : w.heap.size + 1 < wr.heap.size := by omega
          clear hr hor m0 m1 hrow hNX
          go_wp2_with fail
          refine hQ.mono ?_
          rintro e w3 ⟨A3, cap3, rfl, hr3, hn3, hb3⟩
          have y0 := (hb3.block _ (by omega)).trans x0
          have y1 := (hb3.block _ (by omega)).trans x1
          have hbw : Below w.heap.size w w3 := hx.trans (hb3.mono hx.size)
          have hn4 := hn3.mono hx2
          have hs3 : w.heap.size + 2 ≤ w3.heap.size := Nat.le_trans hx2 hb3.size
          clear hQ x0 x1 hx hn3 hb3 hx2 a0 a1 a2 a3 a4 b0 b1 b2 b3 b4
          obtain ⟨⟨a0, a1, a2, a3, a4⟩, ⟨b0, b1, b2, b3, b4⟩⟩ := row5 y0
          have HF : Hid (∀ u0 u1 u2 u3 u4, u0 = Value.int .i64 room → u1 = Value.slice A3 (putF out ⟨fn, fb.extract 0 sf, sf⟩).length cap3 → u2 = Value.bool set → u3 = Value.int .i64 n → u4 = Value.bool lost →
              BackW w (some ⟨g, off, none⟩) cap ⟨room, l, set, n, lost⟩ Z klen (k + 1) (((((w3.setCell ⟨w.heap.size, 0, none⟩ u0).setCell ⟨w.heap.size, 1, none⟩ u1).setCell ⟨w.heap.size, 2, none⟩ u2).setCell ⟨w.heap.size, 3, none⟩ u3).setCell ⟨w.heap.size, 4, none⟩ u4)) := ⟨by
            rintro _ _ _ _ _ rfl rfl rfl rfl rfl
            refine ⟨A3, cap3, ?_, ?_, below_set5 hbw (Nat.le_refl _) _ _ _ _ _, by simpa using hs3, ?_, .inr hn4⟩
            · dsimp only
              rw [HY.out, hbk.out]
              exact set5_at _ _ _ _ _ _ _ _ _ _ _ _ _ y0
            · rw [far_set5 _ (by omega)]; exact y1
            · show RF _ A3 cap3 (backSt Z klen l (k + 1)).2
              rw [HY.out, hbk.out]
              exact hr3.keepN hn4 (by simp) fun q h1 h2 => far_set5 _ (by omega) _ _ _ _ _⟩
          clear y0 y1 hr3 hn4 hbw
          go_wp2
          go_roundg (gk - 1)
          case measure => omega
          case rel => exact ⟨k + 1, by go_num, by omega, by rw [HY.out]; go_num, HF.out _ _ _ _ _ rfl rfl rfl rfl rfl⟩
        · have hi' : ¬ ((i : Int) < (klen : Int)) := by omega
          obtain rfl : nn = 0 := by
            unfold stays at hnn
            rw [if_neg hi] at hnn
            omega
          obtain rfl : fs = sf := by omega
          clear hsf
          have hx : Below w.heap.size w (wr.alloc (.cells #[.string fn, .string (fb.extract 0 fs), .int .i64 (fs : Int)] 43)) := hb.alloc (by omega) _
          have hQ := hNX.out (wr.alloc (.cells #[.string fn, .string (fb.extract 0 fs), .int .i64 (fs : Int)] 43)) (hr.below ((Below.refl _ _).alloc (Nat.le_refl _) _) (Nat.le_refl _))
          have x0 := (hrow (.cells #[.string fn, .string (fb.extract 0 fs), .int .i64 (fs : Int)] 43) w.heap.size (by omega)).trans m0
          have x1 := (hrow (.cells #[.string fn, .string (fb.extract 0 fs), .int .i64 (fs : Int)] 43) (w.heap.size + 1) (by omega)).trans m1
          have hx2 : w.heap.size + 2 ≤ (wr.alloc (.cells #[.string fn, .string (fb.extract 0 fs), .int .i64 (fs : Int)] 43)).heap.size := by simp; omega
          obtain ⟨⟨a0, a1, a2, a3, a4⟩, ⟨b0, b1, b2, b3, b4⟩⟩ := row5 m0
          have hz0 : w.heap.size < wr.heap.size := by omega
          have hz1 : w.heap.size + 1 < wr.heap.size := by omega
          clear hr hor m0 m1 hrow hNX
          go_wp2_with fail
          refine hQ.mono ?_
          rintro e w3 ⟨A3, cap3, rfl, hr3, hn3, hb3⟩
          have y0 := (hb3.block _ (by omega)).trans x0
          have y1 := (hb3.block _ (by omega)).trans x1
          have hbw : Below w.heap.size w w3 := hx.trans (hb3.mono hx.size)
          have hn4 := hn3.mono hx2
          have hs3 : w.heap.size + 2 ≤ w3.heap.size := Nat.le_trans hx2 hb3.size
          clear hQ x0 x1 hx hn3 hb3 hx2 a0 a1 a2 a3 a4 b0 b1 b2 b3 b4
          obtain ⟨⟨a0, a1, a2, a3, a4⟩, ⟨b0, b1, b2, b3, b4⟩⟩ := row5 y0
          have HF : Hid (∀ u0 u1 u2 u3 u4, u0 = Value.int .i64 room → u1 = Value.slice A3 (putF out ⟨fn, fb.extract 0 fs, fs⟩).length cap3 → u2 = Value.bool set → u3 = Value.int .i64 n → u4 = Value.bool lost →
              BackW w (some ⟨g, off, none⟩) cap ⟨room, l, set, n, lost⟩ Z klen (k + 1) (((((w3.setCell ⟨w.heap.size, 0, none⟩ u0).setCell ⟨w.heap.size, 1, none⟩ u1).setCell ⟨w.heap.size, 2, none⟩ u2).setCell ⟨w.heap.size, 3, none⟩ u3).setCell ⟨w.heap.size, 4, none⟩ u4)) := ⟨by
            rintro _ _ _ _ _ rfl rfl rfl rfl rfl
            refine ⟨A3, cap3, ?_, ?_, below_set5 hbw (Nat.le_refl _) _ _ _ _ _, by simpa using hs3, ?_, .inr hn4⟩
            · dsimp only
              rw [HY.out, hbk.out]
              exact set5_at _ _ _ _ _ _ _ _ _ _ _ _ _ y0
            · rw [far_set5 _ (by omega)]; exact y1
            · show RF _ A3 cap3 (backSt Z klen l (k + 1)).2
              rw [HY.out, hbk.out]
              exact hr3.keepN hn4 (by simp) fun q h1 h2 => far_set5 _ (by omega) _ _ _ _ _⟩
          clear y0 y1 hr3 hn4 hbw
          go_wp2
          go_roundg (gk - 1)
          case measure => omega
          case rel => exact ⟨k + 1, by go_num, by omega, by rw [HY.out]; go_num, HF.out _ _ _ _ _ rfl rfl rfl rfl rfl⟩
    · obtain rfl : k = l.length := by omega
      generalize hS : backSt Z klen l l.length = st at *
      obtain ⟨i, out⟩ := st
      dsimp only at *
      obtain ⟨⟨a0, a1, a2, a3, a4⟩, ⟨b0, b1, b2, b3, b4⟩⟩ := row5 m0
      obtain ⟨⟨c0, c1, c2, c3, c4⟩, ⟨d0, d1, d2, d3, d4⟩⟩ := row5 m1
      have M1 := Lib.hid m1
      have HR := Lib.hid hr
      have HO := Lib.hid hor
      have HE : Hid (Dsk.restart ⟨room, l, set, n, lost⟩ Z klen = ⟨room, out, false, 0, false⟩) := ⟨by unfold Dsk.restart; dsimp only; rw [hS]⟩
      clear m0 m1 hr hor hP hsafe hZ hS
      go_wp2
      refine bodyPost_ret (res_cell (n := w.heap.size + 1) rfl rfl (set5_at _ _ _ _ _ _ _ _ _ _ _ _ _ ((Below.heap_setCell _ _ _ _ (by show w.heap.size + 1 ≠ w.heap.size; omega)).trans ((Below.heap_setCell _ _ _ _ (by show w.heap.size + 1 ≠ w.heap.size; omega)).trans ((Below.heap_setCell _ _ _ _ (by show w.heap.size + 1 ≠ w.heap.size; omega)).trans M1.out)))) Try.underlying31 rfl (by kernel_rfl)) rfl ?_
      rw [HE.out]
      have hb3 : ∀ u2 u3 u4, Below w.heap.size w (((wr.setCell ⟨w.heap.size, 2, none⟩ u2).setCell ⟨w.heap.size, 3, none⟩ u3).setCell ⟨w.heap.size, 4, none⟩ u4) := fun u2 u3 u4 => by
        repeat (refine Below.setCell ?_ (by show w.heap.size ≤ w.heap.size; exact Nat.le_refl _) _)
        exact hb
      refine ⟨A', cap', rfl, below_set5 (hb3 _ _ _) (by omega) _ _ _ _ _, ?_⟩
      rcases HO.out with ⟨h1, h2, h3⟩ | h1
      · exact .inl ⟨h1, h2, h3⟩
      · refine .inr ⟨HR.out.keepN h1 (by simp) (fun q q1 q2 => (far_set5 _ (by omega) _ _ _ _ _).trans ?_), h1.mono (by omega)⟩
        repeat (refine (Below.heap_setCell _ _ _ _ (by show q ≠ w.heap.size; omega)).trans ?_)
        rfl

end Go.Proofs.Ytkgkllhocmedoaa
