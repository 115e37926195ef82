/- The program's disk is what the document says: Same answers so. -/
import Derived.Test.YtkgkllhocmedoaaDskDo
import Derived.Deep.RegionHeld3
import Derived.Deep.QuietTactic
namespace Go.Proofs.Ytkgkllhocmedoaa
open Go.RowKit
set_option linter.unusedVariables false
set_option linter.unusedSimpArgs false

theorem Alike.keeps {O : DiskOps} {w w' : World} {d : Nat} {A : Option Addr} {cap : Nat} {D : Dsk} {Z : Nat → Prop} (h : Alike O w d A cap D Z) (hk : Keeps Z w w') (hd : O.Dk w' d D Z) : Alike O w' d A cap D Z :=
  ⟨hd, h.good, fun k hz => Nat.lt_of_lt_of_le (h.lt k hz) hk.size, hk.rf h.rf h.rz, h.rz⟩

theorem Keeps.names {w w' : World} {Z : Nat → Prop} {A : Option Addr} {l : List Fil} (hk : Keeps Z w w') (h : RNames w A l) (hz : InZ Z A l.length) : RNames w' A l := fun h0 => by
  obtain ⟨g, off, e, hg, hc⟩ := h h0
  exact ⟨g, off, e, Nat.lt_of_lt_of_le hg hk.size, fun j hj => (World.cell?_of_block (hk.block g hg (hz h0 _ e))).trans (hc j hj)⟩

/-- The state within Same: the document's disk lies in block B, the names in Z too. -/
structure SameAt (O : DiskOps) (w0 : World) (wx : World) (d : Nat) (A : Option Addr) (cap : Nat) (D : Dsk) (Z Z2 : Nat → Prop) (A1 : Option Addr) : Prop where
  al : Alike O wx d A cap D Z2
  names : RNames wx A1 D.l
  nz : InZ Z2 A1 D.l.length
  box : wx.heap[w0.heap.size]? = some (.cells (diskC A cap D) 31)
  bz : Z2 w0.heap.size
  zz : ∀ k, Z k → Z2 k
  kp : Keeps Z w0 wx

theorem SameAt.next {O : DiskOps} {w0 wx wy : World} {d : Nat} {A : Option Addr} {cap : Nat} {D : Dsk} {Z Z2 : Nat → Prop} {A1 : Option Addr} (h : SameAt O w0 wx d A cap D Z Z2 A1) (hk : Keeps Z2 wx wy) (hd : O.Dk wy d D Z2) : SameAt O w0 wy d A cap D Z Z2 A1 :=
  ⟨h.al.keeps hk hd, hk.names h.names h.nz, h.nz, (hk.block _ (hlt h.box) h.bz).trans h.box, h.bz, h.zz, h.kp.trans (hk.mono h.zz)⟩

theorem SameAt.below {O : DiskOps} {w0 wx wy : World} {d : Nat} {A : Option Addr} {cap : Nat} {D : Dsk} {Z Z2 : Nat → Prop} {A1 : Option Addr} (h : SameAt O w0 wx d A cap D Z Z2 A1) (hb : Below wx.heap.size wx wy) : SameAt O w0 wy d A cap D Z Z2 A1 :=
  h.next (keeps_below hb (Nat.le_refl _)) (O.keep h.al.dk hb.size fun k hk _ => hb.block k hk)

theorem SameAt.grow {O : DiskOps} {w0 wx wy : World} {d : Nat} {A : Option Addr} {cap : Nat} {D : Dsk} {Z Z2 : Nat → Prop} {A1 : Option Addr} (h : SameAt O w0 wx d A cap D Z Z2 A1) (hk : Keeps Z2 wx wy) (hd : O.Dk wy d D (fun k => Z2 k ∨ wx.heap.size ≤ k)) :
    SameAt O w0 wy d A cap D Z (fun k => Z2 k ∨ (wx.heap.size ≤ k ∧ k < wy.heap.size)) A1 := by
  refine ⟨⟨O.out hd (fun k hk => .inl (hk.imp id And.left)), h.al.good, ?_, hk.rf h.al.rf h.al.rz, fun h0 a e => .inl (h.al.rz h0 a e)⟩, hk.names h.names h.nz, fun h0 a e => .inl (h.nz h0 a e), (hk.block _ (hlt h.box) h.bz).trans h.box, .inl h.bz, fun k hz => .inl (h.zz k hz), h.kp.trans (hk.mono h.zz)⟩
  rintro k (hz | hz)
  · exact Nat.lt_of_lt_of_le (h.al.lt k hz) hk.size
  · exact hz.2

theorem SameAt.growB {O : DiskOps} {w0 wx wy : World} {d : Nat} {A : Option Addr} {cap : Nat} {D : Dsk} {Z Z2 : Nat → Prop} {A1 : Option Addr} (h : SameAt O w0 wx d A cap D Z Z2 A1) (hb : Below wx.heap.size wx wy) :
    SameAt O w0 wy d A cap D Z (fun k => Z2 k ∨ (wx.heap.size ≤ k ∧ k < wy.heap.size)) A1 :=
  h.grow (keeps_below hb (Nat.le_refl _)) (O.keep (O.out h.al.dk fun k hk => hk) hb.size fun k hk _ => hb.block k hk)

theorem SameAt.less {O : DiskOps} {w0 wx wy : World} {d : Nat} {A : Option Addr} {cap : Nat} {D : Dsk} {Z Z2 Z3 : Nat → Prop} {A1 : Option Addr} (h0 : SameAt O w0 wx d A cap D Z Z2 A1) (h : SameAt O w0 wy d A cap D Z Z3 A1) (hz : ∀ k, Z2 k → Z3 k) : SameAt O w0 wy d A cap D Z Z2 A1 :=
  ⟨⟨O.out h.al.dk (fun k hk => .inl (hz k hk)), h.al.good, fun k hk => h.al.lt k (hz k hk), h.al.rf, h0.al.rz⟩, h.names, h0.nz, h.box, h0.bz, h0.zz, h.kp⟩

theorem rightS_size {s : ByteArray} (h : rightS s = true) : s.size ≤ 12 := by
  simp only [rightS, Bool.and_eq_true, Bool.not_eq_true', Bool.or_eq_false_iff, decide_eq_false_iff_not] at h
  omega

theorem read_of {D : Dsk} {f : Fil} (hm : f ∈ D.l) (hg : GoodL D.l) : D.read f.name = if D.lost then (ByteArray.empty, 5) else (f.b, 0) := by
  have hr := (hg.each f hm).2.2
  have hget := getF_mem hg.sort hm
  unfold Dsk.read Dsk.may
  cases D.lost with
  | true => simp
  | false => simp [hr, hget]

set_option maxRecDepth 100000 in
set_option maxHeartbeats 2000000 in
theorem same_any (O : DiskOps) (w : World) (d : Nat) (A : Option Addr) (cap : Nat) (D : Dsk) (Z : Nat → Prop) (h : Alike O w d A cap D Z) :
    Calls Try.prog 12 #[dptr d, diskV A cap D] w fun e w' => e = .returned (.bool true) ∧ Alike O w' d A cap D Z ∧ Keeps Z w w' := by
  have hb0 : Below w.heap.size w (w.alloc (.cells (diskC A cap D) 31)) := (Below.refl _ _).alloc (Nat.le_refl _) _
  have hm0 : (w.alloc (.cells (diskC A cap D) 31)).heap[w.heap.size]? = some (.cells (diskC A cap D) 31) := heap_alloc_new _ _
  have hs0 : (w.alloc (.cells (diskC A cap D) 31)).heap.size = w.heap.size + 1 := by simp
  obtain ⟨W, hW⟩ : ∃ W, w.alloc (.cells (diskC A cap D) 31) = W := ⟨_, rfl⟩
  rw [hW] at hb0 hm0 hs0
  have HW := Lib.hid hW
  clear hW
  have hd0 : O.Dk W d D (fun k => Z k ∨ k = w.heap.size) := O.keep (O.out h.dk (fun k hk => hk.imp id (fun e => Nat.le_of_eq e.symm))) hb0.size (fun k hk _ => hb0.block k hk)
  have hlt0 : ∀ k, (Z k ∨ k = w.heap.size) → k < W.heap.size := fun k hk => by
    rcases hk with hk | hk
    · have := h.lt k hk; omega
    · omega
  have hN := O.names W d D _ hd0 h.good hlt0
  have hlen := h.good.len
  go_enter Try.func12, Try.ntmps12
  go_upto_region 2 with (first
    | (go_at_call 18
       rw [HW.out]
       refine hN.mono ?_
       rintro e w1 ⟨A1, cap1, rfl, hn1, hnw, hd1, k1⟩)
    | fail)
  have hS : SameAt O w w1 d A cap D Z (fun k => (Z k ∨ k = w.heap.size) ∨ (W.heap.size ≤ k ∧ k < w1.heap.size)) A1 := by
    have hsz := k1.size
    refine ⟨⟨O.out hd1 (fun k hk => .inl (hk.imp id And.left)), h.good, ?_, ?_, fun h0 a e => .inl (.inl (h.rz h0 a e))⟩, hn1, ?_, ?_, .inl (.inr rfl), fun k hk => .inl (.inl hk), (keeps_below hb0 (Nat.le_refl _)).trans (k1.mono fun k hk => .inl hk)⟩
    · rintro k (hk | hk)
      · have := hlt0 k hk; omega
      · exact hk.2
    · exact k1.rf (h.rf.below hb0 (Nat.le_refl _)) (fun h0 a e => .inl (h.rz h0 a e))
    · intro h0 a e
      obtain ⟨g, off, e2, hg, _⟩ := hn1 h0
      have := hnw h0 a e
      rw [e2] at e
      injection e with e
      subst e
      exact .inr ⟨this, hg⟩
    · exact (k1.block _ (by omega) (.inr rfl)).trans hm0
  have hsub : ∀ k, Z k → (fun k => (Z k ∨ k = w.heap.size) ∨ (W.heap.size ≤ k ∧ k < w1.heap.size)) k := fun k hk => .inl (.inl hk)
  generalize (fun k => (Z k ∨ k = w.heap.size) ∨ (W.heap.size ≤ k ∧ k < w1.heap.size)) = Z2 at hS hsub
  go_cut [31] (fun t wx => t = .bool false ∧ SameAt O w wx d A cap D Z Z2 A1)
  case first =>
    obtain ⟨⟨a0, a1, a2, a3, a4⟩, _⟩ := row5 hS.box
    have hU := fun wx (hs : SameAt O w wx d A cap D Z Z2 A1) => O.used wx d D Z2 hs.al.dk hs.al.good hs.al.lt
    have hV := fun wx (hs : SameAt O w wx d A cap D Z Z2 A1) => usedR_any A cap D wx hs.al.rf (by have := h.good.usedN; omega) (by omega)
    have hL := fun wx (hs : SameAt O w wx d A cap D Z Z2 A1) => O.lost wx d D Z2 hs.al.dk
    have hSd : SameAt O w w1.drew d A cap D Z Z2 A1 := hS.below (Below.refl _ _).drew
    obtain ⟨room, l, set, n, lost⟩ := D
    dsimp only at *
    generalize usedF l = u at hU hV
    clear hN hb0 hm0 hs0 HW hd0 hlt0 hn1 hd1 k1 hnw
    go_region_held3 (fun w' => w'.cell? ⟨w.heap.size, 0, none⟩ = some (.int .i64 room) ∧ w'.cell? ⟨w.heap.size, 1, none⟩ = some (.slice A l.length cap) ∧ w'.cell? ⟨w.heap.size, 2, none⟩ = some (.bool set) ∧ w'.cell? ⟨w.heap.size, 3, none⟩ = some (.int .i64 n) ∧ w'.cell? ⟨w.heap.size, 4, none⟩ = some (.bool lost))
      (first | (go_keep; done) | exact ⟨b0, b1, b2, b3, b4⟩ | exact ⟨c0, c1, c2, c3, c4⟩)
      (first
        | (go_at_call 13; refine (hU _ hSd).mono ?_; rintro e w5 ⟨rfl, hd5, k5⟩; have hS5 := hSd.next k5 hd5; obtain ⟨⟨b0, b1, b2, b3, b4⟩, _⟩ := row5 hS5.box)
        | (go_at_call 34; refine (hV _ hS5).mono ?_; rintro e w6 ⟨rfl, hb6⟩; have hS6 := hS5.below hb6; obtain ⟨⟨c0, c1, c2, c3, c4⟩, _⟩ := row5 hS6.box)
        | (go_at_call 17; refine (hL _ hS6).mono ?_; rintro e w7 ⟨rfl, rfl⟩))
    all_goals
      go_wp2_with fail
      go_meet
      exact ⟨rfl, hS6⟩
  case rest =>
    obtain ⟨rfl, hS2⟩ := hcut
    clear hN hb0 hm0 hs0 HW hd0 hlt0 hn1 hd1 k1 hnw hS
    have hlen' : (D.l.length : Int) ≤ 1048576 := by omega
    have hgood := h.good
    obtain ⟨room, l, set, n, lost⟩ := D
    dsimp only at *
    have HH := Lib.hid h
    clear h
    go_wp2
    go_loopg [34] l.length (fun g x wr => ∃ k : Nat, x = .int .i64 (k : Int) ∧ k + g = l.length ∧ SameAt O w wr d A cap ⟨room, l, set, n, lost⟩ Z Z2 A1)
    case atStart => exact ⟨0, rfl, by omega, hS2⟩
    case round =>
      clear hS2
      obtain ⟨k, rfl, hk, hS⟩ := hrel
      by_cases hlt : k < l.length
      · have hlt' : (k : Int) < (l.length : Int) := by omega
        obtain ⟨⟨a0, a1, a2, a3, a4⟩, _⟩ := row5 hS.box
        obtain ⟨g, off, rfl, hg, hc⟩ := hS.al.rf.2 (by show 0 < l.length; omega)
        obtain ⟨e0, e1, e2⟩ := hc k hlt
        obtain ⟨g1, off1, rfl, hg1, hc1⟩ := hS.names (by show 0 < l.length; omega)
        have n0 := hc1 k hlt
        have hmem : l[k] ∈ l := List.getElem_mem hlt
        have hfit := hgood.fils.each _ hmem
        have hget := getF_mem hgood.fils.sort hmem
        have hread := read_of (D := ⟨room, l, set, n, lost⟩) hmem hgood.fils
        clear hc hc1
        obtain ⟨f, hlk⟩ : ∃ f, l[k] = f := ⟨_, rfl⟩
        rw [hlk] at hread hfit hget n0 e0 e1 e2 hmem
        obtain ⟨fn, fb, fs⟩ := f
        dsimp only at *
        have HLK := Lib.hid hlk
        clear hlk
        have hfn : fn.size ≤ 12 := rightS_size hfit.2.2
        have hX := hS.growB ((Below.refl wr.heap.size wr).alloc (Nat.le_refl _) (.cells #[.string fn, .string fb, .int .i64 (fs : Int)] 43))
        have hxf : (wr.alloc (.cells #[.string fn, .string fb, .int .i64 (fs : Int)] 43)).heap[wr.heap.size]? = some (.cells #[.string fn, .string fb, .int .i64 (fs : Int)] 43) := heap_alloc_new _ _
        have hR := O.read _ d _ _ fn hX.al.dk hX.al.good hX.al.lt (by omega)
        rw [hread] at hR
        go_wp2_with fail
        cases lost with
        | true =>
          rw [if_pos rfl] at hR
          refine hR.mono ?_
          rintro e w5 ⟨rA, rcap, rfl, hl5, hn5, hd5, k5⟩
          have hY := hX.grow k5 hd5
          have y0 := (k5.block _ (by simp) (.inr ⟨Nat.le_refl _, by simp⟩)).trans hxf
          obtain ⟨Z4, hZ4⟩ : ∃ Z4, (fun q => (Z2 q ∨ (wr.heap.size ≤ q ∧ q < (wr.alloc (.cells #[.string fn, .string fb, .int .i64 (fs : Int)] 43)).heap.size)) ∨ ((wr.alloc (.cells #[.string fn, .string fb, .int .i64 (fs : Int)] 43)).heap.size ≤ q ∧ q < w5.heap.size)) = Z4 := ⟨_, rfl⟩
          have hsub4 : ∀ q, Z2 q → Z4 q := fun q hq => by rw [← hZ4]; exact .inl (.inl hq)
          have hfz : Z4 wr.heap.size := by rw [← hZ4]; exact .inl (.inr ⟨Nat.le_refl _, by simp⟩)
          rw [hZ4] at hY
          clear hZ4
          have hSafe : ∀ wx, Below w5.heap.size w5 wx → Calls Try.prog 16 #[dptr d, .string fn] wx fun e w' => e = .returned (.int .i64 (fs : Int)) ∧ Below w5.heap.size w5 w' := fun wx hb => by
            have := (O.safe wx d _ _ fn (O.keep hY.al.dk hb.size (fun k hk _ => hb.block k hk)) hY.al.good (fun k hk => Nat.lt_of_lt_of_le (hY.al.lt k hk) hb.size) (by omega)).mono fun e w' h => And.intro h.1 (hb.trans (h.2.mono hb.size))
            dsimp only at this
            rw [hget] at this
            exact this
          have hs1 : wr.heap.size < w5.heap.size := Go.Proofs.Ytkgkllhocmedoaa.hlt y0
          have hs2 : w.heap.size < w5.heap.size := Go.Proofs.Ytkgkllhocmedoaa.hlt hY.box
          obtain ⟨g2, off2, e2', hg2, hc2⟩ := hY.names (by show 0 < l.length; omega)
          injection e2' with e2'
          injection e2' with e3' e4'
          subst e3' e4'
          have n5 : w5.cell? ⟨g1, off1 + k, none⟩ = some (.string fn) := by have := hc2 k hlt; rw [HLK.out] at this; exact this
          obtain ⟨⟨b0, b1, b2⟩, _⟩ := row3 y0
          obtain ⟨⟨p0, p1, p2, p3, p4⟩, _⟩ := row5 hY.box
          have HS7 := Lib.hid (fun wx (hb : Below w5.heap.size w5 wx) => hS.less (hY.below hb) hsub4)
          clear hX hxf hR hd5 k5 hn5 a0 a1 a2 a3 a4 e0 e1 e2 hc2 hY y0 hl5
          go_wp2
          refine wp_region_held_drew (S := fun w' => (w'.cell? ⟨g1, off1 + k, none⟩ = some (.string fn)) ∧ (w'.cell? ⟨wr.heap.size, 0, none⟩ = some (.string fn) ∧ w'.cell? ⟨wr.heap.size, 1, none⟩ = some (.string fb) ∧ w'.cell? ⟨wr.heap.size, 2, none⟩ = some (.int .i64 (fs : Int))) ∧ w'.cell? ⟨w.heap.size, 4, none⟩ = some (.bool true)) (by kernel_rfl) ?_ (fun hHeld => ?_)
          · exact ⟨n5, ⟨b0, b1, b2⟩, p4⟩
          change wpAnyH _ _ _ _ _ 47 #[false, false, false, false, false, false, false, false, false, false, false, false, false, false, false, false, false, false, false, false, false, false, false, false, false, false, false, false, false, false, false, false, false, false, false, false, false, false, false, false, false, false, false, false, false, false, false] _ _
          refine wpAnyH_take (i := 0) (oi := { dst := some 51, op := Go.Op.move (Go.Operand.tmp 5), type := 47, pos := "law.go:48", after := #[], guard := none }) (v := ?_) rfl (by kernel_rfl) (by kernel_rfl) (by kernel_rfl) (fun _ _ _ h => h) (Or.inl ⟨by rfl, ?_⟩) (by assumption) ?_
          rotate_left
          · ((intro w hSw; (try dsimp only at hSw); go_simp); (try with_reducible rfl))
          try simp only [Act.put, List.setIfInBounds_toArray, List.set_cons_zero, List.set_cons_succ]
          refine wpAnyH_take (i := 1) (oi := { dst := some 52, op := Go.Op.move (Go.Operand.tmp 6), type := 3, pos := "law.go:48", after := #[], guard := none }) (v := ?_) rfl (by kernel_rfl) (by kernel_rfl) (by kernel_rfl) (fun _ _ _ h => h) (Or.inl ⟨by rfl, ?_⟩) (by assumption) ?_
          rotate_left
          · ((intro w hSw; (try dsimp only at hSw); go_simp); (try with_reducible rfl))
          try simp only [Act.put, List.setIfInBounds_toArray, List.set_cons_zero, List.set_cons_succ]
          refine wpAnyH_take (i := 2) (oi := { dst := some 53, op := Go.Op.indexAddr 47 (Go.Operand.tmp 51) (Go.Operand.tmp 52), type := 0, pos := "law.go:48", after := #[{ on := 0, ground := Go.Ground.data }, { on := 1, ground := Go.Ground.data }], guard := none }) (v := ?_) rfl (by kernel_rfl) (by kernel_rfl) (by kernel_rfl) (fun _ _ _ h => h) (Or.inl ⟨by rfl, ?_⟩) (by assumption) ?_
          rotate_left
          · ((intro w hSw; (try dsimp only at hSw); go_simp); (try with_reducible rfl))
          try simp only [Act.put, List.setIfInBounds_toArray, List.set_cons_zero, List.set_cons_succ]
          refine wpAnyH_take (i := 3) (oi := { dst := some 54, op := Go.Op.load 9 (Go.Operand.tmp 53), type := 9, pos := "law.go:48", after := #[{ on := 2, ground := Go.Ground.data }], guard := none }) (v := ?_) rfl (by kernel_rfl) (by kernel_rfl) (by kernel_rfl) (fun _ _ _ h => h) (Or.inl ⟨by rfl, ?_⟩) (by assumption) ?_
          rotate_left
          · ((intro w hSw; (try dsimp only at hSw); go_simp); (try with_reducible rfl))
          try simp only [Act.put, List.setIfInBounds_toArray, List.set_cons_zero, List.set_cons_succ]
          refine wpAnyH_take (i := 4) (oi := { dst := some 55, op := Go.Op.fieldAddr 43 (Go.Operand.tmp 7) 0, type := 0, pos := "law.go:48", after := #[], guard := none }) (v := ?_) rfl (by kernel_rfl) (by kernel_rfl) (by kernel_rfl) (fun _ _ _ h => h) (Or.inl ⟨by rfl, ?_⟩) (by assumption) ?_
          rotate_left
          · ((intro w hSw; (try dsimp only at hSw); go_simp); (try with_reducible rfl))
          try simp only [Act.put, List.setIfInBounds_toArray, List.set_cons_zero, List.set_cons_succ]
          refine wpAnyH_take (i := 5) (oi := { dst := some 56, op := Go.Op.load 9 (Go.Operand.tmp 55), type := 9, pos := "law.go:48", after := #[{ on := 4, ground := Go.Ground.data }], guard := none }) (v := ?_) rfl (by kernel_rfl) (by kernel_rfl) (by kernel_rfl) (fun _ _ _ h => h) (Or.inl ⟨by rfl, ?_⟩) (by assumption) ?_
          rotate_left
          · ((intro w hSw; (try dsimp only at hSw); go_simp); (try with_reducible rfl))
          try simp only [Act.put, List.setIfInBounds_toArray, List.set_cons_zero, List.set_cons_succ]
          refine wpAnyH_take (i := 6) (oi := { dst := some 57, op := Go.Op.binOp Go.BinOp.neq 9 (Go.Operand.tmp 54) (Go.Operand.tmp 56) 9, type := 4, pos := "law.go:48", after := #[{ on := 3, ground := Go.Ground.data }, { on := 5, ground := Go.Ground.data }], guard := none }) (v := ?_) rfl (by kernel_rfl) (by kernel_rfl) (by kernel_rfl) (fun _ _ _ h => h) (Or.inl ⟨by rfl, ?_⟩) (by assumption) ?_
          rotate_left
          · ((intro w hSw; (try dsimp only at hSw); go_simp); (try with_reducible rfl))
          try simp only [Act.put, List.setIfInBounds_toArray, List.set_cons_zero, List.set_cons_succ]
          refine wpAnyH_take (i := 7) (oi := { dst := some 58, op := Go.Op.move (Go.Operand.tmp 57), type := 4, pos := "law.go:48", after := #[{ on := 6, ground := Go.Ground.data }], guard := none }) (v := ?_) rfl (by kernel_rfl) (by kernel_rfl) (by kernel_rfl) (fun _ _ _ h => h) (Or.inl ⟨by rfl, ?_⟩) (by assumption) ?_
          rotate_left
          · ((intro w hSw; (try dsimp only at hSw); go_simp); (try with_reducible rfl))
          try simp only [Act.put, List.setIfInBounds_toArray, List.set_cons_zero, List.set_cons_succ]
          refine wpAnyH_take (i := 8) (oi := { dst := some 59, op := Go.Op.move (Go.Operand.tmp 0), type := 25, pos := "law.go:48", after := #[{ on := 7, ground := Go.Ground.guard }], guard := some (7, false) }) (v := ?_) rfl (by kernel_rfl) (by kernel_rfl) (by kernel_rfl) (fun _ _ _ h => h) (Or.inl ⟨by rfl, ?_⟩) (by assumption) ?_
          rotate_left
          · ((intro w hSw; (try dsimp only at hSw); go_simp); (try with_reducible rfl))
          try simp only [Act.put, List.setIfInBounds_toArray, List.set_cons_zero, List.set_cons_succ]
          refine wpAnyH_take (i := 9) (oi := { dst := some 60, op := Go.Op.move (Go.Operand.tmp 5), type := 47, pos := "law.go:48", after := #[{ on := 7, ground := Go.Ground.guard }], guard := some (7, false) }) (v := ?_) rfl (by kernel_rfl) (by kernel_rfl) (by kernel_rfl) (fun _ _ _ h => h) (Or.inl ⟨by rfl, ?_⟩) (by assumption) ?_
          rotate_left
          · ((intro w hSw; (try dsimp only at hSw); go_simp); (try with_reducible rfl))
          try simp only [Act.put, List.setIfInBounds_toArray, List.set_cons_zero, List.set_cons_succ]
          refine wpAnyH_take (i := 10) (oi := { dst := some 61, op := Go.Op.move (Go.Operand.tmp 6), type := 3, pos := "law.go:48", after := #[{ on := 7, ground := Go.Ground.guard }], guard := some (7, false) }) (v := ?_) rfl (by kernel_rfl) (by kernel_rfl) (by kernel_rfl) (fun _ _ _ h => h) (Or.inl ⟨by rfl, ?_⟩) (by assumption) ?_
          rotate_left
          · ((intro w hSw; (try dsimp only at hSw); go_simp); (try with_reducible rfl))
          try simp only [Act.put, List.setIfInBounds_toArray, List.set_cons_zero, List.set_cons_succ]
          refine wpAnyH_take (i := 11) (oi := { dst := some 62, op := Go.Op.indexAddr 47 (Go.Operand.tmp 60) (Go.Operand.tmp 61), type := 0, pos := "law.go:48", after := #[{ on := 9, ground := Go.Ground.data }, { on := 10, ground := Go.Ground.data }, { on := 7, ground := Go.Ground.guard }], guard := some (7, false) }) (v := ?_) rfl (by kernel_rfl) (by kernel_rfl) (by kernel_rfl) (fun _ _ _ h => h) (Or.inl ⟨by rfl, ?_⟩) (by assumption) ?_
          rotate_left
          · ((intro w hSw; (try dsimp only at hSw); go_simp); (try with_reducible rfl))
          try simp only [Act.put, List.setIfInBounds_toArray, List.set_cons_zero, List.set_cons_succ]
          refine wpAnyH_take (i := 12) (oi := { dst := some 63, op := Go.Op.load 9 (Go.Operand.tmp 62), type := 9, pos := "law.go:48", after := #[{ on := 11, ground := Go.Ground.data }, { on := 7, ground := Go.Ground.guard }], guard := some (7, false) }) (v := ?_) rfl (by kernel_rfl) (by kernel_rfl) (by kernel_rfl) (fun _ _ _ h => h) (Or.inl ⟨by rfl, ?_⟩) (by assumption) ?_
          rotate_left
          · ((intro w hSw; (try dsimp only at hSw); go_simp); (try with_reducible rfl))
          try simp only [Act.put, List.setIfInBounds_toArray, List.set_cons_zero, List.set_cons_succ]
          refine wpAnyH_take (i := 14) (oi := { dst := some 65, op := Go.Op.fieldAddr 43 (Go.Operand.tmp 7) 2, type := 0, pos := "law.go:48", after := #[{ on := 7, ground := Go.Ground.guard }], guard := some (7, false) }) (v := ?_) rfl (by kernel_rfl) (by kernel_rfl) (by kernel_rfl) (fun _ _ _ h => h) (Or.inl ⟨by rfl, ?_⟩) (by assumption) ?_
          rotate_left
          · ((intro w hSw; (try dsimp only at hSw); go_simp); (try with_reducible rfl))
          try simp only [Act.put, List.setIfInBounds_toArray, List.set_cons_zero, List.set_cons_succ]
          refine wpAnyH_take (i := 15) (oi := { dst := some 66, op := Go.Op.load 3 (Go.Operand.tmp 65), type := 3, pos := "law.go:48", after := #[{ on := 14, ground := Go.Ground.data }, { on := 7, ground := Go.Ground.guard }], guard := some (7, false) }) (v := ?_) rfl (by kernel_rfl) (by kernel_rfl) (by kernel_rfl) (fun _ _ _ h => h) (Or.inl ⟨by rfl, ?_⟩) (by assumption) ?_
          rotate_left
          · ((intro w hSw; (try dsimp only at hSw); go_simp); (try with_reducible rfl))
          try simp only [Act.put, List.setIfInBounds_toArray, List.set_cons_zero, List.set_cons_succ]
          refine wpAnyH_ready (rs := [13]) (by kernel_rfl) (by simp) ?_
          refine AllReadyH.cons rfl (fun K hK => ?_) AllReadyH.nil
          go_simp
          refine (hSafe _ (by repeat (first | exact Below.refl _ _ | apply Below.drew))).mono ?_
          rintro e w6 ⟨rfl, hb6⟩
          have s0 := (hb6.cell (p := ⟨wr.heap.size, 0, none⟩) hs1).trans b0
          have s1 := (hb6.cell (p := ⟨wr.heap.size, 1, none⟩) hs1).trans b1
          have s2 := (hb6.cell (p := ⟨wr.heap.size, 2, none⟩) hs1).trans b2
          have s4 := (hb6.cell (p := ⟨w.heap.size, 4, none⟩) hs2).trans p4
          have s5 := (hb6.cell (p := ⟨g1, off1 + k, none⟩) hg2).trans n5
          refine hK.out _ _ ⟨s5, ⟨s0, s1, s2⟩, s4⟩ (fun hHeld6 => ?_)
          clear hK K hHeld
          try simp only [Act.put, List.setIfInBounds_toArray, List.set_cons_zero, List.set_cons_succ]
          refine wpAnyH_take (i := 16) (oi := { dst := some 67, op := Go.Op.binOp Go.BinOp.neq 3 (Go.Operand.tmp 64) (Go.Operand.tmp 66) 3, type := 4, pos := "law.go:48", after := #[{ on := 13, ground := Go.Ground.data }, { on := 15, ground := Go.Ground.data }, { on := 7, ground := Go.Ground.guard }], guard := some (7, false) }) (v := ?_) rfl (by kernel_rfl) (by kernel_rfl) (by kernel_rfl) (fun _ _ _ h => h) (Or.inl ⟨by rfl, ?_⟩) (by assumption) ?_
          rotate_left
          · ((intro w hSw; (try dsimp only at hSw); go_simp); (try with_reducible rfl))
          try simp only [Act.put, List.setIfInBounds_toArray, List.set_cons_zero, List.set_cons_succ]
          refine wpAnyH_take (i := 17) (oi := { dst := some 68, op := Go.Op.pick (Go.Operand.tmp 58) (Go.Operand.const (Go.Value.bool true)) (Go.Operand.tmp 67), type := 4, pos := "law.go:48", after := #[{ on := 7, ground := Go.Ground.data }, { on := 16, ground := Go.Ground.data }], guard := none }) (v := ?_) rfl (by kernel_rfl) (by kernel_rfl) (by kernel_rfl) (fun _ _ _ h => h) (Or.inl ⟨by rfl, ?_⟩) (by assumption) ?_
          rotate_left
          · ((intro w hSw; (try dsimp only at hSw); go_simp); (try with_reducible rfl))
          try simp only [Act.put, List.setIfInBounds_toArray, List.set_cons_zero, List.set_cons_succ]
          refine wpAnyH_take (i := 18) (oi := { dst := some 69, op := Go.Op.move (Go.Operand.tmp 68), type := 4, pos := "law.go:48", after := #[{ on := 17, ground := Go.Ground.data }, { on := 13, ground := Go.Ground.chain }], guard := none }) (v := ?_) rfl (by kernel_rfl) (by kernel_rfl) (by kernel_rfl) (fun _ _ _ h => h) (Or.inl ⟨by rfl, ?_⟩) (by assumption) ?_
          rotate_left
          · ((intro w hSw; (try dsimp only at hSw); go_simp); (try with_reducible rfl))
          try simp only [Act.put, List.setIfInBounds_toArray, List.set_cons_zero, List.set_cons_succ]
          refine wpAnyH_take (i := 19) (oi := { dst := some 70, op := Go.Op.fieldAddr 31 (Go.Operand.tmp 3) 4, type := 0, pos := "law.go:48", after := #[{ on := 18, ground := Go.Ground.guard }], guard := some (18, false) }) (v := ?_) rfl (by kernel_rfl) (by kernel_rfl) (by kernel_rfl) (fun _ _ _ h => h) (Or.inl ⟨by rfl, ?_⟩) (by assumption) ?_
          rotate_left
          · ((intro w hSw; (try dsimp only at hSw); go_simp); (try with_reducible rfl))
          try simp only [Act.put, List.setIfInBounds_toArray, List.set_cons_zero, List.set_cons_succ]
          refine wpAnyH_take (i := 20) (oi := { dst := some 71, op := Go.Op.load 4 (Go.Operand.tmp 70), type := 4, pos := "law.go:48", after := #[{ on := 19, ground := Go.Ground.data }, { on := 18, ground := Go.Ground.guard }], guard := some (18, false) }) (v := ?_) rfl (by kernel_rfl) (by kernel_rfl) (by kernel_rfl) (fun _ _ _ h => h) (Or.inl ⟨by rfl, ?_⟩) (by assumption) ?_
          rotate_left
          · ((intro w hSw; (try dsimp only at hSw); go_simp); (try with_reducible rfl))
          try simp only [Act.put, List.setIfInBounds_toArray, List.set_cons_zero, List.set_cons_succ]
          refine wpAnyH_take (i := 21) (oi := { dst := some 72, op := Go.Op.move (Go.Operand.tmp 71), type := 4, pos := "law.go:48", after := #[{ on := 20, ground := Go.Ground.data }, { on := 18, ground := Go.Ground.chain }, { on := 18, ground := Go.Ground.guard }], guard := some (18, false) }) (v := ?_) rfl (by kernel_rfl) (by kernel_rfl) (by kernel_rfl) (fun _ _ _ h => h) (Or.inl ⟨by rfl, ?_⟩) (by assumption) ?_
          rotate_left
          · ((intro w hSw; (try dsimp only at hSw); go_simp); (try with_reducible rfl))
          try simp only [Act.put, List.setIfInBounds_toArray, List.set_cons_zero, List.set_cons_succ]
          refine wpAnyH_take (i := 22) (oi := { dst := some 73, op := Go.Op.move (Go.Operand.tmp 9), type := 26, pos := "law.go:48", after := #[{ on := 21, ground := Go.Ground.guard }], guard := some (21, true) }) (v := ?_) rfl (by kernel_rfl) (by kernel_rfl) (by kernel_rfl) (fun _ _ _ h => h) (Or.inl ⟨by rfl, ?_⟩) (by assumption) ?_
          rotate_left
          · ((intro w hSw; (try dsimp only at hSw); go_simp); (try with_reducible rfl))
          try simp only [Act.put, List.setIfInBounds_toArray, List.set_cons_zero, List.set_cons_succ]
          refine wpAnyH_take (i := 23) (oi := { dst := some 74, op := Go.Op.binOp Go.BinOp.neq 26 (Go.Operand.tmp 73) (Go.Operand.const (Go.Value.int Go.IntKind.i64 5)) 26, type := 4, pos := "law.go:48", after := #[{ on := 22, ground := Go.Ground.data }, { on := 21, ground := Go.Ground.guard }], guard := some (21, true) }) (v := ?_) rfl (by kernel_rfl) (by kernel_rfl) (by kernel_rfl) (fun _ _ _ h => h) (Or.inl ⟨by rfl, ?_⟩) (by assumption) ?_
          rotate_left
          · ((intro w hSw; (try dsimp only at hSw); go_simp); (try with_reducible rfl))
          try simp only [Act.put, List.setIfInBounds_toArray, List.set_cons_zero, List.set_cons_succ]
          refine wpAnyH_take (i := 24) (oi := { dst := some 75, op := Go.Op.move (Go.Operand.tmp 74), type := 4, pos := "law.go:48", after := #[{ on := 23, ground := Go.Ground.data }, { on := 21, ground := Go.Ground.chain }, { on := 21, ground := Go.Ground.guard }], guard := some (21, true) }) (v := ?_) rfl (by kernel_rfl) (by kernel_rfl) (by kernel_rfl) (fun _ _ _ h => h) (Or.inl ⟨by rfl, ?_⟩) (by assumption) ?_
          rotate_left
          · ((intro w hSw; (try dsimp only at hSw); go_simp); (try with_reducible rfl))
          try simp only [Act.put, List.setIfInBounds_toArray, List.set_cons_zero, List.set_cons_succ]
          refine wpAnyH_take (i := 25) (oi := { dst := some 76, op := Go.Op.move (Go.Operand.tmp 8), type := 34, pos := "law.go:48", after := #[{ on := 24, ground := Go.Ground.guard }], guard := some (24, false) }) (v := ?_) rfl (by kernel_rfl) (by kernel_rfl) (by kernel_rfl) (fun _ _ _ h => h) (Or.inl ⟨by rfl, ?_⟩) (by assumption) ?_
          rotate_left
          · ((intro w hSw; (try dsimp only at hSw); go_simp); (try with_reducible rfl))
          try simp only [Act.put, List.setIfInBounds_toArray, List.set_cons_zero, List.set_cons_succ]
          refine wpAnyH_take (i := 26) (oi := { dst := some 77, op := Go.Op.call { callee := Go.Callee.builtin Go.Builtin.len, args := #[Go.Operand.tmp 76], argTypes := #[34] }, type := 3, pos := "law.go:48", after := #[{ on := 25, ground := Go.Ground.data }, { on := 24, ground := Go.Ground.guard }], guard := some (24, false) }) (v := ?_) rfl (by kernel_rfl) (by kernel_rfl) (by kernel_rfl) (fun _ _ _ h => h) (Or.inl ⟨by rfl, ?_⟩) (by assumption) ?_
          rotate_left
          · ((intro w hSw; (try dsimp only at hSw); go_simp); (try with_reducible rfl))
          try simp only [Act.put, List.setIfInBounds_toArray, List.set_cons_zero, List.set_cons_succ]
          refine wpAnyH_take (i := 27) (oi := { dst := some 78, op := Go.Op.binOp Go.BinOp.neq 3 (Go.Operand.tmp 77) (Go.Operand.const (Go.Value.int Go.IntKind.i64 0)) 3, type := 4, pos := "law.go:48", after := #[{ on := 26, ground := Go.Ground.data }, { on := 24, ground := Go.Ground.guard }], guard := some (24, false) }) (v := ?_) rfl (by kernel_rfl) (by kernel_rfl) (by kernel_rfl) (fun _ _ _ h => h) (Or.inl ⟨by rfl, ?_⟩) (by assumption) ?_
          rotate_left
          · ((intro w hSw; (try dsimp only at hSw); go_simp); (try with_reducible rfl))
          try simp only [Act.put, List.setIfInBounds_toArray, List.set_cons_zero, List.set_cons_succ]
          refine wpAnyH_take (i := 28) (oi := { dst := some 79, op := Go.Op.pick (Go.Operand.tmp 75) (Go.Operand.const (Go.Value.bool true)) (Go.Operand.tmp 78), type := 4, pos := "law.go:48", after := #[{ on := 24, ground := Go.Ground.data }, { on := 27, ground := Go.Ground.data }, { on := 21, ground := Go.Ground.guard }], guard := some (21, true) }) (v := ?_) rfl (by kernel_rfl) (by kernel_rfl) (by kernel_rfl) (fun _ _ _ h => h) (Or.inl ⟨by rfl, ?_⟩) (by assumption) ?_
          rotate_left
          · ((intro w hSw; (try dsimp only at hSw); go_simp); (try with_reducible rfl))
          try simp only [Act.put, List.setIfInBounds_toArray, List.set_cons_zero, List.set_cons_succ]
          refine wpAnyH_take (i := 29) (oi := { dst := some 80, op := Go.Op.pick (Go.Operand.tmp 72) (Go.Operand.tmp 79) (Go.Operand.const (Go.Value.bool false)), type := 4, pos := "law.go:48", after := #[{ on := 21, ground := Go.Ground.data }, { on := 28, ground := Go.Ground.data }, { on := 18, ground := Go.Ground.guard }], guard := some (18, false) }) (v := ?_) rfl (by kernel_rfl) (by kernel_rfl) (by kernel_rfl) (fun _ _ _ h => h) (Or.inl ⟨by rfl, ?_⟩) (by assumption) ?_
          rotate_left
          · ((intro w hSw; (try dsimp only at hSw); go_simp); (try with_reducible rfl))
          try simp only [Act.put, List.setIfInBounds_toArray, List.set_cons_zero, List.set_cons_succ]
          refine wpAnyH_take (i := 30) (oi := { dst := some 81, op := Go.Op.pick (Go.Operand.tmp 69) (Go.Operand.const (Go.Value.bool true)) (Go.Operand.tmp 80), type := 4, pos := "law.go:48", after := #[{ on := 18, ground := Go.Ground.data }, { on := 29, ground := Go.Ground.data }], guard := none }) (v := ?_) rfl (by kernel_rfl) (by kernel_rfl) (by kernel_rfl) (fun _ _ _ h => h) (Or.inl ⟨by rfl, ?_⟩) (by assumption) ?_
          rotate_left
          · ((intro w hSw; (try dsimp only at hSw); go_simp); (try with_reducible rfl))
          try simp only [Act.put, List.setIfInBounds_toArray, List.set_cons_zero, List.set_cons_succ]
          refine wpAnyH_take (i := 31) (oi := { dst := some 82, op := Go.Op.move (Go.Operand.tmp 81), type := 4, pos := "law.go:48", after := #[{ on := 30, ground := Go.Ground.data }, { on := 24, ground := Go.Ground.chain }], guard := none }) (v := ?_) rfl (by kernel_rfl) (by kernel_rfl) (by kernel_rfl) (fun _ _ _ h => h) (Or.inl ⟨by rfl, ?_⟩) (by assumption) ?_
          rotate_left
          · ((intro w hSw; (try dsimp only at hSw); go_simp); (try with_reducible rfl))
          try simp only [Act.put, List.setIfInBounds_toArray, List.set_cons_zero, List.set_cons_succ]
          refine wpAnyH_take (i := 32) (oi := { dst := some 83, op := Go.Op.fieldAddr 31 (Go.Operand.tmp 3) 4, type := 0, pos := "law.go:48", after := #[{ on := 31, ground := Go.Ground.guard }], guard := some (31, false) }) (v := ?_) rfl (by kernel_rfl) (by kernel_rfl) (by kernel_rfl) (fun _ _ _ h => h) (Or.inl ⟨by rfl, ?_⟩) (by assumption) ?_
          rotate_left
          · ((intro w hSw; (try dsimp only at hSw); go_simp); (try with_reducible rfl))
          try simp only [Act.put, List.setIfInBounds_toArray, List.set_cons_zero, List.set_cons_succ]
          refine wpAnyH_take (i := 33) (oi := { dst := some 84, op := Go.Op.load 4 (Go.Operand.tmp 83), type := 4, pos := "law.go:48", after := #[{ on := 32, ground := Go.Ground.data }, { on := 31, ground := Go.Ground.guard }], guard := some (31, false) }) (v := ?_) rfl (by kernel_rfl) (by kernel_rfl) (by kernel_rfl) (fun _ _ _ h => h) (Or.inl ⟨by rfl, ?_⟩) (by assumption) ?_
          rotate_left
          · ((intro w hSw; (try dsimp only at hSw); go_simp); (try with_reducible rfl))
          try simp only [Act.put, List.setIfInBounds_toArray, List.set_cons_zero, List.set_cons_succ]
          refine wpAnyH_take (i := 34) (oi := { dst := some 85, op := Go.Op.unOp Go.UnOp.not 4 (Go.Operand.tmp 84), type := 4, pos := "law.go:48", after := #[{ on := 33, ground := Go.Ground.data }, { on := 31, ground := Go.Ground.guard }], guard := some (31, false) }) (v := ?_) rfl (by kernel_rfl) (by kernel_rfl) (by kernel_rfl) (fun _ _ _ h => h) (Or.inl ⟨by rfl, ?_⟩) (by assumption) ?_
          rotate_left
          · ((intro w hSw; (try dsimp only at hSw); go_simp); (try with_reducible rfl))
          try simp only [Act.put, List.setIfInBounds_toArray, List.set_cons_zero, List.set_cons_succ]
          refine wpAnyH_take (i := 35) (oi := { dst := some 86, op := Go.Op.move (Go.Operand.tmp 85), type := 4, pos := "law.go:48", after := #[{ on := 34, ground := Go.Ground.data }, { on := 31, ground := Go.Ground.chain }, { on := 31, ground := Go.Ground.guard }], guard := some (31, false) }) (v := ?_) rfl (by kernel_rfl) (by kernel_rfl) (by kernel_rfl) (fun _ _ _ h => h) (Or.inl ⟨by rfl, ?_⟩) (by assumption) ?_
          rotate_left
          · ((intro w hSw; (try dsimp only at hSw); go_simp); (try with_reducible rfl))
          try simp only [Act.put, List.setIfInBounds_toArray, List.set_cons_zero, List.set_cons_succ]
          refine wpAnyH_take (i := 36) (oi := { dst := some 87, op := Go.Op.move (Go.Operand.tmp 9), type := 26, pos := "law.go:48", after := #[{ on := 35, ground := Go.Ground.guard }], guard := some (35, true) }) (v := undef) rfl (by kernel_rfl) (by kernel_rfl) (by kernel_rfl) (fun _ _ _ h => h) (Or.inr ⟨by rfl, rfl⟩) (by assumption) ?_
          try simp only [Act.put, List.setIfInBounds_toArray, List.set_cons_zero, List.set_cons_succ]
          refine wpAnyH_take (i := 37) (oi := { dst := some 88, op := Go.Op.binOp Go.BinOp.neq 26 (Go.Operand.tmp 87) (Go.Operand.const (Go.Value.int Go.IntKind.i64 0)) 26, type := 4, pos := "law.go:48", after := #[{ on := 36, ground := Go.Ground.data }, { on := 35, ground := Go.Ground.guard }], guard := some (35, true) }) (v := undef) rfl (by kernel_rfl) (by kernel_rfl) (by kernel_rfl) (fun _ _ _ h => h) (Or.inr ⟨by rfl, rfl⟩) (by assumption) ?_
          try simp only [Act.put, List.setIfInBounds_toArray, List.set_cons_zero, List.set_cons_succ]
          refine wpAnyH_take (i := 38) (oi := { dst := some 89, op := Go.Op.move (Go.Operand.tmp 88), type := 4, pos := "law.go:48", after := #[{ on := 37, ground := Go.Ground.data }, { on := 35, ground := Go.Ground.chain }, { on := 35, ground := Go.Ground.guard }], guard := some (35, true) }) (v := undef) rfl (by kernel_rfl) (by kernel_rfl) (by kernel_rfl) (fun _ _ _ h => h) (Or.inr ⟨by rfl, rfl⟩) (by assumption) ?_
          try simp only [Act.put, List.setIfInBounds_toArray, List.set_cons_zero, List.set_cons_succ]
          refine wpAnyH_take (i := 39) (oi := { dst := some 90, op := Go.Op.move (Go.Operand.tmp 8), type := 34, pos := "law.go:48", after := #[{ on := 38, ground := Go.Ground.guard }], guard := some (38, false) }) (v := undef) rfl (by kernel_rfl) (by kernel_rfl) (by kernel_rfl) (fun _ _ _ h => h) (Or.inr ⟨by rfl, rfl⟩) (by assumption) ?_
          try simp only [Act.put, List.setIfInBounds_toArray, List.set_cons_zero, List.set_cons_succ]
          refine wpAnyH_take (i := 40) (oi := { dst := some 91, op := Go.Op.convert 34 9 (Go.Operand.tmp 90), type := 9, pos := "law.go:48", after := #[{ on := 39, ground := Go.Ground.data }, { on := 38, ground := Go.Ground.guard }], guard := some (38, false) }) (v := undef) rfl (by kernel_rfl) (by kernel_rfl) (by kernel_rfl) (fun _ _ _ h => h) (Or.inr ⟨by rfl, rfl⟩) (by assumption) ?_
          try simp only [Act.put, List.setIfInBounds_toArray, List.set_cons_zero, List.set_cons_succ]
          refine wpAnyH_take (i := 41) (oi := { dst := some 92, op := Go.Op.fieldAddr 43 (Go.Operand.tmp 7) 1, type := 0, pos := "law.go:48", after := #[{ on := 38, ground := Go.Ground.guard }], guard := some (38, false) }) (v := undef) rfl (by kernel_rfl) (by kernel_rfl) (by kernel_rfl) (fun _ _ _ h => h) (Or.inr ⟨by rfl, rfl⟩) (by assumption) ?_
          try simp only [Act.put, List.setIfInBounds_toArray, List.set_cons_zero, List.set_cons_succ]
          refine wpAnyH_take (i := 42) (oi := { dst := some 93, op := Go.Op.load 9 (Go.Operand.tmp 92), type := 9, pos := "law.go:48", after := #[{ on := 41, ground := Go.Ground.data }, { on := 38, ground := Go.Ground.guard }], guard := some (38, false) }) (v := undef) rfl (by kernel_rfl) (by kernel_rfl) (by kernel_rfl) (fun _ _ _ h => h) (Or.inr ⟨by rfl, rfl⟩) (by assumption) ?_
          try simp only [Act.put, List.setIfInBounds_toArray, List.set_cons_zero, List.set_cons_succ]
          refine wpAnyH_take (i := 43) (oi := { dst := some 94, op := Go.Op.binOp Go.BinOp.neq 9 (Go.Operand.tmp 91) (Go.Operand.tmp 93) 9, type := 4, pos := "law.go:48", after := #[{ on := 40, ground := Go.Ground.data }, { on := 42, ground := Go.Ground.data }, { on := 38, ground := Go.Ground.guard }], guard := some (38, false) }) (v := undef) rfl (by kernel_rfl) (by kernel_rfl) (by kernel_rfl) (fun _ _ _ h => h) (Or.inr ⟨by rfl, rfl⟩) (by assumption) ?_
          try simp only [Act.put, List.setIfInBounds_toArray, List.set_cons_zero, List.set_cons_succ]
          refine wpAnyH_take (i := 44) (oi := { dst := some 95, op := Go.Op.pick (Go.Operand.tmp 89) (Go.Operand.const (Go.Value.bool true)) (Go.Operand.tmp 94), type := 4, pos := "law.go:48", after := #[{ on := 38, ground := Go.Ground.data }, { on := 43, ground := Go.Ground.data }, { on := 35, ground := Go.Ground.guard }], guard := some (35, true) }) (v := undef) rfl (by kernel_rfl) (by kernel_rfl) (by kernel_rfl) (fun _ _ _ h => h) (Or.inr ⟨by rfl, rfl⟩) (by assumption) ?_
          try simp only [Act.put, List.setIfInBounds_toArray, List.set_cons_zero, List.set_cons_succ]
          refine wpAnyH_take (i := 45) (oi := { dst := some 96, op := Go.Op.pick (Go.Operand.tmp 86) (Go.Operand.tmp 95) (Go.Operand.const (Go.Value.bool false)), type := 4, pos := "law.go:48", after := #[{ on := 35, ground := Go.Ground.data }, { on := 44, ground := Go.Ground.data }, { on := 31, ground := Go.Ground.guard }], guard := some (31, false) }) (v := ?_) rfl (by kernel_rfl) (by kernel_rfl) (by kernel_rfl) (fun _ _ _ h => h) (Or.inl ⟨by rfl, ?_⟩) (by assumption) ?_
          rotate_left
          · ((intro w hSw; (try dsimp only at hSw); go_simp); (try with_reducible rfl))
          try simp only [Act.put, List.setIfInBounds_toArray, List.set_cons_zero, List.set_cons_succ]
          refine wpAnyH_take (i := 46) (oi := { dst := some 97, op := Go.Op.pick (Go.Operand.tmp 82) (Go.Operand.const (Go.Value.bool true)) (Go.Operand.tmp 96), type := 4, pos := "law.go:48", after := #[{ on := 31, ground := Go.Ground.data }, { on := 45, ground := Go.Ground.data }], guard := none }) (v := ?_) rfl (by kernel_rfl) (by kernel_rfl) (by kernel_rfl) (fun _ _ _ h => h) (Or.inl ⟨by rfl, ?_⟩) (by assumption) ?_
          rotate_left
          · ((intro w hSw; (try dsimp only at hSw); go_simp); (try with_reducible rfl))
          try simp only [Act.put, List.setIfInBounds_toArray, List.set_cons_zero, List.set_cons_succ]
          refine wpAnyH_done (by kernel_rfl) ?_ _
          go_wp2
          go_roundg (gk - 1)
          case measure => omega
          case rel => exact ⟨k + 1, by go_num, by omega, HS7.out _ hb6⟩
        | false =>
          rw [if_neg (by decide)] at hR
          refine hR.mono ?_
          rintro e w5 ⟨rA, rcap, rfl, hl5, hn5, hd5, k5⟩
          have hY := hX.grow k5 hd5
          have y0 := (k5.block _ (by simp) (.inr ⟨Nat.le_refl _, by simp⟩)).trans hxf
          obtain ⟨Z4, hZ4⟩ : ∃ Z4, (fun q => (Z2 q ∨ (wr.heap.size ≤ q ∧ q < (wr.alloc (.cells #[.string fn, .string fb, .int .i64 (fs : Int)] 43)).heap.size)) ∨ ((wr.alloc (.cells #[.string fn, .string fb, .int .i64 (fs : Int)] 43)).heap.size ≤ q ∧ q < w5.heap.size)) = Z4 := ⟨_, rfl⟩
          have hsub4 : ∀ q, Z2 q → Z4 q := fun q hq => by rw [← hZ4]; exact .inl (.inl hq)
          have hfz : Z4 wr.heap.size := by rw [← hZ4]; exact .inl (.inr ⟨Nat.le_refl _, by simp⟩)
          rw [hZ4] at hY
          clear hZ4
          have hSafe : ∀ wx, Below w5.heap.size w5 wx → Calls Try.prog 16 #[dptr d, .string fn] wx fun e w' => e = .returned (.int .i64 (fs : Int)) ∧ Below w5.heap.size w5 w' := fun wx hb => by
            have := (O.safe wx d _ _ fn (O.keep hY.al.dk hb.size (fun k hk _ => hb.block k hk)) hY.al.good (fun k hk => Nat.lt_of_lt_of_le (hY.al.lt k hk) hb.size) (by omega)).mono fun e w' h => And.intro h.1 (hb.trans (h.2.mono hb.size))
            dsimp only at this
            rw [hget] at this
            exact this
          have hs1 : wr.heap.size < w5.heap.size := Go.Proofs.Ytkgkllhocmedoaa.hlt y0
          have hs2 : w.heap.size < w5.heap.size := Go.Proofs.Ytkgkllhocmedoaa.hlt hY.box
          obtain ⟨g2, off2, e2', hg2, hc2⟩ := hY.names (by show 0 < l.length; omega)
          injection e2' with e2'
          injection e2' with e3' e4'
          subst e3' e4'
          have n5 : w5.cell? ⟨g1, off1 + k, none⟩ = some (.string fn) := by have := hc2 k hlt; rw [HLK.out] at this; exact this
          obtain ⟨⟨b0, b1, b2⟩, _⟩ := row3 y0
          obtain ⟨⟨p0, p1, p2, p3, p4⟩, _⟩ := row5 hY.box
          have hcv : ∀ wx, Below w5.heap.size w5 wx → (convert 34 9 (.slice rA fb.size rcap)).run Try.prog wx = .ok (.string fb) wx := fun wx hb => by
            have := Lies.text (w := wx) (hl5.below hb (Nat.le_refl _)) Try.underlying34 Try.underlying5 Try.underlying9
            have e : (⟨fb.data.toList.toArray⟩ : ByteArray) = fb := by simp
            rwa [e] at this
          have HS7 := Lib.hid (fun wx (hb : Below w5.heap.size w5 wx) => hS.less (hY.below hb) hsub4)
          clear hX hxf hR hd5 k5 hn5 a0 a1 a2 a3 a4 e0 e1 e2 hc2 hY y0 hl5
          go_wp2
          refine wp_region_held_drew (S := fun w' => (w'.cell? ⟨g1, off1 + k, none⟩ = some (.string fn)) ∧ (w'.cell? ⟨wr.heap.size, 0, none⟩ = some (.string fn) ∧ w'.cell? ⟨wr.heap.size, 1, none⟩ = some (.string fb) ∧ w'.cell? ⟨wr.heap.size, 2, none⟩ = some (.int .i64 (fs : Int))) ∧ w'.cell? ⟨w.heap.size, 4, none⟩ = some (.bool false) ∧ (convert 34 9 (.slice rA fb.size rcap)).run Try.prog w' = .ok (.string fb) w') (by kernel_rfl) ?_ (fun hHeld => ?_)
          · exact ⟨n5, ⟨b0, b1, b2⟩, p4, hcv _ (Below.refl _ _).drew⟩
          change wpAnyH _ _ _ _ _ 47 #[false, false, false, false, false, false, false, false, false, false, false, false, false, false, false, false, false, false, false, false, false, false, false, false, false, false, false, false, false, false, false, false, false, false, false, false, false, false, false, false, false, false, false, false, false, false, false] _ _
          refine wpAnyH_take (i := 0) (oi := { dst := some 51, op := Go.Op.move (Go.Operand.tmp 5), type := 47, pos := "law.go:48", after := #[], guard := none }) (v := ?_) rfl (by kernel_rfl) (by kernel_rfl) (by kernel_rfl) (fun _ _ _ h => h) (Or.inl ⟨by rfl, ?_⟩) (by assumption) ?_
          rotate_left
          · ((intro w hSw; (try dsimp only at hSw); go_simp); (try with_reducible rfl))
          try simp only [Act.put, List.setIfInBounds_toArray, List.set_cons_zero, List.set_cons_succ]
          refine wpAnyH_take (i := 1) (oi := { dst := some 52, op := Go.Op.move (Go.Operand.tmp 6), type := 3, pos := "law.go:48", after := #[], guard := none }) (v := ?_) rfl (by kernel_rfl) (by kernel_rfl) (by kernel_rfl) (fun _ _ _ h => h) (Or.inl ⟨by rfl, ?_⟩) (by assumption) ?_
          rotate_left
          · ((intro w hSw; (try dsimp only at hSw); go_simp); (try with_reducible rfl))
          try simp only [Act.put, List.setIfInBounds_toArray, List.set_cons_zero, List.set_cons_succ]
          refine wpAnyH_take (i := 2) (oi := { dst := some 53, op := Go.Op.indexAddr 47 (Go.Operand.tmp 51) (Go.Operand.tmp 52), type := 0, pos := "law.go:48", after := #[{ on := 0, ground := Go.Ground.data }, { on := 1, ground := Go.Ground.data }], guard := none }) (v := ?_) rfl (by kernel_rfl) (by kernel_rfl) (by kernel_rfl) (fun _ _ _ h => h) (Or.inl ⟨by rfl, ?_⟩) (by assumption) ?_
          rotate_left
          · ((intro w hSw; (try dsimp only at hSw); go_simp); (try with_reducible rfl))
          try simp only [Act.put, List.setIfInBounds_toArray, List.set_cons_zero, List.set_cons_succ]
          refine wpAnyH_take (i := 3) (oi := { dst := some 54, op := Go.Op.load 9 (Go.Operand.tmp 53), type := 9, pos := "law.go:48", after := #[{ on := 2, ground := Go.Ground.data }], guard := none }) (v := ?_) rfl (by kernel_rfl) (by kernel_rfl) (by kernel_rfl) (fun _ _ _ h => h) (Or.inl ⟨by rfl, ?_⟩) (by assumption) ?_
          rotate_left
          · ((intro w hSw; (try dsimp only at hSw); go_simp); (try with_reducible rfl))
          try simp only [Act.put, List.setIfInBounds_toArray, List.set_cons_zero, List.set_cons_succ]
          refine wpAnyH_take (i := 4) (oi := { dst := some 55, op := Go.Op.fieldAddr 43 (Go.Operand.tmp 7) 0, type := 0, pos := "law.go:48", after := #[], guard := none }) (v := ?_) rfl (by kernel_rfl) (by kernel_rfl) (by kernel_rfl) (fun _ _ _ h => h) (Or.inl ⟨by rfl, ?_⟩) (by assumption) ?_
          rotate_left
          · ((intro w hSw; (try dsimp only at hSw); go_simp); (try with_reducible rfl))
          try simp only [Act.put, List.setIfInBounds_toArray, List.set_cons_zero, List.set_cons_succ]
          refine wpAnyH_take (i := 5) (oi := { dst := some 56, op := Go.Op.load 9 (Go.Operand.tmp 55), type := 9, pos := "law.go:48", after := #[{ on := 4, ground := Go.Ground.data }], guard := none }) (v := ?_) rfl (by kernel_rfl) (by kernel_rfl) (by kernel_rfl) (fun _ _ _ h => h) (Or.inl ⟨by rfl, ?_⟩) (by assumption) ?_
          rotate_left
          · ((intro w hSw; (try dsimp only at hSw); go_simp); (try with_reducible rfl))
          try simp only [Act.put, List.setIfInBounds_toArray, List.set_cons_zero, List.set_cons_succ]
          refine wpAnyH_take (i := 6) (oi := { dst := some 57, op := Go.Op.binOp Go.BinOp.neq 9 (Go.Operand.tmp 54) (Go.Operand.tmp 56) 9, type := 4, pos := "law.go:48", after := #[{ on := 3, ground := Go.Ground.data }, { on := 5, ground := Go.Ground.data }], guard := none }) (v := ?_) rfl (by kernel_rfl) (by kernel_rfl) (by kernel_rfl) (fun _ _ _ h => h) (Or.inl ⟨by rfl, ?_⟩) (by assumption) ?_
          rotate_left
          · ((intro w hSw; (try dsimp only at hSw); go_simp); (try with_reducible rfl))
          try simp only [Act.put, List.setIfInBounds_toArray, List.set_cons_zero, List.set_cons_succ]
          refine wpAnyH_take (i := 7) (oi := { dst := some 58, op := Go.Op.move (Go.Operand.tmp 57), type := 4, pos := "law.go:48", after := #[{ on := 6, ground := Go.Ground.data }], guard := none }) (v := ?_) rfl (by kernel_rfl) (by kernel_rfl) (by kernel_rfl) (fun _ _ _ h => h) (Or.inl ⟨by rfl, ?_⟩) (by assumption) ?_
          rotate_left
          · ((intro w hSw; (try dsimp only at hSw); go_simp); (try with_reducible rfl))
          try simp only [Act.put, List.setIfInBounds_toArray, List.set_cons_zero, List.set_cons_succ]
          refine wpAnyH_take (i := 8) (oi := { dst := some 59, op := Go.Op.move (Go.Operand.tmp 0), type := 25, pos := "law.go:48", after := #[{ on := 7, ground := Go.Ground.guard }], guard := some (7, false) }) (v := ?_) rfl (by kernel_rfl) (by kernel_rfl) (by kernel_rfl) (fun _ _ _ h => h) (Or.inl ⟨by rfl, ?_⟩) (by assumption) ?_
          rotate_left
          · ((intro w hSw; (try dsimp only at hSw); go_simp); (try with_reducible rfl))
          try simp only [Act.put, List.setIfInBounds_toArray, List.set_cons_zero, List.set_cons_succ]
          refine wpAnyH_take (i := 9) (oi := { dst := some 60, op := Go.Op.move (Go.Operand.tmp 5), type := 47, pos := "law.go:48", after := #[{ on := 7, ground := Go.Ground.guard }], guard := some (7, false) }) (v := ?_) rfl (by kernel_rfl) (by kernel_rfl) (by kernel_rfl) (fun _ _ _ h => h) (Or.inl ⟨by rfl, ?_⟩) (by assumption) ?_
          rotate_left
          · ((intro w hSw; (try dsimp only at hSw); go_simp); (try with_reducible rfl))
          try simp only [Act.put, List.setIfInBounds_toArray, List.set_cons_zero, List.set_cons_succ]
          refine wpAnyH_take (i := 10) (oi := { dst := some 61, op := Go.Op.move (Go.Operand.tmp 6), type := 3, pos := "law.go:48", after := #[{ on := 7, ground := Go.Ground.guard }], guard := some (7, false) }) (v := ?_) rfl (by kernel_rfl) (by kernel_rfl) (by kernel_rfl) (fun _ _ _ h => h) (Or.inl ⟨by rfl, ?_⟩) (by assumption) ?_
          rotate_left
          · ((intro w hSw; (try dsimp only at hSw); go_simp); (try with_reducible rfl))
          try simp only [Act.put, List.setIfInBounds_toArray, List.set_cons_zero, List.set_cons_succ]
          refine wpAnyH_take (i := 11) (oi := { dst := some 62, op := Go.Op.indexAddr 47 (Go.Operand.tmp 60) (Go.Operand.tmp 61), type := 0, pos := "law.go:48", after := #[{ on := 9, ground := Go.Ground.data }, { on := 10, ground := Go.Ground.data }, { on := 7, ground := Go.Ground.guard }], guard := some (7, false) }) (v := ?_) rfl (by kernel_rfl) (by kernel_rfl) (by kernel_rfl) (fun _ _ _ h => h) (Or.inl ⟨by rfl, ?_⟩) (by assumption) ?_
          rotate_left
          · ((intro w hSw; (try dsimp only at hSw); go_simp); (try with_reducible rfl))
          try simp only [Act.put, List.setIfInBounds_toArray, List.set_cons_zero, List.set_cons_succ]
          refine wpAnyH_take (i := 12) (oi := { dst := some 63, op := Go.Op.load 9 (Go.Operand.tmp 62), type := 9, pos := "law.go:48", after := #[{ on := 11, ground := Go.Ground.data }, { on := 7, ground := Go.Ground.guard }], guard := some (7, false) }) (v := ?_) rfl (by kernel_rfl) (by kernel_rfl) (by kernel_rfl) (fun _ _ _ h => h) (Or.inl ⟨by rfl, ?_⟩) (by assumption) ?_
          rotate_left
          · ((intro w hSw; (try dsimp only at hSw); go_simp); (try with_reducible rfl))
          try simp only [Act.put, List.setIfInBounds_toArray, List.set_cons_zero, List.set_cons_succ]
          refine wpAnyH_take (i := 14) (oi := { dst := some 65, op := Go.Op.fieldAddr 43 (Go.Operand.tmp 7) 2, type := 0, pos := "law.go:48", after := #[{ on := 7, ground := Go.Ground.guard }], guard := some (7, false) }) (v := ?_) rfl (by kernel_rfl) (by kernel_rfl) (by kernel_rfl) (fun _ _ _ h => h) (Or.inl ⟨by rfl, ?_⟩) (by assumption) ?_
          rotate_left
          · ((intro w hSw; (try dsimp only at hSw); go_simp); (try with_reducible rfl))
          try simp only [Act.put, List.setIfInBounds_toArray, List.set_cons_zero, List.set_cons_succ]
          refine wpAnyH_take (i := 15) (oi := { dst := some 66, op := Go.Op.load 3 (Go.Operand.tmp 65), type := 3, pos := "law.go:48", after := #[{ on := 14, ground := Go.Ground.data }, { on := 7, ground := Go.Ground.guard }], guard := some (7, false) }) (v := ?_) rfl (by kernel_rfl) (by kernel_rfl) (by kernel_rfl) (fun _ _ _ h => h) (Or.inl ⟨by rfl, ?_⟩) (by assumption) ?_
          rotate_left
          · ((intro w hSw; (try dsimp only at hSw); go_simp); (try with_reducible rfl))
          try simp only [Act.put, List.setIfInBounds_toArray, List.set_cons_zero, List.set_cons_succ]
          refine wpAnyH_ready (rs := [13]) (by kernel_rfl) (by simp) ?_
          refine AllReadyH.cons rfl (fun K hK => ?_) AllReadyH.nil
          go_simp
          refine (hSafe _ (by repeat (first | exact Below.refl _ _ | apply Below.drew))).mono ?_
          rintro e w6 ⟨rfl, hb6⟩
          have s0 := (hb6.cell (p := ⟨wr.heap.size, 0, none⟩) hs1).trans b0
          have s1 := (hb6.cell (p := ⟨wr.heap.size, 1, none⟩) hs1).trans b1
          have s2 := (hb6.cell (p := ⟨wr.heap.size, 2, none⟩) hs1).trans b2
          have s4 := (hb6.cell (p := ⟨w.heap.size, 4, none⟩) hs2).trans p4
          have s5 := (hb6.cell (p := ⟨g1, off1 + k, none⟩) hg2).trans n5
          refine hK.out _ _ ⟨s5, ⟨s0, s1, s2⟩, s4, hcv w6 hb6⟩ (fun hHeld6 => ?_)
          clear hK K hHeld
          try simp only [Act.put, List.setIfInBounds_toArray, List.set_cons_zero, List.set_cons_succ]
          refine wpAnyH_take (i := 16) (oi := { dst := some 67, op := Go.Op.binOp Go.BinOp.neq 3 (Go.Operand.tmp 64) (Go.Operand.tmp 66) 3, type := 4, pos := "law.go:48", after := #[{ on := 13, ground := Go.Ground.data }, { on := 15, ground := Go.Ground.data }, { on := 7, ground := Go.Ground.guard }], guard := some (7, false) }) (v := ?_) rfl (by kernel_rfl) (by kernel_rfl) (by kernel_rfl) (fun _ _ _ h => h) (Or.inl ⟨by rfl, ?_⟩) (by assumption) ?_
          rotate_left
          · ((intro w hSw; (try dsimp only at hSw); go_simp); (try with_reducible rfl))
          try simp only [Act.put, List.setIfInBounds_toArray, List.set_cons_zero, List.set_cons_succ]
          refine wpAnyH_take (i := 17) (oi := { dst := some 68, op := Go.Op.pick (Go.Operand.tmp 58) (Go.Operand.const (Go.Value.bool true)) (Go.Operand.tmp 67), type := 4, pos := "law.go:48", after := #[{ on := 7, ground := Go.Ground.data }, { on := 16, ground := Go.Ground.data }], guard := none }) (v := ?_) rfl (by kernel_rfl) (by kernel_rfl) (by kernel_rfl) (fun _ _ _ h => h) (Or.inl ⟨by rfl, ?_⟩) (by assumption) ?_
          rotate_left
          · ((intro w hSw; (try dsimp only at hSw); go_simp); (try with_reducible rfl))
          try simp only [Act.put, List.setIfInBounds_toArray, List.set_cons_zero, List.set_cons_succ]
          refine wpAnyH_take (i := 18) (oi := { dst := some 69, op := Go.Op.move (Go.Operand.tmp 68), type := 4, pos := "law.go:48", after := #[{ on := 17, ground := Go.Ground.data }, { on := 13, ground := Go.Ground.chain }], guard := none }) (v := ?_) rfl (by kernel_rfl) (by kernel_rfl) (by kernel_rfl) (fun _ _ _ h => h) (Or.inl ⟨by rfl, ?_⟩) (by assumption) ?_
          rotate_left
          · ((intro w hSw; (try dsimp only at hSw); go_simp); (try with_reducible rfl))
          try simp only [Act.put, List.setIfInBounds_toArray, List.set_cons_zero, List.set_cons_succ]
          refine wpAnyH_take (i := 19) (oi := { dst := some 70, op := Go.Op.fieldAddr 31 (Go.Operand.tmp 3) 4, type := 0, pos := "law.go:48", after := #[{ on := 18, ground := Go.Ground.guard }], guard := some (18, false) }) (v := ?_) rfl (by kernel_rfl) (by kernel_rfl) (by kernel_rfl) (fun _ _ _ h => h) (Or.inl ⟨by rfl, ?_⟩) (by assumption) ?_
          rotate_left
          · ((intro w hSw; (try dsimp only at hSw); go_simp); (try with_reducible rfl))
          try simp only [Act.put, List.setIfInBounds_toArray, List.set_cons_zero, List.set_cons_succ]
          refine wpAnyH_take (i := 20) (oi := { dst := some 71, op := Go.Op.load 4 (Go.Operand.tmp 70), type := 4, pos := "law.go:48", after := #[{ on := 19, ground := Go.Ground.data }, { on := 18, ground := Go.Ground.guard }], guard := some (18, false) }) (v := ?_) rfl (by kernel_rfl) (by kernel_rfl) (by kernel_rfl) (fun _ _ _ h => h) (Or.inl ⟨by rfl, ?_⟩) (by assumption) ?_
          rotate_left
          · ((intro w hSw; (try dsimp only at hSw); go_simp); (try with_reducible rfl))
          try simp only [Act.put, List.setIfInBounds_toArray, List.set_cons_zero, List.set_cons_succ]
          refine wpAnyH_take (i := 21) (oi := { dst := some 72, op := Go.Op.move (Go.Operand.tmp 71), type := 4, pos := "law.go:48", after := #[{ on := 20, ground := Go.Ground.data }, { on := 18, ground := Go.Ground.chain }, { on := 18, ground := Go.Ground.guard }], guard := some (18, false) }) (v := ?_) rfl (by kernel_rfl) (by kernel_rfl) (by kernel_rfl) (fun _ _ _ h => h) (Or.inl ⟨by rfl, ?_⟩) (by assumption) ?_
          rotate_left
          · ((intro w hSw; (try dsimp only at hSw); go_simp); (try with_reducible rfl))
          try simp only [Act.put, List.setIfInBounds_toArray, List.set_cons_zero, List.set_cons_succ]
          refine wpAnyH_take (i := 22) (oi := { dst := some 73, op := Go.Op.move (Go.Operand.tmp 9), type := 26, pos := "law.go:48", after := #[{ on := 21, ground := Go.Ground.guard }], guard := some (21, true) }) (v := undef) rfl (by kernel_rfl) (by kernel_rfl) (by kernel_rfl) (fun _ _ _ h => h) (Or.inr ⟨by rfl, rfl⟩) (by assumption) ?_
          try simp only [Act.put, List.setIfInBounds_toArray, List.set_cons_zero, List.set_cons_succ]
          refine wpAnyH_take (i := 23) (oi := { dst := some 74, op := Go.Op.binOp Go.BinOp.neq 26 (Go.Operand.tmp 73) (Go.Operand.const (Go.Value.int Go.IntKind.i64 5)) 26, type := 4, pos := "law.go:48", after := #[{ on := 22, ground := Go.Ground.data }, { on := 21, ground := Go.Ground.guard }], guard := some (21, true) }) (v := undef) rfl (by kernel_rfl) (by kernel_rfl) (by kernel_rfl) (fun _ _ _ h => h) (Or.inr ⟨by rfl, rfl⟩) (by assumption) ?_
          try simp only [Act.put, List.setIfInBounds_toArray, List.set_cons_zero, List.set_cons_succ]
          refine wpAnyH_take (i := 24) (oi := { dst := some 75, op := Go.Op.move (Go.Operand.tmp 74), type := 4, pos := "law.go:48", after := #[{ on := 23, ground := Go.Ground.data }, { on := 21, ground := Go.Ground.chain }, { on := 21, ground := Go.Ground.guard }], guard := some (21, true) }) (v := undef) rfl (by kernel_rfl) (by kernel_rfl) (by kernel_rfl) (fun _ _ _ h => h) (Or.inr ⟨by rfl, rfl⟩) (by assumption) ?_
          try simp only [Act.put, List.setIfInBounds_toArray, List.set_cons_zero, List.set_cons_succ]
          refine wpAnyH_take (i := 25) (oi := { dst := some 76, op := Go.Op.move (Go.Operand.tmp 8), type := 34, pos := "law.go:48", after := #[{ on := 24, ground := Go.Ground.guard }], guard := some (24, false) }) (v := undef) rfl (by kernel_rfl) (by kernel_rfl) (by kernel_rfl) (fun _ _ _ h => h) (Or.inr ⟨by rfl, rfl⟩) (by assumption) ?_
          try simp only [Act.put, List.setIfInBounds_toArray, List.set_cons_zero, List.set_cons_succ]
          refine wpAnyH_take (i := 26) (oi := { dst := some 77, op := Go.Op.call { callee := Go.Callee.builtin Go.Builtin.len, args := #[Go.Operand.tmp 76], argTypes := #[34] }, type := 3, pos := "law.go:48", after := #[{ on := 25, ground := Go.Ground.data }, { on := 24, ground := Go.Ground.guard }], guard := some (24, false) }) (v := undef) rfl (by kernel_rfl) (by kernel_rfl) (by kernel_rfl) (fun _ _ _ h => h) (Or.inr ⟨by rfl, rfl⟩) (by assumption) ?_
          try simp only [Act.put, List.setIfInBounds_toArray, List.set_cons_zero, List.set_cons_succ]
          refine wpAnyH_take (i := 27) (oi := { dst := some 78, op := Go.Op.binOp Go.BinOp.neq 3 (Go.Operand.tmp 77) (Go.Operand.const (Go.Value.int Go.IntKind.i64 0)) 3, type := 4, pos := "law.go:48", after := #[{ on := 26, ground := Go.Ground.data }, { on := 24, ground := Go.Ground.guard }], guard := some (24, false) }) (v := undef) rfl (by kernel_rfl) (by kernel_rfl) (by kernel_rfl) (fun _ _ _ h => h) (Or.inr ⟨by rfl, rfl⟩) (by assumption) ?_
          try simp only [Act.put, List.setIfInBounds_toArray, List.set_cons_zero, List.set_cons_succ]
          refine wpAnyH_take (i := 28) (oi := { dst := some 79, op := Go.Op.pick (Go.Operand.tmp 75) (Go.Operand.const (Go.Value.bool true)) (Go.Operand.tmp 78), type := 4, pos := "law.go:48", after := #[{ on := 24, ground := Go.Ground.data }, { on := 27, ground := Go.Ground.data }, { on := 21, ground := Go.Ground.guard }], guard := some (21, true) }) (v := undef) rfl (by kernel_rfl) (by kernel_rfl) (by kernel_rfl) (fun _ _ _ h => h) (Or.inr ⟨by rfl, rfl⟩) (by assumption) ?_
          try simp only [Act.put, List.setIfInBounds_toArray, List.set_cons_zero, List.set_cons_succ]
          refine wpAnyH_take (i := 29) (oi := { dst := some 80, op := Go.Op.pick (Go.Operand.tmp 72) (Go.Operand.tmp 79) (Go.Operand.const (Go.Value.bool false)), type := 4, pos := "law.go:48", after := #[{ on := 21, ground := Go.Ground.data }, { on := 28, ground := Go.Ground.data }, { on := 18, ground := Go.Ground.guard }], guard := some (18, false) }) (v := ?_) rfl (by kernel_rfl) (by kernel_rfl) (by kernel_rfl) (fun _ _ _ h => h) (Or.inl ⟨by rfl, ?_⟩) (by assumption) ?_
          rotate_left
          · ((intro w hSw; (try dsimp only at hSw); go_simp); (try with_reducible rfl))
          try simp only [Act.put, List.setIfInBounds_toArray, List.set_cons_zero, List.set_cons_succ]
          refine wpAnyH_take (i := 30) (oi := { dst := some 81, op := Go.Op.pick (Go.Operand.tmp 69) (Go.Operand.const (Go.Value.bool true)) (Go.Operand.tmp 80), type := 4, pos := "law.go:48", after := #[{ on := 18, ground := Go.Ground.data }, { on := 29, ground := Go.Ground.data }], guard := none }) (v := ?_) rfl (by kernel_rfl) (by kernel_rfl) (by kernel_rfl) (fun _ _ _ h => h) (Or.inl ⟨by rfl, ?_⟩) (by assumption) ?_
          rotate_left
          · ((intro w hSw; (try dsimp only at hSw); go_simp); (try with_reducible rfl))
          try simp only [Act.put, List.setIfInBounds_toArray, List.set_cons_zero, List.set_cons_succ]
          refine wpAnyH_take (i := 31) (oi := { dst := some 82, op := Go.Op.move (Go.Operand.tmp 81), type := 4, pos := "law.go:48", after := #[{ on := 30, ground := Go.Ground.data }, { on := 24, ground := Go.Ground.chain }], guard := none }) (v := ?_) rfl (by kernel_rfl) (by kernel_rfl) (by kernel_rfl) (fun _ _ _ h => h) (Or.inl ⟨by rfl, ?_⟩) (by assumption) ?_
          rotate_left
          · ((intro w hSw; (try dsimp only at hSw); go_simp); (try with_reducible rfl))
          try simp only [Act.put, List.setIfInBounds_toArray, List.set_cons_zero, List.set_cons_succ]
          refine wpAnyH_take (i := 32) (oi := { dst := some 83, op := Go.Op.fieldAddr 31 (Go.Operand.tmp 3) 4, type := 0, pos := "law.go:48", after := #[{ on := 31, ground := Go.Ground.guard }], guard := some (31, false) }) (v := ?_) rfl (by kernel_rfl) (by kernel_rfl) (by kernel_rfl) (fun _ _ _ h => h) (Or.inl ⟨by rfl, ?_⟩) (by assumption) ?_
          rotate_left
          · ((intro w hSw; (try dsimp only at hSw); go_simp); (try with_reducible rfl))
          try simp only [Act.put, List.setIfInBounds_toArray, List.set_cons_zero, List.set_cons_succ]
          refine wpAnyH_take (i := 33) (oi := { dst := some 84, op := Go.Op.load 4 (Go.Operand.tmp 83), type := 4, pos := "law.go:48", after := #[{ on := 32, ground := Go.Ground.data }, { on := 31, ground := Go.Ground.guard }], guard := some (31, false) }) (v := ?_) rfl (by kernel_rfl) (by kernel_rfl) (by kernel_rfl) (fun _ _ _ h => h) (Or.inl ⟨by rfl, ?_⟩) (by assumption) ?_
          rotate_left
          · ((intro w hSw; (try dsimp only at hSw); go_simp); (try with_reducible rfl))
          try simp only [Act.put, List.setIfInBounds_toArray, List.set_cons_zero, List.set_cons_succ]
          refine wpAnyH_take (i := 34) (oi := { dst := some 85, op := Go.Op.unOp Go.UnOp.not 4 (Go.Operand.tmp 84), type := 4, pos := "law.go:48", after := #[{ on := 33, ground := Go.Ground.data }, { on := 31, ground := Go.Ground.guard }], guard := some (31, false) }) (v := ?_) rfl (by kernel_rfl) (by kernel_rfl) (by kernel_rfl) (fun _ _ _ h => h) (Or.inl ⟨by rfl, ?_⟩) (by assumption) ?_
          rotate_left
          · ((intro w hSw; (try dsimp only at hSw); go_simp); (try with_reducible rfl))
          try simp only [Act.put, List.setIfInBounds_toArray, List.set_cons_zero, List.set_cons_succ]
          refine wpAnyH_take (i := 35) (oi := { dst := some 86, op := Go.Op.move (Go.Operand.tmp 85), type := 4, pos := "law.go:48", after := #[{ on := 34, ground := Go.Ground.data }, { on := 31, ground := Go.Ground.chain }, { on := 31, ground := Go.Ground.guard }], guard := some (31, false) }) (v := ?_) rfl (by kernel_rfl) (by kernel_rfl) (by kernel_rfl) (fun _ _ _ h => h) (Or.inl ⟨by rfl, ?_⟩) (by assumption) ?_
          rotate_left
          · ((intro w hSw; (try dsimp only at hSw); go_simp); (try with_reducible rfl))
          try simp only [Act.put, List.setIfInBounds_toArray, List.set_cons_zero, List.set_cons_succ]
          refine wpAnyH_take (i := 36) (oi := { dst := some 87, op := Go.Op.move (Go.Operand.tmp 9), type := 26, pos := "law.go:48", after := #[{ on := 35, ground := Go.Ground.guard }], guard := some (35, true) }) (v := ?_) rfl (by kernel_rfl) (by kernel_rfl) (by kernel_rfl) (fun _ _ _ h => h) (Or.inl ⟨by rfl, ?_⟩) (by assumption) ?_
          rotate_left
          · ((intro w hSw; (try dsimp only at hSw); go_simp); (try with_reducible rfl))
          try simp only [Act.put, List.setIfInBounds_toArray, List.set_cons_zero, List.set_cons_succ]
          refine wpAnyH_take (i := 37) (oi := { dst := some 88, op := Go.Op.binOp Go.BinOp.neq 26 (Go.Operand.tmp 87) (Go.Operand.const (Go.Value.int Go.IntKind.i64 0)) 26, type := 4, pos := "law.go:48", after := #[{ on := 36, ground := Go.Ground.data }, { on := 35, ground := Go.Ground.guard }], guard := some (35, true) }) (v := ?_) rfl (by kernel_rfl) (by kernel_rfl) (by kernel_rfl) (fun _ _ _ h => h) (Or.inl ⟨by rfl, ?_⟩) (by assumption) ?_
          rotate_left
          · ((intro w hSw; (try dsimp only at hSw); go_simp); (try with_reducible rfl))
          try simp only [Act.put, List.setIfInBounds_toArray, List.set_cons_zero, List.set_cons_succ]
          refine wpAnyH_take (i := 38) (oi := { dst := some 89, op := Go.Op.move (Go.Operand.tmp 88), type := 4, pos := "law.go:48", after := #[{ on := 37, ground := Go.Ground.data }, { on := 35, ground := Go.Ground.chain }, { on := 35, ground := Go.Ground.guard }], guard := some (35, true) }) (v := ?_) rfl (by kernel_rfl) (by kernel_rfl) (by kernel_rfl) (fun _ _ _ h => h) (Or.inl ⟨by rfl, ?_⟩) (by assumption) ?_
          rotate_left
          · ((intro w hSw; (try dsimp only at hSw); go_simp); (try with_reducible rfl))
          try simp only [Act.put, List.setIfInBounds_toArray, List.set_cons_zero, List.set_cons_succ]
          refine wpAnyH_take (i := 39) (oi := { dst := some 90, op := Go.Op.move (Go.Operand.tmp 8), type := 34, pos := "law.go:48", after := #[{ on := 38, ground := Go.Ground.guard }], guard := some (38, false) }) (v := ?_) rfl (by kernel_rfl) (by kernel_rfl) (by kernel_rfl) (fun _ _ _ h => h) (Or.inl ⟨by rfl, ?_⟩) (by assumption) ?_
          rotate_left
          · ((intro w hSw; (try dsimp only at hSw); go_simp); (try with_reducible rfl))
          try simp only [Act.put, List.setIfInBounds_toArray, List.set_cons_zero, List.set_cons_succ]
          refine wpAnyH_take (i := 40) (oi := { dst := some 91, op := Go.Op.convert 34 9 (Go.Operand.tmp 90), type := 9, pos := "law.go:48", after := #[{ on := 39, ground := Go.Ground.data }, { on := 38, ground := Go.Ground.guard }], guard := some (38, false) }) (v := ?_) rfl (by kernel_rfl) (by kernel_rfl) (by kernel_rfl) (fun _ _ _ h => h) (Or.inl ⟨by rfl, ?_⟩) (by assumption) ?_
          rotate_left
          · ((intro w hSw; (try dsimp only at hSw); go_simp); (try with_reducible rfl))
          try simp only [Act.put, List.setIfInBounds_toArray, List.set_cons_zero, List.set_cons_succ]
          refine wpAnyH_take (i := 41) (oi := { dst := some 92, op := Go.Op.fieldAddr 43 (Go.Operand.tmp 7) 1, type := 0, pos := "law.go:48", after := #[{ on := 38, ground := Go.Ground.guard }], guard := some (38, false) }) (v := ?_) rfl (by kernel_rfl) (by kernel_rfl) (by kernel_rfl) (fun _ _ _ h => h) (Or.inl ⟨by rfl, ?_⟩) (by assumption) ?_
          rotate_left
          · ((intro w hSw; (try dsimp only at hSw); go_simp); (try with_reducible rfl))
          try simp only [Act.put, List.setIfInBounds_toArray, List.set_cons_zero, List.set_cons_succ]
          refine wpAnyH_take (i := 42) (oi := { dst := some 93, op := Go.Op.load 9 (Go.Operand.tmp 92), type := 9, pos := "law.go:48", after := #[{ on := 41, ground := Go.Ground.data }, { on := 38, ground := Go.Ground.guard }], guard := some (38, false) }) (v := ?_) rfl (by kernel_rfl) (by kernel_rfl) (by kernel_rfl) (fun _ _ _ h => h) (Or.inl ⟨by rfl, ?_⟩) (by assumption) ?_
          rotate_left
          · ((intro w hSw; (try dsimp only at hSw); go_simp); (try with_reducible rfl))
          try simp only [Act.put, List.setIfInBounds_toArray, List.set_cons_zero, List.set_cons_succ]
          refine wpAnyH_take (i := 43) (oi := { dst := some 94, op := Go.Op.binOp Go.BinOp.neq 9 (Go.Operand.tmp 91) (Go.Operand.tmp 93) 9, type := 4, pos := "law.go:48", after := #[{ on := 40, ground := Go.Ground.data }, { on := 42, ground := Go.Ground.data }, { on := 38, ground := Go.Ground.guard }], guard := some (38, false) }) (v := ?_) rfl (by kernel_rfl) (by kernel_rfl) (by kernel_rfl) (fun _ _ _ h => h) (Or.inl ⟨by rfl, ?_⟩) (by assumption) ?_
          rotate_left
          · ((intro w hSw; (try dsimp only at hSw); go_simp); (try with_reducible rfl))
          try simp only [Act.put, List.setIfInBounds_toArray, List.set_cons_zero, List.set_cons_succ]
          refine wpAnyH_take (i := 44) (oi := { dst := some 95, op := Go.Op.pick (Go.Operand.tmp 89) (Go.Operand.const (Go.Value.bool true)) (Go.Operand.tmp 94), type := 4, pos := "law.go:48", after := #[{ on := 38, ground := Go.Ground.data }, { on := 43, ground := Go.Ground.data }, { on := 35, ground := Go.Ground.guard }], guard := some (35, true) }) (v := ?_) rfl (by kernel_rfl) (by kernel_rfl) (by kernel_rfl) (fun _ _ _ h => h) (Or.inl ⟨by rfl, ?_⟩) (by assumption) ?_
          rotate_left
          · ((intro w hSw; (try dsimp only at hSw); go_simp); (try with_reducible rfl))
          try simp only [Act.put, List.setIfInBounds_toArray, List.set_cons_zero, List.set_cons_succ]
          refine wpAnyH_take (i := 45) (oi := { dst := some 96, op := Go.Op.pick (Go.Operand.tmp 86) (Go.Operand.tmp 95) (Go.Operand.const (Go.Value.bool false)), type := 4, pos := "law.go:48", after := #[{ on := 35, ground := Go.Ground.data }, { on := 44, ground := Go.Ground.data }, { on := 31, ground := Go.Ground.guard }], guard := some (31, false) }) (v := ?_) rfl (by kernel_rfl) (by kernel_rfl) (by kernel_rfl) (fun _ _ _ h => h) (Or.inl ⟨by rfl, ?_⟩) (by assumption) ?_
          rotate_left
          · ((intro w hSw; (try dsimp only at hSw); go_simp); (try with_reducible rfl))
          try simp only [Act.put, List.setIfInBounds_toArray, List.set_cons_zero, List.set_cons_succ]
          refine wpAnyH_take (i := 46) (oi := { dst := some 97, op := Go.Op.pick (Go.Operand.tmp 82) (Go.Operand.const (Go.Value.bool true)) (Go.Operand.tmp 96), type := 4, pos := "law.go:48", after := #[{ on := 31, ground := Go.Ground.data }, { on := 45, ground := Go.Ground.data }], guard := none }) (v := ?_) rfl (by kernel_rfl) (by kernel_rfl) (by kernel_rfl) (fun _ _ _ h => h) (Or.inl ⟨by rfl, ?_⟩) (by assumption) ?_
          rotate_left
          · ((intro w hSw; (try dsimp only at hSw); go_simp); (try with_reducible rfl))
          try simp only [Act.put, List.setIfInBounds_toArray, List.set_cons_zero, List.set_cons_succ]
          refine wpAnyH_done (by kernel_rfl) ?_ _
          go_wp2
          go_roundg (gk - 1)
          case measure => omega
          case rel => exact ⟨k + 1, by go_num, by omega, HS7.out _ hb6⟩
      · obtain rfl : k = l.length := by omega
        have hdec : decide ((l.length : Int) < (l.length : Int)) = false := decide_eq_false (by omega)
        have HF : Hid (Alike O wr d A cap ⟨room, l, set, n, lost⟩ Z) := ⟨⟨O.out hS.al.dk (fun q hq => .inl (hS.zz q hq)), hgood, fun q hq => hS.al.lt q (hS.zz q hq), hS.al.rf, HH.out.rz⟩⟩
        have HK := Lib.hid hS.kp
        clear hS
        go_wp2
        go_ret
        exact ⟨rfl, HF.out, HK.out⟩

end Go.Proofs.Ytkgkllhocmedoaa
