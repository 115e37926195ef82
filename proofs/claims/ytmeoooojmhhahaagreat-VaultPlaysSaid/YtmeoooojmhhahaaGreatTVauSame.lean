/- The program's disk is what the document says: Same answers so. -/
import Derived.Test.YtmeoooojmhhahaaGreatTVauDo
set_option linter.unusedVariables false
set_option linter.unusedSimpArgs false
set_option maxRecDepth 100000
set_option maxHeartbeats 2000000
namespace Go.Proofs.YtmeoooojmhhahaaGreat
open Go.RowKit
theorem Alike.keeps {O : qM} {w w' : World} {d : Nat} {A : Option Addr} {cap : Nat} {D : Dsk} {Z : Nat -> Prop} (h : Alike O w d A cap D Z) (hk : qc Z w w') (hd : O.Dk w' d D Z) : Alike O w' d A cap D Z :=
 ⟨hd,h.good,fun k hz => Nat.lt_of_lt_of_le (h.lt k hz) hk.size,hk.rf h.rf h.rz,h.rz⟩
theorem qc.names {w w' : World} {Z : Nat -> Prop} {A : Option Addr} {l : List Fil} (hk : qc Z w w') (h : qfK w A l) (hz : InZ Z A l.length) : qfK w' A l := fun h0 => by
 obtain ⟨g,off,e,hg,hc⟩ := h h0
 exact ⟨g,off,e,Nat.lt_of_lt_of_le hg hk.size,fun j hj => (World.cell?_of_block (hk.block g hg (hz h0 _ e))).trans (hc j hj)⟩
structure qY (O : qM) (w0 : World) (wx : World) (d : Nat) (A : Option Addr) (cap : Nat) (D : Dsk) (Z Z2 : Nat -> Prop) (A1 : Option Addr) : Prop where
 al : Alike O wx d A cap D Z2
 names : qfK wx A1 D.l
 nz : InZ Z2 A1 D.l.length
 box : wx.heap[w0.heap.size]? = some (.cells (diskC A cap D) 41)
 bz : Z2 w0.heap.size
 zz : ∀ k,Z k -> Z2 k
 kp : qc Z w0 wx
theorem qY.next {O : qM} {w0 wx wy : World} {d : Nat} {A : Option Addr} {cap : Nat} {D : Dsk} {Z Z2 : Nat -> Prop} {A1 : Option Addr} (h : qY O w0 wx d A cap D Z Z2 A1) (hk : qc Z2 wx wy) (hd : O.Dk wy d D Z2) : qY O w0 wy d A cap D Z Z2 A1 :=
 ⟨h.al.keeps hk hd,hk.names h.names h.nz,h.nz,(hk.block _ (hlt h.box) h.bz).trans h.box,h.bz,h.zz,h.kp.trans (hk.mono h.zz)⟩
theorem qY.below {O : qM} {w0 wx wy : World} {d : Nat} {A : Option Addr} {cap : Nat} {D : Dsk} {Z Z2 : Nat -> Prop} {A1 : Option Addr} (h : qY O w0 wx d A cap D Z Z2 A1) (hb : Below wx.heap.size wx wy) : qY O w0 wy d A cap D Z Z2 A1 :=
 h.next (qe hb nlq) (O.keep h.al.dk hb.size fun k hk _ => hb.block k hk)
theorem qY.grow {O : qM} {w0 wx wy : World} {d : Nat} {A : Option Addr} {cap : Nat} {D : Dsk} {Z Z2 : Nat -> Prop} {A1 : Option Addr} (h : qY O w0 wx d A cap D Z Z2 A1) (hk : qc Z2 wx wy) (hd : O.Dk wy d D (fun k => Z2 k \/ wx.heap.size <= k)) :
 qY O w0 wy d A cap D Z (fun k => Z2 k \/ (wx.heap.size <= k /\ k < wy.heap.size)) A1 := by
 refine ⟨⟨O.out hd (fun k hk => .inl (hk.imp id And.left)),h.al.good,?_,hk.rf h.al.rf h.al.rz,fun h0 a e => .inl (h.al.rz h0 a e)⟩,hk.names h.names h.nz,fun h0 a e => .inl (h.nz h0 a e),(hk.block _ (hlt h.box) h.bz).trans h.box, .inl h.bz,fun k hz => .inl (h.zz k hz),h.kp.trans (hk.mono h.zz)⟩
 rintro k (hz | hz)
 · exact Nat.lt_of_lt_of_le (h.al.lt k hz) hk.size
 · exact hz.2
theorem qY.growB {O : qM} {w0 wx wy : World} {d : Nat} {A : Option Addr} {cap : Nat} {D : Dsk} {Z Z2 : Nat -> Prop} {A1 : Option Addr} (h : qY O w0 wx d A cap D Z Z2 A1) (hb : Below wx.heap.size wx wy) :
 qY O w0 wy d A cap D Z (fun k => Z2 k \/ (wx.heap.size <= k /\ k < wy.heap.size)) A1 :=
 h.grow (qe hb nlq) (O.keep (O.out h.al.dk fun k hk => hk) hb.size fun k hk _ => hb.block k hk)
theorem qY.less {O : qM} {w0 wx wy : World} {d : Nat} {A : Option Addr} {cap : Nat} {D : Dsk} {Z Z2 Z3 : Nat -> Prop} {A1 : Option Addr} (h0 : qY O w0 wx d A cap D Z Z2 A1) (h : qY O w0 wy d A cap D Z Z3 A1) (hz : ∀ k,Z2 k -> Z3 k) : qY O w0 wy d A cap D Z Z2 A1 :=
 ⟨⟨O.out h.al.dk (fun k hk => .inl (hz k hk)),h.al.good,fun k hk => h.al.lt k (hz k hk),h.al.rf,h0.al.rz⟩,h.names,h0.nz,h.box,h0.bz,h0.zz,h.kp⟩
theorem qil {s : ByteArray} (h : qx s = true) : s.size <= 12 := by
 simp only [qx,Bool.and_eq_true,Bool.not_eq_true',Bool.or_eq_false_iff,decide_eq_false_iff_not] at h
 omega
theorem ql1 {D : Dsk} {f : Fil} (hm : f ∈ D.l) (hg : qbp D.l) : D.read f.name = if D.lost then (ByteArray.empty,5) else (f.b,0) := by
 have hr := (hg.each f hm).2.2
 have hget := qeP hg.sort hm
 unfold Dsk.read Dsk.may
 cases D.lost with
 | true => simp
 | false => simp [hr,hget]
theorem qcD (O : qM) (w : World) (d : Nat) (A : Option Addr) (cap : Nat) (D : Dsk) (Z : Nat -> Prop) (h : Alike O w d A cap D Z) :
 Calls Tryz.prog 20 #[dptr d,qD A cap D] w fun e w' => e = .returned (.bool true) /\ Alike O w' d A cap D Z /\ qc Z w w' := by
 have hb0 : Below w.heap.size w (w.alloc (.cells (diskC A cap D) 41)) := blq.alloc nlq _
 have hm0 : (w.alloc (.cells (diskC A cap D) 41)).heap[w.heap.size]? = some (.cells (diskC A cap D) 41) := heap_alloc_new _ _
 have hs0 : (w.alloc (.cells (diskC A cap D) 41)).heap.size = w.heap.size + 1 := by simp
 obtain ⟨W,hW⟩ : ∃ W,w.alloc (.cells (diskC A cap D) 41) = W := ⟨_,rfl⟩
 rw [hW] at hb0 hm0 hs0
 have HW := Lib.hid hW
 clear hW
 have hd0 : O.Dk W d D (fun k => Z k \/ k = w.heap.size) := O.keep (O.out h.dk (fun k hk => hk.imp id (fun e => Nat.le_of_eq e.symm))) hb0.size (fun k hk _ => hb0.block k hk)
 have hlt0 : ∀ k,(Z k \/ k = w.heap.size) -> k < W.heap.size := fun k hk => by
  rcases hk with hk | hk
  · have := h.lt k hk; omega
  · omega
 have hN := O.names W d D _ hd0 h.good hlt0
 have hlen := h.good.len
 go_enter Tryz.func20,Tryz.ntmps20
 go_upto_region 2 with (first
  | (go_at_call 73
     rw [HW.out]
     refine hN.mono ?_
     rintro e w1 ⟨A1,cap1,rfl,hn1,hnw,hd1,k1⟩)
  | fail)
 have hS : qY O w w1 d A cap D Z (fun k => (Z k \/ k = w.heap.size) \/ (W.heap.size <= k /\ k < w1.heap.size)) A1 := by
  have hsz := k1.size
  refine ⟨⟨O.out hd1 (fun k hk => .inl (hk.imp id And.left)),h.good,?_,?_,fun h0 a e => .inl (.inl (h.rz h0 a e))⟩,hn1,?_,?_, .inl (.inr rfl),fun k hk => .inl (.inl hk),(qe hb0 nlq).trans (k1.mono fun k hk => .inl hk)⟩
  · rintro k (hk | hk)
    · have := hlt0 k hk; omega
    · exact hk.2
  · exact k1.rf (h.rf.below hb0 nlq) (fun h0 a e => .inl (h.rz h0 a e))
  · intro h0 a e
    obtain ⟨g,off,e2,hg,_⟩ := hn1 h0
    have := hnw h0 a e
    rw [e2] at e
    injection e with e
    subst e
    exact .inr ⟨this,hg⟩
  · exact (k1.block _ (by omega) (.inr rfl)).trans hm0
 have hsub : ∀ k,Z k -> (fun k => (Z k \/ k = w.heap.size) \/ (W.heap.size <= k /\ k < w1.heap.size)) k := fun k hk => .inl (.inl hk)
 generalize (fun k => (Z k \/ k = w.heap.size) \/ (W.heap.size <= k /\ k < w1.heap.size)) = Z2 at hS hsub
 go_cut [31] (fun t wx => t = .bool false /\ qY O w wx d A cap D Z Z2 A1)
 case first =>
  obtain ⟨⟨a0,a1,a2,a3,a4⟩,_⟩ := row5 hS.box
  have hU := fun wx (hs : qY O w wx d A cap D Z Z2 A1) => O.used wx d D Z2 hs.al.dk hs.al.good hs.al.lt
  have hV := fun wx (hs : qY O w wx d A cap D Z Z2 A1) => qf9 A cap D wx hs.al.rf (by have := h.good.usedN; omega) (by omega)
  have hL := fun wx (hs : qY O w wx d A cap D Z Z2 A1) => O.lost wx d D Z2 hs.al.dk
  have hSd : qY O w w1.drew d A cap D Z Z2 A1 := hS.below blq.drew
  obtain ⟨room,l,set,n,lost⟩ := D
  dsimp only at *
  generalize qg l = u at hU hV
  clear hN hb0 hm0 hs0 HW hd0 hlt0 hn1 hd1 k1 hnw
  go_region_held3 (fun w' => w'.cell? ⟨w.heap.size,0,none⟩ = some (.int .i64 room) /\ w'.cell? ⟨w.heap.size,1,none⟩ = some (.slice A l.length cap) /\ w'.cell? ⟨w.heap.size,2,none⟩ = some (.bool set) /\ w'.cell? ⟨w.heap.size,3,none⟩ = some (.int .i64 n) /\ w'.cell? ⟨w.heap.size,4,none⟩ = some (.bool lost))
   (first | (go_keep; done) | exact ⟨b0,b1,b2,b3,b4⟩ | exact ⟨c0,c1,c2,c3,c4⟩)
   (first
     | (go_at_call 30; refine (hU _ hSd).mono ?_; rintro e w5 ⟨rfl,hd5,k5⟩; have hS5 := hSd.next k5 hd5; obtain ⟨⟨b0,b1,b2,b3,b4⟩,_⟩ := row5 hS5.box)
     | (go_at_call 74; refine (hV _ hS5).mono ?_; rintro e w6 ⟨rfl,hb6⟩; have hS6 := hS5.below hb6; obtain ⟨⟨c0,c1,c2,c3,c4⟩,_⟩ := row5 hS6.box)
     | (go_at_call 75; refine (hL _ hS6).mono ?_; rintro e w7 ⟨rfl,rfl⟩))
  all_goals
   go_wp2_with fail
   go_meet
   exact ⟨rfl,hS6⟩
 case rest =>
  obtain ⟨rfl,hS2⟩ := hcut
  clear hN hb0 hm0 hs0 HW hd0 hlt0 hn1 hd1 k1 hnw hS
  have hlen' : (D.l.length : Int) <= 1048576 := by omega
  have hgood := h.good
  obtain ⟨room,l,set,n,lost⟩ := D
  dsimp only at *
  have HH := Lib.hid h
  clear h
  go_wp2
  go_loopg [34] l.length (fun g x wr => ∃ k : Nat,x = .int .i64 (k : Int) /\ k + g = l.length /\ qY O w wr d A cap ⟨room,l,set,n,lost⟩ Z Z2 A1)
  case atStart => exact ⟨0,rfl,by omega,hS2⟩
  case round =>
   clear hS2
   obtain ⟨k,rfl,hk,hS⟩ := hrel
   by_cases hlt : k < l.length
   · have hlt' : (k : Int) < (l.length : Int) := by omega
     obtain ⟨⟨a0,a1,a2,a3,a4⟩,_⟩ := row5 hS.box
     obtain ⟨g,off,rfl,hg,hc⟩ := hS.al.rf.2 (by show 0 < l.length; omega)
     obtain ⟨e0,e1,e2⟩ := hc k hlt
     obtain ⟨g1,off1,rfl,hg1,hc1⟩ := hS.names (by show 0 < l.length; omega)
     have n0 := hc1 k hlt
     have hmem : l[k] ∈ l := List.getElem_mem hlt
     have hfit := hgood.fils.each _ hmem
     have hget := qeP hgood.fils.sort hmem
     have hread := ql1 (D := ⟨room,l,set,n,lost⟩) hmem hgood.fils
     clear hc hc1
     obtain ⟨f,hlk⟩ : ∃ f,l[k] = f := ⟨_,rfl⟩
     rw [hlk] at hread hfit hget n0 e0 e1 e2 hmem
     obtain ⟨fn,fb,fs⟩ := f
     dsimp only at *
     have HLK := Lib.hid hlk
     clear hlk
     have hfn : fn.size <= 12 := qil hfit.2.2
     have hX := hS.growB ((Below.refl wr.heap.size wr).alloc nlq (.cells #[.string fn, .string fb, .int .i64 (fs : Int)] 141))
     have hxf : (wr.alloc (.cells #[.string fn, .string fb, .int .i64 (fs : Int)] 141)).heap[wr.heap.size]? = some (.cells #[.string fn, .string fb, .int .i64 (fs : Int)] 141) := heap_alloc_new _ _
     have hR := O.read _ d _ _ fn hX.al.dk hX.al.good hX.al.lt (by omega)
     rw [hread] at hR
     go_wp2_with fail
     cases lost with
     | true =>
       rw [if_pos rfl] at hR
       refine hR.mono ?_
       rintro e w5 ⟨rA,rcap,rfl,hl5,hn5,hd5,k5⟩
       have hY := hX.grow k5 hd5
       have y0 := (k5.block _ (by simp) (.inr ⟨nlq,by simp⟩)).trans hxf
       obtain ⟨Z4,hZ4⟩ : ∃ Z4,(fun q => (Z2 q \/ (wr.heap.size <= q /\ q < (wr.alloc (.cells #[.string fn, .string fb, .int .i64 (fs : Int)] 141)).heap.size)) \/ ((wr.alloc (.cells #[.string fn, .string fb, .int .i64 (fs : Int)] 141)).heap.size <= q /\ q < w5.heap.size)) = Z4 := ⟨_,rfl⟩
       have hsub4 : ∀ q,Z2 q -> Z4 q := fun q hq => by rw [<- hZ4]; exact .inl (.inl hq)
       have hfz : Z4 wr.heap.size := by rw [<- hZ4]; exact .inl (.inr ⟨nlq,by simp⟩)
       rw [hZ4] at hY
       clear hZ4
       have hSafe : ∀ wx,Below w5.heap.size w5 wx -> Calls Tryz.prog 76 #[dptr d, .string fn] wx fun e w' => e = .returned (.int .i64 (fs : Int)) /\ Below w5.heap.size w5 w' := fun wx hb => by
        have := (O.safe wx d _ _ fn (O.keep hY.al.dk hb.size (fun k hk _ => hb.block k hk)) hY.al.good (fun k hk => Nat.lt_of_lt_of_le (hY.al.lt k hk) hb.size) (by omega)).mono fun e w' h => And.intro h.1 (hb.trans (h.2.mono hb.size))
        dsimp only at this
        rw [hget] at this
        exact this
       have hs1 : wr.heap.size < w5.heap.size := hlq y0
       have hs2 : w.heap.size < w5.heap.size := hlq hY.box
       obtain ⟨g2,off2,e2',hg2,hc2⟩ := hY.names (by show 0 < l.length; omega)
       injection e2' with e2'
       injection e2' with e3' e4'
       subst e3' e4'
       have n5 : w5.cell? ⟨g1,off1 + k,none⟩ = some (.string fn) := by have := hc2 k hlt; rw [HLK.out] at this; exact this
       obtain ⟨⟨b0,b1,b2⟩,_⟩ := row3 y0
       obtain ⟨⟨p0,p1,p2,p3,p4⟩,_⟩ := row5 hY.box
       have HS7 := Lib.hid (fun wx (hb : Below w5.heap.size w5 wx) => hS.less (hY.below hb) hsub4)
       clear hX hxf hR hd5 k5 hn5 a0 a1 a2 a3 a4 e0 e1 e2 hc2 hY y0 hl5
       go_wp2
       refine wp_region_held_drew (S := fun w' => (w'.cell? ⟨g1,off1 + k,none⟩ = some (.string fn)) /\ (w'.cell? ⟨wr.heap.size,0,none⟩ = some (.string fn) /\ w'.cell? ⟨wr.heap.size,1,none⟩ = some (.string fb) /\ w'.cell? ⟨wr.heap.size,2,none⟩ = some (.int .i64 (fs : Int))) /\ w'.cell? ⟨w.heap.size,4,none⟩ = some (.bool true)) (by kernel_rfl) ?_ (fun hHeld => ?_)
       · exact ⟨n5,⟨b0,b1,b2⟩,p4⟩
       change wpAnyH _ _ _ _ _ 47 #[false,false,false,false,false,false,false,false,false,false,false,false,false,false,false,false,false,false,false,false,false,false,false,false,false,false,false,false,false,false,false,false,false,false,false,false,false,false,false,false,false,false,false,false,false,false,false] _ _
       refine tkq 0 ⟨some 51, .move (.tmp 5),109, "law.go:48",#[],none⟩ ?_ ?_ ?_
       rotate_left
       · (intro w h; (try dsimp only at h); go_simp); (try with_reducible rfl)
       try simp only [lpq]
       refine tkq 1 ⟨some 52, .move (.tmp 6),3, "law.go:48",#[],none⟩ ?_ ?_ ?_
       rotate_left
       · (intro w h; (try dsimp only at h); go_simp); (try with_reducible rfl)
       try simp only [lpq]
       refine tkq 2 ⟨some 53, .indexAddr 109 (.tmp 51) (.tmp 52),0, "law.go:48",#[⟨0, .data⟩,⟨1, .data⟩],none⟩ ?_ ?_ ?_
       rotate_left
       · (intro w h; (try dsimp only at h); go_simp); (try with_reducible rfl)
       try simp only [lpq]
       refine tkq 3 ⟨some 54, .load 9 (.tmp 53),9, "law.go:48",#[⟨2, .data⟩],none⟩ ?_ ?_ ?_
       rotate_left
       · (intro w h; (try dsimp only at h); go_simp); (try with_reducible rfl)
       try simp only [lpq]
       refine tkq 4 ⟨some 55, .fieldAddr 141 (.tmp 7) 0,0, "law.go:48",#[],none⟩ ?_ ?_ ?_
       rotate_left
       · (intro w h; (try dsimp only at h); go_simp); (try with_reducible rfl)
       try simp only [lpq]
       refine tkq 5 ⟨some 56, .load 9 (.tmp 55),9, "law.go:48",#[⟨4, .data⟩],none⟩ ?_ ?_ ?_
       rotate_left
       · (intro w h; (try dsimp only at h); go_simp); (try with_reducible rfl)
       try simp only [lpq]
       refine tkq 6 ⟨some 57, .binOp .neq 9 (.tmp 54) (.tmp 56) 9,4, "law.go:48",#[⟨3, .data⟩,⟨5, .data⟩],none⟩ ?_ ?_ ?_
       rotate_left
       · (intro w h; (try dsimp only at h); go_simp); (try with_reducible rfl)
       try simp only [lpq]
       refine tkq 7 ⟨some 58, .move (.tmp 57),4, "law.go:48",#[⟨6, .data⟩],none⟩ ?_ ?_ ?_
       rotate_left
       · (intro w h; (try dsimp only at h); go_simp); (try with_reducible rfl)
       try simp only [lpq]
       refine tkq 8 ⟨some 59, .move (.tmp 0),26, "law.go:48",#[⟨7, .guard⟩],some (7,false)⟩ ?_ ?_ ?_
       rotate_left
       · (intro w h; (try dsimp only at h); go_simp); (try with_reducible rfl)
       try simp only [lpq]
       refine tkq 9 ⟨some 60, .move (.tmp 5),109, "law.go:48",#[⟨7, .guard⟩],some (7,false)⟩ ?_ ?_ ?_
       rotate_left
       · (intro w h; (try dsimp only at h); go_simp); (try with_reducible rfl)
       try simp only [lpq]
       refine tkq 10 ⟨some 61, .move (.tmp 6),3, "law.go:48",#[⟨7, .guard⟩],some (7,false)⟩ ?_ ?_ ?_
       rotate_left
       · (intro w h; (try dsimp only at h); go_simp); (try with_reducible rfl)
       try simp only [lpq]
       refine tkq 11 ⟨some 62, .indexAddr 109 (.tmp 60) (.tmp 61),0, "law.go:48",#[⟨9, .data⟩,⟨10, .data⟩,⟨7, .guard⟩],some (7,false)⟩ ?_ ?_ ?_
       rotate_left
       · (intro w h; (try dsimp only at h); go_simp); (try with_reducible rfl)
       try simp only [lpq]
       refine tkq 12 ⟨some 63, .load 9 (.tmp 62),9, "law.go:48",#[⟨11, .data⟩,⟨7, .guard⟩],some (7,false)⟩ ?_ ?_ ?_
       rotate_left
       · (intro w h; (try dsimp only at h); go_simp); (try with_reducible rfl)
       try simp only [lpq]
       refine tkq 14 ⟨some 65, .fieldAddr 141 (.tmp 7) 2,0, "law.go:48",#[⟨7, .guard⟩],some (7,false)⟩ ?_ ?_ ?_
       rotate_left
       · (intro w h; (try dsimp only at h); go_simp); (try with_reducible rfl)
       try simp only [lpq]
       refine tkq 15 ⟨some 66, .load 3 (.tmp 65),3, "law.go:48",#[⟨14, .data⟩,⟨7, .guard⟩],some (7,false)⟩ ?_ ?_ ?_
       rotate_left
       · (intro w h; (try dsimp only at h); go_simp); (try with_reducible rfl)
       try simp only [lpq]
       refine wpAnyH_ready (rs := [13]) (by kernel_rfl) (by simp) ?_
       refine AllReadyH.cons rfl (fun K hK => ?_) AllReadyH.nil
       go_simp
       refine (hSafe _ (by repeat (first | exact blq | apply Below.drew))).mono ?_
       rintro e w6 ⟨rfl,hb6⟩
       have s0 := (hb6.cell (p := ⟨wr.heap.size,0,none⟩) hs1).trans b0
       have s1 := (hb6.cell (p := ⟨wr.heap.size,1,none⟩) hs1).trans b1
       have s2 := (hb6.cell (p := ⟨wr.heap.size,2,none⟩) hs1).trans b2
       have s4 := (hb6.cell (p := ⟨w.heap.size,4,none⟩) hs2).trans p4
       have s5 := (hb6.cell (p := ⟨g1,off1 + k,none⟩) hg2).trans n5
       refine hK.out _ _ ⟨s5,⟨s0,s1,s2⟩,s4⟩ (fun hHeld6 => ?_)
       clear hK K hHeld
       try simp only [lpq]
       refine tkq 16 ⟨some 67, .binOp .neq 3 (.tmp 64) (.tmp 66) 3,4, "law.go:48",#[⟨13, .data⟩,⟨15, .data⟩,⟨7, .guard⟩],some (7,false)⟩ ?_ ?_ ?_
       rotate_left
       · (intro w h; (try dsimp only at h); go_simp); (try with_reducible rfl)
       try simp only [lpq]
       refine tkq 17 ⟨some 68, .pick (.tmp 58) (.const (.bool true)) (.tmp 67),4, "law.go:48",#[⟨7, .data⟩,⟨16, .data⟩],none⟩ ?_ ?_ ?_
       rotate_left
       · (intro w h; (try dsimp only at h); go_simp); (try with_reducible rfl)
       try simp only [lpq]
       refine tkq 18 ⟨some 69, .move (.tmp 68),4, "law.go:48",#[⟨17, .data⟩,⟨13, .chain⟩],none⟩ ?_ ?_ ?_
       rotate_left
       · (intro w h; (try dsimp only at h); go_simp); (try with_reducible rfl)
       try simp only [lpq]
       refine tkq 19 ⟨some 70, .fieldAddr 41 (.tmp 3) 4,0, "law.go:48",#[⟨18, .guard⟩],some (18,false)⟩ ?_ ?_ ?_
       rotate_left
       · (intro w h; (try dsimp only at h); go_simp); (try with_reducible rfl)
       try simp only [lpq]
       refine tkq 20 ⟨some 71, .load 4 (.tmp 70),4, "law.go:48",#[⟨19, .data⟩,⟨18, .guard⟩],some (18,false)⟩ ?_ ?_ ?_
       rotate_left
       · (intro w h; (try dsimp only at h); go_simp); (try with_reducible rfl)
       try simp only [lpq]
       refine tkq 21 ⟨some 72, .move (.tmp 71),4, "law.go:48",#[⟨20, .data⟩,⟨18, .chain⟩,⟨18, .guard⟩],some (18,false)⟩ ?_ ?_ ?_
       rotate_left
       · (intro w h; (try dsimp only at h); go_simp); (try with_reducible rfl)
       try simp only [lpq]
       refine tkq 22 ⟨some 73, .move (.tmp 9),27, "law.go:48",#[⟨21, .guard⟩],some (21,true)⟩ ?_ ?_ ?_
       rotate_left
       · (intro w h; (try dsimp only at h); go_simp); (try with_reducible rfl)
       try simp only [lpq]
       refine tkq 23 ⟨some 74, .binOp .neq 27 (.tmp 73) (.const (.int .i64 5)) 27,4, "law.go:48",#[⟨22, .data⟩,⟨21, .guard⟩],some (21,true)⟩ ?_ ?_ ?_
       rotate_left
       · (intro w h; (try dsimp only at h); go_simp); (try with_reducible rfl)
       try simp only [lpq]
       refine tkq 24 ⟨some 75, .move (.tmp 74),4, "law.go:48",#[⟨23, .data⟩,⟨21, .chain⟩,⟨21, .guard⟩],some (21,true)⟩ ?_ ?_ ?_
       rotate_left
       · (intro w h; (try dsimp only at h); go_simp); (try with_reducible rfl)
       try simp only [lpq]
       refine tkq 25 ⟨some 76, .move (.tmp 8),33, "law.go:48",#[⟨24, .guard⟩],some (24,false)⟩ ?_ ?_ ?_
       rotate_left
       · (intro w h; (try dsimp only at h); go_simp); (try with_reducible rfl)
       try simp only [lpq]
       refine tkq 26 ⟨some 77, .call ⟨.builtin .len,#[.tmp 76],#[33]⟩,3, "law.go:48",#[⟨25, .data⟩,⟨24, .guard⟩],some (24,false)⟩ ?_ ?_ ?_
       rotate_left
       · (intro w h; (try dsimp only at h); go_simp); (try with_reducible rfl)
       try simp only [lpq]
       refine tkq 27 ⟨some 78, .binOp .neq 3 (.tmp 77) (.const (.int .i64 0)) 3,4, "law.go:48",#[⟨26, .data⟩,⟨24, .guard⟩],some (24,false)⟩ ?_ ?_ ?_
       rotate_left
       · (intro w h; (try dsimp only at h); go_simp); (try with_reducible rfl)
       try simp only [lpq]
       refine tkq 28 ⟨some 79, .pick (.tmp 75) (.const (.bool true)) (.tmp 78),4, "law.go:48",#[⟨24, .data⟩,⟨27, .data⟩,⟨21, .guard⟩],some (21,true)⟩ ?_ ?_ ?_
       rotate_left
       · (intro w h; (try dsimp only at h); go_simp); (try with_reducible rfl)
       try simp only [lpq]
       refine tkq 29 ⟨some 80, .pick (.tmp 72) (.tmp 79) (.const (.bool false)),4, "law.go:48",#[⟨21, .data⟩,⟨28, .data⟩,⟨18, .guard⟩],some (18,false)⟩ ?_ ?_ ?_
       rotate_left
       · (intro w h; (try dsimp only at h); go_simp); (try with_reducible rfl)
       try simp only [lpq]
       refine tkq 30 ⟨some 81, .pick (.tmp 69) (.const (.bool true)) (.tmp 80),4, "law.go:48",#[⟨18, .data⟩,⟨29, .data⟩],none⟩ ?_ ?_ ?_
       rotate_left
       · (intro w h; (try dsimp only at h); go_simp); (try with_reducible rfl)
       try simp only [lpq]
       refine tkq 31 ⟨some 82, .move (.tmp 81),4, "law.go:48",#[⟨30, .data⟩,⟨24, .chain⟩],none⟩ ?_ ?_ ?_
       rotate_left
       · (intro w h; (try dsimp only at h); go_simp); (try with_reducible rfl)
       try simp only [lpq]
       refine tkq 32 ⟨some 83, .fieldAddr 41 (.tmp 3) 4,0, "law.go:48",#[⟨31, .guard⟩],some (31,false)⟩ ?_ ?_ ?_
       rotate_left
       · (intro w h; (try dsimp only at h); go_simp); (try with_reducible rfl)
       try simp only [lpq]
       refine tkq 33 ⟨some 84, .load 4 (.tmp 83),4, "law.go:48",#[⟨32, .data⟩,⟨31, .guard⟩],some (31,false)⟩ ?_ ?_ ?_
       rotate_left
       · (intro w h; (try dsimp only at h); go_simp); (try with_reducible rfl)
       try simp only [lpq]
       refine tkq 34 ⟨some 85, .unOp .not 4 (.tmp 84),4, "law.go:48",#[⟨33, .data⟩,⟨31, .guard⟩],some (31,false)⟩ ?_ ?_ ?_
       rotate_left
       · (intro w h; (try dsimp only at h); go_simp); (try with_reducible rfl)
       try simp only [lpq]
       refine tkq 35 ⟨some 86, .move (.tmp 85),4, "law.go:48",#[⟨34, .data⟩,⟨31, .chain⟩,⟨31, .guard⟩],some (31,false)⟩ ?_ ?_ ?_
       rotate_left
       · (intro w h; (try dsimp only at h); go_simp); (try with_reducible rfl)
       try simp only [lpq]
       refine tuq 36 ⟨some 87, .move (.tmp 9),27, "law.go:48",#[⟨35, .guard⟩],some (35,true)⟩ ?_
       try simp only [lpq]
       refine tuq 37 ⟨some 88, .binOp .neq 27 (.tmp 87) (.const (.int .i64 0)) 27,4, "law.go:48",#[⟨36, .data⟩,⟨35, .guard⟩],some (35,true)⟩ ?_
       try simp only [lpq]
       refine tuq 38 ⟨some 89, .move (.tmp 88),4, "law.go:48",#[⟨37, .data⟩,⟨35, .chain⟩,⟨35, .guard⟩],some (35,true)⟩ ?_
       try simp only [lpq]
       refine tuq 39 ⟨some 90, .move (.tmp 8),33, "law.go:48",#[⟨38, .guard⟩],some (38,false)⟩ ?_
       try simp only [lpq]
       refine tuq 40 ⟨some 91, .convert 33 9 (.tmp 90),9, "law.go:48",#[⟨39, .data⟩,⟨38, .guard⟩],some (38,false)⟩ ?_
       try simp only [lpq]
       refine tuq 41 ⟨some 92, .fieldAddr 141 (.tmp 7) 1,0, "law.go:48",#[⟨38, .guard⟩],some (38,false)⟩ ?_
       try simp only [lpq]
       refine tuq 42 ⟨some 93, .load 9 (.tmp 92),9, "law.go:48",#[⟨41, .data⟩,⟨38, .guard⟩],some (38,false)⟩ ?_
       try simp only [lpq]
       refine tuq 43 ⟨some 94, .binOp .neq 9 (.tmp 91) (.tmp 93) 9,4, "law.go:48",#[⟨40, .data⟩,⟨42, .data⟩,⟨38, .guard⟩],some (38,false)⟩ ?_
       try simp only [lpq]
       refine tuq 44 ⟨some 95, .pick (.tmp 89) (.const (.bool true)) (.tmp 94),4, "law.go:48",#[⟨38, .data⟩,⟨43, .data⟩,⟨35, .guard⟩],some (35,true)⟩ ?_
       try simp only [lpq]
       refine tkq 45 ⟨some 96, .pick (.tmp 86) (.tmp 95) (.const (.bool false)),4, "law.go:48",#[⟨35, .data⟩,⟨44, .data⟩,⟨31, .guard⟩],some (31,false)⟩ ?_ ?_ ?_
       rotate_left
       · (intro w h; (try dsimp only at h); go_simp); (try with_reducible rfl)
       try simp only [lpq]
       refine tkq 46 ⟨some 97, .pick (.tmp 82) (.const (.bool true)) (.tmp 96),4, "law.go:48",#[⟨31, .data⟩,⟨45, .data⟩],none⟩ ?_ ?_ ?_
       rotate_left
       · (intro w h; (try dsimp only at h); go_simp); (try with_reducible rfl)
       try simp only [lpq]
       refine wpAnyH_done (by kernel_rfl) ?_ _
       go_wp2
       go_roundg (gk - 1)
       case measure => omega
       case rel => exact ⟨k + 1,by go_num,by omega,HS7.out _ hb6⟩
     | false =>
       rw [if_neg (by decide)] at hR
       refine hR.mono ?_
       rintro e w5 ⟨rA,rcap,rfl,hl5,hn5,hd5,k5⟩
       have hY := hX.grow k5 hd5
       have y0 := (k5.block _ (by simp) (.inr ⟨nlq,by simp⟩)).trans hxf
       obtain ⟨Z4,hZ4⟩ : ∃ Z4,(fun q => (Z2 q \/ (wr.heap.size <= q /\ q < (wr.alloc (.cells #[.string fn, .string fb, .int .i64 (fs : Int)] 141)).heap.size)) \/ ((wr.alloc (.cells #[.string fn, .string fb, .int .i64 (fs : Int)] 141)).heap.size <= q /\ q < w5.heap.size)) = Z4 := ⟨_,rfl⟩
       have hsub4 : ∀ q,Z2 q -> Z4 q := fun q hq => by rw [<- hZ4]; exact .inl (.inl hq)
       have hfz : Z4 wr.heap.size := by rw [<- hZ4]; exact .inl (.inr ⟨nlq,by simp⟩)
       rw [hZ4] at hY
       clear hZ4
       have hSafe : ∀ wx,Below w5.heap.size w5 wx -> Calls Tryz.prog 76 #[dptr d, .string fn] wx fun e w' => e = .returned (.int .i64 (fs : Int)) /\ Below w5.heap.size w5 w' := fun wx hb => by
        have := (O.safe wx d _ _ fn (O.keep hY.al.dk hb.size (fun k hk _ => hb.block k hk)) hY.al.good (fun k hk => Nat.lt_of_lt_of_le (hY.al.lt k hk) hb.size) (by omega)).mono fun e w' h => And.intro h.1 (hb.trans (h.2.mono hb.size))
        dsimp only at this
        rw [hget] at this
        exact this
       have hs1 : wr.heap.size < w5.heap.size := hlq y0
       have hs2 : w.heap.size < w5.heap.size := hlq hY.box
       obtain ⟨g2,off2,e2',hg2,hc2⟩ := hY.names (by show 0 < l.length; omega)
       injection e2' with e2'
       injection e2' with e3' e4'
       subst e3' e4'
       have n5 : w5.cell? ⟨g1,off1 + k,none⟩ = some (.string fn) := by have := hc2 k hlt; rw [HLK.out] at this; exact this
       obtain ⟨⟨b0,b1,b2⟩,_⟩ := row3 y0
       obtain ⟨⟨p0,p1,p2,p3,p4⟩,_⟩ := row5 hY.box
       have hcv : ∀ wx,Below w5.heap.size w5 wx -> (convert 33 9 (.slice rA fb.size rcap)).run Tryz.prog wx = .ok (.string fb) wx := fun wx hb => by
        have := Lies.text (w := wx) (hl5.below hb nlq) Tryz.underlying33 Tryz.underlying5 Tryz.underlying9
        have e : (⟨fb.data.toList.toArray⟩ : ByteArray) = fb := by simp
        rwa [e] at this
       have HS7 := Lib.hid (fun wx (hb : Below w5.heap.size w5 wx) => hS.less (hY.below hb) hsub4)
       clear hX hxf hR hd5 k5 hn5 a0 a1 a2 a3 a4 e0 e1 e2 hc2 hY y0 hl5
       go_wp2
       refine wp_region_held_drew (S := fun w' => (w'.cell? ⟨g1,off1 + k,none⟩ = some (.string fn)) /\ (w'.cell? ⟨wr.heap.size,0,none⟩ = some (.string fn) /\ w'.cell? ⟨wr.heap.size,1,none⟩ = some (.string fb) /\ w'.cell? ⟨wr.heap.size,2,none⟩ = some (.int .i64 (fs : Int))) /\ w'.cell? ⟨w.heap.size,4,none⟩ = some (.bool false) /\ (convert 33 9 (.slice rA fb.size rcap)).run Tryz.prog w' = .ok (.string fb) w') (by kernel_rfl) ?_ (fun hHeld => ?_)
       · exact ⟨n5,⟨b0,b1,b2⟩,p4,hcv _ blq.drew⟩
       change wpAnyH _ _ _ _ _ 47 #[false,false,false,false,false,false,false,false,false,false,false,false,false,false,false,false,false,false,false,false,false,false,false,false,false,false,false,false,false,false,false,false,false,false,false,false,false,false,false,false,false,false,false,false,false,false,false] _ _
       refine tkq 0 ⟨some 51, .move (.tmp 5),109, "law.go:48",#[],none⟩ ?_ ?_ ?_
       rotate_left
       · (intro w h; (try dsimp only at h); go_simp); (try with_reducible rfl)
       try simp only [lpq]
       refine tkq 1 ⟨some 52, .move (.tmp 6),3, "law.go:48",#[],none⟩ ?_ ?_ ?_
       rotate_left
       · (intro w h; (try dsimp only at h); go_simp); (try with_reducible rfl)
       try simp only [lpq]
       refine tkq 2 ⟨some 53, .indexAddr 109 (.tmp 51) (.tmp 52),0, "law.go:48",#[⟨0, .data⟩,⟨1, .data⟩],none⟩ ?_ ?_ ?_
       rotate_left
       · (intro w h; (try dsimp only at h); go_simp); (try with_reducible rfl)
       try simp only [lpq]
       refine tkq 3 ⟨some 54, .load 9 (.tmp 53),9, "law.go:48",#[⟨2, .data⟩],none⟩ ?_ ?_ ?_
       rotate_left
       · (intro w h; (try dsimp only at h); go_simp); (try with_reducible rfl)
       try simp only [lpq]
       refine tkq 4 ⟨some 55, .fieldAddr 141 (.tmp 7) 0,0, "law.go:48",#[],none⟩ ?_ ?_ ?_
       rotate_left
       · (intro w h; (try dsimp only at h); go_simp); (try with_reducible rfl)
       try simp only [lpq]
       refine tkq 5 ⟨some 56, .load 9 (.tmp 55),9, "law.go:48",#[⟨4, .data⟩],none⟩ ?_ ?_ ?_
       rotate_left
       · (intro w h; (try dsimp only at h); go_simp); (try with_reducible rfl)
       try simp only [lpq]
       refine tkq 6 ⟨some 57, .binOp .neq 9 (.tmp 54) (.tmp 56) 9,4, "law.go:48",#[⟨3, .data⟩,⟨5, .data⟩],none⟩ ?_ ?_ ?_
       rotate_left
       · (intro w h; (try dsimp only at h); go_simp); (try with_reducible rfl)
       try simp only [lpq]
       refine tkq 7 ⟨some 58, .move (.tmp 57),4, "law.go:48",#[⟨6, .data⟩],none⟩ ?_ ?_ ?_
       rotate_left
       · (intro w h; (try dsimp only at h); go_simp); (try with_reducible rfl)
       try simp only [lpq]
       refine tkq 8 ⟨some 59, .move (.tmp 0),26, "law.go:48",#[⟨7, .guard⟩],some (7,false)⟩ ?_ ?_ ?_
       rotate_left
       · (intro w h; (try dsimp only at h); go_simp); (try with_reducible rfl)
       try simp only [lpq]
       refine tkq 9 ⟨some 60, .move (.tmp 5),109, "law.go:48",#[⟨7, .guard⟩],some (7,false)⟩ ?_ ?_ ?_
       rotate_left
       · (intro w h; (try dsimp only at h); go_simp); (try with_reducible rfl)
       try simp only [lpq]
       refine tkq 10 ⟨some 61, .move (.tmp 6),3, "law.go:48",#[⟨7, .guard⟩],some (7,false)⟩ ?_ ?_ ?_
       rotate_left
       · (intro w h; (try dsimp only at h); go_simp); (try with_reducible rfl)
       try simp only [lpq]
       refine tkq 11 ⟨some 62, .indexAddr 109 (.tmp 60) (.tmp 61),0, "law.go:48",#[⟨9, .data⟩,⟨10, .data⟩,⟨7, .guard⟩],some (7,false)⟩ ?_ ?_ ?_
       rotate_left
       · (intro w h; (try dsimp only at h); go_simp); (try with_reducible rfl)
       try simp only [lpq]
       refine tkq 12 ⟨some 63, .load 9 (.tmp 62),9, "law.go:48",#[⟨11, .data⟩,⟨7, .guard⟩],some (7,false)⟩ ?_ ?_ ?_
       rotate_left
       · (intro w h; (try dsimp only at h); go_simp); (try with_reducible rfl)
       try simp only [lpq]
       refine tkq 14 ⟨some 65, .fieldAddr 141 (.tmp 7) 2,0, "law.go:48",#[⟨7, .guard⟩],some (7,false)⟩ ?_ ?_ ?_
       rotate_left
       · (intro w h; (try dsimp only at h); go_simp); (try with_reducible rfl)
       try simp only [lpq]
       refine tkq 15 ⟨some 66, .load 3 (.tmp 65),3, "law.go:48",#[⟨14, .data⟩,⟨7, .guard⟩],some (7,false)⟩ ?_ ?_ ?_
       rotate_left
       · (intro w h; (try dsimp only at h); go_simp); (try with_reducible rfl)
       try simp only [lpq]
       refine wpAnyH_ready (rs := [13]) (by kernel_rfl) (by simp) ?_
       refine AllReadyH.cons rfl (fun K hK => ?_) AllReadyH.nil
       go_simp
       refine (hSafe _ (by repeat (first | exact blq | apply Below.drew))).mono ?_
       rintro e w6 ⟨rfl,hb6⟩
       have s0 := (hb6.cell (p := ⟨wr.heap.size,0,none⟩) hs1).trans b0
       have s1 := (hb6.cell (p := ⟨wr.heap.size,1,none⟩) hs1).trans b1
       have s2 := (hb6.cell (p := ⟨wr.heap.size,2,none⟩) hs1).trans b2
       have s4 := (hb6.cell (p := ⟨w.heap.size,4,none⟩) hs2).trans p4
       have s5 := (hb6.cell (p := ⟨g1,off1 + k,none⟩) hg2).trans n5
       refine hK.out _ _ ⟨s5,⟨s0,s1,s2⟩,s4,hcv w6 hb6⟩ (fun hHeld6 => ?_)
       clear hK K hHeld
       try simp only [lpq]
       refine tkq 16 ⟨some 67, .binOp .neq 3 (.tmp 64) (.tmp 66) 3,4, "law.go:48",#[⟨13, .data⟩,⟨15, .data⟩,⟨7, .guard⟩],some (7,false)⟩ ?_ ?_ ?_
       rotate_left
       · (intro w h; (try dsimp only at h); go_simp); (try with_reducible rfl)
       try simp only [lpq]
       refine tkq 17 ⟨some 68, .pick (.tmp 58) (.const (.bool true)) (.tmp 67),4, "law.go:48",#[⟨7, .data⟩,⟨16, .data⟩],none⟩ ?_ ?_ ?_
       rotate_left
       · (intro w h; (try dsimp only at h); go_simp); (try with_reducible rfl)
       try simp only [lpq]
       refine tkq 18 ⟨some 69, .move (.tmp 68),4, "law.go:48",#[⟨17, .data⟩,⟨13, .chain⟩],none⟩ ?_ ?_ ?_
       rotate_left
       · (intro w h; (try dsimp only at h); go_simp); (try with_reducible rfl)
       try simp only [lpq]
       refine tkq 19 ⟨some 70, .fieldAddr 41 (.tmp 3) 4,0, "law.go:48",#[⟨18, .guard⟩],some (18,false)⟩ ?_ ?_ ?_
       rotate_left
       · (intro w h; (try dsimp only at h); go_simp); (try with_reducible rfl)
       try simp only [lpq]
       refine tkq 20 ⟨some 71, .load 4 (.tmp 70),4, "law.go:48",#[⟨19, .data⟩,⟨18, .guard⟩],some (18,false)⟩ ?_ ?_ ?_
       rotate_left
       · (intro w h; (try dsimp only at h); go_simp); (try with_reducible rfl)
       try simp only [lpq]
       refine tkq 21 ⟨some 72, .move (.tmp 71),4, "law.go:48",#[⟨20, .data⟩,⟨18, .chain⟩,⟨18, .guard⟩],some (18,false)⟩ ?_ ?_ ?_
       rotate_left
       · (intro w h; (try dsimp only at h); go_simp); (try with_reducible rfl)
       try simp only [lpq]
       refine tuq 22 ⟨some 73, .move (.tmp 9),27, "law.go:48",#[⟨21, .guard⟩],some (21,true)⟩ ?_
       try simp only [lpq]
       refine tuq 23 ⟨some 74, .binOp .neq 27 (.tmp 73) (.const (.int .i64 5)) 27,4, "law.go:48",#[⟨22, .data⟩,⟨21, .guard⟩],some (21,true)⟩ ?_
       try simp only [lpq]
       refine tuq 24 ⟨some 75, .move (.tmp 74),4, "law.go:48",#[⟨23, .data⟩,⟨21, .chain⟩,⟨21, .guard⟩],some (21,true)⟩ ?_
       try simp only [lpq]
       refine tuq 25 ⟨some 76, .move (.tmp 8),33, "law.go:48",#[⟨24, .guard⟩],some (24,false)⟩ ?_
       try simp only [lpq]
       refine tuq 26 ⟨some 77, .call ⟨.builtin .len,#[.tmp 76],#[33]⟩,3, "law.go:48",#[⟨25, .data⟩,⟨24, .guard⟩],some (24,false)⟩ ?_
       try simp only [lpq]
       refine tuq 27 ⟨some 78, .binOp .neq 3 (.tmp 77) (.const (.int .i64 0)) 3,4, "law.go:48",#[⟨26, .data⟩,⟨24, .guard⟩],some (24,false)⟩ ?_
       try simp only [lpq]
       refine tuq 28 ⟨some 79, .pick (.tmp 75) (.const (.bool true)) (.tmp 78),4, "law.go:48",#[⟨24, .data⟩,⟨27, .data⟩,⟨21, .guard⟩],some (21,true)⟩ ?_
       try simp only [lpq]
       refine tkq 29 ⟨some 80, .pick (.tmp 72) (.tmp 79) (.const (.bool false)),4, "law.go:48",#[⟨21, .data⟩,⟨28, .data⟩,⟨18, .guard⟩],some (18,false)⟩ ?_ ?_ ?_
       rotate_left
       · (intro w h; (try dsimp only at h); go_simp); (try with_reducible rfl)
       try simp only [lpq]
       refine tkq 30 ⟨some 81, .pick (.tmp 69) (.const (.bool true)) (.tmp 80),4, "law.go:48",#[⟨18, .data⟩,⟨29, .data⟩],none⟩ ?_ ?_ ?_
       rotate_left
       · (intro w h; (try dsimp only at h); go_simp); (try with_reducible rfl)
       try simp only [lpq]
       refine tkq 31 ⟨some 82, .move (.tmp 81),4, "law.go:48",#[⟨30, .data⟩,⟨24, .chain⟩],none⟩ ?_ ?_ ?_
       rotate_left
       · (intro w h; (try dsimp only at h); go_simp); (try with_reducible rfl)
       try simp only [lpq]
       refine tkq 32 ⟨some 83, .fieldAddr 41 (.tmp 3) 4,0, "law.go:48",#[⟨31, .guard⟩],some (31,false)⟩ ?_ ?_ ?_
       rotate_left
       · (intro w h; (try dsimp only at h); go_simp); (try with_reducible rfl)
       try simp only [lpq]
       refine tkq 33 ⟨some 84, .load 4 (.tmp 83),4, "law.go:48",#[⟨32, .data⟩,⟨31, .guard⟩],some (31,false)⟩ ?_ ?_ ?_
       rotate_left
       · (intro w h; (try dsimp only at h); go_simp); (try with_reducible rfl)
       try simp only [lpq]
       refine tkq 34 ⟨some 85, .unOp .not 4 (.tmp 84),4, "law.go:48",#[⟨33, .data⟩,⟨31, .guard⟩],some (31,false)⟩ ?_ ?_ ?_
       rotate_left
       · (intro w h; (try dsimp only at h); go_simp); (try with_reducible rfl)
       try simp only [lpq]
       refine tkq 35 ⟨some 86, .move (.tmp 85),4, "law.go:48",#[⟨34, .data⟩,⟨31, .chain⟩,⟨31, .guard⟩],some (31,false)⟩ ?_ ?_ ?_
       rotate_left
       · (intro w h; (try dsimp only at h); go_simp); (try with_reducible rfl)
       try simp only [lpq]
       refine tkq 36 ⟨some 87, .move (.tmp 9),27, "law.go:48",#[⟨35, .guard⟩],some (35,true)⟩ ?_ ?_ ?_
       rotate_left
       · (intro w h; (try dsimp only at h); go_simp); (try with_reducible rfl)
       try simp only [lpq]
       refine tkq 37 ⟨some 88, .binOp .neq 27 (.tmp 87) (.const (.int .i64 0)) 27,4, "law.go:48",#[⟨36, .data⟩,⟨35, .guard⟩],some (35,true)⟩ ?_ ?_ ?_
       rotate_left
       · (intro w h; (try dsimp only at h); go_simp); (try with_reducible rfl)
       try simp only [lpq]
       refine tkq 38 ⟨some 89, .move (.tmp 88),4, "law.go:48",#[⟨37, .data⟩,⟨35, .chain⟩,⟨35, .guard⟩],some (35,true)⟩ ?_ ?_ ?_
       rotate_left
       · (intro w h; (try dsimp only at h); go_simp); (try with_reducible rfl)
       try simp only [lpq]
       refine tkq 39 ⟨some 90, .move (.tmp 8),33, "law.go:48",#[⟨38, .guard⟩],some (38,false)⟩ ?_ ?_ ?_
       rotate_left
       · (intro w h; (try dsimp only at h); go_simp); (try with_reducible rfl)
       try simp only [lpq]
       refine tkq 40 ⟨some 91, .convert 33 9 (.tmp 90),9, "law.go:48",#[⟨39, .data⟩,⟨38, .guard⟩],some (38,false)⟩ ?_ ?_ ?_
       rotate_left
       · (intro w h; (try dsimp only at h); go_simp); (try with_reducible rfl)
       try simp only [lpq]
       refine tkq 41 ⟨some 92, .fieldAddr 141 (.tmp 7) 1,0, "law.go:48",#[⟨38, .guard⟩],some (38,false)⟩ ?_ ?_ ?_
       rotate_left
       · (intro w h; (try dsimp only at h); go_simp); (try with_reducible rfl)
       try simp only [lpq]
       refine tkq 42 ⟨some 93, .load 9 (.tmp 92),9, "law.go:48",#[⟨41, .data⟩,⟨38, .guard⟩],some (38,false)⟩ ?_ ?_ ?_
       rotate_left
       · (intro w h; (try dsimp only at h); go_simp); (try with_reducible rfl)
       try simp only [lpq]
       refine tkq 43 ⟨some 94, .binOp .neq 9 (.tmp 91) (.tmp 93) 9,4, "law.go:48",#[⟨40, .data⟩,⟨42, .data⟩,⟨38, .guard⟩],some (38,false)⟩ ?_ ?_ ?_
       rotate_left
       · (intro w h; (try dsimp only at h); go_simp); (try with_reducible rfl)
       try simp only [lpq]
       refine tkq 44 ⟨some 95, .pick (.tmp 89) (.const (.bool true)) (.tmp 94),4, "law.go:48",#[⟨38, .data⟩,⟨43, .data⟩,⟨35, .guard⟩],some (35,true)⟩ ?_ ?_ ?_
       rotate_left
       · (intro w h; (try dsimp only at h); go_simp); (try with_reducible rfl)
       try simp only [lpq]
       refine tkq 45 ⟨some 96, .pick (.tmp 86) (.tmp 95) (.const (.bool false)),4, "law.go:48",#[⟨35, .data⟩,⟨44, .data⟩,⟨31, .guard⟩],some (31,false)⟩ ?_ ?_ ?_
       rotate_left
       · (intro w h; (try dsimp only at h); go_simp); (try with_reducible rfl)
       try simp only [lpq]
       refine tkq 46 ⟨some 97, .pick (.tmp 82) (.const (.bool true)) (.tmp 96),4, "law.go:48",#[⟨31, .data⟩,⟨45, .data⟩],none⟩ ?_ ?_ ?_
       rotate_left
       · (intro w h; (try dsimp only at h); go_simp); (try with_reducible rfl)
       try simp only [lpq]
       refine wpAnyH_done (by kernel_rfl) ?_ _
       go_wp2
       go_roundg (gk - 1)
       case measure => omega
       case rel => exact ⟨k + 1,by go_num,by omega,HS7.out _ hb6⟩
   · obtain rfl : k = l.length := by omega
     have hdec : decide ((l.length : Int) < (l.length : Int)) = false := decide_eq_false (by omega)
     have HF : Hid (Alike O wr d A cap ⟨room,l,set,n,lost⟩ Z) := ⟨⟨O.out hS.al.dk (fun q hq => .inl (hS.zz q hq)),hgood,fun q hq => hS.al.lt q (hS.zz q hq),hS.al.rf,HH.out.rz⟩⟩
     have HK := Lib.hid hS.kp
     clear hS
     go_wp2
     go_ret
     exact ⟨rfl,HF.out,HK.out⟩
end Go.Proofs.YtmeoooojmhhahaaGreat
