/- The document's Reset of a log, by its contract. (Written by mkrefe.py.) -/
import Derived.Test.YtmeoooojmhhahaaGreatTVauR1
import Derived.Test.YtmeoooojmhhahaaGreatTVauM
set_option linter.unusedVariables false
set_option linter.unusedSimpArgs false
set_option maxRecDepth 100000
set_option maxHeartbeats 16000000
namespace Go.Proofs.YtmeoooojmhhahaaGreat
open Go.RowKit
theorem Good.gone {D : Dsk} (h : Good D) (name : ByteArray) : Good (D.gone name).1 := h.remove name
theorem Good.wrote {D : Dsk} (h : Good D) (name b : ByteArray) : Good (D.wrote name b).1 := by
 unfold Dsk.wrote
 split
 · exact h.append _ _
 · exact (h.append _ _).sync _
structure qa6 (w W : World) (B : Nat) (A : Option Addr) (cap : Nat) (l : List Fil) (A' : Option Addr) (cap' : Nat) (D' : Dsk) (nm : ByteArray) (n' : Int) : Prop where
 m0 : W.heap[w.heap.size]? = some (.cells (logC A' cap' D' nm n') 43)
 m1 : W.heap[w.heap.size + 1]? = some (.cells qay 43)
 got : GotB w B A cap l W A' cap' D'.l
 lo : w.heap.size + 2 <= B
 hi : B <= W.heap.size
section
variable {w W w2 : World} {B : Nat} {A A1 A2 : Option Addr} {cap cap1 cap2 : Nat} {l : List Fil} {D1 D2 : Dsk} {nm : ByteArray} {n1 : Int}
theorem qa6.call (h : qa6 w W B A cap l A1 cap1 D1 nm n1) (hg : Got W A1 cap1 D1.l w2 A2 cap2 D2.l) :
 w2.heap[w.heap.size]? = some (.cells (logC A1 cap1 D1 nm n1) 43) /\ w2.heap[w.heap.size + 1]? = some (.cells qay 43) /\ w.heap.size + 1 < w2.heap.size /\ w.heap.size < w2.heap.size := by
 have h1 := h.lo
 have h2 := h.hi
 have h3 := hg.1.size
 exact ⟨(hg.1.block _ (by omega)).trans h.m0,(hg.1.block _ (by omega)).trans h.m1,by omega,by omega⟩
theorem qa6.stored (h : qa6 w W B A cap l A1 cap1 D1 nm n1) (hg : Got W A1 cap1 D1.l w2 A2 cap2 D2.l) (n2 : Int) :
 qa6 w (((((((w2.setCell ⟨w.heap.size,0,none⟩ (.int .i64 D2.room)).setCell ⟨w.heap.size,1,none⟩ (.slice A2 D2.l.length cap2)).setCell ⟨w.heap.size,2,none⟩ (.bool D2.set)).setCell ⟨w.heap.size,3,none⟩ (.int .i64 D2.n)).setCell ⟨w.heap.size,4,none⟩ (.bool D2.lost)).setCell ⟨w.heap.size,5,none⟩ (.string nm)).setCell ⟨w.heap.size,6,none⟩ (.int .i64 n2)) B A cap l A2 cap2 D2 nm n2 := by
 obtain ⟨c0,c1,c2,c3⟩ := h.call hg
 have h1 := h.lo
 have h2 := h.hi
 have h3 := hg.1.size
 exact ⟨qaH _ _ _ _ _ _ _ _ _ _ _ _ _ _ _ _ _ c0,(qap _ (by omega) _ _ _ _ _ _ _).trans c1,(h.got.next hg h2).set7 nlq (by omega) _ _ _ _ _ _ _,h1,by simp [World.setCell]; omega⟩
theorem qa6.disk (h : qa6 w W B A cap l A1 cap1 D1 nm n1) (hg : Got W A1 cap1 D1.l w2 A2 cap2 D2.l) :
 qa6 w (((((w2.setCell ⟨w.heap.size,0,none⟩ (.int .i64 D2.room)).setCell ⟨w.heap.size,1,none⟩ (.slice A2 D2.l.length cap2)).setCell ⟨w.heap.size,2,none⟩ (.bool D2.set)).setCell ⟨w.heap.size,3,none⟩ (.int .i64 D2.n)).setCell ⟨w.heap.size,4,none⟩ (.bool D2.lost)) B A cap l A2 cap2 D2 nm n1 := by
 obtain ⟨c0,c1,c2,c3⟩ := h.call hg
 have h1 := h.lo
 have h2 := h.hi
 have h3 := hg.1.size
 exact ⟨qfA _ _ _ _ _ _ _ _ _ _ _ _ _ _ _ c0,(qf _ (by omega) _ _ _ _ _).trans c1,(h.got.next hg h2).set5 nlq (by omega) _ _ _ _ _,h1,by simp [World.setCell]; omega⟩
theorem qa6.count (h : qa6 w W B A cap l A1 cap1 D1 nm n1) (n2 : Int) : qa6 w (W.setCell ⟨w.heap.size,6,none⟩ (.int .i64 n2)) B A cap l A1 cap1 D1 nm n2 := by
 have h1 := h.lo
 have h2 := h.hi
 exact ⟨setCell_at W ⟨w.heap.size,6,none⟩ _ _ _ _ rfl h.m0,(Below.heap_setCell _ _ _ _ (by show w.heap.size + 1 ≠ w.heap.size; omega)).trans h.m1,h.got.set1 nlq (by omega) _ _,h1,by simp [World.setCell]; omega⟩
theorem qa6.answer (h : qa6 w W B A cap l A1 cap1 D1 nm n1) (a b c d e f g : Value) :
 (((((((W.setCell ⟨w.heap.size + 1,0,none⟩ a).setCell ⟨w.heap.size + 1,1,none⟩ b).setCell ⟨w.heap.size + 1,2,none⟩ c).setCell ⟨w.heap.size + 1,3,none⟩ d).setCell ⟨w.heap.size + 1,4,none⟩ e).setCell ⟨w.heap.size + 1,5,none⟩ f).setCell ⟨w.heap.size + 1,6,none⟩ g).heap[w.heap.size + 1]? = some (.cells #[a,b,c,d,e,f,g] 43) /\ Got w A cap l (((((((W.setCell ⟨w.heap.size + 1,0,none⟩ a).setCell ⟨w.heap.size + 1,1,none⟩ b).setCell ⟨w.heap.size + 1,2,none⟩ c).setCell ⟨w.heap.size + 1,3,none⟩ d).setCell ⟨w.heap.size + 1,4,none⟩ e).setCell ⟨w.heap.size + 1,5,none⟩ f).setCell ⟨w.heap.size + 1,6,none⟩ g) A1 cap1 D1.l := by
 have h1 := h.lo
 have h2 := h.hi
 exact ⟨qaH _ _ _ _ _ _ _ _ _ _ _ _ _ _ _ _ _ h.m1,(h.got.set7 (by omega) (by omega) _ _ _ _ _ _ _).got (by omega)⟩
end
def Dsk.resetS (D : Dsk) (nm : ByteArray) (ts : List ByteArray) : Dsk × Nat := if fitS ts = true then D.replaced nm ⟨(qak ts).toArray⟩ else (D,3)
theorem qfC (A : Option Addr) (cap : Nat) (D : Dsk) (nm : ByteArray) (n : Int) (E : Option Addr) (len ecap : Nat) (ts : List ByteArray) (w : World) (h : RF w A cap D.l) (hG : Good D) (hS : Strs w E len ecap ts) (hm : len <= 100000) (hnm : nm.size <= 1000) :
 Calls Tryz.prog 47 #[logV A cap D nm n, .slice E len ecap] w fun e w' => ∃ A' cap',e = .returned (.tuple #[logV A' cap' (D.resetS nm ts).1 nm (cnt (D.resetS nm ts) n (len : Int)), .int .i64 (((D.resetS nm ts).2 : Nat) : Int)]) /\ Got w A cap D.l w' A' cap' (D.resetS nm ts).1.l := by
 obtain ⟨hbW,hm0,hm1,hsW⟩ := qfB w (logC A cap D nm n) qay 43
 have hF := qev E len ecap ts _ (hS.below hbW nlq) hm
 have hlen := hS.1
 have hdef : Hid (D.resetS nm ts = if fitS ts = true then D.replaced nm ⟨(qak ts).toArray⟩ else (D,3)) := ⟨rfl⟩
 have hcat : ¬ ((9223372036854775807 : Nat) < nm.size + (⟨#[43]⟩ : ByteArray).size) := by
  have : (⟨#[43]⟩ : ByteArray).size = 1 := rfl
  omega
 have hcat1 : ¬ ((9223372036854775807 : Nat) < nm.size + 1) := by omega
 generalize hW : (w.alloc (.cells (logC A cap D nm n) 43)).alloc (.cells qay 43) = W at *
 have HW := Lib.hid hW
 clear hW hS
 go_enter Tryz.func47,Tryz.ntmps47
 go_wp2_with fail
 rw [HW.out]
 refine hF.mono ?_
 rintro e w1 ⟨T,rfl,hT,hb1⟩
 have hs1 : W.heap.size <= w1.heap.size := hb1.size
 have hbw : Below w.heap.size w w1 := hbW.trans (hb1.mono hbW.size)
 have h1 : qa6 w w1 w1.heap.size A cap D.l A cap D nm n := ⟨(hb1.block _ (by omega)).trans hm0,(hb1.block _ (by omega)).trans hm1,⟨hbw, .inl ⟨rfl,rfl,rfl⟩⟩,by omega,nlq⟩
 clear hbW hb1 hF HW hm0 hm1
 obtain ⟨⟨a0,a1,a2,a3,a4,a5,a6⟩,⟨b0,b1,b2,b3,b4,b5,b6⟩⟩ := row7 h1.m0
 obtain ⟨⟨c0,c1,c2,c3,c4,c5,c6⟩,⟨d0,d1,d2,d3,d4,d5,d6⟩⟩ := row7 h1.m1
 have hz0 : w.heap.size < w1.heap.size := by omega
 have hz1 : w.heap.size + 1 < w1.heap.size := by omega
 cases hfit : fitS ts with
 | false =>
   rw [hfit,if_neg (by simp)] at hdef
   clear hT hG
   have HL := Lib.hid h1
   go_wp2
   refine bodyPost_ret (qa (n := w.heap.size + 1) rfl rfl (HL.out.answer _ _ _ _ _ _ _).1 Tryz.underlying43 rfl (by kernel_rfl)) rfl ?_
   rw [hdef.out]
   exact ⟨A,cap,rfl,(HL.out.answer _ _ _ _ _ _ _).2⟩
 | true =>
   have hT := hT hfit
   have hTe : T = ⟨(qak ts).toArray⟩ := qcl hT
   rw [hfit,if_pos rfl,<- hTe] at hdef
   have hTl := congrArg List.length hT
   rw [qC] at hTl
   have hT2 : (qak ts).length <= ts.length * 60008 := qew ts hfit
   have hT0 : T.size = 0 ↔ len = 0 := by
    constructor
    · intro e
      cases ts with
      | nil => rw [<- hlen]; rfl
      | cons s ts =>
        have e2 : qak (s :: ts) = frameL (btl s) ++ qak ts := rfl
        rw [e2,List.length_append,qu] at hTl
        omega
    · intro e
      obtain rfl : ts = [] := List.length_eq_zero_iff.1 (by omega)
      rw [hTl]; rfl
   have hG1 := qgq A cap D nm n (next nm) w1 (h.below hbw nlq) (by have := hG.len; omega) (by have := hG.n; omega)
   have hg1 := hG.gone (next nm)
   unfold Dsk.replaced at hdef
   generalize D.gone (next nm) = r1 at *
   obtain ⟨D1,e1⟩ := r1
   dsimp only at *
   clear hT hTe hfit
   go_wp2_with fail
   refine hG1.mono ?_
   rintro e w2 ⟨A1,cap1,rfl,hg⟩
   have h2 := h1.stored hg n
   obtain ⟨k0,k1,hz1,hz0⟩ := h1.call hg
   clear a0 a1 a2 a3 a4 a5 a6 b0 b1 b2 b3 b4 b5 b6 c0 c1 c2 c3 c4 c5 c6 d0 d1 d2 d3 d4 d5 d6
   obtain ⟨_,⟨b0,b1,b2,b3,b4,b5,b6⟩⟩ := row7 k0
   clear k0 k1 hg hG1 h1
   go_upto_region 5 with fail
   clear b0 b1 b2 b3 b4 b5 b6 hz1 hz0
   generalize (((((((w2.setCell ⟨w.heap.size,0,none⟩ (.int .i64 D1.room)).setCell ⟨w.heap.size,1,none⟩ (.slice A1 D1.l.length cap1)).setCell ⟨w.heap.size,2,none⟩ (.bool D1.set)).setCell ⟨w.heap.size,3,none⟩ (.int .i64 D1.n)).setCell ⟨w.heap.size,4,none⟩ (.bool D1.lost)).setCell ⟨w.heap.size,5,none⟩ (.string nm)).setCell ⟨w.heap.size,6,none⟩ (.int .i64 n)) = W2 at *
   obtain ⟨⟨a0,a1,a2,a3,a4,a5,a6⟩,⟨b0,b1,b2,b3,b4,b5,b6⟩⟩ := row7 h2.m0
   obtain ⟨⟨c0,c1,c2,c3,c4,c5,c6⟩,⟨d0,d1,d2,d3,d4,d5,d6⟩⟩ := row7 h2.m1
   by_cases he1 : e1 = 0
   · subst he1
     rw [if_neg (by simp)] at hdef
     by_cases h0 : len = 0
     · rw [if_pos (hT0.2 h0)] at hdef
       subst h0
       have hG2 := qgq A1 cap1 D1 nm n nm W2 (h2.got.rf h) (by have := hg1.len; omega) (by have := hg1.n; omega)
       generalize D1.gone nm = r2 at *
       obtain ⟨D2,e2⟩ := r2
       dsimp only at *
       go_wp2_with fail
       refine hG2.mono ?_
       rintro e w3 ⟨A2,cap2,rfl,hg⟩
       have h3 := h2.stored hg n
       obtain ⟨k0,k1,hz1,hz0⟩ := h2.call hg
       clear a0 a1 a2 a3 a4 a5 a6 b0 b1 b2 b3 b4 b5 b6 c0 c1 c2 c3 c4 c5 c6 d0 d1 d2 d3 d4 d5 d6
       obtain ⟨_,⟨b0,b1,b2,b3,b4,b5,b6⟩⟩ := row7 k0
       clear k0 k1 hg hG2 h2
       go_upto_region 7 with fail
       clear b0 b1 b2 b3 b4 b5 b6 hz1 hz0
       generalize (((((((w3.setCell ⟨w.heap.size,0,none⟩ (.int .i64 D2.room)).setCell ⟨w.heap.size,1,none⟩ (.slice A2 D2.l.length cap2)).setCell ⟨w.heap.size,2,none⟩ (.bool D2.set)).setCell ⟨w.heap.size,3,none⟩ (.int .i64 D2.n)).setCell ⟨w.heap.size,4,none⟩ (.bool D2.lost)).setCell ⟨w.heap.size,5,none⟩ (.string nm)).setCell ⟨w.heap.size,6,none⟩ (.int .i64 n)) = W3 at *
       obtain ⟨⟨a0,a1,a2,a3,a4,a5,a6⟩,⟨b0,b1,b2,b3,b4,b5,b6⟩⟩ := row7 h3.m0
       obtain ⟨⟨c0,c1,c2,c3,c4,c5,c6⟩,⟨d0,d1,d2,d3,d4,d5,d6⟩⟩ := row7 h3.m1
       by_cases he2 : e2 = 0
       · subst he2
         have HL := Lib.hid (h3.count ((0 : Nat) : Int))
         go_wp2
         refine bodyPost_ret (qa (n := w.heap.size + 1) rfl rfl (HL.out.answer _ _ _ _ _ _ _).1 Tryz.underlying43 rfl (by kernel_rfl)) rfl ?_
         rw [hdef.out]
         exact ⟨A2,cap2,rfl,(HL.out.answer _ _ _ _ _ _ _).2⟩
       · skip
         have e20 : ((e2 : Int) == 0) = false := by simp; omega
         have HC := Lib.hid (show cnt (D2,e2) n ((0 : Nat) : Int) = n from if_neg he2)
         have HL := Lib.hid h3
         go_wp2
         refine bodyPost_ret (qa (n := w.heap.size + 1) rfl rfl (HL.out.answer _ _ _ _ _ _ _).1 Tryz.underlying43 rfl (by kernel_rfl)) rfl ?_
         rw [hdef.out,HC.out]
         exact ⟨A2,cap2,rfl,(HL.out.answer _ _ _ _ _ _ _).2⟩
     · rw [if_neg fun e => h0 (hT0.1 e)] at hdef
       have hlp : ((len : Int) == 0) = false := by simp; omega
       have hlp2 : decide ((len : Int) > 0) = true := by simp; omega
       have hlp3 : (0 : Int) < (len : Int) := by omega
       have hP := qhD A1 cap1 D1 nm n (next nm) T W2 (h2.got.rf h) hg1 (by omega)
       have hg2 := hg1.wrote (next nm) T
       generalize D1.wrote (next nm) T = r2 at *
       obtain ⟨D2,e2⟩ := r2
       dsimp only at *
       go_wp2_with fail
       refine hP.mono ?_
       rintro e w3 ⟨A2,cap2,rfl,hg⟩
       have h3 := h2.stored hg n
       obtain ⟨k0,k1,hz1,hz0⟩ := h2.call hg
       clear a0 a1 a2 a3 a4 a5 a6 b0 b1 b2 b3 b4 b5 b6 c0 c1 c2 c3 c4 c5 c6 d0 d1 d2 d3 d4 d5 d6
       obtain ⟨_,⟨b0,b1,b2,b3,b4,b5,b6⟩⟩ := row7 k0
       clear k0 k1 hg hP h2
       go_upto_region 9 with fail
       clear b0 b1 b2 b3 b4 b5 b6 hz1 hz0
       generalize (((((((w3.setCell ⟨w.heap.size,0,none⟩ (.int .i64 D2.room)).setCell ⟨w.heap.size,1,none⟩ (.slice A2 D2.l.length cap2)).setCell ⟨w.heap.size,2,none⟩ (.bool D2.set)).setCell ⟨w.heap.size,3,none⟩ (.int .i64 D2.n)).setCell ⟨w.heap.size,4,none⟩ (.bool D2.lost)).setCell ⟨w.heap.size,5,none⟩ (.string nm)).setCell ⟨w.heap.size,6,none⟩ (.int .i64 n)) = W3 at *
       obtain ⟨⟨a0,a1,a2,a3,a4,a5,a6⟩,⟨b0,b1,b2,b3,b4,b5,b6⟩⟩ := row7 h3.m0
       obtain ⟨⟨c0,c1,c2,c3,c4,c5,c6⟩,⟨d0,d1,d2,d3,d4,d5,d6⟩⟩ := row7 h3.m1
       by_cases he2 : e2 = 0
       · subst he2
         rw [if_neg (by simp)] at hdef
         have hR := qc4 A2 cap2 D2 (next nm) nm W3 (h3.got.rf h) (by have := hg2.len; omega) (by have := hg2.n; omega)
         generalize D2.rename (next nm) nm = r3 at *
         obtain ⟨D3,e3⟩ := r3
         dsimp only at *
         go_wp2_with fail
         refine hR.mono ?_
         rintro e w4 ⟨A3,cap3,rfl,hg⟩
         have h4 := h3.disk hg
         obtain ⟨k0,k1,hz1,hz0⟩ := h3.call hg
         clear a0 a1 a2 a3 a4 a5 a6 b0 b1 b2 b3 b4 b5 b6 c0 c1 c2 c3 c4 c5 c6 d0 d1 d2 d3 d4 d5 d6
         obtain ⟨_,⟨b0,b1,b2,b3,b4,b5,b6⟩⟩ := row7 k0
         clear k0 k1 hg hR h3
         go_upto_region 11 with fail
         clear b0 b1 b2 b3 b4 b5 b6 hz1 hz0
         generalize (((((w4.setCell ⟨w.heap.size,0,none⟩ (.int .i64 D3.room)).setCell ⟨w.heap.size,1,none⟩ (.slice A3 D3.l.length cap3)).setCell ⟨w.heap.size,2,none⟩ (.bool D3.set)).setCell ⟨w.heap.size,3,none⟩ (.int .i64 D3.n)).setCell ⟨w.heap.size,4,none⟩ (.bool D3.lost)) = W4 at *
         obtain ⟨⟨a0,a1,a2,a3,a4,a5,a6⟩,⟨b0,b1,b2,b3,b4,b5,b6⟩⟩ := row7 h4.m0
         obtain ⟨⟨c0,c1,c2,c3,c4,c5,c6⟩,⟨d0,d1,d2,d3,d4,d5,d6⟩⟩ := row7 h4.m1
         by_cases he3 : e3 = 0
         · subst he3
           have HL := Lib.hid (h4.count (len : Int))
           go_wp2
           refine bodyPost_ret (qa (n := w.heap.size + 1) rfl rfl (HL.out.answer _ _ _ _ _ _ _).1 Tryz.underlying43 rfl (by kernel_rfl)) rfl ?_
           rw [hdef.out]
           exact ⟨A3,cap3,rfl,(HL.out.answer _ _ _ _ _ _ _).2⟩
         · skip
           have e30 : ((e3 : Int) == 0) = false := by simp; omega
           have HC := Lib.hid (show cnt (D3,e3) n (len : Int) = n from if_neg he3)
           have HL := Lib.hid h4
           go_wp2
           refine bodyPost_ret (qa (n := w.heap.size + 1) rfl rfl (HL.out.answer _ _ _ _ _ _ _).1 Tryz.underlying43 rfl (by kernel_rfl)) rfl ?_
           rw [hdef.out,HC.out]
           exact ⟨A3,cap3,rfl,(HL.out.answer _ _ _ _ _ _ _).2⟩
       · rw [if_pos he2] at hdef
         have e20 : ((e2 : Int) == 0) = false := by simp; omega
         have HC := Lib.hid (show cnt (D2,e2) n (len : Int) = n from if_neg he2)
         have HL := Lib.hid h3
         go_wp2
         refine bodyPost_ret (qa (n := w.heap.size + 1) rfl rfl (HL.out.answer _ _ _ _ _ _ _).1 Tryz.underlying43 rfl (by kernel_rfl)) rfl ?_
         rw [hdef.out,HC.out]
         exact ⟨A2,cap2,rfl,(HL.out.answer _ _ _ _ _ _ _).2⟩
   · rw [if_pos he1] at hdef
     have e10 : ((e1 : Int) == 0) = false := by simp; omega
     have HC := Lib.hid (show cnt (D1,e1) n (len : Int) = n from if_neg he1)
     have HL := Lib.hid h2
     go_wp2
     refine bodyPost_ret (qa (n := w.heap.size + 1) rfl rfl (HL.out.answer _ _ _ _ _ _ _).1 Tryz.underlying43 rfl (by kernel_rfl)) rfl ?_
     rw [hdef.out,HC.out]
     exact ⟨A1,cap1,rfl,(HL.out.answer _ _ _ _ _ _ _).2⟩
end Go.Proofs.YtmeoooojmhhahaaGreat
namespace Go.Proofs.YtmeoooojmhhahaaGreat
open Go.RowKit
section
variable {P : Program} {fn : Func} {p q u : Tmp} {T : TypeId} {W : World} {n : Nat} {cs : Array Value} {fr : Nat × Nat} {d : TypeDesc} {tmps : Array Value}
theorem qdk (h : fn.results = #[.cell p T, .tmp q, .tmp u]) (tmps : Array Value) (P : Program) (w : World) :
 (results fn tmps).run P w =
   ((asAddr (tmps.getD p undef)).run P w).andThen fun a w₁ => ((loadVar T a).run P w₁).andThen fun v w₂ => .ok (.tuple #[v,tmps.getD q undef,tmps.getD u undef]) w₂ := by
 simp only [results,h]
 simp [Sem.run_bind,Result.andThen]
theorem qJ (h : fn.results = #[.cell p T, .tmp q, .tmp u]) (h1 : tmps.getD p undef = .pointer (some ⟨n,0,none⟩)) (hW : W.heap[n]? = some (.cells cs T fr)) (hu : P.underlying T = some d)
 (hd : (match d with | .struct _ | .array _ _ => true | _ => false) = true) (hi : (P.info? T).map (·.size) = some cs.size) : (results fn tmps).run P W = .ok (.tuple #[.agg cs,tmps.getD q undef,tmps.getD u undef]) W := by
 rw [qdk h,h1]
 simp [asAddr,run_loadVar_row W n T T cs fr d hW hu hd hi]
end
theorem qc8 {w : World} {base : Nat} {T : TypeId} {v : Value} {ts : List ByteArray} (h : w.ownsRow base T 1 v ts.length (ts.map fun p => .string p)) : ∃ E cap,v = .slice E ts.length cap /\ Strs w E ts.length cap ts /\ New base E := by
 rcases h.2 with ⟨e,h0⟩ | ⟨g,cap,cur,e,hb,hg,h1,h2,h3,h4⟩
 · have hn : ts.length = 0 := by simpa using h0
   refine ⟨none,0,by rw [e,hn],⟨rfl,by omega,fun h => absurd h (by omega)⟩,fun a e => by cases e⟩
 · refine ⟨some ⟨g,0,none⟩,cap,e,⟨rfl,h1,fun _ => ⟨g,0,rfl,hlt hg,fun j hj => ?_⟩⟩,fun a e => by cases e; exact hb⟩
   subst e
   have := h.cellAt j (by omega)
   rw [Nat.zero_add,this]
   simp [hj]
theorem Strs.keepN {w w' : World} {A : Option Addr} {len cap : Nat} {ts : List ByteArray} (h : Strs w A len cap ts) {B : Nat} (hn : New B A) (hs : w.heap.size <= w'.heap.size) (hk : ∀ g,B <= g -> g < w.heap.size -> w'.heap[g]? = w.heap[g]?) : Strs w' A len cap ts := by
 refine ⟨h.1,h.2.1,fun h0 => ?_⟩
 obtain ⟨g,off,e,hg,hc⟩ := h.2.2 h0
 exact ⟨g,off,e,Nat.lt_of_lt_of_le hg hs,fun j hj => (World.cell?_of_block (hk g (hn _ e) hg)).trans (hc j hj)⟩
abbrev dskC (A : Option Addr) (cap : Nat) (D : Dsk) : Array Value := #[.int .i64 D.room, .slice A D.l.length cap, .bool D.set, .int .i64 D.n, .bool D.lost]
structure qbO (w W : World) (B : Nat) (A : Option Addr) (cap : Nat) (l : List Fil) (A' : Option Addr) (cap' : Nat) (D' : Dsk) : Prop where
 m0 : W.heap[w.heap.size]? = some (.cells (dskC A' cap' D') 41)
 m1 : W.heap[w.heap.size + 1]? = some (.cells qay 43)
 got : GotB w B A cap l W A' cap' D'.l
 lo : w.heap.size + 2 <= B
 hi : B <= W.heap.size
section
variable {w W w2 : World} {B : Nat} {A A1 A2 : Option Addr} {cap cap1 cap2 : Nat} {l : List Fil} {D1 D2 : Dsk}
theorem qbO.below (h : qbO w W B A cap l A1 cap1 D1) (hb : Below W.heap.size W w2) : qbO w w2 B A cap l A1 cap1 D1 := by
 have h1 := h.lo
 have h2 := h.hi
 exact ⟨(hb.block _ (by omega)).trans h.m0,(hb.block _ (by omega)).trans h.m1,h.got.keep (hb.mono h.got.1.size) (fun g _ hg => hb.block g hg),h1,Nat.le_trans h2 hb.size⟩
theorem qbO.stored (h : qbO w W B A cap l A1 cap1 D1) (hg : Got W A1 cap1 D1.l w2 A2 cap2 D2.l) :
 qbO w (((((w2.setCell ⟨w.heap.size,0,none⟩ (.int .i64 D2.room)).setCell ⟨w.heap.size,1,none⟩ (.slice A2 D2.l.length cap2)).setCell ⟨w.heap.size,2,none⟩ (.bool D2.set)).setCell ⟨w.heap.size,3,none⟩ (.int .i64 D2.n)).setCell ⟨w.heap.size,4,none⟩ (.bool D2.lost)) B A cap l A2 cap2 D2 := by
 have h1 := h.lo
 have h2 := h.hi
 have h3 := hg.1.size
 exact ⟨qw _ _ _ _ _ _ _ _ _ _ _ _ _ ((hg.1.block _ (by omega)).trans h.m0),(qf _ (by omega) _ _ _ _ _).trans ((hg.1.block _ (by omega)).trans h.m1),(h.got.next hg h2).set5 nlq (by omega) _ _ _ _ _,h1,by simp [World.setCell]; omega⟩
theorem qbO.answer (h : qbO w W B A cap l A1 cap1 D1) (a b c d e f g : Value) :
 (((((((W.setCell ⟨w.heap.size + 1,0,none⟩ a).setCell ⟨w.heap.size + 1,1,none⟩ b).setCell ⟨w.heap.size + 1,2,none⟩ c).setCell ⟨w.heap.size + 1,3,none⟩ d).setCell ⟨w.heap.size + 1,4,none⟩ e).setCell ⟨w.heap.size + 1,5,none⟩ f).setCell ⟨w.heap.size + 1,6,none⟩ g).heap[w.heap.size + 1]? = some (.cells #[a,b,c,d,e,f,g] 43) /\ Got w A cap l (((((((W.setCell ⟨w.heap.size + 1,0,none⟩ a).setCell ⟨w.heap.size + 1,1,none⟩ b).setCell ⟨w.heap.size + 1,2,none⟩ c).setCell ⟨w.heap.size + 1,3,none⟩ d).setCell ⟨w.heap.size + 1,4,none⟩ e).setCell ⟨w.heap.size + 1,5,none⟩ f).setCell ⟨w.heap.size + 1,6,none⟩ g) A1 cap1 D1.l := by
 have h1 := h.lo
 have h2 := h.hi
 exact ⟨qaH _ _ _ _ _ _ _ _ _ _ _ _ _ _ _ _ _ h.m1,(h.got.set7 (by omega) (by omega) _ _ _ _ _ _ _).got (by omega)⟩
end
def qcm (w w' : World) (A : Option Addr) (cap : Nat) (D : Dsk) (nm : ByteArray) (e : Ending) : Prop :=
 ∃ A' cap' nm' n' E len ecap ts,e = .returned (.tuple #[logV A' cap' (D.openW nm).1 nm' n', .slice E len ecap, .int .i64 (((D.openW nm).2 : Nat) : Int)]) /\ Got w A cap D.l w' A' cap' (D.openW nm).1.l ∧
  ((D.openW nm).2 = 0 -> nm' = nm /\ n' = (len : Int) /\ Strs w' E len ecap ts /\ ts.map btl = (D.told nm).1 /\ New w.heap.size E)
theorem qkt (A : Option Addr) (cap : Nat) (D : Dsk) (nm : ByteArray) (w : World) (h : RF w A cap D.l) (hG : Good D) (hroom : D.room <= 1000000) (hnm : nm.size <= 11) :
 Calls Tryz.prog 44 #[qD A cap D, .string nm] w fun e w' => qcm w w' A cap D nm e := by
 have hb0 : Below w.heap.size w ((w.alloc (.cells (dskC A cap D) 41)).alloc (.cells qay 43)) := (blq.alloc nlq _).alloc (by simp) _
 have h0 : qbO w ((w.alloc (.cells (dskC A cap D) 41)).alloc (.cells qay 43)) (w.heap.size + 2) A cap D.l A cap D :=
  ⟨heap_alloc2_old _ _ _,heap_alloc2_new _ _ _,⟨hb0, .inl ⟨rfl,rfl,rfl⟩⟩,nlq,by simp⟩
 have hR := qdS A cap D nm _ (h.below hb0 nlq) (by have := hG.len; omega)
 have hsz : (D.read nm).1.size <= 1000000 := by
  have h1 := hG.used
  have h2 := qaF D.l nm
  have h3 := qaT D.l nm
  unfold Dsk.read
  split
  · exact Nat.zero_le _
  · split
    · exact Nat.zero_le _
    · dsimp only; omega
 have hdef : Hid (D.openW nm = if (D.read nm).2 ≠ 0 /\ (D.read nm).2 ≠ 6 then (D,(D.read nm).2) else if (D.told nm).2 < (D.read nm).1.size then D.cut nm ((D.told nm).2 : Int) else (D,0)) := ⟨rfl⟩
 have htold : Hid (D.told nm = qv (btl (D.read nm).1)) := ⟨rfl⟩
 have hend := qcG (btl (D.read nm).1)
 rw [qC] at hend
 generalize hW : (w.alloc (.cells (dskC A cap D) 41)).alloc (.cells qay 43) = W at *
 have HW := Lib.hid hW
 have hC := fun W (hh : RF W A cap D.l) (z : Int) => qhc A cap D nm z W hh (by have := hG.len; omega) (by have := hG.n; omega)
 generalize D.read nm = r at *
 obtain ⟨bb,er⟩ := r
 dsimp only at *
 have hn11 : ((11 : Int) < (nm.size : Int)) = False := eq_false (by omega)
 clear hW hb0 hG hroom
 obtain ⟨⟨a0,a1,a2,a3,a4⟩,⟨b0,b1,b2,b3,b4⟩⟩ := row5 h0.m0
 obtain ⟨⟨c0,c1,c2,c3,c4,c5,c6⟩,⟨d0,d1,d2,d3,d4,d5,d6⟩⟩ := row7 h0.m1
 go_enter Tryz.func44,Tryz.ntmps44
 go_wp2_with fail
 rw [HW.out]
 refine hR.mono ?_
 rintro e w1 ⟨rfl,hb1⟩
 have h1 := h0.below hb1
 clear a0 a1 a2 a3 a4 b0 b1 b2 b3 b4 c0 c1 c2 c3 c4 c5 c6 d0 d1 d2 d3 d4 d5 d6
 clear h0 hb1 hR HW
 obtain ⟨⟨a0,a1,a2,a3,a4⟩,⟨b0,b1,b2,b3,b4⟩⟩ := row5 h1.m0
 obtain ⟨⟨c0,c1,c2,c3,c4,c5,c6⟩,⟨d0,d1,d2,d3,d4,d5,d6⟩⟩ := row7 h1.m1
 go_upto_region 4 with fail
 by_cases hbad : er ≠ 0 /\ er ≠ 6
 · rw [if_pos hbad] at hdef
   have he0 : ((er : Int) != 0) = true := by simp; omega
   have he6 : ((er : Int) != 6) = true := by simp; omega
   have HB := Lib.hid hbad
   have HL := Lib.hid h1
   clear hbad
   go_wp2
   refine bodyPost_ret (qJ (n := w.heap.size + 1) rfl rfl (HL.out.answer _ _ _ _ _ _ _).1 Tryz.underlying43 rfl (by kernel_rfl)) rfl ?_
   unfold qcm
   rw [hdef.out]
   exact ⟨A,cap,_,_,none,0,0,[],rfl,(HL.out.answer _ _ _ _ _ _ _).2,fun e => absurd e HB.out.1⟩
 · rw [if_neg hbad] at hdef
   have hgood : er = 0 \/ er = 6 := by omega
   clear hbad
   rw [htold.out] at hdef
   generalize hsc : qv (btl bb) = sc at *
   obtain ⟨ls,en⟩ := sc
   dsimp only at *
   have hcut := fun W (hh : RF W A cap D.l) => hC W hh (en : Int)
   generalize D.cut nm (en : Int) = rc at *
   obtain ⟨D2,ec⟩ := rc
   dsimp only at *
   have hS := qgp bb hsz
   unfold qcf at hS
   rw [hsc] at hS
   dsimp only at hS
   clear hC hsc hend
   rcases hgood with rfl | rfl
   all_goals
    go_wp2_with fail
    refine (hS _).mono ?_
    rintro e w2 ⟨v,ts,rfl,hrow,hts,hb2⟩
    obtain ⟨E,ecap,rfl,hst,hnew⟩ := qc8 hrow
    have hrw : RF w2 A cap D.l := h1.got.rf h |>.below hb2 nlq
    have h2 := h1.below hb2
    have hlo : w.heap.size + 1 < w1.heap.size := by have := h1.lo; have := h1.hi; omega
    have hlo2 : w.heap.size + 1 < w2.heap.size := by have := hb2.size; omega
    clear a0 a1 a2 a3 a4 b0 b1 b2 b3 b4 c0 c1 c2 c3 c4 c5 c6 d0 d1 d2 d3 d4 d5 d6
    clear hrow hb2 h1
    obtain ⟨⟨a0,a1,a2,a3,a4⟩,⟨b0,b1,b2,b3,b4⟩⟩ := row5 h2.m0
    obtain ⟨⟨c0,c1,c2,c3,c4,c5,c6⟩,⟨d0,d1,d2,d3,d4,d5,d6⟩⟩ := row7 h2.m1
    have HT := Lib.hid hts
    have HN := Lib.hid hnew
    clear hts hnew hS
    by_cases hlt : en < bb.size
    · rw [if_pos hlt] at hdef
      have hlt' : (en : Int) < (bb.size : Int) := by omega
      have hcut2 := hcut w2 hrw
      clear hcut hrw
      go_wp2_with fail
      refine hcut2.mono ?_
      rintro e w3 ⟨A2,cap2,rfl,hg⟩
      have h3 := h2.stored hg
      have hs3 := hg.1.size
      obtain ⟨_,⟨q0,q1,q2,q3,q4⟩⟩ := row5 ((hg.1.block _ (by omega)).trans h2.m0)
      have hst3 := (hst.below hg.1 nlq).keepN (w' := (((((w3.setCell ⟨w.heap.size,0,none⟩ (.int .i64 D2.room)).setCell ⟨w.heap.size,1,none⟩ (.slice A2 D2.l.length cap2)).setCell ⟨w.heap.size,2,none⟩ (.bool D2.set)).setCell ⟨w.heap.size,3,none⟩ (.int .i64 D2.n)).setCell ⟨w.heap.size,4,none⟩ (.bool D2.lost))) HN.out (by simp [World.setCell]) (fun g h1 h2 => qf _ (by omega) _ _ _ _ _)
      clear hst hg h2 hcut2
      clear a0 a1 a2 a3 a4 b0 b1 b2 b3 b4 c0 c1 c2 c3 c4 c5 c6 d0 d1 d2 d3 d4 d5 d6
      have hz : w.heap.size < w3.heap.size := by omega
      go_upto_region 9 with fail
      clear hz hs3 q0 q1 q2 q3 q4
      generalize (((((w3.setCell ⟨w.heap.size,0,none⟩ (.int .i64 D2.room)).setCell ⟨w.heap.size,1,none⟩ (.slice A2 D2.l.length cap2)).setCell ⟨w.heap.size,2,none⟩ (.bool D2.set)).setCell ⟨w.heap.size,3,none⟩ (.int .i64 D2.n)).setCell ⟨w.heap.size,4,none⟩ (.bool D2.lost)) = W3 at *
      obtain ⟨⟨a0,a1,a2,a3,a4⟩,⟨b0,b1,b2,b3,b4⟩⟩ := row5 h3.m0
      obtain ⟨⟨c0,c1,c2,c3,c4,c5,c6⟩,⟨d0,d1,d2,d3,d4,d5,d6⟩⟩ := row7 h3.m1
      have HL := Lib.hid h3
      have HS := Lib.hid hst3
      clear h3 hst3
      by_cases hec : ec = 0
      · subst hec
        go_wp2
        refine bodyPost_ret (qJ (n := w.heap.size + 1) rfl rfl (HL.out.answer _ _ _ _ _ _ _).1 Tryz.underlying43 rfl (by kernel_rfl)) rfl ?_
        unfold qcm
        rw [hdef.out,htold.out]
        exact ⟨A2,cap2,_,_,E,_,ecap,ts,rfl,(HL.out.answer _ _ _ _ _ _ _).2,fun _ => ⟨rfl,rfl,HS.out.keepN HN.out (by simp [World.setCell]) (fun g h1 h2 => qap _ (by omega) _ _ _ _ _ _ _),HT.out,HN.out.mono (by omega)⟩⟩
      · have hec0 : ((ec : Int) != 0) = true := by simp; omega
        have HC := Lib.hid hec
        clear hec
        go_wp2
        refine bodyPost_ret (qJ (n := w.heap.size + 1) rfl rfl (HL.out.answer _ _ _ _ _ _ _).1 Tryz.underlying43 rfl (by kernel_rfl)) rfl ?_
        unfold qcm
        rw [hdef.out,htold.out]
        exact ⟨A2,cap2,_,_,none,0,0,[],rfl,(HL.out.answer _ _ _ _ _ _ _).2,fun e => absurd e HC.out⟩
    · rw [if_neg hlt] at hdef
      have hlt' : ((en : Int) < (bb.size : Int)) = False := eq_false (by omega)
      have HL := Lib.hid h2
      have HS := Lib.hid hst
      clear hcut hrw h2 hst
      go_wp2
      refine bodyPost_ret (qJ (n := w.heap.size + 1) rfl rfl (HL.out.answer _ _ _ _ _ _ _).1 Tryz.underlying43 rfl (by kernel_rfl)) rfl ?_
      unfold qcm
      rw [hdef.out,htold.out]
      exact ⟨A,cap,_,_,E,_,ecap,ts,rfl,(HL.out.answer _ _ _ _ _ _ _).2,fun _ => ⟨rfl,rfl,HS.out.keepN HN.out (by simp [World.setCell]) (fun g h1 h2 => qap _ (by omega) _ _ _ _ _ _ _),HT.out,HN.out.mono (by omega)⟩⟩
end Go.Proofs.YtmeoooojmhhahaaGreat
namespace Go.Proofs.YtmeoooojmhhahaaGreat
open Go.RowKit
def hardStr (h : Hd) : ByteArray := ⟨(1 :: qaP h.t h.v).toArray⟩
def qB (e : Ent) : ByteArray := ⟨(2 :: qab e.i e.t e.d).toArray⟩
theorem qhF (b : UInt8) (l : List UInt8) : (⟨#[b]⟩ : ByteArray) ++ ⟨l.toArray⟩ = ⟨(b :: l).toArray⟩ := by
 apply qcl
 rw [qef]
 simp [btl]
theorem qfD {h : Hd} (hr : rightH h = true) : btl (hardStr h) = qy h := by
 unfold hardStr qy qaP
 rw [if_pos (show hardB h.t h.v = true from hr)]
 rfl
theorem qku {e : Ent} (hr : rightE e = true) : btl (qB e) = entRec e := by
 unfold qB entRec qab
 rw [if_pos (show rightB e.i e.t e.d.length = true from hr)]
theorem qd2 (h : Hd) (w : World) :
 Calls Tryz.prog 48 #[.agg #[.int .i64 h.t, .int .i64 h.v]] w fun e w' => e = .returned (.string (hardStr h)) /\ Below w.heap.size w w' := by
 have hb : Below w.heap.size w (w.alloc (.cells #[.int .i64 h.t, .int .i64 h.v] 32)) := blq.alloc nlq _
 have hH := fun W => qiK h.t h.v W
 have hl := qeN h.t h.v
 unfold hardStr
 rw [<- qhF]
 generalize qaP h.t h.v = L at *
 have hn : ¬ ((9223372036854775807 : Nat) < (⟨#[1]⟩ : ByteArray).size + (⟨L.toArray⟩ : ByteArray).size) := by
  have : (⟨#[1]⟩ : ByteArray).size = 1 := rfl
  have : (⟨L.toArray⟩ : ByteArray).size = L.length := rfl
  omega
 have hn1 : ¬ ((9223372036854775807 : Nat) < 1 + (⟨L.toArray⟩ : ByteArray).size) := by
  have : (⟨L.toArray⟩ : ByteArray).size = L.length := rfl
  omega
 go_enter Tryz.func48,Tryz.ntmps48
 go_wp2_with fail
 refine (hH _).mono ?_
 rintro e w1 ⟨A',c',rfl,ho,hb1⟩
 have hbw := hb.trans (hb1.mono hb.size)
 have hl1 := qa8 ho
 have ht := hl1.text Tryz.underlying33 Tryz.underlying5 Tryz.underlying9
 clear hH ho hl1 hb hb1
 go_wp2
 go_ret
 exact ⟨rfl,hbw⟩
def qbh (w wr : World) (l : List Ent) (k : Nat) (v : Value) : Prop :=
 wr.ownsRow w.heap.size 9 1 v k (((l.take k).map qB).map fun p => .string p) /\ Below w.heap.size w wr /\ ∃ A cap,v = .slice A k cap
theorem qbb (Z : Nat -> Prop) (A : Option Addr) (len cap : Nat) (l : List Ent) (w : World) (h : Ents w Z A len cap l) (hm : len <= 1000000) (hd : ∀ e ∈ l,e.d.length <= 50000) :
 Calls Tryz.prog 49 #[.slice A len cap] w fun e w' => ∃ v,e = .returned v /\ qbh w w' l len v := by
 have hll := h.1
 have h0 : qbh w w l 0 (.slice none 0 0) := ⟨World.ownsRow_nil _ _ _ _,blq,_,_,rfl⟩
 go_enter Tryz.func49,Tryz.ntmps49
 go_wp2
 go_loopg [3,4,7] len (fun g v x4 i wr => ∃ k,k + g = len /\ i = .int .i64 (k : Int) /\ qbh w wr l k v)
 case atStart => exact ⟨0,by omega,rfl,h0⟩
 case round =>
  clear h0
  obtain ⟨k,hk,rfl,hS⟩ := hrel
  by_cases hlt : k < len
  · have hlt' : (k : Int) < (len : Int) := by omega
    obtain ⟨A0,cap0,rfl⟩ := hS.2.2
    obtain ⟨i0,hi0,hz0,hz1,hz2⟩ := info_parts qdg
    have hsw := hS.2.1.size
    obtain ⟨g,off,E,c,rfl,hg,c0,c1,c2,hle⟩ := (h.below hS.2.1 nlq).at_ k hlt
    have hde := hd _ (List.getElem_mem (show k < l.length by omega))
    have hnx : (l.take (k + 1)).map qB = (l.take k).map qB ++ [qB (l[k]'(by omega))] := by
     rw [List.take_succ_eq_append_getElem (by omega),List.map_append]; rfl
    obtain ⟨x,hx⟩ : ∃ x,x = l[k]'(by omega) := ⟨_,rfl⟩
    rw [<- hx] at c0 c1 c2 hle hde hnx
    have hB := fun W (hW : Below wr.heap.size wr W) => qiI x.i x.t E x.d.length c x.d W (hle.below hW nlq)
    have hes : qB x = (⟨#[2]⟩ : ByteArray) ++ ⟨(qab x.i x.t x.d).toArray⟩ := (qhF 2 _).symm
    have hel : (qab x.i x.t x.d).length <= 20 + x.d.length := qfc
    generalize qab x.i x.t x.d = L at *
    have hn : ¬ ((9223372036854775807 : Nat) < (⟨#[2]⟩ : ByteArray).size + (⟨L.toArray⟩ : ByteArray).size) := by
     have : (⟨#[2]⟩ : ByteArray).size = 1 := rfl
     have : (⟨L.toArray⟩ : ByteArray).size = L.length := rfl
     omega
    have hn1 : ¬ ((9223372036854775807 : Nat) < 1 + (⟨L.toArray⟩ : ByteArray).size) := by
     have : (⟨L.toArray⟩ : ByteArray).size = L.length := rfl
     omega
    have HK := Lib.hid hk
    have HX := Lib.hid hnx
    have HE := Lib.hid hes
    have HS := Lib.hid hS
    clear hk hnx hes hS hx hle
    go_wp2_with fail
    refine (hB _ (by first | exact blq | exact blq.drew)).mono ?_
    rintro e w1 ⟨A',c',rfl,ho,hb1⟩
    have ht := (qa8 ho).text Tryz.underlying33 Tryz.underlying5 Tryz.underlying9
    have hbw : Below wr.heap.size wr w1 := by first | exact hb1 | exact blq.drew.trans hb1
    have hown := qaa HS.out.1 fun g hg => hbw.block g (HS.out.1.lt g hg).2
    have hbl := HS.out.2.1.trans (hbw.mono HS.out.2.1.size)
    have hsw1 := hbl.size
    clear hB ho hb1 c0 c1 c2
    go_wp2_with (first
     | (at_builtin; refine wpList_append_lies _ rfl _ _ 109 rfl w.heap.size 9 i0 _ 1 16 Tryz.underlying109 hi0 hz0 hz1 hz2 rfl (by omega) (.slice A0 k cap0) k _ rfl (hown.alloc _) ⟨w1.heap.size,0,none⟩ 1 1 [.string ((⟨#[2]⟩ : ByteArray) ++ ⟨L.toArray⟩)] rfl rfl (World.news_of_block (heap_alloc_new w1 _)) (by simp [Value.oneCell']) (by omega) (by unfold maxLen; omega) (by omega) (by simp; omega) (w1.heap.size + 1) (by simp) ?_
        intro g2 cap2 w5 ho5 hgr5 hat5 hlt5)
     | fail)
    have hN : qbh w w5 l (k + 1) (.slice (some ⟨g2,0,none⟩) (k + 1) cap2) :=
     ⟨by rw [HX.out,List.map_append,HE.out]; exact ho5,(hbl.alloc hbl.size _).grown hgr5 (by have := hbl.size; simp; omega) (fun q hq => (hown.lt q hq).1),⟨_,_,rfl⟩⟩
    have HN := Lib.hid hN
    clear hN hown hbl ho5 hgr5 hat5 hlt5 hbw
    go_wp2
    go_roundg (gk - 1)
    case measure => have : k + gk = len := HK.out; omega
    case rel => exact ⟨k + 1,(by have : k + gk = len := HK.out; omega),(by go_num),HN.out⟩
  · have hlt' : ¬ ((k : Int) < (len : Int)) := by omega
    obtain rfl : k = len := by omega
    have HS := Lib.hid hS
    clear hS
    go_wp2
    go_ret
    exact ⟨_,rfl,HS.out⟩
end Go.Proofs.YtmeoooojmhhahaaGreat
