/- The document's Keep, by its contract. (Written by mkrefo.py.) -/
import Derived.Test.YtmeoooojmhhahaaGreatTVauRefX
set_option linter.unusedVariables false
set_option linter.unusedSimpArgs false
set_option maxRecDepth 100000
set_option maxHeartbeats 16000000
namespace Go.Proofs.YtmeoooojmhhahaaGreat
open Go.RowKit
theorem qjt (A : Option Addr) (cap : Nat) (D : Dsk) (n : Int) (was h : Hd) (s : Ent) (Bs : Option Addr) (bc : Nat) (Z : Nat -> Prop) (E : Option Addr) (len ecap : Nat) (l : List Ent) (w : World) (hR : RF w A cap D.l) (hG : Good D) (hE : Ents w Z E len ecap l) (hm : len <= 1000) (hn : 0 <= n /\ n <= 100000000) (hs : Lies w Bs s.d.length bc s.d) :
 Calls Tryz.prog 18 #[vauV A cap D n was, .agg #[.int .i64 h.t, .int .i64 h.v],entV s.i s.t Bs s.d.length bc, .slice E len ecap] w fun en w' => qbr w w' A cap D n was h s l en := by
 have hll := hE.1
 have hb0 : Below w.heap.size w ((((w.alloc (.cells (vauC A cap D n was) 45)).alloc (.cells #[.int .i64 h.t, .int .i64 h.v] 32)).alloc (.cells #[.int .i64 s.i, .int .i64 s.t, .slice Bs s.d.length bc] 35)).alloc (.cells zeroV 45)) := (((blq.alloc nlq _).alloc (by simp) _).alloc (by simp; omega) _).alloc (by simp; omega) _
 have K0 : KAt w ((((w.alloc (.cells (vauC A cap D n was) 45)).alloc (.cells #[.int .i64 h.t, .int .i64 h.v] 32)).alloc (.cells #[.int .i64 s.i, .int .i64 s.t, .slice Bs s.d.length bc] 35)).alloc (.cells zeroV 45)) (w.heap.size + 4) A cap D.l A cap D n h was s Bs bc := by
  have e3 := heap_alloc_new (((w.alloc (.cells (vauC A cap D n was) 45)).alloc (.cells #[.int .i64 h.t, .int .i64 h.v] 32)).alloc (.cells #[.int .i64 s.i, .int .i64 s.t, .slice Bs s.d.length bc] 35)) (.cells zeroV 45)
  have e2 := heap_alloc_new ((w.alloc (.cells (vauC A cap D n was) 45)).alloc (.cells #[.int .i64 h.t, .int .i64 h.v] 32)) (.cells #[.int .i64 s.i, .int .i64 s.t, .slice Bs s.d.length bc] 35)
  have e1 := heap_alloc_new (w.alloc (.cells (vauC A cap D n was) 45)) (.cells #[.int .i64 h.t, .int .i64 h.v] 32)
  simp only [World.size_alloc] at e1 e2 e3
  exact ⟨(Below.heap_alloc _ _ _ (by simp; omega)).trans ((Below.heap_alloc _ _ _ (by simp; omega)).trans ((Below.heap_alloc _ _ _ (by simp)).trans (heap_alloc_new _ _))),(Below.heap_alloc _ _ _ (by simp)).trans ((Below.heap_alloc _ _ _ (by simp)).trans e1),(Below.heap_alloc _ _ _ (by simp)).trans e2,e3,⟨hb0, .inl ⟨rfl,rfl,rfl⟩⟩,nlq,by simp⟩
 have hSn := fun W => qeJ s.i s.t Bs s.d.length bc W
 have hHd := fun W => qdn h.t h.v W
 change ∀ W,Calls _ _ _ W (fun e w' => e = .returned (.bool (rightH h)) /\ Below W.heap.size W w') at hHd
 have hRun := fun W (hW : Below w.heap.size w W) => qeK Z E len ecap l s.i s.t W (hE.below hW nlq) (by unfold maxLen; omega)
 have hok : Hid (qaw h s l = (snapB s.i s.t s.d.length && (decide (s.i ≠ 0) && (rightH h && runB s.i s.t l)))) := ⟨rfl⟩
 generalize hbs : snapB s.i s.t s.d.length = bs at *
 generalize hbh : rightH h = bh at *
 generalize hbr : runB s.i s.t l = br at *
 generalize hW0 : ((((w.alloc (.cells (vauC A cap D n was) 45)).alloc (.cells #[.int .i64 h.t, .int .i64 h.v] 32)).alloc (.cells #[.int .i64 s.i, .int .i64 s.t, .slice Bs s.d.length bc] 35)).alloc (.cells zeroV 45)) = W0 at *
 have HW := Lib.hid hW0
 clear hW0
 obtain ⟨⟨s0,s1,s2⟩,_⟩ := row3 K0.ms
 go_enter Tryz.func18,Tryz.ntmps18
 go_wp2_with fail
 rw [HW.out]
 refine (hSn _).mono ?_
 rintro e w1 ⟨rfl,hb1⟩
 have K1 := K0.below hb1
 clear K0 hb0 hb1 HW hSn s0 s1 s2
 cases bs with
 | false =>
   have HN := Lib.hid (qcz (D := D) (was := was) (show qaw h s l = false by rw [hok.out]; rfl))
   have HL := Lib.hid K1
   obtain ⟨⟨a0,a1,a2,a3,a4,a5,a6,a7,a8⟩,_⟩ := row9 HL.out.m0
   obtain ⟨_,⟨d0,d1,d2,d3,d4,d5,d6,d7,d8⟩⟩ := row9 HL.out.mr
   have hzr := hlt HL.out.mr
   clear K1 hok
   go_wp2
   refine bodyPost_ret (qa (n := w.heap.size + 1 + 1 + 1) rfl rfl (HL.out.answer _ _ _ _ _ _ _ _ _).1 Tryz.underlying45 rfl (by kernel_rfl)) rfl ?_
   unfold qbr
   rw [HN.out]
   exact ⟨A,cap,n,rfl,(HL.out.answer _ _ _ _ _ _ _ _ _).2,hn.1,by omega⟩
 | true =>
   obtain ⟨⟨s0,s1,s2⟩,_⟩ := row3 K1.ms
   obtain ⟨⟨y0,y1⟩,_⟩ := row2 K1.mh
   by_cases hi0 : s.i = 0
   · have hi0b : (s.i == 0) = true := beq_iff_eq.2 hi0
     have HN := Lib.hid (qcz (D := D) (was := was) (show qaw h s l = false by rw [hok.out,decide_eq_false (fun h => h hi0)]; rfl))
     have HL := Lib.hid K1
     obtain ⟨⟨a0,a1,a2,a3,a4,a5,a6,a7,a8⟩,_⟩ := row9 HL.out.m0
     obtain ⟨_,⟨d0,d1,d2,d3,d4,d5,d6,d7,d8⟩⟩ := row9 HL.out.mr
     have hzr := hlt HL.out.mr
     clear K1 hok
     go_wp2
     refine bodyPost_ret (qa (n := w.heap.size + 1 + 1 + 1) rfl rfl (HL.out.answer _ _ _ _ _ _ _ _ _).1 Tryz.underlying45 rfl (by kernel_rfl)) rfl ?_
     unfold qbr
     rw [HN.out]
     exact ⟨A,cap,n,rfl,(HL.out.answer _ _ _ _ _ _ _ _ _).2,hn.1,by omega⟩
   · have hi0b : (s.i == 0) = false := beq_eq_false_iff_ne.2 hi0
     go_wp2_with fail
     refine (hHd _).mono ?_
     rintro e w2 ⟨rfl,hb2⟩
     have K2 := K1.below hb2
     clear K1 hb2 hHd s0 s1 s2 y0 y1
     cases bh with
     | false =>
       have HN := Lib.hid (qcz (D := D) (was := was) (show qaw h s l = false by rw [hok.out,Bool.false_and,Bool.and_false,Bool.and_false]))
       have HL := Lib.hid K2
       obtain ⟨⟨a0,a1,a2,a3,a4,a5,a6,a7,a8⟩,_⟩ := row9 HL.out.m0
       obtain ⟨_,⟨d0,d1,d2,d3,d4,d5,d6,d7,d8⟩⟩ := row9 HL.out.mr
       have hzr := hlt HL.out.mr
       clear K2 hok
       go_wp2
       refine bodyPost_ret (qa (n := w.heap.size + 1 + 1 + 1) rfl rfl (HL.out.answer _ _ _ _ _ _ _ _ _).1 Tryz.underlying45 rfl (by kernel_rfl)) rfl ?_
       unfold qbr
       rw [HN.out]
       exact ⟨A,cap,n,rfl,(HL.out.answer _ _ _ _ _ _ _ _ _).2,hn.1,by omega⟩
     | true =>
       obtain ⟨⟨s0,s1,s2⟩,_⟩ := row3 K2.ms
       have hR2 := hRun w2 K2.got.1
       clear hRun
       go_wp2_with fail
       refine hR2.mono ?_
       rintro e w3 ⟨rfl,hb3⟩
       have K3 := K2.below hb3
       clear K2 hb3 hR2 s0 s1 s2
       cases br with
       | false =>
         have HN := Lib.hid (qcz (D := D) (was := was) (show qaw h s l = false by rw [hok.out,Bool.and_false,Bool.and_false,Bool.and_false]))
         have HL := Lib.hid K3
         obtain ⟨⟨a0,a1,a2,a3,a4,a5,a6,a7,a8⟩,_⟩ := row9 HL.out.m0
         obtain ⟨_,⟨d0,d1,d2,d3,d4,d5,d6,d7,d8⟩⟩ := row9 HL.out.mr
         have hzr := hlt HL.out.mr
         clear K3 hok
         go_wp2
         refine bodyPost_ret (qa (n := w.heap.size + 1 + 1 + 1) rfl rfl (HL.out.answer _ _ _ _ _ _ _ _ _).1 Tryz.underlying45 rfl (by kernel_rfl)) rfl ?_
         unfold qbr
         rw [HN.out]
         exact ⟨A,cap,n,rfl,(HL.out.answer _ _ _ _ _ _ _ _ _).2,hn.1,by omega⟩
       | true =>
         have HK := Lib.hid (qht (D := D) (was := was) (show qaw h s l = true by rw [hok.out,decide_eq_true hi0]; rfl))
         have hSv := qfH A cap D n was h Z none 0 0 [] w3 (K3.got.rf hR) hG ⟨rfl,nlq,fun _ => rfl,fun h => absurd h (by simp)⟩ (by omega) (by omega)
         unfold qbP at hSv
         have hG1 := qjs hG was h []
         generalize D.saveV was h [] = R1 at *
         obtain ⟨⟨D1,e1⟩,was1⟩ := R1
         dsimp only at *
         obtain ⟨⟨a0,a1,a2,a3,a4,a5,a6,a7,a8⟩,_⟩ := row9 K3.m0
         obtain ⟨⟨y0,y1⟩,_⟩ := row2 K3.mh
         have hz3 := hlt K3.m0
         go_wp2_with fail
         refine hSv.mono ?_
         rintro e w4 ⟨A1,cap1,n1,rfl,hg4,hn1⟩
         have K4 := K3.whole hg4 n1 was1
         have hz4 : w.heap.size < w4.heap.size := by have := hg4.1.size; omega
         obtain ⟨_,⟨f0,f1,f2,f3,f4,f5,f6,f7,f8⟩⟩ := row9 ((hg4.1.block _ hz3).trans K3.m0)
         clear K3 hg4 hSv a0 a1 a2 a3 a4 a5 a6 a7 a8 y0 y1
         go_upto_region 4 with fail
         clear f0 f1 f2 f3 f4 f5 f6 f7 f8 hz4 hz3
         generalize (((((((((w4.setCell ⟨w.heap.size,0,none⟩ (.int .i64 D1.room)).setCell ⟨w.heap.size,1,none⟩ (.slice A1 D1.l.length cap1)).setCell ⟨w.heap.size,2,none⟩ (.bool D1.set)).setCell ⟨w.heap.size,3,none⟩ (.int .i64 D1.n)).setCell ⟨w.heap.size,4,none⟩ (.bool D1.lost)).setCell ⟨w.heap.size,5,none⟩ (.string nWal)).setCell ⟨w.heap.size,6,none⟩ (.int .i64 n1)).setCell ⟨w.heap.size,7,none⟩ (.int .i64 was1.t)).setCell ⟨w.heap.size,8,none⟩ (.int .i64 was1.v)) = W4 at *
         have hn2 : n1 <= n + 1 := by simpa using hn1.2
         by_cases he1 : e1 = 0
         · subst he1
           have HKs := Lib.hid (show D.keepV was h s l = (thn (D1.snapped s) fun D => D.reset nWal (allRecs h l),was1) by rw [HK.out,qed (r := (D1,0)) rfl])
           clear HK
           have hzv : w.heap.size < W4.heap.size := hlt K4.m0
           have hsnap := qdE D1 s
           have hRF4 := K4.got.rf hR
           have hRm := fun W (hW : Below W4.heap.size W4 W) => qc3 A1 cap1 D1 qr W (hRF4.below hW nlq) (by have := hG1.len; omega) (by have := hG1.n; omega)
           have hG2 := hG1.remove qr
           generalize D1.remove qr = R2 at *
           obtain ⟨D2,e2⟩ := R2
           dsimp only at *
           have O5 := OneD.new W4 A1 cap1 D1
           obtain ⟨⟨a0,a1,a2,a3,a4,a5,a6,a7,a8⟩,_⟩ := row9 K4.m0
           go_wp2_with fail
           refine (hRm _ O5.got.1).mono ?_
           rintro e w6 ⟨A2,cap2,rfl,hg6⟩
           have O6 := O5.stored hg6
           have hz6 : W4.heap.size < w6.heap.size := by have := O5.hi; have := hg6.1.size; omega
           obtain ⟨_,⟨q0,q1,q2,q3,q4⟩⟩ := row5 ((hg6.1.block _ (by have := O5.hi; omega)).trans O5.m)
           clear hRm hg6 O5 a0 a1 a2 a3 a4 a5 a6 a7 a8
           go_upto_region 8 with fail
           clear q0 q1 q2 q3 q4 hz6
           generalize (((((w6.setCell ⟨W4.heap.size,0,none⟩ (.int .i64 D2.room)).setCell ⟨W4.heap.size,1,none⟩ (.slice A2 D2.l.length cap2)).setCell ⟨W4.heap.size,2,none⟩ (.bool D2.set)).setCell ⟨W4.heap.size,3,none⟩ (.int .i64 D2.n)).setCell ⟨W4.heap.size,4,none⟩ (.bool D2.lost)) = W6 at *
           by_cases hbad : e2 ≠ 0 /\ e2 ≠ 6
           · rw [if_pos hbad] at hsnap
             have he2 : e2 ≠ 0 := hbad.1
             have he6 : ((e2 : Int) == 6) = false := by simp; omega
             have HN := Lib.hid (show D.keepV was h s l = ((D2,e2),was1) by rw [HKs.out,hsnap,qbK he2])
             have hgx := O6.got.got (Nat.le_succ _)
             have Kx := K4.disk hgx
             obtain ⟨_,⟨f0,f1,f2,f3,f4,f5,f6,f7,f8⟩⟩ := row9 ((hgx.1.block _ hzv).trans K4.m0)
             have hzx : w.heap.size < W6.heap.size := by have := hgx.1.size; omega
             obtain ⟨⟨x0,x1,x2,x3,x4⟩,_⟩ := row5 O6.m
             have he2b : ((e2 : Int) == 0) = false := by simp; omega
             have he2c : ((e2 : Int) != 0) = true := by simp; omega
             clear hgx K4 O6 hsnap
             go_upto_region 15 with fail
             clear f0 f1 f2 f3 f4 f5 f6 f7 f8 x0 x1 x2 x3 x4 hzx
             generalize (((((W6.setCell ⟨w.heap.size,0,none⟩ (.int .i64 D2.room)).setCell ⟨w.heap.size,1,none⟩ (.slice A2 D2.l.length cap2)).setCell ⟨w.heap.size,2,none⟩ (.bool D2.set)).setCell ⟨w.heap.size,3,none⟩ (.int .i64 D2.n)).setCell ⟨w.heap.size,4,none⟩ (.bool D2.lost)) = Wx at *
             have HL := Lib.hid Kx
             obtain ⟨⟨a0,a1,a2,a3,a4,a5,a6,a7,a8⟩,_⟩ := row9 HL.out.m0
             obtain ⟨_,⟨d0,d1,d2,d3,d4,d5,d6,d7,d8⟩⟩ := row9 HL.out.mr
             have hzr := hlt HL.out.mr
             clear Kx
             go_wp2
             refine bodyPost_ret (qa (n := w.heap.size + 1 + 1 + 1) rfl rfl (HL.out.answer _ _ _ _ _ _ _ _ _).1 Tryz.underlying45 rfl (by kernel_rfl)) rfl ?_
             unfold qbr
             rw [HN.out]
             exact ⟨A2,cap2,n1,rfl,(HL.out.answer _ _ _ _ _ _ _ _ _).2,hn1.1,by omega⟩
           · rw [if_neg hbad] at hsnap
             have hgood : e2 = 0 \/ e2 = 6 := by omega
             clear hbad
             go_cut [58] (fun v wx => v = .bool true /\ wx = W6)
             case first =>
              rcases hgood with rfl | rfl
              all_goals
               go_wp2
               go_meet
               exact ⟨rfl,rfl⟩
             case rest =>
              obtain ⟨rfl,rfl⟩ := hcut
              clear hgood
              have hbwc := K4.got.1.trans (O6.got.1.mono K4.got.1.size)
              have hlX := hs.below hbwc nlq
              have hsb : qaO s.i s.t s.d = snapRec s := if_pos hbs
              have hsd := (qcd hbs).2.2
              have hSB := fun W (hW : Below wc.heap.size wc W) => qiJ s.i s.t Bs s.d.length bc s.d W (hlX.below hW nlq)
              rw [hsb] at hSB
              have hLl : (snapRec s).length <= 60000 := by unfold snapRec; rw [qa2]; omega
              generalize snapRec s = L at *
              obtain ⟨F,hFb,hFr⟩ := qfz ⟨L.toArray⟩ (by show L.length <= _; omega)
              have hFe : (⟨(frameL L).toArray⟩ : ByteArray) = F := (qcl hFb).symm
              have hFs : F.size <= 70000 := by
               have := congrArg List.length hFb
               rw [qC,qu] at this
               have e : (btl ⟨L.toArray⟩).length = L.length := rfl
               omega
              rw [hFe] at hsnap
              have hAp := fun W (hW : Below wc.heap.size wc W) => qc5 A2 cap2 D2 qr F W ((O6.got.rf hRF4).below hW nlq) (by have := hG2.len; omega) (by have := hG2.n; omega) (by have := hG2.usedN; omega) (by omega)
              have hG3 := hG2.append qr F
              generalize D2.append qr F = R3 at *
              obtain ⟨D3,e3⟩ := R3
              dsimp only at *
              clear hlX hsb hsd hFb hFe hFs hLl
              obtain ⟨⟨x0,x1,x2,x3,x4⟩,_⟩ := row5 O6.m
              have hms := fun W (hW : Below wc.heap.size wc W) => row3 ((hW.block _ (by have := hlt K4.ms; have := O6.hi; omega)).trans ((O6.got.1.block _ (hlt K4.ms)).trans K4.ms))
              obtain ⟨⟨s0,s1,s2⟩,_⟩ := hms wc blq
              go_upto_region 9 with fail
              go_cut [10] (fun v wx => v = .int .i64 ((e3 : Nat) : Int) /\ ∃ A3 cap3,OneD W4 wx A1 cap1 D1.l A3 cap3 D3)
              case first =>
               go_region_law (first
                | (go_simp
                   go_at_call 63
                   refine (hSB _ (by first | exact blq | exact blq.drew)).mono ?_
                   rintro e w7 ⟨A7,c7,rfl,ho7,hb7⟩
                   have hb7' : Below wc.heap.size wc w7 := by first | exact hb7 | exact blq.drew.trans hb7
                   have ht7 := (qa8 ho7).text Tryz.underlying33 Tryz.underlying5 Tryz.underlying9
                   have ht7d := ((qa8 ho7).below blq.drew nlq).text Tryz.underlying33 Tryz.underlying5 Tryz.underlying9
                   obtain ⟨⟨z0,z1,z2,z3,z4⟩,_⟩ := row5 (O6.below hb7').m)
                | (go_simp
                   go_at_call 62
                   refine (hFr _).mono ?_
                   rintro e w8 ⟨rfl,hb8⟩
                   have hb8' : Below wc.heap.size wc w8 := by first | exact hb7'.trans (hb8.mono hb7'.size) | exact hb7'.drew.trans (hb8.mono hb7'.size)
                   obtain ⟨⟨t0,t1,t2,t3,t4⟩,_⟩ := row5 (O6.below hb8').m)
                | (go_simp
                   go_at_call 61
                   refine (hAp _ (by first | exact hb8' | exact hb8'.drew)).mono ?_
                   rintro e w9 ⟨A3,cap3,rfl,hg9⟩
                   have hg9' : Got w8 A2 cap2 D2.l w9 A3 cap3 D3.l := by first | exact hg9 | exact ⟨blq.drew.trans hg9.1,hg9.2⟩
                   have hzd : W4.heap.size < w9.heap.size := by have := (O6.below hb8').hi; have := hg9'.1.size; omega
                   obtain ⟨_,⟨q0,q1,q2,q3,q4⟩⟩ := row5 ((hg9'.1.block _ (by have := (O6.below hb8').hi; omega)).trans (O6.below hb8').m)))
               all_goals
                have O9 := Lib.hid ((O6.below hb8').stored hg9')
                clear hSB hFr hAp hms ho7 hg9 hg9' hb8 hb8' hb7 hb7'
                go_wp2
                go_meet
                exact ⟨rfl,A3,cap3,O9.out⟩
              case rest =>
               obtain ⟨rfl,A3,cap3,O9⟩ := hcut
               clear hSB hFr hAp hms s0 s1 s2 x0 x1 x2 x3 x4 hbwc
               obtain ⟨⟨x0,x1,x2,x3,x4⟩,_⟩ := row5 O9.m
               by_cases he3 : e3 = 0
               · subst he3
                 rw [if_neg (by simp)] at hsnap
                 have hSy := qdR A3 cap3 D3 qr _ (O9.got.rf hRF4) (by have := hG3.len; omega) (by have := hG3.n; omega)
                 have hG4 := hG3.sync qr
                 generalize D3.sync qr = R4 at *
                 obtain ⟨D4,e4⟩ := R4
                 dsimp only at *
                 go_wp2_with fail
                 refine hSy.mono ?_
                 rintro e w10 ⟨A4,cap4,rfl,hg⟩
                 have O10 := O9.stored hg
                 have hzd : W4.heap.size < w10.heap.size := by have := O9.hi; have := hg.1.size; omega
                 obtain ⟨_,⟨q0,q1,q2,q3,q4⟩⟩ := row5 ((hg.1.block _ (by have := O9.hi; omega)).trans O9.m)
                 clear x0 x1 x2 x3 x4 hg O9
                 go_upto_region 12 with fail
                 clear q0 q1 q2 q3 q4 hzd
                 generalize (((((w10.setCell ⟨W4.heap.size,0,none⟩ (.int .i64 D4.room)).setCell ⟨W4.heap.size,1,none⟩ (.slice A4 D4.l.length cap4)).setCell ⟨W4.heap.size,2,none⟩ (.bool D4.set)).setCell ⟨W4.heap.size,3,none⟩ (.int .i64 D4.n)).setCell ⟨W4.heap.size,4,none⟩ (.bool D4.lost)) = W10 at *
                 obtain ⟨⟨x0,x1,x2,x3,x4⟩,_⟩ := row5 O10.m
                 by_cases he4 : e4 = 0
                 · subst he4
                   rw [if_neg (by simp)] at hsnap
                   have hRn := qc4 A4 cap4 D4 qr qal _ (O10.got.rf hRF4) (by have := hG4.len; omega) (by have := hG4.n; omega)
                   have hG5 := hG4.rename qr qal
                   generalize D4.rename qr qal = R5 at *
                   obtain ⟨D5,e5⟩ := R5
                   dsimp only at *
                   go_wp2_with fail
                   refine hRn.mono ?_
                   rintro e w11 ⟨A5,cap5,rfl,hg⟩
                   have O11 := O10.stored hg
                   have hzd : W4.heap.size < w11.heap.size := by have := O10.hi; have := hg.1.size; omega
                   obtain ⟨_,⟨q0,q1,q2,q3,q4⟩⟩ := row5 ((hg.1.block _ (by have := O10.hi; omega)).trans O10.m)
                   clear x0 x1 x2 x3 x4 hg O10
                   go_upto_region 14 with fail
                   clear q0 q1 q2 q3 q4 hzd
                   generalize (((((w11.setCell ⟨W4.heap.size,0,none⟩ (.int .i64 D5.room)).setCell ⟨W4.heap.size,1,none⟩ (.slice A5 D5.l.length cap5)).setCell ⟨W4.heap.size,2,none⟩ (.bool D5.set)).setCell ⟨W4.heap.size,3,none⟩ (.int .i64 D5.n)).setCell ⟨W4.heap.size,4,none⟩ (.bool D5.lost)) = W11 at *
                   obtain ⟨⟨x0,x1,x2,x3,x4⟩,_⟩ := row5 O11.m
                   by_cases he5 : e5 = 0
                   · subst he5
                     have hgx := O11.got.got (Nat.le_succ _)
                     have Kx := K4.disk hgx
                     obtain ⟨_,⟨f0,f1,f2,f3,f4,f5,f6,f7,f8⟩⟩ := row9 ((hgx.1.block _ hzv).trans K4.m0)
                     have hzx : w.heap.size < W11.heap.size := by have := hgx.1.size; omega
                     clear hgx K4 O11
                     go_upto_region 17 with fail
                     clear f0 f1 f2 f3 f4 f5 f6 f7 f8 x0 x1 x2 x3 x4 hzx
                     generalize (((((W11.setCell ⟨w.heap.size,0,none⟩ (.int .i64 D5.room)).setCell ⟨w.heap.size,1,none⟩ (.slice A5 D5.l.length cap5)).setCell ⟨w.heap.size,2,none⟩ (.bool D5.set)).setCell ⟨w.heap.size,3,none⟩ (.int .i64 D5.n)).setCell ⟨w.heap.size,4,none⟩ (.bool D5.lost)) = Wx at *
                     obtain ⟨⟨a0,a1,a2,a3,a4,a5,a6,a7,a8⟩,_⟩ := row9 Kx.m0
                     obtain ⟨⟨y0,y1⟩,_⟩ := row2 Kx.mh
                     have hallr : ∀ x ∈ l,rightE x = true := qgg hbr
                     have hS17 := fun W => qd2 h W
                     have hEn := fun W (hW : Below Wx.heap.size Wx W) => qbb Z E len ecap l W (hE.below (Kx.got.1.trans (hW.mono Kx.got.1.size)) nlq) (by omega) (fun e he => by have := ((qaB _ _ _).1 (hallr e he)).2.2; omega)
                     have hRs := fun W (hW : Below Wx.heap.size Wx W) E' ecap' (hS : Strs W E' (1 + len) ecap' ([hardStr h] ++ l.map qB)) => qfC A5 cap5 D5 nWal n1 E' (1 + len) ecap' ([hardStr h] ++ l.map qB) W ((Kx.got.rf hR).below hW nlq) hG5 hS (by omega) (by decide)
                     rw [qhL hbh hallr] at hRs
                     have hcntb : ∀ r : Dsk × Nat,0 <= cnt r n1 ((1 + len : Nat) : Int) /\ cnt r n1 ((1 + len : Nat) : Int) <= n + (len : Int) + 1 := fun r => by unfold cnt; split <;> omega
                     have hfin : D.keepV was h s l = (D5.reset nWal (allRecs h l),was1) := by rw [HKs.out,hsnap,qed (r := (D5,0)) rfl]
                     have HF := Lib.hid hfin
                     generalize D5.reset nWal (allRecs h l) = R6 at *
                     obtain ⟨D6,e6⟩ := R6
                     dsimp only at *
                     have HC := Lib.hid (hcntb (D6,e6))
                     generalize cnt (D6,e6) n1 ((1 + len : Nat) : Int) = N6 at *
                     clear hfin hcntb hsnap
                     go_cut [10] (fun v wx => v = .int .i64 ((e6 : Nat) : Int) /\ ∃ A6 cap6,KAt w wx (w.heap.size + 4) A cap D.l A6 cap6 D6 N6 h was1 s Bs bc)
                     case first =>
                      go_region_law (first
                       | (go_simp
                          go_at_call 48
                          refine (hS17 _).mono ?_
                          rintro e w12 ⟨rfl,hb12⟩
                          have hb12' : Below Wx.heap.size Wx w12 := by first | exact hb12 | exact blq.drew.trans hb12
                          obtain ⟨⟨p0,p1,p2,p3,p4,p5,p6,p7,p8⟩,_⟩ := row9 (Kx.below hb12').m0
                          have hsz12 := hb12'.size
                          obtain ⟨⟨u90,u91,u92,u93,u94,u95,u96,u97,u98⟩,_⟩ := row9 (Kx.below (hb12'.alloc hb12'.size (.cells #[.string (hardStr h)] 9))).m0)
                       | (go_simp
                          go_at_call 49
                          refine (hEn (w12.alloc (.cells #[.string (hardStr h)] 9)) (hb12'.alloc hb12'.size _)).mono ?_
                          rintro e w13 ⟨v13,rfl,hst⟩
                          obtain ⟨Ee,ce,rfl⟩ := hst.2.2
                          obtain ⟨hnone2,hcell2⟩ := qbh.cells hll.symm hst
                          have hb13 := (hb12'.alloc hb12'.size (.cells #[.string (hardStr h)] 9)).trans (hst.2.1.mono (by simp; omega))
                          have hown13 := qeh (base := Wx.heap.size) ((hst.2.1.block w12.heap.size (by simp)).trans (heap_alloc_new w12 _)) hb12'.size
                          obtain ⟨⟨q0,q1,q2,q3,q4,q5,q6,q7,q8⟩,_⟩ := row9 (Kx.below hb13).m0
                          have hsz13 := hb13.size)
                       | (go_simp
                          go_at_call 49
                          refine (hEn w12 hb12').mono ?_
                          rintro e w13 ⟨v13,rfl,hst⟩
                          obtain ⟨Ee,ce,rfl⟩ := hst.2.2
                          obtain ⟨hnone2,hcell2⟩ := qbh.cells hll.symm hst
                          have hb13 := hb12'.trans (hst.2.1.mono hb12'.size)
                          obtain ⟨⟨q0,q1,q2,q3,q4,q5,q6,q7,q8⟩,_⟩ := row9 (Kx.below hb13).m0
                          have hsz13 := hb13.size
                          obtain ⟨⟨u80,u81,u82,u83,u84,u85,u86,u87,u88⟩,_⟩ := row9 (Kx.below (hb13.alloc hb13.size (.cells #[.string (hardStr h)] 9))).m0)
                       | (refine qac _ (by rfl) _ _ (by rfl) Wx.heap.size (by first | exact hsz13 | (simp; omega)) (.slice (some ⟨w12.heap.size,0,none⟩) 1 1) 1 (strs [hardStr h]) (by rfl) hown13 Ee len ce (l.map qB) (by rfl) (by rw [List.length_map]; exact hll) hnone2 (by first | exact hcell2 | exact fun b e j u hu => hcell2 b e j u hu) (by omega) ?_
                          intro v14 w14 ho14 hg14 hq14
                          have hb14 : Below Wx.heap.size Wx w14 := Below.grown hb13 hg14 hsz13 (fun q hq => (hown13.lt q hq).1)
                          rw [<- List.map_append] at ho14
                          obtain ⟨E14,c14,rfl,hst14⟩ := qbV (by simp only [List.length_append,List.length_map,List.length_singleton]; omega) ho14
                          obtain ⟨⟨t0,t1,t2,t3,t4,t5,t6,t7,t8⟩,_⟩ := row9 (Kx.below hb14).m0)
                       | (refine qac _ (by rfl) _ _ (by rfl) Wx.heap.size (by simp; omega) (.slice (some ⟨w13.heap.size,0,none⟩) 1 1) 1 (strs [hardStr h]) (by rfl) (qeh (heap_alloc_new w13 _) hsz13) Ee len ce (l.map qB) (by rfl) (by rw [List.length_map]; exact hll) hnone2 (qfI _ hcell2) (by omega) ?_
                          intro v14 w14 ho14 hg14 hq14
                          have hb14 : Below Wx.heap.size Wx w14 := Below.grown (hb13.alloc hb13.size _) hg14 (by simp; omega) (fun q hq => by simp [Value.ownBlock] at hq; omega)
                          rw [<- List.map_append] at ho14
                          obtain ⟨E14,c14,rfl,hst14⟩ := qbV (by simp only [List.length_append,List.length_map,List.length_singleton]; omega) ho14
                          obtain ⟨⟨t0,t1,t2,t3,t4,t5,t6,t7,t8⟩,_⟩ := row9 (Kx.below hb14).m0)
                       | (go_simp
                          go_at_call 47
                          refine (hRs _ (by first | exact hb14 | exact hb14.drew) _ _ (by first | exact hst14 | exact hst14.below blq.drew nlq)).mono ?_
                          rintro e w15 ⟨A6,cap6,rfl,hg15⟩
                          have hg15' : Got w14 A5 cap5 D5.l w15 A6 cap6 D6.l := by first | exact hg15 | exact ⟨blq.drew.trans hg15.1,hg15.2⟩
                          have hz15 : w.heap.size < w15.heap.size := by have := (Kx.below hb14).hi; have := (Kx.below hb14).lo; have := hg15'.1.size; omega
                          obtain ⟨_,⟨f0,f1,f2,f3,f4,f5,f6,f7,f8⟩⟩ := row9 ((hg15'.1.block _ (hlt (Kx.below hb14).m0)).trans (Kx.below hb14).m0)))
                      all_goals
                       have Ky := Lib.hid ((Kx.below hb14).log hg15' N6)
                       clear hEn hRs hS17 hg15 hg15' hb14 hst14 ho14 hg14 hq14 hb13 hst hnone2 hcell2 hb12 hb12'
                       go_wp2
                       go_meet
                       exact ⟨rfl,A6,cap6,Ky.out⟩
                     case rest =>
                      obtain ⟨rfl,A6,cap6,Ky⟩ := hcut
                      clear hEn hRs hS17 Kx a0 a1 a2 a3 a4 a5 a6 a7 a8 y0 y1
                      skip
                      have HL := Lib.hid Ky
                      obtain ⟨⟨a0,a1,a2,a3,a4,a5,a6,a7,a8⟩,_⟩ := row9 HL.out.m0
                      obtain ⟨_,⟨d0,d1,d2,d3,d4,d5,d6,d7,d8⟩⟩ := row9 HL.out.mr
                      have hzr := hlt HL.out.mr
                      clear Ky
                      go_wp2
                      refine bodyPost_ret (qa (n := w.heap.size + 1 + 1 + 1) rfl rfl (HL.out.answer _ _ _ _ _ _ _ _ _).1 Tryz.underlying45 rfl (by kernel_rfl)) rfl ?_
                      unfold qbr
                      rw [HF.out]
                      exact ⟨A6,cap6,N6,rfl,(HL.out.answer _ _ _ _ _ _ _ _ _).2,HC.out.1,by rw [hll]; exact HC.out.2⟩
                   · skip
                     have HN := Lib.hid (show D.keepV was h s l = ((D5,e5),was1) by rw [HKs.out,hsnap,qbK he5])
                     have hgx := O11.got.got (Nat.le_succ _)
                     have Kx := K4.disk hgx
                     obtain ⟨_,⟨f0,f1,f2,f3,f4,f5,f6,f7,f8⟩⟩ := row9 ((hgx.1.block _ hzv).trans K4.m0)
                     have hzx : w.heap.size < W11.heap.size := by have := hgx.1.size; omega
                     obtain ⟨⟨x0,x1,x2,x3,x4⟩,_⟩ := row5 O11.m
                     have he5b : ((e5 : Int) == 0) = false := by simp; omega
                     have he5c : ((e5 : Int) != 0) = true := by simp; omega
                     clear hgx K4 O11 hsnap
                     go_upto_region 15 with fail
                     clear f0 f1 f2 f3 f4 f5 f6 f7 f8 x0 x1 x2 x3 x4 hzx
                     generalize (((((W11.setCell ⟨w.heap.size,0,none⟩ (.int .i64 D5.room)).setCell ⟨w.heap.size,1,none⟩ (.slice A5 D5.l.length cap5)).setCell ⟨w.heap.size,2,none⟩ (.bool D5.set)).setCell ⟨w.heap.size,3,none⟩ (.int .i64 D5.n)).setCell ⟨w.heap.size,4,none⟩ (.bool D5.lost)) = Wx at *
                     have HL := Lib.hid Kx
                     obtain ⟨⟨a0,a1,a2,a3,a4,a5,a6,a7,a8⟩,_⟩ := row9 HL.out.m0
                     obtain ⟨_,⟨d0,d1,d2,d3,d4,d5,d6,d7,d8⟩⟩ := row9 HL.out.mr
                     have hzr := hlt HL.out.mr
                     clear Kx
                     go_wp2
                     refine bodyPost_ret (qa (n := w.heap.size + 1 + 1 + 1) rfl rfl (HL.out.answer _ _ _ _ _ _ _ _ _).1 Tryz.underlying45 rfl (by kernel_rfl)) rfl ?_
                     unfold qbr
                     rw [HN.out]
                     exact ⟨A5,cap5,n1,rfl,(HL.out.answer _ _ _ _ _ _ _ _ _).2,hn1.1,by omega⟩
                 · rw [if_pos he4] at hsnap
                   have HN := Lib.hid (show D.keepV was h s l = ((D4,e4),was1) by rw [HKs.out,hsnap,qbK he4])
                   have hgx := O10.got.got (Nat.le_succ _)
                   have Kx := K4.disk hgx
                   obtain ⟨_,⟨f0,f1,f2,f3,f4,f5,f6,f7,f8⟩⟩ := row9 ((hgx.1.block _ hzv).trans K4.m0)
                   have hzx : w.heap.size < W10.heap.size := by have := hgx.1.size; omega
                   obtain ⟨⟨x0,x1,x2,x3,x4⟩,_⟩ := row5 O10.m
                   have he4b : ((e4 : Int) == 0) = false := by simp; omega
                   have he4c : ((e4 : Int) != 0) = true := by simp; omega
                   clear hgx K4 O10 hsnap
                   go_upto_region 15 with fail
                   clear f0 f1 f2 f3 f4 f5 f6 f7 f8 x0 x1 x2 x3 x4 hzx
                   generalize (((((W10.setCell ⟨w.heap.size,0,none⟩ (.int .i64 D4.room)).setCell ⟨w.heap.size,1,none⟩ (.slice A4 D4.l.length cap4)).setCell ⟨w.heap.size,2,none⟩ (.bool D4.set)).setCell ⟨w.heap.size,3,none⟩ (.int .i64 D4.n)).setCell ⟨w.heap.size,4,none⟩ (.bool D4.lost)) = Wx at *
                   have HL := Lib.hid Kx
                   obtain ⟨⟨a0,a1,a2,a3,a4,a5,a6,a7,a8⟩,_⟩ := row9 HL.out.m0
                   obtain ⟨_,⟨d0,d1,d2,d3,d4,d5,d6,d7,d8⟩⟩ := row9 HL.out.mr
                   have hzr := hlt HL.out.mr
                   clear Kx
                   go_wp2
                   refine bodyPost_ret (qa (n := w.heap.size + 1 + 1 + 1) rfl rfl (HL.out.answer _ _ _ _ _ _ _ _ _).1 Tryz.underlying45 rfl (by kernel_rfl)) rfl ?_
                   unfold qbr
                   rw [HN.out]
                   exact ⟨A4,cap4,n1,rfl,(HL.out.answer _ _ _ _ _ _ _ _ _).2,hn1.1,by omega⟩
               · rw [if_pos he3] at hsnap
                 have HN := Lib.hid (show D.keepV was h s l = ((D3,e3),was1) by rw [HKs.out,hsnap,qbK he3])
                 have hgx := O9.got.got (Nat.le_succ _)
                 have Kx := K4.disk hgx
                 obtain ⟨_,⟨f0,f1,f2,f3,f4,f5,f6,f7,f8⟩⟩ := row9 ((hgx.1.block _ hzv).trans K4.m0)
                 have hzx : w.heap.size < wc.heap.size := by have := hgx.1.size; omega
                 obtain ⟨⟨x0,x1,x2,x3,x4⟩,_⟩ := row5 O9.m
                 have he3b : ((e3 : Int) == 0) = false := by simp; omega
                 have he3c : ((e3 : Int) != 0) = true := by simp; omega
                 clear hgx K4 O9 hsnap
                 go_upto_region 15 with fail
                 clear f0 f1 f2 f3 f4 f5 f6 f7 f8 x0 x1 x2 x3 x4 hzx
                 generalize (((((wc.setCell ⟨w.heap.size,0,none⟩ (.int .i64 D3.room)).setCell ⟨w.heap.size,1,none⟩ (.slice A3 D3.l.length cap3)).setCell ⟨w.heap.size,2,none⟩ (.bool D3.set)).setCell ⟨w.heap.size,3,none⟩ (.int .i64 D3.n)).setCell ⟨w.heap.size,4,none⟩ (.bool D3.lost)) = Wx at *
                 have HL := Lib.hid Kx
                 obtain ⟨⟨a0,a1,a2,a3,a4,a5,a6,a7,a8⟩,_⟩ := row9 HL.out.m0
                 obtain ⟨_,⟨d0,d1,d2,d3,d4,d5,d6,d7,d8⟩⟩ := row9 HL.out.mr
                 have hzr := hlt HL.out.mr
                 clear Kx
                 go_wp2
                 refine bodyPost_ret (qa (n := w.heap.size + 1 + 1 + 1) rfl rfl (HL.out.answer _ _ _ _ _ _ _ _ _).1 Tryz.underlying45 rfl (by kernel_rfl)) rfl ?_
                 unfold qbr
                 rw [HN.out]
                 exact ⟨A3,cap3,n1,rfl,(HL.out.answer _ _ _ _ _ _ _ _ _).2,hn1.1,by omega⟩
         · have HN := Lib.hid (show D.keepV was h s l = ((D1,e1),was1) by rw [HK.out,qbK (r := (D1,e1)) he1,qbK he1])
           have he1b : ((e1 : Int) != 0) = true := by simp; omega
           have HL := Lib.hid K4
           obtain ⟨⟨a0,a1,a2,a3,a4,a5,a6,a7,a8⟩,_⟩ := row9 HL.out.m0
           obtain ⟨_,⟨d0,d1,d2,d3,d4,d5,d6,d7,d8⟩⟩ := row9 HL.out.mr
           have hzr := hlt HL.out.mr
           clear K4
           go_wp2
           refine bodyPost_ret (qa (n := w.heap.size + 1 + 1 + 1) rfl rfl (HL.out.answer _ _ _ _ _ _ _ _ _).1 Tryz.underlying45 rfl (by kernel_rfl)) rfl ?_
           unfold qbr
           rw [HN.out]
           exact ⟨A1,cap1,n1,rfl,(HL.out.answer _ _ _ _ _ _ _ _ _).2,hn1.1,by omega⟩
end Go.Proofs.YtmeoooojmhhahaaGreat
