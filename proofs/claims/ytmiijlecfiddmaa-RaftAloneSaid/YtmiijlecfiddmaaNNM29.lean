/- RaftAlone's walk. (Written by mkalone.py.) -/
import Derived.Test.YtmiijlecfiddmaaNNM28
set_option linter.unusedVariables false
set_option linter.unusedSimpArgs false
set_option maxRecDepth 100000
set_option maxHeartbeats 12800000
namespace Go.Proofs.Ytmiijlecfiddmaa.raftAlone
open Go.RowKit Go.Shelf Go.Proofs.Ytmiijlecfiddmaa
attribute [local go_sem] Oper.semAt_some
theorem walkAlone (ht hv si st : Int) (E : Option Addr) (c : Nat) (sd : List UInt8) (A : Option Addr) (cA : Nat) (ls : List Ent) (B : Option Addr) (cB m : Nat) (rs : List (List UInt8)) (w : World)
 (hE : Lies w E sd.length c sd) (hEz : 0 < sd.length -> ∀ g o,E = some ⟨g,o,none⟩ -> g < w.heap.size) (hA : Ents w (· < w.heap.size) A ls.length cA ls) (hcA : cA <= maxLen) (hR : Recs w (· < w.heap.size) B m cB rs) (hcB : cB <= maxLen) (hc : c <= maxLen) :
 Calls Try.prog 3 #[.agg #[.int .i64 ht, .int .i64 hv], .agg #[.int .i64 si, .int .i64 st, .slice E sd.length c], .slice A ls.length cA, .slice B m cB] w fun e w' => e = .returned (.bool true) /\ Below w.heap.size w w' := by
 have hB0 := Base.made w ht hv si st E sd.length c
 have hcA2 := Nat.le_trans hA.2.1 hcA
 have hcB2 := Nat.le_trans hR.2.1 hcB
 have hc2 := Nat.le_trans hE.2.1 hc
 unfold maxLen at hcA2 hcB2 hc2
 have HB0 := Lib.hid hB0
 clear hB0
 go_enter Try.func3,Try.ntmps3
 go_wp2_with fail
 refine (qB _).mono ?_
 rintro e w1 ⟨rfl,hb1⟩
 have B1 := HB0.out.next hb1
 obtain ⟨⟨a0,a1⟩,_⟩ := row2 B1.h
 obtain ⟨⟨b0,b1,b2⟩,_⟩ := row3 B1.s
 have HB1 := Lib.hid B1
 clear HB0 hb1 B1
 by_cases q1 : 20 < ls.length
 · have e1 : decide ((20 : Int) < (ls.length : Int)) = true := decide_eq_true (by omega)
   go_wp2_with fail
   refine (qB _).mono ?_
   rintro e wz ⟨rfl,hbz⟩
   go_wp2
   go_ret
   exact ⟨rfl,(HB1.out.next hbz).below⟩
 have e1 : decide ((20 : Int) < (ls.length : Int)) = false := decide_eq_false (by omega)
 by_cases q2 : 20 < m
 · have e2 : decide ((20 : Int) < (m : Int)) = true := decide_eq_true (by omega)
   go_wp2_with fail
   refine (qB _).mono ?_
   rintro e wz ⟨rfl,hbz⟩
   go_wp2
   go_ret
   exact ⟨rfl,(HB1.out.next hbz).below⟩
 have e2 : decide ((20 : Int) < (m : Int)) = false := decide_eq_false (by omega)
 by_cases q3 : 2000 < sd.length
 · have e3 : decide ((2000 : Int) < (sd.length : Int)) = true := decide_eq_true (by omega)
   go_wp2_with fail
   refine (qB _).mono ?_
   rintro e wz ⟨rfl,hbz⟩
   go_wp2
   go_ret
   exact ⟨rfl,(HB1.out.next hbz).below⟩
 have e3 : decide ((2000 : Int) < (sd.length : Int)) = false := decide_eq_false (by omega)
 have hRn := qdy _ A ls.length cA ls si st w1 (hA.below HB1.out.below nlq) (by unfold maxLen; omega)
 obtain ⟨qr,hqr⟩ : ∃ q,runB si st ls = q := ⟨_,rfl⟩
 rw [hqr] at hRn
 go_wp2_with fail
 refine hRn.mono ?_
 rintro e w2 ⟨rfl,hb2⟩
 have B2 := HB1.out.next hb2
 clear a0 a1 b0 b1 b2 HB1 hb2 hRn
 obtain ⟨⟨a0,a1⟩,_⟩ := row2 B2.h
 obtain ⟨⟨b0,b1,b2⟩,_⟩ := row3 B2.s
 have HB2 := Lib.hid B2
 clear B2
 cases qr with
 | false =>
   go_wp2_with fail
   refine (qB _).mono ?_
   rintro e wz ⟨rfl,hbz⟩
   go_wp2
   go_ret
   exact ⟨rfl,(HB2.out.next hbz).below⟩
 | true =>
 by_cases q4 : 549755813888 <= ht
 · have e4 : decide ((549755813888 : Int) <= ht) = true := decide_eq_true q4
   go_wp2_with fail
   refine (qB _).mono ?_
   rintro e wz ⟨rfl,hbz⟩
   go_wp2
   go_ret
   exact ⟨rfl,(HB2.out.next hbz).below⟩
 have e4 : decide ((549755813888 : Int) <= ht) = false := decide_eq_false q4
 by_cases q5 : 549755813888 <= si
 · have e5 : decide ((549755813888 : Int) <= si) = true := decide_eq_true q5
   go_wp2_with fail
   refine (qB _).mono ?_
   rintro e wz ⟨rfl,hbz⟩
   go_wp2
   go_ret
   exact ⟨rfl,(HB2.out.next hbz).below⟩
 have e5 : decide ((549755813888 : Int) <= si) = false := decide_eq_false q5
 have HA := Lib.hid (And.intro hA (And.intro hR (And.intro hE hEz)))
 clear hA hR hE hEz hcA hcB hc
 go_wp2_with fail
 clear a0 a1 b0 b1 b2
 go_loopw [63] (fun v63 wr => ∃ k : Nat,k <= ls.length /\ v63 = .int .i64 (k : Int) /\ wr = w2) (fun v63 _ => ls.length - (intOf v63).toNat)
 case atStart => exact ⟨0,Nat.zero_le _,rfl,rfl⟩
 case round =>
  obtain ⟨k,hk,rfl,hw⟩ := hrel
  have hw2 := hw.symm
  subst hw2
  by_cases hk2 : k < ls.length
  · have l1 : decide ((k : Int) < (ls.length : Int)) = true := decide_eq_true (by omega)
    obtain ⟨g,off,F,cF,rfl,hg,_,_,hcell,hlF⟩ := (HA.out.1.below HB2.out.below nlq).at_ k hk2
    generalize ls[k].d.length = n at *
    by_cases hk3 : 1000 < n
    · have l2 : decide ((1000 : Int) < (n : Int)) = true := decide_eq_true (by omega)
      go_wp2
      go_ret
      exact ⟨rfl,HB2.out.below⟩
    · have l2 : decide ((1000 : Int) < (n : Int)) = false := decide_eq_false (by omega)
      go_wp2
      go_roundw
      case rel => exact ⟨k + 1,hk2,by go_num,by first | rfl | trivial⟩
      case measure =>
       simp [intOf]
       omega
  · obtain rfl : k = ls.length := by omega
    obtain ⟨⟨a0,a1⟩,_⟩ := row2 HB2.out.h
    obtain ⟨⟨b0,b1,b2⟩,_⟩ := row3 HB2.out.s
    have hs2 := HB2.out.size
    by_cases hyes : qF ht hv = true /\ qG si st sd.length = true /\ (⟨si,st,ls,0⟩ : RL).lastT <= ht
    · obtain ⟨h1,h2,h3⟩ := hyes
      have hbs := qaQ h2
      have hgd : Good (⟨si,st,ls,0⟩ : RL) := ⟨hbs,hqr⟩
      have hh0 := qdK h1
      have hls : (⟨si,st,ls,0⟩ : RL).lastI = si + (ls.length : Int) := hgd.lastI
      have hl0 : 0 <= si /\ si + (ls.length : Int) <= 1099511627776 := hgd.lim
      have hN := qcd 0 1 ht hv ⟨si,st,sd⟩ ls E c A cA (fun b => b < w.heap.size) w2 ⟨by decide,by decide,by decide⟩ h1 h2 hbs hqr h3 (HA.out.2.2.1.below HB2.out.below nlq) (fun h0 g o e => by have := HA.out.2.2.2 h0 g o e; omega) (by show sd.length <= 50000; omega) (HA.out.1.below HB2.out.below nlq) (by omega)
      have hone := qdR ht hv ⟨si,st,sd⟩ ls hgd ⟨hh0,by omega⟩ h3 (by rw [hls]; omega)
      have HG := Lib.hid (And.intro hgd (And.intro h3 hone))
      clear h1 h2 h3 hbs hgd hone hqr
      go_wp2_with fail
      refine hN.mono ?_
      rintro e w3 ⟨p,q,s,K,rfl,R3,hf3,hb3⟩
      have HR3 := Lib.hid (And.intro R3 (And.intro (HG.out.2.2.2.2.2.2.2 s hf3) (And.intro hb3 (HB2.out.next hb3))))
      clear R3 hf3 hb3 hN a0 a1 b0 b1 b2
      go_wp2_with fail
      go_loopw [85] (fun v85 wx => ∃ k : Nat,k <= 6 /\ v85 = .int .i64 (k : Int) /\ ∃ q xs K,RfAt wx p (fr1 ht hv ⟨si,st,sd⟩ ls k) (fun b => b < w2.heap.size) q s xs K /\ qf (fun b => b < w2.heap.size) w2 wx) (fun v85 _ => 6 - (intOf v85).toNat)
      case atStart => exact ⟨0,Nat.zero_le _,rfl,q,[],K,HR3.out.1,qe HR3.out.2.2.1 nlq⟩
      case round =>
       obtain ⟨k,hk,rfl,q',xs',K',R,hkk⟩ := hrel
       by_cases hk6 : k < 6
       · have l1 : decide ((k : Int) < 6) = true := decide_eq_true (by omega)
         have hT := tick k (by omega) R (fun b hb => Nat.lt_of_lt_of_le hb hkk.size) HG.out.1 ⟨hh0,by omega⟩ HG.out.2.1 (by omega) (by show sd.length <= 50000; omega)
         have HK := Lib.hid hkk
         clear R hkk
         go_wp2_with fail
         refine hT.mono ?_
         rintro e w4 ⟨rfl,hTd⟩
         have HT := Lib.hid hTd
         clear hTd hT
         go_wp2
         go_roundw
         case rel =>
          obtain ⟨q3,xs3,K3,R3,_,k3⟩ := HT.out
          exact ⟨k + 1,by omega,by go_num,q3,xs3,K3,R3,HK.out.trans k3⟩
         case measure =>
          simp [intOf]
          omega
       · obtain rfl : k = 6 := by omega
         obtain ⟨hO,hl6,hi6,hsn6,hli6,_⟩ := HG.out.2.2
         have hf6 := HR3.out.2.1
         obtain ⟨N,hN⟩ : ∃ N,fr1 ht hv ⟨si,st,sd⟩ ls 6 = N := ⟨_,rfl⟩
         rw [hN] at hO hl6 hi6 hsn6 hli6 hf6 R
         obtain ⟨P,hP⟩ : ∃ P,ls ++ [(⟨(⟨si,st,ls,0⟩ : RL).lastI + 1,ht + 1,[]⟩ : Ent)] = P := ⟨_,rfl⟩
         have hPl : P.length = ls.length + 1 := by rw [<- hP]; simp
         rw [hP] at hl6
         rw [hls] at hli6
         have hS := q9 R (by rw [hl6]; omega) (by rw [hO.me.2]; omega)
         rw [hO.ro,hO.ld,hO.ht,hO.hv,hO.cm,hli6] at hS
         have hB4 := HB2.out.kept hkk
         have G6 : Goes w2 wr p (fun b => b < w2.heap.size) (ht + 1) P rs (si + (ls.length : Int) + 1) ⟨si,st,sd⟩ 0 N q' s xs' K' [] := ⟨R,hf6,hO,by rw [hl6,List.append_nil],rfl,rfl,by rw [hli6]; omega,hsn6,hkk⟩
         have HG6 := Lib.hid (And.intro G6 hB4)
         clear R hkk hB4 hf6 hl6 hi6 hsn6 hli6 hO hN G6 hP
         go_wp2_with fail
         refine hS.mono ?_
         rintro e w4 ⟨NA,nc,MA,mc,rfl,_,_,_,_,hb4⟩
         have hb5 : ∀ o,Below wr.heap.size wr (w4.alloc o) := fun o => hb4.alloc hb4.size _
         have hbx := heap_alloc_new w4 (.cells #[.int .i64 3, .int .i64 0, .int .i64 N.wk, .int .i64 (ht + 1), .int .i64 0, .int .i64 (si + (ls.length : Int) + 1), .int .i64 N.lg.i, .int .i64 (si + (ls.length : Int) + 1), .slice NA N.n nc, .slice MA N.n mc] 38)
         have x0 := qa hbx 0 _ rfl
         have x1 := qa hbx 1 _ rfl
         have x3 := qa hbx 3 _ rfl
         have x4 := qa hbx 4 _ rfl
         have x5 := qa hbx 5 _ rfl
         have x7 := qa hbx 7 _ rfl
         have hB5 := HG6.out.2.next (hb5 (.cells #[.int .i64 3, .int .i64 0, .int .i64 N.wk, .int .i64 (ht + 1), .int .i64 0, .int .i64 (si + (ls.length : Int) + 1), .int .i64 N.lg.i, .int .i64 (si + (ls.length : Int) + 1), .slice NA N.n nc, .slice MA N.n mc] 38))
         obtain ⟨⟨a0,a1⟩,_⟩ := row2 hB5.h
         have y1 : IntKind.i64.wrap (si + (ls.length : Int)) = si + (ls.length : Int) := IntWalk.i64_in _ (by omega)
         have y2 : IntKind.i64.wrap (si + (ls.length : Int) + 1) = si + (ls.length : Int) + 1 := IntWalk.i64_in _ (by omega)
         have y3 : IntKind.i64.wrap (ht + 1) = ht + 1 := IntWalk.i64_in _ (by omega)
         obtain ⟨⟨b0,b1,b2⟩,_⟩ := row3 hB5.s
         have HB5 := Lib.hid (And.intro hB5 (hb5 (.cells #[.int .i64 3, .int .i64 0, .int .i64 N.wk, .int .i64 (ht + 1), .int .i64 0, .int .i64 (si + (ls.length : Int) + 1), .int .i64 N.lg.i, .int .i64 (si + (ls.length : Int) + 1), .slice NA N.n nc, .slice MA N.n mc] 38)))
         clear hbx hB5 hb4 hb5 hS
         go_wp2_with fail
         obtain ⟨W5,hW5⟩ : ∃ W,w4.alloc (.cells #[.int .i64 3, .int .i64 0, .int .i64 N.wk, .int .i64 (ht + 1), .int .i64 0, .int .i64 (si + (ls.length : Int) + 1), .int .i64 N.lg.i, .int .i64 (si + (ls.length : Int) + 1), .slice NA N.n nc, .slice MA N.n mc] 38) = W := ⟨_,rfl⟩
         rw [hW5] at HB5 a0 a1 b0 b1 b2 x0 x1 x3 x4 x5 x7 ⊢
         obtain ⟨L0,hL0⟩ : ∃ L0,si + (ls.length : Int) + 1 = L0 := ⟨_,rfl⟩
         have hL0b : 1 <= L0 /\ L0 <= 1099511627776 + 1 /\ L0 <= 549755813888 + 21 := by omega
         rw [hL0] at HG6 ⊢
         clear a0 a1 b0 b1 b2 x0 x1 x3 x4 x5 x7 y1 y2
         go_loopw [129,13] (fun v129 v13 wx => ∃ (k : Nat) (N : Node) (q : Ptrs) (s : Nat) (xs : List MLay) (K : Nat -> Prop) (es : List Ent),k <= m /\ v129 = .int .i64 (k : Int) /\ v13 = .int .i64 (L0 + (k : Int)) /\ Goes w2 wx p (fun b => b < w2.heap.size) (ht + 1) P rs L0 ⟨si,st,sd⟩ k N q s xs K es) (fun v129 _ _ => m - (intOf v129).toNat)
         case atStart => exact ⟨0,N,q',s,xs',K',[],Nat.zero_le _,rfl,by simp,HG6.out.1.below HB5.out.2⟩
         case round =>
          obtain ⟨k,N,q,s,xs,K,es,hk,rfl,rfl,G⟩ := hrel
          have hB := HB2.out.kept G.kp
          have hZw : ∀ b,b < w2.heap.size -> b < wr.heap.size := fun b hb => Nat.lt_of_lt_of_le hb G.kp.size
          have hrl : rs.length = m := HA.out.2.1.1
          have hNl : N.lg.l.length <= 100 := by rw [G.l,List.length_append,hPl,G.n]; omega
          have hTb : 1 <= ht + 1 /\ ht + 1 <= 1099511627776 := by omega
          have hAb := able G.one hTb (by omega) (by rw [G.sn_]; show sd.length <= 50000; omega) (by rw [G.li]; omega)
          by_cases hk3 : k < m
          · have l1 : decide ((k : Int) < (m : Int)) = true := decide_eq_true (by omega)
            obtain ⟨g,off,eB,hg,_,hcB⟩ := HA.out.2.1.2.2.2 (by omega)
            obtain ⟨v,hv,D,dc,rfl,hdc,hlD,hzD⟩ := hcB k (by omega)
            have hcell := (World.cell?_of_block (a := ⟨g,off + k,none⟩) (hB.below.block g hg)).trans hv
            have hlD2 := hlD.below hB.below nlq
            have hdk : ∃ d,rs[k]'(by omega) = d := ⟨_,rfl⟩
            obtain ⟨d,hd⟩ := hdk
            rw [hd] at hcell hlD2 hzD
            clear hv hcB
            subst eB
            by_cases hk1 : 1000 < d.length
            · have l2 : decide ((1000 : Int) < (d.length : Int)) = true := decide_eq_true (by omega)
              have HBk := Lib.hid hB
              clear G hB hAb hlD hlD2 hzD hd
              go_wp2
              go_ret
              exact ⟨rfl,HBk.out.below⟩
            · have l2 : decide ((1000 : Int) < (d.length : Int)) = false := decide_eq_false (by omega)
              have hPr := qcb G.R hZw hAb D dc d ⟨hdc,hlD2,fun h0 g o e => by have := hzD h0 g o e; have := HB2.out.size; show g < w2.heap.size; omega⟩ (by omega)
              obtain ⟨r',p1,p2,p3,p4,p5⟩ := G.one.propose hTb (by rw [G.li]; omega) (d := d) (by omega)
              rw [p4] at hPr
              dsimp only at hPr
              rw [G.li] at hPr
              have HG := Lib.hid (And.intro G (And.intro p1 (And.intro p3 (And.intro p5 (And.intro hB hd)))))
              clear G p1 p2 p3 p4 p5 hB hAb hlD hlD2 hzD hd
              go_wp2_with fail
              refine hPr.mono ?_
              rintro e w6 ⟨rfl,s6,⟨q6,xs6,K6,R6,_,k6⟩,hf6⟩
              have hS6 := q9 R6 (by show r'.l.length <= 1000000; rw [HG.out.2.1,List.length_append]; simp only [List.length_singleton]; omega) (by show N.n <= 3; rw [HG.out.1.one.me.2]; omega)
              dsimp only at hS6
              obtain ⟨⟨a0,a1⟩,_⟩ := row2 (HB2.out.kept (HG.out.1.kp.trans k6)).h
              have hf4 := qbv
              have z1 : IntKind.i64.wrap (L0 + (k : Int) + 1) = L0 + (k : Int) + 1 := IntWalk.i64_in _ (by omega)
              have HR6 := Lib.hid (And.intro R6 (And.intro k6 hf6))
              clear R6 k6 hf6 hPr
              go_wp2_with fail
              refine hS6.mono ?_
              rintro e w7 ⟨NA7,nc7,MA7,mc7,rfl,_,_,_,_,hb7⟩
              go_wp2
              go_roundw
              case rel =>
               have hrl2 : k < rs.length := by omega
               refine ⟨k + 1,{ N with lg := r',cm := L0 + (k : Int) + 1 },q6,s6,xs6,K6,es ++ [⟨L0 + (k : Int) + 1,ht + 1,d⟩],by omega,by go_num,?_,⟨HR6.out.1.below hb7,HR6.out.2.2 HG.out.1.fr,?_,?_,?_,?_,?_,HG.out.1.sn_,(HG.out.1.kp.trans HR6.out.2.1).trans (qe hb7 nlq)⟩⟩
               · show Value.int .i64 _ = Value.int .i64 _
                 congr 1
                 omega
               · have h5 := HG.out.2.2.2.1
                 rw [HG.out.1.li] at h5
                 exact h5
               · show r'.l = _
                 rw [HG.out.2.1,HG.out.1.l,HG.out.1.li,List.append_assoc]
               · rw [List.map_append,HG.out.1.d,List.take_succ_eq_append_getElem hrl2,HG.out.2.2.2.2.2]
                 rfl
               · rw [List.length_append,HG.out.1.n]
                 rfl
               · show r'.lastI = _
                 rw [HG.out.2.2.1,HG.out.1.li]
                 omega
              case measure =>
               simp [intOf]
               omega
          · obtain rfl : k = m := by omega
            have hRd := qdn G.R hZw hAb
            rw [G.one.read] at hRd
            dsimp only at hRd
            rw [G.li] at hRd
            obtain ⟨N2,hN2⟩ : ∃ N2 : Node,({ N with cx := 1,td := [(1,L0 + (k : Int))] } : Node) = N2 := ⟨_,rfl⟩
            rw [hN2] at hRd
            have n1 : N2.ms.length = 0 := by rw [<- hN2]; show N.ms.length = 0; rw [G.one.ms]; rfl
            have n2 : N2.td.length = 1 := by rw [<- hN2]; rfl
            have n3 : rrow N2.td = [.int .i64 1, .int .i64 (L0 + (k : Int))] := by rw [<- hN2]; rfl
            have n4 : N2.lg = N.lg := by rw [<- hN2]
            have n5 : N2.sn = N.sn := by rw [<- hN2]
            have HG := Lib.hid (And.intro G (And.intro n3 (And.intro n4 (And.intro n5 hB))))
            clear G n3 n4 n5 hB hN2 hAb
            go_wp2_with fail
            refine hRd.mono ?_
            rintro e w6 ⟨rfl,q6,xs6,K6,R6,_,k6⟩
            have hTk := qdo R6 (by rw [HG.out.2.2.1]; exact HG.out.1.one.good) (by rw [HG.out.2.2.1]; omega) (by rw [HG.out.2.2.1]; exact HG.out.1.fr) (by rw [HG.out.2.2.2.1,HG.out.1.sn_]; show sd.length <= 50000; omega) (fun b hb => Nat.lt_of_lt_of_le (hZw b hb) k6.size)
            have HK6 := Lib.hid k6
            clear k6 R6 hRd
            go_wp2_with fail
            refine hTk.mono ?_
            rintro e w7 ⟨FA,fc,EA,ec,s7,rfl,_,_,_,R7,_,_,_,_,hTs,k7⟩
            rw [n1,n2]
            rw [n2] at hTs
            obtain ⟨gT,oT,eT,hgT,hcT,_⟩ := hTs.at_ (by omega) 0 (by omega)
            rw [HG.out.2.1] at hcT
            have t0 := hcT 0 (by omega) _ rfl
            have t1 := hcT 1 (by omega) _ rfl
            have hbo := heap_alloc_new w7 (.cells #[.int .i64 N2.ht, .int .i64 N2.hv, .slice FA N2.lg.changed.length fc, .int .i64 N2.took.2.sn.i, .int .i64 N2.took.2.sn.t, .slice EA N2.took.2.sn.d.length ec, .slice q6.M 0 q6.cM, .slice (some ⟨gT,oT,none⟩) 1 q6.cT] 47)
            have hgd2 : Good N2.took.1.lg := ⟨by show RL.base N2.lg.i N2.lg.t = true; rw [HG.out.2.2.1]; exact HG.out.1.one.good.base,by show runB N2.lg.i N2.lg.t N2.lg.l = true; rw [HG.out.2.2.1]; exact HG.out.1.one.good.run⟩
            have hli2 : N2.took.1.lg.lastI = L0 + (k : Int) := by
             have e1 : N2.took.1.lg.lastI = N2.lg.lastI := rfl
             rw [e1,HG.out.2.2.1,HG.out.1.li]
            have hpt : N2.took.1.part (L0 + 1) (L0 + (k : Int)) = es := by
             have h9 := qc4 (N := N2.took.1) hgd2 (P := P) (es := es) (by show N2.lg.l = _; rw [HG.out.2.2.1]; exact HG.out.1.l)
             rw [hli2,HG.out.1.n] at h9
             have e1 : L0 + (k : Int) - (k : Int) + 1 = L0 + 1 := by omega
             rw [e1] at h9
             exact h9
            have hEn := qcc (R7.below (w' := w7.alloc (.cells #[.int .i64 N2.ht, .int .i64 N2.hv, .slice FA N2.lg.changed.length fc, .int .i64 N2.took.2.sn.i, .int .i64 N2.took.2.sn.t, .slice EA N2.took.2.sn.d.length ec, .slice q6.M 0 q6.cM, .slice (some ⟨gT,oT,none⟩) 1 q6.cT] 47)) (blq.alloc nlq _)) hgd2 (by show N2.lg.l.length <= 1000000; rw [HG.out.2.2.1]; omega) (L0 + 1) (L0 + (k : Int)) ⟨by omega,by omega⟩ ⟨by omega,by omega⟩
            rw [hpt,HG.out.1.n] at hEn
            have z1 : IntKind.i64.wrap (L0 + (k : Int) - (k : Int)) = L0 := by rw [show L0 + (k : Int) - (k : Int) = L0 by omega]; exact IntWalk.i64_in _ (by omega)
            have z2 : IntKind.i64.wrap (L0 + 1) = L0 + 1 := IntWalk.i64_in _ (by omega)
            have z3 : IntKind.i64.wrap L0 = L0 := IntWalk.i64_in _ (by omega)
            have H7 := Lib.hid (And.intro k7 (And.intro hbo hgT))
            clear R7 k7 hbo hgT hgd2 hli2 hpt hcT hTs hTk
            go_wp2_with fail
            refine hEn.mono ?_
            rintro e w8 ⟨A8,c8,rfl,hE8,hb8⟩
            have h78 : Below w7.heap.size w7 w8 := (blq.alloc nlq _).trans (hb8.mono (by simp))
            have u0 := (World.cell?_of_block (a := ⟨gT,oT + 0 * 2 + 0,none⟩) (h78.block gT H7.out.2.2)).trans t0
            have u1 := (World.cell?_of_block (a := ⟨gT,oT + 0 * 2 + 1,none⟩) (h78.block gT H7.out.2.2)).trans t1
            have hbo8 := (hb8.block w7.heap.size (by simp)).trans H7.out.2.1
            have hB8 : Below w.heap.size w w8 := (HB2.out.kept (((HG.out.1.kp.trans HK6.out).trans H7.out.1).trans (qe h78 nlq))).below
            have HE := Lib.hid (And.intro hE8 (And.intro u0 (And.intro u1 (And.intro hbo8 (And.intro hB8 eT)))))
            clear hE8 u0 u1 hbo8 hB8 t0 t1 hb8 h78 hEn eT
            go_wp2_with fail
            go_loopw [189] (fun v189 wx => ∃ j : Nat,j <= k /\ v189 = .int .i64 (j : Int) /\ Below w8.heap.size w8 wx) (fun v189 _ => k - (intOf v189).toNat)
            case atStart => exact ⟨0,Nat.zero_le _,rfl,blq⟩
            case round =>
             obtain ⟨j,hj,rfl,hb9⟩ := hrel
             have hbz : Below w.heap.size w wr := HE.out.2.2.2.2.1.trans (hb9.mono HE.out.2.2.2.2.1.size)
             by_cases hj2 : j < k
             · have l1 : decide ((j : Int) < (k : Int)) = true := decide_eq_true (by omega)
               obtain ⟨g8,o8,F8,c8',e8,hg8,_,_,hc8,hl8⟩ := (HE.out.1.below hb9 nlq).at_ j hj2
               obtain ⟨g,off,eB,hg,_,hcB⟩ := HA.out.2.1.2.2.2 (by omega)
               obtain ⟨v,hv,D,dc,rfl,hdc,hlD,hzD⟩ := hcB j (by omega)
               have hcell := (World.cell?_of_block (a := ⟨g,off + j,none⟩) (hbz.block g hg)).trans hv
               have hlD2 := hlD.below hbz nlq
               have hed : (es[j]'(by have := HG.out.1.n; omega)).d = rs[j]'(by omega) := by
                have h9 := HG.out.1.d
                have h8 : (es.map (·.d))[j]? = (rs.take k)[j]? := by rw [h9]
                rw [List.getElem?_map,List.getElem?_eq_getElem (by have := HG.out.1.n; omega),List.getElem?_take,if_pos hj2,List.getElem?_eq_getElem (by omega)] at h8
                simpa using h8
               rw [hed] at hc8 hl8
               obtain ⟨d,hd⟩ : ∃ d,rs[j]'(by omega) = d := ⟨_,rfl⟩
               rw [hd] at hcell hlD2 hc8 hl8
               clear hv hcB hed hd hlD hzD
               subst eB e8
               have v1 := hl8.text Try.underlying24 Try.underlying5 Try.underlying9
               have v2 := hlD2.text Try.underlying24 Try.underlying5 Try.underlying9
               have v3 := (hl8.below blq.drew nlq).text Try.underlying24 Try.underlying5 Try.underlying9
               have v4 := (hlD2.below blq.drew nlq).text Try.underlying24 Try.underlying5 Try.underlying9
               generalize d.length = dl at *
               generalize (⟨d.toArray⟩ : ByteArray) = str at *
               have HZ := Lib.hid (And.intro hbz hb9)
               clear hl8 hlD2
               go_wp2_with fail
               go_upto_region 36 with fail
               go_cut [203] (fun v wx => v = .bool false /\ Below wr.heap.size wr wx)
               case first =>
                go_region
                all_goals
                 go_wp2_with fail
                 go_meet
                 first | exact ⟨rfl,blq⟩ | exact ⟨rfl,blq.drew⟩
               case rest =>
                obtain ⟨rfl,hbc⟩ := hcut
                go_wp2_with fail
                go_roundw
                case rel => exact ⟨j + 1,hj2,by go_num,HZ.out.2.trans (hbc.mono HZ.out.2.size)⟩
                case measure =>
                 simp [intOf]
                 omega
             · obtain rfl : j = k := by omega
               have x6 := qa ((hb9.block _ (hlt HE.out.2.2.2.1)).trans HE.out.2.2.2.1) 6 _ rfl
               have x7 := qa ((hb9.block _ (hlt HE.out.2.2.2.1)).trans HE.out.2.2.2.1) 7 _ rfl
               have gl := qed HE.out.2.1
               have u0 := (World.cell?_of_block (a := ⟨gT,oT + 0 * 2 + 0,none⟩) (hb9.block gT gl)).trans HE.out.2.1
               have u1 := (World.cell?_of_block (a := ⟨gT,oT + 0 * 2 + 1,none⟩) (hb9.block gT gl)).trans HE.out.2.2.1
               simp only [Nat.zero_mul,Nat.add_zero] at u0 u1
               have HZ := Lib.hid hbz
               clear hbz hb9
               go_wp2
               go_ret
               exact ⟨rfl,HZ.out⟩
    · have hno : qF ht hv = false \/ (qF ht hv = true /\ qG si st sd.length = false) \/ (qF ht hv = true /\ qG si st sd.length = true /\ ht < (⟨si,st,ls,0⟩ : RL).lastT) := by
       cases h1 : qF ht hv with
       | false => exact .inl rfl
       | true =>
         cases h2 : qG si st sd.length with
         | false => exact .inr (.inl ⟨rfl,rfl⟩)
         | true => exact .inr (.inr ⟨rfl,rfl,by
            rcases Int.lt_or_le ht (⟨si,st,ls,0⟩ : RL).lastT with h3 | h3
            · exact h3
            · exact absurd ⟨h1,h2,h3⟩ hyes⟩)
      have hN := qd5 0 1 ht hv ⟨si,st,sd⟩ ls E c A cA (fun b => b < w.heap.size) w2 ⟨by decide,by decide,by decide⟩ hno qaQ hqr (HA.out.2.2.1.below HB2.out.below nlq) (fun h0 g o e => by have := HA.out.2.2.2 h0 g o e; omega) (by show sd.length <= 50000; omega) (HA.out.1.below HB2.out.below nlq) (by omega)
      clear hno hyes hqr
      go_wp2_with fail
      refine hN.mono ?_
      rintro e w3 ⟨rfl,hb3⟩
      go_wp2
      go_ret
      exact ⟨rfl,(HB2.out.next hb3).below⟩
end Go.Proofs.Ytmiijlecfiddmaa.raftAlone
