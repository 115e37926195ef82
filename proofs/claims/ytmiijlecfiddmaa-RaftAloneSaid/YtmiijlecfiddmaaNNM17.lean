/- The program's Add, where an entry is added. -/
import Derived.Test.YtmiijlecfiddmaaNNM08
import Derived.Test.YtmiijlecfiddmaaNNM10
set_option linter.unusedVariables false
set_option linter.unusedSimpArgs false
set_option maxRecDepth 100000
set_option maxHeartbeats 3200000
namespace Go.Proofs.Ytmiijlecfiddmaa
open Go.RowKit
theorem qa3 {w : World} {p : Nat} {r : RL} {s : Nat} {Z : Nat -> Prop} (h : Lg w p r s Z) (hZ : ∀ q,Z q -> q < w.heap.size) (hm : r.l.length <= 900000) (hg : Good r) (t : Int) (D : Option Addr) (dn dc : Nat) (d : List UInt8) (hx : qh w Z ⟨⟨r.lastI + 1,t,d⟩,D,dc⟩) (hdn : d.length = dn) (hyes : runB r.lastI r.lastT [⟨r.lastI + 1,t,d⟩] = true) :
 Calls Try.prog 24 #[ptrV p, .int .i64 t, .slice D dn dc] w fun e w' => ∃ E k,e = .returned (.tuple #[.agg #[.int .i64 (r.lastI + 1), .int .i64 t, .slice E dn k], .int .i64 0]) /\ qh w' (blk E) ⟨⟨r.lastI + 1,t,d⟩,E,k⟩ /\ (∀ q,blk E q -> w.heap.size <= q) ∧
  Lg w' p (r.more ⟨r.lastI + 1,t,d⟩) s (fun q => Z q \/ blk E q) /\ qf Z w w' := by
 obtain ⟨A,c,xs,h⟩ := h
 subst hdn
 have hmore : (r.more ⟨r.lastI + 1,t,d⟩).i = r.i /\ (r.more ⟨r.lastI + 1,t,d⟩).t = r.t /\ (r.more ⟨r.lastI + 1,t,d⟩).l = r.l ++ [⟨r.lastI + 1,t,d⟩] := by
  obtain ⟨a,b,c⟩ := qap (⟨r.i,r.t,r.l ++ [⟨r.lastI + 1,t,d⟩],r.f⟩ : RL) (r.lastI + 1)
  exact ⟨b,c,a⟩
 rw [qbq,Bool.and_eq_true] at hyes
 obtain ⟨hri,hlt0⟩ := hyes
 have hlt1 := of_decide_eq_true hlt0
 have hri2 := (qw _ _ _).1 hri
 have hlim := hg.lim
 have hli := hg.lastI
 have hr := heap_alloc_new w (.cells zE 31)
 have hb : Below w.heap.size w (w.alloc (.cells zE 31)) := (Below.refl _ _).alloc (Nat.le_refl _) _
 have hL := qR (h.rd.below hb) (by omega)
 have hR := fun W => qbp (r.lastI + 1) t D d.length dc W
 rw [hri] at hR
 generalize hr'' : r.more ⟨r.lastI + 1,t,d⟩ = r' at *
 generalize r.lastI = li at *
 generalize r.lastT = lt at *
 obtain ⟨J,hJJ⟩ : ∃ J,J = li + 1 := ⟨_,rfl⟩
 have hJ : wrap64 (li + 1) = J := by rw [hJJ,<- IntWalk.i64_left,IntWalk.i64_in _ (by omega)]
 rw [<- hJJ] at hmore hR hx ⊢
 have q1 : (t < lt) = False := eq_false (by omega)
 have q1d : decide (t < lt) = false := decide_eq_false (by omega)
 have hdb : d.length <= 140737488355328 := by omega
 have HM := Lib.hid hmore
 have hmn : r.l.length + 1 <= 1000000 := by omega
 clear hri hlt0 hlt1 hri2 hlim hli hJJ hm hr'' hg hmore
 generalize hdl : d.length = dl at *
 have HDL := Lib.hid hdl
 clear hdl
 go_enter Try.func24,Try.ntmps24
 go_wp2_with fail
 refine hL.mono ?_
 rintro e w1 ⟨rfl,hb1⟩
 have hr1 := (hb1.block _ (hlt hr)).trans hr
 have hb2 := hb.trans (hb1.mono hb.size)
 have hv3 := heap_alloc_new w1 (.cells #[.int .i64 J, .int .i64 t, .slice D dl dc] 31)
 have hb3 : Below w.heap.size w (w1.alloc (.cells #[.int .i64 J, .int .i64 t, .slice D dl dc] 31)) := hb2.alloc hb2.size _
 have hr3 : (w1.alloc (.cells #[.int .i64 J, .int .i64 t, .slice D dl dc] 31)).heap[w.heap.size]? = some (.cells zE 31) := (Below.heap_alloc _ _ _ (hlt hr1)).trans hr1
 have hR := hR (w1.alloc (.cells #[.int .i64 J, .int .i64 t, .slice D dl dc] 31))
 have hs1 := hb2.size
 clear hL hb hr hb1 hr1 hb2
 go_wp2_with fail
 refine hR.mono ?_
 rintro e w2 ⟨rfl,hb4⟩
 have hr4 := (hb4.block _ (hlt hr3)).trans hr3
 have hv4 := (hb4.block _ (hlt hv3)).trans hv3
 have hbw := hb3.trans (hb4.mono hb3.size)
 have h2 : LgAt w2 p r s (fun q => Z q \/ (w.heap.size <= q /\ q < w2.heap.size)) A c xs := (h.grow.keep hbw.size fun q hq _ => hbw.block q hq).mono fun q hq => hq.elim .inl fun e => .inr e.1
 have hC := fun W (hW : Below w2.heap.size w2 W) => qau J t D dl dc d W ((show Lies w D dl dc d by rw [<- show d.length = dl from HDL.out]; exact hx.2.1).below (hbw.trans (hW.mono hbw.size)) (Nat.le_refl _)) hdb
 have hs2 := hbw.size
 have hZ2 : ∀ q,Z q \/ (w.heap.size <= q /\ q < w2.heap.size) -> q < w2.heap.size := fun q hq => hq.elim (fun e => by have := hZ q e; omega) fun e => e.2
 clear hR hb4 hb3 hr3 hv3
 obtain ⟨⟨c0,c1,c2,c3⟩,_⟩ := row4 h2.row
 obtain ⟨⟨x0,x1,x2⟩,_⟩ := row3 hv4
 have hSX : ∀ X,Below w2.heap.size w2 X -> Spot X A r.l.length c xs := fun X hX => h2.spot.keep fun q hq => hX.block q (h2.spot.lt hq)
 have hnA : ¬ blk A p := fun e => (h2.own p e).1 rfl
 have hplt := hlt h2.row
 go_upto_region 7 with fail
 go_cut [41] (fun v wx => Lg wx p ⟨r.i,r.t,r.l ++ [⟨J,t,d⟩],0⟩ s (fun q => Z q \/ (w.heap.size <= q /\ q < w2.heap.size)) /\ qf (fun q => Z q \/ (w.heap.size <= q /\ q < w2.heap.size)) w2 wx)
 case first =>
  go_region_law (first
   | (go_simp
      go_at_call 44
      refine (hC _ (by first | exact Below.refl _ _ | exact (Below.refl _ _).drew)).mono ?_
      rintro e w3 ⟨E,k,rfl,hok3,_,hb3⟩
      have hb3' : Below w2.heap.size w2 w3 := by first | exact hb3 | exact (Below.refl _ _).drew.trans hb3
      obtain ⟨⟨d0,d1,d2,d3⟩,_⟩ := row4 ((hb3'.block _ hplt).trans h2.row)
      obtain ⟨⟨y0,y1,y2⟩,_⟩ := row3 ((hb3'.block _ (hlt hv4)).trans hv4)
      have hp3 : p < w3.heap.size := Nat.lt_of_lt_of_le hplt hb3'.size)
   | (refine qa1 _ (by rfl) _ _ (by rfl) A r.l.length c xs (by rfl) (hSX _ (by repeat (first | exact hb3' | apply Below.drew | refine Below.alloc ?_ hb3'.size _))) (some ⟨w3.heap.size,0,none⟩) 1 1 [⟨⟨J,t,d⟩,E,k⟩] (by rfl) (fun e => by cases e) rfl (fun b e => by cases e; exact cells_one ⟨⟨J,t,d⟩,E,k⟩ HDL.out (heap_alloc_new _ _)) hmn ?_
      intro A' c' w4 hsp hA hgr
      obtain ⟨⟨e0,e1,e2,e3⟩,⟨f0,f1,f2,f3⟩⟩ := row4 ((hgr.block p (by rw [World.size_alloc]; omega) hnA).trans ((Below.heap_alloc _ _ _ hp3).trans ((hb3'.block _ hplt).trans h2.row)))))
  all_goals
   have hfin := h2.added (g := 0) hZ2 hb3' (hok3.mono fun q hq => Nat.le_trans (Nat.le_add_right _ 2) (show w2.heap.size + 2 <= q from hq)) ((Below.refl w3.heap.size w3).alloc (Nat.le_refl _) (.cells #[.int .i64 J, .int .i64 t, .slice E dl k] 31)) hsp hA hgr
   have HF := Lib.hid hfin
   clear hfin hsp hA hgr hok3 hb3 hb3'
   go_wp2_with fail
   go_meet
   exact HF.out
 case rest =>
  obtain ⟨hlg,hk⟩ := hcut
  have hr5 := (hk.block _ (hlt hr4) (.inr ⟨Nat.le_refl _,hlt hr4⟩)).trans hr4
  have hv5 := (hk.block _ (hlt hv4) (.inr ⟨hs1,hlt hv4⟩)).trans hv4
  obtain ⟨⟨y0,y1,y2⟩,_⟩ := row3 hv5
  have hx5 : Lies wc D dl dc d := by
   rw [<- show d.length = dl from HDL.out]
   exact (((hx.keep hs2 fun q hq hz => hbw.block q hq).mono (Z' := fun q => Z q \/ (w.heap.size <= q /\ q < w2.heap.size)) fun q hq => .inl hq).keeps hk).2.1
  have hC5 := qau J t D dl dc d wc hx5 hdb
  have hks := hk.size
  have hN2 : w.heap.size < w2.heap.size := hlt hr4
  have HK := Lib.hid hk
  have HL := Lib.hid hlg
  clear hC hx5 hv5 hk hlg hSX hnA h2 x0 x1 x2 c0 c1 c2 c3
  go_wp2_with fail
  refine hC5.mono ?_
  rintro e w5 ⟨E,k,rfl,hok,hE5,hb5⟩
  have hr6 := (hb5.block _ (hlt hr5)).trans hr5
  obtain ⟨_,⟨f0,f1,f2⟩⟩ := row3 hr6
  have hfin := qbf w5 w.heap.size (.int .i64 J) (.int .i64 t) (.slice E dl k) _ _ _ _ hr6
  have hoff : ∀ q,q ≠ w.heap.size -> (((w5.setCell ⟨w.heap.size,0,none⟩ (.int .i64 J)).setCell ⟨w.heap.size,1,none⟩ (.int .i64 t)).setCell ⟨w.heap.size,2,none⟩ (.slice E dl k)).heap[q]? = w5.heap[q]? := fun q hq => qc1 w5 w.heap.size _ _ _ q hq
  have hbz := hb5.size
  have hok6 : qh (((w5.setCell ⟨w.heap.size,0,none⟩ (.int .i64 J)).setCell ⟨w.heap.size,1,none⟩ (.int .i64 t)).setCell ⟨w.heap.size,2,none⟩ (.slice E dl k)) (fun q => wc.heap.size + 2 <= q) ⟨⟨J,t,d⟩,E,k⟩ := hok.keep (by simp) fun q _ hq => hoff q (by omega)
  have hlg6 : Lg (((w5.setCell ⟨w.heap.size,0,none⟩ (.int .i64 J)).setCell ⟨w.heap.size,1,none⟩ (.int .i64 t)).setCell ⟨w.heap.size,2,none⟩ (.slice E dl k)) p ⟨r.i,r.t,r.l ++ [⟨J,t,d⟩],0⟩ s (fun q => (Z q \/ (w.heap.size <= q /\ q < w2.heap.size)) \/ wc.heap.size <= q) :=
   ((Lg.grow HL.out).below hb5).keep (by simp) fun q _ hq => hoff q fun e => hq (.inl (.inr ⟨by omega,by omega⟩))
  have hkp : qf Z w (((w5.setCell ⟨w.heap.size,0,none⟩ (.int .i64 J)).setCell ⟨w.heap.size,1,none⟩ (.int .i64 t)).setCell ⟨w.heap.size,2,none⟩ (.slice E dl k)) := by
   have k1 := qe (Z := Z) hbw (Nat.le_refl _)
   have k2 : qf Z w2 wc := HK.out.mono fun q hq => .inl hq
   have k3 := qe (Z := Z) hb5 (Nat.le_refl _)
   have hnz : ¬ Z w.heap.size := fun e => by have := hZ _ e; omega
   exact (((((k1.trans k2).trans k3).trans (qg _ ⟨w.heap.size,0,none⟩ _ hnz)).trans (qg _ ⟨w.heap.size,1,none⟩ _ hnz)).trans (qg _ ⟨w.heap.size,2,none⟩ _ hnz))
  have HL6 := Lib.hid hlg6
  have HK6 := Lib.hid hkp
  have HO6 := Lib.hid hok6
  have HE5 := Lib.hid hE5
  clear hlg6 hkp hok6 hok hb5 hr5 hr6 hr4 hv4 HK HL hC5
  go_wp2
  refine bodyPost_ret (qbz (n := w.heap.size) rfl rfl hfin Try.underlying31 rfl (by kernel_rfl)) rfl ?_
  have hm := HM.out
  refine ⟨E,k,rfl,⟨HO6.out.1,HO6.out.2.1,fun _ q o e => ⟨o,e⟩⟩,fun q hq => ?_,?_,HK6.out⟩
  · have := HE5.out q hq
    omega
  · refine (Lg.mono HL6.out fun q hq => ?_).same hm.1 hm.2.1 hm.2.2
    rcases hq with hq | hq
    · exact .inl (.inl hq)
    · have := HE5.out q hq
      exact .inr (by omega)
end Go.Proofs.Ytmiijlecfiddmaa
