/- The program's Add, where an entry is added. -/
import Derived.Test.YtogbhedbgcmckaaGreatNNM24
import Derived.Test.YtogbhedbgcmckaaGreatNNM01
import Derived.Test.YtogbhedbgcmckaaGreatNNM28
import Derived.Test.YtogbhedbgcmckaaGreatNNM26
import Derived.Test.YtogbhedbgcmckaaGreatNNM27
import Derived.Sort.BigQuietIn
import Derived.Sort.QuietTacIn
set_option linter.unusedVariables false
set_option linter.unusedSimpArgs false
set_option maxRecDepth 100000
set_option maxHeartbeats 3200000
namespace Go.Proofs.YtogbhedbgcmckaaGreat
open Go.RowKit
theorem qkg {w : World} {p : Nat} {r : RL} {s : Nat} {Z : Nat -> Prop} (h : LgR w p r s Z) (hZ : ∀ q,Z q -> q < w.heap.size) (hm : r.l.length <= 900000) (hg : qk r) (t : Int) (D : Option Addr) (dn dc : Nat) (d : List UInt8) (hx : qs w Z ⟨⟨r.lastI + 1,t,d⟩,D,dc⟩) (hdn : d.length = dn) (hyes : runB r.lastI r.lastT [⟨r.lastI + 1,t,d⟩] = true) :
 Calls Tryz.prog 51 #[ptrV p, .int .i64 t, .slice D dn dc] w fun e w' => ∃ E k,e = .returned (.tuple #[.agg #[.int .i64 (r.lastI + 1), .int .i64 t, .slice E dn k], .int .i64 0]) /\ qs w' (blkR E) ⟨⟨r.lastI + 1,t,d⟩,E,k⟩ /\ (∀ q,blkR E q -> w.heap.size <= q) ∧
  LgR w' p (r.more ⟨r.lastI + 1,t,d⟩) s (fun q => Z q \/ blkR E q) /\ qa Z w w' := by
 obtain ⟨A,c,xs,h⟩ := h;subst hdn
 have hmore : (r.more ⟨r.lastI + 1,t,d⟩).i = r.i /\ (r.more ⟨r.lastI + 1,t,d⟩).t = r.t /\ (r.more ⟨r.lastI + 1,t,d⟩).l = r.l ++ [⟨r.lastI + 1,t,d⟩] := by
  obtain ⟨a,b,c⟩ := qdP (⟨r.i,r.t,r.l ++ [⟨r.lastI + 1,t,d⟩],r.f⟩ : RL) (r.lastI + 1);exact ⟨b,c,a⟩
 rw [qiS,Bool.and_eq_true] at hyes;obtain ⟨hri,hlt0⟩ := hyes;have hlt1 := of_decide_eq_true hlt0;have hri2 := (qaj _ _ _).1 hri;have hlim := hg.lim;have hli := hg.lastI;have hr := heap_alloc_new w (.cells zE 117);have hb : Below w.heap.size w (w.alloc (.cells zE 117)) := (Below.refl _ _).alloc (Nat.le_refl _) _;have hL := qaZ (h.rd.below hb) (by omega)
 have hR := fun W => qbf (r.lastI + 1) t D d.length dc W
 rw [hri] at hR;generalize hr'' : r.more ⟨r.lastI + 1,t,d⟩ = r' at *;generalize r.lastI = li at *;generalize r.lastT = lt at *;obtain ⟨J,hJJ⟩ : ∃ J,J = li + 1 := ⟨_,rfl⟩
 have hJ : wrap64 (li + 1) = J := by rw [hJJ,<- IntWalk.i64_left,IntWalk.i64_in _ (by omega)]
 rw [<- hJJ] at hmore hR hx ⊢;have q1 : (t < lt) = False := eq_false (by omega);have q1d : decide (t < lt) = false := decide_eq_false (by omega)
 have hdb : d.length <= 140737488355328 := by omega
 have HM := Lib.hid hmore
 have hmn : r.l.length + 1 <= 1000000 := by omega
 clear hri hlt0 hlt1 hri2 hlim hli hJJ hm hr'' hg hmore;generalize hdl : d.length = dl at *;have HDL := Lib.hid hdl;clear hdl
 go_enter Tryz.func51,Tryz.ntmps51
 go_wp2_with fail
 refine hL.mono ?_;rintro e w1 ⟨rfl,hb1⟩;have hr1 := (hb1.block _ (hlt hr)).trans hr;have hb2 := hb.trans (hb1.mono hb.size);have hv3 := heap_alloc_new w1 (.cells #[.int .i64 J, .int .i64 t, .slice D dl dc] 117);have hb3 : Below w.heap.size w (w1.alloc (.cells #[.int .i64 J, .int .i64 t, .slice D dl dc] 117)) := hb2.alloc hb2.size _;have hr3 : (w1.alloc (.cells #[.int .i64 J, .int .i64 t, .slice D dl dc] 117)).heap[w.heap.size]? = some (.cells zE 117) := (Below.heap_alloc _ _ _ (hlt hr1)).trans hr1;have hR := hR (w1.alloc (.cells #[.int .i64 J, .int .i64 t, .slice D dl dc] 117));have hs1 := hb2.size;clear hL hb hr hb1 hr1 hb2
 go_wp2_with fail
 refine hR.mono ?_;rintro e w2 ⟨rfl,hb4⟩;have hr4 := (hb4.block _ (hlt hr3)).trans hr3;have hv4 := (hb4.block _ (hlt hv3)).trans hv3;have hbw := hb3.trans (hb4.mono hb3.size)
 have h2 : LgAt w2 p r s (fun q => Z q \/ (w.heap.size <= q /\ q < w2.heap.size)) A c xs := (h.grow.keep hbw.size fun q hq _ => hbw.block q hq).mono fun q hq => hq.elim .inl fun e => .inr e.1
 have hC := fun W (hW : Below w2.heap.size w2 W) => qcq J t D dl dc d W ((show Lies w D dl dc d by rw [<- show d.length = dl from HDL.out]; exact hx.2.1).below (hbw.trans (hW.mono hbw.size)) (Nat.le_refl _)) hdb
 have hs2 := hbw.size
 have hZ2 : ∀ q,Z q \/ (w.heap.size <= q /\ q < w2.heap.size) -> q < w2.heap.size := fun q hq => hq.elim (fun e => by have := hZ q e; omega) fun e => e.2
 clear hR hb4 hb3 hr3 hv3;obtain ⟨⟨c0,c1,c2,c3⟩,_⟩ := row4 h2.row;obtain ⟨⟨x0,x1,x2⟩,_⟩ := row3 hv4
 have hSX : ∀ X,Below w2.heap.size w2 X -> qL X A r.l.length c xs := fun X hX => h2.spot.keep fun q hq => hX.block q (h2.spot.lt hq)
 have hnA : ¬ blkR A p := fun e => (h2.own p e).1 rfl
 have hplt := hlt h2.row
 go_upto_region 7 with fail
 go_cut [41] (fun v wx => LgR wx p ⟨r.i,r.t,r.l ++ [⟨J,t,d⟩],0⟩ s (fun q => Z q \/ (w.heap.size <= q /\ q < w2.heap.size)) /\ qa (fun q => Z q \/ (w.heap.size <= q /\ q < w2.heap.size)) w2 wx)
 case first =>
  go_region_law (first
   | (go_simp
      go_at_call 103
      refine (hC _ (by first | exact Below.refl _ _ | exact (Below.refl _ _).drew)).mono ?_;rintro e w3 ⟨E,k,rfl,hok3,_,hb3⟩
      have hb3' : Below w2.heap.size w2 w3 := by first | exact hb3 | exact (Below.refl _ _).drew.trans hb3
      obtain ⟨⟨d0,d1,d2,d3⟩,_⟩ := row4 ((hb3'.block _ hplt).trans h2.row);obtain ⟨⟨y0,y1,y2⟩,_⟩ := row3 ((hb3'.block _ (hlt hv4)).trans hv4)
      have hp3 : p < w3.heap.size := Nat.lt_of_lt_of_le hplt hb3'.size)
   | (refine qdy _ (by rfl) _ _ (by rfl) A r.l.length c xs (by rfl) (hSX _ (by repeat (first | exact hb3' | apply Below.drew | refine Below.alloc ?_ hb3'.size _))) (some ⟨w3.heap.size,0,none⟩) 1 1 [⟨⟨J,t,d⟩,E,k⟩] (by rfl) (fun e => by cases e) rfl (fun b e => by cases e; exact cells_one ⟨⟨J,t,d⟩,E,k⟩ HDL.out (heap_alloc_new _ _)) hmn ?_
      intro A' c' w4 hsp hA hgr
      obtain ⟨⟨e0,e1,e2,e3⟩,⟨f0,f1,f2,f3⟩⟩ := row4 ((hgr.block p (by rw [World.size_alloc]; omega) hnA).trans ((Below.heap_alloc _ _ _ hp3).trans ((hb3'.block _ hplt).trans h2.row)))))
  all_goals
   have hfin := h2.added (g := 0) hZ2 hb3' (hok3.mono fun q hq => Nat.le_trans (Nat.le_add_right _ 2) (show w2.heap.size + 2 <= q from hq)) ((Below.refl w3.heap.size w3).alloc (Nat.le_refl _) (.cells #[.int .i64 J, .int .i64 t, .slice E dl k] 117)) hsp hA hgr;have HF := Lib.hid hfin;clear hfin hsp hA hgr hok3 hb3 hb3'
   go_wp2_with fail
   go_meet
   exact HF.out
 case rest =>
  obtain ⟨hlg,hk⟩ := hcut;have hr5 := (hk.block _ (hlt hr4) (.inr ⟨Nat.le_refl _,hlt hr4⟩)).trans hr4;have hv5 := (hk.block _ (hlt hv4) (.inr ⟨hs1,hlt hv4⟩)).trans hv4;obtain ⟨⟨y0,y1,y2⟩,_⟩ := row3 hv5
  have hx5 : Lies wc D dl dc d := by
   rw [<- show d.length = dl from HDL.out];exact (((hx.keep hs2 fun q hq hz => hbw.block q hq).mono (Z' := fun q => Z q \/ (w.heap.size <= q /\ q < w2.heap.size)) fun q hq => .inl hq).keeps hk).2.1
  have hC5 := qcq J t D dl dc d wc hx5 hdb;have hks := hk.size;have hN2 : w.heap.size < w2.heap.size := hlt hr4;have HK := Lib.hid hk;have HL := Lib.hid hlg;clear hC hx5 hv5 hk hlg hSX hnA h2 x0 x1 x2 c0 c1 c2 c3
  go_wp2_with fail
  refine hC5.mono ?_;rintro e w5 ⟨E,k,rfl,hok,hE5,hb5⟩;have hr6 := (hb5.block _ (hlt hr5)).trans hr5;obtain ⟨_,⟨f0,f1,f2⟩⟩ := row3 hr6;have hfin := qN w5 w.heap.size (.int .i64 J) (.int .i64 t) (.slice E dl k) _ _ _ _ hr6
  have hoff : ∀ q,q ≠ w.heap.size -> (((w5.setCell ⟨w.heap.size,0,none⟩ (.int .i64 J)).setCell ⟨w.heap.size,1,none⟩ (.int .i64 t)).setCell ⟨w.heap.size,2,none⟩ (.slice E dl k)).heap[q]? = w5.heap[q]? := fun q hq => qiR w5 w.heap.size _ _ _ q hq
  have hbz := hb5.size;have hok6 : qs (((w5.setCell ⟨w.heap.size,0,none⟩ (.int .i64 J)).setCell ⟨w.heap.size,1,none⟩ (.int .i64 t)).setCell ⟨w.heap.size,2,none⟩ (.slice E dl k)) (fun q => wc.heap.size + 2 <= q) ⟨⟨J,t,d⟩,E,k⟩ := hok.keep (by simp) fun q _ hq => hoff q (by omega)
  have hlg6 : LgR (((w5.setCell ⟨w.heap.size,0,none⟩ (.int .i64 J)).setCell ⟨w.heap.size,1,none⟩ (.int .i64 t)).setCell ⟨w.heap.size,2,none⟩ (.slice E dl k)) p ⟨r.i,r.t,r.l ++ [⟨J,t,d⟩],0⟩ s (fun q => (Z q \/ (w.heap.size <= q /\ q < w2.heap.size)) \/ wc.heap.size <= q) :=
   ((LgR.grow HL.out).below hb5).keep (by simp) fun q _ hq => hoff q fun e => hq (.inl (.inr ⟨by omega,by omega⟩))
  have hkp : qa Z w (((w5.setCell ⟨w.heap.size,0,none⟩ (.int .i64 J)).setCell ⟨w.heap.size,1,none⟩ (.int .i64 t)).setCell ⟨w.heap.size,2,none⟩ (.slice E dl k)) := by
   have k1 := qb (Z := Z) hbw (Nat.le_refl _)
   have k2 : qa Z w2 wc := HK.out.mono fun q hq => .inl hq
   have k3 := qb (Z := Z) hb5 (Nat.le_refl _)
   have hnz : ¬ Z w.heap.size := fun e => by have := hZ _ e; omega
   exact (((((k1.trans k2).trans k3).trans (qg _ ⟨w.heap.size,0,none⟩ _ hnz)).trans (qg _ ⟨w.heap.size,1,none⟩ _ hnz)).trans (qg _ ⟨w.heap.size,2,none⟩ _ hnz))
  have HL6 := Lib.hid hlg6;have HK6 := Lib.hid hkp;have HO6 := Lib.hid hok6;have HE5 := Lib.hid hE5;clear hlg6 hkp hok6 hok hb5 hr5 hr6 hr4 hv4 HK HL hC5;go_wp2;refine bodyPost_ret (qm (n := w.heap.size) rfl rfl hfin Tryz.underlying117 rfl (by kernel_rfl)) rfl ?_;have hm := HM.out;refine ⟨E,k,rfl,⟨HO6.out.1,HO6.out.2.1,fun _ q o e => ⟨o,e⟩⟩,fun q hq => ?_,?_,HK6.out⟩
  · have := HE5.out q hq;omega
  · refine (LgR.mono HL6.out fun q hq => ?_).same hm.1 hm.2.1 hm.2.2;rcases hq with hq | hq
    · exact .inl (.inl hq)
    · have := HE5.out q hq;exact .inr (by omega)
end Go.Proofs.YtogbhedbgcmckaaGreat
set_option linter.unusedVariables false
set_option linter.unusedSimpArgs false
set_option maxRecDepth 100000
set_option maxHeartbeats 3200000
namespace Go.Proofs.YtogbhedbgcmckaaGreat
open Go.RowKit Go.Shelf
attribute [local go_sem] Oper.semAt_some
variable {w : World} {p : Nat} {N : Node} {Z : Nat -> Prop} {q : Ptrs} {s : Nat} {xs : List MLay} {K : Nat -> Prop}
def nexts (f : Nat -> Int) (v : Int) (pre : List Nat) : Nat -> Int := pre.foldl (fun g k => Node.put g k v) f
theorem qfT (v : Int) (pre : List Nat) : ∀ (f : Nat -> Int) (k : Nat),nexts f v pre k = if k ∈ pre then v else f k := by
 induction pre with
 | nil => intro f k; simp [nexts]
 | cons j pre ih =>
   intro f k;show nexts (Node.put f j v) v pre k = _;rw [ih]
   by_cases h1 : k ∈ pre
   · rw [if_pos h1,if_pos (List.mem_cons_of_mem _ h1)]
   · rw [if_neg h1]
     by_cases h2 : k = j
     · rw [if_pos (by rw [h2]; exact List.mem_cons_self ..)]
       simp [Node.put,h2]
     · rw [if_neg (by rw [List.mem_cons]; exact fun e => e.elim h2 h1)]
       simp [Node.put,h2]
theorem qhR (f : Nat -> Int) (v : Int) (pre : List Nat) (x : Nat) : nexts f v (pre ++ [x]) = Node.put (nexts f v pre) x v := by
 simp [nexts]
def qS (N : Node) (pre : List Nat) : Node := { N with ro := 3,ld := N.id,wk := 0,nx := nexts N.nx (N.lg.lastI + 1) pre }
theorem qhS {N : Node} (h : N.cx = 0 /\ N.rd = [] /\ N.nx = Node.zeroF /\ N.ma = Node.zeroF /\ N.ac = Node.zeroF) :
 N.rise = ({ qS N (oth N.id N.n) with lg := N.grown [] } : Node).settle.1.sendAll := by
 obtain ⟨h1,h2,h3,h4,h5⟩ := h
 have e : nexts N.nx (N.lg.lastI + 1) (oth N.id N.n) = fun k => if k < N.n /\ k ≠ N.id then N.lg.lastI + 1 else 0 := by
  funext k
  rw [qfT,h3]
  have hm : k ∈ oth N.id N.n ↔ k < N.n /\ k ≠ N.id := by simp [oth]
  by_cases hk : k < N.n /\ k ≠ N.id
  · rw [if_pos hk,if_pos (hm.2 hk)]
  · rw [if_neg hk,if_neg fun e => hk (hm.1 e)]; rfl
 unfold Node.rise qS;rw [e];obtain ⟨id,n,ht,hv,sn,kp,lg,cm,ro,ld,wk,sy,nx,ma,ac,cx,rd,ms,td⟩ := N;dsimp only at *;subst h1 h2 h4 h5
 rfl
theorem qez (N : Node) : ∃ c,N.settle.1 = { N with cm := c } := by
 unfold Node.settle;dsimp only
 split
 · exact ⟨N.cm,rfl⟩
 · exact ⟨_,rfl⟩
theorem RfAt.next (h : RfAt w p N Z q s xs K) (hm : N.ma = Node.zeroF) (ha : N.ac = Node.zeroF) (x : Nat) (hx : x < 3) (v : Int) :
 RfAt (((w.setCell ⟨p,16 + x * 3,none⟩ (.int .i64 v)).setCell ⟨p,16 + x * 3 + 1,none⟩ (.int .i64 0)).setCell ⟨p,16 + x * 3 + 2,none⟩ (.int .i64 0)) p { N with nx := Node.put N.nx x v } Z q s xs K ∧
  ∀ b,b ≠ p -> (((w.setCell ⟨p,16 + x * 3,none⟩ (.int .i64 v)).setCell ⟨p,16 + x * 3 + 1,none⟩ (.int .i64 0)).setCell ⟨p,16 + x * 3 + 2,none⟩ (.int .i64 0)).heap[b]? = w.heap[b]? := by
 have hoff : ∀ b,b ≠ p -> (((w.setCell ⟨p,16 + x * 3,none⟩ (.int .i64 v)).setCell ⟨p,16 + x * 3 + 1,none⟩ (.int .i64 0)).setCell ⟨p,16 + x * 3 + 2,none⟩ (.int .i64 0)).heap[b]? = w.heap[b]? := fun b hb =>
  (Below.heap_setCell _ _ _ _ (by exact hb)).trans ((Below.heap_setCell _ _ _ _ (by exact hb)).trans (Below.heap_setCell _ _ _ _ (by exact hb)))
 refine ⟨h.turn (by simp) (fun b _ hb => hoff b hb) ?_ rfl rfl rfl rfl rfl,hoff⟩;have r1 := setCell_at w ⟨p,16 + x * 3,none⟩ (.int .i64 v) _ _ _ rfl h.row;have r2 := setCell_at _ ⟨p,16 + x * 3 + 1,none⟩ (.int .i64 0) _ _ _ rfl r1;have r3 := setCell_at _ ⟨p,16 + x * 3 + 2,none⟩ (.int .i64 0) _ _ _ rfl r2;refine r3.trans ?_;obtain ⟨id,n,ht,hv,sn,kp,lg,cm,ro,ld,wk,sy,nx,ma,ac,cx,rd,ms,td⟩ := N;dsimp only at hm ha;subst hm ha
 obtain rfl | rfl | rfl : x = 0 \/ x = 1 \/ x = 2 := by omega
 all_goals rfl
theorem qcv {w W W1 w3 : World} {p : Nat} {N : Node} {Z : Nat -> Prop} {q q' : Ptrs} {s : Nat} {xs' : List MLay} {K' : Nat -> Prop} {pre : List Nat} {LI L1 : Int} {a : Act}
 (h : RfAt W p (qS N pre) (fun b => Z b \/ (w.heap.size <= b /\ b < w.heap.size + 3)) q' s xs' K' /\ q'.l = q.l /\ qa Z w W /\ w.heap.size + 3 <= W.heap.size + 2 /\ W1.heap.size = w.heap.size + 1 /\ W1.heap.size + 1 < W.heap.size /\ W.heap[w.heap.size]? = some (.cells #[ptrV p] 67) /\ LI + 1 = L1)
 (hm : (qS N pre).ma = Node.zeroF /\ (qS N pre).ac = Node.zeroF) (h3 : RfAt w3 p (qS N pre) (fun b => Z b \/ (w.heap.size <= b /\ b < w.heap.size + 3)) q' s xs' K') (hb : Below W.heap.size W w3) (hpw : p ≠ w.heap.size) (hZp : ¬ Z p) (x : Nat) (hx : x < 3) (hLI : N.lg.lastI = LI) :
 roundEnd W1.heap.size ((fun pre W => q9 w W p (qS N pre) Z q s (w.heap.size + 3) /\ W.heap[w.heap.size]? = some (.cells #[ptrV p] 67)) (pre ++ [x])) W .normal a (((w3.setCell ⟨p,16 + x * 3,none⟩ (.int .i64 L1)).setCell ⟨p,16 + x * 3 + 1,none⟩ (.int .i64 0)).setCell ⟨p,16 + x * 3 + 2,none⟩ (.int .i64 0)) := by
 obtain ⟨h1,h2,h4,h5,h6,h7,h8,h9⟩ := h;obtain ⟨k1,k2⟩ := h3.next hm.1 hm.2 x hx L1;have hpr : ¬ (w.heap.size <= p /\ p < w.heap.size + 3) := fun e => h3.away (.inr e);have hbs := hb.size;refine ⟨(k2 _ (by omega)).trans (hb.block _ (by omega)),(k2 _ (by omega)).trans (hb.block _ (by omega)),⟨q',xs',K',?_,h2,?_,by simp; omega⟩,(k2 _ (by omega)).trans ((hb.block _ (hlt h8)).trans h8)⟩
 · have e : qS N (pre ++ [x]) = { qS N pre with nx := Node.put (qS N pre).nx x L1 } := by
    unfold qS;rw [qhR,hLI,h9]
   rw [e];exact k1
 · exact (h4.trans (qb hb nlq)).trans (((qg _ ⟨p,_,none⟩ _ hZp).trans (qg _ ⟨p,_,none⟩ _ hZp)).trans (qg _ ⟨p,_,none⟩ _ hZp))
theorem qi1 (h : RfAt w p N Z q s xs K) (hZ : ∀ b,Z b -> b < w.heap.size) (hms : N.ms.length < 999990) (hl : N.lg.l.length <= 400000) (hg : qk N.lg) (hn : N.n <= 3 /\ N.id < 3) (hsd : N.sn.d.length <= 50000)
 (hidle : N.cx = 0 /\ N.rd = [] /\ N.nx = Node.zeroF /\ N.ma = Node.zeroF /\ N.ac = Node.zeroF) (hadd : runB N.lg.lastI N.lg.lastT [⟨N.lg.lastI + 1,N.ht,[]⟩] = true) :
 Calls Tryz.prog 127 #[ptrV p] w fun e w' => e = .returned (.tuple #[]) /\ Turned w w' p N.rise Z q s := by
 have hp := h.lt;have hZp := h.away;have HI := Lib.hid hidle;have HA := Lib.hid hadd;clear hidle hadd;have hb0 : Below w.heap.size w (w.alloc (.cells #[ptrV p] 67)) := blq.alloc nlq _;have b0 := heap_alloc_new w (.cells #[ptrV p] 67)
 have hsz : (w.alloc (.cells #[ptrV p] 67)).heap.size = w.heap.size + 1 := by simp
 have h0 := h.more (Y := fun b => w.heap.size <= b /\ b < w.heap.size + 3) (fun b hb => hb.1) hb0;have cb : (w.alloc (.cells #[ptrV p] 67)).cell? ⟨w.heap.size,0,none⟩ = some (ptrV p) := qe b0 0 _ rfl;have hk0 : qa Z w (w.alloc (.cells #[ptrV p] 67)) := qb hb0 nlq;refine (callsIn_wide (n := 9)).1 ?_;refine callsIn_of_wp_marks Tryz.func127 rfl trivial (wpIn_mono ?_ qkS) rfl;simp only [Tryz.ntmps127,List.size_toArray,List.length_cons,List.length_nil,Nat.reduceAdd,Nat.reduceSub,Array.replicate_succ,Array.replicate_zero,List.push_toArray,List.append_toArray,List.nil_append,List.cons_append]
 gi_wp2
 generalize w.alloc (.cells #[ptrV p] 67) = W0 at *;have c0 := h0.c0;have c10 := h0.c10;have c11 := h0.c11;have c12 := h0.c12;have f10 := h0.fz 10;have f11 := h0.fz 11;have f12 := h0.fz 12
 have hpw : p ≠ w.heap.size := by omega
 have H0 := Lib.hid h0;have HB := hdq3 b0 hk0 hsz;clear h h0 hb0 b0 hk0 hsz;refine wpIn_wide.2 ?_;refine wp_region_held_drew (S := (fun w' => w'.cell? ⟨w.heap.size,0,none⟩ = some (ptrV p) /\ w'.cell? ⟨p,0,none⟩ = some (.int .i64 (N.id : Int)))) (by kernel_rfl) ⟨cb,c0⟩ (fun hHeld => ?_);refine lsq 16 ?_;refine tkq 0 ?_;refine tkq 1 ?_;refine tkq 2 ?_;refine tkq 3 ?_;refine tkq 4 ?_;refine tkq 5 ?_;refine tkq 6 ?_;refine tkq 7 ?_;refine tkq 8 ?_;refine rdq1 9 fun KK hK => ?_;go_simp;refine hK.out _ _ ⟨(World.cell?_setCell_far _ _ _ _ (by exact hpw)).trans hHeld.1,(World.cell?_setCell_other _ _ _ _ (by simp)).trans hHeld.2⟩ ?_;clear hK KK hHeld;intro hHeld
 try simp only [lpq]
 refine tkq 10 ?_;refine tkq 11 ?_;refine rdq1 12 fun KK hK => ?_;go_simp;refine hK.out _ _ ⟨(World.cell?_setCell_far _ _ _ _ (by exact hpw)).trans hHeld.1,(World.cell?_setCell_other _ _ _ _ (by simp)).trans hHeld.2⟩ ?_;clear hK KK hHeld;intro hHeld
 try simp only [lpq]
 refine tkq 13 ?_;refine tkq 14 ?_;refine rdq1 15 fun KK hK => ?_;go_simp;refine hK.out _ _ ⟨(World.cell?_setCell_far _ _ _ _ (by exact hpw)).trans hHeld.1,(World.cell?_setCell_other _ _ _ _ (by simp)).trans hHeld.2⟩ ?_;clear hK KK hHeld;intro hHeld
 try simp only [lpq]
 refine dnq ?_
 have hturn : RfAt (((W0.setCell ⟨p,10,none⟩ (.int .i64 3)).setCell ⟨p,11,none⟩ (.int .i64 (N.id : Int))).setCell ⟨p,12,none⟩ (.int .i64 0)).drew p (qS N []) (fun b => Z b \/ (w.heap.size <= b /\ b < w.heap.size + 3)) q s xs K := by
  refine H0.out.turn (by simp) (fun b _ hb => (Below.heap_setCell _ _ _ _ (by exact hb)).trans ((Below.heap_setCell _ _ _ _ (by exact hb)).trans (Below.heap_setCell _ _ _ _ (by exact hb)))) ?_ rfl rfl rfl rfl rfl;have r1 := setCell_at W0 ⟨p,10,none⟩ (.int .i64 3) _ _ _ rfl H0.out.row;have r2 := setCell_at _ ⟨p,11,none⟩ (.int .i64 (N.id : Int)) _ _ _ rfl r1;have r3 := setCell_at _ ⟨p,12,none⟩ (.int .i64 0) _ _ _ rfl r2;exact r3
 obtain ⟨b0,hk0,hsz⟩ := HB.out;have hbx : (((W0.setCell ⟨p,10,none⟩ (.int .i64 3)).setCell ⟨p,11,none⟩ (.int .i64 (N.id : Int))).setCell ⟨p,12,none⟩ (.int .i64 0)).drew.heap[w.heap.size]? = some (.cells #[ptrV p] 67) := (Below.heap_setCell _ _ _ _ (by exact hpw.symm)).trans ((Below.heap_setCell _ _ _ _ (by exact hpw.symm)).trans ((Below.heap_setCell _ _ _ _ (by exact hpw.symm)).trans b0));have hkw : qa Z w (((W0.setCell ⟨p,10,none⟩ (.int .i64 3)).setCell ⟨p,11,none⟩ (.int .i64 (N.id : Int))).setCell ⟨p,12,none⟩ (.int .i64 0)).drew := hk0.trans (qa.drew (((qg _ ⟨p,10,none⟩ _ hZp).trans (qg _ ⟨p,11,none⟩ _ hZp)).trans (qg _ ⟨p,12,none⟩ _ hZp)))
 have hs1 : (((W0.setCell ⟨p,10,none⟩ (.int .i64 3)).setCell ⟨p,11,none⟩ (.int .i64 (N.id : Int))).setCell ⟨p,12,none⟩ (.int .i64 0)).drew.heap.size = w.heap.size + 1 := by simp [hsz]
 clear cb c0 c10 c11 c12 f10 f11 f12 HB H0 hHeld b0 hk0 hsz;generalize (((W0.setCell ⟨p,10,none⟩ (.int .i64 3)).setCell ⟨p,11,none⟩ (.int .i64 (N.id : Int))).setCell ⟨p,12,none⟩ (.int .i64 0)).drew = W1 at *;have hr0 : q9 w W1 p (qS N []) Z q s (w.heap.size + 3) := ⟨q,xs,K,hturn,rfl,hkw,by omega⟩;have cb : W1.cell? ⟨w.heap.size,0,none⟩ = some (ptrV p) := qe hbx 0 _ rfl;have c1 := hturn.c1;obtain ⟨LI,hLI⟩ := exq (N.lg.lastI);have hlim := hg.lim;have hlast := hg.lastI;have HL := Lib.hid hLI;have HH := hdq2 hlim hlast;clear hLI hlim hlast hturn hkw
 gi_wp2
 refine qb0 (id := N.id) (n := N.n) (p := p) rfl hn.1 rfl (by omega) c1
  (fun pre W => q9 w W p (qS N pre) Z q s (w.heap.size + 3) /\ W.heap[w.heap.size]? = some (.cells #[ptrV p] 67)) ?_ ?_ ?_
  (fun x => { tmps := #[ptrV p, .pointer (some ⟨w.heap.size,0,none⟩), .int .i64 (x : Int),ptrV p,ptrV p,ptrV p,ptrV p, .pointer (some ⟨p,0,none⟩), .pointer (some ⟨p,0,none⟩), .int .i64 (N.id : Int), .pointer (some ⟨p,0,none⟩), .pointer (some ⟨p,10,none⟩), .pointer (some ⟨p,0,none⟩), .pointer (some ⟨p,11,none⟩), .pointer (some ⟨p,0,none⟩), .pointer (some ⟨p,12,none⟩),ptrV p, .func (.func 78) #[ptrV p] #[], .int .i64 (x : Int),undef,undef,undef,undef,undef,undef,undef,undef,undef,undef,undef,undef,undef,undef,undef,undef,undef,undef,undef,undef,undef,undef,undef],defers := [] }) ?assign ?body ?done
 · rintro pre W ⟨h1,_⟩;exact h1.c0
 · intro r;exact ⟨(hr0.alloc hZ _).alloc hZ _,(Below.heap_alloc _ _ _ (by simp; omega)).trans ((Below.heap_alloc _ _ _ (by omega)).trans hbx)⟩
 · rintro pre W r r' ⟨h1,h2⟩ hr;exact ⟨h1.turn hZ _ (by omega) (by omega) _,(World.putObj_heap_other (by omega)).trans h2⟩
 case assign =>
  intro l x W K hK
  gi_wp2
  exact hK
 case body =>
  rintro l pre x W hxn hxi hpre ⟨h1,h2⟩ hsW hlW hdW;obtain ⟨q',xs',K',h3,h4,h5,h6⟩ := h1;have cb : W.cell? ⟨w.heap.size,0,none⟩ = some (ptrV p) := qe h2 0 _ rfl;have hlb := hlt h2;have hLast := qbj (w := W.drew) (h3.below blq.drew) (by show N.lg.l.length <= 1000000; omega);have hLe : (qS N pre).lg.lastI = LI := HL.out;rw [hLe] at hLast;obtain ⟨L1,hL1⟩ := exq (LI + 1)
  have y2 : IntKind.i64.wrap (LI + 1) = L1 := by rw [<- hL1,IntWalk.i64_in _ (by have := HH.out; have := HL.out; omega)]
  have H3 := hdq8 h3 h4 h5 h6 hs1 hsW h2 hL1
  have hx3 : x < 3 := by omega
  have hma : (qS N pre).ma = Node.zeroF := HI.out.2.2.2.1;have hac : (qS N pre).ac = Node.zeroF := HI.out.2.2.2.2;have HM := hdq2 hma hac
  have hC : ∀ X,Below W.heap.size W X -> RfAt X p (qS N pre) (fun b => Z b \/ (w.heap.size <= b /\ b < w.heap.size + 3)) q' s xs' K' := fun X hX => h3.below hX
  clear hLe hr0 hbx hs1 h2 h3 h4 h5 h6 hma hac hL1 hlW hdW c1
  obtain rfl | rfl | rfl : x = 0 \/ x = 1 \/ x = 2 := by omega
  · gi_wp2
    refine qV (S := (fun w' => w'.cell? ⟨w.heap.size,0,none⟩ = some (ptrV p))) (by kernel_rfl) (fun h => (by obtain ⟨_,_,h⟩ := h; exact h)) (by kernel_rfl) cb (fun hHeld => ?_);refine lsq 10 ?_;refine tkq 0 ?_;refine tkq 1 ?_;refine tkq 2 ?_;refine tkq 6 ?_;refine tkq 7 ?_;refine rdq1 3 fun KK hK => ?_;go_simp;refine hLast.mono ?_;rintro e w3 ⟨rfl,hb3⟩;have hb3 : Below W.heap.size W w3 := blq.drew.trans hb3;have cb3 : w3.cell? ⟨w.heap.size,0,none⟩ = some (ptrV p) := (hb3.cell (p := ⟨w.heap.size,0,none⟩) hlb).trans cb;have hR3 := hC w3 hb3;have c16 := hR3.c16;have c17 := hR3.c17;have c18 := hR3.c18;have f16 := hR3.fz 16;have f17 := hR3.fz 17;have f18 := hR3.fz 18;have HR3 := hdq2 hR3 hb3;clear hR3;refine hK.out _ _ cb3 ?_;clear hK KK hHeld;intro hHeld
    try simp only [lpq]
    refine tkq 4 ?_;refine tkq 5 ?_;refine tkq 8 ?_;refine rdq1 9 fun KK hK => ?_;go_simp;refine hK.out _ _ ((World.cell?_setCell_far _ _ _ _ (by exact hpw)).trans ((World.cell?_setCell_far _ _ _ _ (by exact hpw)).trans ((World.cell?_setCell_far _ _ _ _ (by exact hpw)).trans cb3))) ?_;clear hK KK hHeld;intro hHeld
    try simp only [lpq]
    refine dnq ?_;clear hHeld
    gi_wp2
    exact qcv H3.out HM.out HR3.out.1 HR3.out.2 hpw hZp 0 (by omega) HL.out
  · gi_wp2
    refine qV (S := (fun w' => w'.cell? ⟨w.heap.size,0,none⟩ = some (ptrV p))) (by kernel_rfl) (fun h => (by obtain ⟨_,_,h⟩ := h; exact h)) (by kernel_rfl) cb (fun hHeld => ?_);refine lsq 10 ?_;refine tkq 0 ?_;refine tkq 1 ?_;refine tkq 2 ?_;refine tkq 6 ?_;refine tkq 7 ?_;refine rdq1 3 fun KK hK => ?_;go_simp;refine hLast.mono ?_;rintro e w3 ⟨rfl,hb3⟩;have hb3 : Below W.heap.size W w3 := blq.drew.trans hb3;have cb3 : w3.cell? ⟨w.heap.size,0,none⟩ = some (ptrV p) := (hb3.cell (p := ⟨w.heap.size,0,none⟩) hlb).trans cb;have hR3 := hC w3 hb3;have c19 := hR3.c19;have c20 := hR3.c20;have c21 := hR3.c21;have f19 := hR3.fz 19;have f20 := hR3.fz 20;have f21 := hR3.fz 21;have HR3 := hdq2 hR3 hb3;clear hR3;refine hK.out _ _ cb3 ?_;clear hK KK hHeld;intro hHeld
    try simp only [lpq]
    refine tkq 4 ?_;refine tkq 5 ?_;refine tkq 8 ?_;refine rdq1 9 fun KK hK => ?_;go_simp;refine hK.out _ _ ((World.cell?_setCell_far _ _ _ _ (by exact hpw)).trans ((World.cell?_setCell_far _ _ _ _ (by exact hpw)).trans ((World.cell?_setCell_far _ _ _ _ (by exact hpw)).trans cb3))) ?_;clear hK KK hHeld;intro hHeld
    try simp only [lpq]
    refine dnq ?_;clear hHeld
    gi_wp2
    exact qcv H3.out HM.out HR3.out.1 HR3.out.2 hpw hZp 1 (by omega) HL.out
  · gi_wp2
    refine qV (S := (fun w' => w'.cell? ⟨w.heap.size,0,none⟩ = some (ptrV p))) (by kernel_rfl) (fun h => (by obtain ⟨_,_,h⟩ := h; exact h)) (by kernel_rfl) cb (fun hHeld => ?_);refine lsq 10 ?_;refine tkq 0 ?_;refine tkq 1 ?_;refine tkq 2 ?_;refine tkq 6 ?_;refine tkq 7 ?_;refine rdq1 3 fun KK hK => ?_;go_simp;refine hLast.mono ?_;rintro e w3 ⟨rfl,hb3⟩;have hb3 : Below W.heap.size W w3 := blq.drew.trans hb3;have cb3 : w3.cell? ⟨w.heap.size,0,none⟩ = some (ptrV p) := (hb3.cell (p := ⟨w.heap.size,0,none⟩) hlb).trans cb;have hR3 := hC w3 hb3;have c22 := hR3.c22;have c23 := hR3.c23;have c24 := hR3.c24;have f22 := hR3.fz 22;have f23 := hR3.fz 23;have f24 := hR3.fz 24;have HR3 := hdq2 hR3 hb3;clear hR3;refine hK.out _ _ cb3 ?_;clear hK KK hHeld;intro hHeld
    try simp only [lpq]
    refine tkq 4 ?_;refine tkq 5 ?_;refine tkq 8 ?_;refine rdq1 9 fun KK hK => ?_;go_simp;refine hK.out _ _ ((World.cell?_setCell_far _ _ _ _ (by exact hpw)).trans ((World.cell?_setCell_far _ _ _ _ (by exact hpw)).trans ((World.cell?_setCell_far _ _ _ _ (by exact hpw)).trans cb3))) ?_;clear hK KK hHeld;intro hHeld
    try simp only [lpq]
    refine dnq ?_;clear hHeld
    gi_wp2
    exact qcv H3.out HM.out HR3.out.1 HR3.out.2 hpw hZp 2 (by omega) HL.out
 case done =>
  rintro W ⟨h1,h2⟩ hd hsD;rw [hs1] at hd ⊢;obtain ⟨q',xs',K',h3,h4,h5,h6⟩ := h1;have hall := qhS HI.out;rw [hs1] at hsD
  have hZ1 : ∀ b,(Z b \/ (w.heap.size <= b /\ b < w.heap.size + 3)) -> b < W.heap.size := fun b hb => hb.elim (fun e => by have := hZ b e; omega) fun e => by omega
  have cb : W.cell? ⟨w.heap.size,0,none⟩ = some (ptrV p) := qe h2 0 _ rfl;have c8 := h3.c8;have c2 : W.cell? ⟨p,2,none⟩ = some (.int .i64 N.ht) := h3.c2;have hLg := h3.log;have hlow := h3.low hZ1
  have hAdd := fun X (hX : Below W.heap.size W X) => qkg (w := X) (hLg.below hX) (fun b hb => Nat.lt_of_lt_of_le (hlow b hb) hX.size) (show N.lg.l.length <= 900000 by omega) hg N.ht none 0 0 [] ⟨nlq,Lies.nil _,fun h0 => absurd h0 (by simp)⟩ rfl HA.out
  have HN := hdq7 h3 h4 h5 hZ1 hsD hd hall;clear hLg hlow h3 h4 h5 h6 hZ1 hsD hd hall hr0 hbx hs1 c1
  gi_wp2
  refine wpIn_wide.2 ?_
  go_still_tail 9,(by kernel_rfl)
  go_wp2_with fail
  refine (hAdd _ blq.drew).mono ?_;rintro e w4 ⟨E,k,rfl,_,_,hlg4,hk4⟩;obtain ⟨h3,h4,h5,hZ1,hsD,hd,hall⟩ := HN.out
  have hgr : N.lg.more ⟨N.lg.lastI + 1,N.ht,[]⟩ = N.grown [] := by
   unfold Node.grown RL.add;rw [if_pos HA.out]
   rfl
  have hgd : qk (N.grown []) := by rw [<- hgr]; exact hg.more HA.out
  have hgl : (N.grown []).l.length = N.lg.l.length + 1 /\ (N.grown []).i = N.lg.i := by
   rw [<- hgr];obtain ⟨a1,a2,_⟩ := qdP (⟨N.lg.i,N.lg.t,N.lg.l ++ [⟨N.lg.lastI + 1,N.ht,[]⟩],N.lg.f⟩ : RL) (N.lg.lastI + 1);unfold RL.more;rw [a1,a2];exact ⟨by simp,rfl⟩
  have R4 : RfAt w4 p { qS N (oth N.id N.n) with lg := N.grown [] } (fun b => Z b \/ (w.heap.size <= b /\ b < w.heap.size + 3)) q' s xs' K' := by
   rw [<- hgr];exact (h3.below blq.drew).logged (hlg4.mono fun b hb => .inl hb) hk4
  have k4 : qa (fun b => Z b \/ (w.heap.size <= b /\ b < w.heap.size + 3)) W w4 := ((qa.refl _ _).drew).trans (hk4.mono fun b hb => .inl hb);have hgood := hgd.lastI;have hglim := hgd.lim;have hAv := qfS R4 (fun b hb => Nat.lt_of_lt_of_le (hZ1 b hb) k4.size) (by show (N.grown []).l.length <= 1000000; omega) hgd hn (fun j => by show In64 (N.ma j); rw [HI.out.2.2.2.1]; exact ⟨by show (-9223372036854775808 : Int) <= 0; decide,by show (0 : Int) <= 9223372036854775807; decide⟩) ⟨by show _ <= (N.grown []).lastI; omega,by show (N.grown []).lastI <= _; omega⟩ (fun j => by show 0 <= N.ma j; rw [HI.out.2.2.2.1]; exact Int.le_refl _) (by show 0 <= (N.grown []).lastI; omega);have cb4 : w4.cell? ⟨w.heap.size,0,none⟩ = some (ptrV p) := k4.cell cb (.inr ⟨nlq,by show w.heap.size < _; omega⟩);have hset := qez { qS N (oth N.id N.n) with lg := N.grown [] };have HF := hdq12 hall hset h4 (h5.trans (k4.mono fun b hb => .inl hb)) hZ1 hsD hd k4 hgd hgl hgood hglim;clear hAdd hlg4 hk4 hgr HN h3 hall hset h4 h5 hZ1 hsD hd hgd hgl hgood hglim R4 k4 h2 c8 c2 cb HH HL;go_wp2
  gi_wp2
  refine ⟨trivial,?_⟩;refine (callsIn_wide.2 hAv).mono ?_;rintro e w5 ⟨rfl,R5,k5⟩;obtain ⟨hall,⟨cq,hset⟩,h4,k4,hZ1,hsD,hd,k45,hgd,hgl,hgood,hglim⟩ := HF.out;have k46 := k45.trans k5;have hs5 := k46.size
  have hSd := qcT R5 (fun b hb => Nat.lt_of_lt_of_le (hZ1 b hb) hs5) (by rw [hset]; exact hms) (by rw [hset]; show (N.grown []).l.length <= 1000000; omega) (by rw [hset]; exact hgd) (fun j => by
   rw [hset];show _ <= nexts N.nx (N.lg.lastI + 1) (oth N.id N.n) j /\ nexts N.nx (N.lg.lastI + 1) (oth N.id N.n) j <= _;rw [qfT,HI.out.2.2.1];have := hg.lim;have := hg.lastI
   split
   · omega
   · show (-4611686018427387904 : Int) <= 0 /\ (0 : Int) <= 4611686018427387904
     omega) (by rw [hset]; exact hsd) (by rw [hset]; exact hn)
  rw [<- hall] at hSd;have cb5 : w5.cell? ⟨w.heap.size,0,none⟩ = some (ptrV p) := k5.cell cb4 (.inr ⟨nlq,by show w.heap.size < _; omega⟩);have HG := hdq4 h4 (k4.trans (k5.mono fun b hb => .inl hb)) (Nat.lt_of_lt_of_le hsD hs5) ((k46.block _ (hlt hd) (.inr (by omega))).trans hd);clear hAv HF hall hset h4 k4 hZ1 hsD hd k45 k46 hs5 hgd hgl hgood hglim R5 k5 cb4
  gi_wp2
  refine ⟨trivial,?_⟩;refine (callsIn_wide.2 hSd).mono ?_;rintro e w6 ⟨rfl,q6,xs6,K6,R6,hq6,k6⟩;obtain ⟨h4,k4,hsD,hd⟩ := HG.out;have hd6 := (k6.block _ (hlt hd) (.inr (by omega))).trans hd
  have hT : Turned w (w6.putObj (w.heap.size + 1) (.deferred none)) p N.rise Z q s :=
   ⟨q6,xs6,K6,(R6.keep (by simp) fun b _ hz => World.putObj_heap_other fun e => hz (.inr (by omega))).less fun b hb => .inl hb,hq6.trans h4,(k4.trans (k6.mono fun b hb => .inl hb)).trans (qa5 fun e => by have := hZ _ e; omega)⟩
  have HT := hdq2 hT hd6;clear HG h4 k4 hsD hd hSd R6 hq6 k6 hT hd6 cb5
  gi_wp2
  refine ⟨by simp, .inl ⟨_,_,rfl,run_takeDeferred HT.out.2,?_⟩⟩;exact ⟨_,results_none rfl _ _ _,rfl,HT.out.1⟩
end Go.Proofs.YtogbhedbgcmckaaGreat
set_option linter.unusedVariables false
set_option linter.unusedSimpArgs false
set_option maxRecDepth 100000
set_option maxHeartbeats 200000
namespace Go.Proofs.YtogbhedbgcmckaaGreat
open Go.RowKit Go.Shelf
attribute [local go_sem] Oper.semAt_some
theorem qkX (y n : Nat) : wonB (y : Int) (n : Int) = Node.won y n := by
 unfold wonB Node.won
 by_cases h : 1 <= n /\ y <= n /\ n < 2 * y
 · rw [decide_eq_true h,decide_eq_true (by omega),decide_eq_true (by omega),decide_eq_true (by omega),decide_eq_true (by omega)]; rfl
 · rw [decide_eq_false h]
   by_cases h1 : 1 <= n
   · by_cases h2 : y <= n
     · rw [decide_eq_false (show ¬ ((n : Int) - y < y) by omega)]; simp
     · rw [decide_eq_false (show ¬ ((y : Int) <= n) by omega)]; simp
   · rw [decide_eq_false (show ¬ (1 <= (n : Int)) by omega)]; simp
end Go.Proofs.YtogbhedbgcmckaaGreat
