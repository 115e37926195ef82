/- The program's node asks all others for their votes. -/
import Derived.Test.YtmiijlecfiddmaaNNM14
import Derived.Test.YtmiijlecfiddmaaNNM18
import Derived.Test.YtmiijlecfiddmaaNNM19
set_option linter.unusedVariables false
set_option linter.unusedSimpArgs false
set_option maxRecDepth 100000
set_option maxHeartbeats 3200000
namespace Go.Proofs.Ytmiijlecfiddmaa
open Go.RowKit Go.Shelf
attribute [local go_sem] Oper.semAt_some
def qV (k t : Int) (r : Node) (j : Nat) : Node := r.say { Node.msg k j t with i := r.lg.lastI,l := r.lg.lastT }
theorem qb7 (k t : Int) (N : Node) (l : List Nat) : ∃ ls : List Msg,ls.length = l.length /\ l.foldl (qV k t) N = { N with ms := N.ms ++ ls } := by
 induction l generalizing N with
 | nil => exact ⟨[],rfl,by simp⟩
 | cons j l ih =>
   obtain ⟨ls,h1,h2⟩ := ih (qV k t N j)
   refine ⟨{ Node.msg k j t with f := N.id,i := N.lg.lastI,l := N.lg.lastT } :: ls,by simp [h1],?_⟩
   rw [List.foldl_cons,h2]
   simp [qV,Node.say]
structure qek (W : World) (b m p : Nat) (kk tt LI LT : Int) : Prop where
 b0 : W.heap[b]? = some (.cells #[ptrV p] 32)
 b1 : W.heap[b + 1]? = some (.cells #[.int .i64 kk] 3)
 b2 : W.heap[b + 1 + 1]? = some (.cells #[.int .i64 tt] 2)
 b3 : W.heap[m]? = some (.cells #[.int .i64 LI] 2)
 b4 : W.heap[m + 1]? = some (.cells #[.int .i64 LT] 2)
theorem qcO {w : World} {p : Nat} {N : Node} {Z : Nat -> Prop} {q : Ptrs} {s : Nat} {xs : List MLay} {K : Nat -> Prop} {pre : List Nat} {x : Nat} {k t : Int} (h : RfAt w p (pre.foldl (qV k t) N) Z q s xs K) (hZ : ∀ b,Z b -> b < w.heap.size) (hm : N.ms.length < 999990) (hn : N.n <= 3 /\ N.id < 3) (hpre : pre ++ [x] <+: oth N.id N.n) (ht : t ≠ 0) :
 Calls Try.prog 49 #[ptrV p, .int .i64 (x : Int),msgV ⟨k,0,0,t,N.lg.lastI,N.lg.lastT,0,0,false,[],Node.noEnt⟩ none 0 none 0] w fun e w' => e = .returned (.tuple #[]) /\ Turned w w' p (qV k t (pre.foldl (qV k t) N) x) Z q s := by
 obtain ⟨ls,e1,e2⟩ := qb7 k t N pre
 have h1 := hpre.length_le
 have h2 : (oth N.id N.n).length <= N.n := by
  unfold oth
  exact Nat.le_trans (List.length_filter_le _ _) (by simp)
 rw [List.length_append] at h1
 simp only [List.length_cons,List.length_nil] at h1
 rw [e2] at h ⊢
 refine (qP h hZ ?_ (x : Int) ⟨⟨k,0,0,t,N.lg.lastI,N.lg.lastT,0,0,false,[],Node.noEnt⟩,none,0,none,0⟩ ⟨qO _ _,Nat.zero_le _,Lies.nil _,fun h0 => absurd h0 (by simp [Node.noEnt])⟩).mono ?_
 · show (N.ms ++ ls).length < 999999
   rw [List.length_append]
   omega
 · rintro e w' ⟨rfl,hT⟩
   refine ⟨rfl,hT.turned blq ?_⟩
   show qV k t _ x = _
   unfold qV Node.say Node.msg
   dsimp only
   rw [if_neg ht]
theorem qaP {w : World} {p : Nat} {N : Node} {Z : Nat -> Prop} {q : Ptrs} {s : Nat} {xs : List MLay} {K : Nat -> Prop} (h : RfAt w p N Z q s xs K) (hZ : ∀ b,Z b -> b < w.heap.size) (hm : N.ms.length < 999990) (hl : N.lg.l.length <= 1000000) (hn : N.n <= 3 /\ N.id < 3) (kk tt : Int) (ht : tt ≠ 0) :
 Calls Try.prog 42 #[ptrV p, .int .i64 kk, .int .i64 tt] w fun e w' => e = .returned (.tuple #[]) /\ Turned w w' p (N.ask kk tt) Z q s := by
 have hp := h.lt
 have hb0 : Below w.heap.size w (((w.alloc (.cells #[ptrV p] 32)).alloc (.cells #[.int .i64 kk] 3)).alloc (.cells #[.int .i64 tt] 2)) := ((blq.alloc nlq _).alloc (by simp) _).alloc (by simp; omega) _
 have h0 := h.below hb0
 obtain ⟨A,c,hr⟩ := h0.log.rd
 have hL := qR hr hl
 have c8 := h0.c8
 have hsz0 : (((w.alloc (.cells #[ptrV p] 32)).alloc (.cells #[.int .i64 kk] 3)).alloc (.cells #[.int .i64 tt] 2)).heap.size = w.heap.size + 3 := by simp
 have b0 : (((w.alloc (.cells #[ptrV p] 32)).alloc (.cells #[.int .i64 kk] 3)).alloc (.cells #[.int .i64 tt] 2)).heap[w.heap.size]? = some (.cells #[ptrV p] 32) := (Below.heap_alloc _ _ _ (by simp; omega)).trans ((Below.heap_alloc _ _ _ (by simp)).trans (heap_alloc_new _ _))
 have b1 : (((w.alloc (.cells #[ptrV p] 32)).alloc (.cells #[.int .i64 kk] 3)).alloc (.cells #[.int .i64 tt] 2)).heap[w.heap.size + 1]? = some (.cells #[.int .i64 kk] 3) := (Below.heap_alloc _ _ _ (by simp)).trans (heap_alloc2_new _ _ _)
 have b2 : (((w.alloc (.cells #[ptrV p] 32)).alloc (.cells #[.int .i64 kk] 3)).alloc (.cells #[.int .i64 tt] 2)).heap[w.heap.size + 1 + 1]? = some (.cells #[.int .i64 tt] 2) := by
  have := heap_alloc_new ((w.alloc (.cells #[ptrV p] 32)).alloc (.cells #[.int .i64 kk] 3)) (.cells #[.int .i64 tt] 2)
  simpa using this
 obtain ⟨LI,hLI⟩ : ∃ LI,N.lg.lastI = LI := ⟨_,rfl⟩
 obtain ⟨LT,hLT⟩ : ∃ LT,N.lg.lastT = LT := ⟨_,rfl⟩
 rw [hLI,hLT] at hL
 have HLI := Lib.hid hLI
 have HLT := Lib.hid hLT
 have H := Lib.hid h
 clear h0 hr hLI hLT h
 refine (callsIn_wide (n := 9)).1 ?_
 refine callsIn_of_wp_marks Try.func42 rfl trivial ?_ rfl
 simp only [Try.ntmps42,List.size_toArray,List.length_cons,List.length_nil,Nat.reduceAdd,Nat.reduceSub,Array.replicate_succ,Array.replicate_zero,List.push_toArray,List.append_toArray,List.nil_append,List.cons_append]
 gi_wp2
 refine ⟨trivial,?_⟩
 refine (callsIn_wide.2 hL).mono ?_
 rintro e w1 ⟨rfl,hb1⟩
 have d0 := (hb1.block _ (hlt b0)).trans b0
 have d1 := (hb1.block _ (hlt b1)).trans b1
 have d2 := (hb1.block _ (hlt b2)).trans b2
 have e0 : w1.cell? ⟨w.heap.size,0,none⟩ = some (ptrV p) := qa d0 0 _ rfl
 have e1 : w1.cell? ⟨w.heap.size + 1,0,none⟩ = some (.int .i64 kk) := qa d1 0 _ rfl
 have e2 : w1.cell? ⟨w.heap.size + 1 + 1,0,none⟩ = some (.int .i64 tt) := qa d2 0 _ rfl
 have hbw := hb0.trans (hb1.mono hb0.size)
 have z0 : w.heap.size < w1.heap.size := hlt d0
 have z1 : w.heap.size + 1 < w1.heap.size := hlt d1
 have z2 : w.heap.size + 1 + 1 < w1.heap.size := hlt d2
 clear hb1 hb0 b0 b1 b2 hsz0 c8 hL
 gi_wp2
 have hb2 : Below w.heap.size w ((w1.alloc (.cells #[.int .i64 LI] 2)).alloc (.cells #[.int .i64 LT] 2)) := (hbw.alloc hbw.size _).alloc (by simp; omega) _
 have hs2 : ((w1.alloc (.cells #[.int .i64 LI] 2)).alloc (.cells #[.int .i64 LT] 2)).heap.size = w1.heap.size + 2 := by simp
 have f0 : ((w1.alloc (.cells #[.int .i64 LI] 2)).alloc (.cells #[.int .i64 LT] 2)).heap[w.heap.size]? = some (.cells #[ptrV p] 32) := (Below.heap_alloc _ _ _ (by simp; omega)).trans ((Below.heap_alloc _ _ _ z0).trans d0)
 have f1 : ((w1.alloc (.cells #[.int .i64 LI] 2)).alloc (.cells #[.int .i64 LT] 2)).heap[w.heap.size + 1]? = some (.cells #[.int .i64 kk] 3) := (Below.heap_alloc _ _ _ (by simp; omega)).trans ((Below.heap_alloc _ _ _ z1).trans d1)
 have f2 : ((w1.alloc (.cells #[.int .i64 LI] 2)).alloc (.cells #[.int .i64 LT] 2)).heap[w.heap.size + 1 + 1]? = some (.cells #[.int .i64 tt] 2) := (Below.heap_alloc _ _ _ (by simp; omega)).trans ((Below.heap_alloc _ _ _ z2).trans d2)
 have f3 : ((w1.alloc (.cells #[.int .i64 LI] 2)).alloc (.cells #[.int .i64 LT] 2)).heap[w1.heap.size]? = some (.cells #[.int .i64 LI] 2) := (Below.heap_alloc _ _ _ (by simp)).trans (heap_alloc_new _ _)
 have f4 : ((w1.alloc (.cells #[.int .i64 LI] 2)).alloc (.cells #[.int .i64 LT] 2)).heap[w1.heap.size + 1]? = some (.cells #[.int .i64 LT] 2) := heap_alloc2_new _ _ _
 clear d0 d1 d2 e0 e1 e2
 generalize (w1.alloc (.cells #[.int .i64 LI] 2)).alloc (.cells #[.int .i64 LT] 2) = W0 at *
 have hr0 : qm w W0 p N Z q s (w1.heap.size + 4) := ⟨q,xs,K,H.out.more (fun b hb => hb.1) hb2,rfl,qe hb2 nlq,by omega⟩
 generalize w1.heap.size = m1 at *
 clear hbw hb2 H
 obtain ⟨B3,hB3⟩ : ∃ B3,B3 = w.heap.size + 1 := ⟨_,rfl⟩
 have hbx : ∀ W : World,qf (fun b => w.heap.size <= b /\ b < m1 + 2) W0 W -> qek W w.heap.size m1 p kk tt LI LT := fun W hk => ⟨(hk.block _ (hlt f0) ⟨by omega,by omega⟩).trans f0,(hk.block _ (hlt f1) ⟨by omega,by omega⟩).trans f1,(hk.block _ (hlt f2) ⟨by omega,by omega⟩).trans f2,(hk.block _ (hlt f3) ⟨by omega,by omega⟩).trans f3,(hk.block _ (hlt f4) ⟨by omega,by omega⟩).trans f4⟩
 refine qZ (id := N.id) (n := N.n) (p := p) rfl hn.1 rfl (by omega) ?_
  (fun pre W => qm w W p (pre.foldl (qV kk tt) N) Z q s (m1 + 4) /\ qf (fun b => w.heap.size <= b /\ b < m1 + 2) W0 W) ?_ ?_ ?_
  (fun x => { tmps := #[ptrV p, .int .i64 kk, .int .i64 tt, .pointer (some ⟨w.heap.size,0,none⟩), .pointer (some ⟨w.heap.size + 1,0,none⟩), .pointer (some ⟨w.heap.size + 1 + 1,0,none⟩), .pointer (some ⟨m1,0,none⟩), .pointer (some ⟨m1 + 1,0,none⟩), .int .i64 (x : Int), .tuple #[.int .i64 LI, .int .i64 LT],ptrV p, .pointer (some ⟨p,0,none⟩), .pointer (some ⟨p,8,none⟩),ptrV q.l, .tuple #[.int .i64 LI, .int .i64 LT], .int .i64 LI, .int .i64 LT,ptrV p, .func (.func 37) #[ptrV p] #[], .int .i64 (x : Int),undef,undef,undef,undef,undef,undef,undef,undef],defers := [] }) ?assign ?body ?done
 · obtain ⟨q',xs',K',h3,_⟩ := hr0
   exact h3.c1
 · rintro pre W ⟨h1,_⟩
   obtain ⟨ls,_,e⟩ := qb7 kk tt N pre
   have := h1.c0
   rw [e] at this
   exact this
 · intro r
   exact ⟨(hr0.alloc hZ _).alloc hZ _,(qz _ _).trans (qz _ _)⟩
 · rintro pre W r r' ⟨h1,h2⟩ hr
   exact ⟨h1.turn hZ _ (by omega) (by omega) _,h2.trans (qT (by omega))⟩
 case assign =>
  intro l x W K hK
  gi_wp2
  exact hK
 case body =>
  rintro l pre x W hxn hxi hpre ⟨h1,h2⟩ hsW hlW hdW
  obtain ⟨q',xs',K',h3,h4,h5,h6⟩ := h1
  obtain ⟨g0,g1,g2,g3,g4⟩ := hbx W h2
  have c0 : W.cell? ⟨w.heap.size,0,none⟩ = some (ptrV p) := qa g0 0 _ rfl
  have c1 : W.cell? ⟨w.heap.size + 1,0,none⟩ = some (.int .i64 kk) := qa g1 0 _ rfl
  have c2 : W.cell? ⟨w.heap.size + 1 + 1,0,none⟩ = some (.int .i64 tt) := qa g2 0 _ rfl
  have c3 : W.cell? ⟨m1,0,none⟩ = some (.int .i64 LI) := qa g3 0 _ rfl
  have c4 : W.cell? ⟨m1 + 1,0,none⟩ = some (.int .i64 LT) := qa g4 0 _ rfl
  have hS := qcO h3 (fun b hb => hb.elim (fun e => by have := hZ b e; omega) (fun e => by omega)) hm hn hpre ht
  rw [HLI.out,HLT.out] at hS
  have hW := Lib.hid (show qf Z w W from h5)
  have hK2 := Lib.hid h2
  have hL := Lib.hid h4
  have hSz := Lib.hid (And.intro hs2 (And.intro hsW h6))
  have hz2 := Lib.hid (And.intro z0 z2)
  clear h2 h3 h4 h5 h6 hr0 f0 f1 f2 f3 f4 hbx g0 g1 g2 g3 g4 hs2 z0 z1 z2 hsW hB3
  gi_wp2
  refine ⟨trivial,?_⟩
  refine (CallsIn.inRound l (callsIn_wide.2 hS)).mono ?_
  rintro e w' ⟨rfl,hT⟩
  gi_wp2
  obtain ⟨q2,xs2,K2,k1,k2,k3⟩ := hT
  obtain ⟨s1,s5,s2⟩ := hSz.out
  obtain ⟨s3,s4⟩ := hz2.out
  refine ⟨?_,?_,⟨q2,xs2,K2,?_,k2.trans hL.out,hW.out.trans (k3.mono fun b hb => .inl hb),?_⟩,?_⟩
  · exact k3.block _ (by omega) (.inr (by omega))
  · exact k3.block _ (by omega) (.inr (by omega))
  · rw [List.foldl_append]
    exact k1
  · have := k3.size; omega
  · exact hK2.out.trans (k3.mono fun b hb => .inr ⟨hb.1,by omega⟩)
 case done =>
  rintro W ⟨h1,h2⟩ hd hsD
  rw [hs2] at hd ⊢
  have hT := Lib.hid (show Turned w (W.putObj (m1 + 2) (.deferred none)) p (N.ask kk tt) Z q s from (h1.turn hZ _ (by omega) (by omega) _).turned)
  clear h1 h2 hr0 f0 f1 f2 f3 f4 hbx hs2 z0 z1 z2 hB3
  gi_wp2
  refine ⟨by simp, .inl ⟨_,_,rfl,run_takeDeferred hd,?_⟩⟩
  exact ⟨_,results_none rfl _ _ _,rfl,hT.out⟩
end Go.Proofs.Ytmiijlecfiddmaa
set_option linter.unusedVariables false
set_option linter.unusedSimpArgs false
set_option maxRecDepth 100000
set_option maxHeartbeats 1600000
namespace Go.Proofs.Ytmiijlecfiddmaa
open Go.RowKit Go.Shelf
attribute [local go_sem] Oper.semAt_some
theorem Turned.back {w w1 w2 : World} {p : Nat} {N' : Node} {Z : Nat -> Prop} {q q1 : Ptrs} {s1 : Nat} (hq : q1.l = q.l) (hk : qf Z w w1) (h : Turned w1 w2 p N' Z q1 s1) : Turned w w2 p N' Z q s1 := by
 obtain ⟨q',xs',K',h1,h2,h3⟩ := h
 exact ⟨q',xs',K',h1,h2.trans hq,hk.trans h3⟩
theorem qcv (N : Node) (hn : N.n <= 3) (hid : N.id < N.n) (ro : Int) : Node.won ((N.count ro).yes 1) (N.count ro).n = decide (N.n = 1) := by
 have h1 : (N.count ro).yes 1 = 1 := by
  show ((List.range N.n).filter fun k => decide ((if k = N.id then (1 : Int) else 0) = 1)).length = 1
  generalize N.n = n at *
  generalize N.id = i at *
  obtain ⟨rfl,rfl⟩ | ⟨rfl,rfl⟩ | ⟨rfl,rfl⟩ | ⟨rfl,rfl⟩ | ⟨rfl,rfl⟩ | ⟨rfl,rfl⟩ : (n = 1 /\ i = 0) \/ (n = 2 /\ i = 0) \/ (n = 2 /\ i = 1) \/ (n = 3 /\ i = 0) \/ (n = 3 /\ i = 1) \/ (n = 3 /\ i = 2) := by omega
  all_goals rfl
 rw [h1]
 show decide (1 <= N.n /\ 1 <= N.n /\ N.n < 2 * 1) = _
 exact decide_eq_decide.2 (by omega)
theorem qdI {w : World} {p : Nat} {N : Node} {Z : Nat -> Prop} {q : Ptrs} {s : Nat} {xs : List MLay} {K : Nat -> Prop} (h : RfAt w p N Z q s xs K) (hZ : ∀ b,Z b -> b < w.heap.size) (hms : N.ms.length < 999990) (hl : N.lg.l.length <= 400000) (hg : Good N.lg) (hn : N.n <= 3 /\ N.id < N.n) (hsd : N.sn.d.length <= 50000)
 (hidle : N.cx = 0 /\ N.rd = [] /\ N.nx = Node.zeroF /\ N.ma = Node.zeroF /\ N.ac = Node.zeroF) (hti : 0 <= N.ht /\ N.ht <= 2199023255552) (hadd : N.n = 1 -> runB N.lg.lastI N.lg.lastT [⟨N.lg.lastI + 1,N.ht + 1,[]⟩] = true) :
 Calls Try.prog 41 #[ptrV p] w fun e w' => e = .returned (.tuple #[]) /\ Turned w w' p N.run Z q s := by
 have c0 := h.c0
 have c2 := h.c2
 have c3 := h.c3
 have f2 := h.fz 2
 have f3 := h.fz 3
 have y1 : IntKind.i64.wrap (N.ht + 1) = N.ht + 1 := IntWalk.i64_in _ (by omega)
 have HO := Lib.hid h.on
 have H := Lib.hid (And.intro h (And.intro hZ (And.intro hms (And.intro hl (And.intro hg (And.intro hn (And.intro hsd (And.intro hidle (And.intro hti hadd)))))))))
 clear h hZ hms hl hg hn hsd hidle hti hadd
 go_enter Try.func41,Try.ntmps41
 go_wp2
 go_region
 obtain ⟨h,hZ,hms,hl,hg,hn,hsd,hidle,hti,hadd⟩ := H.out
 have g0 := OnP.put HO.out 2 (.int .i64 (N.ht + 1)) (C' := #[.int .i64 (N.id : Int), .int .i64 (N.n : Int), .int .i64 (N.ht + 1), .int .i64 N.hv, .int .i64 N.sn.i, .int .i64 N.sn.t, .slice q.E N.sn.d.length q.cE, .bool N.kp,ptrV q.l, .int .i64 N.cm, .int .i64 N.ro, .int .i64 N.ld, .int .i64 N.wk, .int .i64 (N.sy 0), .int .i64 (N.sy 1), .int .i64 (N.sy 2), .int .i64 (N.nx 0), .int .i64 (N.ma 0), .int .i64 (N.ac 0), .int .i64 (N.nx 1), .int .i64 (N.ma 1), .int .i64 (N.ac 1), .int .i64 (N.nx 2), .int .i64 (N.ma 2), .int .i64 (N.ac 2), .int .i64 N.cx, .slice q.R N.rd.length q.cR, .slice q.M N.ms.length q.cM, .slice q.T N.td.length q.cT]) rfl
 have g1 := OnP.put g0 3 (.int .i64 (N.id : Int)) (C' := #[.int .i64 (N.id : Int), .int .i64 (N.n : Int), .int .i64 (N.ht + 1), .int .i64 (N.id : Int), .int .i64 N.sn.i, .int .i64 N.sn.t, .slice q.E N.sn.d.length q.cE, .bool N.kp,ptrV q.l, .int .i64 N.cm, .int .i64 N.ro, .int .i64 N.ld, .int .i64 N.wk, .int .i64 (N.sy 0), .int .i64 (N.sy 1), .int .i64 (N.sy 2), .int .i64 (N.nx 0), .int .i64 (N.ma 0), .int .i64 (N.ac 0), .int .i64 (N.nx 1), .int .i64 (N.ma 1), .int .i64 (N.ac 1), .int .i64 (N.nx 2), .int .i64 (N.ma 2), .int .i64 (N.ac 2), .int .i64 N.cx, .slice q.R N.rd.length q.cR, .slice q.M N.ms.length q.cM, .slice q.T N.td.length q.cT]) rfl
 have o2 := g1.drew
 clear c0 c2 c3 f2 f3 y1 HO
 generalize ((w.setCell ⟨p,2,none⟩ (.int .i64 (N.ht + 1))).setCell ⟨p,3,none⟩ (.int .i64 (N.id : Int))).drew = W1 at *
 have h1 : RfAt W1 p { N with ht := N.ht + 1,hv := N.id } Z q s xs K := h.turn (Nat.le_of_eq o2.size.symm) (fun b _ hb => o2.off b hb) o2.row rfl rfl rfl rfl rfl
 have k1 : qf Z w W1 := o2.keeps h.away
 have hS := qbc h1 hn.1 (show N.id < 3 by omega) 2
 have HF := Lib.hid (And.intro h1 k1)
 clear h hZ hms hl hg hn hsd hidle hti hadd o2 h1 k1 g0 g1
 go_wp2_with fail
 refine hS.mono ?_
 rintro e w2 ⟨rfl,h2,k2⟩
 obtain ⟨h1,k1⟩ := HF.out
 obtain ⟨h,hZ,hms,hl,hg,hn,hsd,hidle,hti,hadd⟩ := H.out
 have hW := qb5 h2 hn.1
 rw [show Node.won (Node.yes { N with ht := N.ht + 1,hv := (N.id : Int),ro := 2,ld := -1,wk := 0,sy := Node.put Node.zeroF N.id 1 } 1) N.n = decide (N.n = 1) from qcv { N with ht := N.ht + 1,hv := N.id } hn.1 hn.2 2] at hW
 have HG := Lib.hid (And.intro h2 (k1.trans k2))
 by_cases h1n : N.n = 1
 · have HN := Lib.hid h1n
   rw [decide_eq_true h1n] at hW
   clear h hZ hms hl hg hn hsd hidle hti hadd h1 k1 h2 k2 HF hS h1n
   go_wp2_with fail
   refine hW.mono ?_
   rintro e w3 ⟨rfl,m,rfl⟩
   obtain ⟨h2,k2⟩ := HG.out
   obtain ⟨h,hZ,hms,hl,hg,hn,hsd,hidle,hti,hadd⟩ := H.out
   have hR := qdg (h2.below (below_drewN blq m)) (fun b hb => Nat.lt_of_lt_of_le (hZ b hb) (k2.trans (qe (below_drewN blq m) nlq)).size) hms hl hg ⟨hn.1,show N.id < 3 by omega⟩ hsd hidle (hadd HN.out)
   have hk := k2.trans (qe (Z := Z) (below_drewN blq m) nlq)
   have HK := Lib.hid hk
   clear h hZ hms hl hg hn hsd hidle hti hadd h2 k2 HG hW hk
   go_wp2_with fail
   refine hR.mono ?_
   rintro e w4 ⟨rfl,hT⟩
   have HT := Lib.hid hT
   clear hT hR
   go_wp2
   first | refine bodyPost_ret (results_none rfl _ _ _) rfl ?_ | refine bodyPost_end (results_none rfl _ _ _) rfl ?_
   refine ⟨rfl,?_⟩
   have e : N.run = Node.rise (Node.count { N with ht := N.ht + 1,hv := N.id } 2) := by
    show (if N.n = 1 then _ else _) = _
    rw [if_pos HN.out]
   rw [e]
   exact HT.out.back rfl HK.out
 · have HN := Lib.hid h1n
   rw [decide_eq_false h1n] at hW
   clear h hZ hms hl hg hn hsd hidle hti hadd h1 k1 h2 k2 HF hS h1n
   go_wp2_with fail
   refine hW.mono ?_
   rintro e w3 ⟨rfl,m,rfl⟩
   obtain ⟨h2,k2⟩ := HG.out
   obtain ⟨h,hZ,hms,hl,hg,hn,hsd,hidle,hti,hadd⟩ := H.out
   have c2 : (w2.drewN m).cell? ⟨p,2,none⟩ = some (.int .i64 (N.ht + 1)) := h2.c2
   have hR := fun j => qaP (h2.below (below_drewN (Below.refl w2.heap.size w2) j)) (fun b hb => Nat.lt_of_lt_of_le (hZ b hb) (k2.trans (qe (below_drewN blq j) nlq)).size) hms (by show N.lg.l.length <= 1000000; omega) ⟨hn.1,show N.id < 3 by omega⟩ 3 (N.ht + 1) (by omega)
   have hk := fun j => k2.trans (qe (Z := Z) (below_drewN (Below.refl w2.heap.size w2) j) nlq)
   have HK := Lib.hid hk
   clear h hZ hms hl hg hn hsd hidle hti hadd h2 k2 HG hW hk
   go_wp2_with fail
   refine (hR _).mono ?_
   rintro e w4 ⟨rfl,hT⟩
   have HT := Lib.hid hT
   clear hT hR
   go_wp2
   first | refine bodyPost_ret (results_none rfl _ _ _) rfl ?_ | refine bodyPost_end (results_none rfl _ _ _) rfl ?_
   refine ⟨rfl,?_⟩
   have e : N.run = Node.ask (Node.count { N with ht := N.ht + 1,hv := N.id } 2) 3 (N.ht + 1) := by
    show (if N.n = 1 then _ else _) = _
    rw [if_neg HN.out]
    rfl
   rw [e]
   exact HT.out.back rfl (HK.out _)
theorem qdk {w : World} {p : Nat} {N : Node} {Z : Nat -> Prop} {q : Ptrs} {s : Nat} {xs : List MLay} {K : Nat -> Prop} (h : RfAt w p N Z q s xs K) (hZ : ∀ b,Z b -> b < w.heap.size) (hms : N.ms.length < 999990) (hl : N.lg.l.length <= 400000) (hg : Good N.lg) (hn : N.n <= 3 /\ N.id < N.n) (hsd : N.sn.d.length <= 50000)
 (hidle : N.cx = 0 /\ N.rd = [] /\ N.nx = Node.zeroF /\ N.ma = Node.zeroF /\ N.ac = Node.zeroF) (hti : 0 <= N.ht /\ N.ht <= 2199023255552) (hadd : N.n = 1 -> runB N.lg.lastI N.lg.lastT [⟨N.lg.lastI + 1,N.ht + 1,[]⟩] = true) :
 Calls Try.prog 21 #[ptrV p] w fun e w' => e = .returned (.tuple #[]) /\ Turned w w' p (if N.n = 1 then (N.count 1).run else (N.count 1).ask 1 (N.ht + 1)) Z q s := by
 have y1 : IntKind.i64.wrap (N.ht + 1) = N.ht + 1 := IntWalk.i64_in _ (by omega)
 have hS := qbc h hn.1 (show N.id < 3 by omega) 1
 have H := Lib.hid (And.intro h (And.intro hZ (And.intro hms (And.intro hl (And.intro hg (And.intro hn (And.intro hsd (And.intro hidle (And.intro hti hadd)))))))))
 clear h hZ hms hl hg hn hsd hidle hti hadd
 go_enter Try.func21,Try.ntmps21
 go_wp2_with fail
 refine hS.mono ?_
 rintro e w2 ⟨rfl,h2,k2⟩
 obtain ⟨h,hZ,hms,hl,hg,hn,hsd,hidle,hti,hadd⟩ := H.out
 have hW := qb5 h2 hn.1
 rw [show Node.won (Node.yes { N with ro := 1,ld := -1,wk := 0,sy := Node.put Node.zeroF N.id 1 } 1) N.n = decide (N.n = 1) from qcv N hn.1 hn.2 1] at hW
 have HG := Lib.hid (And.intro h2 k2)
 by_cases h1n : N.n = 1
 · have HN := Lib.hid h1n
   rw [decide_eq_true h1n] at hW
   clear h hZ hms hl hg hn hsd hidle hti hadd h2 k2 hS h1n
   go_wp2_with fail
   refine hW.mono ?_
   rintro e w3 ⟨rfl,m,rfl⟩
   obtain ⟨h2,k2⟩ := HG.out
   obtain ⟨h,hZ,hms,hl,hg,hn,hsd,hidle,hti,hadd⟩ := H.out
   have hk := k2.trans (qe (Z := Z) (below_drewN (Below.refl w2.heap.size w2) m) nlq)
   have hR := qdI (h2.below (below_drewN blq m)) (fun b hb => Nat.lt_of_lt_of_le (hZ b hb) hk.size) hms hl hg hn hsd hidle hti hadd
   have HK := Lib.hid hk
   clear h hZ hms hl hg hn hsd hidle hti hadd h2 k2 HG hW hk
   go_wp2_with fail
   refine hR.mono ?_
   rintro e w4 ⟨rfl,hT⟩
   have HT := Lib.hid hT
   clear hT hR
   go_wp2
   first | refine bodyPost_ret (results_none rfl _ _ _) rfl ?_ | refine bodyPost_end (results_none rfl _ _ _) rfl ?_
   refine ⟨rfl,?_⟩
   exact HT.out.back rfl HK.out
 · have HN := Lib.hid h1n
   rw [decide_eq_false h1n] at hW
   clear h hZ hms hl hg hn hsd hidle hti hadd h2 k2 hS h1n
   go_wp2_with fail
   refine hW.mono ?_
   rintro e w3 ⟨rfl,m,rfl⟩
   obtain ⟨h2,k2⟩ := HG.out
   obtain ⟨h,hZ,hms,hl,hg,hn,hsd,hidle,hti,hadd⟩ := H.out
   have c2 : (w2.drewN m).cell? ⟨p,2,none⟩ = some (.int .i64 N.ht) := h2.c2
   have hR := fun j => qaP (h2.below (below_drewN (Below.refl w2.heap.size w2) j)) (fun b hb => Nat.lt_of_lt_of_le (hZ b hb) (k2.trans (qe (below_drewN blq j) nlq)).size) hms (by show N.lg.l.length <= 1000000; omega) ⟨hn.1,show N.id < 3 by omega⟩ 1 (N.ht + 1) (by omega)
   have hk := fun j => k2.trans (qe (Z := Z) (below_drewN (Below.refl w2.heap.size w2) j) nlq)
   have HK := Lib.hid hk
   clear h hZ hms hl hg hn hsd hidle hti hadd h2 k2 HG hW hk
   go_wp2_with fail
   refine (hR _).mono ?_
   rintro e w4 ⟨rfl,hT⟩
   have HT := Lib.hid hT
   clear hT hR
   go_wp2
   first | refine bodyPost_ret (results_none rfl _ _ _) rfl ?_ | refine bodyPost_end (results_none rfl _ _ _) rfl ?_
   refine ⟨rfl,?_⟩
   exact HT.out.back rfl (HK.out _)
end Go.Proofs.Ytmiijlecfiddmaa
