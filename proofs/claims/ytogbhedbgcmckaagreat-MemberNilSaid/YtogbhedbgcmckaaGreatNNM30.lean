/- The program's node: votes counted; who stands, who falls back; whether it may lead. -/
import Derived.Test.YtogbhedbgcmckaaGreatNNM01
import Derived.Test.YtogbhedbgcmckaaGreatNNM29
import Derived.Test.YtogbhedbgcmckaaGreatNNM26
set_option linter.unusedVariables false
set_option linter.unusedSimpArgs false
set_option maxRecDepth 100000
set_option maxHeartbeats 1600000
namespace Go.Proofs.YtogbhedbgcmckaaGreat
open Go.RowKit Go.Shelf
attribute [local go_sem] Oper.semAt_some
variable {w : World} {p : Nat} {N : Node} {Z : Nat -> Prop} {q : Ptrs} {s : Nat} {xs : List MLay} {K : Nat -> Prop}
def saidK (N : Node) (v : Int) (k : Nat) : Nat := ((List.range k).filter fun j => decide (N.sy j = v)).length
theorem qfU (N : Node) (v : Int) (k : Nat) : saidK N v k <= k := Nat.le_trans (List.length_filter_le _ _) (by simp)
theorem qi2 {N : Node} {v : Int} {k : Nat} (h : N.sy k = v) : saidK N v (k + 1) = saidK N v k + 1 := by
 simp [saidK,List.range_succ,h]
theorem qkh {N : Node} {v : Int} {k : Nat} (h : N.sy k ≠ v) : saidK N v (k + 1) = saidK N v k := by
 simp [saidK,List.range_succ,h]
theorem qi3 (p off k : Nat) (hk : k <= 3) (W : World) : (Instr.sliceAt 103 (.pointer (some ⟨p,off,none⟩)) none (some (.int .i64 (k : Int))) none).run Tryz.prog W = .ok (.slice (some ⟨p,off,none⟩) k 3) W := by
 have hl : Tryz.prog.arrayLen 103 = 3 := by kernel_rfl
 rw [run_sliceAt_array_h W 103 _ (by kernel_rfl) .i64 _ (by omega) (by rw [hl]; omega),hl];rw [show Tryz.prog.elem 103 = 102 by kernel_rfl];obtain ⟨i,hi,hs⟩ := Option.map_eq_some_iff.1 (show (Tryz.prog.info? 102).map (fun i => i.size) = some 1 by kernel_rfl)
 simp [Go.sizeOf,typeInfo,hi,Result.andThen,slicedAt,Addr.add]
def qcd (w : World) (v : Value) (e : Ending) (w' : World) : Prop := e = .returned v /\ ∃ k,w' = w.drewN k
theorem qcd.at {w w' : World} {k : Nat} {v : Value} {e : Ending} (h : qcd (w.drewN k) v e w') : e = .returned v /\ ∃ n,w' = w.drewN n := by
 obtain ⟨h1,m,h2⟩ := h;exact ⟨h1,_,by rw [h2,World.drewN_drewN]⟩
theorem qi4 (h : RfAt w p N Z q s xs K) (hn : N.n <= 3) (v : Int) :
 Calls Tryz.prog 126 #[ptrV p, .int .i64 v] w (qcd w (.int .i64 (N.yes v))) := by
 have c1 := h.c1;have c13 := h.c13;have c14 := h.c14;have c15 := h.c15;have hp := h.lt
 have hcut := fun W => qi3 p 13 N.n hn W
 have hcs : ∀ W : World,(∃ j,W = w.drewN j) -> ∀ k,k < 3 -> W.cell? ⟨p,13 + k,none⟩ = some (.int .i64 (N.sy k)) := by
  rintro W ⟨j,rfl⟩ k hk
  obtain rfl | rfl | rfl : k = 0 \/ k = 1 \/ k = 2 := by omega
  · exact c13
  · exact c14
  · exact c15
 have HY := Lib.hid (show saidK N v N.n = N.yes v from rfl);have hle := qfU N v N.n;clear h c13 c14 c15
 go_enter Tryz.func126,Tryz.ntmps126
 go_wp2
 go_quiet (fail)
 go_wp2
 go_loopw [5,17] (fun m i wr => ∃ k : Nat,k <= N.n /\ i = .int .i64 (k : Int) /\ m = .int .i64 (saidK N v k : Int) /\ ∃ j,wr = w.drewN j) (fun _ i _ => N.n - (intOf i).toNat)
 case atStart => exact ⟨0,Nat.zero_le _,rfl,rfl,_,rfl⟩
 case round =>
  obtain ⟨k,hk,rfl,rfl,hwr⟩ := hrel;have hlk := qfU N v k
  by_cases hlt : k < N.n
  · have hc := hcs _ hwr k (by omega);have HW := Lib.hid hwr;clear hwr hcs
    by_cases hv : N.sy k = v
    · have HS := Lib.hid (qi2 hv);have q1 : (N.sy k == v) = true := beq_iff_eq.2 hv;clear hv;go_wp2
      go_roundw
      case rel => exact ⟨k + 1,by omega,by go_num,by rw [HS.out]; go_num,HW.out⟩
      case measure => simp [intOf]; omega
    · have HS := Lib.hid (qkh hv);have q1 : (N.sy k == v) = false := beq_eq_false_iff_ne.2 hv;have q2 : (N.sy k = v) = False := eq_false hv;clear hv;go_wp2
      go_roundw
      case rel => exact ⟨k + 1,by omega,by go_num,by rw [HS.out],HW.out⟩
      case measure => simp [intOf]; omega
  · obtain rfl : k = N.n := by omega
    obtain ⟨j,rfl⟩ := hwr;go_wp2;go_ret;exact ⟨by rw [<- HY.out]; rfl,_,rfl⟩
theorem qfV (h : RfAt w p N Z q s xs K) (hn : N.n <= 3) :
 Calls Tryz.prog 81 #[ptrV p] w (qcd w (.bool (Node.won (N.yes 1) N.n))) := by
 have c1 := h.c1;have hS : ∀ k,Calls Tryz.prog 126 #[ptrV p, .int .i64 1] (w.drewN k) (qcd (w.drewN k) (.int .i64 (N.yes 1))) := fun k => qi4 (h.below (qw blq k)) hn 1
 have hW := fun W => qlb ((N.yes 1 : Nat) : Int) (N.n : Int) (by omega) W
 rw [qkX] at hW;generalize Node.won (N.yes 1) N.n = b at *;generalize ((N.yes 1 : Nat) : Int) = y at *;clear h
 go_enter Tryz.func81,Tryz.ntmps81
 go_wp2
 go_big_quiet (first
  | (go_at_call 126
     exact (hS _).mono fun _ _ h => h.at)
  | (go_at_call 125
     exact Calls.quiet_of_same ((hW _).mono fun e w' ⟨h1,h2⟩ => ⟨h1,h2.symm⟩)))
 go_wp2;go_ret;exact ⟨rfl,_,rfl⟩
theorem qfW (h : RfAt w p N Z q s xs K) (hl : N.lg.l.length <= 1000000) :
 Calls Tryz.prog 41 #[ptrV p] w fun e w' => e = .returned (.bool (decide (N.ht < 1099511627776) && decide (N.lg.lastI < 1099511627776))) /\ Below w.heap.size w w' := by
 have c2 := h.c2;have hL := qbj h hl;clear h
 by_cases h1 : N.ht < 1099511627776
 · have e1 : decide (N.ht < 1099511627776) = true := decide_eq_true h1
   go_enter Tryz.func41,Tryz.ntmps41
   go_wp2_with fail
   refine hL.mono ?_;rintro e w' ⟨rfl,hb⟩;go_wp2;go_ret;exact ⟨by rw [e1]; rfl,hb⟩
 · have e1 : decide (N.ht < 1099511627776) = false := decide_eq_false h1
   go_enter Tryz.func41,Tryz.ntmps41
   go_wp2;go_ret;exact ⟨rfl,blq⟩
structure OnP (p : Nat) (C : Array Value) (w w' : World) : Prop where
 row : w'.heap[p]? = some (.cells C 108)
 size : w'.heap.size = w.heap.size
 off : ∀ b,b ≠ p -> w'.heap[b]? = w.heap[b]?
 os : w'.os = w.os
 tape : w'.tape = w.tape
 output : w'.output = w.output
theorem RfAt.on (h : RfAt w p N Z q s xs K) : OnP p (rfC N q) w w := ⟨h.row,rfl,fun _ _ => rfl,rfl,rfl,rfl⟩
theorem OnP.put {p : Nat} {C C' : Array Value} {w w' : World} (h : OnP p C w w') (j : Nat) (v : Value) (e : C.setIfInBounds j v = C') : OnP p C' w (w'.setCell ⟨p,j,none⟩ v) :=
 ⟨by rw [<- e]; exact setCell_at w' ⟨p,j,none⟩ v _ _ _ rfl h.row,by simp [h.size],fun b hb => (Below.heap_setCell _ _ _ _ (by exact hb)).trans (h.off b hb),h.os,h.tape,h.output⟩
theorem OnP.puq {p : Nat} {C C' : Array Value} {w w' : World} (h : OnP p C w w') (j : Nat) (v : Value) (e : C.setIfInBounds j v = C' := by first | (simp only [rfC, lpq]; rfl) | (simp only [lpq]; rfl) | (simp only [lpq]; done) | rfl) : OnP p C' w (w'.setCell ⟨p, j, none⟩ v) := h.put j v e
theorem OnP.drew {p : Nat} {C : Array Value} {w w' : World} (h : OnP p C w w') : OnP p C w w'.drew := ⟨h.row,h.size,h.off,h.os,h.tape,h.output⟩
theorem OnP.keeps {p : Nat} {C : Array Value} {w w' : World} (h : OnP p C w w') {Z : Nat -> Prop} (hZ : ¬ Z p) : qa Z w w' :=
 ⟨h.os,h.tape,h.output,Nat.le_of_eq h.size.symm,fun b _ hb => h.off b fun e => hZ (e ▸ hb)⟩
theorem qdR (h : RfAt w p N Z q s xs K) (hn : N.n <= 3) (hi : N.id < 3) (role : Int) :
 Calls Tryz.prog 80 #[ptrV p, .int .i64 role] w fun e w' => e = .returned (.tuple #[]) /\ RfAt w' p { N with ro := role,ld := -1,wk := 0,sy := Node.put Node.zeroF N.id 1 } Z q s xs K /\ qa Z w w' := by
 have hO := h.on;have c10 := h.c10;have c11 := h.c11;have c12 := h.c12;have c13 := h.c13;have c14 := h.c14;have c15 := h.c15;have f10 := h.fz 10;have f11 := h.fz 11;have f12 := h.fz 12;have f13 := h.fz 13;have f14 := h.fz 14;have f15 := h.fz 15;have hp := h.lt;have H := Lib.hid h;have HO := Lib.hid hO;clear h hO
 go_enter Tryz.func80,Tryz.ntmps80
 go_wp2
 have hO : OnP p (rfC { N with ro := role,ld := -1,wk := 0,sy := Node.zeroF } q) w ((((((w.setCell ⟨p,10,none⟩ (.int .i64 role)).setCell ⟨p,11,none⟩ (.int .i64 (-1))).setCell ⟨p,12,none⟩ (.int .i64 0)).setCell ⟨p,13,none⟩ (.int .i64 0)).setCell ⟨p,14,none⟩ (.int .i64 0)).setCell ⟨p,15,none⟩ (.int .i64 0)) :=
  (((((HO.out.put 10 _ rfl).put 11 _ rfl).put 12 _ rfl).put 13 _ rfl).put 14 _ rfl).put 15 _ rfl
 clear c10 c11 c12 c13 c14 c15 f10 f11 f12 f13 f14 f15 HO;generalize ((((((w.setCell ⟨p,10,none⟩ (.int .i64 role)).setCell ⟨p,11,none⟩ (.int .i64 (-1))).setCell ⟨p,12,none⟩ (.int .i64 0)).setCell ⟨p,13,none⟩ (.int .i64 0)).setCell ⟨p,14,none⟩ (.int .i64 0)).setCell ⟨p,15,none⟩ (.int .i64 0)) = W1 at *;have c0 : W1.cell? ⟨p,0,none⟩ = some (.int .i64 (N.id : Int)) := qe hO.row 0 _ rfl;have HO := Lib.hid hO
 obtain hid | hid | hid : N.id = 0 \/ N.id = 1 \/ N.id = 2 := by omega
 · rw [hid] at c0;have c13 : W1.cell? ⟨p,13,none⟩ = some (.int .i64 0) := qe hO.row 13 _ rfl;have f13 : W1.frozen? ⟨p,13,none⟩ = false := qf hO.row 13;have HI := Lib.hid hid;clear hid hO
   go_region
   go_wp2;refine bodyPost_end (results_none rfl _ _ _) rfl ?_;have h1 := (HO.out.put 13 (.int .i64 1) rfl).drew;refine ⟨rfl,H.out.turn (Nat.le_of_eq h1.size.symm) (fun b _ hb => h1.off b hb) (h1.row.trans ?_) rfl rfl rfl rfl rfl,h1.keeps H.out.away⟩;rw [HI.out]
   rfl
 · rw [hid] at c0;have c14 : W1.cell? ⟨p,14,none⟩ = some (.int .i64 0) := qe hO.row 14 _ rfl;have f14 : W1.frozen? ⟨p,14,none⟩ = false := qf hO.row 14;have HI := Lib.hid hid;clear hid hO
   go_region
   go_wp2;refine bodyPost_end (results_none rfl _ _ _) rfl ?_;have h1 := (HO.out.put 14 (.int .i64 1) rfl).drew;refine ⟨rfl,H.out.turn (Nat.le_of_eq h1.size.symm) (fun b _ hb => h1.off b hb) (h1.row.trans ?_) rfl rfl rfl rfl rfl,h1.keeps H.out.away⟩;rw [HI.out]
   rfl
 · rw [hid] at c0;have c15 : W1.cell? ⟨p,15,none⟩ = some (.int .i64 0) := qe hO.row 15 _ rfl;have f15 : W1.frozen? ⟨p,15,none⟩ = false := qf hO.row 15;have HI := Lib.hid hid;clear hid hO
   go_region
   go_wp2;refine bodyPost_end (results_none rfl _ _ _) rfl ?_;have h1 := (HO.out.put 15 (.int .i64 1) rfl).drew;refine ⟨rfl,H.out.turn (Nat.le_of_eq h1.size.symm) (fun b _ hb => h1.off b hb) (h1.row.trans ?_) rfl rfl rfl rfl rfl,h1.keeps H.out.away⟩;rw [HI.out]
   rfl
end Go.Proofs.YtogbhedbgcmckaaGreat
set_option linter.unusedVariables false
set_option linter.unusedSimpArgs false
set_option maxRecDepth 100000
set_option maxHeartbeats 3200000
namespace Go.Proofs.YtogbhedbgcmckaaGreat
open Go.RowKit Go.Shelf
attribute [local go_sem] Oper.semAt_some
variable {w : World} {p : Nat} {N : Node} {Z : Nat -> Prop} {q : Ptrs} {s : Nat} {xs : List MLay} {K : Nat -> Prop}
def qaN (k t : Int) (r : Node) (j : Nat) : Node := r.say { Node.msg k j t with i := r.lg.lastI,l := r.lg.lastT }
theorem qdA (k t : Int) (N : Node) (l : List Nat) : ∃ ls : List Msg,ls.length = l.length /\ l.foldl (qaN k t) N = { N with ms := N.ms ++ ls } := by
 induction l generalizing N with
 | nil => exact ⟨[],rfl,by simp⟩
 | cons j l ih =>
   obtain ⟨ls,h1,h2⟩ := ih (qaN k t N j);refine ⟨{ Node.msg k j t with f := N.id,i := N.lg.lastI,l := N.lg.lastT } :: ls,by simp [h1],?_⟩;rw [List.foldl_cons,h2]
   simp [qaN,Node.say]
structure qlp (W : World) (b m p : Nat) (kk tt LI LT : Int) : Prop where
 b0 : W.heap[b]? = some (.cells #[ptrV p] 67)
 b1 : W.heap[b + 1]? = some (.cells #[.int .i64 kk] 3)
 b2 : W.heap[b + 1 + 1]? = some (.cells #[.int .i64 tt] 2)
 b3 : W.heap[m]? = some (.cells #[.int .i64 LI] 2)
 b4 : W.heap[m + 1]? = some (.cells #[.int .i64 LT] 2)
theorem qhT {pre : List Nat} {x : Nat} {k t : Int} (h : RfAt w p (pre.foldl (qaN k t) N) Z q s xs K) (hZ : ∀ b,Z b -> b < w.heap.size) (hm : N.ms.length < 999990) (hn : N.n <= 3 /\ N.id < 3) (hpre : pre ++ [x] <+: oth N.id N.n) (ht : t ≠ 0) :
 Calls Tryz.prog 94 #[ptrV p, .int .i64 (x : Int),msgV ⟨k,0,0,t,N.lg.lastI,N.lg.lastT,0,0,false,[],Node.noEnt⟩ none 0 none 0] w fun e w' => e = .returned (.tuple #[]) /\ Turned w w' p (qaN k t (pre.foldl (qaN k t) N) x) Z q s := by
 obtain ⟨ls,e1,e2⟩ := qdA k t N pre;have h1 := hpre.length_le
 have h2 : (oth N.id N.n).length <= N.n := by
  unfold oth;exact Nat.le_trans (List.length_filter_le _ _) (by simp)
 rw [List.length_append] at h1;simp only [List.length_cons,List.length_nil] at h1;rw [e2] at h ⊢;refine (qaU h hZ ?_ (x : Int) ⟨⟨k,0,0,t,N.lg.lastI,N.lg.lastT,0,0,false,[],Node.noEnt⟩,none,0,none,0⟩ ⟨qa9 _ _,Nat.zero_le _,Lies.nil _,fun h0 => absurd h0 (by simp [Node.noEnt])⟩).mono ?_
 · show (N.ms ++ ls).length < 999999;rw [List.length_append];omega
 · rintro e w' ⟨rfl,hT⟩;refine ⟨rfl,hT.turned blq ?_⟩;show qaN k t _ x = _;unfold qaN Node.say Node.msg;dsimp only;rw [if_neg ht]
theorem qcX (h : RfAt w p N Z q s xs K) (hZ : ∀ b,Z b -> b < w.heap.size) (hm : N.ms.length < 999990) (hl : N.lg.l.length <= 1000000) (hn : N.n <= 3 /\ N.id < 3) (kk tt : Int) (ht : tt ≠ 0) :
 Calls Tryz.prog 83 #[ptrV p, .int .i64 kk, .int .i64 tt] w fun e w' => e = .returned (.tuple #[]) /\ Turned w w' p (N.ask kk tt) Z q s := by
 have hp := h.lt;have hb0 : Below w.heap.size w (((w.alloc (.cells #[ptrV p] 67)).alloc (.cells #[.int .i64 kk] 3)).alloc (.cells #[.int .i64 tt] 2)) := ((blq.alloc nlq _).alloc (by simp) _).alloc (by simp; omega) _;have h0 := h.below hb0;obtain ⟨A,c,hr⟩ := h0.log.rd;have hL := qaZ hr hl;have c8 := h0.c8
 have hsz0 : (((w.alloc (.cells #[ptrV p] 67)).alloc (.cells #[.int .i64 kk] 3)).alloc (.cells #[.int .i64 tt] 2)).heap.size = w.heap.size + 3 := by simp
 have b0 : (((w.alloc (.cells #[ptrV p] 67)).alloc (.cells #[.int .i64 kk] 3)).alloc (.cells #[.int .i64 tt] 2)).heap[w.heap.size]? = some (.cells #[ptrV p] 67) := (Below.heap_alloc _ _ _ (by simp; omega)).trans ((Below.heap_alloc _ _ _ (by simp)).trans (heap_alloc_new _ _));have b1 : (((w.alloc (.cells #[ptrV p] 67)).alloc (.cells #[.int .i64 kk] 3)).alloc (.cells #[.int .i64 tt] 2)).heap[w.heap.size + 1]? = some (.cells #[.int .i64 kk] 3) := (Below.heap_alloc _ _ _ (by simp)).trans (heap_alloc2_new _ _ _)
 have b2 : (((w.alloc (.cells #[ptrV p] 67)).alloc (.cells #[.int .i64 kk] 3)).alloc (.cells #[.int .i64 tt] 2)).heap[w.heap.size + 1 + 1]? = some (.cells #[.int .i64 tt] 2) := by
  have := heap_alloc_new ((w.alloc (.cells #[ptrV p] 67)).alloc (.cells #[.int .i64 kk] 3)) (.cells #[.int .i64 tt] 2)
  simpa using this
 obtain ⟨LI,hLI⟩ := exq (N.lg.lastI);obtain ⟨LT,hLT⟩ := exq (N.lg.lastT);rw [hLI,hLT] at hL;have HLI := Lib.hid hLI;have HLT := Lib.hid hLT;have H := Lib.hid h;clear h0 hr hLI hLT h;refine (callsIn_wide (n := 9)).1 ?_;refine callsIn_of_wp_marks Tryz.func83 rfl trivial ?_ rfl;simp only [Tryz.ntmps83,List.size_toArray,List.length_cons,List.length_nil,Nat.reduceAdd,Nat.reduceSub,Array.replicate_succ,Array.replicate_zero,List.push_toArray,List.append_toArray,List.nil_append,List.cons_append]
 gi_wp2
 refine ⟨trivial,?_⟩;refine (callsIn_wide.2 hL).mono ?_;rintro e w1 ⟨rfl,hb1⟩;have d0 := (hb1.block _ (hlt b0)).trans b0;have d1 := (hb1.block _ (hlt b1)).trans b1;have d2 := (hb1.block _ (hlt b2)).trans b2;have e0 : w1.cell? ⟨w.heap.size,0,none⟩ = some (ptrV p) := qe d0 0 _ rfl;have e1 : w1.cell? ⟨w.heap.size + 1,0,none⟩ = some (.int .i64 kk) := qe d1 0 _ rfl;have e2 : w1.cell? ⟨w.heap.size + 1 + 1,0,none⟩ = some (.int .i64 tt) := qe d2 0 _ rfl;have hbw := hb0.trans (hb1.mono hb0.size);have z0 : w.heap.size < w1.heap.size := hlt d0;have z1 : w.heap.size + 1 < w1.heap.size := hlt d1;have z2 : w.heap.size + 1 + 1 < w1.heap.size := hlt d2;clear hb1 hb0 b0 b1 b2 hsz0 c8 hL
 gi_wp2
 have hb2 : Below w.heap.size w ((w1.alloc (.cells #[.int .i64 LI] 2)).alloc (.cells #[.int .i64 LT] 2)) := (hbw.alloc hbw.size _).alloc (by simp; omega) _
 have hs2 : ((w1.alloc (.cells #[.int .i64 LI] 2)).alloc (.cells #[.int .i64 LT] 2)).heap.size = w1.heap.size + 2 := by simp
 have f0 : ((w1.alloc (.cells #[.int .i64 LI] 2)).alloc (.cells #[.int .i64 LT] 2)).heap[w.heap.size]? = some (.cells #[ptrV p] 67) := (Below.heap_alloc _ _ _ (by simp; omega)).trans ((Below.heap_alloc _ _ _ z0).trans d0);have f1 : ((w1.alloc (.cells #[.int .i64 LI] 2)).alloc (.cells #[.int .i64 LT] 2)).heap[w.heap.size + 1]? = some (.cells #[.int .i64 kk] 3) := (Below.heap_alloc _ _ _ (by simp; omega)).trans ((Below.heap_alloc _ _ _ z1).trans d1);have f2 : ((w1.alloc (.cells #[.int .i64 LI] 2)).alloc (.cells #[.int .i64 LT] 2)).heap[w.heap.size + 1 + 1]? = some (.cells #[.int .i64 tt] 2) := (Below.heap_alloc _ _ _ (by simp; omega)).trans ((Below.heap_alloc _ _ _ z2).trans d2);have f3 : ((w1.alloc (.cells #[.int .i64 LI] 2)).alloc (.cells #[.int .i64 LT] 2)).heap[w1.heap.size]? = some (.cells #[.int .i64 LI] 2) := (Below.heap_alloc _ _ _ (by simp)).trans (heap_alloc_new _ _);have f4 : ((w1.alloc (.cells #[.int .i64 LI] 2)).alloc (.cells #[.int .i64 LT] 2)).heap[w1.heap.size + 1]? = some (.cells #[.int .i64 LT] 2) := heap_alloc2_new _ _ _;clear d0 d1 d2 e0 e1 e2;generalize (w1.alloc (.cells #[.int .i64 LI] 2)).alloc (.cells #[.int .i64 LT] 2) = W0 at *;have hr0 : q9 w W0 p N Z q s (w1.heap.size + 4) := ⟨q,xs,K,H.out.more (fun b hb => hb.1) hb2,rfl,qb hb2 nlq,by omega⟩;generalize w1.heap.size = m1 at *;clear hbw hb2 H;obtain ⟨B3,hB3⟩ : ∃ B3,B3 = w.heap.size + 1 := ⟨_,rfl⟩;have hbx : ∀ W : World,qa (fun b => w.heap.size <= b /\ b < m1 + 2) W0 W -> qlp W w.heap.size m1 p kk tt LI LT := fun W hk => ⟨(hk.block _ (hlt f0) ⟨by omega,by omega⟩).trans f0,(hk.block _ (hlt f1) ⟨by omega,by omega⟩).trans f1,(hk.block _ (hlt f2) ⟨by omega,by omega⟩).trans f2,(hk.block _ (hlt f3) ⟨by omega,by omega⟩).trans f3,(hk.block _ (hlt f4) ⟨by omega,by omega⟩).trans f4⟩
 refine qb0 (id := N.id) (n := N.n) (p := p) rfl hn.1 rfl (by omega) ?_
  (fun pre W => q9 w W p (pre.foldl (qaN kk tt) N) Z q s (m1 + 4) /\ qa (fun b => w.heap.size <= b /\ b < m1 + 2) W0 W) ?_ ?_ ?_
  (fun x => { tmps := #[ptrV p, .int .i64 kk, .int .i64 tt, .pointer (some ⟨w.heap.size,0,none⟩), .pointer (some ⟨w.heap.size + 1,0,none⟩), .pointer (some ⟨w.heap.size + 1 + 1,0,none⟩), .pointer (some ⟨m1,0,none⟩), .pointer (some ⟨m1 + 1,0,none⟩), .int .i64 (x : Int), .tuple #[.int .i64 LI, .int .i64 LT],ptrV p, .pointer (some ⟨p,0,none⟩), .pointer (some ⟨p,8,none⟩),ptrV q.l, .tuple #[.int .i64 LI, .int .i64 LT], .int .i64 LI, .int .i64 LT,ptrV p, .func (.func 78) #[ptrV p] #[], .int .i64 (x : Int),undef,undef,undef,undef,undef,undef,undef,undef],defers := [] }) ?assign ?body ?done
 · obtain ⟨q',xs',K',h3,_⟩ := hr0;exact h3.c1
 · rintro pre W ⟨h1,_⟩;obtain ⟨ls,_,e⟩ := qdA kk tt N pre;have := h1.c0;rw [e] at this;exact this
 · intro r;exact ⟨(hr0.alloc hZ _).alloc hZ _,(qv _ _).trans (qv _ _)⟩
 · rintro pre W r r' ⟨h1,h2⟩ hr;exact ⟨h1.turn hZ _ (by omega) (by omega) _,h2.trans (qa5 (by omega))⟩
 case assign =>
  intro l x W K hK
  gi_wp2
  exact hK
 case body =>
  rintro l pre x W hxn hxi hpre ⟨h1,h2⟩ hsW hlW hdW;obtain ⟨q',xs',K',h3,h4,h5,h6⟩ := h1;obtain ⟨g0,g1,g2,g3,g4⟩ := hbx W h2;have c0 : W.cell? ⟨w.heap.size,0,none⟩ = some (ptrV p) := qe g0 0 _ rfl;have c1 : W.cell? ⟨w.heap.size + 1,0,none⟩ = some (.int .i64 kk) := qe g1 0 _ rfl;have c2 : W.cell? ⟨w.heap.size + 1 + 1,0,none⟩ = some (.int .i64 tt) := qe g2 0 _ rfl;have c3 : W.cell? ⟨m1,0,none⟩ = some (.int .i64 LI) := qe g3 0 _ rfl;have c4 : W.cell? ⟨m1 + 1,0,none⟩ = some (.int .i64 LT) := qe g4 0 _ rfl;have hS := qhT h3 (fun b hb => hb.elim (fun e => by have := hZ b e; omega) (fun e => by omega)) hm hn hpre ht;rw [HLI.out,HLT.out] at hS;have hW := Lib.hid (show qa Z w W from h5);have hK2 := Lib.hid h2;have hL := Lib.hid h4;have hSz := hdq3 hs2 hsW h6;have hz2 := hdq2 z0 z2;clear h2 h3 h4 h5 h6 hr0 f0 f1 f2 f3 f4 hbx g0 g1 g2 g3 g4 hs2 z0 z1 z2 hsW hB3
  gi_wp2
  refine ⟨trivial,?_⟩;refine (CallsIn.inRound l (callsIn_wide.2 hS)).mono ?_;rintro e w' ⟨rfl,hT⟩
  gi_wp2
  obtain ⟨q2,xs2,K2,k1,k2,k3⟩ := hT;obtain ⟨s1,s5,s2⟩ := hSz.out;obtain ⟨s3,s4⟩ := hz2.out;refine ⟨?_,?_,⟨q2,xs2,K2,?_,k2.trans hL.out,hW.out.trans (k3.mono fun b hb => .inl hb),?_⟩,?_⟩
  · exact k3.block _ (by omega) (.inr (by omega))
  · exact k3.block _ (by omega) (.inr (by omega))
  · rw [List.foldl_append];exact k1
  · have := k3.size; omega
  · exact hK2.out.trans (k3.mono fun b hb => .inr ⟨hb.1,by omega⟩)
 case done =>
  rintro W ⟨h1,h2⟩ hd hsD;rw [hs2] at hd ⊢;have hT := Lib.hid (show Turned w (W.putObj (m1 + 2) (.deferred none)) p (N.ask kk tt) Z q s from (h1.turn hZ _ (by omega) (by omega) _).turned);clear h1 h2 hr0 f0 f1 f2 f3 f4 hbx hs2 z0 z1 z2 hB3
  gi_wp2
  refine ⟨by simp, .inl ⟨_,_,rfl,run_takeDeferred hd,?_⟩⟩;exact ⟨_,results_none rfl _ _ _,rfl,hT.out⟩
end Go.Proofs.YtogbhedbgcmckaaGreat
set_option linter.unusedVariables false
set_option linter.unusedSimpArgs false
set_option maxRecDepth 100000
set_option maxHeartbeats 1600000
namespace Go.Proofs.YtogbhedbgcmckaaGreat
open Go.RowKit Go.Shelf
attribute [local go_sem] Oper.semAt_some
variable {w : World} {p : Nat} {N : Node} {Z : Nat -> Prop} {q : Ptrs} {s : Nat} {xs : List MLay} {K : Nat -> Prop}
theorem Turned.back {w w1 w2 : World} {p : Nat} {N' : Node} {Z : Nat -> Prop} {q q1 : Ptrs} {s1 : Nat} (hq : q1.l = q.l) (hk : qa Z w w1) (h : Turned w1 w2 p N' Z q1 s1) : Turned w w2 p N' Z q s1 := by
 obtain ⟨q',xs',K',h1,h2,h3⟩ := h;exact ⟨q',xs',K',h1,h2.trans hq,hk.trans h3⟩
theorem qgS (N : Node) (hn : N.n <= 3) (hid : N.id < N.n) (ro : Int) : Node.won ((N.count ro).yes 1) (N.count ro).n = decide (N.n = 1) := by
 have h1 : (N.count ro).yes 1 = 1 := by
  show ((List.range N.n).filter fun k => decide ((if k = N.id then (1 : Int) else 0) = 1)).length = 1;generalize N.n = n at *;generalize N.id = i at *
  obtain ⟨rfl,rfl⟩ | ⟨rfl,rfl⟩ | ⟨rfl,rfl⟩ | ⟨rfl,rfl⟩ | ⟨rfl,rfl⟩ | ⟨rfl,rfl⟩ : (n = 1 /\ i = 0) \/ (n = 2 /\ i = 0) \/ (n = 2 /\ i = 1) \/ (n = 3 /\ i = 0) \/ (n = 3 /\ i = 1) \/ (n = 3 /\ i = 2) := by omega
  all_goals rfl
 rw [h1];show decide (1 <= N.n /\ 1 <= N.n /\ N.n < 2 * 1) = _;exact decide_eq_decide.2 (by omega)
theorem qki (h : RfAt w p N Z q s xs K) (hZ : ∀ b,Z b -> b < w.heap.size) (hms : N.ms.length < 999990) (hl : N.lg.l.length <= 400000) (hg : qk N.lg) (hn : N.n <= 3 /\ N.id < N.n) (hsd : N.sn.d.length <= 50000)
 (hidle : N.cx = 0 /\ N.rd = [] /\ N.nx = Node.zeroF /\ N.ma = Node.zeroF /\ N.ac = Node.zeroF) (hti : 0 <= N.ht /\ N.ht <= 2199023255552) (hadd : N.n = 1 -> runB N.lg.lastI N.lg.lastT [⟨N.lg.lastI + 1,N.ht + 1,[]⟩] = true) :
 Calls Tryz.prog 82 #[ptrV p] w fun e w' => e = .returned (.tuple #[]) /\ Turned w w' p N.run Z q s := by
 have c0 := h.c0;have c2 := h.c2;have c3 := h.c3;have f2 := h.fz 2;have f3 := h.fz 3;have y1 : IntKind.i64.wrap (N.ht + 1) = N.ht + 1 := IntWalk.i64_in _ (by omega);have HO := Lib.hid h.on;have H := hdq10 h hZ hms hl hg hn hsd hidle hti hadd;clear h hZ hms hl hg hn hsd hidle hti hadd
 go_enter Tryz.func82,Tryz.ntmps82
 go_wp2
 go_region
 obtain ⟨h,hZ,hms,hl,hg,hn,hsd,hidle,hti,hadd⟩ := H.out;have g0 := OnP.puq HO.out 2 (.int .i64 (N.ht + 1));have g1 := OnP.puq g0 3 (.int .i64 (N.id : Int));have o2 := g1.drew;clear c0 c2 c3 f2 f3 y1 HO;generalize ((w.setCell ⟨p,2,none⟩ (.int .i64 (N.ht + 1))).setCell ⟨p,3,none⟩ (.int .i64 (N.id : Int))).drew = W1 at *;have h1 : RfAt W1 p { N with ht := N.ht + 1,hv := N.id } Z q s xs K := h.turn (Nat.le_of_eq o2.size.symm) (fun b _ hb => o2.off b hb) o2.row rfl rfl rfl rfl rfl;have k1 : qa Z w W1 := o2.keeps h.away;have hS := qdR h1 hn.1 (show N.id < 3 by omega) 2;have HF := hdq2 h1 k1;clear h hZ hms hl hg hn hsd hidle hti hadd o2 h1 k1 g0 g1
 go_wp2_with fail
 refine hS.mono ?_;rintro e w2 ⟨rfl,h2,k2⟩;obtain ⟨h1,k1⟩ := HF.out;obtain ⟨h,hZ,hms,hl,hg,hn,hsd,hidle,hti,hadd⟩ := H.out;have hW := qfV h2 hn.1;rw [show Node.won (Node.yes { N with ht := N.ht + 1,hv := (N.id : Int),ro := 2,ld := -1,wk := 0,sy := Node.put Node.zeroF N.id 1 } 1) N.n = decide (N.n = 1) from qgS { N with ht := N.ht + 1,hv := N.id } hn.1 hn.2 2] at hW;have HG := hdq2 h2 (k1.trans k2)
 by_cases h1n : N.n = 1
 · have HN := Lib.hid h1n;rw [decide_eq_true h1n] at hW;clear h hZ hms hl hg hn hsd hidle hti hadd h1 k1 h2 k2 HF hS h1n
   go_wp2_with fail
   refine hW.mono ?_;rintro e w3 ⟨rfl,m,rfl⟩;obtain ⟨h2,k2⟩ := HG.out;obtain ⟨h,hZ,hms,hl,hg,hn,hsd,hidle,hti,hadd⟩ := H.out;have hR := qi1 (h2.below (qw blq m)) (fun b hb => Nat.lt_of_lt_of_le (hZ b hb) (k2.trans (qb (qw blq m) nlq)).size) hms hl hg ⟨hn.1,show N.id < 3 by omega⟩ hsd hidle (hadd HN.out);have hk := k2.trans (qb (Z := Z) (qw blq m) nlq);have HK := Lib.hid hk;clear h hZ hms hl hg hn hsd hidle hti hadd h2 k2 HG hW hk
   go_wp2_with fail
   refine hR.mono ?_;rintro e w4 ⟨rfl,hT⟩;have HT := Lib.hid hT;clear hT hR;go_wp2;refine bpq ?_;refine ⟨rfl,?_⟩
   have e : N.run = Node.rise (Node.count { N with ht := N.ht + 1,hv := N.id } 2) := by
    show (if N.n = 1 then _ else _) = _;rw [if_pos HN.out]
   rw [e];exact HT.out.back rfl HK.out
 · have HN := Lib.hid h1n;rw [decide_eq_false h1n] at hW;clear h hZ hms hl hg hn hsd hidle hti hadd h1 k1 h2 k2 HF hS h1n
   go_wp2_with fail
   refine hW.mono ?_;rintro e w3 ⟨rfl,m,rfl⟩;obtain ⟨h2,k2⟩ := HG.out;obtain ⟨h,hZ,hms,hl,hg,hn,hsd,hidle,hti,hadd⟩ := H.out;have c2 : (w2.drewN m).cell? ⟨p,2,none⟩ = some (.int .i64 (N.ht + 1)) := h2.c2
   have hR := fun j => qcX (h2.below (qw (Below.refl w2.heap.size w2) j)) (fun b hb => Nat.lt_of_lt_of_le (hZ b hb) (k2.trans (qb (qw blq j) nlq)).size) hms (by show N.lg.l.length <= 1000000; omega) ⟨hn.1,show N.id < 3 by omega⟩ 3 (N.ht + 1) (by omega)
   have hk := fun j => k2.trans (qb (Z := Z) (qw (Below.refl w2.heap.size w2) j) nlq)
   have HK := Lib.hid hk;clear h hZ hms hl hg hn hsd hidle hti hadd h2 k2 HG hW hk
   go_wp2_with fail
   refine (hR _).mono ?_;rintro e w4 ⟨rfl,hT⟩;have HT := Lib.hid hT;clear hT hR;go_wp2;refine bpq ?_;refine ⟨rfl,?_⟩
   have e : N.run = Node.ask (Node.count { N with ht := N.ht + 1,hv := N.id } 2) 3 (N.ht + 1) := by
    show (if N.n = 1 then _ else _) = _;rw [if_neg HN.out]
    rfl
   rw [e];exact HT.out.back rfl (HK.out _)
theorem qi5 (h : RfAt w p N Z q s xs K) (hZ : ∀ b,Z b -> b < w.heap.size) (hms : N.ms.length < 999990) (hl : N.lg.l.length <= 400000) (hg : qk N.lg) (hn : N.n <= 3 /\ N.id < N.n) (hsd : N.sn.d.length <= 50000)
 (hidle : N.cx = 0 /\ N.rd = [] /\ N.nx = Node.zeroF /\ N.ma = Node.zeroF /\ N.ac = Node.zeroF) (hti : 0 <= N.ht /\ N.ht <= 2199023255552) (hadd : N.n = 1 -> runB N.lg.lastI N.lg.lastT [⟨N.lg.lastI + 1,N.ht + 1,[]⟩] = true) :
 Calls Tryz.prog 42 #[ptrV p] w fun e w' => e = .returned (.tuple #[]) /\ Turned w w' p (if N.n = 1 then (N.count 1).run else (N.count 1).ask 1 (N.ht + 1)) Z q s := by
 have y1 : IntKind.i64.wrap (N.ht + 1) = N.ht + 1 := IntWalk.i64_in _ (by omega);have hS := qdR h hn.1 (show N.id < 3 by omega) 1;have H := hdq10 h hZ hms hl hg hn hsd hidle hti hadd;clear h hZ hms hl hg hn hsd hidle hti hadd
 go_enter Tryz.func42,Tryz.ntmps42
 go_wp2_with fail
 refine hS.mono ?_;rintro e w2 ⟨rfl,h2,k2⟩;obtain ⟨h,hZ,hms,hl,hg,hn,hsd,hidle,hti,hadd⟩ := H.out;have hW := qfV h2 hn.1;rw [show Node.won (Node.yes { N with ro := 1,ld := -1,wk := 0,sy := Node.put Node.zeroF N.id 1 } 1) N.n = decide (N.n = 1) from qgS N hn.1 hn.2 1] at hW;have HG := hdq2 h2 k2
 by_cases h1n : N.n = 1
 · have HN := Lib.hid h1n;rw [decide_eq_true h1n] at hW;clear h hZ hms hl hg hn hsd hidle hti hadd h2 k2 hS h1n
   go_wp2_with fail
   refine hW.mono ?_;rintro e w3 ⟨rfl,m,rfl⟩;obtain ⟨h2,k2⟩ := HG.out;obtain ⟨h,hZ,hms,hl,hg,hn,hsd,hidle,hti,hadd⟩ := H.out;have hk := k2.trans (qb (Z := Z) (qw (Below.refl w2.heap.size w2) m) nlq);have hR := qki (h2.below (qw blq m)) (fun b hb => Nat.lt_of_lt_of_le (hZ b hb) hk.size) hms hl hg hn hsd hidle hti hadd;have HK := Lib.hid hk;clear h hZ hms hl hg hn hsd hidle hti hadd h2 k2 HG hW hk
   go_wp2_with fail
   refine hR.mono ?_;rintro e w4 ⟨rfl,hT⟩;have HT := Lib.hid hT;clear hT hR;go_wp2;refine bpq ?_;refine ⟨rfl,?_⟩;exact HT.out.back rfl HK.out
 · have HN := Lib.hid h1n;rw [decide_eq_false h1n] at hW;clear h hZ hms hl hg hn hsd hidle hti hadd h2 k2 hS h1n
   go_wp2_with fail
   refine hW.mono ?_;rintro e w3 ⟨rfl,m,rfl⟩;obtain ⟨h2,k2⟩ := HG.out;obtain ⟨h,hZ,hms,hl,hg,hn,hsd,hidle,hti,hadd⟩ := H.out;have c2 : (w2.drewN m).cell? ⟨p,2,none⟩ = some (.int .i64 N.ht) := h2.c2
   have hR := fun j => qcX (h2.below (qw (Below.refl w2.heap.size w2) j)) (fun b hb => Nat.lt_of_lt_of_le (hZ b hb) (k2.trans (qb (qw blq j) nlq)).size) hms (by show N.lg.l.length <= 1000000; omega) ⟨hn.1,show N.id < 3 by omega⟩ 1 (N.ht + 1) (by omega)
   have hk := fun j => k2.trans (qb (Z := Z) (qw (Below.refl w2.heap.size w2) j) nlq)
   have HK := Lib.hid hk;clear h hZ hms hl hg hn hsd hidle hti hadd h2 k2 HG hW hk
   go_wp2_with fail
   refine (hR _).mono ?_;rintro e w4 ⟨rfl,hT⟩;have HT := Lib.hid hT;clear hT hR;go_wp2;refine bpq ?_;refine ⟨rfl,?_⟩;exact HT.out.back rfl (HK.out _)
end Go.Proofs.YtogbhedbgcmckaaGreat
set_option linter.unusedVariables false
set_option linter.unusedSimpArgs false
set_option maxRecDepth 100000
set_option maxHeartbeats 1600000
namespace Go.Proofs.YtogbhedbgcmckaaGreat
open Go.RowKit Go.Shelf
attribute [local go_sem] Oper.semAt_some
theorem qlc {r : RL} (h : qk r) {t : Int} (h1 : 1 <= t) (h2 : t <= 1099511627776) (h3 : r.lastT <= t) (h4 : r.lastI < 1099511627776) (d : List UInt8) (hd : d.length <= 12000) : runB r.lastI r.lastT [⟨r.lastI + 1,t,d⟩] = true := by
 have h5 := h.lastI;have h6 := h.base;have h7 := h.lim;rw [qbi,qfF,(qaj _ _ _).2 ⟨⟨show 1 <= r.lastI + 1 by omega,show r.lastI + 1 <= 1099511627776 by omega⟩,⟨h1,h2⟩,hd⟩,decide_eq_true (show r.lastT <= t from h3)];simp
theorem qld {N : Node} (h1 : N.ro = 3) (h2 : 2 <= N.wk + 1) : N.tick = ({ N with wk := 0 } : Node).sendAll := by
 unfold Node.tick;exact if_pos ⟨h1,h2⟩
theorem qle {N : Node} (h1 : N.ro = 3) (h2 : ¬ 2 <= N.wk + 1) : N.tick = { N with wk := N.wk + 1 } := by
 unfold Node.tick;exact (if_neg fun e => h2 e.2).trans (if_pos (.inl h1))
theorem qfX {N : Node} (h1 : N.ro ≠ 3) (h2 : N.wk + 1 < 6 + 3 * (N.id : Int) \/ 1099511627776 <= N.ht \/ 1099511627776 <= N.lg.lastI) : N.tick = { N with wk := N.wk + 1 } := by
 unfold Node.tick;exact (if_neg fun e => h1 e.1).trans (if_pos (.inr h2))
theorem qlf {N : Node} (h1 : N.ro ≠ 3) (h2 : ¬ (N.wk + 1 < 6 + 3 * (N.id : Int) \/ 1099511627776 <= N.ht \/ 1099511627776 <= N.lg.lastI)) :
 N.tick = if N.n = 1 then (({ N with wk := N.wk + 1 } : Node).count 1).run else (({ N with wk := N.wk + 1 } : Node).count 1).ask 1 (N.ht + 1) := by
 unfold Node.tick;exact (if_neg fun e => h1 e.1).trans (if_neg fun e => e.elim h1 h2)
theorem qi6 {w : World} {p : Nat} {N : Node} {Z : Nat -> Prop} {q : Ptrs} {s : Nat} {xs : List MLay} {K : Nat -> Prop} (h : RfAt w p N Z q s xs K) (hZ : ∀ b,Z b -> b < w.heap.size) (hms : N.ms.length < 999990) (hl : N.lg.l.length <= 400000) (hg : qk N.lg) (hn : N.n <= 3 /\ N.id < N.n) (hsd : N.sn.d.length <= 50000)
 (hidle : N.ro ≠ 3 -> N.cx = 0 /\ N.rd = [] /\ N.nx = Node.zeroF /\ N.ma = Node.zeroF /\ N.ac = Node.zeroF) (hti : 0 <= N.ht /\ N.ht <= 2199023255552) (hwk : 0 <= N.wk /\ N.wk <= 2199023255552) (hnx : ∀ j,-4611686018427387904 <= N.nx j /\ N.nx j <= 4611686018427387904) (hlt : N.lg.lastT <= N.ht) :
 Calls Tryz.prog 21 #[ptrV p] w fun e w' => e = .returned (.tuple #[]) /\ Turned w w' p N.tick Z q s := by
 have c0 := h.c0;have c10 := h.c10;have c12 := h.c12;have f12 := h.fz 12;have hp := h.lt;have y1 : IntKind.i64.wrap (N.wk + 1) = N.wk + 1 := IntWalk.i64_in _ (by omega);have o1 := h.on.put 12 (.int .i64 (N.wk + 1)) (C' := rfC { N with wk := N.wk + 1 } q) rfl;have h1 : RfAt (w.setCell ⟨p,12,none⟩ (.int .i64 (N.wk + 1))) p { N with wk := N.wk + 1 } Z q s xs K := h.turn (Nat.le_of_eq o1.size.symm) (fun b _ hb => o1.off b hb) o1.row rfl rfl rfl rfl rfl;have k1 : qa Z w (w.setCell ⟨p,12,none⟩ (.int .i64 (N.wk + 1))) := o1.keeps h.away
 by_cases hro : N.ro = 3
 · have e1 : (N.ro == 3) = true := beq_iff_eq.2 hro
   by_cases hw : 2 <= N.wk + 1
   · have e2 : decide (2 <= N.wk + 1) = true := decide_eq_true hw;have o2 := o1.put 12 (.int .i64 0) (C' := rfC { N with wk := 0 } q) rfl;have h2 : RfAt ((w.setCell ⟨p,12,none⟩ (.int .i64 (N.wk + 1))).setCell ⟨p,12,none⟩ (.int .i64 0)) p { N with wk := 0 } Z q s xs K := h.turn (Nat.le_of_eq o2.size.symm) (fun b _ hb => o2.off b hb) o2.row rfl rfl rfl rfl rfl;have k2 : qa Z w ((w.setCell ⟨p,12,none⟩ (.int .i64 (N.wk + 1))).setCell ⟨p,12,none⟩ (.int .i64 0)) := o2.keeps h.away;have hS := qcT h2 (fun b hb => Nat.lt_of_lt_of_le (hZ b hb) k2.size) hms (by show N.lg.l.length <= 1000000; omega) hg hnx hsd ⟨hn.1,show N.id < 3 by omega⟩;have HK := hdq3 k2 hro hw;clear h hZ hms hl hg hn hsd hidle hti hwk hnx hlt h1 k1 o1 o2 h2 k2 hro hw
     go_enter Tryz.func21,Tryz.ntmps21
     go_wp2_with fail
     refine hS.mono ?_;rintro e w4 ⟨rfl,hT⟩;have HT := Lib.hid hT;clear hT hS;go_wp2;refine bpq ?_;refine ⟨rfl,?_⟩;obtain ⟨k2,hro,hw⟩ := HK.out;rw [qld hro hw];exact HT.out.back rfl k2
   · have e2 : decide (2 <= N.wk + 1) = false := decide_eq_false hw;have HK := hdq4 h1 k1 hro hw;clear h hZ hms hl hg hn hsd hidle hti hwk hnx hlt h1 k1 o1 hro hw
     go_enter Tryz.func21,Tryz.ntmps21
     go_wp2;refine bpq ?_;refine ⟨rfl,?_⟩;obtain ⟨h1,k1,hro,hw⟩ := HK.out;rw [qle hro (by omega)];exact ⟨q,xs,K,h1,rfl,k1⟩
 · have e1 : (N.ro == 3) = false := beq_eq_false_iff_ne.2 hro;have e1' : (N.ro = 3) = False := eq_false hro;have y2 : IntKind.i64.wrap (3 * (N.id : Int)) = 3 * (N.id : Int) := IntWalk.i64_in _ (by omega);have y3 : IntKind.i64.wrap (6 + 3 * (N.id : Int)) = 6 + 3 * (N.id : Int) := IntWalk.i64_in _ (by omega)
   by_cases hw : 6 + 3 * (N.id : Int) <= N.wk + 1
   · have e2 : decide (6 + 3 * (N.id : Int) <= N.wk + 1) = true := decide_eq_true hw
     have hL := fun X (hX : Below (w.setCell ⟨p,12,none⟩ (.int .i64 (N.wk + 1))).heap.size (w.setCell ⟨p,12,none⟩ (.int .i64 (N.wk + 1))) X) => qfW (h1.below hX) (show N.lg.l.length <= 1000000 by omega)
     generalize hbb : (decide (N.ht < 1099511627776) && decide (N.lg.lastI < 1099511627776)) = bb at hL;have HBB := Lib.hid hbb;clear hbb;have H := Lib.hid (And.intro h (And.intro hZ (And.intro hms (And.intro hl (And.intro hg (And.intro hn (And.intro hsd (And.intro hidle (And.intro hti (And.intro hwk (And.intro hnx (And.intro hlt (And.intro h1 (And.intro k1 (And.intro hro hw)))))))))))))));have hp1 : p < (w.setCell ⟨p,12,none⟩ (.int .i64 (N.wk + 1))).heap.size := h1.lt;have d0 := h1.c0;have d12 := h1.c12;clear h hZ hms hl hg hn hsd hidle hti hwk hnx hlt h1 k1 hro hw
     go_enter Tryz.func21,Tryz.ntmps21
     go_wp2_with fail
     generalize w.setCell ⟨p,12,none⟩ (.int .i64 (N.wk + 1)) = w1 at *;refine wp_region_held_drew (S := (fun w' => w'.cell? ⟨p,0,none⟩ = some (.int .i64 (N.id : Int)) /\ w'.cell? ⟨p,12,none⟩ = some (.int .i64 (N.wk + 1)))) (by kernel_rfl) ⟨d0,d12⟩ (fun hHeld => ?_);refine lsq 16 ?_;refine tkq 0 ?_;refine tkq 1 ?_;refine tkq 2 ?_;refine tkq 3 ?_;refine tkq 4 ?_;refine tkq 5 ?_;refine tkq 6 ?_;refine tkq 7 ?_;refine tkq 8 ?_;refine tkq 9 ?_;refine tkq 10 ?_;refine tkq 11 ?_;refine tkq 12 ?_;refine rdq1 13 fun KK hK => ?_;go_simp;refine (hL _ (blq.drew)).mono ?_;rintro e w3 ⟨rfl,hb3⟩;have HB := Lib.hid hb3;refine hK.out _ _ ⟨(hb3.cell (p := ⟨p,0,none⟩) hp1).trans hHeld.1,(hb3.cell (p := ⟨p,12,none⟩) hp1).trans hHeld.2⟩ ?_;clear hK KK hHeld;intro hHeld
     try simp only [lpq]
     refine tkq 14 ?_;refine tkq 15 ?_;refine dnq ?_;clear hHeld hL
     cases bb with
     | false =>
       go_wp2;refine bpq ?_;refine ⟨rfl,?_⟩;obtain ⟨h,hZ,hms,hl,hg,hn,hsd,hidle,hti,hwk,hnx,hlt,h1,k1,hro,hw⟩ := H.out;have hb3 := blq.drew.trans HB.out
       have hor : 1099511627776 <= N.ht \/ 1099511627776 <= N.lg.lastI := by
        by_cases a : N.ht < 1099511627776
        · by_cases b : N.lg.lastI < 1099511627776
          · have := HBB.out;rw [decide_eq_true a,decide_eq_true b] at this;cases this
          · exact .inr (by omega)
        · exact .inl (by omega)
       rw [qfX hro (.inr hor)];exact ⟨q,xs,K,h1.below hb3,rfl,k1.trans (qb hb3 nlq)⟩
     | true =>
       obtain ⟨h,hZ,hms,hl,hg,hn,hsd,hidle,hti,hwk,hnx,hlt,h1,k1,hro,hw⟩ := H.out;have hb3 := blq.drew.trans HB.out
       have hand : N.ht < 1099511627776 /\ N.lg.lastI < 1099511627776 := by
        have := HBB.out
        simpa using this
       have k3 : qa Z w w3 := k1.trans (qb hb3 nlq);have hP := qi5 (h1.below hb3) (fun b hb => Nat.lt_of_lt_of_le (hZ b hb) k3.size) hms hl hg hn hsd (hidle hro) hti (fun _ => qlc hg (show 1 <= N.ht + 1 by omega) (show N.ht + 1 <= 1099511627776 by omega) (show N.lg.lastT <= N.ht + 1 by omega) hand.2 [] (by simp));have HK := hdq4 k3 hro hw hand;clear h hZ hms hl hg hn hsd hidle hti hwk hnx hlt h1 k1 hro hw hb3 hand k3 HB H HBB
       go_wp2_with fail
       refine hP.mono ?_;rintro e w4 ⟨rfl,hT⟩;have HT := Lib.hid hT;clear hT hP;go_wp2;refine bpq ?_;refine ⟨rfl,?_⟩;obtain ⟨k3,hro,hw,hand⟩ := HK.out;rw [qlf hro (by omega)];exact HT.out.back rfl k3
   · have e2 : decide (6 + 3 * (N.id : Int) <= N.wk + 1) = false := decide_eq_false hw;have HK := hdq4 h1 k1 hro hw;clear h hZ hms hl hg hn hsd hidle hti hwk hnx hlt h1 k1 o1 hro hw
     go_enter Tryz.func21,Tryz.ntmps21
     go_wp2
     go_quiet (fail)
     go_wp2;refine bpq ?_;refine ⟨rfl,?_⟩;obtain ⟨h1,k1,hro,hw⟩ := HK.out;rw [qfX hro (.inl (by omega))];exact ⟨q,xs,K,h1.below (qw blq _),rfl,k1.trans (qb (qw blq _) nlq)⟩
end Go.Proofs.YtogbhedbgcmckaaGreat
