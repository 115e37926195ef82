/- All nodes but one, gone through by a range over a method: the iterator's contract, and the statement's law. -/
import Derived.Test.YtmiijlecfiddmaaNNM12
import Derived.RangeFuncNested
import Derived.RangeFuncBound
import Derived.RangeFuncCalls
import Derived.RangeFuncLeaves
import Derived.Shelf.Abstract
import Derived.Shelf.RegionOpen
import Derived.OwnWalkIn
import Derived.TacticsInMore
import Derived.LoopNIn
import Derived.LoopIn
import Derived.Test.YtmiijlecfiddmaaNNM13
import Derived.Deep.QuietTactic
import Derived.Deep.RegionHeld
set_option linter.unusedVariables false
set_option linter.unusedSimpArgs false
set_option maxRecDepth 100000
set_option maxHeartbeats 1000000
namespace Go.Proofs.Ytmiijlecfiddmaa
open Go.RowKit Go.Shelf
attribute [local go_sem] Oper.semAt_some
def oth (id k : Nat) : List Nat := (List.range k).filter fun j => decide (j ≠ id)
theorem qay (id k : Nat) : oth id (k + 1) = if k = id then oth id k else oth id k ++ [k] := by
 unfold oth
 rw [List.range_succ,List.filter_append]
 by_cases h : k = id
 · rw [if_pos h]; simp [h]
 · rw [if_neg h]; simp [h]
theorem qdV (id n : Nat) : ∀ k,k <= n -> oth id k <+: oth id n := by
 induction n with
 | zero => intro k hk; rw [Nat.le_zero.1 hk]; exact List.prefix_refl _
 | succ n ih =>
   intro k hk
   rcases Nat.lt_or_ge k (n + 1) with h | h
   · refine (ih k (by omega)).trans ?_
     rw [qay]
     split
     · exact List.prefix_refl _
     · exact List.prefix_append _ _
   · rw [show k = n + 1 by omega]; exact List.prefix_refl _
theorem qc9 (m l p id n : Nat) (hn : n <= 3) (J : List Nat -> World -> Prop) (hJc : ∀ pre W,J pre W -> W.cell? ⟨p,0,none⟩ = some (.int .i64 (id : Int)))
 (hY : ∀ pre x W,J pre W -> x < n -> x ≠ id -> pre ++ [x] <+: oth id n -> YieldAt Fence.wide (m - 1) Try.prog l #[.int .i64 (x : Int)] W fun e W' => e = .returned (.bool true) /\ J (pre ++ [x]) W')
 (W : World) (hc1 : W.cell? ⟨p,1,none⟩ = some (.int .i64 (n : Int))) (h0 : J [] W) :
 CallsIn Fence.wide m Try.prog 37 #[ptrV p, .func (.yield l) #[] #[]] W fun e W' => (∃ v,e = .returned v) /\ J (oth id n) W' := by
 refine callsIn_of_wp Try.func37 rfl trivial ?_ rfl
 simp only [Try.ntmps37,List.size_toArray,List.length_cons,List.length_nil,Nat.reduceAdd,Nat.reduceSub,Array.replicate_succ,Array.replicate_zero,List.push_toArray,List.append_toArray,List.nil_append,List.cons_append]
 gi_wp2
 gi_loopw [9] (fun i wr => ∃ k : Nat,k <= n /\ i = .int .i64 (k : Int) /\ J (oth id k) wr) (fun i _ => n - (intOf i).toNat)
 case atStart => exact ⟨0,Nat.zero_le _,rfl,h0⟩
 case round =>
  obtain ⟨k,hk,rfl,hJs⟩ := hrel
  have hc0 := hJc _ _ hJs
  by_cases hlt : k < n
  · by_cases hid : k = id
    · have q1 : ((k : Int) != (id : Int)) = false := by rw [hid]; simp
      have q2 : ((k : Int) = (id : Int)) = True := eq_true (by omega)
      gi_wp2
      refine ⟨fun _ h => (by cases h),?_⟩
      gi_wp2
      go_roundw
      case rel => exact ⟨k + 1,by omega,by simp [hid],by rw [qay,if_pos hid]; exact hJs⟩
      case measure => simp [intOf]; omega
    · have q1 : ((k : Int) != (id : Int)) = true := by rw [bne_iff_ne]; omega
      have q2 : ((k : Int) = (id : Int)) = False := eq_false (by omega)
      obtain ⟨fn,tmps,assign,body,hy,hR⟩ := hY _ k wr hJs hlt hid (by have := qdV id n (k + 1) (by omega); rwa [qay,if_neg hid] at this)
      gi_wp2
      refine ⟨fun h => (by cases h),?_⟩
      refine hR.mono ?_
      rintro e W3 ⟨rfl,hJ3⟩
      gi_wp2
      go_roundw
      case rel => exact ⟨k + 1,by omega,by simp,by rw [qay,if_neg hid]; exact hJ3⟩
      case measure => simp [intOf]; omega
  · obtain rfl : k = n := by omega
    gi_wp2
    go_end0
    exact ⟨⟨_,rfl⟩,hJs⟩
def roundEnd (B : Nat) (I : World -> Prop) (W : World) : Exit -> Act -> World -> Prop
 | .normal,_,W' => W'.heap[B]? = W.heap[B]? /\ W'.heap[B + 1]? = W.heap[B + 1]? /\ I W'
 | .ret,_,_ => False
 | .exit _,_,_ => False
 | .goto _,_,_ => False
 | .panic _,_,_ => False
 | .outgrown,_,_ => False
theorem qZ {g : Operand} {ps : Array Tmp} {assign body : Code} {Q : Exit -> Act -> World -> Prop} {a : Act} {w : World} {m p id n : Nat}
 (hg : a.eval g = .func (.func 37) #[ptrV p] #[]) (hn : n <= 3) (hps : ps.size = 1) (hp : p < w.heap.size) (hc1 : w.cell? ⟨p,1,none⟩ = some (.int .i64 (n : Int)))
 (I : List Nat -> World -> Prop) (hIc : ∀ pre W,I pre W -> W.cell? ⟨p,0,none⟩ = some (.int .i64 (id : Int)))
 (hI0 : ∀ r,I [] ((w.alloc (.deferred (some []))).alloc (.loop r))) (hI1 : ∀ pre W r r',I pre W -> W.heap[w.heap.size + 1]? = some (.loop r) -> I pre (W.putObj (w.heap.size + 1) (.loop r'))) (a₁ : Nat -> Act)
 (hassign : ∀ (l : Nat) (x : Nat) (W : World) (K : Act -> World -> Prop),K (a₁ x) W →
   assign.wpIn (Fence.wide.inRound l) (m - 1 - 1) Try.prog (Exit.then K (fun _ _ _ => False)) { tmps := (ps.zip #[.int .i64 (x : Int)]).foldl (fun t (p,v) => t.setIfInBounds p v) a.tmps,defers := [] } W)
 (hbody : ∀ (l : Nat) (pre : List Nat) (x : Nat) (W : World),x < n -> x ≠ id -> pre ++ [x] <+: oth id n -> I pre W -> w.heap.size + 1 < W.heap.size -> (∃ r,W.heap[w.heap.size + 1]? = some (.loop r)) -> W.heap[w.heap.size]? = some (.deferred (some [])) -> body.wpIn (Fence.wide.inRound l) (m - 1 - 1) Try.prog (roundEnd w.heap.size (I (pre ++ [x])) W) (a₁ x) W)
 (hdone : ∀ W,I (oth id n) W -> W.heap[w.heap.size]? = some (.deferred (some [])) -> w.heap.size + 1 < W.heap.size -> Q .normal { a with defers := { target := .collected w.heap.size,args := #[] } :: a.defers } W) :
 (Code.rangeFunc g ps assign body).wpIn Fence.wide m Try.prog Q a w := by
 refine wpIn_rangeFunc fun fn _ => ?_
 obtain ⟨rec,hrec⟩ : ∃ rec : LoopState -> Option Code -> Loop,rec = fun st pe => { state := st,pending := pe,fn,tmps := a.tmps,params := ps,assign,body,defers := w.heap.size } := ⟨_,rfl⟩
 have hb1 : Below w.heap.size w ((w.alloc (.deferred (some []))).alloc (.loop (rec .ready none))) := ((Below.refl _ w).alloc nlq _).alloc (by simp) _
 have hl1 : ((w.alloc (.deferred (some []))).alloc (.loop (rec .ready none))).heap[w.heap.size + 1]? = some (.loop (rec .ready none)) := by
  have := World.alloc_heap_new (w.alloc (.deferred (some []))) (.loop (rec .ready none))
  rwa [World.size_alloc] at this
 have hd1 : ((w.alloc (.deferred (some []))).alloc (.loop (rec .ready none))).heap[w.heap.size]? = some (.deferred (some [])) := (Below.heap_alloc _ _ _ (by simp)).trans (World.alloc_heap_new w _)
 have hi1 := hI0 (rec .ready none)
 refine ⟨w.heap.size + 1,[{ target := .collected w.heap.size,args := #[] }],(w.alloc (.deferred (some []))).alloc (.loop (rec .ready none)),{ target := .fn (.func 37) #[],args := #[ptrV p, .func (.yield (w.heap.size + 1)) #[] #[]] },
  (w.alloc (.deferred (some []))).alloc (.loop (rec .ready none)),37,#[ptrV p, .func (.yield (w.heap.size + 1)) #[] #[]],(w.alloc (.deferred (some []))).alloc (.loop (rec .ready none)),?_,?_,fun _ _ => trivial,?_,fun h => (by cases h),?_⟩
 · rw [hrec]; exact run_enterLoop_outer _ _ _ _ _
 · simp only [resolve,hg]
   simp [go_sem]
 · simp [invoke,go_sem,enters_of Try.func37 (by kernel_rfl) rfl]
 generalize (w.alloc (.deferred (some []))).alloc (.loop (rec .ready none)) = W1 at *
 refine (qc9 (m - 1) (w.heap.size + 1) p id n hn (fun pre W => I pre W /\ W.heap[w.heap.size + 1]? = some (.loop (rec .ready none)) /\ W.heap[w.heap.size]? = some (.deferred (some []))) (fun pre W h => hIc pre W h.1) ?_ W1 ((hb1.cell (p := ⟨p,1,none⟩) hp).trans hc1) ⟨hi1,hl1,hd1⟩).mono ?_
 · rintro pre x W ⟨hi,hl,hd⟩ hx hxi hpre
   have hlt : w.heap.size + 1 < W.heap.size := hlt hl
   have hy := run_yield (P := Try.prog) (args := #[.int .i64 (x : Int)]) hl (by rw [hrec]; exact hps.symm)
   rw [hrec] at hy
   refine ⟨fn,_,assign,body,hy,roundIn_of_wpIn (F := Fence.wide) trivial (hassign _ x W _ ⟨_,run_beginRound hl (by rw [hrec]),?_⟩)⟩
   have hl2 : (W.putObj (w.heap.size + 1) (.loop { rec .ready none with state := .busy })).heap[w.heap.size + 1]? = some (.loop { rec .ready none with state := .busy }) := World.putObj_heap_same hlt
   have hd2 : (W.putObj (w.heap.size + 1) (.loop { rec .ready none with state := .busy })).heap[w.heap.size]? = some (.deferred (some [])) := (World.putObj_heap_other (by omega)).trans hd
   refine wpIn_mono (hbody _ pre x _ hx hxi hpre (hI1 _ _ _ _ hi hl) (by simpa using hlt) ⟨_,hl2⟩ hd2) ?_
   rintro e a3 W3 he
   cases e with
   | normal =>
     obtain ⟨k1,k2,k3⟩ := he
     have hl3 := k2.trans hl2
     have hr := run_endRound (P := Try.prog) none hl3
     rw [hrec] at hr
     refine ⟨_,_,hr,rfl,?_,?_,?_⟩
     · exact hI1 _ _ _ _ k3 hl3
     · rw [hrec]
       exact World.putObj_heap_same (Array.getElem?_eq_some_iff.1 hl3).1
     · exact (World.putObj_heap_other (by omega)).trans (k1.trans hd2)
   | ret => exact he.elim
   | exit _ => exact he.elim
   | goto _ => exact he.elim
   | panic _ => exact he.elim
   | outgrown => exact he.elim
 · rintro e W2 ⟨⟨v,rfl⟩,hi,hl,hd⟩
   refine ⟨none,_,by have := run_endLoop (P := Try.prog) hl (by rw [hrec]; simp); rw [hrec] at this; exact this,hdone _ (hI1 _ _ _ _ hi hl) ((World.putObj_heap_other (by omega)).trans hd) (by simpa using hlt hl)⟩
end Go.Proofs.Ytmiijlecfiddmaa
set_option linter.unusedVariables false
set_option linter.unusedSimpArgs false
set_option maxRecDepth 100000
set_option maxHeartbeats 3200000
namespace Go.Proofs.Ytmiijlecfiddmaa
open Go.RowKit Go.Shelf
attribute [local go_sem] Oper.semAt_some
theorem qaj (N : Node) (l : List Nat) : ∃ ls : List Msg,ls.length = l.length /\ l.foldl Node.send N = { N with ms := N.ms ++ ls } := by
 induction l generalizing N with
 | nil => exact ⟨[],rfl,by simp⟩
 | cons j l ih =>
   obtain ⟨x,hx⟩ : ∃ x,N.send j = { N with ms := N.ms ++ [x] } := by
    unfold Node.send
    split <;> exact ⟨_,rfl⟩
   obtain ⟨ls,h1,h2⟩ := ih (N.send j)
   refine ⟨x :: ls,by simp [h1],?_⟩
   rw [List.foldl_cons,h2,hx]
   simp
def qm (w W : World) (p : Nat) (N : Node) (Z : Nat -> Prop) (q : Ptrs) (s : Nat) (m : Nat) : Prop :=
 ∃ q' xs K,RfAt W p N (fun b => Z b \/ (w.heap.size <= b /\ b < m)) q' s xs K /\ q'.l = q.l /\ qf Z w W /\ m <= W.heap.size + 2
section
variable {w W W' : World} {p : Nat} {N N' : Node} {Z : Nat → Prop} {q : Ptrs} {s m : Nat}
theorem qT {Z : Nat -> Prop} {W : World} {l : Nat} {o : Obj} (h : ¬ Z l) : qf Z W (W.putObj l o) :=
 ⟨rfl,rfl,rfl,by simp,fun b _ hz => World.putObj_heap_other fun e => h (e ▸ hz)⟩
theorem qm.keep (h : qm w W p N Z q s m) (hZ : ∀ b,Z b -> b < w.heap.size) (hs : W.heap.size <= W'.heap.size) (h1 : qf Z W W') (h2 : ∀ b,b < W.heap.size -> ¬ (w.heap.size <= b /\ b < m) -> W'.heap[b]? = W.heap[b]?) : qm w W' p N Z q s m := by
 obtain ⟨q',xs,K,h3,h4,h5,h6⟩ := h
 exact ⟨q',xs,K,h3.keep hs fun b hb hz => h2 b hb fun e => hz (.inr e),h4,h5.trans h1,by omega⟩
theorem qm.alloc (h : qm w W p N Z q s m) (hZ : ∀ b,Z b -> b < w.heap.size) (o : Obj) : qm w (W.alloc o) p N Z q s m :=
 h.keep hZ (by simp) (qz _ _) fun b hb _ => Below.heap_alloc _ _ _ hb
theorem qm.turn (h : qm w W p N Z q s m) (hZ : ∀ b,Z b -> b < w.heap.size) (l : Nat) (h1 : w.heap.size <= l) (h2 : l < m) (o : Obj) : qm w (W.putObj l o) p N Z q s m :=
 h.keep hZ (by simp) (qT fun e => by have := hZ l e; omega) fun b hb hz => World.putObj_heap_other fun e => hz (by omega)
theorem qm.c0 (h : qm w W p N Z q s m) : W.cell? ⟨p,0,none⟩ = some (.int .i64 (N.id : Int)) := by
 obtain ⟨q',xs,K,h3,_⟩ := h
 exact h3.c0
theorem qm.turned (h : qm w W p N Z q s m) : Turned w W p N Z q s := by
 obtain ⟨q',xs,K,h3,h4,h5,h6⟩ := h
 exact ⟨q',xs,K,h3.less fun b hb => .inl hb,h4,h5⟩
end
theorem qda {w : World} {p : Nat} {N : Node} {Z : Nat -> Prop} {q : Ptrs} {s : Nat} {xs : List MLay} {K : Nat -> Prop} {pre : List Nat} {x : Nat} (h : RfAt w p (pre.foldl Node.send N) Z q s xs K) (hZ : ∀ b,Z b -> b < w.heap.size) (hm : N.ms.length < 999990) (hl : N.lg.l.length <= 1000000) (hg : Good N.lg) (hx : ∀ j,-4611686018427387904 <= N.nx j /\ N.nx j <= 4611686018427387904) (hsd : N.sn.d.length <= 50000) (hn : N.n <= 3 /\ N.id < 3) (hpre : pre ++ [x] <+: oth N.id N.n) (hx3 : x < 3) :
 Calls Try.prog 38 #[ptrV p, .int .i64 (x : Int)] w fun e w' => e = .returned (.tuple #[]) /\ Turned w w' p ((pre.foldl Node.send N).send x) Z q s := by
 obtain ⟨ls,e1,e2⟩ := qaj N pre
 have h1 := hpre.length_le
 have h2 : (oth N.id N.n).length <= N.n := by
  unfold oth
  exact Nat.le_trans (List.length_filter_le _ _) (by simp)
 rw [List.length_append] at h1
 simp only [List.length_cons,List.length_nil] at h1
 rw [e2] at h ⊢
 refine qc8 h hZ ?_ hl hg hx hsd (by show N.id < 4; omega) x hx3
 show (N.ms ++ ls).length < 999999
 rw [List.length_append]
 omega
theorem qU {w : World} {p : Nat} {N : Node} {Z : Nat -> Prop} {q : Ptrs} {s : Nat} {xs : List MLay} {K : Nat -> Prop} (h : RfAt w p N Z q s xs K) (hZ : ∀ b,Z b -> b < w.heap.size) (hm : N.ms.length < 999990) (hl : N.lg.l.length <= 1000000) (hg : Good N.lg) (hx : ∀ j,-4611686018427387904 <= N.nx j /\ N.nx j <= 4611686018427387904) (hsd : N.sn.d.length <= 50000) (hn : N.n <= 3 /\ N.id < 3) :
 Calls Try.prog 19 #[ptrV p] w fun e w' => e = .returned (.tuple #[]) /\ Turned w w' p N.sendAll Z q s := by
 have hp := h.lt
 refine (callsIn_wide (n := 9)).1 ?_
 refine callsIn_of_wp_marks Try.func19 rfl trivial ?_ rfl
 simp only [Try.ntmps19,List.size_toArray,List.length_cons,List.length_nil,Nat.reduceAdd,Nat.reduceSub,Array.replicate_succ,Array.replicate_zero,List.push_toArray,List.append_toArray,List.nil_append,List.cons_append]
 gi_wp2
 have hb0 : Below w.heap.size w (w.alloc (.cells #[ptrV p] 32)) := blq.alloc nlq _
 have hbox := heap_alloc_new w (.cells #[ptrV p] 32)
 have hr0 : qm w (w.alloc (.cells #[ptrV p] 32)) p N Z q s (w.heap.size + 3) := ⟨q,xs,K,h.more (fun b hb => hb.1) hb0,rfl,qe hb0 nlq,by simp⟩
 have hsz : (w.alloc (.cells #[ptrV p] 32)).heap.size = w.heap.size + 1 := by simp
 generalize w.alloc (.cells #[ptrV p] 32) = W0 at *
 refine qZ (id := N.id) (n := N.n) (p := p) rfl hn.1 rfl (by omega) ?_
  (fun pre W => qm w W p (pre.foldl Node.send N) Z q s (w.heap.size + 3) /\ W.heap[w.heap.size]? = some (.cells #[ptrV p] 32)) ?_ ?_ ?_
  (fun x => { tmps := #[ptrV p, .pointer (some ⟨w.heap.size,0,none⟩), .int .i64 (x : Int),ptrV p, .func (.func 37) #[ptrV p] #[], .int .i64 (x : Int),undef,undef,undef],defers := [] }) ?assign ?body ?done
 · obtain ⟨q',xs',K',h3,_⟩ := hr0
   exact h3.c1
 · rintro pre W ⟨h1,_⟩
   obtain ⟨ls,_,e⟩ := qaj N pre
   have := h1.c0
   rw [e] at this
   exact this
 · intro r
   exact ⟨(hr0.alloc hZ _).alloc hZ _,(Below.heap_alloc _ _ _ (by simp; omega)).trans ((Below.heap_alloc _ _ _ (by omega)).trans hbox)⟩
 · rintro pre W r r' ⟨h1,h2⟩ hr
   exact ⟨h1.turn hZ _ (by omega) (by omega) _,(World.putObj_heap_other (by omega)).trans h2⟩
 case assign =>
  intro l x W K hK
  gi_wp2
  exact hK
 case body =>
  rintro l pre x W hxn hxi hpre ⟨h1,h2⟩ hsW hlW hdW
  obtain ⟨q',xs',K',h3,h4,h5,h6⟩ := h1
  have hcell : W.cell? ⟨w.heap.size,0,none⟩ = some (ptrV p) := qa h2 0 _ rfl
  have hS := qda h3 (fun b hb => hb.elim (fun e => by have := hZ b e; omega) (fun e => by omega)) hm hl hg hx hsd hn hpre (by omega)
  have hW := Lib.hid (show qf Z w W from h5)
  have hB := Lib.hid h2
  have hL := Lib.hid h4
  have hSz := Lib.hid hsz
  clear h2 h3 h4 h5 h6 hr0 hbox hb0
  gi_wp2
  refine ⟨trivial,?_⟩
  refine (CallsIn.inRound l (callsIn_wide.2 hS)).mono ?_
  rintro e w' ⟨rfl,hT⟩
  gi_wp2
  obtain ⟨q2,xs2,K2,g1,g2,g3⟩ := hT
  refine ⟨?_,?_,⟨q2,xs2,K2,?_,g2.trans hL.out,hW.out.trans (g3.mono fun b hb => .inl hb),?_⟩,?_⟩
  · exact g3.block _ (by omega) (.inr (by omega))
  · exact g3.block _ (by omega) (.inr (by omega))
  · rw [List.foldl_append]
    exact g1
  · have := g3.size; omega
  · exact (g3.block _ (by omega) (.inr (by omega))).trans hB.out
 case done =>
  rintro W ⟨h1,h2⟩ hd hsD
  have hSz := Lib.hid hsz
  rw [hsz] at hd ⊢
  have hT := Lib.hid (show Turned w (W.putObj (w.heap.size + 1) (.deferred none)) p N.sendAll Z q s from (h1.turn hZ _ (by omega) (by omega) _).turned)
  clear h1 h2 hr0 hbox hb0 hsz
  gi_wp2
  refine ⟨by simp, .inl ⟨_,_,rfl,run_takeDeferred hd,?_⟩⟩
  exact ⟨_,results_none rfl _ _ _,rfl,hT.out⟩
end Go.Proofs.Ytmiijlecfiddmaa
set_option linter.unusedVariables false
set_option linter.unusedSimpArgs false
set_option maxRecDepth 100000
set_option maxHeartbeats 200000
namespace Go.Proofs.Ytmiijlecfiddmaa
open Go.RowKit Go.Shelf
def calm (Q : Exit -> Act -> World -> Prop) : Exit -> Act -> World -> Prop
 | .normal,a,w => Q .normal a w
 | .ret,a,w => Q .ret a w
 | .exit i,a,w => Q (.exit i) a w
 | .goto t,a,w => Q (.goto t) a w
 | .panic _,_,_ => False
 | .outgrown,_,_ => False
theorem qdW {Q : Exit -> Act -> World -> Prop} : ∀ e a w,calm Q e a w -> Q e a w
 | .normal,_,_,h => h
 | .ret,_,_,h => h
 | .exit _,_,_,h => h
 | .goto _,_,_,h => h
 | .panic _,_,_,h => h.elim
 | .outgrown,_,_,h => h.elim
section
variable {l n : Nat} {P : Program} {Q : Exit → Act → World → Prop} {o : Oper} {a : Act} {w : World} {K : Act → World → Prop}
theorem qcH {r : Result Next} (h : o.upon P a K Q r) : o.uponIn (Fence.wide.inRound l) n P a K Q r := by
 cases r with
 | ok x w' =>
   cases x with
   | value v => exact h
   | skip => exact h
   | defer d => exact h
   | enter f args =>
     refine ⟨fun e => (by cases e),CallsIn.inRound l (callsIn_wide.2 ?_)⟩
     exact Calls.mono h fun e w'' he => by cases e <;> exact he
   | row row args =>
     refine ⟨fun e => (by cases e),fun c cs _ => ?_⟩
     obtain ⟨v,w'',hr,hs⟩ := h c cs
     exact ⟨v,w'',hr,stepsIn_wide.2 hs⟩
   | _ => exact h.elim
 | halt x w' =>
   cases x <;> exact h
theorem qdB (hd : ∀ c,o.op ≠ .defer c) (h : o.wp P a w K Q) : o.wpIn (Fence.wide.inRound l) n P a w K Q := by
 refine ⟨fun _ _ => trivial,?_⟩
 rw [Oper.semAt_plain _ _ _ hd]
 exact qcH h
theorem qak {ops : Array Oper} {md : Region.Mode} (hq : ¬ LetsOut Q) (hd : ∀ o ∈ ops.toList,∀ c,o.op ≠ .defer c) : ∀ (k : Nat) (listed : Array Bool) (a : Act) (w : World),wpAny P md ops Q k listed a w -> wpAnyIn (Fence.wide.inRound l) n P md ops Q k listed a w
 | 0,_,_,_,h => h
 | k + 1,listed,a,w,h => by
   refine ⟨h.1,fun i hi => ?_⟩
   have h2 := h.2 i hi
   unfold wpOp at h2
   unfold wpOpIn
   cases ho : ops[i]? with
   | none =>
     rw [ho] at h2
     exact qak hq hd k _ a w h2
   | some o =>
     rw [ho] at h2
     have hdo := hd o (by
      obtain ⟨hlt,e⟩ := Array.getElem?_eq_some_iff.1 ho
      rw [<- e]
      simp)
     dsimp only at h2 ⊢
     split
     · rename_i hw
       rw [if_pos hw] at h2
       rcases h2 with h2 | h2
       · exact Oper.wpIn_mono (fun a w h3 => qak hq hd k _ a w h3) (qdB hdo h2)
       · exact absurd h2.2 hq
     · rename_i hw
       rw [if_neg hw] at h2
       exact ⟨fun _ _ => trivial,qak hq hd k _ _ w h2⟩
def qaq (l : List Oper) : Bool := l.all fun o => match o.op with | .defer _ => false | _ => true
theorem qbU {ops : List Oper} (h : qaq ops = true) : ∀ o ∈ ops,∀ c,o.op ≠ .defer c := fun o ho c e => by
 unfold qaq at h
 have := List.all_eq_true.1 h o ho
 rw [e] at this
 cases this
theorem qaK {id : Nat} {ops : Array Oper} (hm : P.follows .mixedOrders = true) (hq : ¬ LetsOut Q) (hd : qaq ops.toList = true) (h : wpAny P .any ops Q ops.size (Array.replicate ops.size false) a w.drew) : (Code.region id ops true).wpIn (Fence.wide.inRound l) n P Q a w :=
 wpIn_region_any hm (qak hq (qbU hd) _ _ _ _ h)
theorem qn {id : Nat} {ops : List Oper} (hm : P.follows .mixedOrders = true) (hq : ¬ LetsOut Q) (hd : qaq ops = true) (hB : Region.lexB .any ops.toArray = true)
 (h : wpQuiet P ops.toArray (fun w' => ∃ n,w' = w.drewN n) (fun a' => ∀ w',(∃ n,w' = w.drewN n) -> Q .normal a' w') ops a) : (Code.region id ops.toArray true).wpIn (Fence.wide.inRound l) n P Q a w := by
 simp only [Region.lexB,Bool.and_eq_true] at hB
 refine qaK hm hq (by simpa using hd) (wpAny_of_quiet (C := fun w' => ∃ n,w' = w.drewN n) (Q := fun a' => ∀ w',(∃ n,w' = w.drewN n) -> Q .normal a' w') (fun _ w' hw' h => h w' hw') _ _ _ _ ⟨1,rfl⟩ ?_)
 have := wpAnyQ_lex (C := fun w' => ∃ n,w' = w.drewN n) (md := .any) hB.1 ops 0 (Array.replicate ops.toArray.size false) a (by simp) (by simpa using hB.2) h
 simpa using this
theorem qp {id : Nat} {ops : Array Oper} {S : World -> Prop} (hm : P.follows .mixedOrders = true) (hq : ¬ LetsOut Q) (hd : qaq ops.toList = true) (hS : S w.drew)
 (h : S w.drew -> wpAnyH P .any ops Q S ops.size (Array.replicate ops.size false) a w.drew) : (Code.region id ops true).wpIn (Fence.wide.inRound l) n P Q a w :=
 qaK hm hq hd (wpAny_of_held _ _ _ _ (h hS))
end
end Go.Proofs.Ytmiijlecfiddmaa
