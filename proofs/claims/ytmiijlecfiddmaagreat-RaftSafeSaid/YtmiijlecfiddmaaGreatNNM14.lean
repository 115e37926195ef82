/- The program's node counts who follows. -/
import Derived.Test.YtmiijlecfiddmaaGreatNNM01
import Derived.Test.YtmiijlecfiddmaaGreatNNM10
import Derived.Test.YtmiijlecfiddmaaGreatNNM11
import Derived.Sort.BigQuietIn
import Derived.Sort.QuietTacIn
set_option linter.unusedVariables false
set_option linter.unusedSimpArgs false
set_option maxRecDepth 100000
set_option maxHeartbeats 3200000
namespace Go.Proofs.YtmiijlecfiddmaaGreat
open Go.RowKit Go.Shelf
attribute [local go_sem] Oper.semAt_some
variable {w : World} {p : Nat} {N : Node} {Z : Nat -> Prop} {q : Ptrs} {s : Nat} {xs : List MLay} {K : Nat -> Prop}
def ackd (N : Node) (c : Int) (l : List Nat) : Nat := (l.filter fun k => decide (c <= N.ac k)).length
theorem qgt (N : Node) (c : Int) (l : List Nat) : ackd N c l <= l.length := List.length_filter_le _ _
theorem qdd {N : Node} {c : Int} {l : List Nat} {x : Nat} (h : c <= N.ac x) : ackd N c (l ++ [x]) = ackd N c l + 1 := by
 simp [ackd,h]
theorem qdQ {N : Node} {c : Int} {l : List Nat} {x : Nat} (h : ¬ c <= N.ac x) : ackd N c (l ++ [x]) = ackd N c l := by
 simp [ackd,h]
theorem qgu (y n : Nat) : wonB (y : Int) (n : Int) = Node.won y n := by
 unfold wonB Node.won
 by_cases h : 1 <= n /\ y <= n /\ n < 2 * y
 · rw [decide_eq_true h,decide_eq_true (by omega),decide_eq_true (by omega),decide_eq_true (by omega),decide_eq_true (by omega)]; rfl
 · rw [decide_eq_false h]
   by_cases h1 : 1 <= n
   · by_cases h2 : y <= n
     · rw [decide_eq_false (show ¬ ((n : Int) - y < y) by omega)]; simp
     · rw [decide_eq_false (show ¬ ((y : Int) <= n) by omega)]; simp
   · rw [decide_eq_false (show ¬ (1 <= (n : Int)) by omega)]; simp
theorem RfAt.acs (h : RfAt w p N Z q s xs K) :
 w.cell? ⟨p,18,none⟩ = some (.int .i64 (N.ac 0)) /\ w.cell? ⟨p,21,none⟩ = some (.int .i64 (N.ac 1)) /\ w.cell? ⟨p,24,none⟩ = some (.int .i64 (N.ac 2)) := ⟨h.c18,h.c21,h.c24⟩
def Counting (w W : World) (p : Nat) (N : Node) (q : Ptrs) (s : Nat) (cc : Int) (pre : List Nat) : Prop :=
 qF w W p N (fun _ => False) q s (w.heap.size + 5) /\ Below w.heap.size w W /\ W.heap[w.heap.size]? = some (.cells #[ptrV p] 33) /\ W.heap[w.heap.size + 1]? = some (.cells #[.int .i64 cc] 2) /\ W.heap[w.heap.size + 1 + 1]? = some (.cells #[.int .i64 ((1 + ackd N cc pre : Nat) : Int)] 3)
theorem qc2 (Z : Nat -> Prop) (W : World) (k : Nat) : qf Z W (W.drewN k) := ⟨rfl,rfl,rfl,nlq,fun _ _ _ => rfl⟩
theorem qdR {w W W0 : World} {nq : Nat} {p : Nat} {N : Node} {q : Ptrs} {s : Nat} {cc v : Int} {pre : List Nat} {x : Nat} {a : Act} (h1 : qF w W p N (fun _ => False) q s (w.heap.size + 5)) (hZ0 : ∀ b,False -> b < w.heap.size) (h2 : Below w.heap.size w W)
 (h3 : W.heap[w.heap.size]? = some (.cells #[ptrV p] 33) /\ W.heap[w.heap.size + 1]? = some (.cells #[.int .i64 cc] 2) /\ W.heap[w.heap.size + 1 + 1]? = some (.cells #[.int .i64 ((1 + ackd N cc pre : Nat) : Int)] 3) /\ W0.heap.size = w.heap.size + 3 /\ W0.heap.size + 1 < W.heap.size) (he : ackd N cc (pre ++ [x]) = ackd N cc pre + 1) (hv : v = ((1 + ackd N cc pre : Nat) : Int) + 1) :
 roundEnd W0.heap.size (Counting w · p N q s cc (pre ++ [x])) W .normal a ((W.drewN nq).setCell ⟨w.heap.size + 1 + 1,0,none⟩ (.int .i64 v)) := by
 obtain ⟨g0,g1,g2,g3,g4⟩ := h3;refine ⟨Below.heap_setCell _ _ _ _ (by show _ ≠ w.heap.size + 1 + 1; omega),Below.heap_setCell _ _ _ _ (by show _ ≠ w.heap.size + 1 + 1; omega),?_,(below_drewN h2 nq).setCell (by show w.heap.size <= w.heap.size + 1 + 1; omega) _,?_,?_,?_⟩
 · have h1' : qF w (W.drewN nq) p N (fun _ => False) q s (w.heap.size + 5) := h1.keep hZ0 nlq (qc2 _ _ nq) fun _ _ _ => rfl
   exact h1'.keep hZ0 (by simp) (qk _ _ _ (fun e => e)) fun b hb hz => Below.heap_setCell _ _ _ _ (by show b ≠ w.heap.size + 1 + 1; omega)
 · exact (Below.heap_setCell _ _ _ _ (by show _ ≠ w.heap.size + 1 + 1; omega)).trans g0
 · exact (Below.heap_setCell _ _ _ _ (by show _ ≠ w.heap.size + 1 + 1; omega)).trans g1
 · have := setCell_at (W.drewN nq) ⟨w.heap.size + 1 + 1,0,none⟩ (.int .i64 v) _ _ _ rfl g2;rw [he];rw [show ((1 + (ackd N cc pre + 1) : Nat) : Int) = v by omega];exact this
theorem qfj {w W W0 : World} {nq : Nat} {p : Nat} {N : Node} {q : Ptrs} {s : Nat} {cc : Int} {pre : List Nat} {x : Nat} {a : Act} (h1 : qF w W p N (fun _ => False) q s (w.heap.size + 5)) (hZ0 : ∀ b,False -> b < w.heap.size) (h2 : Below w.heap.size w W)
 (h3 : W.heap[w.heap.size]? = some (.cells #[ptrV p] 33) /\ W.heap[w.heap.size + 1]? = some (.cells #[.int .i64 cc] 2) /\ W.heap[w.heap.size + 1 + 1]? = some (.cells #[.int .i64 ((1 + ackd N cc pre : Nat) : Int)] 3) /\ W0.heap.size = w.heap.size + 3 /\ W0.heap.size + 1 < W.heap.size) (he : ackd N cc (pre ++ [x]) = ackd N cc pre) :
 roundEnd W0.heap.size (Counting w · p N q s cc (pre ++ [x])) W .normal a (W.drewN nq) := by
 obtain ⟨g0,g1,g2,g3,g4⟩ := h3;exact ⟨rfl,rfl,h1.keep hZ0 nlq (qc2 _ _ nq) fun _ _ _ => rfl,below_drewN h2 nq,g0,g1,by rw [he]; exact g2⟩
theorem qeF (h : RfAt w p N Z q s xs K) (hn : N.n <= 3 /\ N.id < 3) (cc : Int) :
 Calls Tryz.prog 67 #[ptrV p, .int .i64 cc] w fun e w' => e = .returned (.bool (N.known cc)) /\ Below w.heap.size w w' := by
 have hp := h.lt;have hb2 : Below w.heap.size w (((w.alloc (.cells #[ptrV p] 33)).alloc (.cells #[.int .i64 cc] 2)).alloc (.cells #[.int .i64 1] 3)) := ((blq.alloc nlq _).alloc (by simp) _).alloc (by simp; omega) _
 have hs2 : (((w.alloc (.cells #[ptrV p] 33)).alloc (.cells #[.int .i64 cc] 2)).alloc (.cells #[.int .i64 1] 3)).heap.size = w.heap.size + 3 := by simp
 have b0 : (((w.alloc (.cells #[ptrV p] 33)).alloc (.cells #[.int .i64 cc] 2)).alloc (.cells #[.int .i64 1] 3)).heap[w.heap.size]? = some (.cells #[ptrV p] 33) := (Below.heap_alloc _ _ _ (by simp; omega)).trans ((Below.heap_alloc _ _ _ (by simp)).trans (heap_alloc_new _ _));have b1 : (((w.alloc (.cells #[ptrV p] 33)).alloc (.cells #[.int .i64 cc] 2)).alloc (.cells #[.int .i64 1] 3)).heap[w.heap.size + 1]? = some (.cells #[.int .i64 cc] 2) := (Below.heap_alloc _ _ _ (by simp)).trans (heap_alloc2_new _ _ _)
 have b2 : (((w.alloc (.cells #[ptrV p] 33)).alloc (.cells #[.int .i64 cc] 2)).alloc (.cells #[.int .i64 1] 3)).heap[w.heap.size + 1 + 1]? = some (.cells #[.int .i64 1] 3) := by
  have := heap_alloc_new ((w.alloc (.cells #[ptrV p] 33)).alloc (.cells #[.int .i64 cc] 2)) (.cells #[.int .i64 1] 3)
  simpa using this
 have hZ0 : ∀ b,False -> b < w.heap.size := fun _ e => e.elim
 have h' : RfAt w p N (fun _ => False) q s xs K := h.less fun _ e => e.elim
 have H := Lib.hid h';have HK := Lib.hid (show N.known cc = wonB ((1 + ackd N cc (oth N.id N.n) : Nat) : Int) (N.n : Int) by rw [qgu]; rfl)
 have holen : (oth N.id N.n).length <= 3 := by
  unfold oth;exact Nat.le_trans (List.length_filter_le _ _) (by simp; omega)
 rw [HK.out];clear h h';refine (callsIn_wide (n := 9)).1 ?_;refine callsIn_of_wp_marks Tryz.func67 rfl trivial ?_ rfl;simp only [Tryz.ntmps67,List.size_toArray,List.length_cons,List.length_nil,Nat.reduceAdd,Nat.reduceSub,Array.replicate_succ,Array.replicate_zero,List.push_toArray,List.append_toArray,List.nil_append,List.cons_append]
 gi_wp2
 generalize ((w.alloc (.cells #[ptrV p] 33)).alloc (.cells #[.int .i64 cc] 2)).alloc (.cells #[.int .i64 1] 3) = W0 at *;have hr0 : qF w W0 p N (fun _ => False) q s (w.heap.size + 5) := ⟨q,xs,K,H.out.more (fun b hb => hb.1) hb2,rfl,keeps_below hb2 nlq,by omega⟩
 refine qba (id := N.id) (n := N.n) (p := p) rfl hn.1 rfl (by omega) ?_
  (fun pre W => Counting w W p N q s cc pre) ?_ ?_ ?_
  (fun x => { tmps := #[ptrV p, .int .i64 cc, .pointer (some ⟨w.heap.size,0,none⟩), .pointer (some ⟨w.heap.size + 1,0,none⟩), .bool false, .pointer (some ⟨w.heap.size + 1 + 1,0,none⟩), .int .i64 (x : Int),ptrV p, .func (.func 58) #[ptrV p] #[], .int .i64 (x : Int),undef,undef,undef,undef,undef,undef,undef,undef,undef,undef,undef,undef,undef,undef,undef,undef,undef],defers := [] }) ?assign ?body ?done
 · obtain ⟨q',xs',K',h3,_⟩ := hr0;exact h3.c1
 · rintro pre W ⟨h1,_⟩;exact h1.c0
 · intro r;refine ⟨(hr0.alloc hZ0 _).alloc hZ0 _,(hb2.alloc hb2.size _).alloc (by simp; omega) _,?_,?_,?_⟩
   · exact (Below.heap_alloc _ _ _ (by simp; omega)).trans ((Below.heap_alloc _ _ _ (by omega)).trans b0)
   · exact (Below.heap_alloc _ _ _ (by simp; omega)).trans ((Below.heap_alloc _ _ _ (by omega)).trans b1)
   · exact (Below.heap_alloc _ _ _ (by simp; omega)).trans ((Below.heap_alloc _ _ _ (by omega)).trans b2)
 · rintro pre W r r' ⟨h1,h2,h3,h4,h5⟩ hr;refine ⟨h1.turn hZ0 _ (by omega) (by omega) _,?_,?_,?_,?_⟩
   · exact h2.grown (grownBy_putObj' _ _ _) h2.size (fun k e => by cases e; omega)
   · exact (World.putObj_heap_other (by omega)).trans h3
   · exact (World.putObj_heap_other (by omega)).trans h4
   · exact (World.putObj_heap_other (by omega)).trans h5
 case assign =>
  intro l x W K hK
  gi_wp2
  exact hK
 case body =>
  rintro l pre x W hxn hxi hpre ⟨h1,h2,h3,h4,h5⟩ hsW hlW hdW;have hlen := hpre.length_le;rw [List.length_append] at hlen;simp only [List.length_cons,List.length_nil] at hlen;have hal := qgt N cc pre;have R := Lib.hid h1;have R2 := Lib.hid h2;have R3 := hdq5 h3 h4 h5 hs2 hsW;obtain ⟨q',xs',K',g,_⟩ := h1;obtain ⟨c18,c21,c24⟩ := g.acs;have c0 : W.cell? ⟨w.heap.size,0,none⟩ = some (ptrV p) := qb h3 0 _ rfl;have c1 : W.cell? ⟨w.heap.size + 1,0,none⟩ = some (.int .i64 cc) := qb h4 0 _ rfl;have c2 : W.cell? ⟨w.heap.size + 1 + 1,0,none⟩ = some (.int .i64 ((1 + ackd N cc pre : Nat) : Int)) := qb h5 0 _ rfl;have f2 := qg h5 0
  have hmx : Tryz.prog.follows .mixedOrders = true := by kernel_rfl
  have hx3 : x < 3 := by omega
  clear h2 h3 h4 h5 g hs2 hr0 b0 b1 b2 hb2 HK
  obtain rfl | rfl | rfl : x = 0 \/ x = 1 \/ x = 2 := by omega
  · by_cases hac : cc <= N.ac 0
    · have ey := qdd (l := pre) hac;have hd : decide (cc <= N.ac 0) = true := decide_eq_true hac;have HE := Lib.hid ey;clear ey
      gi_wp2
      refine qI (by kernel_rfl) (fun h => (by obtain ⟨_,_,h⟩ := h; exact h)) (by kernel_rfl) (by kernel_rfl) ?_
      repeat (go_big_quiet_step (fail))
      refine wpQuiet_nil ?_;intro _ hw';obtain ⟨nq,hw''⟩ := hw';subst hw''
      gi_wp2
      exact qdR R.out hZ0 R2.out R3.out HE.out (by omega)
    · have ey := qdQ (l := pre) hac;have hd : decide (cc <= N.ac 0) = false := decide_eq_false hac;have hf : (cc <= N.ac 0) = False := eq_false hac;have HE := Lib.hid ey;clear ey
      gi_wp2
      refine qI (by kernel_rfl) (fun h => (by obtain ⟨_,_,h⟩ := h; exact h)) (by kernel_rfl) (by kernel_rfl) ?_
      repeat (go_big_quiet_step (fail))
      refine wpQuiet_nil ?_;intro _ hw';obtain ⟨nq,hw''⟩ := hw';subst hw''
      gi_wp2
      exact qfj R.out hZ0 R2.out R3.out HE.out
  · by_cases hac : cc <= N.ac 1
    · have ey := qdd (l := pre) hac;have hd : decide (cc <= N.ac 1) = true := decide_eq_true hac;have HE := Lib.hid ey;clear ey
      gi_wp2
      refine qI (by kernel_rfl) (fun h => (by obtain ⟨_,_,h⟩ := h; exact h)) (by kernel_rfl) (by kernel_rfl) ?_
      repeat (go_big_quiet_step (fail))
      refine wpQuiet_nil ?_;intro _ hw';obtain ⟨nq,hw''⟩ := hw';subst hw''
      gi_wp2
      exact qdR R.out hZ0 R2.out R3.out HE.out (by omega)
    · have ey := qdQ (l := pre) hac;have hd : decide (cc <= N.ac 1) = false := decide_eq_false hac;have hf : (cc <= N.ac 1) = False := eq_false hac;have HE := Lib.hid ey;clear ey
      gi_wp2
      refine qI (by kernel_rfl) (fun h => (by obtain ⟨_,_,h⟩ := h; exact h)) (by kernel_rfl) (by kernel_rfl) ?_
      repeat (go_big_quiet_step (fail))
      refine wpQuiet_nil ?_;intro _ hw';obtain ⟨nq,hw''⟩ := hw';subst hw''
      gi_wp2
      exact qfj R.out hZ0 R2.out R3.out HE.out
  · by_cases hac : cc <= N.ac 2
    · have ey := qdd (l := pre) hac;have hd : decide (cc <= N.ac 2) = true := decide_eq_true hac;have HE := Lib.hid ey;clear ey
      gi_wp2
      refine qI (by kernel_rfl) (fun h => (by obtain ⟨_,_,h⟩ := h; exact h)) (by kernel_rfl) (by kernel_rfl) ?_
      repeat (go_big_quiet_step (fail))
      refine wpQuiet_nil ?_;intro _ hw';obtain ⟨nq,hw''⟩ := hw';subst hw''
      gi_wp2
      exact qdR R.out hZ0 R2.out R3.out HE.out (by omega)
    · have ey := qdQ (l := pre) hac;have hd : decide (cc <= N.ac 2) = false := decide_eq_false hac;have hf : (cc <= N.ac 2) = False := eq_false hac;have HE := Lib.hid ey;clear ey
      gi_wp2
      refine qI (by kernel_rfl) (fun h => (by obtain ⟨_,_,h⟩ := h; exact h)) (by kernel_rfl) (by kernel_rfl) ?_
      repeat (go_big_quiet_step (fail))
      refine wpQuiet_nil ?_;intro _ hw';obtain ⟨nq,hw''⟩ := hw';subst hw''
      gi_wp2
      exact qfj R.out hZ0 R2.out R3.out HE.out
 case done =>
  rintro W ⟨h1,h2,h3,h4,h5⟩ hd hsD;rw [hs2] at hd ⊢;have R2 := Lib.hid (show ∀ k,Below w.heap.size w ((W.drewN k).putObj (w.heap.size + 3) (.deferred none)) from fun k => (below_drewN h2 k).grown (grownBy_putObj' _ _ _) h2.size (fun k e => by cases e; omega));obtain ⟨q',xs',K',g,_⟩ := h1;have c1 := g.c1;have c0 : W.cell? ⟨w.heap.size,0,none⟩ = some (ptrV p) := qb h3 0 _ rfl;have c2 : W.cell? ⟨w.heap.size + 1 + 1,0,none⟩ = some (.int .i64 ((1 + ackd N cc (oth N.id N.n) : Nat) : Int)) := qb h5 0 _ rfl;have hal := qgt N cc (oth N.id N.n)
  have hW := fun W => qfe ((1 + ackd N cc (oth N.id N.n) : Nat) : Int) (N.n : Int) (by omega) W
  have hcnt : ((1 + ackd N cc (oth N.id N.n) : Nat) : Int) <= 4 := by omega
  obtain ⟨cnt,hc⟩ : ∃ c,((1 + ackd N cc (oth N.id N.n) : Nat) : Int) = c := ⟨_,rfl⟩;rw [hc] at c2 hW hcnt;obtain ⟨res,hr⟩ : ∃ r,wonB cnt (N.n : Int) = r := ⟨_,rfl⟩;rw [hr] at hW;have HR := Lib.hid (show wonB ((1 + ackd N cc (oth N.id N.n) : Nat) : Int) (N.n : Int) = res by rw [hc]; exact hr);clear hc hr;clear h2 h3 h4 h5 g hs2 hr0 b0 b1 b2 hb2 HK H hal
  gi_wp2
  refine wpIn_wide.2 ?_
  go_big_quiet ((go_at_call 89; exact Calls.quiet_of_same ((hW _).mono fun e w' ⟨h1,h2⟩ => ⟨h1,h2.symm⟩)))
  gi_wp2
  refine ⟨by simp, .inl ⟨_,_,rfl,run_takeDeferred (w := W.drewN nq) hd,?_⟩⟩;exact ⟨_,results_tmp rfl _ _ _,by rw [HR.out]; rfl,R2.out nq⟩
end Go.Proofs.YtmiijlecfiddmaaGreat
set_option linter.unusedVariables false
set_option linter.unusedSimpArgs false
set_option maxRecDepth 100000
set_option maxHeartbeats 1600000
namespace Go.Proofs.YtmiijlecfiddmaaGreat
open Go.RowKit Go.Shelf
attribute [local go_sem] Oper.semAt_some
variable {w : World} {p : Nat} {N : Node} {Z : Nat -> Prop} {q : Ptrs} {s : Nat} {xs : List MLay} {K : Nat -> Prop}
def saidK (N : Node) (v : Int) (k : Nat) : Nat := ((List.range k).filter fun j => decide (N.sy j = v)).length
theorem qfk (N : Node) (v : Int) (k : Nat) : saidK N v k <= k := Nat.le_trans (List.length_filter_le _ _) (by simp)
theorem qh1 {N : Node} {v : Int} {k : Nat} (h : N.sy k = v) : saidK N v (k + 1) = saidK N v k + 1 := by
 simp [saidK,List.range_succ,h]
theorem qjv {N : Node} {v : Int} {k : Nat} (h : N.sy k ≠ v) : saidK N v (k + 1) = saidK N v k := by
 simp [saidK,List.range_succ,h]
theorem qh2 (p off k : Nat) (hk : k <= 3) (W : World) : (Instr.sliceAt 85 (.pointer (some ⟨p,off,none⟩)) none (some (.int .i64 (k : Int))) none).run Tryz.prog W = .ok (.slice (some ⟨p,off,none⟩) k 3) W := by
 have hl : Tryz.prog.arrayLen 85 = 3 := by kernel_rfl
 rw [run_sliceAt_array_h W 85 _ (by kernel_rfl) .i64 _ (by omega) (by rw [hl]; omega),hl];rw [show Tryz.prog.elem 85 = 84 by kernel_rfl];obtain ⟨i,hi,hs⟩ := Option.map_eq_some_iff.1 (show (Tryz.prog.info? 84).map (fun i => i.size) = some 1 by kernel_rfl)
 simp [Go.sizeOf,typeInfo,hi,Result.andThen,slicedAt,Addr.add]
def qa1 (w : World) (v : Value) (e : Ending) (w' : World) : Prop := e = .returned v /\ ∃ k,w' = w.drewN k
theorem qa1.at {w w' : World} {k : Nat} {v : Value} {e : Ending} (h : qa1 (w.drewN k) v e w') : e = .returned v /\ ∃ n,w' = w.drewN n := by
 obtain ⟨h1,m,h2⟩ := h;exact ⟨h1,_,by rw [h2,World.drewN_drewN]⟩
theorem qef (h : RfAt w p N Z q s xs K) (hn : N.n <= 3) (v : Int) :
 Calls Tryz.prog 90 #[ptrV p, .int .i64 v] w (qa1 w (.int .i64 (N.yes v))) := by
 have c1 := h.c1;have c13 := h.c13;have c14 := h.c14;have c15 := h.c15;have hp := h.lt
 have hcut := fun W => qh2 p 13 N.n hn W
 have hcs : ∀ W : World,(∃ j,W = w.drewN j) -> ∀ k,k < 3 -> W.cell? ⟨p,13 + k,none⟩ = some (.int .i64 (N.sy k)) := by
  rintro W ⟨j,rfl⟩ k hk
  obtain rfl | rfl | rfl : k = 0 \/ k = 1 \/ k = 2 := by omega
  · exact c13
  · exact c14
  · exact c15
 have HY := Lib.hid (show saidK N v N.n = N.yes v from rfl);have hle := qfk N v N.n;clear h c13 c14 c15
 go_enter Tryz.func90,Tryz.ntmps90
 go_wp2
 go_quiet (fail)
 go_wp2
 go_loopw [5,17] (fun m i wr => ∃ k : Nat,k <= N.n /\ i = .int .i64 (k : Int) /\ m = .int .i64 (saidK N v k : Int) /\ ∃ j,wr = w.drewN j) (fun _ i _ => N.n - (intOf i).toNat)
 case atStart => exact ⟨0,Nat.zero_le _,rfl,rfl,_,rfl⟩
 case round =>
  obtain ⟨k,hk,rfl,rfl,hwr⟩ := hrel;have hlk := qfk N v k
  by_cases hlt : k < N.n
  · have hc := hcs _ hwr k (by omega);have HW := Lib.hid hwr;clear hwr hcs
    by_cases hv : N.sy k = v
    · have HS := Lib.hid (qh1 hv);have q1 : (N.sy k == v) = true := beq_iff_eq.2 hv;clear hv;go_wp2
      go_roundw
      case rel => exact ⟨k + 1,by omega,by go_num,by rw [HS.out]; go_num,HW.out⟩
      case measure => simp [intOf]; omega
    · have HS := Lib.hid (qjv hv);have q1 : (N.sy k == v) = false := beq_eq_false_iff_ne.2 hv;have q2 : (N.sy k = v) = False := eq_false hv;clear hv;go_wp2
      go_roundw
      case rel => exact ⟨k + 1,by omega,by go_num,by rw [HS.out],HW.out⟩
      case measure => simp [intOf]; omega
  · obtain rfl : k = N.n := by omega
    obtain ⟨j,rfl⟩ := hwr;go_wp2;go_ret;exact ⟨by rw [<- HY.out]; rfl,_,rfl⟩
theorem qde (h : RfAt w p N Z q s xs K) (hn : N.n <= 3) :
 Calls Tryz.prog 61 #[ptrV p] w (qa1 w (.bool (Node.won (N.yes 1) N.n))) := by
 have c1 := h.c1;have hS : ∀ k,Calls Tryz.prog 90 #[ptrV p, .int .i64 1] (w.drewN k) (qa1 (w.drewN k) (.int .i64 (N.yes 1))) := fun k => qef (h.below (below_drewN blq k)) hn 1
 have hW := fun W => qfe ((N.yes 1 : Nat) : Int) (N.n : Int) (by omega) W
 rw [qgu] at hW;generalize Node.won (N.yes 1) N.n = b at *;generalize ((N.yes 1 : Nat) : Int) = y at *;clear h
 go_enter Tryz.func61,Tryz.ntmps61
 go_wp2
 go_big_quiet (first
  | (go_at_call 90
     exact (hS _).mono fun _ _ h => h.at)
  | (go_at_call 89
     exact Calls.quiet_of_same ((hW _).mono fun e w' ⟨h1,h2⟩ => ⟨h1,h2.symm⟩)))
 go_wp2;go_ret;exact ⟨rfl,_,rfl⟩
theorem qfl (h : RfAt w p N Z q s xs K) (hl : N.lg.l.length <= 1000000) :
 Calls Tryz.prog 30 #[ptrV p] w fun e w' => e = .returned (.bool (decide (N.ht < 1099511627776) && decide (N.lg.lastI < 1099511627776))) /\ Below w.heap.size w w' := by
 have c2 := h.c2;have hL := qC h hl;clear h
 by_cases h1 : N.ht < 1099511627776
 · have e1 : decide (N.ht < 1099511627776) = true := decide_eq_true h1
   go_enter Tryz.func30,Tryz.ntmps30
   go_wp2_with fail
   refine hL.mono ?_;rintro e w' ⟨rfl,hb⟩;go_wp2;go_ret;exact ⟨by rw [e1]; rfl,hb⟩
 · have e1 : decide (N.ht < 1099511627776) = false := decide_eq_false h1
   go_enter Tryz.func30,Tryz.ntmps30
   go_wp2;go_ret;exact ⟨rfl,blq⟩
theorem qdv (h : RfAt w p N Z q s xs K) :
 Calls Tryz.prog 98 #[ptrV p] w fun e w' => e = .returned (.bool (decide (N.ld = -1 \/ N.ro ≠ 3 /\ 6 <= N.wk))) /\ w' = w := by
 have c10 := h.c10;have c11 := h.c11;have c12 := h.c12;clear h
 by_cases h1 : N.ld = -1
 · have e1 : (N.ld == -1) = true := beq_iff_eq.2 h1;have e2 : decide (N.ld = -1 \/ N.ro ≠ 3 /\ 6 <= N.wk) = true := decide_eq_true (.inl h1);rw [e2];clear e2
   go_enter Tryz.func98,Tryz.ntmps98
   go_wp2;go_ret;exact ⟨rfl,rfl⟩
 · have e1 : (N.ld == -1) = false := beq_eq_false_iff_ne.2 h1;have e1' : (N.ld = -1) = False := eq_false h1
   by_cases h2 : N.ro = 3
   · have e2 : decide (N.ld = -1 \/ N.ro ≠ 3 /\ 6 <= N.wk) = false := decide_eq_false (by omega);rw [e2];clear e2 h1
     go_enter Tryz.func98,Tryz.ntmps98
     go_wp2;go_ret;exact ⟨rfl,rfl⟩
   · have e3 : (N.ro = 3) = False := eq_false h2;have e2 : decide (N.ld = -1 \/ N.ro ≠ 3 /\ 6 <= N.wk) = decide (6 <= N.wk) := decide_eq_decide.2 (by omega);rw [e2];obtain ⟨b,hb⟩ := exq (decide (6 <= N.wk));rw [hb];clear e2 h1 h2
     go_enter Tryz.func98,Tryz.ntmps98
     go_wp2;rw [show (N.ro != 3) = true by simp [e3],Bool.true_and];go_ret;exact ⟨rfl,rfl⟩
structure OnP (p : Nat) (C : Array Value) (w w' : World) : Prop where
 row : w'.heap[p]? = some (.cells C 90)
 size : w'.heap.size = w.heap.size
 off : ∀ b,b ≠ p -> w'.heap[b]? = w.heap[b]?
 os : w'.os = w.os
 tape : w'.tape = w.tape
 output : w'.output = w.output
theorem RfAt.on (h : RfAt w p N Z q s xs K) : OnP p (rfC N q) w w := ⟨h.row,rfl,fun _ _ => rfl,rfl,rfl,rfl⟩
theorem OnP.put {p : Nat} {C C' : Array Value} {w w' : World} (h : OnP p C w w') (j : Nat) (v : Value) (e : C.setIfInBounds j v = C') : OnP p C' w (w'.setCell ⟨p,j,none⟩ v) :=
 ⟨by rw [<- e]; exact setCell_at w' ⟨p,j,none⟩ v _ _ _ rfl h.row,by simp [h.size],fun b hb => (Below.heap_setCell _ _ _ _ (by exact hb)).trans (h.off b hb),h.os,h.tape,h.output⟩
theorem OnP.puq {p : Nat} {C C' : Array Value} {w w' : World} (h : OnP p C w w') (j : Nat) (v : Value) (e : C.setIfInBounds j v = C' := by first | (simp only [rfC, lpq]; rfl) | (simp only [lpq]; rfl) | (simp only [lpq]; done) | rfl) : OnP p C' w (w'.setCell ⟨p, j, none⟩ v) := h.put j v e
theorem OnP.drew {p : Nat} {C : Array Value} {w w' : World} (h : OnP p C w w') : OnP p C w w'.drew := ⟨h.row,h.size,h.off,h.os,h.tape,h.output⟩
theorem OnP.keeps {p : Nat} {C : Array Value} {w w' : World} (h : OnP p C w w') {Z : Nat -> Prop} (hZ : ¬ Z p) : qf Z w w' :=
 ⟨h.os,h.tape,h.output,Nat.le_of_eq h.size.symm,fun b _ hb => h.off b fun e => hZ (e ▸ hb)⟩
theorem qdw (h : RfAt w p N Z q s xs K) (hn : N.n <= 3) (hi : N.id < 3) (role : Int) :
 Calls Tryz.prog 60 #[ptrV p, .int .i64 role] w fun e w' => e = .returned (.tuple #[]) /\ RfAt w' p { N with ro := role,ld := -1,wk := 0,sy := Node.put Node.zeroF N.id 1 } Z q s xs K /\ qf Z w w' := by
 have hO := h.on;have c10 := h.c10;have c11 := h.c11;have c12 := h.c12;have c13 := h.c13;have c14 := h.c14;have c15 := h.c15;have f10 := h.fz 10;have f11 := h.fz 11;have f12 := h.fz 12;have f13 := h.fz 13;have f14 := h.fz 14;have f15 := h.fz 15;have hp := h.lt;have H := Lib.hid h;have HO := Lib.hid hO;clear h hO
 go_enter Tryz.func60,Tryz.ntmps60
 go_wp2
 have hO : OnP p (rfC { N with ro := role,ld := -1,wk := 0,sy := Node.zeroF } q) w ((((((w.setCell ⟨p,10,none⟩ (.int .i64 role)).setCell ⟨p,11,none⟩ (.int .i64 (-1))).setCell ⟨p,12,none⟩ (.int .i64 0)).setCell ⟨p,13,none⟩ (.int .i64 0)).setCell ⟨p,14,none⟩ (.int .i64 0)).setCell ⟨p,15,none⟩ (.int .i64 0)) :=
  (((((HO.out.put 10 _ rfl).put 11 _ rfl).put 12 _ rfl).put 13 _ rfl).put 14 _ rfl).put 15 _ rfl
 clear c10 c11 c12 c13 c14 c15 f10 f11 f12 f13 f14 f15 HO;generalize ((((((w.setCell ⟨p,10,none⟩ (.int .i64 role)).setCell ⟨p,11,none⟩ (.int .i64 (-1))).setCell ⟨p,12,none⟩ (.int .i64 0)).setCell ⟨p,13,none⟩ (.int .i64 0)).setCell ⟨p,14,none⟩ (.int .i64 0)).setCell ⟨p,15,none⟩ (.int .i64 0)) = W1 at *;have c0 : W1.cell? ⟨p,0,none⟩ = some (.int .i64 (N.id : Int)) := qb hO.row 0 _ rfl;have HO := Lib.hid hO
 obtain hid | hid | hid : N.id = 0 \/ N.id = 1 \/ N.id = 2 := by omega
 · rw [hid] at c0;have c13 : W1.cell? ⟨p,13,none⟩ = some (.int .i64 0) := qb hO.row 13 _ rfl;have f13 : W1.frozen? ⟨p,13,none⟩ = false := qg hO.row 13;have HI := Lib.hid hid;clear hid hO
   go_region
   go_wp2;refine bodyPost_end (results_none rfl _ _ _) rfl ?_;have h1 := (HO.out.put 13 (.int .i64 1) rfl).drew;refine ⟨rfl,H.out.turn (Nat.le_of_eq h1.size.symm) (fun b _ hb => h1.off b hb) (h1.row.trans ?_) rfl rfl rfl rfl rfl,h1.keeps H.out.away⟩;rw [HI.out]
   rfl
 · rw [hid] at c0;have c14 : W1.cell? ⟨p,14,none⟩ = some (.int .i64 0) := qb hO.row 14 _ rfl;have f14 : W1.frozen? ⟨p,14,none⟩ = false := qg hO.row 14;have HI := Lib.hid hid;clear hid hO
   go_region
   go_wp2;refine bodyPost_end (results_none rfl _ _ _) rfl ?_;have h1 := (HO.out.put 14 (.int .i64 1) rfl).drew;refine ⟨rfl,H.out.turn (Nat.le_of_eq h1.size.symm) (fun b _ hb => h1.off b hb) (h1.row.trans ?_) rfl rfl rfl rfl rfl,h1.keeps H.out.away⟩;rw [HI.out]
   rfl
 · rw [hid] at c0;have c15 : W1.cell? ⟨p,15,none⟩ = some (.int .i64 0) := qb hO.row 15 _ rfl;have f15 : W1.frozen? ⟨p,15,none⟩ = false := qg hO.row 15;have HI := Lib.hid hid;clear hid hO
   go_region
   go_wp2;refine bodyPost_end (results_none rfl _ _ _) rfl ?_;have h1 := (HO.out.put 15 (.int .i64 1) rfl).drew;refine ⟨rfl,H.out.turn (Nat.le_of_eq h1.size.symm) (fun b _ hb => h1.off b hb) (h1.row.trans ?_) rfl rfl rfl rfl rfl,h1.keeps H.out.away⟩;rw [HI.out]
   rfl
theorem qbc (h : RfAt w p N Z q s xs K) (t lead : Int) :
 Calls Tryz.prog 43 #[ptrV p, .int .i64 t, .int .i64 lead] w fun e w' => e = .returned (.tuple #[]) /\ RfAt w' p (N.fall t lead) Z { q with R := none,cR := 0 } s xs K /\ qf Z w w' := by
 have c2 := h.c2;have f2 := h.fz 2;have c3 := h.c3;have f3 := h.fz 3;have c10 := h.c10;have f10 := h.fz 10;have c11 := h.c11;have f11 := h.fz 11;have c12 := h.c12;have f12 := h.fz 12;have c13 := h.c13;have f13 := h.fz 13;have c14 := h.c14;have f14 := h.fz 14;have c15 := h.c15;have f15 := h.fz 15;have c16 := h.c16;have f16 := h.fz 16;have c17 := h.c17;have f17 := h.fz 17;have c18 := h.c18;have f18 := h.fz 18;have c19 := h.c19;have f19 := h.fz 19;have c20 := h.c20;have f20 := h.fz 20;have c21 := h.c21;have f21 := h.fz 21;have c22 := h.c22;have f22 := h.fz 22;have c23 := h.c23;have f23 := h.fz 23;have c24 := h.c24;have f24 := h.fz 24;have c25 := h.c25;have f25 := h.fz 25;have c26 := h.c26;have f26 := h.fz 26;have hp := h.lt;have HO := Lib.hid h.on;have H := Lib.hid h;clear h
 by_cases ht : N.ht < t
 · have HT := Lib.hid ht;have e1 : decide (N.ht < t) = true := decide_eq_true ht;clear ht
   go_enter Tryz.func43,Tryz.ntmps43
   go_wp2;refine bodyPost_end (results_none rfl _ _ _) rfl ?_;have o0 := OnP.puq HO.out 2 (.int .i64 t);have o1 := OnP.puq o0 3 (.int .i64 (-1));have o2 := OnP.puq o1 10 (.int .i64 0);have o3 := OnP.puq o2 11 (.int .i64 lead);have o4 := OnP.puq o3 12 (.int .i64 0);have o5 := OnP.puq o4 13 (.int .i64 0);have o6 := OnP.puq o5 14 (.int .i64 0);have o7 := OnP.puq o6 15 (.int .i64 0);have o8 := OnP.puq o7 16 (.int .i64 0);have o9 := OnP.puq o8 17 (.int .i64 0);have o10 := OnP.puq o9 18 (.int .i64 0);have o11 := OnP.puq o10 19 (.int .i64 0);have o12 := OnP.puq o11 20 (.int .i64 0);have o13 := OnP.puq o12 21 (.int .i64 0);have o14 := OnP.puq o13 22 (.int .i64 0);have o15 := OnP.puq o14 23 (.int .i64 0);have o16 := OnP.puq o15 24 (.int .i64 0);have o17 := OnP.puq o16 25 (.int .i64 0);have o18 := OnP.puq o17 26 (.slice none 0 0);have h1 := o18;refine ⟨rfl,H.out.turn0 (Nat.le_of_eq h1.size.symm) (fun b _ hb => h1.off b hb) (h1.row.trans ?_) rfl rfl rfl rfl rfl,h1.keeps H.out.away⟩;unfold Node.fall;rw [if_pos HT.out,if_pos HT.out]
   rfl
 · have HT := Lib.hid ht;have e1 : decide (N.ht < t) = false := decide_eq_false ht;clear ht
   go_enter Tryz.func43,Tryz.ntmps43
   go_wp2;refine bodyPost_end (results_none rfl _ _ _) rfl ?_;have o0 := OnP.puq HO.out 10 (.int .i64 0);have o1 := OnP.puq o0 11 (.int .i64 lead);have o2 := OnP.puq o1 12 (.int .i64 0);have o3 := OnP.puq o2 13 (.int .i64 0);have o4 := OnP.puq o3 14 (.int .i64 0);have o5 := OnP.puq o4 15 (.int .i64 0);have o6 := OnP.puq o5 16 (.int .i64 0);have o7 := OnP.puq o6 17 (.int .i64 0);have o8 := OnP.puq o7 18 (.int .i64 0);have o9 := OnP.puq o8 19 (.int .i64 0);have o10 := OnP.puq o9 20 (.int .i64 0);have o11 := OnP.puq o10 21 (.int .i64 0);have o12 := OnP.puq o11 22 (.int .i64 0);have o13 := OnP.puq o12 23 (.int .i64 0);have o14 := OnP.puq o13 24 (.int .i64 0);have o15 := OnP.puq o14 25 (.int .i64 0);have o16 := OnP.puq o15 26 (.slice none 0 0);have h1 := o16;refine ⟨rfl,H.out.turn0 (Nat.le_of_eq h1.size.symm) (fun b _ hb => h1.off b hb) (h1.row.trans ?_) rfl rfl rfl rfl rfl,h1.keeps H.out.away⟩;unfold Node.fall;rw [if_neg (Int.not_lt.2 HT.out),if_neg (Int.not_lt.2 HT.out)]
   rfl
end Go.Proofs.YtmiijlecfiddmaaGreat
set_option linter.unusedVariables false
set_option linter.unusedSimpArgs false
set_option maxRecDepth 100000
set_option maxHeartbeats 3200000
namespace Go.Proofs.YtmiijlecfiddmaaGreat
open Go.RowKit Go.Shelf
attribute [local go_sem] Oper.semAt_some
variable {w : World} {p : Nat} {N : Node} {Z : Nat -> Prop} {q : Ptrs} {s : Nat} {xs : List MLay} {K : Nat -> Prop}
def qaG (k t : Int) (r : Node) (j : Nat) : Node := r.say { Node.msg k j t with i := r.lg.lastI,l := r.lg.lastT }
theorem qdf (k t : Int) (N : Node) (l : List Nat) : ∃ ls : List Msg,ls.length = l.length /\ l.foldl (qaG k t) N = { N with ms := N.ms ++ ls } := by
 induction l generalizing N with
 | nil => exact ⟨[],rfl,by simp⟩
 | cons j l ih =>
   obtain ⟨ls,h1,h2⟩ := ih (qaG k t N j);refine ⟨{ Node.msg k j t with f := N.id,i := N.lg.lastI,l := N.lg.lastT } :: ls,by simp [h1],?_⟩;rw [List.foldl_cons,h2]
   simp [qaG,Node.say]
structure qlf (W : World) (b m p : Nat) (kk tt LI LT : Int) : Prop where
 b0 : W.heap[b]? = some (.cells #[ptrV p] 33)
 b1 : W.heap[b + 1]? = some (.cells #[.int .i64 kk] 3)
 b2 : W.heap[b + 1 + 1]? = some (.cells #[.int .i64 tt] 2)
 b3 : W.heap[m]? = some (.cells #[.int .i64 LI] 2)
 b4 : W.heap[m + 1]? = some (.cells #[.int .i64 LT] 2)
theorem qgZ {pre : List Nat} {x : Nat} {k t : Int} (h : RfAt w p (pre.foldl (qaG k t) N) Z q s xs K) (hZ : ∀ b,Z b -> b < w.heap.size) (hm : N.ms.length < 999990) (hn : N.n <= 3 /\ N.id < 3) (hpre : pre ++ [x] <+: oth N.id N.n) (ht : t ≠ 0) :
 Calls Tryz.prog 76 #[ptrV p, .int .i64 (x : Int),msgV ⟨k,0,0,t,N.lg.lastI,N.lg.lastT,0,0,false,[],Node.noEnt⟩ none 0 none 0] w fun e w' => e = .returned (.tuple #[]) /\ Turned w w' p (qaG k t (pre.foldl (qaG k t) N) x) Z q s := by
 obtain ⟨ls,e1,e2⟩ := qdf k t N pre;have h1 := hpre.length_le
 have h2 : (oth N.id N.n).length <= N.n := by
  unfold oth;exact Nat.le_trans (List.length_filter_le _ _) (by simp)
 rw [List.length_append] at h1;simp only [List.length_cons,List.length_nil] at h1;rw [e2] at h ⊢;refine (qav h hZ ?_ (x : Int) ⟨⟨k,0,0,t,N.lg.lastI,N.lg.lastT,0,0,false,[],Node.noEnt⟩,none,0,none,0⟩ ⟨qY _ _,Nat.zero_le _,Lies.nil _,fun h0 => absurd h0 (by simp [Node.noEnt])⟩).mono ?_
 · show (N.ms ++ ls).length < 999999;rw [List.length_append];omega
 · rintro e w' ⟨rfl,hT⟩;refine ⟨rfl,hT.turned blq ?_⟩;show qaG k t _ x = _;unfold qaG Node.say Node.msg;dsimp only;rw [if_neg ht]
theorem qcD (h : RfAt w p N Z q s xs K) (hZ : ∀ b,Z b -> b < w.heap.size) (hm : N.ms.length < 999990) (hl : N.lg.l.length <= 1000000) (hn : N.n <= 3 /\ N.id < 3) (kk tt : Int) (ht : tt ≠ 0) :
 Calls Tryz.prog 63 #[ptrV p, .int .i64 kk, .int .i64 tt] w fun e w' => e = .returned (.tuple #[]) /\ Turned w w' p (N.ask kk tt) Z q s := by
 have hp := h.lt;have hb0 : Below w.heap.size w (((w.alloc (.cells #[ptrV p] 33)).alloc (.cells #[.int .i64 kk] 3)).alloc (.cells #[.int .i64 tt] 2)) := ((blq.alloc nlq _).alloc (by simp) _).alloc (by simp; omega) _;have h0 := h.below hb0;obtain ⟨A,c,hr⟩ := h0.log.rd;have hL := qau hr hl;have c8 := h0.c8
 have hsz0 : (((w.alloc (.cells #[ptrV p] 33)).alloc (.cells #[.int .i64 kk] 3)).alloc (.cells #[.int .i64 tt] 2)).heap.size = w.heap.size + 3 := by simp
 have b0 : (((w.alloc (.cells #[ptrV p] 33)).alloc (.cells #[.int .i64 kk] 3)).alloc (.cells #[.int .i64 tt] 2)).heap[w.heap.size]? = some (.cells #[ptrV p] 33) := (Below.heap_alloc _ _ _ (by simp; omega)).trans ((Below.heap_alloc _ _ _ (by simp)).trans (heap_alloc_new _ _));have b1 : (((w.alloc (.cells #[ptrV p] 33)).alloc (.cells #[.int .i64 kk] 3)).alloc (.cells #[.int .i64 tt] 2)).heap[w.heap.size + 1]? = some (.cells #[.int .i64 kk] 3) := (Below.heap_alloc _ _ _ (by simp)).trans (heap_alloc2_new _ _ _)
 have b2 : (((w.alloc (.cells #[ptrV p] 33)).alloc (.cells #[.int .i64 kk] 3)).alloc (.cells #[.int .i64 tt] 2)).heap[w.heap.size + 1 + 1]? = some (.cells #[.int .i64 tt] 2) := by
  have := heap_alloc_new ((w.alloc (.cells #[ptrV p] 33)).alloc (.cells #[.int .i64 kk] 3)) (.cells #[.int .i64 tt] 2)
  simpa using this
 obtain ⟨LI,hLI⟩ := exq (N.lg.lastI);obtain ⟨LT,hLT⟩ := exq (N.lg.lastT);rw [hLI,hLT] at hL;have HLI := Lib.hid hLI;have HLT := Lib.hid hLT;have H := Lib.hid h;clear h0 hr hLI hLT h;refine (callsIn_wide (n := 9)).1 ?_;refine callsIn_of_wp_marks Tryz.func63 rfl trivial ?_ rfl;simp only [Tryz.ntmps63,List.size_toArray,List.length_cons,List.length_nil,Nat.reduceAdd,Nat.reduceSub,Array.replicate_succ,Array.replicate_zero,List.push_toArray,List.append_toArray,List.nil_append,List.cons_append]
 gi_wp2
 refine ⟨trivial,?_⟩;refine (callsIn_wide.2 hL).mono ?_;rintro e w1 ⟨rfl,hb1⟩;have d0 := (hb1.block _ (hlt b0)).trans b0;have d1 := (hb1.block _ (hlt b1)).trans b1;have d2 := (hb1.block _ (hlt b2)).trans b2;have e0 : w1.cell? ⟨w.heap.size,0,none⟩ = some (ptrV p) := qb d0 0 _ rfl;have e1 : w1.cell? ⟨w.heap.size + 1,0,none⟩ = some (.int .i64 kk) := qb d1 0 _ rfl;have e2 : w1.cell? ⟨w.heap.size + 1 + 1,0,none⟩ = some (.int .i64 tt) := qb d2 0 _ rfl;have hbw := hb0.trans (hb1.mono hb0.size);have z0 : w.heap.size < w1.heap.size := hlt d0;have z1 : w.heap.size + 1 < w1.heap.size := hlt d1;have z2 : w.heap.size + 1 + 1 < w1.heap.size := hlt d2;clear hb1 hb0 b0 b1 b2 hsz0 c8 hL
 gi_wp2
 have hb2 : Below w.heap.size w ((w1.alloc (.cells #[.int .i64 LI] 2)).alloc (.cells #[.int .i64 LT] 2)) := (hbw.alloc hbw.size _).alloc (by simp; omega) _
 have hs2 : ((w1.alloc (.cells #[.int .i64 LI] 2)).alloc (.cells #[.int .i64 LT] 2)).heap.size = w1.heap.size + 2 := by simp
 have f0 : ((w1.alloc (.cells #[.int .i64 LI] 2)).alloc (.cells #[.int .i64 LT] 2)).heap[w.heap.size]? = some (.cells #[ptrV p] 33) := (Below.heap_alloc _ _ _ (by simp; omega)).trans ((Below.heap_alloc _ _ _ z0).trans d0);have f1 : ((w1.alloc (.cells #[.int .i64 LI] 2)).alloc (.cells #[.int .i64 LT] 2)).heap[w.heap.size + 1]? = some (.cells #[.int .i64 kk] 3) := (Below.heap_alloc _ _ _ (by simp; omega)).trans ((Below.heap_alloc _ _ _ z1).trans d1);have f2 : ((w1.alloc (.cells #[.int .i64 LI] 2)).alloc (.cells #[.int .i64 LT] 2)).heap[w.heap.size + 1 + 1]? = some (.cells #[.int .i64 tt] 2) := (Below.heap_alloc _ _ _ (by simp; omega)).trans ((Below.heap_alloc _ _ _ z2).trans d2);have f3 : ((w1.alloc (.cells #[.int .i64 LI] 2)).alloc (.cells #[.int .i64 LT] 2)).heap[w1.heap.size]? = some (.cells #[.int .i64 LI] 2) := (Below.heap_alloc _ _ _ (by simp)).trans (heap_alloc_new _ _);have f4 : ((w1.alloc (.cells #[.int .i64 LI] 2)).alloc (.cells #[.int .i64 LT] 2)).heap[w1.heap.size + 1]? = some (.cells #[.int .i64 LT] 2) := heap_alloc2_new _ _ _;clear d0 d1 d2 e0 e1 e2;generalize (w1.alloc (.cells #[.int .i64 LI] 2)).alloc (.cells #[.int .i64 LT] 2) = W0 at *;have hr0 : qF w W0 p N Z q s (w1.heap.size + 4) := ⟨q,xs,K,H.out.more (fun b hb => hb.1) hb2,rfl,keeps_below hb2 nlq,by omega⟩;generalize w1.heap.size = m1 at *;clear hbw hb2 H;obtain ⟨B3,hB3⟩ : ∃ B3,B3 = w.heap.size + 1 := ⟨_,rfl⟩;have hbx : ∀ W : World,qf (fun b => w.heap.size <= b /\ b < m1 + 2) W0 W -> qlf W w.heap.size m1 p kk tt LI LT := fun W hk => ⟨(hk.block _ (hlt f0) ⟨by omega,by omega⟩).trans f0,(hk.block _ (hlt f1) ⟨by omega,by omega⟩).trans f1,(hk.block _ (hlt f2) ⟨by omega,by omega⟩).trans f2,(hk.block _ (hlt f3) ⟨by omega,by omega⟩).trans f3,(hk.block _ (hlt f4) ⟨by omega,by omega⟩).trans f4⟩
 refine qba (id := N.id) (n := N.n) (p := p) rfl hn.1 rfl (by omega) ?_
  (fun pre W => qF w W p (pre.foldl (qaG kk tt) N) Z q s (m1 + 4) /\ qf (fun b => w.heap.size <= b /\ b < m1 + 2) W0 W) ?_ ?_ ?_
  (fun x => { tmps := #[ptrV p, .int .i64 kk, .int .i64 tt, .pointer (some ⟨w.heap.size,0,none⟩), .pointer (some ⟨w.heap.size + 1,0,none⟩), .pointer (some ⟨w.heap.size + 1 + 1,0,none⟩), .pointer (some ⟨m1,0,none⟩), .pointer (some ⟨m1 + 1,0,none⟩), .int .i64 (x : Int), .tuple #[.int .i64 LI, .int .i64 LT],ptrV p, .pointer (some ⟨p,0,none⟩), .pointer (some ⟨p,8,none⟩),ptrV q.l, .tuple #[.int .i64 LI, .int .i64 LT], .int .i64 LI, .int .i64 LT,ptrV p, .func (.func 58) #[ptrV p] #[], .int .i64 (x : Int),undef,undef,undef,undef,undef,undef,undef,undef],defers := [] }) ?assign ?body ?done
 · obtain ⟨q',xs',K',h3,_⟩ := hr0;exact h3.c1
 · rintro pre W ⟨h1,_⟩;obtain ⟨ls,_,e⟩ := qdf kk tt N pre;have := h1.c0;rw [e] at this;exact this
 · intro r;exact ⟨(hr0.alloc hZ _).alloc hZ _,(qai _ _).trans (qai _ _)⟩
 · rintro pre W r r' ⟨h1,h2⟩ hr;exact ⟨h1.turn hZ _ (by omega) (by omega) _,h2.trans (qaV (by omega))⟩
 case assign =>
  intro l x W K hK
  gi_wp2
  exact hK
 case body =>
  rintro l pre x W hxn hxi hpre ⟨h1,h2⟩ hsW hlW hdW;obtain ⟨q',xs',K',h3,h4,h5,h6⟩ := h1;obtain ⟨g0,g1,g2,g3,g4⟩ := hbx W h2;have c0 : W.cell? ⟨w.heap.size,0,none⟩ = some (ptrV p) := qb g0 0 _ rfl;have c1 : W.cell? ⟨w.heap.size + 1,0,none⟩ = some (.int .i64 kk) := qb g1 0 _ rfl;have c2 : W.cell? ⟨w.heap.size + 1 + 1,0,none⟩ = some (.int .i64 tt) := qb g2 0 _ rfl;have c3 : W.cell? ⟨m1,0,none⟩ = some (.int .i64 LI) := qb g3 0 _ rfl;have c4 : W.cell? ⟨m1 + 1,0,none⟩ = some (.int .i64 LT) := qb g4 0 _ rfl;have hS := qgZ h3 (fun b hb => hb.elim (fun e => by have := hZ b e; omega) (fun e => by omega)) hm hn hpre ht;rw [HLI.out,HLT.out] at hS;have hW := Lib.hid (show qf Z w W from h5);have hK2 := Lib.hid h2;have hL := Lib.hid h4;have hSz := hdq3 hs2 hsW h6;have hz2 := hdq2 z0 z2;clear h2 h3 h4 h5 h6 hr0 f0 f1 f2 f3 f4 hbx g0 g1 g2 g3 g4 hs2 z0 z1 z2 hsW hB3
  gi_wp2
  refine ⟨trivial,?_⟩;refine (CallsIn.inRound l (callsIn_wide.2 hS)).mono ?_;rintro e w' ⟨rfl,hT⟩
  gi_wp2
  obtain ⟨q2,xs2,K2,k1,k2,k3⟩ := hT;obtain ⟨s1,s5,s2⟩ := hSz.out;obtain ⟨s3,s4⟩ := hz2.out;refine ⟨?_,?_,⟨q2,xs2,K2,?_,k2.trans hL.out,hW.out.trans (k3.mono fun b hb => .inl hb),?_⟩,?_⟩
  · exact k3.block _ (by omega) (.inr (by omega))
  · exact k3.block _ (by omega) (.inr (by omega))
  · rw [List.foldl_append];exact k1
  · have := k3.size; omega
  · exact hK2.out.trans (k3.mono fun b hb => .inr ⟨hb.1,by omega⟩)
 case done =>
  rintro W ⟨h1,h2⟩ hd hsD;rw [hs2] at hd ⊢;have hT := Lib.hid (show Turned w (W.putObj (m1 + 2) (.deferred none)) p (N.ask kk tt) Z q s from (h1.turn hZ _ (by omega) (by omega) _).turned);clear h1 h2 hr0 f0 f1 f2 f3 f4 hbx hs2 z0 z1 z2 hB3
  gi_wp2
  refine ⟨by simp, .inl ⟨_,_,rfl,run_takeDeferred hd,?_⟩⟩;exact ⟨_,results_none rfl _ _ _,rfl,hT.out⟩
end Go.Proofs.YtmiijlecfiddmaaGreat
