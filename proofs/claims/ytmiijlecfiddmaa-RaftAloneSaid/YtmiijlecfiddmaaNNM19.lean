/- The program's node counts who follows. -/
import Derived.Test.YtmiijlecfiddmaaNNM14
import Derived.Test.YtmiijlecfiddmaaNNM15
import Derived.Sort.BigQuietIn
import Derived.Sort.QuietTacIn
set_option linter.unusedVariables false
set_option linter.unusedSimpArgs false
set_option maxRecDepth 100000
set_option maxHeartbeats 3200000
namespace Go.Proofs.Ytmiijlecfiddmaa
open Go.RowKit Go.Shelf
attribute [local go_sem] Oper.semAt_some
def ackd (N : Node) (c : Int) (l : List Nat) : Nat := (l.filter fun k => decide (c <= N.ac k)).length
theorem qct (N : Node) (c : Int) (l : List Nat) : ackd N c l <= l.length := List.length_filter_le _ _
theorem qa4 {N : Node} {c : Int} {l : List Nat} {x : Nat} (h : c <= N.ac x) : ackd N c (l ++ [x]) = ackd N c l + 1 := by
 simp [ackd,h]
theorem qbh {N : Node} {c : Int} {l : List Nat} {x : Nat} (h : ¬ c <= N.ac x) : ackd N c (l ++ [x]) = ackd N c l := by
 simp [ackd,h]
theorem qcu (y n : Nat) : wonB (y : Int) (n : Int) = Node.won y n := by
 unfold wonB Node.won
 by_cases h : 1 <= n /\ y <= n /\ n < 2 * y
 · rw [decide_eq_true h,decide_eq_true (by omega),decide_eq_true (by omega),decide_eq_true (by omega),decide_eq_true (by omega)]; rfl
 · rw [decide_eq_false h]
   by_cases h1 : 1 <= n
   · by_cases h2 : y <= n
     · rw [decide_eq_false (show ¬ ((n : Int) - y < y) by omega)]; simp
     · rw [decide_eq_false (show ¬ ((y : Int) <= n) by omega)]; simp
   · rw [decide_eq_false (show ¬ (1 <= (n : Int)) by omega)]; simp
theorem RfAt.acs {w : World} {p : Nat} {N : Node} {Z : Nat -> Prop} {q : Ptrs} {s : Nat} {xs : List MLay} {K : Nat -> Prop} (h : RfAt w p N Z q s xs K) :
 w.cell? ⟨p,18,none⟩ = some (.int .i64 (N.ac 0)) /\ w.cell? ⟨p,21,none⟩ = some (.int .i64 (N.ac 1)) /\ w.cell? ⟨p,24,none⟩ = some (.int .i64 (N.ac 2)) := ⟨h.c18,h.c21,h.c24⟩
def Counting (w W : World) (p : Nat) (N : Node) (q : Ptrs) (s : Nat) (cc : Int) (pre : List Nat) : Prop :=
 qm w W p N (fun _ => False) q s (w.heap.size + 5) /\ Below w.heap.size w W /\ W.heap[w.heap.size]? = some (.cells #[ptrV p] 32) /\ W.heap[w.heap.size + 1]? = some (.cells #[.int .i64 cc] 2) /\ W.heap[w.heap.size + 1 + 1]? = some (.cells #[.int .i64 ((1 + ackd N cc pre : Nat) : Int)] 3)
theorem qaV (Z : Nat -> Prop) (W : World) (k : Nat) : qf Z W (W.drewN k) := ⟨rfl,rfl,rfl,nlq,fun _ _ _ => rfl⟩
theorem qbi {w W W0 : World} {nq : Nat} {p : Nat} {N : Node} {q : Ptrs} {s : Nat} {cc v : Int} {pre : List Nat} {x : Nat} {a : Act} (h1 : qm w W p N (fun _ => False) q s (w.heap.size + 5)) (hZ0 : ∀ b,False -> b < w.heap.size) (h2 : Below w.heap.size w W)
 (h3 : W.heap[w.heap.size]? = some (.cells #[ptrV p] 32) /\ W.heap[w.heap.size + 1]? = some (.cells #[.int .i64 cc] 2) /\ W.heap[w.heap.size + 1 + 1]? = some (.cells #[.int .i64 ((1 + ackd N cc pre : Nat) : Int)] 3) /\ W0.heap.size = w.heap.size + 3 /\ W0.heap.size + 1 < W.heap.size) (he : ackd N cc (pre ++ [x]) = ackd N cc pre + 1) (hv : v = ((1 + ackd N cc pre : Nat) : Int) + 1) :
 roundEnd W0.heap.size (Counting w · p N q s cc (pre ++ [x])) W .normal a ((W.drewN nq).setCell ⟨w.heap.size + 1 + 1,0,none⟩ (.int .i64 v)) := by
 obtain ⟨g0,g1,g2,g3,g4⟩ := h3
 refine ⟨Below.heap_setCell _ _ _ _ (by show _ ≠ w.heap.size + 1 + 1; omega),Below.heap_setCell _ _ _ _ (by show _ ≠ w.heap.size + 1 + 1; omega),?_,(below_drewN h2 nq).setCell (by show w.heap.size <= w.heap.size + 1 + 1; omega) _,?_,?_,?_⟩
 · have h1' : qm w (W.drewN nq) p N (fun _ => False) q s (w.heap.size + 5) := h1.keep hZ0 nlq (qaV _ _ nq) fun _ _ _ => rfl
   exact h1'.keep hZ0 (by simp) (qg _ _ _ (fun e => e)) fun b hb hz => Below.heap_setCell _ _ _ _ (by show b ≠ w.heap.size + 1 + 1; omega)
 · exact (Below.heap_setCell _ _ _ _ (by show _ ≠ w.heap.size + 1 + 1; omega)).trans g0
 · exact (Below.heap_setCell _ _ _ _ (by show _ ≠ w.heap.size + 1 + 1; omega)).trans g1
 · have := setCell_at (W.drewN nq) ⟨w.heap.size + 1 + 1,0,none⟩ (.int .i64 v) _ _ _ rfl g2
   rw [he]
   rw [show ((1 + (ackd N cc pre + 1) : Nat) : Int) = v by omega]
   exact this
theorem qb3 {w W W0 : World} {nq : Nat} {p : Nat} {N : Node} {q : Ptrs} {s : Nat} {cc : Int} {pre : List Nat} {x : Nat} {a : Act} (h1 : qm w W p N (fun _ => False) q s (w.heap.size + 5)) (hZ0 : ∀ b,False -> b < w.heap.size) (h2 : Below w.heap.size w W)
 (h3 : W.heap[w.heap.size]? = some (.cells #[ptrV p] 32) /\ W.heap[w.heap.size + 1]? = some (.cells #[.int .i64 cc] 2) /\ W.heap[w.heap.size + 1 + 1]? = some (.cells #[.int .i64 ((1 + ackd N cc pre : Nat) : Int)] 3) /\ W0.heap.size = w.heap.size + 3 /\ W0.heap.size + 1 < W.heap.size) (he : ackd N cc (pre ++ [x]) = ackd N cc pre) :
 roundEnd W0.heap.size (Counting w · p N q s cc (pre ++ [x])) W .normal a (W.drewN nq) := by
 obtain ⟨g0,g1,g2,g3,g4⟩ := h3
 exact ⟨rfl,rfl,h1.keep hZ0 nlq (qaV _ _ nq) fun _ _ _ => rfl,below_drewN h2 nq,g0,g1,by rw [he]; exact g2⟩
theorem qbC {w : World} {p : Nat} {N : Node} {Z : Nat -> Prop} {q : Ptrs} {s : Nat} {xs : List MLay} {K : Nat -> Prop} (h : RfAt w p N Z q s xs K) (hn : N.n <= 3 /\ N.id < 3) (cc : Int) :
 Calls Try.prog 47 #[ptrV p, .int .i64 cc] w fun e w' => e = .returned (.bool (N.known cc)) /\ Below w.heap.size w w' := by
 have hp := h.lt
 have hb2 : Below w.heap.size w (((w.alloc (.cells #[ptrV p] 32)).alloc (.cells #[.int .i64 cc] 2)).alloc (.cells #[.int .i64 1] 3)) := ((blq.alloc nlq _).alloc (by simp) _).alloc (by simp; omega) _
 have hs2 : (((w.alloc (.cells #[ptrV p] 32)).alloc (.cells #[.int .i64 cc] 2)).alloc (.cells #[.int .i64 1] 3)).heap.size = w.heap.size + 3 := by simp
 have b0 : (((w.alloc (.cells #[ptrV p] 32)).alloc (.cells #[.int .i64 cc] 2)).alloc (.cells #[.int .i64 1] 3)).heap[w.heap.size]? = some (.cells #[ptrV p] 32) := (Below.heap_alloc _ _ _ (by simp; omega)).trans ((Below.heap_alloc _ _ _ (by simp)).trans (heap_alloc_new _ _))
 have b1 : (((w.alloc (.cells #[ptrV p] 32)).alloc (.cells #[.int .i64 cc] 2)).alloc (.cells #[.int .i64 1] 3)).heap[w.heap.size + 1]? = some (.cells #[.int .i64 cc] 2) := (Below.heap_alloc _ _ _ (by simp)).trans (heap_alloc2_new _ _ _)
 have b2 : (((w.alloc (.cells #[ptrV p] 32)).alloc (.cells #[.int .i64 cc] 2)).alloc (.cells #[.int .i64 1] 3)).heap[w.heap.size + 1 + 1]? = some (.cells #[.int .i64 1] 3) := by
  have := heap_alloc_new ((w.alloc (.cells #[ptrV p] 32)).alloc (.cells #[.int .i64 cc] 2)) (.cells #[.int .i64 1] 3)
  simpa using this
 have hZ0 : ∀ b,False -> b < w.heap.size := fun _ e => e.elim
 have h' : RfAt w p N (fun _ => False) q s xs K := h.less fun _ e => e.elim
 have H := Lib.hid h'
 have HK := Lib.hid (show N.known cc = wonB ((1 + ackd N cc (oth N.id N.n) : Nat) : Int) (N.n : Int) by rw [qcu]; rfl)
 have holen : (oth N.id N.n).length <= 3 := by
  unfold oth
  exact Nat.le_trans (List.length_filter_le _ _) (by simp; omega)
 rw [HK.out]
 clear h h'
 refine (callsIn_wide (n := 9)).1 ?_
 refine callsIn_of_wp_marks Try.func47 rfl trivial ?_ rfl
 simp only [Try.ntmps47,List.size_toArray,List.length_cons,List.length_nil,Nat.reduceAdd,Nat.reduceSub,Array.replicate_succ,Array.replicate_zero,List.push_toArray,List.append_toArray,List.nil_append,List.cons_append]
 gi_wp2
 generalize ((w.alloc (.cells #[ptrV p] 32)).alloc (.cells #[.int .i64 cc] 2)).alloc (.cells #[.int .i64 1] 3) = W0 at *
 have hr0 : qm w W0 p N (fun _ => False) q s (w.heap.size + 5) := ⟨q,xs,K,H.out.more (fun b hb => hb.1) hb2,rfl,qe hb2 nlq,by omega⟩
 refine qZ (id := N.id) (n := N.n) (p := p) rfl hn.1 rfl (by omega) ?_
  (fun pre W => Counting w W p N q s cc pre) ?_ ?_ ?_
  (fun x => { tmps := #[ptrV p, .int .i64 cc, .pointer (some ⟨w.heap.size,0,none⟩), .pointer (some ⟨w.heap.size + 1,0,none⟩), .bool false, .pointer (some ⟨w.heap.size + 1 + 1,0,none⟩), .int .i64 (x : Int),ptrV p, .func (.func 37) #[ptrV p] #[], .int .i64 (x : Int),undef,undef,undef,undef,undef,undef,undef,undef,undef,undef,undef,undef,undef,undef,undef,undef,undef],defers := [] }) ?assign ?body ?done
 · obtain ⟨q',xs',K',h3,_⟩ := hr0
   exact h3.c1
 · rintro pre W ⟨h1,_⟩
   exact h1.c0
 · intro r
   refine ⟨(hr0.alloc hZ0 _).alloc hZ0 _,(hb2.alloc hb2.size _).alloc (by simp; omega) _,?_,?_,?_⟩
   · exact (Below.heap_alloc _ _ _ (by simp; omega)).trans ((Below.heap_alloc _ _ _ (by omega)).trans b0)
   · exact (Below.heap_alloc _ _ _ (by simp; omega)).trans ((Below.heap_alloc _ _ _ (by omega)).trans b1)
   · exact (Below.heap_alloc _ _ _ (by simp; omega)).trans ((Below.heap_alloc _ _ _ (by omega)).trans b2)
 · rintro pre W r r' ⟨h1,h2,h3,h4,h5⟩ hr
   refine ⟨h1.turn hZ0 _ (by omega) (by omega) _,?_,?_,?_,?_⟩
   · exact h2.grown (grownBy_putObj' _ _ _) h2.size (fun k e => by cases e; omega)
   · exact (World.putObj_heap_other (by omega)).trans h3
   · exact (World.putObj_heap_other (by omega)).trans h4
   · exact (World.putObj_heap_other (by omega)).trans h5
 case assign =>
  intro l x W K hK
  gi_wp2
  exact hK
 case body =>
  rintro l pre x W hxn hxi hpre ⟨h1,h2,h3,h4,h5⟩ hsW hlW hdW
  have hlen := hpre.length_le
  rw [List.length_append] at hlen
  simp only [List.length_cons,List.length_nil] at hlen
  have hal := qct N cc pre
  have R := Lib.hid h1
  have R2 := Lib.hid h2
  have R3 := Lib.hid (And.intro h3 (And.intro h4 (And.intro h5 (And.intro hs2 hsW))))
  obtain ⟨q',xs',K',g,_⟩ := h1
  obtain ⟨c18,c21,c24⟩ := g.acs
  have c0 : W.cell? ⟨w.heap.size,0,none⟩ = some (ptrV p) := qa h3 0 _ rfl
  have c1 : W.cell? ⟨w.heap.size + 1,0,none⟩ = some (.int .i64 cc) := qa h4 0 _ rfl
  have c2 : W.cell? ⟨w.heap.size + 1 + 1,0,none⟩ = some (.int .i64 ((1 + ackd N cc pre : Nat) : Int)) := qa h5 0 _ rfl
  have f2 := qb h5 0
  have hmx : Try.prog.follows .mixedOrders = true := by kernel_rfl
  have hx3 : x < 3 := by omega
  clear h2 h3 h4 h5 g hs2 hr0 b0 b1 b2 hb2 HK
  obtain rfl | rfl | rfl : x = 0 \/ x = 1 \/ x = 2 := by omega
  · by_cases hac : cc <= N.ac 0
    · have ey := qa4 (l := pre) hac
      have hd : decide (cc <= N.ac 0) = true := decide_eq_true hac
      have HE := Lib.hid ey
      clear ey
      gi_wp2
      refine qn (by kernel_rfl) (fun h => (by obtain ⟨_,_,h⟩ := h; exact h)) (by kernel_rfl) (by kernel_rfl) ?_
      repeat (go_big_quiet_step (fail))
      refine wpQuiet_nil ?_
      intro _ hw'
      obtain ⟨nq,hw''⟩ := hw'
      subst hw''
      gi_wp2
      exact qbi R.out hZ0 R2.out R3.out HE.out (by omega)
    · have ey := qbh (l := pre) hac
      have hd : decide (cc <= N.ac 0) = false := decide_eq_false hac
      have hf : (cc <= N.ac 0) = False := eq_false hac
      have HE := Lib.hid ey
      clear ey
      gi_wp2
      refine qn (by kernel_rfl) (fun h => (by obtain ⟨_,_,h⟩ := h; exact h)) (by kernel_rfl) (by kernel_rfl) ?_
      repeat (go_big_quiet_step (fail))
      refine wpQuiet_nil ?_
      intro _ hw'
      obtain ⟨nq,hw''⟩ := hw'
      subst hw''
      gi_wp2
      exact qb3 R.out hZ0 R2.out R3.out HE.out
  · by_cases hac : cc <= N.ac 1
    · have ey := qa4 (l := pre) hac
      have hd : decide (cc <= N.ac 1) = true := decide_eq_true hac
      have HE := Lib.hid ey
      clear ey
      gi_wp2
      refine qn (by kernel_rfl) (fun h => (by obtain ⟨_,_,h⟩ := h; exact h)) (by kernel_rfl) (by kernel_rfl) ?_
      repeat (go_big_quiet_step (fail))
      refine wpQuiet_nil ?_
      intro _ hw'
      obtain ⟨nq,hw''⟩ := hw'
      subst hw''
      gi_wp2
      exact qbi R.out hZ0 R2.out R3.out HE.out (by omega)
    · have ey := qbh (l := pre) hac
      have hd : decide (cc <= N.ac 1) = false := decide_eq_false hac
      have hf : (cc <= N.ac 1) = False := eq_false hac
      have HE := Lib.hid ey
      clear ey
      gi_wp2
      refine qn (by kernel_rfl) (fun h => (by obtain ⟨_,_,h⟩ := h; exact h)) (by kernel_rfl) (by kernel_rfl) ?_
      repeat (go_big_quiet_step (fail))
      refine wpQuiet_nil ?_
      intro _ hw'
      obtain ⟨nq,hw''⟩ := hw'
      subst hw''
      gi_wp2
      exact qb3 R.out hZ0 R2.out R3.out HE.out
  · by_cases hac : cc <= N.ac 2
    · have ey := qa4 (l := pre) hac
      have hd : decide (cc <= N.ac 2) = true := decide_eq_true hac
      have HE := Lib.hid ey
      clear ey
      gi_wp2
      refine qn (by kernel_rfl) (fun h => (by obtain ⟨_,_,h⟩ := h; exact h)) (by kernel_rfl) (by kernel_rfl) ?_
      repeat (go_big_quiet_step (fail))
      refine wpQuiet_nil ?_
      intro _ hw'
      obtain ⟨nq,hw''⟩ := hw'
      subst hw''
      gi_wp2
      exact qbi R.out hZ0 R2.out R3.out HE.out (by omega)
    · have ey := qbh (l := pre) hac
      have hd : decide (cc <= N.ac 2) = false := decide_eq_false hac
      have hf : (cc <= N.ac 2) = False := eq_false hac
      have HE := Lib.hid ey
      clear ey
      gi_wp2
      refine qn (by kernel_rfl) (fun h => (by obtain ⟨_,_,h⟩ := h; exact h)) (by kernel_rfl) (by kernel_rfl) ?_
      repeat (go_big_quiet_step (fail))
      refine wpQuiet_nil ?_
      intro _ hw'
      obtain ⟨nq,hw''⟩ := hw'
      subst hw''
      gi_wp2
      exact qb3 R.out hZ0 R2.out R3.out HE.out
 case done =>
  rintro W ⟨h1,h2,h3,h4,h5⟩ hd hsD
  rw [hs2] at hd ⊢
  have R2 := Lib.hid (show ∀ k,Below w.heap.size w ((W.drewN k).putObj (w.heap.size + 3) (.deferred none)) from fun k => (below_drewN h2 k).grown (grownBy_putObj' _ _ _) h2.size (fun k e => by cases e; omega))
  obtain ⟨q',xs',K',g,_⟩ := h1
  have c1 := g.c1
  have c0 : W.cell? ⟨w.heap.size,0,none⟩ = some (ptrV p) := qa h3 0 _ rfl
  have c2 : W.cell? ⟨w.heap.size + 1 + 1,0,none⟩ = some (.int .i64 ((1 + ackd N cc (oth N.id N.n) : Nat) : Int)) := qa h5 0 _ rfl
  have hal := qct N cc (oth N.id N.n)
  have hW := fun W => qdc ((1 + ackd N cc (oth N.id N.n) : Nat) : Int) (N.n : Int) (by omega) W
  have hcnt : ((1 + ackd N cc (oth N.id N.n) : Nat) : Int) <= 4 := by omega
  obtain ⟨cnt,hc⟩ : ∃ c,((1 + ackd N cc (oth N.id N.n) : Nat) : Int) = c := ⟨_,rfl⟩
  rw [hc] at c2 hW hcnt
  obtain ⟨res,hr⟩ : ∃ r,wonB cnt (N.n : Int) = r := ⟨_,rfl⟩
  rw [hr] at hW
  have HR := Lib.hid (show wonB ((1 + ackd N cc (oth N.id N.n) : Nat) : Int) (N.n : Int) = res by rw [hc]; exact hr)
  clear hc hr
  clear h2 h3 h4 h5 g hs2 hr0 b0 b1 b2 hb2 HK H hal
  gi_wp2
  refine wpIn_wide.2 ?_
  go_big_quiet ((go_at_call 50; exact Calls.quiet_of_same ((hW _).mono fun e w' ⟨h1,h2⟩ => ⟨h1,h2.symm⟩)))
  gi_wp2
  refine ⟨by simp, .inl ⟨_,_,rfl,run_takeDeferred (w := W.drewN nq) hd,?_⟩⟩
  exact ⟨_,results_tmp rfl _ _ _,by rw [HR.out]; rfl,R2.out nq⟩
end Go.Proofs.Ytmiijlecfiddmaa
set_option linter.unusedVariables false
set_option linter.unusedSimpArgs false
set_option maxRecDepth 100000
set_option maxHeartbeats 1600000
namespace Go.Proofs.Ytmiijlecfiddmaa
open Go.RowKit Go.Shelf
attribute [local go_sem] Oper.semAt_some
def saidK (N : Node) (v : Int) (k : Nat) : Nat := ((List.range k).filter fun j => decide (N.sy j = v)).length
theorem qb4 (N : Node) (v : Int) (k : Nat) : saidK N v k <= k := Nat.le_trans (List.length_filter_le _ _) (by simp)
theorem qdh {N : Node} {v : Int} {k : Nat} (h : N.sy k = v) : saidK N v (k + 1) = saidK N v k + 1 := by
 simp [saidK,List.range_succ,h]
theorem qdH {N : Node} {v : Int} {k : Nat} (h : N.sy k ≠ v) : saidK N v (k + 1) = saidK N v k := by
 simp [saidK,List.range_succ,h]
theorem qdi (p off k : Nat) (hk : k <= 3) (W : World) : (Instr.sliceAt 63 (.pointer (some ⟨p,off,none⟩)) none (some (.int .i64 (k : Int))) none).run Try.prog W = .ok (.slice (some ⟨p,off,none⟩) k 3) W := by
 have hl : Try.prog.arrayLen 63 = 3 := by kernel_rfl
 rw [run_sliceAt_array_h W 63 _ (by kernel_rfl) .i64 _ (by omega) (by rw [hl]; omega),hl]
 rw [show Try.prog.elem 63 = 62 by kernel_rfl]
 obtain ⟨i,hi,hs⟩ := Option.map_eq_some_iff.1 (show (Try.prog.info? 62).map (fun i => i.size) = some 1 by kernel_rfl)
 simp [Go.sizeOf,typeInfo,hi,Result.andThen,slicedAt,Addr.add]
def qar (w : World) (v : Value) (e : Ending) (w' : World) : Prop := e = .returned v /\ ∃ k,w' = w.drewN k
theorem qar.at {w w' : World} {k : Nat} {v : Value} {e : Ending} (h : qar (w.drewN k) v e w') : e = .returned v /\ ∃ n,w' = w.drewN n := by
 obtain ⟨h1,m,h2⟩ := h
 exact ⟨h1,_,by rw [h2,World.drewN_drewN]⟩
theorem qdj {w : World} {p : Nat} {N : Node} {Z : Nat -> Prop} {q : Ptrs} {s : Nat} {xs : List MLay} {K : Nat -> Prop} (h : RfAt w p N Z q s xs K) (hn : N.n <= 3) (v : Int) :
 Calls Try.prog 51 #[ptrV p, .int .i64 v] w (qar w (.int .i64 (N.yes v))) := by
 have c1 := h.c1
 have c13 := h.c13
 have c14 := h.c14
 have c15 := h.c15
 have hp := h.lt
 have hcut := fun W => qdi p 13 N.n hn W
 have hcs : ∀ W : World,(∃ j,W = w.drewN j) -> ∀ k,k < 3 -> W.cell? ⟨p,13 + k,none⟩ = some (.int .i64 (N.sy k)) := by
  rintro W ⟨j,rfl⟩ k hk
  obtain rfl | rfl | rfl : k = 0 \/ k = 1 \/ k = 2 := by omega
  · exact c13
  · exact c14
  · exact c15
 have HY := Lib.hid (show saidK N v N.n = N.yes v from rfl)
 have hle := qb4 N v N.n
 clear h c13 c14 c15
 go_enter Try.func51,Try.ntmps51
 go_wp2
 go_quiet (fail)
 go_wp2
 go_loopw [5,17] (fun m i wr => ∃ k : Nat,k <= N.n /\ i = .int .i64 (k : Int) /\ m = .int .i64 (saidK N v k : Int) /\ ∃ j,wr = w.drewN j) (fun _ i _ => N.n - (intOf i).toNat)
 case atStart => exact ⟨0,Nat.zero_le _,rfl,rfl,_,rfl⟩
 case round =>
  obtain ⟨k,hk,rfl,rfl,hwr⟩ := hrel
  have hlk := qb4 N v k
  by_cases hlt : k < N.n
  · have hc := hcs _ hwr k (by omega)
    have HW := Lib.hid hwr
    clear hwr hcs
    by_cases hv : N.sy k = v
    · have HS := Lib.hid (qdh hv)
      have q1 : (N.sy k == v) = true := beq_iff_eq.2 hv
      clear hv
      go_wp2
      go_roundw
      case rel => exact ⟨k + 1,by omega,by go_num,by rw [HS.out]; go_num,HW.out⟩
      case measure => simp [intOf]; omega
    · have HS := Lib.hid (qdH hv)
      have q1 : (N.sy k == v) = false := beq_eq_false_iff_ne.2 hv
      have q2 : (N.sy k = v) = False := eq_false hv
      clear hv
      go_wp2
      go_roundw
      case rel => exact ⟨k + 1,by omega,by go_num,by rw [HS.out],HW.out⟩
      case measure => simp [intOf]; omega
  · obtain rfl : k = N.n := by omega
    obtain ⟨j,rfl⟩ := hwr
    go_wp2
    go_ret
    exact ⟨by rw [<- HY.out]; rfl,_,rfl⟩
theorem qb5 {w : World} {p : Nat} {N : Node} {Z : Nat -> Prop} {q : Ptrs} {s : Nat} {xs : List MLay} {K : Nat -> Prop} (h : RfAt w p N Z q s xs K) (hn : N.n <= 3) :
 Calls Try.prog 40 #[ptrV p] w (qar w (.bool (Node.won (N.yes 1) N.n))) := by
 have c1 := h.c1
 have hS : ∀ k,Calls Try.prog 51 #[ptrV p, .int .i64 1] (w.drewN k) (qar (w.drewN k) (.int .i64 (N.yes 1))) := fun k => qdj (h.below (below_drewN blq k)) hn 1
 have hW := fun W => qdc ((N.yes 1 : Nat) : Int) (N.n : Int) (by omega) W
 rw [qcu] at hW
 generalize Node.won (N.yes 1) N.n = b at *
 generalize ((N.yes 1 : Nat) : Int) = y at *
 clear h
 go_enter Try.func40,Try.ntmps40
 go_wp2
 go_big_quiet (first
  | (go_at_call 51
     exact (hS _).mono fun _ _ h => h.at)
  | (go_at_call 50
     exact Calls.quiet_of_same ((hW _).mono fun e w' ⟨h1,h2⟩ => ⟨h1,h2.symm⟩)))
 go_wp2
 go_ret
 exact ⟨rfl,_,rfl⟩
theorem qb6 {w : World} {p : Nat} {N : Node} {Z : Nat -> Prop} {q : Ptrs} {s : Nat} {xs : List MLay} {K : Nat -> Prop} (h : RfAt w p N Z q s xs K) (hl : N.lg.l.length <= 1000000) :
 Calls Try.prog 20 #[ptrV p] w fun e w' => e = .returned (.bool (decide (N.ht < 1099511627776) && decide (N.lg.lastI < 1099511627776))) /\ Below w.heap.size w w' := by
 have c2 := h.c2
 have hL := qS h hl
 clear h
 by_cases h1 : N.ht < 1099511627776
 · have e1 : decide (N.ht < 1099511627776) = true := decide_eq_true h1
   go_enter Try.func20,Try.ntmps20
   go_wp2_with fail
   refine hL.mono ?_
   rintro e w' ⟨rfl,hb⟩
   go_wp2
   go_ret
   exact ⟨by rw [e1]; rfl,hb⟩
 · have e1 : decide (N.ht < 1099511627776) = false := decide_eq_false h1
   go_enter Try.func20,Try.ntmps20
   go_wp2
   go_ret
   exact ⟨rfl,blq⟩
structure OnP (p : Nat) (C : Array Value) (w w' : World) : Prop where
 row : w'.heap[p]? = some (.cells C 68)
 size : w'.heap.size = w.heap.size
 off : ∀ b,b ≠ p -> w'.heap[b]? = w.heap[b]?
 os : w'.os = w.os
 tape : w'.tape = w.tape
 output : w'.output = w.output
theorem RfAt.on {w : World} {p : Nat} {N : Node} {Z : Nat -> Prop} {q : Ptrs} {s : Nat} {xs : List MLay} {K : Nat -> Prop} (h : RfAt w p N Z q s xs K) : OnP p (rfC N q) w w := ⟨h.row,rfl,fun _ _ => rfl,rfl,rfl,rfl⟩
theorem OnP.put {p : Nat} {C C' : Array Value} {w w' : World} (h : OnP p C w w') (j : Nat) (v : Value) (e : C.setIfInBounds j v = C') : OnP p C' w (w'.setCell ⟨p,j,none⟩ v) :=
 ⟨by rw [<- e]; exact setCell_at w' ⟨p,j,none⟩ v _ _ _ rfl h.row,by simp [h.size],fun b hb => (Below.heap_setCell _ _ _ _ (by exact hb)).trans (h.off b hb),h.os,h.tape,h.output⟩
theorem OnP.drew {p : Nat} {C : Array Value} {w w' : World} (h : OnP p C w w') : OnP p C w w'.drew := ⟨h.row,h.size,h.off,h.os,h.tape,h.output⟩
theorem OnP.keeps {p : Nat} {C : Array Value} {w w' : World} (h : OnP p C w w') {Z : Nat -> Prop} (hZ : ¬ Z p) : qf Z w w' :=
 ⟨h.os,h.tape,h.output,Nat.le_of_eq h.size.symm,fun b _ hb => h.off b fun e => hZ (e ▸ hb)⟩
theorem qbc {w : World} {p : Nat} {N : Node} {Z : Nat -> Prop} {q : Ptrs} {s : Nat} {xs : List MLay} {K : Nat -> Prop} (h : RfAt w p N Z q s xs K) (hn : N.n <= 3) (hi : N.id < 3) (role : Int) :
 Calls Try.prog 39 #[ptrV p, .int .i64 role] w fun e w' => e = .returned (.tuple #[]) /\ RfAt w' p { N with ro := role,ld := -1,wk := 0,sy := Node.put Node.zeroF N.id 1 } Z q s xs K /\ qf Z w w' := by
 have hO := h.on
 have c10 := h.c10
 have c11 := h.c11
 have c12 := h.c12
 have c13 := h.c13
 have c14 := h.c14
 have c15 := h.c15
 have f10 := h.fz 10
 have f11 := h.fz 11
 have f12 := h.fz 12
 have f13 := h.fz 13
 have f14 := h.fz 14
 have f15 := h.fz 15
 have hp := h.lt
 have H := Lib.hid h
 have HO := Lib.hid hO
 clear h hO
 go_enter Try.func39,Try.ntmps39
 go_wp2
 have hO : OnP p (rfC { N with ro := role,ld := -1,wk := 0,sy := Node.zeroF } q) w ((((((w.setCell ⟨p,10,none⟩ (.int .i64 role)).setCell ⟨p,11,none⟩ (.int .i64 (-1))).setCell ⟨p,12,none⟩ (.int .i64 0)).setCell ⟨p,13,none⟩ (.int .i64 0)).setCell ⟨p,14,none⟩ (.int .i64 0)).setCell ⟨p,15,none⟩ (.int .i64 0)) :=
  (((((HO.out.put 10 _ rfl).put 11 _ rfl).put 12 _ rfl).put 13 _ rfl).put 14 _ rfl).put 15 _ rfl
 clear c10 c11 c12 c13 c14 c15 f10 f11 f12 f13 f14 f15 HO
 generalize ((((((w.setCell ⟨p,10,none⟩ (.int .i64 role)).setCell ⟨p,11,none⟩ (.int .i64 (-1))).setCell ⟨p,12,none⟩ (.int .i64 0)).setCell ⟨p,13,none⟩ (.int .i64 0)).setCell ⟨p,14,none⟩ (.int .i64 0)).setCell ⟨p,15,none⟩ (.int .i64 0)) = W1 at *
 have c0 : W1.cell? ⟨p,0,none⟩ = some (.int .i64 (N.id : Int)) := qa hO.row 0 _ rfl
 have HO := Lib.hid hO
 obtain hid | hid | hid : N.id = 0 \/ N.id = 1 \/ N.id = 2 := by omega
 · rw [hid] at c0
   have c13 : W1.cell? ⟨p,13,none⟩ = some (.int .i64 0) := qa hO.row 13 _ rfl
   have f13 : W1.frozen? ⟨p,13,none⟩ = false := qb hO.row 13
   have HI := Lib.hid hid
   clear hid hO
   go_region
   go_wp2
   refine bodyPost_end (results_none rfl _ _ _) rfl ?_
   have h1 := (HO.out.put 13 (.int .i64 1) rfl).drew
   refine ⟨rfl,H.out.turn (Nat.le_of_eq h1.size.symm) (fun b _ hb => h1.off b hb) (h1.row.trans ?_) rfl rfl rfl rfl rfl,h1.keeps H.out.away⟩
   rw [HI.out]
   rfl
 · rw [hid] at c0
   have c14 : W1.cell? ⟨p,14,none⟩ = some (.int .i64 0) := qa hO.row 14 _ rfl
   have f14 : W1.frozen? ⟨p,14,none⟩ = false := qb hO.row 14
   have HI := Lib.hid hid
   clear hid hO
   go_region
   go_wp2
   refine bodyPost_end (results_none rfl _ _ _) rfl ?_
   have h1 := (HO.out.put 14 (.int .i64 1) rfl).drew
   refine ⟨rfl,H.out.turn (Nat.le_of_eq h1.size.symm) (fun b _ hb => h1.off b hb) (h1.row.trans ?_) rfl rfl rfl rfl rfl,h1.keeps H.out.away⟩
   rw [HI.out]
   rfl
 · rw [hid] at c0
   have c15 : W1.cell? ⟨p,15,none⟩ = some (.int .i64 0) := qa hO.row 15 _ rfl
   have f15 : W1.frozen? ⟨p,15,none⟩ = false := qb hO.row 15
   have HI := Lib.hid hid
   clear hid hO
   go_region
   go_wp2
   refine bodyPost_end (results_none rfl _ _ _) rfl ?_
   have h1 := (HO.out.put 15 (.int .i64 1) rfl).drew
   refine ⟨rfl,H.out.turn (Nat.le_of_eq h1.size.symm) (fun b _ hb => h1.off b hb) (h1.row.trans ?_) rfl rfl rfl rfl rfl,h1.keeps H.out.away⟩
   rw [HI.out]
   rfl
end Go.Proofs.Ytmiijlecfiddmaa
