/- The program's node leads. -/
import Derived.Test.YtmiijlecfiddmaaNNM16
import Derived.Test.YtmiijlecfiddmaaNNM17
set_option linter.unusedVariables false
set_option linter.unusedSimpArgs false
set_option maxRecDepth 100000
set_option maxHeartbeats 3200000
namespace Go.Proofs.Ytmiijlecfiddmaa
open Go.RowKit Go.Shelf
attribute [local go_sem] Oper.semAt_some
def nexts (f : Nat -> Int) (v : Int) (pre : List Nat) : Nat -> Int := pre.foldl (fun g k => Node.put g k v) f
theorem qb2 (v : Int) (pre : List Nat) : ∀ (f : Nat -> Int) (k : Nat),nexts f v pre k = if k ∈ pre then v else f k := by
 induction pre with
 | nil => intro f k; simp [nexts]
 | cons j pre ih =>
   intro f k
   show nexts (Node.put f j v) v pre k = _
   rw [ih]
   by_cases h1 : k ∈ pre
   · rw [if_pos h1,if_pos (List.mem_cons_of_mem _ h1)]
   · rw [if_neg h1]
     by_cases h2 : k = j
     · rw [if_pos (by rw [h2]; exact List.mem_cons_self ..)]
       simp [Node.put,h2]
     · rw [if_neg (by rw [List.mem_cons]; exact fun e => e.elim h2 h1)]
       simp [Node.put,h2]
theorem qcM (f : Nat -> Int) (v : Int) (pre : List Nat) (x : Nat) : nexts f v (pre ++ [x]) = Node.put (nexts f v pre) x v := by
 simp [nexts]
def qo (N : Node) (pre : List Nat) : Node := { N with ro := 3,ld := N.id,wk := 0,nx := nexts N.nx (N.lg.lastI + 1) pre }
theorem qcN {N : Node} (h : N.cx = 0 /\ N.rd = [] /\ N.nx = Node.zeroF /\ N.ma = Node.zeroF /\ N.ac = Node.zeroF) :
 N.rise = ({ qo N (oth N.id N.n) with lg := N.grown [] } : Node).settle.1.sendAll := by
 obtain ⟨h1,h2,h3,h4,h5⟩ := h
 have e : nexts N.nx (N.lg.lastI + 1) (oth N.id N.n) = fun k => if k < N.n /\ k ≠ N.id then N.lg.lastI + 1 else 0 := by
  funext k
  rw [qb2,h3]
  have hm : k ∈ oth N.id N.n ↔ k < N.n /\ k ≠ N.id := by simp [oth]
  by_cases hk : k < N.n /\ k ≠ N.id
  · rw [if_pos hk,if_pos (hm.2 hk)]
  · rw [if_neg hk,if_neg fun e => hk (hm.1 e)]; rfl
 unfold Node.rise qo
 rw [e]
 obtain ⟨id,n,ht,hv,sn,kp,lg,cm,ro,ld,wk,sy,nx,ma,ac,cx,rd,ms,td⟩ := N
 dsimp only at *
 subst h1 h2 h4 h5
 rfl
theorem qbs (N : Node) : ∃ c,N.settle.1 = { N with cm := c } := by
 unfold Node.settle
 dsimp only
 split
 · exact ⟨N.cm,rfl⟩
 · exact ⟨_,rfl⟩
theorem RfAt.next {w : World} {p : Nat} {N : Node} {Z : Nat -> Prop} {q : Ptrs} {s : Nat} {xs : List MLay} {K : Nat -> Prop} (h : RfAt w p N Z q s xs K) (hm : N.ma = Node.zeroF) (ha : N.ac = Node.zeroF) (x : Nat) (hx : x < 3) (v : Int) :
 RfAt (((w.setCell ⟨p,16 + x * 3,none⟩ (.int .i64 v)).setCell ⟨p,16 + x * 3 + 1,none⟩ (.int .i64 0)).setCell ⟨p,16 + x * 3 + 2,none⟩ (.int .i64 0)) p { N with nx := Node.put N.nx x v } Z q s xs K ∧
  ∀ b,b ≠ p -> (((w.setCell ⟨p,16 + x * 3,none⟩ (.int .i64 v)).setCell ⟨p,16 + x * 3 + 1,none⟩ (.int .i64 0)).setCell ⟨p,16 + x * 3 + 2,none⟩ (.int .i64 0)).heap[b]? = w.heap[b]? := by
 have hoff : ∀ b,b ≠ p -> (((w.setCell ⟨p,16 + x * 3,none⟩ (.int .i64 v)).setCell ⟨p,16 + x * 3 + 1,none⟩ (.int .i64 0)).setCell ⟨p,16 + x * 3 + 2,none⟩ (.int .i64 0)).heap[b]? = w.heap[b]? := fun b hb =>
  (Below.heap_setCell _ _ _ _ (by exact hb)).trans ((Below.heap_setCell _ _ _ _ (by exact hb)).trans (Below.heap_setCell _ _ _ _ (by exact hb)))
 refine ⟨h.turn (by simp) (fun b _ hb => hoff b hb) ?_ rfl rfl rfl rfl rfl,hoff⟩
 have r1 := setCell_at w ⟨p,16 + x * 3,none⟩ (.int .i64 v) _ _ _ rfl h.row
 have r2 := setCell_at _ ⟨p,16 + x * 3 + 1,none⟩ (.int .i64 0) _ _ _ rfl r1
 have r3 := setCell_at _ ⟨p,16 + x * 3 + 2,none⟩ (.int .i64 0) _ _ _ rfl r2
 refine r3.trans ?_
 obtain ⟨id,n,ht,hv,sn,kp,lg,cm,ro,ld,wk,sy,nx,ma,ac,cx,rd,ms,td⟩ := N
 dsimp only at hm ha
 subst hm ha
 obtain rfl | rfl | rfl : x = 0 \/ x = 1 \/ x = 2 := by omega
 all_goals rfl
theorem qaA {w W W1 w3 : World} {p : Nat} {N : Node} {Z : Nat -> Prop} {q q' : Ptrs} {s : Nat} {xs' : List MLay} {K' : Nat -> Prop} {pre : List Nat} {LI L1 : Int} {a : Act}
 (h : RfAt W p (qo N pre) (fun b => Z b \/ (w.heap.size <= b /\ b < w.heap.size + 3)) q' s xs' K' /\ q'.l = q.l /\ qf Z w W /\ w.heap.size + 3 <= W.heap.size + 2 /\ W1.heap.size = w.heap.size + 1 /\ W1.heap.size + 1 < W.heap.size /\ W.heap[w.heap.size]? = some (.cells #[ptrV p] 32) /\ LI + 1 = L1)
 (hm : (qo N pre).ma = Node.zeroF /\ (qo N pre).ac = Node.zeroF) (h3 : RfAt w3 p (qo N pre) (fun b => Z b \/ (w.heap.size <= b /\ b < w.heap.size + 3)) q' s xs' K') (hb : Below W.heap.size W w3) (hpw : p ≠ w.heap.size) (hZp : ¬ Z p) (x : Nat) (hx : x < 3) (hLI : N.lg.lastI = LI) :
 roundEnd W1.heap.size ((fun pre W => qm w W p (qo N pre) Z q s (w.heap.size + 3) /\ W.heap[w.heap.size]? = some (.cells #[ptrV p] 32)) (pre ++ [x])) W .normal a (((w3.setCell ⟨p,16 + x * 3,none⟩ (.int .i64 L1)).setCell ⟨p,16 + x * 3 + 1,none⟩ (.int .i64 0)).setCell ⟨p,16 + x * 3 + 2,none⟩ (.int .i64 0)) := by
 obtain ⟨h1,h2,h4,h5,h6,h7,h8,h9⟩ := h
 obtain ⟨k1,k2⟩ := h3.next hm.1 hm.2 x hx L1
 have hpr : ¬ (w.heap.size <= p /\ p < w.heap.size + 3) := fun e => h3.away (.inr e)
 have hbs := hb.size
 refine ⟨(k2 _ (by omega)).trans (hb.block _ (by omega)),(k2 _ (by omega)).trans (hb.block _ (by omega)),⟨q',xs',K',?_,h2,?_,by simp; omega⟩,(k2 _ (by omega)).trans ((hb.block _ (hlt h8)).trans h8)⟩
 · have e : qo N (pre ++ [x]) = { qo N pre with nx := Node.put (qo N pre).nx x L1 } := by
    unfold qo
    rw [qcM,hLI,h9]
   rw [e]
   exact k1
 · exact (h4.trans (qe hb nlq)).trans (((qg _ ⟨p,_,none⟩ _ hZp).trans (qg _ ⟨p,_,none⟩ _ hZp)).trans (qg _ ⟨p,_,none⟩ _ hZp))
theorem qdg {w : World} {p : Nat} {N : Node} {Z : Nat -> Prop} {q : Ptrs} {s : Nat} {xs : List MLay} {K : Nat -> Prop} (h : RfAt w p N Z q s xs K) (hZ : ∀ b,Z b -> b < w.heap.size) (hms : N.ms.length < 999990) (hl : N.lg.l.length <= 400000) (hg : Good N.lg) (hn : N.n <= 3 /\ N.id < 3) (hsd : N.sn.d.length <= 50000)
 (hidle : N.cx = 0 /\ N.rd = [] /\ N.nx = Node.zeroF /\ N.ma = Node.zeroF /\ N.ac = Node.zeroF) (hadd : runB N.lg.lastI N.lg.lastT [⟨N.lg.lastI + 1,N.ht,[]⟩] = true) :
 Calls Try.prog 52 #[ptrV p] w fun e w' => e = .returned (.tuple #[]) /\ Turned w w' p N.rise Z q s := by
 have hp := h.lt
 have hZp := h.away
 have HI := Lib.hid hidle
 have HA := Lib.hid hadd
 clear hidle hadd
 have hb0 : Below w.heap.size w (w.alloc (.cells #[ptrV p] 32)) := blq.alloc nlq _
 have b0 := heap_alloc_new w (.cells #[ptrV p] 32)
 have hsz : (w.alloc (.cells #[ptrV p] 32)).heap.size = w.heap.size + 1 := by simp
 have h0 := h.more (Y := fun b => w.heap.size <= b /\ b < w.heap.size + 3) (fun b hb => hb.1) hb0
 have cb : (w.alloc (.cells #[ptrV p] 32)).cell? ⟨w.heap.size,0,none⟩ = some (ptrV p) := qa b0 0 _ rfl
 have hk0 : qf Z w (w.alloc (.cells #[ptrV p] 32)) := qe hb0 nlq
 refine (callsIn_wide (n := 9)).1 ?_
 refine callsIn_of_wp_marks Try.func52 rfl trivial (wpIn_mono ?_ qdW) rfl
 simp only [Try.ntmps52,List.size_toArray,List.length_cons,List.length_nil,Nat.reduceAdd,Nat.reduceSub,Array.replicate_succ,Array.replicate_zero,List.push_toArray,List.append_toArray,List.nil_append,List.cons_append]
 gi_wp2
 generalize w.alloc (.cells #[ptrV p] 32) = W0 at *
 have c0 := h0.c0
 have c10 := h0.c10
 have c11 := h0.c11
 have c12 := h0.c12
 have f10 := h0.fz 10
 have f11 := h0.fz 11
 have f12 := h0.fz 12
 have hpw : p ≠ w.heap.size := by omega
 have H0 := Lib.hid h0
 have HB := Lib.hid (And.intro b0 (And.intro hk0 hsz))
 clear h h0 hb0 b0 hk0 hsz
 refine wpIn_wide.2 ?_
 refine wp_region_held_drew (S := (fun w' => w'.cell? ⟨w.heap.size,0,none⟩ = some (ptrV p) /\ w'.cell? ⟨p,0,none⟩ = some (.int .i64 (N.id : Int)))) (by kernel_rfl) ⟨cb,c0⟩ (fun hHeld => ?_)
 change wpAnyH _ _ _ _ _ 16 #[false,false,false,false,false,false,false,false,false,false,false,false,false,false,false,false] _ _
 refine tkq 0 ⟨some 3, .load 32 (.tmp 1),32, "lead.go:54",#[],none⟩ ?_ ?_ ?_
 rotate_left
 · (intro w h; (try dsimp only at h); go_simp); (try with_reducible rfl)
 try simp only [lpq]
 refine tkq 1 ⟨some 4, .load 32 (.tmp 1),32, "lead.go:54",#[⟨9, .gcOnly .lateStores⟩],none⟩ ?_ ?_ ?_
 rotate_left
 · (intro w h; (try dsimp only at h); go_simp); (try with_reducible rfl)
 try simp only [lpq]
 refine tkq 2 ⟨some 5, .load 32 (.tmp 1),32, "lead.go:54",#[⟨12, .gcOnly .lateStores⟩],none⟩ ?_ ?_ ?_
 rotate_left
 · (intro w h; (try dsimp only at h); go_simp); (try with_reducible rfl)
 try simp only [lpq]
 refine tkq 3 ⟨some 6, .load 32 (.tmp 1),32, "lead.go:54",#[],none⟩ ?_ ?_ ?_
 rotate_left
 · (intro w h; (try dsimp only at h); go_simp); (try with_reducible rfl)
 try simp only [lpq]
 refine tkq 4 ⟨some 7, .nilCheck (.tmp 6),0, "lead.go:54",#[⟨3, .data⟩],none⟩ ?_ ?_ ?_
 rotate_left
 · (intro w h; (try dsimp only at h); go_simp); (try with_reducible rfl)
 try simp only [lpq]
 refine tkq 5 ⟨some 8, .fieldAddr 68 (.tmp 7) 0,0, "lead.go:54",#[⟨4, .data⟩],none⟩ ?_ ?_ ?_
 rotate_left
 · (intro w h; (try dsimp only at h); go_simp); (try with_reducible rfl)
 try simp only [lpq]
 refine tkq 6 ⟨some 9, .load 3 (.tmp 8),3, "lead.go:54",#[⟨5, .data⟩],none⟩ ?_ ?_ ?_
 rotate_left
 · (intro w h; (try dsimp only at h); go_simp); (try with_reducible rfl)
 try simp only [lpq]
 refine tkq 7 ⟨some 10, .nilCheck (.tmp 3),0, "lead.go:54",#[⟨0, .data⟩,⟨0, .phase⟩,⟨1, .textOnly .lateStores⟩,⟨2, .textOnly .lateStores⟩,⟨3, .textOnly .lateStores⟩,⟨4, .textOnly .lateStoresUnsure⟩,⟨5, .textOnly .lateStoresUnsure⟩,⟨6, .phase⟩],none⟩ ?_ ?_ ?_
 rotate_left
 · (intro w h; (try dsimp only at h); go_simp); (try with_reducible rfl)
 try simp only [lpq]
 refine tkq 8 ⟨some 11, .fieldAddr 68 (.tmp 10) 7,0, "lead.go:54",#[⟨7, .data⟩,⟨0, .phase⟩,⟨1, .textOnly .lateStores⟩,⟨2, .textOnly .lateStores⟩,⟨3, .textOnly .lateStores⟩,⟨4, .textOnly .lateStoresUnsure⟩,⟨5, .textOnly .lateStoresUnsure⟩,⟨6, .phase⟩],none⟩ ?_ ?_ ?_
 rotate_left
 · (intro w h; (try dsimp only at h); go_simp); (try with_reducible rfl)
 try simp only [lpq]
 refine wpAnyH_ready (rs := [9]) (by kernel_rfl) (by simp) ?_
 refine AllReadyH.cons (o := ⟨none, .store 3 (.tmp 11) (.const (.int .i64 3)),0, "lead.go:54",#[⟨8, .data⟩,⟨0, .phase⟩,⟨1, .textOnly .lateStores⟩,⟨2, .textOnly .lateStores⟩,⟨3, .textOnly .lateStores⟩,⟨4, .textOnly .lateStoresUnsure⟩,⟨5, .textOnly .lateStoresUnsure⟩,⟨6, .phase⟩],none⟩) rfl (fun KK hK => ?_) AllReadyH.nil
 go_simp
 refine hK.out _ _ ⟨(World.cell?_setCell_far _ _ _ _ (by exact hpw)).trans hHeld.1,(World.cell?_setCell_other _ _ _ _ (by simp)).trans hHeld.2⟩ (fun hHeld2 => ?_)
 clear hK KK hHeld
 have hHeld := hHeld2
 clear hHeld2
 try simp only [lpq]
 refine tkq 10 ⟨some 12, .nilCheck (.tmp 4),0, "lead.go:54",#[⟨1, .data⟩,⟨0, .phase⟩,⟨1, .phase⟩,⟨2, .textOnly .lateStores⟩,⟨3, .phase⟩,⟨4, .phase⟩,⟨5, .phase⟩,⟨6, .phase⟩,⟨7, .phase⟩,⟨8, .phase⟩,⟨9, .phase⟩],none⟩ ?_ ?_ ?_
 rotate_left
 · (intro w h; (try dsimp only at h); go_simp); (try with_reducible rfl)
 try simp only [lpq]
 refine tkq 11 ⟨some 13, .fieldAddr 68 (.tmp 12) 8,0, "lead.go:54",#[⟨10, .data⟩,⟨0, .phase⟩,⟨1, .phase⟩,⟨2, .textOnly .lateStores⟩,⟨3, .phase⟩,⟨4, .phase⟩,⟨5, .phase⟩,⟨6, .phase⟩,⟨7, .phase⟩,⟨8, .phase⟩,⟨9, .phase⟩],none⟩ ?_ ?_ ?_
 rotate_left
 · (intro w h; (try dsimp only at h); go_simp); (try with_reducible rfl)
 try simp only [lpq]
 refine wpAnyH_ready (rs := [12]) (by kernel_rfl) (by simp) ?_
 refine AllReadyH.cons (o := ⟨none, .store 3 (.tmp 13) (.tmp 9),0, "lead.go:54",#[⟨11, .data⟩,⟨6, .data⟩,⟨9, .chain⟩,⟨0, .phase⟩,⟨1, .phase⟩,⟨2, .textOnly .lateStores⟩,⟨3, .phase⟩,⟨4, .phase⟩,⟨5, .phase⟩,⟨6, .phase⟩,⟨7, .phase⟩,⟨8, .phase⟩,⟨9, .phase⟩],none⟩) rfl (fun KK hK => ?_) AllReadyH.nil
 go_simp
 refine hK.out _ _ ⟨(World.cell?_setCell_far _ _ _ _ (by exact hpw)).trans hHeld.1,(World.cell?_setCell_other _ _ _ _ (by simp)).trans hHeld.2⟩ (fun hHeld2 => ?_)
 clear hK KK hHeld
 have hHeld := hHeld2
 clear hHeld2
 try simp only [lpq]
 refine tkq 13 ⟨some 14, .nilCheck (.tmp 5),0, "lead.go:54",#[⟨2, .data⟩,⟨0, .phase⟩,⟨1, .phase⟩,⟨2, .phase⟩,⟨3, .phase⟩,⟨4, .phase⟩,⟨5, .phase⟩,⟨6, .phase⟩,⟨7, .phase⟩,⟨8, .phase⟩,⟨9, .phase⟩,⟨10, .phase⟩,⟨11, .phase⟩,⟨12, .phase⟩],none⟩ ?_ ?_ ?_
 rotate_left
 · (intro w h; (try dsimp only at h); go_simp); (try with_reducible rfl)
 try simp only [lpq]
 refine tkq 14 ⟨some 15, .fieldAddr 68 (.tmp 14) 9,0, "lead.go:54",#[⟨13, .data⟩,⟨0, .phase⟩,⟨1, .phase⟩,⟨2, .phase⟩,⟨3, .phase⟩,⟨4, .phase⟩,⟨5, .phase⟩,⟨6, .phase⟩,⟨7, .phase⟩,⟨8, .phase⟩,⟨9, .phase⟩,⟨10, .phase⟩,⟨11, .phase⟩,⟨12, .phase⟩],none⟩ ?_ ?_ ?_
 rotate_left
 · (intro w h; (try dsimp only at h); go_simp); (try with_reducible rfl)
 try simp only [lpq]
 refine wpAnyH_ready (rs := [15]) (by kernel_rfl) (by simp) ?_
 refine AllReadyH.cons (o := ⟨none, .store 3 (.tmp 15) (.const (.int .i64 0)),0, "lead.go:54",#[⟨14, .data⟩,⟨12, .chain⟩,⟨0, .phase⟩,⟨1, .phase⟩,⟨2, .phase⟩,⟨3, .phase⟩,⟨4, .phase⟩,⟨5, .phase⟩,⟨6, .phase⟩,⟨7, .phase⟩,⟨8, .phase⟩,⟨9, .phase⟩,⟨10, .phase⟩,⟨11, .phase⟩,⟨12, .phase⟩],none⟩) rfl (fun KK hK => ?_) AllReadyH.nil
 go_simp
 refine hK.out _ _ ⟨(World.cell?_setCell_far _ _ _ _ (by exact hpw)).trans hHeld.1,(World.cell?_setCell_other _ _ _ _ (by simp)).trans hHeld.2⟩ (fun hHeld2 => ?_)
 clear hK KK hHeld
 have hHeld := hHeld2
 clear hHeld2
 try simp only [lpq]
 refine wpAnyH_done (by kernel_rfl) ?_ _
 have hturn : RfAt (((W0.setCell ⟨p,10,none⟩ (.int .i64 3)).setCell ⟨p,11,none⟩ (.int .i64 (N.id : Int))).setCell ⟨p,12,none⟩ (.int .i64 0)).drew p (qo N []) (fun b => Z b \/ (w.heap.size <= b /\ b < w.heap.size + 3)) q s xs K := by
  refine H0.out.turn (by simp) (fun b _ hb => (Below.heap_setCell _ _ _ _ (by exact hb)).trans ((Below.heap_setCell _ _ _ _ (by exact hb)).trans (Below.heap_setCell _ _ _ _ (by exact hb)))) ?_ rfl rfl rfl rfl rfl
  have r1 := setCell_at W0 ⟨p,10,none⟩ (.int .i64 3) _ _ _ rfl H0.out.row
  have r2 := setCell_at _ ⟨p,11,none⟩ (.int .i64 (N.id : Int)) _ _ _ rfl r1
  have r3 := setCell_at _ ⟨p,12,none⟩ (.int .i64 0) _ _ _ rfl r2
  exact r3
 obtain ⟨b0,hk0,hsz⟩ := HB.out
 have hbx : (((W0.setCell ⟨p,10,none⟩ (.int .i64 3)).setCell ⟨p,11,none⟩ (.int .i64 (N.id : Int))).setCell ⟨p,12,none⟩ (.int .i64 0)).drew.heap[w.heap.size]? = some (.cells #[ptrV p] 32) := (Below.heap_setCell _ _ _ _ (by exact hpw.symm)).trans ((Below.heap_setCell _ _ _ _ (by exact hpw.symm)).trans ((Below.heap_setCell _ _ _ _ (by exact hpw.symm)).trans b0))
 have hkw : qf Z w (((W0.setCell ⟨p,10,none⟩ (.int .i64 3)).setCell ⟨p,11,none⟩ (.int .i64 (N.id : Int))).setCell ⟨p,12,none⟩ (.int .i64 0)).drew := hk0.trans (qf.drew (((qg _ ⟨p,10,none⟩ _ hZp).trans (qg _ ⟨p,11,none⟩ _ hZp)).trans (qg _ ⟨p,12,none⟩ _ hZp)))
 have hs1 : (((W0.setCell ⟨p,10,none⟩ (.int .i64 3)).setCell ⟨p,11,none⟩ (.int .i64 (N.id : Int))).setCell ⟨p,12,none⟩ (.int .i64 0)).drew.heap.size = w.heap.size + 1 := by simp [hsz]
 clear cb c0 c10 c11 c12 f10 f11 f12 HB H0 hHeld b0 hk0 hsz
 generalize (((W0.setCell ⟨p,10,none⟩ (.int .i64 3)).setCell ⟨p,11,none⟩ (.int .i64 (N.id : Int))).setCell ⟨p,12,none⟩ (.int .i64 0)).drew = W1 at *
 have hr0 : qm w W1 p (qo N []) Z q s (w.heap.size + 3) := ⟨q,xs,K,hturn,rfl,hkw,by omega⟩
 have cb : W1.cell? ⟨w.heap.size,0,none⟩ = some (ptrV p) := qa hbx 0 _ rfl
 have c1 := hturn.c1
 obtain ⟨LI,hLI⟩ : ∃ LI,N.lg.lastI = LI := ⟨_,rfl⟩
 have hlim := hg.lim
 have hlast := hg.lastI
 have HL := Lib.hid hLI
 have HH := Lib.hid (And.intro hlim hlast)
 clear hLI hlim hlast hturn hkw
 gi_wp2
 refine qZ (id := N.id) (n := N.n) (p := p) rfl hn.1 rfl (by omega) c1
  (fun pre W => qm w W p (qo N pre) Z q s (w.heap.size + 3) /\ W.heap[w.heap.size]? = some (.cells #[ptrV p] 32)) ?_ ?_ ?_
  (fun x => { tmps := #[ptrV p, .pointer (some ⟨w.heap.size,0,none⟩), .int .i64 (x : Int),ptrV p,ptrV p,ptrV p,ptrV p, .pointer (some ⟨p,0,none⟩), .pointer (some ⟨p,0,none⟩), .int .i64 (N.id : Int), .pointer (some ⟨p,0,none⟩), .pointer (some ⟨p,10,none⟩), .pointer (some ⟨p,0,none⟩), .pointer (some ⟨p,11,none⟩), .pointer (some ⟨p,0,none⟩), .pointer (some ⟨p,12,none⟩),ptrV p, .func (.func 37) #[ptrV p] #[], .int .i64 (x : Int),undef,undef,undef,undef,undef,undef,undef,undef,undef,undef,undef,undef,undef,undef,undef,undef,undef,undef,undef,undef,undef,undef,undef],defers := [] }) ?assign ?body ?done
 · rintro pre W ⟨h1,_⟩
   exact h1.c0
 · intro r
   exact ⟨(hr0.alloc hZ _).alloc hZ _,(Below.heap_alloc _ _ _ (by simp; omega)).trans ((Below.heap_alloc _ _ _ (by omega)).trans hbx)⟩
 · rintro pre W r r' ⟨h1,h2⟩ hr
   exact ⟨h1.turn hZ _ (by omega) (by omega) _,(World.putObj_heap_other (by omega)).trans h2⟩
 case assign =>
  intro l x W K hK
  gi_wp2
  exact hK
 case body =>
  rintro l pre x W hxn hxi hpre ⟨h1,h2⟩ hsW hlW hdW
  obtain ⟨q',xs',K',h3,h4,h5,h6⟩ := h1
  have cb : W.cell? ⟨w.heap.size,0,none⟩ = some (ptrV p) := qa h2 0 _ rfl
  have hlb := hlt h2
  have hLast := qS (w := W.drew) (h3.below blq.drew) (by show N.lg.l.length <= 1000000; omega)
  have hLe : (qo N pre).lg.lastI = LI := HL.out
  rw [hLe] at hLast
  obtain ⟨L1,hL1⟩ : ∃ L1,LI + 1 = L1 := ⟨_,rfl⟩
  have y2 : IntKind.i64.wrap (LI + 1) = L1 := by rw [<- hL1,IntWalk.i64_in _ (by have := HH.out; have := HL.out; omega)]
  have H3 := Lib.hid (And.intro h3 (And.intro h4 (And.intro h5 (And.intro h6 (And.intro hs1 (And.intro hsW (And.intro h2 hL1)))))))
  have hx3 : x < 3 := by omega
  have hma : (qo N pre).ma = Node.zeroF := HI.out.2.2.2.1
  have hac : (qo N pre).ac = Node.zeroF := HI.out.2.2.2.2
  have HM := Lib.hid (And.intro hma hac)
  have hC : ∀ X,Below W.heap.size W X -> RfAt X p (qo N pre) (fun b => Z b \/ (w.heap.size <= b /\ b < w.heap.size + 3)) q' s xs' K' := fun X hX => h3.below hX
  clear hLe hr0 hbx hs1 h2 h3 h4 h5 h6 hma hac hL1 hlW hdW c1
  obtain rfl | rfl | rfl : x = 0 \/ x = 1 \/ x = 2 := by omega
  · gi_wp2
    refine qp (S := (fun w' => w'.cell? ⟨w.heap.size,0,none⟩ = some (ptrV p))) (by kernel_rfl) (fun h => (by obtain ⟨_,_,h⟩ := h; exact h)) (by kernel_rfl) cb (fun hHeld => ?_)
    change wpAnyH _ _ _ _ _ 10 #[false,false,false,false,false,false,false,false,false,false] _ _
    refine tkq 0 ⟨some 19, .load 32 (.tmp 1),32, "lead.go:57",#[],none⟩ ?_ ?_ ?_
    rotate_left
    · (intro w h; (try dsimp only at h); go_simp); (try with_reducible rfl)
    try simp only [lpq]
    refine tkq 1 ⟨some 20, .move (.tmp 2),3, "lead.go:57",#[],none⟩ ?_ ?_ ?_
    rotate_left
    · (intro w h; (try dsimp only at h); go_simp); (try with_reducible rfl)
    try simp only [lpq]
    refine tkq 2 ⟨some 21, .load 32 (.tmp 1),32, "lead.go:57",#[],none⟩ ?_ ?_ ?_
    rotate_left
    · (intro w h; (try dsimp only at h); go_simp); (try with_reducible rfl)
    try simp only [lpq]
    refine tkq 6 ⟨some 25, .nilCheck (.tmp 19),0, "lead.go:57",#[⟨0, .data⟩],none⟩ ?_ ?_ ?_
    rotate_left
    · (intro w h; (try dsimp only at h); go_simp); (try with_reducible rfl)
    try simp only [lpq]
    refine tkq 7 ⟨some 26, .fieldAddr 68 (.tmp 25) 11,0, "lead.go:57",#[⟨6, .data⟩],none⟩ ?_ ?_ ?_
    rotate_left
    · (intro w h; (try dsimp only at h); go_simp); (try with_reducible rfl)
    try simp only [lpq]
    refine wpAnyH_ready (rs := [3]) (by kernel_rfl) (by simp) ?_
    refine AllReadyH.cons (o := ⟨some 22, .call ⟨.value (.func 22),#[.tmp 21],#[32]⟩,2, "lead.go:57",#[⟨2, .data⟩],none⟩) rfl (fun KK hK => ?_) AllReadyH.nil
    go_simp
    refine hLast.mono ?_
    rintro e w3 ⟨rfl,hb3⟩
    have hb3 : Below W.heap.size W w3 := blq.drew.trans hb3
    have cb3 : w3.cell? ⟨w.heap.size,0,none⟩ = some (ptrV p) := (hb3.cell (p := ⟨w.heap.size,0,none⟩) hlb).trans cb
    have hR3 := hC w3 hb3
    have c16 := hR3.c16
    have c17 := hR3.c17
    have c18 := hR3.c18
    have f16 := hR3.fz 16
    have f17 := hR3.fz 17
    have f18 := hR3.fz 18
    have HR3 := Lib.hid (And.intro hR3 hb3)
    clear hR3
    refine hK.out _ _ cb3 (fun hHeld2 => ?_)
    clear hK KK hHeld
    have hHeld := hHeld2
    clear hHeld2
    try simp only [lpq]
    refine tkq 4 ⟨some 23, .binOp .add 2 (.tmp 22) (.const (.int .i64 1)) 2,2, "lead.go:57",#[⟨3, .data⟩],none⟩ ?_ ?_ ?_
    rotate_left
    · (intro w h; (try dsimp only at h); go_simp); (try with_reducible rfl)
    try simp only [lpq]
    refine tkq 5 ⟨some 24, .build 65 #[(0, .tmp 23)],65, "lead.go:57",#[⟨4, .data⟩],none⟩ ?_ ?_ ?_
    rotate_left
    · (intro w h; (try dsimp only at h); go_simp); (try with_reducible rfl)
    try simp only [lpq]
    refine tkq 8 ⟨some 27, .indexAddr 66 (.tmp 26) (.tmp 20),0, "lead.go:57",#[⟨7, .data⟩,⟨1, .data⟩,⟨0, .phase⟩,⟨1, .phase⟩,⟨2, .phase⟩,⟨3, .phase⟩,⟨4, .phase⟩,⟨5, .phase⟩],none⟩ ?_ ?_ ?_
    rotate_left
    · (intro w h; (try dsimp only at h); go_simp); (try with_reducible rfl)
    try simp only [lpq]
    refine wpAnyH_ready (rs := [9]) (by kernel_rfl) (by simp) ?_
    refine AllReadyH.cons (o := ⟨none, .store 65 (.tmp 27) (.tmp 24),0, "lead.go:57",#[⟨8, .data⟩,⟨5, .data⟩,⟨3, .chain⟩,⟨0, .phase⟩,⟨1, .phase⟩,⟨2, .phase⟩,⟨3, .phase⟩,⟨4, .phase⟩,⟨5, .phase⟩],none⟩) rfl (fun KK hK => ?_) AllReadyH.nil
    go_simp
    refine hK.out _ _ ((World.cell?_setCell_far _ _ _ _ (by exact hpw)).trans ((World.cell?_setCell_far _ _ _ _ (by exact hpw)).trans ((World.cell?_setCell_far _ _ _ _ (by exact hpw)).trans cb3))) (fun hHeld2 => ?_)
    clear hK KK hHeld
    have hHeld := hHeld2
    clear hHeld2
    try simp only [lpq]
    refine wpAnyH_done (by kernel_rfl) ?_ _
    clear hHeld
    gi_wp2
    exact qaA H3.out HM.out HR3.out.1 HR3.out.2 hpw hZp 0 (by omega) HL.out
  · gi_wp2
    refine qp (S := (fun w' => w'.cell? ⟨w.heap.size,0,none⟩ = some (ptrV p))) (by kernel_rfl) (fun h => (by obtain ⟨_,_,h⟩ := h; exact h)) (by kernel_rfl) cb (fun hHeld => ?_)
    change wpAnyH _ _ _ _ _ 10 #[false,false,false,false,false,false,false,false,false,false] _ _
    refine tkq 0 ⟨some 19, .load 32 (.tmp 1),32, "lead.go:57",#[],none⟩ ?_ ?_ ?_
    rotate_left
    · (intro w h; (try dsimp only at h); go_simp); (try with_reducible rfl)
    try simp only [lpq]
    refine tkq 1 ⟨some 20, .move (.tmp 2),3, "lead.go:57",#[],none⟩ ?_ ?_ ?_
    rotate_left
    · (intro w h; (try dsimp only at h); go_simp); (try with_reducible rfl)
    try simp only [lpq]
    refine tkq 2 ⟨some 21, .load 32 (.tmp 1),32, "lead.go:57",#[],none⟩ ?_ ?_ ?_
    rotate_left
    · (intro w h; (try dsimp only at h); go_simp); (try with_reducible rfl)
    try simp only [lpq]
    refine tkq 6 ⟨some 25, .nilCheck (.tmp 19),0, "lead.go:57",#[⟨0, .data⟩],none⟩ ?_ ?_ ?_
    rotate_left
    · (intro w h; (try dsimp only at h); go_simp); (try with_reducible rfl)
    try simp only [lpq]
    refine tkq 7 ⟨some 26, .fieldAddr 68 (.tmp 25) 11,0, "lead.go:57",#[⟨6, .data⟩],none⟩ ?_ ?_ ?_
    rotate_left
    · (intro w h; (try dsimp only at h); go_simp); (try with_reducible rfl)
    try simp only [lpq]
    refine wpAnyH_ready (rs := [3]) (by kernel_rfl) (by simp) ?_
    refine AllReadyH.cons (o := ⟨some 22, .call ⟨.value (.func 22),#[.tmp 21],#[32]⟩,2, "lead.go:57",#[⟨2, .data⟩],none⟩) rfl (fun KK hK => ?_) AllReadyH.nil
    go_simp
    refine hLast.mono ?_
    rintro e w3 ⟨rfl,hb3⟩
    have hb3 : Below W.heap.size W w3 := blq.drew.trans hb3
    have cb3 : w3.cell? ⟨w.heap.size,0,none⟩ = some (ptrV p) := (hb3.cell (p := ⟨w.heap.size,0,none⟩) hlb).trans cb
    have hR3 := hC w3 hb3
    have c19 := hR3.c19
    have c20 := hR3.c20
    have c21 := hR3.c21
    have f19 := hR3.fz 19
    have f20 := hR3.fz 20
    have f21 := hR3.fz 21
    have HR3 := Lib.hid (And.intro hR3 hb3)
    clear hR3
    refine hK.out _ _ cb3 (fun hHeld2 => ?_)
    clear hK KK hHeld
    have hHeld := hHeld2
    clear hHeld2
    try simp only [lpq]
    refine tkq 4 ⟨some 23, .binOp .add 2 (.tmp 22) (.const (.int .i64 1)) 2,2, "lead.go:57",#[⟨3, .data⟩],none⟩ ?_ ?_ ?_
    rotate_left
    · (intro w h; (try dsimp only at h); go_simp); (try with_reducible rfl)
    try simp only [lpq]
    refine tkq 5 ⟨some 24, .build 65 #[(0, .tmp 23)],65, "lead.go:57",#[⟨4, .data⟩],none⟩ ?_ ?_ ?_
    rotate_left
    · (intro w h; (try dsimp only at h); go_simp); (try with_reducible rfl)
    try simp only [lpq]
    refine tkq 8 ⟨some 27, .indexAddr 66 (.tmp 26) (.tmp 20),0, "lead.go:57",#[⟨7, .data⟩,⟨1, .data⟩,⟨0, .phase⟩,⟨1, .phase⟩,⟨2, .phase⟩,⟨3, .phase⟩,⟨4, .phase⟩,⟨5, .phase⟩],none⟩ ?_ ?_ ?_
    rotate_left
    · (intro w h; (try dsimp only at h); go_simp); (try with_reducible rfl)
    try simp only [lpq]
    refine wpAnyH_ready (rs := [9]) (by kernel_rfl) (by simp) ?_
    refine AllReadyH.cons (o := ⟨none, .store 65 (.tmp 27) (.tmp 24),0, "lead.go:57",#[⟨8, .data⟩,⟨5, .data⟩,⟨3, .chain⟩,⟨0, .phase⟩,⟨1, .phase⟩,⟨2, .phase⟩,⟨3, .phase⟩,⟨4, .phase⟩,⟨5, .phase⟩],none⟩) rfl (fun KK hK => ?_) AllReadyH.nil
    go_simp
    refine hK.out _ _ ((World.cell?_setCell_far _ _ _ _ (by exact hpw)).trans ((World.cell?_setCell_far _ _ _ _ (by exact hpw)).trans ((World.cell?_setCell_far _ _ _ _ (by exact hpw)).trans cb3))) (fun hHeld2 => ?_)
    clear hK KK hHeld
    have hHeld := hHeld2
    clear hHeld2
    try simp only [lpq]
    refine wpAnyH_done (by kernel_rfl) ?_ _
    clear hHeld
    gi_wp2
    exact qaA H3.out HM.out HR3.out.1 HR3.out.2 hpw hZp 1 (by omega) HL.out
  · gi_wp2
    refine qp (S := (fun w' => w'.cell? ⟨w.heap.size,0,none⟩ = some (ptrV p))) (by kernel_rfl) (fun h => (by obtain ⟨_,_,h⟩ := h; exact h)) (by kernel_rfl) cb (fun hHeld => ?_)
    change wpAnyH _ _ _ _ _ 10 #[false,false,false,false,false,false,false,false,false,false] _ _
    refine tkq 0 ⟨some 19, .load 32 (.tmp 1),32, "lead.go:57",#[],none⟩ ?_ ?_ ?_
    rotate_left
    · (intro w h; (try dsimp only at h); go_simp); (try with_reducible rfl)
    try simp only [lpq]
    refine tkq 1 ⟨some 20, .move (.tmp 2),3, "lead.go:57",#[],none⟩ ?_ ?_ ?_
    rotate_left
    · (intro w h; (try dsimp only at h); go_simp); (try with_reducible rfl)
    try simp only [lpq]
    refine tkq 2 ⟨some 21, .load 32 (.tmp 1),32, "lead.go:57",#[],none⟩ ?_ ?_ ?_
    rotate_left
    · (intro w h; (try dsimp only at h); go_simp); (try with_reducible rfl)
    try simp only [lpq]
    refine tkq 6 ⟨some 25, .nilCheck (.tmp 19),0, "lead.go:57",#[⟨0, .data⟩],none⟩ ?_ ?_ ?_
    rotate_left
    · (intro w h; (try dsimp only at h); go_simp); (try with_reducible rfl)
    try simp only [lpq]
    refine tkq 7 ⟨some 26, .fieldAddr 68 (.tmp 25) 11,0, "lead.go:57",#[⟨6, .data⟩],none⟩ ?_ ?_ ?_
    rotate_left
    · (intro w h; (try dsimp only at h); go_simp); (try with_reducible rfl)
    try simp only [lpq]
    refine wpAnyH_ready (rs := [3]) (by kernel_rfl) (by simp) ?_
    refine AllReadyH.cons (o := ⟨some 22, .call ⟨.value (.func 22),#[.tmp 21],#[32]⟩,2, "lead.go:57",#[⟨2, .data⟩],none⟩) rfl (fun KK hK => ?_) AllReadyH.nil
    go_simp
    refine hLast.mono ?_
    rintro e w3 ⟨rfl,hb3⟩
    have hb3 : Below W.heap.size W w3 := blq.drew.trans hb3
    have cb3 : w3.cell? ⟨w.heap.size,0,none⟩ = some (ptrV p) := (hb3.cell (p := ⟨w.heap.size,0,none⟩) hlb).trans cb
    have hR3 := hC w3 hb3
    have c22 := hR3.c22
    have c23 := hR3.c23
    have c24 := hR3.c24
    have f22 := hR3.fz 22
    have f23 := hR3.fz 23
    have f24 := hR3.fz 24
    have HR3 := Lib.hid (And.intro hR3 hb3)
    clear hR3
    refine hK.out _ _ cb3 (fun hHeld2 => ?_)
    clear hK KK hHeld
    have hHeld := hHeld2
    clear hHeld2
    try simp only [lpq]
    refine tkq 4 ⟨some 23, .binOp .add 2 (.tmp 22) (.const (.int .i64 1)) 2,2, "lead.go:57",#[⟨3, .data⟩],none⟩ ?_ ?_ ?_
    rotate_left
    · (intro w h; (try dsimp only at h); go_simp); (try with_reducible rfl)
    try simp only [lpq]
    refine tkq 5 ⟨some 24, .build 65 #[(0, .tmp 23)],65, "lead.go:57",#[⟨4, .data⟩],none⟩ ?_ ?_ ?_
    rotate_left
    · (intro w h; (try dsimp only at h); go_simp); (try with_reducible rfl)
    try simp only [lpq]
    refine tkq 8 ⟨some 27, .indexAddr 66 (.tmp 26) (.tmp 20),0, "lead.go:57",#[⟨7, .data⟩,⟨1, .data⟩,⟨0, .phase⟩,⟨1, .phase⟩,⟨2, .phase⟩,⟨3, .phase⟩,⟨4, .phase⟩,⟨5, .phase⟩],none⟩ ?_ ?_ ?_
    rotate_left
    · (intro w h; (try dsimp only at h); go_simp); (try with_reducible rfl)
    try simp only [lpq]
    refine wpAnyH_ready (rs := [9]) (by kernel_rfl) (by simp) ?_
    refine AllReadyH.cons (o := ⟨none, .store 65 (.tmp 27) (.tmp 24),0, "lead.go:57",#[⟨8, .data⟩,⟨5, .data⟩,⟨3, .chain⟩,⟨0, .phase⟩,⟨1, .phase⟩,⟨2, .phase⟩,⟨3, .phase⟩,⟨4, .phase⟩,⟨5, .phase⟩],none⟩) rfl (fun KK hK => ?_) AllReadyH.nil
    go_simp
    refine hK.out _ _ ((World.cell?_setCell_far _ _ _ _ (by exact hpw)).trans ((World.cell?_setCell_far _ _ _ _ (by exact hpw)).trans ((World.cell?_setCell_far _ _ _ _ (by exact hpw)).trans cb3))) (fun hHeld2 => ?_)
    clear hK KK hHeld
    have hHeld := hHeld2
    clear hHeld2
    try simp only [lpq]
    refine wpAnyH_done (by kernel_rfl) ?_ _
    clear hHeld
    gi_wp2
    exact qaA H3.out HM.out HR3.out.1 HR3.out.2 hpw hZp 2 (by omega) HL.out
 case done =>
  rintro W ⟨h1,h2⟩ hd hsD
  rw [hs1] at hd ⊢
  obtain ⟨q',xs',K',h3,h4,h5,h6⟩ := h1
  have hall := qcN HI.out
  rw [hs1] at hsD
  have hZ1 : ∀ b,(Z b \/ (w.heap.size <= b /\ b < w.heap.size + 3)) -> b < W.heap.size := fun b hb => hb.elim (fun e => by have := hZ b e; omega) fun e => by omega
  have cb : W.cell? ⟨w.heap.size,0,none⟩ = some (ptrV p) := qa h2 0 _ rfl
  have c8 := h3.c8
  have c2 : W.cell? ⟨p,2,none⟩ = some (.int .i64 N.ht) := h3.c2
  have hLg := h3.log
  have hlow := h3.low hZ1
  have hAdd := fun X (hX : Below W.heap.size W X) => qa3 (w := X) (hLg.below hX) (fun b hb => Nat.lt_of_lt_of_le (hlow b hb) hX.size) (show N.lg.l.length <= 900000 by omega) hg N.ht none 0 0 [] ⟨nlq,Lies.nil _,fun h0 => absurd h0 (by simp)⟩ rfl HA.out
  have HN := Lib.hid (And.intro h3 (And.intro h4 (And.intro h5 (And.intro hZ1 (And.intro hsD (And.intro hd hall))))))
  clear hLg hlow h3 h4 h5 h6 hZ1 hsD hd hall hr0 hbx hs1 c1
  gi_wp2
  refine wpIn_wide.2 ?_
  go_still_tail 9,(by kernel_rfl)
  go_wp2_with fail
  refine (hAdd _ blq.drew).mono ?_
  rintro e w4 ⟨E,k,rfl,_,_,hlg4,hk4⟩
  obtain ⟨h3,h4,h5,hZ1,hsD,hd,hall⟩ := HN.out
  have hgr : N.lg.more ⟨N.lg.lastI + 1,N.ht,[]⟩ = N.grown [] := by
   unfold Node.grown RL.add
   rw [if_pos HA.out]
   rfl
  have hgd : Good (N.grown []) := by rw [<- hgr]; exact hg.more HA.out
  have hgl : (N.grown []).l.length = N.lg.l.length + 1 /\ (N.grown []).i = N.lg.i := by
   rw [<- hgr]
   obtain ⟨a1,a2,_⟩ := qap (⟨N.lg.i,N.lg.t,N.lg.l ++ [⟨N.lg.lastI + 1,N.ht,[]⟩],N.lg.f⟩ : RL) (N.lg.lastI + 1)
   unfold RL.more
   rw [a1,a2]
   exact ⟨by simp,rfl⟩
  have R4 : RfAt w4 p { qo N (oth N.id N.n) with lg := N.grown [] } (fun b => Z b \/ (w.heap.size <= b /\ b < w.heap.size + 3)) q' s xs' K' := by
   rw [<- hgr]
   exact (h3.below blq.drew).logged (hlg4.mono fun b hb => .inl hb) hk4
  have k4 : qf (fun b => Z b \/ (w.heap.size <= b /\ b < w.heap.size + 3)) W w4 := ((qf.refl _ _).drew).trans (hk4.mono fun b hb => .inl hb)
  have hgood := hgd.lastI
  have hglim := hgd.lim
  have hAv := qaO R4 (fun b hb => Nat.lt_of_lt_of_le (hZ1 b hb) k4.size) (by show (N.grown []).l.length <= 1000000; omega) hgd hn (fun j => by show In64 (N.ma j); rw [HI.out.2.2.2.1]; exact ⟨by show (-9223372036854775808 : Int) <= 0; decide,by show (0 : Int) <= 9223372036854775807; decide⟩) ⟨by show _ <= (N.grown []).lastI; omega,by show (N.grown []).lastI <= _; omega⟩ (fun j => by show 0 <= N.ma j; rw [HI.out.2.2.2.1]; exact Int.le_refl _) (by show 0 <= (N.grown []).lastI; omega)
  have cb4 : w4.cell? ⟨w.heap.size,0,none⟩ = some (ptrV p) := k4.cell cb (.inr ⟨nlq,by show w.heap.size < _; omega⟩)
  have hset := qbs { qo N (oth N.id N.n) with lg := N.grown [] }
  have HF := Lib.hid (And.intro hall (And.intro hset (And.intro h4 (And.intro (h5.trans (k4.mono fun b hb => .inl hb)) (And.intro hZ1 (And.intro hsD (And.intro hd (And.intro k4 (And.intro hgd (And.intro hgl (And.intro hgood hglim)))))))))))
  clear hAdd hlg4 hk4 hgr HN h3 hall hset h4 h5 hZ1 hsD hd hgd hgl hgood hglim R4 k4 h2 c8 c2 cb HH HL
  go_wp2
  gi_wp2
  refine ⟨trivial,?_⟩
  refine (callsIn_wide.2 hAv).mono ?_
  rintro e w5 ⟨rfl,R5,k5⟩
  obtain ⟨hall,⟨cq,hset⟩,h4,k4,hZ1,hsD,hd,k45,hgd,hgl,hgood,hglim⟩ := HF.out
  have k46 := k45.trans k5
  have hs5 := k46.size
  have hSd := qU R5 (fun b hb => Nat.lt_of_lt_of_le (hZ1 b hb) hs5) (by rw [hset]; exact hms) (by rw [hset]; show (N.grown []).l.length <= 1000000; omega) (by rw [hset]; exact hgd) (fun j => by
   rw [hset]
   show _ <= nexts N.nx (N.lg.lastI + 1) (oth N.id N.n) j /\ nexts N.nx (N.lg.lastI + 1) (oth N.id N.n) j <= _
   rw [qb2,HI.out.2.2.1]
   have := hg.lim
   have := hg.lastI
   split
   · omega
   · show (-4611686018427387904 : Int) <= 0 /\ (0 : Int) <= 4611686018427387904
     omega) (by rw [hset]; exact hsd) (by rw [hset]; exact hn)
  rw [<- hall] at hSd
  have cb5 : w5.cell? ⟨w.heap.size,0,none⟩ = some (ptrV p) := k5.cell cb4 (.inr ⟨nlq,by show w.heap.size < _; omega⟩)
  have HG := Lib.hid (And.intro h4 (And.intro (k4.trans (k5.mono fun b hb => .inl hb)) (And.intro (Nat.lt_of_lt_of_le hsD hs5) ((k46.block _ (hlt hd) (.inr (by omega))).trans hd))))
  clear hAv HF hall hset h4 k4 hZ1 hsD hd k45 k46 hs5 hgd hgl hgood hglim R5 k5 cb4
  gi_wp2
  refine ⟨trivial,?_⟩
  refine (callsIn_wide.2 hSd).mono ?_
  rintro e w6 ⟨rfl,q6,xs6,K6,R6,hq6,k6⟩
  obtain ⟨h4,k4,hsD,hd⟩ := HG.out
  have hd6 := (k6.block _ (hlt hd) (.inr (by omega))).trans hd
  have hT : Turned w (w6.putObj (w.heap.size + 1) (.deferred none)) p N.rise Z q s :=
   ⟨q6,xs6,K6,(R6.keep (by simp) fun b _ hz => World.putObj_heap_other fun e => hz (.inr (by omega))).less fun b hb => .inl hb,hq6.trans h4,(k4.trans (k6.mono fun b hb => .inl hb)).trans (qT fun e => by have := hZ _ e; omega)⟩
  have HT := Lib.hid (And.intro hT hd6)
  clear HG h4 k4 hsD hd hSd R6 hq6 k6 hT hd6 cb5
  gi_wp2
  refine ⟨by simp, .inl ⟨_,_,rfl,run_takeDeferred HT.out.2,?_⟩⟩
  exact ⟨_,results_none rfl _ _ _,rfl,HT.out.1⟩
end Go.Proofs.Ytmiijlecfiddmaa
