/- The program's leader commits what more than half have. -/
import Derived.Test.YtogbhedbgcmckaaGreatNNM01
import Derived.Test.YtogbhedbgcmckaaGreatNNM26
import Derived.Test.YtogbhedbgcmckaaGreatNNM27
set_option linter.unusedVariables false
set_option linter.unusedSimpArgs false
set_option maxRecDepth 100000
set_option maxHeartbeats 3200000
namespace Go.Proofs.YtogbhedbgcmckaaGreat
open Go.RowKit Go.Shelf
attribute [local go_sem] Oper.semAt_some
def haveL (N : Node) (pre : List Nat) : List Int := N.lg.lastI :: pre.map N.ma
theorem qhP (N : Node) (pre : List Nat) (x : Nat) : haveL N (pre ++ [x]) = haveL N pre ++ [N.ma x] := by simp [haveL]
theorem qcU (N : Node) (pre : List Nat) : (haveL N pre).length = 1 + pre.length := by simp [haveL]; omega
structure qan (w W : World) (p h : Nat) (A : Option Addr) (c : Nat) (N : Node) (pre : List Nat) : Prop where
 below : Below w.heap.size w W
 box : W.heap[w.heap.size]? = some (.cells #[ptrV p] 67)
 hv : W.heap[h]? = some (.cells #[.slice A (1 + pre.length) c] 55)
 row : Sp 2 1 W A (1 + pre.length) c ((haveL N pre).map (Value.int .i64))
 new : ∀ b,blkR A b -> w.heap.size < b /\ b ≠ h
 far : w.heap.size < h
def qkV (w W : World) (p h : Nat) (N : Node) (pre : List Nat) : Prop := ∃ A c,qan w W p h A c N pre
section
variable {w W W' : World} {p h : Nat} {A : Option Addr} {c : Nat} {N : Node} {pre : List Nat}
theorem qan.other (H : qan w W p h A c N pre) (hs : W.heap.size <= W'.heap.size) (hb : Below w.heap.size w W') (hk : ∀ b,b < W.heap.size -> (∃ C T,W.heap[b]? = some (.cells C T (0,0))) -> W'.heap[b]? = W.heap[b]?) : qan w W' p h A c N pre where
 below := hb
 box := (hk _ (hlt H.box) ⟨_,_,H.box⟩).trans H.box
 hv := (hk _ (hlt H.hv) ⟨_,_,H.hv⟩).trans H.hv
 row := H.row.keep fun b hb => by
  obtain ⟨cur,e⟩ := H.row.block hb;exact hk b (H.row.lt hb) ⟨_,_,e⟩
 new := H.new
 far := H.far
theorem qan.alloc (H : qan w W p h A c N pre) (o : Obj) : qan w (W.alloc o) p h A c N pre :=
 H.other (by simp) (H.below.alloc H.below.size _) fun b hb _ => Below.heap_alloc _ _ _ hb
theorem qan.turn (H : qan w W p h A c N pre) (l : Nat) (hl : w.heap.size <= l) {r : Loop} (hr : W.heap[l]? = some (.loop r)) (o : Obj) : qan w (W.putObj l o) p h A c N pre :=
 H.other (by simp) (H.below.grown (grownBy_putObj' _ _ _) H.below.size (fun k e => by cases e; omega)) fun b hb hc => World.putObj_heap_other fun e => by
  obtain ⟨C,T,hc⟩ := hc;rw [e,hr] at hc;cases hc
theorem qan.more {X W4 : World} {A' : Option Addr} {c' : Nat} {x : Nat} (H : qan w W p h A c N pre) (hX : Below W.heap.size W X) (hsp : Sp 2 1 W4 A' (1 + pre.length + 1) c' ((haveL N pre).map (Value.int .i64) ++ [.int .i64 (N.ma x)])) (hA : ∀ b,blkR A' b -> blkR A b \/ X.heap.size <= b) (hg : Grew X W4 A) :
 qan w (W4.setCell ⟨h,0,none⟩ (.slice A' (1 + pre.length + 1) c')) p h A' c' N (pre ++ [x]) /\ ∀ b,b < W.heap.size -> (∀ C T,W.heap[b]? ≠ some (.cells C T (0,0))) -> (W4.setCell ⟨h,0,none⟩ (.slice A' (1 + pre.length + 1) c')).heap[b]? = W.heap[b]? := by
 have s0 := H.below.size;have s1 := hX.size;have s2 := hg.size;have hlh := hlt H.hv;have hlb := hlt H.box
 have hnh : ¬ blkR A h := fun e => (H.new h e).2 rfl
 have hnb : ¬ blkR A w.heap.size := fun e => by have := (H.new _ e).1; omega
 have hA' : ∀ b,blkR A' b -> w.heap.size < b /\ b ≠ h := fun b hb => by
  rcases hA b hb with hb | hb
  · exact H.new b hb
  · exact ⟨by omega,by omega⟩
 have hoff : ∀ b,b ≠ h -> (W4.setCell ⟨h,0,none⟩ (.slice A' (1 + pre.length + 1) c')).heap[b]? = W4.heap[b]? := fun b hb => Below.heap_setCell _ _ _ _ (by exact hb)
 have hold : ∀ b,b < W.heap.size -> ¬ blkR A b -> W4.heap[b]? = W.heap[b]? := fun b h1 h2 => (hg.block b (by omega) h2).trans (hX.block b h1)
 have hlen : 1 + (pre ++ [x]).length = 1 + pre.length + 1 := by simp; omega
 have far := H.far;refine ⟨⟨?_,?_,?_,?_,hA',far⟩,fun b hb hc => ?_⟩
 · refine ⟨?_,?_,?_,by simp; omega,fun b hb => ?_⟩
   · exact hg.os.symm.trans (hX.os.trans H.below.os)
   · exact hg.tape.symm.trans (hX.tape.trans H.below.tape)
   · exact hg.output.symm.trans (hX.output.trans H.below.output)
   · have := H.far;exact (hoff b (by omega)).trans ((hold b (by omega) fun e => by have := (H.new b e).1; omega).trans (H.below.block b hb))
 · exact (hoff _ (by omega)).trans ((hold _ hlb hnb).trans H.box)
 · have := setCell_at W4 ⟨h,0,none⟩ (.slice A' (1 + pre.length + 1) c') _ _ _ rfl ((hold h hlh hnh).trans H.hv);rw [hlen];exact this
 · rw [hlen,qhP,List.map_append]
   exact hsp.keep fun b hb => hoff b (hA' b hb).2
 · have hbh : b ≠ h := fun e => hc _ _ (e ▸ H.hv)
   have hbA : ¬ blkR A b := fun e => by
    obtain ⟨cur,ec⟩ := H.row.block e;exact hc _ _ ec
   exact (hoff b hbh).trans (hold b hb hbA)
end
theorem qcV (b : Int) : ∀ (l : List Int) (a : Int),a <= b -> (∀ x ∈ l,x <= b) -> l.foldl max a <= b
 | [],_,h,_ => h
 | x :: l,a,h,hx => qcV b l (max a x) (by have := hx x (List.mem_cons_self ..); omega) fun y hy => hx y (List.mem_cons_of_mem _ hy)
theorem qcW : ∀ (l : List Int) (a : Int),a <= l.foldl max a /\ ∀ x ∈ l,x <= l.foldl max a
 | [],a => ⟨Int.le_refl _,fun x hx => by cases hx⟩
 | y :: l,a => by
   obtain ⟨h1,h2⟩ := qcW l (max a y);refine ⟨?_,fun x hx => ?_⟩
   · show a <= l.foldl max (max a y);omega
   · show x <= l.foldl max (max a y);rcases List.mem_cons.1 hx with rfl | hx
     · omega
     · exact h2 x hx
theorem qhQ (l : List Int) (h0 : 0 < l.length) (hn : ∀ x ∈ l,0 <= x) : Node.reached l = reach l := by
 obtain ⟨h1,h2,h3⟩ := qfM h0
 have hc : ∀ v,(l.filter fun u => decide (v <= u)).length = cntR l v := fun v => by
  unfold cntR;rw [List.countP_eq_length_filter]
 unfold Node.reached;simp only [hc];refine Int.le_antisymm (qcV _ _ _ (hn _ h1) fun x hx => ?_) ((qcW _ _).2 _ ?_)
 · rw [List.mem_filter] at hx;have := of_decide_eq_true hx.2;exact h3 x hx.1 (by omega)
 · rw [List.mem_filter];exact ⟨h1,decide_eq_true (by omega)⟩
theorem qi0 {w X : World} {p D : Nat} {N : Node} {Z : Nat -> Prop} {q : Ptrs} {s : Nat} {xs : List MLay} {K : Nat -> Prop} (hR : RfAt w p N Z q s xs K) (hX : Below w.heap.size w X) (hD : w.heap.size < D) : RfAt (X.putObj D (.deferred none)) p N Z q s xs K /\ qa Z w (X.putObj D (.deferred none)) := by
 have hb : Below w.heap.size w (X.putObj D (.deferred none)) := hX.grown (grownBy_putObj' _ _ _) hX.size (fun k e => by cases e; omega);exact ⟨hR.below hb,qb hb nlq⟩
theorem qkW {w X : World} {p D : Nat} {N : Node} {Z : Nat -> Prop} {q : Ptrs} {s : Nat} {xs : List MLay} {K : Nat -> Prop} (hR : RfAt w p N Z q s xs K) (hZ : ∀ b,Z b -> b < w.heap.size) (hX : Below w.heap.size w X) (hD : w.heap.size < D) (kx : Int) : RfAt ((X.setCell ⟨p,9,none⟩ (.int .i64 kx)).putObj D (.deferred none)) p { N with cm := kx } Z q s xs K /\ qa Z w ((X.setCell ⟨p,9,none⟩ (.int .i64 kx)).putObj D (.deferred none)) := by
 have hp := hR.lt;have h1 := hR.more (Y := fun b => w.heap.size <= b) (fun _ e => e) hX;have hrow := setCell_at X ⟨p,9,none⟩ (.int .i64 kx) _ _ _ rfl h1.row;have h2 : RfAt (X.setCell ⟨p,9,none⟩ (.int .i64 kx)) p { N with cm := kx } (fun b => Z b \/ w.heap.size <= b) q s xs K := h1.turn (by simp) (fun b _ hb => Below.heap_setCell _ _ _ _ (by exact hb)) (hrow.trans rfl) rfl rfl rfl rfl rfl;refine ⟨(h2.keep (by simp) fun b hb hz => World.putObj_heap_other fun e => hz (.inr (by omega))).less fun b hb => .inl hb,((qb hX nlq).trans (qg _ ⟨p,9,none⟩ _ hR.away)).trans (qa5 fun e => ?_)⟩;have := hZ D e;omega
theorem qfS {w : World} {p : Nat} {N : Node} {Z : Nat -> Prop} {q : Ptrs} {s : Nat} {xs : List MLay} {K : Nat -> Prop} (h : RfAt w p N Z q s xs K) (hZ : ∀ b,Z b -> b < w.heap.size) (hl : N.lg.l.length <= 1000000) (hg : qk N.lg) (hn : N.n <= 3 /\ N.id < 3) (hma : ∀ j,In64 (N.ma j)) (hli : In64 N.lg.lastI) (hma0 : ∀ j,0 <= N.ma j) (hli0 : 0 <= N.lg.lastI) :
 Calls Tryz.prog 52 #[ptrV p] w fun e w' => e = .returned (.bool N.settle.2) /\ RfAt w' p N.settle.1 Z q s xs K /\ qa Z w w' := by
 have hp := h.lt;have hb0 : Below w.heap.size w (w.alloc (.cells #[ptrV p] 67)) := blq.alloc nlq _;have b0 := heap_alloc_new w (.cells #[ptrV p] 67);have hL := qbj (h.below hb0) hl;have HL := Lib.hid (show haveL N [] = [N.lg.lastI] from rfl);obtain ⟨LI,hLI⟩ := exq (N.lg.lastI);rw [hLI] at hL;have HLI := Lib.hid hLI;have H := Lib.hid h;clear hLI h;refine (callsIn_wide (n := 9)).1 ?_;refine callsIn_of_wp_marks Tryz.func52 rfl trivial ?_ rfl;simp only [Tryz.ntmps52,List.size_toArray,List.length_cons,List.length_nil,Nat.reduceAdd,Nat.reduceSub,Array.replicate_succ,Array.replicate_zero,List.push_toArray,List.append_toArray,List.nil_append,List.cons_append]
 gi_wp2
 refine ⟨trivial,?_⟩;refine (callsIn_wide.2 hL).mono ?_;rintro e w1 ⟨rfl,hb1⟩;have d0 := (hb1.block _ (hlt b0)).trans b0;have e0 : w1.cell? ⟨w.heap.size,0,none⟩ = some (ptrV p) := qe d0 0 _ rfl;have z0 : w.heap.size < w1.heap.size := hlt d0;have hbw := hb0.trans (hb1.mono hb0.size);clear hb1 hb0 b0 hL;have z1 : p < w1.heap.size := Nat.lt_of_lt_of_le hp hbw.size
 gi_wp2
 have hb2 : Below w.heap.size w ((w1.alloc (.cells #[.int .i64 LI] 2)).alloc (.cells #[.slice (some ⟨w1.heap.size,0,none⟩) 1 1] 55)) := (hbw.alloc hbw.size _).alloc (by simp; omega) _;have f0 : ((w1.alloc (.cells #[.int .i64 LI] 2)).alloc (.cells #[.slice (some ⟨w1.heap.size,0,none⟩) 1 1] 55)).heap[w.heap.size]? = some (.cells #[ptrV p] 67) := (Below.heap_alloc _ _ _ (by simp; omega)).trans ((Below.heap_alloc _ _ _ z0).trans d0);have f1 : ((w1.alloc (.cells #[.int .i64 LI] 2)).alloc (.cells #[.slice (some ⟨w1.heap.size,0,none⟩) 1 1] 55)).heap[w1.heap.size]? = some (.cells #[.int .i64 LI] 2) := (Below.heap_alloc _ _ _ (by simp)).trans (heap_alloc_new _ _);have f2 : ((w1.alloc (.cells #[.int .i64 LI] 2)).alloc (.cells #[.slice (some ⟨w1.heap.size,0,none⟩) 1 1] 55)).heap[w1.heap.size + 1]? = some (.cells #[.slice (some ⟨w1.heap.size,0,none⟩) 1 1] 55) := heap_alloc2_new _ _ _
 have hs2 : ((w1.alloc (.cells #[.int .i64 LI] 2)).alloc (.cells #[.slice (some ⟨w1.heap.size,0,none⟩) 1 1] 55)).heap.size = w1.heap.size + 2 := by simp
 generalize (w1.alloc (.cells #[.int .i64 LI] 2)).alloc (.cells #[.slice (some ⟨w1.heap.size,0,none⟩) 1 1] 55) = W0 at *
 have hv0 : qan w W0 p (w1.heap.size + 1) (some ⟨w1.heap.size,0,none⟩) 1 N [] := by
  refine ⟨hb2,f0,f2,?_,fun b hb => ?_,by omega⟩
  · refine ⟨by simp [haveL],nlq,(fun e => by cases e),fun a e => ?_⟩;injection e with e;subst e;refine ⟨w1.heap.size,0,_,rfl,f1,by simp,fun j u hu => ?_⟩;rw [HL.out,HLI.out] at hu;rw [Nat.zero_add]
    simpa using hu
  · rw [qao] at hb;omega
 obtain ⟨h1,hh1⟩ := exq (w1.heap.size + 1);obtain ⟨g1,hg1⟩ := exq (w1.heap.size)
 have hs3 : W0.heap.size = h1 + 1 := by omega
 rw [hh1] at hv0 ⊢;rw [hg1] at hv0 ⊢;clear d0 e0 z0 hbw f0 f1 f2 hb2 z1 hh1 hg1 hs2
 refine qb0 (id := N.id) (n := N.n) (p := p) rfl hn.1 rfl (by have := hv0.below.size; omega) ?_
  (fun pre W => qkV w W p h1 N pre) ?_ ?_ ?_
  (fun x => { tmps := #[ptrV p, .pointer (some ⟨w.heap.size,0,none⟩), .bool false, .pointer (some ⟨h1,0,none⟩), .int .i64 (x : Int),undef,ptrV p, .int .i64 LI, .slice (some ⟨g1,0,none⟩) 1 1,ptrV p, .func (.func 78) #[ptrV p] #[], .int .i64 (x : Int),undef,undef,undef,undef,undef,undef,undef,undef,undef,undef,undef,undef,undef,undef,undef,undef,undef,undef,undef,undef,undef,undef,undef,undef,undef,undef,undef,undef],defers := [] }) ?assign ?body ?done
 · exact (H.out.below hv0.below).c1
 · rintro pre W ⟨A,c,hv⟩;exact (H.out.below hv.below).c0
 · intro r;exact ⟨_,_,(hv0.alloc _).alloc _⟩
 · rintro pre W r r' ⟨A,c,hv⟩ hr;exact ⟨A,c,hv.turn _ (by have := hv0.below.size; omega) hr _⟩
 case assign =>
  intro l x W K hK
  gi_wp2
  exact hK
 case body =>
  rintro l pre x W hxn hxi hpre ⟨A,c,hv⟩ hsW hlW hdW;have hlen := hpre.length_le
  have holen : (oth N.id N.n).length <= 3 := by
   unfold oth;exact Nat.le_trans (List.length_filter_le _ _) (by simp; omega)
  rw [List.length_append] at hlen;simp only [List.length_cons,List.length_nil] at hlen;have hlow := hv0.below.size;have hR := H.out.below hv.below;have hf := qf hv.hv
  have hnA : ¬ blkR A h1 := fun e => (hv.new _ e).2 rfl
  have hlh := hlt hv.hv;have hlb := hlt hv.box
  have hx3 : x < 3 := by omega
  have cb : W.cell? ⟨w.heap.size,0,none⟩ = some (ptrV p) := qe hv.box 0 _ rfl;have ch : W.cell? ⟨h1,0,none⟩ = some (.slice A (1 + pre.length) c) := qe hv.hv 0 _ rfl;have hpW : p < W.heap.size := Nat.lt_of_lt_of_le hp hv.below.size
  have hpA : ¬ blkR A p := fun e => by have := (hv.new _ e).1; omega
  have hsp : ∀ X,Below W.heap.size W X -> Sp 2 1 X A (1 + pre.length) c ((haveL N pre).map (Value.int .i64)) := fun X hX => hv.row.keep fun b hb => hX.block b (hv.row.lt hb);have hhv : ∀ X,Below W.heap.size W X -> X.heap[h1]? = some (.cells #[.slice A (1 + pre.length) c] 55) := fun X hX => (hX.block _ hlh).trans hv.hv;have hbx : ∀ X,Below W.heap.size W X -> X.heap[w.heap.size]? = some (.cells #[ptrV p] 67) := fun X hX => (hX.block _ hlb).trans hv.box
  have hnb : ¬ blkR A w.heap.size := fun e => by have := (hv.new _ e).1; omega
  have hph : h1 ≠ p := by have := hv.far; omega
  have hbh : h1 ≠ w.heap.size := by have := hv.far; omega
  have HSW := hdq2 hs3 hsW
  obtain rfl | rfl | rfl : x = 0 \/ x = 1 \/ x = 2 := by omega
  · have cm := hR.c17;have HV := Lib.hid hv
    have hL1 : (1 + pre.length) + 1 <= 1000000 := by omega
    clear hR hv hv0 hlow
    gi_wp2
    refine qV (S := (fun w' => w'.cell? ⟨w.heap.size,0,none⟩ = some (ptrV p) /\ w'.cell? ⟨p,17,none⟩ = some (.int .i64 (N.ma 0)))) (by kernel_rfl) (fun h => (by obtain ⟨_,_,h⟩ := h; exact h)) (by kernel_rfl) ⟨cb,cm⟩ (fun hHeld => ?_);refine lsq 11 ?_;refine tkq 1 ?_;refine tkq 2 ?_;refine tkq 3 ?_;refine tkq 4 ?_;refine tkq 5 ?_;refine tkq 6 ?_;refine tkq 7 ?_;refine rdq2 0 8 (fun KK hK => ?_) (fun KK hK => ?_)
    · go_simp;refine hK.out _ _ ⟨cb,cm⟩ ?_;clear hK KK hHeld;intro hHeld
      try simp only [lpq]
      refine rdq1 8 fun KK hK => ?_;go_simp;refine hK.out _ _ ⟨(World.cell?_alloc_lt _ _ _ (by exact hlb)).trans cb,(World.cell?_alloc_lt _ _ _ (by exact hpW)).trans cm⟩ ?_;clear hK KK hHeld;intro hHeld
      try simp only [lpq]
      have hX : Below W.heap.size W (W.drew.alloc (.cells #[.int .i64 (N.ma 0)] 2)) := blq.drew.alloc nlq _;refine rdq1 9 fun KK hK => ?_;refine qR qaE _ (by rfl) _ _ (by rfl) A (1 + pre.length) c _ (by rfl) (hsp _ hX) (some ⟨W.heap.size,0,none⟩) 1 1 [.int .i64 (N.ma 0)] (by rfl) (fun e => by cases e) rfl (fun u hu => by rw [List.mem_singleton.1 hu]; rfl) (fun b e => by cases e; exact qac (heap_alloc_new _ _)) hL1 ?_;intro A' c' w4 hsp4 hA4 hg4;have hXs := hX.size;have hb4 := (hg4.block w.heap.size (by simp; omega) hnb).trans (hbx _ hX);have hh4 := (hg4.block h1 (by simp; omega) hnA).trans (hhv _ hX);have hp4 := (hg4.block p (by simp; omega) hpA).trans (hX.block p hpW);have cm4 : w4.cell? ⟨p,17,none⟩ = some (.int .i64 (N.ma 0)) := (World.cell?_of_block hp4).trans cm;have cb4 : w4.cell? ⟨w.heap.size,0,none⟩ = some (ptrV p) := qe hb4 0 _ rfl;have ch4 : w4.cell? ⟨h1,0,none⟩ = some (.slice A (1 + pre.length) c) := qe hh4 0 _ rfl;have fh4 := qf hh4 0
      try dsimp only
      refine hK.out _ _ ⟨cb4,cm4⟩ ?_;clear hK KK hHeld;intro hHeld
      try simp only [lpq]
      refine rdq1 10 fun KK hK => ?_;go_simp;refine hK.out _ _ ⟨(World.cell?_setCell_far _ _ _ _ hbh).trans cb4,(World.cell?_setCell_far _ _ _ _ hph).trans cm4⟩ ?_;clear hK KK hHeld;intro hHeld
      try simp only [lpq]
      refine dnq ?_;obtain ⟨m1,m2⟩ := HV.out.more hX hsp4 hA4 hg4;have M := hdq2 m1 m2;clear m1 m2 hsp4 hA4 hg4
      gi_wp2
      obtain ⟨m1,m2⟩ := M.out;obtain ⟨s3,sW⟩ := HSW.out;exact ⟨m2 _ (by omega) (fun C T e => by rw [hdW] at e; cases e),m2 _ (by omega) (fun C T e => by obtain ⟨r,hr⟩ := hlW; rw [hr] at e; cases e),_,_,m1⟩
    · go_simp;refine hK.out _ _ ⟨(World.cell?_alloc_lt _ _ _ (by exact hlb)).trans cb,(World.cell?_alloc_lt _ _ _ (by exact hpW)).trans cm⟩ ?_;clear hK KK hHeld;intro hHeld
      try simp only [lpq]
      have hX : Below W.heap.size W (W.drew.alloc (.cells #[.int .i64 (N.ma 0)] 2)) := blq.drew.alloc nlq _;have ch2 : (W.drew.alloc (.cells #[.int .i64 (N.ma 0)] 2)).cell? ⟨h1,0,none⟩ = some (.slice A (1 + pre.length) c) := (World.cell?_alloc_lt _ _ _ (by exact hlh)).trans ch;refine rdq1 0 fun KK hK => ?_;go_simp;refine hK.out _ _ ⟨(World.cell?_alloc_lt _ _ _ (by exact hlb)).trans cb,(World.cell?_alloc_lt _ _ _ (by exact hpW)).trans cm⟩ ?_;clear hK KK hHeld;intro hHeld
      try simp only [lpq]
      refine rdq1 9 fun KK hK => ?_;refine qR qaE _ (by rfl) _ _ (by rfl) A (1 + pre.length) c _ (by rfl) (hsp _ hX) (some ⟨W.heap.size,0,none⟩) 1 1 [.int .i64 (N.ma 0)] (by rfl) (fun e => by cases e) rfl (fun u hu => by rw [List.mem_singleton.1 hu]; rfl) (fun b e => by cases e; exact qac (heap_alloc_new _ _)) hL1 ?_;intro A' c' w4 hsp4 hA4 hg4;have hXs := hX.size;have hb4 := (hg4.block w.heap.size (by simp; omega) hnb).trans (hbx _ hX);have hh4 := (hg4.block h1 (by simp; omega) hnA).trans (hhv _ hX);have hp4 := (hg4.block p (by simp; omega) hpA).trans (hX.block p hpW);have cm4 : w4.cell? ⟨p,17,none⟩ = some (.int .i64 (N.ma 0)) := (World.cell?_of_block hp4).trans cm;have cb4 : w4.cell? ⟨w.heap.size,0,none⟩ = some (ptrV p) := qe hb4 0 _ rfl;have ch4 : w4.cell? ⟨h1,0,none⟩ = some (.slice A (1 + pre.length) c) := qe hh4 0 _ rfl;have fh4 := qf hh4 0
      try dsimp only
      refine hK.out _ _ ⟨cb4,cm4⟩ ?_;clear hK KK hHeld;intro hHeld
      try simp only [lpq]
      refine rdq1 10 fun KK hK => ?_;go_simp;refine hK.out _ _ ⟨(World.cell?_setCell_far _ _ _ _ hbh).trans cb4,(World.cell?_setCell_far _ _ _ _ hph).trans cm4⟩ ?_;clear hK KK hHeld;intro hHeld
      try simp only [lpq]
      refine dnq ?_;obtain ⟨m1,m2⟩ := HV.out.more hX hsp4 hA4 hg4;have M := hdq2 m1 m2;clear m1 m2 hsp4 hA4 hg4
      gi_wp2
      obtain ⟨m1,m2⟩ := M.out;obtain ⟨s3,sW⟩ := HSW.out;exact ⟨m2 _ (by omega) (fun C T e => by rw [hdW] at e; cases e),m2 _ (by omega) (fun C T e => by obtain ⟨r,hr⟩ := hlW; rw [hr] at e; cases e),_,_,m1⟩
  · have cm := hR.c20;have HV := Lib.hid hv
    have hL1 : (1 + pre.length) + 1 <= 1000000 := by omega
    clear hR hv hv0 hlow
    gi_wp2
    refine qV (S := (fun w' => w'.cell? ⟨w.heap.size,0,none⟩ = some (ptrV p) /\ w'.cell? ⟨p,20,none⟩ = some (.int .i64 (N.ma 1)))) (by kernel_rfl) (fun h => (by obtain ⟨_,_,h⟩ := h; exact h)) (by kernel_rfl) ⟨cb,cm⟩ (fun hHeld => ?_);refine lsq 11 ?_;refine tkq 1 ?_;refine tkq 2 ?_;refine tkq 3 ?_;refine tkq 4 ?_;refine tkq 5 ?_;refine tkq 6 ?_;refine tkq 7 ?_;refine rdq2 0 8 (fun KK hK => ?_) (fun KK hK => ?_)
    · go_simp;refine hK.out _ _ ⟨cb,cm⟩ ?_;clear hK KK hHeld;intro hHeld
      try simp only [lpq]
      refine rdq1 8 fun KK hK => ?_;go_simp;refine hK.out _ _ ⟨(World.cell?_alloc_lt _ _ _ (by exact hlb)).trans cb,(World.cell?_alloc_lt _ _ _ (by exact hpW)).trans cm⟩ ?_;clear hK KK hHeld;intro hHeld
      try simp only [lpq]
      have hX : Below W.heap.size W (W.drew.alloc (.cells #[.int .i64 (N.ma 1)] 2)) := blq.drew.alloc nlq _;refine rdq1 9 fun KK hK => ?_;refine qR qaE _ (by rfl) _ _ (by rfl) A (1 + pre.length) c _ (by rfl) (hsp _ hX) (some ⟨W.heap.size,0,none⟩) 1 1 [.int .i64 (N.ma 1)] (by rfl) (fun e => by cases e) rfl (fun u hu => by rw [List.mem_singleton.1 hu]; rfl) (fun b e => by cases e; exact qac (heap_alloc_new _ _)) hL1 ?_;intro A' c' w4 hsp4 hA4 hg4;have hXs := hX.size;have hb4 := (hg4.block w.heap.size (by simp; omega) hnb).trans (hbx _ hX);have hh4 := (hg4.block h1 (by simp; omega) hnA).trans (hhv _ hX);have hp4 := (hg4.block p (by simp; omega) hpA).trans (hX.block p hpW);have cm4 : w4.cell? ⟨p,20,none⟩ = some (.int .i64 (N.ma 1)) := (World.cell?_of_block hp4).trans cm;have cb4 : w4.cell? ⟨w.heap.size,0,none⟩ = some (ptrV p) := qe hb4 0 _ rfl;have ch4 : w4.cell? ⟨h1,0,none⟩ = some (.slice A (1 + pre.length) c) := qe hh4 0 _ rfl;have fh4 := qf hh4 0
      try dsimp only
      refine hK.out _ _ ⟨cb4,cm4⟩ ?_;clear hK KK hHeld;intro hHeld
      try simp only [lpq]
      refine rdq1 10 fun KK hK => ?_;go_simp;refine hK.out _ _ ⟨(World.cell?_setCell_far _ _ _ _ hbh).trans cb4,(World.cell?_setCell_far _ _ _ _ hph).trans cm4⟩ ?_;clear hK KK hHeld;intro hHeld
      try simp only [lpq]
      refine dnq ?_;obtain ⟨m1,m2⟩ := HV.out.more hX hsp4 hA4 hg4;have M := hdq2 m1 m2;clear m1 m2 hsp4 hA4 hg4
      gi_wp2
      obtain ⟨m1,m2⟩ := M.out;obtain ⟨s3,sW⟩ := HSW.out;exact ⟨m2 _ (by omega) (fun C T e => by rw [hdW] at e; cases e),m2 _ (by omega) (fun C T e => by obtain ⟨r,hr⟩ := hlW; rw [hr] at e; cases e),_,_,m1⟩
    · go_simp;refine hK.out _ _ ⟨(World.cell?_alloc_lt _ _ _ (by exact hlb)).trans cb,(World.cell?_alloc_lt _ _ _ (by exact hpW)).trans cm⟩ ?_;clear hK KK hHeld;intro hHeld
      try simp only [lpq]
      have hX : Below W.heap.size W (W.drew.alloc (.cells #[.int .i64 (N.ma 1)] 2)) := blq.drew.alloc nlq _;have ch2 : (W.drew.alloc (.cells #[.int .i64 (N.ma 1)] 2)).cell? ⟨h1,0,none⟩ = some (.slice A (1 + pre.length) c) := (World.cell?_alloc_lt _ _ _ (by exact hlh)).trans ch;refine rdq1 0 fun KK hK => ?_;go_simp;refine hK.out _ _ ⟨(World.cell?_alloc_lt _ _ _ (by exact hlb)).trans cb,(World.cell?_alloc_lt _ _ _ (by exact hpW)).trans cm⟩ ?_;clear hK KK hHeld;intro hHeld
      try simp only [lpq]
      refine rdq1 9 fun KK hK => ?_;refine qR qaE _ (by rfl) _ _ (by rfl) A (1 + pre.length) c _ (by rfl) (hsp _ hX) (some ⟨W.heap.size,0,none⟩) 1 1 [.int .i64 (N.ma 1)] (by rfl) (fun e => by cases e) rfl (fun u hu => by rw [List.mem_singleton.1 hu]; rfl) (fun b e => by cases e; exact qac (heap_alloc_new _ _)) hL1 ?_;intro A' c' w4 hsp4 hA4 hg4;have hXs := hX.size;have hb4 := (hg4.block w.heap.size (by simp; omega) hnb).trans (hbx _ hX);have hh4 := (hg4.block h1 (by simp; omega) hnA).trans (hhv _ hX);have hp4 := (hg4.block p (by simp; omega) hpA).trans (hX.block p hpW);have cm4 : w4.cell? ⟨p,20,none⟩ = some (.int .i64 (N.ma 1)) := (World.cell?_of_block hp4).trans cm;have cb4 : w4.cell? ⟨w.heap.size,0,none⟩ = some (ptrV p) := qe hb4 0 _ rfl;have ch4 : w4.cell? ⟨h1,0,none⟩ = some (.slice A (1 + pre.length) c) := qe hh4 0 _ rfl;have fh4 := qf hh4 0
      try dsimp only
      refine hK.out _ _ ⟨cb4,cm4⟩ ?_;clear hK KK hHeld;intro hHeld
      try simp only [lpq]
      refine rdq1 10 fun KK hK => ?_;go_simp;refine hK.out _ _ ⟨(World.cell?_setCell_far _ _ _ _ hbh).trans cb4,(World.cell?_setCell_far _ _ _ _ hph).trans cm4⟩ ?_;clear hK KK hHeld;intro hHeld
      try simp only [lpq]
      refine dnq ?_;obtain ⟨m1,m2⟩ := HV.out.more hX hsp4 hA4 hg4;have M := hdq2 m1 m2;clear m1 m2 hsp4 hA4 hg4
      gi_wp2
      obtain ⟨m1,m2⟩ := M.out;obtain ⟨s3,sW⟩ := HSW.out;exact ⟨m2 _ (by omega) (fun C T e => by rw [hdW] at e; cases e),m2 _ (by omega) (fun C T e => by obtain ⟨r,hr⟩ := hlW; rw [hr] at e; cases e),_,_,m1⟩
  · have cm := hR.c23;have HV := Lib.hid hv
    have hL1 : (1 + pre.length) + 1 <= 1000000 := by omega
    clear hR hv hv0 hlow
    gi_wp2
    refine qV (S := (fun w' => w'.cell? ⟨w.heap.size,0,none⟩ = some (ptrV p) /\ w'.cell? ⟨p,23,none⟩ = some (.int .i64 (N.ma 2)))) (by kernel_rfl) (fun h => (by obtain ⟨_,_,h⟩ := h; exact h)) (by kernel_rfl) ⟨cb,cm⟩ (fun hHeld => ?_);refine lsq 11 ?_;refine tkq 1 ?_;refine tkq 2 ?_;refine tkq 3 ?_;refine tkq 4 ?_;refine tkq 5 ?_;refine tkq 6 ?_;refine tkq 7 ?_;refine rdq2 0 8 (fun KK hK => ?_) (fun KK hK => ?_)
    · go_simp;refine hK.out _ _ ⟨cb,cm⟩ ?_;clear hK KK hHeld;intro hHeld
      try simp only [lpq]
      refine rdq1 8 fun KK hK => ?_;go_simp;refine hK.out _ _ ⟨(World.cell?_alloc_lt _ _ _ (by exact hlb)).trans cb,(World.cell?_alloc_lt _ _ _ (by exact hpW)).trans cm⟩ ?_;clear hK KK hHeld;intro hHeld
      try simp only [lpq]
      have hX : Below W.heap.size W (W.drew.alloc (.cells #[.int .i64 (N.ma 2)] 2)) := blq.drew.alloc nlq _;refine rdq1 9 fun KK hK => ?_;refine qR qaE _ (by rfl) _ _ (by rfl) A (1 + pre.length) c _ (by rfl) (hsp _ hX) (some ⟨W.heap.size,0,none⟩) 1 1 [.int .i64 (N.ma 2)] (by rfl) (fun e => by cases e) rfl (fun u hu => by rw [List.mem_singleton.1 hu]; rfl) (fun b e => by cases e; exact qac (heap_alloc_new _ _)) hL1 ?_;intro A' c' w4 hsp4 hA4 hg4;have hXs := hX.size;have hb4 := (hg4.block w.heap.size (by simp; omega) hnb).trans (hbx _ hX);have hh4 := (hg4.block h1 (by simp; omega) hnA).trans (hhv _ hX);have hp4 := (hg4.block p (by simp; omega) hpA).trans (hX.block p hpW);have cm4 : w4.cell? ⟨p,23,none⟩ = some (.int .i64 (N.ma 2)) := (World.cell?_of_block hp4).trans cm;have cb4 : w4.cell? ⟨w.heap.size,0,none⟩ = some (ptrV p) := qe hb4 0 _ rfl;have ch4 : w4.cell? ⟨h1,0,none⟩ = some (.slice A (1 + pre.length) c) := qe hh4 0 _ rfl;have fh4 := qf hh4 0
      try dsimp only
      refine hK.out _ _ ⟨cb4,cm4⟩ ?_;clear hK KK hHeld;intro hHeld
      try simp only [lpq]
      refine rdq1 10 fun KK hK => ?_;go_simp;refine hK.out _ _ ⟨(World.cell?_setCell_far _ _ _ _ hbh).trans cb4,(World.cell?_setCell_far _ _ _ _ hph).trans cm4⟩ ?_;clear hK KK hHeld;intro hHeld
      try simp only [lpq]
      refine dnq ?_;obtain ⟨m1,m2⟩ := HV.out.more hX hsp4 hA4 hg4;have M := hdq2 m1 m2;clear m1 m2 hsp4 hA4 hg4
      gi_wp2
      obtain ⟨m1,m2⟩ := M.out;obtain ⟨s3,sW⟩ := HSW.out;exact ⟨m2 _ (by omega) (fun C T e => by rw [hdW] at e; cases e),m2 _ (by omega) (fun C T e => by obtain ⟨r,hr⟩ := hlW; rw [hr] at e; cases e),_,_,m1⟩
    · go_simp;refine hK.out _ _ ⟨(World.cell?_alloc_lt _ _ _ (by exact hlb)).trans cb,(World.cell?_alloc_lt _ _ _ (by exact hpW)).trans cm⟩ ?_;clear hK KK hHeld;intro hHeld
      try simp only [lpq]
      have hX : Below W.heap.size W (W.drew.alloc (.cells #[.int .i64 (N.ma 2)] 2)) := blq.drew.alloc nlq _;have ch2 : (W.drew.alloc (.cells #[.int .i64 (N.ma 2)] 2)).cell? ⟨h1,0,none⟩ = some (.slice A (1 + pre.length) c) := (World.cell?_alloc_lt _ _ _ (by exact hlh)).trans ch;refine rdq1 0 fun KK hK => ?_;go_simp;refine hK.out _ _ ⟨(World.cell?_alloc_lt _ _ _ (by exact hlb)).trans cb,(World.cell?_alloc_lt _ _ _ (by exact hpW)).trans cm⟩ ?_;clear hK KK hHeld;intro hHeld
      try simp only [lpq]
      refine rdq1 9 fun KK hK => ?_;refine qR qaE _ (by rfl) _ _ (by rfl) A (1 + pre.length) c _ (by rfl) (hsp _ hX) (some ⟨W.heap.size,0,none⟩) 1 1 [.int .i64 (N.ma 2)] (by rfl) (fun e => by cases e) rfl (fun u hu => by rw [List.mem_singleton.1 hu]; rfl) (fun b e => by cases e; exact qac (heap_alloc_new _ _)) hL1 ?_;intro A' c' w4 hsp4 hA4 hg4;have hXs := hX.size;have hb4 := (hg4.block w.heap.size (by simp; omega) hnb).trans (hbx _ hX);have hh4 := (hg4.block h1 (by simp; omega) hnA).trans (hhv _ hX);have hp4 := (hg4.block p (by simp; omega) hpA).trans (hX.block p hpW);have cm4 : w4.cell? ⟨p,23,none⟩ = some (.int .i64 (N.ma 2)) := (World.cell?_of_block hp4).trans cm;have cb4 : w4.cell? ⟨w.heap.size,0,none⟩ = some (ptrV p) := qe hb4 0 _ rfl;have ch4 : w4.cell? ⟨h1,0,none⟩ = some (.slice A (1 + pre.length) c) := qe hh4 0 _ rfl;have fh4 := qf hh4 0
      try dsimp only
      refine hK.out _ _ ⟨cb4,cm4⟩ ?_;clear hK KK hHeld;intro hHeld
      try simp only [lpq]
      refine rdq1 10 fun KK hK => ?_;go_simp;refine hK.out _ _ ⟨(World.cell?_setCell_far _ _ _ _ hbh).trans cb4,(World.cell?_setCell_far _ _ _ _ hph).trans cm4⟩ ?_;clear hK KK hHeld;intro hHeld
      try simp only [lpq]
      refine dnq ?_;obtain ⟨m1,m2⟩ := HV.out.more hX hsp4 hA4 hg4;have M := hdq2 m1 m2;clear m1 m2 hsp4 hA4 hg4
      gi_wp2
      obtain ⟨m1,m2⟩ := M.out;obtain ⟨s3,sW⟩ := HSW.out;exact ⟨m2 _ (by omega) (fun C T e => by rw [hdW] at e; cases e),m2 _ (by omega) (fun C T e => by obtain ⟨r,hr⟩ := hlW; rw [hr] at e; cases e),_,_,m1⟩
 case done =>
  rintro W ⟨A,c,hv⟩ hd hsD;have hlow := hv0.below.size;have hR := H.out.below hv.below
  have hD : w.heap.size < W0.heap.size := by have := hv0.far; omega
  have hsz := hv.below.size;have hDW := hlt hd
  have hlen : (oth N.id N.n).length <= 3 := by
   unfold oth;exact Nat.le_trans (List.length_filter_le _ _) (by simp; omega)
  have hin : ∀ x ∈ haveL N (oth N.id N.n),In64 x := by
   intro x hx;rcases List.mem_cons.1 hx with rfl | hx
   · exact hli
   · obtain ⟨j,_,rfl⟩ := List.mem_map.1 hx;exact hma j
  have hnums : Nums W A (1 + (oth N.id N.n).length) (haveL N (oth N.id N.n)) := by
   refine ⟨qcU _ _,fun h0 => ?_⟩;obtain ⟨g,off,e,hg,hc,_⟩ := hv.row.at_ (by omega) 0 (by omega);refine ⟨g,off,e,hg,fun j hj => ?_⟩;obtain ⟨g',off',e',hg',hc',_⟩ := hv.row.at_ (by omega) j (by rw [qcU] at hj; exact hj);rw [e] at e';injection e' with e';injection e' with e1 e2;subst e1 e2;have := hc' 0 (by omega) (.int .i64 (haveL N (oth N.id N.n))[j]) (by simp [List.getElem?_map,List.getElem?_eq_getElem hj])
   simpa using this
  have hQ := qgC W A (1 + (oth N.id N.n).length) c _ hnums hv.row.2.1 hv.row.2.2.1 (by omega) hin
  have hre := qhQ (haveL N (oth N.id N.n)) (by rw [qcU]; omega) (fun x hx => by
   rcases List.mem_cons.1 hx with rfl | hx
   · exact hli0
   · obtain ⟨j,_,rfl⟩ := List.mem_map.1 hx
     exact hma0 j)
  have hset : N.settle = if Node.reached (haveL N (oth N.id N.n)) <= N.cm \/ N.lg.at_ (Node.reached (haveL N (oth N.id N.n))) ≠ some N.ht then (N,false) else ({ N with cm := Node.reached (haveL N (oth N.id N.n)) },true) := rfl;rw [hre] at hset;have HSET := Lib.hid hset;obtain ⟨kx,hkx⟩ := exq (reach (haveL N (oth N.id N.n)));rw [hkx] at hQ;have HKX := Lib.hid hkx;have ch : W.cell? ⟨h1,0,none⟩ = some (.slice A (1 + (oth N.id N.n).length) c) := qe hv.hv 0 _ rfl;have hC : ∀ X,Below W.heap.size W X -> X.cell? ⟨w.heap.size,0,none⟩ = some (ptrV p) /\ X.cell? ⟨p,9,none⟩ = some (.int .i64 N.cm) /\ X.frozen? ⟨p,9,none⟩ = false := fun X hX => ⟨qe ((hX.block _ (hlt hv.box)).trans hv.box) 0 _ rfl,(hR.below hX).c9,(hR.below hX).fz 9⟩
  have hOwn := fun X (hX : Below W.heap.size W X) => qj9 (hR.below hX) hl hg kx
  have HB := Lib.hid hv.below;have HR := Lib.hid hR;have HD := Lib.hid hd;have hpW : p < W.heap.size := Nat.lt_of_lt_of_le hp hsz
  have hDn : p ≠ W0.heap.size := by omega
  have hX0 : w.heap.size < W.heap.size := hlt hv.box;clear hv hv0 hre hset hkx hnums hin hR hd hlen;generalize W0.heap.size = D at *;clear hs3
  gi_wp2
  refine ⟨trivial,?_⟩;refine (callsIn_wide.2 hQ).mono ?_;rintro e w2 ⟨rfl,hb2⟩;obtain ⟨c0,c9,f9⟩ := hC w2 hb2;have hd2 := (hb2.block _ hDW).trans HD.out;have hOwn := hOwn w2 hb2;have HB2 := Lib.hid hb2;clear hQ hC hb2 ch
  by_cases hk : kx <= N.cm
  · have hs : N.settle = (N,false) := by rw [HSET.out,HKX.out,if_pos (.inl hk)]
    have HS := Lib.hid hs;clear hs;have hd1 : decide (kx <= N.cm) = true := decide_eq_true hk
    gi_wp2
    refine ⟨trivial,?_⟩
    gi_wp2
    obtain ⟨k1,k2⟩ := qi0 H.out (HB.out.trans (HB2.out.mono hsz)) hD;refine ⟨by simp, .inl ⟨_,_,rfl,run_takeDeferred hd2,?_⟩⟩;exact ⟨_,results_tmp rfl _ _ _,by rw [HS.out]; rfl,by rw [HS.out]; exact k1,k2⟩
  · have hk' : (kx <= N.cm) = False := eq_false hk;have hd1 : decide (kx <= N.cm) = false := decide_eq_false hk
    cases ho : N.ownB kx with
    | false =>
      rw [ho] at hOwn
      have hs : N.settle = (N,false) := by
       rw [HSET.out,HKX.out];exact if_pos (.inr (by unfold Node.ownB at ho; exact of_decide_eq_false ho))
      have HS := Lib.hid hs;clear hs ho hk
      gi_wp2
      refine ⟨trivial,?_⟩;refine (callsIn_wide.2 hOwn).mono ?_;rintro e w3 ⟨rfl,hb3⟩;have hd3 := (hb3.block _ (hlt hd2)).trans hd2
      gi_wp2
      obtain ⟨k1,k2⟩ := qi0 H.out ((HB.out.trans (HB2.out.mono hsz)).trans (hb3.mono (Nat.le_trans hsz HB2.out.size))) hD;refine ⟨by simp, .inl ⟨_,_,rfl,run_takeDeferred hd3,?_⟩⟩;exact ⟨_,results_tmp rfl _ _ _,by rw [HS.out]; rfl,by rw [HS.out]; exact k1,k2⟩
    | true =>
      rw [ho] at hOwn
      have hs : N.settle = ({ N with cm := kx },true) := by
       rw [HSET.out,HKX.out];refine if_neg fun e => e.elim hk fun e => e ?_;unfold Node.ownB at ho;exact of_decide_eq_true ho
      have HS := Lib.hid hs;clear hs ho hk
      gi_wp2
      refine ⟨trivial,?_⟩;refine (callsIn_wide.2 hOwn).mono ?_;rintro e w3 ⟨rfl,hb3⟩;have hd3 := (hb3.block _ (hlt hd2)).trans hd2;have hR3 := HR.out.below (HB2.out.trans (hb3.mono HB2.out.size));have g0 : w3.cell? ⟨w.heap.size,0,none⟩ = some (ptrV p) := (hb3.cell (p := ⟨w.heap.size,0,none⟩) (by have := HB2.out.size; have := hX0; show w.heap.size < w2.heap.size; omega)).trans c0;have g9 := hR3.c9;have k9 := hR3.fz 9;clear hR3
      gi_wp2
      obtain ⟨k1,k2⟩ := qkW H.out hZ ((HB.out.trans (HB2.out.mono hsz)).trans (hb3.mono (Nat.le_trans hsz HB2.out.size))) hD kx;have hd4 : (w3.setCell ⟨p,9,none⟩ (.int .i64 kx)).heap[D]? = some (.deferred (some [])) := (Below.heap_setCell _ _ _ _ (by exact fun e => hDn e.symm)).trans hd3;refine ⟨by simp, .inl ⟨_,_,rfl,run_takeDeferred hd4,?_⟩⟩;exact ⟨_,results_tmp rfl _ _ _,by rw [HS.out]; rfl,by rw [HS.out]; exact k1,k2⟩
end Go.Proofs.YtogbhedbgcmckaaGreat
