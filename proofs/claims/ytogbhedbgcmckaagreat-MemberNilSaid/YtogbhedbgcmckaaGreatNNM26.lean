/- The program's node: a copy of a snap; what is sent to another node. -/
import Derived.Test.YtogbhedbgcmckaaGreatNNM01
import Derived.Test.YtogbhedbgcmckaaGreatNNM25
import Derived.RangeFuncNested
import Derived.RangeFuncBound
import Derived.RangeFuncCalls
import Derived.RangeFuncLeaves
import Derived.Shelf.Abstract
import Derived.Shelf.RegionOpen
import Derived.OwnWalkIn
import Derived.TacticsInMore
import Derived.LoopNIn
import Derived.LoopIn
set_option linter.unusedVariables false
set_option linter.unusedSimpArgs false
set_option maxRecDepth 100000
set_option maxHeartbeats 3200000
namespace Go.Proofs.YtogbhedbgcmckaaGreat
open Go.RowKit
variable {w : World} {p : Nat} {N : Node} {Z : Nat -> Prop} {q : Ptrs} {s : Nat} {xs : List MLay} {K : Nat -> Prop}
theorem qaM (i t : Int) (A : Option Addr) (n c : Nat) (d : List UInt8) (w : World) (h : Lies w A n c d) (hb : n <= 140737488355328) :
 Calls Tryz.prog 66 #[.agg #[.int .i64 i, .int .i64 t, .slice A n c]] w fun e w' => ∃ E k,e = .returned (.agg #[.int .i64 i, .int .i64 t, .slice E n k]) /\ qs w' (fun q => w.heap.size + 2 <= q) ⟨⟨i,t,d⟩,E,k⟩ /\ (∀ q,blkR E q -> w.heap.size + 2 <= q) /\ Below w.heap.size w w' := by
 obtain rfl := h.1;have hA2 : Below w.heap.size w ((w.alloc (.cells #[.int .i64 i, .int .i64 t, .slice A d.length c] 25)).alloc (.cells #[.int .i64 0, .int .i64 0, .slice none 0 0] 25)) := (blq.alloc nlq _).alloc (by simp) _;have hr1 : ((w.alloc (.cells #[.int .i64 i, .int .i64 t, .slice A d.length c] 25)).alloc (.cells #[.int .i64 0, .int .i64 0, .slice none 0 0] 25)).heap[w.heap.size]? = some (.cells #[.int .i64 i, .int .i64 t, .slice A d.length c] 25) := (Below.heap_alloc _ _ _ (by simp)).trans (heap_alloc_new _ _);have hr2 := heap_alloc2_new w (.cells #[.int .i64 i, .int .i64 t, .slice A d.length c] 25) (.cells #[.int .i64 0, .int .i64 0, .slice none 0 0] 25);have hC := qas A d.length c d _ (h.below hA2 nlq) (by omega);simp only [World.size_alloc] at hC;clear h hb
 go_enter Tryz.func66,Tryz.ntmps66
 go_wp2_with fail
 refine hC.mono ?_;rintro e w3 ⟨v,rfl,ho,hb3⟩
 have hb3' : Below ((w.alloc (.cells #[.int .i64 i, .int .i64 t, .slice A d.length c] 25)).alloc (.cells #[.int .i64 0, .int .i64 0, .slice none 0 0] 25)).heap.size ((w.alloc (.cells #[.int .i64 i, .int .i64 t, .slice A d.length c] 25)).alloc (.cells #[.int .i64 0, .int .i64 0, .slice none 0 0] 25)) w3 := by simpa using hb3
 have hs1 := (hb3'.block _ (hlt hr1)).trans hr1;have hs2 := (hb3'.block _ (hlt hr2)).trans hr2;have hbw := hA2.trans (hb3'.mono hA2.size);obtain ⟨E,k,rfl,hl,hE⟩ := qp ho;have hcap := qex ho;have hown := Owns.lt ho;obtain ⟨⟨a0,a1,a2⟩,⟨f0,f1,f2⟩⟩ := row3 hs1;obtain ⟨_,⟨g0,g1,g2⟩⟩ := row3 hs2
 have hne : w.heap.size + 1 ≠ w.heap.size := by omega
 have t1 := (Below.heap_setCell w3 ⟨w.heap.size,2,none⟩ (.slice E d.length k) (w.heap.size + 1) hne).trans hs2;have hfin := qN _ (w.heap.size + 1) (.int .i64 i) (.int .i64 t) (.slice E d.length k) _ _ _ _ t1;have t2 : Below w.heap.size w (w3.setCell ⟨w.heap.size,2,none⟩ (.slice E d.length k)) := hbw.setCell nlq _;have hbf := qcR t2 (w.heap.size + 1) (by omega) (.int .i64 i) (.int .i64 t) (.slice E d.length k)
 have hok : qs ((((w3.setCell ⟨w.heap.size,2,none⟩ (.slice E d.length k)).setCell ⟨w.heap.size + 1,0,none⟩ (.int .i64 i)).setCell ⟨w.heap.size + 1,1,none⟩ (.int .i64 t)).setCell ⟨w.heap.size + 1,2,none⟩ (.slice E d.length k)) (fun q => w.heap.size + 2 <= q) ⟨⟨i,t,d⟩,E,k⟩ := by
  have hz : ∀ q o,E = some ⟨q,o,none⟩ -> w.heap.size + 2 <= q := fun q o e => (hown q (hE q o e)).1
  refine ⟨nlq,?_,fun _ q o e => hz q o e⟩;show Lies _ E d.length k d;refine hl.keep (by simp) fun h0 q o e hq => ?_;have := hz q o e;exact (Below.heap_setCell _ _ _ _ (by show q ≠ w.heap.size + 1; omega)).trans ((Below.heap_setCell _ _ _ _ (by show q ≠ w.heap.size + 1; omega)).trans ((Below.heap_setCell _ _ _ _ (by show q ≠ w.heap.size + 1; omega)).trans (Below.heap_setCell _ _ _ _ (by show q ≠ w.heap.size; omega))))
 have HOK := Lib.hid hok;have HZ := Lib.hid (show ∀ q,blkR E q -> w.heap.size + 2 <= q from fun q ⟨o,e⟩ => (hown q (hE q o e)).1);clear hok hl hE hcap hown ho hb3 hb3' hs1 hs2 hr1 hr2 hA2 hC t1 t2 hbw;go_wp2;refine bodyPost_ret (qE (n := w.heap.size + 1) rfl rfl hfin Tryz.underlying25 rfl (by kernel_rfl)) rfl ?_;exact ⟨E,k,rfl,HOK.out,HZ.out,hbf⟩
def Turned (w w' : World) (p : Nat) (N : Node) (Z : Nat -> Prop) (q : Ptrs) (s : Nat) : Prop := ∃ q' xs K,RfAt w' p N Z q' s xs K /\ q'.l = q.l /\ qa Z w w'
section
variable {w w' : World} {p : Nat} {N : Node} {Z : Nat → Prop} {q : Ptrs} {s : Nat} {xs : List MLay} {K : Nat → Prop}
theorem Said.turned {X : World} {K' : Nat -> Prop} {x : MLay} {N' : Node} (h : Said X w' p N Z q s xs K' x) (hb : Below w.heap.size w X) (e : N' = { N with ms := N.ms ++ [x.m] }) : Turned w w' p N' Z q s := by
 obtain ⟨A',c',h1,h2⟩ := h;subst e;exact ⟨_,_,_,h1,rfl,(qb hb nlq).trans h2⟩
theorem Said.cells {K' : Nat -> Prop} {x : MLay} {xs' : List MLay} {q' : Ptrs} {s' : Nat} {X : World} (h : Said X w' p N Z q' s' xs' K' x) : w'.cell? ⟨p,8,none⟩ = some (ptrV q'.l) /\ w'.cell? ⟨p,9,none⟩ = some (.int .i64 N.cm) /\ w'.cell? ⟨p,25,none⟩ = some (.int .i64 N.cx) := by
 obtain ⟨A',c',h1,h2⟩ := h;exact ⟨h1.c8,h1.c9,h1.c25⟩
theorem Ents.old {A : Option Addr} {n c : Nat} {ls : List Ent} {Y : Nat -> Prop} (h : Ents w Y A n c ls) : Ents w (fun b => Y b /\ b < w.heap.size) A n c ls := by
 refine ⟨h.1,h.2.1,h.2.2.1,fun h0 => ?_⟩;obtain ⟨g,off,e,hg,hz,hc⟩ := h.2.2.2 h0;refine ⟨g,off,e,hg,⟨hz,hg⟩,fun j hj => ?_⟩;obtain ⟨E,c,c0,c1,c2,hm,hl,hzE⟩ := hc j hj;refine ⟨E,c,c0,c1,c2,hm,hl,fun h1 q o eq => ⟨hzE h1 q o eq,?_⟩⟩;obtain ⟨g',o',ee,hg',_⟩ := hl.2.2.2 h1;rw [eq] at ee;injection ee with ee;injection ee with ee;subst ee;exact hg'
theorem qcs {N : Node} {j : Nat} (h : N.nx j <= N.lg.i) (hn : N.id < 4) : N.send j = { N with ms := N.ms ++ [⟨7,N.id,j,N.ht,0,0,0,0,false,[],N.sn⟩] } := by
 unfold Node.send;rw [if_pos h]
 rfl
theorem qdz {N : Node} {j : Nat} (h : ¬ N.nx j <= N.lg.i) : N.send j = { N with ms := N.ms ++ [⟨5,N.id,j,N.ht,N.nx j - 1,(N.lg.at_ (N.nx j - 1)).getD 0,N.cm,N.cx,false,N.lg.fromL (N.nx j) 4,Node.noEnt⟩] } := by
 unfold Node.send;rw [if_neg h]
 rfl
end
theorem qkO (h : RfAt w p N Z q s xs K) (hZ : ∀ b,Z b -> b < w.heap.size) (hm : N.ms.length < 999999) (hl : N.lg.l.length <= 1000000) (hg : qk N.lg) (hx : -4611686018427387904 <= N.nx 0 /\ N.nx 0 <= 4611686018427387904) (hsd : N.sn.d.length <= 50000) (hid : N.id < 4) :
 Calls Tryz.prog 79 #[ptrV p, .int .i64 0] w fun e w' => e = .returned (.tuple #[]) /\ Turned w w' p (N.send 0) Z q s := by
 have c16 := h.c16;have c8 := h.c8;have hp := h.lt;obtain ⟨A,c,hr⟩ := h.log.rd;have hB := qaY hr
 by_cases hw : N.nx 0 <= N.lg.i
 · rw [qcs hw hid]
   have hC : ∀ X,Below w.heap.size w X -> RfAt X p N Z q s xs K := fun X hX => h.below hX
   have H := Lib.hid h;clear h hr
   go_enter Tryz.func79,Tryz.ntmps79
   go_wp2_with fail
   refine hB.mono ?_;rintro e w1 ⟨rfl,hb1⟩;have h1 := hC w1 hb1;have c4 := h1.c4;have c5 := h1.c5;have c6 := h1.c6;have hCo := qaM N.sn.i N.sn.t q.E N.sn.d.length q.cE N.sn.d w1 h1.snp (by omega);have H1 := Lib.hid h1;clear hC hB h1
   go_wp2_with fail
   refine hCo.mono ?_;rintro e w2 ⟨E,k,rfl,hok,hE,hb2⟩;have hbw := hb1.trans (hb2.mono hb1.size);have h2 := H.out.grow hZ hbw;have hl2 : Lies w2 E N.sn.d.length k N.sn.d := hok.2.1
   have hin : 0 < N.sn.d.length -> ∀ g o,E = some ⟨g,o,none⟩ -> w.heap.size <= g /\ g < w2.heap.size := fun h0 g o e => by
    obtain ⟨g',o',ee,hg',_⟩ := hl2.2.2.2 h0;rw [e] at ee;injection ee with ee;injection ee with ee;have := hE g ⟨o,e⟩;have := hb1.size;omega
   have hS := qaU h2 (fun b hb => Nat.lt_of_lt_of_le (hZ b hb) hbw.size) hm 0 ⟨⟨7,0,0,0,0,0,0,0,false,[],N.sn⟩,none,0,E,k⟩ ⟨qa9 _ _,Nat.zero_le _,hl2,fun h0 g o e => ⟨.inr (hin h0 g o e),H.out.old (hin h0 g o e).1⟩⟩;have HB := Lib.hid hbw;clear h2 hok hE hb2 hbw hCo hb1 hZ hl2 hin
   go_wp2_with fail
   refine hS.mono ?_;rintro e w3 ⟨rfl,hT⟩;have HT := Lib.hid (hT.turned HB.out (N' := { N with ms := N.ms ++ [⟨7,N.id,((0 : Nat) : Int),N.ht,0,0,0,0,false,[],N.sn⟩] }) rfl);clear hT hS;go_wp2;refine bpq ?_;exact ⟨rfl,HT.out⟩
 · rw [qdz hw];obtain ⟨A1,c1,ys,hla⟩ := h.log;obtain ⟨J,hJ⟩ : ∃ J,J = N.nx 0 - 1 := ⟨_,rfl⟩
   have hT := fun W (hW : Below w.heap.size w W) => qbY (hla.keep hW.size fun b hb _ => hW.block b hb).rd hl hg J
   have hF := fun W (hW : Below w.heap.size w W) => qbZ (hla.keep hW.size fun b hb _ => hW.block b hb) hl hg (N.nx 0) 4
   unfold atV at hT
   have hle : (N.lg.fromL (N.nx 0) 4).length <= 4 := by
    unfold RL.fromL
    split
    · exact Nat.zero_le _
    · rw [List.length_take]; omega
   generalize hes : N.lg.fromL (N.nx 0) 4 = es at *;obtain ⟨tv,htv⟩ : ∃ tv,tv = (N.lg.at_ J).getD 0 := ⟨_,rfl⟩;generalize (N.lg.at_ J).isSome = tb at *;rw [<- hJ,<- htv];rw [<- htv] at hT
   have y1 : wrap64 (N.nx 0 - 1) = J := by rw [hJ,<- IntWalk.i64_left,IntWalk.i64_in _ (by omega)]
   have y2 : IntKind.i64.wrap (N.nx 0 - 1) = J := by rw [hJ,IntWalk.i64_in _ (by omega)]
   have q1 : (N.nx 0 <= N.lg.i) = False := eq_false hw;have q1d : decide (N.nx 0 <= N.lg.i) = false := decide_eq_false hw;have hC : ∀ X,Below w.heap.size w X -> X.cell? ⟨p,8,none⟩ = some (ptrV q.l) /\ X.cell? ⟨p,9,none⟩ = some (.int .i64 N.cm) /\ X.cell? ⟨p,25,none⟩ = some (.int .i64 N.cx) := fun X hX => ⟨(h.below hX).c8,(h.below hX).c9,(h.below hX).c25⟩;have H := Lib.hid h;have HX := hdq2 hJ htv;clear h hr hla hJ htv hw hes hx
   go_enter Tryz.func79,Tryz.ntmps79
   go_wp2_with fail
   refine hB.mono ?_;rintro e w1 ⟨rfl,hb1⟩;obtain ⟨a8,_,_⟩ := hC w1 hb1;have hT := hT w1 hb1;clear hB
   go_wp2_with fail
   refine hT.mono ?_;rintro e w2 ⟨rfl,hb2⟩;have hbw := hb1.trans (hb2.mono hb1.size);obtain ⟨b8,b9,b25⟩ := hC w2 hbw;clear hT a8 hb1 hb2
   go_upto_region 5 with fail
   go_region_held3 (fun w' => w'.cell? ⟨p,8,none⟩ = some (ptrV q.l) /\ w'.cell? ⟨p,9,none⟩ = some (.int .i64 N.cm) /\ w'.cell? ⟨p,25,none⟩ = some (.int .i64 N.cx))
    (first | exact hS7 | exact ⟨b8,b9,b25⟩ | (go_keep; done))
    (first
      | (go_at_call 87
         refine (hF _ (by first | exact hbw | exact hbw.drew)).mono ?_;rintro e w3 ⟨A',c',rfl,hE,rfl,hb3⟩
         have hb3' : Below w2.heap.size w2 w3 := by first | exact hb3 | exact blq.drew.trans hb3
         have hbw3 := hbw.trans (hb3'.mono hbw.size)
         have hMI : qC w3 (Pay N.sn.d.length q.E (fun b => K b \/ (w.heap.size <= b /\ b < w3.heap.size))) ⟨5,0,0,0,J,tv,N.cm,N.cx,false,es,Node.noEnt⟩ A' es.length none 0 := by
          refine ⟨(hE.old).mono fun b hb => ⟨.inr ⟨Nat.le_trans hbw.size hb.1,hb.2⟩,H.out.old (Nat.le_trans hbw.size hb.1)⟩,?_,Lies.nil _,fun h0 => absurd h0 (by simp [Node.noEnt])⟩;unfold maxLen;omega
         have HMI := Lib.hid hMI;clear hMI hE
         have hS7 := hC w3 hbw3)
      | (go_at_call 94
         refine (qaU (H.out.grow hZ hbw3) (fun b hb => Nat.lt_of_lt_of_le (hZ b hb) hbw3.size) hm 0 ⟨⟨5,0,0,0,J,tv,N.cm,N.cx,false,es,Node.noEnt⟩,A',es.length,none,0⟩ HMI.out).mono ?_;rintro e w4 ⟨rfl,hT4⟩;have HT := Lib.hid (hT4.turned hbw3 (N' := { N with ms := N.ms ++ [⟨5,N.id,((0 : Nat) : Int),N.ht,J,tv,N.cm,N.cx,false,es,Node.noEnt⟩] }) rfl);have hS7 := hT4.cells
         clear hT4))
   go_wp2;refine bpq ?_;exact ⟨rfl,HT.out⟩
theorem qkP (h : RfAt w p N Z q s xs K) (hZ : ∀ b,Z b -> b < w.heap.size) (hm : N.ms.length < 999999) (hl : N.lg.l.length <= 1000000) (hg : qk N.lg) (hx : -4611686018427387904 <= N.nx 1 /\ N.nx 1 <= 4611686018427387904) (hsd : N.sn.d.length <= 50000) (hid : N.id < 4) :
 Calls Tryz.prog 79 #[ptrV p, .int .i64 1] w fun e w' => e = .returned (.tuple #[]) /\ Turned w w' p (N.send 1) Z q s := by
 have c19 := h.c19;have c8 := h.c8;have hp := h.lt;obtain ⟨A,c,hr⟩ := h.log.rd;have hB := qaY hr
 by_cases hw : N.nx 1 <= N.lg.i
 · rw [qcs hw hid]
   have hC : ∀ X,Below w.heap.size w X -> RfAt X p N Z q s xs K := fun X hX => h.below hX
   have H := Lib.hid h;clear h hr
   go_enter Tryz.func79,Tryz.ntmps79
   go_wp2_with fail
   refine hB.mono ?_;rintro e w1 ⟨rfl,hb1⟩;have h1 := hC w1 hb1;have c4 := h1.c4;have c5 := h1.c5;have c6 := h1.c6;have hCo := qaM N.sn.i N.sn.t q.E N.sn.d.length q.cE N.sn.d w1 h1.snp (by omega);have H1 := Lib.hid h1;clear hC hB h1
   go_wp2_with fail
   refine hCo.mono ?_;rintro e w2 ⟨E,k,rfl,hok,hE,hb2⟩;have hbw := hb1.trans (hb2.mono hb1.size);have h2 := H.out.grow hZ hbw;have hl2 : Lies w2 E N.sn.d.length k N.sn.d := hok.2.1
   have hin : 0 < N.sn.d.length -> ∀ g o,E = some ⟨g,o,none⟩ -> w.heap.size <= g /\ g < w2.heap.size := fun h0 g o e => by
    obtain ⟨g',o',ee,hg',_⟩ := hl2.2.2.2 h0;rw [e] at ee;injection ee with ee;injection ee with ee;have := hE g ⟨o,e⟩;have := hb1.size;omega
   have hS := qaU h2 (fun b hb => Nat.lt_of_lt_of_le (hZ b hb) hbw.size) hm 1 ⟨⟨7,0,0,0,0,0,0,0,false,[],N.sn⟩,none,0,E,k⟩ ⟨qa9 _ _,Nat.zero_le _,hl2,fun h0 g o e => ⟨.inr (hin h0 g o e),H.out.old (hin h0 g o e).1⟩⟩;have HB := Lib.hid hbw;clear h2 hok hE hb2 hbw hCo hb1 hZ hl2 hin
   go_wp2_with fail
   refine hS.mono ?_;rintro e w3 ⟨rfl,hT⟩;have HT := Lib.hid (hT.turned HB.out (N' := { N with ms := N.ms ++ [⟨7,N.id,((1 : Nat) : Int),N.ht,0,0,0,0,false,[],N.sn⟩] }) rfl);clear hT hS;go_wp2;refine bpq ?_;exact ⟨rfl,HT.out⟩
 · rw [qdz hw];obtain ⟨A1,c1,ys,hla⟩ := h.log;obtain ⟨J,hJ⟩ : ∃ J,J = N.nx 1 - 1 := ⟨_,rfl⟩
   have hT := fun W (hW : Below w.heap.size w W) => qbY (hla.keep hW.size fun b hb _ => hW.block b hb).rd hl hg J
   have hF := fun W (hW : Below w.heap.size w W) => qbZ (hla.keep hW.size fun b hb _ => hW.block b hb) hl hg (N.nx 1) 4
   unfold atV at hT
   have hle : (N.lg.fromL (N.nx 1) 4).length <= 4 := by
    unfold RL.fromL
    split
    · exact Nat.zero_le _
    · rw [List.length_take]; omega
   generalize hes : N.lg.fromL (N.nx 1) 4 = es at *;obtain ⟨tv,htv⟩ : ∃ tv,tv = (N.lg.at_ J).getD 0 := ⟨_,rfl⟩;generalize (N.lg.at_ J).isSome = tb at *;rw [<- hJ,<- htv];rw [<- htv] at hT
   have y1 : wrap64 (N.nx 1 - 1) = J := by rw [hJ,<- IntWalk.i64_left,IntWalk.i64_in _ (by omega)]
   have y2 : IntKind.i64.wrap (N.nx 1 - 1) = J := by rw [hJ,IntWalk.i64_in _ (by omega)]
   have q1 : (N.nx 1 <= N.lg.i) = False := eq_false hw;have q1d : decide (N.nx 1 <= N.lg.i) = false := decide_eq_false hw;have hC : ∀ X,Below w.heap.size w X -> X.cell? ⟨p,8,none⟩ = some (ptrV q.l) /\ X.cell? ⟨p,9,none⟩ = some (.int .i64 N.cm) /\ X.cell? ⟨p,25,none⟩ = some (.int .i64 N.cx) := fun X hX => ⟨(h.below hX).c8,(h.below hX).c9,(h.below hX).c25⟩;have H := Lib.hid h;have HX := hdq2 hJ htv;clear h hr hla hJ htv hw hes hx
   go_enter Tryz.func79,Tryz.ntmps79
   go_wp2_with fail
   refine hB.mono ?_;rintro e w1 ⟨rfl,hb1⟩;obtain ⟨a8,_,_⟩ := hC w1 hb1;have hT := hT w1 hb1;clear hB
   go_wp2_with fail
   refine hT.mono ?_;rintro e w2 ⟨rfl,hb2⟩;have hbw := hb1.trans (hb2.mono hb1.size);obtain ⟨b8,b9,b25⟩ := hC w2 hbw;clear hT a8 hb1 hb2
   go_upto_region 5 with fail
   go_region_held3 (fun w' => w'.cell? ⟨p,8,none⟩ = some (ptrV q.l) /\ w'.cell? ⟨p,9,none⟩ = some (.int .i64 N.cm) /\ w'.cell? ⟨p,25,none⟩ = some (.int .i64 N.cx))
    (first | exact hS7 | exact ⟨b8,b9,b25⟩ | (go_keep; done))
    (first
      | (go_at_call 87
         refine (hF _ (by first | exact hbw | exact hbw.drew)).mono ?_;rintro e w3 ⟨A',c',rfl,hE,rfl,hb3⟩
         have hb3' : Below w2.heap.size w2 w3 := by first | exact hb3 | exact blq.drew.trans hb3
         have hbw3 := hbw.trans (hb3'.mono hbw.size)
         have hMI : qC w3 (Pay N.sn.d.length q.E (fun b => K b \/ (w.heap.size <= b /\ b < w3.heap.size))) ⟨5,0,0,0,J,tv,N.cm,N.cx,false,es,Node.noEnt⟩ A' es.length none 0 := by
          refine ⟨(hE.old).mono fun b hb => ⟨.inr ⟨Nat.le_trans hbw.size hb.1,hb.2⟩,H.out.old (Nat.le_trans hbw.size hb.1)⟩,?_,Lies.nil _,fun h0 => absurd h0 (by simp [Node.noEnt])⟩;unfold maxLen;omega
         have HMI := Lib.hid hMI;clear hMI hE
         have hS7 := hC w3 hbw3)
      | (go_at_call 94
         refine (qaU (H.out.grow hZ hbw3) (fun b hb => Nat.lt_of_lt_of_le (hZ b hb) hbw3.size) hm 1 ⟨⟨5,0,0,0,J,tv,N.cm,N.cx,false,es,Node.noEnt⟩,A',es.length,none,0⟩ HMI.out).mono ?_;rintro e w4 ⟨rfl,hT4⟩;have HT := Lib.hid (hT4.turned hbw3 (N' := { N with ms := N.ms ++ [⟨5,N.id,((1 : Nat) : Int),N.ht,J,tv,N.cm,N.cx,false,es,Node.noEnt⟩] }) rfl);have hS7 := hT4.cells
         clear hT4))
   go_wp2;refine bpq ?_;exact ⟨rfl,HT.out⟩
theorem qkQ (h : RfAt w p N Z q s xs K) (hZ : ∀ b,Z b -> b < w.heap.size) (hm : N.ms.length < 999999) (hl : N.lg.l.length <= 1000000) (hg : qk N.lg) (hx : -4611686018427387904 <= N.nx 2 /\ N.nx 2 <= 4611686018427387904) (hsd : N.sn.d.length <= 50000) (hid : N.id < 4) :
 Calls Tryz.prog 79 #[ptrV p, .int .i64 2] w fun e w' => e = .returned (.tuple #[]) /\ Turned w w' p (N.send 2) Z q s := by
 have c22 := h.c22;have c8 := h.c8;have hp := h.lt;obtain ⟨A,c,hr⟩ := h.log.rd;have hB := qaY hr
 by_cases hw : N.nx 2 <= N.lg.i
 · rw [qcs hw hid]
   have hC : ∀ X,Below w.heap.size w X -> RfAt X p N Z q s xs K := fun X hX => h.below hX
   have H := Lib.hid h;clear h hr
   go_enter Tryz.func79,Tryz.ntmps79
   go_wp2_with fail
   refine hB.mono ?_;rintro e w1 ⟨rfl,hb1⟩;have h1 := hC w1 hb1;have c4 := h1.c4;have c5 := h1.c5;have c6 := h1.c6;have hCo := qaM N.sn.i N.sn.t q.E N.sn.d.length q.cE N.sn.d w1 h1.snp (by omega);have H1 := Lib.hid h1;clear hC hB h1
   go_wp2_with fail
   refine hCo.mono ?_;rintro e w2 ⟨E,k,rfl,hok,hE,hb2⟩;have hbw := hb1.trans (hb2.mono hb1.size);have h2 := H.out.grow hZ hbw;have hl2 : Lies w2 E N.sn.d.length k N.sn.d := hok.2.1
   have hin : 0 < N.sn.d.length -> ∀ g o,E = some ⟨g,o,none⟩ -> w.heap.size <= g /\ g < w2.heap.size := fun h0 g o e => by
    obtain ⟨g',o',ee,hg',_⟩ := hl2.2.2.2 h0;rw [e] at ee;injection ee with ee;injection ee with ee;have := hE g ⟨o,e⟩;have := hb1.size;omega
   have hS := qaU h2 (fun b hb => Nat.lt_of_lt_of_le (hZ b hb) hbw.size) hm 2 ⟨⟨7,0,0,0,0,0,0,0,false,[],N.sn⟩,none,0,E,k⟩ ⟨qa9 _ _,Nat.zero_le _,hl2,fun h0 g o e => ⟨.inr (hin h0 g o e),H.out.old (hin h0 g o e).1⟩⟩;have HB := Lib.hid hbw;clear h2 hok hE hb2 hbw hCo hb1 hZ hl2 hin
   go_wp2_with fail
   refine hS.mono ?_;rintro e w3 ⟨rfl,hT⟩;have HT := Lib.hid (hT.turned HB.out (N' := { N with ms := N.ms ++ [⟨7,N.id,((2 : Nat) : Int),N.ht,0,0,0,0,false,[],N.sn⟩] }) rfl);clear hT hS;go_wp2;refine bpq ?_;exact ⟨rfl,HT.out⟩
 · rw [qdz hw];obtain ⟨A1,c1,ys,hla⟩ := h.log;obtain ⟨J,hJ⟩ : ∃ J,J = N.nx 2 - 1 := ⟨_,rfl⟩
   have hT := fun W (hW : Below w.heap.size w W) => qbY (hla.keep hW.size fun b hb _ => hW.block b hb).rd hl hg J
   have hF := fun W (hW : Below w.heap.size w W) => qbZ (hla.keep hW.size fun b hb _ => hW.block b hb) hl hg (N.nx 2) 4
   unfold atV at hT
   have hle : (N.lg.fromL (N.nx 2) 4).length <= 4 := by
    unfold RL.fromL
    split
    · exact Nat.zero_le _
    · rw [List.length_take]; omega
   generalize hes : N.lg.fromL (N.nx 2) 4 = es at *;obtain ⟨tv,htv⟩ : ∃ tv,tv = (N.lg.at_ J).getD 0 := ⟨_,rfl⟩;generalize (N.lg.at_ J).isSome = tb at *;rw [<- hJ,<- htv];rw [<- htv] at hT
   have y1 : wrap64 (N.nx 2 - 1) = J := by rw [hJ,<- IntWalk.i64_left,IntWalk.i64_in _ (by omega)]
   have y2 : IntKind.i64.wrap (N.nx 2 - 1) = J := by rw [hJ,IntWalk.i64_in _ (by omega)]
   have q1 : (N.nx 2 <= N.lg.i) = False := eq_false hw;have q1d : decide (N.nx 2 <= N.lg.i) = false := decide_eq_false hw;have hC : ∀ X,Below w.heap.size w X -> X.cell? ⟨p,8,none⟩ = some (ptrV q.l) /\ X.cell? ⟨p,9,none⟩ = some (.int .i64 N.cm) /\ X.cell? ⟨p,25,none⟩ = some (.int .i64 N.cx) := fun X hX => ⟨(h.below hX).c8,(h.below hX).c9,(h.below hX).c25⟩;have H := Lib.hid h;have HX := hdq2 hJ htv;clear h hr hla hJ htv hw hes hx
   go_enter Tryz.func79,Tryz.ntmps79
   go_wp2_with fail
   refine hB.mono ?_;rintro e w1 ⟨rfl,hb1⟩;obtain ⟨a8,_,_⟩ := hC w1 hb1;have hT := hT w1 hb1;clear hB
   go_wp2_with fail
   refine hT.mono ?_;rintro e w2 ⟨rfl,hb2⟩;have hbw := hb1.trans (hb2.mono hb1.size);obtain ⟨b8,b9,b25⟩ := hC w2 hbw;clear hT a8 hb1 hb2
   go_upto_region 5 with fail
   go_region_held3 (fun w' => w'.cell? ⟨p,8,none⟩ = some (ptrV q.l) /\ w'.cell? ⟨p,9,none⟩ = some (.int .i64 N.cm) /\ w'.cell? ⟨p,25,none⟩ = some (.int .i64 N.cx))
    (first | exact hS7 | exact ⟨b8,b9,b25⟩ | (go_keep; done))
    (first
      | (go_at_call 87
         refine (hF _ (by first | exact hbw | exact hbw.drew)).mono ?_;rintro e w3 ⟨A',c',rfl,hE,rfl,hb3⟩
         have hb3' : Below w2.heap.size w2 w3 := by first | exact hb3 | exact blq.drew.trans hb3
         have hbw3 := hbw.trans (hb3'.mono hbw.size)
         have hMI : qC w3 (Pay N.sn.d.length q.E (fun b => K b \/ (w.heap.size <= b /\ b < w3.heap.size))) ⟨5,0,0,0,J,tv,N.cm,N.cx,false,es,Node.noEnt⟩ A' es.length none 0 := by
          refine ⟨(hE.old).mono fun b hb => ⟨.inr ⟨Nat.le_trans hbw.size hb.1,hb.2⟩,H.out.old (Nat.le_trans hbw.size hb.1)⟩,?_,Lies.nil _,fun h0 => absurd h0 (by simp [Node.noEnt])⟩;unfold maxLen;omega
         have HMI := Lib.hid hMI;clear hMI hE
         have hS7 := hC w3 hbw3)
      | (go_at_call 94
         refine (qaU (H.out.grow hZ hbw3) (fun b hb => Nat.lt_of_lt_of_le (hZ b hb) hbw3.size) hm 2 ⟨⟨5,0,0,0,J,tv,N.cm,N.cx,false,es,Node.noEnt⟩,A',es.length,none,0⟩ HMI.out).mono ?_;rintro e w4 ⟨rfl,hT4⟩;have HT := Lib.hid (hT4.turned hbw3 (N' := { N with ms := N.ms ++ [⟨5,N.id,((2 : Nat) : Int),N.ht,J,tv,N.cm,N.cx,false,es,Node.noEnt⟩] }) rfl);have hS7 := hT4.cells
         clear hT4))
   go_wp2;refine bpq ?_;exact ⟨rfl,HT.out⟩
theorem qiU (h : RfAt w p N Z q s xs K) (hZ : ∀ b,Z b -> b < w.heap.size) (hm : N.ms.length < 999999) (hl : N.lg.l.length <= 1000000) (hg : qk N.lg) (hx : ∀ j,-4611686018427387904 <= N.nx j /\ N.nx j <= 4611686018427387904) (hsd : N.sn.d.length <= 50000) (hid : N.id < 4) (j : Nat) (hj : j < 3) :
 Calls Tryz.prog 79 #[ptrV p, .int .i64 (j : Int)] w fun e w' => e = .returned (.tuple #[]) /\ Turned w w' p (N.send j) Z q s := by
 obtain rfl | rfl | rfl : j = 0 \/ j = 1 \/ j = 2 := by omega
 · exact qkO h hZ hm hl hg (hx 0) hsd hid
 · exact qkP h hZ hm hl hg (hx 1) hsd hid
 · exact qkQ h hZ hm hl hg (hx 2) hsd hid
end Go.Proofs.YtogbhedbgcmckaaGreat
set_option linter.unusedVariables false
set_option linter.unusedSimpArgs false
set_option maxRecDepth 100000
set_option maxHeartbeats 1000000
namespace Go.Proofs.YtogbhedbgcmckaaGreat
open Go.RowKit Go.Shelf
attribute [local go_sem] Oper.semAt_some
def oth (id k : Nat) : List Nat := (List.range k).filter fun j => decide (j ≠ id)
theorem qct (id k : Nat) : oth id (k + 1) = if k = id then oth id k else oth id k ++ [k] := by
 unfold oth;rw [List.range_succ,List.filter_append]
 by_cases h : k = id
 · rw [if_pos h]; simp [h]
 · rw [if_neg h]; simp [h]
theorem qkR (id n : Nat) : ∀ k,k <= n -> oth id k <+: oth id n := by
 induction n with
 | zero => intro k hk; rw [Nat.le_zero.1 hk]; exact List.prefix_refl _
 | succ n ih =>
   intro k hk;rcases Nat.lt_or_ge k (n + 1) with h | h
   · refine (ih k (by omega)).trans ?_;rw [qct]
     split
     · exact List.prefix_refl _
     · exact List.prefix_append _ _
   · rw [show k = n + 1 by omega]; exact List.prefix_refl _
theorem qiV (m l p id n : Nat) (hn : n <= 3) (J : List Nat -> World -> Prop) (hJc : ∀ pre W,J pre W -> W.cell? ⟨p,0,none⟩ = some (.int .i64 (id : Int)))
 (hY : ∀ pre x W,J pre W -> x < n -> x ≠ id -> pre ++ [x] <+: oth id n -> YieldAt Fence.wide (m - 1) Tryz.prog l #[.int .i64 (x : Int)] W fun e W' => e = .returned (.bool true) /\ J (pre ++ [x]) W')
 (W : World) (hc1 : W.cell? ⟨p,1,none⟩ = some (.int .i64 (n : Int))) (h0 : J [] W) :
 CallsIn Fence.wide m Tryz.prog 78 #[ptrV p, .func (.yield l) #[] #[]] W fun e W' => (∃ v,e = .returned v) /\ J (oth id n) W' := by
 refine callsIn_of_wp Tryz.func78 rfl trivial ?_ rfl;simp only [Tryz.ntmps78,List.size_toArray,List.length_cons,List.length_nil,Nat.reduceAdd,Nat.reduceSub,Array.replicate_succ,Array.replicate_zero,List.push_toArray,List.append_toArray,List.nil_append,List.cons_append]
 gi_wp2
 gi_loopw [9] (fun i wr => ∃ k : Nat,k <= n /\ i = .int .i64 (k : Int) /\ J (oth id k) wr) (fun i _ => n - (intOf i).toNat)
 case atStart => exact ⟨0,Nat.zero_le _,rfl,h0⟩
 case round =>
  obtain ⟨k,hk,rfl,hJs⟩ := hrel;have hc0 := hJc _ _ hJs
  by_cases hlt : k < n
  · by_cases hid : k = id
    · have q1 : ((k : Int) != (id : Int)) = false := by rw [hid]; simp
      have q2 : ((k : Int) = (id : Int)) = True := eq_true (by omega)
      gi_wp2
      refine ⟨fun _ h => (by cases h),?_⟩
      gi_wp2
      go_roundw
      case rel => exact ⟨k + 1,by omega,by simp [hid],by rw [qct,if_pos hid]; exact hJs⟩
      case measure => simp [intOf]; omega
    · have q1 : ((k : Int) != (id : Int)) = true := by rw [bne_iff_ne]; omega
      have q2 : ((k : Int) = (id : Int)) = False := eq_false (by omega);obtain ⟨fn,tmps,assign,body,hy,hR⟩ := hY _ k wr hJs hlt hid (by have := qkR id n (k + 1) (by omega); rwa [qct,if_neg hid] at this)
      gi_wp2
      refine ⟨fun h => (by cases h),?_⟩;refine hR.mono ?_;rintro e W3 ⟨rfl,hJ3⟩
      gi_wp2
      go_roundw
      case rel => exact ⟨k + 1,by omega,by simp,by rw [qct,if_neg hid]; exact hJ3⟩
      case measure => simp [intOf]; omega
  · obtain rfl : k = n := by omega
    gi_wp2
    go_end0
    exact ⟨⟨_,rfl⟩,hJs⟩
def roundEnd (B : Nat) (I : World -> Prop) (W : World) : Exit -> Act -> World -> Prop
 | .normal,_,W' => W'.heap[B]? = W.heap[B]? /\ W'.heap[B + 1]? = W.heap[B + 1]? /\ I W'
 | .ret,_,_ => False
 | .exit _,_,_ => False
 | .goto _,_,_ => False
 | .panic _,_,_ => False
 | .outgrown,_,_ => False
theorem qb0 {g : Operand} {ps : Array Tmp} {assign body : Code} {Q : Exit -> Act -> World -> Prop} {a : Act} {w : World} {m p id n : Nat}
 (hg : a.eval g = .func (.func 78) #[ptrV p] #[]) (hn : n <= 3) (hps : ps.size = 1) (hp : p < w.heap.size) (hc1 : w.cell? ⟨p,1,none⟩ = some (.int .i64 (n : Int)))
 (I : List Nat -> World -> Prop) (hIc : ∀ pre W,I pre W -> W.cell? ⟨p,0,none⟩ = some (.int .i64 (id : Int)))
 (hI0 : ∀ r,I [] ((w.alloc (.deferred (some []))).alloc (.loop r))) (hI1 : ∀ pre W r r',I pre W -> W.heap[w.heap.size + 1]? = some (.loop r) -> I pre (W.putObj (w.heap.size + 1) (.loop r'))) (a₁ : Nat -> Act)
 (hassign : ∀ (l : Nat) (x : Nat) (W : World) (K : Act -> World -> Prop),K (a₁ x) W →
   assign.wpIn (Fence.wide.inRound l) (m - 1 - 1) Tryz.prog (Exit.then K (fun _ _ _ => False)) { tmps := (ps.zip #[.int .i64 (x : Int)]).foldl (fun t (p,v) => t.setIfInBounds p v) a.tmps,defers := [] } W)
 (hbody : ∀ (l : Nat) (pre : List Nat) (x : Nat) (W : World),x < n -> x ≠ id -> pre ++ [x] <+: oth id n -> I pre W -> w.heap.size + 1 < W.heap.size -> (∃ r,W.heap[w.heap.size + 1]? = some (.loop r)) -> W.heap[w.heap.size]? = some (.deferred (some [])) -> body.wpIn (Fence.wide.inRound l) (m - 1 - 1) Tryz.prog (roundEnd w.heap.size (I (pre ++ [x])) W) (a₁ x) W)
 (hdone : ∀ W,I (oth id n) W -> W.heap[w.heap.size]? = some (.deferred (some [])) -> w.heap.size + 1 < W.heap.size -> Q .normal { a with defers := { target := .collected w.heap.size,args := #[] } :: a.defers } W) :
 (Code.rangeFunc g ps assign body).wpIn Fence.wide m Tryz.prog Q a w := by
 refine wpIn_rangeFunc fun fn _ => ?_;obtain ⟨rec,hrec⟩ : ∃ rec : LoopState -> Option Code -> Loop,rec = fun st pe => { state := st,pending := pe,fn,tmps := a.tmps,params := ps,assign,body,defers := w.heap.size } := ⟨_,rfl⟩;have hb1 : Below w.heap.size w ((w.alloc (.deferred (some []))).alloc (.loop (rec .ready none))) := ((Below.refl _ w).alloc nlq _).alloc (by simp) _
 have hl1 : ((w.alloc (.deferred (some []))).alloc (.loop (rec .ready none))).heap[w.heap.size + 1]? = some (.loop (rec .ready none)) := by
  have := World.alloc_heap_new (w.alloc (.deferred (some []))) (.loop (rec .ready none))
  rwa [World.size_alloc] at this
 have hd1 : ((w.alloc (.deferred (some []))).alloc (.loop (rec .ready none))).heap[w.heap.size]? = some (.deferred (some [])) := (Below.heap_alloc _ _ _ (by simp)).trans (World.alloc_heap_new w _);have hi1 := hI0 (rec .ready none)
 refine ⟨w.heap.size + 1,[{ target := .collected w.heap.size,args := #[] }],(w.alloc (.deferred (some []))).alloc (.loop (rec .ready none)),{ target := .fn (.func 78) #[],args := #[ptrV p, .func (.yield (w.heap.size + 1)) #[] #[]] },
  (w.alloc (.deferred (some []))).alloc (.loop (rec .ready none)),78,#[ptrV p, .func (.yield (w.heap.size + 1)) #[] #[]],(w.alloc (.deferred (some []))).alloc (.loop (rec .ready none)),?_,?_,fun _ _ => trivial,?_,fun h => (by cases h),?_⟩
 · rw [hrec]; exact run_enterLoop_outer _ _ _ _ _
 · simp only [resolve,hg]
   simp [go_sem]
 · simp [invoke,go_sem,enters_of Tryz.func78 (by kernel_rfl) rfl]
 generalize (w.alloc (.deferred (some []))).alloc (.loop (rec .ready none)) = W1 at *;refine (qiV (m - 1) (w.heap.size + 1) p id n hn (fun pre W => I pre W /\ W.heap[w.heap.size + 1]? = some (.loop (rec .ready none)) /\ W.heap[w.heap.size]? = some (.deferred (some []))) (fun pre W h => hIc pre W h.1) ?_ W1 ((hb1.cell (p := ⟨p,1,none⟩) hp).trans hc1) ⟨hi1,hl1,hd1⟩).mono ?_
 · rintro pre x W ⟨hi,hl,hd⟩ hx hxi hpre;have hlt : w.heap.size + 1 < W.heap.size := hlt hl;have hy := run_yield (P := Tryz.prog) (args := #[.int .i64 (x : Int)]) hl (by rw [hrec]; exact hps.symm);rw [hrec] at hy;refine ⟨fn,_,assign,body,hy,roundIn_of_wpIn (F := Fence.wide) trivial (hassign _ x W _ ⟨_,run_beginRound hl (by rw [hrec]),?_⟩)⟩;have hl2 : (W.putObj (w.heap.size + 1) (.loop { rec .ready none with state := .busy })).heap[w.heap.size + 1]? = some (.loop { rec .ready none with state := .busy }) := World.putObj_heap_same hlt;have hd2 : (W.putObj (w.heap.size + 1) (.loop { rec .ready none with state := .busy })).heap[w.heap.size]? = some (.deferred (some [])) := (World.putObj_heap_other (by omega)).trans hd;refine wpIn_mono (hbody _ pre x _ hx hxi hpre (hI1 _ _ _ _ hi hl) (by simpa using hlt) ⟨_,hl2⟩ hd2) ?_;rintro e a3 W3 he
   cases e with
   | normal =>
     obtain ⟨k1,k2,k3⟩ := he;have hl3 := k2.trans hl2;have hr := run_endRound (P := Tryz.prog) none hl3;rw [hrec] at hr;refine ⟨_,_,hr,rfl,?_,?_,?_⟩
     · exact hI1 _ _ _ _ k3 hl3
     · rw [hrec];exact World.putObj_heap_same (Array.getElem?_eq_some_iff.1 hl3).1
     · exact (World.putObj_heap_other (by omega)).trans (k1.trans hd2)
   | ret => exact he.elim
   | exit _ => exact he.elim
   | goto _ => exact he.elim
   | panic _ => exact he.elim
   | outgrown => exact he.elim
 · rintro e W2 ⟨⟨v,rfl⟩,hi,hl,hd⟩;refine ⟨none,_,by have := run_endLoop (P := Tryz.prog) hl (by rw [hrec]; simp); rw [hrec] at this; exact this,hdone _ (hI1 _ _ _ _ hi hl) ((World.putObj_heap_other (by omega)).trans hd) (by simpa using hlt hl)⟩
end Go.Proofs.YtogbhedbgcmckaaGreat
set_option linter.unusedVariables false
set_option linter.unusedSimpArgs false
set_option maxRecDepth 100000
set_option maxHeartbeats 3200000
namespace Go.Proofs.YtogbhedbgcmckaaGreat
open Go.RowKit Go.Shelf
attribute [local go_sem] Oper.semAt_some
variable {w : World} {p : Nat} {N : Node} {Z : Nat -> Prop} {q : Ptrs} {s : Nat} {xs : List MLay} {K : Nat -> Prop}
theorem qb1 (N : Node) (l : List Nat) : ∃ ls : List Msg,ls.length = l.length /\ l.foldl Node.send N = { N with ms := N.ms ++ ls } := by
 induction l generalizing N with
 | nil => exact ⟨[],rfl,by simp⟩
 | cons j l ih =>
   obtain ⟨x,hx⟩ : ∃ x,N.send j = { N with ms := N.ms ++ [x] } := by
    unfold Node.send
    split <;> exact ⟨_,rfl⟩
   obtain ⟨ls,h1,h2⟩ := ih (N.send j);refine ⟨x :: ls,by simp [h1],?_⟩;rw [List.foldl_cons,h2,hx];simp
def q9 (w W : World) (p : Nat) (N : Node) (Z : Nat -> Prop) (q : Ptrs) (s : Nat) (m : Nat) : Prop :=
 ∃ q' xs K,RfAt W p N (fun b => Z b \/ (w.heap.size <= b /\ b < m)) q' s xs K /\ q'.l = q.l /\ qa Z w W /\ m <= W.heap.size + 2
section
variable {w W W' : World} {p : Nat} {N N' : Node} {Z : Nat → Prop} {q : Ptrs} {s m : Nat}
theorem qa5 {Z : Nat -> Prop} {W : World} {l : Nat} {o : Obj} (h : ¬ Z l) : qa Z W (W.putObj l o) :=
 ⟨rfl,rfl,rfl,by simp,fun b _ hz => World.putObj_heap_other fun e => h (e ▸ hz)⟩
theorem q9.keep (h : q9 w W p N Z q s m) (hZ : ∀ b,Z b -> b < w.heap.size) (hs : W.heap.size <= W'.heap.size) (h1 : qa Z W W') (h2 : ∀ b,b < W.heap.size -> ¬ (w.heap.size <= b /\ b < m) -> W'.heap[b]? = W.heap[b]?) : q9 w W' p N Z q s m := by
 obtain ⟨q',xs,K,h3,h4,h5,h6⟩ := h;exact ⟨q',xs,K,h3.keep hs fun b hb hz => h2 b hb fun e => hz (.inr e),h4,h5.trans h1,by omega⟩
theorem q9.alloc (h : q9 w W p N Z q s m) (hZ : ∀ b,Z b -> b < w.heap.size) (o : Obj) : q9 w (W.alloc o) p N Z q s m :=
 h.keep hZ (by simp) (qv _ _) fun b hb _ => Below.heap_alloc _ _ _ hb
theorem q9.turn (h : q9 w W p N Z q s m) (hZ : ∀ b,Z b -> b < w.heap.size) (l : Nat) (h1 : w.heap.size <= l) (h2 : l < m) (o : Obj) : q9 w (W.putObj l o) p N Z q s m :=
 h.keep hZ (by simp) (qa5 fun e => by have := hZ l e; omega) fun b hb hz => World.putObj_heap_other fun e => hz (by omega)
theorem q9.c0 (h : q9 w W p N Z q s m) : W.cell? ⟨p,0,none⟩ = some (.int .i64 (N.id : Int)) := by
 obtain ⟨q',xs,K,h3,_⟩ := h;exact h3.c0
theorem q9.turned (h : q9 w W p N Z q s m) : Turned w W p N Z q s := by
 obtain ⟨q',xs,K,h3,h4,h5,h6⟩ := h;exact ⟨q',xs,K,h3.less fun b hb => .inl hb,h4,h5⟩
end
theorem qiW {pre : List Nat} {x : Nat} (h : RfAt w p (pre.foldl Node.send N) Z q s xs K) (hZ : ∀ b,Z b -> b < w.heap.size) (hm : N.ms.length < 999990) (hl : N.lg.l.length <= 1000000) (hg : qk N.lg) (hx : ∀ j,-4611686018427387904 <= N.nx j /\ N.nx j <= 4611686018427387904) (hsd : N.sn.d.length <= 50000) (hn : N.n <= 3 /\ N.id < 3) (hpre : pre ++ [x] <+: oth N.id N.n) (hx3 : x < 3) :
 Calls Tryz.prog 79 #[ptrV p, .int .i64 (x : Int)] w fun e w' => e = .returned (.tuple #[]) /\ Turned w w' p ((pre.foldl Node.send N).send x) Z q s := by
 obtain ⟨ls,e1,e2⟩ := qb1 N pre;have h1 := hpre.length_le
 have h2 : (oth N.id N.n).length <= N.n := by
  unfold oth;exact Nat.le_trans (List.length_filter_le _ _) (by simp)
 rw [List.length_append] at h1;simp only [List.length_cons,List.length_nil] at h1;rw [e2] at h ⊢;refine qiU h hZ ?_ hl hg hx hsd (by show N.id < 4; omega) x hx3;show (N.ms ++ ls).length < 999999;rw [List.length_append];omega
theorem qcT (h : RfAt w p N Z q s xs K) (hZ : ∀ b,Z b -> b < w.heap.size) (hm : N.ms.length < 999990) (hl : N.lg.l.length <= 1000000) (hg : qk N.lg) (hx : ∀ j,-4611686018427387904 <= N.nx j /\ N.nx j <= 4611686018427387904) (hsd : N.sn.d.length <= 50000) (hn : N.n <= 3 /\ N.id < 3) :
 Calls Tryz.prog 40 #[ptrV p] w fun e w' => e = .returned (.tuple #[]) /\ Turned w w' p N.sendAll Z q s := by
 have hp := h.lt;refine (callsIn_wide (n := 9)).1 ?_;refine callsIn_of_wp_marks Tryz.func40 rfl trivial ?_ rfl;simp only [Tryz.ntmps40,List.size_toArray,List.length_cons,List.length_nil,Nat.reduceAdd,Nat.reduceSub,Array.replicate_succ,Array.replicate_zero,List.push_toArray,List.append_toArray,List.nil_append,List.cons_append]
 gi_wp2
 have hb0 : Below w.heap.size w (w.alloc (.cells #[ptrV p] 67)) := blq.alloc nlq _;have hbox := heap_alloc_new w (.cells #[ptrV p] 67);have hr0 : q9 w (w.alloc (.cells #[ptrV p] 67)) p N Z q s (w.heap.size + 3) := ⟨q,xs,K,h.more (fun b hb => hb.1) hb0,rfl,qb hb0 nlq,by simp⟩
 have hsz : (w.alloc (.cells #[ptrV p] 67)).heap.size = w.heap.size + 1 := by simp
 generalize w.alloc (.cells #[ptrV p] 67) = W0 at *
 refine qb0 (id := N.id) (n := N.n) (p := p) rfl hn.1 rfl (by omega) ?_
  (fun pre W => q9 w W p (pre.foldl Node.send N) Z q s (w.heap.size + 3) /\ W.heap[w.heap.size]? = some (.cells #[ptrV p] 67)) ?_ ?_ ?_
  (fun x => { tmps := #[ptrV p, .pointer (some ⟨w.heap.size,0,none⟩), .int .i64 (x : Int),ptrV p, .func (.func 78) #[ptrV p] #[], .int .i64 (x : Int),undef,undef,undef],defers := [] }) ?assign ?body ?done
 · obtain ⟨q',xs',K',h3,_⟩ := hr0;exact h3.c1
 · rintro pre W ⟨h1,_⟩;obtain ⟨ls,_,e⟩ := qb1 N pre;have := h1.c0;rw [e] at this;exact this
 · intro r;exact ⟨(hr0.alloc hZ _).alloc hZ _,(Below.heap_alloc _ _ _ (by simp; omega)).trans ((Below.heap_alloc _ _ _ (by omega)).trans hbox)⟩
 · rintro pre W r r' ⟨h1,h2⟩ hr;exact ⟨h1.turn hZ _ (by omega) (by omega) _,(World.putObj_heap_other (by omega)).trans h2⟩
 case assign =>
  intro l x W K hK
  gi_wp2
  exact hK
 case body =>
  rintro l pre x W hxn hxi hpre ⟨h1,h2⟩ hsW hlW hdW;obtain ⟨q',xs',K',h3,h4,h5,h6⟩ := h1;have hcell : W.cell? ⟨w.heap.size,0,none⟩ = some (ptrV p) := qe h2 0 _ rfl;have hS := qiW h3 (fun b hb => hb.elim (fun e => by have := hZ b e; omega) (fun e => by omega)) hm hl hg hx hsd hn hpre (by omega);have hW := Lib.hid (show qa Z w W from h5);have hB := Lib.hid h2;have hL := Lib.hid h4;have hSz := Lib.hid hsz;clear h2 h3 h4 h5 h6 hr0 hbox hb0
  gi_wp2
  refine ⟨trivial,?_⟩;refine (CallsIn.inRound l (callsIn_wide.2 hS)).mono ?_;rintro e w' ⟨rfl,hT⟩
  gi_wp2
  obtain ⟨q2,xs2,K2,g1,g2,g3⟩ := hT;refine ⟨?_,?_,⟨q2,xs2,K2,?_,g2.trans hL.out,hW.out.trans (g3.mono fun b hb => .inl hb),?_⟩,?_⟩
  · exact g3.block _ (by omega) (.inr (by omega))
  · exact g3.block _ (by omega) (.inr (by omega))
  · rw [List.foldl_append];exact g1
  · have := g3.size; omega
  · exact (g3.block _ (by omega) (.inr (by omega))).trans hB.out
 case done =>
  rintro W ⟨h1,h2⟩ hd hsD;have hSz := Lib.hid hsz;rw [hsz] at hd ⊢;have hT := Lib.hid (show Turned w (W.putObj (w.heap.size + 1) (.deferred none)) p N.sendAll Z q s from (h1.turn hZ _ (by omega) (by omega) _).turned);clear h1 h2 hr0 hbox hb0 hsz
  gi_wp2
  refine ⟨by simp, .inl ⟨_,_,rfl,run_takeDeferred hd,?_⟩⟩;exact ⟨_,results_none rfl _ _ _,rfl,hT.out⟩
end Go.Proofs.YtogbhedbgcmckaaGreat
