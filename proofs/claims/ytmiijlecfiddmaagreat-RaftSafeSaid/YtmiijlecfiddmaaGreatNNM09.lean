/- The program's node: a copy of a snap; what is sent to another node. -/
import Derived.Test.YtmiijlecfiddmaaGreatNNM01
import Derived.Test.YtmiijlecfiddmaaGreatNNM08
set_option linter.unusedVariables false
set_option linter.unusedSimpArgs false
set_option maxRecDepth 100000
set_option maxHeartbeats 3200000
namespace Go.Proofs.YtmiijlecfiddmaaGreat
open Go.RowKit
variable {w : World} {p : Nat} {N : Node} {Z : Nat -> Prop} {q : Ptrs} {s : Nat} {xs : List MLay} {K : Nat -> Prop}
theorem qO (i t : Int) (A : Option Addr) (n c : Nat) (d : List UInt8) (w : World) (h : Lies w A n c d) (hb : n <= 140737488355328) :
 Calls Tryz.prog 38 #[.agg #[.int .i64 i, .int .i64 t, .slice A n c]] w fun e w' => ∃ E k,e = .returned (.agg #[.int .i64 i, .int .i64 t, .slice E n k]) /\ qs w' (fun q => w.heap.size + 2 <= q) ⟨⟨i,t,d⟩,E,k⟩ /\ (∀ q,blk E q -> w.heap.size + 2 <= q) /\ Below w.heap.size w w' := by
 obtain rfl := h.1;have hA2 : Below w.heap.size w ((w.alloc (.cells #[.int .i64 i, .int .i64 t, .slice A d.length c] 25)).alloc (.cells #[.int .i64 0, .int .i64 0, .slice none 0 0] 25)) := (blq.alloc nlq _).alloc (by simp) _;have hr1 : ((w.alloc (.cells #[.int .i64 i, .int .i64 t, .slice A d.length c] 25)).alloc (.cells #[.int .i64 0, .int .i64 0, .slice none 0 0] 25)).heap[w.heap.size]? = some (.cells #[.int .i64 i, .int .i64 t, .slice A d.length c] 25) := (Below.heap_alloc _ _ _ (by simp)).trans (heap_alloc_new _ _);have hr2 := heap_alloc2_new w (.cells #[.int .i64 i, .int .i64 t, .slice A d.length c] 25) (.cells #[.int .i64 0, .int .i64 0, .slice none 0 0] 25);have hC := qec A d.length c d _ (h.below hA2 nlq) (by omega);simp only [World.size_alloc] at hC;clear h hb
 go_enter Tryz.func38,Tryz.ntmps38
 go_wp2_with fail
 refine hC.mono ?_;rintro e w3 ⟨v,rfl,ho,hb3⟩
 have hb3' : Below ((w.alloc (.cells #[.int .i64 i, .int .i64 t, .slice A d.length c] 25)).alloc (.cells #[.int .i64 0, .int .i64 0, .slice none 0 0] 25)).heap.size ((w.alloc (.cells #[.int .i64 i, .int .i64 t, .slice A d.length c] 25)).alloc (.cells #[.int .i64 0, .int .i64 0, .slice none 0 0] 25)) w3 := by simpa using hb3
 have hs1 := (hb3'.block _ (hlt hr1)).trans hr1;have hs2 := (hb3'.block _ (hlt hr2)).trans hr2;have hbw := hA2.trans (hb3'.mono hA2.size);obtain ⟨E,k,rfl,hl,hE⟩ := qcs ho;have hcap := qe4 ho;have hown := Owns.lt ho;obtain ⟨⟨a0,a1,a2⟩,⟨f0,f1,f2⟩⟩ := row3 hs1;obtain ⟨_,⟨g0,g1,g2⟩⟩ := row3 hs2
 have hne : w.heap.size + 1 ≠ w.heap.size := by omega
 have t1 := (Below.heap_setCell w3 ⟨w.heap.size,2,none⟩ (.slice E d.length k) (w.heap.size + 1) hne).trans hs2;have hfin := qdO _ (w.heap.size + 1) (.int .i64 i) (.int .i64 t) (.slice E d.length k) _ _ _ _ t1;have t2 : Below w.heap.size w (w3.setCell ⟨w.heap.size,2,none⟩ (.slice E d.length k)) := hbw.setCell nlq _;have hbf := qcx t2 (w.heap.size + 1) (by omega) (.int .i64 i) (.int .i64 t) (.slice E d.length k)
 have hok : qs ((((w3.setCell ⟨w.heap.size,2,none⟩ (.slice E d.length k)).setCell ⟨w.heap.size + 1,0,none⟩ (.int .i64 i)).setCell ⟨w.heap.size + 1,1,none⟩ (.int .i64 t)).setCell ⟨w.heap.size + 1,2,none⟩ (.slice E d.length k)) (fun q => w.heap.size + 2 <= q) ⟨⟨i,t,d⟩,E,k⟩ := by
  have hz : ∀ q o,E = some ⟨q,o,none⟩ -> w.heap.size + 2 <= q := fun q o e => (hown q (hE q o e)).1
  refine ⟨nlq,?_,fun _ q o e => hz q o e⟩;show Lies _ E d.length k d;refine hl.keep (by simp) fun h0 q o e hq => ?_;have := hz q o e;exact (Below.heap_setCell _ _ _ _ (by show q ≠ w.heap.size + 1; omega)).trans ((Below.heap_setCell _ _ _ _ (by show q ≠ w.heap.size + 1; omega)).trans ((Below.heap_setCell _ _ _ _ (by show q ≠ w.heap.size + 1; omega)).trans (Below.heap_setCell _ _ _ _ (by show q ≠ w.heap.size; omega))))
 have HOK := Lib.hid hok;have HZ := Lib.hid (show ∀ q,blk E q -> w.heap.size + 2 <= q from fun q ⟨o,e⟩ => (hown q (hE q o e)).1);clear hok hl hE hcap hown ho hb3 hb3' hs1 hs2 hr1 hr2 hA2 hC t1 t2 hbw;go_wp2;refine bodyPost_ret (qH (n := w.heap.size + 1) rfl rfl hfin Tryz.underlying25 rfl (by kernel_rfl)) rfl ?_;exact ⟨E,k,rfl,HOK.out,HZ.out,hbf⟩
def Turned (w w' : World) (p : Nat) (N : Node) (Z : Nat -> Prop) (q : Ptrs) (s : Nat) : Prop := ∃ q' xs K,RfAt w' p N Z q' s xs K /\ q'.l = q.l /\ qf Z w w'
section
variable {w w' : World} {p : Nat} {N : Node} {Z : Nat → Prop} {q : Ptrs} {s : Nat} {xs : List MLay} {K : Nat → Prop}
theorem Said.turned {X : World} {K' : Nat -> Prop} {x : MLay} {N' : Node} (h : Said X w' p N Z q s xs K' x) (hb : Below w.heap.size w X) (e : N' = { N with ms := N.ms ++ [x.m] }) : Turned w w' p N' Z q s := by
 obtain ⟨A',c',h1,h2⟩ := h;subst e;exact ⟨_,_,_,h1,rfl,(keeps_below hb nlq).trans h2⟩
theorem Said.cells {K' : Nat -> Prop} {x : MLay} {xs' : List MLay} {q' : Ptrs} {s' : Nat} {X : World} (h : Said X w' p N Z q' s' xs' K' x) : w'.cell? ⟨p,8,none⟩ = some (ptrV q'.l) /\ w'.cell? ⟨p,9,none⟩ = some (.int .i64 N.cm) /\ w'.cell? ⟨p,25,none⟩ = some (.int .i64 N.cx) := by
 obtain ⟨A',c',h1,h2⟩ := h;exact ⟨h1.c8,h1.c9,h1.c25⟩
theorem Ents.old {A : Option Addr} {n c : Nat} {ls : List Ent} {Y : Nat -> Prop} (h : Ents w Y A n c ls) : Ents w (fun b => Y b /\ b < w.heap.size) A n c ls := by
 refine ⟨h.1,h.2.1,h.2.2.1,fun h0 => ?_⟩;obtain ⟨g,off,e,hg,hz,hc⟩ := h.2.2.2 h0;refine ⟨g,off,e,hg,⟨hz,hg⟩,fun j hj => ?_⟩;obtain ⟨E,c,c0,c1,c2,hm,hl,hzE⟩ := hc j hj;refine ⟨E,c,c0,c1,c2,hm,hl,fun h1 q o eq => ⟨hzE h1 q o eq,?_⟩⟩;obtain ⟨g',o',ee,hg',_⟩ := hl.2.2.2 h1;rw [eq] at ee;injection ee with ee;injection ee with ee;subst ee;exact hg'
theorem qcc {N : Node} {j : Nat} (h : N.nx j <= N.lg.i) (hn : N.id < 4) : N.send j = { N with ms := N.ms ++ [⟨7,N.id,j,N.ht,0,0,0,0,false,[],N.sn⟩] } := by
 unfold Node.send;rw [if_pos h]
 rfl
theorem qda {N : Node} {j : Nat} (h : ¬ N.nx j <= N.lg.i) : N.send j = { N with ms := N.ms ++ [⟨5,N.id,j,N.ht,N.nx j - 1,(N.lg.at_ (N.nx j - 1)).getD 0,N.cm,N.cx,false,N.lg.fromL (N.nx j) 4,Node.noEnt⟩] } := by
 unfold Node.send;rw [if_neg h]
 rfl
end
theorem qkj (h : RfAt w p N Z q s xs K) (hZ : ∀ b,Z b -> b < w.heap.size) (hm : N.ms.length < 999999) (hl : N.lg.l.length <= 1000000) (hg : Good N.lg) (hx : -4611686018427387904 <= N.nx 0 /\ N.nx 0 <= 4611686018427387904) (hsd : N.sn.d.length <= 50000) (hid : N.id < 4) :
 Calls Tryz.prog 59 #[ptrV p, .int .i64 0] w fun e w' => e = .returned (.tuple #[]) /\ Turned w w' p (N.send 0) Z q s := by
 have c16 := h.c16;have c8 := h.c8;have hp := h.lt;obtain ⟨A,c,hr⟩ := h.log.rd;have hB := qaN hr
 by_cases hw : N.nx 0 <= N.lg.i
 · rw [qcc hw hid]
   have hC : ∀ X,Below w.heap.size w X -> RfAt X p N Z q s xs K := fun X hX => h.below hX
   have H := Lib.hid h;clear h hr
   go_enter Tryz.func59,Tryz.ntmps59
   go_wp2_with fail
   refine hB.mono ?_;rintro e w1 ⟨rfl,hb1⟩;have h1 := hC w1 hb1;have c4 := h1.c4;have c5 := h1.c5;have c6 := h1.c6;have hCo := qO N.sn.i N.sn.t q.E N.sn.d.length q.cE N.sn.d w1 h1.snp (by omega);have H1 := Lib.hid h1;clear hC hB h1
   go_wp2_with fail
   refine hCo.mono ?_;rintro e w2 ⟨E,k,rfl,hok,hE,hb2⟩;have hbw := hb1.trans (hb2.mono hb1.size);have h2 := H.out.grow hZ hbw;have hl2 : Lies w2 E N.sn.d.length k N.sn.d := hok.2.1
   have hin : 0 < N.sn.d.length -> ∀ g o,E = some ⟨g,o,none⟩ -> w.heap.size <= g /\ g < w2.heap.size := fun h0 g o e => by
    obtain ⟨g',o',ee,hg',_⟩ := hl2.2.2.2 h0;rw [e] at ee;injection ee with ee;injection ee with ee;have := hE g ⟨o,e⟩;have := hb1.size;omega
   have hS := qav h2 (fun b hb => Nat.lt_of_lt_of_le (hZ b hb) hbw.size) hm 0 ⟨⟨7,0,0,0,0,0,0,0,false,[],N.sn⟩,none,0,E,k⟩ ⟨qY _ _,Nat.zero_le _,hl2,fun h0 g o e => ⟨.inr (hin h0 g o e),H.out.old (hin h0 g o e).1⟩⟩;have HB := Lib.hid hbw;clear h2 hok hE hb2 hbw hCo hb1 hZ hl2 hin
   go_wp2_with fail
   refine hS.mono ?_;rintro e w3 ⟨rfl,hT⟩;have HT := Lib.hid (hT.turned HB.out (N' := { N with ms := N.ms ++ [⟨7,N.id,((0 : Nat) : Int),N.ht,0,0,0,0,false,[],N.sn⟩] }) rfl);clear hT hS;go_wp2;refine bpq ?_;exact ⟨rfl,HT.out⟩
 · rw [qda hw];obtain ⟨A1,c1,ys,hla⟩ := h.log;obtain ⟨J,hJ⟩ : ∃ J,J = N.nx 0 - 1 := ⟨_,rfl⟩
   have hT := fun W (hW : Below w.heap.size w W) => qaf (hla.keep hW.size fun b hb _ => hW.block b hb).rd hl hg J
   have hF := fun W (hW : Below w.heap.size w W) => qbI (hla.keep hW.size fun b hb _ => hW.block b hb) hl hg (N.nx 0) 4
   unfold atV at hT
   have hle : (N.lg.fromL (N.nx 0) 4).length <= 4 := by
    unfold RL.fromL
    split
    · exact Nat.zero_le _
    · rw [List.length_take]; omega
   generalize hes : N.lg.fromL (N.nx 0) 4 = es at *;obtain ⟨tv,htv⟩ : ∃ tv,tv = (N.lg.at_ J).getD 0 := ⟨_,rfl⟩;generalize (N.lg.at_ J).isSome = tb at *;rw [<- hJ,<- htv];rw [<- htv] at hT
   have y1 : wrap64 (N.nx 0 - 1) = J := by rw [hJ,<- IntWalk.i64_left,IntWalk.i64_in _ (by omega)]
   have y2 : IntKind.i64.wrap (N.nx 0 - 1) = J := by rw [hJ,IntWalk.i64_in _ (by omega)]
   have q1 : (N.nx 0 <= N.lg.i) = False := eq_false hw;have q1d : decide (N.nx 0 <= N.lg.i) = false := decide_eq_false hw;have hC : ∀ X,Below w.heap.size w X -> X.cell? ⟨p,8,none⟩ = some (ptrV q.l) /\ X.cell? ⟨p,9,none⟩ = some (.int .i64 N.cm) /\ X.cell? ⟨p,25,none⟩ = some (.int .i64 N.cx) := fun X hX => ⟨(h.below hX).c8,(h.below hX).c9,(h.below hX).c25⟩;have H := Lib.hid h;have HX := hdq2 hJ htv;clear h hr hla hJ htv hw hes hx
   go_enter Tryz.func59,Tryz.ntmps59
   go_wp2_with fail
   refine hB.mono ?_;rintro e w1 ⟨rfl,hb1⟩;obtain ⟨a8,_,_⟩ := hC w1 hb1;have hT := hT w1 hb1;clear hB
   go_wp2_with fail
   refine hT.mono ?_;rintro e w2 ⟨rfl,hb2⟩;have hbw := hb1.trans (hb2.mono hb1.size);obtain ⟨b8,b9,b25⟩ := hC w2 hbw;clear hT a8 hb1 hb2
   go_upto_region 5 with fail
   go_region_held3 (fun w' => w'.cell? ⟨p,8,none⟩ = some (ptrV q.l) /\ w'.cell? ⟨p,9,none⟩ = some (.int .i64 N.cm) /\ w'.cell? ⟨p,25,none⟩ = some (.int .i64 N.cx))
    (first | exact hS7 | exact ⟨b8,b9,b25⟩ | (go_keep; done))
    (first
      | (go_at_call 47
         refine (hF _ (by first | exact hbw | exact hbw.drew)).mono ?_;rintro e w3 ⟨A',c',rfl,hE,rfl,hb3⟩
         have hb3' : Below w2.heap.size w2 w3 := by first | exact hb3 | exact blq.drew.trans hb3
         have hbw3 := hbw.trans (hb3'.mono hbw.size)
         have hMI : qo w3 (Pay N.sn.d.length q.E (fun b => K b \/ (w.heap.size <= b /\ b < w3.heap.size))) ⟨5,0,0,0,J,tv,N.cm,N.cx,false,es,Node.noEnt⟩ A' es.length none 0 := by
          refine ⟨(hE.old).mono fun b hb => ⟨.inr ⟨Nat.le_trans hbw.size hb.1,hb.2⟩,H.out.old (Nat.le_trans hbw.size hb.1)⟩,?_,Lies.nil _,fun h0 => absurd h0 (by simp [Node.noEnt])⟩;unfold maxLen;omega
         have HMI := Lib.hid hMI;clear hMI hE
         have hS7 := hC w3 hbw3)
      | (go_at_call 76
         refine (qav (H.out.grow hZ hbw3) (fun b hb => Nat.lt_of_lt_of_le (hZ b hb) hbw3.size) hm 0 ⟨⟨5,0,0,0,J,tv,N.cm,N.cx,false,es,Node.noEnt⟩,A',es.length,none,0⟩ HMI.out).mono ?_;rintro e w4 ⟨rfl,hT4⟩;have HT := Lib.hid (hT4.turned hbw3 (N' := { N with ms := N.ms ++ [⟨5,N.id,((0 : Nat) : Int),N.ht,J,tv,N.cm,N.cx,false,es,Node.noEnt⟩] }) rfl);have hS7 := hT4.cells
         clear hT4))
   go_wp2;refine bpq ?_;exact ⟨rfl,HT.out⟩
theorem qkk (h : RfAt w p N Z q s xs K) (hZ : ∀ b,Z b -> b < w.heap.size) (hm : N.ms.length < 999999) (hl : N.lg.l.length <= 1000000) (hg : Good N.lg) (hx : -4611686018427387904 <= N.nx 1 /\ N.nx 1 <= 4611686018427387904) (hsd : N.sn.d.length <= 50000) (hid : N.id < 4) :
 Calls Tryz.prog 59 #[ptrV p, .int .i64 1] w fun e w' => e = .returned (.tuple #[]) /\ Turned w w' p (N.send 1) Z q s := by
 have c19 := h.c19;have c8 := h.c8;have hp := h.lt;obtain ⟨A,c,hr⟩ := h.log.rd;have hB := qaN hr
 by_cases hw : N.nx 1 <= N.lg.i
 · rw [qcc hw hid]
   have hC : ∀ X,Below w.heap.size w X -> RfAt X p N Z q s xs K := fun X hX => h.below hX
   have H := Lib.hid h;clear h hr
   go_enter Tryz.func59,Tryz.ntmps59
   go_wp2_with fail
   refine hB.mono ?_;rintro e w1 ⟨rfl,hb1⟩;have h1 := hC w1 hb1;have c4 := h1.c4;have c5 := h1.c5;have c6 := h1.c6;have hCo := qO N.sn.i N.sn.t q.E N.sn.d.length q.cE N.sn.d w1 h1.snp (by omega);have H1 := Lib.hid h1;clear hC hB h1
   go_wp2_with fail
   refine hCo.mono ?_;rintro e w2 ⟨E,k,rfl,hok,hE,hb2⟩;have hbw := hb1.trans (hb2.mono hb1.size);have h2 := H.out.grow hZ hbw;have hl2 : Lies w2 E N.sn.d.length k N.sn.d := hok.2.1
   have hin : 0 < N.sn.d.length -> ∀ g o,E = some ⟨g,o,none⟩ -> w.heap.size <= g /\ g < w2.heap.size := fun h0 g o e => by
    obtain ⟨g',o',ee,hg',_⟩ := hl2.2.2.2 h0;rw [e] at ee;injection ee with ee;injection ee with ee;have := hE g ⟨o,e⟩;have := hb1.size;omega
   have hS := qav h2 (fun b hb => Nat.lt_of_lt_of_le (hZ b hb) hbw.size) hm 1 ⟨⟨7,0,0,0,0,0,0,0,false,[],N.sn⟩,none,0,E,k⟩ ⟨qY _ _,Nat.zero_le _,hl2,fun h0 g o e => ⟨.inr (hin h0 g o e),H.out.old (hin h0 g o e).1⟩⟩;have HB := Lib.hid hbw;clear h2 hok hE hb2 hbw hCo hb1 hZ hl2 hin
   go_wp2_with fail
   refine hS.mono ?_;rintro e w3 ⟨rfl,hT⟩;have HT := Lib.hid (hT.turned HB.out (N' := { N with ms := N.ms ++ [⟨7,N.id,((1 : Nat) : Int),N.ht,0,0,0,0,false,[],N.sn⟩] }) rfl);clear hT hS;go_wp2;refine bpq ?_;exact ⟨rfl,HT.out⟩
 · rw [qda hw];obtain ⟨A1,c1,ys,hla⟩ := h.log;obtain ⟨J,hJ⟩ : ∃ J,J = N.nx 1 - 1 := ⟨_,rfl⟩
   have hT := fun W (hW : Below w.heap.size w W) => qaf (hla.keep hW.size fun b hb _ => hW.block b hb).rd hl hg J
   have hF := fun W (hW : Below w.heap.size w W) => qbI (hla.keep hW.size fun b hb _ => hW.block b hb) hl hg (N.nx 1) 4
   unfold atV at hT
   have hle : (N.lg.fromL (N.nx 1) 4).length <= 4 := by
    unfold RL.fromL
    split
    · exact Nat.zero_le _
    · rw [List.length_take]; omega
   generalize hes : N.lg.fromL (N.nx 1) 4 = es at *;obtain ⟨tv,htv⟩ : ∃ tv,tv = (N.lg.at_ J).getD 0 := ⟨_,rfl⟩;generalize (N.lg.at_ J).isSome = tb at *;rw [<- hJ,<- htv];rw [<- htv] at hT
   have y1 : wrap64 (N.nx 1 - 1) = J := by rw [hJ,<- IntWalk.i64_left,IntWalk.i64_in _ (by omega)]
   have y2 : IntKind.i64.wrap (N.nx 1 - 1) = J := by rw [hJ,IntWalk.i64_in _ (by omega)]
   have q1 : (N.nx 1 <= N.lg.i) = False := eq_false hw;have q1d : decide (N.nx 1 <= N.lg.i) = false := decide_eq_false hw;have hC : ∀ X,Below w.heap.size w X -> X.cell? ⟨p,8,none⟩ = some (ptrV q.l) /\ X.cell? ⟨p,9,none⟩ = some (.int .i64 N.cm) /\ X.cell? ⟨p,25,none⟩ = some (.int .i64 N.cx) := fun X hX => ⟨(h.below hX).c8,(h.below hX).c9,(h.below hX).c25⟩;have H := Lib.hid h;have HX := hdq2 hJ htv;clear h hr hla hJ htv hw hes hx
   go_enter Tryz.func59,Tryz.ntmps59
   go_wp2_with fail
   refine hB.mono ?_;rintro e w1 ⟨rfl,hb1⟩;obtain ⟨a8,_,_⟩ := hC w1 hb1;have hT := hT w1 hb1;clear hB
   go_wp2_with fail
   refine hT.mono ?_;rintro e w2 ⟨rfl,hb2⟩;have hbw := hb1.trans (hb2.mono hb1.size);obtain ⟨b8,b9,b25⟩ := hC w2 hbw;clear hT a8 hb1 hb2
   go_upto_region 5 with fail
   go_region_held3 (fun w' => w'.cell? ⟨p,8,none⟩ = some (ptrV q.l) /\ w'.cell? ⟨p,9,none⟩ = some (.int .i64 N.cm) /\ w'.cell? ⟨p,25,none⟩ = some (.int .i64 N.cx))
    (first | exact hS7 | exact ⟨b8,b9,b25⟩ | (go_keep; done))
    (first
      | (go_at_call 47
         refine (hF _ (by first | exact hbw | exact hbw.drew)).mono ?_;rintro e w3 ⟨A',c',rfl,hE,rfl,hb3⟩
         have hb3' : Below w2.heap.size w2 w3 := by first | exact hb3 | exact blq.drew.trans hb3
         have hbw3 := hbw.trans (hb3'.mono hbw.size)
         have hMI : qo w3 (Pay N.sn.d.length q.E (fun b => K b \/ (w.heap.size <= b /\ b < w3.heap.size))) ⟨5,0,0,0,J,tv,N.cm,N.cx,false,es,Node.noEnt⟩ A' es.length none 0 := by
          refine ⟨(hE.old).mono fun b hb => ⟨.inr ⟨Nat.le_trans hbw.size hb.1,hb.2⟩,H.out.old (Nat.le_trans hbw.size hb.1)⟩,?_,Lies.nil _,fun h0 => absurd h0 (by simp [Node.noEnt])⟩;unfold maxLen;omega
         have HMI := Lib.hid hMI;clear hMI hE
         have hS7 := hC w3 hbw3)
      | (go_at_call 76
         refine (qav (H.out.grow hZ hbw3) (fun b hb => Nat.lt_of_lt_of_le (hZ b hb) hbw3.size) hm 1 ⟨⟨5,0,0,0,J,tv,N.cm,N.cx,false,es,Node.noEnt⟩,A',es.length,none,0⟩ HMI.out).mono ?_;rintro e w4 ⟨rfl,hT4⟩;have HT := Lib.hid (hT4.turned hbw3 (N' := { N with ms := N.ms ++ [⟨5,N.id,((1 : Nat) : Int),N.ht,J,tv,N.cm,N.cx,false,es,Node.noEnt⟩] }) rfl);have hS7 := hT4.cells
         clear hT4))
   go_wp2;refine bpq ?_;exact ⟨rfl,HT.out⟩
theorem qkl (h : RfAt w p N Z q s xs K) (hZ : ∀ b,Z b -> b < w.heap.size) (hm : N.ms.length < 999999) (hl : N.lg.l.length <= 1000000) (hg : Good N.lg) (hx : -4611686018427387904 <= N.nx 2 /\ N.nx 2 <= 4611686018427387904) (hsd : N.sn.d.length <= 50000) (hid : N.id < 4) :
 Calls Tryz.prog 59 #[ptrV p, .int .i64 2] w fun e w' => e = .returned (.tuple #[]) /\ Turned w w' p (N.send 2) Z q s := by
 have c22 := h.c22;have c8 := h.c8;have hp := h.lt;obtain ⟨A,c,hr⟩ := h.log.rd;have hB := qaN hr
 by_cases hw : N.nx 2 <= N.lg.i
 · rw [qcc hw hid]
   have hC : ∀ X,Below w.heap.size w X -> RfAt X p N Z q s xs K := fun X hX => h.below hX
   have H := Lib.hid h;clear h hr
   go_enter Tryz.func59,Tryz.ntmps59
   go_wp2_with fail
   refine hB.mono ?_;rintro e w1 ⟨rfl,hb1⟩;have h1 := hC w1 hb1;have c4 := h1.c4;have c5 := h1.c5;have c6 := h1.c6;have hCo := qO N.sn.i N.sn.t q.E N.sn.d.length q.cE N.sn.d w1 h1.snp (by omega);have H1 := Lib.hid h1;clear hC hB h1
   go_wp2_with fail
   refine hCo.mono ?_;rintro e w2 ⟨E,k,rfl,hok,hE,hb2⟩;have hbw := hb1.trans (hb2.mono hb1.size);have h2 := H.out.grow hZ hbw;have hl2 : Lies w2 E N.sn.d.length k N.sn.d := hok.2.1
   have hin : 0 < N.sn.d.length -> ∀ g o,E = some ⟨g,o,none⟩ -> w.heap.size <= g /\ g < w2.heap.size := fun h0 g o e => by
    obtain ⟨g',o',ee,hg',_⟩ := hl2.2.2.2 h0;rw [e] at ee;injection ee with ee;injection ee with ee;have := hE g ⟨o,e⟩;have := hb1.size;omega
   have hS := qav h2 (fun b hb => Nat.lt_of_lt_of_le (hZ b hb) hbw.size) hm 2 ⟨⟨7,0,0,0,0,0,0,0,false,[],N.sn⟩,none,0,E,k⟩ ⟨qY _ _,Nat.zero_le _,hl2,fun h0 g o e => ⟨.inr (hin h0 g o e),H.out.old (hin h0 g o e).1⟩⟩;have HB := Lib.hid hbw;clear h2 hok hE hb2 hbw hCo hb1 hZ hl2 hin
   go_wp2_with fail
   refine hS.mono ?_;rintro e w3 ⟨rfl,hT⟩;have HT := Lib.hid (hT.turned HB.out (N' := { N with ms := N.ms ++ [⟨7,N.id,((2 : Nat) : Int),N.ht,0,0,0,0,false,[],N.sn⟩] }) rfl);clear hT hS;go_wp2;refine bpq ?_;exact ⟨rfl,HT.out⟩
 · rw [qda hw];obtain ⟨A1,c1,ys,hla⟩ := h.log;obtain ⟨J,hJ⟩ : ∃ J,J = N.nx 2 - 1 := ⟨_,rfl⟩
   have hT := fun W (hW : Below w.heap.size w W) => qaf (hla.keep hW.size fun b hb _ => hW.block b hb).rd hl hg J
   have hF := fun W (hW : Below w.heap.size w W) => qbI (hla.keep hW.size fun b hb _ => hW.block b hb) hl hg (N.nx 2) 4
   unfold atV at hT
   have hle : (N.lg.fromL (N.nx 2) 4).length <= 4 := by
    unfold RL.fromL
    split
    · exact Nat.zero_le _
    · rw [List.length_take]; omega
   generalize hes : N.lg.fromL (N.nx 2) 4 = es at *;obtain ⟨tv,htv⟩ : ∃ tv,tv = (N.lg.at_ J).getD 0 := ⟨_,rfl⟩;generalize (N.lg.at_ J).isSome = tb at *;rw [<- hJ,<- htv];rw [<- htv] at hT
   have y1 : wrap64 (N.nx 2 - 1) = J := by rw [hJ,<- IntWalk.i64_left,IntWalk.i64_in _ (by omega)]
   have y2 : IntKind.i64.wrap (N.nx 2 - 1) = J := by rw [hJ,IntWalk.i64_in _ (by omega)]
   have q1 : (N.nx 2 <= N.lg.i) = False := eq_false hw;have q1d : decide (N.nx 2 <= N.lg.i) = false := decide_eq_false hw;have hC : ∀ X,Below w.heap.size w X -> X.cell? ⟨p,8,none⟩ = some (ptrV q.l) /\ X.cell? ⟨p,9,none⟩ = some (.int .i64 N.cm) /\ X.cell? ⟨p,25,none⟩ = some (.int .i64 N.cx) := fun X hX => ⟨(h.below hX).c8,(h.below hX).c9,(h.below hX).c25⟩;have H := Lib.hid h;have HX := hdq2 hJ htv;clear h hr hla hJ htv hw hes hx
   go_enter Tryz.func59,Tryz.ntmps59
   go_wp2_with fail
   refine hB.mono ?_;rintro e w1 ⟨rfl,hb1⟩;obtain ⟨a8,_,_⟩ := hC w1 hb1;have hT := hT w1 hb1;clear hB
   go_wp2_with fail
   refine hT.mono ?_;rintro e w2 ⟨rfl,hb2⟩;have hbw := hb1.trans (hb2.mono hb1.size);obtain ⟨b8,b9,b25⟩ := hC w2 hbw;clear hT a8 hb1 hb2
   go_upto_region 5 with fail
   go_region_held3 (fun w' => w'.cell? ⟨p,8,none⟩ = some (ptrV q.l) /\ w'.cell? ⟨p,9,none⟩ = some (.int .i64 N.cm) /\ w'.cell? ⟨p,25,none⟩ = some (.int .i64 N.cx))
    (first | exact hS7 | exact ⟨b8,b9,b25⟩ | (go_keep; done))
    (first
      | (go_at_call 47
         refine (hF _ (by first | exact hbw | exact hbw.drew)).mono ?_;rintro e w3 ⟨A',c',rfl,hE,rfl,hb3⟩
         have hb3' : Below w2.heap.size w2 w3 := by first | exact hb3 | exact blq.drew.trans hb3
         have hbw3 := hbw.trans (hb3'.mono hbw.size)
         have hMI : qo w3 (Pay N.sn.d.length q.E (fun b => K b \/ (w.heap.size <= b /\ b < w3.heap.size))) ⟨5,0,0,0,J,tv,N.cm,N.cx,false,es,Node.noEnt⟩ A' es.length none 0 := by
          refine ⟨(hE.old).mono fun b hb => ⟨.inr ⟨Nat.le_trans hbw.size hb.1,hb.2⟩,H.out.old (Nat.le_trans hbw.size hb.1)⟩,?_,Lies.nil _,fun h0 => absurd h0 (by simp [Node.noEnt])⟩;unfold maxLen;omega
         have HMI := Lib.hid hMI;clear hMI hE
         have hS7 := hC w3 hbw3)
      | (go_at_call 76
         refine (qav (H.out.grow hZ hbw3) (fun b hb => Nat.lt_of_lt_of_le (hZ b hb) hbw3.size) hm 2 ⟨⟨5,0,0,0,J,tv,N.cm,N.cx,false,es,Node.noEnt⟩,A',es.length,none,0⟩ HMI.out).mono ?_;rintro e w4 ⟨rfl,hT4⟩;have HT := Lib.hid (hT4.turned hbw3 (N' := { N with ms := N.ms ++ [⟨5,N.id,((2 : Nat) : Int),N.ht,J,tv,N.cm,N.cx,false,es,Node.noEnt⟩] }) rfl);have hS7 := hT4.cells
         clear hT4))
   go_wp2;refine bpq ?_;exact ⟨rfl,HT.out⟩
theorem qaw (h : RfAt w p N Z q s xs K) (hZ : ∀ b,Z b -> b < w.heap.size) (hm : N.ms.length < 999999) (hl : N.lg.l.length <= 1000000) (hg : Good N.lg) (hx : ∀ j,-4611686018427387904 <= N.nx j /\ N.nx j <= 4611686018427387904) (hsd : N.sn.d.length <= 50000) (hid : N.id < 4) (j : Nat) (hj : j < 3) :
 Calls Tryz.prog 59 #[ptrV p, .int .i64 (j : Int)] w fun e w' => e = .returned (.tuple #[]) /\ Turned w w' p (N.send j) Z q s := by
 obtain rfl | rfl | rfl : j = 0 \/ j = 1 \/ j = 2 := by omega
 · exact qkj h hZ hm hl hg (hx 0) hsd hid
 · exact qkk h hZ hm hl hg (hx 1) hsd hid
 · exact qkl h hZ hm hl hg (hx 2) hsd hid
end Go.Proofs.YtmiijlecfiddmaaGreat
set_option linter.unusedVariables false
set_option linter.unusedSimpArgs false
set_option maxRecDepth 100000
set_option maxHeartbeats 200000
namespace Go.Proofs.YtmiijlecfiddmaaGreat
open Go.RowKit
theorem qjn : Elem 66 33 (.pointer none) 1 8 := ⟨Tryz.underlying66,by kernel_rfl,rfl,by omega,by omega⟩
theorem qhR : Elem 67 40 (.agg #[.int .i64 0, .int .i64 0]) 2 16 := ⟨Tryz.underlying67,by kernel_rfl,rfl,by omega,by omega⟩
theorem qhS : Elem 68 25 (.agg #[.int .i64 0, .int .i64 0, .slice none 0 0]) 3 40 := ⟨Tryz.underlying68,by kernel_rfl,rfl,by omega,by omega⟩
theorem qjo : Elem 69 22 (.slice none 0 0) 1 24 := ⟨Tryz.underlying69,by kernel_rfl,rfl,by omega,by omega⟩
theorem qdb : Elem 70 3 (.int .i64 0) 1 8 := ⟨Tryz.underlying70,by kernel_rfl,rfl,by omega,by omega⟩
theorem qa0 : Elem 22 78 (.agg #[.int .i64 0, .int .i64 0, .slice none 0 0]) 3 40 := ⟨Tryz.underlying22,by kernel_rfl,rfl,by omega,by omega⟩
theorem qgR : Elem 71 110 (.agg #[.int .i64 0, .int .i64 0, .int .i64 0, .int .i64 0]) 4 32 := ⟨Tryz.underlying71,by kernel_rfl,rfl,by omega,by omega⟩
structure Turn (J : Nat -> Prop) (w w' : World) (lab lab' : Nat -> Nat) : Prop where
 os : w'.os = w.os
 tape : w'.tape = w.tape
 output : w'.output = w.output
 size : w.heap.size <= w'.heap.size
 same : ∀ b,b < w.heap.size -> ¬ J (lab b) -> w'.heap[b]? = w.heap[b]?
 old : ∀ b,b < w.heap.size -> ¬ J (lab b) -> lab' b = lab b
 own : ∀ b,b < w.heap.size -> J (lab b) -> J (lab' b) \/ lab' b = 0
 new : ∀ b,w.heap.size <= b -> J (lab' b) \/ lab' b = 0
 lim : ∀ b,w'.heap.size <= b -> lab' b = 0
section
variable {J J' : Nat → Prop} {w w' w'' : World} {lab lab' lab'' : Nat → Nat}
theorem Turn.none (T : Turn J w w' lab lab') (hJ : ¬ J 0) {b : Nat} (hb : b < w.heap.size) (h0 : lab b = 0) : lab' b = 0 := by
 rw [T.old b hb (by rw [h0]; exact hJ),h0]
theorem Turn.mono (T : Turn J w w' lab lab') (h : ∀ i,J i -> J' i) (hl : ∀ b,b < w.heap.size -> J' (lab b) -> ¬ J (lab b) -> True) : Turn J' w w' lab lab' where
 os := T.os
 tape := T.tape
 output := T.output
 size := T.size
 same b hb hj := T.same b hb fun e => hj (h _ e)
 old b hb hj := T.old b hb fun e => hj (h _ e)
 own b hb hj := by
  by_cases hJ : J (lab b)
  · exact (T.own b hb hJ).imp_left (h _)
  · rw [T.old b hb hJ];exact .inl hj
 new b hb := (T.new b hb).imp_left (h _)
 lim := T.lim
theorem Turn.trans (T : Turn J w w' lab lab') (T' : Turn J w' w'' lab' lab'') (hJ : ¬ J 0) : Turn J w w'' lab lab'' where
 os := T'.os.trans T.os
 tape := T'.tape.trans T.tape
 output := T'.output.trans T.output
 size := Nat.le_trans T.size T'.size
 same b hb hj := by
  have e := T.old b hb hj;exact (T'.same b (Nat.lt_of_lt_of_le hb T.size) (by rw [e]; exact hj)).trans (T.same b hb hj)
 old b hb hj := by
  have e := T.old b hb hj;rw [T'.old b (Nat.lt_of_lt_of_le hb T.size) (by rw [e]; exact hj),e]
 own b hb hj := by
  have hb' := Nat.lt_of_lt_of_le hb T.size
  by_cases h2 : J (lab' b)
  · exact T'.own b hb' h2
  · right
    rw [T'.old b hb' h2];exact (T.own b hb hj).resolve_left h2
 new b hb := by
  rcases Nat.lt_or_ge b w'.heap.size with h1 | h1
  · by_cases h2 : J (lab' b)
    · exact T'.own b h1 h2
    · rw [T'.old b h1 h2];exact T.new b hb
  · exact T'.new b h1
 lim := T'.lim
theorem Turn.below (hb : Below w.heap.size w w') (hl : ∀ b,w.heap.size <= b -> lab b = 0) : Turn J w w' lab lab where
 os := hb.os
 tape := hb.tape
 output := hb.output
 size := hb.size
 same b h1 _ := hb.block b h1
 old _ _ _ := rfl
 own _ _ h := .inl h
 new b h1 := .inr (hl b h1)
 lim b h1 := hl b (Nat.le_trans hb.size h1)
def relab (w : World) (i : Nat) (lab : Nat -> Nat) (s : Nat) : Nat -> Nat := fun b => if w.heap.size <= b /\ b < s then i else lab b
theorem Turn.made (hk : qf (fun b => b < w.heap.size /\ ¬ J (lab b)) w w') (hl : ∀ b,w.heap.size <= b -> lab b = 0) {i : Nat} (hi : J i) : Turn J w w' lab (relab w i lab w'.heap.size) where
 os := hk.os
 tape := hk.tape
 output := hk.output
 size := hk.size
 same b h1 h2 := hk.block b h1 ⟨h1,h2⟩
 old b h1 _ := if_neg (by omega)
 own b h1 h2 := by
  left
  show J (relab w i lab w'.heap.size b);unfold relab;rw [if_neg (by omega)];exact h2
 new b h1 := by
  show J (relab w i lab w'.heap.size b) \/ relab w i lab w'.heap.size b = 0;unfold relab
  split
  · exact .inl hi
  · exact .inr (hl b h1)
 lim b h1 := by
  show relab w i lab w'.heap.size b = 0;unfold relab;rw [if_neg (by omega)];exact hl b (Nat.le_trans hk.size h1)
end
structure Row (w : World) (lab : Nat -> Nat) (i : Nat) (T : TypeId) (sz : Nat) (A : Option Addr) (n c : Nat) (vs : List Value) : Prop where
 sp : Sp T sz w A n c vs
 lb : ∀ b,blk A b -> lab b = i
theorem Row.move {J : Nat -> Prop} {w w' : World} {lab lab' : Nat -> Nat} {i : Nat} {T : TypeId} {sz : Nat} {A : Option Addr} {n c : Nat} {vs : List Value} (h : Row w lab i T sz A n c vs) (t : Turn J w w' lab lab') (hi : ¬ J i) : Row w' lab' i T sz A n c vs :=
 ⟨h.sp.keep fun b hb => t.same b (h.sp.lt hb) (by rw [h.lb b hb]; exact hi),fun b hb => (t.old b (h.sp.lt hb) (by rw [h.lb b hb]; exact hi)).trans (h.lb b hb)⟩
structure SimL where
 g : Nat
 ps : Nat -> Nat
 Ar : Option Addr
 cr : Nat
 Ah : Option Addr
 ch : Nat
 As : Option Addr
 cs : Nat
 Al : Option Addr
 cl : Nat
 An : Option Addr
 cn : Nat
 At : Option Addr
 ct : Nat
 Ad : Option Addr
 cd : Nat
 Aa : Option Addr
 ca : Nat
 Aq : Option Addr
 cq : Nat
 sE : Nat -> Option Addr
 sc : Nat -> Nat
 lA : Nat -> Option Addr
 lc : Nat -> Nat
 xs : List MLay
 ys : List Lay
def ptrs (ps : Nat -> Nat) (n : Nat) : List Value := (List.range n).map fun k => ptrV (ps k)
def qal (ht hv : Nat -> Int) (n : Nat) : List Value := (List.range n).flatMap fun k => [.int .i64 (ht k), .int .i64 (hv k)]
def qac (sn : Nat -> Ent) (sE : Nat -> Option Addr) (sc : Nat -> Nat) (n : Nat) : List Value := (List.range n).flatMap fun k => [.int .i64 (sn k).i, .int .i64 (sn k).t, .slice (sE k) (sn k).d.length (sc k)]
def logs (lg : Nat -> List Ent) (lA : Nat -> Option Addr) (lc : Nat -> Nat) (n : Nat) : List Value := (List.range n).map fun k => .slice (lA k) (lg k).length (lc k)
def qaq (l : List qar) : List Value := l.flatMap fun x => [.int .i64 (x.at_ : Int), .int .i64 x.c, .int .i64 x.t, .int .i64 (x.w : Int)]
def qaj (w : World) (lab : Nat -> Nat) (i p : Nat) (N : Node) : Prop := ∃ q s xs K,RfAt w p N (fun b => b < w.heap.size /\ lab b ≠ i) q s xs K /\ frel N.lg s
abbrev simC (S : Sim) (L : SimL) : Array Value :=
 #[.slice L.Ar S.n L.cr, .slice L.Ah S.n L.ch, .slice L.As S.n L.cs, .slice L.Al S.n L.cl, .slice L.An S.net.length L.cn, .slice L.At S.ldr.length L.ct, .slice L.Ad S.ldr.length L.cd, .slice L.Aa S.all.length L.ca, .slice L.Aq S.rds.length L.cq]
structure qh (w : World) (S : Sim) (L : SimL) (lab : Nat -> Nat) : Prop where
 lim : ∀ b,w.heap.size <= b -> lab b = 0
 row : w.heap[L.g]? = some (.cells (simC S L) 73)
 me : lab L.g = 1
 r : Row w lab 2 33 1 L.Ar S.n L.cr (ptrs L.ps S.n)
 h : Row w lab 3 40 2 L.Ah S.n L.ch (qal S.ht S.hv S.n)
 s : Row w lab 4 25 3 L.As S.n L.cs (qac S.sn L.sE L.sc S.n)
 sd : ∀ k,k < S.n -> Lies w (L.sE k) (S.sn k).d.length (L.sc k) (S.sn k).d /\ (0 < (S.sn k).d.length -> ∀ g o,L.sE k = some ⟨g,o,none⟩ -> lab g = 0)
 l : Row w lab 5 22 1 L.Al S.n L.cl (logs S.lg L.lA L.lc S.n)
 ld : ∀ k,k < S.n -> Ents w (fun b => lab b = 0) (L.lA k) (S.lg k).length (L.lc k) (S.lg k)
 n : Row w lab 6 51 13 L.An S.net.length L.cn (mrow L.xs)
 nm : L.xs.map (·.m) = S.net
 nd : ∀ x ∈ L.xs,qo w (fun b => lab b = 0) x.m x.A x.cA x.E x.cE
 t : Row w lab 7 2 1 L.At S.ldr.length L.ct (S.ldr.map fun x => .int .i64 x.1)
 d : Row w lab 8 3 1 L.Ad S.ldr.length L.cd (S.ldr.map fun x => .int .i64 (x.2 : Int))
 a : Row w lab 9 78 3 L.Aa S.all.length L.ca (rowOf L.ys)
 am : L.ys.map (·.e) = S.all
 ad : ∀ x ∈ L.ys,qs w (fun b => lab b = 0) x
 q : Row w lab 10 110 4 L.Aq S.rds.length L.cq (qaq S.rds)
 nodes : ∀ k,k < S.n -> qaj w lab (11 + k) (L.ps k) (S.r k)
section
variable {J : Nat → Prop} {w w' : World} {lab lab' : Nat → Nat} {S : Sim} {L : SimL}
theorem RfAt.ext {p : Nat} {N : Node} {Z : Nat -> Prop} {q : Ptrs} {s : Nat} {xs : List MLay} {K : Nat -> Prop} (h : RfAt w p N Z q s xs K) (hs : w.heap.size <= w'.heap.size) (hk : ∀ b,b < w.heap.size -> ¬ Z b -> w'.heap[b]? = w.heap[b]?) : RfAt w' p N (fun b => Z b \/ w.heap.size <= b) q s xs K :=
 (h.more (Y := fun b => w.heap.size <= b) (fun b hb => hb) blq).keep hs fun b hb hz => hk b hb fun e => hz (.inl e)
theorem qaj.move {i p : Nat} {N : Node} (h : qaj w lab i p N) (t : Turn J w w' lab lab') (hi : ¬ J i) (h0 : i ≠ 0) : qaj w' lab' i p N := by
 obtain ⟨q,s,xs,K,R,hf⟩ := h;refine ⟨q,s,xs,K,(R.ext t.size fun b hb hz => t.same b hb fun e => ?_).less fun b hb => ?_,hf⟩
 · have : lab b = i := Classical.byContradiction fun hne => hz ⟨hb,hne⟩
   rw [this] at e;exact hi e
 · rcases Nat.lt_or_ge b w.heap.size with h1 | h1
   · refine .inl ⟨h1,fun e => hb.2 ?_⟩;rw [t.old b h1 (by rw [e]; exact hi),e]
   · exact .inr h1
theorem qo.moved {m : Msg} {A E : Option Addr} {cA cE : Nat} (h : qo w (fun b => lab b = 0) m A cA E cE) (t : Turn J w w' lab lab') (hJ : ¬ J 0) : qo w' (fun b => lab' b = 0) m A cA E cE := by
 have h1 := h.keep t.size fun b hb h0 => t.same b hb (by rw [h0]; exact hJ)
 have h2 : ∀ b,lab b = 0 -> b < w.heap.size -> lab' b = 0 := fun b h0 hb => t.none hJ hb h0
 refine ⟨?_,h1.hm,h1.lies,fun h0 g o e => ?_⟩
 · exact (h.ents.old.keep t.size fun b hb h0 => t.same b hb (by rw [h0.1]; exact hJ)).mono fun b hb => h2 b hb.1 hb.2
 · have hg := h.lies.2.2.2 (by omega);obtain ⟨g',o',e',hg',_⟩ := hg;rw [e'] at e;injection e with e;injection e with e1;subst e1;exact h2 _ (h.hz h0 g' o' e') hg'
end
end Go.Proofs.YtmiijlecfiddmaaGreat
set_option linter.unusedVariables false
set_option linter.unusedSimpArgs false
set_option maxRecDepth 100000
set_option maxHeartbeats 200000
namespace Go.Proofs.YtmiijlecfiddmaaGreat
open Go.RowKit
section
variable {J : Nat → Prop} {w w' : World} {lab lab' : Nat → Nat} {S : Sim} {L : SimL}
theorem Lies.moved {E : Option Addr} {n c : Nat} {d : List UInt8} (h : Lies w E n c d) (hz : 0 < n -> ∀ g o,E = some ⟨g,o,none⟩ -> lab g = 0) (t : Turn J w w' lab lab') (hJ : ¬ J 0) : Lies w' E n c d /\ (0 < n -> ∀ g o,E = some ⟨g,o,none⟩ -> lab' g = 0) := by
 refine ⟨h.keep t.size fun h0 g o e hg => t.same g hg (by rw [hz h0 g o e]; exact hJ),fun h0 g o e => ?_⟩;obtain ⟨g',o',e',hg',_⟩ := h.2.2.2 h0;rw [e'] at e;injection e with e;injection e with e1;subst e1;exact t.none hJ hg' (hz h0 g' o' e')
theorem Ents.moved {A : Option Addr} {n c : Nat} {ls : List Ent} (h : Ents w (fun b => lab b = 0) A n c ls) (t : Turn J w w' lab lab') (hJ : ¬ J 0) : Ents w' (fun b => lab' b = 0) A n c ls :=
 (h.old.keep t.size fun b hb h0 => t.same b hb (by rw [h0.1]; exact hJ)).mono fun b hb => t.none hJ hb.2 hb.1
theorem qs.moved {x : Lay} (h : qs w (fun b => lab b = 0) x) (t : Turn J w w' lab lab') (hJ : ¬ J 0) : qs w' (fun b => lab' b = 0) x :=
 have h1 := h.2.1.moved h.2.2 t hJ
 ⟨h.1,h1.1,h1.2⟩
theorem qh.move (h : qh w S L lab) (t : Turn J w w' lab lab') (hJ : ∀ i,i <= 10 -> ¬ J i) (hn : ∀ k,k < S.n -> ¬ J (11 + k)) : qh w' S L lab' :=
 have nJ : ∀ i,¬ 10 < i -> ¬ J i := fun i hi => hJ i (by omega)
 {
  lim := t.lim,
  row := (t.same _ (hlt h.row) (by rw [h.me]; exact (nJ 1 (by decide)))).trans h.row,
  me := (t.old _ (hlt h.row) (by rw [h.me]; exact (nJ 1 (by decide)))).trans h.me,
  r := h.r.move t (nJ 2 (by decide)),
  h := h.h.move t (nJ 3 (by decide)),
  s := h.s.move t (nJ 4 (by decide)),
  sd := fun j hj => (h.sd j hj).1.moved (h.sd j hj).2 t (nJ 0 (by decide)),
  l := h.l.move t (nJ 5 (by decide)),
  ld := fun j hj => (h.ld j hj).moved t (nJ 0 (by decide)),
  n := h.n.move t (nJ 6 (by decide)),
  nm := h.nm,
  nd := fun x hx => (h.nd x hx).moved t (nJ 0 (by decide)),
  t := h.t.move t (nJ 7 (by decide)),
  d := h.d.move t (nJ 8 (by decide)),
  a := h.a.move t (nJ 9 (by decide)),
  am := h.am,
  ad := fun x hx => (h.ad x hx).moved t (nJ 0 (by decide)),
  q := h.q.move t (nJ 10 (by decide)),
  nodes := fun j hj => (h.nodes j hj).move t (hn j hj) (by omega) }
theorem qh.below (h : qh w S L lab) (hb : Below w.heap.size w w') : qh w' S L lab :=
 h.move (J := fun _ => False) (Turn.below hb h.lim) (fun _ _ e => e) (fun _ _ e => e)
theorem qm {β : Type} (f : Nat -> β) (a : Nat) (v : β) : Sim.upd f a v a = v := if_pos rfl
theorem upd_ne {β : Type} (f : Nat -> β) {a x : Nat} (v : β) (h : x ≠ a) : Sim.upd f a v x = f x := if_neg h
end
end Go.Proofs.YtmiijlecfiddmaaGreat
