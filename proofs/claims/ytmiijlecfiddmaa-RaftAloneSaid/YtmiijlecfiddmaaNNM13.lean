/- The program's node: a copy of a snap; what is sent to another node. -/
import Derived.Test.YtmiijlecfiddmaaNNM12
set_option linter.unusedVariables false
set_option linter.unusedSimpArgs false
set_option maxRecDepth 100000
set_option maxHeartbeats 3200000
namespace Go.Proofs.Ytmiijlecfiddmaa
open Go.RowKit
theorem qL (i t : Int) (A : Option Addr) (n c : Nat) (d : List UInt8) (w : World) (h : Lies w A n c d) (hb : n <= 140737488355328) :
 Calls Try.prog 18 #[.agg #[.int .i64 i, .int .i64 t, .slice A n c]] w fun e w' => ∃ E k,e = .returned (.agg #[.int .i64 i, .int .i64 t, .slice E n k]) /\ qh w' (fun q => w.heap.size + 2 <= q) ⟨⟨i,t,d⟩,E,k⟩ /\ (∀ q,blk E q -> w.heap.size + 2 <= q) /\ Below w.heap.size w w' := by
 obtain rfl := h.1
 have hA2 : Below w.heap.size w ((w.alloc (.cells #[.int .i64 i, .int .i64 t, .slice A d.length c] 26)).alloc (.cells #[.int .i64 0, .int .i64 0, .slice none 0 0] 26)) := (blq.alloc nlq _).alloc (by simp) _
 have hr1 : ((w.alloc (.cells #[.int .i64 i, .int .i64 t, .slice A d.length c] 26)).alloc (.cells #[.int .i64 0, .int .i64 0, .slice none 0 0] 26)).heap[w.heap.size]? = some (.cells #[.int .i64 i, .int .i64 t, .slice A d.length c] 26) := (Below.heap_alloc _ _ _ (by simp)).trans (heap_alloc_new _ _)
 have hr2 := heap_alloc2_new w (.cells #[.int .i64 i, .int .i64 t, .slice A d.length c] 26) (.cells #[.int .i64 0, .int .i64 0, .slice none 0 0] 26)
 have hC := qbn A d.length c d _ (h.below hA2 nlq) (by omega)
 simp only [World.size_alloc] at hC
 clear h hb
 go_enter Try.func18,Try.ntmps18
 go_wp2_with fail
 refine hC.mono ?_
 rintro e w3 ⟨v,rfl,ho,hb3⟩
 have hb3' : Below ((w.alloc (.cells #[.int .i64 i, .int .i64 t, .slice A d.length c] 26)).alloc (.cells #[.int .i64 0, .int .i64 0, .slice none 0 0] 26)).heap.size ((w.alloc (.cells #[.int .i64 i, .int .i64 t, .slice A d.length c] 26)).alloc (.cells #[.int .i64 0, .int .i64 0, .slice none 0 0] 26)) w3 := by simpa using hb3
 have hs1 := (hb3'.block _ (hlt hr1)).trans hr1
 have hs2 := (hb3'.block _ (hlt hr2)).trans hr2
 have hbw := hA2.trans (hb3'.mono hA2.size)
 obtain ⟨E,k,rfl,hl,hE⟩ := qaF ho
 have hcap := qbM ho
 have hown := Owns.lt ho
 obtain ⟨⟨a0,a1,a2⟩,⟨f0,f1,f2⟩⟩ := row3 hs1
 obtain ⟨_,⟨g0,g1,g2⟩⟩ := row3 hs2
 have hne : w.heap.size + 1 ≠ w.heap.size := by omega
 have t1 := (Below.heap_setCell w3 ⟨w.heap.size,2,none⟩ (.slice E d.length k) (w.heap.size + 1) hne).trans hs2
 have hfin := qbf _ (w.heap.size + 1) (.int .i64 i) (.int .i64 t) (.slice E d.length k) _ _ _ _ t1
 have t2 : Below w.heap.size w (w3.setCell ⟨w.heap.size,2,none⟩ (.slice E d.length k)) := hbw.setCell nlq _
 have hbf := qaH t2 (w.heap.size + 1) (by omega) (.int .i64 i) (.int .i64 t) (.slice E d.length k)
 have hok : qh ((((w3.setCell ⟨w.heap.size,2,none⟩ (.slice E d.length k)).setCell ⟨w.heap.size + 1,0,none⟩ (.int .i64 i)).setCell ⟨w.heap.size + 1,1,none⟩ (.int .i64 t)).setCell ⟨w.heap.size + 1,2,none⟩ (.slice E d.length k)) (fun q => w.heap.size + 2 <= q) ⟨⟨i,t,d⟩,E,k⟩ := by
  have hz : ∀ q o,E = some ⟨q,o,none⟩ -> w.heap.size + 2 <= q := fun q o e => (hown q (hE q o e)).1
  refine ⟨nlq,?_,fun _ q o e => hz q o e⟩
  show Lies _ E d.length k d
  refine hl.keep (by simp) fun h0 q o e hq => ?_
  have := hz q o e
  exact (Below.heap_setCell _ _ _ _ (by show q ≠ w.heap.size + 1; omega)).trans ((Below.heap_setCell _ _ _ _ (by show q ≠ w.heap.size + 1; omega)).trans ((Below.heap_setCell _ _ _ _ (by show q ≠ w.heap.size + 1; omega)).trans (Below.heap_setCell _ _ _ _ (by show q ≠ w.heap.size; omega))))
 have HOK := Lib.hid hok
 have HZ := Lib.hid (show ∀ q,blk E q -> w.heap.size + 2 <= q from fun q ⟨o,e⟩ => (hown q (hE q o e)).1)
 clear hok hl hE hcap hown ho hb3 hb3' hs1 hs2 hr1 hr2 hA2 hC t1 t2 hbw
 go_wp2
 refine bodyPost_ret (qat (n := w.heap.size + 1) rfl rfl hfin Try.underlying26 rfl (by kernel_rfl)) rfl ?_
 exact ⟨E,k,rfl,HOK.out,HZ.out,hbf⟩
def Turned (w w' : World) (p : Nat) (N : Node) (Z : Nat -> Prop) (q : Ptrs) (s : Nat) : Prop := ∃ q' xs K,RfAt w' p N Z q' s xs K /\ q'.l = q.l /\ qf Z w w'
section
variable {w w' : World} {p : Nat} {N : Node} {Z : Nat → Prop} {q : Ptrs} {s : Nat} {xs : List MLay} {K : Nat → Prop}
theorem Said.turned {X : World} {K' : Nat -> Prop} {x : MLay} {N' : Node} (h : Said X w' p N Z q s xs K' x) (hb : Below w.heap.size w X) (e : N' = { N with ms := N.ms ++ [x.m] }) : Turned w w' p N' Z q s := by
 obtain ⟨A',c',h1,h2⟩ := h
 subst e
 exact ⟨_,_,_,h1,rfl,(qe hb nlq).trans h2⟩
theorem Said.cells {K' : Nat -> Prop} {x : MLay} {xs' : List MLay} {q' : Ptrs} {s' : Nat} {X : World} (h : Said X w' p N Z q' s' xs' K' x) : w'.cell? ⟨p,8,none⟩ = some (ptrV q'.l) /\ w'.cell? ⟨p,9,none⟩ = some (.int .i64 N.cm) /\ w'.cell? ⟨p,25,none⟩ = some (.int .i64 N.cx) := by
 obtain ⟨A',c',h1,h2⟩ := h
 exact ⟨h1.c8,h1.c9,h1.c25⟩
theorem Ents.old {A : Option Addr} {n c : Nat} {ls : List Ent} {Y : Nat -> Prop} (h : Ents w Y A n c ls) : Ents w (fun b => Y b /\ b < w.heap.size) A n c ls := by
 refine ⟨h.1,h.2.1,h.2.2.1,fun h0 => ?_⟩
 obtain ⟨g,off,e,hg,hz,hc⟩ := h.2.2.2 h0
 refine ⟨g,off,e,hg,⟨hz,hg⟩,fun j hj => ?_⟩
 obtain ⟨E,c,c0,c1,c2,hm,hl,hzE⟩ := hc j hj
 refine ⟨E,c,c0,c1,c2,hm,hl,fun h1 q o eq => ⟨hzE h1 q o eq,?_⟩⟩
 obtain ⟨g',o',ee,hg',_⟩ := hl.2.2.2 h1
 rw [eq] at ee
 injection ee with ee
 injection ee with ee
 subst ee
 exact hg'
theorem qax {N : Node} {j : Nat} (h : N.nx j <= N.lg.i) (hn : N.id < 4) : N.send j = { N with ms := N.ms ++ [⟨7,N.id,j,N.ht,0,0,0,0,false,[],N.sn⟩] } := by
 unfold Node.send
 rw [if_pos h]
 rfl
theorem qa2 {N : Node} {j : Nat} (h : ¬ N.nx j <= N.lg.i) : N.send j = { N with ms := N.ms ++ [⟨5,N.id,j,N.ht,N.nx j - 1,(N.lg.at_ (N.nx j - 1)).getD 0,N.cm,N.cx,false,N.lg.fromL (N.nx j) 4,Node.noEnt⟩] } := by
 unfold Node.send
 rw [if_neg h]
 rfl
end
theorem qdS {w : World} {p : Nat} {N : Node} {Z : Nat -> Prop} {q : Ptrs} {s : Nat} {xs : List MLay} {K : Nat -> Prop} (h : RfAt w p N Z q s xs K) (hZ : ∀ b,Z b -> b < w.heap.size) (hm : N.ms.length < 999999) (hl : N.lg.l.length <= 1000000) (hg : Good N.lg) (hx : -4611686018427387904 <= N.nx 0 /\ N.nx 0 <= 4611686018427387904) (hsd : N.sn.d.length <= 50000) (hid : N.id < 4) :
 Calls Try.prog 38 #[ptrV p, .int .i64 0] w fun e w' => e = .returned (.tuple #[]) /\ Turned w w' p (N.send 0) Z q s := by
 have c16 := h.c16
 have c8 := h.c8
 have hp := h.lt
 obtain ⟨A,c,hr⟩ := h.log.rd
 have hB := qQ hr
 by_cases hw : N.nx 0 <= N.lg.i
 · rw [qax hw hid]
   have hC : ∀ X,Below w.heap.size w X -> RfAt X p N Z q s xs K := fun X hX => h.below hX
   have H := Lib.hid h
   clear h hr
   go_enter Try.func38,Try.ntmps38
   go_wp2_with fail
   refine hB.mono ?_
   rintro e w1 ⟨rfl,hb1⟩
   have h1 := hC w1 hb1
   have c4 := h1.c4
   have c5 := h1.c5
   have c6 := h1.c6
   have hCo := qL N.sn.i N.sn.t q.E N.sn.d.length q.cE N.sn.d w1 h1.snp (by omega)
   have H1 := Lib.hid h1
   clear hC hB h1
   go_wp2_with fail
   refine hCo.mono ?_
   rintro e w2 ⟨E,k,rfl,hok,hE,hb2⟩
   have hbw := hb1.trans (hb2.mono hb1.size)
   have h2 := H.out.grow hZ hbw
   have hl2 : Lies w2 E N.sn.d.length k N.sn.d := hok.2.1
   have hin : 0 < N.sn.d.length -> ∀ g o,E = some ⟨g,o,none⟩ -> w.heap.size <= g /\ g < w2.heap.size := fun h0 g o e => by
    obtain ⟨g',o',ee,hg',_⟩ := hl2.2.2.2 h0
    rw [e] at ee
    injection ee with ee
    injection ee with ee
    have := hE g ⟨o,e⟩
    have := hb1.size
    omega
   have hS := qP h2 (fun b hb => Nat.lt_of_lt_of_le (hZ b hb) hbw.size) hm 0 ⟨⟨7,0,0,0,0,0,0,0,false,[],N.sn⟩,none,0,E,k⟩ ⟨qO _ _,Nat.zero_le _,hl2,fun h0 g o e => ⟨.inr (hin h0 g o e),H.out.old (hin h0 g o e).1⟩⟩
   have HB := Lib.hid hbw
   clear h2 hok hE hb2 hbw hCo hb1 hZ hl2 hin
   go_wp2_with fail
   refine hS.mono ?_
   rintro e w3 ⟨rfl,hT⟩
   have HT := Lib.hid (hT.turned HB.out (N' := { N with ms := N.ms ++ [⟨7,N.id,((0 : Nat) : Int),N.ht,0,0,0,0,false,[],N.sn⟩] }) rfl)
   clear hT hS
   go_wp2
   first | refine bodyPost_end (results_none rfl _ _ _) rfl ?_ | refine bodyPost_ret (results_none rfl _ _ _) rfl ?_
   exact ⟨rfl,HT.out⟩
 · rw [qa2 hw]
   obtain ⟨A1,c1,ys,hla⟩ := h.log
   obtain ⟨J,hJ⟩ : ∃ J,J = N.nx 0 - 1 := ⟨_,rfl⟩
   have hT := fun W (hW : Below w.heap.size w W) => qah (hla.keep hW.size fun b hb _ => hW.block b hb).rd hl hg J
   have hF := fun W (hW : Below w.heap.size w W) => qai (hla.keep hW.size fun b hb _ => hW.block b hb) hl hg (N.nx 0) 4
   unfold atV at hT
   have hle : (N.lg.fromL (N.nx 0) 4).length <= 4 := by
    unfold RL.fromL
    split
    · exact Nat.zero_le _
    · rw [List.length_take]; omega
   generalize hes : N.lg.fromL (N.nx 0) 4 = es at *
   obtain ⟨tv,htv⟩ : ∃ tv,tv = (N.lg.at_ J).getD 0 := ⟨_,rfl⟩
   generalize (N.lg.at_ J).isSome = tb at *
   rw [<- hJ,<- htv]
   rw [<- htv] at hT
   have y1 : wrap64 (N.nx 0 - 1) = J := by rw [hJ,<- IntWalk.i64_left,IntWalk.i64_in _ (by omega)]
   have y2 : IntKind.i64.wrap (N.nx 0 - 1) = J := by rw [hJ,IntWalk.i64_in _ (by omega)]
   have q1 : (N.nx 0 <= N.lg.i) = False := eq_false hw
   have q1d : decide (N.nx 0 <= N.lg.i) = false := decide_eq_false hw
   have hC : ∀ X,Below w.heap.size w X -> X.cell? ⟨p,8,none⟩ = some (ptrV q.l) /\ X.cell? ⟨p,9,none⟩ = some (.int .i64 N.cm) /\ X.cell? ⟨p,25,none⟩ = some (.int .i64 N.cx) := fun X hX => ⟨(h.below hX).c8,(h.below hX).c9,(h.below hX).c25⟩
   have H := Lib.hid h
   have HX := Lib.hid (And.intro hJ htv)
   clear h hr hla hJ htv hw hes hx
   go_enter Try.func38,Try.ntmps38
   go_wp2_with fail
   refine hB.mono ?_
   rintro e w1 ⟨rfl,hb1⟩
   obtain ⟨a8,_,_⟩ := hC w1 hb1
   have hT := hT w1 hb1
   clear hB
   go_wp2_with fail
   refine hT.mono ?_
   rintro e w2 ⟨rfl,hb2⟩
   have hbw := hb1.trans (hb2.mono hb1.size)
   obtain ⟨b8,b9,b25⟩ := hC w2 hbw
   clear hT a8 hb1 hb2
   go_upto_region 5 with fail
   go_region_held3 (fun w' => w'.cell? ⟨p,8,none⟩ = some (ptrV q.l) /\ w'.cell? ⟨p,9,none⟩ = some (.int .i64 N.cm) /\ w'.cell? ⟨p,25,none⟩ = some (.int .i64 N.cx))
    (first | exact hS7 | exact ⟨b8,b9,b25⟩ | (go_keep; done))
    (first
      | (go_at_call 30
         refine (hF _ (by first | exact hbw | exact hbw.drew)).mono ?_
         rintro e w3 ⟨A',c',rfl,hE,rfl,hb3⟩
         have hb3' : Below w2.heap.size w2 w3 := by first | exact hb3 | exact blq.drew.trans hb3
         have hbw3 := hbw.trans (hb3'.mono hbw.size)
         have hMI : qk w3 (Pay N.sn.d.length q.E (fun b => K b \/ (w.heap.size <= b /\ b < w3.heap.size))) ⟨5,0,0,0,J,tv,N.cm,N.cx,false,es,Node.noEnt⟩ A' es.length none 0 := by
          refine ⟨(hE.old).mono fun b hb => ⟨.inr ⟨Nat.le_trans hbw.size hb.1,hb.2⟩,H.out.old (Nat.le_trans hbw.size hb.1)⟩,?_,Lies.nil _,fun h0 => absurd h0 (by simp [Node.noEnt])⟩
          unfold maxLen
          omega
         have HMI := Lib.hid hMI
         clear hMI hE
         have hS7 := hC w3 hbw3)
      | (go_at_call 49
         refine (qP (H.out.grow hZ hbw3) (fun b hb => Nat.lt_of_lt_of_le (hZ b hb) hbw3.size) hm 0 ⟨⟨5,0,0,0,J,tv,N.cm,N.cx,false,es,Node.noEnt⟩,A',es.length,none,0⟩ HMI.out).mono ?_
         rintro e w4 ⟨rfl,hT4⟩
         have HT := Lib.hid (hT4.turned hbw3 (N' := { N with ms := N.ms ++ [⟨5,N.id,((0 : Nat) : Int),N.ht,J,tv,N.cm,N.cx,false,es,Node.noEnt⟩] }) rfl)
         have hS7 := hT4.cells
         clear hT4))
   go_wp2
   first | refine bodyPost_end (results_none rfl _ _ _) rfl ?_ | refine bodyPost_ret (results_none rfl _ _ _) rfl ?_
   exact ⟨rfl,HT.out⟩
theorem qdT {w : World} {p : Nat} {N : Node} {Z : Nat -> Prop} {q : Ptrs} {s : Nat} {xs : List MLay} {K : Nat -> Prop} (h : RfAt w p N Z q s xs K) (hZ : ∀ b,Z b -> b < w.heap.size) (hm : N.ms.length < 999999) (hl : N.lg.l.length <= 1000000) (hg : Good N.lg) (hx : -4611686018427387904 <= N.nx 1 /\ N.nx 1 <= 4611686018427387904) (hsd : N.sn.d.length <= 50000) (hid : N.id < 4) :
 Calls Try.prog 38 #[ptrV p, .int .i64 1] w fun e w' => e = .returned (.tuple #[]) /\ Turned w w' p (N.send 1) Z q s := by
 have c19 := h.c19
 have c8 := h.c8
 have hp := h.lt
 obtain ⟨A,c,hr⟩ := h.log.rd
 have hB := qQ hr
 by_cases hw : N.nx 1 <= N.lg.i
 · rw [qax hw hid]
   have hC : ∀ X,Below w.heap.size w X -> RfAt X p N Z q s xs K := fun X hX => h.below hX
   have H := Lib.hid h
   clear h hr
   go_enter Try.func38,Try.ntmps38
   go_wp2_with fail
   refine hB.mono ?_
   rintro e w1 ⟨rfl,hb1⟩
   have h1 := hC w1 hb1
   have c4 := h1.c4
   have c5 := h1.c5
   have c6 := h1.c6
   have hCo := qL N.sn.i N.sn.t q.E N.sn.d.length q.cE N.sn.d w1 h1.snp (by omega)
   have H1 := Lib.hid h1
   clear hC hB h1
   go_wp2_with fail
   refine hCo.mono ?_
   rintro e w2 ⟨E,k,rfl,hok,hE,hb2⟩
   have hbw := hb1.trans (hb2.mono hb1.size)
   have h2 := H.out.grow hZ hbw
   have hl2 : Lies w2 E N.sn.d.length k N.sn.d := hok.2.1
   have hin : 0 < N.sn.d.length -> ∀ g o,E = some ⟨g,o,none⟩ -> w.heap.size <= g /\ g < w2.heap.size := fun h0 g o e => by
    obtain ⟨g',o',ee,hg',_⟩ := hl2.2.2.2 h0
    rw [e] at ee
    injection ee with ee
    injection ee with ee
    have := hE g ⟨o,e⟩
    have := hb1.size
    omega
   have hS := qP h2 (fun b hb => Nat.lt_of_lt_of_le (hZ b hb) hbw.size) hm 1 ⟨⟨7,0,0,0,0,0,0,0,false,[],N.sn⟩,none,0,E,k⟩ ⟨qO _ _,Nat.zero_le _,hl2,fun h0 g o e => ⟨.inr (hin h0 g o e),H.out.old (hin h0 g o e).1⟩⟩
   have HB := Lib.hid hbw
   clear h2 hok hE hb2 hbw hCo hb1 hZ hl2 hin
   go_wp2_with fail
   refine hS.mono ?_
   rintro e w3 ⟨rfl,hT⟩
   have HT := Lib.hid (hT.turned HB.out (N' := { N with ms := N.ms ++ [⟨7,N.id,((1 : Nat) : Int),N.ht,0,0,0,0,false,[],N.sn⟩] }) rfl)
   clear hT hS
   go_wp2
   first | refine bodyPost_end (results_none rfl _ _ _) rfl ?_ | refine bodyPost_ret (results_none rfl _ _ _) rfl ?_
   exact ⟨rfl,HT.out⟩
 · rw [qa2 hw]
   obtain ⟨A1,c1,ys,hla⟩ := h.log
   obtain ⟨J,hJ⟩ : ∃ J,J = N.nx 1 - 1 := ⟨_,rfl⟩
   have hT := fun W (hW : Below w.heap.size w W) => qah (hla.keep hW.size fun b hb _ => hW.block b hb).rd hl hg J
   have hF := fun W (hW : Below w.heap.size w W) => qai (hla.keep hW.size fun b hb _ => hW.block b hb) hl hg (N.nx 1) 4
   unfold atV at hT
   have hle : (N.lg.fromL (N.nx 1) 4).length <= 4 := by
    unfold RL.fromL
    split
    · exact Nat.zero_le _
    · rw [List.length_take]; omega
   generalize hes : N.lg.fromL (N.nx 1) 4 = es at *
   obtain ⟨tv,htv⟩ : ∃ tv,tv = (N.lg.at_ J).getD 0 := ⟨_,rfl⟩
   generalize (N.lg.at_ J).isSome = tb at *
   rw [<- hJ,<- htv]
   rw [<- htv] at hT
   have y1 : wrap64 (N.nx 1 - 1) = J := by rw [hJ,<- IntWalk.i64_left,IntWalk.i64_in _ (by omega)]
   have y2 : IntKind.i64.wrap (N.nx 1 - 1) = J := by rw [hJ,IntWalk.i64_in _ (by omega)]
   have q1 : (N.nx 1 <= N.lg.i) = False := eq_false hw
   have q1d : decide (N.nx 1 <= N.lg.i) = false := decide_eq_false hw
   have hC : ∀ X,Below w.heap.size w X -> X.cell? ⟨p,8,none⟩ = some (ptrV q.l) /\ X.cell? ⟨p,9,none⟩ = some (.int .i64 N.cm) /\ X.cell? ⟨p,25,none⟩ = some (.int .i64 N.cx) := fun X hX => ⟨(h.below hX).c8,(h.below hX).c9,(h.below hX).c25⟩
   have H := Lib.hid h
   have HX := Lib.hid (And.intro hJ htv)
   clear h hr hla hJ htv hw hes hx
   go_enter Try.func38,Try.ntmps38
   go_wp2_with fail
   refine hB.mono ?_
   rintro e w1 ⟨rfl,hb1⟩
   obtain ⟨a8,_,_⟩ := hC w1 hb1
   have hT := hT w1 hb1
   clear hB
   go_wp2_with fail
   refine hT.mono ?_
   rintro e w2 ⟨rfl,hb2⟩
   have hbw := hb1.trans (hb2.mono hb1.size)
   obtain ⟨b8,b9,b25⟩ := hC w2 hbw
   clear hT a8 hb1 hb2
   go_upto_region 5 with fail
   go_region_held3 (fun w' => w'.cell? ⟨p,8,none⟩ = some (ptrV q.l) /\ w'.cell? ⟨p,9,none⟩ = some (.int .i64 N.cm) /\ w'.cell? ⟨p,25,none⟩ = some (.int .i64 N.cx))
    (first | exact hS7 | exact ⟨b8,b9,b25⟩ | (go_keep; done))
    (first
      | (go_at_call 30
         refine (hF _ (by first | exact hbw | exact hbw.drew)).mono ?_
         rintro e w3 ⟨A',c',rfl,hE,rfl,hb3⟩
         have hb3' : Below w2.heap.size w2 w3 := by first | exact hb3 | exact blq.drew.trans hb3
         have hbw3 := hbw.trans (hb3'.mono hbw.size)
         have hMI : qk w3 (Pay N.sn.d.length q.E (fun b => K b \/ (w.heap.size <= b /\ b < w3.heap.size))) ⟨5,0,0,0,J,tv,N.cm,N.cx,false,es,Node.noEnt⟩ A' es.length none 0 := by
          refine ⟨(hE.old).mono fun b hb => ⟨.inr ⟨Nat.le_trans hbw.size hb.1,hb.2⟩,H.out.old (Nat.le_trans hbw.size hb.1)⟩,?_,Lies.nil _,fun h0 => absurd h0 (by simp [Node.noEnt])⟩
          unfold maxLen
          omega
         have HMI := Lib.hid hMI
         clear hMI hE
         have hS7 := hC w3 hbw3)
      | (go_at_call 49
         refine (qP (H.out.grow hZ hbw3) (fun b hb => Nat.lt_of_lt_of_le (hZ b hb) hbw3.size) hm 1 ⟨⟨5,0,0,0,J,tv,N.cm,N.cx,false,es,Node.noEnt⟩,A',es.length,none,0⟩ HMI.out).mono ?_
         rintro e w4 ⟨rfl,hT4⟩
         have HT := Lib.hid (hT4.turned hbw3 (N' := { N with ms := N.ms ++ [⟨5,N.id,((1 : Nat) : Int),N.ht,J,tv,N.cm,N.cx,false,es,Node.noEnt⟩] }) rfl)
         have hS7 := hT4.cells
         clear hT4))
   go_wp2
   first | refine bodyPost_end (results_none rfl _ _ _) rfl ?_ | refine bodyPost_ret (results_none rfl _ _ _) rfl ?_
   exact ⟨rfl,HT.out⟩
theorem qdU {w : World} {p : Nat} {N : Node} {Z : Nat -> Prop} {q : Ptrs} {s : Nat} {xs : List MLay} {K : Nat -> Prop} (h : RfAt w p N Z q s xs K) (hZ : ∀ b,Z b -> b < w.heap.size) (hm : N.ms.length < 999999) (hl : N.lg.l.length <= 1000000) (hg : Good N.lg) (hx : -4611686018427387904 <= N.nx 2 /\ N.nx 2 <= 4611686018427387904) (hsd : N.sn.d.length <= 50000) (hid : N.id < 4) :
 Calls Try.prog 38 #[ptrV p, .int .i64 2] w fun e w' => e = .returned (.tuple #[]) /\ Turned w w' p (N.send 2) Z q s := by
 have c22 := h.c22
 have c8 := h.c8
 have hp := h.lt
 obtain ⟨A,c,hr⟩ := h.log.rd
 have hB := qQ hr
 by_cases hw : N.nx 2 <= N.lg.i
 · rw [qax hw hid]
   have hC : ∀ X,Below w.heap.size w X -> RfAt X p N Z q s xs K := fun X hX => h.below hX
   have H := Lib.hid h
   clear h hr
   go_enter Try.func38,Try.ntmps38
   go_wp2_with fail
   refine hB.mono ?_
   rintro e w1 ⟨rfl,hb1⟩
   have h1 := hC w1 hb1
   have c4 := h1.c4
   have c5 := h1.c5
   have c6 := h1.c6
   have hCo := qL N.sn.i N.sn.t q.E N.sn.d.length q.cE N.sn.d w1 h1.snp (by omega)
   have H1 := Lib.hid h1
   clear hC hB h1
   go_wp2_with fail
   refine hCo.mono ?_
   rintro e w2 ⟨E,k,rfl,hok,hE,hb2⟩
   have hbw := hb1.trans (hb2.mono hb1.size)
   have h2 := H.out.grow hZ hbw
   have hl2 : Lies w2 E N.sn.d.length k N.sn.d := hok.2.1
   have hin : 0 < N.sn.d.length -> ∀ g o,E = some ⟨g,o,none⟩ -> w.heap.size <= g /\ g < w2.heap.size := fun h0 g o e => by
    obtain ⟨g',o',ee,hg',_⟩ := hl2.2.2.2 h0
    rw [e] at ee
    injection ee with ee
    injection ee with ee
    have := hE g ⟨o,e⟩
    have := hb1.size
    omega
   have hS := qP h2 (fun b hb => Nat.lt_of_lt_of_le (hZ b hb) hbw.size) hm 2 ⟨⟨7,0,0,0,0,0,0,0,false,[],N.sn⟩,none,0,E,k⟩ ⟨qO _ _,Nat.zero_le _,hl2,fun h0 g o e => ⟨.inr (hin h0 g o e),H.out.old (hin h0 g o e).1⟩⟩
   have HB := Lib.hid hbw
   clear h2 hok hE hb2 hbw hCo hb1 hZ hl2 hin
   go_wp2_with fail
   refine hS.mono ?_
   rintro e w3 ⟨rfl,hT⟩
   have HT := Lib.hid (hT.turned HB.out (N' := { N with ms := N.ms ++ [⟨7,N.id,((2 : Nat) : Int),N.ht,0,0,0,0,false,[],N.sn⟩] }) rfl)
   clear hT hS
   go_wp2
   first | refine bodyPost_end (results_none rfl _ _ _) rfl ?_ | refine bodyPost_ret (results_none rfl _ _ _) rfl ?_
   exact ⟨rfl,HT.out⟩
 · rw [qa2 hw]
   obtain ⟨A1,c1,ys,hla⟩ := h.log
   obtain ⟨J,hJ⟩ : ∃ J,J = N.nx 2 - 1 := ⟨_,rfl⟩
   have hT := fun W (hW : Below w.heap.size w W) => qah (hla.keep hW.size fun b hb _ => hW.block b hb).rd hl hg J
   have hF := fun W (hW : Below w.heap.size w W) => qai (hla.keep hW.size fun b hb _ => hW.block b hb) hl hg (N.nx 2) 4
   unfold atV at hT
   have hle : (N.lg.fromL (N.nx 2) 4).length <= 4 := by
    unfold RL.fromL
    split
    · exact Nat.zero_le _
    · rw [List.length_take]; omega
   generalize hes : N.lg.fromL (N.nx 2) 4 = es at *
   obtain ⟨tv,htv⟩ : ∃ tv,tv = (N.lg.at_ J).getD 0 := ⟨_,rfl⟩
   generalize (N.lg.at_ J).isSome = tb at *
   rw [<- hJ,<- htv]
   rw [<- htv] at hT
   have y1 : wrap64 (N.nx 2 - 1) = J := by rw [hJ,<- IntWalk.i64_left,IntWalk.i64_in _ (by omega)]
   have y2 : IntKind.i64.wrap (N.nx 2 - 1) = J := by rw [hJ,IntWalk.i64_in _ (by omega)]
   have q1 : (N.nx 2 <= N.lg.i) = False := eq_false hw
   have q1d : decide (N.nx 2 <= N.lg.i) = false := decide_eq_false hw
   have hC : ∀ X,Below w.heap.size w X -> X.cell? ⟨p,8,none⟩ = some (ptrV q.l) /\ X.cell? ⟨p,9,none⟩ = some (.int .i64 N.cm) /\ X.cell? ⟨p,25,none⟩ = some (.int .i64 N.cx) := fun X hX => ⟨(h.below hX).c8,(h.below hX).c9,(h.below hX).c25⟩
   have H := Lib.hid h
   have HX := Lib.hid (And.intro hJ htv)
   clear h hr hla hJ htv hw hes hx
   go_enter Try.func38,Try.ntmps38
   go_wp2_with fail
   refine hB.mono ?_
   rintro e w1 ⟨rfl,hb1⟩
   obtain ⟨a8,_,_⟩ := hC w1 hb1
   have hT := hT w1 hb1
   clear hB
   go_wp2_with fail
   refine hT.mono ?_
   rintro e w2 ⟨rfl,hb2⟩
   have hbw := hb1.trans (hb2.mono hb1.size)
   obtain ⟨b8,b9,b25⟩ := hC w2 hbw
   clear hT a8 hb1 hb2
   go_upto_region 5 with fail
   go_region_held3 (fun w' => w'.cell? ⟨p,8,none⟩ = some (ptrV q.l) /\ w'.cell? ⟨p,9,none⟩ = some (.int .i64 N.cm) /\ w'.cell? ⟨p,25,none⟩ = some (.int .i64 N.cx))
    (first | exact hS7 | exact ⟨b8,b9,b25⟩ | (go_keep; done))
    (first
      | (go_at_call 30
         refine (hF _ (by first | exact hbw | exact hbw.drew)).mono ?_
         rintro e w3 ⟨A',c',rfl,hE,rfl,hb3⟩
         have hb3' : Below w2.heap.size w2 w3 := by first | exact hb3 | exact blq.drew.trans hb3
         have hbw3 := hbw.trans (hb3'.mono hbw.size)
         have hMI : qk w3 (Pay N.sn.d.length q.E (fun b => K b \/ (w.heap.size <= b /\ b < w3.heap.size))) ⟨5,0,0,0,J,tv,N.cm,N.cx,false,es,Node.noEnt⟩ A' es.length none 0 := by
          refine ⟨(hE.old).mono fun b hb => ⟨.inr ⟨Nat.le_trans hbw.size hb.1,hb.2⟩,H.out.old (Nat.le_trans hbw.size hb.1)⟩,?_,Lies.nil _,fun h0 => absurd h0 (by simp [Node.noEnt])⟩
          unfold maxLen
          omega
         have HMI := Lib.hid hMI
         clear hMI hE
         have hS7 := hC w3 hbw3)
      | (go_at_call 49
         refine (qP (H.out.grow hZ hbw3) (fun b hb => Nat.lt_of_lt_of_le (hZ b hb) hbw3.size) hm 2 ⟨⟨5,0,0,0,J,tv,N.cm,N.cx,false,es,Node.noEnt⟩,A',es.length,none,0⟩ HMI.out).mono ?_
         rintro e w4 ⟨rfl,hT4⟩
         have HT := Lib.hid (hT4.turned hbw3 (N' := { N with ms := N.ms ++ [⟨5,N.id,((2 : Nat) : Int),N.ht,J,tv,N.cm,N.cx,false,es,Node.noEnt⟩] }) rfl)
         have hS7 := hT4.cells
         clear hT4))
   go_wp2
   first | refine bodyPost_end (results_none rfl _ _ _) rfl ?_ | refine bodyPost_ret (results_none rfl _ _ _) rfl ?_
   exact ⟨rfl,HT.out⟩
theorem qc8 {w : World} {p : Nat} {N : Node} {Z : Nat -> Prop} {q : Ptrs} {s : Nat} {xs : List MLay} {K : Nat -> Prop} (h : RfAt w p N Z q s xs K) (hZ : ∀ b,Z b -> b < w.heap.size) (hm : N.ms.length < 999999) (hl : N.lg.l.length <= 1000000) (hg : Good N.lg) (hx : ∀ j,-4611686018427387904 <= N.nx j /\ N.nx j <= 4611686018427387904) (hsd : N.sn.d.length <= 50000) (hid : N.id < 4) (j : Nat) (hj : j < 3) :
 Calls Try.prog 38 #[ptrV p, .int .i64 (j : Int)] w fun e w' => e = .returned (.tuple #[]) /\ Turned w w' p (N.send j) Z q s := by
 obtain rfl | rfl | rfl : j = 0 \/ j = 1 \/ j = 2 := by omega
 · exact qdS h hZ hm hl hg (hx 0) hsd hid
 · exact qdT h hZ hm hl hg (hx 1) hsd hid
 · exact qdU h hZ hm hl hg (hx 2) hsd hid
end Go.Proofs.Ytmiijlecfiddmaa
