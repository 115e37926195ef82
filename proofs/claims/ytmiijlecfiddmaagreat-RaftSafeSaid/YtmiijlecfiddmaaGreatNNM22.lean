/- The program's rightList and Right, by their contracts. -/
import Derived.Test.YtmiijlecfiddmaaGreatNNM01
import Derived.Test.YtmiijlecfiddmaaGreatNNM21
set_option linter.unusedVariables false
set_option linter.unusedSimpArgs false
set_option maxRecDepth 100000
set_option maxHeartbeats 6400000
namespace Go.Proofs.YtmiijlecfiddmaaGreat
open Go.RowKit
theorem qia (k f o t i l c x : Int) (b : Bool) (A : Option Addr) (cA : Nat) (si st : Int) (E : Option Addr) (sn cE : Nat) (es : List Ent) (w : World) (Z : Nat -> Prop) (he : Ents w Z A es.length cA es) (hm : cA <= maxLen) :
 Calls Tryz.prog 72 #[.agg (mC k f o t i l c x b A es.length cA si st E sn cE)] w fun e w' => e = .returned (.bool (qdq t i l es)) /\ Below w.heap.size w w' := by
 have hlen := Nat.le_trans he.2.1 hm;have hnm := hlen;unfold maxLen at hnm;have hb : Below w.heap.size w (w.alloc (.cells (mC k f o t i l c x b A es.length cA si st E sn cE) 51)) := blq.alloc nlq _;have hr0 := heap_alloc_new w (.cells (mC k f o t i l c x b A es.length cA si st E sn cE) 51);unfold qdq
 by_cases h4 : es.length <= 4
 case neg =>
  rw [decide_eq_false h4,Bool.false_and]
  have g4 : (4 : Int) < (es.length : Int) := by omega
  clear he h4 hr0
  go_enter Tryz.func72,Tryz.ntmps72
  go_wp2;go_ret;exact ⟨rfl,hb⟩
 rw [decide_eq_true h4,Bool.true_and];have g4 : ((4 : Int) < (es.length : Int)) = False := eq_false (by omega);have d4 : decide ((4 : Int) < (es.length : Int)) = false := decide_eq_false (by omega)
 have hRun := fun W (hW : Below w.heap.size w W) => qc9 Z A es.length cA es i l W (he.below hW nlq) hlen
 generalize runB i l es = z at *;cases z
 case false =>
  rw [Bool.false_and];clear he hr0
  go_enter Tryz.func72,Tryz.ntmps72
  go_wp2_with fail
  refine (hRun _ hb).mono ?_;rintro e w1 ⟨rfl,hb1⟩;go_wp2;go_ret;exact ⟨rfl,hb.trans (hb1.mono hb.size)⟩
 rw [Bool.true_and]
 have hlast : es.length = 0 \/ ∃ T,0 < es.length /\ lastB t es = decide (T <= t) /\ (∀ h : es.length - 1 < es.length,es[es.length - 1].t = T) := by
  by_cases h0 : es.length = 0
  · exact .inl h0
  · refine .inr ⟨(es[es.length - 1]'(by omega)).t,by omega,?_,fun h => rfl⟩;unfold lastB;rw [decide_eq_false h0,Bool.false_or,List.getElem?_eq_getElem (by omega)]
    rfl
 rcases hlast with h0 | ⟨T,h0,hT,hTe⟩
 · have hl0 : lastB t es = true := by unfold lastB; rw [decide_eq_true h0,Bool.true_or]
   rw [hl0];have z1 : ((es.length : Int) == 0) = true := beq_iff_eq.2 (by omega);have z2 : ((es.length : Int) = 0) = True := eq_true (by omega);clear hl0 he h0
   go_enter Tryz.func72,Tryz.ntmps72
   go_wp2_with fail
   refine (hRun _ hb).mono ?_;rintro e w1 ⟨rfl,hb1⟩;have hr1 := (hb1.block _ (hlt hr0)).trans hr0;obtain ⟨⟨x0,x1,x2,x3,x4,x5,x6,x7,x8,x9,x10,x11,x12⟩,_⟩ := qu hr1;clear hRun hr0 hr1;go_wp2
   go_big_quiet (fail)
   go_wp2;go_ret;exact ⟨rfl,below_drewN (hb.trans (hb1.mono hb.size)) _⟩
 · rw [hT];have z1 : ((es.length : Int) == 0) = false := beq_eq_false_iff_ne.2 (by omega);have z2 : ((es.length : Int) = 0) = False := eq_false (by omega)
   have z3 : IntKind.i64.wrap ((es.length : Int) - 1) = ((es.length - 1 : Nat) : Int) := by rw [IntWalk.i64_in _ (by omega)]; omega
   have z4 : ((es.length - 1 : Nat) : Int) < (es.length : Int) := by omega
   have z5 : es.length - 1 < es.length := by omega
   have hTe := hTe z5
   have hat := fun W (hW : Below w.heap.size w W) => (he.below hW nlq).at_ (es.length - 1) z5
   have HTE := Lib.hid hTe;clear hT h0 hTe h4;generalize hj : es.length - 1 = j at *;clear hj
   have hdec : ∀ q : Bool,decide (T <= t) = q -> Calls Tryz.prog 72 #[.agg (mC k f o t i l c x b A es.length cA si st E sn cE)] w fun e w' => e = .returned (.bool q) /\ Below w.heap.size w w' := by
    intro q hq;have HQ := Lib.hid hq
    go_enter Tryz.func72,Tryz.ntmps72
    go_wp2_with fail
    refine (hRun _ hb).mono ?_;rintro e w1 ⟨rfl,hb1⟩;have hbw := hb.trans (hb1.mono hb.size);have hr1 := (hb1.block _ (hlt hr0)).trans hr0;obtain ⟨⟨x0,x1,x2,x3,x4,x5,x6,x7,x8,x9,x10,x11,x12⟩,_⟩ := qu hr1;obtain ⟨g,off,F,cc,rfl,hg,y0,y1,y2,hly⟩ := hat w1 hbw;rw [show (es[j]'z5).t = T from HTE] at y1;clear hat hly he hRun hr0 hr1 y0 y2 hb hq;go_wp2
    go_big_quiet (fail)
    go_wp2;go_ret;exact ⟨by rw [<- show decide (T <= t) = q from HQ]; rfl,below_drewN hbw _⟩
   exact hdec _ rfl
theorem qkz (m : Msg) (h : m.k = 1) : qL m = ⟨m.k,m.f,m.o,m.t,0,0,m.c,m.x,m.b,m.es,m.s⟩ := by simp [qL,h]
theorem qkA (m : Msg) (h : m.k = 2) : qL m = ⟨m.k,m.f,m.o,m.t,m.i,m.l,m.c,m.x,false,m.es,m.s⟩ := by simp [qL,h]
theorem qkB (m : Msg) (h : m.k = 3) : qL m = ⟨m.k,m.f,m.o,m.t,0,0,m.c,m.x,m.b,m.es,m.s⟩ := by simp [qL,h]
theorem qkC (m : Msg) (h : m.k = 4) : qL m = ⟨m.k,m.f,m.o,m.t,m.i,m.l,m.c,m.x,false,m.es,m.s⟩ := by simp [qL,h]
theorem qkD (m : Msg) (h : m.k = 5) : qL m = ⟨m.k,m.f,m.o,m.t,0,0,0,0,m.b,[],m.s⟩ := by simp [qL,h]
theorem qkE (m : Msg) (h : m.k = 6) : qL m = ⟨m.k,m.f,m.o,m.t,0,m.l,m.c,0,false,m.es,m.s⟩ := by simp [qL,h]
theorem qkF (m : Msg) (h : m.k = 7) : qL m = ⟨m.k,m.f,m.o,m.t,m.i,m.l,m.c,m.x,m.b,m.es,⟨0,0,[]⟩⟩ := by simp [qL,h]
theorem qg2 (m : Msg) (A : Option Addr) (cA : Nat) (E : Option Addr) (cE : Nat) (w : World) (h1 : 1 <= m.k) (h7 : m.k <= 7) :
 Calls Tryz.prog 75 #[msgV m A cA E cE] w fun e w' => ∃ A' cA' E' cE',e = .returned (msgV (qL m) A' cA' E' cE') /\ (∀ W Z,qo W Z m A cA E cE -> qo W Z (qL m) A' cA' E' cE') /\ Below w.heap.size w w' := by
 obtain ⟨k,f,o,t,i,l,c,x,b,es,si,st,sd⟩ := m;dsimp only at h1 h7;rcases (show k = 1 \/ k = 2 \/ k = 3 \/ k = 4 \/ k = 5 \/ k = 6 \/ k = 7 by omega) with rfl | rfl | rfl | rfl | rfl | rfl | rfl
 · rw [qkz _ rfl]
   exact (qks f o t i l c x b A es.length cA si st E sd.length cE w).mono fun e w' ⟨he,hb⟩ => ⟨A,cA,E,cE,he,fun W Z h => ⟨h.ents,h.hm,h.lies,h.hz⟩,hb⟩
 · rw [qkA _ rfl]
   exact (qkt f o t i l c x b A es.length cA si st E sd.length cE w).mono fun e w' ⟨he,hb⟩ => ⟨A,cA,E,cE,he,fun W Z h => ⟨h.ents,h.hm,h.lies,h.hz⟩,hb⟩
 · rw [qkB _ rfl]
   exact (qku f o t i l c x b A es.length cA si st E sd.length cE w).mono fun e w' ⟨he,hb⟩ => ⟨A,cA,E,cE,he,fun W Z h => ⟨h.ents,h.hm,h.lies,h.hz⟩,hb⟩
 · rw [qkC _ rfl]
   exact (qkv f o t i l c x b A es.length cA si st E sd.length cE w).mono fun e w' ⟨he,hb⟩ => ⟨A,cA,E,cE,he,fun W Z h => ⟨h.ents,h.hm,h.lies,h.hz⟩,hb⟩
 · rw [qkD _ rfl]
   exact (qkw f o t i l c x b A es.length cA si st E sd.length cE w).mono fun e w' ⟨he,hb⟩ => ⟨none,0,E,cE,he,fun W Z h => ⟨qY W Z,Nat.zero_le _,h.lies,h.hz⟩,hb⟩
 · rw [qkE _ rfl]
   exact (qkx f o t i l c x b A es.length cA si st E sd.length cE w).mono fun e w' ⟨he,hb⟩ => ⟨A,cA,E,cE,he,fun W Z h => ⟨h.ents,h.hm,h.lies,h.hz⟩,hb⟩
 · rw [qkF _ rfl];exact (qky f o t i l c x b A es.length cA si st E sd.length cE w).mono fun e w' ⟨he,hb⟩ => ⟨A,cA,none,0,he,fun W Z h => ⟨h.ents,h.hm,Lies.nil W,fun h0 => absurd h0 (by simp)⟩,hb⟩
theorem qgf (m : Msg) (A : Option Addr) (cA : Nat) (E : Option Addr) (cE : Nat) (w : World) (Z : Nat -> Prop) (h : qo w Z m A cA E cE) :
 Calls Tryz.prog 41 #[msgV m A cA E cE] w fun e w' => e = .returned (.bool (rightM m)) /\ Below w.heap.size w w' := by
 rw [<- right_eq m];have hlen := h.len;obtain ⟨R,hR⟩ := exq (rightP m);rw [hR];unfold rightP at hR
 have hBare := fun W h1 h7 => qg2 m A cA E cE W h1 h7
 have hSame := fun W A' cA' E' cE' (hW : qo W Z (qL m) A' cA' E' cE') => qg1 (qL m) (qcR m) A' cA' E' cE' none 0 none 0 W Z (fun _ => True) hW (qo.of (qo.zero W _) rfl rfl)
 have hIn := fun W (hW : Below w.heap.size w W) => h.below hW nlq
 have hL := fun W (hW : Below w.heap.size w W) => qia m.k m.f m.o m.t m.i m.l m.c m.x m.b A cA m.s.i m.s.t E m.s.d.length cE m.es W Z (hIn W hW).ents h.hm
 generalize qcQ (qL m) (qcR m) = z5 at *;generalize qL m = bm at *;obtain ⟨k,f,o,t,i,l,c,x,b,es,si,st,sd⟩ := m;obtain ⟨bk,bf,bo,bt,bi,bl,bc,bx,bb,bes,bsi,bst,bsd⟩ := bm;unfold qcR at hSame;dsimp only [msgV] at *
 have hHd := fun W => qfw k f o t i l c x b A es.length cA si st E sd.length cE W
 have hHk := qaM k f o t
 have hN := fun W => qjA k f o t i l c x b A es.length cA si st E sd.length cE W
 have hSn := fun W => qh8 k f o t i l c x b A es.length cA si st E sd.length cE W
 have hHd1 := qfw k f o t 0 0 0 0 false none 0 0 0 0 none 0 0;rw [show (qb7 k f o t && decide (t <= 1099511627776)) = qbM k f o t from rfl,show (numZ i && (numZ l && (numZ c && numZ x))) = qeQ i l c x from rfl] at hR
 have hk17 : qbM k f o t = true -> 1 <= k /\ k <= 7 := fun hh => by
  unfold qbM at hh;rw [Bool.and_eq_true] at hh;have := hHk.1 hh.1;omega
 clear h hlen hHk;obtain ⟨w2,hw2⟩ : ∃ W,W = ((w.alloc (.cells (mC k f o t i l c x b A es.length cA si st E sd.length cE) 51)).alloc (.cells (mC k f o t 0 0 0 0 false none 0 0 0 0 none 0 0) 51)) := ⟨_,rfl⟩
 have hbw2 : Below w.heap.size w w2 := by rw [hw2]; exact (blq.alloc nlq _).alloc (by simp) _
 have hr1 : w2.heap[w.heap.size]? = some (.cells (mC k f o t i l c x b A es.length cA si st E sd.length cE) 51) := by rw [hw2]; exact (Below.heap_alloc _ _ _ (by simp)).trans (heap_alloc_new _ _)
 have hr2 : w2.heap[w.heap.size + 1]? = some (.cells (mC k f o t 0 0 0 0 false none 0 0 0 0 none 0 0) 51) := by rw [hw2]; exact heap_alloc2_new _ _ _
 have HW2 := Lib.hid hw2.symm;clear hw2;have hrd1 : w2.drew.heap[w.heap.size]? = some (.cells (mC k f o t i l c x b A es.length cA si st E sd.length cE) 51) := hr1;have hrd2 : w2.drew.heap[w.heap.size + 1]? = some (.cells (mC k f o t 0 0 0 0 false none 0 0 0 0 none 0 0) 51) := hr2;generalize hb1 : w.heap.size = b1 at hr1 hr2 hrd1 hrd2;have HB1 := Lib.hid hb1;clear hb1
 have hst : ∀ W W',Below w2.heap.size w2 W -> Below W.heap.size W W' -> (fun w' => Below w2.heap.size w2 w' /\ (w'.cell? ⟨b1,0,none⟩ = some (.int .i64 k) /\ w'.cell? ⟨b1,1,none⟩ = some (.int .i64 f) /\ w'.cell? ⟨b1,2,none⟩ = some (.int .i64 o) /\ w'.cell? ⟨b1,3,none⟩ = some (.int .i64 t) /\ w'.cell? ⟨b1,4,none⟩ = some (.int .i64 i) /\ w'.cell? ⟨b1,5,none⟩ = some (.int .i64 l) /\ w'.cell? ⟨b1,6,none⟩ = some (.int .i64 c) /\ w'.cell? ⟨b1,7,none⟩ = some (.int .i64 x) /\ w'.cell? ⟨b1,8,none⟩ = some (.bool b) /\ w'.cell? ⟨b1,9,none⟩ = some (.slice A es.length cA) /\ w'.cell? ⟨b1,10,none⟩ = some (.int .i64 si) /\ w'.cell? ⟨b1,11,none⟩ = some (.int .i64 st) /\ w'.cell? ⟨b1,12,none⟩ = some (.slice E sd.length cE)) /\ (w'.cell? ⟨b1 + 1,0,none⟩ = some (.int .i64 k) /\ w'.cell? ⟨b1 + 1,1,none⟩ = some (.int .i64 f) /\ w'.cell? ⟨b1 + 1,2,none⟩ = some (.int .i64 o) /\ w'.cell? ⟨b1 + 1,3,none⟩ = some (.int .i64 t) /\ w'.cell? ⟨b1 + 1,4,none⟩ = some (.int .i64 0) /\ w'.cell? ⟨b1 + 1,5,none⟩ = some (.int .i64 0) /\ w'.cell? ⟨b1 + 1,6,none⟩ = some (.int .i64 0) /\ w'.cell? ⟨b1 + 1,7,none⟩ = some (.int .i64 0) /\ w'.cell? ⟨b1 + 1,8,none⟩ = some (.bool false) /\ w'.cell? ⟨b1 + 1,9,none⟩ = some (.slice none 0 0) /\ w'.cell? ⟨b1 + 1,10,none⟩ = some (.int .i64 0) /\ w'.cell? ⟨b1 + 1,11,none⟩ = some (.int .i64 0) /\ w'.cell? ⟨b1 + 1,12,none⟩ = some (.slice none 0 0))) W' := fun W W' h1 h2 => by
  have h3 := h1.trans (h2.mono h1.size);exact ⟨h3,(qu ((h3.block _ (hlt hr1)).trans hr1)).1,(qu ((h3.block _ (hlt hr2)).trans hr2)).1⟩
 have hS0 : (fun w' => Below w2.heap.size w2 w' /\ (w'.cell? ⟨b1,0,none⟩ = some (.int .i64 k) /\ w'.cell? ⟨b1,1,none⟩ = some (.int .i64 f) /\ w'.cell? ⟨b1,2,none⟩ = some (.int .i64 o) /\ w'.cell? ⟨b1,3,none⟩ = some (.int .i64 t) /\ w'.cell? ⟨b1,4,none⟩ = some (.int .i64 i) /\ w'.cell? ⟨b1,5,none⟩ = some (.int .i64 l) /\ w'.cell? ⟨b1,6,none⟩ = some (.int .i64 c) /\ w'.cell? ⟨b1,7,none⟩ = some (.int .i64 x) /\ w'.cell? ⟨b1,8,none⟩ = some (.bool b) /\ w'.cell? ⟨b1,9,none⟩ = some (.slice A es.length cA) /\ w'.cell? ⟨b1,10,none⟩ = some (.int .i64 si) /\ w'.cell? ⟨b1,11,none⟩ = some (.int .i64 st) /\ w'.cell? ⟨b1,12,none⟩ = some (.slice E sd.length cE)) /\ (w'.cell? ⟨b1 + 1,0,none⟩ = some (.int .i64 k) /\ w'.cell? ⟨b1 + 1,1,none⟩ = some (.int .i64 f) /\ w'.cell? ⟨b1 + 1,2,none⟩ = some (.int .i64 o) /\ w'.cell? ⟨b1 + 1,3,none⟩ = some (.int .i64 t) /\ w'.cell? ⟨b1 + 1,4,none⟩ = some (.int .i64 0) /\ w'.cell? ⟨b1 + 1,5,none⟩ = some (.int .i64 0) /\ w'.cell? ⟨b1 + 1,6,none⟩ = some (.int .i64 0) /\ w'.cell? ⟨b1 + 1,7,none⟩ = some (.int .i64 0) /\ w'.cell? ⟨b1 + 1,8,none⟩ = some (.bool false) /\ w'.cell? ⟨b1 + 1,9,none⟩ = some (.slice none 0 0) /\ w'.cell? ⟨b1 + 1,10,none⟩ = some (.int .i64 0) /\ w'.cell? ⟨b1 + 1,11,none⟩ = some (.int .i64 0) /\ w'.cell? ⟨b1 + 1,12,none⟩ = some (.slice none 0 0))) w2.drew := ⟨blq.drew,(qu hrd1).1,(qu hrd2).1⟩
 have hup := fun W (hW : Below w2.heap.size w2 W) => hbw2.trans (hW.mono hbw2.size)
 generalize qbM k f o t = z1 at *;generalize qeQ i l c x = z2 at *;generalize qdq t i l es = z3 at *;generalize qcw k si st sd.length = z4 at *;cases z1
 case false =>
  obtain rfl : false = R := by rw [<- hR]; simp
  go_enter Tryz.func41,Tryz.ntmps41
  go_upto_region 2 with fail
  rw [show ((w.alloc (.cells (mC k f o t i l c x b A es.length cA si st E sd.length cE) 51)).alloc (.cells (mC k f o t 0 0 0 0 false none 0 0 0 0 none 0 0) 51)) = w2 from HW2,show w.heap.size = b1 from HB1];refine wp_region_held_drew (S := (fun w' => Below w2.heap.size w2 w' /\ (w'.cell? ⟨b1,0,none⟩ = some (.int .i64 k) /\ w'.cell? ⟨b1,1,none⟩ = some (.int .i64 f) /\ w'.cell? ⟨b1,2,none⟩ = some (.int .i64 o) /\ w'.cell? ⟨b1,3,none⟩ = some (.int .i64 t) /\ w'.cell? ⟨b1,4,none⟩ = some (.int .i64 i) /\ w'.cell? ⟨b1,5,none⟩ = some (.int .i64 l) /\ w'.cell? ⟨b1,6,none⟩ = some (.int .i64 c) /\ w'.cell? ⟨b1,7,none⟩ = some (.int .i64 x) /\ w'.cell? ⟨b1,8,none⟩ = some (.bool b) /\ w'.cell? ⟨b1,9,none⟩ = some (.slice A es.length cA) /\ w'.cell? ⟨b1,10,none⟩ = some (.int .i64 si) /\ w'.cell? ⟨b1,11,none⟩ = some (.int .i64 st) /\ w'.cell? ⟨b1,12,none⟩ = some (.slice E sd.length cE)) /\ (w'.cell? ⟨b1 + 1,0,none⟩ = some (.int .i64 k) /\ w'.cell? ⟨b1 + 1,1,none⟩ = some (.int .i64 f) /\ w'.cell? ⟨b1 + 1,2,none⟩ = some (.int .i64 o) /\ w'.cell? ⟨b1 + 1,3,none⟩ = some (.int .i64 t) /\ w'.cell? ⟨b1 + 1,4,none⟩ = some (.int .i64 0) /\ w'.cell? ⟨b1 + 1,5,none⟩ = some (.int .i64 0) /\ w'.cell? ⟨b1 + 1,6,none⟩ = some (.int .i64 0) /\ w'.cell? ⟨b1 + 1,7,none⟩ = some (.int .i64 0) /\ w'.cell? ⟨b1 + 1,8,none⟩ = some (.bool false) /\ w'.cell? ⟨b1 + 1,9,none⟩ = some (.slice none 0 0) /\ w'.cell? ⟨b1 + 1,10,none⟩ = some (.int .i64 0) /\ w'.cell? ⟨b1 + 1,11,none⟩ = some (.int .i64 0) /\ w'.cell? ⟨b1 + 1,12,none⟩ = some (.slice none 0 0)))) (by kernel_rfl) hS0 (fun hHeld => ?_);refine lsq 21 ?_;refine tkq 0 ?_;refine rdq1 1 fun KK hK => ?_;go_simp;refine (hHd1 _).mono ?_;rintro e w1 ⟨rfl,hb1⟩;have hS7 := hst _ w1 (by first | exact hHeld.1 | exact hS0.1) hb1;refine hK.out _ _ hS7 ?_;clear hK KK hHeld;intro hHeld
  try simp only [lpq]
  refine tkq 2 ?_;refine tuq 3 ?_;refine tuq 4 ?_;refine tkq 5 ?_;refine tkq 6 ?_;refine tuq 7 ?_;refine tuq 8 ?_;refine tkq 9 ?_;refine tkq 10 ?_;refine tuq 11 ?_;refine tuq 12 ?_;refine tkq 13 ?_;refine tkq 14 ?_;refine tuq 15 ?_;refine tuq 16 ?_;refine tuq 17 ?_;refine tuq 18 ?_;refine tkq 19 ?_;refine tkq 20 ?_;refine dnq ?_;go_wp2;go_ret;exact ⟨rfl,by have hq := hup _ hHeld.1; rw [show w.heap.size = b1 from HB1] at hq; exact hq⟩
 cases z2
 case false =>
  obtain rfl : false = R := by rw [<- hR]; simp
  go_enter Tryz.func41,Tryz.ntmps41
  go_upto_region 2 with fail
  rw [show ((w.alloc (.cells (mC k f o t i l c x b A es.length cA si st E sd.length cE) 51)).alloc (.cells (mC k f o t 0 0 0 0 false none 0 0 0 0 none 0 0) 51)) = w2 from HW2,show w.heap.size = b1 from HB1];refine wp_region_held_drew (S := (fun w' => Below w2.heap.size w2 w' /\ (w'.cell? ⟨b1,0,none⟩ = some (.int .i64 k) /\ w'.cell? ⟨b1,1,none⟩ = some (.int .i64 f) /\ w'.cell? ⟨b1,2,none⟩ = some (.int .i64 o) /\ w'.cell? ⟨b1,3,none⟩ = some (.int .i64 t) /\ w'.cell? ⟨b1,4,none⟩ = some (.int .i64 i) /\ w'.cell? ⟨b1,5,none⟩ = some (.int .i64 l) /\ w'.cell? ⟨b1,6,none⟩ = some (.int .i64 c) /\ w'.cell? ⟨b1,7,none⟩ = some (.int .i64 x) /\ w'.cell? ⟨b1,8,none⟩ = some (.bool b) /\ w'.cell? ⟨b1,9,none⟩ = some (.slice A es.length cA) /\ w'.cell? ⟨b1,10,none⟩ = some (.int .i64 si) /\ w'.cell? ⟨b1,11,none⟩ = some (.int .i64 st) /\ w'.cell? ⟨b1,12,none⟩ = some (.slice E sd.length cE)) /\ (w'.cell? ⟨b1 + 1,0,none⟩ = some (.int .i64 k) /\ w'.cell? ⟨b1 + 1,1,none⟩ = some (.int .i64 f) /\ w'.cell? ⟨b1 + 1,2,none⟩ = some (.int .i64 o) /\ w'.cell? ⟨b1 + 1,3,none⟩ = some (.int .i64 t) /\ w'.cell? ⟨b1 + 1,4,none⟩ = some (.int .i64 0) /\ w'.cell? ⟨b1 + 1,5,none⟩ = some (.int .i64 0) /\ w'.cell? ⟨b1 + 1,6,none⟩ = some (.int .i64 0) /\ w'.cell? ⟨b1 + 1,7,none⟩ = some (.int .i64 0) /\ w'.cell? ⟨b1 + 1,8,none⟩ = some (.bool false) /\ w'.cell? ⟨b1 + 1,9,none⟩ = some (.slice none 0 0) /\ w'.cell? ⟨b1 + 1,10,none⟩ = some (.int .i64 0) /\ w'.cell? ⟨b1 + 1,11,none⟩ = some (.int .i64 0) /\ w'.cell? ⟨b1 + 1,12,none⟩ = some (.slice none 0 0)))) (by kernel_rfl) hS0 (fun hHeld => ?_);refine lsq 21 ?_;refine tkq 0 ?_;refine rdq1 1 fun KK hK => ?_;go_simp;refine (hHd1 _).mono ?_;rintro e w1 ⟨rfl,hb1⟩;have hS7 := hst _ w1 (by first | exact hHeld.1 | exact hS0.1) hb1;refine hK.out _ _ hS7 ?_;clear hK KK hHeld;intro hHeld
  try simp only [lpq]
  refine tkq 2 ?_;refine tkq 3 ?_;refine rdq1 4 fun KK hK => ?_;go_simp;refine (hN _).mono ?_;rintro e w4 ⟨rfl,hb4⟩;have hS7 := hst _ w4 (by first | exact hHeld.1 | exact hS0.1) hb4;refine hK.out _ _ hS7 ?_;clear hK KK hHeld;intro hHeld
  try simp only [lpq]
  refine tkq 5 ?_;refine tkq 6 ?_;refine tuq 7 ?_;refine tuq 8 ?_;refine tkq 9 ?_;refine tkq 10 ?_;refine tuq 11 ?_;refine tuq 12 ?_;refine tkq 13 ?_;refine tkq 14 ?_;refine tuq 15 ?_;refine tuq 16 ?_;refine tuq 17 ?_;refine tuq 18 ?_;refine tkq 19 ?_;refine tkq 20 ?_;refine dnq ?_;go_wp2;go_ret;exact ⟨rfl,by have hq := hup _ hHeld.1; rw [show w.heap.size = b1 from HB1] at hq; exact hq⟩
 cases z3
 case false =>
  obtain rfl : false = R := by rw [<- hR]; simp
  go_enter Tryz.func41,Tryz.ntmps41
  go_upto_region 2 with fail
  rw [show ((w.alloc (.cells (mC k f o t i l c x b A es.length cA si st E sd.length cE) 51)).alloc (.cells (mC k f o t 0 0 0 0 false none 0 0 0 0 none 0 0) 51)) = w2 from HW2,show w.heap.size = b1 from HB1];refine wp_region_held_drew (S := (fun w' => Below w2.heap.size w2 w' /\ (w'.cell? ⟨b1,0,none⟩ = some (.int .i64 k) /\ w'.cell? ⟨b1,1,none⟩ = some (.int .i64 f) /\ w'.cell? ⟨b1,2,none⟩ = some (.int .i64 o) /\ w'.cell? ⟨b1,3,none⟩ = some (.int .i64 t) /\ w'.cell? ⟨b1,4,none⟩ = some (.int .i64 i) /\ w'.cell? ⟨b1,5,none⟩ = some (.int .i64 l) /\ w'.cell? ⟨b1,6,none⟩ = some (.int .i64 c) /\ w'.cell? ⟨b1,7,none⟩ = some (.int .i64 x) /\ w'.cell? ⟨b1,8,none⟩ = some (.bool b) /\ w'.cell? ⟨b1,9,none⟩ = some (.slice A es.length cA) /\ w'.cell? ⟨b1,10,none⟩ = some (.int .i64 si) /\ w'.cell? ⟨b1,11,none⟩ = some (.int .i64 st) /\ w'.cell? ⟨b1,12,none⟩ = some (.slice E sd.length cE)) /\ (w'.cell? ⟨b1 + 1,0,none⟩ = some (.int .i64 k) /\ w'.cell? ⟨b1 + 1,1,none⟩ = some (.int .i64 f) /\ w'.cell? ⟨b1 + 1,2,none⟩ = some (.int .i64 o) /\ w'.cell? ⟨b1 + 1,3,none⟩ = some (.int .i64 t) /\ w'.cell? ⟨b1 + 1,4,none⟩ = some (.int .i64 0) /\ w'.cell? ⟨b1 + 1,5,none⟩ = some (.int .i64 0) /\ w'.cell? ⟨b1 + 1,6,none⟩ = some (.int .i64 0) /\ w'.cell? ⟨b1 + 1,7,none⟩ = some (.int .i64 0) /\ w'.cell? ⟨b1 + 1,8,none⟩ = some (.bool false) /\ w'.cell? ⟨b1 + 1,9,none⟩ = some (.slice none 0 0) /\ w'.cell? ⟨b1 + 1,10,none⟩ = some (.int .i64 0) /\ w'.cell? ⟨b1 + 1,11,none⟩ = some (.int .i64 0) /\ w'.cell? ⟨b1 + 1,12,none⟩ = some (.slice none 0 0)))) (by kernel_rfl) hS0 (fun hHeld => ?_);refine lsq 21 ?_;refine tkq 0 ?_;refine rdq1 1 fun KK hK => ?_;go_simp;refine (hHd1 _).mono ?_;rintro e w1 ⟨rfl,hb1⟩;have hS7 := hst _ w1 (by first | exact hHeld.1 | exact hS0.1) hb1;refine hK.out _ _ hS7 ?_;clear hK KK hHeld;intro hHeld
  try simp only [lpq]
  refine tkq 2 ?_;refine tkq 3 ?_;refine rdq1 4 fun KK hK => ?_;go_simp;refine (hN _).mono ?_;rintro e w4 ⟨rfl,hb4⟩;have hS7 := hst _ w4 (by first | exact hHeld.1 | exact hS0.1) hb4;refine hK.out _ _ hS7 ?_;clear hK KK hHeld;intro hHeld
  try simp only [lpq]
  refine tkq 5 ?_;refine tkq 6 ?_;refine tkq 7 ?_;refine rdq1 8 fun KK hK => ?_;go_simp;refine (hL _ (hup _ hHeld.1)).mono ?_;rintro e w8 ⟨rfl,hb8⟩;have hS7 := hst _ w8 (by first | exact hHeld.1 | exact hS0.1) hb8;refine hK.out _ _ hS7 ?_;clear hK KK hHeld;intro hHeld
  try simp only [lpq]
  refine tkq 9 ?_;refine tkq 10 ?_;refine tuq 11 ?_;refine tuq 12 ?_;refine tkq 13 ?_;refine tkq 14 ?_;refine tuq 15 ?_;refine tuq 16 ?_;refine tuq 17 ?_;refine tuq 18 ?_;refine tkq 19 ?_;refine tkq 20 ?_;refine dnq ?_;go_wp2;go_ret;exact ⟨rfl,by have hq := hup _ hHeld.1; rw [show w.heap.size = b1 from HB1] at hq; exact hq⟩
 cases z4
 case false =>
  obtain rfl : false = R := by rw [<- hR]; simp
  go_enter Tryz.func41,Tryz.ntmps41
  go_upto_region 2 with fail
  rw [show ((w.alloc (.cells (mC k f o t i l c x b A es.length cA si st E sd.length cE) 51)).alloc (.cells (mC k f o t 0 0 0 0 false none 0 0 0 0 none 0 0) 51)) = w2 from HW2,show w.heap.size = b1 from HB1];refine wp_region_held_drew (S := (fun w' => Below w2.heap.size w2 w' /\ (w'.cell? ⟨b1,0,none⟩ = some (.int .i64 k) /\ w'.cell? ⟨b1,1,none⟩ = some (.int .i64 f) /\ w'.cell? ⟨b1,2,none⟩ = some (.int .i64 o) /\ w'.cell? ⟨b1,3,none⟩ = some (.int .i64 t) /\ w'.cell? ⟨b1,4,none⟩ = some (.int .i64 i) /\ w'.cell? ⟨b1,5,none⟩ = some (.int .i64 l) /\ w'.cell? ⟨b1,6,none⟩ = some (.int .i64 c) /\ w'.cell? ⟨b1,7,none⟩ = some (.int .i64 x) /\ w'.cell? ⟨b1,8,none⟩ = some (.bool b) /\ w'.cell? ⟨b1,9,none⟩ = some (.slice A es.length cA) /\ w'.cell? ⟨b1,10,none⟩ = some (.int .i64 si) /\ w'.cell? ⟨b1,11,none⟩ = some (.int .i64 st) /\ w'.cell? ⟨b1,12,none⟩ = some (.slice E sd.length cE)) /\ (w'.cell? ⟨b1 + 1,0,none⟩ = some (.int .i64 k) /\ w'.cell? ⟨b1 + 1,1,none⟩ = some (.int .i64 f) /\ w'.cell? ⟨b1 + 1,2,none⟩ = some (.int .i64 o) /\ w'.cell? ⟨b1 + 1,3,none⟩ = some (.int .i64 t) /\ w'.cell? ⟨b1 + 1,4,none⟩ = some (.int .i64 0) /\ w'.cell? ⟨b1 + 1,5,none⟩ = some (.int .i64 0) /\ w'.cell? ⟨b1 + 1,6,none⟩ = some (.int .i64 0) /\ w'.cell? ⟨b1 + 1,7,none⟩ = some (.int .i64 0) /\ w'.cell? ⟨b1 + 1,8,none⟩ = some (.bool false) /\ w'.cell? ⟨b1 + 1,9,none⟩ = some (.slice none 0 0) /\ w'.cell? ⟨b1 + 1,10,none⟩ = some (.int .i64 0) /\ w'.cell? ⟨b1 + 1,11,none⟩ = some (.int .i64 0) /\ w'.cell? ⟨b1 + 1,12,none⟩ = some (.slice none 0 0)))) (by kernel_rfl) hS0 (fun hHeld => ?_);refine lsq 21 ?_;refine tkq 0 ?_;refine rdq1 1 fun KK hK => ?_;go_simp;refine (hHd1 _).mono ?_;rintro e w1 ⟨rfl,hb1⟩;have hS7 := hst _ w1 (by first | exact hHeld.1 | exact hS0.1) hb1;refine hK.out _ _ hS7 ?_;clear hK KK hHeld;intro hHeld
  try simp only [lpq]
  refine tkq 2 ?_;refine tkq 3 ?_;refine rdq1 4 fun KK hK => ?_;go_simp;refine (hN _).mono ?_;rintro e w4 ⟨rfl,hb4⟩;have hS7 := hst _ w4 (by first | exact hHeld.1 | exact hS0.1) hb4;refine hK.out _ _ hS7 ?_;clear hK KK hHeld;intro hHeld
  try simp only [lpq]
  refine tkq 5 ?_;refine tkq 6 ?_;refine tkq 7 ?_;refine rdq1 8 fun KK hK => ?_;go_simp;refine (hL _ (hup _ hHeld.1)).mono ?_;rintro e w8 ⟨rfl,hb8⟩;have hS7 := hst _ w8 (by first | exact hHeld.1 | exact hS0.1) hb8;refine hK.out _ _ hS7 ?_;clear hK KK hHeld;intro hHeld
  try simp only [lpq]
  refine tkq 9 ?_;refine tkq 10 ?_;refine tkq 11 ?_;refine rdq1 12 fun KK hK => ?_;go_simp;refine (hSn _).mono ?_;rintro e w12 ⟨rfl,hb12⟩;have hS7 := hst _ w12 (by first | exact hHeld.1 | exact hS0.1) hb12;refine hK.out _ _ hS7 ?_;clear hK KK hHeld;intro hHeld
  try simp only [lpq]
  refine tkq 13 ?_;refine tkq 14 ?_;refine tuq 15 ?_;refine tuq 16 ?_;refine tuq 17 ?_;refine tuq 18 ?_;refine tkq 19 ?_;refine tkq 20 ?_;refine dnq ?_;go_wp2;go_ret;exact ⟨rfl,by have hq := hup _ hHeld.1; rw [show w.heap.size = b1 from HB1] at hq; exact hq⟩
 obtain ⟨hk1,hk7⟩ := hk17 rfl
 obtain rfl : z5 = R := by rw [<- hR]; simp
 go_enter Tryz.func41,Tryz.ntmps41
 go_upto_region 2 with fail
 rw [show ((w.alloc (.cells (mC k f o t i l c x b A es.length cA si st E sd.length cE) 51)).alloc (.cells (mC k f o t 0 0 0 0 false none 0 0 0 0 none 0 0) 51)) = w2 from HW2,show w.heap.size = b1 from HB1];refine wp_region_held_drew (S := (fun w' => Below w2.heap.size w2 w' /\ (w'.cell? ⟨b1,0,none⟩ = some (.int .i64 k) /\ w'.cell? ⟨b1,1,none⟩ = some (.int .i64 f) /\ w'.cell? ⟨b1,2,none⟩ = some (.int .i64 o) /\ w'.cell? ⟨b1,3,none⟩ = some (.int .i64 t) /\ w'.cell? ⟨b1,4,none⟩ = some (.int .i64 i) /\ w'.cell? ⟨b1,5,none⟩ = some (.int .i64 l) /\ w'.cell? ⟨b1,6,none⟩ = some (.int .i64 c) /\ w'.cell? ⟨b1,7,none⟩ = some (.int .i64 x) /\ w'.cell? ⟨b1,8,none⟩ = some (.bool b) /\ w'.cell? ⟨b1,9,none⟩ = some (.slice A es.length cA) /\ w'.cell? ⟨b1,10,none⟩ = some (.int .i64 si) /\ w'.cell? ⟨b1,11,none⟩ = some (.int .i64 st) /\ w'.cell? ⟨b1,12,none⟩ = some (.slice E sd.length cE)) /\ (w'.cell? ⟨b1 + 1,0,none⟩ = some (.int .i64 k) /\ w'.cell? ⟨b1 + 1,1,none⟩ = some (.int .i64 f) /\ w'.cell? ⟨b1 + 1,2,none⟩ = some (.int .i64 o) /\ w'.cell? ⟨b1 + 1,3,none⟩ = some (.int .i64 t) /\ w'.cell? ⟨b1 + 1,4,none⟩ = some (.int .i64 0) /\ w'.cell? ⟨b1 + 1,5,none⟩ = some (.int .i64 0) /\ w'.cell? ⟨b1 + 1,6,none⟩ = some (.int .i64 0) /\ w'.cell? ⟨b1 + 1,7,none⟩ = some (.int .i64 0) /\ w'.cell? ⟨b1 + 1,8,none⟩ = some (.bool false) /\ w'.cell? ⟨b1 + 1,9,none⟩ = some (.slice none 0 0) /\ w'.cell? ⟨b1 + 1,10,none⟩ = some (.int .i64 0) /\ w'.cell? ⟨b1 + 1,11,none⟩ = some (.int .i64 0) /\ w'.cell? ⟨b1 + 1,12,none⟩ = some (.slice none 0 0)))) (by kernel_rfl) hS0 (fun hHeld => ?_);refine lsq 21 ?_;refine tkq 0 ?_;refine rdq1 1 fun KK hK => ?_;go_simp;refine (hHd1 _).mono ?_;rintro e w1 ⟨rfl,hb1⟩;have hS7 := hst _ w1 (by first | exact hHeld.1 | exact hS0.1) hb1;refine hK.out _ _ hS7 ?_;clear hK KK hHeld;intro hHeld
 try simp only [lpq]
 refine tkq 2 ?_;refine tkq 3 ?_;refine rdq1 4 fun KK hK => ?_;go_simp;refine (hN _).mono ?_;rintro e w4 ⟨rfl,hb4⟩;have hS7 := hst _ w4 (by first | exact hHeld.1 | exact hS0.1) hb4;refine hK.out _ _ hS7 ?_;clear hK KK hHeld;intro hHeld
 try simp only [lpq]
 refine tkq 5 ?_;refine tkq 6 ?_;refine tkq 7 ?_;refine rdq1 8 fun KK hK => ?_;go_simp;refine (hL _ (hup _ hHeld.1)).mono ?_;rintro e w8 ⟨rfl,hb8⟩;have hS7 := hst _ w8 (by first | exact hHeld.1 | exact hS0.1) hb8;refine hK.out _ _ hS7 ?_;clear hK KK hHeld;intro hHeld
 try simp only [lpq]
 refine tkq 9 ?_;refine tkq 10 ?_;refine tkq 11 ?_;refine rdq1 12 fun KK hK => ?_;go_simp;refine (hSn _).mono ?_;rintro e w12 ⟨rfl,hb12⟩;have hS7 := hst _ w12 (by first | exact hHeld.1 | exact hS0.1) hb12;refine hK.out _ _ hS7 ?_;clear hK KK hHeld;intro hHeld
 try simp only [lpq]
 refine tkq 13 ?_;refine tkq 14 ?_;refine tkq 15 ?_;refine tkq 17 ?_;refine rdq1 16 fun KK hK => ?_;go_simp;refine (hBare _ hk1 hk7).mono ?_;rintro e w16 ⟨A',cA',E',cE',rfl,hP,hb16⟩;have hBm := hP w16 Z (hIn _ (hup _ (hHeld.1.trans (hb16.mono hHeld.1.size))));have hS7 := hst _ w16 (by first | exact hHeld.1 | exact hS0.1) hb16;refine hK.out _ _ hS7 ?_;clear hK KK hHeld;intro hHeld
 try simp only [lpq]
 refine rdq1 18 fun KK hK => ?_;go_simp;refine (hSame _ A' cA' E' cE' hBm).mono ?_;rintro e w18 ⟨rfl,hb18⟩;have hS7 := hst _ w18 (by first | exact hHeld.1 | exact hS0.1) hb18;refine hK.out _ _ hS7 ?_;clear hK KK hHeld;intro hHeld
 try simp only [lpq]
 refine tkq 19 ?_;refine tkq 20 ?_;refine dnq ?_;go_wp2;go_ret;exact ⟨rfl,by have hq := hup _ hHeld.1; rw [show w.heap.size = b1 from HB1] at hq; exact hq⟩
end Go.Proofs.YtmiijlecfiddmaaGreat
