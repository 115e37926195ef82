/- The program's rightHead, rightNumbers, rightSnap, bare, by their contracts. -/
import Derived.Test.YtmiijlecfiddmaaGreatNNM04
import Derived.Test.YtmiijlecfiddmaaGreatNNM01
set_option linter.unusedVariables false
set_option linter.unusedSimpArgs false
set_option maxRecDepth 100000
set_option maxHeartbeats 3200000
namespace Go.Proofs.YtmiijlecfiddmaaGreat
open Go.RowKit
def qbM (k f o t : Int) : Bool := qb7 k f o t && decide (t <= 1099511627776)
theorem qh7 (k f o t : Int) : qbM k f o t = true ↔ 1 <= k /\ k <= 7 /\ qb9 f = true /\ qb9 o = true /\ f ≠ o /\ 1 <= t /\ t <= 1099511627776 := by
 unfold qbM qb9;rw [Bool.and_eq_true,qaM];simp;omega
theorem qfw (k f o t i l c x : Int) (b : Bool) (A : Option Addr) (n cA : Nat) (si st : Int) (E : Option Addr) (sn cE : Nat) (w : World) :
 Calls Tryz.prog 70 #[.agg (mC k f o t i l c x b A n cA si st E sn cE)] w fun e w' => e = .returned (.bool (qbM k f o t)) /\ Below w.heap.size w w' := by
 have hb : Below w.heap.size w (w.alloc (.cells (mC k f o t i l c x b A n cA si st E sn cE) 51)) := (Below.refl _ _).alloc (Nat.le_refl _) _;have hH := qh7 k f o t
 have hN1 := fun W => qe3 f W
 have hN2 := fun W => qe3 o W
 generalize qbM k f o t = R at *
 by_cases p0 : 1 <= k
 case neg =>
  obtain rfl : R = false := by
   rw [Bool.eq_false_iff];intro q;exact p0 (hH.1 q).1
  have e1 : decide (1 <= k) = false := decide_eq_false p0;have e2 : (1 <= k) = False := eq_false p0;clear hH p0
  go_enter Tryz.func70,Tryz.ntmps70
  try dsimp only [List.append]
  go_wp2;go_ret;exact ⟨rfl,hb⟩
 by_cases p1 : k <= 7
 case neg =>
  obtain rfl : R = false := by
   rw [Bool.eq_false_iff];intro q;exact p1 (hH.1 q).2.1
  have e1 : decide (k <= 7) = false := decide_eq_false p1;have e2 : (k <= 7) = False := eq_false p1;clear hH p1
  go_enter Tryz.func70,Tryz.ntmps70
  try dsimp only [List.append]
  go_wp2;go_ret;exact ⟨rfl,hb⟩
 cases hz2 : qb9 f
 case false =>
  obtain rfl : R = false := by
   rw [Bool.eq_false_iff];intro q;have := (hH.1 q).2.2.1;rw [hz2] at this;cases this
  rw [hz2] at hN1;clear hH hz2
  go_enter Tryz.func70,Tryz.ntmps70
  try dsimp only [List.append]
  go_wp2_with fail
  refine (hN1 _).mono ?_;rintro e w1 ⟨rfl,rfl⟩;go_wp2;go_ret;exact ⟨rfl,hb⟩
 rw [hz2] at hN1
 cases hz3 : qb9 o
 case false =>
  obtain rfl : R = false := by
   rw [Bool.eq_false_iff];intro q;have := (hH.1 q).2.2.2.1;rw [hz3] at this;cases this
  rw [hz3] at hN2;clear hH hz3
  go_enter Tryz.func70,Tryz.ntmps70
  try dsimp only [List.append]
  go_wp2_with fail
  refine (hN1 _).mono ?_;rintro e w1 ⟨rfl,rfl⟩
  go_wp2_with fail
  refine (hN2 _).mono ?_;rintro e w2 ⟨rfl,rfl⟩;go_wp2;go_ret;exact ⟨rfl,hb⟩
 rw [hz3] at hN2
 by_cases p4 : f ≠ o
 case neg =>
  obtain rfl : R = false := by
   rw [Bool.eq_false_iff];intro q;exact p4 (hH.1 q).2.2.2.2.1
  obtain rfl : f = o := by omega
  clear hH p4
  go_enter Tryz.func70,Tryz.ntmps70
  try dsimp only [List.append]
  go_wp2_with fail
  refine (hN1 _).mono ?_;rintro e w1 ⟨rfl,rfl⟩
  go_wp2_with fail
  refine (hN2 _).mono ?_;rintro e w2 ⟨rfl,rfl⟩;go_wp2;go_ret;exact ⟨rfl,hb⟩
 have q4 : (f == o) = false := beq_eq_false_iff_ne.2 p4;have r4 : (f = o) = False := eq_false p4
 have s4 : (f != o) = true := by simp [p4]
 by_cases p5 : 1 <= t
 case neg =>
  obtain rfl : R = false := by
   rw [Bool.eq_false_iff];intro q;exact p5 (hH.1 q).2.2.2.2.2.1
  have e1 : decide (1 <= t) = false := decide_eq_false p5;have e2 : (1 <= t) = False := eq_false p5;clear hH p5
  go_enter Tryz.func70,Tryz.ntmps70
  try dsimp only [List.append]
  go_wp2_with fail
  refine (hN1 _).mono ?_;rintro e w1 ⟨rfl,rfl⟩
  go_wp2_with fail
  refine (hN2 _).mono ?_;rintro e w2 ⟨rfl,rfl⟩;go_wp2;go_ret;exact ⟨rfl,hb⟩
 by_cases p6 : t <= 1099511627776
 case neg =>
  obtain rfl : R = false := by
   rw [Bool.eq_false_iff];intro q;exact p6 (hH.1 q).2.2.2.2.2.2
  have e1 : decide (t <= 1099511627776) = false := decide_eq_false p6;have e2 : (t <= 1099511627776) = False := eq_false p6;clear hH p6
  go_enter Tryz.func70,Tryz.ntmps70
  try dsimp only [List.append]
  go_wp2_with fail
  refine (hN1 _).mono ?_;rintro e w1 ⟨rfl,rfl⟩
  go_wp2_with fail
  refine (hN2 _).mono ?_;rintro e w2 ⟨rfl,rfl⟩;go_wp2;go_ret;exact ⟨rfl,hb⟩
 obtain rfl : R = true := hH.2 ⟨p0,p1,hz2,hz3,p4,p5,p6⟩;clear hH hz2 hz3
 go_enter Tryz.func70,Tryz.ntmps70
 try dsimp only [List.append]
 go_wp2_with fail
 refine (hN1 _).mono ?_;rintro e w1 ⟨rfl,rfl⟩
 go_wp2_with fail
 refine (hN2 _).mono ?_;rintro e w2 ⟨rfl,rfl⟩;go_wp2;go_ret;exact ⟨rfl,hb⟩
def qeQ (i l c x : Int) : Bool := numZ i && (numZ l && (numZ c && numZ x))
theorem qjA (k f o t i l c x : Int) (b : Bool) (A : Option Addr) (n cA : Nat) (si st : Int) (E : Option Addr) (sn cE : Nat) (w : World) :
 Calls Tryz.prog 71 #[.agg (mC k f o t i l c x b A n cA si st E sn cE)] w fun e w' => e = .returned (.bool (qeQ i l c x)) /\ Below w.heap.size w w' := by
 have hb : Below w.heap.size w (w.alloc (.cells (mC k f o t i l c x b A n cA si st E sn cE) 51)) := (Below.refl _ _).alloc (Nat.le_refl _) _;unfold qeQ
 have hN1 := fun W => qbg i W
 have hN2 := fun W => qbg l W
 have hN3 := fun W => qbg c W
 have hN4 := fun W => qbg x W
 generalize numZ i = z1 at *;generalize numZ l = z2 at *;generalize numZ c = z3 at *;generalize numZ x = z4 at *;cases z1
 case false =>
  rw [Bool.false_and]
  go_enter Tryz.func71,Tryz.ntmps71
  try dsimp only [List.append]
  go_wp2_with fail
  refine (hN1 _).mono ?_;rintro e w1 ⟨rfl,rfl⟩;go_wp2;go_ret;exact ⟨rfl,hb⟩
 rw [Bool.true_and];cases z2
 case false =>
  rw [Bool.false_and]
  go_enter Tryz.func71,Tryz.ntmps71
  try dsimp only [List.append]
  go_wp2_with fail
  refine (hN1 _).mono ?_;rintro e w1 ⟨rfl,rfl⟩
  go_wp2_with fail
  refine (hN2 _).mono ?_;rintro e w2 ⟨rfl,rfl⟩;go_wp2;go_ret;exact ⟨rfl,hb⟩
 rw [Bool.true_and];cases z3
 case false =>
  rw [Bool.false_and]
  go_enter Tryz.func71,Tryz.ntmps71
  try dsimp only [List.append]
  go_wp2_with fail
  refine (hN1 _).mono ?_;rintro e w1 ⟨rfl,rfl⟩
  go_wp2_with fail
  refine (hN2 _).mono ?_;rintro e w2 ⟨rfl,rfl⟩
  go_wp2_with fail
  refine (hN3 _).mono ?_;rintro e w3 ⟨rfl,rfl⟩;go_wp2;go_ret;exact ⟨rfl,hb⟩
 rw [Bool.true_and]
 go_enter Tryz.func71,Tryz.ntmps71
 try dsimp only [List.append]
 go_wp2_with fail
 refine (hN1 _).mono ?_;rintro e w1 ⟨rfl,rfl⟩
 go_wp2_with fail
 refine (hN2 _).mono ?_;rintro e w2 ⟨rfl,rfl⟩
 go_wp2_with fail
 refine (hN3 _).mono ?_;rintro e w3 ⟨rfl,rfl⟩
 go_wp2_with fail
 refine (hN4 _).mono ?_;rintro e w4 ⟨rfl,rfl⟩;go_wp2;go_ret;exact ⟨rfl,hb⟩
theorem qh8 (k f o t i l c x : Int) (b : Bool) (A : Option Addr) (n cA : Nat) (si st : Int) (E : Option Addr) (sn cE : Nat) (w : World) :
 Calls Tryz.prog 73 #[.agg (mC k f o t i l c x b A n cA si st E sn cE)] w fun e w' => e = .returned (.bool (qcw k si st sn)) /\ Below w.heap.size w w' := by
 have hb : Below w.heap.size w (w.alloc (.cells (mC k f o t i l c x b A n cA si st E sn cE) 51)) := (Below.refl _ _).alloc (Nat.le_refl _) _;have hr0 := heap_alloc_new w (.cells (mC k f o t i l c x b A n cA si st E sn cE) 51);have hS := qe2 si st E sn cE (w.alloc (.cells (mC k f o t i l c x b A n cA si st E sn cE) 51));unfold qcw;generalize qak si st sn = z at *
 cases z with
 | false =>
   rw [Bool.false_and];clear hr0
   go_enter Tryz.func73,Tryz.ntmps73
   try dsimp only [List.append]
   go_wp2_with fail
   refine hS.mono ?_;rintro e w1 ⟨rfl,hb1⟩;go_wp2;go_ret;exact ⟨rfl,hb.trans (hb1.mono hb.size)⟩
 | true =>
   rw [Bool.true_and]
   by_cases h7 : k = 7
   · subst h7;rw [decide_eq_false (by simp),Bool.false_or]
     have e7 : ((7 : Int) != 7) = false := by decide
     by_cases h0 : 0 < si
     · rw [decide_eq_true h0]
       go_enter Tryz.func73,Tryz.ntmps73
       try dsimp only [List.append]
       go_wp2_with fail
       refine hS.mono ?_;rintro e w1 ⟨rfl,hb1⟩;have hr1 := (hb1.block _ (hlt hr0)).trans hr0;obtain ⟨⟨x0,x1,x2,x3,x4,x5,x6,x7,x8,x9,x10,x11,x12⟩,_⟩ := qu hr1;clear hS hr0 hr1;go_wp2;go_ret;exact ⟨rfl,hb.trans (hb1.mono hb.size)⟩
     · rw [decide_eq_false h0];have q0 : (0 < si) = False := eq_false h0;clear h0
       go_enter Tryz.func73,Tryz.ntmps73
       try dsimp only [List.append]
       go_wp2_with fail
       refine hS.mono ?_;rintro e w1 ⟨rfl,hb1⟩;have hr1 := (hb1.block _ (hlt hr0)).trans hr0;obtain ⟨⟨x0,x1,x2,x3,x4,x5,x6,x7,x8,x9,x10,x11,x12⟩,_⟩ := qu hr1;clear hS hr0 hr1;go_wp2;go_ret;exact ⟨rfl,hb.trans (hb1.mono hb.size)⟩
   · have e7 : (k != 7) = true := by simp [h7]
     have e8 : (k = 7) = False := eq_false h7;rw [decide_eq_true h7,Bool.true_or];clear h7
     go_enter Tryz.func73,Tryz.ntmps73
     try dsimp only [List.append]
     go_wp2_with fail
     refine hS.mono ?_;rintro e w1 ⟨rfl,hb1⟩;have hr1 := (hb1.block _ (hlt hr0)).trans hr0;obtain ⟨⟨x0,x1,x2,x3,x4,x5,x6,x7,x8,x9,x10,x11,x12⟩,_⟩ := qu hr1;clear hS hr0 hr1;go_wp2;go_ret;exact ⟨rfl,hb.trans (hb1.mono hb.size)⟩
theorem qks (f o t i l c x : Int) (b : Bool) (A : Option Addr) (n cA : Nat) (si st : Int) (E : Option Addr) (sn cE : Nat) (w : World) :
 Calls Tryz.prog 75 #[.agg (mC 1 f o t i l c x b A n cA si st E sn cE)] w fun e w' => e = .returned (.agg (mC 1 f o t 0 0 c x b A n cA si st E sn cE)) /\ Below w.heap.size w w' := by
 have hb : Below w.heap.size w ((w.alloc (.cells (mC 1 f o t 0 0 c x b A n cA si st E sn cE) 51)).alloc (.cells (mC 1 f o t 0 0 c x b A n cA si st E sn cE) 51)) := ((Below.refl _ _).alloc (Nat.le_refl _) _).alloc (by simp) _
 go_enter Tryz.func75,Tryz.ntmps75
 try dsimp only [List.append]
 go_wp2;refine bodyPost_ret (qH (n := w.heap.size + 1) rfl rfl (heap_alloc2_new _ _ _) Tryz.underlying51 rfl (by kernel_rfl)) rfl ?_;exact ⟨rfl,hb⟩
theorem qkt (f o t i l c x : Int) (b : Bool) (A : Option Addr) (n cA : Nat) (si st : Int) (E : Option Addr) (sn cE : Nat) (w : World) :
 Calls Tryz.prog 75 #[.agg (mC 2 f o t i l c x b A n cA si st E sn cE)] w fun e w' => e = .returned (.agg (mC 2 f o t i l c x false A n cA si st E sn cE)) /\ Below w.heap.size w w' := by
 have hb : Below w.heap.size w ((w.alloc (.cells (mC 2 f o t i l c x false A n cA si st E sn cE) 51)).alloc (.cells (mC 2 f o t i l c x false A n cA si st E sn cE) 51)) := ((Below.refl _ _).alloc (Nat.le_refl _) _).alloc (by simp) _
 go_enter Tryz.func75,Tryz.ntmps75
 try dsimp only [List.append]
 go_wp2;refine bodyPost_ret (qH (n := w.heap.size + 1) rfl rfl (heap_alloc2_new _ _ _) Tryz.underlying51 rfl (by kernel_rfl)) rfl ?_;exact ⟨rfl,hb⟩
theorem qku (f o t i l c x : Int) (b : Bool) (A : Option Addr) (n cA : Nat) (si st : Int) (E : Option Addr) (sn cE : Nat) (w : World) :
 Calls Tryz.prog 75 #[.agg (mC 3 f o t i l c x b A n cA si st E sn cE)] w fun e w' => e = .returned (.agg (mC 3 f o t 0 0 c x b A n cA si st E sn cE)) /\ Below w.heap.size w w' := by
 have hb : Below w.heap.size w ((w.alloc (.cells (mC 3 f o t 0 0 c x b A n cA si st E sn cE) 51)).alloc (.cells (mC 3 f o t 0 0 c x b A n cA si st E sn cE) 51)) := ((Below.refl _ _).alloc (Nat.le_refl _) _).alloc (by simp) _
 go_enter Tryz.func75,Tryz.ntmps75
 try dsimp only [List.append]
 go_wp2;refine bodyPost_ret (qH (n := w.heap.size + 1) rfl rfl (heap_alloc2_new _ _ _) Tryz.underlying51 rfl (by kernel_rfl)) rfl ?_;exact ⟨rfl,hb⟩
theorem qkv (f o t i l c x : Int) (b : Bool) (A : Option Addr) (n cA : Nat) (si st : Int) (E : Option Addr) (sn cE : Nat) (w : World) :
 Calls Tryz.prog 75 #[.agg (mC 4 f o t i l c x b A n cA si st E sn cE)] w fun e w' => e = .returned (.agg (mC 4 f o t i l c x false A n cA si st E sn cE)) /\ Below w.heap.size w w' := by
 have hb : Below w.heap.size w ((w.alloc (.cells (mC 4 f o t i l c x false A n cA si st E sn cE) 51)).alloc (.cells (mC 4 f o t i l c x false A n cA si st E sn cE) 51)) := ((Below.refl _ _).alloc (Nat.le_refl _) _).alloc (by simp) _
 go_enter Tryz.func75,Tryz.ntmps75
 try dsimp only [List.append]
 go_wp2;refine bodyPost_ret (qH (n := w.heap.size + 1) rfl rfl (heap_alloc2_new _ _ _) Tryz.underlying51 rfl (by kernel_rfl)) rfl ?_;exact ⟨rfl,hb⟩
theorem qkw (f o t i l c x : Int) (b : Bool) (A : Option Addr) (n cA : Nat) (si st : Int) (E : Option Addr) (sn cE : Nat) (w : World) :
 Calls Tryz.prog 75 #[.agg (mC 5 f o t i l c x b A n cA si st E sn cE)] w fun e w' => e = .returned (.agg (mC 5 f o t 0 0 0 0 b none 0 0 si st E sn cE)) /\ Below w.heap.size w w' := by
 have hb : Below w.heap.size w ((w.alloc (.cells (mC 5 f o t 0 0 0 0 b none 0 0 si st E sn cE) 51)).alloc (.cells (mC 5 f o t 0 0 0 0 b none 0 0 si st E sn cE) 51)) := ((Below.refl _ _).alloc (Nat.le_refl _) _).alloc (by simp) _
 go_enter Tryz.func75,Tryz.ntmps75
 try dsimp only [List.append]
 go_wp2;refine bodyPost_ret (qH (n := w.heap.size + 1) rfl rfl (heap_alloc2_new _ _ _) Tryz.underlying51 rfl (by kernel_rfl)) rfl ?_;exact ⟨rfl,hb⟩
theorem qkx (f o t i l c x : Int) (b : Bool) (A : Option Addr) (n cA : Nat) (si st : Int) (E : Option Addr) (sn cE : Nat) (w : World) :
 Calls Tryz.prog 75 #[.agg (mC 6 f o t i l c x b A n cA si st E sn cE)] w fun e w' => e = .returned (.agg (mC 6 f o t 0 l c 0 false A n cA si st E sn cE)) /\ Below w.heap.size w w' := by
 have hb : Below w.heap.size w ((w.alloc (.cells (mC 6 f o t 0 l c 0 false A n cA si st E sn cE) 51)).alloc (.cells (mC 6 f o t 0 l c 0 false A n cA si st E sn cE) 51)) := ((Below.refl _ _).alloc (Nat.le_refl _) _).alloc (by simp) _
 go_enter Tryz.func75,Tryz.ntmps75
 try dsimp only [List.append]
 go_wp2;refine bodyPost_ret (qH (n := w.heap.size + 1) rfl rfl (heap_alloc2_new _ _ _) Tryz.underlying51 rfl (by kernel_rfl)) rfl ?_;exact ⟨rfl,hb⟩
theorem qky (f o t i l c x : Int) (b : Bool) (A : Option Addr) (n cA : Nat) (si st : Int) (E : Option Addr) (sn cE : Nat) (w : World) :
 Calls Tryz.prog 75 #[.agg (mC 7 f o t i l c x b A n cA si st E sn cE)] w fun e w' => e = .returned (.agg (mC 7 f o t i l c x b A n cA 0 0 none 0 0)) /\ Below w.heap.size w w' := by
 have hb : Below w.heap.size w ((w.alloc (.cells (mC 7 f o t i l c x b A n cA 0 0 none 0 0) 51)).alloc (.cells (mC 7 f o t i l c x b A n cA 0 0 none 0 0) 51)) := ((Below.refl _ _).alloc (Nat.le_refl _) _).alloc (by simp) _
 go_enter Tryz.func75,Tryz.ntmps75
 try dsimp only [List.append]
 go_wp2;refine bodyPost_ret (qH (n := w.heap.size + 1) rfl rfl (heap_alloc2_new _ _ _) Tryz.underlying51 rfl (by kernel_rfl)) rfl ?_;exact ⟨rfl,hb⟩
end Go.Proofs.YtmiijlecfiddmaaGreat
set_option linter.unusedVariables false
set_option linter.unusedSimpArgs false
set_option maxRecDepth 100000
set_option maxHeartbeats 3200000
namespace Go.Proofs.YtmiijlecfiddmaaGreat
open Go.RowKit
theorem Ents.one {w : World} {Z : Nat -> Prop} (i t : Int) (E : Option Addr) (n c : Nat) (d : List UInt8) (T : TypeId) (hl : Lies w E n c d) (hz : ∀ k,Z k) :
 Ents (w.alloc (.cells #[.int .i64 i, .int .i64 t, .slice E n c] T)) Z (some ⟨w.heap.size,0,none⟩) 1 1 [⟨i,t,d⟩] := by
 have hb := (Below.refl w.heap.size w).alloc (Nat.le_refl _) (.cells #[.int .i64 i, .int .i64 t, .slice E n c] T);obtain ⟨⟨a0,a1,a2⟩,_⟩ := row3 (heap_alloc_new w (.cells #[.int .i64 i, .int .i64 t, .slice E n c] T));have hd := hl.1;subst hd;refine ⟨rfl,Nat.le_refl _,(fun e => by cases e),fun _ => ⟨w.heap.size,0,rfl,by simp,hz _,fun j hj => ?_⟩⟩
 obtain rfl : j = 0 := by simpa using hj
 exact ⟨E,c,a0,a1,a2,Nat.le_refl _,hl.below hb (Nat.le_refl _),fun _ _ _ _ => hz _⟩
theorem qh9 (a b : Ent) : qaa [a] [b] = oneB a.i a.t a.d b.i b.t b.d := by
 simp [qaa,qa5]
theorem qg1 (m m' : Msg) (A : Option Addr) (cA : Nat) (E : Option Addr) (cE : Nat) (A' : Option Addr) (cA' : Nat) (E' : Option Addr) (cE' : Nat) (w : World) (Z Y : Nat -> Prop) (h : qo w Z m A cA E cE) (h' : qo w Y m' A' cA' E' cE') :
 Calls Tryz.prog 74 #[msgV m A cA E cE,msgV m' A' cA' E' cE'] w fun e w' => e = .returned (.bool (qcQ m m')) /\ Below w.heap.size w w' := by
 have hlen := h.len;obtain ⟨k,f,o,t,i,l,c,x,b,es,si,st,sd⟩ := m;obtain ⟨k',f',o',t',i',l',c',x',b',es',si',st',sd'⟩ := m';obtain ⟨he,_,hs,_⟩ := h;obtain ⟨he',_,hs',_⟩ := h';unfold qcQ;dsimp only [msgV] at *;generalize es.length = n at *;generalize es'.length = n' at *;generalize sd.length = sn at *;generalize sd'.length = sn' at *;have hb : Below w.heap.size w ((w.alloc (.cells (mC k f o t i l c x b A n cA si st E sn cE) 51)).alloc (.cells (mC k' f' o' t' i' l' c' x' b' A' n' cA' si' st' E' sn' cE') 51)) := ((Below.refl _ _).alloc (Nat.le_refl _) _).alloc (by simp) _;have he2 := he.below hb (Nat.le_refl _);have he2' := he'.below hb (Nat.le_refl _);clear he he'
 by_cases h_k : k = k'
 case neg =>
  have e1 : (k == k') = false := beq_eq_false_iff_ne.2 h_k;have e2 : (k = k') = False := eq_false h_k;rw [decide_eq_false h_k,Bool.false_and];clear h_k;clear he2 he2' hs hs' hlen
  go_enter Tryz.func74,Tryz.ntmps74
  dsimp only [List.append];go_wp2;go_ret;exact ⟨rfl,hb⟩
 subst h_k;rw [decide_eq_true rfl,Bool.true_and]
 by_cases h_f : f = f'
 case neg =>
  have e1 : (f == f') = false := beq_eq_false_iff_ne.2 h_f;have e2 : (f = f') = False := eq_false h_f;rw [decide_eq_false h_f,Bool.false_and];clear h_f;clear he2 he2' hs hs' hlen
  go_enter Tryz.func74,Tryz.ntmps74
  dsimp only [List.append];go_wp2;go_ret;exact ⟨rfl,hb⟩
 subst h_f;rw [decide_eq_true rfl,Bool.true_and]
 by_cases h_o : o = o'
 case neg =>
  have e1 : (o == o') = false := beq_eq_false_iff_ne.2 h_o;have e2 : (o = o') = False := eq_false h_o;rw [decide_eq_false h_o,Bool.false_and];clear h_o;clear he2 he2' hs hs' hlen
  go_enter Tryz.func74,Tryz.ntmps74
  dsimp only [List.append];go_wp2;go_ret;exact ⟨rfl,hb⟩
 subst h_o;rw [decide_eq_true rfl,Bool.true_and]
 by_cases h_t : t = t'
 case neg =>
  have e1 : (t == t') = false := beq_eq_false_iff_ne.2 h_t;have e2 : (t = t') = False := eq_false h_t;rw [decide_eq_false h_t,Bool.false_and];clear h_t;clear he2 he2' hs hs' hlen
  go_enter Tryz.func74,Tryz.ntmps74
  dsimp only [List.append];go_wp2;go_ret;exact ⟨rfl,hb⟩
 subst h_t;rw [decide_eq_true rfl,Bool.true_and]
 by_cases h_i : i = i'
 case neg =>
  have e1 : (i == i') = false := beq_eq_false_iff_ne.2 h_i;have e2 : (i = i') = False := eq_false h_i;rw [decide_eq_false h_i,Bool.false_and];clear h_i;clear he2 he2' hs hs' hlen
  go_enter Tryz.func74,Tryz.ntmps74
  dsimp only [List.append];go_wp2;go_ret;exact ⟨rfl,hb⟩
 subst h_i;rw [decide_eq_true rfl,Bool.true_and]
 by_cases h_l : l = l'
 case neg =>
  have e1 : (l == l') = false := beq_eq_false_iff_ne.2 h_l;have e2 : (l = l') = False := eq_false h_l;rw [decide_eq_false h_l,Bool.false_and];clear h_l;clear he2 he2' hs hs' hlen
  go_enter Tryz.func74,Tryz.ntmps74
  dsimp only [List.append];go_wp2;go_ret;exact ⟨rfl,hb⟩
 subst h_l;rw [decide_eq_true rfl,Bool.true_and]
 by_cases h_c : c = c'
 case neg =>
  have e1 : (c == c') = false := beq_eq_false_iff_ne.2 h_c;have e2 : (c = c') = False := eq_false h_c;rw [decide_eq_false h_c,Bool.false_and];clear h_c;clear he2 he2' hs hs' hlen
  go_enter Tryz.func74,Tryz.ntmps74
  dsimp only [List.append];go_wp2;go_ret;exact ⟨rfl,hb⟩
 subst h_c;rw [decide_eq_true rfl,Bool.true_and]
 by_cases h_x : x = x'
 case neg =>
  have e1 : (x == x') = false := beq_eq_false_iff_ne.2 h_x;have e2 : (x = x') = False := eq_false h_x;rw [decide_eq_false h_x,Bool.false_and];clear h_x;clear he2 he2' hs hs' hlen
  go_enter Tryz.func74,Tryz.ntmps74
  dsimp only [List.append];go_wp2;go_ret;exact ⟨rfl,hb⟩
 subst h_x;rw [decide_eq_true rfl,Bool.true_and]
 by_cases h_b : b = b'
 case neg =>
  have e1 : (b == b') = false := beq_eq_false_iff_ne.2 h_b;have e2 : (b = b') = False := eq_false h_b;rw [decide_eq_false h_b,Bool.false_and];clear h_b;clear he2 he2' hs hs' hlen
  go_enter Tryz.func74,Tryz.ntmps74
  dsimp only [List.append];go_wp2;go_ret;exact ⟨rfl,hb⟩
 subst h_b;rw [decide_eq_true rfl,Bool.true_and];have hE := qd9 Z Y A n cA es A' n' cA' es' _ he2 he2' hlen;generalize qaa es es' = q at *
 cases q with
 | false =>
   rw [Bool.false_and];clear he2 he2' hs hs' hlen
   go_enter Tryz.func74,Tryz.ntmps74
   dsimp only [List.append]
   go_wp2_with fail
   refine hE.mono ?_;rintro e w1 ⟨rfl,hb1⟩;go_wp2;go_ret;exact ⟨rfl,hb.trans (hb1.mono hb.size)⟩
 | true =>
   rw [Bool.true_and];obtain ⟨q,hq⟩ := exq (oneB si st sd si' st' sd');rw [hq];have HQ := Lib.hid hq;clear hq;have hr0 : ((w.alloc (.cells (mC k f o t i l c x b A n cA si st E sn cE) 51)).alloc (.cells (mC k f o t i l c x b A' n' cA' si' st' E' sn' cE') 51)).heap[w.heap.size]? = some (.cells (mC k f o t i l c x b A n cA si st E sn cE) 51) := (Below.heap_alloc _ _ _ (by simp)).trans (heap_alloc_new _ _);have hr0' : ((w.alloc (.cells (mC k f o t i l c x b A n cA si st E sn cE) 51)).alloc (.cells (mC k f o t i l c x b A' n' cA' si' st' E' sn' cE') 51)).heap[w.heap.size + 1]? = some (.cells (mC k f o t i l c x b A' n' cA' si' st' E' sn' cE') 51) := heap_alloc2_new _ _ _;clear he2 he2' hlen
   go_enter Tryz.func74,Tryz.ntmps74
   dsimp only [List.append]
   go_wp2_with fail
   refine hE.mono ?_;rintro e w1 ⟨rfl,hb1⟩;have hbw := hb.trans (hb1.mono hb.size);have hr1 := (hb1.block _ (hlt hr0)).trans hr0;have hr1' := (hb1.block _ (hlt hr0')).trans hr0';have hs1 := hs.below hbw (Nat.le_refl _);have hs1' := hs'.below hbw (Nat.le_refl _);have hz0 := hlt hr1;have hz1 := hlt hr1';obtain ⟨⟨_,_,_,_,_,_,_,_,_,_,a10,a11,a12⟩,_⟩ := qu hr1;obtain ⟨⟨_,_,_,_,_,_,_,_,_,_,b10,b11,b12⟩,_⟩ := qu hr1';clear hE hb hb1 hr0 hr0' hr1 hr1' hs hs';have hx1 := Ents.one (Z := fun _ => True) si st E sn cE sd 78 hs1 (fun _ => trivial);have hA1 := (Below.refl w1.heap.size w1).alloc (Nat.le_refl _) (.cells #[.int .i64 si, .int .i64 st, .slice E sn cE] 78);have hx2 := Ents.one (Z := fun _ => True) si' st' E' sn' cE' sd' 78 (hs1'.below hA1 (Nat.le_refl _)) (fun _ => trivial);have hA2 := hA1.alloc hA1.size (.cells #[.int .i64 si', .int .i64 st', .slice E' sn' cE'] 78);have hS := qd9 _ _ _ 1 1 _ _ 1 1 _ _ (hx1.below ((Below.refl _ _).alloc (Nat.le_refl _) (.cells #[.int .i64 si', .int .i64 st', .slice E' sn' cE'] 78)) (Nat.le_refl _)) hx2 (by unfold maxLen; omega);rw [qh9] at hS;dsimp only at hS
   have e1 : (w1.alloc (.cells #[.int .i64 si, .int .i64 st, .slice E sn cE] 78)).heap.size = w1.heap.size + 1 := by simp
   rw [e1] at hS;rw [show oneB si st sd si' st' sd' = q from HQ] at hS;have hbw2 := hbw.trans (hA2.mono hbw.size);clear hx1 hx2 hA1 hA2 e1 hs1 hs1' hbw
   go_wp2_with fail
   refine hS.mono ?_;rintro e w2 ⟨rfl,hb2⟩;go_wp2;go_ret;exact ⟨rfl,hbw2.trans (hb2.mono hbw2.size)⟩
end Go.Proofs.YtmiijlecfiddmaaGreat
