/- The program's take, by its contract. -/
import Derived.Test.YtogbhedbgcmckaaGreatNNM03
import Derived.Test.YtogbhedbgcmckaaGreatNNM02
import Derived.WalkKit
import Derived.Test.YtogbhedbgcmckaaGreatNNM01
set_option linter.unusedVariables false
set_option linter.unusedSimpArgs false
set_option maxRecDepth 100000
set_option maxHeartbeats 1600000
namespace Go.Proofs.YtogbhedbgcmckaaGreat
open Go.RowKit
theorem In.newer {w w' : World} {Z : Nat -> Prop} (hZ : ∀ k,w.heap.size <= k -> Z k) (hs : w.heap.size <= w'.heap.size) : ∀ k,w'.heap.size <= k -> Z k := fun k hk => hZ k (Nat.le_trans hs hk)
theorem qa.own3 {w w1 w2 : World} {Z : Nat -> Prop} (h : qa Z w w1) (k : qa (fun k => k ≠ w.heap.size) w1 w2) : qa Z w w2 :=
 ⟨k.os.trans h.os,k.tape.trans h.tape,k.output.trans h.output,Nat.le_trans h.size k.size,fun j hj hz => (k.block j (Nat.lt_of_lt_of_le hj h.size) (Nat.ne_of_lt hj)).trans (h.block j hj hz)⟩
structure Set3 (w X : World) (b i : Nat) (s : St) (Z : Nat -> Prop) (D : Option Addr) (n c : Nat) (d : List UInt8) (C : Array Value) (T : TypeId) : Prop where
 row : X.heap[b]? = some (.cells C T)
 inn : In X i s Z
 lies : Lies X D n c d
 keeps : qa (fun k => k ≠ b) w X
 size : X.heap.size = w.heap.size
theorem Set3.fin {w : World} {b i : Nat} {s : St} {Z : Nat -> Prop} {D : Option Addr} {n c : Nat} {d : List UInt8} {x0 x1 x2 : Value} {T : TypeId} (y0 y1 y2 : Value) (hib : i ≠ b) (hr : w.heap[b]? = some (.cells #[x0,x1,x2] T)) (h : In w i s Z) (hzb : Z b)
 (hl : Lies w D n c d) (hD : 0 < n -> ∀ g off,D = some ⟨g,off,none⟩ -> b < g) :
 Set3 w (((w.setCell ⟨b,0,none⟩ y0).setCell ⟨b,1,none⟩ y1).setCell ⟨b,2,none⟩ y2) b i s Z D n c d #[y0,y1,y2] T := by
 have hoff : ∀ k,k ≠ b -> (((w.setCell ⟨b,0,none⟩ y0).setCell ⟨b,1,none⟩ y1).setCell ⟨b,2,none⟩ y2).heap[k]? = w.heap[k]? := fun k hk =>
  (Below.heap_setCell _ _ _ _ (by exact hk)).trans ((Below.heap_setCell _ _ _ _ (by exact hk)).trans (Below.heap_setCell _ _ _ _ (by exact hk)))
 refine ⟨qN _ _ _ _ _ _ _ _ _ hr,h.keep (by simp) fun k _ hnz => hoff k fun e => hnz (e ▸ hzb),hl.keep (by simp) fun h0 g off e _ => hoff g fun e2 => ?_,?_,by simp⟩
 · have := hD h0 g off e; omega
 · exact (((qg _ _ _ (by simp)).trans (qg _ _ _ (by simp))).trans (qg _ _ _ (by simp)))
theorem qh9 (w : World) (i : Nat) (s : St) (Z : Nat -> Prop) (most : Int) (hm : -9223372036854775808 <= most /\ most <= 9223372036854775807) (h : In w i s Z) (hZ : ∀ k,w.heap.size <= k -> Z k) (hL : left s <= 140737488355328) :
 Calls Tryz.prog 179 #[.pointer (some ⟨i,0,none⟩), .int .i64 most] w fun e w' => ∃ D n c,e = .returned (entV (qQ s most).i (qQ s most).t D n c) /\ Lies w' D n c (qQ s most).d /\ (0 < n -> ∀ g off,D = some ⟨g,off,none⟩ -> w.heap.size <= g) /\ In w' i (qQ s most).s Z /\ qa Z w w' := by
 have h1 := h.below ((Below.refl w.heap.size w).alloc (Nat.le_refl _) (.cells #[.int .i64 0, .int .i64 0, .slice none 0 0] 117)) (Nat.le_refl _);have hr1 := heap_alloc_new w (.cells #[.int .i64 0, .int .i64 0, .slice none 0 0] 117);have hk1 : qa Z w (w.alloc (.cells #[.int .i64 0, .int .i64 0, .slice none 0 0] 117)) := qv _ _
 have hs1 : w.heap.size < (w.alloc (.cells #[.int .i64 0, .int .i64 0, .slice none 0 0] 117)).heap.size := by simp
 have hzb : Z w.heap.size := hZ _ (Nat.le_refl _);have hib : i ≠ w.heap.size := Nat.ne_of_lt h.lt
 have hN1 := fun W hW => qaV W i s Z hW
 have hL1 := qaJ s 8 hL;unfold qQ;generalize numberN s 8 = t1 at *;obtain ⟨n1,s1⟩ := t1;dsimp only at *
 have hN2 := fun W hW => qaV W i s1 Z hW
 have hL2 := qaJ s1 8 hL1;generalize numberN s1 8 = t2 at *;obtain ⟨n2,s2⟩ := t2;dsimp only at *
 have hT := fun W hW => qc9 most hm W i s2 Z hW hL2
 generalize qbc s2 most = t3 at *;obtain ⟨d,s3⟩ := t3;dsimp only at *;rw [IntWalk.i64_left,IntWalk.i64_left] at *;generalize wrap64 (n1 : Int) = z1 at *;generalize wrap64 (n2 : Int) = z2 at *;clear hL hL1 hL2 hm h
 go_enter Tryz.func179,Tryz.ntmps179
 go_wp2_with fail
 refine (hN1 _ h1).mono ?_;rintro e w1 ⟨rfl,h2,k2⟩;have hr2 := (k2.block w.heap.size hs1 hzb).trans hr1;clear h1 hN1
 go_wp2_with fail
 refine (hN2 _ h2).mono ?_;rintro e w2 ⟨rfl,h3,k3⟩;have hr3 := (k3.block w.heap.size (hlt hr2) hzb).trans hr2;clear h2 hN2
 go_wp2_with fail
 refine (hT _ h3).mono ?_;rintro e w3 ⟨D,n,c,rfl,hl4,ho4,h4,k4⟩;have hr4 := (k4.block w.heap.size (hlt hr3) hzb).trans hr3;obtain ⟨⟨a0,a1,a2⟩,⟨f0,f1,f2⟩⟩ := row3 hr4;have hkw : qa Z w w3 := ((hk1.trans k2).trans k3).trans k4;have hD2 : w.heap.size < w2.heap.size := hlt hr3
 have hDz : 0 < n -> ∀ g off,D = some ⟨g,off,none⟩ -> w.heap.size < g := fun h0 g off e => by
  subst e;exact Nat.lt_of_lt_of_le hD2 (ho4.lt g rfl).1
 have hfin := Set3.fin (.int .i64 z1) (.int .i64 z2) (.slice D n c) hib hr4 h4 hzb hl4 hDz;clear hT h3 k2 k3 k4 hk1 hr1 hr2 hr3 h4 hl4 ho4 hr4;go_wp2;generalize hX : ((w3.setCell ⟨w.heap.size,0,none⟩ (.int .i64 z1)).setCell ⟨w.heap.size,1,none⟩ (.int .i64 z2)).setCell ⟨w.heap.size,2,none⟩ (.slice D n c) = X at *;refine bodyPost_ret (qE (n := w.heap.size) rfl rfl hfin.row Tryz.underlying117 rfl (by kernel_rfl)) rfl ?_;exact ⟨D,n,c,rfl,hfin.lies,fun h0 g off e => Nat.le_of_lt (hDz h0 g off e),hfin.inn,hkw.own3 hfin.keeps⟩
end Go.Proofs.YtogbhedbgcmckaaGreat
set_option linter.unusedVariables false
set_option linter.unusedSimpArgs false
set_option maxRecDepth 100000
set_option maxHeartbeats 200000
namespace Go.Proofs.YtogbhedbgcmckaaGreat
open Go.RowKit
structure FromL where
 i : Int
 t : Int
 d : List UInt8
 s : St
def fromN (ok : Int -> Int -> Nat -> Bool) (s : St) (most : Int) : FromL :=
 if (qQ s most).s = none then ⟨0,0,[],none⟩ else
 if ok (qQ s most).i (qQ s most).t (qQ s most).d.length = true then ⟨(qQ s most).i,(qQ s most).t,(qQ s most).d,(qQ s most).s⟩ else ⟨0,0,[],none⟩
end Go.Proofs.YtogbhedbgcmckaaGreat
set_option linter.unusedVariables false
set_option linter.unusedSimpArgs false
set_option maxRecDepth 100000
set_option maxHeartbeats 200000
namespace Go.Proofs.YtogbhedbgcmckaaGreat
open Go.RowKit
structure HardL where
 t : Int
 v : Int
 s : St
def hardFromN (s : St) : HardL :=
 if (numberN (numberN s 8).2 8).2 = none then ⟨0,0,none⟩ else
 if hardB (IntKind.i64.wrap ((numberN s 8).1 : Int)) (IntKind.i64.wrap ((numberN (numberN s 8).2 8).1 : Int)) = true then ⟨IntKind.i64.wrap ((numberN s 8).1 : Int),IntKind.i64.wrap ((numberN (numberN s 8).2 8).1 : Int),(numberN (numberN s 8).2 8).2⟩ else ⟨0,0,none⟩
end Go.Proofs.YtogbhedbgcmckaaGreat
set_option linter.unusedVariables false
set_option linter.unusedSimpArgs false
set_option maxRecDepth 100000
set_option maxHeartbeats 3200000
namespace Go.Proofs.YtogbhedbgcmckaaGreat
open Go.RowKit
theorem qa.own2 {w w1 w2 : World} {Z : Nat -> Prop} (h : qa Z w w1) (k : qa (fun k => k ≠ w.heap.size) w1 w2) : qa Z w w2 := h.own3 k
structure Set2 (w X : World) (b i : Nat) (s : St) (Z : Nat -> Prop) (C : Array Value) (T : TypeId) : Prop where
 row : X.heap[b]? = some (.cells C T)
 inn : In X i s Z
 keeps : qa (fun k => k ≠ b) w X
 size : X.heap.size = w.heap.size
theorem Set2.fin {w : World} {b i : Nat} {s : St} {Z : Nat -> Prop} {x0 x1 : Value} {T : TypeId} (y0 y1 : Value) (hib : i ≠ b) (hr : w.heap[b]? = some (.cells #[x0,x1] T)) (h : In w i s Z) (hzb : Z b) :
 Set2 w ((w.setCell ⟨b,0,none⟩ y0).setCell ⟨b,1,none⟩ y1) b i s Z #[y0,y1] T := by
 have hoff : ∀ k,k ≠ b -> ((w.setCell ⟨b,0,none⟩ y0).setCell ⟨b,1,none⟩ y1).heap[k]? = w.heap[k]? := fun k hk =>
  (Below.heap_setCell _ _ _ _ (by exact hk)).trans (Below.heap_setCell _ _ _ _ (by exact hk))
 refine ⟨qaq _ _ _ _ _ _ _ hr,h.keep (by simp) fun k _ hnz => hoff k fun e => hnz (e ▸ hzb),?_,by simp⟩;exact (qg _ _ _ (by simp)).trans (qg _ _ _ (by simp))
theorem qjB (w : World) (i : Nat) (s : St) (Z : Nat -> Prop) (h : In w i s Z) (hZ : ∀ k,w.heap.size <= k -> Z k) :
 Calls Tryz.prog 149 #[.pointer (some ⟨i,0,none⟩)] w fun e w' => e = .returned (.agg #[.int .i64 (hardFromN s).t, .int .i64 (hardFromN s).v]) /\ In w' i (hardFromN s).s Z /\ qa Z w w' := by
 have h1 := h.below ((Below.refl w.heap.size w).alloc (Nat.le_refl _) (.cells #[.int .i64 0, .int .i64 0] 54)) (Nat.le_refl _);have hr1 := heap_alloc_new w (.cells #[.int .i64 0, .int .i64 0] 54);have hk1 : qa Z w (w.alloc (.cells #[.int .i64 0, .int .i64 0] 54)) := qv _ _;have hzb : Z w.heap.size := hZ _ (Nat.le_refl _);have hib : i ≠ w.heap.size := Nat.ne_of_lt h.lt
 have hN1 := fun W hW => qaV W i s Z hW
 unfold hardFromN;generalize numberN s 8 = t1 at *;obtain ⟨n1,s1⟩ := t1;dsimp only at *
 have hN2 := fun W hW => qaV W i s1 Z hW
 generalize numberN s1 8 = t2 at *;obtain ⟨n2,ts⟩ := t2;dsimp only at *;rw [IntWalk.i64_left,IntWalk.i64_left] at *;obtain ⟨R,hR⟩ : ∃ R : HardL,R = if ts = none then ⟨0,0,none⟩ else if hardB (wrap64 (n1 : Int)) (wrap64 (n2 : Int)) = true then ⟨wrap64 (n1 : Int),wrap64 (n2 : Int),ts⟩ else ⟨0,0,none⟩ := ⟨_,rfl⟩;rw [<- hR];generalize wrap64 (n1 : Int) = z1 at *;generalize wrap64 (n2 : Int) = z2 at *;clear h
 go_enter Tryz.func149,Tryz.ntmps149
 go_wp2_with fail
 refine (hN1 _ h1).mono ?_;rintro e w0 ⟨rfl,h2,k2⟩;have hr2 := (k2.block w.heap.size (hlt hr1) hzb).trans hr1;have hkw0 := hk1.trans k2;clear h1 hN1 hr1 k2 hk1
 go_wp2_with fail
 refine (hN2 _ h2).mono ?_;rintro e w1 ⟨rfl,h2',k3⟩;have hr2' := (k3.block w.heap.size (hlt hr2) hzb).trans hr2;have hlb : w.heap.size < w1.heap.size := hlt hr2';have hkw1 := hkw0.trans k3;have hZ1 : Z w1.heap.size := hZ _ (Nat.le_of_lt hlb);clear h2 hN2 hr2 k3 hkw0;have hA1 := (Below.refl w1.heap.size w1).alloc (Nat.le_refl _) (.cells #[.int .i64 z1, .int .i64 z2] 54);have h3 := h2'.below hA1 (Nat.le_refl _);have hr3 := (hA1.block w.heap.size hlb).trans hr2';have hq3 := heap_alloc_new w1 (.cells #[.int .i64 z1, .int .i64 z2] 54);have hkw3 : qa Z w (w1.alloc (.cells #[.int .i64 z1, .int .i64 z2] 54)) := hkw1.trans (qv _ _);clear h2' hA1 hr2' hkw1
 have hP := fun W => qcg z1 z2 W
 generalize hardB z1 z2 = r at *;obtain ⟨⟨a0,a1⟩,_⟩ := row2 hq3
 go_wp2_with fail
 refine (hP _).mono ?_;rintro e w2 ⟨rfl,hb2⟩;have h4 := h3.below hb2 (Nat.le_refl _);have hr4 := (hb2.block _ (hlt hr3)).trans hr3;have hq4 := (hb2.block _ (hlt hq3)).trans hq3;have hkw4 : qa Z w w2 := hkw3.trans (qb hb2 (Nat.le_refl _));clear h3 hr3 hq3 hkw3 hb2 a0 a1 hP;have hS := qcG r w2 i ts Z h4
 go_wp2_with fail
 refine hS.mono ?_;rintro e w3 ⟨rfl,h5,k5⟩;have hr5 := (k5.block _ (hlt hr4) hzb).trans hr4;have hq5 := (k5.block _ (hlt hq4) hZ1).trans hq4;have hkw5 : qa Z w w3 := hkw4.trans k5;clear hS h4 hr4 hq4 hkw4 k5;obtain ⟨⟨a0,a1⟩,⟨f0,f1⟩⟩ := row2 hr5;obtain ⟨⟨b0,b1⟩,_⟩ := row2 hq5
 by_cases hyes : r = true /\ ∃ sl,ts = some sl
 · obtain ⟨rfl,sl,rfl⟩ := hyes;rw [if_neg (by simp),if_pos rfl] at hR;rw [if_pos rfl] at h5;have hfin := Set2.fin (.int .i64 z1) (.int .i64 z2) hib hr5 h5 hzb;have HR := Lib.hid hR;clear hR hr5 hq5 h5;simp only [Option.isSome,Bool.true_and] at *;go_wp2;generalize hX : (w3.setCell ⟨w.heap.size,0,none⟩ (.int .i64 z1)).setCell ⟨w.heap.size,1,none⟩ (.int .i64 z2) = X at *;refine bodyPost_ret (qE (n := w.heap.size) rfl rfl hfin.row Tryz.underlying54 rfl (by kernel_rfl)) rfl ?_;have e : R = _ := HR;rw [e];exact ⟨rfl,hfin.inn,hkw5.own2 hfin.keeps⟩
 · have hno : (r && ts.isSome) = false := by
    cases r with
    | false => rfl
    | true =>
      cases ts with
      | none => rfl
      | some l => exact absurd ⟨rfl,l,rfl⟩ hyes
   have hRz : R = ⟨0,0,none⟩ := by
    rw [hR]
    cases r with
    | false => split <;> rfl
    | true =>
      cases ts with
      | none => rfl
      | some l => exact absurd ⟨rfl,l,rfl⟩ hyes
   have hsz : (if r = true then ts else none) = none := by
    cases r with
    | false => rfl
    | true =>
      cases ts with
      | none => rfl
      | some l => exact absurd ⟨rfl,l,rfl⟩ hyes
   rw [hsz] at h5;have hfin := Set2.fin (.int .i64 0) (.int .i64 0) hib hr5 h5 hzb;have HR := Lib.hid hRz;clear hR hr5 hq5 h5 hyes hsz hRz;generalize (r && ts.isSome) = q at *;subst hno;go_wp2;generalize hX : (w3.setCell ⟨w.heap.size,0,none⟩ (.int .i64 0)).setCell ⟨w.heap.size,1,none⟩ (.int .i64 0) = X at *;refine bodyPost_ret (qE (n := w.heap.size) rfl rfl hfin.row Tryz.underlying54 rfl (by kernel_rfl)) rfl ?_;have e : R = _ := HR;rw [e];exact ⟨rfl,hfin.inn,hkw5.own2 hfin.keeps⟩
end Go.Proofs.YtogbhedbgcmckaaGreat
set_option linter.unusedVariables false
set_option linter.unusedSimpArgs false
set_option maxRecDepth 100000
set_option maxHeartbeats 200000
namespace Go.Proofs.YtogbhedbgcmckaaGreat
open Go.RowKit
end Go.Proofs.YtogbhedbgcmckaaGreat
set_option linter.unusedVariables false
set_option linter.unusedSimpArgs false
set_option maxRecDepth 100000
set_option maxHeartbeats 200000
namespace Go.Proofs.YtogbhedbgcmckaaGreat
end Go.Proofs.YtogbhedbgcmckaaGreat
set_option linter.unusedVariables false
set_option linter.unusedSimpArgs false
set_option maxRecDepth 100000
set_option maxHeartbeats 200000
namespace Go.Proofs.YtogbhedbgcmckaaGreat
open Go.RowKit
theorem qdb {i t : Int} {n : Nat} (h : rightB i t n = true) : (-9223372036854775808 <= i /\ i <= 9223372036854775807) /\ (-9223372036854775808 <= t /\ t <= 9223372036854775807) /\ n <= 12000 := by
 have := (qaj i t n).1 h;omega
theorem qeJ (i t : Int) (d : List UInt8) : (qaw i t d).length = 20 + d.length := by
 unfold qaw num8
 simp [textOf]
 omega
theorem qe6 (t v : Int) : (qbN t v).length = 16 := by
 unfold qbN num8;simp
end Go.Proofs.YtogbhedbgcmckaaGreat
set_option linter.unusedVariables false
set_option linter.unusedSimpArgs false
set_option maxRecDepth 100000
set_option maxHeartbeats 200000
namespace Go.Proofs.YtogbhedbgcmckaaGreat
structure Hd where
 t : Int
 v : Int
deriving DecidableEq
def putE (l : List Ent) (e : Ent) : Option (List Ent) :=
 if (match l with | [] => false | f :: _ => decide (e.i < f.i)) = true then some [e] else
 match (l.filter fun g => decide (g.i < e.i)).getLast? with
 | none => some [e]
 | some f => if f.i = e.i - 1 /\ f.t <= e.t then some (l.filter (fun g => decide (g.i < e.i)) ++ [e]) else none
def tellOne (q : Hd × List Ent) (r : List UInt8) : Option (Hd × List Ent) :=
 if (numberN (some r) 1).1 = 1 then
  if (hardFromN (numberN (some r) 1).2).s = some [] then some (⟨(hardFromN (numberN (some r) 1).2).t,(hardFromN (numberN (some r) 1).2).v⟩,q.2) else none
 else if (numberN (some r) 1).1 = 2 then
  if (fromN rightB (numberN (some r) 1).2 12000).s = some [] then
   (putE q.2 ⟨(fromN rightB (numberN (some r) 1).2 12000).i,(fromN rightB (numberN (some r) 1).2 12000).t,(fromN rightB (numberN (some r) 1).2 12000).d⟩).map fun l => (q.1,l)
  else none
 else none
def qD (q : Hd × List Ent) (ls : List (List UInt8)) : Option (Hd × List Ent) := ls.foldlM tellOne q
def hd0 : Hd := ⟨0,-1⟩
def tells (ls : List (List UInt8)) : Option (Hd × List Ent) := qD (hd0,[]) ls
theorem qcH (q : Hd × List Ent) : qD q [] = some q := rfl
theorem qaO (q : Hd × List Ent) (r : List UInt8) (ls : List (List UInt8)) : qD q (r :: ls) = (tellOne q r).bind fun p => qD p ls := by
 unfold qD;rw [List.foldlM_cons]
 rfl
theorem qcI (q : Hd × List Ent) (a b : List (List UInt8)) : qD q (a ++ b) = (qD q a).bind fun p => qD p b := by
 unfold qD;rw [List.foldlM_append]
 rfl
def qq (h : Hd) : List UInt8 := 1 :: qbN h.t h.v
def entRec (e : Ent) : List UInt8 := 2 :: qaw e.i e.t e.d
def rightE (e : Ent) : Bool := rightB e.i e.t e.d.length
def rightH (h : Hd) : Bool := hardB h.t h.v
def qM : List Ent -> Prop
 | [] => True
 | e :: t => (match t with | [] => True | f :: _ => f.i = e.i + 1 /\ e.t <= f.t) /\ qM t
theorem qdc : ∀ {l m : List Ent},qM (l ++ m) -> qM l
 | [],_,_ => trivial
 | [a],m,_ => ⟨trivial,trivial⟩
 | a :: b :: l,m,h => ⟨h.1,qdc (l := b :: l) h.2⟩
def saveRecs (was h : Hd) (l : List Ent) : List (List UInt8) := (if h = was then [] else [qq h]) ++ l.map entRec
def qeU (s : Ent) (l : List Ent) : Bool := (match l with | [] => false | f :: _ => decide (f.i = s.i + 1)) || l.any fun g => decide (g.i = s.i) && decide (g.t = s.t)
def qT (s : Ent) (l : List Ent) : List Ent := if qeU s l = true then l.filter (fun g => decide (s.i < g.i)) else []
def qdX (s : Ent) (l : List Ent) : Option (List Ent) := if runB s.i s.t (qT s l) = true then some (qT s l) else none
theorem qed : ∀ {l : List Ent},(∀ k (hk : k + 1 < l.length),l[k + 1].i = l[k].i + 1 /\ l[k].t <= l[k + 1].t) -> qM l
 | [],_ => trivial
 | [a],_ => ⟨trivial,trivial⟩
 | a :: b :: l,h => ⟨h 0 (by simp),qed (l := b :: l) fun k hk => h (k + 1) (by simpa using hk)⟩
end Go.Proofs.YtogbhedbgcmckaaGreat
set_option linter.unusedVariables false
set_option linter.unusedSimpArgs false
set_option maxRecDepth 100000
set_option maxHeartbeats 200000
namespace Go.Proofs.YtogbhedbgcmckaaGreat
open Go.RowKit
inductive Tr (K V : Type) where
 | nil
 | node (k : K) (v : V) (l r : Tr K V)
namespace Tr
variable {K V : Type}
def size : Tr K V -> Nat
 | .nil => 0
 | .node _ _ l r => l.size + 1 + r.size
def deep : Tr K V -> Nat
 | .nil => 0
 | .node _ _ l r => Nat.max l.deep r.deep + 1
def list : Tr K V -> List (K × V)
 | .nil => []
 | .node k v l r => l.list ++ (k,v) :: r.list
theorem size_nil : (Tr.nil : Tr K V).size = 0 := rfl
theorem size_node (k : K) (v : V) (l r : Tr K V) : (Tr.node k v l r).size = l.size + 1 + r.size := rfl
theorem deep_nil : (Tr.nil : Tr K V).deep = 0 := rfl
theorem deep_node (k : K) (v : V) (l r : Tr K V) : (Tr.node k v l r).deep = Nat.max l.deep r.deep + 1 := rfl
theorem deep_le : ∀ t : Tr K V,t.deep <= t.size
 | .nil => Nat.le_refl _
 | .node _ _ l r => by
   have a := deep_le l;have b := deep_le r;rw [deep_node,size_node];have c := Nat.max_le.2 ⟨Nat.le_trans a (Nat.le_add_right l.size r.size),Nat.le_trans b (Nat.le_add_left r.size l.size)⟩;have d : Nat.max l.deep r.deep <= l.size + r.size := c;omega
theorem length_list : ∀ t : Tr K V,t.list.length = t.size
 | .nil => rfl
 | .node k v l r => by simp [list,size_node,length_list l,length_list r]; omega
def leanR (l : Tr K V) (k : K) (v : V) (r : Tr K V) : Tr K V :=
 match l with
 | .nil => .node k v .nil r
 | .node lk lv ll lr => if lr.deep <= ll.deep then .node lk lv ll (.node k v lr r) else
   match lr with
   | .nil => .node k v (.node lk lv ll .nil) r
   | .node mk mv ml mr => .node mk mv (.node lk lv ll ml) (.node k v mr r)
def leanL (l : Tr K V) (k : K) (v : V) (r : Tr K V) : Tr K V :=
 match r with
 | .nil => .node k v l .nil
 | .node rk rv rl rr => if rl.deep <= rr.deep then .node rk rv (.node k v l rl) rr else
   match rl with
   | .nil => .node k v l (.node rk rv .nil rr)
   | .node mk mv ml mr => .node mk mv (.node k v l ml) (.node rk rv mr rr)
def bal (l : Tr K V) (k : K) (v : V) (r : Tr K V) : Tr K V :=
 if r.deep + 1 < l.deep then leanR l k v r else if l.deep + 1 < r.deep then leanL l k v r else .node k v l r
theorem qgY (l : Tr K V) (k : K) (v : V) (r : Tr K V) : (leanR l k v r).size = l.size + 1 + r.size := by
 unfold leanR
 split
 · rfl
 · split
   · simp only [size_node]; omega
   · split
     · rfl
     · simp only [size_node]; omega
theorem qgZ (l : Tr K V) (k : K) (v : V) (r : Tr K V) : (leanL l k v r).size = l.size + 1 + r.size := by
 unfold leanL
 split
 · rfl
 · split
   · simp only [size_node]; omega
   · split
     · rfl
     · simp only [size_node]; omega
theorem qe7 (l : Tr K V) (k : K) (v : V) (r : Tr K V) : (bal l k v r).size = l.size + 1 + r.size := by
 unfold bal
 split
 · exact qgY l k v r
 · split
   · exact qgZ l k v r
   · rfl
theorem qg0 (l : Tr K V) (k : K) (v : V) (r : Tr K V) : (leanR l k v r).list = l.list ++ (k,v) :: r.list := by
 unfold leanR
 split
 · rfl
 · split
   · simp [list]
   · split
     · rfl
     · simp [list]
theorem qg1 (l : Tr K V) (k : K) (v : V) (r : Tr K V) : (leanL l k v r).list = l.list ++ (k,v) :: r.list := by
 unfold leanL
 split
 · rfl
 · split
   · simp [list]
   · split
     · rfl
     · simp [list]
theorem qbC (l : Tr K V) (k : K) (v : V) (r : Tr K V) : (bal l k v r).list = l.list ++ (k,v) :: r.list := by
 unfold bal
 split
 · exact qg0 l k v r
 · split
   · exact qg1 l k v r
   · rfl
def put (lt : K -> K -> Bool) (k : K) (v : V) : Tr K V -> Tr K V
 | .nil => .node k v .nil .nil
 | .node nk nv l r => if lt k nk then bal (put lt k v l) nk nv r else if lt nk k then bal l nk nv (put lt k v r) else .node k v l r
theorem size_put (lt : K -> K -> Bool) (k : K) (v : V) : ∀ t : Tr K V,(put lt k v t).size <= t.size + 1
 | .nil => Nat.le_refl _
 | .node nk nv l r => by
   have a := size_put lt k v l;have b := size_put lt k v r;unfold put
   split
   · rw [qe7,size_node]; omega
   · split
     · rw [qe7,size_node]; omega
     · simp only [size_node]; omega
end Tr
theorem Tr.below_of {w W w' : World} (h : Below W.heap.size W w') (h0 : Below w.heap.size w W) : Below w.heap.size w w' := h0.trans (h.mono h0.size)
def ltS (a b : ByteArray) : Bool := Op.bytesLess a.toList b.toList
theorem qa1 : ∀ (x y : List UInt8),Op.bytesLess x y = decide (x < y)
 | [],[] => by simp [Op.bytesLess]
 | _ :: _,[] => by simp [Op.bytesLess]
 | [],_ :: _ => by simp [Op.bytesLess]
 | a :: x,b :: y => by
   rw [Op.bytesLess,qa1 x y,Bool.eq_iff_iff]
   simp [List.cons_lt_cons_iff]
theorem qah (a : ByteArray) : ltS a a = false := by
 unfold ltS; rw [qa1]; exact decide_eq_false (List.lt_irrefl _)
theorem qbO {a b c : ByteArray} (h : ltS a b = true) (k : ltS b c = true) : ltS a c = true := by
 unfold ltS at *; rw [qa1] at *; exact decide_eq_true (List.lt_trans (of_decide_eq_true h) (of_decide_eq_true k))
theorem qak {a b : ByteArray} (h : ltS b a = true) : ltS a b = false := by
 cases e : ltS a b with
 | false => rfl
 | true => rw [<- qah a,qbO e h]
theorem qia {a b : ByteArray} (h : ltS b a = true) : (a.toList == b.toList) = false := by
 cases e : (a.toList == b.toList) with
 | false => rfl
 | true =>
   have e' : a.toList = b.toList := by simpa using e
   have : ltS b a = ltS b b := by unfold ltS; rw [e']
   rw [this,qah] at h; cases h
theorem qa7 {a b : ByteArray} (h : ltS a b = false) (k : ltS b a = false) : a = b := by
 unfold ltS at h k;rw [qa1] at h k;have h1 : ¬ a.toList < b.toList := of_decide_eq_false h;have h2 : ¬ b.toList < a.toList := of_decide_eq_false k;have e : a.toList = b.toList := List.le_antisymm (Std.not_lt.1 h2) (Std.not_lt.1 h1);rw [ByteArray.toList_eq,ByteArray.toList_eq] at e;exact WideShapes.bytes_inj e
end Go.Proofs.YtogbhedbgcmckaaGreat
set_option linter.unusedVariables false
set_option linter.unusedSimpArgs false
set_option maxRecDepth 100000
set_option maxHeartbeats 200000
namespace Go.Proofs.YtogbhedbgcmckaaGreat
structure Lin {K : Type} (lt : K -> K -> Bool) : Prop where
 irr : ∀ a,lt a a = false
 tr : ∀ {a b c},lt a b = true -> lt b c = true -> lt a c = true
 con : ∀ {a b},lt a b = false -> lt b a = false -> a = b
theorem linS : Lin ltS := ⟨qah,qbO,qa7⟩
theorem Lin.as {K : Type} {lt : K -> K -> Bool} (L : Lin lt) {a b : K} (h : lt a b = true) : lt b a = false := by
 cases e : lt b a with
 | false => rfl
 | true => rw [<- L.irr a,L.tr h e]
namespace Tr
variable {K V : Type} {lt : K → K → Bool}
def find (lt : K -> K -> Bool) (k : K) : Tr K V -> Tr K V
 | .nil => .nil
 | .node nk nv l r => if lt k nk then find lt k l else if lt nk k then find lt k r else .node nk nv l r
def isNil : Tr K V -> Bool
 | .nil => true
 | .node _ _ _ _ => false
def first (p : K × V) : Tr K V -> K × V
 | .nil => p
 | .node nk nv l _ => first (nk,nv) l
def del (lt : K -> K -> Bool) : Tr K V -> K -> Tr K V
 | .nil,_ => .nil
 | .node nk nv l r,k => if lt k nk then bal (del lt l k) nk nv r else if lt nk k then bal l nk nv (del lt r k) else
   if l.isNil then r else if r.isNil then l else bal l (first (nk,nv) r).1 (first (nk,nv) r).2 (del lt r (first (nk,nv) r).1)
def Bst (lt : K -> K -> Bool) (t : Tr K V) : Prop := t.list.Pairwise fun a b => lt a.1 b.1 = true
theorem qZ (k : K) (v : V) (l r : Tr K V) : (Tr.node k v l r).list = l.list ++ (k,v) :: r.list := rfl
theorem Bst.node {k : K} {v : V} {l r : Tr K V} (h : Bst lt (.node k v l r)) :
 Bst lt l /\ Bst lt r /\ (∀ p ∈ l.list,lt p.1 k = true) /\ (∀ p ∈ r.list,lt k p.1 = true) := by
 unfold Bst at h;rw [qZ,List.pairwise_append,List.pairwise_cons] at h;exact ⟨h.1,h.2.1.2,fun p hp => h.2.2 p hp _ (List.mem_cons_self),fun p hp => h.2.1.1 p hp⟩
def insL (lt : K -> K -> Bool) (k : K) (v : V) (l : List (K × V)) : List (K × V) := l.filter (fun p => lt p.1 k) ++ (k,v) :: l.filter (fun p => lt k p.1)
def delL (lt : K -> K -> Bool) (k : K) (l : List (K × V)) : List (K × V) := l.filter fun p => lt p.1 k || lt k p.1
theorem filter_all {α : Type} {p : α -> Bool} {l : List α} (h : ∀ a ∈ l,p a = true) : l.filter p = l := List.filter_eq_self.2 h
theorem qbd {α : Type} {p : α -> Bool} {l : List α} (h : ∀ a ∈ l,p a = false) : l.filter p = [] := List.filter_eq_nil_iff.2 fun a ha => by rw [h a ha]; decide
theorem list_put (L : Lin lt) (k : K) (v : V) : ∀ t : Tr K V,Bst lt t -> (put lt k v t).list = insL lt k v t.list
 | .nil,_ => rfl
 | .node nk nv l r,h => by
   obtain ⟨hl,hr,hlk,hrk⟩ := h.node;unfold put
   split
   · rename_i c;rw [qbC,list_put L k v l hl,qZ];unfold insL;rw [List.filter_append,List.filter_append,List.filter_cons,List.filter_cons,L.as c,c,qbd (l := r.list) (p := fun p => lt p.1 k) (fun p hp => L.as (L.tr c (hrk p hp))),filter_all (l := r.list) (p := fun p => lt k p.1) (fun p hp => L.tr c (hrk p hp))];simp
   · rename_i c;have c := eq_false_of_ne_true c
     split
     · rename_i d;rw [qbC,list_put L k v r hr,qZ];unfold insL;rw [List.filter_append,List.filter_append,List.filter_cons,List.filter_cons,c,d,filter_all (l := l.list) (p := fun p => lt p.1 k) (fun p hp => L.tr (hlk p hp) d),qbd (l := l.list) (p := fun p => lt k p.1) (fun p hp => L.as (L.tr (hlk p hp) d))];simp
     · rename_i d;have d := eq_false_of_ne_true d;obtain rfl := L.con c d;rw [qZ,qZ];unfold insL
       rw [List.filter_append,List.filter_append,List.filter_cons,List.filter_cons,c,filter_all (l := l.list) (p := fun p => lt p.1 k) hlk,qbd (l := l.list) (p := fun p => lt k p.1) (fun p hp => L.as (hlk p hp)),
        qbd (l := r.list) (p := fun p => lt p.1 k) (fun p hp => L.as (hrk p hp)),filter_all (l := r.list) (p := fun p => lt k p.1) hrk]
       simp
theorem qgb (L : Lin lt) (k : K) (v : V) {l : List (K × V)} (h : l.Pairwise fun a b => lt a.1 b.1 = true) : (insL lt k v l).Pairwise fun a b => lt a.1 b.1 = true := by
 unfold insL;rw [List.pairwise_append,List.pairwise_cons];refine ⟨h.filter _,⟨fun p hp => (List.mem_filter.1 hp).2,h.filter _⟩,fun a ha b hb => ?_⟩;have ha' := (List.mem_filter.1 ha).2;rcases List.mem_cons.1 hb with rfl | hb
 · exact ha'
 · exact L.tr ha' (List.mem_filter.1 hb).2
theorem Bst.put (L : Lin lt) (k : K) (v : V) {t : Tr K V} (h : Bst lt t) : Bst lt (put lt k v t) := by
 unfold Bst;rw [list_put L k v t h];exact qgb L k v h
theorem first_head : ∀ (p : K × V) (t : Tr K V),t.isNil = false -> ∃ l,t.list = first p t :: l
 | _, .nil,h => by cases h
 | p, .node nk nv l r,_ => by
   cases l with
   | nil => exact ⟨r.list,rfl⟩
   | node k v a b =>
     obtain ⟨m,hm⟩ := first_head (nk,nv) (.node k v a b) rfl;exact ⟨m ++ (nk,nv) :: r.list,by rw [qZ,hm]; rfl⟩
theorem find_mem (L : Lin lt) (k : K) : ∀ t : Tr K V,Bst lt t -> find lt k t = .nil -> ∀ p ∈ t.list,p.1 ≠ k
 | .nil,_,_ => fun p hp => by cases hp
 | .node nk nv l r,h,hf => by
   obtain ⟨hl,hr,hlk,hrk⟩ := h.node;unfold find at hf;intro p hp;rw [qZ] at hp
   split at hf
   · rename_i c;rcases List.mem_append.1 hp with hp | hp
     · exact find_mem L k l hl hf p hp
     · rcases List.mem_cons.1 hp with rfl | hp
       · intro e; subst e; rw [L.irr] at c; cases c
       · intro e; subst e; rw [L.as (hrk p hp)] at c; cases c
   · split at hf
     · rename_i c;rcases List.mem_append.1 hp with hp | hp
       · intro e; subst e; rw [L.as (hlk p hp)] at c; cases c
       · rcases List.mem_cons.1 hp with rfl | hp
         · intro e; subst e; rw [L.irr] at c; cases c
         · exact find_mem L k r hr hf p hp
     · cases hf
theorem find_node (L : Lin lt) (k : K) : ∀ (t : Tr K V) {k' : K} {v' : V} {a b : Tr K V},find lt k t = .node k' v' a b -> k' = k /\ (k,v') ∈ t.list
 | .nil,_,_,_,_,hf => by cases hf
 | .node nk nv l r,k',v',a,b,hf => by
   unfold find at hf;rw [qZ]
   split at hf
   · exact ⟨(find_node L k l hf).1,List.mem_append_left _ (find_node L k l hf).2⟩
   · rename_i c
     split at hf
     · exact ⟨(find_node L k r hf).1,List.mem_append_right _ (List.mem_cons_of_mem _ (find_node L k r hf).2)⟩
     · rename_i d;obtain rfl := L.con (eq_false_of_ne_true c) (eq_false_of_ne_true d);cases hf;exact ⟨rfl,List.mem_append_right _ List.mem_cons_self⟩
theorem find_of_mem (L : Lin lt) {k : K} {v : V} {t : Tr K V} (h : Bst lt t) (hm : (k,v) ∈ t.list) : find lt k t ≠ .nil := fun e => find_mem L k t h e _ hm rfl
theorem list_del (L : Lin lt) : ∀ (t : Tr K V) (k : K),Bst lt t -> (del lt t k).list = delL lt k t.list
 | .nil,_,_ => rfl
 | .node nk nv l r,k,h => by
   obtain ⟨hl,hr,hlk,hrk⟩ := h.node;unfold del
   split
   · rename_i c;rw [qbC,list_del L l k hl,qZ];unfold delL;rw [List.filter_append,List.filter_cons,L.as c,c,filter_all (l := r.list) (p := fun p => lt p.1 k || lt k p.1) (fun p hp => by rw [L.tr c (hrk p hp)]; simp)];simp
   · rename_i c;have c := eq_false_of_ne_true c
     split
     · rename_i d;rw [qbC,list_del L r k hr,qZ];unfold delL;rw [List.filter_append,List.filter_cons,c,d,filter_all (l := l.list) (p := fun p => lt p.1 k || lt k p.1) (fun p hp => by rw [L.tr (hlk p hp) d]; simp)];simp
     · rename_i d;have d := eq_false_of_ne_true d;obtain rfl := L.con c d
       have key : delL lt k (l.list ++ (k,nv) :: r.list) = l.list ++ r.list := by
        unfold delL;rw [List.filter_append,List.filter_cons,c,filter_all (l := l.list) (p := fun p => lt p.1 k || lt k p.1) (fun p hp => by rw [hlk p hp]; simp),filter_all (l := r.list) (p := fun p => lt p.1 k || lt k p.1) (fun p hp => by rw [hrk p hp]; simp)];simp
       rw [qZ,key]
       split
       · rename_i e
         cases l with
         | nil => rfl
         | node _ _ _ _ => cases e
       · split
         · rename_i e
           cases r with
           | nil => simp [list]
           | node _ _ _ _ => cases e
         · rename_i e;obtain ⟨m,hm⟩ := first_head (k,nv) r (eq_false_of_ne_true e);have hr' := hr;unfold Bst at hr';rw [hm,List.pairwise_cons] at hr';rw [qbC,list_del L r _ hr,hm];unfold delL;rw [List.filter_cons,L.irr,filter_all (l := m) (p := fun p => lt p.1 (first (k,nv) r).1 || lt (first (k,nv) r).1 p.1) (fun p hp => by rw [hr'.1 p hp]; simp)];simp
theorem Bst.del (L : Lin lt) {t : Tr K V} (k : K) (h : Bst lt t) : Bst lt (del lt t k) := by
 unfold Bst;rw [list_del L t k h];exact List.Pairwise.filter _ h
theorem size_del (L : Lin lt) {t : Tr K V} (k : K) (h : Bst lt t) : (del lt t k).size <= t.size := by
 rw [<- length_list,<- length_list,list_del L t k h];exact List.length_filter_le _ _
def sub (f t : Int) (l : List (K × V)) : List (K × V) := (l.drop f.toNat).take (t.toNat - f.toNat)
theorem sub_nil (f t : Int) : sub f t ([] : List (K × V)) = [] := by unfold sub; simp
theorem sub_none (f t : Nat) (l : List (K × V)) (h : t <= f) : sub (f : Int) (t : Int) l = [] := by
 unfold sub; rw [show ((t : Int).toNat - (f : Int).toNat) = 0 by omega]; rfl
theorem sub_all (l : List (K × V)) {n : Nat} (h : l.length = n) : sub ((0 : Nat) : Int) (n : Int) l = l := by
 subst h; unfold sub; simp
theorem sub_to (f t : Int) (l : List (K × V)) (h : t <= 0) : sub f t l = [] := by
 unfold sub; rw [show t.toNat - f.toNat = 0 by omega]; rfl
theorem sub_from (f t : Int) (l : List (K × V)) (h : (l.length : Int) <= f) : sub f t l = [] := by
 unfold sub; rw [List.drop_eq_nil_of_le (by omega)]; simp
theorem sub_node (f t : Int) (l r : List (K × V)) (p : K × V) :
 sub f t (l ++ p :: r) = sub f t l ++ ((if f <= l.length /\ (l.length : Int) < t then [p] else []) ++ sub (f - l.length - 1) (t - l.length - 1) r) := by
 unfold sub;rw [List.drop_append,List.take_append]
 congr 1
 rw [List.length_drop]
 by_cases h1 : f <= l.length
 · rw [show f.toNat - l.length = 0 by omega,List.drop_zero]
   by_cases h2 : (l.length : Int) < t
   · rw [if_pos ⟨h1,h2⟩,show t.toNat - f.toNat - (l.length - f.toNat) = (t - l.length - 1).toNat - (f - l.length - 1).toNat + 1 by omega,List.take_succ_cons,show (f - l.length - 1).toNat = 0 by omega]
     rfl
   · rw [if_neg (fun h => h2 h.2),show t.toNat - f.toNat - (l.length - f.toNat) = 0 by omega,show (t - l.length - 1).toNat - (f - l.length - 1).toNat = 0 by omega]
     rfl
 · rw [if_neg (fun h => h1 h.1),show f.toNat - l.length = (f - l.length - 1).toNat + 1 by omega,List.drop_succ_cons,List.nil_append]
   congr 1
   omega
theorem at_left {l r : List (K × V)} {p q : K × V} {j : Nat} (h : (l ++ q :: r)[j]? = some p) (hj : j < l.length) : l[j]? = some p := by
 rwa [List.getElem?_append_left hj] at h
theorem at_here {l r : List (K × V)} {p q : K × V} {j : Nat} (h : (l ++ q :: r)[j]? = some p) (hj : j = l.length) : q = p := by
 subst hj; rw [List.getElem?_append_right (Nat.le_refl _),Nat.sub_self] at h; simpa using h
theorem at_right {l r : List (K × V)} {p q : K × V} {j : Nat} (h : (l ++ q :: r)[j]? = some p) (hj : l.length < j) : r[j - l.length - 1]? = some p := by
 rw [List.getElem?_append_right (Nat.le_of_lt hj)] at h;rw [show j - l.length = (j - l.length - 1) + 1 by omega,List.getElem?_cons_succ] at h;exact h
end Tr
end Go.Proofs.YtogbhedbgcmckaaGreat
set_option linter.unusedVariables false
set_option linter.unusedSimpArgs false
set_option maxRecDepth 100000
set_option maxHeartbeats 200000
namespace Go.Proofs.YtogbhedbgcmckaaGreat
open Go.RowKit
structure FV where
 A : Option Addr
 cap : Nat
 l : List UInt8
 safe : Nat
abbrev fvS (v : FV) : Value := .slice v.A v.l.length v.cap
abbrev fvN (v : FV) : Value := .int .i64 ((v.safe : Nat) : Int)
abbrev fvV (v : FV) : Value := .agg #[fvS v,fvN v]
end Go.Proofs.YtogbhedbgcmckaaGreat
set_option linter.unusedVariables false
set_option linter.unusedSimpArgs false
set_option maxRecDepth 100000
set_option maxHeartbeats 200000
namespace Go.Proofs.YtogbhedbgcmckaaGreat.MapFl
open Go.RowKit Go.Proofs.YtogbhedbgcmckaaGreat
abbrev T := Tr ByteArray FV
def Rp (P : Nat -> Prop) (w : World) : Option Addr -> T -> Prop
 | u, .nil => u = none /\ ∀ k,w.heap.size <= k -> P k
 | u, .node k v l r => ∃ b ul ur,u = some ⟨b,0,none⟩ /\ P b /\ w.cell? ⟨b,0,none⟩ = some (Value.string k) /\ w.cell? ⟨b,1,none⟩ = some (fvS v) /\ w.cell? ⟨b,2,none⟩ = some (fvN v) ∧
    w.cell? ⟨b,3,none⟩ = some (.pointer ul) /\ w.cell? ⟨b,4,none⟩ = some (.pointer ur) ∧
    w.cell? ⟨b,5,none⟩ = some (.int .i64 ((l.size + 1 + r.size : Nat) : Int)) /\ w.cell? ⟨b,6,none⟩ = some (.int .i64 ((Nat.max l.deep r.deep + 1 : Nat) : Int)) ∧
    Rp P w ul l /\ Rp P w ur r
variable {P P' : Nat → Prop} {w w' : World} {t : T} {u : Option Addr}
theorem Rp.ev : ∀ {t : T} {u : Option Addr},Rp P w u t -> ∀ k,w.heap.size <= k -> P k
 | .nil,_,h => h.2
 | .node k v l r,_,⟨b,ul,ur,hu,hPb,c0,c1,c1b,c2,c3,c4,c5,hl,hr⟩ => Rp.ev hl
theorem Rp.carry (hE : ∀ k,w'.heap.size <= k -> P' k) (h : ∀ b,b < w.heap.size -> P b -> (∃ k,w.cell? ⟨b,0,none⟩ = some (Value.string k)) -> P' b /\ w'.heap[b]? = w.heap[b]?) : ∀ {t : T} {u : Option Addr},Rp P w u t -> Rp P' w' u t
 | .nil,_,hr => ⟨hr.1,hE⟩
 | .node k v l r,_,⟨b,ul,ur,hu,hPb,c0,c1,c1b,c2,c3,c4,c5,hl,hr⟩ => by
   obtain ⟨hP,hx⟩ := h b (World.block_lt_of_cell? w _ c0) hPb ⟨_,c0⟩
   have hc : ∀ o,w'.cell? ⟨b,o,none⟩ = w.cell? ⟨b,o,none⟩ := fun o => World.cell?_of_block hx
   exact ⟨b,ul,ur,hu,hP,(hc _).trans c0,(hc _).trans c1,(hc _).trans c1b,(hc _).trans c2,(hc _).trans c3,(hc _).trans c4,(hc _).trans c5,Rp.carry hE h hl,Rp.carry hE h hr⟩
theorem Rp.below {B : Nat} (hb : Below B w w') (hB : w.heap.size <= B) (h : Rp P w u t) : Rp P w' u t :=
 h.carry (fun k hk => h.ev k (Nat.le_trans hb.size hk)) fun b hlt hP _ => ⟨hP,hb.block b (Nat.lt_of_lt_of_le hlt hB)⟩
theorem Rp.alloc (o : Obj) (h : Rp P w u t) : Rp P (w.alloc o) u t := h.below ((Below.refl w.heap.size w).alloc (Nat.le_refl _) o) (Nat.le_refl _)
theorem Rp.drew (h : Rp P w u t) : Rp P w.drew u t := h.below ((Below.refl w.heap.size w).drew) (Nat.le_refl _)
theorem Rp.made {k : ByteArray} {v : FV} {l r : T} {ul ur : Option Addr} {s d : Int} (hl : Rp P w ul l) (hr : Rp P w ur r) (o : Obj) (ty : TypeId)
 (hs : s = ((l.size + 1 + r.size : Nat) : Int)) (hd : d = ((Nat.max l.deep r.deep + 1 : Nat) : Int)) :
 Rp P ((w.alloc o).alloc (.cells #[Value.string k,fvS v,fvN v, .pointer ul, .pointer ur, .int .i64 s, .int .i64 d] ty)).drew (some ⟨w.heap.size + 1,0,none⟩) (.node k v l r) := by
 subst hs hd
 have e : ∀ i,((w.alloc o).alloc (.cells #[Value.string k,fvS v,fvN v, .pointer ul, .pointer ur, .int .i64 ((l.size + 1 + r.size : Nat) : Int), .int .i64 ((Nat.max l.deep r.deep + 1 : Nat) : Int)] ty)).cell? ⟨w.heap.size + 1,i,none⟩ =
  #[Value.string k,fvS v,fvN v, .pointer ul, .pointer ur, .int .i64 ((l.size + 1 + r.size : Nat) : Int), .int .i64 ((Nat.max l.deep r.deep + 1 : Nat) : Int)][i]? := fun i => by
  simp
 exact ⟨w.heap.size + 1,ul,ur,rfl,hl.ev _ (by omega),e 0,e 1,e 2,e 3,e 4,e 5,e 6,((hl.alloc o).alloc _).drew,((hr.alloc o).alloc _).drew⟩
theorem Rp.setCell {g i : Nat} (hg : w.cell? ⟨g,1,none⟩ = none) (x : Value) : ∀ {t : T} {u : Option Addr},Rp P w u t -> Rp P (w.setCell ⟨g,i,none⟩ x) u t
 | .nil,_,hr => ⟨hr.1,by simpa using hr.2⟩
 | .node k v l r,_,⟨b,ul,ur,hu,hPb,c0,c1,c1b,c2,c3,c4,c5,hl,hr⟩ => by
   have hb : g ≠ b := by rintro rfl; rw [hg] at c1; cases c1
   have h : ∀ o,(w.setCell ⟨g,i,none⟩ x).cell? ⟨b,o,none⟩ = w.cell? ⟨b,o,none⟩ := fun o => World.cell?_setCell_other w ⟨g,i,none⟩ ⟨b,o,none⟩ x (fun e => hb (by injection e));exact ⟨b,ul,ur,hu,hPb,(h _).trans c0,(h _).trans c1,(h _).trans c1b,(h _).trans c2,(h _).trans c3,(h _).trans c4,(h _).trans c5,Rp.setCell hg x hl,Rp.setCell hg x hr⟩
end Go.Proofs.YtogbhedbgcmckaaGreat.MapFl
