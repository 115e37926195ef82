/- What is done with one file: bytes.Clone, waits, first, more, copy, each by its contract. -/
import Derived.Test.YtogbhedbgcmckaaGreatNNM02
import Derived.Test.YtogbhedbgcmckaaGreatNNM04
import Derived.Deep.RegionHeld3
import Derived.Lib.Hide
import Derived.Deep.QuietTactic
import Derived.Deep.RegionLaw
import Derived.Test.YtogbhedbgcmckaaGreatRows
import Derived.WalkSpells
import Derived.WalkLawsBesides
import Derived.StillTailTactics
import Derived.BigQuiet
import Derived.IntWalk
set_option linter.unusedVariables false
set_option linter.unusedSimpArgs false
set_option maxRecDepth 100000
set_option maxHeartbeats 200000
namespace Go.Proofs.YtogbhedbgcmckaaGreat
open Go.RowKit
abbrev FRow (w : World) (base : Nat) (v : FV) : Prop := Owns 5 w base (fvS v) v.l
theorem FRow.lies {w : World} {base : Nat} {v : FV} (h : FRow w base v) : Lies w v.A v.l.length v.cap v.l := by
 obtain ⟨A,cap,e,hl,_⟩ := qp h;injection e with e1 e2 e3;subst e1 e3;exact hl
theorem qee (v : FV) (w : World) (h : v.safe <= v.l.length) (hl : v.l.length <= 4294967296) :
 Calls Tryz.prog 35 #[fvV v] w fun e w' => e = .returned (.int .i64 ((v.l.length : Int) - (v.safe : Int))) /\ Below w.heap.size w w' := by
 have e1 : IntKind.i64.wrap ((v.l.length : Int) - (v.safe : Int)) = (v.l.length : Int) - (v.safe : Int) := IntWalk.i64_in _ (by omega)
 go_enter Tryz.func35,Tryz.ntmps35
 go_wp2;go_ret;exact ⟨rfl,(Below.refl _ _).alloc (Nat.le_refl _) _⟩
theorem qib {T : TypeId} {w : World} {base : Nat} {A : Option Addr} {len cap : Nat} {l : List UInt8} (h : Owns T w base (.slice A len cap) l) (n : Nat) (hn : n <= l.length) : Owns T w base (.slice A n cap) (l.take n) := by
 have hlen : (l.take n).length = n := by simp; omega
 rcases h.2 with ⟨e,h0⟩ | ⟨g,cap',cur,e,hb,hg,hc,hm,hs,ht⟩
 · injection e with e1 e2 e3;subst e1 e3
   have : n = 0 := by omega
   subst this;exact ⟨by simp, .inl ⟨rfl,by simp⟩⟩
 · injection e with e1 e2 e3;subst e1 e3;refine ⟨by simp, .inr ⟨g,cap,cur,by rw [hlen],hb,hg,by rw [hlen]; omega,hm,hs,?_⟩⟩;have h2 := congrArg (fun q => q.take n) ht;rw [hlen];simp only [List.take_take,Nat.mul_one] at h2 ⊢;rw [show min n l.length = n by omega] at h2;rw [h2]
   simp [cellsOf,List.map_take]
theorem qef (v : FV) (n : Nat) (w : World) (h : FRow w 0 v) (hn : n <= v.l.length) (hl : v.l.length <= 4294967296) (hc : v.cap <= maxLen) :
 Calls Tryz.prog 38 #[fvV v, .int .i64 (n : Int)] w fun e w' => ∃ v',e = .returned (fvV v') /\ v'.l = v.l.take n /\ v'.safe = n /\ FRow w' 0 v' ∧
  (∀ g,(fvS v').ownBlock = some g -> (fvS v).ownBlock = some g \/ w.heap.size <= g) /\ Below w.heap.size w w' := by
 have hS := fun W => qd6 (P := Tryz.prog) Tryz.underlying23 qar v.A v.l.length v.cap n (by have := h.lies.2.1; omega) W
 have hlen : (v.l.take n).length = n := by simp; omega
 have ho := qib h n hn
 have hcl := fun w' (hb : Below w.heap.size w w') => qas v.A n v.cap (v.l.take n) w' ((h.lies.below hb (Nat.le_refl _)).take n hn) (by rw [hlen]; omega)
 by_cases hq : (n : Int) < wrap64 ((v.cap : Int) / 2)
 · go_enter Tryz.func38,Tryz.ntmps38
   go_wp2_with (first
    | (go_at_call 77
       refine (hcl _ (by repeat (first | exact Below.refl _ _ | refine Below.alloc ?_ (by simp <;> omega) _))).mono ?_;rintro e w1 ⟨v1,rfl,ho1,hb1⟩;obtain ⟨A1,cap1,rfl,hl1,hl2⟩ := qp ho1;have hr := (hb1.block (w.heap.size + 1) (by simp)).trans (heap_alloc2_new _ _ _);obtain ⟨⟨k0,k1⟩,⟨k2,k3⟩⟩ := row2 hr;have hz : w.heap.size + 1 < w1.heap.size := Go.Proofs.YtogbhedbgcmckaaGreat.hlt hr
       have hb : Below w.heap.size w w1 := Tr.below_of hb1 (by repeat (first | exact Below.refl _ _ | refine Below.alloc ?_ (by simp <;> omega) _)))
    | fail)
   refine bodyPost_ret (qE (n := w.heap.size + 1) rfl rfl (qaq _ _ _ _ _ _ _ hr) Tryz.underlying93 rfl (by kernel_rfl)) rfl ?_;refine ⟨⟨A1,cap1,v.l.take n,n⟩,by simp [fvV,fvS,fvN,hlen],rfl,rfl,?_,?_,(hb.setCell (by simp <;> omega) _).setCell (by simp <;> omega) _⟩
   · refine Owns.rebase (Owns.keep ho1 fun g hg => ?_) (fun k _ => Nat.zero_le _);have := (ho1.lt g hg).1
     have hg' : g ≠ w.heap.size + 1 := by simp at this; omega
     exact (Below.heap_setCell _ _ _ _ (fun e => hg' e)).trans (Below.heap_setCell _ _ _ _ (fun e => hg' e))
   · intro g hg;have := (ho1.lt g hg).1;simp at this;omega
 · go_enter Tryz.func38,Tryz.ntmps38
   go_wp2;refine bodyPost_ret (qE (n := w.heap.size + 1) rfl rfl (heap_alloc2_new _ _ _) Tryz.underlying93 rfl (by kernel_rfl)) rfl ?_;have hb : Below w.heap.size w ((w.alloc (.cells #[fvS v,fvN v] 93)).alloc (.cells #[.slice v.A n v.cap, .int .i64 (n : Int)] 93)) := ((Below.refl _ _).alloc (Nat.le_refl _) _).alloc (by simp) _;refine ⟨⟨v.A,v.cap,v.l.take n,n⟩,by simp [fvV,fvS,fvN,hlen],rfl,rfl,?_,?_,hb⟩
   · show Owns _ _ _ (.slice v.A (v.l.take n).length v.cap) (v.l.take n);rw [hlen]
     exact Owns.keep ho fun g hg => hb.block g (ho.lt g hg).2
   · intro g hg
     left
     rw [<- hg];exact qcZ _ _ _ _ _
theorem qjC (v : FV) (w : World) (h : FRow w 0 v) (hl : v.l.length <= 4294967296) :
 Calls Tryz.prog 142 #[fvV v] w fun e w' => ∃ v',e = .returned (fvV v') /\ v'.l = v.l /\ v'.safe = v.safe /\ FRow w' w.heap.size v' /\ Below w.heap.size w w' := by
 have hcl := fun w' (hb : Below w.heap.size w w') => qas v.A v.l.length v.cap v.l w' (h.lies.below hb (Nat.le_refl _)) (by omega)
 go_enter Tryz.func142,Tryz.ntmps142
 go_wp2
 go_region_with (first
  | (go_at_call 77
     refine (hcl _ (by repeat (first | exact Below.refl _ _ | apply Below.drew | refine Below.alloc ?_ (by simp <;> omega) _))).mono ?_;rintro e w1 ⟨v1,rfl,ho1,hb1⟩;obtain ⟨A1,cap1,rfl,hl1,hl2⟩ := qp ho1;have hr0 := (hb1.block w.heap.size (by simp <;> omega)).trans ((Below.heap_alloc _ _ _ (by simp)).trans (heap_alloc_new _ _));obtain ⟨⟨j0,j1⟩,_⟩ := row2 hr0;have hr := (hb1.block (w.heap.size + 1) (by simp)).trans (heap_alloc2_new _ _ _);obtain ⟨⟨k0,k1⟩,⟨k2,k3⟩⟩ := row2 hr;have hz : w.heap.size + 1 < w1.heap.size := Go.Proofs.YtogbhedbgcmckaaGreat.hlt hr
     have hb : Below w.heap.size w w1 := Tr.below_of hb1 (by repeat (first | exact Below.refl _ _ | apply Below.drew | refine Below.alloc ?_ (by simp <;> omega) _)))
  | fail)
 all_goals
  have hno : ∀ g,(Value.slice A1 v.l.length cap1).ownBlock = some g -> w.heap.size <= g /\ g ≠ w.heap.size + 1 := fun g hg => by have := (ho1.lt g hg).1; simp at this; omega
  go_wp2;refine bodyPost_ret (qE (n := w.heap.size + 1) rfl rfl (qaq _ _ _ _ _ _ _ hr) Tryz.underlying93 rfl (by kernel_rfl)) rfl ?_;refine ⟨⟨A1,cap1,v.l,v.safe⟩,rfl,rfl,rfl,?_,?_⟩
  · exact Owns.rebase (Owns.keep ho1 fun g hg => (Below.heap_setCell _ _ _ _ (hno g hg).2).trans (Below.heap_setCell _ _ _ _ (hno g hg).2)) fun k hk => (hno k hk).1
  · repeat (first | exact hb | apply Below.drew | refine Below.setCell ?_ (by simp <;> omega) _)
theorem qjD (v : FV) (A : Option Addr) (len cap : Nat) (b : List UInt8) (w : World) (h : FRow w 0 v) (hA : Lies w A len cap b) (hl : (v.l ++ b).length <= 4294967296) :
 Calls Tryz.prog 192 #[fvV v, .slice A len cap] w fun e w' => ∃ v',e = .returned (fvV v') /\ v'.l = v.l ++ b /\ v'.safe = v.safe /\ FRow w' 0 v' /\ w.grownBy w' (fvS v).ownBlock ∧
  ((fvS v').ownBlock = (fvS v).ownBlock \/ ∃ g,(fvS v').ownBlock = some g /\ w.heap.size <= g) := by
 obtain ⟨i0,hi0,hz0,hz1,hz2⟩ := info_parts qbx
 have hl2 : (v.l ++ b).length <= 140737488355328 := by omega
 have hX : ∀ w',Below w.heap.size w w' -> FRow w' 0 v := fun w' hb => h.keep fun g hg => hb.block g (h.lt g hg).2
 have hAX : ∀ w',Below w.heap.size w w' -> Lies w' A len cap b := fun w' hb => hA.below hb (Nat.le_refl _)
 have hnb : ∀ k,w.heap.size <= k -> some k ≠ (fvS v).ownBlock := fun k hk e => by have := (h.lt k e.symm).2; omega
 have HB : Hid (Below w.heap.size w ((w.alloc (.cells #[fvS v,fvN v] 93)).alloc (.cells #[.slice none 0 0, .int .i64 0] 93)).drew) := ⟨(((Below.refl _ _).alloc (Nat.le_refl _) _).alloc (by simp) _).drew⟩
 go_enter Tryz.func192,Tryz.ntmps192
 go_wp2
 go_region_law
  ((refine qbl _ (by rfl) _ _ 23 (by rfl) 5 i0 Tryz.underlying23 hi0 hz0 hz1 hz2 0 (Nat.zero_le _) (fvS v) v.l (by rfl) (hX _ HB.out) A len cap b (by rfl) (hAX _ HB.out) hl2 ?_
    intro v1 w1 hr hg hb;obtain ⟨A1,cap1,rfl,hl1,hl3⟩ := qp hr;have hr0 := (hg.block w.heap.size (by simp <;> omega) (hnb _ (Nat.le_refl _))).trans ((Below.heap_alloc _ _ _ (by simp)).trans (heap_alloc_new _ _));obtain ⟨⟨j0,j1⟩,_⟩ := row2 hr0;have hr1 := (hg.block (w.heap.size + 1) (by simp) (hnb _ (by omega))).trans (heap_alloc2_new _ _ _)
    obtain ⟨⟨k0,k1⟩,⟨k2,k3⟩⟩ := row2 hr1))
 all_goals
  have hno : ∀ g,(Value.slice A1 (v.l ++ b).length cap1).ownBlock = some g -> g ≠ w.heap.size + 1 := fun g hg => by
   rintro rfl;rcases hb with e | e
   · rw [hg] at e;have := (h.lt _ e.symm).2;omega
   · rw [hg] at e;injection e with e;simp at e
  go_wp2;refine bodyPost_ret (qE (n := w.heap.size + 1) rfl rfl (qaq _ _ _ _ _ _ _ hr1) Tryz.underlying93 rfl (by kernel_rfl)) rfl ?_;refine ⟨⟨A1,cap1,v.l ++ b,v.safe⟩,by simp [fvV,fvS,fvN],rfl,rfl,?_,?_,?_⟩
  · exact Owns.keep hr fun g hg => (Below.heap_setCell _ _ _ _ (hno g hg)).trans (Below.heap_setCell _ _ _ _ (hno g hg))
  · refine ⟨hg.os,hg.tape,hg.output,by have := hg.size; simp at this ⊢; omega,fun k hk hne => ?_⟩;exact (Below.heap_setCell _ _ _ _ (by show k ≠ w.heap.size + 1; omega)).trans ((Below.heap_setCell _ _ _ _ (by show k ≠ w.heap.size + 1; omega)).trans ((hg.block k (Nat.lt_of_lt_of_le hk HB.out.size) hne).trans (HB.out.block k hk)))
  · rcases hb with e | e
    · exact .inl e
    · exact .inr ⟨_,e,by simp <;> omega⟩
end Go.Proofs.YtogbhedbgcmckaaGreat
set_option linter.unusedVariables false
set_option linter.unusedSimpArgs false
set_option maxRecDepth 100000
set_option maxHeartbeats 200000
namespace Go.Proofs.YtogbhedbgcmckaaGreat
structure Fil where
 name : ByteArray
 b : ByteArray
 safe : Nat
structure Dsk where
 room : Int
 l : List Fil
 set : Bool
 n : Int
 lost : Bool
def qad (l : List UInt8) : Bool := l.all fun b => !(decide (b.toNat < 33) || decide (126 < b.toNat))
def qF (s : ByteArray) : Bool := !(decide (s.size < 1) || decide (12 < s.size)) && qad s.data.toList
def isN (name : ByteArray) (f : Fil) : Bool := f.name.toList == name.toList
def getF (l : List Fil) (name : ByteArray) : Fil × Bool :=
 match l.find? (isN name) with
 | some f => (f,true)
 | none => (⟨name,ByteArray.empty,0⟩,false)
def putF (l : List Fil) (f : Fil) : List Fil := l.filter (fun g => ltS g.name f.name) ++ ((if 0 < f.b.size then [f] else []) ++ l.filter (fun g => ltS f.name g.name))
def qo (l : List Fil) : Nat := (l.map fun f => f.b.size).sum
namespace Dsk
def burn (D : Dsk) : Dsk := if D.set && decide (D.n = 0) then { D with lost := true } else if D.set && decide (0 < D.n) then { D with n := D.n - 1 } else D
def may (D : Dsk) (a b : ByteArray) : Nat := if D.lost then 5 else if qF a && qF b then 0 else 1
def done (D : Dsk) (f : Fil) (gone : ByteArray) : Dsk × Nat :=
 if D.burn.lost then (D.burn,5) else ({ D.burn with l := putF (putF D.burn.l ⟨gone,ByteArray.empty,0⟩) f },0)
def append (D : Dsk) (name b : ByteArray) : Dsk × Nat :=
 if D.may name name ≠ 0 then (D,D.may name name) else
 if D.room < (qo D.l : Int) + (b.size : Int) then (D,4) else
 let d := Dsk.burn { D with l := putF D.l { (getF D.l name).1 with b := (getF D.l name).1.b ++ b } }
 if d.lost then (d,5) else (d,0)
def sync (D : Dsk) (name : ByteArray) : Dsk × Nat :=
 if D.may name name ≠ 0 then (D,D.may name name) else
 if (getF D.l name).2 = false then (D,6) else
 D.done { (getF D.l name).1 with safe := (getF D.l name).1.b.size } name
def cut (D : Dsk) (name : ByteArray) (n : Int) : Dsk × Nat :=
 if D.may name name ≠ 0 then (D,D.may name name) else
 if (getF D.l name).2 = false then (D,6) else
 if n < 0 \/ ((getF D.l name).1.b.size : Int) < n then (D,1) else
 D.done { (getF D.l name).1 with b := (getF D.l name).1.b.extract 0 n.toNat,safe := n.toNat } name
def rename (D : Dsk) (a b : ByteArray) : Dsk × Nat :=
 if D.may a b ≠ 0 then (D,D.may a b) else
 if (getF D.l a).2 = false then (D,6) else
 if (getF D.l a).1.safe < (getF D.l a).1.b.size then (D,7) else
 D.done { (getF D.l a).1 with name := b } a
def remove (D : Dsk) (name : ByteArray) : Dsk × Nat :=
 if D.may name name ≠ 0 then (D,D.may name name) else
 if (getF D.l name).2 = false then (D,6) else
 D.done ⟨name,ByteArray.empty,0⟩ name
def read (D : Dsk) (name : ByteArray) : ByteArray × Nat :=
 if D.may name name ≠ 0 then (ByteArray.empty,D.may name name) else
 if (getF D.l name).2 = false then (ByteArray.empty,6) else ((getF D.l name).1.b,0)
def fuse (D : Dsk) (n : Int) : Dsk × Nat :=
 if D.lost then (D,5) else if n < 0 then (D,1) else ({ D with set := true,n := n },0)
end Dsk
def stays (Z : Nat -> Int) (len i : Nat) (m : Int) : Nat := if i < len then (Z i % m).toNat else 0
def qbe (Z : Nat -> Int) (len i : Nat) (f : Fil) : Nat := f.safe + stays Z len i ((f.b.size : Int) - (f.safe : Int) + 1)
def back1 (Z : Nat -> Int) (len i : Nat) (f : Fil) : Fil := { f with b := f.b.extract 0 (qbe Z len i f),safe := qbe Z len i f }
def backSt (Z : Nat -> Int) (len : Nat) (l : List Fil) : Nat -> Nat × List Fil
 | 0 => (0,l)
 | k + 1 => match l[k]? with
   | some f => if f.safe = f.b.size then backSt Z len l k else ((backSt Z len l k).1 + 1,putF (backSt Z len l k).2 (back1 Z len (backSt Z len l k).1 f))
   | none => backSt Z len l k
def Dsk.restart (D : Dsk) (Z : Nat -> Int) (len : Nat) : Dsk := { D with l := (backSt Z len D.l D.l.length).2,set := false,n := 0,lost := false }
theorem qeg (Z : Nat -> Int) (len : Nat) (l : List Fil) (k : Nat) (hk : k < l.length) (h : l[k].safe = l[k].b.size) : backSt Z len l (k + 1) = backSt Z len l k := by
 simp [backSt,hk,h]
theorem qdC (Z : Nat -> Int) (len : Nat) (l : List Fil) (k : Nat) (hk : k < l.length) (h : l[k].safe ≠ l[k].b.size) : backSt Z len l (k + 1) = ((backSt Z len l k).1 + 1,putF (backSt Z len l k).2 (back1 Z len (backSt Z len l k).1 l[k])) := by
 simp [backSt,hk,h]
theorem qeh (l : List Fil) (f : Fil) : (putF l f).length <= l.length + 1 := by
 have h : (l.filter (fun g => ltS g.name f.name)).length + (l.filter (fun g => ltS f.name g.name)).length <= l.length := by
  induction l with
  | nil => simp
  | cons g l ih =>
    simp only [List.filter_cons,List.length_cons]
    cases h1 : ltS g.name f.name with
    | true => rw [qak h1]; simp; omega
    | false =>
      cases h2 : ltS f.name g.name with
      | true => simp; omega
      | false => simp; omega
 unfold putF;rw [List.length_append,List.length_append]
 split <;> simp <;> omega
theorem qg2 (Z : Nat -> Int) (len : Nat) (l : List Fil) (k : Nat) : (backSt Z len l k).2.length <= l.length + k /\ (backSt Z len l k).1 <= k := by
 induction k with
 | zero => simp [backSt]
 | succ k ih =>
   simp only [backSt]
   split
   · rename_i f _;have := qeh (backSt Z len l k).2 (back1 Z len (backSt Z len l k).1 f)
     split
     · omega
     · simp only; omega
   · omega
theorem qe8 (Z : Nat -> Int) (len i : Nat) (m : Int) (h : 0 < m) : (stays Z len i m : Int) < m := by
 unfold stays
 split
 · have := Int.emod_lt_of_pos (Z i) h;have := Int.emod_nonneg (Z i) (Int.ne_of_gt h);omega
 · omega
theorem qic (x m : Int) (h : 0 < m) : (x.tmod m + m) % m = x % m := by
 have e : x.tmod m = x - m * x.tdiv m := Int.tmod_def x m;rw [e,Int.add_emod_right,Int.sub_mul_emod_self_left]
end Go.Proofs.YtogbhedbgcmckaaGreat
set_option linter.unusedVariables false
set_option linter.unusedSimpArgs false
set_option maxRecDepth 100000
set_option maxHeartbeats 200000
namespace Go.Proofs.YtogbhedbgcmckaaGreat
theorem qcJ (a b : List Fil) : qo (a ++ b) = qo a + qo b := by simp [qo]
theorem qU (f : Fil) (l : List Fil) : qo (f :: l) = f.b.size + qo l := by simp [qo]
theorem qbP : qo [] = 0 := rfl
theorem qaR {name : ByteArray} {f : Fil} (h : isN name f = true) : f.name = name := by
 unfold isN at h
 have h' : f.name.toList = name.toList := by simpa using h
 rw [ByteArray.toList_eq,ByteArray.toList_eq] at h';exact WideShapes.bytes_inj h'
theorem qb5 (l : List Fil) (name : ByteArray) : qo l = qo (l.filter fun g => ltS g.name name) + qo (l.filter (isN name)) + qo (l.filter fun g => ltS name g.name) := by
 induction l with
 | nil => rfl
 | cons g l ih =>
   simp only [List.filter_cons,qU]
   cases h1 : ltS g.name name with
   | true =>
     have h2 : isN name g = false := by
      cases hq : isN name g with
      | false => rfl
      | true => rw [qaR hq,qah] at h1; cases h1
     rw [h2,qak h1];simp only [if_true,qU,Bool.false_eq_true,if_false];omega
   | false =>
     cases h2 : ltS name g.name with
     | true =>
       have h3 : isN name g = false := by unfold isN; exact qia h2
       rw [h3];simp only [if_true,qU,Bool.false_eq_true,if_false];omega
     | false =>
       have h3 : isN name g = true := by unfold isN; rw [qa7 h1 h2]; simp
       rw [h3];simp only [if_true,qU,Bool.false_eq_true,if_false];omega
theorem qbQ (l : List Fil) (f : Fil) : qo (putF l f) + qo (l.filter (isN f.name)) = qo l + f.b.size := by
 have h := qb5 l f.name;unfold putF;rw [qcJ,qcJ]
 split
 · simp only [qU,qbP]; omega
 · simp only [qbP]; omega
theorem qid (l : List Fil) (name : ByteArray) (h : (getF l name).2 = true) : (getF l name).1 ∈ l /\ (getF l name).1.name = name := by
 unfold getF at *
 cases hq : l.find? (isN name) with
 | none => rw [hq] at h; cases h
 | some f => exact ⟨List.mem_of_find?_eq_some hq,qaR (List.find?_some hq)⟩
theorem qbR (l : List Fil) (name : ByteArray) : (getF l name).1.name = name := by
 unfold getF
 cases hq : l.find? (isN name) with
 | none => rfl
 | some f => exact qaR (List.find?_some hq)
theorem qaW (l : List Fil) (name : ByteArray) : (getF l name).1.b.size <= qo (l.filter (isN name)) := by
 unfold getF
 cases hq : l.find? (isN name) with
 | none => simp
 | some f =>
   have hm : f ∈ l.filter (isN name) := List.mem_filter.2 ⟨List.mem_of_find?_eq_some hq,List.find?_some hq⟩;dsimp only;generalize l.filter (isN name) = q at hm
   induction q with
   | nil => cases hm
   | cons g q ih =>
     rw [qU];rcases List.mem_cons.1 hm with rfl | hm
     · omega
     · have := ih hm; omega
structure qa2 (l : List Fil) : Prop where
 sort : l.Pairwise fun a b => ltS a.name b.name = true
 each : ∀ f ∈ l,0 < f.b.size /\ f.safe <= f.b.size /\ qF f.name = true
structure Good (D : Dsk) : Prop where
 room : 0 <= D.room /\ D.room <= 1048576
 fils : qa2 D.l
 used : (qo D.l : Int) <= D.room
 n : 0 <= D.n /\ D.n <= 9223372036854775807
theorem qjE (l : List Fil) (h : ∀ f ∈ l,0 < f.b.size) : l.length <= qo l := by
 induction l with
 | nil => simp
 | cons f l ih =>
   rw [qU,List.length_cons];have := h f List.mem_cons_self
   have := ih fun g hg => h g (List.mem_cons_of_mem _ hg)
   omega
theorem Good.len {D : Dsk} (h : Good D) : D.l.length <= 1048576 := by
 have := qjE D.l fun f hf => (h.fils.each f hf).1
 have := h.used;have := h.room;omega
theorem Good.usedN {D : Dsk} (h : Good D) : qo D.l <= 1048576 := by
 have := h.used;have := h.room;omega
theorem qa2.put {l : List Fil} (h : qa2 l) (f : Fil) (hf : f.safe <= f.b.size) (hr : 0 < f.b.size -> qF f.name = true) : qa2 (putF l f) := by
 refine ⟨?_,fun g hg => ?_⟩
 · unfold putF;rw [List.pairwise_append];refine ⟨h.sort.filter _,?_,fun a ha b hb => ?_⟩
   · rw [List.pairwise_append];refine ⟨?_,h.sort.filter _,fun a ha b hb => ?_⟩
     · split <;> simp
     · obtain rfl : a = f := by
        split at ha
        · simpa using ha
        · cases ha
       exact (List.mem_filter.1 hb).2
   · have ha' := (List.mem_filter.1 ha).2;rcases List.mem_append.1 hb with hb | hb
     · obtain rfl : b = f := by
        split at hb
        · simpa using hb
        · cases hb
       exact ha'
     · exact qbO ha' (List.mem_filter.1 hb).2
 · unfold putF at hg;rcases List.mem_append.1 hg with hg | hg
   · exact h.each g (List.mem_filter.1 hg).1
   · rcases List.mem_append.1 hg with hg | hg
     · split at hg
       · obtain rfl : g = f := by simpa using hg
         have hp : 0 < g.b.size := by assumption
         exact ⟨hp,hf,hr hp⟩
       · cases hg
     · exact h.each g (List.mem_filter.1 hg).1
theorem qa2.get {l : List Fil} (h : qa2 l) (name : ByteArray) : (getF l name).1.safe <= (getF l name).1.b.size := by
 cases hq : (getF l name).2 with
 | true => exact (h.each _ (qid l name hq).1).2.1
 | false =>
   unfold getF at *
   cases h2 : l.find? (isN name) with
   | none => simp
   | some f => rw [h2] at hq; cases hq
theorem Good.burn {D : Dsk} (h : Good D) : Good D.burn := by
 unfold Dsk.burn
 split
 · exact ⟨h.room,h.fils,h.used,h.n⟩
 · split
   · rename_i h2
     have : 0 < D.n := by simp at h2; exact h2.2
     exact ⟨h.room,h.fils,h.used,⟨by show 0 <= D.n - 1; omega,by show D.n - 1 <= _; have := h.n; omega⟩⟩
   · exact h
theorem Good.done {D : Dsk} (h : Good D) (f : Fil) (gone : ByteArray) (hf : f.safe <= f.b.size) (hr : 0 < f.b.size -> qF f.name = true) (hs : f.b.size <= qo (D.l.filter (isN gone))) : Good (D.done f gone).1 := by
 have hb := h.burn
 have hl : D.burn.l = D.l := by unfold Dsk.burn; split <;> (try split) <;> rfl
 unfold Dsk.done
 split
 · exact hb
 · refine ⟨hb.room,?_,?_,hb.n⟩
   · exact (hb.fils.put _ (Nat.zero_le _) (fun h => absurd h (by simp))).put f hf hr
   · show (qo (putF (putF D.burn.l ⟨gone,ByteArray.empty,0⟩) f) : Int) <= D.burn.room;have h1 := qbQ (putF D.burn.l ⟨gone,ByteArray.empty,0⟩) f;have h2 := qbQ D.burn.l ⟨gone,ByteArray.empty,0⟩;have h3 := hb.used;dsimp only at h2;rw [hl] at h1 h2 h3 ⊢;simp at h2;omega
theorem qaK {D : Dsk} {a b : ByteArray} (h : ¬ D.may a b ≠ 0) : D.lost = false /\ qF a = true /\ qF b = true := by
 have h0 : D.may a b = 0 := Decidable.not_not.1 h;unfold Dsk.may at h0
 split at h0
 · omega
 · split at h0
   · rename_i h1 h2;simp only [Bool.and_eq_true] at h2;exact ⟨by simpa using h1,h2.1,h2.2⟩
   · omega
theorem Good.sync {D : Dsk} (h : Good D) (name : ByteArray) : Good (D.sync name).1 := by
 unfold Dsk.sync
 split
 · exact h
 · rename_i hm
   split
   · exact h
   · exact h.done _ _ (Nat.le_refl _) (fun _ => by dsimp only; rw [qbR]; exact (qaK hm).2.1) (qaW _ _)
theorem Good.remove {D : Dsk} (h : Good D) (name : ByteArray) : Good (D.remove name).1 := by
 unfold Dsk.remove
 split
 · exact h
 · split
   · exact h
   · exact h.done _ _ (Nat.zero_le _) (fun h => absurd h (by simp)) (by simp)
theorem Good.rename {D : Dsk} (h : Good D) (a b : ByteArray) : Good (D.rename a b).1 := by
 unfold Dsk.rename
 split
 · exact h
 · rename_i hm
   split
   · exact h
   · split
     · exact h
     · exact h.done _ _ (h.fils.get a) (fun _ => (qaK hm).2.2) (qaW _ _)
theorem extract_size (s : ByteArray) (k : Nat) (h : k <= s.size) : (s.extract 0 k).size = k := by
 simp; omega
theorem Good.cut {D : Dsk} (h : Good D) (name : ByteArray) (z : Int) : Good (D.cut name z).1 := by
 unfold Dsk.cut
 split
 · exact h
 · rename_i hm
   split
   · exact h
   · split
     · exact h
     · rename_i hz
       have hk : z.toNat <= (getF D.l name).1.b.size := by omega
       have he := extract_size _ _ hk;refine h.done _ _ ?_ (fun _ => by dsimp only; rw [qbR]; exact (qaK hm).2.1) ?_
       · dsimp only; omega
       · dsimp only; have := qaW D.l name; omega
theorem Good.append {D : Dsk} (h : Good D) (name s : ByteArray) : Good (D.append name s).1 := by
 unfold Dsk.append
 split
 · exact h
 · rename_i hm
   split
   · exact h
   · rename_i hr
     have hg : Good { D with l := putF D.l { (getF D.l name).1 with b := (getF D.l name).1.b ++ s } } := by
      refine ⟨h.room,h.fils.put _ ?_ (fun _ => by dsimp only; rw [qbR]; exact (qaK hm).2.1),?_,h.n⟩
      · have := h.fils.get name
        simp; omega
      · have h1 := qbQ D.l { (getF D.l name).1 with b := (getF D.l name).1.b ++ s }
        have h2 : (getF D.l name).1.b.size <= qo (D.l.filter (isN (getF D.l name).1.name)) := by rw [qbR]; exact qaW _ _
        dsimp only at h1 ⊢;simp only [ByteArray.size_append] at h1;omega
     dsimp only
     split <;> exact hg.burn
theorem Good.fuse {D : Dsk} (h : Good D) (z : Int) (hz : z <= 9223372036854775807) : Good (D.fuse z).1 := by
 unfold Dsk.fuse
 split
 · exact h
 · split
   · exact h
   · exact ⟨h.room,h.fils,h.used,by dsimp only; omega⟩
def qap (Z : Nat -> Int) (len : Nat) : List Fil -> Nat -> List Fil
 | [],_ => []
 | f :: l,i => if f.safe = f.b.size then f :: qap Z len l i else (if 0 < qbe Z len i f then [back1 Z len i f] else []) ++ qap Z len l (i + 1)
theorem qe9 (Z : Nat -> Int) (len i : Nat) (f : Fil) (h : f.safe <= f.b.size) : f.safe <= qbe Z len i f /\ qbe Z len i f <= f.b.size := by
 have := qe8 Z len i ((f.b.size : Int) - (f.safe : Int) + 1) (by omega);unfold qbe;omega
theorem qbr (Z : Nat -> Int) (len i : Nat) (f : Fil) (h : f.safe <= f.b.size) : (back1 Z len i f).b.size = qbe Z len i f := extract_size _ _ (qe9 Z len i f h).2
theorem qjF (p q : List Fil) (f g : Fil) (hp : ∀ a ∈ p,ltS a.name f.name = true) (hq : ∀ a ∈ q,ltS f.name a.name = true) (hn : g.name = f.name) :
 putF (p ++ f :: q) g = p ++ ((if 0 < g.b.size then [g] else []) ++ q) := by
 have f1 : p.filter (fun a => ltS a.name f.name) = p := List.filter_eq_self.2 hp
 have f2 : q.filter (fun a => ltS a.name f.name) = [] := List.filter_eq_nil_iff.2 fun a ha => by rw [qak (hq a ha)]; decide
 have f3 : p.filter (fun a => ltS f.name a.name) = [] := List.filter_eq_nil_iff.2 fun a ha => by rw [qak (hp a ha)]; decide
 have f4 : q.filter (fun a => ltS f.name a.name) = q := List.filter_eq_self.2 hq;unfold putF;rw [hn];simp only [List.filter_append,List.filter_cons,f1,f2,f3,f4,qah,Bool.false_eq_true,if_false,List.append_nil,List.nil_append]
theorem qg3 (Z : Nat -> Int) (len : Nat) (l : List Fil) : ∀ i,∀ g ∈ qap Z len l i,∃ f ∈ l,g.name = f.name := by
 induction l with
 | nil => intro i g hg; cases hg
 | cons f l ih =>
   intro i g hg;unfold qap at hg
   split at hg
   · rcases List.mem_cons.1 hg with rfl | hg
     · exact ⟨g,List.mem_cons_self,rfl⟩
     · obtain ⟨x,hx,e⟩ := ih i g hg; exact ⟨x,List.mem_cons_of_mem _ hx,e⟩
   · rcases List.mem_append.1 hg with hg | hg
     · split at hg
       · obtain rfl : g = back1 Z len i f := by simpa using hg
         exact ⟨f,List.mem_cons_self,rfl⟩
       · cases hg
     · obtain ⟨x,hx,e⟩ := ih (i + 1) g hg; exact ⟨x,List.mem_cons_of_mem _ hx,e⟩
theorem qie (Z : Nat -> Int) (len : Nat) (l : List Fil) (h : qa2 l) : ∀ k,k <= l.length -> ∃ p,(backSt Z len l k).2 = p ++ l.drop k /\ (∀ g ∈ p,∃ f ∈ l.take k,g.name = f.name) /\ qap Z len l 0 = p ++ qap Z len (l.drop k) (backSt Z len l k).1 := by
 intro k
 induction k with
 | zero => intro _; exact ⟨[],by simp [backSt],by simp,by simp [backSt]⟩
 | succ k ih =>
   intro hk
   have hkl : k < l.length := by omega
   obtain ⟨p,h1,h2,h3⟩ := ih (by omega);have hd : l.drop k = l[k] :: l.drop (k + 1) := List.drop_eq_getElem_cons hkl;have ht : l.take (k + 1) = l.take k ++ [l[k]] := List.take_succ_eq_append_getElem hkl
   have hlo : ∀ a ∈ l.take k,ltS a.name l[k].name = true := by
    have := h.sort;rw [<- List.take_append_drop k l,List.pairwise_append,hd] at this
    exact fun a ha => this.2.2 a ha _ List.mem_cons_self
   have hhi : ∀ a ∈ l.drop (k + 1),ltS l[k].name a.name = true := by
    have := h.sort;rw [<- List.take_append_drop k l,List.pairwise_append,hd,List.pairwise_cons] at this;exact this.2.1.1
   have hpl : ∀ a ∈ p,ltS a.name l[k].name = true := fun a ha => by
    obtain ⟨f,hf,e⟩ := h2 a ha;rw [e]; exact hlo f hf
   have hsf := (h.each l[k] (List.getElem_mem hkl)).2.1
   by_cases hfe : l[k].safe = l[k].b.size
   · rw [qeg Z len l k hkl hfe];refine ⟨p ++ [l[k]],by rw [h1,hd]; simp,fun g hg => ?_,?_⟩
     · rw [ht];rcases List.mem_append.1 hg with hg | hg
       · obtain ⟨f,hf,e⟩ := h2 g hg;exact ⟨f,List.mem_append_left _ hf,e⟩
       · obtain rfl : g = l[k] := by simpa using hg
         exact ⟨_,List.mem_append_right _ (by simp),rfl⟩
     · rw [h3,hd]
       conv => lhs; unfold qap
       rw [if_pos hfe]; simp
   · rw [qdC Z len l k hkl hfe];have hm := qjF p (l.drop (k + 1)) l[k] (back1 Z len (backSt Z len l k).1 l[k]) hpl hhi rfl;rw [qbr _ _ _ _ hsf] at hm;refine ⟨p ++ (if 0 < qbe Z len (backSt Z len l k).1 l[k] then [back1 Z len (backSt Z len l k).1 l[k]] else []),by dsimp only; rw [h1,hd,hm,List.append_assoc],fun g hg => ?_,?_⟩
     · rw [ht];rcases List.mem_append.1 hg with hg | hg
       · obtain ⟨f,hf,e⟩ := h2 g hg;exact ⟨f,List.mem_append_left _ hf,e⟩
       · split at hg
         · obtain rfl : g = back1 Z len (backSt Z len l k).1 l[k] := by simpa using hg
           exact ⟨l[k],List.mem_append_right _ (by simp),rfl⟩
         · cases hg
     · rw [h3,hd]
       conv => lhs; unfold qap
       rw [if_neg hfe,List.append_assoc]
theorem qif (D : Dsk) (Z : Nat -> Int) (len : Nat) (h : qa2 D.l) : (D.restart Z len).l = qap Z len D.l 0 := by
 obtain ⟨p,h1,_,h3⟩ := qie Z len D.l h D.l.length (Nat.le_refl _);show (backSt Z len D.l D.l.length).2 = _;rw [h1,h3]
 simp [qap]
theorem qg4 (Z : Nat -> Int) (len : Nat) (l : List Fil) (h : ∀ f ∈ l,f.safe <= f.b.size) : ∀ i,qo (qap Z len l i) <= qo l /\ (qap Z len l i).length <= l.length := by
 induction l with
 | nil => intro i; exact ⟨Nat.le_refl _,Nat.le_refl _⟩
 | cons f l ih =>
   intro i;have hf := h f List.mem_cons_self
   have hi := ih fun g hg => h g (List.mem_cons_of_mem _ hg)
   unfold qap
   split
   · have := hi i;rw [qU,qU,List.length_cons,List.length_cons]; omega
   · have := hi (i + 1);have hb := qbr Z len i f hf;have hl := qe9 Z len i f hf;rw [qcJ,List.length_append,qU,List.length_cons]
     split
     · rw [qU,qbP,hb]; simp; omega
     · rw [qbP]; simp; omega
theorem qg5 (Z : Nat -> Int) (len : Nat) (l : List Fil) : qa2 l -> ∀ i,qa2 (qap Z len l i) := by
 induction l with
 | nil => intro h i; exact h
 | cons f l ih =>
   intro h i;have hl : qa2 l := ⟨(List.pairwise_cons.1 h.sort).2,fun g hg => h.each g (List.mem_cons_of_mem _ hg)⟩;have hlt := (List.pairwise_cons.1 h.sort).1
   have hlo : ∀ i,∀ g ∈ qap Z len l i,ltS f.name g.name = true := fun i g hg => by
    obtain ⟨x,hx,e⟩ := qg3 Z len l i g hg;rw [e]; exact hlt x hx
   have hf := h.each f List.mem_cons_self;unfold qap
   split
   · refine ⟨List.pairwise_cons.2 ⟨hlo i,(ih hl i).sort⟩,fun g hg => ?_⟩;rcases List.mem_cons.1 hg with rfl | hg
     · exact hf
     · exact (ih hl i).each g hg
   · split
     · rename_i hp;refine ⟨List.pairwise_cons.2 ⟨hlo (i + 1),(ih hl (i + 1)).sort⟩,fun g hg => ?_⟩;rcases List.mem_cons.1 hg with rfl | hg
       · refine ⟨by rw [qbr _ _ _ _ hf.2.1]; exact hp,?_,hf.2.2⟩;rw [qbr _ _ _ _ hf.2.1];exact Nat.le_refl _
       · exact (ih hl (i + 1)).each g hg
     · exact ih hl (i + 1)
theorem Good.restart {D : Dsk} (h : Good D) (Z : Nat -> Int) (len : Nat) : Good (D.restart Z len) := by
 have hl := qif D Z len h.fils;have hu := (qg4 Z len D.l (fun f hf => (h.fils.each f hf).2.1) 0).1;refine ⟨h.room,by rw [hl]; exact qg5 Z len D.l h.fils 0,?_,by show (0 : Int) <= 0 /\ (0 : Int) <= _; omega⟩;rw [hl];show _ <= D.room;have := h.used;omega
theorem qjG {l : List Fil} (h : l.Pairwise fun a b => ltS a.name b.name = true) {f : Fil} (hf : f ∈ l) : getF l f.name = (f,true) := by
 have : l.find? (isN f.name) = some f := by
  induction l with
  | nil => cases hf
  | cons g l ih =>
    rw [List.pairwise_cons] at h;rw [List.find?_cons];rcases List.mem_cons.1 hf with rfl | hf
    · have : isN f.name f = true := by simp [isN]
      rw [this]
    · have : isN f.name g = false := by
       cases hq : isN f.name g with
       | false => rfl
       | true => have := h.1 f hf; rw [qaR hq,qah] at this; cases this
      rw [this];exact ih h.2 hf
 simp [getF,this]
theorem qig {l : List Fil} {name : ByteArray} (h : ∀ g ∈ l,g.name ≠ name) : getF l name = (⟨name,ByteArray.empty,0⟩,false) := by
 have : l.find? (isN name) = none := by
  rw [List.find?_eq_none]
  exact fun g hg hq => h g hg (qaR hq)
 simp [getF,this]
end Go.Proofs.YtogbhedbgcmckaaGreat
set_option linter.unusedVariables false
set_option linter.unusedSimpArgs false
set_option maxRecDepth 100000
set_option maxHeartbeats 200000
namespace Go.Proofs.YtogbhedbgcmckaaGreat.MapFl
open Go.RowKit Go.Proofs.YtogbhedbgcmckaaGreat
variable {P : Nat → Prop}
theorem count_any (t : T) (u : Option Addr) (w : World) (h : Rp P w u t) : Calls Tryz.prog 121 #[.pointer u] w fun e w' => e = .returned (.int .i64 (t.size : Int)) /\ w = w' := by
 cases t with
 | nil =>
   have h0 := h;obtain ⟨rfl,hE⟩ := h
   go_enter Tryz.func121,Tryz.ntmps121
   go_wp2;go_ret;exact ⟨rfl,rfl⟩
 | node k v l r =>
   obtain ⟨b,ul,ur,rfl,hPb,c0,c1,c1b,c2,c3,c4,c5,hl,hr⟩ := h;rw [Tr.size_node];generalize l.size + 1 + r.size = n at c4 ⊢
   go_enter Tryz.func121,Tryz.ntmps121
   go_wp2;go_ret;exact ⟨rfl,rfl⟩
theorem qJ (t : T) (u : Option Addr) (w : World) (h : Rp P w u t) : Calls Tryz.prog 194 #[.pointer u] w fun e w' => e = .returned (.int .i64 (t.deep : Int)) /\ w = w' := by
 cases t with
 | nil =>
   have h0 := h;obtain ⟨rfl,hE⟩ := h
   go_enter Tryz.func194,Tryz.ntmps194
   go_wp2;go_ret;exact ⟨rfl,rfl⟩
 | node k v l r =>
   obtain ⟨b,ul,ur,rfl,hPb,c0,c1,c1b,c2,c3,c4,c5,hl,hr⟩ := h;rw [Tr.deep_node];generalize Nat.max l.deep r.deep + 1 = n at c5 ⊢
   go_enter Tryz.func194,Tryz.ntmps194
   go_wp2;go_ret;exact ⟨rfl,rfl⟩
theorem qdY (a : ByteArray) (w : World) : Calls Tryz.prog 193 #[Value.string a] w fun e w' => e = .returned (.bool false) /\ w = w' := by
 go_enter Tryz.func193,Tryz.ntmps193
 go_wp2;go_ret;exact ⟨by simp,rfl⟩
theorem qfa (a b : ByteArray) (h : ltS a b = true) (w : World) : Calls Tryz.prog 164 #[Value.string a,Value.string b] w fun e w' => e = .returned (.int .i64 (-1)) /\ w = w' := by
 have h1 : Op.bytesLess a.toList b.toList = true := h
 go_enter Tryz.func164,Tryz.ntmps164
 go_wp2_with (go_at_call 193; refine (qdY _ _).mono ?_; rintro e w' ⟨rfl,rfl⟩)
 go_ret;exact ⟨rfl,rfl⟩
theorem qfb (a b : ByteArray) (h : ltS b a = true) (w : World) : Calls Tryz.prog 164 #[Value.string a,Value.string b] w fun e w' => e = .returned (.int .i64 1) /\ w = w' := by
 have h1 : Op.bytesLess a.toList b.toList = false := qak h;have h2 : (a.toList == b.toList) = false := qia h
 go_enter Tryz.func164,Tryz.ntmps164
 go_wp2_with (go_at_call 193; refine (qdY _ _).mono ?_; rintro e w' ⟨rfl,rfl⟩)
 go_ret;exact ⟨rfl,rfl⟩
theorem cmp_eq (a : ByteArray) (w : World) : Calls Tryz.prog 164 #[Value.string a,Value.string a] w fun e w' => e = .returned (.int .i64 0) /\ w = w' := by
 have h1 : Op.bytesLess a.toList a.toList = false := qah a
 go_enter Tryz.func164,Tryz.ntmps164
 go_wp2_with (go_at_call 193; refine (qdY _ _).mono ?_; rintro e w' ⟨rfl,rfl⟩)
 go_ret;exact ⟨rfl,rfl⟩
theorem qX (l r : T) (ul ur : Option Addr) (k : ByteArray) (v : FV) (w : World) (hl : Rp P w ul l) (hr : Rp P w ur r) (hs : l.size + 1 + r.size <= 4000000) :
 Calls Tryz.prog 167 #[.pointer ul, .agg #[Value.string k,fvS v,fvN v], .pointer ur] w fun e w' => ∃ u,e = .returned (.pointer u) /\ Rp P w' u (.node k v l r) /\ Below w.heap.size w w' := by
 have dl := l.deep_le;have dr := r.deep_le;have e1 : IntKind.i64.wrap ((l.size : Int) + 1) = (l.size : Int) + 1 := IntWalk.i64_in _ (by omega);have e2 : IntKind.i64.wrap ((l.size : Int) + 1 + (r.size : Int)) = (l.size : Int) + 1 + (r.size : Int) := IntWalk.i64_in _ (by omega);have e3 : IntKind.i64.wrap ((l.deep : Int) + 1) = (l.deep : Int) + 1 := IntWalk.i64_in _ (by omega);have e4 : IntKind.i64.wrap ((r.deep : Int) + 1) = (r.deep : Int) + 1 := IntWalk.i64_in _ (by omega)
 by_cases hlt : l.deep < r.deep
 all_goals
  go_enter Tryz.func167,Tryz.ntmps167
  go_wp2
  go_region_held3 (fun w' => w'.cell? ⟨w.heap.size,0,none⟩ = some (Value.string k) /\ w'.cell? ⟨w.heap.size,1,none⟩ = some (fvS v) /\ w'.cell? ⟨w.heap.size,2,none⟩ = some (fvN v)) (go_keep)
   (first
     | (go_at_call_of 121 (Value.pointer ul); refine (count_any (P := P) l ul _ ?_).mono ?_; (repeat (first | with_reducible exact hl | refine Rp.alloc _ ?_ | refine Rp.drew ?_)); rintro e w' ⟨rfl,rfl⟩)
     | (go_at_call_of 121 (Value.pointer ur); refine (count_any (P := P) r ur _ ?_).mono ?_; (repeat (first | with_reducible exact hr | refine Rp.alloc _ ?_ | refine Rp.drew ?_)); rintro e w' ⟨rfl,rfl⟩)
     | (go_at_call_of 194 (Value.pointer ul); refine (qJ (P := P) l ul _ ?_).mono ?_; (repeat (first | with_reducible exact hl | refine Rp.alloc _ ?_ | refine Rp.drew ?_)); rintro e w' ⟨rfl,rfl⟩)
     | (go_at_call_of 194 (Value.pointer ur); refine (qJ (P := P) r ur _ ?_).mono ?_; (repeat (first | with_reducible exact hr | refine Rp.alloc _ ?_ | refine Rp.drew ?_)); rintro e w' ⟨rfl,rfl⟩))
  go_wp2;go_ret
 · refine ⟨some ⟨w.heap.size + 1,0,none⟩,rfl,Rp.made hl hr _ _ ?_ ?_,(((Below.refl _ _).alloc (Nat.le_refl _) _).alloc (by simp) _).drew⟩
   · push_cast; rfl
   · rw [show Nat.max l.deep r.deep = r.deep from Nat.max_eq_right (Nat.le_of_lt hlt)]; push_cast; rfl
 · refine ⟨some ⟨w.heap.size + 1,0,none⟩,rfl,Rp.made hl hr _ _ ?_ ?_,(((Below.refl _ _).alloc (Nat.le_refl _) _).alloc (by simp) _).drew⟩
   · push_cast; rfl
   · rw [show Nat.max l.deep r.deep = l.deep from Nat.max_eq_left (Nat.not_lt.1 hlt)]; push_cast; rfl
end Go.Proofs.YtogbhedbgcmckaaGreat.MapFl
