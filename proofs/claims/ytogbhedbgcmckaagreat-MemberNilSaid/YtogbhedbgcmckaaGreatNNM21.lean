/- A vault that is well kept on a disk: what Open, Save, Keep make of it, and the power's going within them. Plain mathematics. -/
import Derived.Test.YtogbhedbgcmckaaGreatNNM13
import Derived.Test.YtogbhedbgcmckaaGreatNNM20
import Derived.Laws.StructEq
import Derived.Laws.Cover2
import Derived.Test.YtogbhedbgcmckaaGreatNNM01
import Derived.Test.YtogbhedbgcmckaaGreatNNM15
import Derived.Test.YtogbhedbgcmckaaGreatNNM02
set_option linter.unusedVariables false
set_option linter.unusedSimpArgs false
set_option maxRecDepth 100000
set_option maxHeartbeats 200000
namespace Go.Proofs.YtogbhedbgcmckaaGreat
section
variable {D : Dsk} {x : View} {φ : Option Nat} {U : Nat}
end
section
variable {D : Dsk} {x : View} {φ : Option Nat} {U : Nat} {was : Hd} {s : Ent} {l : List Ent} {ls : List (List UInt8)}
end
end Go.Proofs.YtogbhedbgcmckaaGreat
set_option linter.unusedVariables false
set_option linter.unusedSimpArgs false
set_option maxRecDepth 100000
set_option maxHeartbeats 200000
namespace Go.Proofs.YtogbhedbgcmckaaGreat
section
variable {D : Dsk} {x : View} {φ : Option Nat} {U : Nat} {was : Hd} {s0 : Ent} {l0 : List Ent} {ls : List (List UInt8)}
end
end Go.Proofs.YtogbhedbgcmckaaGreat
set_option linter.unusedVariables false
set_option linter.unusedSimpArgs false
set_option maxRecDepth 100000
set_option maxHeartbeats 200000
namespace Go.Proofs.YtogbhedbgcmckaaGreat
open Go.RowKit
theorem qav.ok {w w' : World} {d : Nat} {D D' : Dsk} {h : Hd} {s : Ent} {l : List Ent} {Z : Nat -> Prop} {e : Ending} (ho : qav w w' d D Z e) (hv : D.openV = ((D',0),⟨h,s,l⟩)) :
 ∃ v j n Z' Bs bc A c,e = .returned (.tuple #[.pointer (some ⟨v,0,none⟩), .agg #[.int .i64 h.t, .int .i64 h.v],entV s.i s.t Bs s.d.length bc, .slice A l.length c, .int .i64 0]) /\ Opd w w' d D' v j ⟨h,s,l⟩ n Z Z' Bs bc A c := by
 unfold qav at ho;rw [hv] at ho;rcases ho with ⟨_,ho⟩ | ⟨ho,_⟩
 · exact ho
 · exact absurd rfl ho
section
variable {W w w' : World} {v j d : Nat} {D D' : Dsk} {was was' : Hd} {n n' : Int} {Z : Nat → Prop}
theorem VDid.at (hd : VDid w w' v j d D' was' n' Z) {k : Nat} {o : Obj} (ho : w.heap[k]? = some o) (hz : Z k) (hj : k ≠ j) (hv : k ≠ v) : w'.heap[k]? = some o :=
 (hd.2.block k (hlt ho) ⟨hz,hj,hv⟩).trans ho
end
end Go.Proofs.YtogbhedbgcmckaaGreat
set_option linter.unusedVariables false
set_option linter.unusedSimpArgs false
set_option maxRecDepth 100000
set_option maxHeartbeats 3200000
namespace Go.Proofs.YtogbhedbgcmckaaGreat
open Go.RowKit
section
variable {W w w' : World} {v j d : Nat} {D D' : Dsk} {was was' : Hd} {n n' : Int} {Z : Nat → Prop}
end
theorem qj5 (w : World) (name : ByteArray) : Calls Tryz.prog 106 #[.pointer none, .string name] w fun e w' => ∃ A cap,e = .returned (.tuple #[.slice A 0 cap, .int .i64 1]) /\ Below w.heap.size w w' := by
 go_enter Tryz.func106,Tryz.ntmps106
 go_wp2_with (first | (go_at_call 141; refine (qjJ _ _).mono ?_; rintro e w1 ⟨rfl,hb1⟩) | fail)
 go_ret2
 exact ⟨none,0,rfl,hb1.alloc hb1.size _⟩
theorem qfE (w : World) : Calls Tryz.prog 55 #[.pointer none] w (qaB w (qaA,1)) := by
 have hb0 : Below w.heap.size w (w.alloc (.cells #[.int .i64 0, .int .i64 0, .slice none 0 0] 25)) := (Below.refl _ _).alloc (Nat.le_refl _) _;have hr0 := heap_alloc_new w (.cells #[.int .i64 0, .int .i64 0, .slice none 0 0] 25);have hA := qj5 (w.alloc (.cells #[.int .i64 0, .int .i64 0, .slice none 0 0] 25)) qc2
 go_enter Tryz.func55,Tryz.ntmps55
 go_wp2_with fail
 refine hA.mono ?_;rintro e w1 ⟨A,cap,rfl,hb1⟩;have hbw1 := hb0.trans (hb1.mono hb0.size);have hr1 := (hb1.block _ (hlt hr0)).trans hr0;obtain ⟨⟨a0,a1,a2⟩,⟨f0,f1,f2⟩⟩ := row3 hr1;have HB := Lib.hid hbw1;have HQ := Lib.hid hr1;clear hA hb1 hr1 hbw1 hb0 hr0;go_wp2;refine bodyPost_ret (qm (n := w.heap.size) rfl rfl (qN _ _ _ _ _ _ _ _ _ HQ.out) Tryz.underlying25 rfl (by kernel_rfl)) rfl ?_;exact qaB.zero 1 (qP HB.out (Nat.le_refl _) _ _ _)
theorem qiI (w : World) : Calls Tryz.prog 26 #[.pointer none] w fun e w' => e = .returned (.tuple #[.pointer none, .agg #[.int .i64 0, .int .i64 0],entV 0 0 none 0 0, .slice none 0 0, .int .i64 1]) /\ Below w.heap.size w w' := by
 have hb0 : Below w.heap.size w ((w.alloc (.cells #[.int .i64 0, .int .i64 0] 54)).alloc (.cells #[.int .i64 0, .int .i64 0, .slice none 0 0] 25)) := ((Below.refl _ _).alloc (Nat.le_refl _) _).alloc (by simp) _;have m0 : ((w.alloc (.cells #[.int .i64 0, .int .i64 0] 54)).alloc (.cells #[.int .i64 0, .int .i64 0, .slice none 0 0] 25)).heap[w.heap.size]? = some (.cells #[.int .i64 0, .int .i64 0] 54) := (Below.heap_alloc _ _ _ (by simp)).trans (heap_alloc_new _ _);have m1 : ((w.alloc (.cells #[.int .i64 0, .int .i64 0] 54)).alloc (.cells #[.int .i64 0, .int .i64 0, .slice none 0 0] 25)).heap[w.heap.size + 1]? = some (.cells #[.int .i64 0, .int .i64 0, .slice none 0 0] 25) := heap_alloc2_new _ _ _;have hRS := qfE ((w.alloc (.cells #[.int .i64 0, .int .i64 0] 54)).alloc (.cells #[.int .i64 0, .int .i64 0, .slice none 0 0] 25))
 have hRf := fun c W => qdh c W
 unfold qaB at hRS;dsimp only at hRS
 go_enter Tryz.func26,Tryz.ntmps26
 go_wp2_with fail
 refine hRS.mono ?_;rintro e w1 ⟨B,bc,rfl,_,_,hb1⟩;have ha : Below w1.heap.size w1 (w1.alloc (.cells #[.int .i64 0, .int .i64 0, .slice B 0 bc] 25)) := (Below.refl _ _).alloc (Nat.le_refl _) _;have e0 := (ha.block _ (Nat.lt_of_lt_of_le (hlt m0) hb1.size)).trans ((hb1.block _ (hlt m0)).trans m0);have e1 := (ha.block _ (Nat.lt_of_lt_of_le (hlt m1) hb1.size)).trans ((hb1.block _ (hlt m1)).trans m1);have hb2 := (hb0.trans (hb1.mono hb0.size)).trans (ha.mono (hb0.trans (hb1.mono hb0.size)).size);clear hRS m0 m1 hb0 hb1 ha
 go_wp2_with fail
 refine (hRf _ _).mono ?_;rintro e wR ⟨rfl,hbR⟩;have r0 := (hbR.block _ (hlt e0)).trans e0;have r1 := (hbR.block _ (hlt e1)).trans e1;have HT := Lib.hid (qkt wR (a := w.heap.size) (b := w.heap.size + 1) (by omega) r0 r1 (.int .i64 0) (.int .i64 0) (.int .i64 0) (.int .i64 0) (.slice none 0 0));have HB := Lib.hid (hb2.trans (hbR.mono hb2.size));obtain ⟨⟨g0,g1⟩,⟨g2,g3⟩⟩ := row2 r0;obtain ⟨⟨g4,g5,g6⟩,⟨g7,g8,g9⟩⟩ := row3 r1;clear r0 r1 hbR hb2 e0 e1;go_wp2;refine bodyPost_ret (qal (n := w.heap.size) (m := w.heap.size + 1) rfl rfl (qH.one HT.out) rfl (qH.two HT.out) Tryz.underlying54 Tryz.underlying25 rfl rfl (by kernel_rfl) (by kernel_rfl)) rfl ?_;exact ⟨rfl,HB.out.trans ((HT.out.below (Nat.le_refl _) (by omega)).mono (Nat.le_refl _) |>.mono (by have := HB.out.size; omega))⟩
end Go.Proofs.YtogbhedbgcmckaaGreat
set_option linter.unusedVariables false
set_option linter.unusedSimpArgs false
set_option maxRecDepth 100000
set_option maxHeartbeats 200000
namespace Go.Proofs.YtogbhedbgcmckaaGreat
structure RL where
 i : Int
 t : Int
 l : List Ent
 f : Int
namespace RL
def base (i t : Int) : Bool := decide (0 <= i) && (decide (i <= 1099511627776) && (decide (0 <= t) && decide (t <= 1099511627776)))
def lastI (r : RL) : Int := match r.l.getLast? with | none => r.i | some e => e.i
def lastT (r : RL) : Int := match r.l.getLast? with | none => r.t | some e => e.t
def at_ (r : RL) (x : Int) : Option Int := if x = r.i then some r.t else (r.l.find? fun e => decide (e.i = x)).map Ent.t
def newer (r : RL) (i t : Int) : Bool := decide (r.lastT < t) || (decide (t = r.lastT) && decide (r.lastI <= i))
def fromL (r : RL) (x many : Int) : List Ent := if r.at_ x = none \/ x = r.i then [] else (r.l.filter fun e => decide (x <= e.i)).take many.toNat
def changed (r : RL) : List Ent := r.l.filter fun e => decide (0 < r.f) && decide (r.f <= e.i)
def mark (r : RL) (x : Int) : RL := if r.f = 0 \/ x < r.f then { r with f := x } else r
def add (r : RL) (t : Int) (d : List UInt8) : Option RL :=
 if runB r.lastI r.lastT [⟨r.lastI + 1,t,d⟩] = true then some (({ r with l := r.l ++ [⟨r.lastI + 1,t,d⟩] } : RL).mark (r.lastI + 1)) else none
def compact (r : RL) (x : Int) : Option RL := (r.at_ x).map fun t => ⟨x,t,r.l.filter fun e => decide (x < e.i),r.f⟩
end RL
theorem qiJ {r : RL} (h : r.l = []) : r.lastI = r.i /\ r.lastT = r.t := by simp [RL.lastI,RL.lastT,h]
theorem qiK {r : RL} (h : 0 < r.l.length) : r.lastI = (r.l[r.l.length - 1]'(by omega)).i /\ r.lastT = (r.l[r.l.length - 1]'(by omega)).t := by
 have e : r.l.getLast? = some (r.l[r.l.length - 1]'(by omega)) := by rw [List.getLast?_eq_getElem?,List.getElem?_eq_getElem]
 simp [RL.lastI,RL.lastT,e]
theorem qiL {l : List Ent} {x : Int} {k : Nat} (hk : k < l.length) (h : ∀ j (hj : j < l.length),j < k -> l[j].i ≠ x) (he : l[k].i = x) : (l.find? fun e => decide (e.i = x)) = some l[k] := by
 have hs : l = l.take k ++ l[k] :: l.drop (k + 1) := by rw [<- List.drop_eq_getElem_cons hk,List.take_append_drop]
 have hn : ((l.take k).find? fun e => decide (e.i = x)) = none := by
  rw [List.find?_eq_none];intro e hmem;obtain ⟨j,hj,rfl⟩ := List.getElem_of_mem hmem
  have hjk : j < k := by simp at hj; omega
  have := h j (by omega) hjk
  simpa [List.getElem_take] using this
 have hf : ((l.take k ++ l[k] :: l.drop (k + 1)).find? fun e => decide (e.i = x)) = some l[k] := by
  rw [List.find?_append,hn,List.find?_cons_of_pos (by simpa using he)]
  rfl
 rwa [<- hs] at hf
theorem qiM {l : List Ent} {x : Int} (h : ∀ j (hj : j < l.length),l[j].i ≠ x) : (l.find? fun e => decide (e.i = x)) = none := by
 rw [List.find?_eq_none];intro e hmem;obtain ⟨j,hj,rfl⟩ := List.getElem_of_mem hmem
 simpa using h j hj
end Go.Proofs.YtogbhedbgcmckaaGreat
set_option linter.unusedVariables false
set_option linter.unusedSimpArgs false
set_option maxRecDepth 100000
set_option maxHeartbeats 200000
namespace Go.Proofs.YtogbhedbgcmckaaGreat
theorem qhH (i t : Int) (e : Ent) (l : List Ent) (k : Nat) : qa0 i t (e :: l) (k + 1) = qa0 e.i e.t l k := by
 unfold qa0 qbp qbo;rw [List.getElem?_cons_succ]
 cases l[k]? with
 | none => rfl
 | some x =>
   cases k with
   | zero => simp
   | succ k => simp
theorem qbi (i t : Int) (e : Ent) (l : List Ent) : runB i t (e :: l) = ((rightB e.i e.t e.d.length && (decide (t <= e.t) && decide (e.i = i + 1))) && runB e.i e.t l) := by
 unfold runB;rw [List.length_cons,List.range_succ_eq_map,List.all_cons,List.all_map]
 congr 1
 apply congrArg
 funext k
 exact qhH i t e l k
theorem qfF (i t : Int) : runB i t [] = true := rfl
theorem qdw {i t : Int} {e : Ent} {l : List Ent} (h : runB i t (e :: l) = true) : rightB e.i e.t e.d.length = true /\ t <= e.t /\ e.i = i + 1 /\ runB e.i e.t l = true := by
 rw [qbi] at h;simp only [Bool.and_eq_true,decide_eq_true_eq] at h;exact ⟨h.1.1,h.1.2.1,h.1.2.2,h.2⟩
def endI (i : Int) (l : List Ent) : Int := match l.getLast? with | none => i | some e => e.i
def endT (t : Int) (l : List Ent) : Int := match l.getLast? with | none => t | some e => e.t
theorem qev (i : Int) (e : Ent) (l : List Ent) : endI i (e :: l) = endI e.i l := by
 unfold endI;rw [List.getLast?_cons]
 cases l.getLast? <;> rfl
theorem qew (t : Int) (e : Ent) (l : List Ent) : endT t (e :: l) = endT e.t l := by
 unfold endT;rw [List.getLast?_cons]
 cases l.getLast? <;> rfl
theorem qiN (r : RL) : r.lastT = endT r.t r.l := rfl
theorem qb7 (a : List Ent) : ∀ (i t : Int) (b : List Ent),runB i t (a ++ b) = (runB i t a && runB (endI i a) (endT t a) b) := by
 induction a with
 | nil => intro i t b; rfl
 | cons e a ih =>
   intro i t b;rw [List.cons_append,qbi,qbi,ih,qev,qew,Bool.and_assoc (_ && _)]
theorem qbW {i t : Int} {l : List Ent} (h : runB i t l = true) (k : Nat) : runB i t (l.take k) = true /\ runB (endI i (l.take k)) (endT t (l.take k)) (l.drop k) = true := by
 rw [<- List.take_append_drop k l,qb7,Bool.and_eq_true] at h;exact h
theorem qc5 {l : List Ent} : ∀ {i t : Int},runB i t l = true -> ∀ (k : Nat) (hk : k < l.length),l[k].i = i + 1 + k := by
 induction l with
 | nil => intro i t _ k hk; simp at hk
 | cons e l ih =>
   intro i t h k hk;obtain ⟨_,_,h3,h4⟩ := qdw h
   cases k with
   | zero => simpa using h3
   | succ k =>
     have := ih h4 k (by simpa using hk);simp only [List.getElem_cons_succ];omega
theorem qbw {l : List Ent} : ∀ {i t : Int},runB i t l = true -> ∀ e ∈ l,rightB e.i e.t e.d.length = true := by
 induction l with
 | nil => intro i t _ e he; simp at he
 | cons x l ih =>
   intro i t h e he;obtain ⟨h1,_,_,h4⟩ := qdw h;rcases List.mem_cons.1 he with rfl | he
   · exact h1
   · exact ih h4 e he
theorem run_end {l : List Ent} : ∀ {i t : Int},runB i t l = true -> endI i l = i + l.length /\ t <= endT t l := by
 induction l with
 | nil => intro i t _; simp [endI,endT]
 | cons e l ih =>
   intro i t h;obtain ⟨_,h2,h3,h4⟩ := qdw h;obtain ⟨a,b⟩ := ih h4;rw [qev,qew,List.length_cons]
   constructor <;> omega
theorem qkL {i t : Int} {l : List Ent} (h : runB i t l = true) (h0 : 0 < l.length) : 0 <= i /\ i + l.length <= 1099511627776 := by
 have a := qc5 h 0 h0;have b := qc5 h (l.length - 1) (by omega);have c := (qaj _ _ _).1 (qbw h _ (List.getElem_mem h0));have d := (qaj _ _ _).1 (qbw h _ (List.getElem_mem (show l.length - 1 < l.length by omega)));omega
theorem qcp (i t : Int) : RL.base i t = true ↔ (0 <= i /\ i <= 1099511627776) /\ 0 <= t /\ t <= 1099511627776 := by
 simp [RL.base,and_assoc]
def qaT (i : Int) (l : List Ent) : Prop := ∀ (k : Nat) (hk : k < l.length),l[k].i = i + 1 + k
theorem qfG {i : Int} {e : Ent} {l : List Ent} (h : qaT i (e :: l)) : e.i = i + 1 /\ qaT (i + 1) l :=
 ⟨by have h0 : e.i = i + 1 + ((0 : Nat) : Int) := h 0 (by simp); omega,fun k hk => by have h0 : l[k].i = i + 1 + ((k + 1 : Nat) : Int) := h (k + 1) (by simpa using hk); omega⟩
theorem qbX {l : List Ent} : ∀ {i : Int},qaT i l -> ∀ x : Int,(l.filter fun e => decide (x <= e.i)) = l.drop (x - i - 1).toNat := by
 induction l with
 | nil => intro i _ x; simp
 | cons e l ih =>
   intro i h x;obtain ⟨h1,h2⟩ := qfG h;have := ih h2 x
   by_cases hx : x <= e.i
   · rw [List.filter_cons_of_pos (by simpa using hx),this,show (x - (i + 1) - 1).toNat = 0 by omega,show (x - i - 1).toNat = 0 by omega]
     rfl
   · rw [List.filter_cons_of_neg (by simpa using hx),this,show (x - i - 1).toNat = (x - (i + 1) - 1).toNat + 1 by omega]
     rfl
theorem qiO {l : List Ent} {i : Int} (h : qaT i l) (x : Int) : (l.filter fun e => decide (x < e.i)) = l.drop (x - i).toNat := by
 have := qbX h (x + 1);rw [show x + 1 - i - 1 = x - i by omega] at this;rw [<- this]
 apply congrArg (fun p => List.filter p l)
 funext e
 apply decide_eq_decide.2
 omega
theorem filter_lt {l : List Ent} : ∀ {i : Int},qaT i l -> ∀ x : Int,(l.filter fun e => decide (e.i < x)) = l.take (x - i - 1).toNat := by
 induction l with
 | nil => intro i _ x; simp
 | cons e l ih =>
   intro i h x;obtain ⟨h1,h2⟩ := qfG h;have := ih h2 x
   by_cases hx : e.i < x
   · rw [List.filter_cons_of_pos (by simpa using hx),this,show (x - i - 1).toNat = (x - (i + 1) - 1).toNat + 1 by omega]
     rfl
   · rw [List.filter_cons_of_neg (by simpa using hx),this,show (x - (i + 1) - 1).toNat = 0 by omega,show (x - i - 1).toNat = 0 by omega]
     rfl
structure qk (r : RL) : Prop where
 base : RL.base r.i r.t = true
 run : runB r.i r.t r.l = true
section
variable {r : RL}
theorem qk.one (h : qk r) : qaT r.i r.l := fun k hk => qc5 h.run k hk
theorem qk.lim (h : qk r) : 0 <= r.i /\ r.i + r.l.length <= 1099511627776 := by
 have hb := (qcp _ _).1 h.base;rcases Nat.eq_zero_or_pos r.l.length with h0 | h0
 · rw [h0]; omega
 · have := qkL h.run h0;omega
theorem qk.lastI (h : qk r) : r.lastI = r.i + r.l.length := (run_end h.run).1
theorem qk.lastT (h : qk r) : 0 <= r.lastT := by
 have hb := (qcp _ _).1 h.base;have := (run_end h.run).2;rw [qiN];omega
def RL.place (r : RL) (x : Int) : Option Nat := if r.i < x /\ x <= r.i + r.l.length then some (x - r.i - 1).toNat else none
theorem qk.at_ (h : qk r) (x : Int) : r.at_ x = if x = r.i then some r.t else (r.place x).bind fun k => r.l[k]?.map Ent.t := by
 unfold RL.at_
 by_cases hx : x = r.i
 · rw [if_pos hx,if_pos hx]
 · rw [if_neg hx,if_neg hx];unfold RL.place
   by_cases hp : r.i < x /\ x <= r.i + r.l.length
   · rw [if_pos hp]
     have hk : (x - r.i - 1).toNat < r.l.length := by omega
     have hf := qiL (l := r.l) (x := x) (k := (x - r.i - 1).toNat) hk (fun j hj hjk => by rw [h.one j hj]; omega) (by rw [h.one _ hk]; omega);rw [hf];simp only [Option.bind_some,List.getElem?_eq_getElem hk,Option.map_some]
   · rw [if_neg hp];have hf := qiM (l := r.l) (x := x) (fun j hj => by rw [h.one j hj]; omega);rw [hf]
     rfl
theorem qk.at_some (h : qk r) {x t : Int} (hs : r.at_ x = some t) : r.i <= x /\ x <= r.i + r.l.length /\ endI r.i (r.l.take (x - r.i).toNat) = x /\ endT r.t (r.l.take (x - r.i).toNat) = t := by
 rw [h.at_] at hs
 by_cases hx : x = r.i
 · rw [if_pos hx] at hs;injection hs with hs;subst hx
   have e : (r.i - r.i).toNat = 0 := by omega
   rw [e,List.take_zero];exact ⟨by omega,by omega,rfl,hs⟩
 · rw [if_neg hx] at hs;unfold RL.place at hs
   by_cases hp : r.i < x /\ x <= r.i + r.l.length
   · rw [if_pos hp] at hs
     have hk : (x - r.i - 1).toNat < r.l.length := by omega
     have e : (x - r.i).toNat = (x - r.i - 1).toNat + 1 := by omega
     have hl : (r.l.take (x - r.i).toNat).getLast? = some r.l[(x - r.i - 1).toNat] := by
      rw [e,List.take_succ_eq_append_getElem hk,List.getLast?_append]
      rfl
     simp only [Option.bind_some,List.getElem?_eq_getElem hk,Option.map_some,Option.some.injEq] at hs;refine ⟨by omega,hp.2,?_,?_⟩
     · unfold endI;rw [hl];show r.l[(x - r.i - 1).toNat].i = x;rw [h.one _ hk];omega
     · unfold endT;rw [hl];exact hs
   · rw [if_neg hp] at hs;cases hs
theorem qk.term_lim (h : qk r) {x t : Int} (hs : r.at_ x = some t) : 0 <= t /\ t <= 1099511627776 := by
 have hb := (qcp _ _).1 h.base;rw [h.at_] at hs
 by_cases hx : x = r.i
 · rw [if_pos hx] at hs;injection hs with hs;omega
 · rw [if_neg hx] at hs;unfold RL.place at hs
   by_cases hp : r.i < x /\ x <= r.i + r.l.length
   · rw [if_pos hp] at hs
     have hk : (x - r.i - 1).toNat < r.l.length := by omega
     simp only [Option.bind_some,List.getElem?_eq_getElem hk,Option.map_some,Option.some.injEq] at hs;have := (qaj _ _ _).1 (qbw h.run _ (List.getElem_mem hk));omega
   · rw [if_neg hp] at hs;cases hs
def RL.sub (r : RL) (x : Int) (m : Nat) : List Ent := match r.place x with | none => [] | some k => (r.l.drop k).take m
theorem sub_zero (r : RL) (x : Int) : r.sub x 0 = [] := by
 unfold RL.sub
 cases r.place x <;> simp
theorem sub_none {x : Int} {m : Nat} (h : r.place x = none) : r.sub x m = [] := by
 unfold RL.sub;rw [h]
theorem qj6 {x : Int} {m k : Nat} (h : r.place x = some k) : r.sub x m = (r.l.drop k).take m := by
 unfold RL.sub;rw [h]
theorem qk.from_ (h : qk r) (x many : Int) : r.fromL x many = r.sub x many.toNat := by
 unfold RL.fromL RL.sub;have ha := h.at_ x
 by_cases hx : x = r.i
 · rw [if_pos (.inr hx)];unfold RL.place;rw [if_neg (by omega)]
 · rw [if_neg hx] at ha;unfold RL.place at ha ⊢
   by_cases hp : r.i < x /\ x <= r.i + r.l.length
   · rw [if_pos hp] at ha ⊢
     have hk : (x - r.i - 1).toNat < r.l.length := by omega
     simp only [Option.bind_some,List.getElem?_eq_getElem hk,Option.map_some] at ha;rw [if_neg (by rw [ha]; simp [hx]),qbX h.one]
   · rw [if_neg hp] at ha ⊢;rw [if_pos (.inl ha)]
def frel (r : RL) (s : Nat) : Prop := (r.f = 0 /\ s = r.l.length) \/ (1 <= r.f /\ r.f <= r.i + r.l.length /\ s = (r.f - r.i - 1).toNat)
theorem qkM {s : Nat} (h : frel r s) (hg : qk r) : s <= r.l.length := by
 have := hg.lim
 rcases h with h | h <;> omega
theorem qk.changed (h : qk r) {s : Nat} (hs : frel r s) : r.changed = r.l.drop s := by
 unfold RL.changed;rcases hs with ⟨h1,h2⟩ | ⟨h1,h2,h3⟩
 · rw [h1,h2,List.drop_length];simp
 · rw [h3,<- qbX h.one]
   apply congrArg (fun p => List.filter p r.l)
   funext e
   rw [decide_eq_true (by omega : 0 < r.f),Bool.true_and]
theorem qdP (r : RL) (x : Int) : (r.mark x).l = r.l /\ (r.mark x).i = r.i /\ (r.mark x).t = r.t := by
 unfold RL.mark
 split <;> exact ⟨rfl,rfl,rfl⟩
theorem qk.mark (h : qk r) (x : Int) : qk (r.mark x) := by
 obtain ⟨a,b,c⟩ := qdP r x;exact ⟨by rw [b,c]; exact h.base,by rw [a,b,c]; exact h.run⟩
def RL.more (r : RL) (e : Ent) : RL := (⟨r.i,r.t,r.l ++ [e],r.f⟩ : RL).mark (r.lastI + 1)
theorem qk.more (h : qk r) {e : Ent} (hr : runB r.lastI r.lastT [e] = true) : qk (r.more e) :=
 qk.mark (r := ⟨r.i,r.t,r.l ++ [e],r.f⟩) ⟨h.base,by
  show runB r.i r.t (r.l ++ [e]) = true;rw [qb7,h.run,Bool.true_and]
  exact hr⟩ _
theorem qiP (h : qk r) {s : Nat} (hs : frel r s) (e : Ent) : frel (r.more e) s := by
 have hl := h.lastI;have hlim := h.lim;unfold RL.more RL.mark;rcases hs with ⟨h1,h2⟩ | ⟨h1,h2,h3⟩
 · rw [if_pos (.inl h1)];refine .inr ⟨?_,?_,?_⟩
   · show 1 <= r.lastI + 1;omega
   · show r.lastI + 1 <= r.i + ((r.l ++ [e]).length : Nat);rw [List.length_append];simp only [List.length_singleton];omega
   · show s = (r.lastI + 1 - r.i - 1).toNat
     omega
 · rw [if_neg (by show ¬ (r.f = 0 \/ r.lastI + 1 < r.f); omega)];refine .inr ⟨h1,?_,h3⟩;show r.f <= r.i + ((r.l ++ [e]).length : Nat);rw [List.length_append];simp only [List.length_singleton];omega
def RL.cut (r : RL) (x t : Int) : RL := ⟨x,t,r.l.drop (x - r.i).toNat,r.f⟩
theorem qk.compact (h : qk r) {x t : Int} (hs : r.at_ x = some t) : r.compact x = some (r.cut x t) := by
 unfold RL.compact RL.cut;rw [hs,qiO h.one]
 rfl
theorem qk.cut (h : qk r) {x t : Int} (hs : r.at_ x = some t) : qk (r.cut x t) := by
 obtain ⟨h1,h2,h3,h4⟩ := h.at_some hs;have hl := h.lim;have ht := h.term_lim hs;have hr := (qbW h.run (x - r.i).toNat).2;rw [h3,h4] at hr;exact ⟨(qcp _ _).2 ⟨by show 0 <= x /\ x <= 1099511627776; omega,ht⟩,hr⟩
end
def RL.has (r : RL) (e : Ent) : Bool := decide (r.at_ e.i = some e.t)
def RL.known (r : RL) (more : List Ent) : Nat := (more.takeWhile r.has).length
theorem qiQ (r : RL) {more : List Ent} : ∀ j (hj : j < more.length),j < r.known more -> r.has more[j] = true := by
 unfold RL.known
 induction more with
 | nil => intro j hj; simp at hj
 | cons e l ih =>
   intro j hj hjk
   cases hh : r.has e with
   | false => rw [List.takeWhile_cons_of_neg (by rw [hh]; simp)] at hjk; simp at hjk
   | true =>
     rw [List.takeWhile_cons_of_pos hh,List.length_cons] at hjk
     cases j with
     | zero => simpa using hh
     | succ j =>
       have := ih j (by simpa using hj) (by omega)
       simpa using this
def RL.retry (r : RL) (x : Int) : Int := if x <= r.i then r.i else min (x - 1) r.lastI
def RL.swap (r : RL) (more : List Ent) : RL :=
 match more with
 | [] => r
 | e :: l => (⟨r.i,r.t,(r.l.filter fun y => decide (y.i < e.i)) ++ e :: l,r.f⟩ : RL).mark e.i
def RL.take (r : RL) (x t : Int) (more : List Ent) : RL × Int × Bool :=
 if runB x t more = true then
  (if r.at_ x = some t then (r.swap (more.drop (r.known more)),x + more.length,true) else (r,r.retry x,false))
 else (r,0,false)
def RL.keep (r : RL) (more : List Ent) : Nat := match more with | [] => r.l.length | e :: _ => (e.i - r.i - 1).toNat
structure Joins (r : RL) (more : List Ent) : Prop where
 h0 : 0 < more.length
 lo : r.i < more[0].i
 hi : more[0].i <= r.i + r.l.length + 1
 run : runB (endI r.i (r.l.take (more[0].i - r.i - 1).toNat)) (endT r.t (r.l.take (more[0].i - r.i - 1).toNat)) more = true
theorem qj7 (i t : Int) {l : List Ent} {k : Nat} (hk : k < l.length) : endI i (l.take (k + 1)) = l[k].i /\ endT t (l.take (k + 1)) = l[k].t := by
 have hl : (l.take (k + 1)).getLast? = some l[k] := by
  rw [List.take_succ_eq_append_getElem hk,List.getLast?_append]
  rfl
 unfold endI endT;rw [hl];exact ⟨rfl,rfl⟩
theorem qk.joins {r : RL} (h : qk r) {x t : Int} {more : List Ent} (hr : runB x t more = true) (ha : r.at_ x = some t) (hk : r.known more < more.length) : Joins r (more.drop (r.known more)) := by
 obtain ⟨a1,a2,a3,a4⟩ := h.at_some ha;have hidx := qc5 hr;have hl : (more.drop (r.known more)).length = more.length - r.known more := List.length_drop
 have h0 : 0 < (more.drop (r.known more)).length := by omega
 have he : (more.drop (r.known more))[0] = more[r.known more] := by simp
 have hi := hidx _ hk;have hsp := (qbW hr (r.known more)).2
 have hen : endI x (more.take (r.known more)) = x + r.known more := by
  have := (run_end (qbW hr (r.known more)).1).1;rw [this,List.length_take];omega
 by_cases hz : r.known more = 0
 · refine ⟨h0,by rw [he]; omega,by rw [he]; omega,?_⟩;simp only [he];rw [show more[r.known more].i - r.i - 1 = x - r.i by omega,a3,a4,show more.drop (r.known more) = more by rw [hz]; rfl];exact hr
 · have hh := qiQ r (more := more) (r.known more - 1) (by omega) (by omega);unfold RL.has at hh;have hh := of_decide_eq_true hh;obtain ⟨b1,b2,b3,b4⟩ := h.at_some hh;have hj := hidx (r.known more - 1) (by omega)
   have he2 : endT t (more.take (r.known more)) = more[r.known more - 1].t := by
    have e := (qj7 0 t (l := more) (k := r.known more - 1) (by omega)).2;rw [show r.known more - 1 + 1 = r.known more by omega] at e;exact e
   refine ⟨h0,by rw [he]; omega,by rw [he]; omega,?_⟩;simp only [he];rw [show more[r.known more].i - r.i - 1 = more[r.known more - 1].i - r.i by omega,b3,b4,hj];rw [hen,he2] at hsp;rw [show x + 1 + ((r.known more - 1 : Nat) : Int) = x + r.known more by omega];exact hsp
theorem qk7 {r : RL} (h : qk r) {more : List Ent} (j : Joins r more) : (r.swap more).l = r.l.take (r.keep more) ++ more /\ (r.swap more).i = r.i /\ (r.swap more).t = r.t := by
 match more,j with
 | [],j => exact absurd j.h0 (by simp)
 | e :: l,j =>
   unfold RL.swap RL.keep;obtain ⟨a,b,c⟩ := qdP (⟨r.i,r.t,(r.l.filter fun y => decide (y.i < e.i)) ++ e :: l,r.f⟩ : RL) e.i;refine ⟨?_,b,c⟩;rw [a];show (r.l.filter fun y => decide (y.i < e.i)) ++ e :: l = _;rw [filter_lt h.one]
theorem qkN {r : RL} {more : List Ent} (j : Joins r more) : r.keep more <= r.l.length /\ ((r.keep more : Nat) : Int) = (more[0]'j.h0).i - r.i - 1 := by
 match more,j with
 | [],j => exact absurd j.h0 (by simp)
 | e :: l,j =>
   have h1 := j.lo;have h2 := j.hi;unfold RL.keep;simp only [List.getElem_cons_zero] at *;omega
theorem qk.swap {r : RL} (h : qk r) {more : List Ent} (j : Joins r more) : qk (r.swap more) := by
 obtain ⟨a,b,c⟩ := qk7 h j;refine ⟨by rw [b,c]; exact h.base,?_⟩;rw [a,b,c,qb7,(qbW h.run _).1,Bool.true_and];have hj := j.run
 have e : r.keep more = ((more[0]'j.h0).i - r.i - 1).toNat := by
  have := (qkN j).2;omega
 rw [e];exact hj
theorem qk.take {r : RL} (h : qk r) (x t : Int) (more : List Ent) : qk (r.take x t more).1 := by
 unfold RL.take
 by_cases h1 : runB x t more = true
 · rw [if_pos h1]
   by_cases h2 : r.at_ x = some t
   · rw [if_pos h2]
     by_cases h3 : r.known more < more.length
     · exact h.swap (h.joins h1 h2 h3)
     · rw [List.drop_of_length_le (by omega)];exact h
   · rw [if_neg h2];exact h
 · rw [if_neg h1];exact h
end Go.Proofs.YtogbhedbgcmckaaGreat
set_option linter.unusedVariables false
set_option linter.unusedSimpArgs false
set_option maxRecDepth 100000
set_option maxHeartbeats 200000
namespace Go.Proofs.YtogbhedbgcmckaaGreat
open Go.RowKit
abbrev atV (o : Option Int) : Value := .tuple #[.int .i64 (o.getD 0), .bool o.isSome]
end Go.Proofs.YtogbhedbgcmckaaGreat
set_option linter.unusedVariables false
set_option linter.unusedSimpArgs false
set_option maxRecDepth 100000
set_option maxHeartbeats 200000
namespace Go.Proofs.YtogbhedbgcmckaaGreat
open Go.RowKit
theorem qax (xs ys : List Lay) : rowOf (xs ++ ys) = rowOf xs ++ rowOf ys := by simp [rowOf]
theorem qgQ {w : World} {g off : Nat} {xs : List Lay} (hc : ∀ j u,(rowOf xs)[j]? = some u -> w.cell? ((⟨g,off,none⟩ : Addr).add j) = some u) (k : Nat) (hk : k < xs.length) :
 w.cell? ⟨g,off + k * 3,none⟩ = some (.int .i64 xs[k].e.i) /\ w.cell? ⟨g,off + k * 3 + 1,none⟩ = some (.int .i64 xs[k].e.t) /\ w.cell? ⟨g,off + k * 3 + 2,none⟩ = some (.slice xs[k].A xs[k].e.d.length xs[k].c) := by
 have h : ∀ r (hr : r < 3),w.cell? ⟨g,off + (k * 3 + r),none⟩ = (cells3 xs[k])[r]? := fun r hr => by
  have e := qco xs k r hk hr
  have hl : r < (cells3 xs[k]).length := by simp [cells3]; omega
  rw [List.getElem?_eq_getElem hl] at e ⊢;have := hc _ _ e
  rwa [Addr.add_lit] at this
 exact ⟨h 0 (by omega),h 1 (by omega),h 2 (by omega)⟩
end Go.Proofs.YtogbhedbgcmckaaGreat
