/- A law's act as it is called with. (Written by mkargs.py.) -/
import Derived.Test.YtmiijlecfiddmaaGreatNNM03
import Derived.Test.YtmiijlecfiddmaaGreatNNM01
set_option linter.unusedVariables false
set_option linter.unusedSimpArgs false
set_option maxRecDepth 100000
set_option maxHeartbeats 2000000
namespace Go.Proofs.YtmiijlecfiddmaaGreat
open Go.ChangeShapes Go.WideShapes Go.ChangeAt Go.RowKit Go.Deep
abbrev actV (k : Int) (m : Msg) (A : Option Addr) (cA : Nat) (E : Option Addr) (cE : Nat) (D : Option Addr) (dn dc : Nat) (i : Int) : Value :=
 .agg #[.int .u8 k, .int .i64 m.k, .int .i64 m.f, .int .i64 m.o, .int .i64 m.t, .int .i64 m.i, .int .i64 m.l, .int .i64 m.c, .int .i64 m.x, .bool m.b, .slice A m.es.length cA, .int .i64 m.s.i, .int .i64 m.s.t, .slice E m.s.d.length cE, .slice D dn dc, .int .i64 i]
section
variable {H : Type} {enc : TypeId × Value → H} {P : Program} {W : World} {sp : Nat → Bool} {hd : Bool}
/-- A message within cells. -/
theorem qdw {fuel : Nat} {c0 c1 c2 c3 c4 c5 c6 c7 c8 c9 c10 c11 c12 : Value} {d : DataW H} {p : List MemPlace}
 (hdt : DataW.trod enc Tryz.prog W 0 sp hd fuel 27 [c0,c1,c2,c3,c4,c5,c6,c7,c8,c9,c10,c11,c12] = some (d,p)) (hlt : ∀ x ∈ p,x.block < W.heap.size) :
 ∃ (m : Msg) (A : Option Addr) (cA : Nat) (E : Option Addr) (cE : Nat),Value.agg #[c0,c1,c2,c3,c4,c5,c6,c7,c8,c9,c10,c11,c12] = msgV m A cA E cE /\ qh W (· < W.heap.size) m A cA E cE /\ ((∀ n ∈ d.weights Tryz.prog 27,n <= reachBytes) -> ∀ e ∈ m.es,e.d.length <= 140737488355328) := by
 obtain ⟨ys,m,_,hx,_,hyl,hf⟩ := DataW.trod_struct Tryz.underlying27 hdt
 have hys : ys.length = 11 := hyl
 have hD : d = .agg (ys.map (·.1)) := congrArg Prod.fst hx
 have hpl : p = ys.flatMap (·.2) := congrArg Prod.snd hx
 have hlty : ∀ (i : Nat) (hi : i < ys.length),∀ q ∈ (ys[i]).2,q.block < W.heap.size := fun i hi q hq => hlt q (by rw [hpl]; exact List.mem_flatMap.2 ⟨_,List.getElem_mem hi,hq⟩)
 have g0 : DataW.trod enc Tryz.prog W 0 sp hd m 3 (List.take (Tryz.prog.cellsOf 3) [c0,c1,c2,c3,c4,c5,c6,c7,c8,c9,c10,c11,c12]) = ys[0]? := hf 0 _ rfl
 rw [show Tryz.prog.cellsOf 3 = 1 by kernel_rfl,List.getElem?_eq_getElem (by omega)] at g0
 have g0 : DataW.trod enc Tryz.prog W 0 sp hd m 3 [c0] = some (ys[0]'(by omega)) := g0
 have g1 : DataW.trod enc Tryz.prog W 0 sp hd m 3 (List.take (Tryz.prog.cellsOf 3) [c1,c2,c3,c4,c5,c6,c7,c8,c9,c10,c11,c12]) = ys[1]? := hf 1 _ rfl
 rw [show Tryz.prog.cellsOf 3 = 1 by kernel_rfl,List.getElem?_eq_getElem (by omega)] at g1
 have g1 : DataW.trod enc Tryz.prog W 0 sp hd m 3 [c1] = some (ys[1]'(by omega)) := g1
 have g2 : DataW.trod enc Tryz.prog W 0 sp hd m 3 (List.take (Tryz.prog.cellsOf 3) [c2,c3,c4,c5,c6,c7,c8,c9,c10,c11,c12]) = ys[2]? := hf 2 _ rfl
 rw [show Tryz.prog.cellsOf 3 = 1 by kernel_rfl,List.getElem?_eq_getElem (by omega)] at g2
 have g2 : DataW.trod enc Tryz.prog W 0 sp hd m 3 [c2] = some (ys[2]'(by omega)) := g2
 have g3 : DataW.trod enc Tryz.prog W 0 sp hd m 2 (List.take (Tryz.prog.cellsOf 2) [c3,c4,c5,c6,c7,c8,c9,c10,c11,c12]) = ys[3]? := hf 3 _ rfl
 rw [show Tryz.prog.cellsOf 2 = 1 by kernel_rfl,List.getElem?_eq_getElem (by omega)] at g3
 have g3 : DataW.trod enc Tryz.prog W 0 sp hd m 2 [c3] = some (ys[3]'(by omega)) := g3
 have g4 : DataW.trod enc Tryz.prog W 0 sp hd m 2 (List.take (Tryz.prog.cellsOf 2) [c4,c5,c6,c7,c8,c9,c10,c11,c12]) = ys[4]? := hf 4 _ rfl
 rw [show Tryz.prog.cellsOf 2 = 1 by kernel_rfl,List.getElem?_eq_getElem (by omega)] at g4
 have g4 : DataW.trod enc Tryz.prog W 0 sp hd m 2 [c4] = some (ys[4]'(by omega)) := g4
 have g5 : DataW.trod enc Tryz.prog W 0 sp hd m 2 (List.take (Tryz.prog.cellsOf 2) [c5,c6,c7,c8,c9,c10,c11,c12]) = ys[5]? := hf 5 _ rfl
 rw [show Tryz.prog.cellsOf 2 = 1 by kernel_rfl,List.getElem?_eq_getElem (by omega)] at g5
 have g5 : DataW.trod enc Tryz.prog W 0 sp hd m 2 [c5] = some (ys[5]'(by omega)) := g5
 have g6 : DataW.trod enc Tryz.prog W 0 sp hd m 2 (List.take (Tryz.prog.cellsOf 2) [c6,c7,c8,c9,c10,c11,c12]) = ys[6]? := hf 6 _ rfl
 rw [show Tryz.prog.cellsOf 2 = 1 by kernel_rfl,List.getElem?_eq_getElem (by omega)] at g6
 have g6 : DataW.trod enc Tryz.prog W 0 sp hd m 2 [c6] = some (ys[6]'(by omega)) := g6
 have g7 : DataW.trod enc Tryz.prog W 0 sp hd m 2 (List.take (Tryz.prog.cellsOf 2) [c7,c8,c9,c10,c11,c12]) = ys[7]? := hf 7 _ rfl
 rw [show Tryz.prog.cellsOf 2 = 1 by kernel_rfl,List.getElem?_eq_getElem (by omega)] at g7
 have g7 : DataW.trod enc Tryz.prog W 0 sp hd m 2 [c7] = some (ys[7]'(by omega)) := g7
 have g8 : DataW.trod enc Tryz.prog W 0 sp hd m 4 (List.take (Tryz.prog.cellsOf 4) [c8,c9,c10,c11,c12]) = ys[8]? := hf 8 _ rfl
 rw [show Tryz.prog.cellsOf 4 = 1 by kernel_rfl,List.getElem?_eq_getElem (by omega)] at g8
 have g8 : DataW.trod enc Tryz.prog W 0 sp hd m 4 [c8] = some (ys[8]'(by omega)) := g8
 have g9 : DataW.trod enc Tryz.prog W 0 sp hd m 22 (List.take (Tryz.prog.cellsOf 22) [c9,c10,c11,c12]) = ys[9]? := hf 9 _ rfl
 rw [show Tryz.prog.cellsOf 22 = 1 by kernel_rfl,List.getElem?_eq_getElem (by omega)] at g9
 have g9 : DataW.trod enc Tryz.prog W 0 sp hd m 22 [c9] = some ((ys[9]'(by omega)).1,(ys[9]'(by omega)).2) := g9
 have g10 : DataW.trod enc Tryz.prog W 0 sp hd m 25 (List.take (Tryz.prog.cellsOf 25) [c10,c11,c12]) = ys[10]? := hf 10 _ rfl
 rw [show Tryz.prog.cellsOf 25 = 3 by kernel_rfl,List.getElem?_eq_getElem (by omega)] at g10
 have g10 : DataW.trod enc Tryz.prog W 0 sp hd m 25 [c10,c11,c12] = some (ys[10]'(by omega)) := g10
 obtain ⟨n0,e0,_,_⟩ := DataW.trod_int Tryz.underlying3 g0
 obtain ⟨n1,e1,_,_⟩ := DataW.trod_int Tryz.underlying3 g1
 obtain ⟨n2,e2,_,_⟩ := DataW.trod_int Tryz.underlying3 g2
 obtain ⟨n3,e3,_,_⟩ := DataW.trod_int Tryz.underlying2 g3
 obtain ⟨n4,e4,_,_⟩ := DataW.trod_int Tryz.underlying2 g4
 obtain ⟨n5,e5,_,_⟩ := DataW.trod_int Tryz.underlying2 g5
 obtain ⟨n6,e6,_,_⟩ := DataW.trod_int Tryz.underlying2 g6
 obtain ⟨n7,e7,_,_⟩ := DataW.trod_int Tryz.underlying2 g7
 obtain ⟨n8,e8,_⟩ := DataW.trod_bool Tryz.underlying4 g8
 obtain ⟨A,len,cA,ls,e9,hm9,hents,hw9⟩ := qdf g9 (hlty 9 (by omega))
 obtain ⟨m2,hf2⟩ := qak Tryz.underlying25 (by kernel_rfl) rfl g10 (hlty 10 (by omega))
 obtain ⟨v0,y0,b0,t0,_⟩ := hf2 0 _ rfl
 obtain ⟨v1,y1,b1,t1,_⟩ := hf2 1 _ rfl
 obtain ⟨v2,y2,b2,t2,p2⟩ := hf2 2 _ rfl
 obtain ⟨si,s0,_,_⟩ := DataW.trod_int Tryz.underlying2 t0
 obtain ⟨st,s1,_,_⟩ := DataW.trod_int Tryz.underlying2 t1
 obtain ⟨E,el,cE,r,s2,hc,hlies,hz⟩ := qaC Tryz.underlying23 Tryz.underlying5 (by kernel_rfl) t2 p2
 obtain rfl : r.length = el := hlies.1
 obtain rfl : ls.length = len := hents.1
 have q0 : c0 = .int .i64 n0 := by injection e0
 have q1 : c1 = .int .i64 n1 := by injection e1
 have q2 : c2 = .int .i64 n2 := by injection e2
 have q3 : c3 = .int .i64 n3 := by injection e3
 have q4 : c4 = .int .i64 n4 := by injection e4
 have q5 : c5 = .int .i64 n5 := by injection e5
 have q6 : c6 = .int .i64 n6 := by injection e6
 have q7 : c7 = .int .i64 n7 := by injection e7
 have q8 : c8 = .bool n8 := by injection e8
 have r0 : v0 = .int .i64 si := by injection s0
 have r1 : v1 = .int .i64 st := by injection s1
 have k0 : c10 = v0 := by have h : some c10 = some v0 := b0; injection h
 have k1 : c11 = v1 := by have h : some c11 = some v1 := b1; injection h
 have k2 : c12 = v2 := by have h : some c12 = some v2 := b2; injection h
 subst q0 q1 q2 q3 q4 q5 q6 q7 q8
 subst k0
 subst k1
 subst k2
 subst r0
 subst r1
 subst s2
 subst e9
 refine ⟨⟨n0,n1,n2,n3,n4,n5,n6,n7,n8,ls,⟨si,st,r⟩⟩,A,cA,E,cE,rfl,⟨hents,hm9,hlies,fun h0 g off e => hz h0 _ e⟩,fun hw => hw9 fun n hn => hw n ?_⟩
 rw [hD]
 simp only [DataW.weights,Tryz.underlying27]
 exact DataW.weights_mem_each (j := 9) (t := 22) (d := (ys[9]'(by omega)).1) rfl (by rw [List.getElem?_map,List.getElem?_eq_getElem (by omega)]; rfl) n hn
/-- An act. -/
theorem arg_act {base : Nat} {v : Value} {d : DataW H} {p : List MemPlace}
 (hok : Value.okWide Tryz.prog W .any base 29 v) (h : DataW.Trod enc Tryz.prog W 0 sp hd 29 v d p) (hlt : ∀ x ∈ p,x.block < W.heap.size) :
 ∃ (k : Int) (m : Msg) (A : Option Addr) (cA : Nat) (E : Option Addr) (cE : Nat) (D : Option Addr) (dn dc : Nat) (i : Int),v = actV k m A cA E cE D dn dc i /\ qh W (· < W.heap.size) m A cA E cE /\ dc <= maxLen /\ dn <= dc /\ ((∀ n ∈ d.weights Tryz.prog 29,n <= reachBytes) -> ∀ e ∈ m.es,e.d.length <= 140737488355328) := by
 obtain ⟨cs,rfl,hsz⟩ := okWide_struct Tryz.underlying29 hok
 rw [show Tryz.prog.cellsOf 29 = 16 by kernel_rfl] at hsz
 obtain ⟨fuel,hf0⟩ := h
 obtain ⟨c0,c1,c2,c3,c4,c5,c6,c7,c8,c9,c10,c11,c12,c13,c14,c15,hcs⟩ : ∃ c0 c1 c2 c3 c4 c5 c6 c7 c8 c9 c10 c11 c12 c13 c14 c15,cs = #[c0,c1,c2,c3,c4,c5,c6,c7,c8,c9,c10,c11,c12,c13,c14,c15] := by
  obtain ⟨l⟩ := cs
  have hlen : l.length = 16 := hsz
  rcases l with _ | ⟨a,_ | ⟨b,_ | ⟨c,_ | ⟨d,_ | ⟨e,_ | ⟨f,_ | ⟨g,_ | ⟨h,_ | ⟨i,_ | ⟨j,_ | ⟨k,_ | ⟨l,_ | ⟨m,_ | ⟨n,_ | ⟨o,_ | ⟨p,⟨_,_⟩⟩⟩⟩⟩⟩⟩⟩⟩⟩⟩⟩⟩⟩⟩⟩⟩ <;> simp at hlen
  exact ⟨a,b,c,d,e,f,g,h,i,j,k,l,m,n,o,p,rfl⟩
 subst hcs
 have hdt : DataW.trod enc Tryz.prog W 0 sp hd fuel 29 [c0,c1,c2,c3,c4,c5,c6,c7,c8,c9,c10,c11,c12,c13,c14,c15] = some (d,p) := by simpa [Value.cells] using hf0
 obtain ⟨ys,m,_,hx,_,hyl,hf⟩ := DataW.trod_struct Tryz.underlying29 hdt
 have hys : ys.length = 4 := hyl
 have hD : d = .agg (ys.map (·.1)) := congrArg Prod.fst hx
 have hpl : p = ys.flatMap (·.2) := congrArg Prod.snd hx
 have hlty : ∀ (i : Nat) (hi : i < ys.length),∀ q ∈ (ys[i]).2,q.block < W.heap.size := fun i hi q hq => hlt q (by rw [hpl]; exact List.mem_flatMap.2 ⟨_,List.getElem_mem hi,hq⟩)
 have g0 : DataW.trod enc Tryz.prog W 0 sp hd m 5 (List.take (Tryz.prog.cellsOf 5) [c0,c1,c2,c3,c4,c5,c6,c7,c8,c9,c10,c11,c12,c13,c14,c15]) = ys[0]? := hf 0 _ rfl
 rw [show Tryz.prog.cellsOf 5 = 1 by kernel_rfl,List.getElem?_eq_getElem (by omega)] at g0
 have g0 : DataW.trod enc Tryz.prog W 0 sp hd m 5 [c0] = some (ys[0]'(by omega)) := g0
 have g1 : DataW.trod enc Tryz.prog W 0 sp hd m 27 (List.take (Tryz.prog.cellsOf 27) [c1,c2,c3,c4,c5,c6,c7,c8,c9,c10,c11,c12,c13,c14,c15]) = ys[1]? := hf 1 _ rfl
 rw [show Tryz.prog.cellsOf 27 = 13 by kernel_rfl,List.getElem?_eq_getElem (by omega)] at g1
 have g1 : DataW.trod enc Tryz.prog W 0 sp hd m 27 [c1,c2,c3,c4,c5,c6,c7,c8,c9,c10,c11,c12,c13] = some ((ys[1]'(by omega)).1,(ys[1]'(by omega)).2) := g1
 have g2 : DataW.trod enc Tryz.prog W 0 sp hd m 23 (List.take (Tryz.prog.cellsOf 23) [c14,c15]) = ys[2]? := hf 2 _ rfl
 rw [show Tryz.prog.cellsOf 23 = 1 by kernel_rfl,List.getElem?_eq_getElem (by omega)] at g2
 have g2 : DataW.trod enc Tryz.prog W 0 sp hd m 23 [c14] = some ((ys[2]'(by omega)).1,(ys[2]'(by omega)).2) := g2
 have g3 : DataW.trod enc Tryz.prog W 0 sp hd m 2 (List.take (Tryz.prog.cellsOf 2) [c15]) = ys[3]? := hf 3 _ rfl
 rw [show Tryz.prog.cellsOf 2 = 1 by kernel_rfl,List.getElem?_eq_getElem (by omega)] at g3
 have g3 : DataW.trod enc Tryz.prog W 0 sp hd m 2 [c15] = some (ys[3]'(by omega)) := g3
 obtain ⟨n0,e0,_,_⟩ := DataW.trod_int Tryz.underlying5 g0
 obtain ⟨n3,e3,_,_⟩ := DataW.trod_int Tryz.underlying2 g3
 obtain ⟨mm,A,cA,E,cE,e1,hM,hw⟩ := qdw g1 (hlty 1 (by omega))
 obtain ⟨D,dn,dc,r,e2,hc,hlies,hz⟩ := qaC Tryz.underlying23 Tryz.underlying5 (by kernel_rfl) g2 (hlty 2 (by omega))
 have q0 : c0 = .int .u8 n0 := by injection e0
 have q3 : c15 = .int .i64 n3 := by injection e3
 subst q0 q3 e2
 have e1' := Array.mk.inj (Value.agg.inj e1)
 simp only [List.cons.injEq,and_true] at e1'
 obtain ⟨rfl,rfl,rfl,rfl,rfl,rfl,rfl,rfl,rfl,rfl,rfl,rfl,rfl⟩ := e1'
 refine ⟨n0,mm,A,cA,E,cE,D,dn,dc,n3,rfl,hM,hc,hlies.2.1,fun hw' => hw fun n hn => hw' n ?_⟩
 rw [hD]
 simp only [DataW.weights,Tryz.underlying29]
 exact DataW.weights_mem_each (j := 1) (t := 27) (d := (ys[1]'(by omega)).1) rfl (by rw [List.getElem?_map,List.getElem?_eq_getElem (by omega)]; rfl) n hn
end
end Go.Proofs.YtmiijlecfiddmaaGreat
set_option linter.unusedVariables false
set_option linter.unusedSimpArgs false
set_option maxRecDepth 100000
set_option maxHeartbeats 200000
namespace Go.Proofs.YtmiijlecfiddmaaGreat
structure RL where
 i : Int
 t : Int
 l : List Ent
 f : Int
namespace RL
def base (i t : Int) : Bool := decide (0 <= i) && (decide (i <= 1099511627776) && (decide (0 <= t) && decide (t <= 1099511627776)))
def lastI (r : RL) : Int := match r.l.getLast? with | none => r.i | some e => e.i
def lastT (r : RL) : Int := match r.l.getLast? with | none => r.t | some e => e.t
def at_ (r : RL) (x : Int) : Option Int := if x = r.i then some r.t else (r.l.find? fun e => decide (e.i = x)).map Ent.t
def newer (r : RL) (i t : Int) : Bool := decide (r.lastT < t) || (decide (t = r.lastT) && decide (r.lastI <= i))
def fromL (r : RL) (x many : Int) : List Ent := if r.at_ x = none \/ x = r.i then [] else (r.l.filter fun e => decide (x <= e.i)).take many.toNat
def changed (r : RL) : List Ent := r.l.filter fun e => decide (0 < r.f) && decide (r.f <= e.i)
def mark (r : RL) (x : Int) : RL := if r.f = 0 \/ x < r.f then { r with f := x } else r
def add (r : RL) (t : Int) (d : List UInt8) : Option RL :=
 if runB r.lastI r.lastT [⟨r.lastI + 1,t,d⟩] = true then some (({ r with l := r.l ++ [⟨r.lastI + 1,t,d⟩] } : RL).mark (r.lastI + 1)) else none
def compact (r : RL) (x : Int) : Option RL := (r.at_ x).map fun t => ⟨x,t,r.l.filter fun e => decide (x < e.i),r.f⟩
end RL
theorem qca {r : RL} (h : r.l = []) : r.lastI = r.i /\ r.lastT = r.t := by simp [RL.lastI,RL.lastT,h]
theorem qcb {r : RL} (h : 0 < r.l.length) : r.lastI = (r.l[r.l.length - 1]'(by omega)).i /\ r.lastT = (r.l[r.l.length - 1]'(by omega)).t := by
 have e : r.l.getLast? = some (r.l[r.l.length - 1]'(by omega)) := by rw [List.getLast?_eq_getElem?,List.getElem?_eq_getElem]
 simp [RL.lastI,RL.lastT,e]
theorem qcc {l : List Ent} {x : Int} {k : Nat} (hk : k < l.length) (h : ∀ j (hj : j < l.length),j < k -> l[j].i ≠ x) (he : l[k].i = x) : (l.find? fun e => decide (e.i = x)) = some l[k] := by
 have hs : l = l.take k ++ l[k] :: l.drop (k + 1) := by rw [<- List.drop_eq_getElem_cons hk,List.take_append_drop]
 have hn : ((l.take k).find? fun e => decide (e.i = x)) = none := by
  rw [List.find?_eq_none]
  intro e hmem
  obtain ⟨j,hj,rfl⟩ := List.getElem_of_mem hmem
  have hjk : j < k := by simp at hj; omega
  have := h j (by omega) hjk
  simpa [List.getElem_take] using this
 have hf : ((l.take k ++ l[k] :: l.drop (k + 1)).find? fun e => decide (e.i = x)) = some l[k] := by
  rw [List.find?_append,hn,List.find?_cons_of_pos (by simpa using he)]
  rfl
 rwa [<- hs] at hf
theorem qcd {l : List Ent} {x : Int} (h : ∀ j (hj : j < l.length),l[j].i ≠ x) : (l.find? fun e => decide (e.i = x)) = none := by
 rw [List.find?_eq_none]
 intro e hmem
 obtain ⟨j,hj,rfl⟩ := List.getElem_of_mem hmem
 simpa using h j hj
end Go.Proofs.YtmiijlecfiddmaaGreat
