/- A node that does something. -/
import Derived.Test.YtogbhedbgcmckaaGreatNNM33
import Derived.Test.YtogbhedbgcmckaaGreatNNM13
import Derived.SizedLaws
import Derived.Lib.SmallJoins
import Derived.Test.YtogbhedbgcmckaaGreatNNM23
import Derived.Test.YtogbhedbgcmckaaGreatNNM01
import Derived.Test.YtogbhedbgcmckaaGreatNNM25
import Derived.Test.YtogbhedbgcmckaaGreatNNM21
set_option linter.unusedVariables false
set_option linter.unusedSimpArgs false
set_option maxRecDepth 100000
set_option maxHeartbeats 3200000
namespace Go.Proofs.YtogbhedbgcmckaaGreat
open Go.RowKit Go.Shelf
attribute [local go_sem] Oper.semAt_some
def oneN : Nat -> Node
 | 0 => Node.fresh 0 1 0 (-1) Node.noEnt []
 | k + 1 => (oneN k).tick
theorem qba : ∀ k : Nat,k <= 5 -> oneN k = { Node.fresh 0 1 0 (-1) Node.noEnt [] with wk := (k : Int) }
 | 0,_ => rfl
 | k + 1,hk => by
   show (oneN k).tick = _;rw [qba k (by omega),qfX (by show ¬ (0 : Int) = 3; decide) (.inl (by show (k : Int) + 1 < 6 + 3 * ((0 : Nat) : Int); omega))]
   rfl
theorem qeB (a0 a1 a2 a3 a4 a5 a6 a7 a8 a9 : Value) (w : World) : (Instr.field 57 (.agg #[a0,a1,a2,a3,a4,a5,a6,a7,a8,a9]) 0).run Tryz.prog w = .ok a0 w := by kernel_rfl
theorem qjc (a0 a1 a2 a3 a4 a5 a6 a7 a8 a9 : Value) (w : World) : (Instr.field 57 (.agg #[a0,a1,a2,a3,a4,a5,a6,a7,a8,a9]) 4).run Tryz.prog w = .ok a5 w := by kernel_rfl
theorem qeC : qk (⟨0,0,[],0⟩ : RL) := ⟨rfl,rfl⟩
theorem qjd {w : World} {p : Nat} {Z : Nat -> Prop} {q : Ptrs} {s : Nat} {xs : List MLay} {K : Nat -> Prop} (k : Nat) (hk : k <= 5) (h : RfAt w p (oneN k) Z q s xs K) (hZ : ∀ b,Z b -> b < w.heap.size) :
 Calls Tryz.prog 21 #[ptrV p] w fun e w' => e = .returned (.tuple #[]) /\ Turned w w' p (oneN (k + 1)) Z q s := by
 show Calls _ _ _ _ fun e w' => _ /\ Turned w w' p (oneN k).tick Z q s
 have e := qba k hk;rw [e] at h ⊢
 exact qi6 h hZ (by show (0 : Nat) < 999990; decide) (by show (0 : Nat) <= 400000; decide) qeC ⟨by show 1 <= 3; decide,by show 0 < 1; decide⟩ (by show (0 : Nat) <= 50000; decide) (fun _ => ⟨rfl,rfl,rfl,rfl,rfl⟩) ⟨by show (0 : Int) <= 0; decide,by show (0 : Int) <= 2199023255552; decide⟩
  ⟨by show (0 : Int) <= (k : Int); omega,by show (k : Int) <= 2199023255552; omega⟩ (fun _ => ⟨by show (-4611686018427387904 : Int) <= 0; decide,by show (0 : Int) <= 4611686018427387904; decide⟩) (by show (0 : Int) <= 0; decide)
end Go.Proofs.YtogbhedbgcmckaaGreat
set_option linter.unusedVariables false
set_option linter.unusedSimpArgs false
set_option maxRecDepth 100000
set_option maxHeartbeats 200000
namespace Go.Proofs.YtogbhedbgcmckaaGreat
open Go.ChangeShapes Go.WideShapes Go.ChangeAt Go.RowKit Go.Deep
section
variable {H : Type} {enc : TypeId × Value → H} {P : Program} {W : World} {sp : Nat → Bool} {hd : Bool}
theorem qce {e : TypeId} {d : DataW H} {n : Nat} (hn : n ∈ d.weights P e) : ∀ {l : List (DataW H)},d ∈ l -> n ∈ DataW.weightsAll P e l
 | x :: l,h => by
   simp only [DataW.weightsAll,List.mem_append];rcases List.mem_cons.1 h with rfl | h
   · exact .inl hn
   · exact .inr (qce hn h)
theorem qf0 {t e : TypeId} {elems spare : List (DataW H)} {d : DataW H} {n : Nat} (ht : P.underlying t = some (.slice e)) (hd : d ∈ elems) (hn : n ∈ d.weights P e) : n ∈ (DataW.slice elems spare).weights P t := by
 simp only [DataW.weights,ht,List.mem_cons,List.mem_append];exact .inr (.inl (qce hn hd))
theorem qgD {A : Option Addr} {len cap m : Nat} {y : DataW H × List MemPlace} (hy : DataW.trod enc Tryz.prog W 0 sp hd m 23 [.slice A len cap] = some y) (hw : ∀ n ∈ y.1.weights Tryz.prog 23,n <= reachBytes) : len <= 140737488355328 := by
 rcases qeH (d := y.1) (p := y.2) ⟨m,by simpa [Value.cells] using hy⟩ with h | ⟨el,sr,e,hel⟩
 · omega
 · have := hw ((el.length + sr.length) * Tryz.prog.bytesOf 5) (by rw [e]; simp [DataW.weights,Tryz.underlying23]);rw [show Tryz.prog.bytesOf 5 = 1 by kernel_rfl] at this;simp only [reachBytes] at this;omega
def qlr (W : World) (C : List Value) (e : Ent) : Prop :=
 ∃ A c,C = [.int .i64 e.i, .int .i64 e.t, .slice A e.d.length c] /\ c <= maxLen /\ Lies W A e.d.length c e.d /\ (0 < e.d.length -> ∀ a,A = some a -> a.block < W.heap.size)
end
end Go.Proofs.YtogbhedbgcmckaaGreat
set_option linter.unusedVariables false
set_option linter.unusedSimpArgs false
set_option maxRecDepth 100000
set_option maxHeartbeats 200000
namespace Go.Proofs.YtogbhedbgcmckaaGreat
open Go.ChangeShapes Go.WideShapes Go.ChangeAt Go.RowKit Go.Deep
section
variable {H : Type} {enc : TypeId × Value → H} {P : Program} {W : World} {sp : Nat → Bool} {hd : Bool}
theorem qeQ {t e : TypeId} {C fuel : Nat} {v : Value} {d : DataW H} {p : List MemPlace} (ht : P.underlying t = some (.slice e)) (hC : P.cellsOf e = C) (h0 : 0 < C)
 (h : DataW.trod enc P W 0 sp hd fuel t [v] = some (d,p)) (hlt : ∀ x ∈ p,x.block < W.heap.size) :
 ∃ (A : Option Addr) (len cap n : Nat) (Cs : Nat -> List Value) (D : Nat -> DataW H),v = .slice A len cap /\ len <= cap /\ cap <= maxLen /\ (A = none -> cap = 0) /\ (d = .nil /\ len = 0 \/ ∃ rest,d = .slice ((List.range len).map D) rest) ∧
  (0 < len -> ∃ b off,A = some ⟨b,off,none⟩ /\ b < W.heap.size /\ ∀ j,j < len -> ∀ i u,(Cs j)[i]? = some u -> W.cell? ⟨b,off + j * C + i,none⟩ = some u) ∧
  ∀ j,j < len -> (Cs j).length = C /\ ∃ pl,DataW.trod enc P W 0 sp hd n e (Cs j) = some (D j,pl) /\ ∀ x ∈ pl,x.block < W.heap.size := by
 rcases open_slice ht h with ⟨hcs,hx⟩ | ⟨a,len,cap,m,n,D,Pl,hcs,hb,hl,hm,hmm,hx,hi⟩
 · simp at hcs;subst hcs;simp only [Prod.mk.injEq] at hx;exact ⟨none,0,0,0,fun _ => [],fun _ => .nil,rfl,Nat.le_refl _,Nat.zero_le _,fun _ => rfl, .inl ⟨hx.1,rfl⟩,fun h => absurd h (by omega),fun j hj => absurd hj (by omega)⟩
 · simp at hcs;subst hcs;simp only [Prod.mk.injEq] at hx
   have hlm : len <= m := by rw [hmm]; split <;> omega
   obtain ⟨Cs,hCs⟩ := Classical.axiomOfChoice (r := fun i cs' => i < m -> W.cells? 0 (a.add (i * P.cellsOf e)) (P.cellsOf e) = some cs' /\ DataW.trod enc P W 0 sp hd n e cs' = some (D i,Pl i)) (fun i => by
    by_cases him : i < m
    · obtain ⟨cs',h1,h2⟩ := hi i him;exact ⟨cs',fun _ => ⟨h1,h2⟩⟩
    · exact ⟨[],fun h => absurd h him⟩)
   rw [hC] at hCs;refine ⟨some a,len,cap,n,Cs,D,rfl,hl,hm,(fun h => by cases h), .inr ⟨_,hx.1⟩,fun hpos => ?_,fun j hj => ?_⟩
   · have hcell : ∀ j,j < len -> ∀ i u,(Cs j)[i]? = some u -> W.cell? (a.add (j * C + i)) = some u := fun j hj i u hu => by
      obtain ⟨hc,_⟩ := hCs j (by omega);obtain ⟨_,hcl,hat⟩ := World.cells?_some hc
      have hic : i < C := by
       rcases Nat.lt_or_ge i (Cs j).length with h1 | h1
       · omega
       · rw [List.getElem?_eq_none h1] at hu; cases hu
      have := hat i hic;rw [qkv] at this;rw [this,hu]
     obtain ⟨b,off,spot⟩ := a;obtain ⟨hc0,_⟩ := hCs 0 (by omega);obtain ⟨_,hcl0,_⟩ := World.cells?_some hc0;have g0 : (Cs 0)[0]? = some ((Cs 0)[0]'(by omega)) := List.getElem?_eq_getElem (by omega)
     have hspot : spot = none := by simpa [Addr.add] using World.cell?_spot (hcell 0 hpos 0 _ g0)
     subst hspot;refine ⟨b,off,rfl,?_,fun j hj i u hu => ?_⟩
     · have hin : MemPlace.cell b off ∈ p := by
        rw [hx.2];refine List.mem_append_left _ (MemPlace.mem_row.2 ⟨0,?_,by simp⟩);rw [hC]; exact Nat.mul_pos (by omega) h0
       exact hlt _ hin
     · have := hcell j hj i u hu;rw [qeZ,<- Nat.add_assoc] at this;exact this
   · obtain ⟨hc,hdt⟩ := hCs j (by omega);obtain ⟨_,hcl,_⟩ := World.cells?_some hc;exact ⟨hcl,Pl j,hdt,fun x hx' => hlt x (by rw [hx.2]; exact List.mem_append_right _ (List.mem_flatMap.2 ⟨j,by simp; omega,hx'⟩))⟩
/-- A slice of entries. -/
theorem qk2 {fuel : Nat} {v : Value} {d : DataW H} {p : List MemPlace}
 (h : DataW.trod enc Tryz.prog W 0 sp hd fuel 22 [v] = some (d,p)) (hlt : ∀ x ∈ p,x.block < W.heap.size) :
 ∃ (A : Option Addr) (len cap : Nat) (ls : List Ent),v = .slice A len cap /\ cap <= maxLen /\ Ents W (· < W.heap.size) A len cap ls /\ ((∀ n ∈ d.weights Tryz.prog 22,n <= reachBytes) -> ∀ e ∈ ls,e.d.length <= 140737488355328) := by
 obtain ⟨A,len,cap,n,Cs,D,rfl,hl,hm,hnone,hform,hrow,hel⟩ := qeQ Tryz.underlying22 (show Tryz.prog.cellsOf 117 = 3 by kernel_rfl) (by omega) h hlt
 obtain ⟨R,hR⟩ := Classical.axiomOfChoice (r := fun j (r : Ent) => j < len -> qlr W (Cs j) r /\ ((∀ n ∈ (D j).weights Tryz.prog 117,n <= reachBytes) -> r.d.length <= 140737488355328)) (fun j => by
  by_cases hj : j < len
  · obtain ⟨hlen,pl,hdt,hp⟩ := hel j hj;obtain ⟨ys,m,_,hx,_,hyl,hf⟩ := DataW.trod_struct Tryz.underlying117 hdt;have hys : ys.length = 3 := hyl;obtain ⟨m2,hfi⟩ := qcy (x := (D j,pl)) Tryz.underlying117 (by kernel_rfl) (by rw [hlen]; rfl) hdt hp;obtain ⟨v0,y0,g0,t0,_⟩ := hfi 0 _ rfl;obtain ⟨v1,y1,g1,t1,_⟩ := hfi 1 _ rfl;obtain ⟨v2,y2,g2,t2,p2⟩ := hfi 2 _ rfl;obtain ⟨i,e0,_,_⟩ := DataW.trod_int Tryz.underlying2 t0;obtain ⟨t,e1,_,_⟩ := DataW.trod_int Tryz.underlying2 t1;obtain ⟨E,el,c,r,rfl,hc,hlies,hz⟩ := qdm Tryz.underlying23 Tryz.underlying5 (by kernel_rfl) t2 p2;obtain rfl : r.length = el := hlies.1
    have e0' : v0 = .int .i64 i := by injection e0
    have e1' : v1 = .int .i64 t := by injection e1
    subst e0' e1'
    have hcs : Cs j = [.int .i64 i, .int .i64 t, .slice E r.length c] := by
     match Cs j,hlen,g0,g1,g2 with
     | [a,b',c'],_,g0,g1,g2 =>
       injection g0 with g0; injection g1 with g1; injection g2 with g2;subst g0 g1 g2
       rfl
    refine ⟨⟨i,t,r⟩,fun _ => ⟨⟨E,c,?_,hc,hlies,hz⟩,fun hw => ?_⟩⟩
    · exact hcs
    · have h2 : DataW.trod enc Tryz.prog W 0 sp hd m 23 (List.take (Tryz.prog.cellsOf 23) [.slice E r.length c]) = ys[2]? := by
       have := hf 2 _ rfl;rw [hcs] at this;exact this
      have hD : D j = .agg (ys.map (·.1)) := congrArg Prod.fst hx;rw [show Tryz.prog.cellsOf 23 = 1 by kernel_rfl] at h2
      have h2' : DataW.trod enc Tryz.prog W 0 sp hd m 23 [.slice E r.length c] = some (ys[2]'(by omega)) := by rw [<- List.getElem?_eq_getElem]; exact h2
      refine qgD h2' fun n hn => hw n ?_;rw [hD];simp only [DataW.weights,Tryz.underlying117];exact DataW.weights_mem_each (j := 2) (t := 23) (d := (ys[2]'(by omega)).1) rfl (by rw [List.getElem?_map,List.getElem?_eq_getElem (by omega)]; rfl) n hn
  · exact ⟨⟨0,0,[]⟩,fun h => absurd h hj⟩)
 refine ⟨A,len,cap,(List.range len).map R,rfl,hm,⟨by simp,hl,hnone,fun hpos => ?_⟩,fun hw e he => ?_⟩
 · obtain ⟨g,off,e,hg,hc⟩ := hrow hpos;refine ⟨g,off,e,hg,hg,fun j hj => ?_⟩
   have hj' : j < len := by simpa using hj
   obtain ⟨E,c,e1,e2,e3,e4⟩ := (hR j hj').1;simp only [List.getElem_map,List.getElem_range];refine ⟨E,c,?_,hc j hj' 1 _ (by rw [e1]; rfl),hc j hj' 2 _ (by rw [e1]; rfl),Nat.le_refl _,e3,fun h0 q o eq => e4 h0 _ eq⟩;have := hc j hj' 0 (.int .i64 (R j).i) (by rw [e1]; rfl)
   rwa [Nat.add_zero] at this
 · obtain ⟨j,hj,rfl⟩ := List.mem_map.1 he
   have hj' : j < len := by simpa using hj
   refine (hR j hj').2 fun n hn => hw n ?_;rcases hform with ⟨_,h0⟩ | ⟨rest,rfl⟩
   · omega
   · exact qf0 Tryz.underlying22 (List.mem_map.2 ⟨j,hj,rfl⟩) hn
end
end Go.Proofs.YtogbhedbgcmckaaGreat
set_option linter.unusedVariables false
set_option linter.unusedSimpArgs false
set_option maxRecDepth 100000
set_option maxHeartbeats 1000000
namespace Go.Proofs.YtogbhedbgcmckaaGreat
open Go.ChangeShapes Go.WideShapes Go.ChangeAt Go.RowKit Go.Deep
section
variable {H : Type} {enc : TypeId × Value → H} {P : Program} {W : World} {sp : Nat → Bool} {hd : Bool}
/-- A message within cells. -/
theorem qlg {fuel : Nat} {c0 c1 c2 c3 c4 c5 c6 c7 c8 c9 c10 c11 c12 : Value} {d : DataW H} {p : List MemPlace}
 (hdt : DataW.trod enc Tryz.prog W 0 sp hd fuel 27 [c0,c1,c2,c3,c4,c5,c6,c7,c8,c9,c10,c11,c12] = some (d,p)) (hlt : ∀ x ∈ p,x.block < W.heap.size) :
 ∃ (m : Msg) (A : Option Addr) (cA : Nat) (E : Option Addr) (cE : Nat),Value.agg #[c0,c1,c2,c3,c4,c5,c6,c7,c8,c9,c10,c11,c12] = msgV m A cA E cE /\ qC W (· < W.heap.size) m A cA E cE /\ ((∀ n ∈ d.weights Tryz.prog 27,n <= reachBytes) -> ∀ e ∈ m.es,e.d.length <= 140737488355328) := by
 obtain ⟨ys,m,_,hx,_,hyl,hf⟩ := DataW.trod_struct Tryz.underlying27 hdt;have hys : ys.length = 11 := hyl;have hD : d = .agg (ys.map (·.1)) := congrArg Prod.fst hx;have hpl : p = ys.flatMap (·.2) := congrArg Prod.snd hx;have hlty : ∀ (i : Nat) (hi : i < ys.length),∀ q ∈ (ys[i]).2,q.block < W.heap.size := fun i hi q hq => hlt q (by rw [hpl]; exact List.mem_flatMap.2 ⟨_,List.getElem_mem hi,hq⟩);have g0 : DataW.trod enc Tryz.prog W 0 sp hd m 3 (List.take (Tryz.prog.cellsOf 3) [c0,c1,c2,c3,c4,c5,c6,c7,c8,c9,c10,c11,c12]) = ys[0]? := hf 0 _ rfl;rw [show Tryz.prog.cellsOf 3 = 1 by kernel_rfl,List.getElem?_eq_getElem (by omega)] at g0;have g0 : DataW.trod enc Tryz.prog W 0 sp hd m 3 [c0] = some (ys[0]'(by omega)) := g0;have g1 : DataW.trod enc Tryz.prog W 0 sp hd m 3 (List.take (Tryz.prog.cellsOf 3) [c1,c2,c3,c4,c5,c6,c7,c8,c9,c10,c11,c12]) = ys[1]? := hf 1 _ rfl;rw [show Tryz.prog.cellsOf 3 = 1 by kernel_rfl,List.getElem?_eq_getElem (by omega)] at g1;have g1 : DataW.trod enc Tryz.prog W 0 sp hd m 3 [c1] = some (ys[1]'(by omega)) := g1;have g2 : DataW.trod enc Tryz.prog W 0 sp hd m 3 (List.take (Tryz.prog.cellsOf 3) [c2,c3,c4,c5,c6,c7,c8,c9,c10,c11,c12]) = ys[2]? := hf 2 _ rfl;rw [show Tryz.prog.cellsOf 3 = 1 by kernel_rfl,List.getElem?_eq_getElem (by omega)] at g2;have g2 : DataW.trod enc Tryz.prog W 0 sp hd m 3 [c2] = some (ys[2]'(by omega)) := g2;have g3 : DataW.trod enc Tryz.prog W 0 sp hd m 2 (List.take (Tryz.prog.cellsOf 2) [c3,c4,c5,c6,c7,c8,c9,c10,c11,c12]) = ys[3]? := hf 3 _ rfl;rw [show Tryz.prog.cellsOf 2 = 1 by kernel_rfl,List.getElem?_eq_getElem (by omega)] at g3;have g3 : DataW.trod enc Tryz.prog W 0 sp hd m 2 [c3] = some (ys[3]'(by omega)) := g3;have g4 : DataW.trod enc Tryz.prog W 0 sp hd m 2 (List.take (Tryz.prog.cellsOf 2) [c4,c5,c6,c7,c8,c9,c10,c11,c12]) = ys[4]? := hf 4 _ rfl;rw [show Tryz.prog.cellsOf 2 = 1 by kernel_rfl,List.getElem?_eq_getElem (by omega)] at g4;have g4 : DataW.trod enc Tryz.prog W 0 sp hd m 2 [c4] = some (ys[4]'(by omega)) := g4;have g5 : DataW.trod enc Tryz.prog W 0 sp hd m 2 (List.take (Tryz.prog.cellsOf 2) [c5,c6,c7,c8,c9,c10,c11,c12]) = ys[5]? := hf 5 _ rfl;rw [show Tryz.prog.cellsOf 2 = 1 by kernel_rfl,List.getElem?_eq_getElem (by omega)] at g5;have g5 : DataW.trod enc Tryz.prog W 0 sp hd m 2 [c5] = some (ys[5]'(by omega)) := g5;have g6 : DataW.trod enc Tryz.prog W 0 sp hd m 2 (List.take (Tryz.prog.cellsOf 2) [c6,c7,c8,c9,c10,c11,c12]) = ys[6]? := hf 6 _ rfl;rw [show Tryz.prog.cellsOf 2 = 1 by kernel_rfl,List.getElem?_eq_getElem (by omega)] at g6;have g6 : DataW.trod enc Tryz.prog W 0 sp hd m 2 [c6] = some (ys[6]'(by omega)) := g6;have g7 : DataW.trod enc Tryz.prog W 0 sp hd m 2 (List.take (Tryz.prog.cellsOf 2) [c7,c8,c9,c10,c11,c12]) = ys[7]? := hf 7 _ rfl;rw [show Tryz.prog.cellsOf 2 = 1 by kernel_rfl,List.getElem?_eq_getElem (by omega)] at g7;have g7 : DataW.trod enc Tryz.prog W 0 sp hd m 2 [c7] = some (ys[7]'(by omega)) := g7;have g8 : DataW.trod enc Tryz.prog W 0 sp hd m 4 (List.take (Tryz.prog.cellsOf 4) [c8,c9,c10,c11,c12]) = ys[8]? := hf 8 _ rfl;rw [show Tryz.prog.cellsOf 4 = 1 by kernel_rfl,List.getElem?_eq_getElem (by omega)] at g8;have g8 : DataW.trod enc Tryz.prog W 0 sp hd m 4 [c8] = some (ys[8]'(by omega)) := g8;have g9 : DataW.trod enc Tryz.prog W 0 sp hd m 22 (List.take (Tryz.prog.cellsOf 22) [c9,c10,c11,c12]) = ys[9]? := hf 9 _ rfl;rw [show Tryz.prog.cellsOf 22 = 1 by kernel_rfl,List.getElem?_eq_getElem (by omega)] at g9;have g9 : DataW.trod enc Tryz.prog W 0 sp hd m 22 [c9] = some ((ys[9]'(by omega)).1,(ys[9]'(by omega)).2) := g9;have g10 : DataW.trod enc Tryz.prog W 0 sp hd m 25 (List.take (Tryz.prog.cellsOf 25) [c10,c11,c12]) = ys[10]? := hf 10 _ rfl;rw [show Tryz.prog.cellsOf 25 = 3 by kernel_rfl,List.getElem?_eq_getElem (by omega)] at g10;have g10 : DataW.trod enc Tryz.prog W 0 sp hd m 25 [c10,c11,c12] = some (ys[10]'(by omega)) := g10;obtain ⟨n0,e0,_,_⟩ := DataW.trod_int Tryz.underlying3 g0;obtain ⟨n1,e1,_,_⟩ := DataW.trod_int Tryz.underlying3 g1;obtain ⟨n2,e2,_,_⟩ := DataW.trod_int Tryz.underlying3 g2;obtain ⟨n3,e3,_,_⟩ := DataW.trod_int Tryz.underlying2 g3;obtain ⟨n4,e4,_,_⟩ := DataW.trod_int Tryz.underlying2 g4;obtain ⟨n5,e5,_,_⟩ := DataW.trod_int Tryz.underlying2 g5;obtain ⟨n6,e6,_,_⟩ := DataW.trod_int Tryz.underlying2 g6;obtain ⟨n7,e7,_,_⟩ := DataW.trod_int Tryz.underlying2 g7;obtain ⟨n8,e8,_⟩ := DataW.trod_bool Tryz.underlying4 g8;obtain ⟨A,len,cA,ls,e9,hm9,hents,hw9⟩ := qk2 g9 (hlty 9 (by omega));obtain ⟨m2,hf2⟩ := qcy Tryz.underlying25 (by kernel_rfl) rfl g10 (hlty 10 (by omega));obtain ⟨v0,y0,b0,t0,_⟩ := hf2 0 _ rfl;obtain ⟨v1,y1,b1,t1,_⟩ := hf2 1 _ rfl;obtain ⟨v2,y2,b2,t2,p2⟩ := hf2 2 _ rfl;obtain ⟨si,s0,_,_⟩ := DataW.trod_int Tryz.underlying2 t0;obtain ⟨st,s1,_,_⟩ := DataW.trod_int Tryz.underlying2 t1;obtain ⟨E,el,cE,r,s2,hc,hlies,hz⟩ := qdm Tryz.underlying23 Tryz.underlying5 (by kernel_rfl) t2 p2;obtain rfl : r.length = el := hlies.1;obtain rfl : ls.length = len := hents.1
 have q0 : c0 = .int .i64 n0 := by injection e0
 have q1 : c1 = .int .i64 n1 := by injection e1
 have q2 : c2 = .int .i64 n2 := by injection e2
 have q3 : c3 = .int .i64 n3 := by injection e3
 have q4 : c4 = .int .i64 n4 := by injection e4
 have q5 : c5 = .int .i64 n5 := by injection e5
 have q6 : c6 = .int .i64 n6 := by injection e6
 have q7 : c7 = .int .i64 n7 := by injection e7
 have q8 : c8 = .bool n8 := by injection e8
 have r0 : v0 = .int .i64 si := by injection s0
 have r1 : v1 = .int .i64 st := by injection s1
 have k0 : c10 = v0 := by have h : some c10 = some v0 := b0; injection h
 have k1 : c11 = v1 := by have h : some c11 = some v1 := b1; injection h
 have k2 : c12 = v2 := by have h : some c12 = some v2 := b2; injection h
 subst q0 q1 q2 q3 q4 q5 q6 q7 q8;subst k0;subst k1;subst k2;subst r0;subst r1;subst s2;subst e9;refine ⟨⟨n0,n1,n2,n3,n4,n5,n6,n7,n8,ls,⟨si,st,r⟩⟩,A,cA,E,cE,rfl,⟨hents,hm9,hlies,fun h0 g off e => hz h0 _ e⟩,fun hw => hw9 fun n hn => hw n ?_⟩;rw [hD];simp only [DataW.weights,Tryz.underlying27];exact DataW.weights_mem_each (j := 9) (t := 22) (d := (ys[9]'(by omega)).1) rfl (by rw [List.getElem?_map,List.getElem?_eq_getElem (by omega)]; rfl) n hn
end
end Go.Proofs.YtogbhedbgcmckaaGreat
set_option linter.unusedVariables false
set_option linter.unusedSimpArgs false
set_option maxRecDepth 100000
set_option maxHeartbeats 200000
namespace Go.Proofs.YtogbhedbgcmckaaGreat
open Go.RowKit
attribute [local go_sem] Oper.semAt_some
def fewM (m : Msg) : Bool := fewE m.es 6 && decide (m.s.d.length <= 2000)
theorem qkm (m : Msg) (A : Option Addr) (cA : Nat) (E : Option Addr) (cE : Nat) (w : World) (Z : Nat -> Prop) (h : qC w Z m A cA E cE) (hd : ∀ e ∈ m.es,e.d.length <= 140737488355328) :
 Calls Tryz.prog 19 #[msgV m A cA E cE] w fun e w' => e = .returned (.bool (fewM m)) /\ Below w.heap.size w w' := by
 have hlen := h.len;obtain ⟨k,f,o,t,i,l,c,x,b,es,si,st,sd⟩ := m;obtain ⟨he,_,hs,_⟩ := h;unfold fewM;dsimp only [msgV] at *;have hb : Below w.heap.size w (w.alloc (.cells (mC k f o t i l c x b A es.length cA si st E sd.length cE) 27)) := blq.alloc nlq _;have hF := qjZ Z A es.length cA es 6 _ (he.below hb nlq) hlen (by omega) hd;have hsm := hs.2.1;generalize es.length = n at *;generalize sd.length = sn at *;generalize fewE es 6 = q at *;clear he hs hd hlen
 cases q with
 | false =>
   go_enter Tryz.func19,Tryz.ntmps19
   go_wp2_with fail
   refine hF.mono ?_;rintro e w1 ⟨rfl,rfl⟩;go_wp2;go_ret;exact ⟨rfl,hb⟩
 | true =>
   rw [Bool.true_and]
   go_enter Tryz.func19,Tryz.ntmps19
   go_wp2_with fail
   refine hF.mono ?_;rintro e w1 ⟨rfl,rfl⟩;go_wp2;go_ret;refine ⟨?_,hb⟩;show Ending.returned (.bool (decide ((sn : Int) <= 2000))) = _;rw [qe0 sn 2000 2000 rfl]
end Go.Proofs.YtogbhedbgcmckaaGreat
set_option linter.unusedVariables false
set_option linter.unusedSimpArgs false
set_option maxRecDepth 100000
set_option maxHeartbeats 200000
namespace Go.Proofs.YtogbhedbgcmckaaGreat
open Go.RowKit
theorem RfAt.wideN {w w' : World} {p : Nat} {N : Node} {Z : Nat -> Prop} {q : Ptrs} {s : Nat} {xs : List MLay} {K : Nat -> Prop} (h : RfAt w p N Z q s xs K) (hs : w.heap.size <= w'.heap.size) (hk : ∀ b,b < w.heap.size -> ¬ Z b -> w'.heap[b]? = w.heap[b]?) : RfAt w' p N (fun b => Z b \/ w.heap.size <= b) q s xs K :=
 (h.more (Y := fun b => w.heap.size <= b) (fun b hb => hb) blq).keep hs fun b hb hz => hk b hb fun e => hz (.inl e)
structure Mb (W w : World) (m p v j d : Nat) (N : Node) (D : Dsk) (was : Hd) (n ap : Int) (g : Bool) (Zv Zn : Nat -> Prop) (q : Ptrs) (s : Nat) (xs : List MLay) (K : Nat -> Prop) : Prop where
 row : w.heap[m]? = some (.cells #[ptrV p, .pointer (some ⟨v,0,none⟩), .int .i64 ap, .bool g] 70)
 vt : Vt w v j d D was n Zv
 rf : RfAt w p N Zn q s xs K
 fr : frel N.lg s
 zn : ∀ b,Zn b -> b < w.heap.size
 cov : ∀ b,b < w.heap.size -> Zn b \/ (Zv b /\ b ≠ j /\ b ≠ v)
 mv : Zv m /\ m ≠ j /\ m ≠ v
 mn : Zn m
 all : ∀ b,b < W.heap.size -> Zn b /\ Zv b /\ b ≠ j /\ b ≠ v /\ b ≠ m
 low : Below W.heap.size W w
section
variable {W w w' : World} {m p v j d : Nat} {N N' : Node} {D D' : Dsk} {was was' : Hd} {n n' ap ap' : Int} {g g' : Bool} {Zv Zn : Nat → Prop} {q q' : Ptrs} {s s' : Nat} {xs xs' : List MLay} {K K' : Nat → Prop}
theorem Mb.lt (h : Mb W w m p v j d N D was n ap g Zv Zn q s xs K) : m < w.heap.size := hlt h.row
theorem Vt.beside {Z : Nat -> Prop} (h : Vt w v j d D was n Z) (hs : w.heap.size <= w'.heap.size) (hv : w'.heap[v]? = w.heap[v]?) (hj : w'.heap[j]? = w.heap[j]?) (hb : ∀ k,k < w.heap.size -> ¬ Z k -> w'.heap[k]? = w.heap[k]?) : Vt w' v j d D was n (fun k => Z k \/ w.heap.size <= k /\ k < w'.heap.size) :=
 ⟨hv.trans h.box,⟨hj.trans h.lg.box,⟨h.lg.dk.dk.carry hs (fun k hk => hk.elim .inl fun e => .inr e.1) (fun k hk => hk.elim .inl fun e => .inr e.1) hb,h.lg.dk.good,fun k hk => hk.elim (fun e => Nat.lt_of_lt_of_le (h.lg.dk.old k e) hs) fun e => e.2⟩, .inl h.lg.own⟩, .inl h.own,h.ne⟩
theorem Mb.node (h : Mb W w m p v j d N D was n ap g Zv Zn q s xs K) (hr : RfAt w' p N' Zn q' s' xs' K') (hf : frel N'.lg s') (hk : qa Zn w w') : Mb W w' m p v j d N' D was n ap g (fun k => Zv k \/ w.heap.size <= k /\ k < w'.heap.size) Zn q' s' xs' K' := by
 have hs := hk.size;have hvl := h.vt.lt;have hjl := h.vt.lg.lt
 have hv : Zn v := (h.cov v hvl).elim id fun e => absurd rfl e.2.2
 have hj : Zn j := (h.cov j hjl).elim id fun e => absurd rfl e.2.1
 refine ⟨(hk.block m h.lt h.mn).trans h.row,h.vt.beside hs (hk.block v hvl hv) (hk.block j hjl hj) (fun k hkk hz => hk.block k hkk ((h.cov k hkk).elim id fun e => absurd e.1 hz)),hr,hf,fun b hb => Nat.lt_of_lt_of_le (h.zn b hb) hs,fun b hb => ?_,⟨.inl h.mv.1,h.mv.2⟩,h.mn,fun b hb => ⟨(h.all b hb).1, .inl (h.all b hb).2.1,(h.all b hb).2.2⟩,qab h.low hk (fun b hb => (h.all b hb).1) h.low.size⟩
 by_cases hbw : b < w.heap.size
 · exact (h.cov b hbw).elim .inl fun e => .inr ⟨.inl e.1,e.2⟩
 · exact .inr ⟨.inr ⟨by omega,hb⟩,by omega,by omega⟩
theorem Mb.vault (h : Mb W w m p v j d N D was n ap g Zv Zn q s xs K) (hd : VDid w w' v j d D' was' n' Zv) : Mb W w' m p v j d N D' was' n' ap g Zv (fun k => Zn k \/ w.heap.size <= k /\ k < w'.heap.size) q s xs K := by
 have hk := hd.2;have hs := hk.size;have hm := h.lt;refine ⟨(hk.block m hm h.mv).trans h.row,hd.1,(h.rf.wideN hs fun b hb hz => hk.block b hb ((h.cov b hb).elim (fun e => absurd e hz) id)).less fun b hb => hb.elim .inl fun e => .inr e.1,h.fr,fun b hb => hb.elim (fun e => Nat.lt_of_lt_of_le (h.zn b e) hs) fun e => e.2,fun b hb => ?_,h.mv, .inl h.mn,fun b hb => ⟨.inl (h.all b hb).1,(h.all b hb).2⟩,qab h.low hk (fun b hb => ⟨(h.all b hb).2.1,(h.all b hb).2.2.1,(h.all b hb).2.2.2.1⟩) h.low.size⟩
 by_cases hbw : b < w.heap.size
 · exact (h.cov b hbw).elim (fun e => .inl (.inl e)) .inr
 · exact .inl (.inr ⟨by omega,hb⟩)
theorem Mb.disk (h : Mb W w m p v j d N D was n ap g Zv Zn q s xs K) (hd : Did w w' d D' Zv) : Mb W w' m p v j d N D' was n ap g Zv (fun k => Zn k \/ w.heap.size <= k /\ k < w'.heap.size) q s xs K :=
 h.vault ⟨h.vt.did hd,hd.2.mono fun k hk => hk.1⟩
theorem Mb.below (h : Mb W w m p v j d N D was n ap g Zv Zn q s xs K) (hb : Below w.heap.size w w') : Mb W w' m p v j d N D was n ap g (fun k => Zv k \/ w.heap.size <= k /\ k < w'.heap.size) (fun k => Zn k \/ w.heap.size <= k /\ k < w'.heap.size) q s xs K := by
 have hr : RfAt w' p N (fun k => Zn k \/ w.heap.size <= k /\ k < w'.heap.size) q s xs K := (h.rf.more (Y := fun k => w.heap.size <= k) (fun k hk => hk) hb).less fun k hk => hk.elim .inl fun e => .inr e.1
 have h1 := h.node (h.rf.below hb) h.fr (qb hb nlq)
 exact { h1 with
  rf := hr
  zn := fun k hk => hk.elim (fun e => Nat.lt_of_lt_of_le (h.zn k e) hb.size) fun e => e.2
  cov := fun k hk => (h1.cov k hk).elim (fun e => .inl (.inl e)) .inr
  mn := .inl h.mn
  all := fun k hk => ⟨.inl (h.all k hk).1,(h1.all k hk).2⟩ }
theorem Mb.c (h : Mb W w m p v j d N D was n ap g Zv Zn q s xs K) : w.cell? ⟨m,0,none⟩ = some (ptrV p) /\ w.cell? ⟨m,1,none⟩ = some (.pointer (some ⟨v,0,none⟩)) /\ w.cell? ⟨m,2,none⟩ = some (.int .i64 ap) /\ w.cell? ⟨m,3,none⟩ = some (.bool g) := (row4 h.row).1
theorem Mb.own (h : Mb W w m p v j d N D was n ap g Zv Zn q s xs K) (hs : w'.heap.size = w.heap.size) (ht : w'.tape = w.tape) (ho : w'.os = w.os) (hu : w'.output = w.output) (hk : ∀ k,k ≠ m -> w'.heap[k]? = w.heap[k]?)
 (hr : w'.heap[m]? = some (.cells #[ptrV p, .pointer (some ⟨v,0,none⟩), .int .i64 ap', .bool g'] 70)) : Mb W w' m p v j d N D was n ap' g' Zv Zn q s xs K := by
 have hmv : v ≠ m := fun e => h.mv.2.2 e.symm
 have hmj : j ≠ m := fun e => h.mv.2.1 e.symm
 refine ⟨hr,?_,h.rf.keep (by omega) fun b hb hz => hk b fun e => hz (e ▸ h.mn),h.fr,fun b hb => by rw [hs]; exact h.zn b hb,fun b hb => h.cov b (by omega),h.mv,h.mn,h.all,?_⟩
 · exact ⟨(hk v hmv).trans h.vt.box,⟨(hk j hmj).trans h.vt.lg.box,h.vt.lg.dk.keep (by omega) fun k _ hz => hk k fun e => hz (e ▸ h.mv.1),h.vt.lg.own⟩,h.vt.own,h.vt.ne⟩
 · exact ⟨ho.trans h.low.os,ht.trans h.low.tape,hu.trans h.low.output,by have := h.low.size; omega,fun b hb => (hk b (h.all b hb).2.2.2.2).trans (h.low.block b hb)⟩
end
end Go.Proofs.YtogbhedbgcmckaaGreat
set_option linter.unusedVariables false
set_option linter.unusedSimpArgs false
set_option maxRecDepth 100000
set_option maxHeartbeats 200000
namespace Go.Proofs.YtogbhedbgcmckaaGreat
open Go.RowKit
end Go.Proofs.YtogbhedbgcmckaaGreat
set_option linter.unusedVariables false
set_option linter.unusedSimpArgs false
set_option maxRecDepth 100000
set_option maxHeartbeats 3200000
namespace Go.Proofs.YtogbhedbgcmckaaGreat
open Go.RowKit
structure OnM (m : Nat) (C : Array Value) (w w' : World) : Prop where
 row : w'.heap[m]? = some (.cells C 70)
 size : w'.heap.size = w.heap.size
 off : ∀ b,b ≠ m -> w'.heap[b]? = w.heap[b]?
 os : w'.os = w.os
 tape : w'.tape = w.tape
 output : w'.output = w.output
theorem OnM.put {m : Nat} {C C' : Array Value} {w w' : World} (h : OnM m C w w') (j : Nat) (v : Value) (e : C.setIfInBounds j v = C') : OnM m C' w (w'.setCell ⟨m,j,none⟩ v) :=
 ⟨by rw [<- e]; exact setCell_at w' ⟨m,j,none⟩ v _ _ _ rfl h.row,by simp [h.size],fun b hb => (Below.heap_setCell _ _ _ _ (by exact hb)).trans (h.off b hb),h.os,h.tape,h.output⟩
theorem qa6 (w : World) : Calls Tryz.prog 20 #[.pointer none] w fun e w' => e = .returned (.int .i64 1) /\ w' = w := by
 go_enter Tryz.func20,Tryz.ntmps20
 go_wp2;go_ret;exact ⟨rfl,rfl⟩
theorem qb8 {w : World} {m : Nat} {a0 a1 a2 : Value} {T : TypeId} (h : w.heap[m]? = some (.cells #[a0,a1,a2, .bool true] T)) : Calls Tryz.prog 20 #[.pointer (some ⟨m,0,none⟩)] w fun e w' => e = .returned (.int .i64 5) /\ w' = w := by
 have c3 := qe h 3 _ rfl
 go_enter Tryz.func20,Tryz.ntmps20
 go_wp2;go_ret;exact ⟨rfl,rfl⟩
theorem qje {w : World} {m : Nat} {a0 a1 a2 : Value} {T : TypeId} (h : w.heap[m]? = some (.cells #[a0,a1,a2, .bool false] T)) : Calls Tryz.prog 20 #[.pointer (some ⟨m,0,none⟩)] w fun e w' => e = .returned (.int .i64 0) /\ w' = w := by
 have c3 := qe h 3 _ rfl
 go_enter Tryz.func20,Tryz.ntmps20
 go_wp2;go_ret;exact ⟨rfl,rfl⟩
theorem qjf {w : World} {m : Nat} {a0 a1 a2 a3 : Value} (h : w.heap[m]? = some (.cells #[a0,a1,a2,a3] 70)) : Calls Tryz.prog 30 #[.pointer (some ⟨m,0,none⟩), .int .i64 0] w fun e w' => e = .returned (.int .i64 0) /\ OnM m #[a0,a1,a2, .bool false] w w' := by
 have f3 := qf h 3;have c3 := qe h 3 _ rfl;have hO : OnM m #[a0,a1,a2,a3] w w := ⟨h,rfl,fun _ _ => rfl,rfl,rfl,rfl⟩
 go_enter Tryz.func30,Tryz.ntmps30
 go_wp2;go_ret;exact ⟨rfl,hO.put 3 _ rfl⟩
theorem qjg {w : World} {m : Nat} {a0 a1 a2 a3 : Value} (h : w.heap[m]? = some (.cells #[a0,a1,a2,a3] 70)) (c : Int) (hc : c ≠ 0) : Calls Tryz.prog 30 #[.pointer (some ⟨m,0,none⟩), .int .i64 c] w fun e w' => e = .returned (.int .i64 c) /\ OnM m #[a0,a1,a2, .bool true] w w' := by
 have f3 := qf h 3;have c3 := qe h 3 _ rfl
 have hc1 : (c != 0) = true := by simpa using hc
 have hc2 : (c = 0) = False := eq_false hc;have hO : OnM m #[a0,a1,a2,a3] w w := ⟨h,rfl,fun _ _ => rfl,rfl,rfl,rfl⟩;clear hc
 go_enter Tryz.func30,Tryz.ntmps30
 go_wp2;go_ret;exact ⟨rfl,hO.put 3 _ rfl⟩
abbrev Beside (Zv Zn : Nat -> Prop) (j v m : Nat) (k : Nat) : Prop := (Zv k /\ k ≠ j /\ k ≠ v) /\ Zn k /\ k ≠ m
section
variable {W w : World} {m p v j d : Nat} {N : Node} {D : Dsk} {was : Hd} {n ap : Int} {g : Bool} {Zv Zn : Nat → Prop} {q : Ptrs} {s : Nat} {xs : List MLay} {K : Nat → Prop}
def qls (W w w' : World) (m p v j d : Nat) (N : Node) (D : Dsk) (was hd : Hd) (l : List Ent) (n ap : Int) (g : Bool) (Zv Zn : Nat -> Prop) (q : Ptrs) (s : Nat) (xs : List MLay) (K : Nat -> Prop) (e : Ending) : Prop :=
 e = .returned (.int .i64 (((D.saveV was hd l).1.2 : Nat) : Int)) /\ ∃ n' Zv' Zn',0 <= n' /\ n' <= n + (l.length : Int) + 1 /\ Mb W w' m p v j d N (D.saveV was hd l).1.1 (D.saveV was hd l).2 n' ap g Zv' Zn' q s xs K ∧
  (∀ k,Zv k -> Zv' k) /\ (∀ k,Zn k -> Zn' k) /\ qa (fun k => Zv k /\ k ≠ j /\ k ≠ v) w w'
theorem qjh (h : Mb W w m p v j d N D was n ap g Zv Zn q s xs K) (hd : Hd) (Y : Nat -> Prop) (FA : Option Addr) (len fc : Nat) (l : List Ent) (hE : Ents w Y FA len fc l) (hl : len <= 20000) (hn : 0 <= n /\ n <= 900000000) (x4 : Int) (EA : Option Addr) (el ec : Nat) (MA : Option Addr) (ml mc : Nat) (TA : Option Addr) (tl tc : Nat) :
 Calls Tryz.prog 44 #[.pointer (some ⟨m,0,none⟩), .agg #[.int .i64 hd.t, .int .i64 hd.v, .slice FA len fc, .int .i64 0, .int .i64 x4, .slice EA el ec, .slice MA ml mc, .slice TA tl tc]] w
  fun e w' => qls W w w' m p v j d N D was hd l n ap g Zv Zn q s xs K e := by
 obtain ⟨W1,hW1⟩ := exq (w.alloc (.cells #[.int .i64 hd.t, .int .i64 hd.v, .slice FA len fc, .int .i64 0, .int .i64 x4, .slice EA el ec, .slice MA ml mc, .slice TA tl tc] 110))
 have hb1 : Below w.heap.size w W1 := by rw [<- hW1]; exact blq.alloc nlq _
 have hr1 : W1.heap[w.heap.size]? = some (.cells #[.int .i64 hd.t, .int .i64 hd.v, .slice FA len fc, .int .i64 0, .int .i64 x4, .slice EA el ec, .slice MA ml mc, .slice TA tl tc] 110) := by rw [<- hW1]; exact heap_alloc_new w _
 have h1 := h.below hb1;have hll := hE.1
 have hS := fun X (hX : ∃ i,X = W1.drewN i) => qiA X v j d D was n _ (by obtain ⟨i,rfl⟩ := hX; exact h1.vt.below (below_drewN blq i)) hd Y FA len fc l (by obtain ⟨i,rfl⟩ := hX; exact hE.below (below_drewN hb1 i) nlq) hl hn
 obtain ⟨x0,x1,x2,x3,_⟩ := (row8 hr1).1;have c1 := h1.c.2.1;have HH := hdq3 h1 hb1 hW1;have HS := Lib.hid hS;have HL := Lib.hid hll;have HP := hdq3 h.vt.lg.lt h.vt.lt h.vt.lg.dk.old;clear h h1 hE hS hb1 hr1 hll hW1
 go_enter Tryz.func44,Tryz.ntmps44
 go_upto_region 1 with fail
 rw [HH.out.2.2]
 go_upto_region 2 with fail
 refine wp_region_held_drew (S := (fun w' => w'.cell? ⟨m,1,none⟩ = some (.pointer (some ⟨v,0,none⟩)) /\ w'.cell? ⟨w.heap.size,0,none⟩ = some (.int .i64 hd.t) /\ w'.cell? ⟨w.heap.size,1,none⟩ = some (.int .i64 hd.v) /\ w'.cell? ⟨w.heap.size,2,none⟩ = some (.slice FA len fc))) (by kernel_rfl) ⟨c1,x0,x1,x2⟩ (fun hHeld => ?_);refine lsq 10 ?_;refine tkq 0 ?_;refine tkq 1 ?_;refine tkq 2 ?_;refine tkq 3 ?_;refine tkq 4 ?_;refine tkq 5 ?_;refine tkq 6 ?_;refine tkq 7 ?_;refine rdq1 8 fun KK hK => ?_;go_simp;refine (HS.out _ ⟨1,rfl⟩).mono ?_;rintro e w2 ⟨rfl,n',hn1,hn2,hV⟩;have hk2 : qa (fun k => (Zv k \/ w.heap.size <= k /\ k < W1.heap.size) /\ k ≠ j /\ k ≠ v) W1 w2 := ⟨hV.2.os,hV.2.tape,hV.2.output,hV.2.size,hV.2.block⟩;obtain ⟨h1,hb1,hW1⟩ := HH.out
 have hsz : w.heap.size < W1.heap.size := by rw [<- hW1]; simp
 have hB : (Zv w.heap.size \/ w.heap.size <= w.heap.size /\ w.heap.size < W1.heap.size) /\ w.heap.size ≠ j /\ w.heap.size ≠ v := ⟨.inr ⟨nlq,hsz⟩,fun e => by have := HP.out.1; omega,fun e => by have := HP.out.2.1; omega⟩;refine hK.out _ _ ⟨hk2.cell hHeld.1 h1.mv,hk2.cell hHeld.2.1 hB,hk2.cell hHeld.2.2.1 hB,hk2.cell hHeld.2.2.2 hB⟩ ?_;clear hK KK hHeld;intro hHeld
 try simp only [lpq]
 refine tkq 9 ?_;refine dnq ?_;have hM := h1.vault (w' := w2) ⟨hV.1,hk2⟩;have hkk : qa (fun k => Zv k /\ k ≠ j /\ k ≠ v) w w2 := (qb hb1 nlq).trans (hk2.mono fun k hk => ⟨.inl hk.1,hk.2⟩);clear h1 hb1 hW1 hsz hB hk2 hV hHeld;go_wp2;go_ret;exact ⟨rfl,n',_,_,hn1,hn2,hM,fun k hk => .inl hk,fun k hk => .inl (.inl hk),hkk⟩
end
end Go.Proofs.YtogbhedbgcmckaaGreat
