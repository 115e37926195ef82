/- A law's acts of a vault: what it is called with. (Written by mkplay.py.) -/
import Derived.Test.YtmeoooojmhhahaaGreatTVauActs
import Derived.Test.YtmeoooojmhhahaaGreatTVauM
set_option linter.unusedVariables false
set_option linter.unusedSimpArgs false
set_option maxRecDepth 100000
set_option maxHeartbeats 1000000
namespace Go.Proofs.YtmeoooojmhhahaaGreat
open Go.ChangeShapes Go.WideShapes Go.ChangeAt Go.RowKit Go.Deep
section
variable {H : Type} {enc : TypeId × Value → H} {P : Program} {W : World} {sp : Nat → Bool} {hd : Bool}
theorem qgO {t e : TypeId} {C fuel : Nat} {v : Value} {d : DataW H} {p : List MemPlace} (ht : P.underlying t = some (.slice e)) (hC : P.cellsOf e = C) (h0 : 0 < C)
 (h : DataW.trod enc P W 0 sp hd fuel t [v] = some (d,p)) (hlt : ∀ x ∈ p,x.block < W.heap.size) :
 ∃ (A : Option Addr) (len cap n : Nat) (Cs : Nat -> List Value) (D : Nat -> DataW H),v = .slice A len cap /\ len <= cap /\ cap <= maxLen /\ (A = none -> cap = 0) /\ (d = .nil /\ len = 0 \/ ∃ rest,d = .slice ((List.range len).map D) rest) ∧
  (0 < len -> ∃ b off,A = some ⟨b,off,none⟩ /\ b < W.heap.size /\ ∀ j,j < len -> ∀ i u,(Cs j)[i]? = some u -> W.cell? ⟨b,off + j * C + i,none⟩ = some u) ∧
  ∀ j,j < len -> (Cs j).length = C /\ ∃ pl,DataW.trod enc P W 0 sp hd n e (Cs j) = some (D j,pl) /\ ∀ x ∈ pl,x.block < W.heap.size := by
 rcases open_slice ht h with ⟨hcs,hx⟩ | ⟨a,len,cap,m,n,D,Pl,hcs,hb,hl,hm,hmm,hx,hi⟩
 · simp at hcs
   subst hcs
   simp only [Prod.mk.injEq] at hx
   exact ⟨none,0,0,0,fun _ => [],fun _ => .nil,rfl,nlq,Nat.zero_le _,fun _ => rfl, .inl ⟨hx.1,rfl⟩,fun h => absurd h (by omega),fun j hj => absurd hj (by omega)⟩
 · simp at hcs
   subst hcs
   simp only [Prod.mk.injEq] at hx
   have hlm : len <= m := by rw [hmm]; split <;> omega
   obtain ⟨Cs,hCs⟩ := Classical.axiomOfChoice (r := fun i cs' => i < m -> W.cells? 0 (a.add (i * P.cellsOf e)) (P.cellsOf e) = some cs' /\ DataW.trod enc P W 0 sp hd n e cs' = some (D i,Pl i)) (fun i => by
    by_cases him : i < m
    · obtain ⟨cs',h1,h2⟩ := hi i him
      exact ⟨cs',fun _ => ⟨h1,h2⟩⟩
    · exact ⟨[],fun h => absurd h him⟩)
   rw [hC] at hCs
   refine ⟨some a,len,cap,n,Cs,D,rfl,hl,hm,(fun h => by cases h), .inr ⟨_,hx.1⟩,fun hpos => ?_,fun j hj => ?_⟩
   · have hcell : ∀ j,j < len -> ∀ i u,(Cs j)[i]? = some u -> W.cell? (a.add (j * C + i)) = some u := fun j hj i u hu => by
      obtain ⟨hc,_⟩ := hCs j (by omega)
      obtain ⟨_,hcl,hat⟩ := World.cells?_some hc
      have hic : i < C := by
       rcases Nat.lt_or_ge i (Cs j).length with h1 | h1
       · omega
       · rw [List.getElem?_eq_none h1] at hu; cases hu
      have := hat i hic
      rw [qin] at this
      rw [this,hu]
     obtain ⟨b,off,spot⟩ := a
     obtain ⟨hc0,_⟩ := hCs 0 (by omega)
     obtain ⟨_,hcl0,_⟩ := World.cells?_some hc0
     have g0 : (Cs 0)[0]? = some ((Cs 0)[0]'(by omega)) := List.getElem?_eq_getElem (by omega)
     have hspot : spot = none := by simpa [Addr.add] using World.cell?_spot (hcell 0 hpos 0 _ g0)
     subst hspot
     refine ⟨b,off,rfl,?_,fun j hj i u hu => ?_⟩
     · have hin : MemPlace.cell b off ∈ p := by
        rw [hx.2]
        refine List.mem_append_left _ (MemPlace.mem_row.2 ⟨0,?_,by simp⟩)
        rw [hC]; exact Nat.mul_pos (by omega) h0
       exact hlt _ hin
     · have := hcell j hj i u hu
       rw [qeD,<- Nat.add_assoc] at this
       exact this
   · obtain ⟨hc,hdt⟩ := hCs j (by omega)
     obtain ⟨_,hcl,_⟩ := World.cells?_some hc
     exact ⟨hcl,Pl j,hdt,fun x hx' => hlt x (by rw [hx.2]; exact List.mem_append_right _ (List.mem_flatMap.2 ⟨j,by simp; omega,hx'⟩))⟩
/-- A slice of entries. -/
theorem ql3 {fuel : Nat} {v : Value} {d : DataW H} {p : List MemPlace}
 (h : DataW.trod enc Tryz.prog W 0 sp hd fuel 36 [v] = some (d,p)) (hlt : ∀ x ∈ p,x.block < W.heap.size) :
 ∃ (A : Option Addr) (len cap : Nat) (ls : List Ent),v = .slice A len cap /\ cap <= maxLen /\ Ents W (· < W.heap.size) A len cap ls /\ ((∀ n ∈ d.weights Tryz.prog 36,n <= reachBytes) -> ∀ e ∈ ls,e.d.length <= 140737488355328) := by
 obtain ⟨A,len,cap,n,Cs,D,rfl,hl,hm,hnone,hform,hrow,hel⟩ := qgO Tryz.underlying36 (show Tryz.prog.cellsOf 69 = 3 by kernel_rfl) (by omega) h hlt
 obtain ⟨R,hR⟩ := Classical.axiomOfChoice (r := fun j (r : Ent) => j < len -> qmh W (Cs j) r /\ ((∀ n ∈ (D j).weights Tryz.prog 69,n <= reachBytes) -> r.d.length <= 140737488355328)) (fun j => by
  by_cases hj : j < len
  · obtain ⟨hlen,pl,hdt,hp⟩ := hel j hj
    obtain ⟨ys,m,_,hx,_,hyl,hf⟩ := DataW.trod_struct Tryz.underlying69 hdt
    have hys : ys.length = 3 := hyl
    obtain ⟨m2,hfi⟩ := qbo (x := (D j,pl)) Tryz.underlying69 (by kernel_rfl) (by rw [hlen]; rfl) hdt hp
    obtain ⟨v0,y0,g0,t0,_⟩ := hfi 0 _ rfl
    obtain ⟨v1,y1,g1,t1,_⟩ := hfi 1 _ rfl
    obtain ⟨v2,y2,g2,t2,p2⟩ := hfi 2 _ rfl
    obtain ⟨i,e0,_,_⟩ := DataW.trod_int Tryz.underlying2 t0
    obtain ⟨t,e1,_,_⟩ := DataW.trod_int Tryz.underlying2 t1
    obtain ⟨E,el,c,r,rfl,hc,hlies,hz⟩ := qeE Tryz.underlying33 Tryz.underlying5 (by kernel_rfl) t2 p2
    obtain rfl : r.length = el := hlies.1
    have e0' : v0 = .int .i64 i := by injection e0
    have e1' : v1 = .int .i64 t := by injection e1
    subst e0' e1'
    have hcs : Cs j = [.int .i64 i, .int .i64 t, .slice E r.length c] := by
     match Cs j,hlen,g0,g1,g2 with
     | [a,b',c'],_,g0,g1,g2 =>
       injection g0 with g0; injection g1 with g1; injection g2 with g2
       subst g0 g1 g2
       rfl
    refine ⟨⟨i,t,r⟩,fun _ => ⟨⟨E,c,?_,hc,hlies,hz⟩,fun hw => ?_⟩⟩
    · exact hcs
    · have h2 : DataW.trod enc Tryz.prog W 0 sp hd m 33 (List.take (Tryz.prog.cellsOf 33) [.slice E r.length c]) = ys[2]? := by
       have := hf 2 _ rfl
       rw [hcs] at this
       exact this
      have hD : D j = .agg (ys.map (·.1)) := congrArg Prod.fst hx
      rw [show Tryz.prog.cellsOf 33 = 1 by kernel_rfl] at h2
      have h2' : DataW.trod enc Tryz.prog W 0 sp hd m 33 [.slice E r.length c] = some (ys[2]'(by omega)) := by rw [<- List.getElem?_eq_getElem]; exact h2
      refine qhW h2' fun n hn => hw n ?_
      rw [hD]
      simp only [DataW.weights,Tryz.underlying69]
      exact DataW.weights_mem_each (j := 2) (t := 33) (d := (ys[2]'(by omega)).1) rfl (by rw [List.getElem?_map,List.getElem?_eq_getElem (by omega)]; rfl) n hn
  · exact ⟨⟨0,0,[]⟩,fun h => absurd h hj⟩)
 refine ⟨A,len,cap,(List.range len).map R,rfl,hm,⟨by simp,hl,hnone,fun hpos => ?_⟩,fun hw e he => ?_⟩
 · obtain ⟨g,off,e,hg,hc⟩ := hrow hpos
   refine ⟨g,off,e,hg,hg,fun j hj => ?_⟩
   have hj' : j < len := by simpa using hj
   obtain ⟨E,c,e1,e2,e3,e4⟩ := (hR j hj').1
   simp only [List.getElem_map,List.getElem_range]
   refine ⟨E,c,?_,hc j hj' 1 _ (by rw [e1]; rfl),hc j hj' 2 _ (by rw [e1]; rfl),e2,e3,fun h0 q o eq => e4 h0 _ eq⟩
   have := hc j hj' 0 (.int .i64 (R j).i) (by rw [e1]; rfl)
   rwa [Nat.add_zero] at this
 · obtain ⟨j,hj,rfl⟩ := List.mem_map.1 he
   have hj' : j < len := by simpa using hj
   refine (hR j hj').2 fun n hn => hw n ?_
   rcases hform with ⟨_,h0⟩ | ⟨rest,rfl⟩
   · omega
   · exact qdK Tryz.underlying36 (List.mem_map.2 ⟨j,hj,rfl⟩) hn
theorem qmf {fuel : Nat} {c0 c1 c2 c3 c4 c5 : Value} {x : DataW H × List MemPlace}
 (h : DataW.trod enc Tryz.prog W 0 sp hd fuel 53 [c0,c1,c2,c3,c4,c5] = some x) (hlt : ∀ y ∈ x.2,y.block < W.heap.size) :
 ∃ r : Act,[c0,c1,c2,c3,c4,c5] = (actC r).toList /\ qam W (· < W.heap.size) r /\ r.name.size <= maxLen /\ r.to_.size <= maxLen /\ r.klen <= maxLen := by
 obtain ⟨m,hf⟩ := qbo (W := W) (cs := [c0,c1,c2,c3,c4,c5]) Tryz.underlying53 (by kernel_rfl) rfl h hlt
 obtain ⟨v0,y0,g0,t0,_⟩ := hf 0 _ rfl
 obtain ⟨v1,y1,g1,t1,_⟩ := hf 1 _ rfl
 obtain ⟨v2,y2,g2,t2,_⟩ := hf 2 _ rfl
 obtain ⟨v3,y3,g3,t3,l3⟩ := hf 3 _ rfl
 obtain ⟨v4,y4,g4,t4,_⟩ := hf 4 _ rfl
 obtain ⟨v5,y5,g5,t5,l5⟩ := hf 5 _ rfl
 obtain ⟨k,e0,_,hk⟩ := DataW.trod_int Tryz.underlying5 t0
 obtain ⟨s1,e1,_,hs1⟩ := DataW.trod_string Tryz.underlying9 t1
 obtain ⟨s2,e2,_,hs2⟩ := DataW.trod_string Tryz.underlying9 t2
 obtain ⟨bA,blen,bcap,bL,e3,hbc,hbl,hbz⟩ := qeE Tryz.underlying33 Tryz.underlying5 (by kernel_rfl) t3 l3
 obtain ⟨nn,e4,_,hn⟩ := DataW.trod_int Tryz.underlying3 t4
 obtain ⟨kA,klen,kcap,kY,e5,hkl,hkc,_,hkr,hkw⟩ := qio Tryz.underlying51 Tryz.underlying3 (by kernel_rfl) t5 l5
 have hk2 := qgS hk
 have hn2 := wf_i64' hn
 obtain ⟨kn,rfl⟩ := Int.eq_ofNat_of_zero_le hk2.1
 obtain rfl : bL.length = blen := hbl.1
 refine ⟨⟨kn,s1,s2,bA,bcap,bL,nn,kA,klen,kcap,kY⟩,?_,⟨hbl,hbz,⟨fun j hj => wf_i64' (hkw j hj),hkr⟩,fun h0 x e => ?_,hn2,by dsimp only; omega,hbc,hkl⟩,hs1,hs2,Nat.le_trans hkl hkc⟩
 · have e0' : v0 = .int .u8 (kn : Int) := by injection e0
   have e1' : v1 = .string s1 := by injection e1
   have e2' : v2 = .string s2 := by injection e2
   have e4' : v4 = .int .i64 nn := by injection e4
   subst e0' e1' e2' e3 e4' e5
   injection g0 with g0; injection g1 with g1; injection g2 with g2; injection g3 with g3; injection g4 with g4; injection g5 with g5
   subst g0 g1 g2 g3 g4 g5
   rfl
 · obtain ⟨b,off,e6,hb,_⟩ := hkr h0
   dsimp only at e
   rw [e6] at e
   injection e with e
   subst e
   exact hb
end
structure VAct where
 k : Nat
 h : Hd
 s : Ent
 B : Option Addr
 c : Nat
 A : Option Addr
 cap : Nat
 l : List Ent
 d : Act
abbrev qlF (a : VAct) : List Value := [.int .u8 (a.k : Int), .int .i64 a.h.t, .int .i64 a.h.v, .int .i64 a.s.i, .int .i64 a.s.t, .slice a.B a.s.d.length a.c, .slice a.A a.l.length a.cap, .int .u8 (a.d.kind : Int), .string a.d.name, .string a.d.to_, .slice a.d.bA a.d.bL.length a.d.bcap, .int .i64 a.d.n, .slice a.d.kA a.d.klen a.d.kcap]
structure qd6 (w : World) (Z : Nat -> Prop) (a : VAct) : Prop where
 k : a.k < 256
 lies : Lies w a.B a.s.d.length a.c a.s.d
 lz : InZ Z a.B a.s.d.length
 ents : Ents w Z a.A a.l.length a.cap a.l
 capm : a.cap <= maxLen
 act : qam w Z a.d
 n1 : a.d.name.size <= maxLen
 n2 : a.d.to_.size <= maxLen
 n3 : a.d.klen <= maxLen
def qbC (w : World) (A : Option Addr) (len : Nat) (a : Nat -> VAct) : Prop :=
 (∀ j,j < len -> qd6 w (· < w.heap.size) (a j)) ∧
 (0 < len -> ∃ b off,A = some ⟨b,off,none⟩ /\ b < w.heap.size /\ ∀ j,j < len -> ∀ i u,(qlF (a j))[i]? = some u -> w.cell? ⟨b,off + j * 13 + i,none⟩ = some u)
theorem qd6.below {w w' : World} {a : VAct} (h : qd6 w (· < w.heap.size) a) (hb : Below w.heap.size w w') : qd6 w' (· < w'.heap.size) a :=
 ⟨h.k,h.lies.below hb nlq,fun h0 x e => Nat.lt_of_lt_of_le (h.lz h0 x e) hb.size,(h.ents.below hb nlq).mono fun k hk => Nat.lt_of_lt_of_le hk hb.size,h.capm,(h.act.keeps (qe hb nlq)).mono fun k hk => Nat.lt_of_lt_of_le hk hb.size,h.n1,h.n2,h.n3⟩
theorem qbC.below {w w' : World} {A : Option Addr} {len : Nat} {a : Nat -> VAct} (h : qbC w A len a) (hb : Below w.heap.size w w') : qbC w' A len a := by
 refine ⟨fun j hj => (h.1 j hj).below hb,fun h0 => ?_⟩
 obtain ⟨b,off,e,hg,hc⟩ := h.2 h0
 exact ⟨b,off,e,Nat.lt_of_lt_of_le hg hb.size,fun j hj i u hu => (hb.cell (p := ⟨b,off + j * 13 + i,none⟩) hg).trans (hc j hj i u hu)⟩
def qmg : VAct := ⟨0,⟨0,0⟩,⟨0,0,[]⟩,none,0,none,0,[],qmk⟩
section
variable {H : Type} {enc : TypeId × Value → H} {W : World} {sp : Nat → Bool} {hd : Bool}
/-- A law's acts. -/
theorem arg_vacts {base : Nat} {v : Value} {d : DataW H} {p : List MemPlace}
 (hok : Value.okWide Tryz.prog W .any base 23 v) (h : DataW.Trod enc Tryz.prog W 0 sp hd 23 v d p) (hlt : ∀ x ∈ p,x.block < W.heap.size) :
 ∃ (A : Option Addr) (len cap : Nat) (a : Nat -> VAct),v = .slice A len cap /\ len <= cap /\ cap <= maxLen /\ qbC W A len a /\ ((∀ n ∈ d.weights Tryz.prog 23,n <= reachBytes) -> ∀ j,j < len -> ∀ e ∈ (a j).l,e.d.length <= 140737488355328) := by
 obtain ⟨A,len,cap,n,Cs,D,rfl,hl,hm,hnone,hform,hrow,hel⟩ := qgF Tryz.underlying23 (show Tryz.prog.cellsOf 55 = 13 by kernel_rfl) (by omega) hok h hlt
 obtain ⟨R,hR⟩ := Classical.axiomOfChoice (r := fun j (r : VAct) => j < len -> Cs j = qlF r /\ qd6 W (· < W.heap.size) r /\ ((∀ n ∈ (D j).weights Tryz.prog 55,n <= reachBytes) -> ∀ e ∈ r.l,e.d.length <= 140737488355328)) (fun j => by
  by_cases hj : j < len
  · obtain ⟨hlen,pl,hdt,hp⟩ := hel j hj
    obtain ⟨c0,c1,c2,c3,c4,c5,c6,c7,c8,c9,c10,c11,c12,hcs⟩ : ∃ c0 c1 c2 c3 c4 c5 c6 c7 c8 c9 c10 c11 c12,Cs j = [c0,c1,c2,c3,c4,c5,c6,c7,c8,c9,c10,c11,c12] := by
     generalize Cs j = l at hlen
     rcases l with _ | ⟨a,_ | ⟨b,_ | ⟨c,_ | ⟨d,_ | ⟨e,_ | ⟨f,_ | ⟨g,_ | ⟨h,_ | ⟨i,_ | ⟨j,_ | ⟨k,_ | ⟨l,_ | ⟨m,_ | ⟨_,_⟩⟩⟩⟩⟩⟩⟩⟩⟩⟩⟩⟩⟩⟩ <;> simp at hlen
     exact ⟨a,b,c,d,e,f,g,h,i,j,k,l,m,rfl⟩
    rw [hcs] at hdt ⊢
    obtain ⟨ys,m,_,hx,_,hyl,hf⟩ := DataW.trod_struct Tryz.underlying55 hdt
    have hys : ys.length = 5 := hyl
    have hD : D j = .agg (ys.map (·.1)) := congrArg Prod.fst hx
    have hpl : pl = ys.flatMap (·.2) := congrArg Prod.snd hx
    have hlty : ∀ (i : Nat) (hi : i < ys.length),∀ q ∈ (ys[i]).2,q.block < W.heap.size := fun i hi q hq => hp q (by rw [hpl]; exact List.mem_flatMap.2 ⟨_,List.getElem_mem hi,hq⟩)
    have g0 : DataW.trod enc Tryz.prog W 0 sp hd m 5 (List.take (Tryz.prog.cellsOf 5) [c0,c1,c2,c3,c4,c5,c6,c7,c8,c9,c10,c11,c12]) = ys[0]? := hf 0 _ rfl
    have g1 : DataW.trod enc Tryz.prog W 0 sp hd m 32 (List.take (Tryz.prog.cellsOf 32) [c1,c2,c3,c4,c5,c6,c7,c8,c9,c10,c11,c12]) = ys[1]? := hf 1 _ rfl
    have g2 : DataW.trod enc Tryz.prog W 0 sp hd m 35 (List.take (Tryz.prog.cellsOf 35) [c3,c4,c5,c6,c7,c8,c9,c10,c11,c12]) = ys[2]? := hf 2 _ rfl
    have g3 : DataW.trod enc Tryz.prog W 0 sp hd m 36 (List.take (Tryz.prog.cellsOf 36) [c6,c7,c8,c9,c10,c11,c12]) = ys[3]? := hf 3 _ rfl
    have g4 : DataW.trod enc Tryz.prog W 0 sp hd m 53 (List.take (Tryz.prog.cellsOf 53) [c7,c8,c9,c10,c11,c12]) = ys[4]? := hf 4 _ rfl
    rw [show Tryz.prog.cellsOf 5 = 1 by kernel_rfl,List.getElem?_eq_getElem (by omega)] at g0
    rw [show Tryz.prog.cellsOf 32 = 2 by kernel_rfl,List.getElem?_eq_getElem (by omega)] at g1
    rw [show Tryz.prog.cellsOf 35 = 3 by kernel_rfl,List.getElem?_eq_getElem (by omega)] at g2
    rw [show Tryz.prog.cellsOf 36 = 1 by kernel_rfl,List.getElem?_eq_getElem (by omega)] at g3
    rw [show Tryz.prog.cellsOf 53 = 6 by kernel_rfl,List.getElem?_eq_getElem (by omega)] at g4
    have g0 : DataW.trod enc Tryz.prog W 0 sp hd m 5 [c0] = some (ys[0]'(by omega)) := g0
    have g1 : DataW.trod enc Tryz.prog W 0 sp hd m 32 [c1,c2] = some (ys[1]'(by omega)) := g1
    have g2 : DataW.trod enc Tryz.prog W 0 sp hd m 35 [c3,c4,c5] = some (ys[2]'(by omega)) := g2
    have g3 : DataW.trod enc Tryz.prog W 0 sp hd m 36 [c6] = some ((ys[3]'(by omega)).1,(ys[3]'(by omega)).2) := g3
    have g4 : DataW.trod enc Tryz.prog W 0 sp hd m 53 [c7,c8,c9,c10,c11,c12] = some (ys[4]'(by omega)) := g4
    obtain ⟨k,e0,_,hk⟩ := DataW.trod_int Tryz.underlying5 g0
    obtain ⟨m1,hf1⟩ := qbo Tryz.underlying32 (by kernel_rfl) rfl g1 (hlty 1 (by omega))
    obtain ⟨v1,y1,b1,t1,_⟩ := hf1 0 _ rfl
    obtain ⟨v2,y2,b2,t2,_⟩ := hf1 1 _ rfl
    obtain ⟨n1,e1,_,_⟩ := DataW.trod_int Tryz.underlying2 t1
    obtain ⟨n2,e2,_,_⟩ := DataW.trod_int Tryz.underlying3 t2
    obtain ⟨m2,hf2⟩ := qbo Tryz.underlying35 (by kernel_rfl) rfl g2 (hlty 2 (by omega))
    obtain ⟨v3,y3,b3,t3,_⟩ := hf2 0 _ rfl
    obtain ⟨v4,y4,b4,t4,_⟩ := hf2 1 _ rfl
    obtain ⟨v5,y5,b5,t5,p5⟩ := hf2 2 _ rfl
    obtain ⟨n3,e3,_,_⟩ := DataW.trod_int Tryz.underlying2 t3
    obtain ⟨n4,e4,_,_⟩ := DataW.trod_int Tryz.underlying2 t4
    obtain ⟨E,el,ec,r,rfl,hc5,hlies,hz5⟩ := qeE Tryz.underlying33 Tryz.underlying5 (by kernel_rfl) t5 p5
    obtain ⟨A6,len6,cap6,ls,rfl,hm6,hents,hw6⟩ := ql3 g3 (hlty 3 (by omega))
    obtain ⟨ra,ea,hact,ha1,ha2,ha3⟩ := qmf g4 (hlty 4 (by omega))
    obtain rfl : r.length = el := hlies.1
    obtain rfl : ls.length = len6 := hents.1
    have hk2 := qgS hk
    obtain ⟨kn,rfl⟩ := Int.eq_ofNat_of_zero_le hk2.1
    have q0 : c0 = .int .u8 (kn : Int) := by injection e0
    have q1 : v1 = .int .i64 n1 := by injection e1
    have q2 : v2 = .int .i64 n2 := by injection e2
    have q3 : v3 = .int .i64 n3 := by injection e3
    have q4 : v4 = .int .i64 n4 := by injection e4
    have e1' : c1 = v1 := by have h : some c1 = some v1 := b1; injection h
    have e2' : c2 = v2 := by have h : some c2 = some v2 := b2; injection h
    have e3' : c3 = v3 := by have h : some c3 = some v3 := b3; injection h
    have e4' : c4 = v4 := by have h : some c4 = some v4 := b4; injection h
    have e5' : c5 = .slice E r.length ec := by have h : some c5 = some (.slice E r.length ec) := b5; injection h
    subst q0 q1 q2 q3 q4
    subst e1'
    subst e2'
    subst e3'
    subst e4'
    subst e5'
    refine ⟨⟨kn,⟨n1,n2⟩,⟨n3,n4,r⟩,E,ec,A6,cap6,ls,ra⟩,fun _ => ⟨?_,⟨by dsimp only; omega,hlies,hz5,hents,hm6,hact,ha1,ha2,ha3⟩,fun hw => hw6 fun n hn => hw n ?_⟩⟩
    · show _ :: _ :: _ :: _ :: _ :: _ :: _ :: [c7,c8,c9,c10,c11,c12] = _
      rw [ea]
    · rw [hD]
      simp only [DataW.weights,Tryz.underlying55]
      exact DataW.weights_mem_each (j := 3) (t := 36) (d := (ys[3]'(by omega)).1) rfl (by rw [List.getElem?_map,List.getElem?_eq_getElem (by omega)]; rfl) n hn
  · exact ⟨qmg,fun h => absurd h hj⟩)
 refine ⟨A,len,cap,R,rfl,hl,hm,⟨fun j hj => (hR j hj).2.1,fun hpos => ?_⟩,fun hw j hj => ?_⟩
 · obtain ⟨b,off,hA,hb,hc⟩ := hrow hpos
   exact ⟨b,off,hA,hb,fun j hj i u hu => hc j hj i u (by rw [(hR j hj).1]; exact hu)⟩
 · refine (hR j hj).2.2 fun n hn => hw n ?_
   rcases hform with ⟨_,h0⟩ | ⟨rest,rfl⟩
   · omega
   · exact qdK Tryz.underlying23 (List.mem_map.2 ⟨j,List.mem_range.2 hj,rfl⟩) hn
end
end Go.Proofs.YtmeoooojmhhahaaGreat
