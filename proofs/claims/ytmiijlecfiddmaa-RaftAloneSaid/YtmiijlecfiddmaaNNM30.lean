/- Entries, what is hard, snaps that a law is called with. -/
import Derived.Test.YtmiijlecfiddmaaNNM02
import Derived.SizedLaws
import Derived.Lib.SmallJoins
import Derived.Test.YtmiijlecfiddmaaRows
import Derived.WalkKit
import Derived.ProofKit
import Derived.OpenShut
import Derived.Carry
set_option linter.unusedVariables false
set_option linter.unusedSimpArgs false
set_option maxRecDepth 100000
set_option maxHeartbeats 200000
namespace Go.Proofs.Ytmiijlecfiddmaa
open Go.ChangeShapes Go.WideShapes Go.ChangeAt Go.RowKit Go.Deep
section
variable {H : Type} {enc : TypeId × Value → H} {P : Program} {W : World} {sp : Nat → Bool} {hd : Bool}
theorem qbD {t e : TypeId} {C base : Nat} {v : Value} {d : DataW H} {p : List MemPlace} (ht : P.underlying t = some (.slice e)) (hC : P.cellsOf e = C) (h0 : 0 < C)
 (hok : Value.okWide P W .any base t v) (h : DataW.Trod enc P W 0 sp hd t v d p) (hlt : ∀ x ∈ p,x.block < W.heap.size) :
 ∃ (A : Option Addr) (len cap n : Nat) (Cs : Nat -> List Value) (D : Nat -> DataW H),v = .slice A len cap /\ len <= cap /\ cap <= maxLen /\ (A = none -> cap = 0) /\ (d = .nil /\ len = 0 \/ ∃ rest,d = .slice ((List.range len).map D) rest) ∧
  (0 < len -> ∃ b off,A = some ⟨b,off,none⟩ /\ b < W.heap.size /\ ∀ j,j < len -> ∀ i u,(Cs j)[i]? = some u -> W.cell? ⟨b,off + j * C + i,none⟩ = some u) ∧
  ∀ j,j < len -> (Cs j).length = C /\ ∃ pl,DataW.trod enc P W 0 sp hd n e (Cs j) = some (D j,pl) /\ ∀ x ∈ pl,x.block < W.heap.size := by
 obtain ⟨A,len,cap,rfl⟩ := okWide_slice ht hok
 obtain ⟨fuel,hf⟩ := h
 rcases open_slice ht hf with ⟨hcs,hx⟩ | ⟨a,len',cap',m,n,D,Pl,hcs,hb,hl,hm,hmm,hx,hi⟩
 · simp [Value.cells] at hcs
   obtain ⟨rfl,rfl,rfl⟩ := hcs
   simp only [Prod.mk.injEq] at hx
   exact ⟨none,0,0,0,fun _ => [],fun _ => .nil,rfl,Nat.le_refl _,Nat.zero_le _,fun _ => rfl, .inl ⟨hx.1,rfl⟩,fun h => absurd h (by omega),fun j hj => absurd hj (by omega)⟩
 · simp [Value.cells] at hcs
   obtain ⟨rfl,rfl,rfl⟩ := hcs
   simp only [Prod.mk.injEq] at hx
   have hlm : len <= m := by rw [hmm]; split <;> omega
   obtain ⟨Cs,hCs⟩ := Classical.axiomOfChoice (r := fun i cs' => i < m -> W.cells? 0 (a.add (i * P.cellsOf e)) (P.cellsOf e) = some cs' /\ DataW.trod enc P W 0 sp hd n e cs' = some (D i,Pl i)) (fun i => by
    by_cases him : i < m
    · obtain ⟨cs',h1,h2⟩ := hi i him
      exact ⟨cs',fun _ => ⟨h1,h2⟩⟩
    · exact ⟨[],fun h => absurd h him⟩)
   rw [hC] at hCs
   refine ⟨some a,len,cap,n,Cs,D,rfl,hl,hm,(fun h => by cases h), .inr ⟨_,hx.1⟩,fun hpos => ?_,fun j hj => ?_⟩
   · have hcell : ∀ j,j < len -> ∀ i u,(Cs j)[i]? = some u -> W.cell? (a.add (j * C + i)) = some u := fun j hj i u hu => by
      obtain ⟨hc,_⟩ := hCs j (by omega)
      obtain ⟨_,hcl,hat⟩ := World.cells?_some hc
      have hic : i < C := by
       rcases Nat.lt_or_ge i (Cs j).length with h1 | h1
       · omega
       · rw [List.getElem?_eq_none h1] at hu; cases hu
      have := hat i hic
      rw [qco] at this
      rw [this,hu]
     obtain ⟨b,off,spot⟩ := a
     obtain ⟨hc0,_⟩ := hCs 0 (by omega)
     obtain ⟨_,hcl0,_⟩ := World.cells?_some hc0
     have g0 : (Cs 0)[0]? = some ((Cs 0)[0]'(by omega)) := List.getElem?_eq_getElem (by omega)
     have hspot : spot = none := by simpa [Addr.add] using World.cell?_spot (hcell 0 hpos 0 _ g0)
     subst hspot
     refine ⟨b,off,rfl,?_,fun j hj i u hu => ?_⟩
     · have hin : MemPlace.cell b off ∈ p := by
        rw [hx.2]
        refine List.mem_append_left _ (MemPlace.mem_row.2 ⟨0,?_,by simp⟩)
        rw [hC]; exact Nat.mul_pos (by omega) h0
       exact hlt _ hin
     · have := hcell j hj i u hu
       rw [qaX,<- Nat.add_assoc] at this
       exact this
   · obtain ⟨hc,hdt⟩ := hCs j (by omega)
     obtain ⟨_,hcl,_⟩ := World.cells?_some hc
     exact ⟨hcl,Pl j,hdt,fun x hx' => hlt x (by rw [hx.2]; exact List.mem_append_right _ (List.mem_flatMap.2 ⟨j,by simp; omega,hx'⟩))⟩
theorem qas {e : TypeId} {d : DataW H} {n : Nat} (hn : n ∈ d.weights P e) : ∀ {l : List (DataW H)},d ∈ l -> n ∈ DataW.weightsAll P e l
 | x :: l,h => by
   simp only [DataW.weightsAll,List.mem_append]
   rcases List.mem_cons.1 h with rfl | h
   · exact .inl hn
   · exact .inr (qas hn h)
theorem qcg {t e : TypeId} {elems spare : List (DataW H)} {d : DataW H} {n : Nat} (ht : P.underlying t = some (.slice e)) (hd : d ∈ elems) (hn : n ∈ d.weights P e) : n ∈ (DataW.slice elems spare).weights P t := by
 simp only [DataW.weights,ht,List.mem_cons,List.mem_append]
 exact .inr (.inl (qas hn hd))
theorem qcn {A : Option Addr} {len cap m : Nat} {y : DataW H × List MemPlace} (hy : DataW.trod enc Try.prog W 0 sp hd m 24 [.slice A len cap] = some y) (hw : ∀ n ∈ y.1.weights Try.prog 24,n <= reachBytes) : len <= 140737488355328 := by
 rcases qbx (d := y.1) (p := y.2) ⟨m,by simpa [Value.cells] using hy⟩ with h | ⟨el,sr,e,hel⟩
 · omega
 · have := hw ((el.length + sr.length) * Try.prog.bytesOf 5) (by rw [e]; simp [DataW.weights,Try.underlying24])
   rw [show Try.prog.bytesOf 5 = 1 by kernel_rfl] at this
   simp only [reachBytes] at this
   omega
def qem (W : World) (C : List Value) (e : Ent) : Prop :=
 ∃ A c,C = [.int .i64 e.i, .int .i64 e.t, .slice A e.d.length c] /\ c <= maxLen /\ Lies W A e.d.length c e.d /\ (0 < e.d.length -> ∀ a,A = some a -> a.block < W.heap.size)
/-- A slice of entries. -/
theorem arg_ents {base : Nat} {v : Value} {d : DataW H} {p : List MemPlace}
 (hok : Value.okWide Try.prog W .any base 27 v) (h : DataW.Trod enc Try.prog W 0 sp hd 27 v d p) (hlt : ∀ x ∈ p,x.block < W.heap.size) :
 ∃ (A : Option Addr) (len cap : Nat) (ls : List Ent),v = .slice A len cap /\ cap <= maxLen /\ Ents W (· < W.heap.size) A len cap ls /\ ((∀ n ∈ d.weights Try.prog 27,n <= reachBytes) -> ∀ e ∈ ls,e.d.length <= 140737488355328) := by
 obtain ⟨A,len,cap,n,Cs,D,rfl,hl,hm,hnone,hform,hrow,hel⟩ := qbD Try.underlying27 (show Try.prog.cellsOf 31 = 3 by kernel_rfl) (by omega) hok h hlt
 obtain ⟨R,hR⟩ := Classical.axiomOfChoice (r := fun j (r : Ent) => j < len -> qem W (Cs j) r /\ ((∀ n ∈ (D j).weights Try.prog 31,n <= reachBytes) -> r.d.length <= 140737488355328)) (fun j => by
  by_cases hj : j < len
  · obtain ⟨hlen,pl,hdt,hp⟩ := hel j hj
    obtain ⟨ys,m,_,hx,_,hyl,hf⟩ := DataW.trod_struct Try.underlying31 hdt
    have hys : ys.length = 3 := hyl
    obtain ⟨m2,hfi⟩ := qby (x := (D j,pl)) Try.underlying31 (by kernel_rfl) (by rw [hlen]; rfl) hdt hp
    obtain ⟨v0,y0,g0,t0,_⟩ := hfi 0 _ rfl
    obtain ⟨v1,y1,g1,t1,_⟩ := hfi 1 _ rfl
    obtain ⟨v2,y2,g2,t2,p2⟩ := hfi 2 _ rfl
    obtain ⟨i,e0,_,_⟩ := DataW.trod_int Try.underlying2 t0
    obtain ⟨t,e1,_,_⟩ := DataW.trod_int Try.underlying2 t1
    obtain ⟨E,el,c,r,rfl,hc,hlies,hz⟩ := qaY Try.underlying24 Try.underlying5 (by kernel_rfl) t2 p2
    obtain rfl : r.length = el := hlies.1
    have e0' : v0 = .int .i64 i := by injection e0
    have e1' : v1 = .int .i64 t := by injection e1
    subst e0' e1'
    have hcs : Cs j = [.int .i64 i, .int .i64 t, .slice E r.length c] := by
     match Cs j,hlen,g0,g1,g2 with
     | [a,b',c'],_,g0,g1,g2 =>
       injection g0 with g0; injection g1 with g1; injection g2 with g2
       subst g0 g1 g2
       rfl
    refine ⟨⟨i,t,r⟩,fun _ => ⟨⟨E,c,?_,hc,hlies,hz⟩,fun hw => ?_⟩⟩
    · exact hcs
    · have h2 : DataW.trod enc Try.prog W 0 sp hd m 24 (List.take (Try.prog.cellsOf 24) [.slice E r.length c]) = ys[2]? := by
       have := hf 2 _ rfl
       rw [hcs] at this
       exact this
      have hD : D j = .agg (ys.map (·.1)) := congrArg Prod.fst hx
      rw [show Try.prog.cellsOf 24 = 1 by kernel_rfl] at h2
      have h2' : DataW.trod enc Try.prog W 0 sp hd m 24 [.slice E r.length c] = some (ys[2]'(by omega)) := by rw [<- List.getElem?_eq_getElem]; exact h2
      refine qcn h2' fun n hn => hw n ?_
      rw [hD]
      simp only [DataW.weights,Try.underlying31]
      exact DataW.weights_mem_each (j := 2) (t := 24) (d := (ys[2]'(by omega)).1) rfl (by rw [List.getElem?_map,List.getElem?_eq_getElem (by omega)]; rfl) n hn
  · exact ⟨⟨0,0,[]⟩,fun h => absurd h hj⟩)
 refine ⟨A,len,cap,(List.range len).map R,rfl,hm,⟨by simp,hl,hnone,fun hpos => ?_⟩,fun hw e he => ?_⟩
 · obtain ⟨g,off,e,hg,hc⟩ := hrow hpos
   refine ⟨g,off,e,hg,hg,fun j hj => ?_⟩
   have hj' : j < len := by simpa using hj
   obtain ⟨E,c,e1,e2,e3,e4⟩ := (hR j hj').1
   simp only [List.getElem_map,List.getElem_range]
   refine ⟨E,c,?_,hc j hj' 1 _ (by rw [e1]; rfl),hc j hj' 2 _ (by rw [e1]; rfl),Nat.le_refl _,e3,fun h0 q o eq => e4 h0 _ eq⟩
   have := hc j hj' 0 (.int .i64 (R j).i) (by rw [e1]; rfl)
   rwa [Nat.add_zero] at this
 · obtain ⟨j,hj,rfl⟩ := List.mem_map.1 he
   have hj' : j < len := by simpa using hj
   refine (hR j hj').2 fun n hn => hw n ?_
   rcases hform with ⟨_,h0⟩ | ⟨rest,rfl⟩
   · omega
   · exact qcg Try.underlying27 (List.mem_map.2 ⟨j,hj,rfl⟩) hn
/-- An entry,or a snap. -/
theorem arg_ent {T : TypeId} {f0 f1 f2 : Field} {base : Nat} {v : Value} {d : DataW H} {p : List MemPlace} (hs : Try.prog.underlying T = some (.struct #[f0,f1,f2])) (hone : oneCellFields Try.prog #[f0,f1,f2] = true) (hC : Try.prog.cellsOf T = 3)
 (h0 : f0.type = 2) (h1 : f1.type = 2) (h2 : f2.type = 24)
 (hok : Value.okWide Try.prog W .any base T v) (h : DataW.Trod enc Try.prog W 0 sp hd T v d p) (hlt : ∀ x ∈ p,x.block < W.heap.size) :
 ∃ i t A n c l,v = .agg #[.int .i64 i, .int .i64 t, .slice A n c] /\ c <= maxLen /\ Lies W A n c l /\ (0 < n -> ∀ g off,A = some ⟨g,off,none⟩ -> g < W.heap.size) := by
 obtain ⟨v0,v1,v2,y0,y1,y2,m,rfl,_,rfl,t0,t1,t2⟩ := Joins.open_agg3 hs hone hC hok h
 rw [h0] at t0
 rw [h1] at t1
 rw [h2] at t2
 obtain ⟨i,e0,_,_⟩ := DataW.trod_int Try.underlying2 t0
 obtain ⟨t,e1,_,_⟩ := DataW.trod_int Try.underlying2 t1
 obtain ⟨E,el,c,r,rfl,hc,hlies,hz⟩ := qaY Try.underlying24 Try.underlying5 (by kernel_rfl) t2 (fun q hq => hlt q (by simp [hq]))
 have e0' : v0 = .int .i64 i := by injection e0
 have e1' : v1 = .int .i64 t := by injection e1
 subst e0' e1'
 exact ⟨i,t,E,el,c,r,rfl,hc,hlies,fun h0 g off e => hz h0 _ e⟩
/-- What is hard. -/
theorem arg_hard {base : Nat} {v : Value} {d : DataW H} {p : List MemPlace}
 (hok : Value.okWide Try.prog W .any base 23 v) (h : DataW.Trod enc Try.prog W 0 sp hd 23 v d p) :
 ∃ t x,v = .agg #[.int .i64 t, .int .i64 x] := by
 obtain ⟨v0,v1,y0,y1,m,rfl,_,rfl,t0,t1⟩ := Joins.open_agg2 Try.underlying23 (by kernel_rfl) (by kernel_rfl) hok h
 obtain ⟨i,e0,_,_⟩ := DataW.trod_int Try.underlying2 t0
 obtain ⟨t,e1,_,_⟩ := DataW.trod_int Try.underlying3 t1
 have e0' : v0 = .int .i64 i := by injection e0
 have e1' : v1 = .int .i64 t := by injection e1
 subst e0' e1'
 exact ⟨i,t,rfl⟩
end
end Go.Proofs.Ytmiijlecfiddmaa
set_option linter.unusedVariables false
set_option linter.unusedSimpArgs false
set_option maxRecDepth 100000
set_option maxHeartbeats 200000
namespace Go.Proofs.Ytmiijlecfiddmaa
open Go.ChangeShapes Go.WideShapes Go.ChangeAt Go.RowKit
section
variable {H : Type} {enc : TypeId × Value → H} {P : Program}
theorem qbw (hl : laidOutB P = true) {W W' : World} {sp : Nat -> Bool} : ∀ {ts : List TypeId} {vs : List Value} {ds : List (DataW H)} {ps : List MemPlace},(∀ t ∈ ts,P.readableRec t = true /\ t < P.types.size) →
 DataW.TrodAll enc P W 0 (fun _ => true) true ts vs ds ps -> (∀ x ∈ ps,W.sameAt W' x) -> (∀ x ∈ ps,sp x.block = true) -> DataW.TrodAll enc P W' 0 sp true ts vs ds ps
 | [],[],[],_,_,h,_,_ => h
 | t :: _,_ :: _,_ :: _,_,hT,⟨p,q,h1,h2,e⟩,hs,hp =>
   ⟨p,q,WideElems.Trod_stays hl (hT t List.mem_cons_self).1 (hT t List.mem_cons_self).2 h1 (fun x hx => hs x (by rw [e]; exact List.mem_append_left _ hx)) (fun x hx => hp x (by rw [e]; exact List.mem_append_left _ hx)),
     qbw hl (fun t ht => hT t (List.mem_cons_of_mem _ ht)) h2 (fun x hx => hs x (by rw [e]; exact List.mem_append_right _ hx)) (fun x hx => hp x (by rw [e]; exact List.mem_append_right _ hx)),e⟩
theorem law_end (hl : laidOutB P = true) {f : Func} {s : ChangeSpec} {T : TypeId} {W W' : World} {args : Array Value} {ds gs : List (DataW H)} {before : List MemPlace}
 (hT : ∀ t ∈ f.params.toList,P.readableRec t = true /\ t < P.types.size) (hvars : s.vars = []) (hres : f.resultTypes = #[T]) (hb : P.underlying T = some .bool)
 (hW : DataW.Whole enc P f.params.toList s.vars false W args.toList ds gs before)
 (hr : (s.fn H (ds ++ gs)).results = [.lit (.bool true)]) (ha : (s.fn H (ds ++ gs)).args = ds) (hv : (s.fn H (ds ++ gs)).vars = [])
 (hbel : Below W.heap.size W W') : s.post enc P f false true false false W args (.bool true) W' := by
 have hW' := hW
 obtain ⟨p,q,hA,hV,hps,hfz,_⟩ := hW
 rw [hvars] at hV
 obtain ⟨rfl,rfl⟩ := trodVars_none hV
 rw [List.append_nil] at hps
 subst hps
 have hlt : ∀ x ∈ before,x.block < W.heap.size := fun x hx => hW'.lt x hx
 have harg : ∀ sp : Nat -> Bool,(∀ x ∈ before,sp x.block = true) -> DataW.TrodAll enc P W' 0 sp true f.params.toList args.toList (s.fn H (ds ++ [])).args before := fun sp hsp => by
  rw [ha]
  exact qbw hl hT hA (fun x hx => hbel.same (hlt x hx)) hsp
 have hvar : ∀ sp : Nat -> Bool,DataW.TrodVars enc P W' sp s.vars (s.fn H (ds ++ [])).vars [] := fun sp => by
  rw [hvars,hv]
  exact rfl
 have hresult : ∀ (b : Nat) (sp : Nat -> Bool) (hd : Bool),DataW.TrodAll enc P W' b sp hd f.resultTypes.toList ((Value.bool true).resultList f.resultTypes.size) (s.fn H (ds ++ [])).results [] := fun b sp hd => by
  rw [hr,hres]
  exact trodAll_cons_mk (shut_bool hb _) trodAll_mk0
 refine ⟨ds,[],before,[],before,[],hW',hresult _ _ _,harg _ (fun x hx => by simpa using hlt x hx),hvar _,World.keptBut_mono (fun x hx => ⟨hx,Or.inr (Or.inl hx)⟩) (hbel.frame (· ∈ before)),fun h => by cases h⟩
end
end Go.Proofs.Ytmiijlecfiddmaa
