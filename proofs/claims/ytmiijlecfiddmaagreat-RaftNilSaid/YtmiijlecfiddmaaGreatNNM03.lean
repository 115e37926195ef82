/- The program's Run, by its contract. -/
import Derived.Test.YtmiijlecfiddmaaGreatNNM02
import Derived.Laws.Tables
import Derived.SizedLaws
import Derived.Lib.SmallJoins
set_option linter.unusedVariables false
set_option linter.unusedSimpArgs false
set_option maxRecDepth 100000
set_option maxHeartbeats 3200000
namespace Go.Proofs.YtmiijlecfiddmaaGreat
open Go.RowKit
theorem qcS (Z : Nat -> Prop) (A : Option Addr) (len cap : Nat) (ls : List Ent) (i t : Int) (w : World) (h : Ents w Z A len cap ls) (hm : len <= maxLen) :
 Calls Tryz.prog 88 #[.int .i64 i, .int .i64 t, .slice A len cap] w fun e w' => e = .returned (.bool (runB i t ls)) /\ Below w.heap.size w w' := by
 unfold maxLen at hm
 have hll := h.1
 go_enter Tryz.func88,Tryz.ntmps88
 go_wp2
 go_loopg [0,1,8,11] len (fun g ii tt r kk wr => ∃ k : Nat,k + g = len /\ kk = .int .i64 (k : Int) /\ ii = .int .i64 (qQ i ls k) /\ tt = .int .i64 (qR t ls k) /\ (∀ j,j < k -> qJ i t ls j = true) /\ Below w.heap.size w wr)
 case atStart => exact ⟨0,by omega,rfl,rfl,rfl,fun j hj => absurd hj (by omega),Below.refl _ _⟩
 case round =>
  obtain ⟨k,hk,rfl,rfl,rfl,hall,hb⟩ := hrel
  by_cases hlt : k < len
  · have hlt' : (k : Int) < (len : Int) := by omega
    have hbelow := h.below hb (Nat.le_refl _)
    obtain ⟨g,off,E,c,rfl,hg,x0,x1,x2,hl⟩ := hbelow.at_ k hlt
    have hst := qcN i t ls k (by omega)
    have hnx := qb9 i t ls k (by omega)
    have HNI := Lib.hid hnx.1
    have HNT := Lib.hid hnx.2
    clear hnx
    generalize hpT : qR t ls k = T at *
    generalize hpI : qQ i ls k = I at *
    generalize (ls[k]'(by omega)) = a at *
    obtain ⟨ai,at_,ad⟩ := a
    dsimp only at *
    have hR := fun W => qaX ai at_ E ad.length c W
    have hri := qs ai at_ ad.length
    have hA1 := (Below.refl wr.heap.size wr).alloc (Nat.le_refl _) (.cells #[.int .i64 ai, .int .i64 at_, .slice E ad.length c] 78)
    have hr1 := heap_alloc_new wr (.cells #[.int .i64 ai, .int .i64 at_, .slice E ad.length c] 78)
    have hbA : Below w.heap.size w (wr.alloc (.cells #[.int .i64 ai, .int .i64 at_, .slice E ad.length c] 78)) := hb.trans (hA1.mono hb.size)
    generalize ad.length = n at *
    obtain ⟨⟨y0,y1,y2⟩,_⟩ := row3 hr1
    have HALL := Lib.hid hall
    have HK := Lib.hid hk
    have hsz : wr.heap.size < (wr.alloc (.cells #[.int .i64 ai, .int .i64 at_, .slice E n c] 78)).heap.size := by simp
    cases hb2 : qw ai at_ n with
    | false =>
      rw [hb2] at hR hst
      rw [Bool.false_and] at hst
      have HF := Lib.hid (qaT (i := i) (t := t) (l := ls) k (by omega) hst)
      clear hst hpT hpI hri hall hk hbelow h hl hb2
      go_wp2_with fail
      refine (hR _).mono ?_
      rintro e w1 ⟨rfl,hb1⟩
      have hbw : Below w.heap.size w w1 := hbA.trans (hb1.mono hbA.size)
      go_wp2
      go_ret
      exact ⟨by have e : runB i t ls = false := HF; rw [e]; rfl,hbw⟩
    | true =>
      rw [hb2,Bool.true_and] at hst
      rw [hb2] at hR
      have hrr := hri.1 hb2
      clear hpT hpI hri hall hk hbelow h hl hb2 hb
      go_wp2_with fail
      refine (hR _).mono ?_
      rintro e w1 ⟨rfl,hb1⟩
      have hbw : Below w.heap.size w w1 := hbA.trans (hb1.mono hbA.size)
      obtain ⟨⟨z0,z1,z2⟩,_⟩ := row3 ((hb1.block _ hsz).trans hr1)
      obtain ⟨J,hJ⟩ : ∃ J,ai - 1 = J := ⟨_,rfl⟩
      have q4 : wrap64 (ai - 1) = J := by rw [<- hJ,<- IntWalk.i64_left]; exact IntWalk.i64_in _ (by omega)
      clear hR x0 x1 x2 y0 y1 y2 hr1 hA1 hb1 hbA hsz
      by_cases hI : ai = I + 1
      · have hJI : J = I := by omega
        subst hJI
        rw [decide_eq_true hI,Bool.and_true] at hst
        clear hI hJ
        by_cases hT : T <= at_
        · have q1 : (at_ < T) = False := eq_false (by omega)
          have HST := Lib.hid (hst.trans (decide_eq_true hT))
          clear hst hT hrr
          go_wp2
          go_big_quiet (fail)
          go_wp2
          go_roundg (gk - 1)
          case measure => have : k + gk = len := HK; omega
          case rel => exact ⟨k + 1,by have : k + gk = len := HK; omega,by go_num,by have e : qQ i ls (k + 1) = ai := HNI; rw [e],by have e : qR t ls (k + 1) = at_ := HNT; rw [e],fun j hj => by
           rcases Nat.lt_or_ge j k with h1 | h1
           · exact (HALL : ∀ j,j < k -> qJ i t ls j = true) j h1
           · have e : j = k := by omega
             rw [e]; exact HST,below_drewN hbw _⟩
        · have q1 : at_ < T := by omega
          have HF := Lib.hid (qaT (i := i) (t := t) (l := ls) k (by omega) (by rw [hst,decide_eq_false hT]))
          clear hst hT hrr
          go_wp2
          go_ret
          exact ⟨by have e : runB i t ls = false := HF; rw [e]; rfl,hbw⟩
      · have hJI : ¬ J = I := by omega
        have q5 : (J != I) = true := by simp [hJI]
        have q6 : (J = I) = False := eq_false hJI
        have HF := Lib.hid (qaT (i := i) (t := t) (l := ls) k (by omega) (by rw [hst,decide_eq_false hI,Bool.and_false]))
        clear hst hrr hI hJ hJI
        go_wp2
        go_ret
        exact ⟨by have e : runB i t ls = false := HF; rw [e]; rfl,hbw⟩
  · obtain rfl : k = len := by omega
    have hdec : decide ((k : Int) < (k : Int)) = false := decide_eq_false (by omega)
    have HT := Lib.hid (qcM (i := i) (t := t) (l := ls) (fun j hj => hall j (by omega)))
    clear h hall hk hm
    go_wp2
    go_ret
    exact ⟨by have e : runB i t ls = true := HT; rw [e]; rfl,hb⟩
end Go.Proofs.YtmiijlecfiddmaaGreat
set_option linter.unusedVariables false
set_option linter.unusedSimpArgs false
set_option maxRecDepth 100000
set_option maxHeartbeats 200000
namespace Go.Proofs.YtmiijlecfiddmaaGreat
open Go.RowKit
abbrev mC (k f o t i l c x : Int) (b : Bool) (A : Option Addr) (n cA : Nat) (si st : Int) (E : Option Addr) (sn cE : Nat) : Array Value :=
 #[.int .i64 k, .int .i64 f, .int .i64 o, .int .i64 t, .int .i64 i, .int .i64 l, .int .i64 c, .int .i64 x, .bool b, .slice A n cA, .int .i64 si, .int .i64 st, .slice E sn cE]
abbrev msgV (m : Msg) (A : Option Addr) (cA : Nat) (E : Option Addr) (cE : Nat) : Value :=
 .agg #[.int .i64 m.k, .int .i64 m.f, .int .i64 m.o, .int .i64 m.t, .int .i64 m.i, .int .i64 m.l, .int .i64 m.c, .int .i64 m.x, .bool m.b, .slice A m.es.length cA, .int .i64 m.s.i, .int .i64 m.s.t, .slice E m.s.d.length cE]
structure qh (w : World) (Z : Nat -> Prop) (m : Msg) (A : Option Addr) (cA : Nat) (E : Option Addr) (cE : Nat) : Prop where
 ents : Ents w Z A m.es.length cA m.es
 hm : cA <= maxLen
 lies : Lies w E m.s.d.length cE m.s.d
 hz : 0 < m.s.d.length -> ∀ g off,E = some ⟨g,off,none⟩ -> Z g
section
variable {w w' : World} {Z Z' : Nat → Prop} {m : Msg} {A E : Option Addr} {cA cE : Nat}
theorem qh.len (h : qh w Z m A cA E cE) : m.es.length <= maxLen := Nat.le_trans h.ents.2.1 h.hm
theorem qh.keep (h : qh w Z m A cA E cE) (hs : w.heap.size <= w'.heap.size) (hk : ∀ k,k < w.heap.size -> Z k -> w'.heap[k]? = w.heap[k]?) : qh w' Z m A cA E cE :=
 ⟨h.ents.keep hs hk,h.hm,h.lies.keep hs fun h0 g off e hg => hk g hg (h.hz h0 g off e),h.hz⟩
theorem qh.keeps (h : qh w Z m A cA E cE) (hk : qe Z w w') : qh w' Z m A cA E cE := h.keep hk.size fun k h1 h2 => hk.block k h1 h2
theorem qh.below (h : qh w Z m A cA E cE) {B : Nat} (hb : Below B w w') (hB : w.heap.size <= B) : qh w' Z m A cA E cE :=
 h.keep hb.size fun k hk _ => hb.block k (Nat.lt_of_lt_of_le hk hB)
theorem qh.mono (h : qh w Z m A cA E cE) (hz : ∀ k,Z k -> Z' k) : qh w Z' m A cA E cE :=
 ⟨h.ents.mono hz,h.hm,h.lies,fun h0 g off e => hz _ (h.hz h0 g off e)⟩
theorem qG (w : World) (Z : Nat -> Prop) : Ents w Z none 0 0 [] := ⟨rfl,Nat.le_refl _,fun _ => rfl,fun h => absurd h (by omega)⟩
theorem qh.zero (w : World) (Z : Nat -> Prop) : qh w Z Msg.zero none 0 none 0 :=
 ⟨qG w Z,Nat.zero_le _,Lies.nil w,fun h => absurd h (by simp [Msg.zero])⟩
theorem qh.of {m' : Msg} (h : qh w Z m A cA E cE) (he : m'.es = m.es) (hs : m'.s.d = m.s.d) : qh w Z m' A cA E cE := by
 obtain ⟨h1,h2,h3,h5⟩ := h
 refine ⟨by rw [he]; exact h1,h2,by rw [hs]; exact h3,by rw [hs]; exact h5⟩
end
theorem qdJ (k f o t i l c x : Int) (b : Bool) (A : Option Addr) (n cA : Nat) (si st : Int) (E : Option Addr) (sn cE : Nat) (w : World) :
 Calls Tryz.prog 14 #[.agg (mC k f o t i l c x b A n cA si st E sn cE)] w fun e w' => e = .returned (.agg (mC k f o t i l c x b A n cA si st E sn cE)) /\ Below w.heap.size w w' := by
 have hb := ((Below.refl w.heap.size w).alloc (Nat.le_refl _) (.cells (mC k f o t i l c x b A n cA si st E sn cE) 27)).alloc (by simp) (.cells (mC k f o t i l c x b A n cA si st E sn cE) 51)
 go_enter Tryz.func14,Tryz.ntmps14
 go_wp2
 refine bodyPost_ret (qB (n := w.heap.size + 1) rfl rfl (heap_alloc2_new _ _ _) Tryz.underlying51 rfl (by kernel_rfl)) rfl ?_
 exact ⟨rfl,hb⟩
end Go.Proofs.YtmiijlecfiddmaaGreat
set_option linter.unusedVariables false
set_option linter.unusedSimpArgs false
set_option maxRecDepth 100000
set_option maxHeartbeats 200000
namespace Go.Proofs.YtmiijlecfiddmaaGreat
open Go.ChangeShapes Go.WideShapes Go.ChangeAt Go.RowKit Go.Deep
section
variable {H : Type} {enc : TypeId × Value → H} {P : Program} {W : World} {sp : Nat → Bool} {hd : Bool}
theorem qab {e : TypeId} {d : DataW H} {n : Nat} (hn : n ∈ d.weights P e) : ∀ {l : List (DataW H)},d ∈ l -> n ∈ DataW.weightsAll P e l
 | x :: l,h => by
   simp only [DataW.weightsAll,List.mem_append]
   rcases List.mem_cons.1 h with rfl | h
   · exact .inl hn
   · exact .inr (qab hn h)
theorem qbi {t e : TypeId} {elems spare : List (DataW H)} {d : DataW H} {n : Nat} (ht : P.underlying t = some (.slice e)) (hd : d ∈ elems) (hn : n ∈ d.weights P e) : n ∈ (DataW.slice elems spare).weights P t := by
 simp only [DataW.weights,ht,List.mem_cons,List.mem_append]
 exact .inr (.inl (qab hn hd))
theorem qbK {A : Option Addr} {len cap m : Nat} {y : DataW H × List MemPlace} (hy : DataW.trod enc Tryz.prog W 0 sp hd m 23 [.slice A len cap] = some y) (hw : ∀ n ∈ y.1.weights Tryz.prog 23,n <= reachBytes) : len <= 140737488355328 := by
 rcases qa6 (d := y.1) (p := y.2) ⟨m,by simpa [Value.cells] using hy⟩ with h | ⟨el,sr,e,hel⟩
 · omega
 · have := hw ((el.length + sr.length) * Tryz.prog.bytesOf 5) (by rw [e]; simp [DataW.weights,Tryz.underlying23])
   rw [show Tryz.prog.bytesOf 5 = 1 by kernel_rfl] at this
   simp only [reachBytes] at this
   omega
def qdK (W : World) (C : List Value) (e : Ent) : Prop :=
 ∃ A c,C = [.int .i64 e.i, .int .i64 e.t, .slice A e.d.length c] /\ c <= maxLen /\ Lies W A e.d.length c e.d /\ (0 < e.d.length -> ∀ a,A = some a -> a.block < W.heap.size)
end
end Go.Proofs.YtmiijlecfiddmaaGreat
set_option linter.unusedVariables false
set_option linter.unusedSimpArgs false
set_option maxRecDepth 100000
set_option maxHeartbeats 200000
namespace Go.Proofs.YtmiijlecfiddmaaGreat
open Go.ChangeShapes Go.WideShapes Go.ChangeAt Go.RowKit Go.Deep
section
variable {H : Type} {enc : TypeId × Value → H} {P : Program} {W : World} {sp : Nat → Bool} {hd : Bool}
theorem qa9 {t e : TypeId} {C fuel : Nat} {v : Value} {d : DataW H} {p : List MemPlace} (ht : P.underlying t = some (.slice e)) (hC : P.cellsOf e = C) (h0 : 0 < C)
 (h : DataW.trod enc P W 0 sp hd fuel t [v] = some (d,p)) (hlt : ∀ x ∈ p,x.block < W.heap.size) :
 ∃ (A : Option Addr) (len cap n : Nat) (Cs : Nat -> List Value) (D : Nat -> DataW H),v = .slice A len cap /\ len <= cap /\ cap <= maxLen /\ (A = none -> cap = 0) /\ (d = .nil /\ len = 0 \/ ∃ rest,d = .slice ((List.range len).map D) rest) ∧
  (0 < len -> ∃ b off,A = some ⟨b,off,none⟩ /\ b < W.heap.size /\ ∀ j,j < len -> ∀ i u,(Cs j)[i]? = some u -> W.cell? ⟨b,off + j * C + i,none⟩ = some u) ∧
  ∀ j,j < len -> (Cs j).length = C /\ ∃ pl,DataW.trod enc P W 0 sp hd n e (Cs j) = some (D j,pl) /\ ∀ x ∈ pl,x.block < W.heap.size := by
 rcases open_slice ht h with ⟨hcs,hx⟩ | ⟨a,len,cap,m,n,D,Pl,hcs,hb,hl,hm,hmm,hx,hi⟩
 · simp at hcs
   subst hcs
   simp only [Prod.mk.injEq] at hx
   exact ⟨none,0,0,0,fun _ => [],fun _ => .nil,rfl,Nat.le_refl _,Nat.zero_le _,fun _ => rfl, .inl ⟨hx.1,rfl⟩,fun h => absurd h (by omega),fun j hj => absurd hj (by omega)⟩
 · simp at hcs
   subst hcs
   simp only [Prod.mk.injEq] at hx
   have hlm : len <= m := by rw [hmm]; split <;> omega
   obtain ⟨Cs,hCs⟩ := Classical.axiomOfChoice (r := fun i cs' => i < m -> W.cells? 0 (a.add (i * P.cellsOf e)) (P.cellsOf e) = some cs' /\ DataW.trod enc P W 0 sp hd n e cs' = some (D i,Pl i)) (fun i => by
    by_cases him : i < m
    · obtain ⟨cs',h1,h2⟩ := hi i him
      exact ⟨cs',fun _ => ⟨h1,h2⟩⟩
    · exact ⟨[],fun h => absurd h him⟩)
   rw [hC] at hCs
   refine ⟨some a,len,cap,n,Cs,D,rfl,hl,hm,(fun h => by cases h), .inr ⟨_,hx.1⟩,fun hpos => ?_,fun j hj => ?_⟩
   · have hcell : ∀ j,j < len -> ∀ i u,(Cs j)[i]? = some u -> W.cell? (a.add (j * C + i)) = some u := fun j hj i u hu => by
      obtain ⟨hc,_⟩ := hCs j (by omega)
      obtain ⟨_,hcl,hat⟩ := World.cells?_some hc
      have hic : i < C := by
       rcases Nat.lt_or_ge i (Cs j).length with h1 | h1
       · omega
       · rw [List.getElem?_eq_none h1] at hu; cases hu
      have := hat i hic
      rw [qdb] at this
      rw [this,hu]
     obtain ⟨b,off,spot⟩ := a
     obtain ⟨hc0,_⟩ := hCs 0 (by omega)
     obtain ⟨_,hcl0,_⟩ := World.cells?_some hc0
     have g0 : (Cs 0)[0]? = some ((Cs 0)[0]'(by omega)) := List.getElem?_eq_getElem (by omega)
     have hspot : spot = none := by simpa [Addr.add] using World.cell?_spot (hcell 0 hpos 0 _ g0)
     subst hspot
     refine ⟨b,off,rfl,?_,fun j hj i u hu => ?_⟩
     · have hin : MemPlace.cell b off ∈ p := by
        rw [hx.2]
        refine List.mem_append_left _ (MemPlace.mem_row.2 ⟨0,?_,by simp⟩)
        rw [hC]; exact Nat.mul_pos (by omega) h0
       exact hlt _ hin
     · have := hcell j hj i u hu
       rw [qbe,<- Nat.add_assoc] at this
       exact this
   · obtain ⟨hc,hdt⟩ := hCs j (by omega)
     obtain ⟨_,hcl,_⟩ := World.cells?_some hc
     exact ⟨hcl,Pl j,hdt,fun x hx' => hlt x (by rw [hx.2]; exact List.mem_append_right _ (List.mem_flatMap.2 ⟨j,by simp; omega,hx'⟩))⟩
/-- A slice of entries. -/
theorem qdf {fuel : Nat} {v : Value} {d : DataW H} {p : List MemPlace}
 (h : DataW.trod enc Tryz.prog W 0 sp hd fuel 22 [v] = some (d,p)) (hlt : ∀ x ∈ p,x.block < W.heap.size) :
 ∃ (A : Option Addr) (len cap : Nat) (ls : List Ent),v = .slice A len cap /\ cap <= maxLen /\ Ents W (· < W.heap.size) A len cap ls /\ ((∀ n ∈ d.weights Tryz.prog 22,n <= reachBytes) -> ∀ e ∈ ls,e.d.length <= 140737488355328) := by
 obtain ⟨A,len,cap,n,Cs,D,rfl,hl,hm,hnone,hform,hrow,hel⟩ := qa9 Tryz.underlying22 (show Tryz.prog.cellsOf 78 = 3 by kernel_rfl) (by omega) h hlt
 obtain ⟨R,hR⟩ := Classical.axiomOfChoice (r := fun j (r : Ent) => j < len -> qdK W (Cs j) r /\ ((∀ n ∈ (D j).weights Tryz.prog 78,n <= reachBytes) -> r.d.length <= 140737488355328)) (fun j => by
  by_cases hj : j < len
  · obtain ⟨hlen,pl,hdt,hp⟩ := hel j hj
    obtain ⟨ys,m,_,hx,_,hyl,hf⟩ := DataW.trod_struct Tryz.underlying78 hdt
    have hys : ys.length = 3 := hyl
    obtain ⟨m2,hfi⟩ := qak (x := (D j,pl)) Tryz.underlying78 (by kernel_rfl) (by rw [hlen]; rfl) hdt hp
    obtain ⟨v0,y0,g0,t0,_⟩ := hfi 0 _ rfl
    obtain ⟨v1,y1,g1,t1,_⟩ := hfi 1 _ rfl
    obtain ⟨v2,y2,g2,t2,p2⟩ := hfi 2 _ rfl
    obtain ⟨i,e0,_,_⟩ := DataW.trod_int Tryz.underlying2 t0
    obtain ⟨t,e1,_,_⟩ := DataW.trod_int Tryz.underlying2 t1
    obtain ⟨E,el,c,r,rfl,hc,hlies,hz⟩ := qaC Tryz.underlying23 Tryz.underlying5 (by kernel_rfl) t2 p2
    obtain rfl : r.length = el := hlies.1
    have e0' : v0 = .int .i64 i := by injection e0
    have e1' : v1 = .int .i64 t := by injection e1
    subst e0' e1'
    have hcs : Cs j = [.int .i64 i, .int .i64 t, .slice E r.length c] := by
     match Cs j,hlen,g0,g1,g2 with
     | [a,b',c'],_,g0,g1,g2 =>
       injection g0 with g0; injection g1 with g1; injection g2 with g2
       subst g0 g1 g2
       rfl
    refine ⟨⟨i,t,r⟩,fun _ => ⟨⟨E,c,?_,hc,hlies,hz⟩,fun hw => ?_⟩⟩
    · exact hcs
    · have h2 : DataW.trod enc Tryz.prog W 0 sp hd m 23 (List.take (Tryz.prog.cellsOf 23) [.slice E r.length c]) = ys[2]? := by
       have := hf 2 _ rfl
       rw [hcs] at this
       exact this
      have hD : D j = .agg (ys.map (·.1)) := congrArg Prod.fst hx
      rw [show Tryz.prog.cellsOf 23 = 1 by kernel_rfl] at h2
      have h2' : DataW.trod enc Tryz.prog W 0 sp hd m 23 [.slice E r.length c] = some (ys[2]'(by omega)) := by rw [<- List.getElem?_eq_getElem]; exact h2
      refine qbK h2' fun n hn => hw n ?_
      rw [hD]
      simp only [DataW.weights,Tryz.underlying78]
      exact DataW.weights_mem_each (j := 2) (t := 23) (d := (ys[2]'(by omega)).1) rfl (by rw [List.getElem?_map,List.getElem?_eq_getElem (by omega)]; rfl) n hn
  · exact ⟨⟨0,0,[]⟩,fun h => absurd h hj⟩)
 refine ⟨A,len,cap,(List.range len).map R,rfl,hm,⟨by simp,hl,hnone,fun hpos => ?_⟩,fun hw e he => ?_⟩
 · obtain ⟨g,off,e,hg,hc⟩ := hrow hpos
   refine ⟨g,off,e,hg,hg,fun j hj => ?_⟩
   have hj' : j < len := by simpa using hj
   obtain ⟨E,c,e1,e2,e3,e4⟩ := (hR j hj').1
   simp only [List.getElem_map,List.getElem_range]
   refine ⟨E,c,?_,hc j hj' 1 _ (by rw [e1]; rfl),hc j hj' 2 _ (by rw [e1]; rfl),Nat.le_refl _,e3,fun h0 q o eq => e4 h0 _ eq⟩
   have := hc j hj' 0 (.int .i64 (R j).i) (by rw [e1]; rfl)
   rwa [Nat.add_zero] at this
 · obtain ⟨j,hj,rfl⟩ := List.mem_map.1 he
   have hj' : j < len := by simpa using hj
   refine (hR j hj').2 fun n hn => hw n ?_
   rcases hform with ⟨_,h0⟩ | ⟨rest,rfl⟩
   · omega
   · exact qbi Tryz.underlying22 (List.mem_map.2 ⟨j,hj,rfl⟩) hn
end
end Go.Proofs.YtmiijlecfiddmaaGreat
