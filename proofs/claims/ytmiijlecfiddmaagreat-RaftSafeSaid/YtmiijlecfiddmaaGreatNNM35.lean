/- What a node does when it hears or wakes keeps what holds of a cluster (4: entries, answers to them, snaps). Plain mathematics. -/
import Derived.Test.YtmiijlecfiddmaaGreatNNM34
set_option linter.unusedVariables false
set_option linter.unusedSimpArgs false
set_option maxRecDepth 100000
set_option maxHeartbeats 200000
namespace Go.Proofs.YtmiijlecfiddmaaGreat
section
variable {n : Nat} {K : Int} {all : List Ent} {w : W} {k : Nat} {r : Node}
theorem qe.answer (O : WOk n K w) (N : qe n K all w k r) (h0 : r.ro = 0) {f c : Nat} {Y : List Ent} (hf : f < n) (hfk : f ≠ k) (hll : w.g.ll r.ht = some (c,Y)) {i x : Int} {b : Bool}
 (hi : 0 <= i /\ i <= 1000000) (hx : 0 <= x /\ x <= w.cxx r.ht) (hb : b = true -> i.toNat <= Y.length /\ Y.take i.toNat <+: w.g.log k) : Goes n K all w k (r.say ⟨6,0,f,r.ht,i,0,0,x,b,[],Node.noEnt⟩) := by
 have hKK := O.kk;have htk := O.tk k;rw [N.tm] at htk;have hxk := O.xk r.ht
 have ht1 : 1 <= r.ht := by
  obtain ⟨_,_,_,X,_,hX,_⟩ := O.inv.cll _ _ _ hll;exact (O.cr _ _ _ hX).2.2
 obtain ⟨j,hj1,hj2,hj3⟩ : ∃ j : Nat,j <= Y.length /\ Y.take j <+: w.g.log k /\ (b = true -> j = i.toNat) := by
  cases b with
  | true => exact ⟨i.toNat,(hb rfl).1,(hb rfl).2,fun _ => rfl⟩
  | false => exact ⟨0,by omega,by simp,fun h => by cases h⟩
 have S1 : Step k w (wAcc w k r.ht Y j) := Step.acc;have O1 := O.acc N.tm hll hj1;have S2 : Step k (wAcc w k r.ht Y j) (wRac (wAcc w k r.ht Y j) k r.ht x) := Step.rac N.tm;have O2 : WOk n K (wRac (wAcc w k r.ht Y j) k r.ht x) := O1.rac N.tm hx.2;have S := S1.trans S2;have hlog : (wRac (wAcc w k r.ht Y j) k r.ht x).g.log k = w.g.log k := (qaS w k r.ht Y j).1 hj2;refine ⟨_,S,O2,qe.say ?_ ?_⟩
 · refine ⟨N.id,by rw [hlog]; exact N.fu,N.tm,N.vo,N.hv,N.ld,by rw [hlog]; exact N.cm,by rw [hlog]; exact N.co.step S,by rw [hlog]; exact N.sn,by rw [hlog]; exact N.al,N.ro,N.rd,N.se,fun h => ?_,fun h => ?_,fun m hm => (N.ms m hm).step S⟩ <;> omega
 · show qx n K all _ ⟨6,(r.id : Nat),(f : Nat),r.ht,i,0,0,x,b,[],Node.noEnt⟩;have hid := N.id;rw [hid.1]
   refine ⟨?_,⟨?_,?_⟩,⟨?_,?_⟩,?_,?_,?_,?_,?_,?_,?_⟩ <;> (try dsimp only)
   · refine qbf (K := K) hid.2.2.2 ?_ ⟨?_,?_⟩ ⟨?_,?_⟩ ?_ ⟨ht1,?_⟩ ⟨hi.1,?_⟩ ⟨?_,?_⟩ ⟨?_,?_⟩ ⟨hx.1,?_⟩ ?_ ?_ rfl rfl ?_ <;> dsimp only [Node.noEnt] <;> try omega
     · simp [bareB]
     · simp
     · rfl
   · omega
   · omega
   · omega
   · omega
   · omega
   · intros; omega
   · intro h; omega
   · intro h; omega
   · intro h; omega
   · intro _;refine ⟨fun hbt => ?_,?_⟩
     · show i <= ((wAcc w k r.ht Y j).g.ack (k : Int).toNat r.ht : Nat);rw [Int.toNat_natCast,qgE,if_pos ⟨rfl,rfl⟩];have := hj3 hbt;omega
     · rw [Int.toNat_natCast,qcZ,if_pos ⟨rfl,rfl⟩];exact Int.le_max_right _ _
   · intro h; omega
theorem qeu (O : WOk n K w) (N : qe n K all w k r) {t lead : Int} (ht : r.ht = t) (h1 : 1 <= t) : Step k w (qaY w k t) /\ WOk n K (qaY w k t) /\ qe n K all (qaY w k t) k (r.fall t lead) /\ (r.fall t lead).ht = t := by
 have htk := O.tk k
 have hle : w.g.term k <= t := by rw [N.tm]; omega
 refine ⟨Step.bump hle,O.bump hle (by rw [<- ht,<- N.tm]; exact htk.2),N.fall O (by omega) (fun h => by omega),?_⟩;show (if r.ht < t then t else r.ht) = t
 split <;> omega
theorem qW {α : Type} {X Y : List α} (h : X <+: Y) {i : Nat} (hi : i <= X.length) : Y.take i = X.take i := RafCore.take_pre_take h i hi
theorem qe.app (O : WOk n K w) (N : qe n K all w k r) {m : Msg} (M : qx n K all w m) (ho : m.o = k) (hk : m.k = 5) (ht : r.ht = m.t) : Goes n K all w k (r.app m) := by
 obtain ⟨h1,h2,h3,h4⟩ := qaz M;have hf := M.f;unfold Node.app
 split
 · exact .stay O N
 · obtain ⟨S1,O1,N1,e1⟩ := qeu (lead := m.f) O N ht h2;have M1 := M.step S1;refine .after S1 ?_;dsimp only;generalize hr1 : r.fall m.t m.f = r1 at N1 e1 ⊢
   have hro : r1.ro = 0 := by rw [<- hr1]; rfl
   obtain ⟨c,Y,X,c1,c2,c3,c4,c5,c6,c7,c8,c9,c10⟩ := M1.k5 hk;generalize qaY w k m.t = v at N1 O1 M1 c1 c8 c10 S1 ⊢;have hKK := O1.kk;have hlk := O1.lk k;have hcm := N1.cm;have hi0 := N1.fu.i0;have hyl := (O1.yr _ _ _ c1).2.2
   have c1' : v.g.ll r1.ht = some (c,Y) := by rw [e1]; exact c1
   have hhas : (v.g.log k).take r1.cm.toNat <+: Y := N1.co.led O1 (Int.le_of_eq e1) c1
   split
   · -- it has as much already
     have hlen := hhas.length_le;rw [List.length_take] at hlen;refine N1.answer O1 hro (f := m.f.toNat) (by omega) (by omega) c1' (i := r1.cm) (x := m.x) (b := true) ⟨by omega,by omega⟩ ⟨c9,by rw [e1]; exact c10⟩ (fun _ => ⟨by omega,?_⟩);rw [qW hhas (by rw [List.length_take]; omega),List.take_take,Nat.min_self];exact List.take_prefix _ _
   · rename_i hge
     have hrun : runB m.i m.l m.es = true := by
      have := M.right;unfold rightM at this;simp only [Bool.and_eq_true] at this;exact this.2.2.1.2
     by_cases hat : r1.lg.at_ m.i = some m.l
     · have hXl : X <= Y.length := by omega
       obtain ⟨lg',t1,t2,t3,t4,t5,t6⟩ := N1.fu.take (m := m.es.length) (O1.yr _ _ _ c1).1 (mat O1 k c1) hXl (by rw [<- c2,<- c4]; exact hat);rw [<- c5,<- c2,<- c4] at t1;rw [<- c5] at t6;rw [t1];dsimp only;have hm : X + m.es.length <= Y.length := c3;have S2 : Step k v (wAcc v k m.t Y (X + m.es.length)) := Step.acc;have O2 := O1.acc (by rw [N1.tm,e1]) c1 hm
       -- the whole log that it has then
       have hF : Full ((wAcc v k m.t Y (X + m.es.length)).g.log k) lg' /\ Y.take (X + m.es.length) <+: (wAcc v k m.t Y (X + m.es.length)).g.log k /\ ((wAcc v k m.t Y (X + m.es.length)).g.log k).take X = (v.g.log k).take X := by
        rcases t6 with ⟨rfl,hp⟩ | ⟨hfu,hp,_⟩
        · rw [(qaS v k m.t Y _).1 hp];exact ⟨N1.fu,hp,rfl⟩
        · rw [(qaS v k m.t Y _).2 hp];refine ⟨hfu,List.prefix_refl _,?_⟩;rw [List.take_take,Nat.min_eq_left (by omega),t4]
       generalize hF' : (wAcc v k m.t Y (X + m.es.length)).g.log k = F' at hF;obtain ⟨f1,f2,f3⟩ := hF;have hFl := f2.length_le;rw [List.length_take] at hFl
       have hlow : ∀ i : Nat,i <= X -> F'.take i = (v.g.log k).take i := fun i hi => by
        have := congrArg (List.take i) f3
        rwa [List.take_take,List.take_take,Nat.min_eq_left hi] at this
       have N2 : ∀ cm' : Int,(cm' = r1.cm \/ r1.cm < cm' /\ cm' <= m.c /\ cm' <= ((X + m.es.length : Nat) : Int)) -> qe n K all (wAcc v k m.t Y (X + m.es.length)) k { r1 with lg := lg',cm := cm' } := by
        intro cm' hcm';refine ⟨N1.id,by rw [hF']; exact f1,N1.tm,N1.vo,N1.hv,N1.ld,?_,?_,?_,?_,N1.ro,N1.rd,N1.se,fun h => ?_,fun h => ?_,fun y hy => (N1.ms y hy).step S2⟩
        · rw [hF'];show lg'.i <= cm' /\ cm' <= _;rw [t2]
          rcases hcm' with rfl | ⟨q1,q2,q3⟩ <;> constructor <;> omega
        · rw [hF'];show Com _ r1.ht (F'.take cm'.toNat);rcases hcm' with rfl | ⟨q1,q2,q3⟩
          · rw [hlow _ (by omega)];exact N1.co.step S2
          · rw [qW f2 (by rw [List.length_take]; omega),List.take_take,Nat.min_eq_left (by omega),e1];exact (c8.pre (RafCore.take_mono Y (by omega))).step S2
        · rw [hF'];show r1.sn.i = lg'.i /\ r1.sn.t = lg'.t /\ (0 < r1.sn.i -> r1.sn.d = Sim.digest (F'.take r1.sn.i.toNat)) /\ (r1.sn.i = 0 -> r1.sn.d = []);have hsn := N1.sn;rw [t2,t3,hlow _ (by omega)];exact hsn
        · rw [hF'];show F'.take lg'.i.toNat <+: all;rw [t2,hlow _ (by omega)];exact N1.al
        · have h : r1.ro = 2 := h;omega
        · have h : r1.ro = 3 := h;omega
       have fin : ∀ cm',qe n K all (wAcc v k m.t Y (X + m.es.length)) k { r1 with lg := lg',cm := cm' } -> Goes n K all v k (({ r1 with lg := lg',cm := cm' } : Node).say ⟨6,0,(m.f.toNat : Nat),r1.ht,((X + m.es.length : Nat) : Int),0,0,m.x,true,[],Node.noEnt⟩) := fun cm' N3 => by
        refine .after S2 (N3.answer O2 hro (f := m.f.toNat) (c := c) (Y := Y) (by omega) (by omega) c1' (by omega) ⟨c9,?_⟩ (fun _ => ?_))
        · show m.x <= v.cxx r1.ht;rw [e1]; exact c10
        · rw [Int.toNat_natCast,hF'];exact ⟨hm,f2⟩
       refine fin _ (N2 _ ?_)
       split
       · rename_i hq;obtain ⟨_,hq⟩ := hq
         right
         omega
       · exact .inl rfl
     · rw [RL.take_no hrun hat];dsimp only
       have N2 : qe n K all v k { r1 with lg := r1.lg,cm := if false = true /\ r1.cm < min m.c (r1.lg.retry m.i) then min m.c (r1.lg.retry m.i) else r1.cm } := by
        rw [if_neg (by rintro ⟨h,_⟩; cases h)];exact N1
       refine N2.answer O1 hro (f := m.f.toNat) (c := c) (Y := Y) (by omega) (by omega) c1' (b := false) ?_ ⟨c9,by show m.x <= v.cxx r1.ht; rw [e1]; exact c10⟩ (fun h => by cases h);have hle := N1.fu.le;unfold RL.retry;rw [N1.fu.lastI]
       split <;> constructor <;> omega
theorem qe.whole (O : WOk n K w) (N : qe n K all w k r) {m : Msg} (M : qx n K all w m) (ho : m.o = k) (hk : m.k = 7) (ht : r.ht = m.t) : Goes n K all w k (r.whole m) := by
 obtain ⟨h1,h2,h3,h4⟩ := qaz M;have hf := M.f;unfold Node.whole
 split
 · exact .stay O N
 · obtain ⟨S1,O1,N1,e1⟩ := qeu (lead := m.f) O N ht h2;have M1 := M.step S1;refine .after S1 ?_;dsimp only;generalize hr1 : r.fall m.t m.f = r1 at N1 e1 ⊢
   have hro : r1.ro = 0 := by rw [<- hr1]; rfl
   obtain ⟨c,Y,i,c1,c2,c3,c4,c5,c6,c7,c8⟩ := M1.k7 hk;generalize qaY w k m.t = v at N1 O1 M1 c1 c7 S1 ⊢;have hKK := O1.kk;have hlk := O1.lk k;have hyl := (O1.yr _ _ _ c1).2.2
   -- what is committed there is answered
   have fin : ∀ (u : W) (r2 : Node),Step k v u -> WOk n K u -> qe n K all u k r2 -> r2.ro = 0 -> r2.ht = m.t -> Goes n K all v k (r2.say ⟨6,0,(m.f.toNat : Nat),r2.ht,r2.cm,0,0,0,true,[],Node.noEnt⟩) := by
    intro u r2 S2 O2 N2 hro2 e2;obtain ⟨Y',d1,d2⟩ := S2.ll _ _ _ c1;have hhas : (u.g.log k).take r2.cm.toNat <+: Y' := N2.co.led O2 (Int.le_of_eq e2) d1;have hlen := hhas.length_le;rw [List.length_take] at hlen;have hcm := N2.cm;have hi0 := N2.fu.i0;have hlk2 := O2.lk k;refine .after S2 (N2.answer O2 hro2 (f := m.f.toNat) (c := c) (Y := Y') (by omega) (by omega) (by rw [e2]; exact d1) ⟨by omega,by omega⟩ ⟨by omega,?_⟩ (fun _ => ⟨by omega,?_⟩))
    · have := O2.rx k r2.ht;omega
    · rw [qW hhas (by rw [List.length_take]; omega),List.take_take,Nat.min_self];exact List.take_prefix _ _
   by_cases hlt : r1.cm < m.s.i
   · rw [if_pos hlt];have hcm := N1.cm;have hi0 := N1.fu.i0
     by_cases hat : r1.lg.at_ m.s.i = some m.s.t
     · rw [if_pos hat]
       obtain ⟨a1,a2,a3⟩ := N1.fu.at_some hat
       have heq : (v.g.log k).take i = Y.take i := (mat O1 k c1).upto (by omega) c4 (by rw [<- c5,a3,c2,Int.toNat_natCast]);refine fin v _ (Step.refl k v) O1 ?_ hro e1
       exact { N1 with
        cm := ⟨by show r1.lg.i <= m.s.i; omega,a2⟩
        co := by
         show Com v r1.ht ((v.g.log k).take m.s.i.toNat);rw [c2,Int.toNat_natCast,heq,e1];exact c7
        r2 := fun h => by
         have h : r1.ro = 2 := h;omega
        r3 := fun h => by
         have h : r1.ro = 3 := h
         omega }
     · rw [if_neg hat]
       have hnp : ¬ Y.take i <+: v.g.log k := fun hp => hat (by
        have hl := hp.length_le;rw [List.length_take] at hl
        rw [N1.fu.at_is (by omega) (by omega),c2,Int.toNat_natCast,qW hp (by rw [List.length_take]; omega),List.take_take,Nat.min_self,c5])
       have S2 : Step k v (wAcc v k m.t Y i) := Step.acc;have O2 := O1.acc (by rw [N1.tm,e1]) c1 c4;have hF : (wAcc v k m.t Y i).g.log k = Y.take i := (qaS v k m.t Y i).2 hnp
       have hlen : (Y.take i).length = i := by rw [List.length_take]; omega
       have htt : (Y.take i).take i = Y.take i := by rw [List.take_take,Nat.min_self]
       refine fin _ _ S2 O2 ?_ hro e1;refine ⟨N1.id,?_,N1.tm,N1.vo,N1.hv,N1.ld,?_,?_,?_,?_,N1.ro,N1.rd,N1.se,fun h => ?_,fun h => ?_,fun y hy => (N1.ms y hy).step S2⟩
       · rw [hF];show Full _ ⟨m.s.i,m.s.t,[],0⟩;rw [c2,c5];exact Full.base (O1.yr _ _ _ c1).1 c4 0
       · rw [hF,hlen];show m.s.i <= m.s.i /\ m.s.i <= _;omega
       · rw [hF];show Com _ r1.ht ((Y.take i).take m.s.i.toNat);rw [c2,Int.toNat_natCast,htt,e1];exact c7.step S2
       · rw [hF];show m.s.i = m.s.i /\ m.s.t = m.s.t /\ (0 < m.s.i -> m.s.d = Sim.digest ((Y.take i).take m.s.i.toNat)) /\ (m.s.i = 0 -> m.s.d = []);rw [c2,Int.toNat_natCast,htt];exact ⟨rfl,rfl,fun _ => c6,fun h => by omega⟩
       · rw [hF];show (Y.take i).take m.s.i.toNat <+: all;rw [c2,Int.toNat_natCast,htt];exact c8
       · have h : r1.ro = 2 := h;omega
       · have h : r1.ro = 3 := h;omega
   · rw [if_neg hlt];exact fin v r1 (Step.refl k v) O1 N1 hro e1
end
end Go.Proofs.YtmiijlecfiddmaaGreat
set_option linter.unusedVariables false
set_option linter.unusedSimpArgs false
set_option maxRecDepth 100000
set_option maxHeartbeats 200000
namespace Go.Proofs.YtmiijlecfiddmaaGreat
section
variable {n : Nat} {K : Int} {all : List Ent} {w : W} {k : Nat} {r : Node}
theorem qe.said (O : WOk n K w) (N : qe n K all w k r) {m : Msg} (M : qx n K all w m) (ho : m.o = k) (hk : m.k = 2 \/ m.k = 4) (ht : r.ht <= m.t) (ht4 : m.k = 4 -> r.ht = m.t) (hK : m.k = 2 -> m.b = true -> m.t <= K) (hK2 : r.ht < K) (hl : ((w.g.log k).length : Int) < K) : Goes n K all w k (r.said m) := by
 obtain ⟨h1,h2,h3,h4⟩ := qaz M;have hf := M.f;unfold Node.said
 split
 · exact .stay O N
 · rename_i hno
   have hcase : m.k = 4 /\ r.ro = 2 \/ m.k = 2 /\ r.ro = 1 := by
    rcases hk with hk | hk
    · refine .inr ⟨hk,Classical.byContradiction fun h => hno (.inr ⟨hk, .inl h⟩)⟩
    · refine .inl ⟨hk,Classical.byContradiction fun h => hno (.inl ⟨hk,h⟩)⟩
   split
   · exact .stay O N
   dsimp only
   -- what is said is written down
   have N1 : qe n K all w k { r with sy := Node.put r.sy m.f.toNat (if m.b = true then 1 else 2) } := { N with
    r2 := fun h => by
     have h : r.ro = 2 := h;obtain ⟨a1,a2,a3⟩ := N.r2 h;refine ⟨a1,a2,fun j hj => ?_⟩;have hj : (if j = m.f.toNat then (if m.b = true then (1 : Int) else 2) else r.sy j) = 1 := hj
     by_cases hjf : j = m.f.toNat
     · rw [if_pos hjf] at hj
       have hb : m.b = true := by
        cases hb : m.b with
        | true => rfl
        | false => rw [hb] at hj; simp at hj
       have h4 : m.k = 4 := by omega
       have := M.k4 h4 hb;rw [hjf,ht4 h4];refine ⟨by omega,?_⟩;rw [this,ho]
       rfl
     · rw [if_neg hjf] at hj
       exact a3 j hj }
   suffices H : ∀ r1 : Node,qe n K all w k r1 -> r1.ro = r.ro -> r1.ht = r.ht -> Goes n K all w k (if Node.won (r1.yes 1) r1.n = true then (if r1.ro = 1 then r1.run else r1.rise) else if Node.lost (r1.yes 2) r1.n = true then r1.fall r1.ht (-1) else r1) from H _ N1 rfl rfl
   intro r1 N1 e1 e2
   split
   · rename_i hw;rcases hcase with ⟨q1,q2⟩ | ⟨q1,q2⟩
     · rw [if_neg (by omega)]
       have h2 : r1.ro = 2 := by omega
       obtain ⟨a1,a2,a3⟩ := N1.r2 h2;refine N1.rise O h2 (q := fun j => decide (r1.sy j = 1)) ?_ (fun a ha => (a3 a (of_decide_eq_true ha)).2) hl;unfold Node.won at hw;have hw := of_decide_eq_true hw;unfold RafCore.maj;have := hw.2.2;unfold Node.yes at this;rw [N1.id.2.1] at this;exact this
     · rw [if_pos (by omega)];exact N1.run O (by omega) (by omega) hl
   · split
     · refine ⟨qaY w k r1.ht,Step.bump (by rw [N1.tm]; exact Int.le_refl _),O.bump (by rw [N1.tm]; exact Int.le_refl _) (by omega),N1.fall O (Int.le_refl _) (fun _ => rfl)⟩
     · exact .stay O N1
theorem qe.tell (N : qe n K all w k r) : qe n K all w k r.tell :=
 { N with
  rd := fun h => by
   have : r.rd = [] := N.rd h;show r.rd.dropWhile _ = [];rw [this]
   rfl
  r3 := fun h => by
   obtain ⟨a1,a2,a3,a4,a5,a6⟩ := N.r3 h
   exact ⟨a1,a2,a3,a4,fun y hy => a5 y ((List.dropWhile_sublist _).subset hy),a6⟩ }
theorem qe.knows (N : qe n K all w k r) (h3 : r.ro = 3) (nx ma ac : Nat -> Int) (h : ∀ j,j < n -> j ≠ k -> 0 <= ma j /\ ma j <= w.g.ack j r.ht /\ ma j + 1 <= nx j /\ nx j <= (w.g.log k).length + 1 /\ ac j <= w.rac j r.ht) : qe n K all w k { r with nx := nx,ma := ma,ac := ac } :=
 { N with
  r3 := fun _ => by
   obtain ⟨a1,a2,a3,a4,a5,a6⟩ := N.r3 h3
   exact ⟨a1,a2,a3,a4,a5,h⟩ }
theorem Goes.tell (h : Goes n K all w k r) : Goes n K all w k r.tell := by
 obtain ⟨w',h1,h2,h3⟩ := h;exact ⟨w',h1,h2,h3.tell⟩
theorem qb1 (f : Nat -> Int) (a j : Nat) (v : Int) : Node.put f a v j = if j = a then v else f j := rfl
theorem qe.apped (O : WOk n K w) (N : qe n K all w k r) {m : Msg} (M : qx n K all w m) (ho : m.o = k) (hk : m.k = 6) (ht : r.ht = m.t) : Goes n K all w k (r.apped m) := by
 obtain ⟨h1,h2,h3,h4⟩ := qaz M;have hf := M.f
 have hfn : m.f.toNat < n /\ m.f.toNat ≠ k := by omega
 have hi : 0 <= m.i := by
  have := M.right;unfold rightM qb8 at this;simp only [Bool.and_eq_true,qbs] at this;exact this.2.1.1.2.1.1
 obtain ⟨k6a,k6b⟩ := M.k6 hk;rw [<- ht] at k6a k6b;unfold Node.apped
 split
 · exact .stay O N
 · rename_i h3;have h3 : r.ro = 3 := Classical.byContradiction h3;dsimp only
   have N1 : qe n K all w k (if m.x <= r.cx /\ r.ac m.f.toNat < m.x then { r with ac := Node.put r.ac m.f.toNat m.x } else r) ∧
    (if m.x <= r.cx /\ r.ac m.f.toNat < m.x then { r with ac := Node.put r.ac m.f.toNat m.x } else r).ro = 3 ∧
    (if m.x <= r.cx /\ r.ac m.f.toNat < m.x then { r with ac := Node.put r.ac m.f.toNat m.x } else r).ht = r.ht ∧
    (if m.x <= r.cx /\ r.ac m.f.toNat < m.x then { r with ac := Node.put r.ac m.f.toNat m.x } else r).lg = r.lg := by
    split
    · refine ⟨N.knows h3 r.nx r.ma (Node.put r.ac m.f.toNat m.x) (fun j hj hjk => ?_),h3,rfl,rfl⟩;obtain ⟨b1,b2,b3,b4,b5⟩ := (N.r3 h3).2.2.2.2.2 j hj hjk;refine ⟨b1,b2,b3,b4,?_⟩;rw [qb1]
      split
      · rename_i hq;rw [hq];exact k6b
      · exact b5
    · exact ⟨N,h3,rfl,rfl⟩
   generalize (if m.x <= r.cx /\ r.ac m.f.toNat < m.x then { r with ac := Node.put r.ac m.f.toNat m.x } else r) = r1 at N1 ⊢;obtain ⟨N1,e3,e1,e2⟩ := N1;have hlast : r1.lg.lastI = (w.g.log k).length := N1.fu.lastI;have A := (N1.r3 e3).2.2.2.2.2;obtain ⟨f1,f2,f3,f4,f5⟩ := A _ hfn.1 hfn.2;rw [e1] at f2
   split
   · refine Goes.tell (.stay O ?_);refine qe.send O (N1.knows e3 (Node.put r1.nx m.f.toNat (max (min (r1.nx m.f.toNat - 1) (min m.i r1.lg.lastI + 1)) (r1.ma m.f.toNat + 1))) r1.ma r1.ac (fun j hj hjk => ?_)) e3 hfn.1 hfn.2;obtain ⟨b1,b2,b3,b4,b5⟩ := A j hj hjk
     refine ⟨b1,b2,?_,?_,b5⟩ <;> rw [qb1] <;> split
     · rename_i hq;rw [hq];exact Int.le_max_right _ _
     · exact b3
     · rename_i hq;omega
     · exact b4
   · rename_i hb
     have hb : m.b = true := by
      cases hb' : m.b with
      | true => rfl
      | false => exact absurd hb' hb
     have hka := k6a hb
     have N2 : qe n K all w k { r1 with ma := Node.put r1.ma m.f.toNat (max (r1.ma m.f.toNat) (min m.i r1.lg.lastI)),nx := Node.put r1.nx m.f.toNat (max (r1.nx m.f.toNat) (Node.put r1.ma m.f.toNat (max (r1.ma m.f.toNat) (min m.i r1.lg.lastI)) m.f.toNat + 1)) } := by
      refine N1.knows e3 _ _ r1.ac (fun j hj hjk => ?_);obtain ⟨b1,b2,b3,b4,b5⟩ := A j hj hjk;rw [e1] at b2 ⊢;rw [qb1,qb1,qb1,if_pos rfl,hlast]
      by_cases hq : j = m.f.toNat
      · rw [if_pos hq,if_pos hq,hq];rw [hq,e1] at b5
        refine ⟨?_,?_,?_,?_,b5⟩ <;> omega
      · rw [if_neg hq,if_neg hq];rw [e1] at b5;exact ⟨b1,b2,b3,b4,b5⟩
     obtain ⟨w',S,O',N3,g3,_⟩ := N2.settle O e3;refine Goes.tell ⟨w',S,O',?_⟩
     split
     · exact N3.sendAll O' g3
     · split
       · exact N3.send O' g3 hfn.1 hfn.2
       · exact N3
theorem qe.step_ok (O : WOk n K w) (N : qe n K all w k r) {m : Msg} (M : qx n K all w m) (ho : m.o = k) (hK : r.ht < K) (hl : ((w.g.log k).length : Int) < K) (hm1 : m.k = 2 -> m.b = true -> m.t <= K) (hm2 : m.k ≠ 1 -> (m.k ≠ 2 \/ m.b = false) -> m.t < K) : Goes n K all w k (r.step m) := by
 obtain ⟨h1,h2,h3,h4⟩ := qaz M;have hf := M.f;have hid := N.id;have htk := O.tk k;rw [N.tm] at htk;unfold Node.step
 split
 · rename_i hlt
   split
   · refine .stay O (N.say ?_);show qx n K all w ⟨6,(r.id : Nat),(m.f.toNat : Nat),r.ht,0,0,0,0,false,[],Node.noEnt⟩;rw [hid.1];exact qb0 O hid.2.2.2 (.inr (.inr ⟨rfl,rfl⟩)) hid.2.2.1 (by omega) (by omega) (by omega) (by omega) (fun _ => by omega) (fun h => by omega)
   · split
     · rename_i hq;refine .stay O (N.say ?_);show qx n K all w ⟨m.k + 1,(r.id : Nat),(m.f.toNat : Nat),r.ht,0,0,0,0,false,[],Node.noEnt⟩;rw [hid.1];exact qb0 O hid.2.2.2 (by omega) hid.2.2.1 (by omega) (by omega) (by omega) (by omega) (fun _ => by omega) (fun _ h => by cases h)
     · exact .stay O N
 · rename_i hge;dsimp only
   -- a later term first
   have first : ∃ w1,Step k w w1 /\ WOk n K w1 /\ qe n K all w1 k (if r.ht < m.t /\ m.k ≠ 1 /\ (m.k ≠ 2 \/ m.b = false) then r.fall m.t (if m.k = 5 \/ m.k = 7 then m.f else -1) else r) /\ w1.g.log k = w.g.log k ∧
    (if r.ht < m.t /\ m.k ≠ 1 /\ (m.k ≠ 2 \/ m.b = false) then r.fall m.t (if m.k = 5 \/ m.k = 7 then m.f else -1) else r).ht < K ∧
    (if r.ht < m.t /\ m.k ≠ 1 /\ (m.k ≠ 2 \/ m.b = false) then r.fall m.t (if m.k = 5 \/ m.k = 7 then m.f else -1) else r).ht <= m.t ∧
    (m.k ≠ 1 -> m.k ≠ 2 -> (if r.ht < m.t /\ m.k ≠ 1 /\ (m.k ≠ 2 \/ m.b = false) then r.fall m.t (if m.k = 5 \/ m.k = 7 then m.f else -1) else r).ht = m.t) := by
    split
    · rename_i hq;obtain ⟨q1,q2,q3⟩ := hq
      have hle : w.g.term k <= m.t := by rw [N.tm]; omega
      have e : (r.fall m.t (if m.k = 5 \/ m.k = 7 then m.f else -1)).ht = m.t := by
       show (if r.ht < m.t then m.t else r.ht) = m.t;rw [if_pos q1]
      have := hm2 q2 q3;refine ⟨_,Step.bump hle,O.bump hle (by omega),N.fall O (by omega) (fun h => by omega),rfl,by rw [e]; exact this,by rw [e]; exact Int.le_refl _,fun _ _ => e⟩
    · rename_i hq;refine ⟨w,Step.refl k w,O,N,rfl,hK,by omega,fun a b => ?_⟩
      apply Classical.byContradiction
      intro hne;exact hq ⟨by omega,a, .inl b⟩
   generalize (if r.ht < m.t /\ m.k ≠ 1 /\ (m.k ≠ 2 \/ m.b = false) then r.fall m.t (if m.k = 5 \/ m.k = 7 then m.f else -1) else r) = r1 at first ⊢;obtain ⟨w1,S,O1,N1,e1,e2,e3,e4⟩ := first;have M1 := M.step S;refine .after S ?_;rw [<- e1] at hl
   split
   · exact .stay O1 (N1.poll O1 M1 ho ‹_› e3)
   · split
     · exact N1.said O1 M1 ho (by omega) e3 (fun h => e4 (by omega) (by omega)) hm1 e2 hl
     · split
       · exact N1.vote O1 M1 ho ‹_› (e4 (by omega) (by omega))
       · split
         · exact N1.app O1 M1 ho ‹_› (e4 (by omega) (by omega))
         · split
           · exact N1.apped O1 M1 ho ‹_› (e4 (by omega) (by omega))
           · exact N1.whole O1 M1 ho (by omega) (e4 (by omega) (by omega))
theorem qe.compact (N : qe n K all w k r) {x : Int} {d : List UInt8} (hx : x <= r.cm) (hall : (w.g.log k).take x.toNat <+: all) (hd : d = Sim.digest ((w.g.log k).take x.toNat)) : qe n K all w k (r.compact x d).1 := by
 unfold Node.compact
 split
 · exact N
 · rename_i t hat
   split
   · exact N
   · rename_i hq
     obtain ⟨b1,b2,b3⟩ := N.fu.at_some hat
     rw [N.fu.good.compact hat];show qe n K all w k { r with lg := r.lg.cut x t,sn := ⟨x,t,d⟩ }
     exact { N with
      fu := N.fu.cut hat
      cm := ⟨hx,N.cm.2⟩
      sn := ⟨rfl,rfl,fun _ => hd,fun h => by
       have h : x = 0 := h
       omega⟩
      al := hall }
end
end Go.Proofs.YtmiijlecfiddmaaGreat
set_option linter.unusedVariables false
set_option linter.unusedSimpArgs false
set_option maxRecDepth 100000
set_option maxHeartbeats 200000
namespace Go.Proofs.YtmiijlecfiddmaaGreat
theorem qkY {l : List Ent} {i : Int} (h : qX i l) (c : Int) : (l.filter fun e => decide (i + 1 <= e.i) && decide (e.i <= c)) = l.take (c - i).toNat := by
 rw [show (c - i).toNat = ((c + 1) - i - 1).toNat by omega,<- filter_lt h]
 apply List.filter_congr
 intro e he;obtain ⟨j,hj,rfl⟩ := List.getElem_of_mem he;have := h j hj;rw [decide_eq_true (by omega),Bool.true_and,decide_eq_decide];omega
theorem qd2 {F : List Ent} (hF : runB 0 0 F = true) : ∀ (m b : Nat) (all : List Ent),b + m <= F.length -> b <= all.length -> (all <+: F.take (b + m) \/ F.take (b + m) <+: all) →
 Sim.join all ((F.drop b).take m) = some (if b + m <= all.length then all else F.take (b + m))
 | 0,b,all,h1,h2,h3 => by
   rw [List.take_zero,if_pos (by omega)]
   rfl
 | m + 1,b,all,h1,h2,h3 => by
   have hb : b < F.length := by omega
   have hl : (F.take (b + (m + 1))).length = b + (m + 1) := by rw [List.length_take]; omega
   have hidx := qbn hF b hb;rw [List.drop_eq_getElem_cons hb,List.take_succ_cons];unfold Sim.join
   have e1 : b + (m + 1) = b + 1 + m := by omega
   by_cases hlt : b < all.length
   · rw [if_pos (by omega)]
     have hx : all[b]'hlt = F[b] := by
      rcases h3 with h3 | h3
      · have := RafCore.pre_get h3 (List.getElem?_eq_getElem hlt);rw [List.getElem?_take_of_lt (by omega),List.getElem?_eq_getElem hb] at this;exact (Option.some.inj this).symm
      · have hg : (F.take (b + (m + 1)))[b]? = some F[b] := by rw [List.getElem?_take_of_lt (by omega),List.getElem?_eq_getElem hb]
        have := RafCore.pre_get h3 hg;rw [List.getElem?_eq_getElem hlt] at this;exact Option.some.inj this
     rw [show (F[b].i - 1).toNat = b by omega,List.getElem?_eq_getElem hlt];dsimp only;rw [hx,qhE,if_pos rfl,e1];exact qd2 hF m (b + 1) all (by omega) (by omega) (by rw [<- e1]; exact h3)
   · rw [if_neg (by omega)]
     have hbl : all.length = b := by omega
     have hpre : all <+: F.take (b + (m + 1)) := by
      rcases h3 with h3 | h3
      · exact h3
      · have := h3.length_le;omega
     have hall : all ++ [F[b]] = F.take (b + 1) := by
      have e2 := RafCore.pre_take hpre;rw [hbl,List.take_take,Nat.min_eq_left (by omega)] at e2;rw [e2,<- List.take_succ_eq_append_getElem hb]
     rw [hall,qd2 hF m (b + 1) (F.take (b + 1)) (by omega) (by rw [List.length_take]; omega) (.inl (RafCore.take_mono F (by omega)))]
     congr 1
     have hl2 : (F.take (b + 1)).length = b + 1 := by rw [List.length_take]; omega
     rw [hl2,e1]
     split
     · rename_i hq
       have hm : m = 0 := by omega
       subst hm;rw [if_neg (by omega)]
     · rw [if_neg (by omega)]
section
variable {n : Nat} {K : Int} {w : W} {k : Nat} {s : Sim}
theorem qe.part {all : List Ent} {r : Node} (N : qe n K all w k r) (c : Int) : r.part (r.lg.i + 1) c = ((w.g.log k).drop r.lg.i.toNat).take (c - r.lg.i).toNat := by
 unfold Node.part;rw [qkY N.fu.good.one,N.fu.l]
theorem qkZ (N : qe n K s.all w k (s.r k)) (L : ∀ x ∈ s.ldr,∃ Y,w.g.ll x.1 = some (x.2,Y)) : (s.lone k).2 = true /\ (∀ x ∈ (s.lone k).1.ldr,∃ Y,w.g.ll x.1 = some (x.2,Y)) /\ ∃ l,(s.lone k).1 = { s with ldr := l } := by
 unfold Sim.lone
 split
 · exact ⟨rfl,L,s.ldr,rfl⟩
 · rename_i h3;have h3 : (s.r k).ro = 3 := Classical.byContradiction h3;obtain ⟨a1,_⟩ := N.r3 h3
   split
   · rename_i x hx;have h1 := List.find?_some hx;have h1 : x.1 = (s.r k).ht := of_decide_eq_true h1;obtain ⟨Y,h2⟩ := L x (List.mem_of_find?_eq_some hx);rw [h1,a1] at h2;refine ⟨decide_eq_true (Prod.mk.inj (Option.some.inj h2)).1.symm,L,s.ldr,rfl⟩
   · refine ⟨rfl,fun x hx => ?_,_,rfl⟩;rcases List.mem_append.1 hx with hx | hx
     · exact L x hx
     · obtain rfl : x = _ := by simpa using hx
       exact ⟨_,a1⟩
theorem qiT (O : WOk n K w) (N : qe n K s.all w k (s.r k)) (A : ∃ T,Com w T s.all) :
 (s.agrees k).2 = true /\ ∃ all,(s.agrees k).1 = { s with all := all } /\ s.all <+: all /\ (∃ T,Com w T all) /\ (w.g.log k).take (s.r k).cm.toNat <+: all := by
 obtain ⟨T,A⟩ := A;have hcm := N.cm;have hi0 := N.fu.i0;have hb := N.al.length_le;rw [List.length_take] at hb;have hle := N.fu.le;have hcmp := (N.co.both O A).symm
 have e0 : (s.r k).lg.i.toNat + ((s.r k).cm - (s.r k).lg.i).toNat = (s.r k).cm.toNat := by omega
 have hlen : (((w.g.log k).drop (s.r k).lg.i.toNat).take ((s.r k).cm - (s.r k).lg.i).toNat).length = ((s.r k).cm - (s.r k).lg.i).toNat := by
  rw [List.length_take,List.length_drop];omega
 have J := qd2 (O.lr k) ((s.r k).cm - (s.r k).lg.i).toNat (s.r k).lg.i.toNat s.all (by omega) (by omega) (by rw [e0]; exact hcmp);rw [e0] at J
 have hcl : ((w.g.log k).take (s.r k).cm.toNat).length = (s.r k).cm.toNat := by rw [List.length_take]; omega
 have hall : s.all <+: (if (s.r k).cm.toNat <= s.all.length then s.all else (w.g.log k).take (s.r k).cm.toNat) ∧
  (∃ T,Com w T (if (s.r k).cm.toNat <= s.all.length then s.all else (w.g.log k).take (s.r k).cm.toNat)) ∧
  (w.g.log k).take (s.r k).cm.toNat <+: (if (s.r k).cm.toNat <= s.all.length then s.all else (w.g.log k).take (s.r k).cm.toNat) := by
  split
  · rename_i hq;refine ⟨List.prefix_refl _,⟨T,A⟩,?_⟩;rcases hcmp with h | h
    · have h2 := h.length_le;have e : s.all = (w.g.log k).take (s.r k).cm.toNat := h.eq_of_length (by omega);rw [<- e];exact List.prefix_refl _
    · exact h
  · rename_i hq;refine ⟨?_,⟨_,N.co⟩,List.prefix_refl _⟩;rcases hcmp with h | h
    · exact h
    · have h2 := h.length_le;omega
 generalize (if (s.r k).cm.toNat <= s.all.length then s.all else (w.g.log k).take (s.r k).cm.toNat) = all' at J hall
 have eq : s.agrees k = ({ s with all := all' },decide ((s.r k).sn.i = (s.r k).lg.i) && (decide ((s.r k).sn.i = 0) || decide ((s.r k).sn.d = Sim.digest (all'.take (s.r k).sn.i.toNat)))) := by
  unfold Sim.agrees;dsimp only;rw [N.part,hlen,if_neg (by omega),J]
 rw [eq];refine ⟨?_,all',rfl,hall.1,hall.2.1,hall.2.2⟩;obtain ⟨s1,s2,s3,s4⟩ := N.sn;dsimp only;rw [decide_eq_true s1,Bool.true_and,Bool.or_eq_true,decide_eq_true_eq,decide_eq_true_eq]
 by_cases hz : (s.r k).sn.i = 0
 · exact .inl hz
 · right
   rw [s3 (by omega),qW hall.2.2 (by omega),List.take_take,Nat.min_eq_left (by omega)]
end
end Go.Proofs.YtmiijlecfiddmaaGreat
