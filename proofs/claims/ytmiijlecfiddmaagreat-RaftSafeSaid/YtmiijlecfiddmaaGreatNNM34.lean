/- What a node does when it hears or wakes keeps what holds of a cluster (1: what it says, votes, terms). Plain mathematics. -/
import Derived.Test.YtmiijlecfiddmaaGreatNNM33
set_option linter.unusedVariables false
set_option linter.unusedSimpArgs false
set_option maxRecDepth 100000
set_option maxHeartbeats 200000
namespace Go.Proofs.YtmiijlecfiddmaaGreat
theorem qbf {m : Msg} {n : Nat} {K : Int} (hn : n <= 3) (hk : 1 <= m.k /\ m.k <= 7) (hf : 0 <= m.f /\ m.f < n) (ho : 0 <= m.o /\ m.o < n) (hfo : m.f ≠ m.o) (ht : 1 <= m.t /\ m.t <= 2000000)
 (hi : 0 <= m.i /\ m.i <= 2000000) (hl : 0 <= m.l /\ m.l <= 2000000) (hc : 0 <= m.c /\ m.c <= 2000000) (hx : 0 <= m.x /\ m.x <= 2000000)
 (hb : bareB m.k m.i m.l m.c m.x m.b m.es.length m.s.i m.s.t m.s.d.length = true) (h4 : m.es.length <= 4) (hr : runB m.i m.l m.es = true) (hlate : qdp m.t m.es = true) (hw : qbt m.k m.s.i m.s.t m.s.d.length = true) : rightM m = true := by
 unfold rightM qb8;simp only [Bool.and_eq_true,decide_eq_true_eq,qbs,qaM]
 refine ⟨⟨hk.1,hk.2,hf.1,by omega,ho.1,by omega,hfo,ht.1⟩,⟨⟨⟨?_,?_⟩,⟨?_,?_⟩,⟨?_,?_⟩,⟨?_,?_⟩,?_,?_⟩,hb⟩,⟨h4,hr⟩,hlate,hw⟩ <;> omega
section
variable {n : Nat} {K : Int} {all : List Ent} {w : W} {k : Nat} {r : Node}
theorem qe.say (N : qe n K all w k r) {m : Msg} (hm : qx n K all w { m with f := r.id }) : qe n K all w k (r.say m) :=
 { N with
  ms := fun x hx => by
   rcases List.mem_append.1 hx with hx | hx
   · exact N.ms x hx
   · obtain rfl : x = _ := by simpa using hx
     exact hm }
theorem qb0 (O : WOk n K w) (hn : n <= 3) {kk : Int} {f o : Nat} {t : Int} {b : Bool} (hk : kk = 2 \/ kk = 4 \/ kk = 6 /\ b = false) (hf : f < n) (ho : o < n) (hfo : f ≠ o) (ht : 1 <= t)
 (ht1 : t <= K + 1) (ht2 : kk ≠ 2 \/ b = false -> t <= K) (hv : kk = 4 -> b = true -> w.g.voted f t = some o) : qx n K all w ⟨kk,f,o,t,0,0,0,0,b,[],Node.noEnt⟩ where
 right := by
  have hK := O.kk
  refine qbf (K := K) hn ?_ ⟨?_,?_⟩ ⟨?_,?_⟩ ?_ ⟨ht,?_⟩ ⟨?_,?_⟩ ⟨?_,?_⟩ ⟨?_,?_⟩ ⟨?_,?_⟩ ?_ ?_ rfl rfl ?_ <;> dsimp only [Node.noEnt] <;> try omega
  · unfold bareB
    rcases hk with rfl | rfl | ⟨rfl,rfl⟩ <;> simp
  · simp
  · unfold qbt;rw [decide_eq_true (by omega)]
    rfl
 f := ⟨by show (0 : Int) <= (f : Nat); omega,by show ((f : Nat) : Int) < n; omega⟩
 o := ⟨by show (0 : Int) <= (o : Nat); omega,by show ((o : Nat) : Int) < n; omega⟩
 t1 := ht1
 t2 h1 h2 := ht2 h2
 k3 h := by have h : kk = 3 := h; omega
 k4 h hb := hv h hb
 k5 h := by have h : kk = 5 := h; omega
 k6 h := by
  have h : kk = 6 := h;refine ⟨fun hb => ?_,(O.rx _ _).1⟩;have hb : b = true := hb;rcases hk with hk | hk | ⟨_,hk⟩
  · omega
  · omega
  · rw [hk] at hb; cases hb
 k7 h := by have h : kk = 7 := h; omega
theorem qaz {m : Msg} (h : qx n K all w m) : m.f ≠ m.o /\ 1 <= m.t /\ 1 <= m.k /\ m.k <= 7 := by
 have := h.right;unfold rightM at this;simp only [Bool.and_eq_true,qaM] at this;exact ⟨this.1.2.2.2.2.2.2.1,this.1.2.2.2.2.2.2.2,this.1.1,this.1.2.1⟩
theorem qe.heard (N : qe n K all w k r) {m : Msg} (h : qx n K all w m) (ho : m.o = k) : r.heard m = true := by
 unfold Node.heard;rw [h.right,N.id.1,N.id.2.1,ho,decide_eq_true h.f.2,decide_eq_true rfl]
 rfl
theorem qe.fall (O : WOk n K w) (N : qe n K all w k r) {t lead : Int} (h : r.ht <= t) (hl : t = 0 -> lead = -1) : qe n K all (qaY w k t) k (r.fall t lead) := by
 have hle : w.g.term k <= t := by rw [N.tm]; exact h
 have S : RafCore.Ext w.g (qaY w k t).g := (Step.bump hle).ext;have St := Step.bump hle
 have eht : (r.fall t lead).ht = t := by
  show (if r.ht < t then t else r.ht) = t
  split <;> omega
 refine ⟨N.id,N.fu,by rw [eht,qes,if_pos rfl],fun c => ?_,?_,fun h0 => hl (by rw [<- eht]; exact h0),N.cm,?_,N.sn,N.al, .inl rfl,fun _ => rfl,fun h => ?_,fun h => ?_,fun h => ?_,fun m hm => (N.ms m hm).step St⟩
 · rw [eht];show w.g.voted k t = some c ↔ (if r.ht < t then -1 else r.hv) = (c : Int)
   by_cases hlt : r.ht < t
   · rw [if_pos hlt]
     constructor
     · intro hv;have := (O.inv.vt _ _ _ hv).1;rw [N.tm] at this;omega
     · intro hc;omega
   · rw [if_neg hlt]
     obtain rfl : r.ht = t := by omega
     exact N.vo c
 · show -1 <= (if r.ht < t then -1 else r.hv);have := N.hv
   split <;> omega
 · rw [eht];exact (N.co.step St).mono h
 · have h : (0 : Int) = 2 \/ (0 : Int) = 3 := h;omega
 · have h : (0 : Int) = 2 := h;omega
 · have h : (0 : Int) = 3 := h;omega
theorem qe.early (O : WOk n K w) (N : qe n K all w k r) (h : r.ht = 0) : w.g.log k = [] := by
 cases hl : w.g.log k with
 | nil => rfl
 | cons e l =>
   have he : e ∈ w.g.log k := by rw [hl]; exact List.mem_cons_self ..
   have h1 := O.inv.tl k e he;have h2 := (qy _ _ _).1 (qR (O.lr k) e he);rw [N.tm] at h1;omega
theorem qe.poll (O : WOk n K w) (N : qe n K all w k r) {m : Msg} (M : qx n K all w m) (ho : m.o = k) (hk : m.k = 1) (ht : r.ht <= m.t) : qe n K all w k (r.poll m) := by
 obtain ⟨h1,h2,h3,h4⟩ := qaz M;have hf := M.f
 have hfk : (k : Nat) ≠ m.f.toNat := by omega
 have hK := O.tk k;rw [N.tm] at hK;unfold Node.poll
 split
 · refine N.say ?_;show qx n K all w ⟨2,(r.id : Nat),(m.f.toNat : Nat),m.t,0,0,0,0,true,[],Node.noEnt⟩;rw [N.id.1];exact qb0 O N.id.2.2.2 (.inl rfl) N.id.2.2.1 (by omega) hfk h2 M.t1 (fun h => h.elim (fun h => absurd rfl h) (fun h => by cases h)) (fun h => by omega)
 · rename_i hno;refine N.say ?_;show qx n K all w ⟨2,(r.id : Nat),(m.f.toNat : Nat),r.ht,0,0,0,0,false,[],Node.noEnt⟩;rw [N.id.1];refine qb0 O N.id.2.2.2 (.inl rfl) N.id.2.2.1 (by omega) hfk ?_ (by omega) (fun _ => by omega) (fun h => by omega)
   apply Classical.byContradiction
   intro h0
   have h0 : r.ht = 0 := by omega
   refine hno ⟨by omega,?_, .inl (N.ld h0)⟩;have he := N.early O h0
   have hi : 0 <= m.i := by
    have := M.right;unfold rightM qb8 at this;simp only [Bool.and_eq_true,qbs] at this;exact this.2.1.1.2.1.1
   have hl : 0 <= m.l := by
    have := M.right;unfold rightM qb8 at this;simp only [Bool.and_eq_true,qbs] at this;exact this.2.1.1.2.2.1.1
   unfold RL.newer;rw [N.fu.lastT,N.fu.lastI,he];show (decide ((0 : Int) < m.l) || (decide (m.l = (0 : Int)) && decide (((([] : List Ent).length : Nat) : Int) <= m.i))) = true;simp only [List.length_nil]
   by_cases hl0 : m.l = 0
   · rw [hl0]; simp; omega
   · rw [decide_eq_true (by omega)]; rfl
theorem qle (O : WOk n K w) (N : qe n K all w k r) {X : List Ent} {i l : Int} (hX : runB 0 0 X = true) (hi : i = X.length) (hl : l = endT 0 X) (h : r.lg.newer i l = true) : RafCore.asNew Ent.t X (w.g.log k) := by
 unfold RL.newer at h;rw [N.fu.lastT,N.fu.lastI] at h;simp only [Bool.or_eq_true,Bool.and_eq_true,decide_eq_true_eq] at h
 have hend : ∀ {F : List Ent},0 < F.length -> ∃ e,F[F.length - 1]? = some e /\ e.t = endT 0 F /\ e ∈ F := fun {F} h0 => by
  refine ⟨F[F.length - 1]'(by omega),List.getElem?_eq_getElem (by omega),?_,List.getElem_mem _⟩;have := qD (F := F) (k := F.length - 1) (by omega);rw [Nat.sub_add_cancel (by omega),List.take_length] at this;exact this.symm
 rcases Nat.eq_zero_or_pos (w.g.log k).length with h0 | h0
 · exact .inl (List.length_eq_zero_iff.1 h0)
 · obtain ⟨e,e1,e2,e3⟩ := hend h0;have e4 := (qy _ _ _).1 (qR (O.lr k) e e3)
   have hX0 : 0 < X.length := by
    rcases Nat.eq_zero_or_pos X.length with hz | hz
    · rw [List.length_eq_zero_iff.1 hz] at hl;have hl : l = 0 := hl;omega
    · exact hz
   obtain ⟨x,x1,x2,x3⟩ := hend hX0;exact .inr ⟨e,x,e1,x1,by omega⟩
theorem qe.vote (O : WOk n K w) (N : qe n K all w k r) {m : Msg} (M : qx n K all w m) (ho : m.o = k) (hk : m.k = 3) (ht : r.ht = m.t) : ∃ w',Step k w w' /\ WOk n K w' /\ qe n K all w' k (r.vote m) := by
 obtain ⟨h1,h2,h3,h4⟩ := qaz M;have hf := M.f
 have hfk : (k : Nat) ≠ m.f.toNat := by omega
 have hK := O.tk k;rw [N.tm] at hK;unfold Node.vote
 split
 · rename_i hyes;obtain ⟨hv,hnew⟩ := hyes;obtain ⟨X,x1,x2,x3⟩ := M.k3 hk
   have fin : ∀ w',Step k w w' -> WOk n K w' -> w'.g.log k = w.g.log k -> w'.g.term k = w.g.term k -> w'.g.voted k r.ht = some m.f.toNat -> r.ro = 0 \/ True -> qe n K all w' k { r with hv := m.f,wk := 0 } -> qe n K all w' k (({ r with hv := m.f,wk := 0 } : Node).say { Node.msg 4 m.f.toNat r.ht with b := true }) := by
    intro w' S O' _ _ hvo _ N';refine N'.say ?_;show qx n K all w' ⟨4,(r.id : Nat),(m.f.toNat : Nat),r.ht,0,0,0,0,true,[],Node.noEnt⟩;rw [N.id.1];exact qb0 O' N.id.2.2.2 (.inr (.inl rfl)) N.id.2.2.1 (by omega) hfk (by omega) (by omega) (fun _ => by omega) (fun _ _ => hvo)
   by_cases hh : r.hv = m.f
   · have hvo : w.g.voted k r.ht = some m.f.toNat := (N.vo m.f.toNat).2 (by omega);refine ⟨w,Step.refl k w,O,fin w (Step.refl k w) O rfl rfl hvo (.inr trivial) ?_⟩;rw [<- hh];exact { N with }
   · have hno : w.g.voted k r.ht = none := by
      cases hq : w.g.voted k r.ht with
      | none => rfl
      | some c =>
        have := (N.vo c).1 hq;omega
     rw [<- ht] at x1;have S := Step.vote (c := m.f.toNat) hno;have O' := O.vote N.tm hno x1 (qle O N (O.cr _ _ _ x1).1 x2 x3 hnew)
     have hvo : (qeR w k m.f.toNat r.ht).g.voted k r.ht = some m.f.toNat := by rw [qbk,if_pos ⟨rfl,rfl⟩]
     refine ⟨_,S,O',fin _ S O' rfl rfl hvo (.inr trivial) ?_⟩
     have hro : r.ro ≠ 2 /\ r.ro ≠ 3 := by
      constructor
      · intro hr;have := N.se (.inl hr);omega
      · intro hr;have := N.se (.inr hr);omega
     exact { N with
      vo := fun c => by
       show _ ↔ m.f = (c : Int);rw [hvo]
       constructor
       · intro h; have := Option.some.inj h; omega
       · intro h; congr 1; omega
      hv := by show -1 <= m.f; omega
      co := N.co.step S
      se := fun hr => absurd hr (by show ¬ (r.ro = 2 \/ r.ro = 3); omega)
      r2 := fun hr => absurd hr hro.1
      r3 := fun hr => absurd hr hro.2
      ms := fun x hx => (N.ms x hx).step S }
 · refine ⟨w,Step.refl k w,O,N.say ?_⟩;show qx n K all w ⟨4,(r.id : Nat),(m.f.toNat : Nat),r.ht,0,0,0,0,false,[],Node.noEnt⟩;rw [N.id.1];exact qb0 O N.id.2.2.2 (.inr (.inl rfl)) N.id.2.2.1 (by omega) hfk (by omega) (by omega) (fun _ => by omega) (fun _ h => by cases h)
end
end Go.Proofs.YtmiijlecfiddmaaGreat
set_option linter.unusedVariables false
set_option linter.unusedSimpArgs false
set_option maxRecDepth 100000
set_option maxHeartbeats 200000
namespace Go.Proofs.YtmiijlecfiddmaaGreat
theorem foldl_keeps {α β : Type} (P : α -> Prop) (f : α -> β -> α) : ∀ (l : List β),(∀ a b,b ∈ l -> P a -> P (f a b)) -> ∀ a,P a -> P (l.foldl f a)
 | [],_,a,ha => ha
 | b :: l,h,a,ha => foldl_keeps P f l (fun a' b' hb' => h a' b' (List.mem_cons_of_mem _ hb')) (f a b) (h a b (List.mem_cons_self ..) ha)
theorem qf0 (l : List Int) : 0 < Node.reached l -> l.length < 2 * (l.filter fun u => decide (Node.reached l <= u)).length := by
 unfold Node.reached;intro h
 have key : ∀ (m : List Int) (a : Int),m.foldl max a = a \/ m.foldl max a ∈ m := by
  intro m
  induction m with
  | nil => intro a; exact .inl rfl
  | cons x m ih =>
    intro a;rw [List.foldl_cons];rcases ih (max a x) with h1 | h1
    · rw [h1];rcases Int.le_total a x with hax | hax
      · right; rw [Int.max_eq_right hax]; exact List.mem_cons_self ..
      · left; exact Int.max_eq_left hax
    · exact .inr (List.mem_cons_of_mem _ h1)
 rcases key (l.filter fun v => decide (l.length < 2 * (l.filter fun u => decide (v <= u)).length)) 0 with h1 | h1
 · omega
 · exact of_decide_eq_true (List.mem_filter.1 h1).2
theorem qbB {n k : Nat} (hk : k < n) (hn : n <= 3) (f : Nat -> Bool) : ((List.range n).filter f).length = (if f k = true then 1 else 0) + (((List.range n).filter fun j => decide (j ≠ k)).filter f).length := by
 have e : n = 1 /\ k = 0 \/ n = 2 /\ (k = 0 \/ k = 1) \/ n = 3 /\ (k = 0 \/ k = 1 \/ k = 2) := by omega
 rcases e with ⟨rfl,rfl⟩ | ⟨rfl,rfl | rfl⟩ | ⟨rfl,rfl | rfl | rfl⟩ <;> cases h0 : f 0 <;> cases h1 : f 1 <;> cases h2 : f 2 <;> simp [List.range_succ,h0,h1,h2]
theorem qeL {n k : Nat} (hk : k < n) (hn : n <= 3) : ((List.range n).filter fun j => decide (j ≠ k)).length + 1 = n := by
 have := qbB hk hn (fun _ => true);rw [List.filter_eq_self.2 (fun _ _ => rfl),List.filter_eq_self.2 (fun _ _ => rfl),List.length_range,if_pos rfl] at this;omega
section
variable {n : Nat} {K : Int} {all : List Ent} {w : W} {k : Nat} {r : Node}
theorem qe.others (N : qe n K all w k r) : r.others = (List.range n).filter fun j => decide (j ≠ k) := by
 unfold Node.others;rw [N.id.1,N.id.2.1]
theorem qe.other (N : qe n K all w k r) {j : Nat} (h : j ∈ r.others) : j < n /\ j ≠ k := by
 rw [N.others] at h;obtain ⟨h1,h2⟩ := List.mem_filter.1 h;exact ⟨List.mem_range.1 h1,of_decide_eq_true h2⟩
theorem qbl (l : List Ent) : (Sim.digest l).length = 4 := rfl
theorem qkX (N : qe n K all w k r) {X : Nat} (h1 : r.lg.i <= X) (h2 : X <= (w.g.log k).length) : r.lg.fromL ((X : Int) + 1) 4 = ((w.g.log k).drop X).take 4 := by
 have h0 := N.fu.i0;have hl := N.fu.len;rw [N.fu.good.from_];show r.lg.sub _ 4 = _;unfold RL.sub RL.place
 by_cases hX : X < (w.g.log k).length
 · rw [if_pos (by omega)];show (r.lg.l.drop _).take 4 = _;rw [N.fu.l,List.drop_drop]
   congr 2
   omega
 · rw [if_neg (by omega)];show [] = _;rw [List.drop_of_length_le (by omega)]
   rfl
theorem qe.send (O : WOk n K w) (N : qe n K all w k r) (h3 : r.ro = 3) {j : Nat} (hj : j < n) (hjk : j ≠ k) : qe n K all w k (r.send j) := by
 obtain ⟨a1,a2,a3,a4,a5,a6⟩ := N.r3 h3;obtain ⟨b1,b2,b3,b4,b5⟩ := a6 j hj hjk;have hid := N.id;have hi0 := N.fu.i0;have hile := N.fu.le;have hKK := O.kk;have htk := O.tk k;rw [N.tm] at htk;have hlk := O.lk k;have hcm := N.cm
 have ht1 : 1 <= r.ht := by
  apply Classical.byContradiction
  intro hh;have := N.early O (by omega);obtain ⟨_,_,_,X,Z,_,hXZ,hZ,_⟩ := O.inv.cll _ _ _ a1;rw [this] at hXZ;exact hZ (List.append_eq_nil_iff.1 hXZ.symm).2
 unfold Node.send
 split
 · rename_i hw;refine N.say ?_;show qx n K all w ⟨7,(r.id : Nat),(j : Nat),r.ht,0,0,0,0,false,[],r.sn⟩;obtain ⟨s1,s2,s3,s4⟩ := N.sn
   have hsi : 1 <= r.sn.i := by omega
   have hst : r.sn.t = endT 0 ((w.g.log k).take r.sn.i.toNat) := by rw [s2,N.fu.t,s1]
   have hst1 : 1 <= r.sn.t /\ r.sn.t <= 1099511627776 := by
    rw [hst,show r.sn.i.toNat = (r.sn.i.toNat - 1) + 1 by omega,qD (by omega)];exact ((qy _ _ _).1 (qR (O.lr k) _ (List.getElem_mem _))).2.1
   refine ⟨?_,⟨?_,?_⟩,⟨?_,?_⟩,?_,?_,?_,?_,?_,?_,?_⟩ <;> (try dsimp only)
   · refine qbf (K := K) hid.2.2.2 ?_ ⟨?_,?_⟩ ⟨?_,?_⟩ ?_ ⟨ht1,?_⟩ ⟨?_,?_⟩ ⟨?_,?_⟩ ⟨?_,?_⟩ ⟨?_,?_⟩ ?_ ?_ rfl rfl ?_ <;> dsimp only <;> try omega
     · simp [bareB]
     · simp
     · unfold qbt qak numB;rw [if_neg (by omega),s3 (by omega),qbl];simp only [Bool.or_eq_true,Bool.and_eq_true,decide_eq_true_eq];omega
   · omega
   · omega
   · omega
   · omega
   · omega
   · intros; omega
   · intro h; omega
   · intro h; omega
   · intro h; omega
   · intro h; omega
   · intro _;refine ⟨k,w.g.log k,r.sn.i.toNat,a1,by omega,by omega,by omega,hst,s3 (by omega),N.co.pre (RafCore.take_mono _ (by omega)),?_⟩;rw [s1];exact N.al
 · rename_i hw;refine N.say ?_;obtain ⟨X,hX⟩ : ∃ X : Nat,r.nx j = (X : Int) + 1 := ⟨(r.nx j - 1).toNat,by omega⟩
   have hXi : r.lg.i <= X := by omega
   have hXl : X <= (w.g.log k).length := by omega
   have e1 : r.nx j - 1 = (X : Int) := by omega
   have e2 : r.lg.at_ (X : Int) = some (endT 0 ((w.g.log k).take X)) := by
    rw [N.fu.at_is hXi (by omega),Int.toNat_natCast]
   rw [e1,e2,hX,qkX N hXi hXl];show qx n K all w ⟨5,(r.id : Nat),(j : Nat),r.ht,(X : Int),endT 0 ((w.g.log k).take X),r.cm,r.cx,false,((w.g.log k).drop X).take 4,Node.noEnt⟩
   have hel : (((w.g.log k).drop X).take 4).length <= 4 /\ X + (((w.g.log k).drop X).take 4).length <= (w.g.log k).length := by
    rw [List.length_take,List.length_drop];omega
   have hrx := O.rx k r.ht;have hxk := O.xk r.ht
   have hte : endT 0 ((w.g.log k).take X) <= r.ht /\ 0 <= endT 0 ((w.g.log k).take X) := by
    refine ⟨?_,(qdi (O.lr k) X).1⟩
    cases X with
    | zero => show (0 : Int) <= r.ht; omega
    | succ m =>
      rw [qD (by omega),<- N.tm];exact O.inv.tl k _ (List.getElem_mem _)
   refine ⟨?_,⟨?_,?_⟩,⟨?_,?_⟩,?_,?_,?_,?_,?_,?_,?_⟩ <;> (try dsimp only)
   · refine qbf (K := K) hid.2.2.2 ?_ ⟨?_,?_⟩ ⟨?_,?_⟩ ?_ ⟨ht1,?_⟩ ⟨?_,?_⟩ ⟨hte.2,?_⟩ ⟨?_,?_⟩ ⟨?_,?_⟩ ?_ hel.1 ?_ ?_ ?_ <;> dsimp only [Node.noEnt] <;> try omega
     · simp [bareB]
     · exact (qae (qd0 (O.lr k) hXl) 4).1
     · rw [qdp,List.all_eq_true];intro e he;have := O.inv.tl k e (List.mem_of_mem_drop (List.mem_of_mem_take he));rw [N.tm] at this;exact decide_eq_true this
     · rfl
   · omega
   · omega
   · omega
   · omega
   · omega
   · intros; omega
   · intro h; omega
   · intro h; omega
   · intro _;refine ⟨k,w.g.log k,X,a1,rfl,hel.2,rfl,?_,by omega,by omega,N.co,by omega,by omega⟩;rw [List.take_eq_take_iff,List.length_take,List.length_drop];omega
   · intro h; omega
   · intro h; omega
theorem qe.sendAll (O : WOk n K w) (N : qe n K all w k r) (h3 : r.ro = 3) : qe n K all w k r.sendAll := by
 unfold Node.sendAll
 have ho : ∀ j ∈ r.others,j < n /\ j ≠ k := fun j hj => N.other hj
 refine (foldl_keeps (fun x => qe n K all w k x /\ x.ro = 3) Node.send r.others (fun x j hj hx => ⟨hx.1.send O hx.2 (ho j hj).1 (ho j hj).2,?_⟩) r ⟨N,h3⟩).1;unfold Node.send
 split <;> exact hx.2
theorem qe.settle (O : WOk n K w) (N : qe n K all w k r) (h3 : r.ro = 3) : ∃ w',Step k w w' /\ WOk n K w' /\ qe n K all w' k r.settle.1 /\ r.settle.1.ro = 3 /\ w'.g = w.g /\ w'.cxx = w.cxx /\ w'.rac = w.rac := by
 unfold Node.settle;dsimp only
 split
 · exact ⟨w,Step.refl k w,O,N,h3,rfl,rfl,rfl⟩
 · rename_i hno;obtain ⟨a1,a2,a3,a4,a5,a6⟩ := N.r3 h3;have hcm := N.cm;have hi0 := N.fu.i0;have hid := N.id;generalize hv : Node.reached (r.lg.lastI :: r.others.map r.ma) = v at hno ⊢
   have hat : r.lg.at_ v = some r.ht := Classical.byContradiction fun h => hno (.inr h)
   have hlt : r.cm < v := by
    apply Classical.byContradiction
    intro h;exact hno (.inl (by omega))
   obtain ⟨c1,c2,c3⟩ := N.fu.at_some hat
   have hq := qf0 (r.lg.lastI :: r.others.map r.ma) (by rw [hv]; omega);rw [hv,N.fu.lastI,N.others] at hq
   let q : Nat -> Bool := fun j => decide (j < n) && (if j = k then true else decide (v <= r.ma j))
   have hmaj : RafCore.maj n q := by
    unfold RafCore.maj;rw [qbB hid.2.2.1 hid.2.2.2 q]
    have hqk : q k = true := by simp [q,hid.2.2.1]
    rw [if_pos hqk]
    have e1 : (((List.range n).filter fun j => decide (j ≠ k)).filter q).length = ((((List.range n).filter fun j => decide (j ≠ k)).map r.ma).filter fun u => decide (v <= u)).length := by
     rw [List.filter_map,List.length_map]
     congr 1
     apply List.filter_congr
     intro j hj;obtain ⟨h1,h2⟩ := List.mem_filter.1 hj;have h2 := of_decide_eq_true h2;simp only [q,if_neg h2,List.mem_range.1 h1,decide_true,Bool.true_and,Function.comp]
    rw [e1];rw [List.length_cons,List.length_map,List.filter_cons_of_pos (by simpa using c2),List.length_cons] at hq;have := qeL hid.2.2.1 hid.2.2.2;omega
   obtain ⟨x,hx⟩ : ∃ x : Nat,v = (x : Int) + 1 := ⟨(v - 1).toNat,by omega⟩
   have hxl : x < (w.g.log k).length := by omega
   have hvt : v.toNat = x + 1 := by omega
   rw [hvt,qD hxl] at c3;have hown : RafCore.own Ent.t w.g r.ht (x + 1) ((w.g.log k).take (x + 1)) := ⟨k,w.g.log k,(w.g.log k)[x],a1,by omega,by omega,rfl,by rw [Nat.add_sub_cancel]; exact List.getElem?_eq_getElem hxl,c3.symm⟩
   have hack : ∀ a,q a = true -> x + 1 <= w.g.ack a r.ht := fun a ha => by
    simp only [q,Bool.and_eq_true,decide_eq_true_eq] at ha
    by_cases hak : a = k
    · rw [hak]; omega
    · rw [if_neg hak] at ha;have h2 := of_decide_eq_true ha.2;have := (a6 a ha.1 hak).2.1;omega
   have S := Step.com (i := x + 1) a1;have O' := O.com a1 hown hmaj hack;refine ⟨wCom w r.ht (x + 1),S,O',?_,h3,rfl,rfl,rfl⟩
   exact { N with
    cm := ⟨by show r.lg.i <= v; omega,c2⟩
    co := by
     show Com (wCom w r.ht (x + 1)) r.ht ((w.g.log k).take v.toNat);refine .inr ⟨r.ht,k,w.g.log k,Int.le_refl _,a1,?_,?_⟩
     · rw [qa3,if_pos rfl]; omega
     · rw [qa3,if_pos rfl,hvt];exact RafCore.take_mono _ (Nat.le_max_right _ _)
    r2 := fun h => by
     have h : r.ro = 2 := h;omega
    r3 := fun _ => ⟨a1,a2,a3,by rw [qa3]; show (((if r.ht = r.ht then _ else _ : Nat)) : Int) <= v; rw [if_pos rfl]; omega,a5,a6⟩
    ms := fun m hm => (N.ms m hm).step S }
end
end Go.Proofs.YtmiijlecfiddmaaGreat
set_option linter.unusedVariables false
set_option linter.unusedSimpArgs false
set_option maxRecDepth 100000
set_option maxHeartbeats 200000
namespace Go.Proofs.YtmiijlecfiddmaaGreat
section
variable {n : Nat} {K : Int} {all : List Ent} {w : W} {k : Nat} {r : Node}
def Goes (n : Nat) (K : Int) (all : List Ent) (w : W) (k : Nat) (r' : Node) : Prop := ∃ w',Step k w w' /\ WOk n K w' /\ qe n K all w' k r'
theorem Goes.stay (O : WOk n K w) (N : qe n K all w k r) : Goes n K all w k r := ⟨w,Step.refl k w,O,N⟩
theorem Goes.after {w' : W} (S : Step k w w') (h : Goes n K all w' k r) : Goes n K all w k r := by
 obtain ⟨w2,h1,h2,h3⟩ := h;exact ⟨w2,S.trans h1,h2,h3⟩
theorem qe.leads (O : WOk n K w) (N : qe n K all w k r) (h3 : r.ro = 3) : Goes n K all w k r.settle.1.sendAll := by
 obtain ⟨w',h1,h2,h4,h5,_⟩ := N.settle O h3;exact ⟨w',h1,h2,h4.sendAll h2 h5⟩
theorem qe.lastT (O : WOk n K w) (N : qe n K all w k r) : endT 0 (w.g.log k) <= r.ht := by
 rw [<- N.tm]
 cases hl : (w.g.log k).length with
 | zero => rw [List.length_eq_zero_iff.1 hl]; exact (O.tk k).1
 | succ m =>
   have e : endT 0 (w.g.log k) = endT 0 ((w.g.log k).take (m + 1)) := by rw [List.take_of_length_le (by omega)]
   rw [e,qD (by omega)];exact O.inv.tl k _ (List.getElem_mem _)
def newE (w : W) (k : Nat) (t : Int) (d : List UInt8) : Ent := ⟨(w.g.log k).length + 1,t,d⟩
theorem qf1 (O : WOk n K w) (N : qe n K all w k r) {d : List UInt8} (hd : d.length <= 12000) (ht1 : 1 <= r.ht) (hl : ((w.g.log k).length : Int) < K) :
 Full (w.g.log k ++ [newE w k r.ht d]) (r.grown d) /\ (r.grown d).i = r.lg.i /\ (r.grown d).t = r.lg.t := by
 have hK := O.kk;have htk := O.tk k;rw [N.tm] at htk;obtain ⟨lg',h⟩ := N.fu.may (t := r.ht) (d := d) (N.lastT O) ht1 (by omega) hd (by omega);unfold Node.grown;rw [h];exact N.fu.add h
theorem qe.grow (O : WOk n K w) (N : qe n K all w k r) (h3 : r.ro = 3) {d : List UInt8} (hd : d.length <= 12000) (hl : ((w.g.log k).length : Int) < K) :
 Goes n K all w k { r with lg := r.grown d } /\ r.lg.lastI = (w.g.log k).length := by
 refine ⟨?_,N.fu.lastI⟩;obtain ⟨a1,a2,a3,a4,a5,a6⟩ := N.r3 h3
 have ht1 : 1 <= r.ht := by
  obtain ⟨_,_,_,X,_,hX,_⟩ := O.inv.cll _ _ _ a1;exact (O.cr _ _ _ hX).2.2
 obtain ⟨g1,g2,g3⟩ := qf1 O N hd ht1 hl;have MP : qcY n w k r.ht := .inr a1;have S := Step.push (e := newE w k r.ht d) O MP;have O' := O.push MP N.id.2.2.1 N.tm rfl g1.run hl;have hcm := N.cm;have hi0 := N.fu.i0
 have hlog : (qaZ w k r.ht (newE w k r.ht d)).g.log k = w.g.log k ++ [newE w k r.ht d] := by rw [qbA,if_pos rfl]
 refine ⟨_,S,O',?_⟩
 have htake : ∀ i : Nat,i <= (w.g.log k).length -> ((w.g.log k) ++ [newE w k r.ht d]).take i = (w.g.log k).take i := fun i hi => List.take_append_of_le_length hi
 refine ⟨N.id,by rw [hlog]; exact g1,N.tm,N.vo,N.hv,N.ld,?_,?_,?_,?_,N.ro,N.rd,N.se,fun h => ?_,fun _ => ?_,fun m hm => (N.ms m hm).step S⟩
 · rw [hlog,List.length_append];show (r.grown d).i <= r.cm /\ _;rw [g2];exact ⟨hcm.1,by show r.cm <= _; omega⟩
 · rw [hlog];show Com _ r.ht ((w.g.log k ++ [newE w k r.ht d]).take r.cm.toNat);rw [htake _ (by omega)];exact N.co.step S
 · rw [hlog];show r.sn.i = (r.grown d).i /\ r.sn.t = (r.grown d).t /\ (0 < r.sn.i -> r.sn.d = Sim.digest ((w.g.log k ++ [newE w k r.ht d]).take r.sn.i.toNat)) /\ (r.sn.i = 0 -> r.sn.d = []);have := N.sn;rw [g2,g3,htake _ (by omega)];exact N.sn
 · rw [hlog];show (w.g.log k ++ [newE w k r.ht d]).take (r.grown d).i.toNat <+: all;rw [g2,htake _ (by omega)];exact N.al
 · have h : r.ro = 2 := h;omega
 · rw [hlog];refine ⟨by rw [qbp,if_pos rfl],?_,a3,a4,a5,fun j hj hjk => ?_⟩
   · show _ <= (qaZ w k r.ht _).g.ack k r.ht;rw [qcm,if_pos ⟨rfl,rfl⟩,List.length_append,List.length_singleton];exact Nat.le_refl _
   · obtain ⟨b1,b2,b3,b4,b5⟩ := a6 j hj hjk;refine ⟨b1,?_,b3,?_,b5⟩
     · show r.ma j <= ((qaZ w k r.ht _).g.ack j r.ht : Nat);rw [qcm,if_neg (fun hq => hjk hq.1)];exact b2
     · rw [List.length_append,List.length_singleton];show r.nx j <= _;omega
theorem qe.propose (O : WOk n K w) (N : qe n K all w k r) (d : List UInt8) (hl : ((w.g.log k).length : Int) < K) : Goes n K all w k (r.propose d).1 := by
 unfold Node.propose
 split
 · exact .stay O N
 · rename_i h3
   split
   · exact .stay O N
   · split
     · exact .stay O N
     · have h3 : r.ro = 3 := Classical.byContradiction h3;obtain ⟨w1,S,O1,N1⟩ := (N.grow O h3 (d := d) (by omega) hl).1;exact .after S (N1.leads O1 h3)
theorem qe.rise (O : WOk n K w) (N : qe n K all w k r) (h2 : r.ro = 2) {q : Nat -> Bool} (hq : RafCore.maj n q) (ha : ∀ a,q a = true -> w.g.voted a r.ht = some k) (hl : ((w.g.log k).length : Int) < K) : Goes n K all w k r.rise := by
 obtain ⟨a1,a2,a3⟩ := N.r2 h2
 have hll : w.g.ll r.ht = none := by
  cases h : w.g.ll r.ht with
  | none => rfl
  | some p =>
    obtain ⟨c,Y⟩ := p;obtain ⟨_,_,_,X,_,hX,_⟩ := O.inv.cll _ _ _ h;obtain ⟨q',b1,b2⟩ := O.inv.el _ _ _ _ h hX;obtain ⟨a,_,c1,c2⟩ := RafCore.maj_meet hq b1;have e1 := ha a c1;rw [(b2 a c2).1] at e1;obtain rfl := Option.some.inj e1;exact absurd h (a2 Y)
 have ht1 := (O.cr _ _ _ a1).2.2;obtain ⟨g1,g2,g3⟩ := qf1 O N (d := []) (by simp) ht1 hl;have MP : qcY n w k r.ht := .inl ⟨hll,a1,q,hq,ha⟩;have S := Step.push (e := newE w k r.ht []) O MP;have O' := O.push MP N.id.2.2.1 N.tm rfl g1.run hl;have hcm := N.cm;have hi0 := N.fu.i0;obtain ⟨no1,no2⟩ := O.no _ hll
 have hlog : (qaZ w k r.ht (newE w k r.ht [])).g.log k = w.g.log k ++ [newE w k r.ht []] := by rw [qbA,if_pos rfl]
 have htake : ∀ i : Nat,i <= (w.g.log k).length -> ((w.g.log k) ++ [newE w k r.ht []]).take i = (w.g.log k).take i := fun i hi => List.take_append_of_le_length hi
 have N' : qe n K all (qaZ w k r.ht (newE w k r.ht [])) k { r with ro := 3,ld := r.id,wk := 0,cx := 0,rd := [],ma := Node.zeroF,ac := Node.zeroF,nx := fun j => if j < r.n /\ j ≠ r.id then r.lg.lastI + 1 else 0,lg := r.grown [] } := by
  refine ⟨N.id,by rw [hlog]; exact g1,N.tm,N.vo,N.hv,fun h => ?_,?_,?_,?_,?_, .inr (.inr (.inr rfl)),fun _ => rfl,fun _ => N.se (.inl h2),fun h => ?_,fun _ => ?_,fun m hm => (N.ms m hm).step S⟩
  · have h : r.ht = 0 := h;omega
  · rw [hlog,List.length_append];show (r.grown []).i <= r.cm /\ _;rw [g2];exact ⟨hcm.1,by show r.cm <= _; omega⟩
  · rw [hlog];show Com _ r.ht ((w.g.log k ++ [newE w k r.ht []]).take r.cm.toNat);rw [htake _ (by omega)];exact N.co.step S
  · rw [hlog];show r.sn.i = (r.grown []).i /\ r.sn.t = (r.grown []).t /\ (0 < r.sn.i -> r.sn.d = Sim.digest ((w.g.log k ++ [newE w k r.ht []]).take r.sn.i.toNat)) /\ (r.sn.i = 0 -> r.sn.d = []);have := N.sn;rw [g2,g3,htake _ (by omega)];exact N.sn
  · rw [hlog];show (w.g.log k ++ [newE w k r.ht []]).take (r.grown []).i.toNat <+: all;rw [g2,htake _ (by omega)];exact N.al
  · have h : (3 : Int) = 2 := h;omega
  · rw [hlog];refine ⟨by rw [qbp,if_pos rfl],?_,no2.symm,?_,fun y hy => (by cases hy),fun j hj hjk => ?_⟩
    · show _ <= (qaZ w k r.ht _).g.ack k r.ht;rw [qcm,if_pos ⟨rfl,rfl⟩,List.length_append,List.length_singleton];exact Nat.le_refl _
    · show ((w.cmx r.ht : Nat) : Int) <= r.cm;rw [no1];omega
    · have hnx : (if j < r.n /\ j ≠ r.id then r.lg.lastI + 1 else 0) = ((w.g.log k).length : Int) + 1 := by rw [N.id.1,N.id.2.1,if_pos ⟨hj,hjk⟩,N.fu.lastI]
      refine ⟨Int.le_refl _,?_,?_,?_,(O.rx j r.ht).1⟩
      · show (0 : Int) <= ((_ : Nat) : Int);omega
      · show (0 : Int) + 1 <= (if j < r.n /\ j ≠ r.id then r.lg.lastI + 1 else 0);rw [hnx];omega
      · show (if j < r.n /\ j ≠ r.id then r.lg.lastI + 1 else 0) <= _;rw [hnx,List.length_append,List.length_singleton];omega
 exact .after S (N'.leads O' rfl)
theorem qe.ask (O : WOk n K w) (N : qe n K all w k r) {kk t : Int} (ht : 1 <= t) (hk : kk = 1 /\ t <= K + 1 \/ kk = 3 /\ r.ro = 2 /\ t = r.ht) : qe n K all w k (r.ask kk t) := by
 have ho : ∀ j ∈ r.others,j < n /\ j ≠ k := fun j hj => N.other hj
 have hid := N.id;have hKK := O.kk;have htk := O.tk k;have hlk := O.lk k;rw [N.tm] at htk;have hlt := N.lastT O;have hl0 := qdi (O.lr k) (w.g.log k).length;rw [List.take_length] at hl0;unfold Node.ask;refine foldl_keeps (fun x => qe n K all w k x) _ r.others (fun x j hj hx => ?_) r N;refine qe.say hx ?_;obtain ⟨h1,h2⟩ := ho j hj;rw [hx.fu.lastI,hx.fu.lastT];show qx n K all w ⟨kk,(x.id : Nat),(j : Nat),t,((w.g.log k).length : Nat),endT 0 (w.g.log k),0,0,false,[],Node.noEnt⟩;rw [hx.id.1]
 refine ⟨?_,⟨?_,?_⟩,⟨?_,?_⟩,?_,?_,?_,?_,?_,?_,?_⟩ <;> (try dsimp only)
 · refine qbf (K := K) hid.2.2.2 ?_ ⟨?_,?_⟩ ⟨?_,?_⟩ ?_ ⟨ht,?_⟩ ⟨?_,?_⟩ ⟨hl0.1,?_⟩ ⟨?_,?_⟩ ⟨?_,?_⟩ ?_ ?_ rfl rfl ?_ <;> dsimp only [Node.noEnt] <;> try omega
   · rcases hk with ⟨rfl,_⟩ | ⟨rfl,_⟩ <;> simp [bareB]
   · simp
   · unfold qbt;rw [decide_eq_true (by omega)]
     rfl
 · omega
 · omega
 · omega
 · omega
 · omega
 · intros; omega
 · intro h;rcases hk with ⟨hk,_⟩ | ⟨hk,h2,h3⟩
   · omega
   · exact ⟨w.g.log k,by rw [h3]; exact (N.r2 h2).1,rfl,rfl⟩
 · intro h; omega
 · intro h; omega
 · intro h; omega
 · intro h; omega
theorem qe.count1 (N : qe n K all w k r) (h : r.ro ≠ 3) : qe n K all w k (r.count 1) :=
 { N with
  ld := fun _ => rfl
  ro := .inr (.inl rfl)
  rd := fun _ => N.rd h
  se := fun h => by
   have h : (1 : Int) = 2 \/ (1 : Int) = 3 := h;omega
  r2 := fun h => by
   have h : (1 : Int) = 2 := h;omega
  r3 := fun h => by
   have h : (1 : Int) = 3 := h
   omega }
theorem qe.stand (O : WOk n K w) (N : qe n K all w k r) (h : r.ro ≠ 3) (hK : r.ht < K) :
 ∃ w',Step k w w' /\ WOk n K w' /\ qe n K all w' k (({ r with ht := r.ht + 1,hv := r.id } : Node).count 2) /\ w'.g.log k = w.g.log k /\ w'.g.voted k (r.ht + 1) = some k := by
 have hlt : w.g.term k < r.ht + 1 := by rw [N.tm]; omega
 have htk := O.tk k;rw [N.tm] at htk;have S := Step.camp O hlt;have O' := O.camp hlt (by omega) N.id.2.2.1
 have hv : (qbP w k (r.ht + 1)).g.voted k (r.ht + 1) = some k := by rw [qbj,if_pos ⟨rfl,rfl⟩]
 refine ⟨_,S,O',?_,rfl,hv⟩
 exact { N with
  tm := by rw [qet,if_pos rfl]; rfl
  vo := fun c => by
   show (qbP w k (r.ht + 1)).g.voted k (r.ht + 1) = some c ↔ (r.id : Int) = (c : Int);rw [hv,N.id.1]
   constructor
   · intro h; have := Option.some.inj h; omega
   · intro h; congr 1; omega
  hv := by show (-1 : Int) <= (r.id : Nat); omega
  ld := fun _ => rfl
  co := (N.co.step S).mono (by show r.ht <= r.ht + 1; omega)
  ro := .inr (.inr (.inl rfl))
  rd := fun _ => N.rd h
  se := fun _ => by show ((r.id : Nat) : Int) = k; rw [N.id.1]
  r2 := fun _ => by
   refine ⟨?_,fun Y hY => ?_,fun j hj => ?_⟩
   · show (qbP w k (r.ht + 1)).g.cl k (r.ht + 1) = _;rw [qd1,if_pos ⟨rfl,rfl⟩]
     rfl
   · have hY : w.g.ll (r.ht + 1) = some (k,Y) := hY;have := (O.inv.cll _ _ _ hY).1;omega
   · have hj : (if j = r.id then (1 : Int) else 0) = 1 := hj
     by_cases hjk : j = r.id
     · rw [hjk,N.id.1];exact ⟨N.id.2.2.1,hv⟩
     · rw [if_neg hjk] at hj;omega
  r3 := fun h => by
   have h : (2 : Int) = 3 := h;omega
  ms := fun m hm => (N.ms m hm).step S }
theorem qe.run (O : WOk n K w) (N : qe n K all w k r) (h : r.ro ≠ 3) (hK : r.ht < K) (hl : ((w.g.log k).length : Int) < K) : Goes n K all w k r.run := by
 obtain ⟨w',S,O',N',e1,e2⟩ := N.stand O h hK;have htk := O.tk k;rw [N.tm] at htk;unfold Node.run;dsimp only
 split
 · rename_i hn;have hn : r.n = 1 := hn;rw [N.id.2.1] at hn;refine .after S (N'.rise O' rfl (q := fun a => decide (a = k)) ?_ (fun a ha => by rw [of_decide_eq_true ha]; exact e2) (by rw [e1]; exact hl));have hk := N.id.2.2.1
   obtain rfl : k = 0 := by omega
   rw [hn];unfold RafCore.maj
   decide
 · exact ⟨w',S,O',N'.ask O' (by show 1 <= r.ht + 1; omega) (.inr ⟨rfl,rfl,rfl⟩)⟩
theorem qe.tick (O : WOk n K w) (N : qe n K all w k r) (hK : r.ht < K) (hl : ((w.g.log k).length : Int) < K) : Goes n K all w k r.tick := by
 have N1 : qe n K all w k { r with wk := r.wk + 1 } := { N with };have htk := O.tk k;rw [N.tm] at htk;unfold Node.tick;dsimp only
 split
 · rename_i h;have N2 : qe n K all w k { r with wk := 0 } := { N with };exact .stay O (N2.sendAll O h.1)
 · split
   · exact .stay O N1
   · rename_i h
     have h3 : r.ro ≠ 3 := fun hh => h (.inl hh)
     have N2 := N1.count1 h3
     split
     · exact N2.run O (by show (1 : Int) ≠ 3; decide) hK hl
     · exact .stay O (N2.ask O (by show 1 <= r.ht + 1; omega) (.inl ⟨rfl,by show r.ht + 1 <= K + 1; omega⟩))
end
end Go.Proofs.YtmiijlecfiddmaaGreat
