/- A cluster's moves (2): restarts, readings, snaps; whatever becomes of it. Plain mathematics. -/
import Derived.Test.YtmiijlecfiddmaaGreatNNM36
import Derived.Test.YtmiijlecfiddmaaGreatNNM31
import Derived.Test.YtmiijlecfiddmaaGreatNNM01
import Derived.Test.YtmiijlecfiddmaaGreatNNM29
set_option linter.unusedVariables false
set_option linter.unusedSimpArgs false
set_option maxRecDepth 100000
set_option maxHeartbeats 200000
namespace Go.Proofs.YtmiijlecfiddmaaGreat
section
variable {n : Nat} {K : Int} {w w' : W} {k : Nat} {s : Sim}
theorem qe.termAt {all : List Ent} {r : Node} (O : WOk n K w) (N : qe n K all w k r) {i : Nat} (hi : i <= (w.g.log k).length) : endT 0 ((w.g.log k).take i) <= r.ht := by
 cases i with
 | zero =>
   have := (O.tk k).1;rw [N.tm] at this;exact this
 | succ m =>
   rw [qD (by omega),<- N.tm];exact O.inv.tl k _ (List.getElem_mem _)
theorem qhs (H : qG n K w s) (hK : K + 1 <= 1000000) (hk : k < n) :
 Node.can k s.n (s.ht k) (s.hv k) (s.sn k) (s.lg k) = true /\ Well n (K + 1) (({ s with r := Sim.upd s.r k (Node.fresh k s.n (s.ht k) (s.hv k) (s.sn k) (s.lg k)) } : Sim).look k) := by
 have N := (H.nd k hk).more (show K <= K + 1 by omega);have O := H.ok.more (show K <= K + 1 by omega) hK;have Rt := H.rest k hk;have hi0 := N.fu.i0;have hle := N.fu.le;have hlen := qcX (O.lr k);have htk := O.tk k;rw [N.tm] at htk;obtain ⟨s1,s2,s3,s4⟩ := N.sn;have hsn := H.nn
 have hst : (s.r k).sn.t = endT 0 ((w.g.log k).take (s.r k).lg.i.toNat) := by rw [s2,N.fu.t]
 have G : Full (w.g.log k) ⟨(s.r k).sn.i,(s.r k).sn.t,(s.r k).lg.l,0⟩ := by
  rw [s1,s2];exact N.fu.kept 0
 rw [Rt.ht,Rt.hv,Rt.sn,Rt.lg,hsn.1]
 constructor
 · unfold Node.can qcO;simp only [Bool.and_eq_true,decide_eq_true_eq];refine ⟨by omega,⟨by omega,by omega,N.hv,?_⟩,?_,G.good.run,?_,?_⟩
   · by_cases hv : (s.r k).hv = -1
     · omega
     · have h1 := N.hv;have := O.vn k _ _ ((N.vo (s.r k).hv.toNat).2 (by omega));omega
   · unfold qak
     by_cases hz : (s.r k).sn.i = 0
     · have ht0 : (s.r k).sn.t = 0 := by
        rw [hst,<- s1,hz]
        rfl
       rw [if_pos ⟨hz,ht0⟩,s4 hz]
       rfl
     · rw [if_neg (by omega),s3 (by omega),qbl]
       have ht1 : 1 <= (s.r k).sn.t /\ (s.r k).sn.t <= 1099511627776 := by
        rw [hst,show (s.r k).lg.i.toNat = ((s.r k).lg.i.toNat - 1) + 1 by omega,qD (by omega)];exact ((qy _ _ _).1 (qR (O.lr k) _ (List.getElem_mem _))).2.1
       unfold numB;simp only [Bool.and_eq_true,decide_eq_true_eq];omega
   · rw [hst];exact N.termAt O (by omega)
   · rw [G.lastT];exact N.lastT O
 · have N' : qe n (K + 1) s.all w k (Node.fresh k n (s.r k).ht (s.r k).hv (s.r k).sn (s.r k).lg.l) := by
    refine ⟨⟨rfl,rfl,hk,hsn.2.2⟩,G,N.tm,N.vo,N.hv,fun _ => rfl,?_,?_,⟨rfl,rfl,s3,s4⟩,?_, .inl rfl,fun _ => rfl,fun h => ?_,fun h => ?_,fun h => ?_,fun m hm => by cases hm⟩
    · show (s.r k).sn.i <= (s.r k).sn.i /\ (s.r k).sn.i <= _;omega
    · show Com w (s.r k).ht ((w.g.log k).take (s.r k).sn.i.toNat);have := N.cm;exact N.co.pre (RafCore.take_mono _ (by omega))
    · show (w.g.log k).take (s.r k).sn.i.toNat <+: s.all;rw [s1];exact N.al
    · have h : (0 : Int) = 2 \/ (0 : Int) = 3 := h;omega
    · have h : (0 : Int) = 2 := h;omega
    · have h : (0 : Int) = 3 := h;omega
   have P : Kept (s.lg k) (s.sn k) (Node.fresh k n (s.r k).ht (s.r k).hv (s.r k).sn (s.r k).lg.l) :=
    ⟨fun hq => (by cases hq),fun _ => ⟨Rt.sn.symm, .inl ⟨rfl,Rt.lg.symm⟩⟩⟩
   have R : RdOk n w s.rds k (Node.fresh k n (s.r k).ht (s.r k).hv (s.r k).sn (s.r k).lg.l) :=
    ⟨(H.rds k hk).lo,fun x _ _ _ y hy => (by cases hy),fun x _ _ _ y hy => (by cases hy)⟩
   have e := (H.does hK hk (net := s.net) (fun _ h => h) (Step.refl k w) O N' P R).well;rw [hsn.1] at e;exact e
theorem qf7 (H : qG n K w s) (hK : K + 1 <= 1000000) (hk : k < n) :
 ¬ (s.all.length : Int) < (s.r k).cm ∧
 Well n (K + 1) ((if ((s.r k).compact (s.r k).cm (Sim.digest (s.all.take (s.r k).cm.toNat))).2 = true then
  ({ s with r := Sim.upd s.r k ((s.r k).compact (s.r k).cm (Sim.digest (s.all.take (s.r k).cm.toNat))).1,sn := Sim.upd s.sn k ((s.r k).compact (s.r k).cm (Sim.digest (s.all.take (s.r k).cm.toNat))).1.sn,lg := Sim.upd s.lg k (((s.r k).compact (s.r k).cm (Sim.digest (s.all.take (s.r k).cm.toNat))).1.part ((s.r k).cm + 1) 1099511627776) } : Sim)
  else { s with r := Sim.upd s.r k ((s.r k).compact (s.r k).cm (Sim.digest (s.all.take (s.r k).cm.toNat))).1 }).look k) := by
 have N := (H.nd k hk).more (show K <= K + 1 by omega);have O := H.ok.more (show K <= K + 1 by omega) hK;have Rt := H.rest k hk;have hcm := N.cm;have hi0 := N.fu.i0;have hpre := H.cma k hk;have hl := hpre.length_le;rw [List.length_take] at hl;have hlen := qcX (O.lr k);refine ⟨by omega,?_⟩
 have eall : s.all.take (s.r k).cm.toNat = (w.g.log k).take (s.r k).cm.toNat := by
  rw [qW hpre (by rw [List.length_take]; omega),List.take_take,Nat.min_self]
 have N' := N.compact (x := (s.r k).cm) (d := Sim.digest (s.all.take (s.r k).cm.toNat)) (Int.le_refl _) hpre (by rw [eall]);have R := (H.rds k hk).quiet Rt.is.2.2.2 (qeO (s.r k) (s.r k).cm (Sim.digest (s.all.take (s.r k).cm.toNat)));obtain ⟨f0,kp0,_,_⟩ := Rt.is
 have key : ((s.r k).compact (s.r k).cm (Sim.digest (s.all.take (s.r k).cm.toNat))) = (s.r k,false) \/ ∃ t d,((s.r k).compact (s.r k).cm (Sim.digest (s.all.take (s.r k).cm.toNat))) = ({ s.r k with lg := (s.r k).lg.cut (s.r k).cm t,sn := ⟨(s.r k).cm,t,d⟩ },true) := by
  unfold Node.compact
  split
  · exact .inl rfl
  · rename_i t hat
    split
    · exact .inl rfl
    · right
      rw [N.fu.good.compact hat];exact ⟨t,_,rfl⟩
 rcases key with key | ⟨t,d,key⟩
 · rw [key] at N' R ⊢;rw [if_neg Bool.false_ne_true];exact (H.does hK hk (net := s.net) (fun _ h => h) (Step.refl k w) O N' Rt.kept R).well
 · rw [key] at N' R ⊢;rw [if_pos rfl];dsimp only at N' R ⊢;generalize hr' : ({ s.r k with lg := (s.r k).lg.cut (s.r k).cm t,sn := ⟨(s.r k).cm,t,d⟩ } : Node) = r' at N' R ⊢
   have e1 : r'.lg.i = (s.r k).cm := by rw [<- hr']; rfl
   have e2 : r'.sn = ⟨(s.r k).cm,t,d⟩ := by rw [<- hr']
   have e3 : r'.lg.f = 0 := by rw [<- hr']; exact f0
   have e4 : r'.kp = false := by rw [<- hr']; exact kp0
   have hp : r'.part ((s.r k).cm + 1) 1099511627776 = r'.lg.l := by
    have h1 := N'.part 1099511627776;rw [e1] at h1;rw [h1,N'.fu.l,e1,List.take_of_length_le (by rw [List.length_drop]; omega)]
   rw [hp,<- e2]
   have M : Mid n (K + 1) w { s with r := Sim.upd s.r k r',sn := Sim.upd s.sn k r'.sn,lg := Sim.upd s.lg k r'.lg.l } k := by
    refine ⟨H.nn,hk,O,fun j hj => ?_,fun m hm => (H.net m hm).more (by omega),H.ldr,H.all,fun j hj hjk => ?_,fun j hj hjk => ?_,fun j hj => ?_,?_⟩
    · show qe n (K + 1) s.all w j (Sim.upd s.r k r' j)
      by_cases hjk : j = k
      · rw [hjk,qw];exact N'
      · rw [qr _ _ hjk];exact (H.nd j hj).more (by omega)
    · show (w.g.log j).take (Sim.upd s.r k r' j).cm.toNat <+: s.all;rw [qr _ _ hjk];exact H.cma j hj
    · have h := H.rest j hj
      constructor
      · show s.ht j = (Sim.upd s.r k r' j).ht;rw [qr _ _ hjk]; exact h.ht
      · show s.hv j = (Sim.upd s.r k r' j).hv;rw [qr _ _ hjk]; exact h.hv
      · show Sim.upd s.sn k r'.sn j = (Sim.upd s.r k r' j).sn;rw [qr _ _ hjk,qr _ _ hjk]; exact h.sn
      · show Sim.upd s.lg k r'.lg.l j = (Sim.upd s.r k r' j).lg.l;rw [qr _ _ hjk,qr _ _ hjk]; exact h.lg
      · show qK (Sim.upd s.r k r' j) = Sim.upd s.r k r' j;rw [qr _ _ hjk]; exact h.r
    · show RdOk n w s.rds j (Sim.upd s.r k r' j)
      by_cases hjk : j = k
      · rw [hjk,qw];exact R
      · rw [qr _ _ hjk];exact H.rds j hj
    · show Kept (Sim.upd s.lg k r'.lg.l k) (Sim.upd s.sn k r'.sn k) (Sim.upd s.r k r' k);rw [qw,qw,qw];exact ⟨fun hq => (by rw [e4] at hq; cases hq),fun _ => ⟨rfl, .inl ⟨e3,rfl⟩⟩⟩
   exact M.well
end
end Go.Proofs.YtmiijlecfiddmaaGreat
set_option linter.unusedVariables false
set_option linter.unusedSimpArgs false
set_option maxRecDepth 100000
set_option maxHeartbeats 200000
namespace Go.Proofs.YtmiijlecfiddmaaGreat
section
variable {n : Nat} {K : Int} {w w' : W} {k : Nat} {s : Sim} {all : List Ent} {r : Node}
theorem RdOk.add {rds : List qar} (R : RdOk n w rds k r) {x : qar} (hx : x.at_ ≠ k) : RdOk n w (rds ++ [x]) k r := by
 have hm : ∀ y ∈ rds ++ [x],y.at_ = k -> y ∈ rds := fun y hy hk => by
  rcases List.mem_append.1 hy with hy | hy
  · exact hy
  · obtain rfl : y = x := by simpa using hy
    exact absurd hk hx
 exact ⟨fun y hy hk => R.lo y (hm y hy hk) hk,fun y hy hk => R.rd y (hm y hy hk) hk,fun y hy hk => R.td y (hm y hy hk) hk⟩
theorem RdOk.less {rds : List qar} {x : qar} (R : RdOk n w (rds ++ [x]) k r) : RdOk n w rds k r :=
 ⟨fun y hy => R.lo y (List.mem_append_left _ hy),fun y hy => R.rd y (List.mem_append_left _ hy),fun y hy => R.td y (List.mem_append_left _ hy)⟩
def waits (r : Node) : Node := { r with cx := r.cx + 1,rd := r.rd ++ [(r.cx + 1,r.cm)] }
theorem qj2 (O : WOk n K w) (N : qe n K all w k r) (h3 : r.ro = 3) (hx : r.cx < K) : Step k w (wCtx w r.ht (r.cx + 1)) /\ WOk n K (wCtx w r.ht (r.cx + 1)) /\ qe n K all (wCtx w r.ht (r.cx + 1)) k (waits r) := by
 obtain ⟨a1,a2,a3,a4,a5,a6⟩ := N.r3 h3;have S : Step k w (wCtx w r.ht (r.cx + 1)) := Step.ctx a1;refine ⟨S,O.ctx a1 (by omega),?_⟩
 exact { N with
  co := N.co.step S
  rd := fun h => absurd h3 h
  r2 := fun h => by
   have h : r.ro = 2 := h;omega
  r3 := fun _ => by
   refine ⟨a1,a2,?_,a4,fun y hy => ?_,a6⟩
   · show r.cx + 1 = _;rw [qbq];show r.cx + 1 = if r.ht = r.ht then _ else _;rw [if_pos rfl,<- a3,Int.max_eq_right (by omega)]
   · show y.1 <= r.cx + 1;rcases List.mem_append.1 hy with hy | hy
     · have := a5 y hy;omega
     · obtain rfl : y = _ := by simpa using hy
       exact Int.le_refl _
  ms := fun m hm => (N.ms m hm).step S }
theorem qj3 {rds : List qar} (O : WOk n K w) (N : qe n K all w k r) (h3 : r.ro = 3) (hat : r.lg.at_ r.cm = some r.ht) (A : ∃ T,Com w T all) (h0 : r.td = []) (R : RdOk n w rds k r) :
 RdOk n (wCtx w r.ht (r.cx + 1)) (rds ++ [⟨k,r.cx + 1,r.ht,all.length⟩]) k (waits r) := by
 obtain ⟨a1,a2,a3,a4,a5,a6⟩ := N.r3 h3;have S : Step k w (wCtx w r.ht (r.cx + 1)) := Step.ctx a1;have R1 := R.step S;refine ⟨fun x hx hk => ?_,fun x hx hk ht y hy hc => ?_,fun x hx hk ht y hy hc => ?_⟩
 · rcases List.mem_append.1 hx with hx | hx
   · exact R1.lo x hx hk
   · obtain rfl : x = _ := by simpa using hx
     refine ⟨?_,_,a1⟩;show r.cx + 1 <= (wCtx w r.ht (r.cx + 1)).cxx r.ht;rw [qbq,if_pos rfl];exact Int.le_max_right _ _
 · have ht : x.t = r.ht := ht;rcases List.mem_append.1 hx with hx | hx
   · rcases List.mem_append.1 hy with hy | hy
     · exact R1.rd x hx hk ht y hy hc
     · obtain rfl : y = _ := by simpa using hy
       have := (R.lo x hx hk).1;rw [ht,<- a3] at this;have hc : r.cx + 1 = x.c := hc;omega
   · obtain rfl : x = _ := by simpa using hx
     rcases List.mem_append.1 hy with hy | hy
     · have := a5 y hy;have hc : y.1 = r.cx + 1 := hc;omega
     · obtain rfl : y = _ := by simpa using hy
       exact (qj1 O N h3 hat A).imp_right fun h => h.step S
 · have hy : y ∈ r.td := hy;rw [h0] at hy;cases hy
theorem qk2 (r : Node) : (r.read = (r,0,14) \/ r.read = (r,0,7)) \/ r.ro = 3 /\ r.lg.at_ r.cm = some r.ht /\ r.read = ((waits r).tell.sendAll,r.cx + 1,0) := by
 unfold Node.read
 split
 · exact .inl (.inl rfl)
 · rename_i h3
   split
   · exact .inl (.inr rfl)
   · rename_i hat
     exact .inr ⟨Classical.byContradiction h3,Classical.byContradiction hat,rfl⟩
theorem qi3 (H : qG n K w s) (hK : K + 1 <= 1000000) (hk : k < n) :
 Well n (K + 1) ((if (s.r k).read.2.2 = 0 then { s with r := Sim.upd s.r k (s.r k).read.1,rds := s.rds ++ [⟨k,(s.r k).read.2.1,(Sim.upd s.r k (s.r k).read.1 k).ht,s.all.length⟩] } else ({ s with r := Sim.upd s.r k (s.r k).read.1 } : Sim)).look k) := by
 have N := (H.nd k hk).more (show K <= K + 1 by omega);have O := H.ok.more (show K <= K + 1 by omega) hK;have Rt := H.rest k hk;rw [qw];rcases qk2 (s.r k) with (e | e) | ⟨h3,hat,e⟩
 · rw [e,if_neg (by show ¬ (14 : Int) = 0; decide)];exact (H.does hK hk (net := s.net) (fun _ h => h) (Step.refl k w) O N Rt.kept (H.rds k hk)).well
 · rw [e,if_neg (by show ¬ (7 : Int) = 0; decide)];exact (H.does hK hk (net := s.net) (fun _ h => h) (Step.refl k w) O N Rt.kept (H.rds k hk)).well
 · have hcx : (s.r k).cx < K + 1 := by
    rw [(N.r3 h3).2.2.1];have := H.ok.xk (s.r k).ht;omega
   obtain ⟨S,O',N1⟩ := qj2 O N h3 hcx;have R1 := qj3 O N h3 hat H.all Rt.is.2.2.2 (H.rds k hk);have P := qiX Rt.kept;rw [e] at P ⊢;rw [if_pos rfl];dsimp only at P ⊢;have N2 : qe n (K + 1) s.all (wCtx w (s.r k).ht ((s.r k).cx + 1)) k (waits (s.r k)).tell.sendAll := N1.tell.sendAll O' h3
   have R2 : RdOk n (wCtx w (s.r k).ht ((s.r k).cx + 1)) (s.rds ++ [⟨k,(s.r k).cx + 1,(s.r k).ht,s.all.length⟩]) k (waits (s.r k)).tell.sendAll := by
    obtain ⟨q1,q2,q3⟩ := qeM (waits (s.r k)).tell;exact (qgF N1.tell h3 R1).like q1 q2 q3
   have eht : (waits (s.r k)).tell.sendAll.ht = (s.r k).ht := by
    have h1 := N2.tm;have h2 := N.tm;have h3 : (wCtx w (s.r k).ht ((s.r k).cx + 1)).g.term k = w.g.term k := rfl;rw [<- h1,h3,h2]
   rw [eht];generalize (waits (s.r k)).tell.sendAll = r' at P N2 R2 ⊢;have M0 := H.does hK hk (net := s.net) (fun _ h => h) S O' N2 P R2.less
   have M : Mid n (K + 1) (wCtx w (s.r k).ht ((s.r k).cx + 1)) { s with r := Sim.upd s.r k r',rds := s.rds ++ [⟨k,(s.r k).cx + 1,(s.r k).ht,s.all.length⟩] } k := by
    refine ⟨M0.nn,M0.kn,M0.ok,M0.nd,M0.net,M0.ldr,M0.all,M0.cma,fun j hj hjk => ?_,fun j hj => ?_,M0.kept⟩
    · have h := M0.rest j hj hjk;exact ⟨h.ht,h.hv,h.sn,h.lg,h.r⟩
    · show RdOk n _ (s.rds ++ _) j (Sim.upd s.r k r' j)
      by_cases hjk : j = k
      · rw [hjk,qw];exact R2
      · exact (M0.rds j hj).add (by show k ≠ j; omega)
   exact M.well
theorem qgH (H : qG n K w s) (hK : K + 1 <= 1000000) (m : Sim.Move) : Well n (K + 1) (s.move m) := by
 by_cases hm : m.k = 1 \/ m.k = 2 \/ m.k = 3
 · exact qhr H hK m hm
 · have hk : m.a % s.n < n := by
    have := H.nn;rw [this.1];exact Nat.mod_lt _ (by omega)
   unfold Sim.move;dsimp only
   by_cases h0 : m.k = 0
   · rw [if_pos h0];exact qi2 H hK hk
   rw [if_neg h0,if_neg hm]
   by_cases h4 : m.k = 4
   · rw [if_pos h4];exact qf6 H hK hk m.d
   rw [if_neg h4]
   by_cases h5 : m.k = 5
   · rw [if_pos h5];obtain ⟨a1,a2⟩ := qhs H hK hk;rw [a1,if_neg (by decide)];exact a2
   rw [if_neg h5]
   by_cases h6 : m.k = 6
   · rw [if_pos h6];exact qi3 H hK hk
   rw [if_neg h6]
   by_cases h7 : m.k = 7
   · rw [if_pos h7];obtain ⟨a1,a2⟩ := qf7 H hK hk;rw [if_neg a1];exact a2
   rw [if_neg h7];exact qgG H hK hk (net := s.net) (fun _ h => h)
end
def W.none : W := ⟨⟨fun _ => 0,fun _ => [],fun _ _ => Option.none,fun _ _ => Option.none,fun _ => Option.none,fun _ _ => 0⟩,fun _ => 0,fun _ => 0,fun _ _ => 0⟩
theorem qk3 (n : Nat) : WOk n 0 W.none := by
 refine ⟨?_,by omega,fun _ => rfl,fun c T X h => (by cases h),fun T c Y h => (by cases h),fun T h => (by cases h),fun _ _ => ⟨rfl,rfl⟩,fun a T => ⟨Int.le_refl _,Int.le_refl _,fun h => ?_⟩,fun a => ⟨Int.le_refl _,Int.le_refl _⟩,fun a => Int.le_refl _,fun T => Int.le_refl _,fun a T c h => (by cases h)⟩
 · exact ⟨fun a => List.Pairwise.nil,fun a e h => (by cases h),fun a j e h => (by cases h),fun c T X h => (by cases h),fun T c Y h => (by cases h),fun a T c h => (by cases h),fun T c Y X h => (by cases h),fun a T h => (by cases h),fun a T0 i P h ho => (by obtain ⟨_,_,_,h1,_⟩ := ho; cases h1)⟩
 · have h : (0 : Int) < 0 := h;omega
theorem qk4 {n : Nat} (h1 : 1 <= n) (h3 : n <= 3) : qG n 0 W.none (Sim.made n) := by
 have F0 : Full ([] : List Ent) ⟨0,0,[],0⟩ := ⟨Int.le_refl _,Int.le_refl _,rfl,rfl,rfl⟩;refine ⟨⟨rfl,h1,h3⟩,qk3 n,fun k hk => ?_,fun m hm => (by cases hm),fun x hx => (by cases hx),⟨0, .inl rfl⟩,fun k hk => ?_,fun k hk => ⟨rfl,rfl,rfl,rfl,rfl⟩,fun k hk => ⟨fun x hx => (by cases hx),fun x hx => (by cases hx),fun x hx => (by cases hx)⟩⟩
 · refine ⟨⟨rfl,rfl,hk,h3⟩,F0,rfl,fun c => ⟨fun h => (by cases h),fun h => ?_⟩,Int.le_refl _,fun _ => rfl,⟨Int.le_refl _,Int.le_refl _⟩, .inl rfl,⟨rfl,rfl,fun _ => ?_,fun _ => rfl⟩,List.prefix_refl _, .inl rfl,fun _ => rfl,fun h => ?_,fun h => ?_,fun h => ?_,fun m hm => (by cases hm)⟩
   · have h : (-1 : Int) = (c : Int) := h;omega
   · rename_i h;have h : (0 : Int) < 0 := h;omega
   · have h : (0 : Int) = 2 \/ (0 : Int) = 3 := h;omega
   · have h : (0 : Int) = 2 := h;omega
   · have h : (0 : Int) = 3 := h;omega
 · exact List.prefix_refl _
end Go.Proofs.YtmiijlecfiddmaaGreat
set_option linter.unusedVariables false
set_option linter.unusedSimpArgs false
set_option maxRecDepth 100000
set_option maxHeartbeats 200000
namespace Go.Proofs.YtmiijlecfiddmaaGreat
theorem qk5 {n : Nat} {K : Int} {all : List Ent} {w : W} {k : Nat} {r : Node} (O : WOk n K w) (N : qe n K all w k r) (hK : K <= 250000) (hi : r.Idle) (hb : r.Bnd) (hs : r.Small K.toNat) (hm : r.ms.length <= 900000) : Able r := by
 obtain ⟨i1,i2,i3,i4⟩ := N.id;have hk0 := O.kk;have hlk := O.lk k;have htk := O.tk k;rw [N.tm] at htk;have hln := N.fu.len;have hli := N.fu.lastI;have hlt := N.fu.lastT;have hi0 := N.fu.i0;have hcm := N.cm;have hl9 := N.lastT O;have hs1 := hs.1;have hs2 := hs.2
 refine { n := ⟨by omega,by omega⟩,ms := hm,len := by omega,good := N.fu.good,sd := ?_,idle := fun h => ⟨(hi h).1,N.rd h,(hi h).2⟩,ht := ⟨by omega,by omega⟩,lt := by rw [hlt]; exact hl9,li := by omega,wk := ⟨by omega,by omega⟩,cx := ?_,cm := ⟨by omega,by omega⟩,nx := fun j => by have := hb j; omega,ma := fun j => by have := hb j; omega,td := by omega,up := ?_,r1 := fun _ => by omega }
 · rcases Int.lt_or_le 0 r.sn.i with h | h
   · rw [N.sn.2.2.1 h,qbl];omega
   · rw [N.sn.2.2.2 (by have := N.sn.1; omega)];exact Nat.zero_le _
 · by_cases h3 : r.ro = 3
   · have h4 := (N.r3 h3).2.2.1;have h5 := O.rx 0 r.ht;have h6 := O.xk r.ht;omega
   · rw [(hi h3).1];omega
 · intro h;rcases h with h | h
   · exact (O.cr _ _ _ (N.r2 h).1).2.2
   · obtain ⟨_,_,_,X,Z,hX,_⟩ := O.inv.cll _ _ _ (N.r3 h).1;exact (O.cr _ _ _ hX).2.2
end Go.Proofs.YtmiijlecfiddmaaGreat
set_option linter.unusedVariables false
set_option linter.unusedSimpArgs false
set_option maxRecDepth 100000
set_option maxHeartbeats 6400000
namespace Go.Proofs.YtmiijlecfiddmaaGreat
open Go.RowKit Go.Shelf
attribute [local go_sem] Oper.semAt_some
def Bad (k : Nat) (t : Int) (y : Int × Int) (x : qar) : Prop := x.at_ = k /\ x.c = y.1 /\ x.t = t /\ y.2 < x.w
theorem qkO {S : Sim} {k : Nat} {l : List (Int × Int)} {y : Int × Int} {x : qar} (hy : y ∈ l) (hx : x ∈ S.rds) (h : Bad k (S.r k).ht y x) : S.told k l = false := by
 unfold Sim.told;rw [List.all_eq_false];refine ⟨y,hy,?_⟩;rw [Bool.not_eq_true,List.all_eq_false];refine ⟨x,hx,?_⟩;obtain ⟨h1,h2,h3,h4⟩ := h
 simp [h1,h2,h3,h4]
theorem qjK {S : Sim} {k : Nat} {l : List (Int × Int)} (h : ∀ y ∈ l,∀ x ∈ S.rds,¬ Bad k (S.r k).ht y x) : S.told k l = true := by
 unfold Sim.told;rw [List.all_eq_true];intro y hy;rw [List.all_eq_true];intro x hx;have h1 := h y hy x hx;unfold Bad at h1;simp only [Bool.not_eq_true',Bool.and_eq_false_iff,decide_eq_false_iff_not]
 by_cases e1 : x.at_ = k
 · by_cases e2 : x.c = y.1
   · by_cases e3 : x.t = (S.r k).ht
     · exact .inr (.inr (.inr fun e4 => h1 ⟨e1,e2,e3,e4⟩))
     · exact .inr (.inr (.inl e3))
   · exact .inr (.inl e2)
 · exact .inl e1
theorem qel (a0 a1 a2 a3 a4 a5 a6 a7 a8 a9 : Value) (w : World) : (Instr.field 48 (.agg #[a0,a1,a2,a3,a4,a5,a6,a7,a8,a9]) 3).run Tryz.prog w = .ok (.agg #[a3,a4]) w := by kernel_rfl
theorem qfO (a0 a1 : Value) (w : World) : (Instr.field 40 (.agg #[a0,a1]) 0).run Tryz.prog w = .ok a0 w := by kernel_rfl
theorem qjL {l : List qar} {j : Nat} (hj : j < l.length) : (qaq l)[j * 4 + 0]? = some (.int .i64 (l[j].at_ : Int)) /\ (qaq l)[j * 4 + 1]? = some (.int .i64 l[j].c) /\ (qaq l)[j * 4 + 2]? = some (.int .i64 l[j].t) /\ (qaq l)[j * 4 + 3]? = some (.int .i64 (l[j].w : Int)) := by
 unfold qaq
 induction l generalizing j with
 | nil => exact absurd hj (by simp)
 | cons a l ih =>
   cases j with
   | zero => exact ⟨rfl,rfl,rfl,rfl⟩
   | succ j =>
     have hj' : j < l.length := by simpa using hj
     obtain ⟨h0,h1,h2,h3⟩ := ih hj'
     have e : ∀ i,((a :: l).flatMap fun x => [Value.int .i64 (x.at_ : Int), .int .i64 x.c, .int .i64 x.t, .int .i64 (x.w : Int)])[(j + 1) * 4 + i]? = (l.flatMap fun x => [Value.int .i64 (x.at_ : Int), .int .i64 x.c, .int .i64 x.t, .int .i64 (x.w : Int)])[j * 4 + i]? := fun i => by
      rw [List.flatMap_cons,List.getElem?_append_right (by simp; omega)]
      congr 1
      simp;omega
     refine ⟨(e 0).trans h0,(e 1).trans h1,(e 2).trans h2,(e 3).trans h3⟩
theorem qkP {l : List (Int × Int)} {j : Nat} (hj : j < l.length) : (rrow l)[j * 2 + 0]? = some (.int .i64 l[j].1) /\ (rrow l)[j * 2 + 1]? = some (.int .i64 l[j].2) := by
 unfold rrow
 induction l generalizing j with
 | nil => exact absurd hj (by simp)
 | cons a l ih =>
   cases j with
   | zero => exact ⟨rfl,rfl⟩
   | succ j =>
     obtain ⟨h0,h1⟩ := ih (by simpa using hj : j < l.length)
     have e : ∀ i,((a :: l).flatMap qdu)[(j + 1) * 2 + i]? = (l.flatMap qdu)[j * 2 + i]? := fun i => by
      rw [List.flatMap_cons,List.getElem?_append_right (by show 2 <= _; omega)]
      congr 1
      show (j + 1) * 2 + i - 2 = _;omega
     exact ⟨(e 0).trans h0,(e 1).trans h1⟩
theorem qim {w : World} {S : Sim} {L : SimL} {lab : Nat -> Nat} (h : qh w S L lab) (k : Nat) (hk : k < S.n) (hl : (S.r k).lg.l.length <= 1000000) (hn : (S.r k).n <= 3) (l : List (Int × Int)) (T : Option Addr) (cT : Nat) (hT : Sp 96 2 w T l.length cT (rrow l)) (hll : l.length <= 1000000) (hrl : S.rds.length <= 1000000) :
 Calls Tryz.prog 52 #[ptrV L.g, .int .i64 (k : Int), .slice T l.length cT] w fun e w' => e = .returned (.bool (S.told k l)) /\ Below w.heap.size w w' := by
 obtain ⟨q,s,xs,K,R,hf⟩ := h.nodes k hk;obtain ⟨b,off,eA,hpc,hpl,hpn⟩ := h.ptr hk;obtain ⟨N,hN⟩ := exq (S.r k);have hyes := qjK (S := S) (k := k) (l := l)
 have hno : ∀ y ∈ l,∀ x ∈ S.rds,Bad k (S.r k).ht y x -> S.told k l = false := fun y hy x hx hb => qkO hy hx hb
 rw [hN] at R hn hl hyes hno;obtain ⟨res,hres⟩ : ∃ r,S.told k l = r := ⟨_,rfl⟩;rw [hres] at hyes hno ⊢;have HY := hdq2 hyes hno;have H := hdq7 h hT R hl hn hpc eA;obtain ⟨nl,hnl⟩ := exq (l.length);obtain ⟨nr,hnr⟩ := exq (S.rds.length);rw [hnl] at hll ⊢;rw [hnr] at hrl;have HN := hdq2 hnl hnr;clear R hf h hN hT hpc hyes hno hres hnl hnr eA hl hn
 go_enter Tryz.func52,Tryz.ntmps52
 go_wp2_with fail
 go_loopw [12] (fun v12 wx => ∃ i : Nat,i <= nl /\ v12 = .int .i64 (i : Int) /\ Below w.heap.size w wx /\ ∀ i' (hi : i' < l.length),i' < i -> ∀ x ∈ S.rds,¬ Bad k N.ht l[i'] x) (fun v12 _ => nl - (intOf v12).toNat)
 case atStart => exact ⟨0,Nat.zero_le _,rfl,blq,fun i' _ hi => absurd hi (by omega)⟩
 case round =>
  obtain ⟨i,hi,rfl,hb,hprev⟩ := hrel
  by_cases hi2 : i < nl
  · have l1 : decide ((i : Int) < (nl : Int)) = true := decide_eq_true (by omega)
    have hil : i < l.length := by rw [HN.out.1]; exact hi2
    have c8 := qb (H.out.1.below hb).row 8 _ rfl;rw [show (simC S L)[8] = .slice L.Aq S.rds.length L.cq from rfl,HN.out.2] at c8;have HP := hdq2 hprev hb;obtain ⟨w1,hw1⟩ := exq (wr);rw [hw1] at c8 HP ⊢;have HW := Lib.hid hw1;clear hprev hb hw1
    go_wp2_with fail
    clear c8
    go_loopw [20] (fun v20 wx => ∃ j : Nat,j <= nr /\ v20 = .int .i64 (j : Int) /\ Below w.heap.size w wx /\ ∀ j' (hj : j' < S.rds.length),j' < j -> ¬ Bad k N.ht l[i] S.rds[j']) (fun v20 _ => nr - (intOf v20).toNat)
    case atStart => exact ⟨0,Nat.zero_le _,rfl,HP.out.2,fun j' _ hj => absurd hj (by omega)⟩
    case round =>
     obtain ⟨j,hj,rfl,hb,hprev⟩ := hrel
     by_cases hj2 : j < nr
     · have l2 : decide ((j : Int) < (nr : Int)) = true := decide_eq_true (by omega)
       have hjl : j < S.rds.length := by rw [HN.out.2]; exact hj2
       have Hb := H.out.1.below hb;have c8 := qb Hb.row 8 _ rfl;rw [show (simC S L)[8] = .slice L.Aq S.rds.length L.cq from rfl,HN.out.2] at c8;obtain ⟨gq,oq,eq,_,hcq,_⟩ := Hb.q.sp.at_ (by omega) j hjl;have hcap := Hb.q.sp.2.1;rw [HN.out.2] at hcap;rw [eq] at c8;obtain ⟨a0,a1,a2,a3⟩ := qjL hjl;have k0 := hcq 0 (by omega) _ a0;have k1 := hcq 1 (by omega) _ a1;have k2 := hcq 2 (by omega) _ a2;have k3 := hcq 3 (by omega) _ a3;rw [Nat.add_zero] at k0;obtain ⟨x,hx⟩ := exq (S.rds[j]);obtain ⟨y,hy⟩ := exq (l[i]);rw [hx] at k0 k1 k2 k3;have HX := hdq6 hx hy hprev hb (hx ▸ List.getElem_mem hjl : x ∈ S.rds) (hy ▸ List.getElem_mem hil : y ∈ l);clear hx hy hprev hb Hb hcq a0 a1 a2 a3 eq;obtain ⟨W3,hW3⟩ : ∃ W3,wr.alloc (.cells #[.int .i64 (x.at_ : Int), .int .i64 x.c, .int .i64 x.t, .int .i64 (x.w : Int)] 110) = W3 := ⟨_,rfl⟩
       have hb3 : Below wr.heap.size wr W3 := by rw [<- hW3]; exact blq.alloc nlq _
       have hbx : W3.heap[wr.heap.size]? = some (.cells #[.int .i64 (x.at_ : Int), .int .i64 x.c, .int .i64 x.t, .int .i64 (x.w : Int)] 110) := by rw [<- hW3]; exact heap_alloc_new wr _
       have hbw3 : Below w.heap.size w W3 := HX.out.2.2.2.1.trans (hb3.mono HX.out.2.2.2.1.size)
       have hTw := H.out.2.1.keep fun b hb => hbw3.block b (H.out.2.1.lt hb)
       obtain ⟨gl,ol,eT,_,hcl,_⟩ := hTw.at_ (by omega) i hil;obtain ⟨r0,r1⟩ := qkP hil;have m0 := hcl 0 (by omega) _ r0;have m1 := hcl 1 (by omega) _ r1;rw [HX.out.2.1,Nat.add_zero] at m0;rw [HX.out.2.1] at m1;have hcapT := hTw.2.1;rw [HN.out.1] at hcapT;subst eT;clear hcl r0 r1 hTw;have hc0 := qb (H.out.1.below hbw3).row 0 _ rfl;rw [show (simC S L)[0] = .slice L.Ar S.n L.cr from rfl,H.out.2.2.2.2.2.2] at hc0;have hpc := (World.cell?_of_block (a := ⟨b,off + k,none⟩) (hbw3.block b (World.block_lt_of_cell? w ⟨b,off + k,none⟩ H.out.2.2.2.2.2.1))).trans H.out.2.2.2.2.2.1;have x0 := qb hbx 0 _ rfl;have x1 := qb hbx 1 _ rfl;have x2 := qb hbx 2 _ rfl;have x3 := qb hbx 3 _ rfl
       have hSW : ∀ W,Below W3.heap.size W3 W -> (fun w' => w'.cell? ⟨wr.heap.size,0,none⟩ = some (.int .i64 (x.at_ : Int)) /\ w'.cell? ⟨wr.heap.size,1,none⟩ = some (.int .i64 x.c) /\ w'.cell? ⟨wr.heap.size,2,none⟩ = some (.int .i64 x.t) /\ w'.cell? ⟨wr.heap.size,3,none⟩ = some (.int .i64 (x.w : Int)) /\ w'.cell? ⟨gl,ol + i * 2,none⟩ = some (.int .i64 y.1) /\ w'.cell? ⟨gl,ol + i * 2 + 1,none⟩ = some (.int .i64 y.2) /\ w'.cell? ⟨L.g,0,none⟩ = some (.slice (some ⟨b,off,none⟩) S.n L.cr) /\ w'.cell? ⟨b,off + k,none⟩ = some (ptrV (L.ps k))) W := fun W hW => by
        have hc : ∀ a v,W3.cell? a = some v -> W.cell? a = some v := fun a v hv => (World.cell?_of_block (hW.block a.block (World.block_lt_of_cell? W3 a hv))).trans hv
        exact ⟨hc _ _ x0,hc _ _ x1,hc _ _ x2,hc _ _ x3,hc _ _ m0,hc _ _ m1,hc _ _ hc0,hc _ _ hpc⟩
       have hSt := fun W (hW : Below w.heap.size w W) => qaE (H.out.2.2.1.below hW) H.out.2.2.2.1 H.out.2.2.2.2.1
       have HSW := hdq4 hSW hSt hbw3 hW3;clear x0 x1 x2 x3 hc0 hpc m0 m1 hSW hSt hb3 hbx hbw3 hW3;have hf3 := qel;have hfh := qfO
       go_wp2_with fail
       rw [HSW.out.2.2.2]
       by_cases b1 : x.at_ = k
       · have y1 : ((x.at_ : Int) == (k : Int)) = true := beq_iff_eq.2 (by omega)
         by_cases b2 : x.c = y.1
         · have y2 : (x.c == y.1) = true := beq_iff_eq.2 b2
           by_cases b3 : x.t = N.ht
           · have y3 : (x.t == N.ht) = true := beq_iff_eq.2 b3
             by_cases b4 : y.2 < (x.w : Int)
             · have HBAD := Lib.hid (show Bad k N.ht y x from ⟨b1,b2,b3,b4⟩);have y4 : decide (y.2 < (x.w : Int)) = true := decide_eq_true b4;clear b1 b2 b3 b4;refine wp_region_held_drew (S := (fun w' => w'.cell? ⟨wr.heap.size,0,none⟩ = some (.int .i64 (x.at_ : Int)) /\ w'.cell? ⟨wr.heap.size,1,none⟩ = some (.int .i64 x.c) /\ w'.cell? ⟨wr.heap.size,2,none⟩ = some (.int .i64 x.t) /\ w'.cell? ⟨wr.heap.size,3,none⟩ = some (.int .i64 (x.w : Int)) /\ w'.cell? ⟨gl,ol + i * 2,none⟩ = some (.int .i64 y.1) /\ w'.cell? ⟨gl,ol + i * 2 + 1,none⟩ = some (.int .i64 y.2) /\ w'.cell? ⟨L.g,0,none⟩ = some (.slice (some ⟨b,off,none⟩) S.n L.cr) /\ w'.cell? ⟨b,off + k,none⟩ = some (ptrV (L.ps k)))) (by kernel_rfl) (HSW.out.1 _ blq.drew) (fun hHeld => ?_);refine lsq 39 ?_;refine tkq 0 ?_;refine tkq 1 ?_;refine tkq 2 ?_;refine tkq 3 ?_;refine tkq 4 ?_;refine tkq 5 ?_;refine tkq 6 ?_;refine tkq 7 ?_;refine tkq 8 ?_;refine tkq 9 ?_;refine tkq 10 ?_;refine tkq 11 ?_;refine tkq 12 ?_;refine tkq 13 ?_;refine tkq 14 ?_;refine tkq 15 ?_;refine tkq 16 ?_;refine tkq 17 ?_;refine tkq 18 ?_;refine tkq 19 ?_;refine tkq 20 ?_;refine tkq 21 ?_;refine tkq 22 ?_;refine tkq 23 ?_;refine rdq1 24 fun KK hK => ?_;go_simp;refine (HSW.out.2.1 _ (HSW.out.2.2.1.trans ((show Below W3.heap.size W3 _ from (by first | exact blq.drew | exact blq)).mono HSW.out.2.2.1.size))).mono ?_;rintro e w4 ⟨NA,nc,MA,mc,rfl,_,_,_,_,hb4⟩;have hb34 : Below W3.heap.size W3 w4 := (show Below W3.heap.size W3 _ from (by first | exact blq.drew | exact blq)).trans (hb4.mono (by simp));refine hK.out _ _ (HSW.out.1 w4 hb34) ?_;clear hK KK hHeld;intro hHeld
               try simp only [lpq]
               refine tkq 25 ?_;refine tkq 26 ?_;refine tkq 27 ?_;refine tkq 28 ?_;refine tkq 29 ?_;refine tkq 30 ?_;refine tkq 31 ?_;refine tkq 32 ?_;refine tkq 33 ?_;refine tkq 34 ?_;refine tkq 35 ?_;refine tkq 36 ?_;refine tkq 37 ?_;refine tkq 38 ?_;refine dnq ?_;go_wp2;go_ret;have e9 := HY.out.2 y HX.out.2.2.2.2.2 x HX.out.2.2.2.2.1 HBAD.out;exact ⟨by rw [e9]; rfl,HSW.out.2.2.1.trans (hb34.mono HSW.out.2.2.1.size)⟩
             · have HBAD := Lib.hid (show ¬ Bad k N.ht y x from fun e => b4 e.2.2.2);have y4 : decide (y.2 < (x.w : Int)) = false := decide_eq_false b4;clear b1 b2 b3 b4;refine wp_region_held_drew (S := (fun w' => w'.cell? ⟨wr.heap.size,0,none⟩ = some (.int .i64 (x.at_ : Int)) /\ w'.cell? ⟨wr.heap.size,1,none⟩ = some (.int .i64 x.c) /\ w'.cell? ⟨wr.heap.size,2,none⟩ = some (.int .i64 x.t) /\ w'.cell? ⟨wr.heap.size,3,none⟩ = some (.int .i64 (x.w : Int)) /\ w'.cell? ⟨gl,ol + i * 2,none⟩ = some (.int .i64 y.1) /\ w'.cell? ⟨gl,ol + i * 2 + 1,none⟩ = some (.int .i64 y.2) /\ w'.cell? ⟨L.g,0,none⟩ = some (.slice (some ⟨b,off,none⟩) S.n L.cr) /\ w'.cell? ⟨b,off + k,none⟩ = some (ptrV (L.ps k)))) (by kernel_rfl) (HSW.out.1 _ blq.drew) (fun hHeld => ?_);refine lsq 39 ?_;refine tkq 0 ?_;refine tkq 1 ?_;refine tkq 2 ?_;refine tkq 3 ?_;refine tkq 4 ?_;refine tkq 5 ?_;refine tkq 6 ?_;refine tkq 7 ?_;refine tkq 8 ?_;refine tkq 9 ?_;refine tkq 10 ?_;refine tkq 11 ?_;refine tkq 12 ?_;refine tkq 13 ?_;refine tkq 14 ?_;refine tkq 15 ?_;refine tkq 16 ?_;refine tkq 17 ?_;refine tkq 18 ?_;refine tkq 19 ?_;refine tkq 20 ?_;refine tkq 21 ?_;refine tkq 22 ?_;refine tkq 23 ?_;refine rdq1 24 fun KK hK => ?_;go_simp;refine (HSW.out.2.1 _ (HSW.out.2.2.1.trans ((show Below W3.heap.size W3 _ from (by first | exact blq.drew | exact blq)).mono HSW.out.2.2.1.size))).mono ?_;rintro e w4 ⟨NA,nc,MA,mc,rfl,_,_,_,_,hb4⟩;have hb34 : Below W3.heap.size W3 w4 := (show Below W3.heap.size W3 _ from (by first | exact blq.drew | exact blq)).trans (hb4.mono (by simp));refine hK.out _ _ (HSW.out.1 w4 hb34) ?_;clear hK KK hHeld;intro hHeld
               try simp only [lpq]
               refine tkq 25 ?_;refine tkq 26 ?_;refine tkq 27 ?_;refine tkq 28 ?_;refine tkq 29 ?_;refine tkq 30 ?_;refine tkq 31 ?_;refine tkq 32 ?_;refine tkq 33 ?_;refine tkq 34 ?_;refine tkq 35 ?_;refine tkq 36 ?_;refine tkq 37 ?_;refine tkq 38 ?_;refine dnq ?_;go_wp2
               go_roundw
               case rel =>
                refine ⟨j + 1,hj2,by go_num,HSW.out.2.2.1.trans (hb34.mono HSW.out.2.2.1.size),fun j' hj' hjj => ?_⟩
                by_cases hjj2 : j' < j
                · exact HX.out.2.2.1 j' hj' hjj2
                · obtain rfl : j' = j := by omega
                  rw [HX.out.1,HX.out.2.1];exact HBAD.out
               case measure =>
                simp [intOf]
                omega
           · have HBAD := Lib.hid (show ¬ Bad k N.ht y x from fun e => b3 e.2.2.1);have y3 : (x.t == N.ht) = false := beq_eq_false_iff_ne.2 (b3);clear b1 b2 b3;refine wp_region_held_drew (S := (fun w' => w'.cell? ⟨wr.heap.size,0,none⟩ = some (.int .i64 (x.at_ : Int)) /\ w'.cell? ⟨wr.heap.size,1,none⟩ = some (.int .i64 x.c) /\ w'.cell? ⟨wr.heap.size,2,none⟩ = some (.int .i64 x.t) /\ w'.cell? ⟨wr.heap.size,3,none⟩ = some (.int .i64 (x.w : Int)) /\ w'.cell? ⟨gl,ol + i * 2,none⟩ = some (.int .i64 y.1) /\ w'.cell? ⟨gl,ol + i * 2 + 1,none⟩ = some (.int .i64 y.2) /\ w'.cell? ⟨L.g,0,none⟩ = some (.slice (some ⟨b,off,none⟩) S.n L.cr) /\ w'.cell? ⟨b,off + k,none⟩ = some (ptrV (L.ps k)))) (by kernel_rfl) (HSW.out.1 _ blq.drew) (fun hHeld => ?_);refine lsq 39 ?_;refine tkq 0 ?_;refine tkq 1 ?_;refine tkq 2 ?_;refine tkq 3 ?_;refine tkq 4 ?_;refine tkq 5 ?_;refine tkq 6 ?_;refine tkq 7 ?_;refine tkq 8 ?_;refine tkq 9 ?_;refine tkq 10 ?_;refine tkq 11 ?_;refine tkq 12 ?_;refine tkq 13 ?_;refine tkq 14 ?_;refine tkq 15 ?_;refine tkq 16 ?_;refine tkq 17 ?_;refine tkq 18 ?_;refine tkq 19 ?_;refine tkq 20 ?_;refine tkq 21 ?_;refine tkq 22 ?_;refine tkq 23 ?_;refine rdq1 24 fun KK hK => ?_;go_simp;refine (HSW.out.2.1 _ (HSW.out.2.2.1.trans ((show Below W3.heap.size W3 _ from (by first | exact blq.drew | exact blq)).mono HSW.out.2.2.1.size))).mono ?_;rintro e w4 ⟨NA,nc,MA,mc,rfl,_,_,_,_,hb4⟩;have hb34 : Below W3.heap.size W3 w4 := (show Below W3.heap.size W3 _ from (by first | exact blq.drew | exact blq)).trans (hb4.mono (by simp));refine hK.out _ _ (HSW.out.1 w4 hb34) ?_;clear hK KK hHeld;intro hHeld
             try simp only [lpq]
             refine tkq 25 ?_;refine tkq 26 ?_;refine tkq 27 ?_;refine tkq 28 ?_;refine tkq 29 ?_;refine tuq 30 ?_;refine tuq 31 ?_;refine tuq 32 ?_;refine tuq 33 ?_;refine tuq 34 ?_;refine tuq 35 ?_;refine tuq 36 ?_;refine tuq 37 ?_;refine tkq 38 ?_;refine dnq ?_;go_wp2
             go_roundw
             case rel =>
              refine ⟨j + 1,hj2,by go_num,HSW.out.2.2.1.trans (hb34.mono HSW.out.2.2.1.size),fun j' hj' hjj => ?_⟩
              by_cases hjj2 : j' < j
              · exact HX.out.2.2.1 j' hj' hjj2
              · obtain rfl : j' = j := by omega
                rw [HX.out.1,HX.out.2.1];exact HBAD.out
             case measure =>
              simp [intOf]
              omega
         · have HBAD := Lib.hid (show ¬ Bad k N.ht y x from fun e => b2 e.2.1);have y2 : (x.c == y.1) = false := beq_eq_false_iff_ne.2 (b2);clear b2 b1;refine wp_region_held_drew (S := (fun w' => w'.cell? ⟨wr.heap.size,0,none⟩ = some (.int .i64 (x.at_ : Int)) /\ w'.cell? ⟨wr.heap.size,1,none⟩ = some (.int .i64 x.c) /\ w'.cell? ⟨wr.heap.size,2,none⟩ = some (.int .i64 x.t) /\ w'.cell? ⟨wr.heap.size,3,none⟩ = some (.int .i64 (x.w : Int)) /\ w'.cell? ⟨gl,ol + i * 2,none⟩ = some (.int .i64 y.1) /\ w'.cell? ⟨gl,ol + i * 2 + 1,none⟩ = some (.int .i64 y.2) /\ w'.cell? ⟨L.g,0,none⟩ = some (.slice (some ⟨b,off,none⟩) S.n L.cr) /\ w'.cell? ⟨b,off + k,none⟩ = some (ptrV (L.ps k)))) (by kernel_rfl) (HSW.out.1 _ blq.drew) (fun hHeld => ?_);refine lsq 39 ?_;refine tkq 0 ?_;refine tkq 1 ?_;refine tkq 2 ?_;refine tkq 3 ?_;refine tkq 4 ?_;refine tkq 5 ?_;refine tkq 6 ?_;refine tkq 7 ?_;refine tkq 8 ?_;refine tkq 9 ?_;refine tkq 10 ?_;refine tkq 11 ?_;refine tkq 12 ?_;refine tkq 13 ?_;refine tkq 14 ?_;refine tuq 15 ?_;refine tuq 16 ?_;refine tuq 17 ?_;refine tuq 18 ?_;refine tuq 19 ?_;refine tuq 20 ?_;refine tuq 21 ?_;refine tuq 22 ?_;refine tuq 23 ?_;refine tuq 24 ?_;refine tuq 25 ?_;refine tuq 26 ?_;refine tuq 27 ?_;refine tkq 28 ?_;refine tkq 29 ?_;refine tuq 30 ?_;refine tuq 31 ?_;refine tuq 32 ?_;refine tuq 33 ?_;refine tuq 34 ?_;refine tuq 35 ?_;refine tuq 36 ?_;refine tuq 37 ?_;refine tkq 38 ?_;refine dnq ?_;go_wp2
           go_roundw
           case rel =>
            refine ⟨j + 1,hj2,by go_num,HSW.out.2.2.1.trans (blq.drew.mono HSW.out.2.2.1.size),fun j' hj' hjj => ?_⟩
            by_cases hjj2 : j' < j
            · exact HX.out.2.2.1 j' hj' hjj2
            · obtain rfl : j' = j := by omega
              rw [HX.out.1,HX.out.2.1];exact HBAD.out
           case measure =>
            simp [intOf]
            omega
       · have HBAD := Lib.hid (show ¬ Bad k N.ht y x from fun e => b1 e.1);have y1 : ((x.at_ : Int) == (k : Int)) = false := beq_eq_false_iff_ne.2 (by omega);clear b1;refine wp_region_held_drew (S := (fun w' => w'.cell? ⟨wr.heap.size,0,none⟩ = some (.int .i64 (x.at_ : Int)) /\ w'.cell? ⟨wr.heap.size,1,none⟩ = some (.int .i64 x.c) /\ w'.cell? ⟨wr.heap.size,2,none⟩ = some (.int .i64 x.t) /\ w'.cell? ⟨wr.heap.size,3,none⟩ = some (.int .i64 (x.w : Int)) /\ w'.cell? ⟨gl,ol + i * 2,none⟩ = some (.int .i64 y.1) /\ w'.cell? ⟨gl,ol + i * 2 + 1,none⟩ = some (.int .i64 y.2) /\ w'.cell? ⟨L.g,0,none⟩ = some (.slice (some ⟨b,off,none⟩) S.n L.cr) /\ w'.cell? ⟨b,off + k,none⟩ = some (ptrV (L.ps k)))) (by kernel_rfl) (HSW.out.1 _ blq.drew) (fun hHeld => ?_);refine lsq 39 ?_;refine tkq 0 ?_;refine tkq 1 ?_;refine tkq 2 ?_;refine tkq 3 ?_;refine tkq 4 ?_;refine tuq 5 ?_;refine tuq 6 ?_;refine tuq 7 ?_;refine tuq 8 ?_;refine tuq 9 ?_;refine tuq 10 ?_;refine tuq 11 ?_;refine tuq 12 ?_;refine tkq 13 ?_;refine tkq 14 ?_;refine tuq 15 ?_;refine tuq 16 ?_;refine tuq 17 ?_;refine tuq 18 ?_;refine tuq 19 ?_;refine tuq 20 ?_;refine tuq 21 ?_;refine tuq 22 ?_;refine tuq 23 ?_;refine tuq 24 ?_;refine tuq 25 ?_;refine tuq 26 ?_;refine tuq 27 ?_;refine tkq 28 ?_;refine tkq 29 ?_;refine tuq 30 ?_;refine tuq 31 ?_;refine tuq 32 ?_;refine tuq 33 ?_;refine tuq 34 ?_;refine tuq 35 ?_;refine tuq 36 ?_;refine tuq 37 ?_;refine tkq 38 ?_;refine dnq ?_;go_wp2
         go_roundw
         case rel =>
          refine ⟨j + 1,hj2,by go_num,HSW.out.2.2.1.trans (blq.drew.mono HSW.out.2.2.1.size),fun j' hj' hjj => ?_⟩
          by_cases hjj2 : j' < j
          · exact HX.out.2.2.1 j' hj' hjj2
          · obtain rfl : j' = j := by omega
            rw [HX.out.1,HX.out.2.1];exact HBAD.out
         case measure =>
          simp [intOf]
          omega
     · obtain rfl : j = nr := by omega
       go_wp2_with fail
       go_roundw
       case rel =>
        refine ⟨i + 1,hi2,by go_num,hb,fun i' hi' hii x hx => ?_⟩
        by_cases hii2 : i' < i
        · exact HP.out.1 i' hi' hii2 x hx
        · obtain rfl : i' = i := by omega
          obtain ⟨j',hj',rfl⟩ := List.getElem_of_mem hx;exact hprev j' hj' (by rw [<- HN.out.2]; exact hj')
       case measure =>
        simp [intOf]
        omega
  · obtain rfl : i = nl := by omega
    have ht := HY.out.1 fun y hy x hx => by
     obtain ⟨i',hi',rfl⟩ := List.getElem_of_mem hy;exact hprev i' hi' (by rw [<- HN.out.1]; exact hi') x hx
    go_wp2;go_ret;exact ⟨by rw [ht]; rfl,hb⟩
end Go.Proofs.YtmiijlecfiddmaaGreat
