/- The moves that a law is called with; are there few? -/
import Derived.Test.YtmiijlecfiddmaaGreatNNM01
import Derived.Test.YtmiijlecfiddmaaGreatNNM41
import Derived.Test.YtmiijlecfiddmaaGreatNNM08
set_option linter.unusedVariables false
set_option linter.unusedSimpArgs false
set_option maxRecDepth 100000
set_option maxHeartbeats 3200000
namespace Go.Proofs.YtmiijlecfiddmaaGreat
open Go.ChangeShapes Go.WideShapes Go.ChangeAt Go.RowKit Go.Deep
structure MvL where
 k : Int
 a : Int
 x : Int
 D : Option Addr
 dc : Nat
 d : List UInt8
structure MvOk (W : World) (m : MvL) : Prop where
 k : 0 <= m.k /\ m.k < 256
 a : 0 <= m.a /\ m.a < 256
 x : 0 <= m.x /\ m.x < 256
 c : m.dc <= maxLen
 l : Lies W m.D m.d.length m.dc m.d
 z : 0 < m.d.length -> ∀ g o,m.D = some ⟨g,o,none⟩ -> g < W.heap.size
def qcV (W : World) (A : Option Addr) (len : Nat) (K : Nat -> MvL) : Prop := 0 < len -> ∃ g off,A = some ⟨g,off,none⟩ /\ g < W.heap.size /\ ∀ j,j < len -> W.cell? ⟨g,off + j * 4,none⟩ = some (.int .u8 (K j).k) /\ W.cell? ⟨g,off + j * 4 + 1,none⟩ = some (.int .u8 (K j).a) /\ W.cell? ⟨g,off + j * 4 + 2,none⟩ = some (.int .u8 (K j).x) /\ W.cell? ⟨g,off + j * 4 + 3,none⟩ = some (.slice (K j).D (K j).d.length (K j).dc)
section
variable {H : Type} {enc : TypeId × Value → H} {P : Program} {W : World} {sp : Nat → Bool} {hd : Bool}
theorem arg_moves {base : Nat} {v : Value} {d : DataW H} {p : List MemPlace}
 (hok : Value.okWide Tryz.prog W .any base 57 v) (h : DataW.Trod enc Tryz.prog W 0 sp hd 57 v d p) (hlt : ∀ x ∈ p,x.block < W.heap.size) :
 ∃ (A : Option Addr) (len cap : Nat) (K : Nat -> MvL),v = .slice A len cap /\ len <= cap /\ cap <= maxLen /\ qcV W A len K /\ (∀ j,j < len -> MvOk W (K j)) := by
 obtain ⟨A,len,cap,n,Cs,D,rfl,hl,hm,hrow,hel⟩ := qeZ Tryz.underlying57 (show Tryz.prog.cellsOf 63 = 4 by kernel_rfl) (by omega) hok h hlt
 obtain ⟨R,hR⟩ := Classical.axiomOfChoice (r := fun j (r : MvL) => j < len -> Cs j = [.int .u8 r.k, .int .u8 r.a, .int .u8 r.x, .slice r.D r.d.length r.dc] /\ MvOk W r) (fun j => by
  by_cases hj : j < len
  · obtain ⟨hlen,pl,hdt,hp⟩ := hel j hj;obtain ⟨m2,hfi⟩ := qeC (x := (D j,pl)) Tryz.underlying63 (by kernel_rfl) (by rw [hlen]; rfl) hdt hp;obtain ⟨v0,y0,g0,t0,_⟩ := hfi 0 _ rfl;obtain ⟨v1,y1,g1,t1,_⟩ := hfi 1 _ rfl;obtain ⟨v2,y2,g2,t2,_⟩ := hfi 2 _ rfl;obtain ⟨v3,y3,g3,t3,p3⟩ := hfi 3 _ rfl;obtain ⟨k,e0,_,hk⟩ := DataW.trod_int Tryz.underlying5 t0;obtain ⟨a,e1,_,ha⟩ := DataW.trod_int Tryz.underlying5 t1;obtain ⟨x,e2,_,hx⟩ := DataW.trod_int Tryz.underlying5 t2;obtain ⟨E,el,c,r,rfl,hc,hlies,hz⟩ := qjg Tryz.underlying23 Tryz.underlying5 (by kernel_rfl) t3 p3;obtain rfl : r.length = el := hlies.1
    have e0' : v0 = .int .u8 k := by injection e0
    have e1' : v1 = .int .u8 a := by injection e1
    have e2' : v2 = .int .u8 x := by injection e2
    subst e0' e1' e2';refine ⟨⟨k,a,x,E,c,r⟩,fun _ => ⟨?_,⟨qct hk,qct ha,qct hx,hc,hlies,fun h0 g o e => hz h0 _ e⟩⟩⟩
    match Cs j,hlen,g0,g1,g2,g3 with
    | [a',b',c',d'],_,g0,g1,g2,g3 =>
      injection g0 with g0; injection g1 with g1; injection g2 with g2; injection g3 with g3;subst g0 g1 g2 g3
      rfl
  · exact ⟨⟨0,0,0,none,0,[]⟩,fun h => absurd h hj⟩)
 refine ⟨A,len,cap,R,rfl,hl,hm,fun hpos => ?_,fun j hj => (hR j hj).2⟩;obtain ⟨g,off,e,hg,hc⟩ := hrow hpos;refine ⟨g,off,e,hg,fun j hj => ?_⟩;have e1 := (hR j hj).1;refine ⟨?_,hc j hj 1 _ (by rw [e1]; rfl),hc j hj 2 _ (by rw [e1]; rfl),hc j hj 3 _ (by rw [e1]; rfl)⟩;have := hc j hj 0 (.int .u8 (R j).k) (by rw [e1]; rfl)
 rwa [Nat.add_zero] at this
end
theorem qcV.below {W W' : World} {A : Option Addr} {len : Nat} {K : Nat -> MvL} (h : qcV W A len K) (hb : Below W.heap.size W W') : qcV W' A len K := fun h0 => by
 obtain ⟨g,off,e,hg,hc⟩ := h h0
 have hx : ∀ o,W'.cell? ⟨g,o,none⟩ = W.cell? ⟨g,o,none⟩ := fun o => World.cell?_of_block (hb.block g hg)
 exact ⟨g,off,e,Nat.lt_of_lt_of_le hg hb.size,fun j hj => by rw [hx,hx,hx,hx]; exact hc j hj⟩
theorem MvOk.below {W W' : World} {m : MvL} (h : MvOk W m) (hb : Below W.heap.size W W') : MvOk W' m := ⟨h.k,h.a,h.x,h.c,h.l.below hb nlq,fun h0 g o e => Nat.lt_of_lt_of_le (h.z h0 g o e) hb.size⟩
theorem qfT (A : Option Addr) (len c : Nat) (K : Nat -> MvL) (most : Nat) (w : World) (h : qcV w A len K) (hK : ∀ j,j < len -> MvOk w (K j)) (hl : len <= maxLen) (hmost : most <= 1000) (hlc : len <= c) :
 Calls Tryz.prog 18 #[.slice A len c, .int .i64 (most : Int)] w fun e w' => ∃ b,e = .returned (.bool b) /\ (b = true -> len <= most /\ ∀ j,j < len -> (K j).d.length <= 50) /\ w = w' := by
 have HK := hdq2 h hK;unfold maxLen at hl;clear h hK
 go_enter Tryz.func18,Tryz.ntmps18
 go_wp2_with fail
 go_loopw [8] (fun v8 wx => ∃ j : Nat,j <= len /\ v8 = .int .i64 (j : Int) /\ wx = w /\ j <= most /\ ∀ i,i < j -> (K i).d.length <= 50) (fun v8 _ => len - (intOf v8).toNat)
 case atStart => exact ⟨0,Nat.zero_le _,rfl,rfl,Nat.zero_le _,fun i hi => absurd hi (by omega)⟩
 case round =>
  obtain ⟨j,hj,rfl,rfl,hjm,hp⟩ := hrel;have HP := Lib.hid hp;clear hp
  by_cases hj2 : j < len
  · have l1 : decide ((j : Int) < (len : Int)) = true := decide_eq_true (by omega)
    by_cases hm2 : most <= j
    · have l2 : decide ((most : Int) <= (j : Int)) = true := decide_eq_true (by omega);go_wp2;go_ret;exact ⟨false,rfl,(fun e => by cases e),rfl⟩
    · have l2 : decide ((most : Int) <= (j : Int)) = false := decide_eq_false (by omega);obtain ⟨g,off,e,hg,hc⟩ := HK.out.1 (by omega);obtain ⟨_,_,_,hc3⟩ := hc j hj2;have hdl := (HK.out.2 j hj2).l.2.1;have hdc := (HK.out.2 j hj2).c;unfold maxLen at hdc;subst e;obtain ⟨dl,hd⟩ := exq ((K j).d.length);rw [hd] at hc3 hdl;have HD := Lib.hid hd;clear hc hd
      by_cases h50 : 50 < dl
      · have l3 : decide ((50 : Int) < (dl : Int)) = true := decide_eq_true (by omega);go_wp2;go_ret;exact ⟨false,rfl,(fun e => by cases e),rfl⟩
      · have l3 : decide ((50 : Int) < (dl : Int)) = false := decide_eq_false (by omega);go_wp2
        go_roundw
        case rel =>
         refine ⟨j + 1,hj2,by go_num,by first | rfl | trivial,by omega,fun i hi => ?_⟩
         by_cases hij : i < j
         · exact HP.out i hij
         · obtain rfl : i = j := by omega
           rw [HD.out];omega
        case measure =>
         simp [intOf]
         omega
  · obtain rfl : j = len := by omega
    go_wp2;go_ret;exact ⟨true,rfl,fun _ => ⟨hjm,HP.out⟩,rfl⟩
end Go.Proofs.YtmiijlecfiddmaaGreat
set_option linter.unusedVariables false
set_option linter.unusedSimpArgs false
set_option maxRecDepth 100000
set_option maxHeartbeats 200000
namespace Go.Proofs.YtmiijlecfiddmaaGreat
open Go.RowKit
theorem qdF (N : Node) : N.sendAll.lg = N.lg := by
 unfold Node.sendAll;obtain ⟨ls,_,e⟩ := qU N N.others;rw [e]
theorem qix {N : Node} {s : Nat} (hg : Good N.lg) (h : frel N.lg s) : frel N.tick.lg s := by
 unfold Node.tick;dsimp only
 split
 · rw [qdF];exact h
 · split
   · exact h
   · split
     · exact qfx (N := ({ N with wk := N.wk + 1 } : Node).count 1) hg h
     · rw [qib];exact h
theorem qiy {N : Node} {s : Nat} (h : frel N.lg s) : frel N.read.1.lg s := by
 unfold Node.read
 split
 · exact h
 · split
   · exact h
   · dsimp only;rw [qdF];exact h
theorem qiz {w : World} {p : Nat} {N : Node} {Z : Nat -> Prop} {q : Ptrs} {s : Nat} {xs : List MLay} {K : Nat -> Prop} (h : RfAt w p N Z q s xs K) (hZ : ∀ b,Z b -> b < w.heap.size) (a : Able N) :
 Calls Tryz.prog 8 #[ptrV p] w fun e w' => e = .returned (.tuple #[]) /\ Turned w w' p N.tick Z q s :=
 qeg h hZ (by have := a.ms; omega) (by have := a.len; omega) a.good a.n a.sd a.idle (by have := a.ht; omega) a.wk (fun j => by have := a.nx j; omega) a.lt
theorem qh.turned {w w' : World} {S : Sim} {L : SimL} {lab : Nat -> Nat} (h : qh w S L lab) {k : Nat} (hk : k < S.n) {q : Ptrs} {s : Nat} {N : Node} (T : Turned w w' (L.ps k) N (fun b => b < w.heap.size /\ lab b ≠ 11 + k) q s) (hf : frel N.lg s) :
 ∃ lab',qh w' { S with r := Sim.upd S.r k N } L lab' /\ Turn (fun i => i = 11 + k) w w' lab lab' := by
 obtain ⟨q',xs',K',R',_,hkp⟩ := T;have t : Turn (fun i => i = 11 + k) w w' lab (relab w (11 + k) lab w'.heap.size) := Turn.made (J := fun i => i = 11 + k) hkp h.lim rfl
 have nJ : ∀ i,¬ 10 < i -> ¬ i = 11 + k := fun i hi => by omega
 refine ⟨relab w (11 + k) lab w'.heap.size,?_,t⟩
 exact {
  lim := t.lim,
  row := (t.same _ (hlt h.row) (by rw [h.me]; exact (nJ 1 (by decide)))).trans h.row,
  me := (t.old _ (hlt h.row) (by rw [h.me]; exact (nJ 1 (by decide)))).trans h.me,
  r := h.r.move t (nJ 2 (by decide)),
  h := h.h.move t (nJ 3 (by decide)),
  s := h.s.move t (nJ 4 (by decide)),
  sd := fun j hj => (h.sd j hj).1.moved (h.sd j hj).2 t (nJ 0 (by decide)),
  l := h.l.move t (nJ 5 (by decide)),
  ld := fun j hj => (h.ld j hj).moved t (nJ 0 (by decide)),
  n := h.n.move t (nJ 6 (by decide)),
  nm := h.nm,
  nd := fun x hx => (h.nd x hx).moved t (nJ 0 (by decide)),
  t := h.t.move t (nJ 7 (by decide)),
  d := h.d.move t (nJ 8 (by decide)),
  a := h.a.move t (nJ 9 (by decide)),
  am := h.am,
  ad := fun x hx => (h.ad x hx).moved t (nJ 0 (by decide)),
  q := h.q.move t (nJ 10 (by decide)),
  nodes := fun j hj => by
   by_cases hjk : j = k
   · subst hjk;refine ⟨q',s,xs',K',?_,?_⟩
     · show RfAt w' (L.ps j) (Sim.upd S.r j N j) _ q' s xs' K';rw [qm];refine R'.less fun b hb => ?_;obtain ⟨h1,h2⟩ := hb;unfold relab at h2
       by_cases h3 : w.heap.size <= b /\ b < w'.heap.size
       · rw [if_pos h3] at h2;exact absurd rfl h2
       · rw [if_neg h3] at h2;exact ⟨by omega,h2⟩
     · show frel (Sim.upd S.r j N j).lg s;rw [qm];exact hf
   · show qaj w' _ (11 + j) (L.ps j) (Sim.upd S.r k N j);rw [upd_ne _ _ hjk]
     exact (h.nodes j hj).move t (by omega) (by omega) }
def qq (s : Sim) (m : Sim.Move) : Sim × Nat :=
 let k := m.a % s.n
 if m.k = 0 then ({ s with r := Sim.upd s.r k (s.r k).tick },k)
 else if m.k = 1 \/ m.k = 2 \/ m.k = 3 then
  (match s.net[m.x % s.net.length]? with
  | none => (s,k)
  | some y =>
    let s := if m.k = 3 then s else { s with net := s.net.eraseIdx (m.x % s.net.length) }
    if m.k = 2 then (s,y.o.toNat) else ({ s with r := Sim.upd s.r y.o.toNat ((s.r y.o.toNat).step y) },y.o.toNat))
 else if m.k = 4 then ({ s with r := Sim.upd s.r k ((s.r k).propose m.d).1 },k)
 else if m.k = 5 then ({ s with r := Sim.upd s.r k (Node.fresh k s.n (s.ht k) (s.hv k) (s.sn k) (s.lg k)) },k)
 else if m.k = 6 then
  (let q := (s.r k).read
   let s' := { s with r := Sim.upd s.r k q.1 }
   (if q.2.2 = 0 then { s' with rds := s.rds ++ [⟨k,q.2.1,(s'.r k).ht,s.all.length⟩] } else s',k))
 else if m.k = 7 then
  (let q := (s.r k).compact (s.r k).cm (Sim.digest (s.all.take (s.r k).cm.toNat))
   let s' := { s with r := Sim.upd s.r k q.1 }
   (if q.2 = true then { s' with sn := Sim.upd s.sn k q.1.sn,lg := Sim.upd s.lg k (q.1.part ((s.r k).cm + 1) 1099511627776) } else s',k))
 else (s,k)
end Go.Proofs.YtmiijlecfiddmaaGreat
set_option linter.unusedVariables false
set_option linter.unusedSimpArgs false
set_option maxRecDepth 100000
set_option maxHeartbeats 6400000
namespace Go.Proofs.YtmiijlecfiddmaaGreat
open Go.RowKit Go.Shelf
attribute [local go_sem] Oper.semAt_some
theorem qh.tickC {w : World} {S : Sim} {L : SimL} {lab : Nat -> Nat} (h : qh w S L lab) {k : Nat} (hk : k < S.n) (able : Able (S.r k)) :
 Calls Tryz.prog 8 #[ptrV (L.ps k)] w fun e w' => e = .returned (.tuple #[]) /\ Went w w' { S with r := Sim.upd S.r k (S.r k).tick } L lab := by
 obtain ⟨q,s,xs,K,R,hfr⟩ := h.nodes k hk;refine (qiz R (fun b hb => hb.1) able).mono ?_;rintro e w' ⟨e1,T⟩;obtain ⟨lab',z1,z2⟩ := h.turned hk T (qix able.good hfr);exact ⟨e1,L,lab',z1,rfl,z2.wide fun i e => by omega⟩
theorem qh.proposeC {w : World} {S : Sim} {L : SimL} {lab : Nat -> Nat} (h : qh w S L lab) {k : Nat} (hk : k < S.n) (able : Able (S.r k)) (D : Option Addr) (dc : Nat) (d : List UInt8) (hc : dc <= maxLen) (hD : Lies w D d.length dc d) (hz : 0 < d.length -> ∀ g o,D = some ⟨g,o,none⟩ -> lab g = 0) :
 Calls Tryz.prog 9 #[ptrV (L.ps k), .slice D d.length dc] w fun e w' => e = .returned (.tuple #[.int .i64 ((S.r k).propose d).2.1, .int .i64 ((S.r k).propose d).2.2.1, .int .i64 ((S.r k).propose d).2.2.2]) /\ ∃ lab',qh w' { S with r := Sim.upd S.r k ((S.r k).propose d).1 } L lab' /\ Turn (fun i => i = 11 + k) w w' lab lab' := by
 obtain ⟨q,s,xs,K,R,hfr⟩ := h.nodes k hk
 have hdl : d.length <= 9223372036854775807 := by
  have := hD.2.1
  have h9 : maxLen <= 9223372036854775807 := by decide
  omega
 refine (qfA R (fun b hb => hb.1) able D dc d ⟨hc,hD,fun h0 g o e => ?_⟩ hdl).mono ?_
 · obtain ⟨g',o',e',hg',_⟩ := hD.2.2.2 h0;rw [e'] at e;injection e with e;injection e with e1;subst e1;exact ⟨hg',by rw [hz h0 g' o' e']; omega⟩
 · rintro e w' ⟨e1,s',T,hs⟩;obtain ⟨lab',z1,z2⟩ := h.turned hk T (hs hfr);exact ⟨e1,lab',z1,z2⟩
theorem Turn.cell {J : Nat -> Prop} {W0 W w1 : World} {lab lab1 : Nat -> Nat} (t : Turn J W w1 lab lab1) (hb : Below W0.heap.size W0 W) {a : Addr} {v : Value} (hv : W0.cell? a = some v) (hj : ¬ J (lab a.block)) : w1.cell? a = some v := by
 have h1 := World.block_lt_of_cell? W0 a hv;have h2 := hb.size;exact (World.cell?_of_block ((t.same _ (by omega) hj).trans (hb.block _ h1))).trans hv
theorem Turn.onto {J : Nat -> Prop} {w W0 W w1 : World} {lab lab1 : Nat -> Nat} (hl : ∀ b,w.heap.size <= b -> lab b = 0) (hb0 : Below w.heap.size w W0) (hb : Below W0.heap.size W0 W) (t : Turn J W w1 lab lab1) (hj : ¬ J 0) : Turn (fun i => i ≠ 0) w w1 lab lab1 :=
 (Turn.below (hb0.trans (hb.mono hb0.size)) hl).trans (t.wide fun i e e0 => hj (e0 ▸ e)) (by decide)
theorem qP {w : World} {S S' : Sim} {L : SimL} {lab : Nat -> Nat} (h : qh w S L lab) {F : Nat} {vs : Array Value} {P : Ending -> Prop} {W : World} (hb : Below w.heap.size w W) (c : Calls Tryz.prog F vs W fun e w' => P e /\ Went W w' S' L lab) : Calls Tryz.prog F vs W fun e w' => P e /\ Went w w' S' L lab := by
 refine c.mono ?_;rintro e w' ⟨e1,e2⟩;exact ⟨e1,e2.after h hb⟩
theorem Went.then {w w1 w2 : World} {S2 : Sim} {L L1 : SimL} {lab lab1 : Nat -> Nat} (g : L1.g = L.g) (t : Turn (fun i => i ≠ 0) w w1 lab lab1) (W : Went w1 w2 S2 L1 lab1) : Went w w2 S2 L lab := by
 obtain ⟨L2,lab2,a1,a2,a3⟩ := W;exact ⟨L2,lab2,a1,a2.trans g,t.trans a3 (by decide)⟩
namespace RegW
theorem qjR {w : World} {S : Sim} {L : SimL} {lab : Nat -> Nat} (h : qh w S L lab) (a x : Int) (D : Option Addr) (d : List UInt8) (dc : Nat) (ha : 0 <= a /\ a < 256) (hn : 1 <= S.n /\ S.n <= 3) {k : Nat} (hk : k = a.toNat % S.n) (able : Able (S.r k)) (f : Fine { S with r := Sim.upd S.r k (S.r k).tick } k) (yes : (Sim.look { S with r := Sim.upd S.r k (S.r k).tick } k).2 = true) :
 Calls Tryz.prog 20 #[ptrV L.g, .agg #[.int .u8 0, .int .u8 a, .int .u8 x, .slice D d.length dc]] w fun e w' => e = .returned (.bool true) /\ Went w w' (Sim.look { S with r := Sim.upd S.r k (S.r k).tick } k).1 L lab := by
 obtain ⟨W0,hW0⟩ := exq (w.alloc (.cells #[.int .u8 0, .int .u8 a, .int .u8 x, .slice D d.length dc] 63))
 have hb0 : Below w.heap.size w W0 := by rw [<- hW0]; exact blq.alloc nlq _
 have hr0 : W0.heap[w.heap.size]? = some (.cells #[.int .u8 0, .int .u8 a, .int .u8 x, .slice D d.length dc] 63) := by rw [<- hW0]; exact heap_alloc_new w _
 have x0 := qb hr0 0 (.int .u8 0) rfl;have x1 := qb hr0 1 (.int .u8 a) rfl;have x2 := qb hr0 2 (.int .u8 x) rfl;have x3 := qb hr0 3 (.slice D d.length dc) rfl;have h0 := h.below hb0
 have ek : a % (S.n : Int) = (k : Int) := by
  rw [hk]
  have : a = ((a.toNat : Nat) : Int) := by omega
  rw [this];simp
 have hkn : k < S.n := by rw [hk]; exact Nat.mod_lt _ (by omega)
 obtain ⟨b,off,eA,hpc,hpl,hpn⟩ := h0.ptr hkn;have c0 := qb h0.row 0 _ rfl;rw [show (simC S L)[0] = .slice L.Ar S.n L.cr from rfl,eA] at c0
 go_enter Tryz.func20,Tryz.ntmps20
 go_wp2_with fail
 clear hW0
 have hT := fun W (hW : Below W0.heap.size W0 W) => qP h0 hW (qh.tickC (h0.below hW) hkn able)
 have H := hdq2 f yes;have H0 := hdq2 h hb0;clear h h0 f yes hb0 hk eA hr0;clear able
 go_quiet (fail)
 go_wp2_with fail
 refine (hT _ (below_drewN blq _)).mono ?_;rintro e w1 ⟨rfl,Ww⟩;obtain ⟨L1,lab1,h1,g1,t1⟩ := Went.after H0.out.1 H0.out.2 Ww;clear Ww hT;have hL := qE h1 k H.out.1 H.out.2;rw [g1] at hL;have H1 := hdq2 g1 t1;clear h1 g1 t1
 go_wp2_with fail
 refine hL.mono ?_;rintro e w2 ⟨rfl,Ww⟩;have H2 := Lib.hid (Went.then H1.out.1 H1.out.2 Ww);clear hL Ww;go_wp2;go_ret;exact ⟨rfl,H2.out⟩
theorem qgi {w : World} {S : Sim} {L : SimL} {lab : Nat -> Nat} (h : qh w S L lab) (a x : Int) (D : Option Addr) (d : List UInt8) (dc : Nat) (ha : 0 <= a /\ a < 256) (hn : 1 <= S.n /\ S.n <= 3) {k : Nat} (hk : k = a.toNat % S.n) (able : Able (S.r k)) (hc : dc <= maxLen) (hD : Lies w D d.length dc d) (hz : 0 < d.length -> ∀ g o,D = some ⟨g,o,none⟩ -> lab g = 0) (f : Fine { S with r := Sim.upd S.r k ((S.r k).propose d).1 } k) (yes : (Sim.look { S with r := Sim.upd S.r k ((S.r k).propose d).1 } k).2 = true) :
 Calls Tryz.prog 20 #[ptrV L.g, .agg #[.int .u8 4, .int .u8 a, .int .u8 x, .slice D d.length dc]] w fun e w' => e = .returned (.bool true) /\ Went w w' (Sim.look { S with r := Sim.upd S.r k ((S.r k).propose d).1 } k).1 L lab := by
 obtain ⟨W0,hW0⟩ := exq (w.alloc (.cells #[.int .u8 4, .int .u8 a, .int .u8 x, .slice D d.length dc] 63))
 have hb0 : Below w.heap.size w W0 := by rw [<- hW0]; exact blq.alloc nlq _
 have hr0 : W0.heap[w.heap.size]? = some (.cells #[.int .u8 4, .int .u8 a, .int .u8 x, .slice D d.length dc] 63) := by rw [<- hW0]; exact heap_alloc_new w _
 have x0 := qb hr0 0 (.int .u8 4) rfl;have x1 := qb hr0 1 (.int .u8 a) rfl;have x2 := qb hr0 2 (.int .u8 x) rfl;have x3 := qb hr0 3 (.slice D d.length dc) rfl;have h0 := h.below hb0
 have ek : a % (S.n : Int) = (k : Int) := by
  rw [hk]
  have : a = ((a.toNat : Nat) : Int) := by omega
  rw [this];simp
 have hkn : k < S.n := by rw [hk]; exact Nat.mod_lt _ (by omega)
 obtain ⟨b,off,eA,hpc,hpl,hpn⟩ := h0.ptr hkn;have c0 := qb h0.row 0 _ rfl;rw [show (simC S L)[0] = .slice L.Ar S.n L.cr from rfl,eA] at c0
 go_enter Tryz.func20,Tryz.ntmps20
 go_wp2_with fail
 clear hW0
 have hT := fun W (hW : Below W0.heap.size W0 W) => qh.proposeC (h0.below hW) hkn able D dc d hc ((hD.below hb0 nlq).below hW nlq) hz
 have hSW : ∀ W,Below W0.heap.size W0 W -> (fun w' : World => w'.cell? ⟨L.g,0,none⟩ = some (.slice (some ⟨b,off,none⟩) S.n L.cr) /\ w'.cell? ⟨b,off + k,none⟩ = some (ptrV (L.ps k)) /\ w'.cell? ⟨w.heap.size,3,none⟩ = some (.slice D d.length dc)) W := fun W hW => by
  have hc : ∀ a v,W0.cell? a = some v -> W.cell? a = some v := fun a v hv => (World.cell?_of_block (hW.block a.block (World.block_lt_of_cell? W0 a hv))).trans hv
  exact ⟨hc _ _ c0,hc _ _ hpc,hc _ _ x3⟩
 have hSN : ∀ W w1 lab1,Below W0.heap.size W0 W -> Turn (fun i => i = 11 + k) W w1 lab lab1 -> (fun w' : World => w'.cell? ⟨L.g,0,none⟩ = some (.slice (some ⟨b,off,none⟩) S.n L.cr) /\ w'.cell? ⟨b,off + k,none⟩ = some (ptrV (L.ps k)) /\ w'.cell? ⟨w.heap.size,3,none⟩ = some (.slice D d.length dc)) w1 := fun W w1 lab1 hW t => ⟨t.cell hW c0 (by rw [h.me]; omega),t.cell hW hpc (by rw [hpl]; omega),t.cell hW x3 (by rw [h.lim _ nlq]; omega)⟩;have HS := Lib.hid hSW;have HN := Lib.hid hSN;clear hSW hSN;have H := hdq2 f yes;have H0 := hdq2 h hb0;clear h h0 f yes hb0 hk eA hr0;clear able hc hD hz
 go_quiet (fail)
 go_wp2_with fail
 clear x0 x1 x2 x3 c0 hpc;refine wp_region_held_drew ⟨(fun w' : World => w'.cell? ⟨L.g,0,none⟩ = some (.slice (some ⟨b,off,none⟩) S.n L.cr) /\ w'.cell? ⟨b,off + k,none⟩ = some (ptrV (L.ps k)) /\ w'.cell? ⟨w.heap.size,3,none⟩ = some (.slice D d.length dc)),[]⟩ (by kernel_rfl) (HS.out _ bbq) (fun hHeld => ?_);refine lsq 10 ?_;refine tkq 0 ?_;refine tkq 1 ?_;refine tkq 2 ?_;refine tkq 3 ?_;refine tkq 4 ?_;refine tkq 5 ?_;refine tkq 6 ?_;refine tkq 7 ?_;refine tkq 8 ?_;refine rdq1 9 fun KK hK => ?_;go_simp;refine (hT _ bbq).mono ?_;rintro e w1 ⟨rfl,lab1,h1,t1⟩;have hE := HN.out _ w1 lab1 bbq t1;clear hT;refine hK.out _ _ (hE) ?_;clear hK KK hHeld;intro hHeld
 try simp only [lpq]
 refine dnq ?_;clear hE hHeld
 replace t1 : Turn (fun i => i ≠ 0) w w1 lab lab1 := Turn.onto H0.out.1.lim H0.out.2 bbq t1 (by omega)
 have hL := qE h1 k H.out.1 H.out.2;have H1 := Lib.hid t1;clear h1 t1
 go_wp2_with fail
 refine hL.mono ?_;rintro e w2 ⟨rfl,Ww⟩;have H2 := Lib.hid (Went.then rfl H1.out Ww);clear hL Ww;go_wp2;go_ret;exact ⟨rfl,H2.out⟩
theorem qiA {w : World} {S : Sim} {L : SimL} {lab : Nat -> Nat} (h : qh w S L lab) (a x : Int) (D : Option Addr) (d : List UInt8) (dc : Nat) (ha : 0 <= a /\ a < 256) (hn : 1 <= S.n /\ S.n <= 3) {k : Nat} (hk : k = a.toNat % S.n) (hcan : Node.can k S.n (S.ht k) (S.hv k) (S.sn k) (S.lg k) = true) (hlg : (S.lg k).length <= 1000000) (f : Fine { S with r := Sim.upd S.r k (Node.fresh k S.n (S.ht k) (S.hv k) (S.sn k) (S.lg k)) } k) (yes : (Sim.look { S with r := Sim.upd S.r k (Node.fresh k S.n (S.ht k) (S.hv k) (S.sn k) (S.lg k)) } k).2 = true) :
 Calls Tryz.prog 20 #[ptrV L.g, .agg #[.int .u8 5, .int .u8 a, .int .u8 x, .slice D d.length dc]] w fun e w' => e = .returned (.bool true) /\ Went w w' (Sim.look { S with r := Sim.upd S.r k (Node.fresh k S.n (S.ht k) (S.hv k) (S.sn k) (S.lg k)) } k).1 L lab := by
 obtain ⟨W0,hW0⟩ := exq (w.alloc (.cells #[.int .u8 5, .int .u8 a, .int .u8 x, .slice D d.length dc] 63))
 have hb0 : Below w.heap.size w W0 := by rw [<- hW0]; exact blq.alloc nlq _
 have hr0 : W0.heap[w.heap.size]? = some (.cells #[.int .u8 5, .int .u8 a, .int .u8 x, .slice D d.length dc] 63) := by rw [<- hW0]; exact heap_alloc_new w _
 have x0 := qb hr0 0 (.int .u8 5) rfl;have x1 := qb hr0 1 (.int .u8 a) rfl;have x2 := qb hr0 2 (.int .u8 x) rfl;have x3 := qb hr0 3 (.slice D d.length dc) rfl;have h0 := h.below hb0
 have ek : a % (S.n : Int) = (k : Int) := by
  rw [hk]
  have : a = ((a.toNat : Nat) : Int) := by omega
  rw [this];simp
 have hkn : k < S.n := by rw [hk]; exact Nat.mod_lt _ (by omega)
 obtain ⟨b,off,eA,hpc,hpl,hpn⟩ := h0.ptr hkn;have c0 := qb h0.row 0 _ rfl;rw [show (simC S L)[0] = .slice L.Ar S.n L.cr from rfl,eA] at c0
 go_enter Tryz.func20,Tryz.ntmps20
 go_wp2_with fail
 clear hW0
 have hT := fun W (hW : Below W0.heap.size W0 W) => qP h0 hW (qhd (h0.below hW) k hkn hcan hlg)
 have H := hdq2 f yes;have H0 := hdq2 h hb0;clear h h0 f yes hb0 hk eA hr0;clear hcan hlg
 go_quiet (fail)
 go_wp2_with fail
 refine (hT _ (below_drewN blq _)).mono ?_;rintro e w1 ⟨rfl,Ww⟩;obtain ⟨L1,lab1,h1,g1,t1⟩ := Went.after H0.out.1 H0.out.2 Ww;clear Ww hT;have hL := qE h1 k H.out.1 H.out.2;rw [g1] at hL;have H1 := hdq2 g1 t1;clear h1 g1 t1
 go_wp2_with fail
 refine hL.mono ?_;rintro e w2 ⟨rfl,Ww⟩;have H2 := Lib.hid (Went.then H1.out.1 H1.out.2 Ww);clear hL Ww;go_wp2;go_ret;exact ⟨rfl,H2.out⟩
theorem qjS {w : World} {S : Sim} {L : SimL} {lab : Nat -> Nat} (h : qh w S L lab) (a x : Int) (D : Option Addr) (d : List UInt8) (dc : Nat) (ha : 0 <= a /\ a < 256) (hn : 1 <= S.n /\ S.n <= 3) {k : Nat} (hk : k = a.toNat % S.n) {kk : Int} (hkk : 0 <= kk /\ kk < 256) (q0 : kk ≠ 0) (q1 : kk ≠ 1) (q2 : kk ≠ 2) (q3 : kk ≠ 3) (q4 : kk ≠ 4) (q5 : kk ≠ 5) (q6 : kk ≠ 6) (q7 : kk ≠ 7) (f : Fine S k) (yes : (Sim.look S k).2 = true) :
 Calls Tryz.prog 20 #[ptrV L.g, .agg #[.int .u8 kk, .int .u8 a, .int .u8 x, .slice D d.length dc]] w fun e w' => e = .returned (.bool true) /\ Went w w' (Sim.look S k).1 L lab := by
 obtain ⟨W0,hW0⟩ := exq (w.alloc (.cells #[.int .u8 kk, .int .u8 a, .int .u8 x, .slice D d.length dc] 63))
 have hb0 : Below w.heap.size w W0 := by rw [<- hW0]; exact blq.alloc nlq _
 have hr0 : W0.heap[w.heap.size]? = some (.cells #[.int .u8 kk, .int .u8 a, .int .u8 x, .slice D d.length dc] 63) := by rw [<- hW0]; exact heap_alloc_new w _
 have x0 := qb hr0 0 (.int .u8 kk) rfl;have x1 := qb hr0 1 (.int .u8 a) rfl;have x2 := qb hr0 2 (.int .u8 x) rfl;have x3 := qb hr0 3 (.slice D d.length dc) rfl;have h0 := h.below hb0
 have ek : a % (S.n : Int) = (k : Int) := by
  rw [hk]
  have : a = ((a.toNat : Nat) : Int) := by omega
  rw [this];simp
 have hkn : k < S.n := by rw [hk]; exact Nat.mod_lt _ (by omega)
 obtain ⟨b,off,eA,hpc,hpl,hpn⟩ := h0.ptr hkn;have c0 := qb h0.row 0 _ rfl;rw [show (simC S L)[0] = .slice L.Ar S.n L.cr from rfl,eA] at c0
 go_enter Tryz.func20,Tryz.ntmps20
 go_wp2_with fail
 clear hW0;have hT : ∀ W,Below W0.heap.size W0 W -> Calls Tryz.prog 23 #[ptrV L.g, .int .i64 (k : Int)] W fun e w' => e = .returned (.bool true) /\ Went W0 w' (S.look k).1 L lab := fun W hW => qP h0 hW (qE (h0.below hW) k f yes);have H := hdq2 f yes;have H0 := hdq2 h hb0;clear h h0 f yes hb0 hk eA hr0
 have e0 : (kk == 0) = false := by simpa using q0
 have e1 : (kk == 1) = false := by simpa using q1
 have e2 : (kk == 2) = false := by simpa using q2
 have e3 : (kk == 3) = false := by simpa using q3
 have e4 : (kk == 4) = false := by simpa using q4
 have e5 : (kk == 5) = false := by simpa using q5
 have e6 : (kk == 6) = false := by simpa using q6
 have e7 : (kk == 7) = false := by simpa using q7
 go_quiet (fail)
 go_wp2_with fail
 refine (hT _ (below_drewN blq _)).mono ?_;rintro e w2 ⟨rfl,Ww⟩;have H2 := Lib.hid (Went.after H0.out.1 H0.out.2 Ww);clear hT Ww;go_wp2;go_ret;exact ⟨rfl,H2.out⟩
end RegW
end Go.Proofs.YtmiijlecfiddmaaGreat
