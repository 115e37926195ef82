/- One of one: a node that is alone leads behind six ticks; what is put into its log is committed at once; a reading is told at once. Plain mathematics. -/
import Derived.Test.YtmiijlecfiddmaaNNM04
import Derived.Test.YtmiijlecfiddmaaNNM08
import Derived.WalkKit
import Derived.Outline
import Derived.Deep.Cut
import Derived.Deep.DeepCutAuto
import Derived.Deep.RegionLaw
import Derived.Deep.RegionHeld3
import Derived.BigQuiet
import Derived.StillTailTactics
import Derived.RegionTactic
import Derived.Laws.Tables
import Derived.Lib.Hide
set_option linter.unusedVariables false
set_option linter.unusedSimpArgs false
set_option maxRecDepth 100000
set_option maxHeartbeats 200000
namespace Go.Proofs.Ytmiijlecfiddmaa
structure One (N : Node) (T : Int) : Prop where
 me : N.id = 0 /\ N.n = 1
 ro : N.ro = 3
 ld : N.ld = 0
 ht : N.ht = T
 hv : N.hv = 0
 wk : N.wk = 0
 cm : N.cm = N.lg.lastI
 good : Good N.lg
 lt : N.lg.lastT = T
 at_ : N.lg.at_ N.lg.lastI = some T
 ms : N.ms = []
 td : N.td = []
 rd : N.rd = []
 cx : N.cx = 0
 nx : ∀ j,N.nx j = 0
 ma : ∀ j,N.ma j = 0
theorem qaw {N : Node} (h : N.id = 0 /\ N.n = 1) : N.others = [] := by
 unfold Node.others
 rw [h.1,h.2]
 rfl
theorem qcj {x : Int} (h : 0 <= x) : Node.reached [x] = x := by
 unfold Node.reached
 have e : ([x].filter fun u => decide (x <= u)) = [x] := by simp
 have e2 : ([x].filter fun v => decide ([x].length < 2 * ([x].filter fun u => decide (v <= u)).length)) = [x] := by
  rw [List.filter_cons,e]
  simp
 rw [e2]
 show max 0 x = x
 omega
theorem qdA {i t : Int} {n : Nat} (h1 : 1 <= i /\ i <= 1099511627776) (h2 : 1 <= t /\ t <= 1099511627776) (h3 : n <= 12000) : qv i t n = true := by
 unfold qv numB
 simp [h1.1,h1.2,h2.1,h2.2,h3]
theorem qcq {r : RL} {l : List Ent} {e : Ent} (h : r.l = l ++ [e]) : r.lastI = e.i /\ r.lastT = e.t := by
 unfold RL.lastI RL.lastT
 rw [h]
 simp
theorem qcr {r : RL} (hg : Good r) {t : Int} {d : List UInt8} (h1 : r.lastT <= t) (h2 : 1 <= t /\ t <= 1099511627776) (h3 : d.length <= 12000) (h4 : r.lastI < 1099511627776) :
 ∃ r',r.add t d = some r' /\ Good r' /\ r'.l = r.l ++ [⟨r.lastI + 1,t,d⟩] /\ r'.i = r.i /\ r'.t = r.t /\ r'.lastI = r.lastI + 1 /\ r'.lastT = t /\ r'.at_ (r.lastI + 1) = some t /\ ∀ s,frel r s -> frel r' s := by
 have hlim := hg.lim
 have hlast := hg.lastI
 have hr : runB r.lastI r.lastT [⟨r.lastI + 1,t,d⟩] = true := by
  rw [qbq,qdA ⟨by omega,by omega⟩ h2 h3,Bool.true_and]
  exact decide_eq_true h1
 have hgm := hg.more hr
 obtain ⟨m1,m2,m3⟩ := qap (⟨r.i,r.t,r.l ++ [⟨r.lastI + 1,t,d⟩],r.f⟩ : RL) (r.lastI + 1)
 have a1 : (r.more ⟨r.lastI + 1,t,d⟩).l = r.l ++ [⟨r.lastI + 1,t,d⟩] := m1
 have a2 : (r.more ⟨r.lastI + 1,t,d⟩).i = r.i := m2
 have a3 : (r.more ⟨r.lastI + 1,t,d⟩).t = r.t := m3
 refine ⟨r.more ⟨r.lastI + 1,t,d⟩,?_,hgm,a1,a2,a3,?_,?_,?_,fun s hs => qbm hg hs _⟩
 · unfold RL.add
   rw [if_pos hr]
   rfl
 · exact (qcq a1).1
 · exact (qcq a1).2
 · rw [hgm.at_,a2,if_neg (by omega)]
   unfold RL.place
   rw [a1,a2,if_pos ⟨by omega,by simp; omega⟩]
   have e : (r.lastI + 1 - r.i - 1).toNat = r.l.length := by omega
   rw [e]
   simp
theorem qbb {N : Node} (h : N.id = 0 /\ N.n = 1) (hg : Good N.lg) (hc : N.cm < N.lg.lastI) (ha : N.lg.at_ N.lg.lastI = some N.ht) : N.settle = ({ N with cm := N.lg.lastI },true) := by
 have hlim := hg.lim
 have hlast := hg.lastI
 have e : Node.reached (N.lg.lastI :: N.others.map N.ma) = N.lg.lastI := by
  rw [qaw h]
  exact qcj (by omega)
 unfold Node.settle
 dsimp only
 rw [e,if_neg (by
  rintro (e | e)
  · omega
  · exact e ha)]
theorem qao {N : Node} (h : N.id = 0 /\ N.n = 1) : N.sendAll = N := by
 unfold Node.sendAll
 rw [qaw h]
 rfl
theorem One.propose {N : Node} {T : Int} (h : One N T) (hT : 1 <= T /\ T <= 1099511627776) (hl : N.lg.lastI < 1099511627776) {d : List UInt8} (hd : d.length <= 12000) :
 ∃ r',r'.l = N.lg.l ++ [⟨N.lg.lastI + 1,T,d⟩] /\ r'.i = N.lg.i /\ r'.lastI = N.lg.lastI + 1 /\ N.propose d = ({ N with lg := r',cm := N.lg.lastI + 1 },N.lg.lastI + 1,T,0) /\ One { N with lg := r',cm := N.lg.lastI + 1 } T := by
 obtain ⟨r',h1,h2,h3,h4,h5,h6,h7,h8,h9⟩ := qcr h.good (t := T) (d := d) (by rw [h.lt]; exact Int.le_refl _) hT hd hl
 have hgr : N.grown d = r' := by
  unfold Node.grown
  rw [h.ht,h1]
  rfl
 refine ⟨r',h3,h4,h6,?_,{ h with good := h2,lt := h7,cm := h6.symm,at_ := by show r'.at_ r'.lastI = some T; rw [h6,h8] }⟩
 unfold Node.propose
 rw [if_neg (by rw [h.ro]; omega),if_neg (by omega),if_neg (by omega),hgr]
 have hs := qbb (N := { N with lg := r' }) h.me h2 (by show N.cm < r'.lastI; rw [h6,h.cm]; omega) (by show r'.at_ r'.lastI = some N.ht; rw [h6,h8,h.ht])
 rw [hs]
 dsimp only
 rw [qao (N := { N with lg := r',cm := r'.lastI }) h.me,h6,h.ht]
theorem qc2 {N : Node} (h : N.id = 0 /\ N.n = 1) (c : Int) : N.known c = true := by
 unfold Node.known
 rw [qaw h,h.2]
 rfl
theorem One.read {N : Node} {T : Int} (h : One N T) : N.read = ({ N with cx := 1,td := [(1,N.lg.lastI)] },1,0) := by
 unfold Node.read
 rw [if_neg (by rw [h.ro]; omega),if_neg (by rw [h.cm,h.ht]; exact fun e => e h.at_)]
 have hme := h.me
 have e1 : ({ N with cx := N.cx + 1,rd := N.rd ++ [(N.cx + 1,N.cm)] } : Node) = { N with cx := 1,rd := [(1,N.lg.lastI)] } := by rw [h.cx,h.rd,h.cm]; rfl
 rw [e1]
 have hk : ∀ c,({ N with cx := 1,rd := [(1,N.lg.lastI)] } : Node).known c = true := fun c => qc2 (N := { N with cx := 1,rd := [(1,N.lg.lastI)] }) hme c
 have e2 : ({ N with cx := 1,rd := [(1,N.lg.lastI)] } : Node).tell = { N with cx := 1,td := [(1,N.lg.lastI)] } := by
  unfold Node.tell
  dsimp only
  rw [List.takeWhile_cons,List.dropWhile_cons]
  dsimp only
  rw [hk]
  simp only [if_true,List.takeWhile_nil,List.dropWhile_nil,h.td,List.nil_append]
  rw [<- h.rd]
 dsimp only
 rw [e2,qao (N := { N with cx := 1,td := [(1,N.lg.lastI)] }) hme]
def fr1 (ht hv : Int) (sn : Ent) (l : List Ent) : Nat -> Node
 | 0 => Node.fresh 0 1 ht hv sn l
 | k + 1 => (fr1 ht hv sn l k).tick
theorem qbg (ht hv : Int) (sn : Ent) (l : List Ent) : ∀ k : Nat,k <= 5 -> fr1 ht hv sn l k = { Node.fresh 0 1 ht hv sn l with wk := (k : Int) }
 | 0,_ => rfl
 | k + 1,hk => by
   show (fr1 ht hv sn l k).tick = _
   rw [qbg ht hv sn l k (by omega)]
   unfold Node.tick
   dsimp only [Node.fresh]
   rw [if_neg (by rintro ⟨e,_⟩; exact absurd e (by decide)),if_pos (.inr (.inl (by show (k : Int) + 1 < 6 + 3 * ((0 : Nat) : Int); omega)))]
   rfl
theorem qcF {N : Node} (h1 : ¬ N.ro = 3) (h2 : ¬ N.wk + 1 < 6 + 3 * (N.id : Int)) (h3 : ¬ 1099511627776 <= N.ht) (h4 : ¬ 1099511627776 <= N.lg.lastI) (hn : N.n = 1) : N.tick = (({ N with wk := N.wk + 1 } : Node).count 1).run := by
 unfold Node.tick
 dsimp only
 rw [if_neg (fun e => h1 e.1),if_neg (by
  rintro (e | e | e | e)
  · exact h1 e
  · exact h2 e
  · exact h3 e
  · exact h4 e)]
 exact if_pos hn
theorem qc3 {N : Node} (hn : N.n = 1) : N.run = (({ N with ht := N.ht + 1,hv := N.id } : Node).count 2).rise := by
 unfold Node.run
 exact if_pos hn
theorem qdR (ht hv : Int) (sn : Ent) (l : List Ent) (hg : Good (⟨sn.i,sn.t,l,0⟩ : RL)) (hT : 0 <= ht /\ ht < 1099511627776) (hlt : (⟨sn.i,sn.t,l,0⟩ : RL).lastT <= ht) (hli : (⟨sn.i,sn.t,l,0⟩ : RL).lastI < 1099511627776) :
 One (fr1 ht hv sn l 6) (ht + 1) /\ (fr1 ht hv sn l 6).lg.l = l ++ [⟨(⟨sn.i,sn.t,l,0⟩ : RL).lastI + 1,ht + 1,[]⟩] /\ (fr1 ht hv sn l 6).lg.i = sn.i /\ (fr1 ht hv sn l 6).sn = sn /\ (fr1 ht hv sn l 6).lg.lastI = (⟨sn.i,sn.t,l,0⟩ : RL).lastI + 1 /\ ∀ s,frel (⟨sn.i,sn.t,l,0⟩ : RL) s -> frel (fr1 ht hv sn l 6).lg s := by
 have hlim : 0 <= sn.i /\ sn.i + (l.length : Int) <= 1099511627776 := hg.lim
 have hlast : (⟨sn.i,sn.t,l,0⟩ : RL).lastI = sn.i + (l.length : Int) := hg.lastI
 obtain ⟨r',h1,h2,h3,h4,h5,h6,h7,h8,h9⟩ := qcr hg (t := ht + 1) (d := []) (by omega) ⟨by omega,by omega⟩ (by simp) hli
 obtain ⟨R,hR⟩ : ∃ R : Node,R = { Node.fresh 0 1 ht hv sn l with wk := 0,ht := ht + 1,hv := 0,ro := 2,ld := -1,sy := Node.put Node.zeroF 0 1 } := ⟨_,rfl⟩
 have hrun : fr1 ht hv sn l 6 = R.rise := by
  show (fr1 ht hv sn l 5).tick = _
  rw [qbg ht hv sn l 5 (by omega),qcF (by show ¬ (0 : Int) = 3; decide) (by show ¬ ((5 : Nat) : Int) + 1 < 6 + 3 * ((0 : Nat) : Int); decide) (by show ¬ 1099511627776 <= ht; omega) (by show ¬ 1099511627776 <= (⟨sn.i,sn.t,l,0⟩ : RL).lastI; omega) rfl,qc3 rfl,hR]
  rfl
 obtain ⟨S,hS⟩ : ∃ S : Node,S = { R with ro := 3,ld := 0,wk := 0,cx := 0,rd := [],ma := Node.zeroF,ac := Node.zeroF,nx := fun k => if k < 1 /\ k ≠ 0 then R.lg.lastI + 1 else 0,lg := r' } := ⟨_,rfl⟩
 have hme : S.id = 0 /\ S.n = 1 := by rw [hS,hR]; exact ⟨rfl,rfl⟩
 have hrise : R.rise = S.settle.1.sendAll := by
  unfold Node.rise
  dsimp only
  have e : ({ R with ro := 3,ld := (R.id : Int),wk := 0,cx := 0,rd := [],ma := Node.zeroF,ac := Node.zeroF,nx := fun k => if k < R.n /\ k ≠ R.id then R.lg.lastI + 1 else 0 } : Node).grown [] = r' := by
   unfold Node.grown
   dsimp only
   rw [hR]
   dsimp only [Node.fresh]
   rw [h1]
   rfl
  rw [e]
  apply congrArg (fun X : Node => X.settle.1.sendAll)
  rw [hS,hR]
  rfl
 have hsl : S.lg = r' := by rw [hS]
 have hst := qbb hme (by rw [hsl]; exact h2) (by
  rw [hsl,h6,hS,hR]
  show sn.i < _
  omega) (by
  rw [hsl,h6,h8,hS,hR])
 rw [hrun,hrise,hst]
 have hsa := qao (N := { S with cm := S.lg.lastI }) hme
 dsimp only
 rw [hsa,hsl]
 refine ⟨⟨hme,?_,?_,?_,?_,?_,?_,?_,?_,?_,?_,?_,?_,?_,?_,?_⟩,?_,?_,?_,?_,h9⟩
 · rw [hS]
 · rw [hS]
 · show S.ht = _
   rw [hS,hR]
 · show S.hv = _
   rw [hS,hR]
 · show S.wk = _
   rw [hS]
 · rfl
 · exact h2
 · exact h7
 · show r'.at_ r'.lastI = some (ht + 1)
   rw [h6,h8]
 · show S.ms = _
   rw [hS,hR]; rfl
 · show S.td = _
   rw [hS,hR]; rfl
 · show S.rd = _
   rw [hS]
 · show S.cx = _
   rw [hS]
 · intro j
   show S.nx j = _
   rw [hS]
   dsimp only
   rw [if_neg (by omega)]
 · intro j
   show S.ma j = _
   rw [hS]
   rfl
 · exact h3
 · exact h4
 · show S.sn = _
   rw [hS,hR]; rfl
 · exact h6
theorem qc4 {N : Node} (hg : Good N.lg) {P es : List Ent} (h : N.lg.l = P ++ es) : N.part (N.lg.lastI - (es.length : Int) + 1) N.lg.lastI = es := by
 have hone := hg.one
 have hlast := hg.lastI
 have hlen : N.lg.l.length = P.length + es.length := by rw [h,List.length_append]
 unfold Node.part
 rw [h,List.filter_append]
 have e1 : (P.filter fun e => decide (N.lg.lastI - (es.length : Int) + 1 <= e.i) && decide (e.i <= N.lg.lastI)) = [] := by
  refine List.filter_eq_nil_iff.2 fun e he => ?_
  obtain ⟨j,hj,rfl⟩ := List.getElem_of_mem he
  have hjl : j < N.lg.l.length := by omega
  have := hone j hjl
  have e2 : N.lg.l[j] = P[j] := by
   have : N.lg.l[j] = (P ++ es)[j]'(by simp; omega) := by congr 1
   rw [this,List.getElem_append_left hj]
  rw [e2] at this
  simp only [Bool.and_eq_true,decide_eq_true_eq]
  omega
 have e2 : (es.filter fun e => decide (N.lg.lastI - (es.length : Int) + 1 <= e.i) && decide (e.i <= N.lg.lastI)) = es := by
  refine List.filter_eq_self.2 fun e he => ?_
  obtain ⟨j,hj,rfl⟩ := List.getElem_of_mem he
  have hjl : P.length + j < N.lg.l.length := by omega
  have := hone _ hjl
  have e2 : N.lg.l[P.length + j] = es[j] := by
   have : N.lg.l[P.length + j] = (P ++ es)[P.length + j]'(by simp; omega) := by congr 1
   rw [this,List.getElem_append_right (by omega)]
   congr 1
   omega
  rw [e2] at this
  simp only [Bool.and_eq_true,decide_eq_true_eq]
  omega
 rw [e1,e2,List.nil_append]
end Go.Proofs.Ytmiijlecfiddmaa
set_option linter.unusedVariables false
set_option linter.unusedSimpArgs false
set_option maxRecDepth 100000
set_option maxHeartbeats 200000
namespace Go.Proofs.Ytmiijlecfiddmaa
end Go.Proofs.Ytmiijlecfiddmaa
namespace Go.Proofs.Ytmiijlecfiddmaa
open Go.RowKit
theorem tkq {P : Program} {ops : Array Oper} {Q : Exit → Go.Act → World → Prop} {md : Region.Mode} {S : World → Prop} {fuel : Nat} {listed : Array Bool} {a : Go.Act} {w : World} (i : Nat) (oi : Oper) (v : Value)
    (hy : ∀ w, S w → (execOp a.eval oi).run P w = .ok (.value v) w) (h : wpAnyH P md ops Q S fuel (listed.setIfInBounds i true) (a.put oi.dst v) w)
    (hi : ops[i]? = some oi := by rfl) (hs : Region.noSelect ops = true := by kernel_rfl) (hf : Region.free md ops listed i = true := by kernel_rfl) (hr : (Region.ready md ops listed).contains i = true := by kernel_rfl)
    (hw : Region.wanted oi (yielded ops a.tmps) = true := by rfl) (hS : S w := by assumption) (hQ : ∀ c a w, Q (.panic c) (a.put oi.dst v) w → Q (.panic c) a w := by exact fun _ _ _ h => h) : wpAnyH P md ops Q S (fuel + 1) listed a w :=
  wpAnyH_take hi hs hf hr hQ (Or.inl ⟨hw, hy⟩) hS h
theorem tuq {P : Program} {ops : Array Oper} {Q : Exit → Go.Act → World → Prop} {md : Region.Mode} {S : World → Prop} {fuel : Nat} {listed : Array Bool} {a : Go.Act} {w : World} (i : Nat) (oi : Oper)
    (h : wpAnyH P md ops Q S fuel (listed.setIfInBounds i true) (a.put oi.dst undef) w)
    (hi : ops[i]? = some oi := by rfl) (hs : Region.noSelect ops = true := by kernel_rfl) (hf : Region.free md ops listed i = true := by kernel_rfl) (hr : (Region.ready md ops listed).contains i = true := by kernel_rfl)
    (hw : Region.wanted oi (yielded ops a.tmps) = false := by rfl) (hS : S w := by assumption) (hQ : ∀ c a w, Q (.panic c) (a.put oi.dst undef) w → Q (.panic c) a w := by exact fun _ _ _ h => h) : wpAnyH P md ops Q S (fuel + 1) listed a w :=
  wpAnyH_take hi hs hf hr hQ (Or.inr ⟨hw, rfl⟩) hS h
theorem lpq : (∀ (a : Go.Act) (t : Tmp) (v : Value), a.put (some t) v = { a with tmps := a.tmps.setIfInBounds t v }) ∧ (∀ (a : Go.Act) (v : Value), a.put none v = a) ∧ (∀ (l : List Value) (i : Nat) (x : Value), l.toArray.setIfInBounds i x = (l.set i x).toArray) ∧ (∀ (a b : Value) (l : List Value), (a :: l).set 0 b = b :: l) ∧ (∀ (a b : Value) (l : List Value) (n : Nat), (a :: l).set (n + 1) b = a :: l.set n b) :=
  ⟨fun _ _ _ => rfl, fun _ _ => rfl, fun _ _ _ => List.setIfInBounds_toArray .., fun _ _ _ => rfl, fun _ _ _ _ => rfl⟩
theorem hlq {w : World} {k : Nat} {o : Obj} (h : w.heap[k]? = some o) : k < w.heap.size := (Array.getElem?_eq_some_iff.1 h).1
theorem nlq {n : Nat} : n ≤ n := Nat.le_refl n
theorem blq {B : Nat} {w : World} : Below B w w := Below.refl B w
end Go.Proofs.Ytmiijlecfiddmaa
