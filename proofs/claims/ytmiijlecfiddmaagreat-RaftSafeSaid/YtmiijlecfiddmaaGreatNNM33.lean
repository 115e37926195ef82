/- A node's log as the tail of a whole one: what its calls do to the whole one. Plain mathematics. -/
import Derived.Test.YtmiijlecfiddmaaGreatNNM32
import Derived.Test.YtmiijlecfiddmaaGreatNNM01
import Derived.Test.YtmiijlecfiddmaaGreatNNM04
set_option linter.unusedVariables false
set_option linter.unusedSimpArgs false
set_option maxRecDepth 100000
set_option maxHeartbeats 200000
namespace Go.Proofs.YtmiijlecfiddmaaGreat
structure Full (F : List Ent) (r : RL) : Prop where
 i0 : 0 <= r.i
 le : r.i <= F.length
 t : r.t = endT 0 (F.take r.i.toNat)
 l : r.l = F.drop r.i.toNat
 run : runB 0 0 F = true
def Mat (F Y : List Ent) : Prop := ∀ (j : Nat) (e e' : Ent),F[j]? = some e -> Y[j]? = some e' -> e.t = e'.t -> F.take (j + 1) = Y.take (j + 1)
theorem qD {F : List Ent} {k : Nat} (hk : k < F.length) : endT 0 (F.take (k + 1)) = F[k].t := (qeV 0 0 hk).2
theorem qcX {F : List Ent} (h : runB 0 0 F = true) : (F.length : Int) <= 1099511627776 := by
 rcases Nat.eq_zero_or_pos F.length with h0 | h0
 · rw [h0]; decide
 · have := (qgp h h0).2; omega
theorem qdi {F : List Ent} (h : runB 0 0 F = true) (k : Nat) : 0 <= endT 0 (F.take k) /\ endT 0 (F.take k) <= 1099511627776 := by
 cases k with
 | zero => simp [endT]
 | succ k =>
   by_cases hk : k < F.length
   · rw [qD hk];have := (qy _ _ _).1 (qR h _ (List.getElem_mem hk));omega
   · rw [List.take_of_length_le (by omega)]
     cases hl : F.length with
     | zero => rw [List.length_eq_zero_iff.1 hl]; simp [endT]
     | succ m =>
       have e : F = F.take (m + 1) := by rw [List.take_of_length_le (by omega)]
       rw [e,qD (by omega)];have := (qy _ _ _).1 (qR h _ (List.getElem_mem (show m < F.length by omega)));omega
theorem qjY {F : List Ent} (h : runB 0 0 F = true) {k : Nat} (hk : k <= F.length) : endI 0 (F.take k) = k := by
 rw [(run_end (qae h k).1).1,List.length_take,Nat.min_eq_left hk];omega
theorem qd0 {F : List Ent} (h : runB 0 0 F = true) {k : Nat} (hk : k <= F.length) : runB k (endT 0 (F.take k)) (F.drop k) = true := by
 have := (qae h k).2
 rwa [qjY h hk] at this
section
variable {F Y : List Ent} {r : RL}
theorem Full.good (h : Full F r) : Good r := by
 have h1 := h.i0;have h2 := h.le;have h3 := qcX h.run
 have h4 := qdi h.run r.i.toNat
 refine ⟨(qb3 _ _).2 ⟨⟨h1,by omega⟩,by rw [h.t]; exact h4⟩,?_⟩;have := qd0 h.run (k := r.i.toNat) (by omega);rw [show ((r.i.toNat : Nat) : Int) = r.i by omega,<- h.t,<- h.l] at this;exact this
theorem Full.len (h : Full F r) : (r.l.length : Int) = F.length - r.i := by
 have h1 := h.i0;have h2 := h.le;rw [h.l,List.length_drop];omega
theorem Full.lastI (h : Full F r) : r.lastI = F.length := by
 have := h.len;rw [h.good.lastI];omega
theorem qgm (t : Int) (a b : List Ent) : endT t (a ++ b) = endT (endT t a) b := by
 induction a generalizing t with
 | nil => rfl
 | cons e a ih => rw [List.cons_append,qbF,qbF,ih]
theorem Full.lastT (h : Full F r) : r.lastT = endT 0 F := by
 rw [qhy,h.t,h.l,<- qgm,List.take_append_drop]
theorem Full.at_is (h : Full F r) {x : Int} (h1 : r.i <= x) (h2 : x <= F.length) : r.at_ x = some (endT 0 (F.take x.toNat)) := by
 have h0 := h.i0;have hl := h.len;rw [h.good.at_]
 by_cases hx : x = r.i
 · rw [if_pos hx,h.t,hx]
 · rw [if_neg hx];unfold RL.place;rw [if_pos ⟨by omega,by omega⟩]
   have hk : (x - r.i - 1).toNat < r.l.length := by omega
   simp only [Option.bind_some,List.getElem?_eq_getElem hk,Option.map_some,Option.some.injEq]
   have e : x.toNat = (x - 1).toNat + 1 := by omega
   rw [e,qD (by omega)];simp only [h.l,List.getElem_drop]
   congr 2
   omega
theorem Full.at_some (h : Full F r) {x t : Int} (hs : r.at_ x = some t) : r.i <= x /\ x <= F.length /\ t = endT 0 (F.take x.toNat) := by
 obtain ⟨h1,h2,_,_⟩ := h.good.at_some hs;have hl := h.len
 have h3 : x <= F.length := by omega
 refine ⟨h1,h3,?_⟩;rw [h.at_is h1 h3] at hs;exact (Option.some.inj hs).symm
theorem Full.mark (h : Full F r) (x : Int) : Full F (r.mark x) := by
 obtain ⟨a,b,c⟩ := qbr r x;exact ⟨by rw [b]; exact h.i0,by rw [b]; exact h.le,by rw [b,c]; exact h.t,by rw [a,b]; exact h.l,h.run⟩
theorem Full.kept (h : Full F r) (f : Int) : Full F { r with f := f } := ⟨h.i0,h.le,h.t,h.l,h.run⟩
theorem Full.add (h : Full F r) {t : Int} {d : List UInt8} {r' : RL} (ha : r.add t d = some r') : Full (F ++ [⟨F.length + 1,t,d⟩]) r' /\ r'.i = r.i /\ r'.t = r.t := by
 unfold RL.add at ha
 by_cases hr : runB r.lastI r.lastT [⟨r.lastI + 1,t,d⟩] = true
 · rw [if_pos hr] at ha;obtain rfl := Option.some.inj ha;obtain ⟨a,b,c⟩ := qbr { r with l := r.l ++ [⟨r.lastI + 1,t,d⟩] } (r.lastI + 1);have h1 := h.i0;have h2 := h.le;refine ⟨Full.mark (r := { r with l := r.l ++ [⟨r.lastI + 1,t,d⟩] }) ⟨h.i0,?_,?_,?_,?_⟩ _,b,c⟩
   · show r.i <= ((F ++ [_]).length : Nat);rw [List.length_append];omega
   · show r.t = endT 0 ((F ++ [_]).take r.i.toNat);rw [List.take_append_of_le_length (by omega)];exact h.t
   · show r.l ++ [_] = (F ++ [_]).drop r.i.toNat
     rw [List.drop_append_of_le_length (by omega),h.l,h.lastI]
   · rw [qbR,h.run,Bool.true_and,<- h.lastT]
     have e : endI 0 F = r.lastI := by rw [h.lastI,(run_end h.run).1]; omega
     rw [e,h.lastI] at *;exact hr
 · rw [if_neg hr] at ha;cases ha
theorem Full.may (h : Full F r) {t : Int} {d : List UInt8} (h1 : endT 0 F <= t) (h2 : 1 <= t) (h3 : t <= 1099511627776) (h4 : d.length <= 12000) (h5 : (F.length : Int) < 1099511627776) : ∃ r',r.add t d = some r' := by
 unfold RL.add;rw [if_pos]
 · exact ⟨_,rfl⟩
 · rw [qaL,qc6,Bool.and_true,Bool.and_eq_true,Bool.and_eq_true,h.lastT,h.lastI];refine ⟨(qy _ _ _).2 ⟨⟨by show 1 <= (F.length : Int) + 1; omega,by show (F.length : Int) + 1 <= _; omega⟩,⟨h2,h3⟩,h4⟩,decide_eq_true h1,decide_eq_true rfl⟩
theorem Full.cut (h : Full F r) {x t : Int} (hs : r.at_ x = some t) : Full F (r.cut x t) := by
 obtain ⟨h1,h2,h3⟩ := h.at_some hs;have h0 := h.i0;refine ⟨by show 0 <= x; omega,h2,h3,?_,h.run⟩
 show r.l.drop (x - r.i).toNat = F.drop x.toNat
 rw [h.l,List.drop_drop]
 congr 1
 omega
theorem Full.base (hY : runB 0 0 Y = true) {i : Nat} (hi : i <= Y.length) (f : Int) : Full (Y.take i) ⟨i,endT 0 (Y.take i),[],f⟩ :=
 ⟨by show (0 : Int) <= (i : Nat); omega,by show ((i : Nat) : Int) <= ((Y.take i).length : Nat); rw [List.length_take]; omega,by show _ = endT 0 ((Y.take i).take ((i : Nat) : Int).toNat); rw [Int.toNat_natCast,List.take_take,Nat.min_self],
  by show [] = (Y.take i).drop ((i : Nat) : Int).toNat; rw [Int.toNat_natCast,List.drop_of_length_le (by rw [List.length_take]; omega)],(qae hY i).1⟩
theorem Mat.upto (M : Mat F Y) {X : Nat} (h1 : X <= F.length) (h2 : X <= Y.length) (he : endT 0 (F.take X) = endT 0 (Y.take X)) : F.take X = Y.take X := by
 cases X with
 | zero => simp
 | succ k =>
   rw [qD (by omega),qD (by omega)] at he;exact M k _ _ (List.getElem?_eq_getElem (by omega)) (List.getElem?_eq_getElem (by omega)) he
theorem Full.take (h : Full F r) (hY : runB 0 0 Y = true) (M : Mat F Y) {X m : Nat} (hX : X <= Y.length) (ha : r.at_ X = some (endT 0 (Y.take X))) :
 ∃ r',r.take X (endT 0 (Y.take X)) ((Y.drop X).take m) = (r',((X + ((Y.drop X).take m).length : Nat) : Int),true) /\ r'.i = r.i /\ r'.t = r.t /\ F.take X = Y.take X /\ X <= F.length ∧
  ((r' = r /\ Y.take (X + ((Y.drop X).take m).length) <+: F) \/ (Full (Y.take (X + ((Y.drop X).take m).length)) r' /\ ¬ Y.take (X + ((Y.drop X).take m).length) <+: F /\ r.i <= X)) := by
 generalize hm : (Y.drop X).take m = more
 have hml : more.length <= Y.length - X := by rw [<- hm,List.length_take,List.length_drop]; omega
 have hme : ∀ k (hk : k < more.length),more[k] = Y[X + k]'(by omega) := fun k hk => by
  simp only [<- hm,List.getElem_take,List.getElem_drop]
 have hmt : more = (Y.drop X).take more.length := by rw [<- hm,List.take_eq_take_iff]; rw [List.length_take]; omega
 have hrun : runB X (endT 0 (Y.take X)) more = true := by
  rw [<- hm];exact (qae (qd0 hY hX) m).1
 obtain ⟨a1,a2,a3⟩ := h.at_some ha;rw [Int.toNat_natCast] at a3;have hFX : F.take X = Y.take X := M.upto (by omega) hX a3.symm;have hi0 := h.i0;have hkn := qeU r more
 have hYi : ∀ j (hj : j < Y.length),Y[j].i = j + 1 := fun j hj => by have := qbn hY j hj; omega
 have hFk : F.take (X + r.known more) = Y.take (X + r.known more) /\ X + r.known more <= F.length := by
  cases hk : r.known more with
  | zero => exact ⟨hFX,by omega⟩
  | succ k =>
    have hh := qd7 r (more := more) k (by omega) (by omega);unfold RL.has at hh;obtain ⟨b1,b2,b3⟩ := h.at_some (of_decide_eq_true hh);rw [hme k (by omega),hYi _ (by omega)] at b2 b3;refine ⟨M.upto (by omega) (by omega) ?_,by omega⟩;rw [show (((X + k : Nat) : Int) + 1).toNat = X + (k + 1) by omega] at b3;rw [<- b3,show X + (k + 1) = (X + k) + 1 by omega,qD (by omega)]
 have ht : r.take X (endT 0 (Y.take X)) more = (r.swap (more.drop (r.known more)),(X : Int) + more.length,true) := by
  unfold RL.take;rw [if_pos hrun,if_pos ha]
 refine ⟨_,by rw [ht]; congr 1,?_⟩
 by_cases hk : r.known more < more.length
 · have J := h.good.joins hrun ha hk;obtain ⟨s1,s2,s3⟩ := qeW h.good J;refine ⟨s2,s3,hFX,by omega, .inr ⟨?_,?_,a1⟩⟩
   · have hkeep : r.keep (more.drop (r.known more)) = X + r.known more - r.i.toNat := by
      have e := (qcP J).2
      have e2 : (more.drop (r.known more))[0]'J.h0 = more[r.known more] := by simp
      rw [e2,hme _ hk,hYi _ (by omega)] at e;omega
     have hlen : (Y.take (X + more.length)).length = X + more.length := by rw [List.length_take]; omega
     have hsplit : Y.take (X + more.length) = F.take (X + r.known more) ++ more.drop (r.known more) := by
      rw [hFk.1];have e1 : Y.take (X + more.length) = (Y.take (X + more.length)).take (X + r.known more) ++ (Y.take (X + more.length)).drop (X + r.known more) := (List.take_append_drop _ _).symm;rw [e1,List.take_take,Nat.min_eq_left (by omega)]
      congr 1
      rw [hmt,List.length_take,List.length_drop,Nat.min_eq_left (by omega),List.drop_take,List.drop_take,List.drop_drop]
      congr 1
      omega
     refine ⟨by rw [s2]; exact hi0,by rw [s2,hlen]; omega,?_,?_,(qae hY _).1⟩
     · rw [s2,s3,h.t,hsplit,List.take_append_of_le_length (by rw [List.length_take]; omega),List.take_take,Nat.min_eq_left (by omega)]
     · rw [s1,s2,hkeep,hsplit,List.drop_append_of_le_length (by rw [List.length_take]; omega),h.l,List.drop_take]
   · intro hp;have hn := qhA r hk
     have : r.has more[r.known more] = true := by
      unfold RL.has
      apply decide_eq_true
      have hl := hp.length_le;rw [List.length_take] at hl;rw [hme _ hk,hYi _ (by omega),h.at_is (by omega) (by omega)]
      congr 1
      rw [show (((X + r.known more : Nat) : Int) + 1).toNat = (X + r.known more) + 1 by omega,qD (by omega)]
      have hg : (Y.take (X + more.length))[X + r.known more]? = some (Y[X + r.known more]'(by omega)) := by
       rw [List.getElem?_take_of_lt (by omega),List.getElem?_eq_getElem (by omega)]
      have := RafCore.pre_get hp hg;rw [List.getElem?_eq_getElem (by omega)] at this;rw [Option.some.inj this]
     rw [hn] at this;cases this
 · have e : r.known more = more.length := by omega
   rw [e,List.drop_of_length_le (Nat.le_refl _)];refine ⟨rfl,rfl,hFX,by omega, .inl ⟨rfl,?_⟩⟩;rw [e] at hFk;rw [<- hFk.1];exact List.take_prefix _ _
theorem RL.take_no {x t : Int} {more : List Ent} (hr : runB x t more = true) (ha : r.at_ x ≠ some t) : r.take x t more = (r,r.retry x,false) := by
 unfold RL.take;rw [if_pos hr,if_neg ha]
end
end Go.Proofs.YtmiijlecfiddmaaGreat
set_option linter.unusedVariables false
set_option linter.unusedSimpArgs false
set_option maxRecDepth 100000
set_option maxHeartbeats 200000
namespace Go.Proofs.YtmiijlecfiddmaaGreat
structure W where
 g : RafCore.G Ent
 cmx : Int -> Nat
 cxx : Int -> Int
 rac : Nat -> Int -> Int
def Com (w : W) (T : Int) (L : List Ent) : Prop := L = [] \/ ∃ T0 c Y,T0 <= T /\ w.g.ll T0 = some (c,Y) /\ 0 < w.cmx T0 /\ L <+: Y.take (w.cmx T0)
structure WOk (n : Nat) (K : Int) (w : W) : Prop where
 inv : RafCore.Inv Ent.t n w.g
 kk : 0 <= K /\ K <= 1000000
 lr : ∀ a,runB 0 0 (w.g.log a) = true
 cr : ∀ c T X,w.g.cl c T = some X -> runB 0 0 X = true /\ c < n /\ 1 <= T
 yr : ∀ T c Y,w.g.ll T = some (c,Y) -> runB 0 0 Y = true /\ c < n /\ (Y.length : Int) <= K
 cm : ∀ T,0 < w.cmx T -> ∃ P q,RafCore.own Ent.t w.g T (w.cmx T) P /\ RafCore.maj n q /\ ∀ a,q a = true -> w.cmx T <= w.g.ack a T
 no : ∀ T,w.g.ll T = none -> w.cmx T = 0 /\ w.cxx T = 0
 rx : ∀ a T,0 <= w.rac a T /\ w.rac a T <= w.cxx T /\ (0 < w.rac a T -> T <= w.g.term a)
 tk : ∀ a,0 <= w.g.term a /\ w.g.term a <= K
 lk : ∀ a,((w.g.log a).length : Int) <= K
 xk : ∀ T,w.cxx T <= K
 vn : ∀ a T c,w.g.voted a T = some c -> c < n
structure qx (n : Nat) (K : Int) (all : List Ent) (w : W) (m : Msg) : Prop where
 right : rightM m = true
 f : 0 <= m.f /\ m.f < n
 o : 0 <= m.o /\ m.o < n
 t1 : m.t <= K + 1
 t2 : m.k ≠ 1 -> (m.k ≠ 2 \/ m.b = false) -> m.t <= K
 k3 : m.k = 3 -> ∃ X,w.g.cl m.f.toNat m.t = some X /\ m.i = X.length /\ m.l = endT 0 X
 k4 : m.k = 4 -> m.b = true -> w.g.voted m.f.toNat m.t = some m.o.toNat
 k5 : m.k = 5 -> ∃ c Y X,w.g.ll m.t = some (c,Y) /\ m.i = (X : Nat) /\ X + m.es.length <= Y.length /\ m.l = endT 0 (Y.take X) /\ m.es = (Y.drop X).take m.es.length /\ 0 <= m.c /\ m.c <= Y.length /\ Com w m.t (Y.take m.c.toNat) /\ 0 <= m.x /\ m.x <= w.cxx m.t
 k6 : m.k = 6 -> (m.b = true -> m.i <= w.g.ack m.f.toNat m.t) /\ m.x <= w.rac m.f.toNat m.t
 k7 : m.k = 7 -> ∃ c Y i,w.g.ll m.t = some (c,Y) /\ m.s.i = (i : Nat) /\ 1 <= i /\ i <= Y.length /\ m.s.t = endT 0 (Y.take i) /\ m.s.d = Sim.digest (Y.take i) /\ Com w m.t (Y.take i) /\ Y.take i <+: all
structure qe (n : Nat) (K : Int) (all : List Ent) (w : W) (k : Nat) (r : Node) : Prop where
 id : r.id = k /\ r.n = n /\ k < n /\ n <= 3
 fu : Full (w.g.log k) r.lg
 tm : w.g.term k = r.ht
 vo : ∀ c : Nat,w.g.voted k r.ht = some c ↔ r.hv = c
 hv : -1 <= r.hv
 ld : r.ht = 0 -> r.ld = -1
 cm : r.lg.i <= r.cm /\ r.cm <= (w.g.log k).length
 co : Com w r.ht ((w.g.log k).take r.cm.toNat)
 sn : r.sn.i = r.lg.i /\ r.sn.t = r.lg.t /\ (0 < r.sn.i -> r.sn.d = Sim.digest ((w.g.log k).take r.sn.i.toNat)) /\ (r.sn.i = 0 -> r.sn.d = [])
 al : (w.g.log k).take r.lg.i.toNat <+: all
 ro : r.ro = 0 \/ r.ro = 1 \/ r.ro = 2 \/ r.ro = 3
 rd : r.ro ≠ 3 -> r.rd = []
 se : r.ro = 2 \/ r.ro = 3 -> r.hv = k
 r2 : r.ro = 2 -> w.g.cl k r.ht = some (w.g.log k) /\ (∀ Y,w.g.ll r.ht ≠ some (k,Y)) /\ ∀ j,r.sy j = 1 -> j < n /\ w.g.voted j r.ht = some k
 r3 : r.ro = 3 -> w.g.ll r.ht = some (k,w.g.log k) /\ (w.g.log k).length <= w.g.ack k r.ht /\ r.cx = w.cxx r.ht /\ (w.cmx r.ht : Int) <= r.cm /\ (∀ y ∈ r.rd,y.1 <= r.cx) ∧
  ∀ j,j < n -> j ≠ k -> 0 <= r.ma j /\ r.ma j <= w.g.ack j r.ht /\ r.ma j + 1 <= r.nx j /\ r.nx j <= (w.g.log k).length + 1 /\ r.ac j <= w.rac j r.ht
 ms : ∀ m ∈ r.ms,qx n K all w m
structure Step (k : Nat) (w w' : W) : Prop where
 ll : ∀ T c Y,w.g.ll T = some (c,Y) -> ∃ Y',w'.g.ll T = some (c,Y') /\ Y <+: Y'
 cl : ∀ c T X,w.g.cl c T = some X -> w'.g.cl c T = some X
 vo : ∀ a T c,w.g.voted a T = some c -> w'.g.voted a T = some c
 tm : ∀ a,w.g.term a <= w'.g.term a
 ak : ∀ a T,w.g.ack a T <= w'.g.ack a T
 cm : ∀ T,w.cmx T <= w'.cmx T
 cx : ∀ T,w.cxx T <= w'.cxx T
 ra : ∀ a T,w.rac a T <= w'.rac a T
 rl : ∀ a T,T < w.g.term a -> w'.rac a T = w.rac a T
 oT : ∀ a,a ≠ k -> w'.g.term a = w.g.term a
 oL : ∀ a,a ≠ k -> w'.g.log a = w.g.log a
 oV : ∀ a,a ≠ k -> w'.g.voted a = w.g.voted a
 oY : ∀ T c Y,w'.g.ll T = some (c,Y) -> c = k \/ w.g.ll T = some (c,Y)
 oC : ∀ T c Y,w'.g.ll T = some (c,Y) -> c ≠ k -> w'.cmx T = w.cmx T /\ w'.cxx T = w.cxx T
theorem Step.refl (k : Nat) (w : W) : Step k w w :=
 ⟨fun T c Y h => ⟨Y,h,List.prefix_refl _⟩,fun _ _ _ h => h,fun _ _ _ h => h,fun _ => Int.le_refl _,fun _ _ => Nat.le_refl _,fun _ => Nat.le_refl _,fun _ => Int.le_refl _,fun _ _ => Int.le_refl _,fun _ _ _ => rfl,
  fun _ _ => rfl,fun _ _ => rfl,fun _ _ => rfl,fun _ _ _ h => .inr h,fun _ _ _ _ _ => ⟨rfl,rfl⟩⟩
theorem Step.trans {k : Nat} {a b c : W} (h : Step k a b) (h' : Step k b c) : Step k a c where
 ll T d Y hY := by
  obtain ⟨Y',h1,h2⟩ := h.ll T d Y hY;obtain ⟨Y'',h3,h4⟩ := h'.ll T d Y' h1;exact ⟨Y'',h3,h2.trans h4⟩
 cl d T X hX := h'.cl d T X (h.cl d T X hX)
 vo x T d hd := h'.vo x T d (h.vo x T d hd)
 tm x := Int.le_trans (h.tm x) (h'.tm x)
 ak x T := Nat.le_trans (h.ak x T) (h'.ak x T)
 cm T := Nat.le_trans (h.cm T) (h'.cm T)
 cx T := Int.le_trans (h.cx T) (h'.cx T)
 ra x T := Int.le_trans (h.ra x T) (h'.ra x T)
 rl x T hT := by rw [h'.rl x T (Int.lt_of_lt_of_le hT (h.tm x)),h.rl x T hT]
 oT x hx := by rw [h'.oT x hx,h.oT x hx]
 oL x hx := by rw [h'.oL x hx,h.oL x hx]
 oV x hx := by rw [h'.oV x hx,h.oV x hx]
 oY T d Y hY := by
  rcases h'.oY T d Y hY with h1 | h1
  · exact .inl h1
  · exact h.oY T d Y h1
 oC T d Y hY hd := by
  have h1 : b.g.ll T = some (d,Y) := (h'.oY T d Y hY).resolve_left hd;have h2 := h'.oC T d Y hY hd;have h3 := h.oC T d Y h1 hd;exact ⟨h2.1.trans h3.1,h2.2.trans h3.2⟩
section
variable {n : Nat} {K : Int} {all : List Ent} {w w' : W} {k : Nat}
theorem qeK {α : Type} {X Y : List α} (h : X <+: Y) {i j : Nat} (hij : i <= j) : X.take i <+: Y.take j := by
 obtain ⟨Z,rfl⟩ := h;rw [List.take_append];exact (RafCore.take_mono X hij).trans (List.prefix_append _ _)
theorem Com.step {T : Int} {L : List Ent} (h : Com w T L) (S : Step k w w') : Com w' T L := by
 rcases h with h | ⟨T0,c,Y,h1,h2,h3,h4⟩
 · exact .inl h
 · obtain ⟨Y',h5,h6⟩ := S.ll T0 c Y h2;exact .inr ⟨T0,c,Y',h1,h5,Nat.lt_of_lt_of_le h3 (S.cm T0),h4.trans (qeK h6 (S.cm T0))⟩
theorem Com.mono {T T' : Int} {L : List Ent} (h : Com w T L) (hT : T <= T') : Com w T' L := by
 rcases h with h | ⟨T0,c,Y,h1,h2,h3,h4⟩
 · exact .inl h
 · exact .inr ⟨T0,c,Y,Int.le_trans h1 hT,h2,h3,h4⟩
theorem Com.pre {T : Int} {L L' : List Ent} (h : Com w T L) (hp : L' <+: L) : Com w T L' := by
 rcases h with rfl | ⟨T0,c,Y,h1,h2,h3,h4⟩
 · exact .inl (List.prefix_nil.1 hp)
 · exact .inr ⟨T0,c,Y,h1,h2,h3,hp.trans h4⟩
theorem Com.led (O : WOk n K w) {T : Int} {L : List Ent} (h : Com w T L) {T' : Int} (hT : T <= T') {c : Nat} {Y : List Ent} (hll : w.g.ll T' = some (c,Y)) : L <+: Y := by
 rcases h with rfl | ⟨T0,c0,Y0,h1,h2,h3,h4⟩
 · exact List.nil_prefix
 · obtain ⟨P,q,o1,o2,o3⟩ := O.cm T0 h3;have hP := RafCore.complete_ll O.inv o1 q o2 o3 (Int.le_trans h1 hT) hll;obtain ⟨c',Y',e,p1,p2,p3,p4,_⟩ := o1;rw [h2] at p1;obtain ⟨rfl,rfl⟩ := Prod.mk.inj (Option.some.inj p1);rw [p4] at h4;exact h4.trans hP
theorem Com.both (O : WOk n K w) {T T' : Int} {L L' : List Ent} (h : Com w T L) (h' : Com w T' L') : L <+: L' \/ L' <+: L := by
 rcases h with rfl | ⟨T0,c0,Y0,h1,h2,h3,h4⟩
 · exact .inl List.nil_prefix
 rcases h' with rfl | ⟨T1,c1,Y1,k1,k2,k3,k4⟩
 · exact .inr List.nil_prefix
 have a : Com w T0 L := .inr ⟨T0,c0,Y0,Int.le_refl _,h2,h3,h4⟩;have b : Com w T1 L' := .inr ⟨T1,c1,Y1,Int.le_refl _,k2,k3,k4⟩
 have fin : ∀ {Y : List Ent},L <+: Y -> L' <+: Y -> L <+: L' \/ L' <+: L := fun p q => by
  rcases Nat.le_total L.length L'.length with hl | hl
  · exact .inl (List.prefix_of_prefix_length_le p q hl)
  · exact .inr (List.prefix_of_prefix_length_le q p hl)
 rcases Int.le_total T0 T1 with hT | hT
 · exact fin (a.led O hT k2) (b.led O (Int.le_refl _) k2)
 · exact fin (a.led O (Int.le_refl _) h2) (b.led O hT h2)
theorem qx.step {m : Msg} (h : qx n K all w m) (S : Step k w w') : qx n K all w' m where
 right := h.right
 f := h.f
 o := h.o
 t1 := h.t1
 t2 := h.t2
 k3 hk := by
  obtain ⟨X,h1,h2⟩ := h.k3 hk;exact ⟨X,S.cl _ _ _ h1,h2⟩
 k4 hk hb := S.vo _ _ _ (h.k4 hk hb)
 k5 hk := by
  obtain ⟨c,Y,X,h1,h2,h3,h4,h5,h6,h7,h8,h9,h10⟩ := h.k5 hk;obtain ⟨Y',a1,a2⟩ := S.ll _ _ _ h1;have hl := a2.length_le;refine ⟨c,Y',X,a1,h2,by omega,by rw [RafCore.take_pre_take a2 X (by omega)]; exact h4,?_,h6,by omega,?_,h9,Int.le_trans h10 (S.cx _)⟩
  · have e : (Y'.drop X).take m.es.length = (Y.drop X).take m.es.length := by
     obtain ⟨Z,rfl⟩ := a2;rw [List.drop_append_of_le_length (by omega),List.take_append_of_le_length (by rw [List.length_drop]; omega)]
    rw [e];exact h5
  · rw [RafCore.take_pre_take a2 _ (by omega)];exact h8.step S
 k6 hk := ⟨fun hb => Int.le_trans ((h.k6 hk).1 hb) (by have := S.ak m.f.toNat m.t; omega),Int.le_trans (h.k6 hk).2 (S.ra _ _)⟩
 k7 hk := by
  obtain ⟨c,Y,i,h1,h2,h3,h4,h5,h6,h7,h8⟩ := h.k7 hk;obtain ⟨Y',a1,a2⟩ := S.ll _ _ _ h1;have e := RafCore.take_pre_take a2 i h4;exact ⟨c,Y',i,a1,h2,h3,Nat.le_trans h4 a2.length_le,by rw [e]; exact h5,by rw [e]; exact h6,by rw [e]; exact h7.step S,by rw [e]; exact h8⟩
theorem qx.more {m : Msg} {K' : Int} (h : qx n K all w m) (hK : K <= K') : qx n K' all w m :=
 { h with t1 := by have := h.t1; omega,t2 := fun a b => Int.le_trans (h.t2 a b) hK }
theorem qx.joins {m : Msg} {all' : List Ent} (h : qx n K all w m) (ha : all <+: all') : qx n K all' w m := by
 refine ⟨h.right,h.f,h.o,h.t1,h.t2,h.k3,h.k4,h.k5,h.k6,fun hk => ?_⟩;obtain ⟨c,Y,i,h1,h2,h3,h4,h5,h6,h7,h8⟩ := h.k7 hk;exact ⟨c,Y,i,h1,h2,h3,h4,h5,h6,h7,h8.trans ha⟩
theorem WOk.more {K' : Int} (O : WOk n K w) (hK : K <= K') (h : K' <= 1000000) : WOk n K' w :=
 ⟨O.inv,⟨Int.le_trans O.kk.1 hK,h⟩,O.lr,O.cr,fun T c Y hY => ⟨(O.yr T c Y hY).1,(O.yr T c Y hY).2.1,Int.le_trans (O.yr T c Y hY).2.2 hK⟩,O.cm,O.no,O.rx,
   fun a => ⟨(O.tk a).1,Int.le_trans (O.tk a).2 hK⟩,fun a => Int.le_trans (O.lk a) hK,fun T => Int.le_trans (O.xk T) hK,O.vn⟩
theorem qe.more {r : Node} {K' : Int} (h : qe n K all w k r) (hK : K <= K') : qe n K' all w k r :=
 { h with ms := fun m hm => (h.ms m hm).more hK }
theorem qe.joins {r : Node} {all' : List Ent} (h : qe n K all w k r) (ha : all <+: all') : qe n K all' w k r :=
 { h with al := h.al.trans ha,ms := fun m hm => (h.ms m hm).joins ha }
theorem qe.step {r : Node} {j : Nat} (h : qe n K all w j r) (S : Step k w w') (hj : j ≠ k) : qe n K all w' j r where
 id := h.id
 fu := by rw [S.oL j hj]; exact h.fu
 tm := by rw [S.oT j hj]; exact h.tm
 vo c := by rw [S.oV j hj]; exact h.vo c
 hv := h.hv
 ld := h.ld
 cm := by rw [S.oL j hj]; exact h.cm
 co := by rw [S.oL j hj]; exact h.co.step S
 sn := by rw [S.oL j hj]; exact h.sn
 al := by rw [S.oL j hj]; exact h.al
 ro := h.ro
 rd := h.rd
 se := h.se
 r2 hr := by
  obtain ⟨h1,h2,h3⟩ := h.r2 hr;refine ⟨by rw [S.oL j hj]; exact S.cl _ _ _ h1,fun Y hY => ?_,fun i hi => ⟨(h3 i hi).1,S.vo _ _ _ (h3 i hi).2⟩⟩;rcases S.oY _ _ _ hY with hq | hq
  · exact hj hq
  · exact h2 Y hq
 r3 hr := by
  obtain ⟨h1,h2,h3,h4,h5,h6⟩ := h.r3 hr;obtain ⟨Y',a1,a2⟩ := S.ll _ _ _ h1;have a3 := (S.oY _ _ _ a1).resolve_left hj;rw [h1] at a3;obtain rfl := (Prod.mk.inj (Option.some.inj a3)).2;obtain ⟨c1,c2⟩ := S.oC _ _ _ a1 hj;rw [S.oL j hj];refine ⟨a1,Nat.le_trans h2 (S.ak _ _),by rw [c2]; exact h3,by rw [c1]; exact h4,h5,fun i hi hij => ?_⟩;obtain ⟨b1,b2,b3,b4,b5⟩ := h6 i hi hij;exact ⟨b1,Int.le_trans b2 (by have := S.ak i r.ht; omega),b3,b4,Int.le_trans b5 (S.ra _ _)⟩
 ms m hm := (h.ms m hm).step S
theorem mat (O : WOk n K w) (a : Nat) {T : Int} {c : Nat} {Y : List Ent} (hY : w.g.ll T = some (c,Y)) : Mat (w.g.log a) Y :=
 fun j e e' he he' ht => RafCore.Coh.match_ (tm := Ent.t) (O.inv.co a) (O.inv.cll T c Y hY).2.1 he he' ht
end
end Go.Proofs.YtmiijlecfiddmaaGreat
set_option linter.unusedVariables false
set_option linter.unusedSimpArgs false
set_option maxRecDepth 100000
set_option maxHeartbeats 200000
namespace Go.Proofs.YtmiijlecfiddmaaGreat
section
variable {n : Nat} {K : Int} {w : W} {k : Nat}
theorem Step.ext {w' : W} (S : Step k w w') : RafCore.Ext w.g w'.g := ⟨S.ll,S.cl⟩
def qaY (w : W) (k : Nat) (T : Int) : W := { w with g := RafCore.bump w.g k T }
theorem qes (w : W) (k : Nat) (T : Int) (a : Nat) : (qaY w k T).g.term a = if a = k then T else w.g.term a := rfl
theorem Step.bump {T : Int} (h : w.g.term k <= T) : Step k w (qaY w k T) :=
 { Step.refl k w with
  ll := fun T c Y h => ⟨Y,h,List.prefix_refl _⟩
  cl := fun _ _ _ h => h
  vo := fun _ _ _ h => h
  tm := RafCore.bump_le w.g k h
  oT := fun a ha => RafCore.upd_other _ _ ha
  oY := fun _ _ _ h => .inr h
  oC := fun _ _ _ _ _ => ⟨rfl,rfl⟩ }
theorem WOk.bump (O : WOk n K w) {T : Int} (h : w.g.term k <= T) (hT : T <= K) : WOk n K (qaY w k T) :=
 { O with
  inv := O.inv.bump h
  cm := O.cm
  rx := fun a t => ⟨(O.rx a t).1,(O.rx a t).2.1,fun hp => Int.le_trans ((O.rx a t).2.2 hp) (RafCore.bump_le w.g k h a)⟩
  tk := fun a => by
   rw [qes]
   by_cases ha : a = k
   · rw [if_pos ha]; exact ⟨Int.le_trans (O.tk k).1 h,hT⟩
   · rw [if_neg ha]; exact O.tk a }
def qbP (w : W) (k : Nat) (T : Int) : W := { w with g := RafCore.campaign w.g k T }
theorem qet (w : W) (k : Nat) (T : Int) (a : Nat) : (qbP w k T).g.term a = if a = k then T else w.g.term a := rfl
theorem qbj (w : W) (k : Nat) (T : Int) (a : Nat) (t : Int) : (qbP w k T).g.voted a t = if a = k /\ t = T then some k else w.g.voted a t := rfl
theorem qd1 (w : W) (k : Nat) (T : Int) (a : Nat) (t : Int) : (qbP w k T).g.cl a t = if a = k /\ t = T then some (w.g.log k) else w.g.cl a t := rfl
theorem Step.camp (O : WOk n K w) {T : Int} (h : w.g.term k < T) : Step k w (qbP w k T) :=
 { Step.refl k w with
  ll := fun T c Y h => ⟨Y,h,List.prefix_refl _⟩
  cl := fun c t X hX => by
   rw [qd1,if_neg ?_,hX];rintro ⟨rfl,rfl⟩;have := (O.inv.ccl _ _ _ hX).1;omega
  vo := fun a t c hc => by
   rw [qbj,if_neg ?_,hc];rintro ⟨rfl,rfl⟩;have := (O.inv.vt _ _ _ hc).1;omega
  tm := RafCore.bump_le w.g k (Int.le_of_lt h)
  oT := fun a ha => RafCore.upd_other _ _ ha
  oV := fun a ha => by funext t; rw [qbj,if_neg (fun hq => ha hq.1)]
  oY := fun _ _ _ h => .inr h
  oC := fun _ _ _ _ _ => ⟨rfl,rfl⟩ }
theorem WOk.camp (O : WOk n K w) {T : Int} (h : w.g.term k < T) (hT : T <= K) (hk : k < n) : WOk n K (qbP w k T) :=
 { O with
  inv := O.inv.campaign h
  cm := O.cm
  cr := fun c t X hX => by
   rw [qd1] at hX
   split at hX
   · rename_i hq;obtain rfl := Option.some.inj hX;exact ⟨O.lr k,by rw [hq.1]; exact hk,by have := (O.tk k).1; omega⟩
   · exact O.cr c t X hX
  vn := fun a t c hc => by
   rw [qbj] at hc
   split at hc
   · obtain rfl := Option.some.inj hc;exact hk
   · exact O.vn a t c hc
  rx := fun a t => ⟨(O.rx a t).1,(O.rx a t).2.1,fun hp => Int.le_trans ((O.rx a t).2.2 hp) (RafCore.bump_le w.g k (Int.le_of_lt h) a)⟩
  tk := fun a => by
   rw [qet]
   by_cases ha : a = k
   · rw [if_pos ha]; exact ⟨by have := (O.tk k).1; omega,hT⟩
   · rw [if_neg ha]; exact O.tk a }
def qeR (w : W) (k c : Nat) (T : Int) : W := { w with g := RafCore.vote w.g k c T }
theorem qbk (w : W) (k c : Nat) (T : Int) (a : Nat) (t : Int) : (qeR w k c T).g.voted a t = if a = k /\ t = T then some c else w.g.voted a t := rfl
theorem Step.vote {c : Nat} {T : Int} (h : w.g.voted k T = none) : Step k w (qeR w k c T) :=
 { Step.refl k w with
  ll := fun T c Y h => ⟨Y,h,List.prefix_refl _⟩
  cl := fun _ _ _ h => h
  vo := fun a t d hd => by
   rw [qbk,if_neg ?_,hd];rintro ⟨rfl,rfl⟩;rw [h] at hd;cases hd
  tm := fun _ => Int.le_refl _
  oV := fun a ha => by funext t; rw [qbk,if_neg (fun hq => ha hq.1)]
  oY := fun _ _ _ h => .inr h
  oC := fun _ _ _ _ _ => ⟨rfl,rfl⟩ }
theorem WOk.vote (O : WOk n K w) {c : Nat} {T : Int} {X : List Ent} (ht : w.g.term k = T) (h : w.g.voted k T = none) (hX : w.g.cl c T = some X) (hn : RafCore.asNew Ent.t X (w.g.log k)) : WOk n K (qeR w k c T) :=
 { O with
  inv := O.inv.vote ht h hX hn
  cm := O.cm
  vn := fun a t d hd => by
   rw [qbk] at hd
   split at hd
   · obtain rfl := Option.some.inj hd;exact (O.cr _ _ _ hX).2.1
   · exact O.vn a t d hd }
def qaZ (w : W) (k : Nat) (T : Int) (e : Ent) : W := { w with g := RafCore.push w.g k T e }
theorem qbp (w : W) (k : Nat) (T : Int) (e : Ent) (t : Int) : (qaZ w k T e).g.ll t = if t = T then some (k,w.g.log k ++ [e]) else w.g.ll t := rfl
theorem qbA (w : W) (k : Nat) (T : Int) (e : Ent) (a : Nat) : (qaZ w k T e).g.log a = if a = k then w.g.log k ++ [e] else w.g.log a := rfl
theorem qcm (w : W) (k : Nat) (T : Int) (e : Ent) (a : Nat) (t : Int) : (qaZ w k T e).g.ack a t = if a = k /\ t = T then (w.g.log k).length + 1 else w.g.ack a t := rfl
def qcY (n : Nat) (w : W) (k : Nat) (T : Int) : Prop :=
 (w.g.ll T = none /\ w.g.cl k T = some (w.g.log k) /\ ∃ q,RafCore.maj n q /\ ∀ a,q a = true -> w.g.voted a T = some k) \/ w.g.ll T = some (k,w.g.log k)
theorem Step.push (O : WOk n K w) {T : Int} {e : Ent} (h : qcY n w k T) : Step k w (qaZ w k T e) :=
 { Step.refl k w with
  ll := fun t c Y hY => by
   rw [qbp]
   by_cases ht : t = T
   · subst ht;rw [if_pos rfl];rcases h with ⟨h1,_⟩ | h1
     · rw [h1] at hY; cases hY
     · rw [h1] at hY;obtain ⟨rfl,rfl⟩ := Prod.mk.inj (Option.some.inj hY);exact ⟨_,rfl,List.prefix_append _ _⟩
   · rw [if_neg ht]; exact ⟨Y,hY,List.prefix_refl _⟩
  cl := fun _ _ _ h => h
  vo := fun _ _ _ h => h
  tm := fun _ => Int.le_refl _
  ak := fun a t => by
   rw [qcm]
   split
   · rename_i hq;obtain ⟨rfl,rfl⟩ := hq;rcases Nat.eq_zero_or_pos (w.g.ack a t) with h0 | h0
     · omega
     · obtain ⟨_,c,Y,h2,h3⟩ := O.inv.ak a t h0;rcases h with ⟨h1,_⟩ | h1
       · rw [h1] at h2; cases h2
       · rw [h1] at h2;obtain ⟨rfl,rfl⟩ := Prod.mk.inj (Option.some.inj h2);omega
   · exact Nat.le_refl _
  oL := fun a ha => by rw [qbA,if_neg ha]
  oY := fun t c Y hY => by
   rw [qbp] at hY
   split at hY
   · obtain ⟨rfl,_⟩ := Prod.mk.inj (Option.some.inj hY);exact .inl rfl
   · exact .inr hY
  oC := fun _ _ _ _ _ => ⟨rfl,rfl⟩ }
theorem WOk.push (O : WOk n K w) {T : Int} {e : Ent} (h : qcY n w k T) (hk : k < n) (ht : w.g.term k = T) (he : e.t = T) (hr : runB 0 0 (w.g.log k ++ [e]) = true) (hl : ((w.g.log k).length : Int) < K) : WOk n K (qaZ w k T e) := by
 have S := Step.push (e := e) O h
 have hlen : (((w.g.log k ++ [e]).length : Nat) : Int) <= K := by rw [List.length_append,List.length_singleton]; omega
 refine ⟨O.inv.push ht he h,O.kk,fun a => ?_,O.cr,fun t c Y hY => ?_,fun t h0 => ?_,fun t hn => ?_,O.rx,O.tk,fun a => ?_,O.xk,O.vn⟩
 · rw [qbA]
   split
   · exact hr
   · exact O.lr a
 · rw [qbp] at hY
   split at hY
   · obtain ⟨rfl,rfl⟩ := Prod.mk.inj (Option.some.inj hY);exact ⟨hr,hk,hlen⟩
   · exact O.yr t c Y hY
 · obtain ⟨P,q,h1,h2,h3⟩ := O.cm t h0;exact ⟨P,q,h1.ext S.ext,h2,fun a ha => Nat.le_trans (h3 a ha) (S.ak a t)⟩
 · rw [qbp] at hn
   split at hn
   · cases hn
   · exact O.no t hn
 · rw [qbA]
   split
   · exact hlen
   · exact O.lk a
noncomputable def wAcc (w : W) (k : Nat) (T : Int) (Y : List Ent) (m : Nat) : W := { w with g := RafCore.accept w.g k T Y m }
theorem qgE (w : W) (k : Nat) (T : Int) (Y : List Ent) (m : Nat) (a : Nat) (t : Int) : (wAcc w k T Y m).g.ack a t = if a = k /\ t = T then max (w.g.ack k T) m else w.g.ack a t := rfl
theorem qaS (w : W) (k : Nat) (T : Int) (Y : List Ent) (m : Nat) : (Y.take m <+: w.g.log k -> (wAcc w k T Y m).g.log k = w.g.log k) /\ (¬ Y.take m <+: w.g.log k -> (wAcc w k T Y m).g.log k = Y.take m) := by
 have : (wAcc w k T Y m).g.log k = @ite _ (Y.take m <+: w.g.log k) (Classical.propDecidable _) (w.g.log k) (Y.take m) := RafCore.upd_same _ _ _;rw [this];exact ⟨fun h => if_pos h,fun h => if_neg h⟩
theorem qcL (w : W) (k : Nat) (T : Int) (Y : List Ent) (m : Nat) {a : Nat} (ha : a ≠ k) : (wAcc w k T Y m).g.log a = w.g.log a := RafCore.upd_other _ _ ha
theorem Step.acc {T : Int} {Y : List Ent} {m : Nat} : Step k w (wAcc w k T Y m) :=
 { Step.refl k w with
  ll := fun t c Y hY => ⟨Y,hY,List.prefix_refl _⟩
  cl := fun _ _ _ h => h
  vo := fun _ _ _ h => h
  tm := fun _ => Int.le_refl _
  ak := fun a t => by
   rw [qgE]
   split
   · rename_i hq;rw [hq.1,hq.2];exact Nat.le_max_left _ _
   · exact Nat.le_refl _
  oL := fun a ha => qcL w k T Y m ha
  oY := fun _ _ _ h => .inr h
  oC := fun _ _ _ _ _ => ⟨rfl,rfl⟩ }
theorem WOk.acc (O : WOk n K w) {T : Int} {c : Nat} {Y : List Ent} {m : Nat} (ht : w.g.term k = T) (hll : w.g.ll T = some (c,Y)) (hm : m <= Y.length) : WOk n K (wAcc w k T Y m) := by
 have S : Step k w (wAcc w k T Y m) := Step.acc;obtain ⟨y1,y2,y3⟩ := O.yr T c Y hll;refine ⟨O.inv.accept ht hll hm,O.kk,fun a => ?_,O.cr,O.yr,fun t h0 => ?_,O.no,O.rx,O.tk,fun a => ?_,O.xk,O.vn⟩
 · by_cases ha : a = k
   · subst ha
     by_cases hp : Y.take m <+: w.g.log a
     · rw [(qaS w a T Y m).1 hp]; exact O.lr a
     · rw [(qaS w a T Y m).2 hp]; exact (qae y1 m).1
   · rw [qcL w k T Y m ha]; exact O.lr a
 · obtain ⟨P,q,h1,h2,h3⟩ := O.cm t h0;exact ⟨P,q,h1.ext S.ext,h2,fun a ha => Nat.le_trans (h3 a ha) (S.ak a t)⟩
 · by_cases ha : a = k
   · subst ha
     by_cases hp : Y.take m <+: w.g.log a
     · rw [(qaS w a T Y m).1 hp]; exact O.lk a
     · rw [(qaS w a T Y m).2 hp,List.length_take]; omega
   · rw [qcL w k T Y m ha]; exact O.lk a
def wCom (w : W) (T : Int) (i : Nat) : W := { w with cmx := fun t => if t = T then max (w.cmx T) i else w.cmx t }
theorem qa3 (w : W) (T : Int) (i : Nat) (t : Int) : (wCom w T i).cmx t = if t = T then max (w.cmx T) i else w.cmx t := rfl
theorem Step.com {T : Int} {i : Nat} {Y : List Ent} (h : w.g.ll T = some (k,Y)) : Step k w (wCom w T i) :=
 { Step.refl k w with
  ll := fun t c Y hY => ⟨Y,hY,List.prefix_refl _⟩
  cl := fun _ _ _ h => h
  vo := fun _ _ _ h => h
  tm := fun _ => Int.le_refl _
  cm := fun t => by
   rw [qa3]
   split
   · rename_i hq;rw [hq];exact Nat.le_max_left _ _
   · exact Nat.le_refl _
  oY := fun _ _ _ h => .inr h
  oC := fun t c Y' hY hc => by
   rw [qa3,if_neg ?_]
   · exact ⟨rfl,rfl⟩
   · rintro rfl;have hY : w.g.ll t = some (c,Y') := hY;rw [h] at hY
     exact hc (Prod.mk.inj (Option.some.inj hY)).1.symm }
theorem WOk.com (O : WOk n K w) {T : Int} {i : Nat} {Y P : List Ent} {q : Nat -> Bool} (h : w.g.ll T = some (k,Y)) (ho : RafCore.own Ent.t w.g T i P) (hq : RafCore.maj n q) (ha : ∀ a,q a = true -> i <= w.g.ack a T) : WOk n K (wCom w T i) := by
 refine ⟨O.inv,O.kk,O.lr,O.cr,O.yr,fun t h0 => ?_,fun t hn => ?_,O.rx,O.tk,O.lk,O.xk,O.vn⟩
 · rw [qa3] at h0 ⊢
   split
   · rename_i ht;subst ht;rw [if_pos rfl] at h0
     by_cases hi : w.cmx t <= i
     · rw [Nat.max_eq_right hi];exact ⟨P,q,ho,hq,ha⟩
     · rw [Nat.max_eq_left (by omega)];exact O.cm t (by omega)
   · rename_i ht;rw [if_neg ht] at h0;exact O.cm t h0
 · rw [qa3];have hn2 : w.g.ll t = none := hn;rw [if_neg ?_]
   · exact O.no t hn2
   · rintro rfl;rw [h] at hn2;cases hn2
def wCtx (w : W) (T : Int) (x : Int) : W := { w with cxx := fun t => if t = T then max (w.cxx T) x else w.cxx t }
theorem qbq (w : W) (T x t : Int) : (wCtx w T x).cxx t = if t = T then max (w.cxx T) x else w.cxx t := rfl
theorem Step.ctx {T x : Int} {Y : List Ent} (h : w.g.ll T = some (k,Y)) : Step k w (wCtx w T x) :=
 { Step.refl k w with
  ll := fun t c Y hY => ⟨Y,hY,List.prefix_refl _⟩
  cl := fun _ _ _ h => h
  vo := fun _ _ _ h => h
  tm := fun _ => Int.le_refl _
  cx := fun t => by
   rw [qbq]
   split
   · rename_i hq;rw [hq];exact Int.le_max_left _ _
   · exact Int.le_refl _
  oY := fun _ _ _ h => .inr h
  oC := fun t c Y' hY hc => by
   rw [qbq,if_neg ?_]
   · exact ⟨rfl,rfl⟩
   · rintro rfl;have hY : w.g.ll t = some (c,Y') := hY;rw [h] at hY
     exact hc (Prod.mk.inj (Option.some.inj hY)).1.symm }
theorem WOk.ctx (O : WOk n K w) {T x : Int} {Y : List Ent} (h : w.g.ll T = some (k,Y)) (hx : x <= K) : WOk n K (wCtx w T x) := by
 refine ⟨O.inv,O.kk,O.lr,O.cr,O.yr,O.cm,fun t hn => ?_,fun a t => ⟨(O.rx a t).1,Int.le_trans (O.rx a t).2.1 ((Step.ctx (x := x) h).cx t),(O.rx a t).2.2⟩,O.tk,O.lk,fun t => ?_,O.vn⟩
 · rw [qbq];have hn2 : w.g.ll t = none := hn;rw [if_neg ?_]
   · exact O.no t hn2
   · rintro rfl;rw [h] at hn2;cases hn2
 · rw [qbq]
   split
   · exact Int.max_le.2 ⟨O.xk T,hx⟩
   · exact O.xk t
def wRac (w : W) (k : Nat) (T : Int) (x : Int) : W := { w with rac := fun a t => if a = k /\ t = T then max (w.rac k T) x else w.rac a t }
theorem qcZ (w : W) (k : Nat) (T x : Int) (a : Nat) (t : Int) : (wRac w k T x).rac a t = if a = k /\ t = T then max (w.rac k T) x else w.rac a t := rfl
theorem Step.rac {T x : Int} (h : w.g.term k = T) : Step k w (wRac w k T x) :=
 { Step.refl k w with
  ll := fun t c Y hY => ⟨Y,hY,List.prefix_refl _⟩
  cl := fun _ _ _ h => h
  vo := fun _ _ _ h => h
  tm := fun _ => Int.le_refl _
  ra := fun a t => by
   rw [qcZ]
   split
   · rename_i hq;rw [hq.1,hq.2];exact Int.le_max_left _ _
   · exact Int.le_refl _
  rl := fun a t ht => by
   rw [qcZ,if_neg ?_];rintro ⟨rfl,rfl⟩;omega
  oY := fun _ _ _ h => .inr h
  oC := fun _ _ _ _ _ => ⟨rfl,rfl⟩ }
theorem WOk.rac (O : WOk n K w) {T x : Int} (h : w.g.term k = T) (hx : x <= w.cxx T) : WOk n K (wRac w k T x) := by
 refine ⟨O.inv,O.kk,O.lr,O.cr,O.yr,O.cm,O.no,fun a t => ?_,O.tk,O.lk,O.xk,O.vn⟩;rw [qcZ]
 split
 · rename_i hq;obtain ⟨rfl,rfl⟩ := hq;obtain ⟨h1,h2,h3⟩ := O.rx a t;exact ⟨Int.le_trans h1 (Int.le_max_left _ _),Int.max_le.2 ⟨h2,hx⟩,fun _ => by show t <= w.g.term a; omega⟩
 · exact O.rx a t
end
end Go.Proofs.YtmiijlecfiddmaaGreat
