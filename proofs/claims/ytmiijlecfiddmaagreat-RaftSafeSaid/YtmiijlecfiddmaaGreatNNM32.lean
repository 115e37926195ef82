/- Raft, without program and without memory: who voted, who led which term, what was acknowledged. Plain mathematics. -/
import Derived.Test.YtmiijlecfiddmaaGreatNNM01
set_option linter.unusedVariables false
set_option linter.unusedSimpArgs false
set_option maxRecDepth 100000
set_option maxHeartbeats 200000
namespace Go.Proofs.YtmiijlecfiddmaaGreat.RafCore
def maj (n : Nat) (p : Nat -> Bool) : Prop := n < 2 * ((List.range n).filter p).length
theorem qfZ (l : List Nat) (p q : Nat -> Bool) (h : ∀ a ∈ l,¬ (p a = true /\ q a = true)) : (l.filter p).length + (l.filter q).length <= l.length := by
 induction l with
 | nil => simp
 | cons a l ih =>
   have ih := ih fun b hb => h b (List.mem_cons_of_mem _ hb)
   have ha := h a (List.mem_cons_self ..);simp only [List.filter_cons]
   cases hp : p a <;> cases hq : q a <;> simp_all <;> omega
theorem maj_meet {n : Nat} {p q : Nat -> Bool} (h : maj n p) (k : maj n q) : ∃ a,a < n /\ p a = true /\ q a = true := by
 apply Classical.byContradiction
 intro hno
 have := qfZ (List.range n) p q fun a ha hpq => hno ⟨a,List.mem_range.1 ha,hpq⟩
 unfold maj at h k;rw [List.length_range] at this;omega
theorem pre_take {α : Type} {X Y : List α} (h : X <+: Y) : X = Y.take X.length := by
 obtain ⟨Z,rfl⟩ := h;simp
theorem pre_get {α : Type} {X Y : List α} (h : X <+: Y) {j : Nat} {e : α} (hj : X[j]? = some e) : Y[j]? = some e := by
 obtain ⟨Z,rfl⟩ := h;rw [List.getElem?_append_left (List.getElem?_eq_some_iff.1 hj).1];exact hj
theorem take_pre_take {α : Type} {X Y : List α} (h : X <+: Y) (i : Nat) (hi : i <= X.length) : Y.take i = X.take i := by
 obtain ⟨Z,rfl⟩ := h;rw [List.take_append_of_le_length hi]
theorem take_mono {α : Type} (Y : List α) {i j : Nat} (h : i <= j) : Y.take i <+: Y.take j := by
 have : Y.take i = (Y.take j).take i := by rw [List.take_take,Nat.min_eq_left h]
 rw [this];exact List.take_prefix _ _
structure G (α : Type) where
 term : Nat -> Int
 log : Nat -> List α
 voted : Nat -> Int -> Option Nat
 cl : Nat -> Int -> Option (List α)
 ll : Int -> Option (Nat × List α)
 ack : Nat -> Int -> Nat
section
variable {α : Type} (tm : α → Int)
def Coh (g : G α) (X : List α) : Prop := ∀ j e,X[j]? = some e -> ∃ c Y,g.ll (tm e) = some (c,Y) /\ X.take (j + 1) <+: Y
def own (g : G α) (T : Int) (i : Nat) (P : List α) : Prop := ∃ c Y e,g.ll T = some (c,Y) /\ 1 <= i /\ i <= Y.length /\ Y.take i = P /\ Y[i - 1]? = some e /\ tm e = T
def lacks (g : G α) (T0 : Int) (hi : Int -> Prop) (P : List α) : Prop := ∃ T1 c1 X1 Y1,T0 < T1 /\ hi T1 /\ g.ll T1 = some (c1,Y1) /\ g.cl c1 T1 = some X1 /\ ¬ P <+: X1
def VR (g : G α) (a : Nat) (T : Int) (X : List α) : Prop := ∀ T0 i P,T0 < T -> i <= g.ack a T0 -> own tm g T0 i P -> P <+: X \/ lacks g T0 (· < T) P
structure Inv (n : Nat) (g : G α) : Prop where
 sl : ∀ a,(g.log a).Pairwise fun x y => tm x <= tm y
 tl : ∀ a e,e ∈ g.log a -> tm e <= g.term a
 co : ∀ a,Coh tm g (g.log a)
 ccl : ∀ c T X,g.cl c T = some X -> T <= g.term c /\ Coh tm g X /\ (X.Pairwise fun x y => tm x <= tm y) /\ ∀ e ∈ X,tm e < T
 cll : ∀ T c Y,g.ll T = some (c,Y) -> T <= g.term c /\ Coh tm g Y /\ (Y.Pairwise fun x y => tm x <= tm y) /\ ∃ X Z,g.cl c T = some X /\ Y = X ++ Z /\ Z ≠ [] /\ ∀ e ∈ Z,tm e = T
 vt : ∀ a T c,g.voted a T = some c -> T <= g.term a /\ ∃ X,g.cl c T = some X /\ (g.ll T = none -> VR tm g a T X)
 el : ∀ T c Y X,g.ll T = some (c,Y) -> g.cl c T = some X -> ∃ q,maj n q /\ ∀ a,q a = true -> g.voted a T = some c /\ VR tm g a T X
 ak : ∀ a T,0 < g.ack a T -> T <= g.term a /\ ∃ c Y,g.ll T = some (c,Y) /\ g.ack a T <= Y.length
 rt : ∀ a T0 i P,i <= g.ack a T0 -> own tm g T0 i P -> P <+: g.log a \/ lacks g T0 (· <= g.term a) P
structure Ext (g g' : G α) : Prop where
 ll : ∀ T c Y,g.ll T = some (c,Y) -> ∃ Y',g'.ll T = some (c,Y') /\ Y <+: Y'
 cl : ∀ c T X,g.cl c T = some X -> g'.cl c T = some X
variable {tm} {g g' : G α} {n : Nat}
theorem Coh.ext {X : List α} (h : Coh tm g X) (E : Ext g g') : Coh tm g' X := fun j e hj => by
 obtain ⟨c,Y,h1,h2⟩ := h j e hj;obtain ⟨Y',h3,h4⟩ := E.ll _ _ _ h1;exact ⟨c,Y',h3,h2.trans h4⟩
theorem Coh.pre {X X' : List α} (h : Coh tm g X) (hp : X' <+: X) : Coh tm g X' := fun j e hj => by
 obtain ⟨c,Y,h1,h2⟩ := h j e (pre_get hp hj);have hl := (List.getElem?_eq_some_iff.1 hj).1;exact ⟨c,Y,h1,by rw [take_pre_take hp (j + 1) hl] at h2; exact h2⟩
theorem lacks.ext {T0 : Int} {hi hi' : Int -> Prop} {P : List α} (h : lacks g T0 hi P) (E : Ext g g') (hh : ∀ T,hi T -> hi' T) : lacks g' T0 hi' P := by
 obtain ⟨T1,c1,X1,Y1,h1,h2,h3,h4,h5⟩ := h;obtain ⟨Y',h6,_⟩ := E.ll _ _ _ h3;exact ⟨T1,c1,X1,Y',h1,hh _ h2,h6,E.cl _ _ _ h4,h5⟩
theorem own.old {T : Int} {i : Nat} {P : List α} {c : Nat} {Y : List α} (h : own tm g' T i P) (E : Ext g g') (hY : g.ll T = some (c,Y)) (hi : i <= Y.length) : own tm g T i P := by
 obtain ⟨c',Y',e,h1,h2,h3,h4,h5,h6⟩ := h;obtain ⟨Y'',h7,h8⟩ := E.ll _ _ _ hY;rw [h1] at h7;injection h7 with h7;obtain ⟨rfl,rfl⟩ := Prod.mk.inj h7;refine ⟨c',Y,e,hY,h2,hi,by rw [<- h4,take_pre_take h8 i hi],?_,h6⟩;obtain ⟨Z,rfl⟩ := h8;rw [List.getElem?_append_left (by omega)] at h5;exact h5
theorem own.ext {T : Int} {i : Nat} {P : List α} (h : own tm g T i P) (E : Ext g g') : own tm g' T i P := by
 obtain ⟨c,Y,e,h1,h2,h3,h4,h5,h6⟩ := h;obtain ⟨Y',h7,h8⟩ := E.ll _ _ _ h1;exact ⟨c,Y',e,h7,h2,Nat.le_trans h3 h8.length_le,by rw [<- h4,take_pre_take h8 i h3],pre_get h8 h5,h6⟩
theorem VR.ext {a : Nat} {T : Int} {X : List α} (h : VR tm g a T X) (I : Inv tm n g) (E : Ext g g') (ha : ∀ T0,T0 < T -> g'.ack a T0 = g.ack a T0) : VR tm g' a T X := fun T0 i P h1 h2 h3 => by
 rw [ha T0 h1] at h2
 have hpos : 0 < g.ack a T0 := by obtain ⟨_,_,_,_,hi,_⟩ := h3; omega
 obtain ⟨_,c,Y,hY,hl⟩ := I.ak a T0 hpos;rcases h T0 i P h1 h2 (h3.old E hY (Nat.le_trans h2 hl)) with h | h
 · exact .inl h
 · exact .inr (h.ext E fun _ h => h)
theorem qcK {a : Nat} (I : Inv tm n g) (E : Ext g g') (hl : g'.log a = g.log a) (ht : g.term a <= g'.term a) {T0 : Int} {i : Nat} {P : List α} (hi : i <= g.ack a T0) (ho : own tm g' T0 i P) : P <+: g'.log a \/ lacks g' T0 (· <= g'.term a) P := by
 have hpos : 0 < g.ack a T0 := by obtain ⟨_,_,_,_,hi,_⟩ := ho; omega
 obtain ⟨_,c,Y,hY,hlen⟩ := I.ak a T0 hpos;rcases I.rt a T0 i P hi (ho.old E hY (Nat.le_trans hi hlen)) with h | h
 · exact .inl (by rw [hl]; exact h)
 · exact .inr (h.ext E fun _ h => Int.le_trans h ht)
theorem qjX (I : Inv tm n g) {T0 : Int} {i : Nat} {P : List α} (ho : own tm g T0 i P) (q : Nat -> Bool) (hq : maj n q) (ha : ∀ a,q a = true -> i <= g.ack a T0) :
 ∀ (d : Nat) (T : Int) (c : Nat) (X Y : List α),T0 < T -> (T - T0).toNat <= d -> g.ll T = some (c,Y) -> g.cl c T = some X -> P <+: X := by
 intro d
 induction d with
 | zero => intro T c X Y h1 h2; omega
 | succ d ih =>
   intro T c X Y h1 h2 hll hcl;obtain ⟨q',hq',hv⟩ := I.el T c Y X hll hcl;obtain ⟨a,_,h3,h4⟩ := maj_meet hq hq';rcases (hv a h4).2 T0 i P h1 (ha a h3) ho with h | ⟨T1,c1,X1,Y1,k1,k2,k3,k4,k5⟩
   · exact h
   · exact absurd (ih T1 c1 X1 Y1 k1 (by have : T1 < T := k2; omega) k3 k4) k5
theorem complete_ll (I : Inv tm n g) {T0 : Int} {i : Nat} {P : List α} (ho : own tm g T0 i P) (q : Nat -> Bool) (hq : maj n q) (ha : ∀ a,q a = true -> i <= g.ack a T0) {T : Int} {c : Nat} {Y : List α} (hT : T0 <= T) (hll : g.ll T = some (c,Y)) : P <+: Y := by
 rcases Int.lt_or_eq_of_le hT with h | rfl
 · obtain ⟨_,_,_,X,Z,h1,h2,_⟩ := I.cll T c Y hll;have := qjX I ho q hq ha (T - T0).toNat T c X Y h (Nat.le_refl _) hll h1;rw [h2];exact this.trans (List.prefix_append _ _)
 · obtain ⟨c',Y',e,h1,h2,h3,h4,_⟩ := ho;rw [hll] at h1;injection h1 with h1;obtain ⟨rfl,rfl⟩ := Prod.mk.inj h1;rw [<- h4];exact List.take_prefix _ _
theorem Coh.match_ {X X' : List α} (h : Coh tm g X) (h' : Coh tm g X') {j : Nat} {e e' : α} (hj : X[j]? = some e) (hj' : X'[j]? = some e') (ht : tm e = tm e') : X.take (j + 1) = X'.take (j + 1) := by
 obtain ⟨c,Y,h1,h2⟩ := h j e hj;obtain ⟨c',Y',h1',h2'⟩ := h' j e' hj';rw [ht,h1'] at h1;injection h1 with h1;obtain ⟨rfl,rfl⟩ := Prod.mk.inj h1;have l1 := (List.getElem?_eq_some_iff.1 hj).1;have l2 := (List.getElem?_eq_some_iff.1 hj').1;rw [pre_take h2,pre_take h2']
 congr 1
 simp;omega
theorem newer (I : Inv tm n g) {L X P : List α} {T T0 : Int} {e x : α} (hL : Coh tm g L) (hs : L.Pairwise fun x y => tm x <= tm y) (hX : Coh tm g X) (hx : ∀ e ∈ X,tm e < T) (hP : P <+: L) {p : α} (hp : P[P.length - 1]? = some p) (hpt : tm p = T0)
 (he : L[L.length - 1]? = some e) (hxl : X[X.length - 1]? = some x) (hn : tm e < tm x \/ tm x = tm e /\ L.length <= X.length) : P <+: X \/ lacks g T0 (· < T) P := by
 have hLl := (List.getElem?_eq_some_iff.1 he).1;have hXl := (List.getElem?_eq_some_iff.1 hxl).1;have hPl := (List.getElem?_eq_some_iff.1 hp).1
 have hpe : T0 <= tm e := by
  have h1 := pre_get hP hp;obtain ⟨h2,h3⟩ := List.getElem?_eq_some_iff.1 h1;obtain ⟨h4,h5⟩ := List.getElem?_eq_some_iff.1 he;rw [<- hpt,<- h3,<- h5];rcases Nat.lt_or_eq_of_le (show P.length - 1 <= L.length - 1 by have := hP.length_le; omega) with h | h
  · exact List.pairwise_iff_getElem.1 hs _ _ h2 h4 h
  · simp [h]
 rcases hn with hn | ⟨hn,hlen⟩
 · obtain ⟨c,Y,h1,h2⟩ := hX _ x hxl;obtain ⟨_,_,_,X1,Z,k1,k2,k3,k4⟩ := I.cll _ c Y h1
   have hXY : X <+: Y := by
    have : X.take (X.length - 1 + 1) = X := by rw [Nat.sub_add_cancel (by omega)]; exact List.take_length
    rwa [this] at h2
   by_cases hb : P <+: X1
   · left
     refine hb.trans ?_
     have hlt : X1.length < X.length := by
      apply Classical.byContradiction
      intro hge;have : X <+: X1 := List.prefix_of_prefix_length_le hXY (by rw [k2]; exact List.prefix_append _ _) (by omega);have := pre_get this hxl;obtain ⟨h5,h6⟩ := List.getElem?_eq_some_iff.1 this;have h7 := (I.ccl c _ X1 k1).2.2.2 _ (List.getElem_mem h5);rw [h6] at h7;omega
     exact List.prefix_of_prefix_length_le (by rw [k2]; exact List.prefix_append _ _) hXY (by omega)
   · right
     exact ⟨tm x,c,X1,Y,by omega,hx x (by obtain ⟨h5,h6⟩ := List.getElem?_eq_some_iff.1 hxl; rw [<- h6]; exact List.getElem_mem h5),h1,k1,hb⟩
 · left
   obtain ⟨c,Y,h1,h2⟩ := hX _ x hxl;obtain ⟨c',Y',h1',h2'⟩ := hL _ e he;rw [hn,h1'] at h1;injection h1 with h1;obtain ⟨rfl,rfl⟩ := Prod.mk.inj h1
   have t1 : X.take (X.length - 1 + 1) = X := by rw [Nat.sub_add_cancel (by omega)]; exact List.take_length
   have t2 : L.take (L.length - 1 + 1) = L := by rw [Nat.sub_add_cancel (by omega)]; exact List.take_length
   rw [t1] at h2;rw [t2] at h2';exact hP.trans (List.prefix_of_prefix_length_le h2' h2 hlen)
def upd {β : Type} (f : Nat -> β) (a : Nat) (v : β) : Nat -> β := fun x => if x = a then v else f x
theorem upd_same {β : Type} (f : Nat -> β) (a : Nat) (v : β) : upd f a v a = v := by simp [upd]
theorem upd_other {β : Type} (f : Nat -> β) {a x : Nat} (v : β) (h : x ≠ a) : upd f a v x = f x := by simp [upd,h]
def bump (g : G α) (a : Nat) (T : Int) : G α := { g with term := upd g.term a T }
theorem bump_le (g : G α) (a : Nat) {T : Int} (h : g.term a <= T) (b : Nat) : g.term b <= (bump g a T).term b := by
 by_cases hb : b = a
 · subst hb; simp [bump,upd_same,h]
 · simp [bump,upd_other _ _ hb]
theorem Inv.bump (I : Inv tm n g) {a : Nat} {T : Int} (h : g.term a <= T) : Inv tm n (bump g a T) := by
 have E : Ext g (RafCore.bump g a T) := ⟨fun T c Y h => ⟨Y,h,List.prefix_refl _⟩,fun _ _ _ h => h⟩;have hle := bump_le g a h
 exact {
  sl := I.sl
  tl := fun b e he => Int.le_trans (I.tl b e he) (hle b)
  co := fun b => (I.co b).ext E
  ccl := fun c T1 X hX => ⟨Int.le_trans (I.ccl c T1 X hX).1 (hle c),(I.ccl c T1 X hX).2.1.ext E,(I.ccl c T1 X hX).2.2⟩
  cll := fun T1 c Y hY => ⟨Int.le_trans (I.cll T1 c Y hY).1 (hle c),(I.cll T1 c Y hY).2.1.ext E,(I.cll T1 c Y hY).2.2⟩
  vt := fun b T1 c hv => ⟨Int.le_trans (I.vt b T1 c hv).1 (hle b),by
   obtain ⟨X,h1,h2⟩ := (I.vt b T1 c hv).2
   exact ⟨X,h1,fun hn => (h2 hn).ext I E fun _ _ => rfl⟩⟩
  el := fun T1 c Y X hY hX => by
   obtain ⟨q,h1,h2⟩ := I.el T1 c Y X hY hX;exact ⟨q,h1,fun b hb => ⟨(h2 b hb).1,(h2 b hb).2.ext I E fun _ _ => rfl⟩⟩
  ak := fun b T1 hb => ⟨Int.le_trans (I.ak b T1 hb).1 (hle b),(I.ak b T1 hb).2⟩
  rt := fun b T0 i P hi ho => qcK I E rfl (hle b) hi ho }
def campaign (g : G α) (c : Nat) (T : Int) : G α :=
 { g with term := upd g.term c T,voted := fun a t => if a = c /\ t = T then some c else g.voted a t,cl := fun a t => if a = c /\ t = T then some (g.log c) else g.cl a t }
theorem Inv.campaign (I : Inv tm n g) {c : Nat} {T : Int} (h : g.term c < T) : Inv tm n (campaign g c T) := by
 have hle : ∀ b,g.term b <= (RafCore.campaign g c T).term b := bump_le g c (Int.le_of_lt h);have hc : (RafCore.campaign g c T).term c = T := upd_same _ _ _
 have hcl : ∀ a t X,g.cl a t = some X -> (RafCore.campaign g c T).cl a t = some X := fun a t X hX => by
  show (if a = c /\ t = T then _ else _) = _;rw [if_neg ?_,hX];rintro ⟨rfl,rfl⟩;have := (I.ccl _ _ _ hX).1;omega
 have hvo : ∀ a t b,g.voted a t = some b -> (RafCore.campaign g c T).voted a t = some b := fun a t b hv => by
  show (if a = c /\ t = T then _ else _) = _;rw [if_neg ?_,hv];rintro ⟨rfl,rfl⟩;have := (I.vt _ _ _ hv).1;omega
 have E : Ext g (RafCore.campaign g c T) := ⟨fun T c Y h => ⟨Y,h,List.prefix_refl _⟩,hcl⟩
 exact {
  sl := I.sl
  tl := fun b e he => Int.le_trans (I.tl b e he) (hle b)
  co := fun b => (I.co b).ext E
  ccl := fun a t X hX => by
   have hX' : (if a = c /\ t = T then some (g.log c) else g.cl a t) = some X := hX;clear hX
   split at hX'
   · rename_i hq;obtain ⟨rfl,rfl⟩ := hq;injection hX' with hX';subst hX';exact ⟨Int.le_of_eq hc.symm,(I.co a).ext E,I.sl a,fun e he => Int.lt_of_le_of_lt (I.tl a e he) h⟩
   · exact ⟨Int.le_trans (I.ccl a t X hX').1 (hle a),(I.ccl a t X hX').2.1.ext E,(I.ccl a t X hX').2.2⟩
  cll := fun T1 c1 Y hY => by
   obtain ⟨h1,h2,h3,X,Z,h4,h5⟩ := I.cll T1 c1 Y hY;exact ⟨Int.le_trans h1 (hle c1),h2.ext E,h3,X,Z,hcl _ _ _ h4,h5⟩
  vt := fun a t b hv => by
   have hv' : (if a = c /\ t = T then some c else g.voted a t) = some b := hv
   split at hv'
   · rename_i hq;obtain ⟨rfl,rfl⟩ := hq;injection hv' with hv';subst hv';refine ⟨Int.le_of_eq hc.symm,g.log a,by show (if a = a /\ t = t then _ else _) = _; simp,fun hn T0 i P h1 h2 h3 => ?_⟩;rcases I.rt a T0 i P h2 h3 with h4 | h4
     · exact .inl h4
     · exact .inr (h4.ext E fun T1 h5 => Int.lt_of_le_of_lt h5 h)
   · obtain ⟨h1,X,h2,h3⟩ := I.vt a t b hv';exact ⟨Int.le_trans h1 (hle a),X,hcl _ _ _ h2,fun hn => (h3 hn).ext I E fun _ _ => rfl⟩
  el := fun T1 c1 Y X hY hX => by
   obtain ⟨_,_,_,X',_,h4,_⟩ := I.cll T1 c1 Y hY;have h5 := hcl _ _ _ h4;rw [hX] at h5;injection h5 with h5;subst h5;obtain ⟨q,h1,h2⟩ := I.el T1 c1 Y X hY h4;exact ⟨q,h1,fun b hb => ⟨hvo _ _ _ (h2 b hb).1,(h2 b hb).2.ext I E fun _ _ => rfl⟩⟩
  ak := fun b T1 hb => ⟨Int.le_trans (I.ak b T1 hb).1 (hle b),(I.ak b T1 hb).2⟩
  rt := fun b T0 i P hi ho => qcK I E rfl (hle b) hi ho }
def asNew (tm : α -> Int) (X L : List α) : Prop := L = [] \/ ∃ e x,L[L.length - 1]? = some e /\ X[X.length - 1]? = some x /\ (tm e < tm x \/ tm x = tm e /\ L.length <= X.length)
def vote (g : G α) (a c : Nat) (T : Int) : G α := { g with voted := fun b t => if b = a /\ t = T then some c else g.voted b t }
theorem Inv.vote (I : Inv tm n g) {a c : Nat} {T : Int} {X : List α} (ht : g.term a = T) (hv : g.voted a T = none) (hX : g.cl c T = some X) (hn : asNew tm X (g.log a)) : Inv tm n (vote g a c T) := by
 have E : Ext g (RafCore.vote g a c T) := ⟨fun T c Y h => ⟨Y,h,List.prefix_refl _⟩,fun _ _ _ h => h⟩
 have hvo : ∀ b t d,g.voted b t = some d -> (RafCore.vote g a c T).voted b t = some d := fun b t d h => by
  show (if b = a /\ t = T then _ else _) = _;rw [if_neg ?_,h];rintro ⟨rfl,rfl⟩;rw [hv] at h;cases h
 exact {
  sl := I.sl
  tl := I.tl
  co := fun b => (I.co b).ext E
  ccl := fun c T1 X hX => ⟨(I.ccl c T1 X hX).1,(I.ccl c T1 X hX).2.1.ext E,(I.ccl c T1 X hX).2.2⟩
  cll := fun T1 c Y hY => ⟨(I.cll T1 c Y hY).1,(I.cll T1 c Y hY).2.1.ext E,(I.cll T1 c Y hY).2.2⟩
  vt := fun b t d hb => by
   have hb' : (if b = a /\ t = T then some c else g.voted b t) = some d := hb
   split at hb'
   · rename_i hq;obtain ⟨rfl,rfl⟩ := hq;injection hb' with hb';subst hb';refine ⟨Int.le_of_eq ht.symm,X,hX,fun hno T0 i P h1 h2 h3 => ?_⟩;have h3 : own tm g T0 i P := h3;rcases I.rt b T0 i P h2 h3 with h4 | ⟨T1,c1,X1,Y1,k1,k2,k3,k4,k5⟩
     · obtain ⟨c0,Y0,e0,o1,o2,o3,o4,o5,o6⟩ := h3
       have hPl : P.length = i := by rw [<- o4]; simp; omega
       have hp : P[P.length - 1]? = some e0 := by rw [hPl,<- o4,List.getElem?_take_of_lt (by omega)]; exact o5
       rcases hn with hn | ⟨e,x,n1,n2,n3⟩
       · rw [hn] at h4;have := h4.length_le;rw [List.length_nil] at this;omega
       · rcases newer I (I.co b) (I.sl b) (I.ccl c t X hX).2.1 (I.ccl c t X hX).2.2.2 h4 hp o6 n1 n2 n3 with h5 | h5
         · exact .inl h5
         · exact .inr (h5.ext E fun _ h => h)
     · right
       rcases Int.lt_or_eq_of_le (show T1 <= t by have : T1 <= g.term b := k2; omega) with h | h
       · exact ⟨T1,c1,X1,Y1,k1,h,k3,k4,k5⟩
       · subst h;have hno : g.ll T1 = none := hno;rw [k3] at hno;cases hno
   · obtain ⟨h1,X',h2,h3⟩ := I.vt b t d hb';exact ⟨h1,X',h2,fun hn => (h3 hn).ext I E fun _ _ => rfl⟩
  el := fun T1 c1 Y X hY hX => by
   obtain ⟨q,h1,h2⟩ := I.el T1 c1 Y X hY hX;exact ⟨q,h1,fun b hb => ⟨hvo _ _ _ (h2 b hb).1,(h2 b hb).2.ext I E fun _ _ => rfl⟩⟩
  ak := I.ak
  rt := fun b T0 i P hi ho => qcK I E rfl (Int.le_refl _) hi ho }
def push (g : G α) (c : Nat) (T : Int) (e : α) : G α :=
 { g with ll := fun t => if t = T then some (c,g.log c ++ [e]) else g.ll t,log := upd g.log c (g.log c ++ [e]),ack := fun a t => if a = c /\ t = T then (g.log c).length + 1 else g.ack a t }
theorem Inv.push (I : Inv tm n g) {c : Nat} {T : Int} {e : α} (ht : g.term c = T) (he : tm e = T)
 (hcase : (g.ll T = none /\ g.cl c T = some (g.log c) /\ ∃ q,maj n q /\ ∀ a,q a = true -> g.voted a T = some c) \/ g.ll T = some (c,g.log c)) : Inv tm n (push g c T e) := by
 have hllT : (RafCore.push g c T e).ll T = some (c,g.log c ++ [e]) := by show (if T = T then _ else _) = _; simp
 have hllo : ∀ t,t ≠ T -> (RafCore.push g c T e).ll t = g.ll t := fun t h => by show (if t = T then _ else _) = _; rw [if_neg h]
 have E : Ext g (RafCore.push g c T e) := ⟨fun t d Y hY => by
  by_cases h : t = T
  · subst h;rcases hcase with ⟨h1,_⟩ | h1
    · rw [h1] at hY; cases hY
    · rw [h1] at hY;injection hY with hY;obtain ⟨rfl,rfl⟩ := Prod.mk.inj hY;exact ⟨_,hllT,List.prefix_append _ _⟩
  · exact ⟨Y,by rw [hllo t h]; exact hY,List.prefix_refl _⟩,fun _ _ _ h => h⟩
 have hlc : (RafCore.push g c T e).log c = g.log c ++ [e] := upd_same _ _ _
 have hlo : ∀ b,b ≠ c -> (RafCore.push g c T e).log b = g.log b := fun b hb => upd_other _ _ hb
 have hak : ∀ a t,¬ (a = c /\ t = T) -> (RafCore.push g c T e).ack a t = g.ack a t := fun a t h => by show (if a = c /\ t = T then _ else _) = _; rw [if_neg h]
 have hakc : (RafCore.push g c T e).ack c T = (g.log c).length + 1 := by show (if c = c /\ T = T then _ else _) = _; simp
 have hcoh : Coh tm (RafCore.push g c T e) (g.log c ++ [e]) := fun j x hj => by
  by_cases hjl : j < (g.log c).length
  · rw [List.getElem?_append_left hjl] at hj;obtain ⟨d,Y,h1,h2⟩ := ((I.co c).ext E) j x hj;exact ⟨d,Y,h1,by rw [List.take_append_of_le_length (by omega)]; exact h2⟩
  · have hl := (List.getElem?_eq_some_iff.1 hj).1;rw [List.length_append,List.length_singleton] at hl
    obtain rfl : j = (g.log c).length := by omega
    simp at hj;subst hj;rw [he];exact ⟨c,_,hllT,by rw [List.take_of_length_le (by simp)]; exact List.prefix_refl _⟩
 have hsort : (g.log c ++ [e]).Pairwise fun x y => tm x <= tm y := by
  rw [List.pairwise_append];refine ⟨I.sl c,by simp,fun x hx y hy => ?_⟩
  obtain rfl : y = e := by simpa using hy
  have := I.tl c x hx;omega
 have hvr : ∀ a t X,g.voted a t = some c \/ t <= g.term a -> VR tm g a t X -> VR tm (RafCore.push g c T e) a t X := fun a t X hv h => by
  refine h.ext I E fun T0 h0 => hak a T0 ?_;rintro ⟨rfl,rfl⟩
  have : t <= g.term a := by
   rcases hv with hv | hv
   · exact (I.vt _ _ _ hv).1
   · exact hv
  omega
 exact {
  sl := fun b => by
   by_cases hb : b = c
   · subst hb; rw [hlc]; exact hsort
   · rw [hlo b hb]; exact I.sl b
  tl := fun b x hx => by
   by_cases hb : b = c
   · subst hb;rw [hlc] at hx;rcases List.mem_append.1 hx with hx | hx
     · exact I.tl b x hx
     · obtain rfl : x = e := by simpa using hx
       show tm x <= g.term b;omega
   · rw [hlo b hb] at hx; exact I.tl b x hx
  co := fun b => by
   by_cases hb : b = c
   · subst hb; rw [hlc]; exact hcoh
   · rw [hlo b hb]; exact (I.co b).ext E
  ccl := fun d T1 X hX => ⟨(I.ccl d T1 X hX).1,(I.ccl d T1 X hX).2.1.ext E,(I.ccl d T1 X hX).2.2⟩
  cll := fun T1 d Y hY => by
   by_cases h : T1 = T
   · subst h;rw [hllT] at hY;injection hY with hY;obtain ⟨rfl,rfl⟩ := Prod.mk.inj hY;refine ⟨Int.le_of_eq ht.symm,hcoh,hsort,?_⟩;rcases hcase with ⟨_,h2,_⟩ | h2
     · exact ⟨g.log c,[e],h2,rfl,by simp,by simpa using he⟩
     · obtain ⟨_,_,_,X,Z,k1,k2,k3,k4⟩ := I.cll _ _ _ h2;refine ⟨X,Z ++ [e],k1,by rw [k2,List.append_assoc],by simp,fun x hx => ?_⟩;rcases List.mem_append.1 hx with hx | hx
       · exact k4 x hx
       · obtain rfl : x = e := by simpa using hx
         exact he
   · rw [hllo T1 h] at hY;exact ⟨(I.cll T1 d Y hY).1,(I.cll T1 d Y hY).2.1.ext E,(I.cll T1 d Y hY).2.2⟩
  vt := fun a t d hv => by
   obtain ⟨h1,X,h2,h3⟩ := I.vt a t d hv;refine ⟨h1,X,h2,fun hn => hvr a t X (.inr h1) (h3 ?_)⟩
   by_cases h : t = T
   · subst h; rw [hllT] at hn; cases hn
   · rwa [hllo t h] at hn
  el := fun T1 d Y X hY hX => by
   by_cases h : T1 = T
   · subst h;rw [hllT] at hY;injection hY with hY;obtain ⟨rfl,rfl⟩ := Prod.mk.inj hY;rcases hcase with ⟨h1,h2,q,h3,h4⟩ | h2
     · have hX' : g.cl c T1 = some X := hX;rw [h2] at hX';injection hX' with hX';subst hX';refine ⟨q,h3,fun a ha => ⟨h4 a ha,?_⟩⟩;obtain ⟨k1,X',k2,k3⟩ := I.vt a T1 c (h4 a ha);rw [h2] at k2;injection k2 with k2;subst k2;exact hvr a T1 _ (.inr k1) (k3 h1)
     · obtain ⟨q,k1,k2⟩ := I.el T1 c _ X h2 hX;exact ⟨q,k1,fun a ha => ⟨(k2 a ha).1,hvr a T1 X (.inr (I.vt _ _ _ (k2 a ha).1).1) (k2 a ha).2⟩⟩
   · rw [hllo T1 h] at hY;obtain ⟨q,k1,k2⟩ := I.el T1 d Y X hY hX;exact ⟨q,k1,fun a ha => ⟨(k2 a ha).1,hvr a T1 X (.inr (I.vt _ _ _ (k2 a ha).1).1) (k2 a ha).2⟩⟩
  ak := fun a t ha => by
   by_cases h : a = c /\ t = T
   · obtain ⟨rfl,rfl⟩ := h;exact ⟨Int.le_of_eq ht.symm,a,_,hllT,by rw [hakc]; simp⟩
   · rw [hak a t h] at ha ⊢;obtain ⟨h1,d,Y,h2,h3⟩ := I.ak a t ha;obtain ⟨Y',h4,h5⟩ := E.ll _ _ _ h2;exact ⟨h1,d,Y',h4,Nat.le_trans h3 h5.length_le⟩
  rt := fun a T0 i P hi ho => by
   by_cases h : a = c /\ T0 = T
   · obtain ⟨rfl,rfl⟩ := h;obtain ⟨d,Y,x,o1,o2,o3,o4,_⟩ := ho;rw [hllT] at o1;injection o1 with o1;obtain ⟨rfl,rfl⟩ := Prod.mk.inj o1
     left
     rw [hlc,<- o4];exact List.take_prefix _ _
   · rw [hak a T0 h] at hi
     by_cases hac : a = c
     · subst hac
       have hpos : 0 < g.ack a T0 := by obtain ⟨_,_,_,_,h2,_⟩ := ho; omega
       obtain ⟨_,d,Y,hY,hlen⟩ := I.ak a T0 hpos;rcases I.rt a T0 i P hi (ho.old E hY (Nat.le_trans hi hlen)) with h1 | h1
       · left; rw [hlc]; exact h1.trans (List.prefix_append _ _)
       · exact .inr (h1.ext E fun _ h => h)
     · exact qcK I E (hlo a hac) (Int.le_refl _) hi ho }
noncomputable def accept (g : G α) (a : Nat) (T : Int) (Y : List α) (m : Nat) : G α :=
 { g with log := upd g.log a (@ite _ (Y.take m <+: g.log a) (Classical.propDecidable _) (g.log a) (Y.take m)),ack := fun b t => if b = a /\ t = T then max (g.ack a T) m else g.ack b t }
theorem Inv.accept (I : Inv tm n g) {a c : Nat} {T : Int} {Y : List α} {m : Nat} (ht : g.term a = T) (hll : g.ll T = some (c,Y)) (hm : m <= Y.length) : Inv tm n (accept g a T Y m) := by
 have E : Ext g (RafCore.accept g a T Y m) := ⟨fun T c Y h => ⟨Y,h,List.prefix_refl _⟩,fun _ _ _ h => h⟩;obtain ⟨_,hYc,hYs,X,Z,hXc,hXZ,hZn,hZt⟩ := I.cll T c Y hll
 have hlo : ∀ b,b ≠ a -> (RafCore.accept g a T Y m).log b = g.log b := fun b hb => upd_other _ _ hb
 have hla : ((RafCore.accept g a T Y m).log a = g.log a /\ Y.take m <+: g.log a) \/ ((RafCore.accept g a T Y m).log a = Y.take m /\ ¬ Y.take m <+: g.log a) := by
  have : (RafCore.accept g a T Y m).log a = @ite _ (Y.take m <+: g.log a) (Classical.propDecidable _) (g.log a) (Y.take m) := upd_same _ _ _;rw [this]
  by_cases h : Y.take m <+: g.log a
  · exact .inl ⟨if_pos h,h⟩
  · exact .inr ⟨if_neg h,h⟩
 have hak : ∀ b t,¬ (b = a /\ t = T) -> (RafCore.accept g a T Y m).ack b t = g.ack b t := fun b t h => by show (if b = a /\ t = T then _ else _) = _; rw [if_neg h]
 have haka : (RafCore.accept g a T Y m).ack a T = max (g.ack a T) m := by show (if a = a /\ T = T then _ else _) = _; simp
 have hvr : ∀ b t X,t <= g.term b -> VR tm g b t X -> VR tm (RafCore.accept g a T Y m) b t X := fun b t X hv h => by
  refine h.ext I E fun T0 h0 => hak b T0 ?_;rintro ⟨rfl,rfl⟩;omega
 exact {
  sl := fun b => by
   by_cases hb : b = a
   · subst hb;rcases hla with ⟨h,_⟩ | ⟨h,_⟩
     · rw [h]; exact I.sl b
     · rw [h]; exact hYs.sublist (List.take_sublist _ _)
   · rw [hlo b hb]; exact I.sl b
  tl := fun b x hx => by
   by_cases hb : b = a
   · subst hb;rcases hla with ⟨h,_⟩ | ⟨h,_⟩
     · rw [h] at hx; exact I.tl b x hx
     · rw [h] at hx;have hx := List.mem_of_mem_take hx;rw [hXZ] at hx;show tm x <= g.term b;rcases List.mem_append.1 hx with hx | hx
       · have := (I.ccl c T X hXc).2.2.2 x hx; omega
       · have := hZt x hx; omega
   · rw [hlo b hb] at hx; exact I.tl b x hx
  co := fun b => by
   by_cases hb : b = a
   · subst hb;rcases hla with ⟨h,_⟩ | ⟨h,_⟩
     · rw [h]; exact (I.co b).ext E
     · rw [h]; exact (hYc.pre (List.take_prefix _ _)).ext E
   · rw [hlo b hb]; exact (I.co b).ext E
  ccl := fun d T1 X hX => ⟨(I.ccl d T1 X hX).1,(I.ccl d T1 X hX).2.1.ext E,(I.ccl d T1 X hX).2.2⟩
  cll := fun T1 d Y hY => ⟨(I.cll T1 d Y hY).1,(I.cll T1 d Y hY).2.1.ext E,(I.cll T1 d Y hY).2.2⟩
  vt := fun b t d hv => by
   obtain ⟨h1,X,h2,h3⟩ := I.vt b t d hv;exact ⟨h1,X,h2,fun hn => hvr b t X h1 (h3 hn)⟩
  el := fun T1 d Y X hY hX => by
   obtain ⟨q,k1,k2⟩ := I.el T1 d Y X hY hX;exact ⟨q,k1,fun b hb => ⟨(k2 b hb).1,hvr b T1 X (I.vt _ _ _ (k2 b hb).1).1 (k2 b hb).2⟩⟩
  ak := fun b t hb => by
   by_cases h : b = a /\ t = T
   · obtain ⟨rfl,rfl⟩ := h;refine ⟨Int.le_of_eq ht.symm,c,Y,hll,?_⟩;rw [haka]
     by_cases h0 : 0 < g.ack b t
     · obtain ⟨_,d,Y',h2,h3⟩ := I.ak b t h0;rw [hll] at h2;injection h2 with h2;obtain ⟨rfl,rfl⟩ := Prod.mk.inj h2;omega
     · omega
   · rw [hak b t h] at hb ⊢; exact I.ak b t hb
  rt := fun b T0 i P hi ho => by
   have ho : own tm g T0 i P := ho
   by_cases hb : b = a
   · subst hb
     by_cases h : T0 = T
     · subst h;rw [haka] at hi;obtain ⟨d,Y',x,o1,o2,o3,o4,o5,o6⟩ := ho;have o1' : g.ll T0 = some (d,Y') := o1;rw [hll] at o1';injection o1' with o1';obtain ⟨rfl,rfl⟩ := Prod.mk.inj o1'
       left
       by_cases him : i <= m
       · have h1 : P <+: Y.take m := by rw [<- o4]; exact take_mono Y him
         rcases hla with ⟨h,h2⟩ | ⟨h,_⟩
         · rw [h]; exact h1.trans h2
         · rw [h]; exact h1
       · have hP : P <+: g.log b := by
          rcases I.rt b T0 i P (by omega) ⟨c,Y,x,o1,o2,o3,o4,o5,o6⟩ with h | ⟨T1,_,_,_,k1,k2,_⟩
          · exact h
          · have : T1 <= g.term b := k2;omega
         rcases hla with ⟨h,_⟩ | ⟨_,h2⟩
         · rw [h]; exact hP
         · exact absurd ((show Y.take m <+: P by rw [<- o4]; exact take_mono Y (by omega)).trans hP) h2
     · rw [hak b T0 (fun hh => h hh.2)] at hi
       have hpos : 0 < g.ack b T0 := by obtain ⟨_,_,_,_,h2,_⟩ := ho; omega
       have hT0 := (I.ak b T0 hpos).1;rcases I.rt b T0 i P hi ho with h1 | h1
       · rcases hla with ⟨h2,_⟩ | ⟨h2,h3⟩
         · left; rw [h2]; exact h1
         · by_cases hPX : P <+: X
           · left
             have hPY : P <+: Y := by rw [hXZ]; exact hPX.trans (List.prefix_append _ _)
             rw [h2]
             by_cases hlen : m <= P.length
             · have h4 : Y.take m <+: P := List.prefix_of_prefix_length_le (List.take_prefix _ _) hPY (by simp; omega);exact absurd (h4.trans h1) h3
             · exact List.prefix_of_prefix_length_le hPY (List.take_prefix _ _) (by simp; omega)
           · right
             exact ⟨T,c,X,Y,by omega,Int.le_of_eq ht.symm,hll,hXc,hPX⟩
       · exact .inr (h1.ext E fun _ h => h)
   · rw [hak b T0 (fun hh => hb hh.1)] at hi
     exact qcK I E (hlo b hb) (Int.le_refl _) hi ho }
end
end Go.Proofs.YtmiijlecfiddmaaGreat.RafCore
