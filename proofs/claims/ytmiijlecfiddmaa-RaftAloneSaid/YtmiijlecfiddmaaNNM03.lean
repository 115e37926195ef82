/- Messages: which are right, which are alike. Plain mathematics. -/
import Derived.Test.YtmiijlecfiddmaaNNM02
import Derived.Test.YtmiijlecfiddmaaNNM01
set_option linter.unusedVariables false
set_option linter.unusedSimpArgs false
set_option maxRecDepth 100000
set_option maxHeartbeats 200000
namespace Go.Proofs.Ytmiijlecfiddmaa
structure Msg where
 k : Int
 f : Int
 o : Int
 t : Int
 i : Int
 l : Int
 c : Int
 x : Int
 b : Bool
 es : List Ent
 s : Ent
def Msg.zero : Msg := ⟨0,0,0,0,0,0,0,0,false,[],⟨0,0,[]⟩⟩
def numZ (n : Int) : Bool := decide (0 <= n) && decide (n <= 1099511627776)
def qef (k f o t : Int) : Bool := decide (1 <= k) && (decide (k <= 7) && (decide (0 <= f) && (decide (f <= 2) && (decide (0 <= o) && (decide (o <= 2) && (decide (f ≠ o) && decide (1 <= t)))))))
def qeg (k i l c x : Int) (b : Bool) (n : Nat) (si st : Int) (sn : Nat) : Bool :=
 (decide (k = 1 \/ k = 3 \/ k = 5 \/ k = 6) || decide (i = 0)) && ((decide (k = 1 \/ k = 3 \/ k = 5) || decide (l = 0)) && ((decide (k = 5) || (decide (c = 0) && decide (n = 0))) &&
   ((decide (k = 5 \/ k = 6) || decide (x = 0)) && ((decide (k = 2 \/ k = 4 \/ k = 6) || !b) && (decide (k = 7) || (decide (si = 0) && (decide (st = 0) && decide (sn = 0))))))))
def qeh (t i l c x : Int) : Bool := numZ t && (numZ i && (numZ l && (numZ c && numZ x)))
def qei (t : Int) (es : List Ent) : Bool := es.all fun e => decide (e.t <= t)
def qd7 (k : Int) (si st : Int) (sn : Nat) : Bool := decide (k ≠ 7) || (qG si st sn && decide (0 < si))
def qd8 (m : Msg) : Bool :=
 qef m.k m.f m.o m.t && ((qeh m.t m.i m.l m.c m.x && qeg m.k m.i m.l m.c m.x m.b m.es.length m.s.i m.s.t m.s.d.length) &&
  ((decide (m.es.length <= 4) && runB m.i m.l m.es) && (qei m.t m.es && qd7 m.k m.s.i m.s.t m.s.d.length)))
end Go.Proofs.Ytmiijlecfiddmaa
set_option linter.unusedVariables false
set_option linter.unusedSimpArgs false
set_option maxRecDepth 100000
set_option maxHeartbeats 200000
namespace Go.Proofs.Ytmiijlecfiddmaa
structure RL where
 i : Int
 t : Int
 l : List Ent
 f : Int
namespace RL
def base (i t : Int) : Bool := decide (0 <= i) && (decide (i <= 1099511627776) && (decide (0 <= t) && decide (t <= 1099511627776)))
def lastI (r : RL) : Int := match r.l.getLast? with | none => r.i | some e => e.i
def lastT (r : RL) : Int := match r.l.getLast? with | none => r.t | some e => e.t
def at_ (r : RL) (x : Int) : Option Int := if x = r.i then some r.t else (r.l.find? fun e => decide (e.i = x)).map Ent.t
def newer (r : RL) (i t : Int) : Bool := decide (r.lastT < t) || (decide (t = r.lastT) && decide (r.lastI <= i))
def fromL (r : RL) (x many : Int) : List Ent := if r.at_ x = none \/ x = r.i then [] else (r.l.filter fun e => decide (x <= e.i)).take many.toNat
def changed (r : RL) : List Ent := r.l.filter fun e => decide (0 < r.f) && decide (r.f <= e.i)
def mark (r : RL) (x : Int) : RL := if r.f = 0 \/ x < r.f then { r with f := x } else r
def add (r : RL) (t : Int) (d : List UInt8) : Option RL :=
 if runB r.lastI r.lastT [⟨r.lastI + 1,t,d⟩] = true then some (({ r with l := r.l ++ [⟨r.lastI + 1,t,d⟩] } : RL).mark (r.lastI + 1)) else none
def compact (r : RL) (x : Int) : Option RL := (r.at_ x).map fun t => ⟨x,t,r.l.filter fun e => decide (x < e.i),r.f⟩
end RL
theorem qcT {r : RL} (h : r.l = []) : r.lastI = r.i /\ r.lastT = r.t := by simp [RL.lastI,RL.lastT,h]
theorem qcU {r : RL} (h : 0 < r.l.length) : r.lastI = (r.l[r.l.length - 1]'(by omega)).i /\ r.lastT = (r.l[r.l.length - 1]'(by omega)).t := by
 have e : r.l.getLast? = some (r.l[r.l.length - 1]'(by omega)) := by rw [List.getLast?_eq_getElem?,List.getElem?_eq_getElem]
 simp [RL.lastI,RL.lastT,e]
theorem qcV {l : List Ent} {x : Int} {k : Nat} (hk : k < l.length) (h : ∀ j (hj : j < l.length),j < k -> l[j].i ≠ x) (he : l[k].i = x) : (l.find? fun e => decide (e.i = x)) = some l[k] := by
 have hs : l = l.take k ++ l[k] :: l.drop (k + 1) := by rw [<- List.drop_eq_getElem_cons hk,List.take_append_drop]
 have hn : ((l.take k).find? fun e => decide (e.i = x)) = none := by
  rw [List.find?_eq_none]
  intro e hmem
  obtain ⟨j,hj,rfl⟩ := List.getElem_of_mem hmem
  have hjk : j < k := by simp at hj; omega
  have := h j (by omega) hjk
  simpa [List.getElem_take] using this
 have hf : ((l.take k ++ l[k] :: l.drop (k + 1)).find? fun e => decide (e.i = x)) = some l[k] := by
  rw [List.find?_append,hn,List.find?_cons_of_pos (by simpa using he)]
  rfl
 rwa [<- hs] at hf
theorem qcW {l : List Ent} {x : Int} (h : ∀ j (hj : j < l.length),l[j].i ≠ x) : (l.find? fun e => decide (e.i = x)) = none := by
 rw [List.find?_eq_none]
 intro e hmem
 obtain ⟨j,hj,rfl⟩ := List.getElem_of_mem hmem
 simpa using h j hj
end Go.Proofs.Ytmiijlecfiddmaa
set_option linter.unusedVariables false
set_option linter.unusedSimpArgs false
set_option maxRecDepth 100000
set_option maxHeartbeats 200000
namespace Go.Proofs.Ytmiijlecfiddmaa
theorem qcz (i t : Int) (e : Ent) (l : List Ent) (k : Nat) : qK i t (e :: l) (k + 1) = qK e.i e.t l k := by
 unfold qK qM qJ
 rw [List.getElem?_cons_succ]
 cases l[k]? with
 | none => rfl
 | some x =>
   cases k with
   | zero => simp
   | succ k => simp
theorem qY (i t : Int) (e : Ent) (l : List Ent) : runB i t (e :: l) = ((qv e.i e.t e.d.length && (decide (t <= e.t) && decide (e.i = i + 1))) && runB e.i e.t l) := by
 unfold runB
 rw [List.length_cons,List.range_succ_eq_map,List.all_cons,List.all_map]
 congr 1
 apply congrArg
 funext k
 exact qcz i t e l k
theorem qbK (i t : Int) : runB i t [] = true := rfl
theorem qa0 {i t : Int} {e : Ent} {l : List Ent} (h : runB i t (e :: l) = true) : qv e.i e.t e.d.length = true /\ t <= e.t /\ e.i = i + 1 /\ runB e.i e.t l = true := by
 rw [qY] at h
 simp only [Bool.and_eq_true,decide_eq_true_eq] at h
 exact ⟨h.1.1,h.1.2.1,h.1.2.2,h.2⟩
def endI (i : Int) (l : List Ent) : Int := match l.getLast? with | none => i | some e => e.i
def endT (t : Int) (l : List Ent) : Int := match l.getLast? with | none => t | some e => e.t
theorem qbk (i : Int) (e : Ent) (l : List Ent) : endI i (e :: l) = endI e.i l := by
 unfold endI
 rw [List.getLast?_cons]
 cases l.getLast? <;> rfl
theorem qbl (t : Int) (e : Ent) (l : List Ent) : endT t (e :: l) = endT e.t l := by
 unfold endT
 rw [List.getLast?_cons]
 cases l.getLast? <;> rfl
theorem qcX (r : RL) : r.lastT = endT r.t r.l := rfl
theorem qan (a : List Ent) : ∀ (i t : Int) (b : List Ent),runB i t (a ++ b) = (runB i t a && runB (endI i a) (endT t a) b) := by
 induction a with
 | nil => intro i t b; rfl
 | cons e a ih =>
   intro i t b
   rw [List.cons_append,qY,qY,ih,qbk,qbl,Bool.and_assoc (_ && _)]
theorem qae {i t : Int} {l : List Ent} (h : runB i t l = true) (k : Nat) : runB i t (l.take k) = true /\ runB (endI i (l.take k)) (endT t (l.take k)) (l.drop k) = true := by
 rw [<- List.take_append_drop k l,qan,Bool.and_eq_true] at h
 exact h
theorem qaR {l : List Ent} : ∀ {i t : Int},runB i t l = true -> ∀ (k : Nat) (hk : k < l.length),l[k].i = i + 1 + k := by
 induction l with
 | nil => intro i t _ k hk; simp at hk
 | cons e l ih =>
   intro i t h k hk
   obtain ⟨_,_,h3,h4⟩ := qa0 h
   cases k with
   | zero => simpa using h3
   | succ k =>
     have := ih h4 k (by simpa using hk)
     simp only [List.getElem_cons_succ]
     omega
theorem qaf {l : List Ent} : ∀ {i t : Int},runB i t l = true -> ∀ e ∈ l,qv e.i e.t e.d.length = true := by
 induction l with
 | nil => intro i t _ e he; simp at he
 | cons x l ih =>
   intro i t h e he
   obtain ⟨h1,_,_,h4⟩ := qa0 h
   rcases List.mem_cons.1 he with rfl | he
   · exact h1
   · exact ih h4 e he
theorem run_end {l : List Ent} : ∀ {i t : Int},runB i t l = true -> endI i l = i + l.length /\ t <= endT t l := by
 induction l with
 | nil => intro i t _; simp [endI,endT]
 | cons e l ih =>
   intro i t h
   obtain ⟨_,h2,h3,h4⟩ := qa0 h
   obtain ⟨a,b⟩ := ih h4
   rw [qbk,qbl,List.length_cons]
   constructor <;> omega
theorem qdO {i t : Int} {l : List Ent} (h : runB i t l = true) (h0 : 0 < l.length) : 0 <= i /\ i + l.length <= 1099511627776 := by
 have a := qaR h 0 h0
 have b := qaR h (l.length - 1) (by omega)
 have c := (qw _ _ _).1 (qaf h _ (List.getElem_mem h0))
 have d := (qw _ _ _).1 (qaf h _ (List.getElem_mem (show l.length - 1 < l.length by omega)))
 omega
theorem qab (i t : Int) : RL.base i t = true ↔ (0 <= i /\ i <= 1099511627776) /\ 0 <= t /\ t <= 1099511627776 := by
 simp [RL.base,and_assoc]
def qN (i : Int) (l : List Ent) : Prop := ∀ (k : Nat) (hk : k < l.length),l[k].i = i + 1 + k
theorem qbL {i : Int} {e : Ent} {l : List Ent} (h : qN i (e :: l)) : e.i = i + 1 /\ qN (i + 1) l :=
 ⟨by have h0 : e.i = i + 1 + ((0 : Nat) : Int) := h 0 (by simp); omega,fun k hk => by have h0 : l[k].i = i + 1 + ((k + 1 : Nat) : Int) := h (k + 1) (by simpa using hk); omega⟩
theorem qag {l : List Ent} : ∀ {i : Int},qN i l -> ∀ x : Int,(l.filter fun e => decide (x <= e.i)) = l.drop (x - i - 1).toNat := by
 induction l with
 | nil => intro i _ x; simp
 | cons e l ih =>
   intro i h x
   obtain ⟨h1,h2⟩ := qbL h
   have := ih h2 x
   by_cases hx : x <= e.i
   · rw [List.filter_cons_of_pos (by simpa using hx),this,show (x - (i + 1) - 1).toNat = 0 by omega,show (x - i - 1).toNat = 0 by omega]
     rfl
   · rw [List.filter_cons_of_neg (by simpa using hx),this,show (x - i - 1).toNat = (x - (i + 1) - 1).toNat + 1 by omega]
     rfl
theorem qcY {l : List Ent} {i : Int} (h : qN i l) (x : Int) : (l.filter fun e => decide (x < e.i)) = l.drop (x - i).toNat := by
 have := qag h (x + 1)
 rw [show x + 1 - i - 1 = x - i by omega] at this
 rw [<- this]
 apply congrArg (fun p => List.filter p l)
 funext e
 apply decide_eq_decide.2
 omega
theorem filter_lt {l : List Ent} : ∀ {i : Int},qN i l -> ∀ x : Int,(l.filter fun e => decide (e.i < x)) = l.take (x - i - 1).toNat := by
 induction l with
 | nil => intro i _ x; simp
 | cons e l ih =>
   intro i h x
   obtain ⟨h1,h2⟩ := qbL h
   have := ih h2 x
   by_cases hx : e.i < x
   · rw [List.filter_cons_of_pos (by simpa using hx),this,show (x - i - 1).toNat = (x - (i + 1) - 1).toNat + 1 by omega]
     rfl
   · rw [List.filter_cons_of_neg (by simpa using hx),this,show (x - (i + 1) - 1).toNat = 0 by omega,show (x - i - 1).toNat = 0 by omega]
     rfl
structure Good (r : RL) : Prop where
 base : RL.base r.i r.t = true
 run : runB r.i r.t r.l = true
section
variable {r : RL}
theorem Good.one (h : Good r) : qN r.i r.l := fun k hk => qaR h.run k hk
theorem Good.lim (h : Good r) : 0 <= r.i /\ r.i + r.l.length <= 1099511627776 := by
 have hb := (qab _ _).1 h.base
 rcases Nat.eq_zero_or_pos r.l.length with h0 | h0
 · rw [h0]; omega
 · have := qdO h.run h0
   omega
theorem Good.lastI (h : Good r) : r.lastI = r.i + r.l.length := (run_end h.run).1
theorem Good.lastT (h : Good r) : 0 <= r.lastT := by
 have hb := (qab _ _).1 h.base
 have := (run_end h.run).2
 rw [qcX]
 omega
def RL.place (r : RL) (x : Int) : Option Nat := if r.i < x /\ x <= r.i + r.l.length then some (x - r.i - 1).toNat else none
theorem Good.at_ (h : Good r) (x : Int) : r.at_ x = if x = r.i then some r.t else (r.place x).bind fun k => r.l[k]?.map Ent.t := by
 unfold RL.at_
 by_cases hx : x = r.i
 · rw [if_pos hx,if_pos hx]
 · rw [if_neg hx,if_neg hx]
   unfold RL.place
   by_cases hp : r.i < x /\ x <= r.i + r.l.length
   · rw [if_pos hp]
     have hk : (x - r.i - 1).toNat < r.l.length := by omega
     have hf := qcV (l := r.l) (x := x) (k := (x - r.i - 1).toNat) hk (fun j hj hjk => by rw [h.one j hj]; omega) (by rw [h.one _ hk]; omega)
     rw [hf]
     simp only [Option.bind_some,List.getElem?_eq_getElem hk,Option.map_some]
   · rw [if_neg hp]
     have hf := qcW (l := r.l) (x := x) (fun j hj => by rw [h.one j hj]; omega)
     rw [hf]
     rfl
theorem Good.at_some (h : Good r) {x t : Int} (hs : r.at_ x = some t) : r.i <= x /\ x <= r.i + r.l.length /\ endI r.i (r.l.take (x - r.i).toNat) = x /\ endT r.t (r.l.take (x - r.i).toNat) = t := by
 rw [h.at_] at hs
 by_cases hx : x = r.i
 · rw [if_pos hx] at hs
   injection hs with hs
   subst hx
   have e : (r.i - r.i).toNat = 0 := by omega
   rw [e,List.take_zero]
   exact ⟨by omega,by omega,rfl,hs⟩
 · rw [if_neg hx] at hs
   unfold RL.place at hs
   by_cases hp : r.i < x /\ x <= r.i + r.l.length
   · rw [if_pos hp] at hs
     have hk : (x - r.i - 1).toNat < r.l.length := by omega
     have e : (x - r.i).toNat = (x - r.i - 1).toNat + 1 := by omega
     have hl : (r.l.take (x - r.i).toNat).getLast? = some r.l[(x - r.i - 1).toNat] := by
      rw [e,List.take_succ_eq_append_getElem hk,List.getLast?_append]
      rfl
     simp only [Option.bind_some,List.getElem?_eq_getElem hk,Option.map_some,Option.some.injEq] at hs
     refine ⟨by omega,hp.2,?_,?_⟩
     · unfold endI
       rw [hl]
       show r.l[(x - r.i - 1).toNat].i = x
       rw [h.one _ hk]
       omega
     · unfold endT
       rw [hl]
       exact hs
   · rw [if_neg hp] at hs
     cases hs
theorem Good.term_lim (h : Good r) {x t : Int} (hs : r.at_ x = some t) : 0 <= t /\ t <= 1099511627776 := by
 have hb := (qab _ _).1 h.base
 rw [h.at_] at hs
 by_cases hx : x = r.i
 · rw [if_pos hx] at hs
   injection hs with hs
   omega
 · rw [if_neg hx] at hs
   unfold RL.place at hs
   by_cases hp : r.i < x /\ x <= r.i + r.l.length
   · rw [if_pos hp] at hs
     have hk : (x - r.i - 1).toNat < r.l.length := by omega
     simp only [Option.bind_some,List.getElem?_eq_getElem hk,Option.map_some,Option.some.injEq] at hs
     have := (qw _ _ _).1 (qaf h.run _ (List.getElem_mem hk))
     omega
   · rw [if_neg hp] at hs
     cases hs
def RL.sub (r : RL) (x : Int) (m : Nat) : List Ent := match r.place x with | none => [] | some k => (r.l.drop k).take m
theorem sub_zero (r : RL) (x : Int) : r.sub x 0 = [] := by
 unfold RL.sub
 cases r.place x <;> simp
theorem qdv {x : Int} {m : Nat} (h : r.place x = none) : r.sub x m = [] := by
 unfold RL.sub
 rw [h]
theorem qdw {x : Int} {m k : Nat} (h : r.place x = some k) : r.sub x m = (r.l.drop k).take m := by
 unfold RL.sub
 rw [h]
theorem Good.from_ (h : Good r) (x many : Int) : r.fromL x many = r.sub x many.toNat := by
 unfold RL.fromL RL.sub
 have ha := h.at_ x
 by_cases hx : x = r.i
 · rw [if_pos (.inr hx)]
   unfold RL.place
   rw [if_neg (by omega)]
 · rw [if_neg hx] at ha
   unfold RL.place at ha ⊢
   by_cases hp : r.i < x /\ x <= r.i + r.l.length
   · rw [if_pos hp] at ha ⊢
     have hk : (x - r.i - 1).toNat < r.l.length := by omega
     simp only [Option.bind_some,List.getElem?_eq_getElem hk,Option.map_some] at ha
     rw [if_neg (by rw [ha]; simp [hx]),qag h.one]
   · rw [if_neg hp] at ha ⊢
     rw [if_pos (.inl ha)]
def frel (r : RL) (s : Nat) : Prop := (r.f = 0 /\ s = r.l.length) \/ (1 <= r.f /\ r.f <= r.i + r.l.length /\ s = (r.f - r.i - 1).toNat)
theorem qdP {s : Nat} (h : frel r s) (hg : Good r) : s <= r.l.length := by
 have := hg.lim
 rcases h with h | h <;> omega
theorem Good.changed (h : Good r) {s : Nat} (hs : frel r s) : r.changed = r.l.drop s := by
 unfold RL.changed
 rcases hs with ⟨h1,h2⟩ | ⟨h1,h2,h3⟩
 · rw [h1,h2,List.drop_length]
   simp
 · rw [h3,<- qag h.one]
   apply congrArg (fun p => List.filter p r.l)
   funext e
   rw [decide_eq_true (by omega : 0 < r.f),Bool.true_and]
theorem qap (r : RL) (x : Int) : (r.mark x).l = r.l /\ (r.mark x).i = r.i /\ (r.mark x).t = r.t := by
 unfold RL.mark
 split <;> exact ⟨rfl,rfl,rfl⟩
theorem Good.mark (h : Good r) (x : Int) : Good (r.mark x) := by
 obtain ⟨a,b,c⟩ := qap r x
 exact ⟨by rw [b,c]; exact h.base,by rw [a,b,c]; exact h.run⟩
def RL.more (r : RL) (e : Ent) : RL := (⟨r.i,r.t,r.l ++ [e],r.f⟩ : RL).mark (r.lastI + 1)
theorem Good.more (h : Good r) {e : Ent} (hr : runB r.lastI r.lastT [e] = true) : Good (r.more e) :=
 Good.mark (r := ⟨r.i,r.t,r.l ++ [e],r.f⟩) ⟨h.base,by
  show runB r.i r.t (r.l ++ [e]) = true
  rw [qan,h.run,Bool.true_and]
  exact hr⟩ _
theorem qbm (h : Good r) {s : Nat} (hs : frel r s) (e : Ent) : frel (r.more e) s := by
 have hl := h.lastI
 have hlim := h.lim
 unfold RL.more RL.mark
 rcases hs with ⟨h1,h2⟩ | ⟨h1,h2,h3⟩
 · rw [if_pos (.inl h1)]
   refine .inr ⟨?_,?_,?_⟩
   · show 1 <= r.lastI + 1
     omega
   · show r.lastI + 1 <= r.i + ((r.l ++ [e]).length : Nat)
     rw [List.length_append]
     simp only [List.length_singleton]
     omega
   · show s = (r.lastI + 1 - r.i - 1).toNat
     omega
 · rw [if_neg (by show ¬ (r.f = 0 \/ r.lastI + 1 < r.f); omega)]
   refine .inr ⟨h1,?_,h3⟩
   show r.f <= r.i + ((r.l ++ [e]).length : Nat)
   rw [List.length_append]
   simp only [List.length_singleton]
   omega
def RL.cut (r : RL) (x t : Int) : RL := ⟨x,t,r.l.drop (x - r.i).toNat,r.f⟩
theorem Good.compact (h : Good r) {x t : Int} (hs : r.at_ x = some t) : r.compact x = some (r.cut x t) := by
 unfold RL.compact RL.cut
 rw [hs,qcY h.one]
 rfl
theorem Good.cut (h : Good r) {x t : Int} (hs : r.at_ x = some t) : Good (r.cut x t) := by
 obtain ⟨h1,h2,h3,h4⟩ := h.at_some hs
 have hl := h.lim
 have ht := h.term_lim hs
 have hr := (qae h.run (x - r.i).toNat).2
 rw [h3,h4] at hr
 exact ⟨(qab _ _).2 ⟨by show 0 <= x /\ x <= 1099511627776; omega,ht⟩,hr⟩
end
def RL.has (r : RL) (e : Ent) : Bool := decide (r.at_ e.i = some e.t)
def RL.known (r : RL) (more : List Ent) : Nat := (more.takeWhile r.has).length
theorem qcZ (r : RL) {more : List Ent} : ∀ j (hj : j < more.length),j < r.known more -> r.has more[j] = true := by
 unfold RL.known
 induction more with
 | nil => intro j hj; simp at hj
 | cons e l ih =>
   intro j hj hjk
   cases hh : r.has e with
   | false => rw [List.takeWhile_cons_of_neg (by rw [hh]; simp)] at hjk; simp at hjk
   | true =>
     rw [List.takeWhile_cons_of_pos hh,List.length_cons] at hjk
     cases j with
     | zero => simpa using hh
     | succ j =>
       have := ih j (by simpa using hj) (by omega)
       simpa using this
def RL.retry (r : RL) (x : Int) : Int := if x <= r.i then r.i else min (x - 1) r.lastI
def RL.swap (r : RL) (more : List Ent) : RL :=
 match more with
 | [] => r
 | e :: l => (⟨r.i,r.t,(r.l.filter fun y => decide (y.i < e.i)) ++ e :: l,r.f⟩ : RL).mark e.i
def RL.take (r : RL) (x t : Int) (more : List Ent) : RL × Int × Bool :=
 if runB x t more = true then
  (if r.at_ x = some t then (r.swap (more.drop (r.known more)),x + more.length,true) else (r,r.retry x,false))
 else (r,0,false)
def RL.keep (r : RL) (more : List Ent) : Nat := match more with | [] => r.l.length | e :: _ => (e.i - r.i - 1).toNat
structure Joins (r : RL) (more : List Ent) : Prop where
 h0 : 0 < more.length
 lo : r.i < more[0].i
 hi : more[0].i <= r.i + r.l.length + 1
 run : runB (endI r.i (r.l.take (more[0].i - r.i - 1).toNat)) (endT r.t (r.l.take (more[0].i - r.i - 1).toNat)) more = true
theorem qdx (i t : Int) {l : List Ent} {k : Nat} (hk : k < l.length) : endI i (l.take (k + 1)) = l[k].i /\ endT t (l.take (k + 1)) = l[k].t := by
 have hl : (l.take (k + 1)).getLast? = some l[k] := by
  rw [List.take_succ_eq_append_getElem hk,List.getLast?_append]
  rfl
 unfold endI endT
 rw [hl]
 exact ⟨rfl,rfl⟩
theorem Good.joins {r : RL} (h : Good r) {x t : Int} {more : List Ent} (hr : runB x t more = true) (ha : r.at_ x = some t) (hk : r.known more < more.length) : Joins r (more.drop (r.known more)) := by
 obtain ⟨a1,a2,a3,a4⟩ := h.at_some ha
 have hidx := qaR hr
 have hl : (more.drop (r.known more)).length = more.length - r.known more := List.length_drop
 have h0 : 0 < (more.drop (r.known more)).length := by omega
 have he : (more.drop (r.known more))[0] = more[r.known more] := by simp
 have hi := hidx _ hk
 have hsp := (qae hr (r.known more)).2
 have hen : endI x (more.take (r.known more)) = x + r.known more := by
  have := (run_end (qae hr (r.known more)).1).1
  rw [this,List.length_take]
  omega
 by_cases hz : r.known more = 0
 · refine ⟨h0,by rw [he]; omega,by rw [he]; omega,?_⟩
   simp only [he]
   rw [show more[r.known more].i - r.i - 1 = x - r.i by omega,a3,a4,show more.drop (r.known more) = more by rw [hz]; rfl]
   exact hr
 · have hh := qcZ r (more := more) (r.known more - 1) (by omega) (by omega)
   unfold RL.has at hh
   have hh := of_decide_eq_true hh
   obtain ⟨b1,b2,b3,b4⟩ := h.at_some hh
   have hj := hidx (r.known more - 1) (by omega)
   have he2 : endT t (more.take (r.known more)) = more[r.known more - 1].t := by
    have e := (qdx 0 t (l := more) (k := r.known more - 1) (by omega)).2
    rw [show r.known more - 1 + 1 = r.known more by omega] at e
    exact e
   refine ⟨h0,by rw [he]; omega,by rw [he]; omega,?_⟩
   simp only [he]
   rw [show more[r.known more].i - r.i - 1 = more[r.known more - 1].i - r.i by omega,b3,b4,hj]
   rw [hen,he2] at hsp
   rw [show x + 1 + ((r.known more - 1 : Nat) : Int) = x + r.known more by omega]
   exact hsp
theorem qd9 {r : RL} (h : Good r) {more : List Ent} (j : Joins r more) : (r.swap more).l = r.l.take (r.keep more) ++ more /\ (r.swap more).i = r.i /\ (r.swap more).t = r.t := by
 match more,j with
 | [],j => exact absurd j.h0 (by simp)
 | e :: l,j =>
   unfold RL.swap RL.keep
   obtain ⟨a,b,c⟩ := qap (⟨r.i,r.t,(r.l.filter fun y => decide (y.i < e.i)) ++ e :: l,r.f⟩ : RL) e.i
   refine ⟨?_,b,c⟩
   rw [a]
   show (r.l.filter fun y => decide (y.i < e.i)) ++ e :: l = _
   rw [filter_lt h.one]
theorem qdQ {r : RL} {more : List Ent} (j : Joins r more) : r.keep more <= r.l.length /\ ((r.keep more : Nat) : Int) = (more[0]'j.h0).i - r.i - 1 := by
 match more,j with
 | [],j => exact absurd j.h0 (by simp)
 | e :: l,j =>
   have h1 := j.lo
   have h2 := j.hi
   unfold RL.keep
   simp only [List.getElem_cons_zero] at *
   omega
theorem Good.swap {r : RL} (h : Good r) {more : List Ent} (j : Joins r more) : Good (r.swap more) := by
 obtain ⟨a,b,c⟩ := qd9 h j
 refine ⟨by rw [b,c]; exact h.base,?_⟩
 rw [a,b,c,qan,(qae h.run _).1,Bool.true_and]
 have hj := j.run
 have e : r.keep more = ((more[0]'j.h0).i - r.i - 1).toNat := by
  have := (qdQ j).2
  omega
 rw [e]
 exact hj
theorem Good.take {r : RL} (h : Good r) (x t : Int) (more : List Ent) : Good (r.take x t more).1 := by
 unfold RL.take
 by_cases h1 : runB x t more = true
 · rw [if_pos h1]
   by_cases h2 : r.at_ x = some t
   · rw [if_pos h2]
     by_cases h3 : r.known more < more.length
     · exact h.swap (h.joins h1 h2 h3)
     · rw [List.drop_of_length_le (by omega)]
       exact h
   · rw [if_neg h2]
     exact h
 · rw [if_neg h1]
   exact h
end Go.Proofs.Ytmiijlecfiddmaa
