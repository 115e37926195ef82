/- What a vault has: what its log's records tell, and what stands behind a snap. Plain mathematics. -/
import Derived.Test.YtmeoooojmhhahaaGreatTEntP
import Derived.Test.YtmeoooojmhhahaaGreatTWalL
set_option linter.unusedVariables false
set_option linter.unusedSimpArgs false
set_option maxRecDepth 100000
set_option maxHeartbeats 200000
namespace Go.Proofs.YtmeoooojmhhahaaGreat
structure Hd where
 t : Int
 v : Int
deriving DecidableEq
def putE (l : List Ent) (e : Ent) : Option (List Ent) :=
 if (match l with | [] => false | f :: _ => decide (e.i < f.i)) = true then some [e] else
 match (l.filter fun g => decide (g.i < e.i)).getLast? with
 | none => some [e]
 | some f => if f.i = e.i - 1 /\ f.t <= e.t then some (l.filter (fun g => decide (g.i < e.i)) ++ [e]) else none
def tellOne (q : Hd × List Ent) (r : List UInt8) : Option (Hd × List Ent) :=
 if (numberN (some r) 1).1 = 1 then
  if (hardFromN (numberN (some r) 1).2).s = some [] then some (⟨(hardFromN (numberN (some r) 1).2).t,(hardFromN (numberN (some r) 1).2).v⟩,q.2) else none
 else if (numberN (some r) 1).1 = 2 then
  if (fromN rightB (numberN (some r) 1).2 12000).s = some [] then
   (putE q.2 ⟨(fromN rightB (numberN (some r) 1).2 12000).i,(fromN rightB (numberN (some r) 1).2 12000).t,(fromN rightB (numberN (some r) 1).2 12000).d⟩).map fun l => (q.1,l)
  else none
 else none
def qA (q : Hd × List Ent) (ls : List (List UInt8)) : Option (Hd × List Ent) := ls.foldlM tellOne q
def hd0 : Hd := ⟨0,-1⟩
def tells (ls : List (List UInt8)) : Option (Hd × List Ent) := qA (hd0,[]) ls
theorem qdV (q : Hd × List Ent) : qA q [] = some q := rfl
theorem qa3 (q : Hd × List Ent) (r : List UInt8) (ls : List (List UInt8)) : qA q (r :: ls) = (tellOne q r).bind fun p => qA p ls := by
 unfold qA
 rw [List.foldlM_cons]
 rfl
theorem qbJ (q : Hd × List Ent) (a b : List (List UInt8)) : qA q (a ++ b) = (qA q a).bind fun p => qA p b := by
 unfold qA
 rw [List.foldlM_append]
 rfl
def qy (h : Hd) : List UInt8 := 1 :: qcN h.t h.v
def entRec (e : Ent) : List UInt8 := 2 :: qH e.i e.t e.d
def rightE (e : Ent) : Bool := rightB e.i e.t e.d.length
def rightH (h : Hd) : Bool := hardB h.t h.v
def qW : List Ent -> Prop
 | [] => True
 | e :: t => (match t with | [] => True | f :: _ => f.i = e.i + 1 /\ e.t <= f.t) /\ qW t
theorem qer : ∀ {l m : List Ent},qW (l ++ m) -> qW l
 | [],_,_ => trivial
 | [a],m,_ => ⟨trivial,trivial⟩
 | a :: b :: l,m,h => ⟨h.1,qer (l := b :: l) h.2⟩
def saveRecs (was h : Hd) (l : List Ent) : List (List UInt8) := (if h = was then [] else [qy h]) ++ l.map entRec
def qbZ (s : Ent) (l : List Ent) : Bool := (match l with | [] => false | f :: _ => decide (f.i = s.i + 1)) || l.any fun g => decide (g.i = s.i) && decide (g.t = s.t)
def qs (s : Ent) (l : List Ent) : List Ent := if qbZ s l = true then l.filter (fun g => decide (s.i < g.i)) else []
def qck (s : Ent) (l : List Ent) : Option (List Ent) := if runB s.i s.t (qs s l) = true then some (qs s l) else none
theorem qh4 {i t : Int} {l : List Ent} (h : runB i t l = true) (k : Nat) (hk : k < l.length) : rightE l[k] = true /\ qbg t l k <= l[k].t /\ l[k].i = qa5 i l k + 1 := by
 have := List.all_eq_true.1 h k (List.mem_range.2 hk)
 rw [qct i t l k hk] at this
 simp only [Bool.and_eq_true,decide_eq_true_eq] at this
 exact ⟨this.1,this.2.1,this.2.2⟩
theorem qgg {i t : Int} {l : List Ent} (h : runB i t l = true) : ∀ x ∈ l,rightE x = true := fun x hx => by
 obtain ⟨k,hk,rfl⟩ := List.getElem_of_mem hx
 exact (qh4 h k hk).1
theorem qgh : ∀ {l : List Ent},(∀ k (hk : k + 1 < l.length),l[k + 1].i = l[k].i + 1 /\ l[k].t <= l[k + 1].t) -> qW l
 | [],_ => trivial
 | [a],_ => ⟨trivial,trivial⟩
 | a :: b :: l,h => ⟨h 0 (by simp),qgh (l := b :: l) fun k hk => h (k + 1) (by simpa using hk)⟩
end Go.Proofs.YtmeoooojmhhahaaGreat
namespace Go.Proofs.YtmeoooojmhhahaaGreat
abbrev View := ByteArray -> List UInt8 × Nat
def View.set (x : View) (n : ByteArray) (v : List UInt8 × Nat) : View := fun m => if m = n then v else x m
section
variable {D : Dsk} {x : View} {φ : Option Nat} {lost : Bool} {U : Nat}
end
end Go.Proofs.YtmeoooojmhhahaaGreat
namespace Go.Proofs.YtmeoooojmhhahaaGreat
section
variable {D : Dsk} {x : View} {φ : Option Nat} {U : Nat}
end
end Go.Proofs.YtmeoooojmhhahaaGreat
namespace Go.Proofs.YtmeoooojmhhahaaGreat
theorem qcy (h : Hd) : (qy h).length <= 60000 := by
 unfold qy
 rw [List.length_cons,qdN]
 omega
theorem qes {e : Ent} (h : rightE e = true) : (entRec e).length <= 60000 := by
 have := (qc2 h).2.2
 unfold entRec
 rw [List.length_cons,qa2]
 omega
theorem qet {l : List Ent} (h : ∀ x ∈ l,rightE x = true) : fit (l.map entRec) := fun r hr => by
 obtain ⟨e,he,rfl⟩ := List.mem_map.1 hr
 exact qes (h e he)
theorem qdW {was h : Hd} {l : List Ent} (hr : ∀ x ∈ l,rightE x = true) : fit (saveRecs was h l) := fun r hm => by
 unfold saveRecs at hm
 rcases List.mem_append.1 hm with hm | hm
 · split at hm
   · cases hm
   · rw [List.mem_singleton.1 hm]; exact qcy h
 · exact qet hr r hm
end Go.Proofs.YtmeoooojmhhahaaGreat
namespace Go.Proofs.YtmeoooojmhhahaaGreat
abbrev qal : ByteArray := ⟨#[115,110,97,112]⟩
abbrev qr : ByteArray := ⟨#[115,110,97,112,43]⟩
abbrev nWal : ByteArray := ⟨#[119,97,108]⟩
def qaC : Ent := ⟨0,0,[]⟩
def snapOf (b : List UInt8) : Option Ent :=
 match (qv b).1 with
 | [r] => if (qv b).2 = b.length /\ (fromN snapB (some r) 50000).s = some [] /\ (fromN snapB (some r) 50000).i ≠ 0 then some ⟨(fromN snapB (some r) 50000).i,(fromN snapB (some r) 50000).t,(fromN snapB (some r) 50000).d⟩ else none
 | _ => none
def qaU (r : ByteArray × Nat) : Ent × Nat :=
 if r.2 = 6 then (qaC,0) else
 if r.2 ≠ 0 then (qaC,r.2) else
 match snapOf r.1.data.toList with
 | some s => (s,0)
 | none => (qaC,2)
def Dsk.snapV (D : Dsk) : Ent × Nat := qaU (D.read qal)
def Dsk.openW (D : Dsk) (nm : ByteArray) : Dsk × Nat :=
 if (D.read nm).2 ≠ 0 /\ (D.read nm).2 ≠ 6 then (D,(D.read nm).2) else
 if (D.told nm).2 < (D.read nm).1.size then D.cut nm ((D.told nm).2 : Int) else (D,0)
structure Held where
 h : Hd
 s : Ent
 l : List Ent
def qN : Held := ⟨⟨0,0⟩,qaC,[]⟩
def allRecs (h : Hd) (l : List Ent) : List (List UInt8) := qy h :: l.map entRec
def Dsk.reset (D : Dsk) (nm : ByteArray) (ls : List (List UInt8)) : Dsk × Nat := D.replaced nm ⟨(framesL ls).toArray⟩
def qaL (R : Dsk × Nat) (s : Ent) (ls : List (List UInt8)) : (Dsk × Nat) × Held :=
 match tells ls with
 | none => ((R.1,2),qN)
 | some (h,all) =>
   match qck s all with
   | none => ((R.1,2),qN)
   | some out =>
     if out.length = all.length then ((R.1,0),⟨h,s,out⟩) else
     if (R.1.reset nWal (allRecs h out)).2 ≠ 0 then (R.1.reset nWal (allRecs h out),qN) else (R.1.reset nWal (allRecs h out),⟨h,s,out⟩)
def Dsk.openV (D : Dsk) : (Dsk × Nat) × Held :=
 if D.snapV.2 ≠ 0 then ((D,D.snapV.2),qN) else
 if (D.openW nWal).2 ≠ 0 then (D.openW nWal,qN) else
 qaL (D.openW nWal) D.snapV.1 (D.told nWal).1
def Dsk.saveV (D : Dsk) (was h : Hd) (l : List Ent) : (Dsk × Nat) × Hd :=
 if (l.all rightE && rightH h) = true then (D.added nWal (saveRecs was h l),if (D.added nWal (saveRecs was h l)).2 = 0 then h else was) else ((D,1),was)
def snapRec (s : Ent) : List UInt8 := qH s.i s.t s.d
def thn (r : Dsk × Nat) (f : Dsk -> Dsk × Nat) : Dsk × Nat := if r.2 ≠ 0 then r else f r.1
theorem qbK {r : Dsk × Nat} {f : Dsk -> Dsk × Nat} (h : r.2 ≠ 0) : thn r f = r := by unfold thn; rw [if_pos h]
theorem qed {r : Dsk × Nat} {f : Dsk -> Dsk × Nat} (h : r.2 = 0) : thn r f = f r.1 := by unfold thn; rw [if_neg (by rw [h]; simp)]
def Dsk.snapped (D : Dsk) (s : Ent) : Dsk × Nat := D.replaced qal ⟨(frameL (snapRec s)).toArray⟩
def qaw (h : Hd) (s : Ent) (l : List Ent) : Bool := snapB s.i s.t s.d.length && (decide (s.i ≠ 0) && (rightH h && runB s.i s.t l))
def Dsk.keepV (D : Dsk) (was h : Hd) (s : Ent) (l : List Ent) : (Dsk × Nat) × Hd :=
 if qaw h s l = true then
  (thn (thn (D.saveV was h []).1 fun D => D.snapped s) fun D => D.reset nWal (allRecs h l),(D.saveV was h []).2)
 else ((D,1),was)
theorem qfs {s : St} (h : (hardFromN s).s ≠ none) : hardB (hardFromN s).t (hardFromN s).v = true := by
 unfold hardFromN at h ⊢
 split
 · rename_i h0; rw [if_pos h0] at h; exact absurd rfl h
 · rename_i h0
   rw [if_neg h0] at h
   split
   · rename_i h1; exact h1
   · rename_i h1; rw [if_neg h1] at h; exact absurd rfl h
theorem qb0 {ok : Int -> Int -> Nat -> Bool} {s : St} {m : Int} (h : (fromN ok s m).s ≠ none) : ok (fromN ok s m).i (fromN ok s m).t (fromN ok s m).d.length = true := by
 unfold fromN at h ⊢
 split
 · rename_i h0; rw [if_pos h0] at h; exact absurd rfl h
 · rename_i h0
   rw [if_neg h0] at h
   split
   · rename_i h1; exact h1
   · rename_i h1; rw [if_neg h1] at h; exact absurd rfl h
theorem qlj {l : List Ent} {e : Ent} {m : List Ent} (h : putE l e = some m) : ∀ x ∈ m,x ∈ l \/ x = e := by
 have key : m = [e] \/ m = l.filter (fun g => decide (g.i < e.i)) ++ [e] := by
  have hin : ∀ o : Option Ent,(match o with | none => some [e] | some f => if f.i = e.i - 1 /\ f.t <= e.t then some (l.filter (fun g => decide (g.i < e.i)) ++ [e]) else none) = some m -> m = [e] \/ m = l.filter (fun g => decide (g.i < e.i)) ++ [e] := by
   intro o h
   cases o with
   | none => injection h with h; exact .inl h.symm
   | some f =>
     dsimp only at h
     by_cases hc : f.i = e.i - 1 /\ f.t <= e.t
     · rw [if_pos hc] at h; injection h with h; exact .inr h.symm
     · rw [if_neg hc] at h; cases h
  cases l with
  | nil => unfold putE at h; simp at h; exact .inl h.symm
  | cons f t =>
    by_cases hc : e.i < f.i
    · unfold putE at h
      rw [if_pos (decide_eq_true hc)] at h
      injection h with h; exact .inl h.symm
    · unfold putE at h
      rw [if_neg (by simpa using hc)] at h
      exact hin _ h
 intro x hx
 rcases key with rfl | rfl
 · exact .inr (List.mem_singleton.1 hx)
 · rcases List.mem_append.1 hx with hx | hx
   · exact .inl (List.mem_filter.1 hx).1
   · exact .inr (List.mem_singleton.1 hx)
theorem qgH {q p : Hd × List Ent} {r : List UInt8} (h : tellOne q r = some p) (hq : rightH q.1 = true /\ ∀ x ∈ q.2,rightE x = true) : rightH p.1 = true /\ ∀ x ∈ p.2,rightE x = true := by
 unfold tellOne at h
 split at h
 · split at h
   · rename_i hs
     injection h with h
     subst h
     exact ⟨qfs (by rw [hs]; simp),hq.2⟩
   · cases h
 · split at h
   · split at h
     · rename_i hs
       obtain ⟨l,hl,rfl⟩ := Option.map_eq_some_iff.1 h
       refine ⟨hq.1,fun x hx => ?_⟩
       rcases qlj hl x hx with hx | rfl
       · exact hq.2 x hx
       · exact qb0 (ok := rightB) (by rw [hs]; simp)
     · cases h
   · cases h
theorem qdi : ∀ (ls : List (List UInt8)) {q p : Hd × List Ent},qA q ls = some p -> (rightH q.1 = true /\ ∀ x ∈ q.2,rightE x = true) -> rightH p.1 = true /\ ∀ x ∈ p.2,rightE x = true
 | [],q,p,h,hq => by rw [qdV] at h; injection h with h; subst h; exact hq
 | r :: ls,q,p,h,hq => by
   rw [qa3] at h
   obtain ⟨k,hk,h⟩ := Option.bind_eq_some_iff.1 h
   exact qdi ls h (qgH hk hq)
theorem qc6 {ls : List (List UInt8)} {h : Hd} {l : List Ent} (ht : tells ls = some (h,l)) : rightH h = true /\ ∀ x ∈ l,rightE x = true :=
 qdi ls (p := (h,l)) ht ⟨by decide,fun x hx => by cases hx⟩
theorem qeu {h : Hd} {l : List Ent} (hr : ∀ x ∈ l,rightE x = true) : fit (allRecs h l) := fun r hm => by
 rcases List.mem_cons.1 hm with rfl | hm
 · exact qcy h
 · exact qet hr r hm
theorem qdX {b : List UInt8} {s : Ent} (h : snapOf b = some s) : snapB s.i s.t s.d.length = true /\ s.i ≠ 0 := by
 unfold snapOf at h
 split at h
 · split at h
   · rename_i hc
     injection h with h
     subst h
     exact ⟨qb0 (ok := snapB) (by rw [hc.2.1]; simp),hc.2.2⟩
   · cases h
 · cases h
end Go.Proofs.YtmeoooojmhhahaaGreat
namespace Go.Proofs.YtmeoooojmhhahaaGreat
theorem qkg : next qal = qr := by decide +kernel
theorem qdE (D : Dsk) (s : Ent) : D.snapped s =
 if (D.remove qr).2 ≠ 0 /\ (D.remove qr).2 ≠ 6 then D.remove qr else
 if ((D.remove qr).1.append qr ⟨(frameL (snapRec s)).toArray⟩).2 ≠ 0 then (D.remove qr).1.append qr ⟨(frameL (snapRec s)).toArray⟩ else
 if (((D.remove qr).1.append qr ⟨(frameL (snapRec s)).toArray⟩).1.sync qr).2 ≠ 0 then ((D.remove qr).1.append qr ⟨(frameL (snapRec s)).toArray⟩).1.sync qr else
 (((D.remove qr).1.append qr ⟨(frameL (snapRec s)).toArray⟩).1.sync qr).1.rename qr qal := by
 have hsz : (⟨(frameL (snapRec s)).toArray⟩ : ByteArray).size ≠ 0 := by
  show (frameL (snapRec s)).length ≠ 0
  rw [qu]
  omega
 unfold Dsk.snapped Dsk.replaced Dsk.gone Dsk.wrote
 rw [qkg]
 generalize D.remove qr = r
 obtain ⟨D1,e1⟩ := r
 dsimp only
 have key : ∀ ra : Dsk × Nat,(if (if ra.2 ≠ 0 then ra else ra.1.sync qr).2 ≠ 0 then (if ra.2 ≠ 0 then ra else ra.1.sync qr) else (if ra.2 ≠ 0 then ra else ra.1.sync qr).1.rename qr qal) = if ra.2 ≠ 0 then ra else if (ra.1.sync qr).2 ≠ 0 then ra.1.sync qr else (ra.1.sync qr).1.rename qr qal := fun ra => by
  by_cases ha : ra.2 ≠ 0
  · simp only [if_pos ha]
  · simp only [if_neg ha]
 by_cases h6 : e1 = 6
 · subst h6
   exact (if_neg (by simp)).trans ((if_neg hsz).trans ((key _).trans (if_neg (by simp)).symm))
 · by_cases h0 : e1 = 0
   · subst h0
     exact (if_neg (by simp)).trans ((if_neg hsz).trans ((key _).trans (if_neg (by simp)).symm))
   · rw [if_neg h6,if_pos h0,if_pos ⟨h0,h6⟩]
theorem qcz {D : Dsk} {was h : Hd} {s : Ent} {l : List Ent} (hn : qaw h s l = false) : D.keepV was h s l = ((D,1),was) := by
 unfold Dsk.keepV
 rw [hn,if_neg (by simp)]
theorem qht {D : Dsk} {was h : Hd} {s : Ent} {l : List Ent} (hn : qaw h s l = true) : D.keepV was h s l = (thn (thn (D.saveV was h []).1 fun D => D.snapped s) fun D => D.reset nWal (allRecs h l),(D.saveV was h []).2) := by
 unfold Dsk.keepV
 rw [if_pos hn]
theorem qgi {D : Dsk} {was h : Hd} {l : List Ent} (hn : (l.all rightE && rightH h) = false) : D.saveV was h l = ((D,1),was) := by
 unfold Dsk.saveV
 rw [hn,if_neg (by simp)]
theorem qlk {D : Dsk} {was h : Hd} {l : List Ent} (hn : (l.all rightE && rightH h) = true) : D.saveV was h l = (D.added nWal (saveRecs was h l),if (D.added nWal (saveRecs was h l)).2 = 0 then h else was) := by
 unfold Dsk.saveV
 rw [if_pos hn]
end Go.Proofs.YtmeoooojmhhahaaGreat
namespace Go.Proofs.YtmeoooojmhhahaaGreat
section
variable {D : Dsk} {x : View} {φ : Option Nat} {U : Nat}
end
section
variable {D : Dsk} {x : View} {φ : Option Nat} {U : Nat} {was : Hd} {s : Ent} {l : List Ent} {ls : List (List UInt8)}
theorem qeX {h : Hd} {more : List Ent} (hh : rightH h = true) (hr : ∀ e ∈ more,rightE e = true) : D.saveV was h more = (D.added nWal (saveRecs was h more),if (D.added nWal (saveRecs was h more)).2 = 0 then h else was) := by
 unfold Dsk.saveV
 rw [if_pos]
 rw [hh,Bool.and_true]
 exact List.all_eq_true.2 hr
end
end Go.Proofs.YtmeoooojmhhahaaGreat
namespace Go.Proofs.YtmeoooojmhhahaaGreat
theorem qgj (s : Ent) (l : List Ent) : (qs s l).Sublist l := by
 unfold qs
 split
 · exact List.filter_sublist
 · exact List.nil_sublist _
section
variable {D : Dsk} {x : View} {φ : Option Nat} {U : Nat} {was : Hd} {s0 : Ent} {l0 : List Ent} {ls : List (List UInt8)}
end
end Go.Proofs.YtmeoooojmhhahaaGreat
