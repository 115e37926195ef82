/- A disk by its files' names: what each deed makes of their bytes. Plain mathematics. -/
import Derived.Test.YtogbhedbgcmckaaGreatNNM12
import Derived.Test.YtogbhedbgcmckaaGreatNNM04
import Derived.Test.YtogbhedbgcmckaaGreatNNM01
import Derived.Deep.LoopGhost
set_option linter.unusedVariables false
set_option linter.unusedSimpArgs false
set_option maxRecDepth 100000
set_option maxHeartbeats 200000
namespace Go.Proofs.YtogbhedbgcmckaaGreat
abbrev View := ByteArray -> List UInt8 × Nat
def View.set (x : View) (n : ByteArray) (v : List UInt8 × Nat) : View := fun m => if m = n then v else x m
section
variable {D : Dsk} {x : View} {φ : Option Nat} {lost : Bool} {U : Nat}
end
end Go.Proofs.YtogbhedbgcmckaaGreat
set_option linter.unusedVariables false
set_option linter.unusedSimpArgs false
set_option maxRecDepth 100000
set_option maxHeartbeats 200000
namespace Go.Proofs.YtogbhedbgcmckaaGreat
section
variable {D : Dsk} {x : View} {φ : Option Nat} {U : Nat}
end
end Go.Proofs.YtogbhedbgcmckaaGreat
set_option linter.unusedVariables false
set_option linter.unusedSimpArgs false
set_option maxRecDepth 100000
set_option maxHeartbeats 200000
namespace Go.Proofs.YtogbhedbgcmckaaGreat
def lastI (i : Int) (l : List Ent) : Int := (l.getLast?.map Ent.i).getD i
def lastT (t : Int) (l : List Ent) : Int := (l.getLast?.map Ent.t).getD t
theorem qbG (h : Hd) : (qq h).length <= 60000 := by
 unfold qq;rw [List.length_cons,qe6];omega
theorem qdf {e : Ent} (h : rightE e = true) : (entRec e).length <= 60000 := by
 have := (qdb h).2.2;unfold entRec;rw [List.length_cons,qeJ];omega
theorem qdg {l : List Ent} (h : ∀ x ∈ l,rightE x = true) : fit (l.map entRec) := fun r hr => by
 obtain ⟨e,he,rfl⟩ := List.mem_map.1 hr;exact qdf (h e he)
theorem qfw {was h : Hd} {l : List Ent} (hr : ∀ x ∈ l,rightE x = true) : fit (saveRecs was h l) := fun r hm => by
 unfold saveRecs at hm;rcases List.mem_append.1 hm with hm | hm
 · split at hm
   · cases hm
   · rw [List.mem_singleton.1 hm]; exact qbG h
 · exact qdg hr r hm
end Go.Proofs.YtogbhedbgcmckaaGreat
set_option linter.unusedVariables false
set_option linter.unusedSimpArgs false
set_option maxRecDepth 100000
set_option maxHeartbeats 200000
namespace Go.Proofs.YtogbhedbgcmckaaGreat
abbrev qc2 : ByteArray := ⟨#[115,110,97,112]⟩
abbrev nWal : ByteArray := ⟨#[119,97,108]⟩
def qaA : Ent := ⟨0,0,[]⟩
def snapOf (b : List UInt8) : Option Ent :=
 match (qB b).1 with
 | [r] => if (qB b).2 = b.length /\ (fromN snapB (some r) 50000).s = some [] /\ (fromN snapB (some r) 50000).i ≠ 0 then some ⟨(fromN snapB (some r) 50000).i,(fromN snapB (some r) 50000).t,(fromN snapB (some r) 50000).d⟩ else none
 | _ => none
def qaS (r : ByteArray × Nat) : Ent × Nat :=
 if r.2 = 6 then (qaA,0) else
 if r.2 ≠ 0 then (qaA,r.2) else
 match snapOf r.1.data.toList with
 | some s => (s,0)
 | none => (qaA,2)
def Dsk.snapV (D : Dsk) : Ent × Nat := qaS (D.read qc2)
def Dsk.openW (D : Dsk) (nm : ByteArray) : Dsk × Nat :=
 if (D.read nm).2 ≠ 0 /\ (D.read nm).2 ≠ 6 then (D,(D.read nm).2) else
 if (D.told nm).2 < (D.read nm).1.size then D.cut nm ((D.told nm).2 : Int) else (D,0)
structure Held where
 h : Hd
 s : Ent
 l : List Ent
def qag : Held := ⟨⟨0,0⟩,qaA,[]⟩
def qy (h : Hd) (l : List Ent) : List (List UInt8) := qq h :: l.map entRec
def Dsk.reset (D : Dsk) (nm : ByteArray) (ls : List (List UInt8)) : Dsk × Nat := D.replaced nm ⟨(framesL ls).toArray⟩
def qc3 (R : Dsk × Nat) (s : Ent) (ls : List (List UInt8)) : (Dsk × Nat) × Held :=
 match tells ls with
 | none => ((R.1,2),qag)
 | some (h,all) =>
   match qdX s all with
   | none => ((R.1,2),qag)
   | some out =>
     if out.length = all.length then ((R.1,0),⟨h,s,out⟩) else
     if (R.1.reset nWal (qy h out)).2 ≠ 0 then (R.1.reset nWal (qy h out),qag) else (R.1.reset nWal (qy h out),⟨h,s,out⟩)
def Dsk.openV (D : Dsk) : (Dsk × Nat) × Held :=
 if D.snapV.2 ≠ 0 then ((D,D.snapV.2),qag) else
 if (D.openW nWal).2 ≠ 0 then (D.openW nWal,qag) else
 qc3 (D.openW nWal) D.snapV.1 (D.told nWal).1
def Dsk.saveV (D : Dsk) (was h : Hd) (l : List Ent) : (Dsk × Nat) × Hd :=
 if (l.all rightE && rightH h) = true then (D.added nWal (saveRecs was h l),if (D.added nWal (saveRecs was h l)).2 = 0 then h else was) else ((D,1),was)
theorem qdL {s : St} (h : (hardFromN s).s ≠ none) : hardB (hardFromN s).t (hardFromN s).v = true := by
 unfold hardFromN at h ⊢
 split
 · rename_i h0; rw [if_pos h0] at h; exact absurd rfl h
 · rename_i h0;rw [if_neg h0] at h
   split
   · rename_i h1; exact h1
   · rename_i h1; rw [if_neg h1] at h; exact absurd rfl h
theorem qb6 {ok : Int -> Int -> Nat -> Bool} {s : St} {m : Int} (h : (fromN ok s m).s ≠ none) : ok (fromN ok s m).i (fromN ok s m).t (fromN ok s m).d.length = true := by
 unfold fromN at h ⊢
 split
 · rename_i h0; rw [if_pos h0] at h; exact absurd rfl h
 · rename_i h0;rw [if_neg h0] at h
   split
   · rename_i h1; exact h1
   · rename_i h1; rw [if_neg h1] at h; exact absurd rfl h
theorem qjW {l : List Ent} {e : Ent} {m : List Ent} (h : putE l e = some m) : ∀ x ∈ m,x ∈ l \/ x = e := by
 have key : m = [e] \/ m = l.filter (fun g => decide (g.i < e.i)) ++ [e] := by
  have hin : ∀ o : Option Ent,(match o with | none => some [e] | some f => if f.i = e.i - 1 /\ f.t <= e.t then some (l.filter (fun g => decide (g.i < e.i)) ++ [e]) else none) = some m -> m = [e] \/ m = l.filter (fun g => decide (g.i < e.i)) ++ [e] := by
   intro o h
   cases o with
   | none => injection h with h; exact .inl h.symm
   | some f =>
     dsimp only at h
     by_cases hc : f.i = e.i - 1 /\ f.t <= e.t
     · rw [if_pos hc] at h; injection h with h; exact .inr h.symm
     · rw [if_neg hc] at h; cases h
  cases l with
  | nil => unfold putE at h; simp at h; exact .inl h.symm
  | cons f t =>
    by_cases hc : e.i < f.i
    · unfold putE at h;rw [if_pos (decide_eq_true hc)] at h;injection h with h; exact .inl h.symm
    · unfold putE at h;rw [if_neg (by simpa using hc)] at h;exact hin _ h
 intro x hx;rcases key with rfl | rfl
 · exact .inr (List.mem_singleton.1 hx)
 · rcases List.mem_append.1 hx with hx | hx
   · exact .inl (List.mem_filter.1 hx).1
   · exact .inr (List.mem_singleton.1 hx)
theorem qeK {q p : Hd × List Ent} {r : List UInt8} (h : tellOne q r = some p) (hq : rightH q.1 = true /\ ∀ x ∈ q.2,rightE x = true) : rightH p.1 = true /\ ∀ x ∈ p.2,rightE x = true := by
 unfold tellOne at h
 split at h
 · split at h
   · rename_i hs;injection h with h;subst h;exact ⟨qdL (by rw [hs]; simp),hq.2⟩
   · cases h
 · split at h
   · split at h
     · rename_i hs;obtain ⟨l,hl,rfl⟩ := Option.map_eq_some_iff.1 h;refine ⟨hq.1,fun x hx => ?_⟩;rcases qjW hl x hx with hx | rfl
       · exact hq.2 x hx
       · exact qb6 (ok := rightB) (by rw [hs]; simp)
     · cases h
   · cases h
theorem qcb : ∀ (ls : List (List UInt8)) {q p : Hd × List Ent},qD q ls = some p -> (rightH q.1 = true /\ ∀ x ∈ q.2,rightE x = true) -> rightH p.1 = true /\ ∀ x ∈ p.2,rightE x = true
 | [],q,p,h,hq => by rw [qcH] at h; injection h with h; subst h; exact hq
 | r :: ls,q,p,h,hq => by
   rw [qaO] at h;obtain ⟨k,hk,h⟩ := Option.bind_eq_some_iff.1 h;exact qcb ls h (qeK hk hq)
theorem qgm {ls : List (List UInt8)} {h : Hd} {l : List Ent} (ht : tells ls = some (h,l)) : rightH h = true /\ ∀ x ∈ l,rightE x = true :=
 qcb ls (p := (h,l)) ht ⟨by decide,fun x hx => by cases hx⟩
theorem qgn {h : Hd} {l : List Ent} (hr : ∀ x ∈ l,rightE x = true) : fit (qy h l) := fun r hm => by
 rcases List.mem_cons.1 hm with rfl | hm
 · exact qbG h
 · exact qdg hr r hm
theorem qfx {b : List UInt8} {s : Ent} (h : snapOf b = some s) : snapB s.i s.t s.d.length = true /\ s.i ≠ 0 := by
 unfold snapOf at h
 split at h
 · split at h
   · rename_i hc;injection h with h;subst h;exact ⟨qb6 (ok := snapB) (by rw [hc.2.1]; simp),hc.2.2⟩
   · cases h
 · cases h
end Go.Proofs.YtogbhedbgcmckaaGreat
set_option linter.unusedVariables false
set_option linter.unusedSimpArgs false
set_option maxRecDepth 100000
set_option maxHeartbeats 200000
namespace Go.Proofs.YtogbhedbgcmckaaGreat
theorem qeo {D : Dsk} {was h : Hd} {l : List Ent} (hn : (l.all rightE && rightH h) = false) : D.saveV was h l = ((D,1),was) := by
 unfold Dsk.saveV;rw [hn,if_neg (by simp)]
theorem qjX {D : Dsk} {was h : Hd} {l : List Ent} (hn : (l.all rightE && rightH h) = true) : D.saveV was h l = (D.added nWal (saveRecs was h l),if (D.added nWal (saveRecs was h l)).2 = 0 then h else was) := by
 unfold Dsk.saveV;rw [if_pos hn]
end Go.Proofs.YtogbhedbgcmckaaGreat
set_option linter.unusedVariables false
set_option linter.unusedSimpArgs false
set_option maxRecDepth 100000
set_option maxHeartbeats 200000
namespace Go.Proofs.YtogbhedbgcmckaaGreat
open Go.RowKit
def oneB (i t : Int) (d : List UInt8) (i' t' : Int) (d' : List UInt8) : Bool := decide (i = i') && (decide (t = t') && decide (d = d'))
end Go.Proofs.YtogbhedbgcmckaaGreat
set_option linter.unusedVariables false
set_option linter.unusedSimpArgs false
set_option maxRecDepth 100000
set_option maxHeartbeats 1000000
namespace Go.Proofs.YtogbhedbgcmckaaGreat
open Go.RowKit
def Ents (w : World) (Z : Nat -> Prop) (A : Option Addr) (len cap : Nat) (ls : List Ent) : Prop :=
 ls.length = len /\ len <= cap /\ (A = none -> cap = 0) /\ (0 < len -> ∃ g off,A = some ⟨g,off,none⟩ /\ g < w.heap.size /\ Z g ∧
  ∀ j (hj : j < ls.length),∃ E c,w.cell? ⟨g,off + j * 3,none⟩ = some (.int .i64 ls[j].i) /\ w.cell? ⟨g,off + j * 3 + 1,none⟩ = some (.int .i64 ls[j].t) /\ w.cell? ⟨g,off + j * 3 + 2,none⟩ = some (.slice E ls[j].d.length c) /\ c <= c /\ Lies w E ls[j].d.length c ls[j].d /\ (0 < ls[j].d.length -> ∀ q o,E = some ⟨q,o,none⟩ -> Z q))
section
variable {w w' : World} {Z Z' : Nat → Prop} {A : Option Addr} {len cap : Nat} {ls : List Ent}
theorem Ents.keep (h : Ents w Z A len cap ls) (hs : w.heap.size <= w'.heap.size) (hk : ∀ k,k < w.heap.size -> Z k -> w'.heap[k]? = w.heap[k]?) : Ents w' Z A len cap ls := by
 refine ⟨h.1,h.2.1,h.2.2.1,fun h0 => ?_⟩;obtain ⟨g,off,e,hg,hz,hc⟩ := h.2.2.2 h0;refine ⟨g,off,e,Nat.lt_of_lt_of_le hg hs,hz,fun j hj => ?_⟩;obtain ⟨E,c,c0,c1,c2,hm,hl,hzE⟩ := hc j hj
 have hx : ∀ o,w'.cell? ⟨g,o,none⟩ = w.cell? ⟨g,o,none⟩ := fun o => World.cell?_of_block (hk g hg hz)
 exact ⟨E,c,(hx _).trans c0,(hx _).trans c1,(hx _).trans c2,hm,hl.keep hs fun h1 q o eq hq => hk q hq (hzE h1 q o eq),hzE⟩
theorem Ents.below (h : Ents w Z A len cap ls) {B : Nat} (hb : Below B w w') (hB : w.heap.size <= B) : Ents w' Z A len cap ls :=
 h.keep hb.size fun k hk _ => hb.block k (Nat.lt_of_lt_of_le hk hB)
theorem Ents.mono (h : Ents w Z A len cap ls) (hz : ∀ k,Z k -> Z' k) : Ents w Z' A len cap ls := by
 refine ⟨h.1,h.2.1,h.2.2.1,fun h0 => ?_⟩;obtain ⟨g,off,e,hg,hzg,hc⟩ := h.2.2.2 h0;refine ⟨g,off,e,hg,hz _ hzg,fun j hj => ?_⟩;obtain ⟨E,c,c0,c1,c2,hm,hl,hzE⟩ := hc j hj;exact ⟨E,c,c0,c1,c2,hm,hl,fun h1 q o eq => hz _ (hzE h1 q o eq)⟩
theorem Ents.at_ (h : Ents w Z A len cap ls) (j : Nat) (hj : j < len) : ∃ g off E c,A = some ⟨g,off,none⟩ /\ g < w.heap.size /\ w.cell? ⟨g,off + j * 3,none⟩ = some (.int .i64 (ls[j]'(by rw [h.1]; exact hj)).i) /\ w.cell? ⟨g,off + j * 3 + 1,none⟩ = some (.int .i64 (ls[j]'(by rw [h.1]; exact hj)).t) ∧
 w.cell? ⟨g,off + j * 3 + 2,none⟩ = some (.slice E (ls[j]'(by rw [h.1]; exact hj)).d.length c) /\ Lies w E (ls[j]'(by rw [h.1]; exact hj)).d.length c (ls[j]'(by rw [h.1]; exact hj)).d := by
 obtain ⟨g,off,e,hg,_,hc⟩ := h.2.2.2 (by omega);obtain ⟨E,c,c0,c1,c2,_,hl,_⟩ := hc j (by rw [h.1]; exact hj);exact ⟨g,off,E,c,e,hg,c0,c1,c2,hl⟩
end
def weigh (ls : List Ent) : Nat := (ls.map fun e => e.d.length).sum
theorem qhr (ls : List Ent) (k : Nat) (hk : k < ls.length) : weigh (ls.take (k + 1)) = weigh (ls.take k) + ls[k].d.length := by
 unfold weigh;rw [List.take_succ_eq_append_getElem hk,List.map_append,List.sum_append];simp
theorem qjY (ls : List Ent) (k : Nat) : weigh (ls.take k) <= weigh ls := by
 unfold weigh;rw [List.map_take];generalize ls.map (fun e => e.d.length) = q;have := List.take_append_drop k q
 calc (q.take k).sum <= (q.take k).sum + (q.drop k).sum := Nat.le_add_right _ _
  _ = (q.take k ++ q.drop k).sum := by rw [List.sum_append]
  _ = q.sum := by rw [this]
def fewE (ls : List Ent) (many : Nat) : Bool := decide (ls.length <= many) && decide (weigh ls <= 40000)
theorem qjZ (Z : Nat -> Prop) (A : Option Addr) (len cap : Nat) (ls : List Ent) (many : Nat) (w : World) (h : Ents w Z A len cap ls) (hm : len <= maxLen) (hmany : many <= 1000) (hd : ∀ e ∈ ls,e.d.length <= 140737488355328) :
 Calls Tryz.prog 39 #[.slice A len cap, .int .i64 (many : Int)] w fun e w' => e = .returned (.bool (fewE ls many)) /\ w = w' := by
 unfold maxLen at hm;have hll := h.1
 go_enter Tryz.func39,Tryz.ntmps39
 go_wp2
 go_loop [5,6,9] (fun z r i => ∃ k : Nat,k <= len /\ k <= many /\ i = .int .i64 (k : Int) /\ z = .int .i64 ((weigh (ls.take k) : Nat) : Int) /\ weigh (ls.take k) <= 40000) (fun _ _ i => len - (intOf i).toNat)
 case atStart => exact ⟨0,by omega,by omega,rfl,by simp [weigh],by simp [weigh]⟩
 case round =>
  obtain ⟨k,hk,hkm,rfl,rfl,hz⟩ := hrel
  by_cases hlt : k < len
  · have hlt' : (k : Int) < (len : Int) := by omega
    obtain ⟨g,off,E,c,rfl,hg,_,_,hcell,_⟩ := h.at_ k hlt;have hw := qhr ls k (by omega);have hwl := qjY ls (k + 1);have hdk := hd _ (List.getElem_mem (show k < ls.length by omega));generalize (ls[k]'(by omega)).d.length = n at *;generalize weigh (ls.take k) = z at *;obtain ⟨z2,hz2⟩ := exq (weigh (ls.take (k + 1)));rw [hz2] at hw hwl
    have e2 : (z : Int) + (n : Int) = (z2 : Int) := by omega
    have HZ := Lib.hid hz2
    · have e3 : IntKind.i64.wrap (z2 : Int) = (z2 : Int) := IntWalk.i64_in _ (by omega)
      by_cases hkm2 : many <= k
      · have HE := Lib.hid (show fewE ls many = false by unfold fewE; rw [decide_eq_false (by omega),Bool.false_and])
        have q1 : (many : Int) <= (k : Int) := by omega
        clear hz2 hw hwl hz hd hdk hkm2 hkm hk hm;go_wp2;go_ret;exact ⟨by have e : fewE ls many = false := HE; rw [e]; rfl,rfl⟩
      · have q1 : ((many : Int) <= (k : Int)) = False := eq_false (by omega)
        by_cases h4 : 40000 < z2
        · have HE := Lib.hid (show fewE ls many = false by unfold fewE; rw [decide_eq_false (show ¬ weigh ls <= 40000 by omega),Bool.and_false])
          have q2 : (40000 : Int) < (z2 : Int) := by omega
          clear hz2 hw hwl hz hd hdk hkm2 hkm hk hm h4;go_wp2;go_ret;exact ⟨by have e : fewE ls many = false := HE; rw [e]; rfl,rfl⟩
        · have q2 : ((40000 : Int) < (z2 : Int)) = False := eq_false (by omega)
          have e5 : IntKind.i64.wrap ((k : Int) + 1) = ((k + 1 : Nat) : Int) := by rw [IntWalk.i64_in _ (by omega)]; omega
          have hnn : Hid (k + 1 <= many /\ k < len /\ z2 <= 40000) := ⟨by omega,by omega,by omega⟩;clear hz2 hw hwl hz hd hdk hkm2 hkm hk hm h4;go_wp2
          go_round
          case rel => exact ⟨k + 1,by have := hnn.out; omega,hnn.out.1,by go_num,by have e : weigh (ls.take (k + 1)) = z2 := HZ; rw [e],by have e : weigh (ls.take (k + 1)) = z2 := HZ; rw [e]; exact hnn.out.2.2⟩
          case measure => have := hnn.out; simp [intOf]; omega
  · obtain rfl : k = len := by omega
    have HE := Lib.hid (show fewE ls many = true by
     unfold fewE;rw [List.take_of_length_le (by omega)] at hz;rw [decide_eq_true (by omega),decide_eq_true hz]
     rfl)
    clear h hz hd hm hk hkm;go_wp2;go_ret;exact ⟨by have e : fewE ls many = true := HE; rw [e]; rfl,rfl⟩
end Go.Proofs.YtogbhedbgcmckaaGreat
set_option linter.unusedVariables false
set_option linter.unusedSimpArgs false
set_option maxRecDepth 100000
set_option maxHeartbeats 1600000
namespace Go.Proofs.YtogbhedbgcmckaaGreat
open Go.RowKit
section
variable {P : Program} {fn : Func} {p q u r s : Tmp} {T T2 : TypeId} {W : World} {n m : Nat} {cs ds : Array Value} {fr gr : Nat × Nat} {d d2 : TypeDesc} {tmps : Array Value}
theorem qeL (h : fn.results = #[.tmp u, .cell p T, .cell q T2, .tmp r, .tmp s]) (tmps : Array Value) (P : Program) (w : World) :
 (results fn tmps).run P w =
   ((asAddr (tmps.getD p undef)).run P w).andThen fun a w₁ => ((loadVar T a).run P w₁).andThen fun v w₂ => ((asAddr (tmps.getD q undef)).run P w₂).andThen fun b w₃ => ((loadVar T2 b).run P w₃).andThen fun x w₄ => .ok (.tuple #[tmps.getD u undef,v,x,tmps.getD r undef,tmps.getD s undef]) w₄ := by
 simp only [results,h]
 simp [Sem.run_bind,Result.andThen]
theorem qal (h : fn.results = #[.tmp u, .cell p T, .cell q T2, .tmp r, .tmp s]) (h1 : tmps.getD p undef = .pointer (some ⟨n,0,none⟩)) (hW : W.heap[n]? = some (.cells cs T fr)) (h2 : tmps.getD q undef = .pointer (some ⟨m,0,none⟩)) (hV : W.heap[m]? = some (.cells ds T2 gr)) (hu : P.underlying T = some d) (hv : P.underlying T2 = some d2)
 (hd : (match d with | .struct _ | .array _ _ => true | _ => false) = true) (he : (match d2 with | .struct _ | .array _ _ => true | _ => false) = true) (hi : (P.info? T).map (·.size) = some cs.size) (hj : (P.info? T2).map (·.size) = some ds.size) : (results fn tmps).run P W = .ok (.tuple #[tmps.getD u undef, .agg cs, .agg ds,tmps.getD r undef,tmps.getD s undef]) W := by
 rw [qeL h,h1,h2]
 simp [asAddr,run_loadVar_row W n T T cs fr d hW hu hd hi,run_loadVar_row W m T2 T2 ds gr d2 hV hv he hj]
end
theorem qep (w : World) (o : Nat) (l : List UInt8) (Z : Nat -> Prop) (h : Out w o l Z) (hl : l.length <= 60000) :
 Calls Tryz.prog 156 #[.pointer (some ⟨o,0,none⟩)] w fun e w' => ∃ A cap,e = .returned (.slice A l.length cap) /\ Owns 5 w' w.heap.size (.slice A l.length cap) l /\ Below w.heap.size w w' := by
 have hE := qjv w o l Z h hl;clear h
 go_enter Tryz.func156,Tryz.ntmps156
 go_wp2_with fail
 refine hE.mono ?_;rintro e w1 ⟨A,cap,rfl,_,ho,hb⟩;go_wp2;go_ret;exact ⟨A,cap,rfl,ho,hb⟩
theorem qj0 (h : Hd) (hr : rightH h = true) : ([] ++ [UInt8.ofNat (1 : Int).toNat]) ++ qcE h.t h.v = qq h := by
 have hr' : hardB h.t h.v = true := hr;rw [qcF,if_pos hr']
 rfl
theorem qkJ (e : Ent) (hr : rightE e = true) : ([] ++ [UInt8.ofNat (2 : Int).toNat]) ++ qdn e.i e.t e.d = entRec e := by
 have hr' : rightB e.i e.t e.d.length = true := hr;rw [qda,if_pos hr']
 rfl
theorem qcc (h : Hd) (hr : rightH h = true) (w : World) :
 Calls Tryz.prog 112 #[.agg #[.int .i64 h.t, .int .i64 h.v]] w fun e w' => ∃ A cap,e = .returned (.slice A (qq h).length cap) /\ Owns 5 w' w.heap.size (.slice A (qq h).length cap) (qq h) /\ Below w.heap.size w w' := by
 have hlen := qbG h;have hb0 : Below w.heap.size w (w.alloc (.cells #[.int .i64 h.t, .int .i64 h.v] 54)) := (Below.refl _ _).alloc (Nat.le_refl _) _;have hr0 := heap_alloc_new w (.cells #[.int .i64 h.t, .int .i64 h.v] 54)
 have hs0 : (w.alloc (.cells #[.int .i64 h.t, .int .i64 h.v] 54)).heap.size = w.heap.size + 1 := by simp
 have hZ0 : ∀ k,(k < w.heap.size + 1) -> k < (w.alloc (.cells #[.int .i64 h.t, .int .i64 h.v] 54)).heap.size := fun k hk => by omega
 have hO := qgI (w.alloc (.cells #[.int .i64 h.t, .int .i64 h.v] 54)) (· < w.heap.size + 1) hZ0;have hb1 : Below (w.heap.size + 1) (w.alloc (.cells #[.int .i64 h.t, .int .i64 h.v] 54)) ((w.alloc (.cells #[.int .i64 h.t, .int .i64 h.v] 54)).alloc (.cells #[.slice none 0 0, .bool false] 218)) := (Below.refl _ _).alloc (by simp) _;have hr1 := (hb1.block w.heap.size (by omega)).trans hr0
 have hZ1 : ∀ k,(k < w.heap.size + 1) -> k < ((w.alloc (.cells #[.int .i64 h.t, .int .i64 h.v] 54)).alloc (.cells #[.slice none 0 0, .bool false] 218)).heap.size := fun k hk => by simp; omega
 have hbb := hb0.trans (hb1.mono (by omega));have hB := qe2 1 (by omega) _ _ _ _ hO hZ1;rw [hs0] at hB;clear hO hb0 hb1 hr0 hs0 hZ0
 go_enter Tryz.func112,Tryz.ntmps112
 go_wp2_with fail
 refine hB.mono ?_;rintro e w2 ⟨rfl,h2,k2⟩;have hr2 := (k2.block _ (hlt hr1) (by show w.heap.size < w.heap.size + 1; omega)).trans hr1;have hbw2 := qab hbb k2 (fun i hi => by show i < w.heap.size + 1; omega) hbb.size;have hZ2 : ∀ k,(k < w.heap.size + 1) -> k < w2.heap.size := fun k hk => Nat.lt_of_lt_of_le (hZ1 k hk) k2.size;have hP := qjA h.t h.v w2 _ _ _ h2 hZ2;obtain ⟨⟨a0,a1⟩,_⟩ := row2 hr2;clear hB hr1 k2 hbb hZ1
 go_wp2_with fail
 refine hP.mono ?_;rintro e w3 ⟨rfl,h3,k3⟩;have hbw3 := qab hbw2 k3 (fun i hi => by show i < w.heap.size + 1; omega) hbw2.size;rw [qj0 h hr] at h3;have hE := qep w3 _ _ _ h3 hlen;clear hP h2 h3 k3 a0 a1 hr2
 go_wp2_with fail
 refine hE.mono ?_;rintro e w4 ⟨A,cap,rfl,ho,hb⟩;have ho' : Owns 5 w4 w.heap.size (.slice A (qq h).length cap) (qq h) := ho.rebase fun k hk => Nat.le_trans hbw3.size (ho.lt k hk).1;have hbw4 := hbw3.trans (hb.mono hbw3.size);clear hE ho hb;go_wp2;go_ret;exact ⟨A,cap,rfl,ho',hbw4⟩
theorem qhs (i t : Int) (B : Option Addr) (n c : Nat) (w : World) :
 Calls Tryz.prog 118 #[entV i t B n c] w fun e w' => e = .returned (.bool (decide (i = 0))) /\ Below w.heap.size w w' := by
 have hb0 : Below w.heap.size w (w.alloc (.cells #[.int .i64 i, .int .i64 t, .slice B n c] 25)) := (Below.refl _ _).alloc (Nat.le_refl _) _
 go_enter Tryz.func118,Tryz.ntmps118
 go_wp2;go_ret;refine ⟨?_,hb0⟩
 rfl
theorem qfy (Z : Nat -> Prop) (A : Option Addr) (len cap : Nat) (ls : List Ent) (w : World) (h : Ents w Z A len cap ls) (hm : len <= maxLen) :
 Calls Tryz.prog 128 #[.slice A len cap] w fun e w' => e = .returned (.bool (ls.all rightE)) /\ Below w.heap.size w w' := by
 unfold maxLen at hm;have hll := h.1;obtain ⟨F,hF⟩ : ∃ F,Hid (ls.all rightE = F) := ⟨_,⟨rfl⟩⟩;rw [hF.out]
 go_enter Tryz.func128,Tryz.ntmps128
 go_wp2
 go_loopg [7] len (fun g i wr => ∃ k : Nat,k + g = len /\ i = .int .i64 (k : Int) /\ Hid (∀ j (hj : j < ls.length),j < k -> rightE ls[j] = true) /\ Below w.heap.size w wr)
 case atStart => exact ⟨0,by omega,rfl,⟨fun j _ hj => absurd hj (by omega)⟩,Below.refl _ _⟩
 case round =>
  obtain ⟨k,hk,rfl,HA,hb⟩ := hrel
  by_cases hlt : k < len
  · have hlt' : (k : Int) < (len : Int) := by omega
    obtain ⟨g,off,E,c,rfl,hg,x0,x1,x2,hl⟩ := (h.below hb (Nat.le_refl _)).at_ k hlt
    have HN : Hid (rightE (ls[k]'(by omega)) = false -> F = false) := ⟨fun hf => by
     rw [<- hF.out];refine List.all_eq_false.2 ⟨ls[k]'(by omega),List.getElem_mem _,?_⟩
     rw [hf]; simp⟩
    have HY : Hid (rightE (ls[k]'(by omega)) = true -> ∀ j (hj : j < ls.length),j < k + 1 -> rightE ls[j] = true) := ⟨fun ht j hj hjk => by
     rcases Nat.lt_or_ge j k with h1 | h1
     · exact HA.out j hj h1
     · obtain rfl : j = k := by omega
       exact ht⟩
    have hR := fun W => qbf (ls[k]'(by omega)).i (ls[k]'(by omega)).t E (ls[k]'(by omega)).d.length c W
    have hre : rightE (ls[k]'(by omega)) = rightB (ls[k]'(by omega)).i (ls[k]'(by omega)).t (ls[k]'(by omega)).d.length := rfl;rw [<- hre] at hR;generalize hq : rightE (ls[k]'(by omega)) = q at *;generalize (ls[k]'(by omega)) = x at *;obtain ⟨xi,xt,xd⟩ := x;dsimp only at *;have hb0 : Below wr.heap.size wr (wr.alloc (.cells #[.int .i64 xi, .int .i64 xt, .slice E xd.length c] 117)) := (Below.refl _ _).alloc (Nat.le_refl _) _;have HK := Lib.hid hk;clear hq hre h hl hll hk
    cases q with
    | false =>
      have HE := Lib.hid (HN.out rfl);clear HN HY HA hF
      go_wp2_with fail
      refine (hR _).mono ?_;rintro e w1 ⟨rfl,hb1⟩;have hbw := hb.trans ((hb0.trans (hb1.mono hb0.size)).mono hb.size);go_wp2;go_ret;exact ⟨by have e : F = false := HE; rw [e]; rfl,hbw⟩
    | true =>
      have HE := Lib.hid (HY.out rfl);clear HN HY HA hF
      go_wp2_with fail
      refine (hR _).mono ?_;rintro e w1 ⟨rfl,hb1⟩;have hbw := hb.trans ((hb0.trans (hb1.mono hb0.size)).mono hb.size);go_wp2
      go_roundg (gk - 1)
      case measure => have e : k + gk = len := HK; omega
      case rel => exact ⟨k + 1,by have e : k + gk = len := HK; omega,by go_num,⟨HE⟩,hbw⟩
  · obtain rfl : k = len := by omega
    have HE := Lib.hid (show F = true by
     rw [<- hF.out];refine List.all_eq_true.2 fun x hx => ?_;obtain ⟨j,hj,rfl⟩ := List.getElem_of_mem hx
     exact HA.out j hj (by omega))
    clear h HA hF hll;go_wp2;go_ret;exact ⟨by have e : F = true := HE; rw [e]; rfl,hb⟩
theorem qdh (c : Int) (w : World) :
 Calls Tryz.prog 56 #[.int .i64 c] w fun e w' => e = .returned (.tuple #[.pointer none, .agg #[.int .i64 0, .int .i64 0],entV 0 0 none 0 0, .slice none 0 0, .int .i64 c]) /\ Below w.heap.size w w' := by
 go_enter Tryz.func56,Tryz.ntmps56
 go_wp2;refine bodyPost_ret (qal (n := w.heap.size) (m := w.heap.size + 1) rfl rfl ((Below.heap_alloc _ _ _ (by simp)).trans (heap_alloc_new _ _)) rfl (heap_alloc2_new _ _ _) Tryz.underlying54 Tryz.underlying25 rfl rfl (by kernel_rfl) (by kernel_rfl)) rfl ?_;exact ⟨rfl,((Below.refl _ _).alloc (Nat.le_refl _) _).alloc (by simp) _⟩
end Go.Proofs.YtogbhedbgcmckaaGreat
set_option linter.unusedVariables false
set_option linter.unusedSimpArgs false
set_option maxRecDepth 100000
set_option maxHeartbeats 3200000
namespace Go.Proofs.YtogbhedbgcmckaaGreat
open Go.RowKit
structure qfz (w wr : World) (ts : List (List UInt8)) (v : Value) : Prop where
 row : qn wr w.heap.size v ts
 below : Below w.heap.size w wr
theorem qht (w : World) (n : Nat) (hn : n <= 1000000) : qfz w (w.alloc (.cells (madeCells #[.slice none 0 0] (n * 1)) 23)) [] (.slice (some ⟨w.heap.size,0,none⟩) 0 n) :=
 ⟨⟨[],World.ownsRow_made (base := w.heap.size) (e := 23) (size := 1) w _ n (Nat.le_refl _) (by unfold maxLen; omega) (size_madeCells _ _),rfl,fun j hj => by simp at hj⟩,(Below.refl _ _).alloc (Nat.le_refl _) _⟩
theorem qbH (Z : Nat -> Prop) (A : Option Addr) (len cap : Nat) (ls : List Ent) (w : World) (h : Ents w Z A len cap ls) (hm : len <= 1000000) (hr : ∀ x ∈ ls,rightE x = true) :
 Calls Tryz.prog 113 #[.slice A len cap] w fun e w' => ∃ A' cap',e = .returned (.slice A' len cap') /\ qn w' w.heap.size (.slice A' len cap') (ls.map entRec) /\ Below w.heap.size w w' := by
 have hll := h.1;obtain ⟨i0,hi0,hz0,hz1,hz2⟩ := info_parts qcm
 have hmk : ∀ (w1 : World),(Instr.makeSlice 127 (.int .i64 0) (.int .i64 (len : Int))).run Tryz.prog w1 = .ok (.slice (some ⟨w1.heap.size,0,none⟩) 0 len) (w1.alloc (.cells (madeCells #[.slice none 0 0] (len * 1)) 23)) := fun w1 => by
  have := run_make (P := Tryz.prog) w1 127 23 i0 _ Tryz.underlying127 hi0 hz0 .i64 .i64 0 (len : Int) (Int.le_refl _) (by omega) (by rw [hz2]; omega) (by omega);rw [hz1] at this;exact this
 have HST := Lib.hid (qht w len hm);have HR := Lib.hid hr;have HH := Lib.hid h;clear hr h
 go_enter Tryz.func113,Tryz.ntmps113
 go_wp2;clear hmk
 go_loopg [3,12] len (fun g v i wr => ∃ (k : Nat) (ts : List (List UInt8)),k + g = len /\ i = .int .i64 (k : Int) /\ Hid (ts = (ls.take k).map entRec) /\ qfz w wr ts v)
 case atStart => exact ⟨0,[],by omega,rfl,⟨by simp⟩,by have h0 : qfz _ _ _ _ := HST; rw [Nat.mul_one] at h0; exact h0⟩
 case round =>
  clear HST;obtain ⟨k,ts,hk,rfl,HTS,hT⟩ := hrel;obtain ⟨A0,cap0,rfl⟩ := hT.row.form
  have htl : ts.length = k := by rw [HTS.out,List.length_map,List.length_take]; omega
  by_cases hklt : k < len
  · have hlt' : (k : Int) < (len : Int) := by omega
    have hE : Ents w Z A len cap ls := HH;obtain ⟨g,off,E,c,rfl,hg,x0,x1,x2,hl⟩ := (hE.below hT.below (Nat.le_refl _)).at_ k hklt;have hx : rightE (ls[k]'(by omega)) = true := HR _ (List.getElem_mem _)
    have htk : (ls.take (k + 1)).map entRec = (ls.take k).map entRec ++ [entRec (ls[k]'(by omega))] := by
     rw [List.take_succ_eq_append_getElem (by omega),List.map_append]; rfl
    have HTK := Lib.hid htk;generalize (ls[k]'(by omega)) = x at *;obtain ⟨vs,hown,hvl,hvat⟩ := hT.row;have hof := hown.lt;have hrow := Lib.hid hT.row;have hbw := hT.below;have hs0 := hT.below.size
    have HV := Lib.hid hvat
    have HVL := Lib.hid hvl;have HTL := Lib.hid htl
    have htn : ts.length <= 1000000 := by omega
    have hxd : x.d.length <= 12000 := (qdb hx).2.2;have hlen : (entRec x).length <= 60000 := qdf hx;have hb0 : Below wr.heap.size wr (wr.alloc (.cells #[.int .i64 x.i, .int .i64 x.t, .slice E x.d.length c] 117)) := (Below.refl _ _).alloc (Nat.le_refl _) _;have hr0 := heap_alloc_new wr (.cells #[.int .i64 x.i, .int .i64 x.t, .slice E x.d.length c] 117)
    have hz0' : (wr.alloc (.cells #[.int .i64 x.i, .int .i64 x.t, .slice E x.d.length c] 117)).heap.size = wr.heap.size + 1 := by simp
    have hZ0 : ∀ k,(k < wr.heap.size + 1) -> k < (wr.alloc (.cells #[.int .i64 x.i, .int .i64 x.t, .slice E x.d.length c] 117)).heap.size := fun k hk => by omega
    have hO := qgI (wr.alloc (.cells #[.int .i64 x.i, .int .i64 x.t, .slice E x.d.length c] 117)) (· < wr.heap.size + 1) hZ0;have hb1 : Below (wr.heap.size + 1) (wr.alloc (.cells #[.int .i64 x.i, .int .i64 x.t, .slice E x.d.length c] 117)) ((wr.alloc (.cells #[.int .i64 x.i, .int .i64 x.t, .slice E x.d.length c] 117)).alloc (.cells #[.slice none 0 0, .bool false] 218)) := (Below.refl _ _).alloc (by simp) _;have hr1 := (hb1.block wr.heap.size (by omega)).trans hr0
    have hZ1 : ∀ k,(k < wr.heap.size + 1) -> k < ((wr.alloc (.cells #[.int .i64 x.i, .int .i64 x.t, .slice E x.d.length c] 117)).alloc (.cells #[.slice none 0 0, .bool false] 218)).heap.size := fun k hk => by simp; omega
    have hbb := hb0.trans (hb1.mono (by omega));have hB := qe2 2 (by omega) _ _ _ _ hO hZ1;rw [hz0'] at hB
    have HLG := Lib.hid (show ∀ (g : Nat) (off : Nat),0 < x.d.length -> E = some ⟨g,off,none⟩ -> g < wr.heap.size from fun g off h0 e => by
     obtain ⟨g',off',e',hg,_⟩ := hl.2.2.2 h0;rw [e] at e';injection e' with e';injection e' with e1 _
     omega)
    have HLL := Lib.hid hl;have HK := Lib.hid hk;have HX := Lib.hid hx;clear hO hb0 hb1 hr0 hz0' hZ0 hT hl hk hx hvat hvl htk hE htl
    go_wp2_with fail
    refine hB.mono ?_;rintro e w2 ⟨rfl,h2,k2⟩;have hr2 := (k2.block _ (hlt hr1) (by show wr.heap.size < wr.heap.size + 1; omega)).trans hr1;have hbw2 := qab hbb k2 (fun i hi => by show i < wr.heap.size + 1; omega) hbb.size;have hZ2 : ∀ k,(k < wr.heap.size + 1) -> k < w2.heap.size := fun k hk => Nat.lt_of_lt_of_le (hZ1 k hk) k2.size;have hL : Lies wr E x.d.length c x.d := HLL
    have hP := qjz x.i x.t E x.d.length c x.d w2 _ _ _ h2 hZ2 (by omega) (hL.below hbw2 (Nat.le_refl _)) (fun h0 g off e => by
     have hh : ∀ (g : Nat) (off : Nat),0 < x.d.length -> E = some ⟨g,off,none⟩ -> g < wr.heap.size := HLG;have := hh g off h0 e;show g < wr.heap.size + 1
     omega)
    obtain ⟨⟨a0,a1,a2⟩,_⟩ := row3 hr2;clear hB hr1 k2 hbb hZ1 x0 x1 x2
    go_wp2_with fail
    refine hP.mono ?_;rintro e w3 ⟨rfl,h3,k3⟩;have hbw3 := qab hbw2 k3 (fun i hi => by show i < wr.heap.size + 1; omega) hbw2.size;rw [qkJ x HX] at h3;have hE := qep w3 _ _ _ h3 hlen;clear hP h2 h3 k3 a0 a1 a2 hr2 hbw2 hZ2
    go_wp2_with fail
    refine hE.mono ?_;rintro e w4 ⟨A4,cap4,rfl,ho4,hb4⟩;have hb12 : Below wr.heap.size wr w4 := hbw3.trans (hb4.mono hbw3.size);obtain ⟨A4',cap4',he4,hl4,hq4⟩ := qp ho4;have hc4 : cap4 <= maxLen := qcl ho4;injection he4 with e1 e2 e3;subst e1 e3;have hof4 := ho4.lt
    have hown4 := qdt hown fun g hg => hb12.block g (hof g hg).2
    have hn4 : Hid ((entRec x).length <= 60000) := ⟨hlen⟩;obtain ⟨n,hn⟩ : ∃ n,Hid ((entRec x).length = n) := ⟨_,⟨rfl⟩⟩;rw [hn.out] at hl4;have hof5 := hof4;clear hE ho4 hof4 hlen;rw [hn.out]
    go_wp2_with (first
     | (at_builtin; refine wpList_append_lies _ rfl _ _ 127 rfl w.heap.size 23 i0 _ 1 24 Tryz.underlying127 hi0 hz0 hz1 hz2 rfl (by omega) (.slice A0 ts.length cap0) ts.length vs rfl (hown4.alloc _) ⟨w4.heap.size,0,none⟩ 1 1 [.slice A4 n cap4] rfl rfl (World.news_of_block (heap_alloc_new w4 _)) (by simp [Value.oneCell']) (by omega) (by unfold maxLen; omega) (by omega) (by have := hb12.size; simp; omega) (w4.heap.size + 1) (by simp) ?_
        intro g2 cap3 w5 ho5 hgr5 hat5 hlt5)
     | fail)
    have hrec : qn w5 w.heap.size (.slice (some ⟨g2,0,none⟩) (ts.length + 1) cap3) (ts ++ [entRec x]) := by
     have hz := hb12.size;refine qn.more (w := wr) (w1 := w4.alloc (.cells #[.slice A4 n cap4] 23)) hrow (hb12.alloc hb12.size _) (e := .slice A4 n cap4) ?_ hs0 vs HVL HV ho5 hgr5 (fun q hq => (hof q hq).2) ?_
     · refine ⟨A4,cap4,by rw [hn.out],hc4,?_,fun h0 g off e => ?_⟩
       · rw [hn.out];exact hl4.below ((Below.refl w4.heap.size w4).alloc (Nat.le_refl _) _) (Nat.le_refl _)
       · have h1 := (hof5 g (hq4 g off e)).1;have h2 := hbw3.size;omega
     · rcases hat5 with h | h
       · exact .inl h
       · exact .inr (by simp; omega)
    have hbw5 : Below w.heap.size w w5 := (hbw.trans ((hb12.alloc hb12.size _).mono hs0)).grown hgr5 (by have := hb12.size; simp; omega) fun q hq => (hof q hq).1;have HRE := Lib.hid hrec;have HB := Lib.hid hbw5;clear hrec hbw5 ho5 hgr5 hat5 hof hof5 hl4 hq4 hown4 hown hb12 hb4 hlt5;go_wp2
    go_roundg (gk - 1)
    case measure => have a1 : k + gk = len := HK; omega
    case rel =>
     have a1 : k + gk = len := HK;refine ⟨k + 1,ts ++ [entRec x],by omega,by go_num,⟨?_⟩,⟨HRE,HB⟩⟩;have e : (ls.take (k + 1)).map entRec = (ls.take k).map entRec ++ [entRec x] := HTK;rw [e,HTS.out]
  · obtain rfl : k = len := by omega
    have e : ts = ls.map entRec := by rw [HTS.out,List.take_of_length_le (by omega)]
    have HTL := Lib.hid htl;have HF := Lib.hid hT.row;have HB := Lib.hid hT.below;have HE := Lib.hid e;clear hT e htl HTS;go_wp2;go_ret;refine ⟨A0,cap0,?_,?_,HB⟩
    · have e : ts.length = k := HTL;rw [e]
      rfl
    · have e : ts.length = k := HTL;have e2 : ts = ls.map entRec := HE;have e3 : qn wr w.heap.size (.slice A0 ts.length cap0) ts := HF;rw [e,e2] at e3;exact e3
end Go.Proofs.YtogbhedbgcmckaaGreat
set_option linter.unusedVariables false
set_option linter.unusedSimpArgs false
set_option maxRecDepth 100000
set_option maxHeartbeats 200000
namespace Go.Proofs.YtogbhedbgcmckaaGreat
open Go.RowKit
end Go.Proofs.YtogbhedbgcmckaaGreat
