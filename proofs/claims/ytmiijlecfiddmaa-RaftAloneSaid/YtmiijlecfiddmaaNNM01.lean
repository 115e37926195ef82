/- Numbers as bytes, and what is taken of bytes. Plain mathematics (L03's XOctBase has the same words). -/
import Derived.WalkKit
import Derived.Laws.AppendOwn
import Derived.Deep.AppendLies
import Derived.OwnWalk
import Derived.Lib.AppendStr
import Derived.Maps.AppendAt
import Derived.ProofKit
import Derived.OpenShut
import Derived.Deep.Slices
import Derived.ChangeArms
import Derived.Deep.Fields
set_option linter.unusedVariables false
set_option linter.unusedSimpArgs false
set_option maxRecDepth 100000
set_option maxHeartbeats 200000
namespace Go.Proofs.Ytmiijlecfiddmaa
def wide (v : Nat) : Nat -> List UInt8
 | 0 => []
 | n + 1 => UInt8.ofNat (v / 256 ^ n) :: wide v n
@[simp] theorem qee (v n : Nat) : (wide v n).length = n := by
 induction n with
 | zero => rfl
 | succ n ih => simp [wide,ih]
end Go.Proofs.Ytmiijlecfiddmaa
set_option linter.unusedVariables false
set_option linter.unusedSimpArgs false
set_option maxRecDepth 100000
set_option maxHeartbeats 200000
namespace Go.Proofs.Ytmiijlecfiddmaa
def numB (n : Int) : Bool := decide (1 <= n) && decide (n <= 1099511627776)
def qv (i t : Int) (d : Nat) : Bool := numB i && numB t && decide (d <= 12000)
def qF (t v : Int) : Bool := decide (0 <= t) && (decide (t <= 1099511627776) && (decide (-1 <= v) && decide (v <= 2)))
def qG (i t : Int) (d : Nat) : Bool := if i = 0 /\ t = 0 then decide (d = 0) else numB i && numB t && decide (d <= 50000)
structure Ent where
 i : Int
 t : Int
 d : List UInt8
def qJ (i : Int) (l : List Ent) (k : Nat) : Int := if k = 0 then i else (l[k - 1]?.map Ent.i).getD 0
def qM (t : Int) (l : List Ent) (k : Nat) : Int := if k = 0 then t else (l[k - 1]?.map Ent.t).getD 0
def qK (i t : Int) (l : List Ent) (k : Nat) : Bool :=
 match l[k]? with
 | none => false
 | some e => qv e.i e.t e.d.length && (decide (qM t l k <= e.t) && decide (e.i = qJ i l k + 1))
def runB (i t : Int) (l : List Ent) : Bool := (List.range l.length).all (qK i t l)
theorem qW {i t : Int} {l : List Ent} (k : Nat) (hk : k < l.length) (h : qK i t l k = false) : runB i t l = false := by
 cases hr : runB i t l with
 | false => rfl
 | true =>
   have := List.all_eq_true.1 hr k (List.mem_range.2 hk)
   rw [h] at this
   cases this
theorem qbF {i t : Int} {l : List Ent} (h : ∀ k,k < l.length -> qK i t l k = true) : runB i t l = true :=
 List.all_eq_true.2 fun k hk => h k (List.mem_range.1 hk)
theorem qaW (i t : Int) (l : List Ent) (k : Nat) (hk : k < l.length) : qK i t l k = (qv l[k].i l[k].t l[k].d.length && (decide (qM t l k <= l[k].t) && decide (l[k].i = qJ i l k + 1))) := by
 unfold qK
 rw [List.getElem?_eq_getElem hk]
theorem qaE (i t : Int) (l : List Ent) (k : Nat) (hk : k < l.length) : qJ i l (k + 1) = l[k].i /\ qM t l (k + 1) = l[k].t := by
 simp [qJ,qM,List.getElem?_eq_getElem hk]
theorem qw (i t : Int) (d : Nat) : qv i t d = true ↔ (1 <= i /\ i <= 1099511627776) /\ (1 <= t /\ t <= 1099511627776) /\ d <= 12000 := by
 simp [qv,numB,and_assoc]
end Go.Proofs.Ytmiijlecfiddmaa
set_option linter.unusedVariables false
set_option linter.unusedSimpArgs false
set_option maxRecDepth 100000
set_option maxHeartbeats 200000
namespace Go.Proofs.Ytmiijlecfiddmaa
open Go.RowKit
abbrev u8 (b : UInt8) : Value := .int .u8 (b.toNat : Int)
abbrev cellsOf (l : List UInt8) : List Value := l.map u8
theorem qch (l : List UInt8) : ∀ u ∈ cellsOf l,u.oneCell' = true := by
 intro u hu
 obtain ⟨b,_,rfl⟩ := List.mem_map.1 hu
 rfl
structure qf (Z : Nat -> Prop) (w w' : World) : Prop where
 os : w'.os = w.os
 tape : w'.tape = w.tape
 output : w'.output = w.output
 size : w.heap.size <= w'.heap.size
 block : ∀ k,k < w.heap.size -> Z k -> w'.heap[k]? = w.heap[k]?
section
variable {Z Z' : Nat → Prop} {w w' w'' : World}
theorem qf.refl (Z : Nat -> Prop) (w : World) : qf Z w w := ⟨rfl,rfl,rfl,Nat.le_refl _,fun _ _ _ => rfl⟩
theorem qf.trans (h : qf Z w w') (k : qf Z w' w'') : qf Z w w'' :=
 ⟨k.os.trans h.os,k.tape.trans h.tape,k.output.trans h.output,Nat.le_trans h.size k.size,fun i hi hz => (k.block i (Nat.lt_of_lt_of_le hi h.size) hz).trans (h.block i hi hz)⟩
theorem qf.drew (h : qf Z w w') : qf Z w w'.drew := ⟨h.os,h.tape,h.output,h.size,h.block⟩
theorem qf.mono (h : qf Z w w') (hz : ∀ k,Z' k -> Z k) : qf Z' w w' := ⟨h.os,h.tape,h.output,h.size,fun k hk k2 => h.block k hk (hz k k2)⟩
theorem qe {B : Nat} (h : Below B w w') (hB : w.heap.size <= B) : qf Z w w' := ⟨h.os,h.tape,h.output,h.size,fun k hk _ => h.block k (Nat.lt_of_lt_of_le hk hB)⟩
theorem qg (w : World) (a : Addr) (u : Value) (h : ¬ Z a.block) : qf Z w (w.setCell a u) :=
 ⟨rfl,rfl,rfl,by simp,fun k _ hz => Below.heap_setCell _ _ _ _ (fun e => h (e ▸ hz))⟩
theorem qz (w : World) (o : Obj) : qf Z w (w.alloc o) := qe ((Below.refl _ _).alloc (Nat.le_refl _) _) (Nat.le_refl _)
theorem qf.cell (h : qf Z w w') {a : Addr} {v : Value} (hc : w.cell? a = some v) (hz : Z a.block) : w'.cell? a = some v := by
 have hlt : a.block < w.heap.size := by
  rcases Nat.lt_or_ge a.block w.heap.size with h' | h'
  · exact h'
  · simp [World.cell?,Array.getElem?_eq_none h'] at hc
 rw [World.cell?_of_block (w := w) (h.block _ hlt hz),hc]
theorem hlt {k : Nat} {o : Obj} (h : w.heap[k]? = some o) : k < w.heap.size := (Array.getElem?_eq_some_iff.1 h).1
theorem setCell_at (w : World) (a : Addr) (u : Value) (C : Array Value) (T : TypeId) (fr : Nat × Nat) (hs : a.spot = none) (h : w.heap[a.block]? = some (.cells C T fr)) :
 (w.setCell a u).heap[a.block]? = some (.cells (C.setIfInBounds a.off u) T fr) := by
 obtain ⟨b,off,spot⟩ := a
 obtain rfl : spot = none := hs
 have h' : w.heap[b]? = some (.cells C T fr) := h
 simp only [World.setCell,Array.getElem?_modify,if_true,h',Option.map_some]
 rfl
end
def Lies (w : World) (A : Option Addr) (len cap : Nat) (l : List UInt8) : Prop :=
 l.length = len /\ len <= cap /\ (A = none -> cap = 0) /\ (0 < len -> ∃ g off,A = some ⟨g,off,none⟩ /\ g < w.heap.size /\ ∀ j (hj : j < l.length),w.cell? ⟨g,off + j,none⟩ = some (u8 l[j]))
def Off (Z : Nat -> Prop) (A : Option Addr) (len : Nat) : Prop := 0 < len -> ∀ g off,A = some ⟨g,off,none⟩ -> ¬ Z g
section
set_option linter.unusedSectionVars false
variable {w w' : World} {A : Option Addr} {len cap : Nat} {l : List UInt8} {Z : Nat → Prop}
theorem Lies.nil (w : World) : Lies w none 0 0 [] := ⟨rfl,Nat.le_refl _,fun _ => rfl,fun h => absurd h (by omega)⟩
theorem Lies.keep (h : Lies w A len cap l) (hs : w.heap.size <= w'.heap.size) (hk : 0 < len -> ∀ g off,A = some ⟨g,off,none⟩ -> g < w.heap.size -> w'.heap[g]? = w.heap[g]?) : Lies w' A len cap l := by
 refine ⟨h.1,h.2.1,h.2.2.1,fun h0 => ?_⟩
 obtain ⟨g,off,rfl,hg,hc⟩ := h.2.2.2 h0
 exact ⟨g,off,rfl,Nat.lt_of_lt_of_le hg hs,fun j hj => (World.cell?_of_block (w := w) (hk h0 g off rfl hg)).trans (hc j hj)⟩
theorem Lies.below (h : Lies w A len cap l) {B : Nat} (hb : Below B w w') (hB : w.heap.size <= B) : Lies w' A len cap l :=
 h.keep hb.size fun _ g _ _ hg => hb.block g (Nat.lt_of_lt_of_le hg hB)
theorem Lies.keeps (h : Lies w A len cap l) (hk : qf Z w w') (hz : 0 < len -> ∀ g off,A = some ⟨g,off,none⟩ -> Z g) : Lies w' A len cap l :=
 h.keep hk.size fun h0 g off e hg => hk.block g hg (hz h0 g off e)
theorem Lies.grown (h : Lies w A len cap l) {row : Option Nat} (hg : w.grownBy w' row) (hz : ∀ i,row = some i -> Off (· = i) A len) : Lies w' A len cap l :=
 h.keep hg.size fun h0 g off e hlt => hg.block g hlt fun er => hz g er.symm h0 g off e rfl
def Owns (T : TypeId) (w : World) (base : Nat) (v : Value) (l : List UInt8) : Prop := w.ownsRow base T 1 v l.length (cellsOf l)
theorem Owns.keep {T : TypeId} {base : Nat} {v : Value} (h : Owns T w base v l) (hk : ∀ g,v.ownBlock = some g -> w'.heap[g]? = w.heap[g]?) : Owns T w' base v l := by
 rcases h.2 with ⟨e,h0⟩ | ⟨g,cap,cur,e,hb,hg,r⟩
 · exact ⟨h.1, .inl ⟨e,h0⟩⟩
 · exact ⟨h.1, .inr ⟨g,cap,cur,e,hb,(hk g (by rw [e]; rfl)).trans hg,r⟩⟩
theorem Owns.lt {T : TypeId} {base : Nat} {v : Value} (h : Owns T w base v l) : ∀ k,v.ownBlock = some k -> base <= k /\ k < w.heap.size := World.ownsRow.lt h
theorem Owns.nil (T : TypeId) (w : World) (base : Nat) : Owns T w base (.slice none 0 0) [] := World.ownsRow_nil _ _ _ _
theorem qaF {T : TypeId} {base : Nat} {v : Value} (h : Owns T w base v l) : ∃ A cap,v = .slice A l.length cap /\ Lies w A l.length cap l ∧
 (∀ g off,A = some ⟨g,off,none⟩ -> v.ownBlock = some g) := by
 rcases h.2 with ⟨rfl,h0⟩ | ⟨g,cap,cur,rfl,hb,hg,hc,hm,hs,ht⟩
 · refine ⟨none,0,by rw [h0],⟨rfl,by omega,fun _ => rfl,fun h => by omega⟩,fun g off e => by cases e⟩
 · refine ⟨some ⟨g,0,none⟩,cap,rfl,⟨rfl,hc,(fun h => by cases h),fun _ => ⟨g,0,rfl,hlt hg,fun j hj => ?_⟩⟩,fun g' off e => by injection e with e; injection e with e; rw [<- e]; rfl⟩
   rw [cell_of_row w g _ cur T (0,0) hg,Nat.zero_add]
   have := congrArg (fun q => q[j]?) ht
   simp only [List.getElem?_take,List.getElem?_map,List.getElem?_eq_getElem hj,Option.map_some] at this
   rw [if_pos (by omega)] at this
   simpa using this
theorem Owns.form {T : TypeId} {base n : Nat} {A : Option Addr} (h : Owns T w base (.slice A n cap) l) (h0 : 0 < l.length) : ∃ g cur,A = some ⟨g,0,none⟩ /\ n = l.length /\ base <= g /\ w.heap[g]? = some (.cells cur T (0,0)) /\ l.length <= cap /\ cap <= maxLen /\ cur.size = cap /\ cur.toList.take l.length = cellsOf l := by
 rcases h.2 with ⟨e,h1⟩ | ⟨g,cap',cur,e,hb,hg,hc,hm,hs,ht⟩
 · omega
 · injection e with e1 e2 e3
   subst e1 e3
   exact ⟨g,cur,rfl,e2,hb,hg,hc,hm,by simpa using hs,by simpa using ht⟩
theorem Owns.at_ {T : TypeId} {base n : Nat} {A : Option Addr} (h : Owns T w base (.slice A n cap) l) (j : Nat) (hj : j < l.length) : ∃ g,A = some ⟨g,0,none⟩ /\ base <= g /\ g < w.heap.size /\ w.cell? ⟨g,j,none⟩ = some (u8 l[j]) /\ w.frozen? ⟨g,j,none⟩ = false := by
 obtain ⟨g,cur,rfl,_,hb,hg,hc,hm,hs,ht⟩ := h.form (by omega)
 refine ⟨g,rfl,hb,hlt hg,?_,by simp [World.frozen?,hg]⟩
 rw [cell_of_row w g _ cur T (0,0) hg]
 have := congrArg (fun q => q[j]?) ht
 simp only [List.getElem?_take,List.getElem?_map,List.getElem?_eq_getElem hj,Option.map_some] at this
 rw [if_pos hj] at this
 simpa using this
theorem Lies.lit (w : World) (z : Int) (b : UInt8) (T : TypeId) (h : z = (b.toNat : Int)) : Lies (w.alloc (.cells #[.int .u8 z] T)) (some ⟨w.heap.size,0,none⟩) 1 1 [b] := by
 subst h
 refine ⟨rfl,Nat.le_refl _,(fun h => by cases h),fun _ => ⟨w.heap.size,0,rfl,by simp,fun j hj => ?_⟩⟩
 obtain rfl : j = 0 := by simpa using hj
 rw [cell_of_row _ _ _ _ _ _ (heap_alloc_new w _)]
 rfl
theorem Lies.drew (h : Lies w A len cap l) : Lies w.drew A len cap l := h
theorem Lies.cell (h : Lies w A len cap l) (j : Nat) (hj : j < l.length) : ∃ g off,A = some ⟨g,off,none⟩ /\ g < w.heap.size /\ w.cell? ⟨g,off + j,none⟩ = some (u8 l[j]) := by
 obtain ⟨g,off,e,hg,hc⟩ := h.2.2.2 (by have := h.1; omega)
 exact ⟨g,off,e,hg,hc j hj⟩
theorem Lies.text (h : Lies w A len cap l) {P : Program} {src dst e : TypeId} (hs : P.underlying src = some (.slice e)) (he : P.underlying e = some (.int .u8)) (hd : P.underlying dst = some .string) :
 (convert src dst (.slice A len cap)).run P w = .ok (.string ⟨l.toArray⟩) w := by
 obtain ⟨rfl,h2,h3,h4⟩ := h
 by_cases h0 : 0 < l.length
 · obtain ⟨g,off,rfl,hg,hc⟩ := h4 h0
   exact run_convert_bytes_back w src dst e ⟨g,off,none⟩ cap l hs he hd (fun j hj => by rw [Addr.add_lit]; exact hc j hj)
 · obtain rfl : l = [] := List.eq_nil_of_length_eq_zero (by omega)
   cases A with
   | none =>
     have := run_convert_bytes_nil (P := P) w src e hs he 0 cap dst hd
     exact this
   | some a => exact run_convert_bytes_back w src dst e a cap [] hs he hd (fun j hj => by simp at hj)
theorem Lies.take (h : Lies w A len cap l) (n : Nat) (hn : n <= len) : Lies w A n cap (l.take n) := by
 obtain ⟨rfl,h2,h3,h4⟩ := h
 refine ⟨by simp; omega,by omega,h3,fun h0 => ?_⟩
 obtain ⟨g,off,e,hg,hc⟩ := h4 (by omega)
 refine ⟨g,off,e,hg,fun j hj => ?_⟩
 have hj' : j < l.length := by simp at hj; omega
 rw [hc j hj',List.getElem_take]
def qa5 (A : Option Addr) (cap n : Nat) : Option Addr := if cap = n then A else A.map (·.add n)
theorem qcx (g off cap n : Nat) (h : cap ≠ n) : qa5 (some ⟨g,off,none⟩) cap n = some ⟨g,off + n,none⟩ := by
 simp [qa5,h,Addr.add_lit]
theorem Lies.drop (h : Lies w A len cap l) (n : Nat) (hn : n <= len) : Lies w (qa5 A cap n) (len - n) (cap - n) (l.drop n) := by
 obtain ⟨rfl,h2,h3,h4⟩ := h
 refine ⟨by simp,by omega,fun h => ?_,fun h0 => ?_⟩
 · unfold qa5 at h
   split at h
   · omega
   · cases A with
     | none => have := h3 rfl; omega
     | some a => cases h
 · obtain ⟨g,off,rfl,hg,hc⟩ := h4 (by omega)
   refine ⟨g,off + n,qcx _ _ _ _ (by omega),hg,fun j hj => ?_⟩
   have hj' : n + j < l.length := by simp at hj; omega
   rw [Nat.add_assoc,hc (n + j) hj',List.getElem_drop]
end
end Go.Proofs.Ytmiijlecfiddmaa
set_option linter.unusedVariables false
set_option linter.unusedSimpArgs false
set_option maxRecDepth 100000
set_option maxHeartbeats 200000
namespace Go.Proofs.Ytmiijlecfiddmaa
open Go.ChangeShapes Go.WideShapes Go.ChangeAt Go.RowKit Go.Deep
section
variable {H : Type} {enc : TypeId × Value → H} {P : Program} {W : World} {sp : Nat → Bool} {hd : Bool}
theorem qco (a : Addr) (i j : Nat) : (a.add i).add j = a.add (i + j) := by
 unfold Addr.add
 by_cases hi : i = 0 <;> by_cases hj : j = 0 <;> simp [hi,hj,Nat.add_assoc]
theorem qaX (b off n : Nat) : (⟨b,off,none⟩ : Addr).add n = ⟨b,off + n,none⟩ := by
 unfold Addr.add
 by_cases hn : n = 0 <;> simp [hn]
end
end Go.Proofs.Ytmiijlecfiddmaa
