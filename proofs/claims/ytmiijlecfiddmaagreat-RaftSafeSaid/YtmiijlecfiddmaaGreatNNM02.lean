/- Bytes in memory: slices, rows of the call's own, frames by a set. -/
import Derived.Test.YtmiijlecfiddmaaGreatNNM01
import Derived.WalkKit
import Derived.Laws.AppendOwn
import Derived.Deep.AppendLies
import Derived.OwnWalk
import Derived.Lib.AppendStr
import Derived.Maps.AppendAt
import Derived.ProofKit
import Derived.OpenShut
import Derived.Deep.Slices
import Derived.ChangeArms
import Derived.Deep.Fields
import Derived.Test.YtmiijlecfiddmaaGreatRows
import Derived.WalkSpells
import Derived.WalkLawsBesides
import Derived.KernelRfl
import Derived.BigQuiet
import Derived.IntWalk
import Derived.ChangeMaps5
import Derived.Lib.Hide
import Derived.Deep.LoopGhost
import Derived.Laws.Rows
import Derived.Laws.ResultCell
import Derived.Deep.RegionWith
import Derived.Laws.OwnMore
set_option linter.unusedVariables false
set_option linter.unusedSimpArgs false
set_option maxRecDepth 100000
set_option maxHeartbeats 200000
namespace Go.Proofs.YtmiijlecfiddmaaGreat
open Go.RowKit
structure Hid (p : Prop) : Prop where
 out : p
abbrev u8 (b : UInt8) : Value := .int .u8 (b.toNat : Int)
abbrev cellsOf (l : List UInt8) : List Value := l.map u8
theorem qf9 (l : List UInt8) : ∀ u ∈ cellsOf l,u.oneCell' = true := by
 intro u hu;obtain ⟨b,_,rfl⟩ := List.mem_map.1 hu
 rfl
structure qf (Z : Nat -> Prop) (w w' : World) : Prop where
 os : w'.os = w.os
 tape : w'.tape = w.tape
 output : w'.output = w.output
 size : w.heap.size <= w'.heap.size
 block : ∀ k,k < w.heap.size -> Z k -> w'.heap[k]? = w.heap[k]?
section
variable {Z Z' : Nat → Prop} {w w' w'' : World}
theorem qf.refl (Z : Nat -> Prop) (w : World) : qf Z w w := ⟨rfl,rfl,rfl,Nat.le_refl _,fun _ _ _ => rfl⟩
theorem qf.trans (h : qf Z w w') (k : qf Z w' w'') : qf Z w w'' :=
 ⟨k.os.trans h.os,k.tape.trans h.tape,k.output.trans h.output,Nat.le_trans h.size k.size,fun i hi hz => (k.block i (Nat.lt_of_lt_of_le hi h.size) hz).trans (h.block i hi hz)⟩
theorem qf.drew (h : qf Z w w') : qf Z w w'.drew := ⟨h.os,h.tape,h.output,h.size,h.block⟩
theorem qf.mono (h : qf Z w w') (hz : ∀ k,Z' k -> Z k) : qf Z' w w' := ⟨h.os,h.tape,h.output,h.size,fun k hk k2 => h.block k hk (hz k k2)⟩
theorem keeps_below {B : Nat} (h : Below B w w') (hB : w.heap.size <= B) : qf Z w w' := ⟨h.os,h.tape,h.output,h.size,fun k hk _ => h.block k (Nat.lt_of_lt_of_le hk hB)⟩
theorem qk (w : World) (a : Addr) (u : Value) (h : ¬ Z a.block) : qf Z w (w.setCell a u) :=
 ⟨rfl,rfl,rfl,by simp,fun k _ hz => Below.heap_setCell _ _ _ _ (fun e => h (e ▸ hz))⟩
theorem qai (w : World) (o : Obj) : qf Z w (w.alloc o) := keeps_below ((Below.refl _ _).alloc (Nat.le_refl _) _) (Nat.le_refl _)
theorem qf.cell (h : qf Z w w') {a : Addr} {v : Value} (hc : w.cell? a = some v) (hz : Z a.block) : w'.cell? a = some v := by
 have hlt : a.block < w.heap.size := by
  rcases Nat.lt_or_ge a.block w.heap.size with h' | h'
  · exact h'
  · simp [World.cell?,Array.getElem?_eq_none h'] at hc
 rw [World.cell?_of_block (w := w) (h.block _ hlt hz),hc]
theorem hlt {k : Nat} {o : Obj} (h : w.heap[k]? = some o) : k < w.heap.size := (Array.getElem?_eq_some_iff.1 h).1
theorem setCell_at (w : World) (a : Addr) (u : Value) (C : Array Value) (T : TypeId) (fr : Nat × Nat) (hs : a.spot = none) (h : w.heap[a.block]? = some (.cells C T fr)) :
 (w.setCell a u).heap[a.block]? = some (.cells (C.setIfInBounds a.off u) T fr) := by
 obtain ⟨b,off,spot⟩ := a;obtain rfl : spot = none := hs;have h' : w.heap[b]? = some (.cells C T fr) := h;simp only [World.setCell,Array.getElem?_modify,if_true,h',Option.map_some]
 rfl
theorem stq {w : World} {g : Nat} {C C' : Array Value} {T : TypeId} {o : Nat × Nat} (j : Nat) (v : Value) (h : w.heap[g]? = some (.cells C T o)) (hC : C.setIfInBounds j v = C' := by first | (simp only [lpq]; rfl) | (simp only [lpq]; done) | rfl) : (w.setCell ⟨g, j, none⟩ v).heap[g]? = some (.cells C' T o) := by
  rw [← hC]; exact setCell_at w ⟨g, j, none⟩ v _ _ _ rfl h
end
def Lies (w : World) (A : Option Addr) (len cap : Nat) (l : List UInt8) : Prop :=
 l.length = len /\ len <= cap /\ (A = none -> cap = 0) /\ (0 < len -> ∃ g off,A = some ⟨g,off,none⟩ /\ g < w.heap.size /\ ∀ j (hj : j < l.length),w.cell? ⟨g,off + j,none⟩ = some (u8 l[j]))
section
set_option linter.unusedSectionVars false
variable {w w' : World} {A : Option Addr} {len cap : Nat} {l : List UInt8} {Z : Nat → Prop}
theorem Lies.nil (w : World) : Lies w none 0 0 [] := ⟨rfl,Nat.le_refl _,fun _ => rfl,fun h => absurd h (by omega)⟩
theorem Lies.keep (h : Lies w A len cap l) (hs : w.heap.size <= w'.heap.size) (hk : 0 < len -> ∀ g off,A = some ⟨g,off,none⟩ -> g < w.heap.size -> w'.heap[g]? = w.heap[g]?) : Lies w' A len cap l := by
 refine ⟨h.1,h.2.1,h.2.2.1,fun h0 => ?_⟩;obtain ⟨g,off,rfl,hg,hc⟩ := h.2.2.2 h0;exact ⟨g,off,rfl,Nat.lt_of_lt_of_le hg hs,fun j hj => (World.cell?_of_block (w := w) (hk h0 g off rfl hg)).trans (hc j hj)⟩
theorem Lies.below (h : Lies w A len cap l) {B : Nat} (hb : Below B w w') (hB : w.heap.size <= B) : Lies w' A len cap l :=
 h.keep hb.size fun _ g _ _ hg => hb.block g (Nat.lt_of_lt_of_le hg hB)
theorem Lies.keeps (h : Lies w A len cap l) (hk : qf Z w w') (hz : 0 < len -> ∀ g off,A = some ⟨g,off,none⟩ -> Z g) : Lies w' A len cap l :=
 h.keep hk.size fun h0 g off e hg => hk.block g hg (hz h0 g off e)
def Owns (T : TypeId) (w : World) (base : Nat) (v : Value) (l : List UInt8) : Prop := w.ownsRow base T 1 v l.length (cellsOf l)
theorem Owns.lt {T : TypeId} {base : Nat} {v : Value} (h : Owns T w base v l) : ∀ k,v.ownBlock = some k -> base <= k /\ k < w.heap.size := World.ownsRow.lt h
theorem Owns.nil (T : TypeId) (w : World) (base : Nat) : Owns T w base (.slice none 0 0) [] := World.ownsRow_nil _ _ _ _
theorem qcs {T : TypeId} {base : Nat} {v : Value} (h : Owns T w base v l) : ∃ A cap,v = .slice A l.length cap /\ Lies w A l.length cap l ∧
 (∀ g off,A = some ⟨g,off,none⟩ -> v.ownBlock = some g) := by
 rcases h.2 with ⟨rfl,h0⟩ | ⟨g,cap,cur,rfl,hb,hg,hc,hm,hs,ht⟩
 · refine ⟨none,0,by rw [h0],⟨rfl,by omega,fun _ => rfl,fun h => by omega⟩,fun g off e => by cases e⟩
 · refine ⟨some ⟨g,0,none⟩,cap,rfl,⟨rfl,hc,(fun h => by cases h),fun _ => ⟨g,0,rfl,hlt hg,fun j hj => ?_⟩⟩,fun g' off e => by injection e with e; injection e with e; rw [<- e]; rfl⟩;rw [cell_of_row w g _ cur T (0,0) hg,Nat.zero_add];have := congrArg (fun q => q[j]?) ht;simp only [List.getElem?_take,List.getElem?_map,List.getElem?_eq_getElem hj,Option.map_some] at this;rw [if_pos (by omega)] at this
   simpa using this
theorem Lies.text (h : Lies w A len cap l) {P : Program} {src dst e : TypeId} (hs : P.underlying src = some (.slice e)) (he : P.underlying e = some (.int .u8)) (hd : P.underlying dst = some .string) :
 (convert src dst (.slice A len cap)).run P w = .ok (.string ⟨l.toArray⟩) w := by
 obtain ⟨rfl,h2,h3,h4⟩ := h
 by_cases h0 : 0 < l.length
 · obtain ⟨g,off,rfl,hg,hc⟩ := h4 h0;exact run_convert_bytes_back w src dst e ⟨g,off,none⟩ cap l hs he hd (fun j hj => by rw [Addr.add_lit]; exact hc j hj)
 · obtain rfl : l = [] := List.eq_nil_of_length_eq_zero (by omega)
   cases A with
   | none =>
     have := run_convert_bytes_nil (P := P) w src e hs he 0 cap dst hd;exact this
   | some a => exact run_convert_bytes_back w src dst e a cap [] hs he hd (fun j hj => by simp at hj)
end
end Go.Proofs.YtmiijlecfiddmaaGreat
set_option linter.unusedVariables false
set_option linter.unusedSimpArgs false
set_option maxRecDepth 100000
set_option maxHeartbeats 200000
namespace Go.Proofs.YtmiijlecfiddmaaGreat
open Go.ChangeShapes Go.WideShapes Go.ChangeAt Go.RowKit Go.Deep
section
variable {H : Type} {enc : TypeId × Value → H} {P : Program} {W : World} {sp : Nat → Bool} {hd : Bool}
theorem qkc (a : Addr) (i j : Nat) : (a.add i).add j = a.add (i + j) := by
 unfold Addr.add
 by_cases hi : i = 0 <;> by_cases hj : j = 0 <;> simp [hi,hj,Nat.add_assoc]
theorem qeX (b off n : Nat) : (⟨b,off,none⟩ : Addr).add n = ⟨b,off + n,none⟩ := by
 unfold Addr.add
 by_cases hn : n = 0 <;> simp [hn]
end
end Go.Proofs.YtmiijlecfiddmaaGreat
set_option linter.unusedVariables false
set_option linter.unusedSimpArgs false
set_option maxRecDepth 100000
set_option maxHeartbeats 200000
namespace Go.Proofs.YtmiijlecfiddmaaGreat
open Go.ChangeShapes Go.WideShapes Go.ChangeAt Go.RowKit Go.Deep
theorem qkd : (Tryz.prog.info? 5).map (fun i => (i.zero,i.size,i.bytes)) = some (some (.int .u8 0),1,1) := by kernel_rfl
theorem qeY {P : Program} (w : World) (t ty e : TypeId) (i : TypeInfo) (ht : P.underlying t = some (.slice e)) (hi : P.info? e = some i) (hz : i.zero = some (.int .u8 0)) (hsize : i.size = 1) (hby : i.bytes = 1)
 (base : Nat) (hbase : base <= w.heap.size) (v : Value) (l : List UInt8) (hown : Owns e w base v l) (A : Option Addr) (len cap : Nat) (new : List UInt8) (hx : Lies w A len cap new) (hf : (l ++ new).length <= 140737488355328) :
 ∃ v' w',(Builtin.append_ #[t,t] ty #[v, .slice A len cap]).run P w = .ok v' w' /\ Owns e w' base v' (l ++ new) /\ w.grownBy w' v.ownBlock /\ (v'.ownBlock = v.ownBlock \/ v'.ownBlock = some w.heap.size) := by
 obtain ⟨rfl,h2,h3,h4⟩ := hx
 have hl : l.length + new.length = (l ++ new).length := by simp
 have hc : cellsOf l ++ cellsOf new = cellsOf (l ++ new) := by simp [cellsOf]
 cases A with
 | none =>
   have := h3 rfl;obtain rfl : new = [] := List.eq_nil_of_length_eq_zero (by omega);obtain rfl : cap = 0 := this;exact ⟨v,w,run_append_owned_none (P := P) (w := w) base t ty e i 1 ht hi v _ _ hown,by simpa using hown,World.grownBy.refl _ _, .inl rfl⟩
 | some a =>
   have hcell : ∀ j u,(cellsOf new)[j]? = some u -> w.cell? (a.add j) = some u := fun j u hj => by
    have hjl : j < new.length := by simpa using (List.getElem?_eq_some_iff.1 hj).1
    obtain ⟨g,off,e,_,hc⟩ := h4 (by omega);injection e with e;subst e;rw [Addr.add_lit,hc j hjl];simp only [List.getElem?_map,List.getElem?_eq_getElem hjl,Option.map_some] at hj;exact hj
   obtain ⟨v',w',hr,p2,p3,_,p5⟩ := run_append_own_at (P := P) w base t ty e i (.int .u8 0) 1 1 ht hi hz hsize hby rfl (by omega) v l.length (cellsOf l) hown a new.length cap (cellsOf new) (by simp) hcell (qf9 new) (by unfold maxLen; omega) (by omega) hbase;rw [hl,hc] at p2;exact ⟨v',w',hr,p2,p3,p5⟩
theorem qcr {P : Program} (w : World) {ops : Array Oper} {rest : List Oper} {o : Oper} {a : Act} {Q : Exit -> Act -> World -> Prop} (hgd : o.guard = none) (sl x : Operand) (t : TypeId)
 (ho : o.op = .call { callee := .builtin .append,args := #[sl,x],argTypes := #[t,t] })
 (e : TypeId) (i : TypeInfo) (ht : P.underlying t = some (.slice e)) (hi : P.info? e = some i) (hz : i.zero = some (.int .u8 0)) (hsize : i.size = 1) (hby : i.bytes = 1)
 (base : Nat) (hbase : base <= w.heap.size) (v : Value) (l : List UInt8) (hs : a.eval sl = v) (hown : Owns e w base v l) (A : Option Addr) (len cap : Nat) (new : List UInt8) (hx : a.eval x = .slice A len cap) (hlies : Lies w A len cap new) (hf : (l ++ new).length <= 140737488355328)
 (h : ∀ v' w',Owns e w' base v' (l ++ new) -> w.grownBy w' v.ownBlock -> (v'.ownBlock = v.ownBlock \/ v'.ownBlock = some w.heap.size) -> wpList P ops Q rest (a.put o.dst v') w') : wpList P ops Q (o :: rest) a w := by
 refine wpList_plain hgd fun K hK => ?_;obtain ⟨v',w',hr,h2,h3,h4⟩ := qeY (P := P) w t o.type e i ht hi hz hsize hby base hbase v l hown A len cap new hlies hf;unfold Oper.wp execOp;simp only [ho,resolve,invoke,builtin,Sem.run_bind,Sem.run_pure,Result.andThen_ok,List.map_toArray,List.map_cons,List.map_nil,hs,hx,hr];exact hK _ _ (h v' w' h2 h3 h4)
theorem qct {n : Int} (h : (Lit.int .u8 n).wf = true) : 0 <= n /\ n < 256 := by
 have : 0 <= n /\ n <= 255 := by simpa [Lit.wf,IntKind.min,IntKind.max,IntKind.bits,IntKind.signed] using h
 omega
section
variable {H : Type} {enc : TypeId × Value → H} {W : World} {sp : Nat → Bool} {hd : Bool}
theorem qeZ {P : Program} {t e : TypeId} {C base : Nat} {v : Value} {d : DataW H} {p : List MemPlace} (ht : P.underlying t = some (.slice e)) (hC : P.cellsOf e = C) (h0 : 0 < C)
 (hok : Value.okWide P W .any base t v) (h : DataW.Trod enc P W 0 sp hd t v d p) (hlt : ∀ x ∈ p,x.block < W.heap.size) :
 ∃ (A : Option Addr) (len cap n : Nat) (Cs : Nat -> List Value) (D : Nat -> DataW H),v = .slice A len cap /\ len <= cap /\ cap <= maxLen ∧
  (0 < len -> ∃ b off,A = some ⟨b,off,none⟩ /\ b < W.heap.size /\ ∀ j,j < len -> ∀ i u,(Cs j)[i]? = some u -> W.cell? ⟨b,off + j * C + i,none⟩ = some u) ∧
  ∀ j,j < len -> (Cs j).length = C /\ ∃ pl,DataW.trod enc P W 0 sp hd n e (Cs j) = some (D j,pl) /\ ∀ x ∈ pl,x.block < W.heap.size := by
 obtain ⟨A,len,cap,rfl⟩ := okWide_slice ht hok;obtain ⟨fuel,hf⟩ := h;rcases open_slice ht hf with ⟨hcs,hx⟩ | ⟨a,len',cap',m,n,D,Pl,hcs,hb,hl,hm,hmm,hx,hi⟩
 · simp [Value.cells] at hcs
   obtain ⟨rfl,rfl,rfl⟩ := hcs;exact ⟨none,0,0,0,fun _ => [],fun _ => .nil,rfl,Nat.le_refl _,Nat.zero_le _,fun h => absurd h (by omega),fun j hj => absurd hj (by omega)⟩
 · simp [Value.cells] at hcs
   obtain ⟨rfl,rfl,rfl⟩ := hcs;simp only [Prod.mk.injEq] at hx
   have hlm : len <= m := by rw [hmm]; split <;> omega
   obtain ⟨Cs,hCs⟩ := Classical.axiomOfChoice (r := fun i cs' => i < m -> W.cells? 0 (a.add (i * P.cellsOf e)) (P.cellsOf e) = some cs' /\ DataW.trod enc P W 0 sp hd n e cs' = some (D i,Pl i)) (fun i => by
    by_cases him : i < m
    · obtain ⟨cs',h1,h2⟩ := hi i him;exact ⟨cs',fun _ => ⟨h1,h2⟩⟩
    · exact ⟨[],fun h => absurd h him⟩)
   rw [hC] at hCs;refine ⟨some a,len,cap,n,Cs,D,rfl,hl,hm,fun hpos => ?_,fun j hj => ?_⟩
   · have hcell : ∀ j,j < len -> ∀ i u,(Cs j)[i]? = some u -> W.cell? (a.add (j * C + i)) = some u := fun j hj i u hu => by
      obtain ⟨hc,_⟩ := hCs j (by omega);obtain ⟨_,hcl,hat⟩ := World.cells?_some hc
      have hic : i < C := by
       rcases Nat.lt_or_ge i (Cs j).length with h1 | h1
       · omega
       · rw [List.getElem?_eq_none h1] at hu; cases hu
      have := hat i hic;rw [qkc] at this;rw [this,hu]
     obtain ⟨b,off,spot⟩ := a;obtain ⟨hc0,_⟩ := hCs 0 (by omega);obtain ⟨_,hcl0,_⟩ := World.cells?_some hc0;have g0 : (Cs 0)[0]? = some ((Cs 0)[0]'(by omega)) := List.getElem?_eq_getElem (by omega)
     have hspot : spot = none := by simpa [Addr.add] using World.cell?_spot (hcell 0 hpos 0 _ g0)
     subst hspot;refine ⟨b,off,rfl,?_,fun j hj i u hu => ?_⟩
     · have hin : MemPlace.cell b off ∈ p := by
        rw [hx.2];refine List.mem_append_left _ (MemPlace.mem_row.2 ⟨0,?_,by simp⟩);rw [hC]; exact Nat.mul_pos (by omega) h0
       exact hlt _ hin
     · have := hcell j hj i u hu;rw [qeX,<- Nat.add_assoc] at this;exact this
   · obtain ⟨hc,hdt⟩ := hCs j (by omega);obtain ⟨_,hcl,_⟩ := World.cells?_some hc;exact ⟨hcl,Pl j,hdt,fun x hx' => hlt x (by rw [hx.2]; exact List.mem_append_right _ (List.mem_flatMap.2 ⟨j,by simp; omega,hx'⟩))⟩
theorem qeC {P : Program} {e : TypeId} {fs : Array Field} {n base : Nat} {cs : List Value} {x : DataW H × List MemPlace} (he : P.underlying e = some (.struct fs)) (hone : oneCellFields P fs = true) (hl : cs.length = fs.size)
 (h : DataW.trod enc P W base sp hd n e cs = some x) (hlt : ∀ y ∈ x.2,y.block < W.heap.size) : ∃ m,∀ (j : Nat) (f : Field),fs[j]? = some f -> ∃ v y,cs[j]? = some v /\ DataW.trod enc P W base sp hd m f.type [v] = some y /\ ∀ q ∈ y.2,q.block < W.heap.size := by
 obtain ⟨ys,m,_,hx,_,hyl,hf⟩ := DataW.trod_struct he h;refine ⟨m,fun j f hj => ?_⟩;obtain ⟨ho,hk⟩ := hone_of hone j f hj;have hjl : j < fs.size := (Array.getElem?_eq_some_iff.1 hj).1;have h1 := hf j f hj;rw [ho,hk,List.drop_eq_getElem_cons (by omega)] at h1;have h2 : DataW.trod enc P W base sp hd m f.type [cs[j]'(by omega)] = ys[j]? := h1;rw [List.getElem?_eq_getElem (by omega)] at h2;refine ⟨_,_,List.getElem?_eq_getElem (by omega),h2,fun q hq => hlt q ?_⟩;rw [hx];exact List.mem_flatMap.2 ⟨_,List.getElem_mem (by omega),hq⟩
theorem qke {P : Program} {t e : TypeId} {k : IntKind} {m : Nat} {v : Value} {y : DataW H × List MemPlace} (ht : P.underlying t = some (.slice e)) (he : P.underlying e = some (.int k)) (hC : P.cellsOf e = 1)
 (h : DataW.trod enc P W 0 sp hd m t [v] = some y) (hlt : ∀ q ∈ y.2,q.block < W.heap.size) :
 ∃ (A : Option Addr) (len cap : Nat) (Z : Nat -> Int),v = .slice A len cap /\ len <= cap /\ cap <= maxLen /\ (A = none -> cap = 0) ∧
  (0 < len -> ∃ b off,A = some ⟨b,off,none⟩ /\ b < W.heap.size /\ ∀ j,j < len -> W.cell? ⟨b,off + j,none⟩ = some (.int k (Z j))) /\ ∀ j,j < len -> (Lit.int k (Z j)).wf = true := by
 rcases open_slice1 ht hC h with ⟨hcs,hx⟩ | ⟨a,len,cap,m,n,V,D,Pl,hcs,hb,hl,hm,hmm,hx,hi⟩
 · simp at hcs;subst hcs;exact ⟨none,0,0,fun _ => 0,rfl,Nat.le_refl _,Nat.zero_le _,fun _ => rfl,fun h => absurd h (by omega),fun j hj => absurd hj (by omega)⟩
 · simp at hcs;subst hcs
   have hlm : len <= m := by rw [hmm]; split <;> omega
   obtain ⟨S,hS⟩ := Classical.axiomOfChoice (r := fun j z => j < len -> V j = .int k z /\ (Lit.int k z).wf = true) (fun j => by
    by_cases hj : j < len
    · obtain ⟨s,h1,_,h3⟩ := DataW.trod_int he (hi j (by omega)).2;simp at h1;exact ⟨s,fun _ => ⟨h1,h3⟩⟩
    · exact ⟨0,fun h => absurd h hj⟩)
   refine ⟨some a,len,cap,S,rfl,hl,hm,(fun h => by cases h),fun hpos => ?_,fun j hj => (hS j hj).2⟩;obtain ⟨b,off,spot⟩ := a;have hc0 := (hi 0 (by omega)).1
   have hspot : spot = none := by simpa [Addr.add] using World.cell?_spot hc0
   subst hspot;refine ⟨b,off,rfl,?_,fun j hj => ?_⟩
   · refine hlt (MemPlace.cell b off) ?_;rw [hx];exact List.mem_append_left _ (MemPlace.mem_row.2 ⟨0,by omega,by simp⟩)
   · have := (hi j (by omega)).1;rw [qeX] at this;rw [this,(hS j hj).1]
theorem qjg {P : Program} {t e : TypeId} {m : Nat} {v : Value} {y : DataW H × List MemPlace} (ht : P.underlying t = some (.slice e)) (he : P.underlying e = some (.int .u8)) (hC : P.cellsOf e = 1)
 (h : DataW.trod enc P W 0 sp hd m t [v] = some y) (hlt : ∀ q ∈ y.2,q.block < W.heap.size) :
 ∃ (A : Option Addr) (len cap : Nat) (l : List UInt8),v = .slice A len cap /\ cap <= maxLen /\ Lies W A len cap l /\ (0 < len -> ∀ a,A = some a -> a.block < W.heap.size) := by
 obtain ⟨A,len,cap,Z,rfl,hl,hm,hn,hrow,hwf⟩ := qke ht he hC h hlt;refine ⟨A,len,cap,(List.range len).map (fun j => UInt8.ofNat (Z j).toNat),rfl,hm,⟨by simp,hl,hn,fun hpos => ?_⟩,fun hpos a e => ?_⟩
 · obtain ⟨g,off,e,hg,hc⟩ := hrow hpos;refine ⟨g,off,e,hg,fun j hj => ?_⟩
   have hj' : j < len := by simpa using hj
   rw [hc j hj'];have := qct (hwf j hj');simp only [List.getElem_map,List.getElem_range]
   have e2 : ((UInt8.ofNat (Z j).toNat).toNat : Int) = Z j := by simp; omega
   simp only [u8,e2]
 · obtain ⟨g,off,e2,hg,_⟩ := hrow hpos;rw [e2] at e;injection e with e;subst e;exact hg
end
end Go.Proofs.YtmiijlecfiddmaaGreat
set_option linter.unusedVariables false
set_option linter.unusedSimpArgs false
set_option maxRecDepth 100000
set_option maxHeartbeats 200000
namespace Go.Proofs.YtmiijlecfiddmaaGreat
open Go.RowKit
abbrev entV (i t : Int) (A : Option Addr) (n c : Nat) : Value := .agg #[.int .i64 i, .int .i64 t, .slice A n c]
theorem qhC (n m : Nat) (z : Int) (h : z = (m : Int)) : decide ((n : Int) <= z) = decide (n <= m) := by
 subst h
 apply Bool.eq_iff_iff.2
 simp
theorem qkf (n : Nat) : ((n : Int) == 0) = decide (n = 0) := by
 apply Bool.eq_iff_iff.2
 simp
end Go.Proofs.YtmiijlecfiddmaaGreat
set_option linter.unusedVariables false
set_option linter.unusedSimpArgs false
set_option maxRecDepth 100000
set_option maxHeartbeats 1000000
namespace Go.Proofs.YtmiijlecfiddmaaGreat
open Go.RowKit
def oneB (i t : Int) (d : List UInt8) (i' t' : Int) (d' : List UInt8) : Bool := decide (i = i') && (decide (t = t') && decide (d = d'))
theorem qe0 (a b : List UInt8) : decide (a = b) = ((⟨a.toArray⟩ : ByteArray).toList == (⟨b.toArray⟩ : ByteArray).toList) := by
 rw [ByteArray.toList_eq,ByteArray.toList_eq]
 apply Bool.eq_iff_iff.2
 simp
theorem qjh (i t : Int) (A : Option Addr) (n c : Nat) (d : List UInt8) (i' t' : Int) (A' : Option Addr) (n' c' : Nat) (d' : List UInt8) (w : World) (h : Lies w A n c d) (h' : Lies w A' n' c' d') :
 Calls Tryz.prog 85 #[entV i t A n c,entV i' t' A' n' c'] w fun e w' => e = .returned (.bool (oneB i t d i' t' d')) /\ Below w.heap.size w w' := by
 have hb : Below w.heap.size w ((w.alloc (.cells #[.int .i64 i, .int .i64 t, .slice A n c] 78)).alloc (.cells #[.int .i64 i', .int .i64 t', .slice A' n' c'] 78)) := ((Below.refl _ _).alloc (Nat.le_refl _) _).alloc (by simp) _;have c1 := (h.below hb (Nat.le_refl _)).text Tryz.underlying23 Tryz.underlying5 Tryz.underlying9;have c2 := (h'.below hb (Nat.le_refl _)).text Tryz.underlying23 Tryz.underlying5 Tryz.underlying9;have hd : decide (d = d') = ((⟨d.toArray⟩ : ByteArray).toList == (⟨d'.toArray⟩ : ByteArray).toList) := qe0 d d';generalize (⟨d.toArray⟩ : ByteArray) = S at *;generalize (⟨d'.toArray⟩ : ByteArray) = S' at *;unfold oneB;rw [hd];clear h h' hd
 by_cases h1 : i = i'
 · subst h1;rw [decide_eq_true rfl,Bool.true_and]
   by_cases h2 : t = t'
   · subst h2;rw [decide_eq_true rfl,Bool.true_and]
     go_enter Tryz.func85,Tryz.ntmps85
     go_wp2;go_ret;exact ⟨rfl,hb⟩
   · have e1 : (t == t') = false := beq_eq_false_iff_ne.2 h2;have e2 : (t = t') = False := eq_false h2;rw [decide_eq_false h2,Bool.false_and];clear h2
     go_enter Tryz.func85,Tryz.ntmps85
     go_wp2;go_ret;exact ⟨rfl,hb⟩
 · have e1 : (i == i') = false := beq_eq_false_iff_ne.2 h1;have e2 : (i = i') = False := eq_false h1;rw [decide_eq_false h1,Bool.false_and];clear h1
   go_enter Tryz.func85,Tryz.ntmps85
   go_wp2;go_ret;exact ⟨rfl,hb⟩
end Go.Proofs.YtmiijlecfiddmaaGreat
set_option linter.unusedVariables false
set_option linter.unusedSimpArgs false
set_option maxRecDepth 100000
set_option maxHeartbeats 200000
namespace Go.Proofs.YtmiijlecfiddmaaGreat
open Go.RowKit
def Ents (w : World) (Z : Nat -> Prop) (A : Option Addr) (len cap : Nat) (ls : List Ent) : Prop :=
 ls.length = len /\ len <= cap /\ (A = none -> cap = 0) /\ (0 < len -> ∃ g off,A = some ⟨g,off,none⟩ /\ g < w.heap.size /\ Z g ∧
  ∀ j (hj : j < ls.length),∃ E c,w.cell? ⟨g,off + j * 3,none⟩ = some (.int .i64 ls[j].i) /\ w.cell? ⟨g,off + j * 3 + 1,none⟩ = some (.int .i64 ls[j].t) /\ w.cell? ⟨g,off + j * 3 + 2,none⟩ = some (.slice E ls[j].d.length c) /\ c <= c /\ Lies w E ls[j].d.length c ls[j].d /\ (0 < ls[j].d.length -> ∀ q o,E = some ⟨q,o,none⟩ -> Z q))
section
variable {w w' : World} {Z Z' : Nat → Prop} {A : Option Addr} {len cap : Nat} {ls : List Ent}
theorem Ents.keep (h : Ents w Z A len cap ls) (hs : w.heap.size <= w'.heap.size) (hk : ∀ k,k < w.heap.size -> Z k -> w'.heap[k]? = w.heap[k]?) : Ents w' Z A len cap ls := by
 refine ⟨h.1,h.2.1,h.2.2.1,fun h0 => ?_⟩;obtain ⟨g,off,e,hg,hz,hc⟩ := h.2.2.2 h0;refine ⟨g,off,e,Nat.lt_of_lt_of_le hg hs,hz,fun j hj => ?_⟩;obtain ⟨E,c,c0,c1,c2,hm,hl,hzE⟩ := hc j hj
 have hx : ∀ o,w'.cell? ⟨g,o,none⟩ = w.cell? ⟨g,o,none⟩ := fun o => World.cell?_of_block (hk g hg hz)
 exact ⟨E,c,(hx _).trans c0,(hx _).trans c1,(hx _).trans c2,hm,hl.keep hs fun h1 q o eq hq => hk q hq (hzE h1 q o eq),hzE⟩
theorem Ents.below (h : Ents w Z A len cap ls) {B : Nat} (hb : Below B w w') (hB : w.heap.size <= B) : Ents w' Z A len cap ls :=
 h.keep hb.size fun k hk _ => hb.block k (Nat.lt_of_lt_of_le hk hB)
theorem Ents.mono (h : Ents w Z A len cap ls) (hz : ∀ k,Z k -> Z' k) : Ents w Z' A len cap ls := by
 refine ⟨h.1,h.2.1,h.2.2.1,fun h0 => ?_⟩;obtain ⟨g,off,e,hg,hzg,hc⟩ := h.2.2.2 h0;refine ⟨g,off,e,hg,hz _ hzg,fun j hj => ?_⟩;obtain ⟨E,c,c0,c1,c2,hm,hl,hzE⟩ := hc j hj;exact ⟨E,c,c0,c1,c2,hm,hl,fun h1 q o eq => hz _ (hzE h1 q o eq)⟩
theorem Ents.at_ (h : Ents w Z A len cap ls) (j : Nat) (hj : j < len) : ∃ g off E c,A = some ⟨g,off,none⟩ /\ g < w.heap.size /\ w.cell? ⟨g,off + j * 3,none⟩ = some (.int .i64 (ls[j]'(by rw [h.1]; exact hj)).i) /\ w.cell? ⟨g,off + j * 3 + 1,none⟩ = some (.int .i64 (ls[j]'(by rw [h.1]; exact hj)).t) ∧
 w.cell? ⟨g,off + j * 3 + 2,none⟩ = some (.slice E (ls[j]'(by rw [h.1]; exact hj)).d.length c) /\ Lies w E (ls[j]'(by rw [h.1]; exact hj)).d.length c (ls[j]'(by rw [h.1]; exact hj)).d := by
 obtain ⟨g,off,e,hg,_,hc⟩ := h.2.2.2 (by omega);obtain ⟨E,c,c0,c1,c2,_,hl,_⟩ := hc j (by rw [h.1]; exact hj);exact ⟨g,off,E,c,e,hg,c0,c1,c2,hl⟩
end
end Go.Proofs.YtmiijlecfiddmaaGreat
set_option linter.unusedVariables false
set_option linter.unusedSimpArgs false
set_option maxRecDepth 100000
set_option maxHeartbeats 200000
namespace Go.Proofs.YtmiijlecfiddmaaGreat
open Go.RowKit
end Go.Proofs.YtmiijlecfiddmaaGreat
set_option linter.unusedVariables false
set_option linter.unusedSimpArgs false
set_option maxRecDepth 100000
set_option maxHeartbeats 200000
namespace Go.Proofs.YtmiijlecfiddmaaGreat
open Go.RowKit
section
variable {P : Program} {fn : Func} {p q u : Tmp} {T : TypeId} {W : World} {n : Nat} {cs : Array Value} {fr : Nat × Nat} {d : TypeDesc} {tmps : Array Value}
theorem qH (h : fn.results = #[.cell p T]) (h1 : tmps.getD p undef = .pointer (some ⟨n,0,none⟩)) (hW : W.heap[n]? = some (.cells cs T fr)) (hu : P.underlying T = some d)
 (hd : (match d with | .struct _ | .array _ _ => true | _ => false) = true) (hi : (P.info? T).map (·.size) = some cs.size) : (results fn tmps).run P W = .ok (.agg cs) W :=
 results_cell_row h tmps W n T cs fr d h1 hW hu hd hi
theorem qeD (h : fn.results = #[.cell p T, .tmp u]) (h1 : tmps.getD p undef = .pointer (some ⟨n,0,none⟩)) (hW : W.heap[n]? = some (.cells cs T fr)) (hu : P.underlying T = some d)
 (hd : (match d with | .struct _ | .array _ _ => true | _ => false) = true) (hi : (P.info? T).map (·.size) = some cs.size) : (results fn tmps).run P W = .ok (.tuple #[.agg cs,tmps.getD u undef]) W := by
 rw [results_cell_tmp h,h1]
 simp [asAddr,run_loadVar_row W n T T cs fr d hW hu hd hi]
end
theorem row3 {w : World} {g : Nat} {v0 v1 v2 : Value} {T : TypeId} (h : w.heap[g]? = some (.cells #[v0,v1,v2] T)) : (w.cell? ⟨g,0,none⟩ = some v0 /\ w.cell? ⟨g,1,none⟩ = some v1 /\ w.cell? ⟨g,2,none⟩ = some v2) /\ (w.frozen? ⟨g,0,none⟩ = false /\ w.frozen? ⟨g,1,none⟩ = false /\ w.frozen? ⟨g,2,none⟩ = false) := by
 refine ⟨⟨?_,?_,?_⟩,⟨?_,?_,?_⟩⟩ <;> simp [World.cell?,World.frozen?,h]
theorem row4 {w : World} {g : Nat} {v0 v1 v2 v3 : Value} {T : TypeId} (h : w.heap[g]? = some (.cells #[v0,v1,v2,v3] T)) : (w.cell? ⟨g,0,none⟩ = some v0 /\ w.cell? ⟨g,1,none⟩ = some v1 /\ w.cell? ⟨g,2,none⟩ = some v2 /\ w.cell? ⟨g,3,none⟩ = some v3) /\ (w.frozen? ⟨g,0,none⟩ = false /\ w.frozen? ⟨g,1,none⟩ = false /\ w.frozen? ⟨g,2,none⟩ = false /\ w.frozen? ⟨g,3,none⟩ = false) := by
 refine ⟨⟨?_,?_,?_,?_⟩,⟨?_,?_,?_,?_⟩⟩ <;> simp [World.cell?,World.frozen?,h]
theorem qdO (X : World) (n : Nat) (a b c a0 b0 c0 : Value) (T : TypeId) (h : X.heap[n]? = some (.cells #[a0,b0,c0] T)) : (((X.setCell ⟨n,0,none⟩ a).setCell ⟨n,1,none⟩ b).setCell ⟨n,2,none⟩ c).heap[n]? = some (.cells #[a,b,c] T) := by
 simp only [World.setCell,Array.getElem?_modify,if_true,h,Option.map_some];simp
end Go.Proofs.YtmiijlecfiddmaaGreat
set_option linter.unusedVariables false
set_option linter.unusedSimpArgs false
set_option maxRecDepth 100000
set_option maxHeartbeats 200000
namespace Go.Proofs.YtmiijlecfiddmaaGreat
open Go.RowKit
abbrev atV (o : Option Int) : Value := .tuple #[.int .i64 (o.getD 0), .bool o.isSome]
end Go.Proofs.YtmiijlecfiddmaaGreat
set_option linter.unusedVariables false
set_option linter.unusedSimpArgs false
set_option maxRecDepth 100000
set_option maxHeartbeats 200000
namespace Go.Proofs.YtmiijlecfiddmaaGreat
open Go.RowKit
def qa5 (a b : List Ent) (k : Nat) : Bool :=
 match a[k]?,b[k]? with
 | some x,some y => oneB x.i x.t x.d y.i y.t y.d
 | _,_ => false
def qaa (a b : List Ent) : Bool := decide (a.length = b.length) && (List.range a.length).all (qa5 a b)
theorem qji {a b : List Ent} (k : Nat) (hk : k < a.length) (h : qa5 a b k = false) : qaa a b = false := by
 unfold qaa
 cases hr : (List.range a.length).all (qa5 a b) with
 | false => rw [Bool.and_false]
 | true =>
   have := List.all_eq_true.1 hr k (List.mem_range.2 hk);rw [h] at this;cases this
theorem qhD {a b : List Ent} (hl : a.length = b.length) (h : ∀ k,k < a.length -> qa5 a b k = true) : qaa a b = true := by
 unfold qaa;rw [decide_eq_true hl,Bool.true_and]
 exact List.all_eq_true.2 fun k hk => h k (List.mem_range.1 hk)
theorem qjj (a b : List Ent) (k : Nat) (h1 : k < a.length) (h2 : k < b.length) : qa5 a b k = oneB a[k].i a[k].t a[k].d b[k].i b[k].t b[k].d := by
 unfold qa5;rw [List.getElem?_eq_getElem h1,List.getElem?_eq_getElem h2]
end Go.Proofs.YtmiijlecfiddmaaGreat
set_option linter.unusedVariables false
set_option linter.unusedSimpArgs false
set_option maxRecDepth 100000
set_option maxHeartbeats 200000
namespace Go.Proofs.YtmiijlecfiddmaaGreat
open Go.RowKit
structure Lay where
 e : Ent
 A : Option Addr
 c : Nat
def cells3 (x : Lay) : List Value := [.int .i64 x.e.i, .int .i64 x.e.t, .slice x.A x.e.d.length x.c]
def rowOf (xs : List Lay) : List Value := xs.flatMap cells3
theorem qb4 (x : Lay) (xs : List Lay) : rowOf (x :: xs) = cells3 x ++ rowOf xs := rfl
theorem qv (xs : List Lay) : (rowOf xs).length = xs.length * 3 := by
 induction xs with
 | nil => rfl
 | cons x xs ih =>
   rw [qb4,List.length_append,ih,List.length_cons]
   simp [cells3]
   omega
theorem qe1 (xs : List Lay) : ∀ (j r : Nat) (hj : j < xs.length),r < 3 -> (rowOf xs)[j * 3 + r]? = (cells3 xs[j])[r]? := by
 induction xs with
 | nil => intro j r hj; simp at hj
 | cons x xs ih =>
   intro j r hj hr;rw [qb4]
   cases j with
   | zero =>
     rw [List.getElem?_append_left (by simp [cells3]; omega)];simp
   | succ j =>
     rw [List.getElem?_append_right (by simp [cells3]; omega)];rw [show (j + 1) * 3 + r - (cells3 x).length = j * 3 + r by simp [cells3]; omega];rw [ih j r (by simpa using hj) hr];simp
theorem qd8 (xs : List Lay) : ∀ u ∈ rowOf xs,u.oneCell' = true := by
 intro u hu;obtain ⟨x,_,hx⟩ := List.mem_flatMap.1 hu;simp only [cells3,List.mem_cons,List.not_mem_nil,or_false] at hx
 rcases hx with rfl | rfl | rfl <;> rfl
def qs (w : World) (Z : Nat -> Prop) (x : Lay) : Prop :=
 x.c <= x.c /\ Lies w x.A x.e.d.length x.c x.e.d /\ (0 < x.e.d.length -> ∀ q o,x.A = some ⟨q,o,none⟩ -> Z q)
theorem qs.mono {w : World} {Z Z' : Nat -> Prop} {x : Lay} (h : qs w Z x) (hz : ∀ k,Z k -> Z' k) : qs w Z' x := ⟨h.1,h.2.1,fun h0 q o e => hz _ (h.2.2 h0 q o e)⟩
theorem qs.keep {w w' : World} {Z : Nat -> Prop} {x : Lay} (h : qs w Z x) (hs : w.heap.size <= w'.heap.size) (hk : ∀ k,k < w.heap.size -> Z k -> w'.heap[k]? = w.heap[k]?) : qs w' Z x :=
 ⟨h.1,h.2.1.keep hs fun h0 g off e hg => hk g hg (h.2.2 h0 g off e),h.2.2⟩
theorem Ents.lays {w : World} {Z : Nat -> Prop} {A : Option Addr} {len cap : Nat} {ls : List Ent} (h : Ents w Z A len cap ls) :
 ∃ xs : List Lay,xs.map (·.e) = ls /\ (∀ x ∈ xs,qs w Z x) /\ (∀ a,A = some a -> ∀ j u,(rowOf xs)[j]? = some u -> w.cell? (a.add j) = some u) := by
 by_cases h0 : 0 < len
 · obtain ⟨g,off,rfl,hg,hz,hc⟩ := h.2.2.2 h0
   obtain ⟨X,hX⟩ := Classical.axiomOfChoice (r := fun j (x : Option Addr × Nat) => ∀ (hj : j < ls.length),w.cell? ⟨g,off + j * 3,none⟩ = some (.int .i64 ls[j].i) /\ w.cell? ⟨g,off + j * 3 + 1,none⟩ = some (.int .i64 ls[j].t) /\ w.cell? ⟨g,off + j * 3 + 2,none⟩ = some (.slice x.1 ls[j].d.length x.2) /\ qs w Z ⟨ls[j],x.1,x.2⟩) (fun j => by
    by_cases hj : j < ls.length
    · obtain ⟨E,c,c0,c1,c2,hm,hl,hzE⟩ := hc j hj;exact ⟨(E,c),fun _ => ⟨c0,c1,c2,hm,hl,hzE⟩⟩
    · exact ⟨(none,0),fun h => absurd h hj⟩)
   have hxl : ((List.range ls.length).map fun j => (⟨ls.getD j ⟨0,0,[]⟩,(X j).1,(X j).2⟩ : Lay)).length = ls.length := by simp
   refine ⟨(List.range ls.length).map fun j => ⟨ls.getD j ⟨0,0,[]⟩,(X j).1,(X j).2⟩,?_,?_,?_⟩
   · apply List.ext_getElem
     · simp
     · intro j h1 h2
       simp [List.getD_eq_getElem?_getD,List.getElem?_eq_getElem h2]
   · intro x hx;obtain ⟨j,hj,rfl⟩ := List.mem_map.1 hx
     have hj' : j < ls.length := by simpa using hj
     have := (hX j hj').2.2.2
     simpa [List.getD_eq_getElem?_getD,List.getElem?_eq_getElem hj'] using this
   · intro a ea j u hu;injection ea with ea;subst ea;rw [Addr.add_lit]
     have hjl : j < ls.length * 3 := by
      have := (List.getElem?_eq_some_iff.1 hu).1;rw [qv,hxl] at this;exact this
     have hq : j / 3 < ls.length := by omega
     have hat := qe1 _ (j / 3) (j % 3) (by rw [hxl]; exact hq) (Nat.mod_lt _ (by omega))
     rw [show j / 3 * 3 + j % 3 = j by omega,hu] at hat
     obtain ⟨c0,c1,c2,_⟩ := hX (j / 3) hq
     simp only [List.getElem_map,List.getElem_range,List.getD_eq_getElem?_getD,List.getElem?_eq_getElem hq,Option.getD_some,cells3] at hat
     have h3 : j % 3 = 0 \/ j % 3 = 1 \/ j % 3 = 2 := by omega
     rcases h3 with h3 | h3 | h3
     · rw [h3] at hat
       injection hat with hat
       rw [hat,show off + j = off + j / 3 * 3 by omega];exact c0
     · rw [h3] at hat
       injection hat with hat
       rw [hat,show off + j = off + j / 3 * 3 + 1 by omega];exact c1
     · rw [h3] at hat
       injection hat with hat
       rw [hat,show off + j = off + j / 3 * 3 + 2 by omega];exact c2
 · have hl := h.1;obtain rfl : ls = [] := List.eq_nil_of_length_eq_zero (by omega);exact ⟨[],rfl,fun x hx => by simp at hx,fun a _ j u hu => by simp [rowOf] at hu⟩
theorem qb5 : (Tryz.prog.info? 78).map (fun i => (i.zero,i.size,i.bytes)) = some (some (.agg #[.int .i64 0, .int .i64 0, .slice none 0 0]),3,40) := by kernel_rfl
theorem qdj (w : World) : (Go.sizeOf 78).run Tryz.prog w = .ok 3 w := by
 obtain ⟨i,hi,_,hs,_⟩ := info_parts qb5
 simp [Go.sizeOf,typeInfo,hi,hs]
theorem qhE (e : Ent) : oneB e.i e.t e.d e.i e.t e.d = true := by simp [oneB]
end Go.Proofs.YtmiijlecfiddmaaGreat
set_option linter.unusedVariables false
set_option linter.unusedSimpArgs false
set_option maxRecDepth 100000
set_option maxHeartbeats 200000
namespace Go.Proofs.YtmiijlecfiddmaaGreat
open Go.RowKit
theorem qS (xs ys : List Lay) : rowOf (xs ++ ys) = rowOf xs ++ rowOf ys := by simp [rowOf]
theorem lay_at {w : World} {g off : Nat} {xs : List Lay} (hc : ∀ j u,(rowOf xs)[j]? = some u -> w.cell? ((⟨g,off,none⟩ : Addr).add j) = some u) (k : Nat) (hk : k < xs.length) :
 w.cell? ⟨g,off + k * 3,none⟩ = some (.int .i64 xs[k].e.i) /\ w.cell? ⟨g,off + k * 3 + 1,none⟩ = some (.int .i64 xs[k].e.t) /\ w.cell? ⟨g,off + k * 3 + 2,none⟩ = some (.slice xs[k].A xs[k].e.d.length xs[k].c) := by
 have h : ∀ r (hr : r < 3),w.cell? ⟨g,off + (k * 3 + r),none⟩ = (cells3 xs[k])[r]? := fun r hr => by
  have e := qe1 xs k r hk hr
  have hl : r < (cells3 xs[k]).length := by simp [cells3]; omega
  rw [List.getElem?_eq_getElem hl] at e ⊢;have := hc _ _ e
  rwa [Addr.add_lit] at this
 exact ⟨h 0 (by omega),h 1 (by omega),h 2 (by omega)⟩
end Go.Proofs.YtmiijlecfiddmaaGreat
