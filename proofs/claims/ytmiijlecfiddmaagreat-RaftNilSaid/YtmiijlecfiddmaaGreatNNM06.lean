/- A node's log in memory: a row of entries from somewhere on, cut in front and behind, appended to, cleared. -/
import Derived.Test.YtmiijlecfiddmaaGreatNNM05
import Derived.ArgAppend
import Derived.Lib.SliceRun
import Derived.WalkKit
import Derived.Outline
import Derived.Deep.Cut
import Derived.Deep.DeepCutAuto
import Derived.Deep.RegionLaw
import Derived.Deep.RegionHeld3
import Derived.BigQuiet
import Derived.StillTailTactics
import Derived.RegionTactic
import Derived.Laws.Tables
import Derived.Lib.Hide
set_option linter.unusedVariables false
set_option linter.unusedSimpArgs false
set_option maxRecDepth 100000
set_option maxHeartbeats 200000
namespace Go.Proofs.YtmiijlecfiddmaaGreat
open Go.RowKit
def blk (A : Option Addr) (q : Nat) : Prop := ∃ o,A = some ⟨q,o,none⟩
theorem qu (g o q : Nat) : blk (some ⟨g,o,none⟩) q ↔ q = g := by
 constructor
 · rintro ⟨o',e⟩
   injection e with e
   injection e with e1
   exact e1.symm
 · rintro rfl
   exact ⟨o,rfl⟩
theorem qp (q : Nat) : ¬ blk none q := fun ⟨o,e⟩ => by cases e
def Spot (w : World) (A : Option Addr) (n cap : Nat) (xs : List Lay) : Prop :=
 xs.length = n /\ n <= cap /\ cap <= maxLen /\ (A = none -> cap = 0) /\ ∀ a,A = some a -> ∃ g off cur,a = ⟨g,off,none⟩ /\ w.heap[g]? = some (.cells cur 78 (0,0)) /\ off + cap * 3 <= cur.size /\ ∀ j u,(rowOf xs)[j]? = some u -> cur[off + j]? = some u
section
variable {w w' : World} {A : Option Addr} {n cap : Nat} {xs ys : List Lay}
theorem Spot.keep (h : Spot w A n cap xs) (hk : ∀ q,blk A q -> w'.heap[q]? = w.heap[q]?) : Spot w' A n cap xs := by
 refine ⟨h.1,h.2.1,h.2.2.1,h.2.2.2.1,fun a e => ?_⟩
 obtain ⟨g,off,cur,rfl,hg,r⟩ := h.2.2.2.2 a e
 exact ⟨g,off,cur,rfl,(hk g ⟨off,e⟩).trans hg,r⟩
theorem Spot.lt (h : Spot w A n cap xs) {q : Nat} (hq : blk A q) : q < w.heap.size := by
 obtain ⟨o,e⟩ := hq
 obtain ⟨g,off,cur,e2,hg,_⟩ := h.2.2.2.2 _ e
 injection e2 with e2
 subst e2
 exact hlt hg
theorem Spot.cells (h : Spot w A n cap xs) {a : Addr} (e : A = some a) : ∀ j u,(rowOf xs)[j]? = some u -> w.cell? (a.add j) = some u := fun j u hu => by
 obtain ⟨g,off,cur,rfl,hg,_,hc⟩ := h.2.2.2.2 a e
 rw [Addr.add_lit,cell_of_row w g _ cur _ _ hg]
 exact hc j u hu
theorem Spot.ents {Z : Nat -> Prop} (h : Spot w A n cap xs) (hz : ∀ q,blk A q -> Z q) (hok : ∀ x ∈ xs,qj w Z x) : Ents w Z A n cap (xs.map (·.e)) := by
 refine ⟨by rw [List.length_map]; exact h.1,h.2.1,h.2.2.2.1,fun h0 => ?_⟩
 cases A with
 | none => have := h.2.2.2.1 rfl; have := h.2.1; omega
 | some a =>
   obtain ⟨g,off,cur,rfl,hg,hs,hc⟩ := h.2.2.2.2 a rfl
   refine ⟨g,off,rfl,hlt hg,hz g ⟨off,rfl⟩,fun j hj => ?_⟩
   have hj' : j < xs.length := by simpa using hj
   obtain ⟨c0,c1,c2⟩ := qch (w := w) (g := g) (off := off) (xs := xs) (h.cells rfl) j hj'
   obtain ⟨hm,hl,hzE⟩ := hok _ (List.getElem_mem hj')
   simp only [List.getElem_map]
   exact ⟨_,_,c0,c1,c2,hm,hl,hzE⟩
theorem qbW (xs : List Lay) (k : Nat) : rowOf (xs.take k) = (rowOf xs).take (k * 3) := by
 have h : rowOf xs = rowOf (xs.take k) ++ rowOf (xs.drop k) := by rw [<- qx,List.take_append_drop]
 rcases Nat.lt_or_ge k xs.length with hk | hk
 · have hl : (rowOf (xs.take k)).length = k * 3 := by rw [qk,List.length_take]; omega
   have e := List.take_left' (l₂ := rowOf (xs.drop k)) hl
   rw [<- h] at e
   exact e.symm
 · rw [List.take_of_length_le hk,List.take_of_length_le (by rw [qk]; omega)]
theorem qbX (xs : List Lay) (k : Nat) : rowOf (xs.drop k) = (rowOf xs).drop (k * 3) := by
 have h : rowOf xs = rowOf (xs.take k) ++ rowOf (xs.drop k) := by rw [<- qx,List.take_append_drop]
 rcases Nat.lt_or_ge k xs.length with hk | hk
 · have hl : (rowOf (xs.take k)).length = k * 3 := by rw [qk,List.length_take]; omega
   have e := List.drop_left' (l₂ := rowOf (xs.drop k)) hl
   rw [<- h] at e
   exact e.symm
 · rw [List.drop_of_length_le hk,List.drop_of_length_le (by rw [qk]; omega)]
   rfl
theorem Spot.take (h : Spot w A n cap xs) {k : Nat} (hk : k <= n) : Spot w A k cap (xs.take k) := by
 have h1 := h.1
 have h2 := h.2.1
 refine ⟨by rw [List.length_take]; omega,by omega,h.2.2.1,h.2.2.2.1,fun a e => ?_⟩
 obtain ⟨g,off,cur,rfl,hg,hs,hc⟩ := h.2.2.2.2 a e
 refine ⟨g,off,cur,rfl,hg,hs,fun j u hu => hc j u ?_⟩
 rw [qbW] at hu
 rw [List.getElem?_take] at hu
 split at hu
 · exact hu
 · cases hu
def qy (A : Option Addr) (cap k : Nat) : Option Addr := if cap = k then A else A.map (·.add (k * 3))
theorem Spot.drop (h : Spot w A n cap xs) {k : Nat} (hk : k <= n) : Spot w (qy A cap k) (n - k) (cap - k) (xs.drop k) := by
 have h1 := h.1
 have h2 := h.2.1
 refine ⟨by rw [List.length_drop]; omega,by omega,Nat.le_trans (Nat.sub_le _ _) h.2.2.1,fun e => ?_,fun a e => ?_⟩
 · unfold qy at e
   split at e
   · omega
   · cases A with
     | none => have := h.2.2.2.1 rfl; omega
     | some a => cases e
 · cases A with
   | none => unfold qy at e; split at e <;> cases e
   | some b =>
     obtain ⟨g,off,cur,rfl,hg,hs,hc⟩ := h.2.2.2.2 b rfl
     unfold qy at e
     split at e
     · injection e with e
       subst e
       refine ⟨g,off,cur,rfl,hg,by omega,fun j u hu => ?_⟩
       have hl : j < (rowOf (xs.drop k)).length := (List.getElem?_eq_some_iff.1 hu).1
       rw [qk,List.length_drop] at hl
       omega
     · rw [Option.map_some,Addr.add_lit] at e
       injection e with e
       subst e
       refine ⟨g,off + k * 3,cur,rfl,hg,by omega,fun j u hu => ?_⟩
       rw [qbX,List.getElem?_drop] at hu
       rw [Nat.add_assoc]
       exact hc _ _ hu
theorem qbL {k : Nat} (hk : k <= cap) (W : World) : (Instr.slice 22 (.slice A n cap) none (some (.int .i64 (k : Int))) none).run Tryz.prog W = .ok (.slice A k cap) W := by
 have ht := Tryz.underlying22
 have ht' : Tryz.prog.underlying 22 = some (.slice (Tryz.prog.elem 22)) := by simp [Program.elem,ht]
 have he : Tryz.prog.elem 22 = 78 := by simp [Program.elem,ht]
 rw [run_slice_h W 22 _ _ _ ht' .i64 _ (by omega) (by omega),he,qaK]
 cases A <;> simp [Result.andThen,sliced,Addr.add]
theorem qbY {k : Nat} (hk : k <= n) (hn : n <= cap) (W : World) : (Instr.slice 22 (.slice A n cap) (some (.int .i64 (k : Int))) none none).run Tryz.prog W = .ok (.slice (qy A cap k) (n - k) (cap - k)) W := by
 have ht := Tryz.underlying22
 have ht' : Tryz.prog.underlying 22 = some (.slice (Tryz.prog.elem 22)) := by simp [Program.elem,ht]
 have he : Tryz.prog.elem 22 = 78 := by simp [Program.elem,ht]
 rw [run_slice_l W 22 _ _ _ ht' .i64 _ (by omega) (by omega),he,qaK]
 simp [Result.andThen,sliced,qy]
end
theorem setCells_at (b : Nat) : ∀ (vs : List Value) (o : Nat) (w : World) (C : Array Value) (T : TypeId) (fr : Nat × Nat),w.heap[b]? = some (.cells C T fr) -> o + vs.length <= C.size →
 ∃ C',(w.setCells b o vs).heap[b]? = some (.cells C' T fr) /\ C'.size = C.size /\ (∀ j,j < o \/ o + vs.length <= j -> C'[j]? = C[j]?) /\ ∀ j u,vs[j]? = some u -> C'[o + j]? = some u
 | [],o,w,C,T,fr,h,_ => ⟨C,h,rfl,fun _ _ => rfl,fun j u hu => by simp at hu⟩
 | v :: r,o,w,C,T,fr,h,hs => by
   have h1 := setCell_at w ⟨b,o,none⟩ v C T fr rfl h
   simp only [List.length_cons] at hs
   obtain ⟨C',h2,h3,h4,h5⟩ := setCells_at b r (o + 1) (w.setCell ⟨b,o,none⟩ v) _ T fr h1 (by simp; omega)
   refine ⟨C',h2,by rw [h3]; simp,fun j hj => ?_,fun j u hu => ?_⟩
   · simp only [List.length_cons] at hj
     rw [h4 j (by omega),Array.getElem?_setIfInBounds_ne (by show o ≠ j; omega)]
   · cases j with
     | zero =>
       rw [h4 _ (by omega)]
       injection hu with hu
       subst hu
       rw [Nat.add_zero,Array.getElem?_setIfInBounds_self]
       simp
       omega
     | succ j =>
       rw [show o + (j + 1) = o + 1 + j by omega]
       exact h5 j u hu
theorem qap (b : Nat) : ∀ (vs : List Value) (o : Nat) (w : World) (q : Nat),q ≠ b -> (w.setCells b o vs).heap[q]? = w.heap[q]?
 | [],_,_,_,_ => rfl
 | v :: r,o,w,q,h => (qap b r (o + 1) _ q h).trans (Below.heap_setCell _ _ _ _ h)
theorem qI (b : Nat) : ∀ (vs : List Value) (o : Nat) (w : World),w.grownBy (w.setCells b o vs) (some b) /\ (w.setCells b o vs).heap.size = w.heap.size
 | [],_,w => ⟨World.grownBy.refl _ _,rfl⟩
 | v :: r,o,w => by
   obtain ⟨h,hs⟩ := qI b r (o + 1) (w.setCell ⟨b,o,none⟩ v)
   refine ⟨⟨h.os,h.tape,h.output,by rw [World.setCells,hs]; simp,fun k hk hne => ?_⟩,by rw [World.setCells,hs]; simp⟩
   exact qap b (v :: r) o w k fun e => hne (by rw [e])
section
variable {w : World} {A : Option Addr} {n cap : Nat} {xs ys : List Lay}
theorem qaM (ty : TypeId) (h : Spot w A n cap xs) (B : Option Addr) (m c : Nat) (hB : B = none -> m = 0) (hl : ys.length = m) (hcell : ∀ b,B = some b -> ∀ j u,(rowOf ys)[j]? = some u -> w.cell? (b.add j) = some u) (hf : n + m <= 1000000) :
 ∃ A' cap' w',(Builtin.append_ #[22,22] ty #[.slice A n cap, .slice B m c]).run Tryz.prog w = .ok (.slice A' (n + m) cap') w' /\ Spot w' A' (n + m) cap' (xs ++ ys) /\ (∀ q,blk A' q -> blk A q \/ w.heap.size <= q) ∧
  w.os = w'.os /\ w.tape = w'.tape /\ w.output = w'.output /\ w.heap.size <= w'.heap.size /\ ∀ q,q < w.heap.size -> ¬ blk A q -> w'.heap[q]? = w.heap[q]? := by
 obtain ⟨i0,hi0,hz0,hz1,hz2⟩ := info_parts qaD
 have hlen := h.1
 have hnc := h.2.1
 cases B with
 | none =>
   obtain rfl := hB rfl
   obtain rfl : ys = [] := List.eq_nil_of_length_eq_zero hl
   refine ⟨A,cap,w,?_,by simpa using h,fun q hq => .inl hq,rfl,rfl,rfl,Nat.le_refl _,fun _ _ _ => rfl⟩
   cases A with
   | none =>
     have := h.2.2.2.1 rfl
     obtain rfl : cap = 0 := this
     obtain rfl : n = 0 := by omega
     simp [Builtin.append_,run_underlying Tryz.underlying22,sizeOf,typeInfo,hi0,Builtin.lenOf,Builtin.firstCells,loadCells,loadCellsFrom]
   | some a =>
     simp [Builtin.append_,run_underlying Tryz.underlying22,sizeOf,typeInfo,hi0,Builtin.lenOf,Builtin.firstCells,loadCells,loadCellsFrom,hnc,storeCells]
 | some b =>
   have hcb := hcell b rfl
   have hrl : (rowOf ys).length = m * 3 := by rw [qk,hl]
   -- a new row
   have fresh : ∀ v' w',w'.ownsRow w.heap.size 78 3 v' (n + m) (rowOf xs ++ rowOf ys) -> w.grownBy w' none -> 0 < n + m -> (Builtin.append_ #[22,22] ty #[.slice A n cap, .slice (some b) m c]).run Tryz.prog w = .ok v' w' →
    ∃ A' cap' w',(Builtin.append_ #[22,22] ty #[.slice A n cap, .slice (some b) m c]).run Tryz.prog w = .ok (.slice A' (n + m) cap') w' /\ Spot w' A' (n + m) cap' (xs ++ ys) /\ (∀ q,blk A' q -> blk A q \/ w.heap.size <= q) ∧
     w.os = w'.os /\ w.tape = w'.tape /\ w.output = w'.output /\ w.heap.size <= w'.heap.size /\ ∀ q,q < w.heap.size -> ¬ blk A q -> w'.heap[q]? = w.heap[q]? := by
    intro v' w' ho hg h0 hr
    rcases ho.2 with ⟨_,h1⟩ | ⟨g,cap',cur,rfl,hb,hh,h1,h2,h3,h4⟩
    · omega
    · refine ⟨some ⟨g,0,none⟩,cap',w',hr,⟨by rw [List.length_append,hlen,hl],h1,h2,(fun e => by cases e),fun a e => ?_⟩,fun q hq => .inr ?_,hg.os.symm,hg.tape.symm,hg.output.symm,hg.size,fun q hq _ => hg.block q hq (by simp)⟩
      · injection e with e
        subst e
        refine ⟨g,0,cur,rfl,hh,by omega,fun j u hu => ?_⟩
        rw [qx,<- h4] at hu
        rw [List.getElem?_take] at hu
        split at hu
        · rw [Nat.zero_add]; simpa using hu
        · cases hu
      · rw [qu] at hq
        omega
   cases A with
   | none =>
     have := h.2.2.2.1 rfl
     obtain rfl : cap = 0 := this
     obtain rfl : n = 0 := by omega
     obtain rfl : xs = [] := List.eq_nil_of_length_eq_zero hlen
     rcases Nat.eq_zero_or_pos m with h0 | h0
     · subst h0
       obtain rfl : ys = [] := List.eq_nil_of_length_eq_zero hl
       refine ⟨none,0,w,?_,by simpa using h,fun q hq => .inl hq,rfl,rfl,rfl,Nat.le_refl _,fun _ _ _ => rfl⟩
       simp [Builtin.append_,run_underlying Tryz.underlying22,sizeOf,typeInfo,hi0,Builtin.lenOf,Builtin.firstCells,loadCells,loadCellsFrom]
     · obtain ⟨v',w',hr,h2,h3,_,_⟩ := run_append_own_at (P := Tryz.prog) w w.heap.size 22 ty 78 i0 _ 3 40 Tryz.underlying22 hi0 hz0 hz1 hz2 rfl (by omega) (.slice none 0 0) 0 [] (World.ownsRow_nil _ _ _ _) b m c (rowOf ys) hrl hcb (qaV ys) (by unfold maxLen; omega) (by omega) (Nat.le_refl _)
       exact fresh v' w' (by simpa [rowOf] using h2) h3 (by omega) hr
   | some a =>
     obtain ⟨g,off,cur,rfl,hg,hs,hc⟩ := h.2.2.2.2 a rfl
     by_cases hroom : n + m <= cap
     · have hin : ∀ j,j < (rowOf ys).length -> off + n * 3 + j < cur.size := fun j hj => by
        rw [hrl] at hj
        have : (n + m) * 3 <= cap * 3 := Nat.mul_le_mul_right 3 hroom
        omega
       have hrun := run_append_room_cells (P := Tryz.prog) w 22 ty 78 i0 Tryz.underlying22 hi0 g off n cap b m c (rowOf ys) (by rw [hz1]; exact hrl) hcb (qaV ys) hroom
        (fun j hj => by
          rw [hz1,cell_of_row w g _ cur _ _ hg,Array.getElem?_eq_getElem (hin j hj)]
          rfl)
        (fun j hj => by rw [hz1]; exact frozen_of_row w g _ cur _ hg)
       rw [hz1] at hrun
       obtain ⟨C',c1,c2,c3,c4⟩ := setCells_at g (rowOf ys) (off + n * 3) w cur _ _ hg (by
        rw [hrl]
        have : (n + m) * 3 <= cap * 3 := Nat.mul_le_mul_right 3 hroom
        omega)
       obtain ⟨hgr,hsz⟩ := qI g (rowOf ys) (off + n * 3) w
       refine ⟨some ⟨g,off,none⟩,cap,_,hrun,⟨by rw [List.length_append,hlen,hl],hroom,h.2.2.1,(fun e => by cases e),fun a e => ?_⟩,fun q hq => .inl hq,hgr.os.symm,hgr.tape.symm,hgr.output.symm,hgr.size,fun q hq hne => hgr.block q hq (fun e => hne (by injection e with e; rw [e,qu]))⟩
       injection e with e
       subst e
       refine ⟨g,off,C',rfl,c1,by omega,fun j u hu => ?_⟩
       rw [qx] at hu
       have hxl : (rowOf xs).length = n * 3 := by rw [qk,hlen]
       rcases Nat.lt_or_ge j (n * 3) with hj | hj
       · rw [List.getElem?_append_left (by omega)] at hu
         rw [c3 _ (by omega)]
         exact hc j u hu
       · rw [List.getElem?_append_right (by omega),hxl] at hu
         rw [show off + j = off + n * 3 + (j - n * 3) by omega]
         exact c4 _ _ hu
     · obtain ⟨v',w',hr,h2,h3⟩ := run_append_arg_grows (P := Tryz.prog) w 22 ty 78 i0 _ 3 40 Tryz.underlying22 hi0 hz0 hz1 hz2 rfl (by omega) ⟨g,off,none⟩ n cap (rowOf xs) (by rw [qk,hlen]) (h.cells rfl) b m c (rowOf ys) hrl hcb (by omega) (by unfold maxLen; omega) (by omega)
       exact fresh v' w' h2 h3 (by omega) hr
end
end Go.Proofs.YtmiijlecfiddmaaGreat
set_option linter.unusedVariables false
set_option linter.unusedSimpArgs false
set_option maxRecDepth 100000
set_option maxHeartbeats 200000
namespace Go.Proofs.YtmiijlecfiddmaaGreat
end Go.Proofs.YtmiijlecfiddmaaGreat
namespace Go.Proofs.YtmiijlecfiddmaaGreat
open Go.RowKit
theorem tkq {P : Program} {ops : Array Oper} {Q : Exit → Go.Act → World → Prop} {md : Region.Mode} {S : World → Prop} {fuel : Nat} {listed : Array Bool} {a : Go.Act} {w : World} (i : Nat) (oi : Oper) (v : Value)
    (hy : ∀ w, S w → (execOp a.eval oi).run P w = .ok (.value v) w) (h : wpAnyH P md ops Q S fuel (listed.setIfInBounds i true) (a.put oi.dst v) w)
    (hi : ops[i]? = some oi := by rfl) (hs : Region.noSelect ops = true := by kernel_rfl) (hf : Region.free md ops listed i = true := by kernel_rfl) (hr : (Region.ready md ops listed).contains i = true := by kernel_rfl)
    (hw : Region.wanted oi (yielded ops a.tmps) = true := by rfl) (hS : S w := by assumption) (hQ : ∀ c a w, Q (.panic c) (a.put oi.dst v) w → Q (.panic c) a w := by exact fun _ _ _ h => h) : wpAnyH P md ops Q S (fuel + 1) listed a w :=
  wpAnyH_take hi hs hf hr hQ (Or.inl ⟨hw, hy⟩) hS h
theorem tuq {P : Program} {ops : Array Oper} {Q : Exit → Go.Act → World → Prop} {md : Region.Mode} {S : World → Prop} {fuel : Nat} {listed : Array Bool} {a : Go.Act} {w : World} (i : Nat) (oi : Oper)
    (h : wpAnyH P md ops Q S fuel (listed.setIfInBounds i true) (a.put oi.dst undef) w)
    (hi : ops[i]? = some oi := by rfl) (hs : Region.noSelect ops = true := by kernel_rfl) (hf : Region.free md ops listed i = true := by kernel_rfl) (hr : (Region.ready md ops listed).contains i = true := by kernel_rfl)
    (hw : Region.wanted oi (yielded ops a.tmps) = false := by rfl) (hS : S w := by assumption) (hQ : ∀ c a w, Q (.panic c) (a.put oi.dst undef) w → Q (.panic c) a w := by exact fun _ _ _ h => h) : wpAnyH P md ops Q S (fuel + 1) listed a w :=
  wpAnyH_take hi hs hf hr hQ (Or.inr ⟨hw, rfl⟩) hS h
theorem lpq : (∀ (a : Go.Act) (t : Tmp) (v : Value), a.put (some t) v = { a with tmps := a.tmps.setIfInBounds t v }) ∧ (∀ (a : Go.Act) (v : Value), a.put none v = a) ∧ (∀ (l : List Value) (i : Nat) (x : Value), l.toArray.setIfInBounds i x = (l.set i x).toArray) ∧ (∀ (a b : Value) (l : List Value), (a :: l).set 0 b = b :: l) ∧ (∀ (a b : Value) (l : List Value) (n : Nat), (a :: l).set (n + 1) b = a :: l.set n b) :=
  ⟨fun _ _ _ => rfl, fun _ _ => rfl, fun _ _ _ => List.setIfInBounds_toArray .., fun _ _ _ => rfl, fun _ _ _ _ => rfl⟩
theorem hlq {w : World} {k : Nat} {o : Obj} (h : w.heap[k]? = some o) : k < w.heap.size := (Array.getElem?_eq_some_iff.1 h).1
theorem nlq {n : Nat} : n ≤ n := Nat.le_refl n
theorem blq {B : Nat} {w : World} : Below B w w := Below.refl B w
end Go.Proofs.YtmiijlecfiddmaaGreat
