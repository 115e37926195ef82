/- The document's Base, Last, At, Newer, mark, each by its contract. -/
import Derived.Test.YtmiijlecfiddmaaNNM03
import Derived.Test.YtmiijlecfiddmaaNNM04
import Derived.Test.YtmiijlecfiddmaaNNM02
import Derived.ArgAppend
import Derived.Lib.SliceRun
import Derived.Deep.Cut
import Derived.Deep.DeepCutAuto
set_option linter.unusedVariables false
set_option linter.unusedSimpArgs false
set_option maxRecDepth 100000
set_option maxHeartbeats 200000
namespace Go.Proofs.Ytmiijlecfiddmaa
open Go.RowKit
abbrev atV (o : Option Int) : Value := .tuple #[.int .i64 (o.getD 0), .bool o.isSome]
end Go.Proofs.Ytmiijlecfiddmaa
set_option linter.unusedVariables false
set_option linter.unusedSimpArgs false
set_option maxRecDepth 100000
set_option maxHeartbeats 200000
namespace Go.Proofs.Ytmiijlecfiddmaa
open Go.RowKit
theorem qH (xs ys : List Lay) : rowOf (xs ++ ys) = rowOf xs ++ rowOf ys := by simp [rowOf]
theorem qc0 {w : World} {g off : Nat} {xs : List Lay} (hc : ∀ j u,(rowOf xs)[j]? = some u -> w.cell? ((⟨g,off,none⟩ : Addr).add j) = some u) (k : Nat) (hk : k < xs.length) :
 w.cell? ⟨g,off + k * 3,none⟩ = some (.int .i64 xs[k].e.i) /\ w.cell? ⟨g,off + k * 3 + 1,none⟩ = some (.int .i64 xs[k].e.t) /\ w.cell? ⟨g,off + k * 3 + 2,none⟩ = some (.slice xs[k].A xs[k].e.d.length xs[k].c) := by
 have h : ∀ r (hr : r < 3),w.cell? ⟨g,off + (k * 3 + r),none⟩ = (cells3 xs[k])[r]? := fun r hr => by
  have e := qbJ xs k r hk hr
  have hl : r < (cells3 xs[k]).length := by simp [cells3]; omega
  rw [List.getElem?_eq_getElem hl] at e ⊢
  have := hc _ _ e
  rwa [Addr.add_lit] at this
 exact ⟨h 0 (by omega),h 1 (by omega),h 2 (by omega)⟩
end Go.Proofs.Ytmiijlecfiddmaa
set_option linter.unusedVariables false
set_option linter.unusedSimpArgs false
set_option maxRecDepth 100000
set_option maxHeartbeats 200000
namespace Go.Proofs.Ytmiijlecfiddmaa
open Go.RowKit
def blk (A : Option Addr) (q : Nat) : Prop := ∃ o,A = some ⟨q,o,none⟩
theorem qs (g o q : Nat) : blk (some ⟨g,o,none⟩) q ↔ q = g := by
 constructor
 · rintro ⟨o',e⟩
   injection e with e
   injection e with e1
   exact e1.symm
 · rintro rfl
   exact ⟨o,rfl⟩
theorem qu (q : Nat) : ¬ blk none q := fun ⟨o,e⟩ => by cases e
def Spot (w : World) (A : Option Addr) (n cap : Nat) (xs : List Lay) : Prop :=
 xs.length = n /\ n <= cap /\ cap <= maxLen /\ (A = none -> cap = 0) /\ ∀ a,A = some a -> ∃ g off cur,a = ⟨g,off,none⟩ /\ w.heap[g]? = some (.cells cur 31 (0,0)) /\ off + cap * 3 <= cur.size /\ ∀ j u,(rowOf xs)[j]? = some u -> cur[off + j]? = some u
section
variable {w w' : World} {A : Option Addr} {n cap : Nat} {xs ys : List Lay}
theorem Spot.keep (h : Spot w A n cap xs) (hk : ∀ q,blk A q -> w'.heap[q]? = w.heap[q]?) : Spot w' A n cap xs := by
 refine ⟨h.1,h.2.1,h.2.2.1,h.2.2.2.1,fun a e => ?_⟩
 obtain ⟨g,off,cur,rfl,hg,r⟩ := h.2.2.2.2 a e
 exact ⟨g,off,cur,rfl,(hk g ⟨off,e⟩).trans hg,r⟩
theorem Spot.lt (h : Spot w A n cap xs) {q : Nat} (hq : blk A q) : q < w.heap.size := by
 obtain ⟨o,e⟩ := hq
 obtain ⟨g,off,cur,e2,hg,_⟩ := h.2.2.2.2 _ e
 injection e2 with e2
 subst e2
 exact hlt hg
theorem Spot.cells (h : Spot w A n cap xs) {a : Addr} (e : A = some a) : ∀ j u,(rowOf xs)[j]? = some u -> w.cell? (a.add j) = some u := fun j u hu => by
 obtain ⟨g,off,cur,rfl,hg,_,hc⟩ := h.2.2.2.2 a e
 rw [Addr.add_lit,cell_of_row w g _ cur _ _ hg]
 exact hc j u hu
theorem Spot.ents {Z : Nat -> Prop} (h : Spot w A n cap xs) (hz : ∀ q,blk A q -> Z q) (hok : ∀ x ∈ xs,qh w Z x) : Ents w Z A n cap (xs.map (·.e)) := by
 refine ⟨by rw [List.length_map]; exact h.1,h.2.1,h.2.2.2.1,fun h0 => ?_⟩
 cases A with
 | none => have := h.2.2.2.1 rfl; have := h.2.1; omega
 | some a =>
   obtain ⟨g,off,cur,rfl,hg,hs,hc⟩ := h.2.2.2.2 a rfl
   refine ⟨g,off,rfl,hlt hg,hz g ⟨off,rfl⟩,fun j hj => ?_⟩
   have hj' : j < xs.length := by simpa using hj
   obtain ⟨c0,c1,c2⟩ := qc0 (w := w) (g := g) (off := off) (xs := xs) (h.cells rfl) j hj'
   obtain ⟨hm,hl,hzE⟩ := hok _ (List.getElem_mem hj')
   simp only [List.getElem_map]
   exact ⟨_,_,c0,c1,c2,hm,hl,hzE⟩
theorem qcA (xs : List Lay) (k : Nat) : rowOf (xs.take k) = (rowOf xs).take (k * 3) := by
 have h : rowOf xs = rowOf (xs.take k) ++ rowOf (xs.drop k) := by rw [<- qH,List.take_append_drop]
 rcases Nat.lt_or_ge k xs.length with hk | hk
 · have hl : (rowOf (xs.take k)).length = k * 3 := by rw [ql,List.length_take]; omega
   have e := List.take_left' (l₂ := rowOf (xs.drop k)) hl
   rw [<- h] at e
   exact e.symm
 · rw [List.take_of_length_le hk,List.take_of_length_le (by rw [ql]; omega)]
theorem qcB (xs : List Lay) (k : Nat) : rowOf (xs.drop k) = (rowOf xs).drop (k * 3) := by
 have h : rowOf xs = rowOf (xs.take k) ++ rowOf (xs.drop k) := by rw [<- qH,List.take_append_drop]
 rcases Nat.lt_or_ge k xs.length with hk | hk
 · have hl : (rowOf (xs.take k)).length = k * 3 := by rw [ql,List.length_take]; omega
   have e := List.drop_left' (l₂ := rowOf (xs.drop k)) hl
   rw [<- h] at e
   exact e.symm
 · rw [List.drop_of_length_le hk,List.drop_of_length_le (by rw [ql]; omega)]
   rfl
theorem Spot.take (h : Spot w A n cap xs) {k : Nat} (hk : k <= n) : Spot w A k cap (xs.take k) := by
 have h1 := h.1
 have h2 := h.2.1
 refine ⟨by rw [List.length_take]; omega,by omega,h.2.2.1,h.2.2.2.1,fun a e => ?_⟩
 obtain ⟨g,off,cur,rfl,hg,hs,hc⟩ := h.2.2.2.2 a e
 refine ⟨g,off,cur,rfl,hg,hs,fun j u hu => hc j u ?_⟩
 rw [qcA] at hu
 rw [List.getElem?_take] at hu
 split at hu
 · exact hu
 · cases hu
def qD (A : Option Addr) (cap k : Nat) : Option Addr := if cap = k then A else A.map (·.add (k * 3))
theorem Spot.spotless (h : Spot w A n cap xs) : ∀ a,A = some a -> a.spot = none := fun a e => by
 obtain ⟨g,off,cur,rfl,_⟩ := h.2.2.2.2 a e
 rfl
theorem Spot.drop (h : Spot w A n cap xs) {k : Nat} (hk : k <= n) : Spot w (qD A cap k) (n - k) (cap - k) (xs.drop k) := by
 have h1 := h.1
 have h2 := h.2.1
 refine ⟨by rw [List.length_drop]; omega,by omega,Nat.le_trans (Nat.sub_le _ _) h.2.2.1,fun e => ?_,fun a e => ?_⟩
 · unfold qD at e
   split at e
   · omega
   · cases A with
     | none => have := h.2.2.2.1 rfl; omega
     | some a => cases e
 · cases A with
   | none => unfold qD at e; split at e <;> cases e
   | some b =>
     obtain ⟨g,off,cur,rfl,hg,hs,hc⟩ := h.2.2.2.2 b rfl
     unfold qD at e
     split at e
     · injection e with e
       subst e
       refine ⟨g,off,cur,rfl,hg,by omega,fun j u hu => ?_⟩
       have hl : j < (rowOf (xs.drop k)).length := (List.getElem?_eq_some_iff.1 hu).1
       rw [ql,List.length_drop] at hl
       omega
     · rw [Option.map_some,Addr.add_lit] at e
       injection e with e
       subst e
       refine ⟨g,off + k * 3,cur,rfl,hg,by omega,fun j u hu => ?_⟩
       rw [qcB,List.getElem?_drop] at hu
       rw [Nat.add_assoc]
       exact hc _ _ hu
theorem qci {k : Nat} (hk : k <= cap) (W : World) : (Instr.slice 27 (.slice A n cap) none (some (.int .i64 (k : Int))) none).run Try.prog W = .ok (.slice A k cap) W := by
 have ht := Try.underlying27
 have ht' : Try.prog.underlying 27 = some (.slice (Try.prog.elem 27)) := by simp [Program.elem,ht]
 have he : Try.prog.elem 27 = 31 := by simp [Program.elem,ht]
 rw [run_slice_h W 27 _ _ _ ht' .i64 _ (by omega) (by omega),he,qa7]
 cases A <;> simp [Result.andThen,sliced,Addr.add]
theorem qa8 {k : Nat} (hk : k <= n) (hn : n <= cap) (W : World) : (Instr.slice 27 (.slice A n cap) (some (.int .i64 (k : Int))) none none).run Try.prog W = .ok (.slice (qD A cap k) (n - k) (cap - k)) W := by
 have ht := Try.underlying27
 have ht' : Try.prog.underlying 27 = some (.slice (Try.prog.elem 27)) := by simp [Program.elem,ht]
 have he : Try.prog.elem 27 = 31 := by simp [Program.elem,ht]
 rw [run_slice_l W 27 _ _ _ ht' .i64 _ (by omega) (by omega),he,qa7]
 simp [Result.andThen,sliced,qD]
end
theorem setCells_at (b : Nat) : ∀ (vs : List Value) (o : Nat) (w : World) (C : Array Value) (T : TypeId) (fr : Nat × Nat),w.heap[b]? = some (.cells C T fr) -> o + vs.length <= C.size →
 ∃ C',(w.setCells b o vs).heap[b]? = some (.cells C' T fr) /\ C'.size = C.size /\ (∀ j,j < o \/ o + vs.length <= j -> C'[j]? = C[j]?) /\ ∀ j u,vs[j]? = some u -> C'[o + j]? = some u
 | [],o,w,C,T,fr,h,_ => ⟨C,h,rfl,fun _ _ => rfl,fun j u hu => by simp at hu⟩
 | v :: r,o,w,C,T,fr,h,hs => by
   have h1 := setCell_at w ⟨b,o,none⟩ v C T fr rfl h
   simp only [List.length_cons] at hs
   obtain ⟨C',h2,h3,h4,h5⟩ := setCells_at b r (o + 1) (w.setCell ⟨b,o,none⟩ v) _ T fr h1 (by simp; omega)
   refine ⟨C',h2,by rw [h3]; simp,fun j hj => ?_,fun j u hu => ?_⟩
   · simp only [List.length_cons] at hj
     rw [h4 j (by omega),Array.getElem?_setIfInBounds_ne (by show o ≠ j; omega)]
   · cases j with
     | zero =>
       rw [h4 _ (by omega)]
       injection hu with hu
       subst hu
       rw [Nat.add_zero,Array.getElem?_setIfInBounds_self]
       simp
       omega
     | succ j =>
       rw [show o + (j + 1) = o + 1 + j by omega]
       exact h5 j u hu
theorem qaG (b : Nat) : ∀ (vs : List Value) (o : Nat) (w : World) (q : Nat),q ≠ b -> (w.setCells b o vs).heap[q]? = w.heap[q]?
 | [],_,_,_,_ => rfl
 | v :: r,o,w,q,h => (qaG b r (o + 1) _ q h).trans (Below.heap_setCell _ _ _ _ h)
theorem qX (b : Nat) : ∀ (vs : List Value) (o : Nat) (w : World),w.grownBy (w.setCells b o vs) (some b) /\ (w.setCells b o vs).heap.size = w.heap.size
 | [],_,w => ⟨World.grownBy.refl _ _,rfl⟩
 | v :: r,o,w => by
   obtain ⟨h,hs⟩ := qX b r (o + 1) (w.setCell ⟨b,o,none⟩ v)
   refine ⟨⟨h.os,h.tape,h.output,by rw [World.setCells,hs]; simp,fun k hk hne => ?_⟩,by rw [World.setCells,hs]; simp⟩
   exact qaG b (v :: r) o w k fun e => hne (by rw [e])
section
variable {w : World} {A : Option Addr} {n cap : Nat} {xs ys : List Lay}
theorem qa9 (ty : TypeId) (h : Spot w A n cap xs) (B : Option Addr) (m c : Nat) (hB : B = none -> m = 0) (hl : ys.length = m) (hcell : ∀ b,B = some b -> ∀ j u,(rowOf ys)[j]? = some u -> w.cell? (b.add j) = some u) (hf : n + m <= 1000000) :
 ∃ A' cap' w',(Builtin.append_ #[27,27] ty #[.slice A n cap, .slice B m c]).run Try.prog w = .ok (.slice A' (n + m) cap') w' /\ Spot w' A' (n + m) cap' (xs ++ ys) /\ (∀ q,blk A' q -> blk A q \/ w.heap.size <= q) ∧
  w.os = w'.os /\ w.tape = w'.tape /\ w.output = w'.output /\ w.heap.size <= w'.heap.size /\ ∀ q,q < w.heap.size -> ¬ blk A q -> w'.heap[q]? = w.heap[q]? := by
 obtain ⟨i0,hi0,hz0,hz1,hz2⟩ := info_parts qaZ
 have hlen := h.1
 have hnc := h.2.1
 cases B with
 | none =>
   obtain rfl := hB rfl
   obtain rfl : ys = [] := List.eq_nil_of_length_eq_zero hl
   refine ⟨A,cap,w,?_,by simpa using h,fun q hq => .inl hq,rfl,rfl,rfl,Nat.le_refl _,fun _ _ _ => rfl⟩
   cases A with
   | none =>
     have := h.2.2.2.1 rfl
     obtain rfl : cap = 0 := this
     obtain rfl : n = 0 := by omega
     simp [Builtin.append_,run_underlying Try.underlying27,sizeOf,typeInfo,hi0,Builtin.lenOf,Builtin.firstCells,loadCells,loadCellsFrom]
   | some a =>
     simp [Builtin.append_,run_underlying Try.underlying27,sizeOf,typeInfo,hi0,Builtin.lenOf,Builtin.firstCells,loadCells,loadCellsFrom,hnc,storeCells]
 | some b =>
   have hcb := hcell b rfl
   have hrl : (rowOf ys).length = m * 3 := by rw [ql,hl]
   -- a new row
   have fresh : ∀ v' w',w'.ownsRow w.heap.size 31 3 v' (n + m) (rowOf xs ++ rowOf ys) -> w.grownBy w' none -> 0 < n + m -> (Builtin.append_ #[27,27] ty #[.slice A n cap, .slice (some b) m c]).run Try.prog w = .ok v' w' →
    ∃ A' cap' w',(Builtin.append_ #[27,27] ty #[.slice A n cap, .slice (some b) m c]).run Try.prog w = .ok (.slice A' (n + m) cap') w' /\ Spot w' A' (n + m) cap' (xs ++ ys) /\ (∀ q,blk A' q -> blk A q \/ w.heap.size <= q) ∧
     w.os = w'.os /\ w.tape = w'.tape /\ w.output = w'.output /\ w.heap.size <= w'.heap.size /\ ∀ q,q < w.heap.size -> ¬ blk A q -> w'.heap[q]? = w.heap[q]? := by
    intro v' w' ho hg h0 hr
    rcases ho.2 with ⟨_,h1⟩ | ⟨g,cap',cur,rfl,hb,hh,h1,h2,h3,h4⟩
    · omega
    · refine ⟨some ⟨g,0,none⟩,cap',w',hr,⟨by rw [List.length_append,hlen,hl],h1,h2,(fun e => by cases e),fun a e => ?_⟩,fun q hq => .inr ?_,hg.os.symm,hg.tape.symm,hg.output.symm,hg.size,fun q hq _ => hg.block q hq (by simp)⟩
      · injection e with e
        subst e
        refine ⟨g,0,cur,rfl,hh,by omega,fun j u hu => ?_⟩
        rw [qH,<- h4] at hu
        rw [List.getElem?_take] at hu
        split at hu
        · rw [Nat.zero_add]; simpa using hu
        · cases hu
      · rw [qs] at hq
        omega
   cases A with
   | none =>
     have := h.2.2.2.1 rfl
     obtain rfl : cap = 0 := this
     obtain rfl : n = 0 := by omega
     obtain rfl : xs = [] := List.eq_nil_of_length_eq_zero hlen
     rcases Nat.eq_zero_or_pos m with h0 | h0
     · subst h0
       obtain rfl : ys = [] := List.eq_nil_of_length_eq_zero hl
       refine ⟨none,0,w,?_,by simpa using h,fun q hq => .inl hq,rfl,rfl,rfl,Nat.le_refl _,fun _ _ _ => rfl⟩
       simp [Builtin.append_,run_underlying Try.underlying27,sizeOf,typeInfo,hi0,Builtin.lenOf,Builtin.firstCells,loadCells,loadCellsFrom]
     · obtain ⟨v',w',hr,h2,h3,_,_⟩ := run_append_own_at (P := Try.prog) w w.heap.size 27 ty 31 i0 _ 3 40 Try.underlying27 hi0 hz0 hz1 hz2 rfl (by omega) (.slice none 0 0) 0 [] (World.ownsRow_nil _ _ _ _) b m c (rowOf ys) hrl hcb (qbj ys) (by unfold maxLen; omega) (by omega) (Nat.le_refl _)
       exact fresh v' w' (by simpa [rowOf] using h2) h3 (by omega) hr
   | some a =>
     obtain ⟨g,off,cur,rfl,hg,hs,hc⟩ := h.2.2.2.2 a rfl
     by_cases hroom : n + m <= cap
     · have hin : ∀ j,j < (rowOf ys).length -> off + n * 3 + j < cur.size := fun j hj => by
        rw [hrl] at hj
        have : (n + m) * 3 <= cap * 3 := Nat.mul_le_mul_right 3 hroom
        omega
       have hrun := run_append_room_cells (P := Try.prog) w 27 ty 31 i0 Try.underlying27 hi0 g off n cap b m c (rowOf ys) (by rw [hz1]; exact hrl) hcb (qbj ys) hroom
        (fun j hj => by
          rw [hz1,cell_of_row w g _ cur _ _ hg,Array.getElem?_eq_getElem (hin j hj)]
          rfl)
        (fun j hj => by rw [hz1]; exact frozen_of_row w g _ cur _ hg)
       rw [hz1] at hrun
       obtain ⟨C',c1,c2,c3,c4⟩ := setCells_at g (rowOf ys) (off + n * 3) w cur _ _ hg (by
        rw [hrl]
        have : (n + m) * 3 <= cap * 3 := Nat.mul_le_mul_right 3 hroom
        omega)
       obtain ⟨hgr,hsz⟩ := qX g (rowOf ys) (off + n * 3) w
       refine ⟨some ⟨g,off,none⟩,cap,_,hrun,⟨by rw [List.length_append,hlen,hl],hroom,h.2.2.1,(fun e => by cases e),fun a e => ?_⟩,fun q hq => .inl hq,hgr.os.symm,hgr.tape.symm,hgr.output.symm,hgr.size,fun q hq hne => hgr.block q hq (fun e => hne (by injection e with e; rw [e,qs]))⟩
       injection e with e
       subst e
       refine ⟨g,off,C',rfl,c1,by omega,fun j u hu => ?_⟩
       rw [qH] at hu
       have hxl : (rowOf xs).length = n * 3 := by rw [ql,hlen]
       rcases Nat.lt_or_ge j (n * 3) with hj | hj
       · rw [List.getElem?_append_left (by omega)] at hu
         rw [c3 _ (by omega)]
         exact hc j u hu
       · rw [List.getElem?_append_right (by omega),hxl] at hu
         rw [show off + j = off + n * 3 + (j - n * 3) by omega]
         exact c4 _ _ hu
     · obtain ⟨v',w',hr,h2,h3⟩ := run_append_arg_grows (P := Try.prog) w 27 ty 31 i0 _ 3 40 Try.underlying27 hi0 hz0 hz1 hz2 rfl (by omega) ⟨g,off,none⟩ n cap (rowOf xs) (by rw [ql,hlen]) (h.cells rfl) b m c (rowOf ys) hrl hcb (by omega) (by unfold maxLen; omega) (by omega)
       exact fresh v' w' h2 h3 (by omega) hr
end
end Go.Proofs.Ytmiijlecfiddmaa
set_option linter.unusedVariables false
set_option linter.unusedSimpArgs false
set_option maxRecDepth 100000
set_option maxHeartbeats 200000
namespace Go.Proofs.Ytmiijlecfiddmaa
open Go.RowKit
theorem qh.old {w : World} {Z : Nat -> Prop} {x : Lay} (h : qh w Z x) : qh w (fun q => Z q /\ q < w.heap.size) x := by
 refine ⟨h.1,h.2.1,fun h0 q o e => ⟨h.2.2 h0 q o e,?_⟩⟩
 obtain ⟨g,off,e2,hg,_⟩ := h.2.1.2.2.2 h0
 rw [e] at e2
 injection e2 with e2
 injection e2 with e2
 subst e2
 exact hg
end Go.Proofs.Ytmiijlecfiddmaa
set_option linter.unusedVariables false
set_option linter.unusedSimpArgs false
set_option maxRecDepth 100000
set_option maxHeartbeats 200000
namespace Go.Proofs.Ytmiijlecfiddmaa
open Go.RowKit
abbrev plC (r : RL) (A : Option Addr) (n c s : Nat) : Array Value := #[.int .i64 r.i, .int .i64 r.t, .slice A n c, .int .i64 (s : Int)]
abbrev ptrV (p : Nat) : Value := .pointer (some ⟨p,0,none⟩)
structure LgAt (w : World) (p : Nat) (r : RL) (s : Nat) (Z : Nat -> Prop) (A : Option Addr) (c : Nat) (xs : List Lay) : Prop where
 row : w.heap[p]? = some (.cells (plC r A r.l.length c s) 79)
 spot : Spot w A r.l.length c xs
 map : xs.map (·.e) = r.l
 away : ¬ Z p
 own : ∀ q,blk A q -> q ≠ p /\ ¬ Z q
 lays : ∀ x ∈ xs,qh w (fun q => q ≠ p /\ ¬ blk A q /\ ¬ Z q) x
def Lg (w : World) (p : Nat) (r : RL) (s : Nat) (Z : Nat -> Prop) : Prop := ∃ A c xs,LgAt w p r s Z A c xs
structure Rd (w : World) (p : Nat) (r : RL) (s : Nat) (A : Option Addr) (n c : Nat) : Prop where
 row : w.heap[p]? = some (.cells (plC r A n c s) 79)
 ents : Ents w (fun _ => True) A n c r.l
section
variable {w w' : World} {p : Nat} {r : RL} {s : Nat} {Z Z' : Nat → Prop} {A : Option Addr} {n c : Nat} {xs : List Lay}
theorem LgAt.keep (h : LgAt w p r s Z A c xs) (hs : w.heap.size <= w'.heap.size) (hk : ∀ q,q < w.heap.size -> ¬ Z q -> w'.heap[q]? = w.heap[q]?) : LgAt w' p r s Z A c xs :=
 ⟨(hk p (hlt h.row) h.away).trans h.row,h.spot.keep fun q hq => hk q (h.spot.lt hq) (h.own q hq).2,h.map,h.away,h.own,fun x hx => (h.lays x hx).keep hs fun q hq hz => hk q hq hz.2.2⟩
theorem Lg.keep (h : Lg w p r s Z) (hs : w.heap.size <= w'.heap.size) (hk : ∀ q,q < w.heap.size -> ¬ Z q -> w'.heap[q]? = w.heap[q]?) : Lg w' p r s Z := by
 obtain ⟨A,c,xs,h⟩ := h
 exact ⟨A,c,xs,h.keep hs hk⟩
theorem Lg.below (h : Lg w p r s Z) (hb : Below w.heap.size w w') : Lg w' p r s Z := h.keep hb.size fun q hq _ => hb.block q hq
theorem Lg.mono (h : Lg w p r s Z) (hz : ∀ q,Z' q -> Z q) : Lg w p r s Z' := by
 obtain ⟨A,c,xs,h⟩ := h
 exact ⟨A,c,xs,h.row,h.spot,h.map,fun e => h.away (hz _ e),fun q hq => ⟨(h.own q hq).1,fun e => (h.own q hq).2 (hz _ e)⟩,fun x hx => (h.lays x hx).mono fun q hq => ⟨hq.1,hq.2.1,fun e => hq.2.2 (hz _ e)⟩⟩
theorem LgAt.grow (h : LgAt w p r s Z A c xs) : LgAt w p r s (fun q => Z q \/ w.heap.size <= q) A c xs := by
 refine ⟨h.row,h.spot,h.map,fun e => e.elim h.away fun e => ?_,fun q hq => ⟨(h.own q hq).1,fun e => e.elim (h.own q hq).2 fun e => ?_⟩,fun x hx => (h.lays x hx).old.mono fun q hq => ⟨hq.1.1,hq.1.2.1,fun e => e.elim hq.1.2.2 fun e => ?_⟩⟩
 · have := hlt h.row; omega
 · have := h.spot.lt hq; omega
 · omega
theorem Lg.grow (h : Lg w p r s Z) : Lg w p r s (fun q => Z q \/ w.heap.size <= q) := by
 obtain ⟨A,c,xs,h⟩ := h
 exact ⟨A,c,xs,h.grow⟩
theorem LgAt.mono (h : LgAt w p r s Z A c xs) (hz : ∀ q,Z' q -> Z q) : LgAt w p r s Z' A c xs :=
 ⟨h.row,h.spot,h.map,fun e => h.away (hz _ e),fun q hq => ⟨(h.own q hq).1,fun e => (h.own q hq).2 (hz _ e)⟩,fun x hx => (h.lays x hx).mono fun q hq => ⟨hq.1,hq.2.1,fun e => hq.2.2 (hz _ e)⟩⟩
theorem Lg.same {r' : RL} (h : Lg w p r s Z) (h1 : r'.i = r.i) (h2 : r'.t = r.t) (h3 : r'.l = r.l) : Lg w p r' s Z := by
 obtain ⟨i,t,l,f⟩ := r
 obtain ⟨i',t',l',f'⟩ := r'
 dsimp only at h1 h2 h3
 subst h1 h2 h3
 obtain ⟨A,c,xs,h⟩ := h
 exact ⟨A,c,xs,⟨h.row,h.spot,h.map,h.away,h.own,h.lays⟩⟩
theorem LgAt.rd (h : LgAt w p r s Z A c xs) : Rd w p r s A r.l.length c :=
 ⟨h.row,by
   have := h.spot.ents (Z := fun _ => True) (fun _ _ => trivial) fun x hx => (h.lays x hx).mono fun _ _ => trivial
   rwa [h.map] at this⟩
theorem Lg.rd (h : Lg w p r s Z) : ∃ A c,Rd w p r s A r.l.length c := by
 obtain ⟨A,c,xs,h⟩ := h
 exact ⟨A,c,h.rd⟩
theorem Rd.below (h : Rd w p r s A n c) (hb : Below w.heap.size w w') : Rd w' p r s A n c := ⟨(hb.block _ (hlt h.row)).trans h.row,h.ents.below hb (Nat.le_refl _)⟩
theorem Rd.cells (h : Rd w p r s A n c) : w.cell? ⟨p,0,none⟩ = some (.int .i64 r.i) /\ w.cell? ⟨p,1,none⟩ = some (.int .i64 r.t) /\ w.cell? ⟨p,2,none⟩ = some (.slice A n c) /\ w.cell? ⟨p,3,none⟩ = some (.int .i64 (s : Int)) := (row4 h.row).1
theorem qh.keeps {w w' : World} {Z : Nat -> Prop} {x : Lay} (h : qh w Z x) (hk : qf Z w w') : qh w' Z x := h.keep hk.size hk.block
end
theorem qaH {B : Nat} {w X : World} (h : Below B w X) (b : Nat) (hb : B <= b) (a0 a1 a2 : Value) : Below B w (((X.setCell ⟨b,0,none⟩ a0).setCell ⟨b,1,none⟩ a1).setCell ⟨b,2,none⟩ a2) :=
 ((h.setCell (by exact hb) a0).setCell (by exact hb) a1).setCell (by exact hb) a2
end Go.Proofs.Ytmiijlecfiddmaa
