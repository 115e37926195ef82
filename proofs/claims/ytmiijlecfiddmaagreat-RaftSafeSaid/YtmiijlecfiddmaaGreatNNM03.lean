/- A node's log in memory: a row of entries from somewhere on, cut in front and behind, appended to, cleared. -/
import Derived.Test.YtmiijlecfiddmaaGreatNNM01
import Derived.Test.YtmiijlecfiddmaaGreatNNM02
import Derived.ArgAppend
import Derived.Lib.SliceRun
set_option linter.unusedVariables false
set_option linter.unusedSimpArgs false
set_option maxRecDepth 100000
set_option maxHeartbeats 200000
namespace Go.Proofs.YtmiijlecfiddmaaGreat
open Go.RowKit
def blk (A : Option Addr) (q : Nat) : Prop := ∃ o,A = some ⟨q,o,none⟩
theorem qB (g o q : Nat) : blk (some ⟨g,o,none⟩) q ↔ q = g := by
 constructor
 · rintro ⟨o',e⟩;injection e with e;injection e with e1;exact e1.symm
 · rintro rfl;exact ⟨o,rfl⟩
theorem qz (q : Nat) : ¬ blk none q := fun ⟨o,e⟩ => by cases e
def Spot (w : World) (A : Option Addr) (n cap : Nat) (xs : List Lay) : Prop :=
 xs.length = n /\ n <= cap /\ cap <= maxLen /\ (A = none -> cap = 0) /\ ∀ a,A = some a -> ∃ g off cur,a = ⟨g,off,none⟩ /\ w.heap[g]? = some (.cells cur 78 (0,0)) /\ off + cap * 3 <= cur.size /\ ∀ j u,(rowOf xs)[j]? = some u -> cur[off + j]? = some u
section
variable {w w' : World} {A : Option Addr} {n cap : Nat} {xs ys : List Lay}
theorem Spot.keep (h : Spot w A n cap xs) (hk : ∀ q,blk A q -> w'.heap[q]? = w.heap[q]?) : Spot w' A n cap xs := by
 refine ⟨h.1,h.2.1,h.2.2.1,h.2.2.2.1,fun a e => ?_⟩;obtain ⟨g,off,cur,rfl,hg,r⟩ := h.2.2.2.2 a e;exact ⟨g,off,cur,rfl,(hk g ⟨off,e⟩).trans hg,r⟩
theorem Spot.lt (h : Spot w A n cap xs) {q : Nat} (hq : blk A q) : q < w.heap.size := by
 obtain ⟨o,e⟩ := hq;obtain ⟨g,off,cur,e2,hg,_⟩ := h.2.2.2.2 _ e;injection e2 with e2;subst e2;exact hlt hg
theorem Spot.cells (h : Spot w A n cap xs) {a : Addr} (e : A = some a) : ∀ j u,(rowOf xs)[j]? = some u -> w.cell? (a.add j) = some u := fun j u hu => by
 obtain ⟨g,off,cur,rfl,hg,_,hc⟩ := h.2.2.2.2 a e;rw [Addr.add_lit,cell_of_row w g _ cur _ _ hg];exact hc j u hu
theorem Spot.ents {Z : Nat -> Prop} (h : Spot w A n cap xs) (hz : ∀ q,blk A q -> Z q) (hok : ∀ x ∈ xs,qs w Z x) : Ents w Z A n cap (xs.map (·.e)) := by
 refine ⟨by rw [List.length_map]; exact h.1,h.2.1,h.2.2.2.1,fun h0 => ?_⟩
 cases A with
 | none => have := h.2.2.2.1 rfl; have := h.2.1; omega
 | some a =>
   obtain ⟨g,off,cur,rfl,hg,hs,hc⟩ := h.2.2.2.2 a rfl;refine ⟨g,off,rfl,hlt hg,hz g ⟨off,rfl⟩,fun j hj => ?_⟩
   have hj' : j < xs.length := by simpa using hj
   obtain ⟨c0,c1,c2⟩ := lay_at (w := w) (g := g) (off := off) (xs := xs) (h.cells rfl) j hj';obtain ⟨hm,hl,hzE⟩ := hok _ (List.getElem_mem hj');simp only [List.getElem_map];exact ⟨_,_,c0,c1,c2,hm,hl,hzE⟩
theorem qdk (xs : List Lay) (k : Nat) : rowOf (xs.take k) = (rowOf xs).take (k * 3) := by
 have h : rowOf xs = rowOf (xs.take k) ++ rowOf (xs.drop k) := by rw [<- qS,List.take_append_drop]
 rcases Nat.lt_or_ge k xs.length with hk | hk
 · have hl : (rowOf (xs.take k)).length = k * 3 := by rw [qv,List.length_take]; omega
   have e := List.take_left' (l₂ := rowOf (xs.drop k)) hl;rw [<- h] at e;exact e.symm
 · rw [List.take_of_length_le hk,List.take_of_length_le (by rw [qv]; omega)]
theorem qgK (xs : List Lay) (k : Nat) : rowOf (xs.drop k) = (rowOf xs).drop (k * 3) := by
 have h : rowOf xs = rowOf (xs.take k) ++ rowOf (xs.drop k) := by rw [<- qS,List.take_append_drop]
 rcases Nat.lt_or_ge k xs.length with hk | hk
 · have hl : (rowOf (xs.take k)).length = k * 3 := by rw [qv,List.length_take]; omega
   have e := List.drop_left' (l₂ := rowOf (xs.drop k)) hl;rw [<- h] at e;exact e.symm
 · rw [List.drop_of_length_le hk,List.drop_of_length_le (by rw [qv]; omega)]
   rfl
theorem Spot.take (h : Spot w A n cap xs) {k : Nat} (hk : k <= n) : Spot w A k cap (xs.take k) := by
 have h1 := h.1;have h2 := h.2.1;refine ⟨by rw [List.length_take]; omega,by omega,h.2.2.1,h.2.2.2.1,fun a e => ?_⟩;obtain ⟨g,off,cur,rfl,hg,hs,hc⟩ := h.2.2.2.2 a e;refine ⟨g,off,cur,rfl,hg,hs,fun j u hu => hc j u ?_⟩;rw [qdk] at hu;rw [List.getElem?_take] at hu
 split at hu
 · exact hu
 · cases hu
def tailAt (A : Option Addr) (cap k : Nat) : Option Addr := if cap = k then A else A.map (·.add (k * 3))
theorem qdl {k : Nat} (q : Nat) (hA : ∀ a,A = some a -> a.spot = none) : blk (tailAt A cap k) q ↔ blk A q := by
 unfold tailAt
 split
 · exact Iff.rfl
 · cases A with
   | none => exact Iff.rfl
   | some a =>
     obtain ⟨g,o,sp⟩ := a;obtain rfl : sp = none := hA _ rfl;rw [Option.map_some,Addr.add_lit,qB,qB]
theorem Spot.spotless (h : Spot w A n cap xs) : ∀ a,A = some a -> a.spot = none := fun a e => by
 obtain ⟨g,off,cur,rfl,_⟩ := h.2.2.2.2 a e
 rfl
theorem Spot.drop (h : Spot w A n cap xs) {k : Nat} (hk : k <= n) : Spot w (tailAt A cap k) (n - k) (cap - k) (xs.drop k) := by
 have h1 := h.1;have h2 := h.2.1;refine ⟨by rw [List.length_drop]; omega,by omega,Nat.le_trans (Nat.sub_le _ _) h.2.2.1,fun e => ?_,fun a e => ?_⟩
 · unfold tailAt at e
   split at e
   · omega
   · cases A with
     | none => have := h.2.2.2.1 rfl; omega
     | some a => cases e
 · cases A with
   | none => unfold tailAt at e; split at e <;> cases e
   | some b =>
     obtain ⟨g,off,cur,rfl,hg,hs,hc⟩ := h.2.2.2.2 b rfl;unfold tailAt at e
     split at e
     · injection e with e;subst e;refine ⟨g,off,cur,rfl,hg,by omega,fun j u hu => ?_⟩;have hl : j < (rowOf (xs.drop k)).length := (List.getElem?_eq_some_iff.1 hu).1;rw [qv,List.length_drop] at hl;omega
     · rw [Option.map_some,Addr.add_lit] at e;injection e with e;subst e;refine ⟨g,off + k * 3,cur,rfl,hg,by omega,fun j u hu => ?_⟩;rw [qgK,List.getElem?_drop] at hu;rw [Nat.add_assoc];exact hc _ _ hu
theorem qbS {k : Nat} (hk : k <= cap) (W : World) : (Instr.slice 22 (.slice A n cap) none (some (.int .i64 (k : Int))) none).run Tryz.prog W = .ok (.slice A k cap) W := by
 have ht := Tryz.underlying22
 have ht' : Tryz.prog.underlying 22 = some (.slice (Tryz.prog.elem 22)) := by simp [Program.elem,ht]
 have he : Tryz.prog.elem 22 = 78 := by simp [Program.elem,ht]
 rw [run_slice_h W 22 _ _ _ ht' .i64 _ (by omega) (by omega),he,qdj]
 cases A <;> simp [Result.andThen,sliced,Addr.add]
theorem qaU {k : Nat} (hk : k <= n) (hn : n <= cap) (W : World) : (Instr.slice 22 (.slice A n cap) (some (.int .i64 (k : Int))) none none).run Tryz.prog W = .ok (.slice (tailAt A cap k) (n - k) (cap - k)) W := by
 have ht := Tryz.underlying22
 have ht' : Tryz.prog.underlying 22 = some (.slice (Tryz.prog.elem 22)) := by simp [Program.elem,ht]
 have he : Tryz.prog.elem 22 = 78 := by simp [Program.elem,ht]
 rw [run_slice_l W 22 _ _ _ ht' .i64 _ (by omega) (by omega),he,qdj]
 simp [Result.andThen,sliced,tailAt]
end
theorem setCells_at (b : Nat) : ∀ (vs : List Value) (o : Nat) (w : World) (C : Array Value) (T : TypeId) (fr : Nat × Nat),w.heap[b]? = some (.cells C T fr) -> o + vs.length <= C.size →
 ∃ C',(w.setCells b o vs).heap[b]? = some (.cells C' T fr) /\ C'.size = C.size /\ (∀ j,j < o \/ o + vs.length <= j -> C'[j]? = C[j]?) /\ ∀ j u,vs[j]? = some u -> C'[o + j]? = some u
 | [],o,w,C,T,fr,h,_ => ⟨C,h,rfl,fun _ _ => rfl,fun j u hu => by simp at hu⟩
 | v :: r,o,w,C,T,fr,h,hs => by
   have h1 := setCell_at w ⟨b,o,none⟩ v C T fr rfl h;simp only [List.length_cons] at hs;obtain ⟨C',h2,h3,h4,h5⟩ := setCells_at b r (o + 1) (w.setCell ⟨b,o,none⟩ v) _ T fr h1 (by simp; omega);refine ⟨C',h2,by rw [h3]; simp,fun j hj => ?_,fun j u hu => ?_⟩
   · simp only [List.length_cons] at hj;rw [h4 j (by omega),Array.getElem?_setIfInBounds_ne (by show o ≠ j; omega)]
   · cases j with
     | zero =>
       rw [h4 _ (by omega)];injection hu with hu;subst hu;rw [Nat.add_zero,Array.getElem?_setIfInBounds_self];simp;omega
     | succ j =>
       rw [show o + (j + 1) = o + 1 + j by omega];exact h5 j u hu
theorem qcu (b : Nat) : ∀ (vs : List Value) (o : Nat) (w : World) (q : Nat),q ≠ b -> (w.setCells b o vs).heap[q]? = w.heap[q]?
 | [],_,_,_,_ => rfl
 | v :: r,o,w,q,h => (qcu b r (o + 1) _ q h).trans (Below.heap_setCell _ _ _ _ h)
theorem qaC (b : Nat) : ∀ (vs : List Value) (o : Nat) (w : World),w.grownBy (w.setCells b o vs) (some b) /\ (w.setCells b o vs).heap.size = w.heap.size
 | [],_,w => ⟨World.grownBy.refl _ _,rfl⟩
 | v :: r,o,w => by
   obtain ⟨h,hs⟩ := qaC b r (o + 1) (w.setCell ⟨b,o,none⟩ v);refine ⟨⟨h.os,h.tape,h.output,by rw [World.setCells,hs]; simp,fun k hk hne => ?_⟩,by rw [World.setCells,hs]; simp⟩;exact qcu b (v :: r) o w k fun e => hne (by rw [e])
section
variable {w : World} {A : Option Addr} {n cap : Nat} {xs ys : List Lay}
theorem qdm (ty : TypeId) (h : Spot w A n cap xs) (B : Option Addr) (m c : Nat) (hB : B = none -> m = 0) (hl : ys.length = m) (hcell : ∀ b,B = some b -> ∀ j u,(rowOf ys)[j]? = some u -> w.cell? (b.add j) = some u) (hf : n + m <= 1000000) :
 ∃ A' cap' w',(Builtin.append_ #[22,22] ty #[.slice A n cap, .slice B m c]).run Tryz.prog w = .ok (.slice A' (n + m) cap') w' /\ Spot w' A' (n + m) cap' (xs ++ ys) /\ (∀ q,blk A' q -> blk A q \/ w.heap.size <= q) ∧
  w.os = w'.os /\ w.tape = w'.tape /\ w.output = w'.output /\ w.heap.size <= w'.heap.size /\ ∀ q,q < w.heap.size -> ¬ blk A q -> w'.heap[q]? = w.heap[q]? := by
 obtain ⟨i0,hi0,hz0,hz1,hz2⟩ := info_parts qb5;have hlen := h.1;have hnc := h.2.1
 cases B with
 | none =>
   obtain rfl := hB rfl;obtain rfl : ys = [] := List.eq_nil_of_length_eq_zero hl;refine ⟨A,cap,w,?_,by simpa using h,fun q hq => .inl hq,rfl,rfl,rfl,Nat.le_refl _,fun _ _ _ => rfl⟩
   cases A with
   | none =>
     have := h.2.2.2.1 rfl;obtain rfl : cap = 0 := this
     obtain rfl : n = 0 := by omega
     simp [Builtin.append_,run_underlying Tryz.underlying22,sizeOf,typeInfo,hi0,Builtin.lenOf,Builtin.firstCells,loadCells,loadCellsFrom]
   | some a =>
     simp [Builtin.append_,run_underlying Tryz.underlying22,sizeOf,typeInfo,hi0,Builtin.lenOf,Builtin.firstCells,loadCells,loadCellsFrom,hnc,storeCells]
 | some b =>
   have hcb := hcell b rfl
   have hrl : (rowOf ys).length = m * 3 := by rw [qv,hl]
   -- a new row
   have fresh : ∀ v' w',w'.ownsRow w.heap.size 78 3 v' (n + m) (rowOf xs ++ rowOf ys) -> w.grownBy w' none -> 0 < n + m -> (Builtin.append_ #[22,22] ty #[.slice A n cap, .slice (some b) m c]).run Tryz.prog w = .ok v' w' →
    ∃ A' cap' w',(Builtin.append_ #[22,22] ty #[.slice A n cap, .slice (some b) m c]).run Tryz.prog w = .ok (.slice A' (n + m) cap') w' /\ Spot w' A' (n + m) cap' (xs ++ ys) /\ (∀ q,blk A' q -> blk A q \/ w.heap.size <= q) ∧
     w.os = w'.os /\ w.tape = w'.tape /\ w.output = w'.output /\ w.heap.size <= w'.heap.size /\ ∀ q,q < w.heap.size -> ¬ blk A q -> w'.heap[q]? = w.heap[q]? := by
    intro v' w' ho hg h0 hr;rcases ho.2 with ⟨_,h1⟩ | ⟨g,cap',cur,rfl,hb,hh,h1,h2,h3,h4⟩
    · omega
    · refine ⟨some ⟨g,0,none⟩,cap',w',hr,⟨by rw [List.length_append,hlen,hl],h1,h2,(fun e => by cases e),fun a e => ?_⟩,fun q hq => .inr ?_,hg.os.symm,hg.tape.symm,hg.output.symm,hg.size,fun q hq _ => hg.block q hq (by simp)⟩
      · injection e with e;subst e;refine ⟨g,0,cur,rfl,hh,by omega,fun j u hu => ?_⟩;rw [qS,<- h4] at hu;rw [List.getElem?_take] at hu
        split at hu
        · rw [Nat.zero_add]; simpa using hu
        · cases hu
      · rw [qB] at hq;omega
   cases A with
   | none =>
     have := h.2.2.2.1 rfl;obtain rfl : cap = 0 := this
     obtain rfl : n = 0 := by omega
     obtain rfl : xs = [] := List.eq_nil_of_length_eq_zero hlen;rcases Nat.eq_zero_or_pos m with h0 | h0
     · subst h0;obtain rfl : ys = [] := List.eq_nil_of_length_eq_zero hl;refine ⟨none,0,w,?_,by simpa using h,fun q hq => .inl hq,rfl,rfl,rfl,Nat.le_refl _,fun _ _ _ => rfl⟩
       simp [Builtin.append_,run_underlying Tryz.underlying22,sizeOf,typeInfo,hi0,Builtin.lenOf,Builtin.firstCells,loadCells,loadCellsFrom]
     · obtain ⟨v',w',hr,h2,h3,_,_⟩ := run_append_own_at (P := Tryz.prog) w w.heap.size 22 ty 78 i0 _ 3 40 Tryz.underlying22 hi0 hz0 hz1 hz2 rfl (by omega) (.slice none 0 0) 0 [] (World.ownsRow_nil _ _ _ _) b m c (rowOf ys) hrl hcb (qd8 ys) (by unfold maxLen; omega) (by omega) (Nat.le_refl _);exact fresh v' w' (by simpa [rowOf] using h2) h3 (by omega) hr
   | some a =>
     obtain ⟨g,off,cur,rfl,hg,hs,hc⟩ := h.2.2.2.2 a rfl
     by_cases hroom : n + m <= cap
     · have hin : ∀ j,j < (rowOf ys).length -> off + n * 3 + j < cur.size := fun j hj => by
        rw [hrl] at hj;have : (n + m) * 3 <= cap * 3 := Nat.mul_le_mul_right 3 hroom;omega
       have hrun := run_append_room_cells (P := Tryz.prog) w 22 ty 78 i0 Tryz.underlying22 hi0 g off n cap b m c (rowOf ys) (by rw [hz1]; exact hrl) hcb (qd8 ys) hroom
        (fun j hj => by
          rw [hz1,cell_of_row w g _ cur _ _ hg,Array.getElem?_eq_getElem (hin j hj)]
          rfl)
        (fun j hj => by rw [hz1]; exact frozen_of_row w g _ cur _ hg)
       rw [hz1] at hrun
       obtain ⟨C',c1,c2,c3,c4⟩ := setCells_at g (rowOf ys) (off + n * 3) w cur _ _ hg (by
        rw [hrl];have : (n + m) * 3 <= cap * 3 := Nat.mul_le_mul_right 3 hroom
        omega)
       obtain ⟨hgr,hsz⟩ := qaC g (rowOf ys) (off + n * 3) w;refine ⟨some ⟨g,off,none⟩,cap,_,hrun,⟨by rw [List.length_append,hlen,hl],hroom,h.2.2.1,(fun e => by cases e),fun a e => ?_⟩,fun q hq => .inl hq,hgr.os.symm,hgr.tape.symm,hgr.output.symm,hgr.size,fun q hq hne => hgr.block q hq (fun e => hne (by injection e with e; rw [e,qB]))⟩;injection e with e;subst e;refine ⟨g,off,C',rfl,c1,by omega,fun j u hu => ?_⟩;rw [qS] at hu
       have hxl : (rowOf xs).length = n * 3 := by rw [qv,hlen]
       rcases Nat.lt_or_ge j (n * 3) with hj | hj
       · rw [List.getElem?_append_left (by omega)] at hu;rw [c3 _ (by omega)];exact hc j u hu
       · rw [List.getElem?_append_right (by omega),hxl] at hu;rw [show off + j = off + n * 3 + (j - n * 3) by omega];exact c4 _ _ hu
     · obtain ⟨v',w',hr,h2,h3⟩ := run_append_arg_grows (P := Tryz.prog) w 22 ty 78 i0 _ 3 40 Tryz.underlying22 hi0 hz0 hz1 hz2 rfl (by omega) ⟨g,off,none⟩ n cap (rowOf xs) (by rw [qv,hlen]) (h.cells rfl) b m c (rowOf ys) hrl hcb (by omega) (by unfold maxLen; omega) (by omega);exact fresh v' w' h2 h3 (by omega) hr
theorem qjk (W : World) : (zeroValue 78).run Tryz.prog W = .ok (.agg #[.int .i64 0, .int .i64 0, .slice none 0 0]) W := by
 obtain ⟨i,hi,hz,_,_⟩ := info_parts qb5
 simp [zeroValue,typeInfo,hi,hz]
theorem qcv (ty : TypeId) (g o k c : Nat) (cur : Array Value) (hg : w.heap[g]? = some (.cells cur 78 (0,0))) (hk : o + k * 3 <= cur.size) :
 ∃ C' w',(Builtin.clear_ #[22] ty #[.slice (some ⟨g,o,none⟩) k c]).run Tryz.prog w = .ok (.tuple #[]) w' /\ w'.heap[g]? = some (.cells C' 78 (0,0)) /\ C'.size = cur.size /\ (∀ j,j < o \/ o + k * 3 <= j -> C'[j]? = cur[j]?) /\ w.grownBy w' (some g) := by
 rcases Nat.eq_zero_or_pos k with h0 | h0
 · subst h0;refine ⟨cur,w,?_,hg,rfl,fun _ _ => rfl,World.grownBy.refl _ _⟩
   simp [Builtin.clear_,run_underlying Tryz.underlying22]
 · obtain ⟨zs,hzs⟩ : ∃ zs,zs = (Builtin.zeroCells (Value.agg #[.int .i64 0, .int .i64 0, .slice none 0 0]).cells k).toList := ⟨_,rfl⟩
   have hzl : zs.length = k * 3 := by rw [hzs,Array.length_toList,size_zeroCells]; rfl
   have hone : ∀ v ∈ zs,v.oneCell' = true := by
    intro v hv;rw [hzs] at hv;obtain ⟨j,hj,rfl⟩ := List.getElem_of_mem hv
    have h3 : j % 3 = 0 \/ j % 3 = 1 \/ j % 3 = 2 := by omega
    simp only [Builtin.zeroCells,Value.cells,Array.getElem_toList,Array.getElem_ofFn] at *
    rcases h3 with h3 | h3 | h3 <;> simp [Value.cells,h3,Value.oneCell']
   have hst := run_storeCells_cells (P := Tryz.prog) g o zs 0 w (fun j hj => by
    rw [cell_of_row w g _ cur _ _ hg,Array.getElem?_eq_getElem (by omega)]
    rfl) (fun j hj => frozen_of_row w g _ cur _ hg) hone
   simp only [Nat.add_zero] at hst;obtain ⟨C',c1,c2,c3,_⟩ := setCells_at g zs o w cur _ _ hg (by omega);obtain ⟨hgr,_⟩ := qaC g zs o w;refine ⟨C',_,?_,c1,c2,fun j hj => c3 j (by omega),hgr⟩;obtain ⟨m,rfl⟩ : ∃ m,k = m + 1 := ⟨k - 1,by omega⟩;simp only [Builtin.clear_]
   simp [run_underlying Tryz.underlying22,qjk,<- hzs,hst]
/-- The front is cleared: the rest is as it was. -/
theorem qdn (ty : TypeId) (h : Spot w A n cap xs) {k : Nat} (hk : k <= n) :
 ∃ w',(Builtin.clear_ #[22] ty #[.slice A k cap]).run Tryz.prog w = .ok (.tuple #[]) w' /\ Spot w' (tailAt A cap k) (n - k) (cap - k) (xs.drop k) ∧
  w.os = w'.os /\ w.tape = w'.tape /\ w.output = w'.output /\ w.heap.size <= w'.heap.size /\ ∀ q,q < w.heap.size -> ¬ blk A q -> w'.heap[q]? = w.heap[q]? := by
 have hd := h.drop hk
 cases A with
 | none => exact ⟨w,by simp [Builtin.clear_,run_underlying Tryz.underlying22],hd,rfl,rfl,rfl,Nat.le_refl _,fun _ _ _ => rfl⟩
 | some a =>
   obtain ⟨g,off,cur,rfl,hg,hs,hc⟩ := h.2.2.2.2 a rfl;have hnc := h.2.1;obtain ⟨C',w',hr,h1,h2,h3,hgr⟩ := qcv (w := w) ty g off k cap cur hg (by omega);refine ⟨w',hr,⟨hd.1,hd.2.1,hd.2.2.1,hd.2.2.2.1,fun a e => ?_⟩,hgr.os.symm,hgr.tape.symm,hgr.output.symm,hgr.size,fun q hq hne => hgr.block q hq (fun e => hne (by injection e with e; rw [e,qB]))⟩;obtain ⟨g',off',cur',rfl,hg',hs',hc'⟩ := hd.2.2.2.2 a e
   have hgg : g' = g := by
    have : blk (some ⟨g,off,none⟩) g' := (qdl (A := some ⟨g,off,none⟩) (cap := cap) (k := k) g' (fun a e => by injection e with e; rw [<- e])).1 ⟨off',e⟩;exact (qB _ _ _).1 this
   subst hgg;rw [hg] at hg';injection hg' with hg';injection hg' with hg';subst hg';refine ⟨g',off',C',rfl,h1,by omega,fun j u hu => ?_⟩;rw [h3 (off' + j) ?_]
   · exact hc' j u hu
   · right
     have hl : j < (rowOf (xs.drop k)).length := (List.getElem?_eq_some_iff.1 hu).1;rw [qv,List.length_drop,h.1] at hl;unfold tailAt at e;rw [if_neg (by omega),Option.map_some,Addr.add_lit] at e;injection e with e;injection e with _ e;omega
theorem qdP (ty : TypeId) (h : Spot w A n cap xs) {k : Nat} (hk : k <= n) :
 ∃ w',(Builtin.clear_ #[22] ty #[.slice (tailAt A cap k) (n - k) (cap - k)]).run Tryz.prog w = .ok (.tuple #[]) w' /\ Spot w' A k cap (xs.take k) ∧
  w.os = w'.os /\ w.tape = w'.tape /\ w.output = w'.output /\ w.heap.size <= w'.heap.size /\ ∀ q,q < w.heap.size -> ¬ blk A q -> w'.heap[q]? = w.heap[q]? := by
 have ht := h.take hk
 cases A with
 | none =>
   refine ⟨w,?_,ht,rfl,rfl,rfl,Nat.le_refl _,fun _ _ _ => rfl⟩
   have : tailAt none cap k = none := by unfold tailAt; split <;> rfl
   rw [this]
   simp [Builtin.clear_,run_underlying Tryz.underlying22]
 | some a =>
   obtain ⟨g,off,cur,rfl,hg,hs,hc⟩ := h.2.2.2.2 a rfl;have hnc := h.2.1
   obtain ⟨o,ho,ho2⟩ : ∃ o,tailAt (some ⟨g,off,none⟩) cap k = some ⟨g,o,none⟩ /\ ((n - k = 0 /\ o = off) \/ o = off + k * 3) := by
    unfold tailAt
    split
    · exact ⟨off,rfl, .inl ⟨by omega,rfl⟩⟩
    · exact ⟨off + k * 3,by rw [Option.map_some,Addr.add_lit], .inr rfl⟩
   obtain ⟨C',w',hr,h1,h2,h3,hgr⟩ := qcv (w := w) ty g o (n - k) (cap - k) cur hg (by omega);rw [ho];refine ⟨w',hr,⟨ht.1,ht.2.1,ht.2.2.1,ht.2.2.2.1,fun a e => ?_⟩,hgr.os.symm,hgr.tape.symm,hgr.output.symm,hgr.size,fun q hq hne => hgr.block q hq (fun e => hne (by injection e with e; rw [e,qB]))⟩;obtain ⟨g',off',cur',e',hg',hs',hc'⟩ := ht.2.2.2.2 a e;rw [e'] at e;injection e with e;injection e with e1 e2;subst e1 e2;rw [hg] at hg';injection hg' with hg';injection hg' with hg';subst hg';refine ⟨g,off,C',e',h1,by omega,fun j u hu => ?_⟩;rw [h3 (off + j) ?_]
   · exact hc' j u hu
   · have hl : j < (rowOf (xs.take k)).length := (List.getElem?_eq_some_iff.1 hu).1;rw [qv,ht.1] at hl;omega
end
end Go.Proofs.YtmiijlecfiddmaaGreat
set_option linter.unusedVariables false
set_option linter.unusedSimpArgs false
set_option maxRecDepth 100000
set_option maxHeartbeats 200000
namespace Go.Proofs.YtmiijlecfiddmaaGreat
open Go.RowKit
structure Elem (ts T : TypeId) (z : Value) (sz bytes : Nat) : Prop where
 sl : Tryz.prog.underlying ts = some (.slice T)
 info : (Tryz.prog.info? T).map (fun i => (i.zero,i.size,i.bytes)) = some (some z,sz,bytes)
 zs : z.cells.size = sz
 pos : 0 < sz
 few : bytes <= 1000
def Sp (T : TypeId) (sz : Nat) (w : World) (A : Option Addr) (n cap : Nat) (vs : List Value) : Prop :=
 vs.length = n * sz /\ n <= cap /\ (A = none -> cap = 0) /\ ∀ a,A = some a -> ∃ g off cur,a = ⟨g,off,none⟩ /\ w.heap[g]? = some (.cells cur T (0,0)) /\ off + cap * sz <= cur.size /\ ∀ j u,vs[j]? = some u -> cur[off + j]? = some u
section
variable {w w' : World} {A : Option Addr} {n cap sz : Nat} {T : TypeId} {vs us : List Value}
theorem Sp.nil (T : TypeId) (sz : Nat) (w : World) : Sp T sz w none 0 0 [] := ⟨by simp,nlq,fun _ => rfl,fun a e => by cases e⟩
theorem Sp.keep (h : Sp T sz w A n cap vs) (hk : ∀ q,blk A q -> w'.heap[q]? = w.heap[q]?) : Sp T sz w' A n cap vs := by
 refine ⟨h.1,h.2.1,h.2.2.1,fun a e => ?_⟩;obtain ⟨g,off,cur,rfl,hg,r⟩ := h.2.2.2 a e;exact ⟨g,off,cur,rfl,(hk g ⟨off,e⟩).trans hg,r⟩
theorem Sp.block (h : Sp T sz w A n cap vs) {q : Nat} (hq : blk A q) : ∃ cur,w.heap[q]? = some (.cells cur T (0,0)) := by
 obtain ⟨o,e⟩ := hq;obtain ⟨g,off,cur,e2,hg,_⟩ := h.2.2.2 _ e;injection e2 with e2;subst e2;exact ⟨cur,hg⟩
theorem Sp.lt (h : Sp T sz w A n cap vs) {q : Nat} (hq : blk A q) : q < w.heap.size := by
 obtain ⟨cur,hg⟩ := h.block hq;exact hlt hg
theorem Sp.at_ (h : Sp T sz w A n cap vs) (hs : 0 < sz) (k : Nat) (hk : k < n) : ∃ g off,A = some ⟨g,off,none⟩ /\ g < w.heap.size /\ (∀ j (hj : j < sz) u,vs[k * sz + j]? = some u -> w.cell? ⟨g,off + k * sz + j,none⟩ = some u) /\ ∀ o,w.frozen? ⟨g,o,none⟩ = false := by
 cases A with
 | none => have := h.2.2.1 rfl; have := h.2.1; omega
 | some a =>
   obtain ⟨g,off,cur,rfl,hg,hl,hc⟩ := h.2.2.2 a rfl;refine ⟨g,off,rfl,hlt hg,fun j hj u hu => ?_,fun o => frozen_of_row w g o cur _ hg⟩;rw [cell_of_row w g _ cur _ _ hg,Nat.add_assoc];exact hc _ u hu
theorem Sp.cells (h : Sp T sz w A n cap vs) {a : Addr} (e : A = some a) : ∀ j u,vs[j]? = some u -> w.cell? (a.add j) = some u := fun j u hu => by
 obtain ⟨g,off,cur,rfl,hg,_,hc⟩ := h.2.2.2 a e;rw [Addr.add_lit,cell_of_row w g _ cur _ _ hg];exact hc j u hu
theorem Sp.spotless (h : Sp T sz w A n cap vs) : ∀ a,A = some a -> a.spot = none := fun a e => by
 obtain ⟨g,off,cur,rfl,_⟩ := h.2.2.2 a e
 rfl
def qab (sz : Nat) (A : Option Addr) (cap k : Nat) : Option Addr := if cap = k then A else A.map (·.add (k * sz))
theorem qhF {k : Nat} (q : Nat) (hA : ∀ a,A = some a -> a.spot = none) : blk (qab sz A cap k) q ↔ blk A q := by
 unfold qab
 split
 · exact Iff.rfl
 · cases A with
   | none => exact Iff.rfl
   | some a =>
     obtain ⟨g,o,sp⟩ := a;obtain rfl : sp = none := hA _ rfl;rw [Option.map_some,Addr.add_lit,qB,qB]
theorem Sp.drop (h : Sp T sz w A n cap vs) {k : Nat} (hk : k <= n) : Sp T sz w (qab sz A cap k) (n - k) (cap - k) (vs.drop (k * sz)) := by
 have h1 := h.1;have h2 := h.2.1;refine ⟨by rw [List.length_drop,h1,Nat.sub_mul],by omega,fun e => ?_,fun a e => ?_⟩
 · unfold qab at e
   split at e
   · omega
   · cases A with
     | none => have := h.2.2.1 rfl; omega
     | some a => cases e
 · cases A with
   | none => unfold qab at e; split at e <;> cases e
   | some b =>
     obtain ⟨g,off,cur,rfl,hg,hs,hc⟩ := h.2.2.2 b rfl;unfold qab at e
     split at e
     · injection e with e;subst e;refine ⟨g,off,cur,rfl,hg,?_,fun j u hu => ?_⟩
       · have : (cap - k) * sz <= cap * sz := Nat.mul_le_mul_right _ (Nat.sub_le _ _);omega
       · have hl : j < (vs.drop (k * sz)).length := (List.getElem?_eq_some_iff.1 hu).1;rw [List.length_drop,h1] at hl;have : n * sz <= k * sz := Nat.mul_le_mul_right _ (by omega);omega
     · rw [Option.map_some,Addr.add_lit] at e;injection e with e;subst e;refine ⟨g,off + k * sz,cur,rfl,hg,?_,fun j u hu => ?_⟩
       · have : k * sz + (cap - k) * sz = cap * sz := by rw [<- Nat.add_mul]; congr 1; omega
         omega
       · rw [List.getElem?_drop] at hu;rw [Nat.add_assoc];exact hc _ _ hu
theorem Sp.take (h : Sp T sz w A n cap vs) {k : Nat} (hk : k <= n) : Sp T sz w A k cap (vs.take (k * sz)) := by
 have h1 := h.1;have h2 := h.2.1;have hm : k * sz <= n * sz := Nat.mul_le_mul_right _ hk;refine ⟨by rw [List.length_take]; omega,by omega,h.2.2.1,fun a e => ?_⟩;obtain ⟨g,off,cur,rfl,hg,hs,hc⟩ := h.2.2.2 a e;refine ⟨g,off,cur,rfl,hg,hs,fun j u hu => hc j u ?_⟩;rw [List.getElem?_take] at hu
 split at hu
 · exact hu
 · cases hu
variable {ts : TypeId} {z : Value} {bytes : Nat}
theorem Elem.size (E : Elem ts T z sz bytes) (W : World) : (Go.sizeOf T).run Tryz.prog W = .ok sz W := by
 obtain ⟨i,hi,_,hs,_⟩ := info_parts E.info
 simp [Go.sizeOf,typeInfo,hi,hs]
theorem qdo (E : Elem ts T z sz bytes) {k : Nat} (hk : k <= n) (hn : n <= cap) (W : World) : (Instr.slice ts (.slice A n cap) (some (.int .i64 (k : Int))) none none).run Tryz.prog W = .ok (.slice (qab sz A cap k) (n - k) (cap - k)) W := by
 have ht := E.sl
 have ht' : Tryz.prog.underlying ts = some (.slice (Tryz.prog.elem ts)) := by simp [Program.elem,ht]
 have he : Tryz.prog.elem ts = T := by simp [Program.elem,ht]
 rw [run_slice_l W ts _ _ _ ht' .i64 _ (by omega) (by omega),he,E.size]
 simp [Result.andThen,sliced,qab]
theorem qb6 (E : Elem ts T z sz bytes) {k : Nat} (hk : k <= cap) (W : World) : (Instr.slice ts (.slice A n cap) none (some (.int .i64 (k : Int))) none).run Tryz.prog W = .ok (.slice A k cap) W := by
 have ht := E.sl
 have ht' : Tryz.prog.underlying ts = some (.slice (Tryz.prog.elem ts)) := by simp [Program.elem,ht]
 have he : Tryz.prog.elem ts = T := by simp [Program.elem,ht]
 rw [run_slice_h W ts _ _ _ ht' .i64 _ (by omega) (by omega),he,E.size]
 cases A <;> simp [Result.andThen,sliced,Addr.add]
theorem qcp (E : Elem ts T z sz bytes) (ty : TypeId) (h : Sp T sz w A n cap vs) (B : Option Addr) (m c : Nat) (hB : B = none -> m = 0) (hl : us.length = m * sz) (h1 : ∀ u ∈ us,u.oneCell' = true) (hcell : ∀ b,B = some b -> ∀ j u,us[j]? = some u -> w.cell? (b.add j) = some u) (hf : n + m <= 1000000) :
 ∃ A' cap' w',(Builtin.append_ #[ts,ts] ty #[.slice A n cap, .slice B m c]).run Tryz.prog w = .ok (.slice A' (n + m) cap') w' /\ Sp T sz w' A' (n + m) cap' (vs ++ us) /\ (∀ q,blk A' q -> blk A q \/ w.heap.size <= q) ∧
  w.os = w'.os /\ w.tape = w'.tape /\ w.output = w'.output /\ w.heap.size <= w'.heap.size /\ ∀ q,q < w.heap.size -> ¬ blk A q -> w'.heap[q]? = w.heap[q]? := by
 obtain ⟨i0,hi0,hz0,hz1,hz2⟩ := info_parts E.info;have hu := E.sl;have hzs := E.zs;have hpos := E.pos;have hfew := E.few;have hlen := h.1;have hnc := h.2.1;have hbytes : (n + m) * bytes <= 140737488355328 := Nat.le_trans (Nat.mul_le_mul hf hfew) (by decide)
 cases B with
 | none =>
   obtain rfl := hB rfl;obtain rfl : us = [] := List.eq_nil_of_length_eq_zero (by simpa using hl);refine ⟨A,cap,w,?_,by simpa using h,fun q hq => .inl hq,rfl,rfl,rfl,nlq,fun _ _ _ => rfl⟩
   cases A with
   | none =>
     have := h.2.2.1 rfl;obtain rfl : cap = 0 := this
     obtain rfl : n = 0 := by omega
     simp [Builtin.append_,run_underlying hu,sizeOf,typeInfo,hi0,Builtin.lenOf,Builtin.firstCells,loadCells,loadCellsFrom]
   | some a =>
     simp [Builtin.append_,run_underlying hu,sizeOf,typeInfo,hi0,Builtin.lenOf,Builtin.firstCells,loadCells,loadCellsFrom,hnc,storeCells]
 | some b =>
   have hcb := hcell b rfl
   have fresh : ∀ v' w',w'.ownsRow w.heap.size T sz v' (n + m) (vs ++ us) -> w.grownBy w' none -> 0 < n + m -> (Builtin.append_ #[ts,ts] ty #[.slice A n cap, .slice (some b) m c]).run Tryz.prog w = .ok v' w' →
    ∃ A' cap' w',(Builtin.append_ #[ts,ts] ty #[.slice A n cap, .slice (some b) m c]).run Tryz.prog w = .ok (.slice A' (n + m) cap') w' /\ Sp T sz w' A' (n + m) cap' (vs ++ us) /\ (∀ q,blk A' q -> blk A q \/ w.heap.size <= q) ∧
     w.os = w'.os /\ w.tape = w'.tape /\ w.output = w'.output /\ w.heap.size <= w'.heap.size /\ ∀ q,q < w.heap.size -> ¬ blk A q -> w'.heap[q]? = w.heap[q]? := by
    intro v' w' ho hg h0 hr;rcases ho.2 with ⟨_,h1⟩ | ⟨g,cap',cur,rfl,hb,hh,h1,h2,h3,h4⟩
    · omega
    · have hh' : w'.heap[g]? = some (.cells cur T (0,0)) := hh;refine ⟨some ⟨g,0,none⟩,cap',w',hr,⟨by rw [List.length_append,hlen,hl,Nat.add_mul],h1,(fun e => by cases e),fun a e => ?_⟩,fun q hq => .inr ?_,hg.os.symm,hg.tape.symm,hg.output.symm,hg.size,fun q hq _ => hg.block q hq (by simp)⟩
      · injection e with e;subst e;refine ⟨g,0,cur,rfl,hh',by omega,fun j u hu => ?_⟩;rw [<- h4] at hu;rw [List.getElem?_take] at hu
        split at hu
        · rw [Nat.zero_add]; simpa using hu
        · cases hu
      · rw [qB] at hq;omega
   cases A with
   | none =>
     have := h.2.2.1 rfl;obtain rfl : cap = 0 := this
     obtain rfl : n = 0 := by omega
     obtain rfl : vs = [] := List.eq_nil_of_length_eq_zero (by simpa using hlen);rcases Nat.eq_zero_or_pos m with h0 | h0
     · subst h0;obtain rfl : us = [] := List.eq_nil_of_length_eq_zero (by simpa using hl);refine ⟨none,0,w,?_,by simpa using h,fun q hq => .inl hq,rfl,rfl,rfl,nlq,fun _ _ _ => rfl⟩
       simp [Builtin.append_,run_underlying hu,sizeOf,typeInfo,hi0,Builtin.lenOf,Builtin.firstCells,loadCells,loadCellsFrom]
     · obtain ⟨v',w',hr,h2,h3,_,_⟩ := run_append_own_at (P := Tryz.prog) w w.heap.size ts ty T i0 _ sz bytes hu hi0 hz0 hz1 hz2 hzs hpos (.slice none 0 0) 0 [] (World.ownsRow_nil _ _ _ _) b m c us hl hcb h1 (by unfold maxLen; omega) hbytes nlq;exact fresh v' w' h2 h3 (by omega) hr
   | some a =>
     obtain ⟨g,off,cur,rfl,hg,hs,hc⟩ := h.2.2.2 a rfl
     by_cases hroom : n + m <= cap
     · have hmul : (n + m) * sz <= cap * sz := Nat.mul_le_mul_right sz hroom
       have hin : ∀ j,j < us.length -> off + n * sz + j < cur.size := fun j hj => by
        rw [hl] at hj;rw [Nat.add_mul] at hmul;omega
       have hrun := run_append_room_cells (P := Tryz.prog) w ts ty T i0 hu hi0 g off n cap b m c us (by rw [hz1]; exact hl) hcb h1 hroom
        (fun j hj => by
          rw [hz1,cell_of_row w g _ cur _ _ hg,Array.getElem?_eq_getElem (hin j hj)]
          rfl)
        (fun j hj => by rw [hz1]; exact frozen_of_row w g _ cur _ hg)
       rw [hz1] at hrun
       obtain ⟨C',c1,c2,c3,c4⟩ := setCells_at g us (off + n * sz) w cur _ _ hg (by
        rw [hl];rw [Nat.add_mul] at hmul
        omega)
       obtain ⟨hgr,hsz⟩ := qaC g us (off + n * sz) w;refine ⟨some ⟨g,off,none⟩,cap,_,hrun,⟨by rw [List.length_append,hlen,hl,Nat.add_mul],hroom,(fun e => by cases e),fun a e => ?_⟩,fun q hq => .inl hq,hgr.os.symm,hgr.tape.symm,hgr.output.symm,hgr.size,fun q hq hne => hgr.block q hq (fun e => hne (by injection e with e; rw [e,qB]))⟩;injection e with e;subst e;refine ⟨g,off,C',rfl,c1,by omega,fun j u hu => ?_⟩;rcases Nat.lt_or_ge j (n * sz) with hj | hj
       · rw [List.getElem?_append_left (by omega)] at hu;rw [c3 _ (by omega)];exact hc j u hu
       · rw [List.getElem?_append_right (by omega),hlen] at hu;rw [show off + j = off + n * sz + (j - n * sz) by omega];exact c4 _ _ hu
     · obtain ⟨v',w',hr,h2,h3⟩ := run_append_arg_grows (P := Tryz.prog) w ts ty T i0 _ sz bytes hu hi0 hz0 hz1 hz2 hzs hpos ⟨g,off,none⟩ n cap vs hlen (h.cells rfl) b m c us hl hcb (by omega) (by unfold maxLen; omega) hbytes;exact fresh v' w' h2 h3 (by omega) hr
end
end Go.Proofs.YtmiijlecfiddmaaGreat
set_option linter.unusedVariables false
set_option linter.unusedSimpArgs false
set_option maxRecDepth 100000
set_option maxHeartbeats 200000
namespace Go.Proofs.YtmiijlecfiddmaaGreat
structure Msg where
 k : Int
 f : Int
 o : Int
 t : Int
 i : Int
 l : Int
 c : Int
 x : Int
 b : Bool
 es : List Ent
 s : Ent
def Msg.zero : Msg := ⟨0,0,0,0,0,0,0,0,false,[],⟨0,0,[]⟩⟩
def numZ (n : Int) : Bool := decide (0 <= n) && decide (n <= 1099511627776)
def qb7 (k f o t : Int) : Bool := decide (1 <= k) && (decide (k <= 7) && (decide (0 <= f) && (decide (f <= 2) && (decide (0 <= o) && (decide (o <= 2) && (decide (f ≠ o) && decide (1 <= t)))))))
theorem qaM (k f o t : Int) : qb7 k f o t = true ↔ 1 <= k /\ k <= 7 /\ 0 <= f /\ f <= 2 /\ 0 <= o /\ o <= 2 /\ f ≠ o /\ 1 <= t := by
 simp [qb7]
theorem qbs (n : Int) : numZ n = true ↔ 0 <= n /\ n <= 1099511627776 := by simp [numZ]
def bareB (k i l c x : Int) (b : Bool) (n : Nat) (si st : Int) (sn : Nat) : Bool :=
 (decide (k = 1 \/ k = 3 \/ k = 5 \/ k = 6) || decide (i = 0)) && ((decide (k = 1 \/ k = 3 \/ k = 5) || decide (l = 0)) && ((decide (k = 5) || (decide (c = 0) && decide (n = 0))) &&
   ((decide (k = 5 \/ k = 6) || decide (x = 0)) && ((decide (k = 2 \/ k = 4 \/ k = 6) || !b) && (decide (k = 7) || (decide (si = 0) && (decide (st = 0) && decide (sn = 0))))))))
def qb8 (t i l c x : Int) : Bool := numZ t && (numZ i && (numZ l && (numZ c && numZ x)))
def qdp (t : Int) (es : List Ent) : Bool := es.all fun e => decide (e.t <= t)
def qbt (k : Int) (si st : Int) (sn : Nat) : Bool := decide (k ≠ 7) || (qak si st sn && decide (0 < si))
def rightM (m : Msg) : Bool :=
 qb7 m.k m.f m.o m.t && ((qb8 m.t m.i m.l m.c m.x && bareB m.k m.i m.l m.c m.x m.b m.es.length m.s.i m.s.t m.s.d.length) &&
  ((decide (m.es.length <= 4) && runB m.i m.l m.es) && (qdp m.t m.es && qbt m.k m.s.i m.s.t m.s.d.length)))
def qcQ (a b : Msg) : Bool :=
 decide (a.k = b.k) && (decide (a.f = b.f) && (decide (a.o = b.o) && (decide (a.t = b.t) && (decide (a.i = b.i) && (decide (a.l = b.l) && (decide (a.c = b.c) && (decide (a.x = b.x) && (decide (a.b = b.b) &&
  (qaa a.es b.es && oneB a.s.i a.s.t a.s.d b.s.i b.s.t b.s.d)))))))))
def qL (m : Msg) : Msg :=
 if m.k = 1 \/ m.k = 3 then { m with i := 0,l := 0 }
 else if m.k = 2 \/ m.k = 4 then { m with b := false }
 else if m.k = 5 then { m with i := 0,l := 0,c := 0,x := 0,es := [] }
 else if m.k = 6 then { m with b := false,i := 0,x := 0 }
 else if m.k = 7 then { m with s := ⟨0,0,[]⟩ }
 else m
def qcR (m : Msg) : Msg := ⟨m.k,m.f,m.o,m.t,0,0,0,0,false,[],⟨0,0,[]⟩⟩
def lastB (t : Int) (es : List Ent) : Bool := decide (es.length = 0) || decide ((es[es.length - 1]?.map Ent.t).getD 0 <= t)
def qdq (t i l : Int) (es : List Ent) : Bool := decide (es.length <= 4) && (runB i l es && lastB t es)
def qcw (k si st : Int) (sn : Nat) : Bool := qak si st sn && (decide (k ≠ 7) || decide (0 < si))
def rightP (m : Msg) : Bool :=
 (qb7 m.k m.f m.o m.t && decide (m.t <= 1099511627776)) && ((numZ m.i && (numZ m.l && (numZ m.c && numZ m.x))) && (qdq m.t m.i m.l m.es && (qcw m.k m.s.i m.s.t m.s.d.length && qcQ (qL m) (qcR m))))
theorem qhG (es : List Ent) : qaa es [] = decide (es.length = 0) := by
 cases es with
 | nil => rfl
 | cons e r => simp [qaa]
theorem qhH (i t : Int) (d : List UInt8) : oneB i t d 0 0 [] = (decide (i = 0) && (decide (t = 0) && decide (d.length = 0))) := by
 unfold oneB
 cases d <;> simp
theorem qhI (m : Msg) (h1 : 1 <= m.k) (h2 : m.k <= 7) : qcQ (qL m) (qcR m) = bareB m.k m.i m.l m.c m.x m.b m.es.length m.s.i m.s.t m.s.d.length := by
 obtain ⟨k,f,o,t,i,l,c,x,b,es,si,st,sd⟩ := m;dsimp only at *
 rcases (show k = 1 \/ k = 2 \/ k = 3 \/ k = 4 \/ k = 5 \/ k = 6 \/ k = 7 by omega) with rfl | rfl | rfl | rfl | rfl | rfl | rfl <;>
  cases b <;> simp [qcQ,qL,qcR,bareB,qhG,qhH] <;> simp only [Bool.and_assoc,Bool.and_comm,Bool.and_left_comm]
theorem qkg {i t : Int} {es : List Ent} (h : runB i t es = true) (k : Nat) (hk : k < es.length) : qaT i t es k = true :=
 List.all_eq_true.1 h k (List.mem_range.2 hk)
theorem qhJ {i t : Int} {es : List Ent} (h : runB i t es = true) : ∀ (d j : Nat) (hj : j + d < es.length),(es[j]'(by omega)).t <= es[j + d].t
 | 0,j,hj => Int.le_refl _
 | d + 1,j,hj => by
   have h1 := qhJ h d j (by omega);have h2 := qkg h (j + d + 1) (by omega);rw [qeS i t es (j + d + 1) (by omega)] at h2;simp only [Bool.and_eq_true,decide_eq_true_eq] at h2;have h3 := (qd4 i t es (j + d) (by omega)).2;rw [h3] at h2;have h4 := h2.2.1;exact Int.le_trans h1 h4
theorem qhK (t i l : Int) (es : List Ent) (h : runB i l es = true) : lastB t es = qdp t es := by
 apply Bool.eq_iff_iff.2
 unfold lastB qdp
 constructor
 · intro hq;rw [List.all_eq_true];intro e he;obtain ⟨j,hj,rfl⟩ := List.getElem_of_mem he;rw [Bool.or_eq_true,decide_eq_true_eq,decide_eq_true_eq] at hq;rcases hq with hq | hq
   · omega
   · rw [List.getElem?_eq_getElem (by omega)] at hq;have hu := qhJ h (es.length - 1 - j) j (by omega)
     have e2 : j + (es.length - 1 - j) = es.length - 1 := by omega
     have hu2 : es[j].t <= (es[es.length - 1]'(by omega)).t := by simpa only [e2] using hu
     have hq2 : (es[es.length - 1]'(by omega)).t <= t := hq;exact decide_eq_true (Int.le_trans hu2 hq2)
 · intro hq;rw [List.all_eq_true] at hq;rw [Bool.or_eq_true,decide_eq_true_eq,decide_eq_true_eq]
   by_cases h0 : es.length = 0
   · exact .inl h0
   · right
     rw [List.getElem?_eq_getElem (by omega)];exact of_decide_eq_true (hq _ (List.getElem_mem _))
theorem right_eq (m : Msg) : rightP m = rightM m := by
 unfold rightP rightM
 cases hh : qb7 m.k m.f m.o m.t with
 | false => simp
 | true =>
   have hk := (qaM _ _ _ _).1 hh;rw [qhI m hk.1 hk.2.1];unfold qdq qcw qbt qb8
   have ht : numZ m.t = decide (m.t <= 1099511627776) := by unfold numZ; rw [decide_eq_true (by omega),Bool.true_and]
   rw [ht]
   cases hr : runB m.i m.l m.es with
   | false => simp
   | true =>
     rw [qhK m.t m.i m.l m.es hr]
     by_cases h7 : m.k = 7
     · simp only [h7];simp only [ne_eq,not_true_eq_false,decide_false,Bool.false_or,Bool.true_and,Bool.and_true];simp only [Bool.and_assoc,Bool.and_comm,Bool.and_left_comm]
     · -- a message of another kind has no snap
       have e7 : decide (m.k ≠ 7) = true := decide_eq_true h7;rw [e7];simp only [Bool.true_or,Bool.true_and,Bool.and_true]
       cases hb : bareB m.k m.i m.l m.c m.x m.b m.es.length m.s.i m.s.t m.s.d.length with
       | false => simp
       | true =>
         have hs : qak m.s.i m.s.t m.s.d.length = true := by
          unfold bareB at hb;simp only [Bool.and_eq_true,Bool.or_eq_true,decide_eq_true_eq] at hb;have := hb.2.2.2.2.2;rcases this with q | q
          · exact absurd q h7
          · unfold qak;rw [if_pos ⟨q.1,q.2.1⟩];exact decide_eq_true q.2.2
         rw [hs];simp only [Bool.true_and,Bool.and_true];simp only [Bool.and_assoc,Bool.and_comm,Bool.and_left_comm]
end Go.Proofs.YtmiijlecfiddmaaGreat
