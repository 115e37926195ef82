/- A node's log in memory: a row of entries from somewhere on, cut in front and behind, appended to, cleared. -/
import Derived.Test.YtogbhedbgcmckaaGreatNNM21
import Derived.ArgAppend
import Derived.Lib.SliceRun
import Derived.Test.YtogbhedbgcmckaaGreatNNM01
import Derived.Test.YtogbhedbgcmckaaGreatNNM15
set_option linter.unusedVariables false
set_option linter.unusedSimpArgs false
set_option maxRecDepth 100000
set_option maxHeartbeats 200000
namespace Go.Proofs.YtogbhedbgcmckaaGreat
open Go.RowKit
def blkR (A : Option Addr) (q : Nat) : Prop := ∃ o,A = some ⟨q,o,none⟩
theorem qao (g o q : Nat) : blkR (some ⟨g,o,none⟩) q ↔ q = g := by
 constructor
 · rintro ⟨o',e⟩;injection e with e;injection e with e1;exact e1.symm
 · rintro rfl;exact ⟨o,rfl⟩
theorem qaa (q : Nat) : ¬ blkR none q := fun ⟨o,e⟩ => by cases e
def qL (w : World) (A : Option Addr) (n cap : Nat) (xs : List Lay) : Prop :=
 xs.length = n /\ n <= cap /\ cap <= maxLen /\ (A = none -> cap = 0) /\ ∀ a,A = some a -> ∃ g off cur,a = ⟨g,off,none⟩ /\ w.heap[g]? = some (.cells cur 117 (0,0)) /\ off + cap * 3 <= cur.size /\ ∀ j u,(rowOf xs)[j]? = some u -> cur[off + j]? = some u
section
variable {w w' : World} {A : Option Addr} {n cap : Nat} {xs ys : List Lay}
theorem qL.keep (h : qL w A n cap xs) (hk : ∀ q,blkR A q -> w'.heap[q]? = w.heap[q]?) : qL w' A n cap xs := by
 refine ⟨h.1,h.2.1,h.2.2.1,h.2.2.2.1,fun a e => ?_⟩;obtain ⟨g,off,cur,rfl,hg,r⟩ := h.2.2.2.2 a e;exact ⟨g,off,cur,rfl,(hk g ⟨off,e⟩).trans hg,r⟩
theorem qL.lt (h : qL w A n cap xs) {q : Nat} (hq : blkR A q) : q < w.heap.size := by
 obtain ⟨o,e⟩ := hq;obtain ⟨g,off,cur,e2,hg,_⟩ := h.2.2.2.2 _ e;injection e2 with e2;subst e2;exact hlt hg
theorem qL.cells (h : qL w A n cap xs) {a : Addr} (e : A = some a) : ∀ j u,(rowOf xs)[j]? = some u -> w.cell? (a.add j) = some u := fun j u hu => by
 obtain ⟨g,off,cur,rfl,hg,_,hc⟩ := h.2.2.2.2 a e;rw [Addr.add_lit,cell_of_row w g _ cur _ _ hg];exact hc j u hu
theorem qL.ents {Z : Nat -> Prop} (h : qL w A n cap xs) (hz : ∀ q,blkR A q -> Z q) (hok : ∀ x ∈ xs,qs w Z x) : Ents w Z A n cap (xs.map (·.e)) := by
 refine ⟨by rw [List.length_map]; exact h.1,h.2.1,h.2.2.2.1,fun h0 => ?_⟩
 cases A with
 | none => have := h.2.2.2.1 rfl; have := h.2.1; omega
 | some a =>
   obtain ⟨g,off,cur,rfl,hg,hs,hc⟩ := h.2.2.2.2 a rfl;refine ⟨g,off,rfl,hlt hg,hz g ⟨off,rfl⟩,fun j hj => ?_⟩
   have hj' : j < xs.length := by simpa using hj
   obtain ⟨c0,c1,c2⟩ := qgQ (w := w) (g := g) (off := off) (xs := xs) (h.cells rfl) j hj';obtain ⟨hm,hl,hzE⟩ := hok _ (List.getElem_mem hj');simp only [List.getElem_map];exact ⟨_,_,c0,c1,c2,hm,hl,hzE⟩
theorem qgw (xs : List Lay) (k : Nat) : rowOf (xs.take k) = (rowOf xs).take (k * 3) := by
 have h : rowOf xs = rowOf (xs.take k) ++ rowOf (xs.drop k) := by rw [<- qax,List.take_append_drop]
 rcases Nat.lt_or_ge k xs.length with hk | hk
 · have hl : (rowOf (xs.take k)).length = k * 3 := by rw [qu,List.length_take]; omega
   have e := List.take_left' (l₂ := rowOf (xs.drop k)) hl;rw [<- h] at e;exact e.symm
 · rw [List.take_of_length_le hk,List.take_of_length_le (by rw [qu]; omega)]
theorem qgx (xs : List Lay) (k : Nat) : rowOf (xs.drop k) = (rowOf xs).drop (k * 3) := by
 have h : rowOf xs = rowOf (xs.take k) ++ rowOf (xs.drop k) := by rw [<- qax,List.take_append_drop]
 rcases Nat.lt_or_ge k xs.length with hk | hk
 · have hl : (rowOf (xs.take k)).length = k * 3 := by rw [qu,List.length_take]; omega
   have e := List.drop_left' (l₂ := rowOf (xs.drop k)) hl;rw [<- h] at e;exact e.symm
 · rw [List.drop_of_length_le hk,List.drop_of_length_le (by rw [qu]; omega)]
   rfl
theorem qL.take (h : qL w A n cap xs) {k : Nat} (hk : k <= n) : qL w A k cap (xs.take k) := by
 have h1 := h.1;have h2 := h.2.1;refine ⟨by rw [List.length_take]; omega,by omega,h.2.2.1,h.2.2.2.1,fun a e => ?_⟩;obtain ⟨g,off,cur,rfl,hg,hs,hc⟩ := h.2.2.2.2 a e;refine ⟨g,off,cur,rfl,hg,hs,fun j u hu => hc j u ?_⟩;rw [qgw] at hu;rw [List.getElem?_take] at hu
 split at hu
 · exact hu
 · cases hu
def qai (A : Option Addr) (cap k : Nat) : Option Addr := if cap = k then A else A.map (·.add (k * 3))
theorem qL.spotless (h : qL w A n cap xs) : ∀ a,A = some a -> a.spot = none := fun a e => by
 obtain ⟨g,off,cur,rfl,_⟩ := h.2.2.2.2 a e
 rfl
theorem qL.drop (h : qL w A n cap xs) {k : Nat} (hk : k <= n) : qL w (qai A cap k) (n - k) (cap - k) (xs.drop k) := by
 have h1 := h.1;have h2 := h.2.1;refine ⟨by rw [List.length_drop]; omega,by omega,Nat.le_trans (Nat.sub_le _ _) h.2.2.1,fun e => ?_,fun a e => ?_⟩
 · unfold qai at e
   split at e
   · omega
   · cases A with
     | none => have := h.2.2.2.1 rfl; omega
     | some a => cases e
 · cases A with
   | none => unfold qai at e; split at e <;> cases e
   | some b =>
     obtain ⟨g,off,cur,rfl,hg,hs,hc⟩ := h.2.2.2.2 b rfl;unfold qai at e
     split at e
     · injection e with e;subst e;refine ⟨g,off,cur,rfl,hg,by omega,fun j u hu => ?_⟩;have hl : j < (rowOf (xs.drop k)).length := (List.getElem?_eq_some_iff.1 hu).1;rw [qu,List.length_drop] at hl;omega
     · rw [Option.map_some,Addr.add_lit] at e;injection e with e;subst e;refine ⟨g,off + k * 3,cur,rfl,hg,by omega,fun j u hu => ?_⟩;rw [qgx,List.getElem?_drop] at hu;rw [Nat.add_assoc];exact hc _ _ hu
theorem qgy {k : Nat} (hk : k <= cap) (W : World) : (Instr.slice 22 (.slice A n cap) none (some (.int .i64 (k : Int))) none).run Tryz.prog W = .ok (.slice A k cap) W := by
 have ht := Tryz.underlying22
 have ht' : Tryz.prog.underlying 22 = some (.slice (Tryz.prog.elem 22)) := by simp [Program.elem,ht]
 have he : Tryz.prog.elem 22 = 117 := by simp [Program.elem,ht]
 rw [run_slice_h W 22 _ _ _ ht' .i64 _ (by omega) (by omega),he,qbu]
 cases A <;> simp [Result.andThen,sliced,Addr.add]
theorem qdi {k : Nat} (hk : k <= n) (hn : n <= cap) (W : World) : (Instr.slice 22 (.slice A n cap) (some (.int .i64 (k : Int))) none none).run Tryz.prog W = .ok (.slice (qai A cap k) (n - k) (cap - k)) W := by
 have ht := Tryz.underlying22
 have ht' : Tryz.prog.underlying 22 = some (.slice (Tryz.prog.elem 22)) := by simp [Program.elem,ht]
 have he : Tryz.prog.elem 22 = 117 := by simp [Program.elem,ht]
 rw [run_slice_l W 22 _ _ _ ht' .i64 _ (by omega) (by omega),he,qbu]
 simp [Result.andThen,sliced,qai]
end
theorem qbJ (b : Nat) : ∀ (vs : List Value) (o : Nat) (w : World) (C : Array Value) (T : TypeId) (fr : Nat × Nat),w.heap[b]? = some (.cells C T fr) -> o + vs.length <= C.size →
 ∃ C',(w.setCells b o vs).heap[b]? = some (.cells C' T fr) /\ C'.size = C.size /\ (∀ j,j < o \/ o + vs.length <= j -> C'[j]? = C[j]?) /\ ∀ j u,vs[j]? = some u -> C'[o + j]? = some u
 | [],o,w,C,T,fr,h,_ => ⟨C,h,rfl,fun _ _ => rfl,fun j u hu => by simp at hu⟩
 | v :: r,o,w,C,T,fr,h,hs => by
   have h1 := setCell_at w ⟨b,o,none⟩ v C T fr rfl h;simp only [List.length_cons] at hs;obtain ⟨C',h2,h3,h4,h5⟩ := qbJ b r (o + 1) (w.setCell ⟨b,o,none⟩ v) _ T fr h1 (by simp; omega);refine ⟨C',h2,by rw [h3]; simp,fun j hj => ?_,fun j u hu => ?_⟩
   · simp only [List.length_cons] at hj;rw [h4 j (by omega),Array.getElem?_setIfInBounds_ne (by show o ≠ j; omega)]
   · cases j with
     | zero =>
       rw [h4 _ (by omega)];injection hu with hu;subst hu;rw [Nat.add_zero,Array.getElem?_setIfInBounds_self];simp;omega
     | succ j =>
       rw [show o + (j + 1) = o + 1 + j by omega];exact h5 j u hu
theorem qcA (b : Nat) : ∀ (vs : List Value) (o : Nat) (w : World) (q : Nat),q ≠ b -> (w.setCells b o vs).heap[q]? = w.heap[q]?
 | [],_,_,_,_ => rfl
 | v :: r,o,w,q,h => (qcA b r (o + 1) _ q h).trans (Below.heap_setCell _ _ _ _ h)
theorem qa4 (b : Nat) : ∀ (vs : List Value) (o : Nat) (w : World),w.grownBy (w.setCells b o vs) (some b) /\ (w.setCells b o vs).heap.size = w.heap.size
 | [],_,w => ⟨World.grownBy.refl _ _,rfl⟩
 | v :: r,o,w => by
   obtain ⟨h,hs⟩ := qa4 b r (o + 1) (w.setCell ⟨b,o,none⟩ v);refine ⟨⟨h.os,h.tape,h.output,by rw [World.setCells,hs]; simp,fun k hk hne => ?_⟩,by rw [World.setCells,hs]; simp⟩;exact qcA b (v :: r) o w k fun e => hne (by rw [e])
section
variable {w : World} {A : Option Addr} {n cap : Nat} {xs ys : List Lay}
theorem qdx (ty : TypeId) (h : qL w A n cap xs) (B : Option Addr) (m c : Nat) (hB : B = none -> m = 0) (hl : ys.length = m) (hcell : ∀ b,B = some b -> ∀ j u,(rowOf ys)[j]? = some u -> w.cell? (b.add j) = some u) (hf : n + m <= 1000000) :
 ∃ A' cap' w',(Builtin.append_ #[22,22] ty #[.slice A n cap, .slice B m c]).run Tryz.prog w = .ok (.slice A' (n + m) cap') w' /\ qL w' A' (n + m) cap' (xs ++ ys) /\ (∀ q,blkR A' q -> blkR A q \/ w.heap.size <= q) ∧
  w.os = w'.os /\ w.tape = w'.tape /\ w.output = w'.output /\ w.heap.size <= w'.heap.size /\ ∀ q,q < w.heap.size -> ¬ blkR A q -> w'.heap[q]? = w.heap[q]? := by
 obtain ⟨i0,hi0,hz0,hz1,hz2⟩ := info_parts qa8;have hlen := h.1;have hnc := h.2.1
 cases B with
 | none =>
   obtain rfl := hB rfl;obtain rfl : ys = [] := List.eq_nil_of_length_eq_zero hl;refine ⟨A,cap,w,?_,by simpa using h,fun q hq => .inl hq,rfl,rfl,rfl,Nat.le_refl _,fun _ _ _ => rfl⟩
   cases A with
   | none =>
     have := h.2.2.2.1 rfl;obtain rfl : cap = 0 := this
     obtain rfl : n = 0 := by omega
     simp [Builtin.append_,run_underlying Tryz.underlying22,sizeOf,typeInfo,hi0,Builtin.lenOf,Builtin.firstCells,loadCells,loadCellsFrom]
   | some a =>
     simp [Builtin.append_,run_underlying Tryz.underlying22,sizeOf,typeInfo,hi0,Builtin.lenOf,Builtin.firstCells,loadCells,loadCellsFrom,hnc,storeCells]
 | some b =>
   have hcb := hcell b rfl
   have hrl : (rowOf ys).length = m * 3 := by rw [qu,hl]
   -- a new row
   have fresh : ∀ v' w',w'.ownsRow w.heap.size 117 3 v' (n + m) (rowOf xs ++ rowOf ys) -> w.grownBy w' none -> 0 < n + m -> (Builtin.append_ #[22,22] ty #[.slice A n cap, .slice (some b) m c]).run Tryz.prog w = .ok v' w' →
    ∃ A' cap' w',(Builtin.append_ #[22,22] ty #[.slice A n cap, .slice (some b) m c]).run Tryz.prog w = .ok (.slice A' (n + m) cap') w' /\ qL w' A' (n + m) cap' (xs ++ ys) /\ (∀ q,blkR A' q -> blkR A q \/ w.heap.size <= q) ∧
     w.os = w'.os /\ w.tape = w'.tape /\ w.output = w'.output /\ w.heap.size <= w'.heap.size /\ ∀ q,q < w.heap.size -> ¬ blkR A q -> w'.heap[q]? = w.heap[q]? := by
    intro v' w' ho hg h0 hr;rcases ho.2 with ⟨_,h1⟩ | ⟨g,cap',cur,rfl,hb,hh,h1,h2,h3,h4⟩
    · omega
    · refine ⟨some ⟨g,0,none⟩,cap',w',hr,⟨by rw [List.length_append,hlen,hl],h1,h2,(fun e => by cases e),fun a e => ?_⟩,fun q hq => .inr ?_,hg.os.symm,hg.tape.symm,hg.output.symm,hg.size,fun q hq _ => hg.block q hq (by simp)⟩
      · injection e with e;subst e;refine ⟨g,0,cur,rfl,hh,by omega,fun j u hu => ?_⟩;rw [qax,<- h4] at hu;rw [List.getElem?_take] at hu
        split at hu
        · rw [Nat.zero_add]; simpa using hu
        · cases hu
      · rw [qao] at hq;omega
   cases A with
   | none =>
     have := h.2.2.2.1 rfl;obtain rfl : cap = 0 := this
     obtain rfl : n = 0 := by omega
     obtain rfl : xs = [] := List.eq_nil_of_length_eq_zero hlen;rcases Nat.eq_zero_or_pos m with h0 | h0
     · subst h0;obtain rfl : ys = [] := List.eq_nil_of_length_eq_zero hl;refine ⟨none,0,w,?_,by simpa using h,fun q hq => .inl hq,rfl,rfl,rfl,Nat.le_refl _,fun _ _ _ => rfl⟩
       simp [Builtin.append_,run_underlying Tryz.underlying22,sizeOf,typeInfo,hi0,Builtin.lenOf,Builtin.firstCells,loadCells,loadCellsFrom]
     · obtain ⟨v',w',hr,h2,h3,_,_⟩ := run_append_own_at (P := Tryz.prog) w w.heap.size 22 ty 117 i0 _ 3 40 Tryz.underlying22 hi0 hz0 hz1 hz2 rfl (by omega) (.slice none 0 0) 0 [] (World.ownsRow_nil _ _ _ _) b m c (rowOf ys) hrl hcb (qer ys) (by unfold maxLen; omega) (by omega) (Nat.le_refl _);exact fresh v' w' (by simpa [rowOf] using h2) h3 (by omega) hr
   | some a =>
     obtain ⟨g,off,cur,rfl,hg,hs,hc⟩ := h.2.2.2.2 a rfl
     by_cases hroom : n + m <= cap
     · have hin : ∀ j,j < (rowOf ys).length -> off + n * 3 + j < cur.size := fun j hj => by
        rw [hrl] at hj;have : (n + m) * 3 <= cap * 3 := Nat.mul_le_mul_right 3 hroom;omega
       have hrun := run_append_room_cells (P := Tryz.prog) w 22 ty 117 i0 Tryz.underlying22 hi0 g off n cap b m c (rowOf ys) (by rw [hz1]; exact hrl) hcb (qer ys) hroom
        (fun j hj => by
          rw [hz1,cell_of_row w g _ cur _ _ hg,Array.getElem?_eq_getElem (hin j hj)]
          rfl)
        (fun j hj => by rw [hz1]; exact frozen_of_row w g _ cur _ hg)
       rw [hz1] at hrun
       obtain ⟨C',c1,c2,c3,c4⟩ := qbJ g (rowOf ys) (off + n * 3) w cur _ _ hg (by
        rw [hrl];have : (n + m) * 3 <= cap * 3 := Nat.mul_le_mul_right 3 hroom
        omega)
       obtain ⟨hgr,hsz⟩ := qa4 g (rowOf ys) (off + n * 3) w;refine ⟨some ⟨g,off,none⟩,cap,_,hrun,⟨by rw [List.length_append,hlen,hl],hroom,h.2.2.1,(fun e => by cases e),fun a e => ?_⟩,fun q hq => .inl hq,hgr.os.symm,hgr.tape.symm,hgr.output.symm,hgr.size,fun q hq hne => hgr.block q hq (fun e => hne (by injection e with e; rw [e,qao]))⟩;injection e with e;subst e;refine ⟨g,off,C',rfl,c1,by omega,fun j u hu => ?_⟩;rw [qax] at hu
       have hxl : (rowOf xs).length = n * 3 := by rw [qu,hlen]
       rcases Nat.lt_or_ge j (n * 3) with hj | hj
       · rw [List.getElem?_append_left (by omega)] at hu;rw [c3 _ (by omega)];exact hc j u hu
       · rw [List.getElem?_append_right (by omega),hxl] at hu;rw [show off + j = off + n * 3 + (j - n * 3) by omega];exact c4 _ _ hu
     · obtain ⟨v',w',hr,h2,h3⟩ := run_append_arg_grows (P := Tryz.prog) w 22 ty 117 i0 _ 3 40 Tryz.underlying22 hi0 hz0 hz1 hz2 rfl (by omega) ⟨g,off,none⟩ n cap (rowOf xs) (by rw [qu,hlen]) (h.cells rfl) b m c (rowOf ys) hrl hcb (by omega) (by unfold maxLen; omega) (by omega);exact fresh v' w' h2 h3 (by omega) hr
theorem qlu (W : World) : (zeroValue 117).run Tryz.prog W = .ok (.agg #[.int .i64 0, .int .i64 0, .slice none 0 0]) W := by
 obtain ⟨i,hi,hz,_,_⟩ := info_parts qa8
 simp [zeroValue,typeInfo,hi,hz]
end
end Go.Proofs.YtogbhedbgcmckaaGreat
set_option linter.unusedVariables false
set_option linter.unusedSimpArgs false
set_option maxRecDepth 100000
set_option maxHeartbeats 200000
namespace Go.Proofs.YtogbhedbgcmckaaGreat
open Go.RowKit
structure Elem (ts T : TypeId) (z : Value) (sz bytes : Nat) : Prop where
 sl : Tryz.prog.underlying ts = some (.slice T)
 info : (Tryz.prog.info? T).map (fun i => (i.zero,i.size,i.bytes)) = some (some z,sz,bytes)
 zs : z.cells.size = sz
 pos : 0 < sz
 few : bytes <= 1000
def Sp (T : TypeId) (sz : Nat) (w : World) (A : Option Addr) (n cap : Nat) (vs : List Value) : Prop :=
 vs.length = n * sz /\ n <= cap /\ (A = none -> cap = 0) /\ ∀ a,A = some a -> ∃ g off cur,a = ⟨g,off,none⟩ /\ w.heap[g]? = some (.cells cur T (0,0)) /\ off + cap * sz <= cur.size /\ ∀ j u,vs[j]? = some u -> cur[off + j]? = some u
section
variable {w w' : World} {A : Option Addr} {n cap sz : Nat} {T : TypeId} {vs us : List Value}
theorem Sp.nil (T : TypeId) (sz : Nat) (w : World) : Sp T sz w none 0 0 [] := ⟨by simp,nlq,fun _ => rfl,fun a e => by cases e⟩
theorem Sp.keep (h : Sp T sz w A n cap vs) (hk : ∀ q,blkR A q -> w'.heap[q]? = w.heap[q]?) : Sp T sz w' A n cap vs := by
 refine ⟨h.1,h.2.1,h.2.2.1,fun a e => ?_⟩;obtain ⟨g,off,cur,rfl,hg,r⟩ := h.2.2.2 a e;exact ⟨g,off,cur,rfl,(hk g ⟨off,e⟩).trans hg,r⟩
theorem Sp.block (h : Sp T sz w A n cap vs) {q : Nat} (hq : blkR A q) : ∃ cur,w.heap[q]? = some (.cells cur T (0,0)) := by
 obtain ⟨o,e⟩ := hq;obtain ⟨g,off,cur,e2,hg,_⟩ := h.2.2.2 _ e;injection e2 with e2;subst e2;exact ⟨cur,hg⟩
theorem Sp.lt (h : Sp T sz w A n cap vs) {q : Nat} (hq : blkR A q) : q < w.heap.size := by
 obtain ⟨cur,hg⟩ := h.block hq;exact hlt hg
theorem Sp.len (h : Sp T sz w A n cap vs) : vs.length = n * sz := h.1
theorem Sp.at_ (h : Sp T sz w A n cap vs) (hs : 0 < sz) (k : Nat) (hk : k < n) : ∃ g off,A = some ⟨g,off,none⟩ /\ g < w.heap.size /\ (∀ j (hj : j < sz) u,vs[k * sz + j]? = some u -> w.cell? ⟨g,off + k * sz + j,none⟩ = some u) /\ ∀ o,w.frozen? ⟨g,o,none⟩ = false := by
 cases A with
 | none => have := h.2.2.1 rfl; have := h.2.1; omega
 | some a =>
   obtain ⟨g,off,cur,rfl,hg,hl,hc⟩ := h.2.2.2 a rfl;refine ⟨g,off,rfl,hlt hg,fun j hj u hu => ?_,fun o => frozen_of_row w g o cur _ hg⟩;rw [cell_of_row w g _ cur _ _ hg,Nat.add_assoc];exact hc _ u hu
theorem Sp.cells (h : Sp T sz w A n cap vs) {a : Addr} (e : A = some a) : ∀ j u,vs[j]? = some u -> w.cell? (a.add j) = some u := fun j u hu => by
 obtain ⟨g,off,cur,rfl,hg,_,hc⟩ := h.2.2.2 a e;rw [Addr.add_lit,cell_of_row w g _ cur _ _ hg];exact hc j u hu
theorem Sp.spotless (h : Sp T sz w A n cap vs) : ∀ a,A = some a -> a.spot = none := fun a e => by
 obtain ⟨g,off,cur,rfl,_⟩ := h.2.2.2 a e
 rfl
def qeV (sz : Nat) (A : Option Addr) (cap k : Nat) : Option Addr := if cap = k then A else A.map (·.add (k * sz))
theorem Sp.drop (h : Sp T sz w A n cap vs) {k : Nat} (hk : k <= n) : Sp T sz w (qeV sz A cap k) (n - k) (cap - k) (vs.drop (k * sz)) := by
 have h1 := h.1;have h2 := h.2.1;refine ⟨by rw [List.length_drop,h1,Nat.sub_mul],by omega,fun e => ?_,fun a e => ?_⟩
 · unfold qeV at e
   split at e
   · omega
   · cases A with
     | none => have := h.2.2.1 rfl; omega
     | some a => cases e
 · cases A with
   | none => unfold qeV at e; split at e <;> cases e
   | some b =>
     obtain ⟨g,off,cur,rfl,hg,hs,hc⟩ := h.2.2.2 b rfl;unfold qeV at e
     split at e
     · injection e with e;subst e;refine ⟨g,off,cur,rfl,hg,?_,fun j u hu => ?_⟩
       · have : (cap - k) * sz <= cap * sz := Nat.mul_le_mul_right _ (Nat.sub_le _ _);omega
       · have hl : j < (vs.drop (k * sz)).length := (List.getElem?_eq_some_iff.1 hu).1;rw [List.length_drop,h1] at hl;have : n * sz <= k * sz := Nat.mul_le_mul_right _ (by omega);omega
     · rw [Option.map_some,Addr.add_lit] at e;injection e with e;subst e;refine ⟨g,off + k * sz,cur,rfl,hg,?_,fun j u hu => ?_⟩
       · have : k * sz + (cap - k) * sz = cap * sz := by rw [<- Nat.add_mul]; congr 1; omega
         omega
       · rw [List.getElem?_drop] at hu;rw [Nat.add_assoc];exact hc _ _ hu
theorem Sp.take (h : Sp T sz w A n cap vs) {k : Nat} (hk : k <= n) : Sp T sz w A k cap (vs.take (k * sz)) := by
 have h1 := h.1;have h2 := h.2.1;have hm : k * sz <= n * sz := Nat.mul_le_mul_right _ hk;refine ⟨by rw [List.length_take]; omega,by omega,h.2.2.1,fun a e => ?_⟩;obtain ⟨g,off,cur,rfl,hg,hs,hc⟩ := h.2.2.2 a e;refine ⟨g,off,cur,rfl,hg,hs,fun j u hu => hc j u ?_⟩;rw [List.getElem?_take] at hu
 split at hu
 · exact hu
 · cases hu
variable {ts : TypeId} {z : Value} {bytes : Nat}
theorem Elem.size (E : Elem ts T z sz bytes) (W : World) : (Go.sizeOf T).run Tryz.prog W = .ok sz W := by
 obtain ⟨i,hi,_,hs,_⟩ := info_parts E.info
 simp [Go.sizeOf,typeInfo,hi,hs]
theorem qcB (E : Elem ts T z sz bytes) (ty : TypeId) (h : Sp T sz w A n cap vs) (B : Option Addr) (m c : Nat) (hB : B = none -> m = 0) (hl : us.length = m * sz) (h1 : ∀ u ∈ us,u.oneCell' = true) (hcell : ∀ b,B = some b -> ∀ j u,us[j]? = some u -> w.cell? (b.add j) = some u) (hf : n + m <= 1000000) :
 ∃ A' cap' w',(Builtin.append_ #[ts,ts] ty #[.slice A n cap, .slice B m c]).run Tryz.prog w = .ok (.slice A' (n + m) cap') w' /\ Sp T sz w' A' (n + m) cap' (vs ++ us) /\ (∀ q,blkR A' q -> blkR A q \/ w.heap.size <= q) ∧
  w.os = w'.os /\ w.tape = w'.tape /\ w.output = w'.output /\ w.heap.size <= w'.heap.size /\ ∀ q,q < w.heap.size -> ¬ blkR A q -> w'.heap[q]? = w.heap[q]? := by
 obtain ⟨i0,hi0,hz0,hz1,hz2⟩ := info_parts E.info;have hu := E.sl;have hzs := E.zs;have hpos := E.pos;have hfew := E.few;have hlen := h.1;have hnc := h.2.1;have hbytes : (n + m) * bytes <= 140737488355328 := Nat.le_trans (Nat.mul_le_mul hf hfew) (by decide)
 cases B with
 | none =>
   obtain rfl := hB rfl;obtain rfl : us = [] := List.eq_nil_of_length_eq_zero (by simpa using hl);refine ⟨A,cap,w,?_,by simpa using h,fun q hq => .inl hq,rfl,rfl,rfl,nlq,fun _ _ _ => rfl⟩
   cases A with
   | none =>
     have := h.2.2.1 rfl;obtain rfl : cap = 0 := this
     obtain rfl : n = 0 := by omega
     simp [Builtin.append_,run_underlying hu,sizeOf,typeInfo,hi0,Builtin.lenOf,Builtin.firstCells,loadCells,loadCellsFrom]
   | some a =>
     simp [Builtin.append_,run_underlying hu,sizeOf,typeInfo,hi0,Builtin.lenOf,Builtin.firstCells,loadCells,loadCellsFrom,hnc,storeCells]
 | some b =>
   have hcb := hcell b rfl
   have fresh : ∀ v' w',w'.ownsRow w.heap.size T sz v' (n + m) (vs ++ us) -> w.grownBy w' none -> 0 < n + m -> (Builtin.append_ #[ts,ts] ty #[.slice A n cap, .slice (some b) m c]).run Tryz.prog w = .ok v' w' →
    ∃ A' cap' w',(Builtin.append_ #[ts,ts] ty #[.slice A n cap, .slice (some b) m c]).run Tryz.prog w = .ok (.slice A' (n + m) cap') w' /\ Sp T sz w' A' (n + m) cap' (vs ++ us) /\ (∀ q,blkR A' q -> blkR A q \/ w.heap.size <= q) ∧
     w.os = w'.os /\ w.tape = w'.tape /\ w.output = w'.output /\ w.heap.size <= w'.heap.size /\ ∀ q,q < w.heap.size -> ¬ blkR A q -> w'.heap[q]? = w.heap[q]? := by
    intro v' w' ho hg h0 hr;rcases ho.2 with ⟨_,h1⟩ | ⟨g,cap',cur,rfl,hb,hh,h1,h2,h3,h4⟩
    · omega
    · have hh' : w'.heap[g]? = some (.cells cur T (0,0)) := hh;refine ⟨some ⟨g,0,none⟩,cap',w',hr,⟨by rw [List.length_append,hlen,hl,Nat.add_mul],h1,(fun e => by cases e),fun a e => ?_⟩,fun q hq => .inr ?_,hg.os.symm,hg.tape.symm,hg.output.symm,hg.size,fun q hq _ => hg.block q hq (by simp)⟩
      · injection e with e;subst e;refine ⟨g,0,cur,rfl,hh',by omega,fun j u hu => ?_⟩;rw [<- h4] at hu;rw [List.getElem?_take] at hu
        split at hu
        · rw [Nat.zero_add]; simpa using hu
        · cases hu
      · rw [qao] at hq;omega
   cases A with
   | none =>
     have := h.2.2.1 rfl;obtain rfl : cap = 0 := this
     obtain rfl : n = 0 := by omega
     obtain rfl : vs = [] := List.eq_nil_of_length_eq_zero (by simpa using hlen);rcases Nat.eq_zero_or_pos m with h0 | h0
     · subst h0;obtain rfl : us = [] := List.eq_nil_of_length_eq_zero (by simpa using hl);refine ⟨none,0,w,?_,by simpa using h,fun q hq => .inl hq,rfl,rfl,rfl,nlq,fun _ _ _ => rfl⟩
       simp [Builtin.append_,run_underlying hu,sizeOf,typeInfo,hi0,Builtin.lenOf,Builtin.firstCells,loadCells,loadCellsFrom]
     · obtain ⟨v',w',hr,h2,h3,_,_⟩ := run_append_own_at (P := Tryz.prog) w w.heap.size ts ty T i0 _ sz bytes hu hi0 hz0 hz1 hz2 hzs hpos (.slice none 0 0) 0 [] (World.ownsRow_nil _ _ _ _) b m c us hl hcb h1 (by unfold maxLen; omega) hbytes nlq;exact fresh v' w' h2 h3 (by omega) hr
   | some a =>
     obtain ⟨g,off,cur,rfl,hg,hs,hc⟩ := h.2.2.2 a rfl
     by_cases hroom : n + m <= cap
     · have hmul : (n + m) * sz <= cap * sz := Nat.mul_le_mul_right sz hroom
       have hin : ∀ j,j < us.length -> off + n * sz + j < cur.size := fun j hj => by
        rw [hl] at hj;rw [Nat.add_mul] at hmul;omega
       have hrun := run_append_room_cells (P := Tryz.prog) w ts ty T i0 hu hi0 g off n cap b m c us (by rw [hz1]; exact hl) hcb h1 hroom
        (fun j hj => by
          rw [hz1,cell_of_row w g _ cur _ _ hg,Array.getElem?_eq_getElem (hin j hj)]
          rfl)
        (fun j hj => by rw [hz1]; exact frozen_of_row w g _ cur _ hg)
       rw [hz1] at hrun
       obtain ⟨C',c1,c2,c3,c4⟩ := qbJ g us (off + n * sz) w cur _ _ hg (by
        rw [hl];rw [Nat.add_mul] at hmul
        omega)
       obtain ⟨hgr,hsz⟩ := qa4 g us (off + n * sz) w;refine ⟨some ⟨g,off,none⟩,cap,_,hrun,⟨by rw [List.length_append,hlen,hl,Nat.add_mul],hroom,(fun e => by cases e),fun a e => ?_⟩,fun q hq => .inl hq,hgr.os.symm,hgr.tape.symm,hgr.output.symm,hgr.size,fun q hq hne => hgr.block q hq (fun e => hne (by injection e with e; rw [e,qao]))⟩;injection e with e;subst e;refine ⟨g,off,C',rfl,c1,by omega,fun j u hu => ?_⟩;rcases Nat.lt_or_ge j (n * sz) with hj | hj
       · rw [List.getElem?_append_left (by omega)] at hu;rw [c3 _ (by omega)];exact hc j u hu
       · rw [List.getElem?_append_right (by omega),hlen] at hu;rw [show off + j = off + n * sz + (j - n * sz) by omega];exact c4 _ _ hu
     · obtain ⟨v',w',hr,h2,h3⟩ := run_append_arg_grows (P := Tryz.prog) w ts ty T i0 _ sz bytes hu hi0 hz0 hz1 hz2 hzs hpos ⟨g,off,none⟩ n cap vs hlen (h.cells rfl) b m c us hl hcb (by omega) (by unfold maxLen; omega) hbytes;exact fresh v' w' h2 h3 (by omega) hr
end
end Go.Proofs.YtogbhedbgcmckaaGreat
set_option linter.unusedVariables false
set_option linter.unusedSimpArgs false
set_option maxRecDepth 100000
set_option maxHeartbeats 200000
namespace Go.Proofs.YtogbhedbgcmckaaGreat
structure Msg where
 k : Int
 f : Int
 o : Int
 t : Int
 i : Int
 l : Int
 c : Int
 x : Int
 b : Bool
 es : List Ent
 s : Ent
def Msg.zero : Msg := ⟨0,0,0,0,0,0,0,0,false,[],⟨0,0,[]⟩⟩
def numZ (n : Int) : Bool := decide (0 <= n) && decide (n <= 1099511627776)
def qlk (k f o t : Int) : Bool := decide (1 <= k) && (decide (k <= 7) && (decide (0 <= f) && (decide (f <= 2) && (decide (0 <= o) && (decide (o <= 2) && (decide (f ≠ o) && decide (1 <= t)))))))
def qll (k i l c x : Int) (b : Bool) (n : Nat) (si st : Int) (sn : Nat) : Bool :=
 (decide (k = 1 \/ k = 3 \/ k = 5 \/ k = 6) || decide (i = 0)) && ((decide (k = 1 \/ k = 3 \/ k = 5) || decide (l = 0)) && ((decide (k = 5) || (decide (c = 0) && decide (n = 0))) &&
   ((decide (k = 5 \/ k = 6) || decide (x = 0)) && ((decide (k = 2 \/ k = 4 \/ k = 6) || !b) && (decide (k = 7) || (decide (si = 0) && (decide (st = 0) && decide (sn = 0))))))))
def qlm (t i l c x : Int) : Bool := numZ t && (numZ i && (numZ l && (numZ c && numZ x)))
def qln (t : Int) (es : List Ent) : Bool := es.all fun e => decide (e.t <= t)
def qk8 (k : Int) (si st : Int) (sn : Nat) : Bool := decide (k ≠ 7) || (snapB si st sn && decide (0 < si))
def qk9 (m : Msg) : Bool :=
 qlk m.k m.f m.o m.t && ((qlm m.t m.i m.l m.c m.x && qll m.k m.i m.l m.c m.x m.b m.es.length m.s.i m.s.t m.s.d.length) &&
  ((decide (m.es.length <= 4) && runB m.i m.l m.es) && (qln m.t m.es && qk8 m.k m.s.i m.s.t m.s.d.length)))
end Go.Proofs.YtogbhedbgcmckaaGreat
set_option linter.unusedVariables false
set_option linter.unusedSimpArgs false
set_option maxRecDepth 100000
set_option maxHeartbeats 200000
namespace Go.Proofs.YtogbhedbgcmckaaGreat
structure Node where
 id : Nat
 n : Nat
 ht : Int
 hv : Int
 sn : Ent
 kp : Bool
 lg : RL
 cm : Int
 ro : Int
 ld : Int
 wk : Int
 sy : Nat -> Int
 nx : Nat -> Int
 ma : Nat -> Int
 ac : Nat -> Int
 cx : Int
 rd : List (Int × Int)
 ms : List Msg
 td : List (Int × Int)
namespace Node
def zeroF : Nat -> Int := fun _ => 0
def noEnt : Ent := ⟨0,0,[]⟩
def put (f : Nat -> Int) (a : Nat) (v : Int) : Nat -> Int := fun x => if x = a then v else f x
def won (yes n : Nat) : Bool := decide (1 <= n /\ yes <= n /\ n < 2 * yes)
def lost (no n : Nat) : Bool := decide (1 <= n /\ no <= n /\ n <= 2 * no)
def others (r : Node) : List Nat := (List.range r.n).filter fun k => decide (k ≠ r.id)
def fresh (id n : Nat) (ht hv : Int) (s : Ent) (l : List Ent) : Node :=
 ⟨id,n,ht,hv,s,false,⟨s.i,s.t,l,0⟩,s.i,0,-1,0,zeroF,zeroF,zeroF,zeroF,0,[],[],[]⟩
def can (id n : Int) (ht hv : Int) (s : Ent) (l : List Ent) : Bool :=
 decide (1 <= n /\ n <= 3 /\ 0 <= id /\ id < n) && (hardB ht hv && (snapB s.i s.t s.d.length && (runB s.i s.t l && (decide (s.t <= ht) && decide ((⟨s.i,s.t,l,0⟩ : RL).lastT <= ht)))))
def say (r : Node) (m : Msg) : Node := { r with ms := r.ms ++ [{ m with f := r.id }] }
def fall (r : Node) (t : Int) (lead : Int) : Node :=
 { r with ht := if r.ht < t then t else r.ht,hv := if r.ht < t then -1 else r.hv,ro := 0,ld := lead,wk := 0,rd := [],sy := zeroF,nx := zeroF,ma := zeroF,ac := zeroF,cx := 0 }
def msg (k : Int) (tz : Nat) (t : Int) : Msg := ⟨k,0,tz,t,0,0,0,0,false,[],noEnt⟩
def send (r : Node) (tz : Nat) : Node :=
 if r.nx tz <= r.lg.i then r.say { msg 7 tz r.ht with s := r.sn }
 else r.say { msg 5 tz r.ht with i := r.nx tz - 1,l := (r.lg.at_ (r.nx tz - 1)).getD 0,c := r.cm,x := r.cx,es := r.lg.fromL (r.nx tz) 4 }
def sendAll (r : Node) : Node := r.others.foldl send r
def reached (l : List Int) : Int := (l.filter fun v => decide (l.length < 2 * (l.filter fun u => decide (v <= u)).length)).foldl max 0
def settle (r : Node) : Node × Bool :=
 let k := reached (r.lg.lastI :: r.others.map r.ma)
 if k <= r.cm \/ r.lg.at_ k ≠ some r.ht then (r,false) else ({ r with cm := k },true)
def grown (r : Node) (d : List UInt8) : RL := (r.lg.add r.ht d).getD r.lg
def rise (r : Node) : Node :=
 let r : Node := { r with ro := 3,ld := r.id,wk := 0,cx := 0,rd := [],ma := zeroF,ac := zeroF,nx := fun k => if k < r.n /\ k ≠ r.id then r.lg.lastI + 1 else 0 }
 ({ r with lg := r.grown [] } : Node).settle.1.sendAll
def ask (r : Node) (k : Int) (t : Int) : Node := r.others.foldl (fun r tz => r.say { msg k tz t with i := r.lg.lastI,l := r.lg.lastT }) r
def count (r : Node) (role : Int) : Node := { r with ro := role,ld := -1,wk := 0,sy := put zeroF r.id 1 }
def run (r : Node) : Node :=
 let r := ({ r with ht := r.ht + 1,hv := r.id } : Node).count 2
 if r.n = 1 then r.rise else r.ask 3 r.ht
def tick (r : Node) : Node :=
 let r := { r with wk := r.wk + 1 }
 if r.ro = 3 /\ 2 <= r.wk then ({ r with wk := 0 } : Node).sendAll
 else if r.ro = 3 \/ r.wk < 6 + 3 * (r.id : Int) \/ 1099511627776 <= r.ht \/ 1099511627776 <= r.lg.lastI then r
 else
  let r := r.count 1
  if r.n = 1 then r.run else r.ask 1 (r.ht + 1)
def heard (r : Node) (m : Msg) : Bool := qk9 m && (decide (m.f < r.n) && decide (m.o = r.id))
def poll (r : Node) (m : Msg) : Node :=
 if r.ht < m.t /\ r.lg.newer m.i m.l = true /\ (r.ld = -1 \/ r.ro ≠ 3 /\ 6 <= r.wk) then r.say { msg 2 m.f.toNat m.t with b := true } else r.say (msg 2 m.f.toNat r.ht)
def vote (r : Node) (m : Msg) : Node :=
 if (r.hv = -1 \/ r.hv = m.f) /\ r.lg.newer m.i m.l = true then ({ r with hv := m.f,wk := 0 } : Node).say { msg 4 m.f.toNat r.ht with b := true } else r.say (msg 4 m.f.toNat r.ht)
def yes (r : Node) (v : Int) : Nat := ((List.range r.n).filter fun k => decide (r.sy k = v)).length
def said (r : Node) (m : Msg) : Node :=
 if m.k = 4 /\ r.ro ≠ 2 \/ m.k = 2 /\ (r.ro ≠ 1 \/ m.b = true /\ m.t ≠ r.ht + 1) then r
 else if r.sy m.f.toNat ≠ 0 then r
 else
  let r := { r with sy := put r.sy m.f.toNat (if m.b = true then 1 else 2) }
  if won (r.yes 1) r.n = true then (if r.ro = 1 then r.run else r.rise)
  else if lost (r.yes 2) r.n = true then r.fall r.ht (-1) else r
def app (r : Node) (m : Msg) : Node :=
 if r.ro = 3 then r
 else
  let r := r.fall m.t m.f
  if m.i < r.cm then r.say { msg 6 m.f.toNat r.ht with x := m.x,b := true,i := r.cm }
  else
   let k := r.lg.take m.i m.l m.es
   let r := { r with lg := k.1,cm := if k.2.2 = true /\ r.cm < min m.c k.2.1 then min m.c k.2.1 else r.cm }
   r.say { msg 6 m.f.toNat r.ht with x := m.x,b := k.2.2,i := k.2.1 }
def known (r : Node) (c : Int) : Bool := won (1 + (r.others.filter fun k => decide (c <= r.ac k)).length) r.n
def tell (r : Node) : Node := { r with td := r.td ++ r.rd.takeWhile (fun x => r.known x.1),rd := r.rd.dropWhile (fun x => r.known x.1) }
def apped (r : Node) (m : Msg) : Node :=
 if r.ro ≠ 3 then r
 else
  let k := m.f.toNat
  let r := if m.x <= r.cx /\ r.ac k < m.x then { r with ac := put r.ac k m.x } else r
  let i := min m.i r.lg.lastI
  if m.b = false then (({ r with nx := put r.nx k (max (min (r.nx k - 1) (i + 1)) (r.ma k + 1)) } : Node).send k).tell
  else
   let r := { r with ma := put r.ma k (max (r.ma k) i) }
   let r := { r with nx := put r.nx k (max (r.nx k) (r.ma k + 1)) }
   let q := r.settle
   (if q.2 = true then q.1.sendAll else if q.1.nx k <= q.1.lg.lastI then q.1.send k else q.1).tell
def whole (r : Node) (m : Msg) : Node :=
 if r.ro = 3 then r
 else
  let r := r.fall m.t m.f
  let r := if r.cm < m.s.i then
   (let r := if r.lg.at_ m.s.i = some m.s.t then r else { r with lg := ⟨m.s.i,m.s.t,[],0⟩,sn := m.s,kp := true }
    { r with cm := m.s.i }) else r
  r.say { msg 6 m.f.toNat r.ht with b := true,i := r.cm }
def step (r : Node) (m : Msg) : Node :=
 if m.t < r.ht then
  (if m.k = 5 \/ m.k = 7 then r.say (msg 6 m.f.toNat r.ht) else if m.k = 1 \/ m.k = 3 then r.say (msg (m.k + 1) m.f.toNat r.ht) else r)
 else
  let r := if r.ht < m.t /\ m.k ≠ 1 /\ (m.k ≠ 2 \/ m.b = false) then r.fall m.t (if m.k = 5 \/ m.k = 7 then m.f else -1) else r
  if m.k = 1 then r.poll m else if m.k = 2 \/ m.k = 4 then r.said m else if m.k = 3 then r.vote m else if m.k = 5 then r.app m else if m.k = 6 then r.apped m else r.whole m
def propose (r : Node) (d : List UInt8) : Node × Int × Int × Int :=
 if r.ro ≠ 3 then (r,0,0,14) else if 12000 < d.length then (r,0,0,1) else if 1099511627776 <= r.lg.lastI then (r,0,0,4)
 else (({ r with lg := r.grown d } : Node).settle.1.sendAll,r.lg.lastI + 1,r.ht,0)
def read (r : Node) : Node × Int × Int :=
 if r.ro ≠ 3 then (r,0,14) else if r.lg.at_ r.cm ≠ some r.ht then (r,0,7)
 else
  let r := { r with cx := r.cx + 1,rd := r.rd ++ [(r.cx + 1,r.cm)] }
  (r.tell.sendAll,r.cx,0)
def compact (r : Node) (x : Int) (d : List UInt8) : Node × Bool :=
 match r.lg.at_ x with
 | none => (r,false)
 | some t => if x < 1 \/ r.cm < x \/ 50000 < d.length then (r,false) else ({ r with lg := (r.lg.compact x).getD r.lg,sn := ⟨x,t,d⟩ },true)
structure Came where
 ht : Int
 hv : Int
 fr : List Ent
 sn : Ent
 ms : List Msg
 td : List (Int × Int)
def took (r : Node) : Node × Came :=
 ({ r with lg := { r.lg with f := 0 },kp := false,ms := [],td := [] },⟨r.ht,r.hv,r.lg.changed,if r.kp = true then r.sn else noEnt,r.ms,r.td⟩)
def part (r : Node) (a b : Int) : List Ent := r.lg.l.filter fun e => decide (a <= e.i) && decide (e.i <= b)
end Node
structure qlo where
 at_ : Nat
 c : Int
 t : Int
 w : Nat
structure Sim where
 n : Nat
 r : Nat -> Node
 ht : Nat -> Int
 hv : Nat -> Int
 sn : Nat -> Ent
 lg : Nat -> List Ent
 net : List Msg
 ldr : List (Int × Nat)
 all : List Ent
 rds : List qlo
namespace Sim
def upd {β : Type} (f : Nat -> β) (a : Nat) (v : β) : Nat -> β := fun x => if x = a then v else f x
def made (n : Nat) : Sim := ⟨n,fun k => Node.fresh k n 0 (-1) Node.noEnt [],fun _ => 0,fun _ => -1,fun _ => Node.noEnt,fun _ => [],[],[],[],[]⟩
def digest (l : List Ent) : List UInt8 :=
 let s := l.foldl (fun (s : Nat) e => e.d.foldl (fun (s : Nat) b => (s * 31 + b.toNat) % 4294967296) ((s * 31 + (e.t % 4294967296).toNat) % 4294967296)) (l.length % 4294967296)
 [UInt8.ofNat s,UInt8.ofNat (s / 256),UInt8.ofNat (s / 65536),UInt8.ofNat (s / 16777216)]
def keep (s : Sim) (k : Nat) : Sim × Node.Came :=
 let q := (s.r k).took
 let o := q.2
 let s := { s with r := upd s.r k q.1,ht := upd s.ht k o.ht,hv := upd s.hv k o.hv }
 let s := if 0 < o.sn.i then { s with sn := upd s.sn k o.sn,lg := upd s.lg k (q.1.part (o.sn.i + 1) 1099511627776) }
  else match o.fr with
   | [] => s
   | e :: _ => { s with lg := upd s.lg k ((s.lg k).filter (fun x => decide (x.i < e.i)) ++ o.fr) }
 ({ s with net := s.net ++ o.ms.take (100 - s.net.length) },o)
def lone (s : Sim) (k : Nat) : Sim × Bool :=
 if (s.r k).ro ≠ 3 then (s,true)
 else match s.ldr.find? fun x => decide (x.1 = (s.r k).ht) with
  | some x => (s,decide (x.2 = k))
  | none => ({ s with ldr := s.ldr ++ [((s.r k).ht,k)] },true)
def join (all : List Ent) : List Ent -> Option (List Ent)
 | [] => some all
 | e :: l => if e.i <= all.length then (match all[(e.i - 1).toNat]? with | some x => if oneB e.i e.t e.d x.i x.t x.d = true then join all l else none | none => none) else join (all ++ [e]) l
def agrees (s : Sim) (k : Nat) : Sim × Bool :=
 let x := s.r k
 let l := x.part (x.lg.i + 1) x.cm
 if (l.length : Int) ≠ x.cm - x.lg.i \/ (s.all.length : Int) < x.lg.i then (s,false)
 else match join s.all l with
  | none => (s,false)
  | some all => ({ s with all := all },decide (x.sn.i = x.lg.i) && (decide (x.sn.i = 0) || decide (x.sn.d = digest (all.take x.sn.i.toNat))))
def told (s : Sim) (k : Nat) (l : List (Int × Int)) : Bool :=
 l.all fun y => s.rds.all fun x => !(decide (x.at_ = k) && (decide (x.c = y.1) && (decide (x.t = (s.r k).ht) && decide (y.2 < x.w))))
def look (s : Sim) (k : Nat) : Sim × Bool :=
 let a := s.lone k
 if a.2 = false then a
 else
  let b := a.1.agrees k
  if b.2 = false then b
  else
   let c := b.1.keep k
   (c.1,c.1.told k c.2.td)
structure Move where
 k : Nat
 a : Nat
 x : Nat
 d : List UInt8
def move (s : Sim) (m : Move) : Sim × Bool :=
 let k := m.a % s.n
 if m.k = 0 then ({ s with r := upd s.r k (s.r k).tick } : Sim).look k
 else if m.k = 1 \/ m.k = 2 \/ m.k = 3 then
  (match s.net[m.x % s.net.length]? with
  | none => (s,true)
  | some y =>
    let s := if m.k = 3 then s else { s with net := s.net.eraseIdx (m.x % s.net.length) }
    if y.o < 0 \/ (s.n : Int) <= y.o then (s,false)
    else
     let k := y.o.toNat
     if m.k = 2 then s.look k
     else if (s.r k).heard y = false then (s,false) else ({ s with r := upd s.r k ((s.r k).step y) } : Sim).look k)
 else if m.k = 4 then ({ s with r := upd s.r k ((s.r k).propose m.d).1 } : Sim).look k
 else if m.k = 5 then
  (if Node.can k s.n (s.ht k) (s.hv k) (s.sn k) (s.lg k) = false then (s,false)
   else ({ s with r := upd s.r k (Node.fresh k s.n (s.ht k) (s.hv k) (s.sn k) (s.lg k)) } : Sim).look k)
 else if m.k = 6 then
  (let q := (s.r k).read
   let w := s.all.length
   let s := { s with r := upd s.r k q.1 }
   (if q.2.2 = 0 then { s with rds := s.rds ++ [⟨k,q.2.1,(s.r k).ht,w⟩] } else s).look k)
 else if m.k = 7 then
  (if (s.all.length : Int) < (s.r k).cm then (s,false)
   else
    let q := (s.r k).compact (s.r k).cm (digest (s.all.take (s.r k).cm.toNat))
    let s' := { s with r := upd s.r k q.1 }
    (if q.2 = true then { s' with sn := upd s.sn k q.1.sn,lg := upd s.lg k (q.1.part ((s.r k).cm + 1) 1099511627776) } else s').look k)
 else s.look k
def safe (s : Sim) : List Move -> Bool
 | [] => true
 | m :: l => let q := s.move m; q.2 && safe q.1 l
end Sim
end Go.Proofs.YtogbhedbgcmckaaGreat
set_option linter.unusedVariables false
set_option linter.unusedSimpArgs false
set_option maxRecDepth 100000
set_option maxHeartbeats 200000
namespace Go.Proofs.YtogbhedbgcmckaaGreat
open Go.RowKit
end Go.Proofs.YtogbhedbgcmckaaGreat
