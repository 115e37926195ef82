/- The program's node tells its state. -/
import Derived.Test.YtmiijlecfiddmaaNNM26
set_option linter.unusedVariables false
set_option linter.unusedSimpArgs false
set_option maxRecDepth 100000
set_option maxHeartbeats 3200000
namespace Go.Proofs.Ytmiijlecfiddmaa
open Go.RowKit Go.Shelf
attribute [local go_sem] Oper.semAt_some
theorem qbd {W : World} {g : Nat} {T : TypeId} {x0 x1 x2 x3 x4 x5 x6 x7 x8 x9 a0 a1 a2 a3 a4 a5 a6 a7 a8 a9 : Value} (h : W.heap[g]? = some (.cells #[x0,x1,x2,x3,x4,x5,x6,x7,x8,x9] T)) :
 ((((((((((W.setCell ⟨g,0,none⟩ a0).setCell ⟨g,1,none⟩ a1).setCell ⟨g,2,none⟩ a2).setCell ⟨g,3,none⟩ a3).setCell ⟨g,4,none⟩ a4).setCell ⟨g,5,none⟩ a5).setCell ⟨g,6,none⟩ a6).setCell ⟨g,7,none⟩ a7).setCell ⟨g,8,none⟩ a8).setCell ⟨g,9,none⟩ a9).heap[g]? = some (.cells #[a0,a1,a2,a3,a4,a5,a6,a7,a8,a9] T) /\ (∀ B,B <= g -> Below B W ((((((((((W.setCell ⟨g,0,none⟩ a0).setCell ⟨g,1,none⟩ a1).setCell ⟨g,2,none⟩ a2).setCell ⟨g,3,none⟩ a3).setCell ⟨g,4,none⟩ a4).setCell ⟨g,5,none⟩ a5).setCell ⟨g,6,none⟩ a6).setCell ⟨g,7,none⟩ a7).setCell ⟨g,8,none⟩ a8).setCell ⟨g,9,none⟩ a9)) /\ ∀ k,k ≠ g -> ((((((((((W.setCell ⟨g,0,none⟩ a0).setCell ⟨g,1,none⟩ a1).setCell ⟨g,2,none⟩ a2).setCell ⟨g,3,none⟩ a3).setCell ⟨g,4,none⟩ a4).setCell ⟨g,5,none⟩ a5).setCell ⟨g,6,none⟩ a6).setCell ⟨g,7,none⟩ a7).setCell ⟨g,8,none⟩ a8).setCell ⟨g,9,none⟩ a9).heap[k]? = W.heap[k]? := by
 have r0 : (W.setCell ⟨g,0,none⟩ a0).heap[g]? = some (.cells #[a0,x1,x2,x3,x4,x5,x6,x7,x8,x9] T) := setCell_at W ⟨g,0,none⟩ a0 _ _ _ rfl h
 have r1 : ((W.setCell ⟨g,0,none⟩ a0).setCell ⟨g,1,none⟩ a1).heap[g]? = some (.cells #[a0,a1,x2,x3,x4,x5,x6,x7,x8,x9] T) := setCell_at _ ⟨g,1,none⟩ a1 _ _ _ rfl r0
 have r2 : (((W.setCell ⟨g,0,none⟩ a0).setCell ⟨g,1,none⟩ a1).setCell ⟨g,2,none⟩ a2).heap[g]? = some (.cells #[a0,a1,a2,x3,x4,x5,x6,x7,x8,x9] T) := setCell_at _ ⟨g,2,none⟩ a2 _ _ _ rfl r1
 have r3 : ((((W.setCell ⟨g,0,none⟩ a0).setCell ⟨g,1,none⟩ a1).setCell ⟨g,2,none⟩ a2).setCell ⟨g,3,none⟩ a3).heap[g]? = some (.cells #[a0,a1,a2,a3,x4,x5,x6,x7,x8,x9] T) := setCell_at _ ⟨g,3,none⟩ a3 _ _ _ rfl r2
 have r4 : (((((W.setCell ⟨g,0,none⟩ a0).setCell ⟨g,1,none⟩ a1).setCell ⟨g,2,none⟩ a2).setCell ⟨g,3,none⟩ a3).setCell ⟨g,4,none⟩ a4).heap[g]? = some (.cells #[a0,a1,a2,a3,a4,x5,x6,x7,x8,x9] T) := setCell_at _ ⟨g,4,none⟩ a4 _ _ _ rfl r3
 have r5 : ((((((W.setCell ⟨g,0,none⟩ a0).setCell ⟨g,1,none⟩ a1).setCell ⟨g,2,none⟩ a2).setCell ⟨g,3,none⟩ a3).setCell ⟨g,4,none⟩ a4).setCell ⟨g,5,none⟩ a5).heap[g]? = some (.cells #[a0,a1,a2,a3,a4,a5,x6,x7,x8,x9] T) := setCell_at _ ⟨g,5,none⟩ a5 _ _ _ rfl r4
 have r6 : (((((((W.setCell ⟨g,0,none⟩ a0).setCell ⟨g,1,none⟩ a1).setCell ⟨g,2,none⟩ a2).setCell ⟨g,3,none⟩ a3).setCell ⟨g,4,none⟩ a4).setCell ⟨g,5,none⟩ a5).setCell ⟨g,6,none⟩ a6).heap[g]? = some (.cells #[a0,a1,a2,a3,a4,a5,a6,x7,x8,x9] T) := setCell_at _ ⟨g,6,none⟩ a6 _ _ _ rfl r5
 have r7 : ((((((((W.setCell ⟨g,0,none⟩ a0).setCell ⟨g,1,none⟩ a1).setCell ⟨g,2,none⟩ a2).setCell ⟨g,3,none⟩ a3).setCell ⟨g,4,none⟩ a4).setCell ⟨g,5,none⟩ a5).setCell ⟨g,6,none⟩ a6).setCell ⟨g,7,none⟩ a7).heap[g]? = some (.cells #[a0,a1,a2,a3,a4,a5,a6,a7,x8,x9] T) := setCell_at _ ⟨g,7,none⟩ a7 _ _ _ rfl r6
 have r8 : (((((((((W.setCell ⟨g,0,none⟩ a0).setCell ⟨g,1,none⟩ a1).setCell ⟨g,2,none⟩ a2).setCell ⟨g,3,none⟩ a3).setCell ⟨g,4,none⟩ a4).setCell ⟨g,5,none⟩ a5).setCell ⟨g,6,none⟩ a6).setCell ⟨g,7,none⟩ a7).setCell ⟨g,8,none⟩ a8).heap[g]? = some (.cells #[a0,a1,a2,a3,a4,a5,a6,a7,a8,x9] T) := setCell_at _ ⟨g,8,none⟩ a8 _ _ _ rfl r7
 have r9 : ((((((((((W.setCell ⟨g,0,none⟩ a0).setCell ⟨g,1,none⟩ a1).setCell ⟨g,2,none⟩ a2).setCell ⟨g,3,none⟩ a3).setCell ⟨g,4,none⟩ a4).setCell ⟨g,5,none⟩ a5).setCell ⟨g,6,none⟩ a6).setCell ⟨g,7,none⟩ a7).setCell ⟨g,8,none⟩ a8).setCell ⟨g,9,none⟩ a9).heap[g]? = some (.cells #[a0,a1,a2,a3,a4,a5,a6,a7,a8,a9] T) := setCell_at _ ⟨g,9,none⟩ a9 _ _ _ rfl r8
 exact ⟨r9,fun B hB => ((((((((((Below.refl B W).setCell (p := ⟨g,0,none⟩) hB a0).setCell (p := ⟨g,1,none⟩) hB a1).setCell (p := ⟨g,2,none⟩) hB a2).setCell (p := ⟨g,3,none⟩) hB a3).setCell (p := ⟨g,4,none⟩) hB a4).setCell (p := ⟨g,5,none⟩) hB a5).setCell (p := ⟨g,6,none⟩) hB a6).setCell (p := ⟨g,7,none⟩) hB a7).setCell (p := ⟨g,8,none⟩) hB a8).setCell (p := ⟨g,9,none⟩) hB a9,fun k hk => (Below.heap_setCell _ _ _ _ (by exact hk)).trans ((Below.heap_setCell _ _ _ _ (by exact hk)).trans ((Below.heap_setCell _ _ _ _ (by exact hk)).trans ((Below.heap_setCell _ _ _ _ (by exact hk)).trans ((Below.heap_setCell _ _ _ _ (by exact hk)).trans ((Below.heap_setCell _ _ _ _ (by exact hk)).trans ((Below.heap_setCell _ _ _ _ (by exact hk)).trans ((Below.heap_setCell _ _ _ _ (by exact hk)).trans ((Below.heap_setCell _ _ _ _ (by exact hk)).trans (Below.heap_setCell _ _ _ _ (by exact hk))))))))))⟩
def qdJ (w wx : World) (N : Node) (v3 : Value) : Prop :=
 ∃ g,v3 = .pointer (some ⟨g,0,none⟩) /\ wx.heap[g]? = some (.cells #[.int .i64 N.ro, .int .i64 N.ld, .int .i64 N.wk, .int .i64 N.ht, .int .i64 N.hv, .int .i64 N.cm, .int .i64 0, .int .i64 N.lg.lastI, .slice none 0 0, .slice none 0 0] 38) /\ Below w.heap.size w wx /\ w.heap.size < g /\ wx.heap[w.heap.size]? = some (.cells #[.int .i64 0, .int .i64 0, .int .i64 0, .int .i64 0, .int .i64 0, .int .i64 0, .int .i64 0, .int .i64 0, .slice none 0 0, .slice none 0 0] 38)
theorem qdq (p k : Nat) (hk : k <= 3) (W : World) : (Instr.sliceAt 66 (.pointer (some ⟨p,16,none⟩)) none (some (.int .i64 (k : Int))) none).run Try.prog W = .ok (.slice (some ⟨p,16,none⟩) k 3) W := by
 have hl : Try.prog.arrayLen 66 = 3 := by kernel_rfl
 rw [run_sliceAt_array_h W 66 _ (by kernel_rfl) .i64 _ (by omega) (by rw [hl]; omega),hl]
 rw [show Try.prog.elem 66 = 65 by kernel_rfl]
 obtain ⟨i,hi,hs⟩ := Option.map_eq_some_iff.1 (show (Try.prog.info? 65).map (fun i => i.size) = some 3 by kernel_rfl)
 simp [Go.sizeOf,typeInfo,hi,Result.andThen,slicedAt,Addr.add]
def ints (f : Nat -> Int) (k : Nat) : List Value := (List.range k).map fun j => .int .i64 (f j)
theorem qbu (f : Nat -> Int) (k : Nat) : ints f (k + 1) = ints f k ++ [.int .i64 (f k)] := by
 unfold ints
 rw [List.range_succ,List.map_append]
 rfl
def qce (w wr : World) (N : Node) (g k : Nat) : Prop := ∃ NA nc MA mc,wr.heap[g]? = some (.cells #[.int .i64 N.ro, .int .i64 N.ld, .int .i64 N.wk, .int .i64 N.ht, .int .i64 N.hv, .int .i64 N.cm, .int .i64 N.lg.i, .int .i64 N.lg.lastI, .slice NA k nc, .slice MA k mc] 38) /\ Sp 2 1 wr NA k nc (ints N.nx k) /\ Sp 2 1 wr MA k mc (ints N.ma k) ∧
 (∀ b,blk NA b -> w.heap.size < b /\ b ≠ g /\ ¬ blk MA b) /\ (∀ b,blk MA b -> w.heap.size < b /\ b ≠ g) /\ Below w.heap.size w wr /\ wr.heap[w.heap.size]? = some (.cells #[.int .i64 0, .int .i64 0, .int .i64 0, .int .i64 0, .int .i64 0, .int .i64 0, .int .i64 0, .int .i64 0, .slice none 0 0, .slice none 0 0] 38)
theorem qbe {B : Nat} {X w' : World} {A : Option Addr} (hg : Grew X w' A) (hB : B <= X.heap.size) (hA : ∀ b,blk A b -> B <= b) : Below B X w' := by
 have k := hg.keeps (Z := fun b => b < B) fun b hb => by have := hA b hb; show ¬ b < B; omega
 exact ⟨k.os,k.tape,k.output,k.size,fun b hb => k.block b (by omega) hb⟩
theorem qdr {w wr X w8 : World} {N : Node} {g k : Nat} {NA MA : Option Addr} {nc mc : Nat} (a1 : wr.heap[g]? = some (.cells #[.int .i64 N.ro, .int .i64 N.ld, .int .i64 N.wk, .int .i64 N.ht, .int .i64 N.hv, .int .i64 N.cm, .int .i64 N.lg.i, .int .i64 N.lg.lastI, .slice NA k nc, .slice MA k mc] 38)) (a2 : Sp 2 1 wr NA k nc (ints N.nx k)) (a3 : Sp 2 1 wr MA k mc (ints N.ma k))
 (a4 : ∀ b,blk NA b -> w.heap.size < b /\ b ≠ g /\ ¬ blk MA b) (a5 : ∀ b,blk MA b -> w.heap.size < b /\ b ≠ g) (hX : Below wr.heap.size wr X) (hg : Grew X w8 NA) :
 w8.heap[g]? = some (.cells #[.int .i64 N.ro, .int .i64 N.ld, .int .i64 N.wk, .int .i64 N.ht, .int .i64 N.hv, .int .i64 N.cm, .int .i64 N.lg.i, .int .i64 N.lg.lastI, .slice NA k nc, .slice MA k mc] 38) /\ (∀ b,b < X.heap.size -> wr.heap.size <= b -> w8.heap[b]? = X.heap[b]?) /\ Sp 2 1 w8 MA k mc (ints N.ma k) := by
 have hs := hX.size
 refine ⟨(hg.block g (by have := hlt a1; omega) fun e => (a4 g e).2.1 rfl).trans ((hX.block g (hlt a1)).trans a1),fun b h1 h2 => hg.block b h1 fun e => by have := a2.lt e; omega,?_⟩
 exact a3.keep fun b hb => (hg.block b (by have := a3.lt hb; omega) fun e => (a4 b e).2.2 hb).trans (hX.block b (a3.lt hb))
theorem qd4 {w wr X w8 w9 : World} {N : Node} {g k : Nat} {NA MA A1 A2 : Option Addr} {nc mc c1 c2 : Nat} {o9 : Obj} (a1 : wr.heap[g]? = some (.cells #[.int .i64 N.ro, .int .i64 N.ld, .int .i64 N.wk, .int .i64 N.ht, .int .i64 N.hv, .int .i64 N.cm, .int .i64 N.lg.i, .int .i64 N.lg.lastI, .slice NA k nc, .slice MA k mc] 38)) (a2 : Sp 2 1 wr NA k nc (ints N.nx k)) (a3 : Sp 2 1 wr MA k mc (ints N.ma k))
 (a4 : ∀ b,blk NA b -> w.heap.size < b /\ b ≠ g /\ ¬ blk MA b) (a5 : ∀ b,blk MA b -> w.heap.size < b /\ b ≠ g) (a6 : Below w.heap.size w wr) (a7 : wr.heap[w.heap.size]? = some (.cells #[.int .i64 0, .int .i64 0, .int .i64 0, .int .i64 0, .int .i64 0, .int .i64 0, .int .i64 0, .int .i64 0, .slice none 0 0, .slice none 0 0] 38)) (hgw : w.heap.size < g) (hX : Below wr.heap.size wr X) (hg : Grew X w8 NA)
 (s8 : Sp 2 1 w8 A1 (k + 1) c1 (ints N.nx k ++ [.int .i64 (N.nx k)])) (b8 : ∀ b,blk A1 b -> blk NA b \/ X.heap.size <= b)
 (hg9 : Grew ((w8.setCell ⟨g,8,none⟩ (.slice A1 (k + 1) c1)).alloc o9) w9 MA) (s9 : Sp 2 1 w9 A2 (k + 1) c2 (ints N.ma k ++ [.int .i64 (N.ma k)])) (b9 : ∀ b,blk A2 b -> blk MA b \/ ((w8.setCell ⟨g,8,none⟩ (.slice A1 (k + 1) c1)).alloc o9).heap.size <= b) :
 qce w (w9.setCell ⟨g,9,none⟩ (.slice A2 (k + 1) c2)) N g (k + 1) := by
 obtain ⟨m1,m2,m3⟩ := qdr a1 a2 a3 a4 a5 hX hg
 have hs := hX.size
 have hs8 := hg.size
 have hgs := hlt a1
 have hsw := a6.size
 have hs7 := hlt a7
 have e9 : ((w8.setCell ⟨g,8,none⟩ (.slice A1 (k + 1) c1)).alloc o9).heap.size = w8.heap.size + 1 := by simp
 have q1 : ∀ b,b ≠ g -> b < w8.heap.size -> ((w8.setCell ⟨g,8,none⟩ (.slice A1 (k + 1) c1)).alloc o9).heap[b]? = w8.heap[b]? := fun b h1 h2 => (Below.heap_alloc _ _ _ (by simpa using h2)).trans (Below.heap_setCell _ _ _ _ (by exact h1))
 have t1 := setCell_at w8 ⟨g,8,none⟩ (.slice A1 (k + 1) c1) _ _ _ rfl m1
 have t2 : ((w8.setCell ⟨g,8,none⟩ (.slice A1 (k + 1) c1)).alloc o9).heap[g]? = _ := (Below.heap_alloc _ _ _ (by simp; omega)).trans t1
 have t3 := (hg9.block g (by rw [e9]; omega) fun e => (a5 g e).2 rfl).trans t2
 have t4 := setCell_at w9 ⟨g,9,none⟩ (.slice A2 (k + 1) c2) _ _ _ rfl t3
 have hM : ∀ b,blk MA b -> b < wr.heap.size := fun b hb => a3.lt hb
 have hA1 : ∀ b,blk A1 b -> w.heap.size < b /\ b ≠ g /\ ¬ blk MA b /\ b < w8.heap.size := fun b hb => by
  have h4 := s8.lt hb
  rcases b8 b hb with h | h
  · exact ⟨(a4 b h).1,(a4 b h).2.1,(a4 b h).2.2,h4⟩
  · exact ⟨by omega,by omega,fun e => by have := hM b e; omega,h4⟩
 have hA2 : ∀ b,blk A2 b -> w.heap.size < b /\ b ≠ g := fun b hb => by
  rcases b9 b hb with h | h
  · exact a5 b h
  · rw [e9] at h
    exact ⟨by omega,by omega⟩
 refine ⟨A1,c1,A2,c2,t4,?_,?_,?_,hA2,?_,?_⟩
 · rw [qbu]
   exact s8.keep fun b hb => (Below.heap_setCell _ _ _ _ (by exact (hA1 b hb).2.1)).trans ((hg9.block b (by rw [e9]; have := (hA1 b hb).2.2.2; omega) (hA1 b hb).2.2.1).trans (q1 b (hA1 b hb).2.1 (hA1 b hb).2.2.2))
 · rw [qbu]
   exact s9.keep fun b hb => Below.heap_setCell _ _ _ _ (by exact (hA2 b hb).2)
 · intro b hb
   refine ⟨(hA1 b hb).1,(hA1 b hb).2.1,fun e => ?_⟩
   rcases b9 b e with h | h
   · exact (hA1 b hb).2.2.1 h
   · rw [e9] at h
     have := (hA1 b hb).2.2.2
     omega
 · refine (((a6.trans (hX.mono hsw)).trans (qbe hg (by omega) fun b hb => Nat.le_of_lt (a4 b hb).1)).trans ?_).trans ((qbe hg9 (by rw [e9]; omega) fun b hb => Nat.le_of_lt (a5 b hb).1).setCell (p := ⟨g,9,none⟩) (Nat.le_of_lt hgw) _)
   exact (blq.setCell (p := ⟨g,8,none⟩) (Nat.le_of_lt hgw) _).alloc (by simp; omega) _
 · have n7 : w.heap.size ≠ g := by omega
   refine (Below.heap_setCell _ _ _ _ (by exact n7)).trans ((hg9.block _ (by rw [e9]; omega) fun e => by have := (a5 _ e).1; omega).trans ((q1 _ n7 (by omega)).trans ((hg.block _ (by omega) fun e => by have := (a4 _ e).1; omega).trans ((hX.block _ hs7).trans a7))))
theorem q9 {w : World} {p : Nat} {N : Node} {Z : Nat -> Prop} {q : Ptrs} {s : Nat} {xs : List MLay} {K : Nat -> Prop} (h : RfAt w p N Z q s xs K) (hl : N.lg.l.length <= 1000000) (hn : N.n <= 3) :
 Calls Try.prog 8 #[ptrV p] w fun e w' => ∃ NA nc MA mc,e = .returned (.agg #[.int .i64 N.ro, .int .i64 N.ld, .int .i64 N.wk, .int .i64 N.ht, .int .i64 N.hv, .int .i64 N.cm, .int .i64 N.lg.i, .int .i64 N.lg.lastI, .slice NA N.n nc, .slice MA N.n mc]) /\ Sp 2 1 w' NA N.n nc (ints N.nx N.n) /\ Sp 2 1 w' MA N.n mc (ints N.ma N.n) /\ (∀ b,blk NA b -> w.heap.size < b) /\ (∀ b,blk MA b -> w.heap.size < b) /\ Below w.heap.size w w' := by
 have hp := h.lt
 obtain ⟨Wa,hWa⟩ : ∃ Wa,w.alloc (.cells #[.int .i64 0, .int .i64 0, .int .i64 0, .int .i64 0, .int .i64 0, .int .i64 0, .int .i64 0, .int .i64 0, .slice none 0 0, .slice none 0 0] 38) = Wa := ⟨_,rfl⟩
 have hb1 : Below w.heap.size w Wa := by rw [<- hWa]; exact blq.alloc nlq _
 have hres : Wa.heap[w.heap.size]? = some (.cells #[.int .i64 0, .int .i64 0, .int .i64 0, .int .i64 0, .int .i64 0, .int .i64 0, .int .i64 0, .int .i64 0, .slice none 0 0, .slice none 0 0] 38) := by rw [<- hWa]; exact heap_alloc_new w _
 have hsz : Wa.heap.size = w.heap.size + 1 := by rw [<- hWa]; simp
 obtain ⟨B0,hB0⟩ : ∃ B,B = Wa.heap.size := ⟨_,rfl⟩
 have hup : ∀ W,Below B0 Wa W -> Below w.heap.size w W := fun W hW => hb1.trans (hW.mono (by omega))
 have hmo : ∀ X,Below B0 Wa X -> B0 <= X.heap.size := fun X hX => by rw [hB0]; exact hX.size
 have hLast := fun X (hX : Below w.heap.size w X) => qS (h.below hX) hl
 have hC : ∀ W,Below B0 Wa W -> (fun w' : World => w'.cell? ⟨p,10,none⟩ = some (.int .i64 N.ro) /\ w'.cell? ⟨p,11,none⟩ = some (.int .i64 N.ld) /\ w'.cell? ⟨p,12,none⟩ = some (.int .i64 N.wk) /\ w'.cell? ⟨p,2,none⟩ = some (.int .i64 N.ht) /\ w'.cell? ⟨p,3,none⟩ = some (.int .i64 N.hv) /\ w'.cell? ⟨p,9,none⟩ = some (.int .i64 N.cm) /\ Below B0 Wa w') W := fun W hW => ⟨(h.below (hup W hW)).c10,(h.below (hup W hW)).c11,(h.below (hup W hW)).c12,(h.below (hup W hW)).c2,(h.below (hup W hW)).c3,(h.below (hup W hW)).c9,hW⟩
 have HK := Lib.hid hC
 have HU := Lib.hid (And.intro hup (And.intro hres (And.intro hb1 (And.intro hmo hB0))))
 have H := Lib.hid (And.intro h (And.intro hl hn))
 clear h hl hn hC hb1 hup hres hmo hB0
 go_enter Try.func8,Try.ntmps8
 go_wp2_with fail
 go_upto_region 3 with fail
 go_cut [3] (fun v3 wx => qdJ w wx N v3)
 case first =>
  refine wp_region_held_drew (S := (fun w' => w'.cell? ⟨p,10,none⟩ = some (.int .i64 N.ro) /\ w'.cell? ⟨p,11,none⟩ = some (.int .i64 N.ld) /\ w'.cell? ⟨p,12,none⟩ = some (.int .i64 N.wk) /\ w'.cell? ⟨p,2,none⟩ = some (.int .i64 N.ht) /\ w'.cell? ⟨p,3,none⟩ = some (.int .i64 N.hv) /\ w'.cell? ⟨p,9,none⟩ = some (.int .i64 N.cm) /\ Below B0 Wa w')) (by kernel_rfl) (HK.out _ blq.drew) (fun hHeld => ?_)
  change wpAnyH _ _ _ _ _ 25 #[false,false,false,false,false,false,false,false,false,false,false,false,false,false,false,false,false,false,false,false,false,false,false,false,false] _ _
  refine tkq 0 ⟨some 9, .move (.tmp 0),32, "raft.go:141",#[],none⟩ ?_ ?_ ?_
  rotate_left
  · (intro w h; (try dsimp only at h); go_simp); (try with_reducible rfl)
  try simp only [lpq]
  refine tkq 1 ⟨some 10, .nilCheck (.tmp 9),0, "raft.go:141",#[⟨0, .data⟩],none⟩ ?_ ?_ ?_
  rotate_left
  · (intro w h; (try dsimp only at h); go_simp); (try with_reducible rfl)
  try simp only [lpq]
  refine tkq 2 ⟨some 11, .fieldAddr 68 (.tmp 10) 7,0, "raft.go:141",#[⟨1, .data⟩],none⟩ ?_ ?_ ?_
  rotate_left
  · (intro w h; (try dsimp only at h); go_simp); (try with_reducible rfl)
  try simp only [lpq]
  refine tkq 3 ⟨some 12, .load 3 (.tmp 11),3, "raft.go:141",#[⟨2, .data⟩],none⟩ ?_ ?_ ?_
  rotate_left
  · (intro w h; (try dsimp only at h); go_simp); (try with_reducible rfl)
  try simp only [lpq]
  refine tkq 4 ⟨some 13, .move (.tmp 0),32, "raft.go:141",#[],none⟩ ?_ ?_ ?_
  rotate_left
  · (intro w h; (try dsimp only at h); go_simp); (try with_reducible rfl)
  try simp only [lpq]
  refine tkq 5 ⟨some 14, .nilCheck (.tmp 13),0, "raft.go:141",#[⟨4, .data⟩],none⟩ ?_ ?_ ?_
  rotate_left
  · (intro w h; (try dsimp only at h); go_simp); (try with_reducible rfl)
  try simp only [lpq]
  refine tkq 6 ⟨some 15, .fieldAddr 68 (.tmp 14) 8,0, "raft.go:141",#[⟨5, .data⟩],none⟩ ?_ ?_ ?_
  rotate_left
  · (intro w h; (try dsimp only at h); go_simp); (try with_reducible rfl)
  try simp only [lpq]
  refine tkq 7 ⟨some 16, .load 3 (.tmp 15),3, "raft.go:141",#[⟨6, .data⟩],none⟩ ?_ ?_ ?_
  rotate_left
  · (intro w h; (try dsimp only at h); go_simp); (try with_reducible rfl)
  try simp only [lpq]
  refine tkq 8 ⟨some 17, .move (.tmp 0),32, "raft.go:141",#[],none⟩ ?_ ?_ ?_
  rotate_left
  · (intro w h; (try dsimp only at h); go_simp); (try with_reducible rfl)
  try simp only [lpq]
  refine tkq 9 ⟨some 18, .nilCheck (.tmp 17),0, "raft.go:141",#[⟨8, .data⟩],none⟩ ?_ ?_ ?_
  rotate_left
  · (intro w h; (try dsimp only at h); go_simp); (try with_reducible rfl)
  try simp only [lpq]
  refine tkq 10 ⟨some 19, .fieldAddr 68 (.tmp 18) 9,0, "raft.go:141",#[⟨9, .data⟩],none⟩ ?_ ?_ ?_
  rotate_left
  · (intro w h; (try dsimp only at h); go_simp); (try with_reducible rfl)
  try simp only [lpq]
  refine tkq 11 ⟨some 20, .load 3 (.tmp 19),3, "raft.go:141",#[⟨10, .data⟩],none⟩ ?_ ?_ ?_
  rotate_left
  · (intro w h; (try dsimp only at h); go_simp); (try with_reducible rfl)
  try simp only [lpq]
  refine tkq 12 ⟨some 21, .move (.tmp 0),32, "raft.go:141",#[],none⟩ ?_ ?_ ?_
  rotate_left
  · (intro w h; (try dsimp only at h); go_simp); (try with_reducible rfl)
  try simp only [lpq]
  refine tkq 13 ⟨some 22, .nilCheck (.tmp 21),0, "raft.go:141",#[⟨12, .data⟩],none⟩ ?_ ?_ ?_
  rotate_left
  · (intro w h; (try dsimp only at h); go_simp); (try with_reducible rfl)
  try simp only [lpq]
  refine tkq 14 ⟨some 23, .fieldAddr 68 (.tmp 22) 2,0, "raft.go:141",#[⟨13, .data⟩],none⟩ ?_ ?_ ?_
  rotate_left
  · (intro w h; (try dsimp only at h); go_simp); (try with_reducible rfl)
  try simp only [lpq]
  refine tkq 15 ⟨some 24, .load 23 (.tmp 23),23, "raft.go:141",#[⟨14, .data⟩],none⟩ ?_ ?_ ?_
  rotate_left
  · (intro w h; (try dsimp only at h); go_simp); (try with_reducible rfl)
  try simp only [lpq]
  refine tkq 16 ⟨some 25, .move (.tmp 0),32, "raft.go:141",#[],none⟩ ?_ ?_ ?_
  rotate_left
  · (intro w h; (try dsimp only at h); go_simp); (try with_reducible rfl)
  try simp only [lpq]
  refine tkq 17 ⟨some 26, .nilCheck (.tmp 25),0, "raft.go:141",#[⟨16, .data⟩],none⟩ ?_ ?_ ?_
  rotate_left
  · (intro w h; (try dsimp only at h); go_simp); (try with_reducible rfl)
  try simp only [lpq]
  refine tkq 18 ⟨some 27, .fieldAddr 68 (.tmp 26) 6,0, "raft.go:141",#[⟨17, .data⟩],none⟩ ?_ ?_ ?_
  rotate_left
  · (intro w h; (try dsimp only at h); go_simp); (try with_reducible rfl)
  try simp only [lpq]
  refine tkq 19 ⟨some 28, .load 2 (.tmp 27),2, "raft.go:141",#[⟨18, .data⟩],none⟩ ?_ ?_ ?_
  rotate_left
  · (intro w h; (try dsimp only at h); go_simp); (try with_reducible rfl)
  try simp only [lpq]
  refine tkq 20 ⟨some 29, .move (.tmp 0),32, "raft.go:141",#[],none⟩ ?_ ?_ ?_
  rotate_left
  · (intro w h; (try dsimp only at h); go_simp); (try with_reducible rfl)
  try simp only [lpq]
  refine wpAnyH_ready (rs := [21,23]) (by kernel_rfl) (by simp) ?_
  refine AllReadyH.cons (o := ⟨some 30, .call ⟨.value (.func 22),#[.tmp 29],#[32]⟩,2, "raft.go:141",#[⟨20, .data⟩],none⟩) rfl (fun KK hK => ?_) (AllReadyH.cons (o := ⟨some 3, .alloc 38,0, "raft.go:141",#[],none⟩) rfl (fun KK hK => ?_) AllReadyH.nil)
  · go_simp
    refine (hLast _ (HU.out.1 _ hHeld.2.2.2.2.2.2)).mono ?_
    rintro e w4 ⟨rfl,hb4⟩
    have hbb := hHeld.2.2.2.2.2.2.trans (hb4.mono (HU.out.2.2.2.1 _ hHeld.2.2.2.2.2.2))
    refine hK.out _ _ (HK.out _ hbb) (fun hHeld2 => ?_)
    clear hK KK hHeld
    have hHeld := hHeld2
    clear hHeld2
    try simp only [lpq]
    clear hb4 hLast
    refine tkq 22 ⟨some 31, .build 38 #[(0, .tmp 12),(1, .tmp 16),(2, .tmp 20),(3, .tmp 24),(4, .tmp 28),(6, .tmp 30)],38, "raft.go:141",#[⟨3, .data⟩,⟨7, .data⟩,⟨11, .data⟩,⟨15, .data⟩,⟨19, .data⟩,⟨21, .data⟩],none⟩ ?_ ?_ ?_
    rotate_left
    · (intro w h; (try dsimp only at h); go_simp); (try with_reducible rfl)
    try simp only [lpq]
    refine wpAnyH_ready (rs := [23]) (by kernel_rfl) (by simp) ?_
    refine AllReadyH.cons (o := ⟨some 3, .alloc 38,0, "raft.go:141",#[],none⟩) rfl (fun KK hK => ?_) AllReadyH.nil
    go_simp
    refine hK.out _ _ (HK.out _ (hbb.alloc (HU.out.2.2.2.1 _ hbb) _)) (fun hHeld2 => ?_)
    clear hK KK hHeld
    have hHeld := hHeld2
    clear hHeld2
    try simp only [lpq]
    have hb5 := heap_alloc_new w4 (.cells #[.int .i64 0, .int .i64 0, .int .i64 0, .int .i64 0, .int .i64 0, .int .i64 0, .int .i64 0, .int .i64 0, .slice none 0 0, .slice none 0 0] 38)
    have hs5 := HU.out.2.2.2.1 _ hbb
    have hbl : Below B0 Wa (w4.alloc (.cells #[.int .i64 0, .int .i64 0, .int .i64 0, .int .i64 0, .int .i64 0, .int .i64 0, .int .i64 0, .int .i64 0, .slice none 0 0, .slice none 0 0] 38)) := hbb.alloc hs5 _
    generalize w4.alloc (.cells #[.int .i64 0, .int .i64 0, .int .i64 0, .int .i64 0, .int .i64 0, .int .i64 0, .int .i64 0, .int .i64 0, .slice none 0 0, .slice none 0 0] 38) = w5 at *
    obtain ⟨g,hg⟩ : ∃ g,g = w4.heap.size := ⟨_,rfl⟩
    rw [<- hg] at hb5 hs5
    rw [<- hg]
    have HGE := Lib.hid hs5
    clear hg hs5
    have x0 : w5.cell? ⟨g,0,none⟩ = some (.int .i64 0) := qa hb5 0 _ rfl
    have x1 : w5.cell? ⟨g,1,none⟩ = some (.int .i64 0) := qa hb5 1 _ rfl
    have x2 : w5.cell? ⟨g,2,none⟩ = some (.int .i64 0) := qa hb5 2 _ rfl
    have x3 : w5.cell? ⟨g,3,none⟩ = some (.int .i64 0) := qa hb5 3 _ rfl
    have x4 : w5.cell? ⟨g,4,none⟩ = some (.int .i64 0) := qa hb5 4 _ rfl
    have x5 : w5.cell? ⟨g,5,none⟩ = some (.int .i64 0) := qa hb5 5 _ rfl
    have x6 : w5.cell? ⟨g,6,none⟩ = some (.int .i64 0) := qa hb5 6 _ rfl
    have x7 : w5.cell? ⟨g,7,none⟩ = some (.int .i64 0) := qa hb5 7 _ rfl
    have x8 : w5.cell? ⟨g,8,none⟩ = some (.slice none 0 0) := qa hb5 8 _ rfl
    have x9 : w5.cell? ⟨g,9,none⟩ = some (.slice none 0 0) := qa hb5 9 _ rfl
    have y0 := qb hb5 0
    have y1 := qb hb5 1
    have y2 := qb hb5 2
    have y3 := qb hb5 3
    have y4 := qb hb5 4
    have y5 := qb hb5 5
    have y6 := qb hb5 6
    have y7 := qb hb5 7
    have y8 := qb hb5 8
    have y9 := qb hb5 9
    refine wpAnyH_ready (rs := [24]) (by kernel_rfl) (by simp) ?_
    refine AllReadyH.cons (o := ⟨none, .store 38 (.tmp 3) (.tmp 31),0, "raft.go:141",#[⟨23, .data⟩,⟨22, .data⟩,⟨21, .chain⟩,⟨0, .phase⟩,⟨1, .phase⟩,⟨2, .phase⟩,⟨3, .phase⟩,⟨4, .phase⟩,⟨5, .phase⟩,⟨6, .phase⟩,⟨7, .phase⟩,⟨8, .phase⟩,⟨9, .phase⟩,⟨10, .phase⟩,⟨11, .phase⟩,⟨12, .phase⟩,⟨13, .phase⟩,⟨14, .phase⟩,⟨15, .phase⟩,⟨16, .phase⟩,⟨17, .phase⟩,⟨18, .phase⟩,⟨19, .phase⟩,⟨20, .phase⟩,⟨21, .phase⟩,⟨22, .phase⟩,⟨23, .phase⟩],none⟩) rfl (fun KK hK => ?_) AllReadyH.nil
    go_simp
    refine hK.out _ _ (HK.out _ (hbl.trans ((qbd hb5).2.1 _ HGE.out))) (fun hHeld2 => ?_)
    clear hK KK hHeld
    have hHeld := hHeld2
    clear hHeld2
    try simp only [lpq]
    refine wpAnyH_done (by kernel_rfl) ?_ _
    clear x0 y0 x1 y1 x2 y2 x3 y3 x4 y4 x5 y5 x6 y6 x7 y7 x8 y8 x9 y9
    go_wp2
    go_meet
    have hbx := qbd (a0 := .int .i64 N.ro) (a1 := .int .i64 N.ld) (a2 := .int .i64 N.wk) (a3 := .int .i64 N.ht) (a4 := .int .i64 N.hv) (a5 := .int .i64 N.cm) (a6 := .int .i64 0) (a7 := .int .i64 N.lg.lastI) (a8 := .slice none 0 0) (a9 := .slice none 0 0) hb5
    have hge := HGE.out
    have hB := HU.out.2.2.2.2
    exact ⟨g,rfl,hbx.1,HU.out.1 _ (hbl.trans (hbx.2.1 _ hge)),by omega,((hbl.trans (hbx.2.1 _ hge)).block _ (by omega)).trans HU.out.2.1⟩
  · go_simp
    have hbA : Below B0 Wa ((Wa.alloc (.cells #[.int .i64 0, .int .i64 0, .int .i64 0, .int .i64 0, .int .i64 0, .int .i64 0, .int .i64 0, .int .i64 0, .slice none 0 0, .slice none 0 0] 38)).drew) := (blq.alloc (by rw [HU.out.2.2.2.2]; exact nlq) _).drew
    refine hK.out _ _ (HK.out _ hbA) (fun hHeld2 => ?_)
    clear hK KK hHeld
    have hHeld := hHeld2
    clear hHeld2
    try simp only [lpq]
    have hb5x : (Wa.alloc (.cells #[.int .i64 0, .int .i64 0, .int .i64 0, .int .i64 0, .int .i64 0, .int .i64 0, .int .i64 0, .int .i64 0, .slice none 0 0, .slice none 0 0] 38)).drew.heap[Wa.heap.size]? = some (.cells #[.int .i64 0, .int .i64 0, .int .i64 0, .int .i64 0, .int .i64 0, .int .i64 0, .int .i64 0, .int .i64 0, .slice none 0 0, .slice none 0 0] 38) := heap_alloc_new Wa _
    have hbA : Below B0 Wa ((Wa.alloc (.cells #[.int .i64 0, .int .i64 0, .int .i64 0, .int .i64 0, .int .i64 0, .int .i64 0, .int .i64 0, .int .i64 0, .slice none 0 0, .slice none 0 0] 38)).drew) := (blq.alloc (by rw [HU.out.2.2.2.2]; exact nlq) _).drew
    have hAd := hLast _ (HU.out.1 _ hbA)
    clear hLast
    generalize (Wa.alloc (.cells #[.int .i64 0, .int .i64 0, .int .i64 0, .int .i64 0, .int .i64 0, .int .i64 0, .int .i64 0, .int .i64 0, .slice none 0 0, .slice none 0 0] 38)).drew = wX at *
    refine wpAnyH_ready (rs := [21]) (by kernel_rfl) (by simp) ?_
    refine AllReadyH.cons (o := ⟨some 30, .call ⟨.value (.func 22),#[.tmp 29],#[32]⟩,2, "raft.go:141",#[⟨20, .data⟩],none⟩) rfl (fun KK hK => ?_) AllReadyH.nil
    go_simp
    refine hAd.mono ?_
    rintro e w5 ⟨rfl,hb4⟩
    have hbl := hbA.trans (hb4.mono (HU.out.2.2.2.1 _ hbA))
    have hb5 := (hb4.block _ (hlt hb5x)).trans hb5x
    refine hK.out _ _ (HK.out _ hbl) (fun hHeld2 => ?_)
    clear hK KK hHeld
    have hHeld := hHeld2
    clear hHeld2
    try simp only [lpq]
    clear hb4 hAd
    refine tkq 22 ⟨some 31, .build 38 #[(0, .tmp 12),(1, .tmp 16),(2, .tmp 20),(3, .tmp 24),(4, .tmp 28),(6, .tmp 30)],38, "raft.go:141",#[⟨3, .data⟩,⟨7, .data⟩,⟨11, .data⟩,⟨15, .data⟩,⟨19, .data⟩,⟨21, .data⟩],none⟩ ?_ ?_ ?_
    rotate_left
    · (intro w h; (try dsimp only at h); go_simp); (try with_reducible rfl)
    try simp only [lpq]
    obtain ⟨g,hg⟩ : ∃ g,g = w.heap.size + 1 := ⟨_,rfl⟩
    rw [hsz,<- hg] at hb5
    rw [<- hg]
    have HGE := Lib.hid (show B0 <= g by rw [hg,HU.out.2.2.2.2,hsz]; exact nlq)
    clear hg
    have x0 : w5.cell? ⟨g,0,none⟩ = some (.int .i64 0) := qa hb5 0 _ rfl
    have x1 : w5.cell? ⟨g,1,none⟩ = some (.int .i64 0) := qa hb5 1 _ rfl
    have x2 : w5.cell? ⟨g,2,none⟩ = some (.int .i64 0) := qa hb5 2 _ rfl
    have x3 : w5.cell? ⟨g,3,none⟩ = some (.int .i64 0) := qa hb5 3 _ rfl
    have x4 : w5.cell? ⟨g,4,none⟩ = some (.int .i64 0) := qa hb5 4 _ rfl
    have x5 : w5.cell? ⟨g,5,none⟩ = some (.int .i64 0) := qa hb5 5 _ rfl
    have x6 : w5.cell? ⟨g,6,none⟩ = some (.int .i64 0) := qa hb5 6 _ rfl
    have x7 : w5.cell? ⟨g,7,none⟩ = some (.int .i64 0) := qa hb5 7 _ rfl
    have x8 : w5.cell? ⟨g,8,none⟩ = some (.slice none 0 0) := qa hb5 8 _ rfl
    have x9 : w5.cell? ⟨g,9,none⟩ = some (.slice none 0 0) := qa hb5 9 _ rfl
    have y0 := qb hb5 0
    have y1 := qb hb5 1
    have y2 := qb hb5 2
    have y3 := qb hb5 3
    have y4 := qb hb5 4
    have y5 := qb hb5 5
    have y6 := qb hb5 6
    have y7 := qb hb5 7
    have y8 := qb hb5 8
    have y9 := qb hb5 9
    refine wpAnyH_ready (rs := [24]) (by kernel_rfl) (by simp) ?_
    refine AllReadyH.cons (o := ⟨none, .store 38 (.tmp 3) (.tmp 31),0, "raft.go:141",#[⟨23, .data⟩,⟨22, .data⟩,⟨21, .chain⟩,⟨0, .phase⟩,⟨1, .phase⟩,⟨2, .phase⟩,⟨3, .phase⟩,⟨4, .phase⟩,⟨5, .phase⟩,⟨6, .phase⟩,⟨7, .phase⟩,⟨8, .phase⟩,⟨9, .phase⟩,⟨10, .phase⟩,⟨11, .phase⟩,⟨12, .phase⟩,⟨13, .phase⟩,⟨14, .phase⟩,⟨15, .phase⟩,⟨16, .phase⟩,⟨17, .phase⟩,⟨18, .phase⟩,⟨19, .phase⟩,⟨20, .phase⟩,⟨21, .phase⟩,⟨22, .phase⟩,⟨23, .phase⟩],none⟩) rfl (fun KK hK => ?_) AllReadyH.nil
    go_simp
    refine hK.out _ _ (HK.out _ (hbl.trans ((qbd hb5).2.1 _ HGE.out))) (fun hHeld2 => ?_)
    clear hK KK hHeld
    have hHeld := hHeld2
    clear hHeld2
    try simp only [lpq]
    refine wpAnyH_done (by kernel_rfl) ?_ _
    clear x0 y0 x1 y1 x2 y2 x3 y3 x4 y4 x5 y5 x6 y6 x7 y7 x8 y8 x9 y9
    go_wp2
    go_meet
    have hbx := qbd (a0 := .int .i64 N.ro) (a1 := .int .i64 N.ld) (a2 := .int .i64 N.wk) (a3 := .int .i64 N.ht) (a4 := .int .i64 N.hv) (a5 := .int .i64 N.cm) (a6 := .int .i64 0) (a7 := .int .i64 N.lg.lastI) (a8 := .slice none 0 0) (a9 := .slice none 0 0) hb5
    have hge := HGE.out
    have hB := HU.out.2.2.2.2
    exact ⟨g,rfl,hbx.1,HU.out.1 _ (hbl.trans (hbx.2.1 _ hge)),by omega,((hbl.trans (hbx.2.1 _ hge)).block _ (by omega)).trans HU.out.2.1⟩
 case rest =>
  obtain ⟨g,rfl,hbox,hbw,hgw,hres⟩ := hcut
  obtain ⟨h,hl,hn⟩ := H.out
  have Rc := h.below hbw
  obtain ⟨AA,cc,hrd⟩ := Rc.log.rd
  have hBase := qQ hrd
  have c8 := Rc.c8
  have HC := Lib.hid (And.intro hbox (And.intro hbw (And.intro hgw hres)))
  clear h hl hn Rc hrd hbox hbw hres HK hLast
  go_wp2_with fail
  refine hBase.mono ?_
  rintro e w4 ⟨rfl,hb4⟩
  obtain ⟨hbox,hbw,hgw,hres⟩ := HC.out
  have hbox4 := (hb4.block _ (hlt hbox)).trans hbox
  have hres4 := (hb4.block _ (hlt hres)).trans hres
  have o6 : w4.cell? ⟨g,6,none⟩ = some (.int .i64 0) := qa hbox4 6 _ rfl
  have z6 := qb hbox4 6
  obtain ⟨W5,hW5⟩ : ∃ W5,w4.setCell ⟨g,6,none⟩ (.int .i64 N.lg.i) = W5 := ⟨_,rfl⟩
  have hb45 : Below w.heap.size w4 W5 := by rw [<- hW5]; exact blq.setCell (p := ⟨g,6,none⟩) (Nat.le_of_lt hgw) _
  have hbox5 : W5.heap[g]? = some (.cells #[.int .i64 N.ro, .int .i64 N.ld, .int .i64 N.wk, .int .i64 N.ht, .int .i64 N.hv, .int .i64 N.cm, .int .i64 N.lg.i, .int .i64 N.lg.lastI, .slice none 0 0, .slice none 0 0] 38) := by rw [<- hW5]; exact setCell_at w4 ⟨g,6,none⟩ _ _ _ _ rfl hbox4
  have hres5 : W5.heap[w.heap.size]? = some (.cells #[.int .i64 0, .int .i64 0, .int .i64 0, .int .i64 0, .int .i64 0, .int .i64 0, .int .i64 0, .int .i64 0, .slice none 0 0, .slice none 0 0] 38) := by rw [<- hW5]; exact (Below.heap_setCell _ _ _ _ (by show w.heap.size ≠ g; omega)).trans hres4
  have hbw5 := (hbw.trans (hb4.mono hbw.size)).trans hb45
  have R5 := H.out.1.below hbw5
  have c1 := R5.c1
  have hp5 := R5.lt
  have hcut := fun W => qdq p N.n H.out.2.2 W
  have hlp : qce w W5 N g 0 := ⟨none,0,none,0,hbox5,Sp.nil _ _ _,Sp.nil _ _ _,fun b hb => absurd hb (qu b),fun b hb => absurd hb (qu b),hbw5,hres5⟩
  have HLP := Lib.hid hlp
  clear hbox hbw hres hbox4 hres4 hb45 hbox5 hres5 hbw5 R5 hlp hb4 hBase c8
  go_wp2_with fail
  clear hW5
  go_quiet (fail)
  go_wp2_with fail
  go_loopw [50] (fun v50 wr => ∃ k : Nat,k <= N.n /\ v50 = .int .i64 (k : Int) /\ qce w wr N g k) (fun v50 _ => N.n - (intOf v50).toNat)
  case atStart =>
   obtain ⟨NA,nc,MA,mc,a1,a2,a3,a4,a5,a6,a7⟩ := HLP.out
   exact ⟨0,Nat.zero_le _,rfl,NA,nc,MA,mc,a1,a2.keep fun _ _ => rfl,a3.keep fun _ _ => rfl,a4,a5,below_drewN a6 _,a7⟩
  case round =>
   obtain ⟨k,hk,rfl,hst⟩ := hrel
   by_cases hlt2 : k < N.n
   · obtain ⟨h,hl,hn⟩ := H.out
     obtain ⟨NA,nc,MA,mc,a1,a2,a3,a4,a5,a6,a7⟩ := hst
     have Rr := h.below a6
     obtain ⟨x,hx⟩ : ∃ x,N.nx k = x := ⟨_,rfl⟩
     obtain ⟨y,hy⟩ : ∃ y,N.ma k = y := ⟨_,rfl⟩
     obtain ⟨z,hz⟩ : ∃ z,N.ac k = z := ⟨_,rfl⟩
     have hcl : wr.cell? ⟨p,16 + 3 * k,none⟩ = some (.int .i64 x) /\ wr.cell? ⟨p,17 + 3 * k,none⟩ = some (.int .i64 y) /\ wr.cell? ⟨p,18 + 3 * k,none⟩ = some (.int .i64 z) := by
      rw [<- hx,<- hy,<- hz]
      obtain rfl | rfl | rfl : k = 0 \/ k = 1 \/ k = 2 := by omega
      · exact ⟨Rr.c16,Rr.c17,Rr.c18⟩
      · exact ⟨Rr.c19,Rr.c20,Rr.c21⟩
      · exact ⟨Rr.c22,Rr.c23,Rr.c24⟩
     obtain ⟨d0,d1,d2⟩ := hcl
     have hpr := Rr.lt
     have hgs := hlt a1
     have HX := Lib.hid (And.intro hx (And.intro hy hn))
     have HF := Lib.hid (And.intro a1 (And.intro a2 (And.intro a3 (And.intro a4 (And.intro a5 (And.intro a6 a7))))))
     clear a1 a2 a3 a4 a5 a6 a7 Rr h hl hn hx hy hz
     obtain rfl | rfl | rfl : k = 0 \/ k = 1 \/ k = 2 := by have := HX.out.2.2; omega
     all_goals
      simp only [Nat.mul_zero,Nat.mul_one,Nat.reduceMul,Nat.add_zero,Nat.reduceAdd] at d0 d1 d2
      go_upto_region 8 with fail
      obtain ⟨a1,a2,a3,a4,a5,a6,a7⟩ := HF.out
      have hb7 : Below wr.heap.size wr (wr.alloc (.cells #[.int .i64 x, .int .i64 y, .int .i64 z] 65)) := blq.alloc nlq _
      have pb := heap_alloc_new wr (.cells #[.int .i64 x, .int .i64 y, .int .i64 z] 65)
      have s7 : (wr.alloc (.cells #[.int .i64 x, .int .i64 y, .int .i64 z] 65)).heap.size = wr.heap.size + 1 := by simp
      generalize wr.alloc (.cells #[.int .i64 x, .int .i64 y, .int .i64 z] 65) = W7 at *
      have p0 : W7.cell? ⟨wr.heap.size,0,none⟩ = some (.int .i64 x) := qa pb 0 _ rfl
      have rg := (hb7.block _ (hlt a1)).trans a1
      have g8 := qa rg 8 _ rfl
      have fg8 := qb rg 8
      have hspN : ∀ X,Below W7.heap.size W7 X -> Sp 2 1 X NA _ nc (ints N.nx _) := fun X hX => a2.keep fun b hb => (hX.block b (by have := a2.lt hb; omega)).trans (hb7.block b (a2.lt hb))
      have hbX : Below W7.heap.size W7 (W7.alloc (.cells #[.int .i64 x] 2)) := blq.alloc nlq _
      have hspX := hspN _ hbX
      have HP := Lib.hid (And.intro hb7 (And.intro pb (And.intro s7 hbX)))
      clear a1 a2 a3 a4 a5 a6 a7 hb7 pb rg hspN hbX s7
      go_wp2_with (first
       | (at_builtin
          go_loud (refine qac qI _ rfl _ _ rfl NA _ nc (ints N.nx _) rfl hspX (some ⟨W7.heap.size,0,none⟩) 1 1 [.int .i64 x] rfl (fun e => by cases e) rfl (fun u hu => by rw [List.mem_singleton.1 hu]; rfl) (fun b e => by cases e; exact qq (heap_alloc_new _ _)) (by decide) ?_)
          intro A1 c1q w8 hsp8 hA8 hg8
          obtain ⟨m1,m2,m3⟩ := qdr HF.out.1 HF.out.2.1 HF.out.2.2.1 HF.out.2.2.2.1 HF.out.2.2.2.2.1 (HP.out.1.trans (HP.out.2.2.2.mono (by have := HP.out.2.2.1; omega))) hg8
          have pb8 := (m2 wr.heap.size (by simp; have := HP.out.2.2.1; omega) nlq).trans ((Below.heap_alloc _ _ _ (hlt HP.out.2.1)).trans HP.out.2.1)
          have e8 := qa m1 8 _ rfl
          have e9 := qa m1 9 _ rfl
          have fe8 := qb m1 8
          have fe9 := qb m1 9
          have p1 : w8.cell? ⟨wr.heap.size,1,none⟩ = some (.int .i64 y) := qa pb8 1 _ rfl
          have HQ := Lib.hid (And.intro hsp8 (And.intro hA8 (And.intro hg8 (And.intro m1 m3))))
          have hsp9X : ∀ v o,Sp 2 1 ((w8.setCell ⟨g,8,none⟩ v).alloc o) MA _ mc (ints N.ma _) := fun v o => m3.keep fun b hb => (Below.heap_alloc _ _ _ (by simpa using m3.lt hb)).trans (Below.heap_setCell _ _ _ _ (by exact (HF.out.2.2.2.2.1 b hb).2))
          have hnew9 : ∀ v,((w8.setCell ⟨g,8,none⟩ v).alloc (.cells #[.int .i64 y] 2)).heap[w8.heap.size]? = some (.cells #[.int .i64 y] 2) := fun v => by
           have := heap_alloc_new (w8.setCell ⟨g,8,none⟩ v) (.cells #[.int .i64 y] 2)
           simpa using this
          have hg8lt := hlt m1
          clear hsp8 hA8 hg8 m1 m2 m3 pb8 hspX)
       | (at_builtin
          go_loud (refine qac qI _ rfl _ _ rfl MA _ mc (ints N.ma _) rfl (hsp9X _ _) (some ⟨w8.heap.size,0,none⟩) 1 1 [.int .i64 y] rfl (fun e => by cases e) rfl (fun u hu => by rw [List.mem_singleton.1 hu]; rfl) (fun b e => by cases e; exact qq (hnew9 _)) (by decide) ?_)
          intro A2 c2q w9 hsp9 hA9 hg9
          have rr9 := (hg9.block g (by simp; omega) fun e => (HF.out.2.2.2.2.1 g e).2 rfl).trans ((Below.heap_alloc _ _ _ (by simpa using hg8lt)).trans (setCell_at w8 ⟨g,8,none⟩ _ _ _ _ rfl HQ.out.2.2.2.1))
          have e9b := qa rr9 9 _ rfl
          have fe9b := qb rr9 9
          have HR := Lib.hid (And.intro hsp9 (And.intro hA9 hg9))
          clear hsp9 hA9 hg9 rr9 hsp9X hnew9 e9 fe9 e8 fe8 p1))
      go_roundw
      case rel =>
       obtain ⟨a1,a2,a3,a4,a5,a6,a7⟩ := HF.out
       obtain ⟨hsp8,hA8,hg8,m1,m3⟩ := HQ.out
       obtain ⟨hsp9,hA9,hg9⟩ := HR.out
       obtain ⟨hx,hy,hn⟩ := HX.out
       rw [<- hx] at hsp8
       rw [<- hy] at hsp9
       refine ⟨_,?_,?_,qd4 a1 a2 a3 a4 a5 a6 a7 hgw (HP.out.1.trans (HP.out.2.2.2.mono (by have := HP.out.2.2.1; omega))) hg8 hsp8 hA8 hg9 hsp9 hA9⟩
       · omega
       · rfl
      case measure =>
       simp [intOf]
       omega
   · obtain rfl : k = N.n := by omega
     obtain ⟨NA,nc,MA,mc,a1,a2,a3,a4,a5,a6,a7⟩ := hst
     have g0 : wr.cell? ⟨g,0,none⟩ = some (.int .i64 N.ro) := qa a1 0 _ rfl
     have x0 : wr.cell? ⟨w.heap.size,0,none⟩ = some (.int .i64 0) := qa a7 0 _ rfl
     have y0 := qb a7 0
     have g1 : wr.cell? ⟨g,1,none⟩ = some (.int .i64 N.ld) := qa a1 1 _ rfl
     have x1 : wr.cell? ⟨w.heap.size,1,none⟩ = some (.int .i64 0) := qa a7 1 _ rfl
     have y1 := qb a7 1
     have g2 : wr.cell? ⟨g,2,none⟩ = some (.int .i64 N.wk) := qa a1 2 _ rfl
     have x2 : wr.cell? ⟨w.heap.size,2,none⟩ = some (.int .i64 0) := qa a7 2 _ rfl
     have y2 := qb a7 2
     have g3 : wr.cell? ⟨g,3,none⟩ = some (.int .i64 N.ht) := qa a1 3 _ rfl
     have x3 : wr.cell? ⟨w.heap.size,3,none⟩ = some (.int .i64 0) := qa a7 3 _ rfl
     have y3 := qb a7 3
     have g4 : wr.cell? ⟨g,4,none⟩ = some (.int .i64 N.hv) := qa a1 4 _ rfl
     have x4 : wr.cell? ⟨w.heap.size,4,none⟩ = some (.int .i64 0) := qa a7 4 _ rfl
     have y4 := qb a7 4
     have g5 : wr.cell? ⟨g,5,none⟩ = some (.int .i64 N.cm) := qa a1 5 _ rfl
     have x5 : wr.cell? ⟨w.heap.size,5,none⟩ = some (.int .i64 0) := qa a7 5 _ rfl
     have y5 := qb a7 5
     have g6 : wr.cell? ⟨g,6,none⟩ = some (.int .i64 N.lg.i) := qa a1 6 _ rfl
     have x6 : wr.cell? ⟨w.heap.size,6,none⟩ = some (.int .i64 0) := qa a7 6 _ rfl
     have y6 := qb a7 6
     have g7 : wr.cell? ⟨g,7,none⟩ = some (.int .i64 N.lg.lastI) := qa a1 7 _ rfl
     have x7 : wr.cell? ⟨w.heap.size,7,none⟩ = some (.int .i64 0) := qa a7 7 _ rfl
     have y7 := qb a7 7
     have g8 : wr.cell? ⟨g,8,none⟩ = some (.slice NA N.n nc) := qa a1 8 _ rfl
     have x8 : wr.cell? ⟨w.heap.size,8,none⟩ = some (.slice none 0 0) := qa a7 8 _ rfl
     have y8 := qb a7 8
     have g9 : wr.cell? ⟨g,9,none⟩ = some (.slice MA N.n mc) := qa a1 9 _ rfl
     have x9 : wr.cell? ⟨w.heap.size,9,none⟩ = some (.slice none 0 0) := qa a7 9 _ rfl
     have y9 := qb a7 9
     have HF := Lib.hid (And.intro a1 (And.intro a2 (And.intro a3 (And.intro a4 (And.intro a5 (And.intro a6 a7))))))
     clear a1 a2 a3 a4 a5 a6 a7
     go_wp2
     obtain ⟨a1,a2,a3,a4,a5,a6,a7⟩ := HF.out
     have hbx := qbd (a0 := .int .i64 N.ro) (a1 := .int .i64 N.ld) (a2 := .int .i64 N.wk) (a3 := .int .i64 N.ht) (a4 := .int .i64 N.hv) (a5 := .int .i64 N.cm) (a6 := .int .i64 N.lg.i) (a7 := .int .i64 N.lg.lastI) (a8 := .slice NA N.n nc) (a9 := .slice MA N.n mc) a7
     refine bodyPost_ret (qat (n := w.heap.size) rfl rfl hbx.1 Try.underlying38 rfl (by kernel_rfl)) rfl ?_
     exact ⟨NA,nc,MA,mc,rfl,a2.keep fun b hb => hbx.2.2 b (by have := (a4 b hb).1; omega),a3.keep fun b hb => hbx.2.2 b (by have := (a5 b hb).1; omega),fun b hb => (a4 b hb).1,fun b hb => (a5 b hb).1,a6.trans (hbx.2.1 _ nlq)⟩
end Go.Proofs.Ytmiijlecfiddmaa
