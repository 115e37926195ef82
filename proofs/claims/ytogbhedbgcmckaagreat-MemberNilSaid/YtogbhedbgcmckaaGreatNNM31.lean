/- The program's node tells the readings. -/
import Derived.Test.YtogbhedbgcmckaaGreatNNM01
import Derived.Test.YtogbhedbgcmckaaGreatNNM30
import Derived.Test.YtogbhedbgcmckaaGreatNNM23
set_option linter.unusedVariables false
set_option linter.unusedSimpArgs false
set_option maxRecDepth 100000
set_option maxHeartbeats 200000
namespace Go.Proofs.YtogbhedbgcmckaaGreat
open Go.RowKit Go.Shelf
attribute [local go_sem] Oper.semAt_some
section
variable {w w' : World} {p : Nat} {N : Node} {Z : Nat → Prop} {q : Ptrs} {s : Nat} {xs : List MLay} {K : Nat → Prop}
theorem RfAt.tell (h : RfAt w p N Z q s xs K) (hZ : ∀ b,Z b -> b < w.heap.size) {X : World} (hX : Below w.heap.size w X) {A' : Option Addr} {c' : Nat} {y : Int × Int} (hsp : Sp 122 2 w' A' (N.td.length + 1) c' (rrow N.td ++ rrow [y])) (hA : ∀ b,blkR A' b -> blkR q.T b \/ X.heap.size <= b) (hg : Grew X w' q.T) :
 RfAt (w'.setCell ⟨p,28,none⟩ (.slice A' (N.td.length + 1) c')) p { N with td := N.td ++ [y] } Z { q with T := A',cT := c' } s xs K /\ qa Z w (w'.setCell ⟨p,28,none⟩ (.slice A' (N.td.length + 1) c')) := by
 have hs1 := hX.size;have hs2 := hg.size;have hp := h.lt
 have hnm : ¬ blkR q.T p := fun e => (h.tz p e).2.1 rfl
 have hrow : w'.heap[p]? = some (.cells (rfC N q) 108) := (hg.block p (by omega) hnm).trans ((hX.block p hp).trans h.row);have hset := setCell_at w' ⟨p,28,none⟩ (.slice A' (N.td.length + 1) c') _ _ _ rfl hrow;have hoff : ∀ b,b ≠ p -> (w'.setCell ⟨p,28,none⟩ (.slice A' (N.td.length + 1) c')).heap[b]? = w'.heap[b]? := fun b hb => Below.heap_setCell _ _ _ _ (by exact hb);have hkk : ∀ b,b < w.heap.size -> b ≠ p -> ¬ blkR q.T b -> (w'.setCell ⟨p,28,none⟩ (.slice A' (N.td.length + 1) c')).heap[b]? = w.heap[b]? := fun b h1 h2 h3 => (hoff b h2).trans ((hg.block b (by omega) h3).trans (hX.block b h1))
 have hsz : w.heap.size <= (w'.setCell ⟨p,28,none⟩ (.slice A' (N.td.length + 1) c')).heap.size := by simp; omega
 have hnew : ∀ b,blkR A' b -> blkR q.T b \/ w.heap.size <= b := fun b hb => (hA b hb).imp_right fun e => by omega
 have hA' : ∀ b,blkR A' b -> ¬ Z b /\ b ≠ p /\ ¬ K b /\ ¬ blkR q.R b /\ ¬ blkR q.M b := fun b hb => by
  rcases hnew b hb with hb | hb
  · exact h.tz b hb
  · exact ⟨fun e => by have := hZ b e; omega,by omega,fun e => by have := (h.kz b e).2.2; omega,fun e => by have := h.rds.lt e; omega,fun e => by have := h.mss.lt e; omega⟩
 constructor
 · exact {
    row := by
     have e : N.td.length + 1 = (N.td ++ [y]).length := by simp
     rw [hset,e]
     rfl
    away := h.away
    kz := fun b hb => ⟨(h.kz b hb).1,(h.kz b hb).2.1,Nat.lt_of_lt_of_le (h.kz b hb).2.2 hsz⟩
    rz := h.rz
    mz := h.mz
    tz := hA'
    log := by
     refine (h.log.grow.keep (w' := w'.setCell ⟨p,28,none⟩ (.slice A' (N.td.length + 1) c')) hsz fun b hb hz => hkk b hb (fun e => hz (.inl (.inr (.inl e)))) fun e => hz (.inl (.inr (.inr (.inr (.inr (.inr e))))))).mono fun b hb => ?_;rcases hb with hb | hb | hb | hb | hb | hb
     · exact .inl (.inl hb)
     · exact .inl (.inr (.inl hb))
     · exact .inl (.inr (.inr (.inl hb)))
     · exact .inl (.inr (.inr (.inr (.inl hb))))
     · exact .inl (.inr (.inr (.inr (.inr (.inl hb)))))
     · rcases hnew b hb with hb | hb
       · exact .inl (.inr (.inr (.inr (.inr (.inr hb)))))
       · exact .inr hb
    rds := h.rds.keep fun b hb => hkk b (h.rds.lt hb) (h.rz b hb).2.1 fun e => (h.tz b e).2.2.2.1 hb
    mss := h.mss.keep fun b hb => hkk b (h.mss.lt hb) (h.mz b hb).2.1 fun e => (h.tz b e).2.2.2.2 hb
    tds := by
     rw [show ({ N with td := N.td ++ [y] } : Node).td.length = N.td.length + 1 by simp,qgA]
     exact hsp.keep fun b hb => hoff b (hA' b hb).2.1
    map := h.map
    msg := fun y hy => (h.msg y hy).keep hsz fun b hb hkb => hkk b hb (h.kz b hkb.1).2.1 fun e => (h.tz b e).2.2.1 hkb.1
    snp := h.snp.keep hsz fun h0 g off e hg' => hkk g hg' (h.kz g (h.snk h0 g off e)).2.1 fun e' => (h.tz g e').2.2.1 (h.snk h0 g off e)
    snk := h.snk }
 · have k1 := qb (Z := Z) hX nlq;have k2 := hg.keeps (Z := Z) fun b hb => (h.tz b hb).1;exact (k1.trans k2).trans (qg _ ⟨p,28,none⟩ _ h.away)
end
end Go.Proofs.YtogbhedbgcmckaaGreat
set_option linter.unusedVariables false
set_option linter.unusedSimpArgs false
set_option maxRecDepth 100000
set_option maxHeartbeats 200000
namespace Go.Proofs.YtogbhedbgcmckaaGreat
open Go.RowKit Go.Shelf
attribute [local go_sem] Oper.semAt_some
end Go.Proofs.YtogbhedbgcmckaaGreat
set_option linter.unusedVariables false
set_option linter.unusedSimpArgs false
set_option maxRecDepth 100000
set_option maxHeartbeats 200000
namespace Go.Proofs.YtogbhedbgcmckaaGreat
open Go.RowKit Go.Shelf
attribute [local go_sem] Oper.semAt_some
theorem RfAt.newer {w : World} {p : Nat} {N : Node} {Z : Nat -> Prop} {q : Ptrs} {s : Nat} {xs : List MLay} {K : Nat -> Prop} (h : RfAt w p N Z q s xs K) (hl : N.lg.l.length <= 1000000) {X : World} (hX : Below w.heap.size w X) (i t : Int) :
 Calls Tryz.prog 133 #[ptrV q.l, .int .i64 i, .int .i64 t] X fun e w' => e = .returned (.bool (N.lg.newer i t)) /\ Below X.heap.size X w' := by
 obtain ⟨A,c,hr⟩ := (h.below hX).log.rd;exact qhI hr hl i t
end Go.Proofs.YtogbhedbgcmckaaGreat
set_option linter.unusedVariables false
set_option linter.unusedSimpArgs false
set_option maxRecDepth 100000
set_option maxHeartbeats 200000
namespace Go.Proofs.YtogbhedbgcmckaaGreat
open Go.RowKit Go.Shelf
attribute [local go_sem] Oper.semAt_some
end Go.Proofs.YtogbhedbgcmckaaGreat
set_option linter.unusedVariables false
set_option linter.unusedSimpArgs false
set_option maxRecDepth 100000
set_option maxHeartbeats 200000
namespace Go.Proofs.YtogbhedbgcmckaaGreat
open Go.RowKit Go.Shelf
attribute [local go_sem] Oper.semAt_some
end Go.Proofs.YtogbhedbgcmckaaGreat
set_option linter.unusedVariables false
set_option linter.unusedSimpArgs false
set_option maxRecDepth 100000
set_option maxHeartbeats 200000
namespace Go.Proofs.YtogbhedbgcmckaaGreat
open Go.RowKit Go.Shelf
attribute [local go_sem] Oper.semAt_some
end Go.Proofs.YtogbhedbgcmckaaGreat
set_option linter.unusedVariables false
set_option linter.unusedSimpArgs false
set_option maxRecDepth 100000
set_option maxHeartbeats 200000
namespace Go.Proofs.YtogbhedbgcmckaaGreat
open Go.RowKit Go.Shelf
attribute [local go_sem] Oper.semAt_some
end Go.Proofs.YtogbhedbgcmckaaGreat
set_option linter.unusedVariables false
set_option linter.unusedSimpArgs false
set_option maxRecDepth 100000
set_option maxHeartbeats 200000
namespace Go.Proofs.YtogbhedbgcmckaaGreat
open Go.RowKit Go.Shelf
attribute [local go_sem] Oper.semAt_some
end Go.Proofs.YtogbhedbgcmckaaGreat
set_option linter.unusedVariables false
set_option linter.unusedSimpArgs false
set_option maxRecDepth 100000
set_option maxHeartbeats 200000
namespace Go.Proofs.YtogbhedbgcmckaaGreat
open Go.RowKit Go.Shelf
attribute [local go_sem] Oper.semAt_some
end Go.Proofs.YtogbhedbgcmckaaGreat
set_option linter.unusedVariables false
set_option linter.unusedSimpArgs false
set_option maxRecDepth 100000
set_option maxHeartbeats 200000
namespace Go.Proofs.YtogbhedbgcmckaaGreat
open Go.RowKit Go.Shelf
attribute [local go_sem] Oper.semAt_some
section
variable {w : World} {p : Nat} {N : Node} {Z : Nat → Prop} {q : Ptrs} {s : Nat} {xs : List MLay} {K : Nat → Prop}
end
end Go.Proofs.YtogbhedbgcmckaaGreat
set_option linter.unusedVariables false
set_option linter.unusedSimpArgs false
set_option maxRecDepth 100000
set_option maxHeartbeats 200000
namespace Go.Proofs.YtogbhedbgcmckaaGreat
open Go.RowKit
end Go.Proofs.YtogbhedbgcmckaaGreat
set_option linter.unusedVariables false
set_option linter.unusedSimpArgs false
set_option maxRecDepth 100000
set_option maxHeartbeats 200000
namespace Go.Proofs.YtogbhedbgcmckaaGreat
open Go.RowKit
theorem Ents.one {w : World} {Z : Nat -> Prop} (i t : Int) (E : Option Addr) (n c : Nat) (d : List UInt8) (T : TypeId) (hl : Lies w E n c d) (hz : ∀ k,Z k) :
 Ents (w.alloc (.cells #[.int .i64 i, .int .i64 t, .slice E n c] T)) Z (some ⟨w.heap.size,0,none⟩) 1 1 [⟨i,t,d⟩] := by
 have hb := (Below.refl w.heap.size w).alloc (Nat.le_refl _) (.cells #[.int .i64 i, .int .i64 t, .slice E n c] T);obtain ⟨⟨a0,a1,a2⟩,_⟩ := row3 (heap_alloc_new w (.cells #[.int .i64 i, .int .i64 t, .slice E n c] T));have hd := hl.1;subst hd;refine ⟨rfl,Nat.le_refl _,(fun e => by cases e),fun _ => ⟨w.heap.size,0,rfl,by simp,hz _,fun j hj => ?_⟩⟩
 obtain rfl : j = 0 := by simpa using hj
 exact ⟨E,c,a0,a1,a2,Nat.le_refl _,hl.below hb (Nat.le_refl _),fun _ _ _ _ => hz _⟩
end Go.Proofs.YtogbhedbgcmckaaGreat
set_option linter.unusedVariables false
set_option linter.unusedSimpArgs false
set_option maxRecDepth 100000
set_option maxHeartbeats 200000
namespace Go.Proofs.YtogbhedbgcmckaaGreat
open Go.RowKit
end Go.Proofs.YtogbhedbgcmckaaGreat
set_option linter.unusedVariables false
set_option linter.unusedSimpArgs false
set_option maxRecDepth 100000
set_option maxHeartbeats 200000
namespace Go.Proofs.YtogbhedbgcmckaaGreat
open Go.RowKit Go.Shelf
attribute [local go_sem] Oper.semAt_some
theorem qhU {N : Node} {s : Nat} (hg : qk N.lg) (h : frel N.lg s) (d : List UInt8) : frel (N.grown d) s := by
 unfold Node.grown RL.add
 split
 · exact qiP hg h _
 · exact h
theorem qkY (N : Node) : (N.rise).lg = N.grown [] := by
 unfold Node.rise;dsimp only;obtain ⟨c,hc⟩ := qez ({ N with ro := 3,ld := N.id,wk := 0,cx := 0,rd := [],ma := Node.zeroF,ac := Node.zeroF,nx := fun k => if k < N.n /\ k ≠ N.id then N.lg.lastI + 1 else 0,lg := N.grown [] } : Node);refine Eq.trans (congrArg (fun M : Node => M.sendAll.lg) hc) ?_;unfold Node.sendAll;obtain ⟨ls,_,e⟩ := qb1 ({ N with ro := 3,ld := N.id,wk := 0,cx := 0,rd := [],ma := Node.zeroF,ac := Node.zeroF,nx := fun k => if k < N.n /\ k ≠ N.id then N.lg.lastI + 1 else 0,lg := N.grown [],cm := c } : Node) ({ N with ro := 3,ld := N.id,wk := 0,cx := 0,rd := [],ma := Node.zeroF,ac := Node.zeroF,nx := fun k => if k < N.n /\ k ≠ N.id then N.lg.lastI + 1 else 0,lg := N.grown [],cm := c } : Node).others;exact congrArg Node.lg e
theorem qi7 (N : Node) (k t : Int) : (N.ask k t).lg = N.lg := by
 obtain ⟨ls,_,e⟩ := qdA k t N N.others;show (N.others.foldl (qaN k t) N).lg = N.lg;rw [e]
theorem qkj {N : Node} {s : Nat} (hg : qk N.lg) (h : frel N.lg s) : frel (N.run).lg s := by
 unfold Node.run;dsimp only
 split
 · rw [qkY];exact qhU (N := ({ N with ht := N.ht + 1,hv := N.id } : Node).count 2) hg h []
 · rw [qi7];exact h
end Go.Proofs.YtogbhedbgcmckaaGreat
set_option linter.unusedVariables false
set_option linter.unusedSimpArgs false
set_option maxRecDepth 100000
set_option maxHeartbeats 200000
namespace Go.Proofs.YtogbhedbgcmckaaGreat
open Go.RowKit Go.Shelf
attribute [local go_sem] Oper.semAt_some
end Go.Proofs.YtogbhedbgcmckaaGreat
set_option linter.unusedVariables false
set_option linter.unusedSimpArgs false
set_option maxRecDepth 100000
set_option maxHeartbeats 200000
namespace Go.Proofs.YtogbhedbgcmckaaGreat
open Go.RowKit Go.Shelf
attribute [local go_sem] Oper.semAt_some
end Go.Proofs.YtogbhedbgcmckaaGreat
set_option linter.unusedVariables false
set_option linter.unusedSimpArgs false
set_option maxRecDepth 100000
set_option maxHeartbeats 200000
namespace Go.Proofs.YtogbhedbgcmckaaGreat
open Go.RowKit Go.Shelf
attribute [local go_sem] Oper.semAt_some
section
variable {w w' : World} {p : Nat} {N : Node} {Z : Nat → Prop} {q : Ptrs} {s : Nat} {xs : List MLay} {K : Nat → Prop}
end
end Go.Proofs.YtogbhedbgcmckaaGreat
set_option linter.unusedVariables false
set_option linter.unusedSimpArgs false
set_option maxRecDepth 100000
set_option maxHeartbeats 200000
namespace Go.Proofs.YtogbhedbgcmckaaGreat
open Go.RowKit Go.Shelf
attribute [local go_sem] Oper.semAt_some
end Go.Proofs.YtogbhedbgcmckaaGreat
