/- The program's Add, by its contract. -/
import Derived.Test.YtmiijlecfiddmaaGreatNNM09
import Derived.Deep.RegionLaw
import Derived.Deep.RegionHeld3
set_option linter.unusedVariables false
set_option linter.unusedSimpArgs false
set_option maxRecDepth 100000
set_option maxHeartbeats 200000
namespace Go.Proofs.YtmiijlecfiddmaaGreat
open Go.RowKit
structure Grew (w w' : World) (A : Option Addr) : Prop where
 os : w.os = w'.os
 tape : w.tape = w'.tape
 output : w.output = w'.output
 size : w.heap.size <= w'.heap.size
 block : ∀ q,q < w.heap.size -> ¬ blk A q -> w'.heap[q]? = w.heap[q]?
theorem Grew.keeps {w w' : World} {A : Option Addr} {Z : Nat -> Prop} (h : Grew w w' A) (hz : ∀ q,blk A q -> ¬ Z q) : qe Z w w' :=
 ⟨h.os.symm,h.tape.symm,h.output.symm,h.size,fun q hq hz' => h.block q hq fun hb => hz q hb hz'⟩
theorem qaF (w : World) {ops : Array Oper} {o : Oper} {a : Act} {K : Act -> World -> Prop} {Q : Exit -> Act -> World -> Prop} {E : Prop} (hgd : o.guard = none) (sl x : Operand)
 (ho : o.op = .call { callee := .builtin .append,args := #[sl,x],argTypes := #[22,22] })
 (A : Option Addr) (n cap : Nat) (xs : List Lay) (hs : a.eval sl = .slice A n cap) (hsp : Spot w A n cap xs) (B : Option Addr) (m c : Nat) (ys : List Lay) (hx : a.eval x = .slice B m c) (hB : B = none -> m = 0) (hl : ys.length = m)
 (hcell : ∀ b,B = some b -> ∀ j u,(rowOf ys)[j]? = some u -> w.cell? (b.add j) = some u) (hf : n + m <= 1000000)
 (h : ∀ A' cap' w',Spot w' A' (n + m) cap' (xs ++ ys) -> (∀ q,blk A' q -> blk A q \/ w.heap.size <= q) -> Grew w w' A -> K (a.put o.dst (.slice A' (n + m) cap')) w') :
 if Region.wanted o (yielded ops a.tmps) = true then Oper.wp Tryz.prog o a w K Q else E := by
 have hw : Region.wanted o (yielded ops a.tmps) = true := by simp [Region.wanted,hgd]
 rw [if_pos hw]
 obtain ⟨A',cap',w',hr,h1,h2,h3,h4,h5,h6,h7⟩ := qaM (w := w) o.type hsp B m c hB hl hcell hf
 unfold Oper.wp execOp
 simp only [ho,resolve,invoke,builtin,Sem.run_bind,Sem.run_pure,Result.andThen_ok,List.map_toArray,List.map_cons,List.map_nil,hs,hx,hr]
 exact h A' cap' w' h1 h2 ⟨h3,h4,h5,h6,h7⟩
theorem LgAt.added {w2 w3 X w4 : World} {p : Nat} {r : RL} {s0 : Nat} {g : Int} {Z : Nat -> Prop} {A A' : Option Addr} {c c' : Nat} {xs : List Lay} {x : Lay} (h : LgAt w2 p r s0 Z A c xs) (hZ : ∀ q,Z q -> q < w2.heap.size)
 (hb3 : Below w2.heap.size w2 w3) (hx : qj w3 (fun q => w2.heap.size <= q) x) (hbX : Below w3.heap.size w3 X) (hsp : Spot w4 A' (r.l.length + 1) c' (xs ++ [x])) (hA : ∀ q,blk A' q -> blk A q \/ X.heap.size <= q) (hg : Grew X w4 A) :
 Lg (w4.setCell ⟨p,2,none⟩ (.slice A' (r.l.length + 1) c')) p ⟨r.i,r.t,r.l ++ [x.e],g⟩ s0 Z /\ qe Z w2 (w4.setCell ⟨p,2,none⟩ (.slice A' (r.l.length + 1) c')) := by
 have hbw := hb3.trans (hbX.mono hb3.size)
 have hX := h.keep hbw.size fun q hq _ => hbw.block q hq
 have hs3 := hb3.size
 have hsX := hbX.size
 have hp2 := hlt h.row
 have hnA : ¬ blk A p := fun e => (h.own p e).1 rfl
 have hrow4 : w4.heap[p]? = some (.cells (plC r A r.l.length c s0) 123) := (hg.block p (hlt hX.row) hnA).trans hX.row
 have hrow : (w4.setCell ⟨p,2,none⟩ (.slice A' (r.l.length + 1) c')).heap[p]? = some (.cells #[.int .i64 r.i, .int .i64 r.t, .slice A' (r.l.length + 1) c', .int .i64 (s0 : Int)] 123) := by
  have := setCell_at w4 ⟨p,2,none⟩ (.slice A' (r.l.length + 1) c') _ _ _ rfl hrow4
  simpa using this
 have hoff : ∀ q,q ≠ p -> (w4.setCell ⟨p,2,none⟩ (.slice A' (r.l.length + 1) c')).heap[q]? = w4.heap[q]? := fun q hq => Below.heap_setCell _ _ _ _ (by exact hq)
 have hA'p : ∀ q,blk A' q -> q ≠ p /\ ¬ Z q := fun q hq => by
  rcases hA q hq with h1 | h1
  · exact h.own q h1
  · exact ⟨by omega,fun e => by have := hZ q e; omega⟩
 have hkeep : ∀ y : Lay,qj X (fun q => q ≠ p /\ ¬ blk A q /\ ¬ Z q /\ q < X.heap.size) y -> qj (w4.setCell ⟨p,2,none⟩ (.slice A' (r.l.length + 1) c')) (fun q => q ≠ p /\ ¬ blk A' q /\ ¬ Z q) y := fun y hy => by
  refine (hy.keep (by rw [World.size_setCell]; exact hg.size) fun q hq hz => (hoff q hz.1).trans (hg.block q hq hz.2.1)).mono fun q hq => ⟨hq.1,fun e => ?_,hq.2.2.1⟩
  rcases hA q e with h1 | h1
  · exact hq.2.1 h1
  · omega
 constructor
 · refine ⟨A',c',xs ++ [x],?_,?_,?_,h.away,hA'p,fun y hy => ?_⟩
   · show _ = some (Obj.cells #[.int .i64 r.i, .int .i64 r.t, .slice A' (r.l ++ [x.e]).length c', .int .i64 (s0 : Int)] 123)
     rw [List.length_append]
     exact hrow
   · show Spot _ A' (r.l ++ [x.e]).length c' _
     rw [List.length_append]
     exact hsp.keep fun q hq => hoff q (hA'p q hq).1
   · show _ = r.l ++ [x.e]
     rw [List.map_append,h.map]
     rfl
   · rcases List.mem_append.1 hy with hy | hy
     · exact hkeep y ((hX.lays y hy).old.mono fun q hq => ⟨hq.1.1,hq.1.2.1,hq.1.2.2,hq.2⟩)
     · rw [List.mem_singleton.1 hy]
       have hx3 := hx.old.keep hbX.size fun q hq _ => hbX.block q hq
       refine hkeep x (hx3.mono fun q hq => ⟨by omega,fun e => ?_,fun e => ?_,by omega⟩)
       · have := h.spot.lt e; omega
       · have := hZ q e; omega
 · have k1 := qf (Z := Z) hbw (Nat.le_refl _)
   have k2 := hg.keeps (Z := Z) fun q hq => (h.own q hq).2
   exact (k1.trans k2).trans (qg _ ⟨p,2,none⟩ _ h.away)
theorem qcj (li lt t : Int) (d : List UInt8) : runB li lt [⟨li + 1,t,d⟩] = (qw (li + 1) t d.length && decide (lt <= t)) := by
 rw [qL]
 simp [qbj]
end Go.Proofs.YtmiijlecfiddmaaGreat
set_option linter.unusedVariables false
set_option linter.unusedSimpArgs false
set_option maxRecDepth 100000
set_option maxHeartbeats 200000
namespace Go.Proofs.YtmiijlecfiddmaaGreat
open Go.RowKit
end Go.Proofs.YtmiijlecfiddmaaGreat
set_option linter.unusedVariables false
set_option linter.unusedSimpArgs false
set_option maxRecDepth 100000
set_option maxHeartbeats 200000
namespace Go.Proofs.YtmiijlecfiddmaaGreat
open Go.RowKit
theorem cells_one {W : World} {k : Nat} {T : TypeId} (x : Lay) {n : Nat} (hn : x.e.d.length = n) (h : W.heap[k]? = some (.cells #[.int .i64 x.e.i, .int .i64 x.e.t, .slice x.A n x.c] T)) : ∀ j u,(rowOf [x])[j]? = some u -> W.cell? ((⟨k,0,none⟩ : Addr).add j) = some u := by
 intro j u hu
 rw [Addr.add_lit,Nat.zero_add,cell_of_row _ _ _ _ _ _ h]
 have e : rowOf [x] = [.int .i64 x.e.i, .int .i64 x.e.t, .slice x.A n x.c] := by simp [rowOf,cells3,hn]
 rw [e] at hu
 simpa using hu
end Go.Proofs.YtmiijlecfiddmaaGreat
set_option linter.unusedVariables false
set_option linter.unusedSimpArgs false
set_option maxRecDepth 100000
set_option maxHeartbeats 200000
namespace Go.Proofs.YtmiijlecfiddmaaGreat
open Go.RowKit
end Go.Proofs.YtmiijlecfiddmaaGreat
set_option linter.unusedVariables false
set_option linter.unusedSimpArgs false
set_option maxRecDepth 100000
set_option maxHeartbeats 200000
namespace Go.Proofs.YtmiijlecfiddmaaGreat
open Go.RowKit
theorem Lg.row4 {w : World} {p : Nat} {r : RL} {s : Nat} {Z : Nat -> Prop} (h : Lg w p r s Z) : w.cell? ⟨p,3,none⟩ = some (.int .i64 (s : Int)) /\ w.frozen? ⟨p,3,none⟩ = false := by
 obtain ⟨A,c,xs,h⟩ := h
 obtain ⟨⟨_,_,_,c3⟩,⟨_,_,_,f3⟩⟩ := Proofs.YtmiijlecfiddmaaGreat.row4 h.row
 exact ⟨c3,f3⟩
end Go.Proofs.YtmiijlecfiddmaaGreat
set_option linter.unusedVariables false
set_option linter.unusedSimpArgs false
set_option maxRecDepth 100000
set_option maxHeartbeats 200000
namespace Go.Proofs.YtmiijlecfiddmaaGreat
open Go.RowKit
theorem Ents.back {w : World} {Z : Nat -> Prop} {A : Option Addr} {n cap : Nat} {ls : List Ent} (h : Ents w Z A n cap ls) {k : Nat} (hk : k <= n) : Ents w Z (qy A cap k) (n - k) (cap - k) (ls.drop k) := by
 have hl := h.1
 have hc := h.2.1
 refine ⟨by rw [List.length_drop]; omega,by omega,fun e => ?_,fun h0 => ?_⟩
 · unfold qy at e
   split at e
   · omega
   · cases A with
     | none => have := h.2.2.1 rfl; omega
     | some a => cases e
 · obtain ⟨g,off,e,hg,hz,hcell⟩ := h.2.2.2 (by omega)
   subst e
   refine ⟨g,off + k * 3,by unfold qy; rw [if_neg (by omega),Option.map_some,Addr.add_lit],hg,hz,fun j hj => ?_⟩
   have hj' : k + j < ls.length := by rw [List.length_drop] at hj; omega
   obtain ⟨E,c,c0,c1,c2,r⟩ := hcell (k + j) hj'
   simp only [List.getElem_drop]
   exact ⟨E,c,by rw [show off + k * 3 + j * 3 = off + (k + j) * 3 by omega]; exact c0,by rw [show off + k * 3 + j * 3 + 1 = off + (k + j) * 3 + 1 by omega]; exact c1,by rw [show off + k * 3 + j * 3 + 2 = off + (k + j) * 3 + 2 by omega]; exact c2,r⟩
end Go.Proofs.YtmiijlecfiddmaaGreat
