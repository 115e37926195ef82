/- A cluster in memory: rows that grow, cells that are stored into. (Written by mksim.py.) -/
import Derived.Test.YtmiijlecfiddmaaGreatNNM09
import Derived.Test.YtmiijlecfiddmaaGreatNNM01
import Derived.Test.YtmiijlecfiddmaaGreatNNM08
import Derived.RangeFuncNested
import Derived.RangeFuncBound
import Derived.RangeFuncCalls
import Derived.RangeFuncLeaves
import Derived.Shelf.Abstract
import Derived.Shelf.RegionOpen
import Derived.OwnWalkIn
import Derived.TacticsInMore
import Derived.LoopNIn
import Derived.LoopIn
import Derived.Deep.QuietTactic
import Derived.Deep.RegionHeld
set_option linter.unusedVariables false
set_option linter.unusedSimpArgs false
set_option maxRecDepth 100000
set_option maxHeartbeats 200000
namespace Go.Proofs.YtmiijlecfiddmaaGreat
open Go.RowKit
def Went (w w' : World) (S' : Sim) (L : SimL) (lab : Nat -> Nat) : Prop := ∃ L' lab',qh w' S' L' lab' /\ L'.g = L.g /\ Turn (fun i => i ≠ 0) w w' lab lab'
section
variable {J : Nat → Prop} {w w' X : World} {lab lab' : Nat → Nat} {S : Sim} {L : SimL}
theorem qaO {i : Nat} {A A' : Option Addr} (hl : ∀ b,w.heap.size <= b -> lab b = 0) (hX : Below w.heap.size w X) (hg : Grew X w' A) (ha : ∀ b,blk A b -> lab b = i /\ b < w.heap.size) (hA : ∀ q,blk A' q -> blk A q \/ X.heap.size <= q) (hA' : ∀ b,blk A' b -> b < w'.heap.size) :
 ∃ lab',Turn (fun j => j = i) w w' lab lab' /\ ∀ b,blk A' b -> lab' b = i := by
 have hs := hX.size;have hs2 := hg.size
 classical
 refine ⟨fun b => if w.heap.size <= b /\ blk A' b then i else lab b,⟨hg.os.symm.trans hX.os,hg.tape.symm.trans hX.tape,hg.output.symm.trans hX.output,by omega,fun b hb hj => ?_,fun b hb _ => if_neg (by omega),fun b hb hj => .inl ?_,fun b hb => ?_,fun b hb => ?_⟩,fun b hb => ?_⟩
 · exact (hg.block b (by omega) fun e => hj (ha b e).1).trans (hX.block b hb)
 · show (if w.heap.size <= b /\ blk A' b then i else lab b) = i;rw [if_neg (by omega)];exact hj
 · show (if w.heap.size <= b /\ blk A' b then i else lab b) = i \/ (if w.heap.size <= b /\ blk A' b then i else lab b) = 0
   split
   · exact .inl rfl
   · exact .inr (hl b hb)
 · show (if w.heap.size <= b /\ blk A' b then i else lab b) = 0
   rw [if_neg fun e => by have := hA' b e.2; omega]
   exact hl b (by omega)
 · show (if w.heap.size <= b /\ blk A' b then i else lab b) = i;rcases hA b hb with h | h
   · have := ha b h;rw [if_neg (by omega)];exact this.1
   · exact if_pos ⟨by omega,hb⟩
theorem qj {i g j : Nat} {v : Value} (hl : ∀ b,w.heap.size <= b -> lab b = 0) (hg : lab g = i) : Turn (fun j => j = i) w (w.setCell ⟨g,j,none⟩ v) lab lab where
 os := rfl
 tape := rfl
 output := rfl
 size := by simp
 same b hb hj := Below.heap_setCell _ _ _ _ (by show b ≠ g; rintro rfl; exact hj hg)
 old _ _ _ := rfl
 own _ _ h := .inl h
 new b hb := .inr (hl b hb)
 lim b hb := hl b (by simpa using hb)
theorem Turn.wide {J' : Nat -> Prop} (t : Turn J w w' lab lab') (h : ∀ i,J i -> J' i) : Turn J' w w' lab lab' := t.mono h fun _ _ _ _ => trivial
theorem Went.same (h : qh w S L lab) (hb : Below w.heap.size w w') : Went w w' S L lab := ⟨L,lab,h.below hb,rfl,Turn.below hb h.lim⟩
theorem Went.after {S' : Sim} (h : qh w S L lab) (hb : Below w.heap.size w X) (W : Went X w' S' L lab) : Went w w' S' L lab := by
 obtain ⟨L',lab',h1,h2,h3⟩ := W;exact ⟨L',lab',h1,h2,(Turn.below hb h.lim).trans h3 (by decide)⟩
theorem qh.led (h : qh w S L lab) {w5 Y w6 : World} {A5 A6 : Option Addr} {n5 n6 : Nat} (u : Int) (k : Nat) (hX : Below w.heap.size w X) (h5 : Sp 2 1 w5 A5 (S.ldr.length + 1) n5 ((S.ldr.map fun x => .int .i64 x.1) ++ [.int .i64 u])) (hA5 : ∀ q,blk A5 q -> blk L.At q \/ X.heap.size <= q) (hg5 : Grew X w5 L.At)
 (hY : Below w5.heap.size w5 Y) (h6 : Sp 3 1 w6 A6 (S.ldr.length + 1) n6 ((S.ldr.map fun x => .int .i64 (x.2 : Int)) ++ [.int .i64 (k : Int)])) (hA6 : ∀ q,blk A6 q -> blk L.Ad q \/ Y.heap.size <= q) (hg6 : Grew Y w6 L.Ad) :
 Went w ((w6.setCell ⟨L.g,5,none⟩ (.slice A5 (S.ldr.length + 1) n5)).setCell ⟨L.g,6,none⟩ (.slice A6 (S.ldr.length + 1) n6)) { S with ldr := S.ldr ++ [(u,k)] } L lab := by
 obtain ⟨lab1,t1,r1⟩ := qaO h.lim hX hg5 (fun b hb => ⟨h.t.lb b hb,h.t.sp.lt hb⟩) hA5 fun b hb => h5.lt hb
 have d1 := h.d.move t1 (by decide)
 obtain ⟨lab2,t2,r2⟩ := qaO t1.lim hY hg6 (fun b hb => ⟨d1.lb b hb,d1.sp.lt hb⟩) hA6 fun b hb => h6.lt hb
 have ta : Row w5 lab1 7 2 1 A5 (S.ldr.length + 1) n5 ((S.ldr.map fun x => .int .i64 x.1) ++ [.int .i64 u]) := ⟨h5,r1⟩;have tb := ta.move t2 (by decide);have da : Row w6 lab2 8 3 1 A6 (S.ldr.length + 1) n6 ((S.ldr.map fun x => .int .i64 (x.2 : Int)) ++ [.int .i64 (k : Int)]) := ⟨h6,r2⟩;have t12 : Turn (fun i => i = 1 \/ i = 7 \/ i = 8) w w6 lab lab2 := (t1.wide fun i e => .inr (.inl e)).trans (t2.wide fun i e => .inr (.inr e)) (by decide)
 have hgm : lab2 L.g = 1 := by
  have e1 := t1.old L.g (hlt h.row) (by rw [h.me]; decide);rw [t2.old L.g (Nat.lt_of_lt_of_le (hlt h.row) t1.size) (by rw [e1,h.me]; decide),e1,h.me]
 have hrow6 : w6.heap[L.g]? = some (.cells (simC S L) 73) := by
  have e1 := t1.old L.g (hlt h.row) (by rw [h.me]; decide);exact (t2.same L.g (Nat.lt_of_lt_of_le (hlt h.row) t1.size) (by rw [e1,h.me]; decide)).trans ((t1.same L.g (hlt h.row) (by rw [h.me]; decide)).trans h.row)
 have t3 : Turn (fun i => i = 1) w6 (w6.setCell ⟨L.g,5,none⟩ (.slice A5 (S.ldr.length + 1) n5)) lab2 lab2 := qj t2.lim hgm;have t4 : Turn (fun i => i = 1) (w6.setCell ⟨L.g,5,none⟩ (.slice A5 (S.ldr.length + 1) n5)) ((w6.setCell ⟨L.g,5,none⟩ (.slice A5 (S.ldr.length + 1) n5)).setCell ⟨L.g,6,none⟩ (.slice A6 (S.ldr.length + 1) n6)) lab2 lab2 := qj t3.lim hgm;have t34 := t3.trans t4 (by decide);have t : Turn (fun i => i = 1 \/ i = 7 \/ i = 8) w _ lab lab2 := t12.trans (t34.wide fun i e => .inl e) (by decide);have hr5 := setCell_at w6 ⟨L.g,5,none⟩ (.slice A5 (S.ldr.length + 1) n5) _ _ _ rfl hrow6;have hr6 := setCell_at _ ⟨L.g,6,none⟩ (.slice A6 (S.ldr.length + 1) n6) _ _ _ rfl hr5;refine ⟨{ L with At := A5,ct := n5,Ad := A6,cd := n6 },lab2,?_,rfl,t.wide fun i e => by omega⟩
 exact {
  lim := t.lim,
  row := by rw [hr6]; simp [simC],
  me := hgm,
  r := h.r.move t (by decide : ¬ (2 = 1 \/ 2 = 7 \/ 2 = 8)),
  h := h.h.move t (by decide : ¬ (3 = 1 \/ 3 = 7 \/ 3 = 8)),
  s := h.s.move t (by decide : ¬ (4 = 1 \/ 4 = 7 \/ 4 = 8)),
  sd := fun j hj => (h.sd j hj).1.moved (h.sd j hj).2 t (by decide : ¬ (0 = 1 \/ 0 = 7 \/ 0 = 8)),
  l := h.l.move t (by decide : ¬ (5 = 1 \/ 5 = 7 \/ 5 = 8)),
  ld := fun j hj => (h.ld j hj).moved t (by decide : ¬ (0 = 1 \/ 0 = 7 \/ 0 = 8)),
  n := h.n.move t (by decide : ¬ (6 = 1 \/ 6 = 7 \/ 6 = 8)),
  nm := h.nm,
  nd := fun x hx => (h.nd x hx).moved t (by decide : ¬ (0 = 1 \/ 0 = 7 \/ 0 = 8)),
  t := by simpa using tb.move t34 (by decide),
  d := by simpa using da.move t34 (by decide),
  a := h.a.move t (by decide : ¬ (9 = 1 \/ 9 = 7 \/ 9 = 8)),
  am := h.am,
  ad := fun x hx => (h.ad x hx).moved t (by decide : ¬ (0 = 1 \/ 0 = 7 \/ 0 = 8)),
  q := h.q.move t (by decide : ¬ (10 = 1 \/ 10 = 7 \/ 10 = 8)),
  nodes := fun j hj => (h.nodes j hj).move t (by omega) (by omega) }
theorem qh.alled (h : qh w S L lab) {w5 : World} {A5 : Option Addr} {n5 : Nat} (y : Lay) (hy : qs w (fun b => lab b = 0) y) (hX : Below w.heap.size w X) (h5 : Sp 78 3 w5 A5 (S.all.length + 1) n5 (rowOf L.ys ++ cells3 y)) (hA5 : ∀ q,blk A5 q -> blk L.Aa q \/ X.heap.size <= q) (hg5 : Grew X w5 L.Aa) :
 ∃ lab',qh (w5.setCell ⟨L.g,7,none⟩ (.slice A5 (S.all.length + 1) n5)) { S with all := S.all ++ [y.e] } { L with Aa := A5,ca := n5,ys := L.ys ++ [y] } lab' /\ Turn (fun i => i = 1 \/ i = 9) w (w5.setCell ⟨L.g,7,none⟩ (.slice A5 (S.all.length + 1) n5)) lab lab' := by
 obtain ⟨lab1,t1,r1⟩ := qaO h.lim hX hg5 (fun b hb => ⟨h.a.lb b hb,h.a.sp.lt hb⟩) hA5 fun b hb => h5.lt hb
 have ra : Row w5 lab1 9 78 3 A5 (S.all.length + 1) n5 (rowOf L.ys ++ cells3 y) := ⟨h5,r1⟩;have e1 := t1.old L.g (hlt h.row) (by rw [h.me]; decide)
 have hgm : lab1 L.g = 1 := by rw [e1,h.me]
 have hrow5 : w5.heap[L.g]? = some (.cells (simC S L) 73) := (t1.same L.g (hlt h.row) (by rw [h.me]; decide)).trans h.row;have t3 : Turn (fun i => i = 1) w5 (w5.setCell ⟨L.g,7,none⟩ (.slice A5 (S.all.length + 1) n5)) lab1 lab1 := qj t1.lim hgm;have t : Turn (fun i => i = 1 \/ i = 9) w _ lab lab1 := (t1.wide fun i e => .inr e).trans (t3.wide fun i e => .inl e) (by decide);have hr5 := setCell_at w5 ⟨L.g,7,none⟩ (.slice A5 (S.all.length + 1) n5) _ _ _ rfl hrow5;refine ⟨lab1,?_,t⟩
 exact {
  lim := t.lim,
  row := by rw [hr5]; simp [simC],
  me := hgm,
  r := h.r.move t (by decide : ¬ (2 = 1 \/ 2 = 9)),
  h := h.h.move t (by decide : ¬ (3 = 1 \/ 3 = 9)),
  s := h.s.move t (by decide : ¬ (4 = 1 \/ 4 = 9)),
  sd := fun j hj => (h.sd j hj).1.moved (h.sd j hj).2 t (by decide : ¬ (0 = 1 \/ 0 = 9)),
  l := h.l.move t (by decide : ¬ (5 = 1 \/ 5 = 9)),
  ld := fun j hj => (h.ld j hj).moved t (by decide : ¬ (0 = 1 \/ 0 = 9)),
  n := h.n.move t (by decide : ¬ (6 = 1 \/ 6 = 9)),
  nm := h.nm,
  nd := fun x hx => (h.nd x hx).moved t (by decide : ¬ (0 = 1 \/ 0 = 9)),
  t := h.t.move t (by decide : ¬ (7 = 1 \/ 7 = 9)),
  d := h.d.move t (by decide : ¬ (8 = 1 \/ 8 = 9)),
  a := by have := ra.move t3 (by decide); simpa [qS,rowOf] using this,
  am := by rw [List.map_append,h.am]; rfl,
  ad := fun x hx => (List.mem_append.1 hx).elim (fun hx => (h.ad x hx).moved t (by decide)) fun hx => by rw [List.mem_singleton.1 hx]; exact hy.moved t (by decide),
  q := h.q.move t (by decide : ¬ (10 = 1 \/ 10 = 9)),
  nodes := fun j hj => (h.nodes j hj).move t (by omega) (by omega) }
theorem qh.netted (h : qh w S L lab) {w5 : World} {A5 : Option Addr} {n5 : Nat} (y : MLay) (hy : qo w (fun b => lab b = 0) y.m y.A y.cA y.E y.cE) (hX : Below w.heap.size w X) (h5 : Sp 51 13 w5 A5 (S.net.length + 1) n5 (mrow L.xs ++ mrow [y])) (hA5 : ∀ q,blk A5 q -> blk L.An q \/ X.heap.size <= q) (hg5 : Grew X w5 L.An) :
 ∃ lab',qh (w5.setCell ⟨L.g,4,none⟩ (.slice A5 (S.net.length + 1) n5)) { S with net := S.net ++ [y.m] } { L with An := A5,cn := n5,xs := L.xs ++ [y] } lab' /\ Turn (fun i => i = 1 \/ i = 6) w (w5.setCell ⟨L.g,4,none⟩ (.slice A5 (S.net.length + 1) n5)) lab lab' := by
 obtain ⟨lab1,t1,r1⟩ := qaO h.lim hX hg5 (fun b hb => ⟨h.n.lb b hb,h.n.sp.lt hb⟩) hA5 fun b hb => h5.lt hb
 have ra : Row w5 lab1 6 51 13 A5 (S.net.length + 1) n5 (mrow L.xs ++ mrow [y]) := ⟨h5,r1⟩;have e1 := t1.old L.g (hlt h.row) (by rw [h.me]; decide)
 have hgm : lab1 L.g = 1 := by rw [e1,h.me]
 have hrow5 : w5.heap[L.g]? = some (.cells (simC S L) 73) := (t1.same L.g (hlt h.row) (by rw [h.me]; decide)).trans h.row;have t3 : Turn (fun i => i = 1) w5 (w5.setCell ⟨L.g,4,none⟩ (.slice A5 (S.net.length + 1) n5)) lab1 lab1 := qj t1.lim hgm;have t : Turn (fun i => i = 1 \/ i = 6) w _ lab lab1 := (t1.wide fun i e => .inr e).trans (t3.wide fun i e => .inl e) (by decide);have hr5 := setCell_at w5 ⟨L.g,4,none⟩ (.slice A5 (S.net.length + 1) n5) _ _ _ rfl hrow5;refine ⟨lab1,?_,t⟩
 exact {
  lim := t.lim,
  row := by rw [hr5]; simp [simC],
  me := hgm,
  r := h.r.move t (by decide : ¬ (2 = 1 \/ 2 = 6)),
  h := h.h.move t (by decide : ¬ (3 = 1 \/ 3 = 6)),
  s := h.s.move t (by decide : ¬ (4 = 1 \/ 4 = 6)),
  sd := fun j hj => (h.sd j hj).1.moved (h.sd j hj).2 t (by decide : ¬ (0 = 1 \/ 0 = 6)),
  l := h.l.move t (by decide : ¬ (5 = 1 \/ 5 = 6)),
  ld := fun j hj => (h.ld j hj).moved t (by decide : ¬ (0 = 1 \/ 0 = 6)),
  n := by have := ra.move t3 (by decide); simpa [qa6] using this,
  nm := by rw [List.map_append,h.nm]; rfl,
  nd := fun x hx => (List.mem_append.1 hx).elim (fun hx => (h.nd x hx).moved t (by decide)) fun hx => by rw [List.mem_singleton.1 hx]; exact hy.moved t (by decide),
  t := h.t.move t (by decide : ¬ (7 = 1 \/ 7 = 6)),
  d := h.d.move t (by decide : ¬ (8 = 1 \/ 8 = 6)),
  a := h.a.move t (by decide : ¬ (9 = 1 \/ 9 = 6)),
  am := h.am,
  ad := fun x hx => (h.ad x hx).moved t (by decide : ¬ (0 = 1 \/ 0 = 6)),
  q := h.q.move t (by decide : ¬ (10 = 1 \/ 10 = 6)),
  nodes := fun j hj => (h.nodes j hj).move t (by omega) (by omega) }
theorem qh.readed (h : qh w S L lab) {w5 : World} {A5 : Option Addr} {n5 : Nat} (y : qar) (hX : Below w.heap.size w X) (h5 : Sp 110 4 w5 A5 (S.rds.length + 1) n5 (qaq S.rds ++ qaq [y])) (hA5 : ∀ q,blk A5 q -> blk L.Aq q \/ X.heap.size <= q) (hg5 : Grew X w5 L.Aq) :
 ∃ lab',qh (w5.setCell ⟨L.g,8,none⟩ (.slice A5 (S.rds.length + 1) n5)) { S with rds := S.rds ++ [y] } { L with Aq := A5,cq := n5 } lab' /\ Turn (fun i => i = 1 \/ i = 10) w (w5.setCell ⟨L.g,8,none⟩ (.slice A5 (S.rds.length + 1) n5)) lab lab' := by
 obtain ⟨lab1,t1,r1⟩ := qaO h.lim hX hg5 (fun b hb => ⟨h.q.lb b hb,h.q.sp.lt hb⟩) hA5 fun b hb => h5.lt hb
 have ra : Row w5 lab1 10 110 4 A5 (S.rds.length + 1) n5 (qaq S.rds ++ qaq [y]) := ⟨h5,r1⟩;have e1 := t1.old L.g (hlt h.row) (by rw [h.me]; decide)
 have hgm : lab1 L.g = 1 := by rw [e1,h.me]
 have hrow5 : w5.heap[L.g]? = some (.cells (simC S L) 73) := (t1.same L.g (hlt h.row) (by rw [h.me]; decide)).trans h.row;have t3 : Turn (fun i => i = 1) w5 (w5.setCell ⟨L.g,8,none⟩ (.slice A5 (S.rds.length + 1) n5)) lab1 lab1 := qj t1.lim hgm;have t : Turn (fun i => i = 1 \/ i = 10) w _ lab lab1 := (t1.wide fun i e => .inr e).trans (t3.wide fun i e => .inl e) (by decide);have hr5 := setCell_at w5 ⟨L.g,8,none⟩ (.slice A5 (S.rds.length + 1) n5) _ _ _ rfl hrow5;refine ⟨lab1,?_,t⟩
 exact {
  lim := t.lim,
  row := by rw [hr5]; simp [simC],
  me := hgm,
  r := h.r.move t (by decide : ¬ (2 = 1 \/ 2 = 10)),
  h := h.h.move t (by decide : ¬ (3 = 1 \/ 3 = 10)),
  s := h.s.move t (by decide : ¬ (4 = 1 \/ 4 = 10)),
  sd := fun j hj => (h.sd j hj).1.moved (h.sd j hj).2 t (by decide : ¬ (0 = 1 \/ 0 = 10)),
  l := h.l.move t (by decide : ¬ (5 = 1 \/ 5 = 10)),
  ld := fun j hj => (h.ld j hj).moved t (by decide : ¬ (0 = 1 \/ 0 = 10)),
  n := h.n.move t (by decide : ¬ (6 = 1 \/ 6 = 10)),
  nm := h.nm,
  nd := fun x hx => (h.nd x hx).moved t (by decide : ¬ (0 = 1 \/ 0 = 10)),
  t := h.t.move t (by decide : ¬ (7 = 1 \/ 7 = 10)),
  d := h.d.move t (by decide : ¬ (8 = 1 \/ 8 = 10)),
  a := h.a.move t (by decide : ¬ (9 = 1 \/ 9 = 10)),
  am := h.am,
  ad := fun x hx => (h.ad x hx).moved t (by decide : ¬ (0 = 1 \/ 0 = 10)),
  q := by have := ra.move t3 (by decide); simpa [qaq] using this,
  nodes := fun j hj => (h.nodes j hj).move t (by omega) (by omega) }
end
end Go.Proofs.YtmiijlecfiddmaaGreat
set_option linter.unusedVariables false
set_option linter.unusedSimpArgs false
set_option maxRecDepth 100000
set_option maxHeartbeats 1000000
namespace Go.Proofs.YtmiijlecfiddmaaGreat
open Go.RowKit Go.Shelf
attribute [local go_sem] Oper.semAt_some
def oth (id k : Nat) : List Nat := (List.range k).filter fun j => decide (j ≠ id)
theorem qcd (id k : Nat) : oth id (k + 1) = if k = id then oth id k else oth id k ++ [k] := by
 unfold oth;rw [List.range_succ,List.filter_append]
 by_cases h : k = id
 · rw [if_pos h]; simp [h]
 · rw [if_neg h]; simp [h]
theorem qkm (id n : Nat) : ∀ k,k <= n -> oth id k <+: oth id n := by
 induction n with
 | zero => intro k hk; rw [Nat.le_zero.1 hk]; exact List.prefix_refl _
 | succ n ih =>
   intro k hk;rcases Nat.lt_or_ge k (n + 1) with h | h
   · refine (ih k (by omega)).trans ?_;rw [qcd]
     split
     · exact List.prefix_refl _
     · exact List.prefix_append _ _
   · rw [show k = n + 1 by omega]; exact List.prefix_refl _
theorem qhT (m l p id n : Nat) (hn : n <= 3) (J : List Nat -> World -> Prop) (hJc : ∀ pre W,J pre W -> W.cell? ⟨p,0,none⟩ = some (.int .i64 (id : Int)))
 (hY : ∀ pre x W,J pre W -> x < n -> x ≠ id -> pre ++ [x] <+: oth id n -> YieldAt Fence.wide (m - 1) Tryz.prog l #[.int .i64 (x : Int)] W fun e W' => e = .returned (.bool true) /\ J (pre ++ [x]) W')
 (W : World) (hc1 : W.cell? ⟨p,1,none⟩ = some (.int .i64 (n : Int))) (h0 : J [] W) :
 CallsIn Fence.wide m Tryz.prog 58 #[ptrV p, .func (.yield l) #[] #[]] W fun e W' => (∃ v,e = .returned v) /\ J (oth id n) W' := by
 refine callsIn_of_wp Tryz.func58 rfl trivial ?_ rfl;simp only [Tryz.ntmps58,List.size_toArray,List.length_cons,List.length_nil,Nat.reduceAdd,Nat.reduceSub,Array.replicate_succ,Array.replicate_zero,List.push_toArray,List.append_toArray,List.nil_append,List.cons_append]
 gi_wp2
 gi_loopw [9] (fun i wr => ∃ k : Nat,k <= n /\ i = .int .i64 (k : Int) /\ J (oth id k) wr) (fun i _ => n - (intOf i).toNat)
 case atStart => exact ⟨0,Nat.zero_le _,rfl,h0⟩
 case round =>
  obtain ⟨k,hk,rfl,hJs⟩ := hrel;have hc0 := hJc _ _ hJs
  by_cases hlt : k < n
  · by_cases hid : k = id
    · have q1 : ((k : Int) != (id : Int)) = false := by rw [hid]; simp
      have q2 : ((k : Int) = (id : Int)) = True := eq_true (by omega)
      gi_wp2
      refine ⟨fun _ h => (by cases h),?_⟩
      gi_wp2
      go_roundw
      case rel => exact ⟨k + 1,by omega,by simp [hid],by rw [qcd,if_pos hid]; exact hJs⟩
      case measure => simp [intOf]; omega
    · have q1 : ((k : Int) != (id : Int)) = true := by rw [bne_iff_ne]; omega
      have q2 : ((k : Int) = (id : Int)) = False := eq_false (by omega);obtain ⟨fn,tmps,assign,body,hy,hR⟩ := hY _ k wr hJs hlt hid (by have := qkm id n (k + 1) (by omega); rwa [qcd,if_neg hid] at this)
      gi_wp2
      refine ⟨fun h => (by cases h),?_⟩;refine hR.mono ?_;rintro e W3 ⟨rfl,hJ3⟩
      gi_wp2
      go_roundw
      case rel => exact ⟨k + 1,by omega,by simp,by rw [qcd,if_neg hid]; exact hJ3⟩
      case measure => simp [intOf]; omega
  · obtain rfl : k = n := by omega
    gi_wp2
    go_end0
    exact ⟨⟨_,rfl⟩,hJs⟩
def roundEnd (B : Nat) (I : World -> Prop) (W : World) : Exit -> Act -> World -> Prop
 | .normal,_,W' => W'.heap[B]? = W.heap[B]? /\ W'.heap[B + 1]? = W.heap[B + 1]? /\ I W'
 | .ret,_,_ => False
 | .exit _,_,_ => False
 | .goto _,_,_ => False
 | .panic _,_,_ => False
 | .outgrown,_,_ => False
theorem qba {g : Operand} {ps : Array Tmp} {assign body : Code} {Q : Exit -> Act -> World -> Prop} {a : Act} {w : World} {m p id n : Nat}
 (hg : a.eval g = .func (.func 58) #[ptrV p] #[]) (hn : n <= 3) (hps : ps.size = 1) (hp : p < w.heap.size) (hc1 : w.cell? ⟨p,1,none⟩ = some (.int .i64 (n : Int)))
 (I : List Nat -> World -> Prop) (hIc : ∀ pre W,I pre W -> W.cell? ⟨p,0,none⟩ = some (.int .i64 (id : Int)))
 (hI0 : ∀ r,I [] ((w.alloc (.deferred (some []))).alloc (.loop r))) (hI1 : ∀ pre W r r',I pre W -> W.heap[w.heap.size + 1]? = some (.loop r) -> I pre (W.putObj (w.heap.size + 1) (.loop r'))) (a₁ : Nat -> Act)
 (hassign : ∀ (l : Nat) (x : Nat) (W : World) (K : Act -> World -> Prop),K (a₁ x) W →
   assign.wpIn (Fence.wide.inRound l) (m - 1 - 1) Tryz.prog (Exit.then K (fun _ _ _ => False)) { tmps := (ps.zip #[.int .i64 (x : Int)]).foldl (fun t (p,v) => t.setIfInBounds p v) a.tmps,defers := [] } W)
 (hbody : ∀ (l : Nat) (pre : List Nat) (x : Nat) (W : World),x < n -> x ≠ id -> pre ++ [x] <+: oth id n -> I pre W -> w.heap.size + 1 < W.heap.size -> (∃ r,W.heap[w.heap.size + 1]? = some (.loop r)) -> W.heap[w.heap.size]? = some (.deferred (some [])) -> body.wpIn (Fence.wide.inRound l) (m - 1 - 1) Tryz.prog (roundEnd w.heap.size (I (pre ++ [x])) W) (a₁ x) W)
 (hdone : ∀ W,I (oth id n) W -> W.heap[w.heap.size]? = some (.deferred (some [])) -> w.heap.size + 1 < W.heap.size -> Q .normal { a with defers := { target := .collected w.heap.size,args := #[] } :: a.defers } W) :
 (Code.rangeFunc g ps assign body).wpIn Fence.wide m Tryz.prog Q a w := by
 refine wpIn_rangeFunc fun fn _ => ?_;obtain ⟨rec,hrec⟩ : ∃ rec : LoopState -> Option Code -> Loop,rec = fun st pe => { state := st,pending := pe,fn,tmps := a.tmps,params := ps,assign,body,defers := w.heap.size } := ⟨_,rfl⟩;have hb1 : Below w.heap.size w ((w.alloc (.deferred (some []))).alloc (.loop (rec .ready none))) := ((Below.refl _ w).alloc nlq _).alloc (by simp) _
 have hl1 : ((w.alloc (.deferred (some []))).alloc (.loop (rec .ready none))).heap[w.heap.size + 1]? = some (.loop (rec .ready none)) := by
  have := World.alloc_heap_new (w.alloc (.deferred (some []))) (.loop (rec .ready none))
  rwa [World.size_alloc] at this
 have hd1 : ((w.alloc (.deferred (some []))).alloc (.loop (rec .ready none))).heap[w.heap.size]? = some (.deferred (some [])) := (Below.heap_alloc _ _ _ (by simp)).trans (World.alloc_heap_new w _);have hi1 := hI0 (rec .ready none)
 refine ⟨w.heap.size + 1,[{ target := .collected w.heap.size,args := #[] }],(w.alloc (.deferred (some []))).alloc (.loop (rec .ready none)),{ target := .fn (.func 58) #[],args := #[ptrV p, .func (.yield (w.heap.size + 1)) #[] #[]] },
  (w.alloc (.deferred (some []))).alloc (.loop (rec .ready none)),58,#[ptrV p, .func (.yield (w.heap.size + 1)) #[] #[]],(w.alloc (.deferred (some []))).alloc (.loop (rec .ready none)),?_,?_,fun _ _ => trivial,?_,fun h => (by cases h),?_⟩
 · rw [hrec]; exact run_enterLoop_outer _ _ _ _ _
 · simp only [resolve,hg]
   simp [go_sem]
 · simp [invoke,go_sem,enters_of Tryz.func58 (by kernel_rfl) rfl]
 generalize (w.alloc (.deferred (some []))).alloc (.loop (rec .ready none)) = W1 at *;refine (qhT (m - 1) (w.heap.size + 1) p id n hn (fun pre W => I pre W /\ W.heap[w.heap.size + 1]? = some (.loop (rec .ready none)) /\ W.heap[w.heap.size]? = some (.deferred (some []))) (fun pre W h => hIc pre W h.1) ?_ W1 ((hb1.cell (p := ⟨p,1,none⟩) hp).trans hc1) ⟨hi1,hl1,hd1⟩).mono ?_
 · rintro pre x W ⟨hi,hl,hd⟩ hx hxi hpre;have hlt : w.heap.size + 1 < W.heap.size := hlt hl;have hy := run_yield (P := Tryz.prog) (args := #[.int .i64 (x : Int)]) hl (by rw [hrec]; exact hps.symm);rw [hrec] at hy;refine ⟨fn,_,assign,body,hy,roundIn_of_wpIn (F := Fence.wide) trivial (hassign _ x W _ ⟨_,run_beginRound hl (by rw [hrec]),?_⟩)⟩;have hl2 : (W.putObj (w.heap.size + 1) (.loop { rec .ready none with state := .busy })).heap[w.heap.size + 1]? = some (.loop { rec .ready none with state := .busy }) := World.putObj_heap_same hlt;have hd2 : (W.putObj (w.heap.size + 1) (.loop { rec .ready none with state := .busy })).heap[w.heap.size]? = some (.deferred (some [])) := (World.putObj_heap_other (by omega)).trans hd;refine wpIn_mono (hbody _ pre x _ hx hxi hpre (hI1 _ _ _ _ hi hl) (by simpa using hlt) ⟨_,hl2⟩ hd2) ?_;rintro e a3 W3 he
   cases e with
   | normal =>
     obtain ⟨k1,k2,k3⟩ := he;have hl3 := k2.trans hl2;have hr := run_endRound (P := Tryz.prog) none hl3;rw [hrec] at hr;refine ⟨_,_,hr,rfl,?_,?_,?_⟩
     · exact hI1 _ _ _ _ k3 hl3
     · rw [hrec];exact World.putObj_heap_same (Array.getElem?_eq_some_iff.1 hl3).1
     · exact (World.putObj_heap_other (by omega)).trans (k1.trans hd2)
   | ret => exact he.elim
   | exit _ => exact he.elim
   | goto _ => exact he.elim
   | panic _ => exact he.elim
   | outgrown => exact he.elim
 · rintro e W2 ⟨⟨v,rfl⟩,hi,hl,hd⟩;refine ⟨none,_,by have := run_endLoop (P := Tryz.prog) hl (by rw [hrec]; simp); rw [hrec] at this; exact this,hdone _ (hI1 _ _ _ _ hi hl) ((World.putObj_heap_other (by omega)).trans hd) (by simpa using hlt hl)⟩
end Go.Proofs.YtmiijlecfiddmaaGreat
set_option linter.unusedVariables false
set_option linter.unusedSimpArgs false
set_option maxRecDepth 100000
set_option maxHeartbeats 3200000
namespace Go.Proofs.YtmiijlecfiddmaaGreat
open Go.RowKit Go.Shelf
attribute [local go_sem] Oper.semAt_some
variable {w : World} {p : Nat} {N : Node} {Z : Nat -> Prop} {q : Ptrs} {s : Nat} {xs : List MLay} {K : Nat -> Prop}
theorem qU (N : Node) (l : List Nat) : ∃ ls : List Msg,ls.length = l.length /\ l.foldl Node.send N = { N with ms := N.ms ++ ls } := by
 induction l generalizing N with
 | nil => exact ⟨[],rfl,by simp⟩
 | cons j l ih =>
   obtain ⟨x,hx⟩ : ∃ x,N.send j = { N with ms := N.ms ++ [x] } := by
    unfold Node.send
    split <;> exact ⟨_,rfl⟩
   obtain ⟨ls,h1,h2⟩ := ih (N.send j);refine ⟨x :: ls,by simp [h1],?_⟩;rw [List.foldl_cons,h2,hx];simp
def qF (w W : World) (p : Nat) (N : Node) (Z : Nat -> Prop) (q : Ptrs) (s : Nat) (m : Nat) : Prop :=
 ∃ q' xs K,RfAt W p N (fun b => Z b \/ (w.heap.size <= b /\ b < m)) q' s xs K /\ q'.l = q.l /\ qf Z w W /\ m <= W.heap.size + 2
section
variable {w W W' : World} {p : Nat} {N N' : Node} {Z : Nat → Prop} {q : Ptrs} {s m : Nat}
theorem qaV {Z : Nat -> Prop} {W : World} {l : Nat} {o : Obj} (h : ¬ Z l) : qf Z W (W.putObj l o) :=
 ⟨rfl,rfl,rfl,by simp,fun b _ hz => World.putObj_heap_other fun e => h (e ▸ hz)⟩
theorem qF.keep (h : qF w W p N Z q s m) (hZ : ∀ b,Z b -> b < w.heap.size) (hs : W.heap.size <= W'.heap.size) (h1 : qf Z W W') (h2 : ∀ b,b < W.heap.size -> ¬ (w.heap.size <= b /\ b < m) -> W'.heap[b]? = W.heap[b]?) : qF w W' p N Z q s m := by
 obtain ⟨q',xs,K,h3,h4,h5,h6⟩ := h;exact ⟨q',xs,K,h3.keep hs fun b hb hz => h2 b hb fun e => hz (.inr e),h4,h5.trans h1,by omega⟩
theorem qF.alloc (h : qF w W p N Z q s m) (hZ : ∀ b,Z b -> b < w.heap.size) (o : Obj) : qF w (W.alloc o) p N Z q s m :=
 h.keep hZ (by simp) (qai _ _) fun b hb _ => Below.heap_alloc _ _ _ hb
theorem qF.turn (h : qF w W p N Z q s m) (hZ : ∀ b,Z b -> b < w.heap.size) (l : Nat) (h1 : w.heap.size <= l) (h2 : l < m) (o : Obj) : qF w (W.putObj l o) p N Z q s m :=
 h.keep hZ (by simp) (qaV fun e => by have := hZ l e; omega) fun b hb hz => World.putObj_heap_other fun e => hz (by omega)
theorem qF.c0 (h : qF w W p N Z q s m) : W.cell? ⟨p,0,none⟩ = some (.int .i64 (N.id : Int)) := by
 obtain ⟨q',xs,K,h3,_⟩ := h;exact h3.c0
theorem qF.turned (h : qF w W p N Z q s m) : Turned w W p N Z q s := by
 obtain ⟨q',xs,K,h3,h4,h5,h6⟩ := h;exact ⟨q',xs,K,h3.less fun b hb => .inl hb,h4,h5⟩
end
theorem qhU {pre : List Nat} {x : Nat} (h : RfAt w p (pre.foldl Node.send N) Z q s xs K) (hZ : ∀ b,Z b -> b < w.heap.size) (hm : N.ms.length < 999990) (hl : N.lg.l.length <= 1000000) (hg : Good N.lg) (hx : ∀ j,-4611686018427387904 <= N.nx j /\ N.nx j <= 4611686018427387904) (hsd : N.sn.d.length <= 50000) (hn : N.n <= 3 /\ N.id < 3) (hpre : pre ++ [x] <+: oth N.id N.n) (hx3 : x < 3) :
 Calls Tryz.prog 59 #[ptrV p, .int .i64 (x : Int)] w fun e w' => e = .returned (.tuple #[]) /\ Turned w w' p ((pre.foldl Node.send N).send x) Z q s := by
 obtain ⟨ls,e1,e2⟩ := qU N pre;have h1 := hpre.length_le
 have h2 : (oth N.id N.n).length <= N.n := by
  unfold oth;exact Nat.le_trans (List.length_filter_le _ _) (by simp)
 rw [List.length_append] at h1;simp only [List.length_cons,List.length_nil] at h1;rw [e2] at h ⊢;refine qaw h hZ ?_ hl hg hx hsd (by show N.id < 4; omega) x hx3;show (N.ms ++ ls).length < 999999;rw [List.length_append];omega
theorem qax (h : RfAt w p N Z q s xs K) (hZ : ∀ b,Z b -> b < w.heap.size) (hm : N.ms.length < 999990) (hl : N.lg.l.length <= 1000000) (hg : Good N.lg) (hx : ∀ j,-4611686018427387904 <= N.nx j /\ N.nx j <= 4611686018427387904) (hsd : N.sn.d.length <= 50000) (hn : N.n <= 3 /\ N.id < 3) :
 Calls Tryz.prog 29 #[ptrV p] w fun e w' => e = .returned (.tuple #[]) /\ Turned w w' p N.sendAll Z q s := by
 have hp := h.lt;refine (callsIn_wide (n := 9)).1 ?_;refine callsIn_of_wp_marks Tryz.func29 rfl trivial ?_ rfl;simp only [Tryz.ntmps29,List.size_toArray,List.length_cons,List.length_nil,Nat.reduceAdd,Nat.reduceSub,Array.replicate_succ,Array.replicate_zero,List.push_toArray,List.append_toArray,List.nil_append,List.cons_append]
 gi_wp2
 have hb0 : Below w.heap.size w (w.alloc (.cells #[ptrV p] 33)) := blq.alloc nlq _;have hbox := heap_alloc_new w (.cells #[ptrV p] 33);have hr0 : qF w (w.alloc (.cells #[ptrV p] 33)) p N Z q s (w.heap.size + 3) := ⟨q,xs,K,h.more (fun b hb => hb.1) hb0,rfl,keeps_below hb0 nlq,by simp⟩
 have hsz : (w.alloc (.cells #[ptrV p] 33)).heap.size = w.heap.size + 1 := by simp
 generalize w.alloc (.cells #[ptrV p] 33) = W0 at *
 refine qba (id := N.id) (n := N.n) (p := p) rfl hn.1 rfl (by omega) ?_
  (fun pre W => qF w W p (pre.foldl Node.send N) Z q s (w.heap.size + 3) /\ W.heap[w.heap.size]? = some (.cells #[ptrV p] 33)) ?_ ?_ ?_
  (fun x => { tmps := #[ptrV p, .pointer (some ⟨w.heap.size,0,none⟩), .int .i64 (x : Int),ptrV p, .func (.func 58) #[ptrV p] #[], .int .i64 (x : Int),undef,undef,undef],defers := [] }) ?assign ?body ?done
 · obtain ⟨q',xs',K',h3,_⟩ := hr0;exact h3.c1
 · rintro pre W ⟨h1,_⟩;obtain ⟨ls,_,e⟩ := qU N pre;have := h1.c0;rw [e] at this;exact this
 · intro r;exact ⟨(hr0.alloc hZ _).alloc hZ _,(Below.heap_alloc _ _ _ (by simp; omega)).trans ((Below.heap_alloc _ _ _ (by omega)).trans hbox)⟩
 · rintro pre W r r' ⟨h1,h2⟩ hr;exact ⟨h1.turn hZ _ (by omega) (by omega) _,(World.putObj_heap_other (by omega)).trans h2⟩
 case assign =>
  intro l x W K hK
  gi_wp2
  exact hK
 case body =>
  rintro l pre x W hxn hxi hpre ⟨h1,h2⟩ hsW hlW hdW;obtain ⟨q',xs',K',h3,h4,h5,h6⟩ := h1;have hcell : W.cell? ⟨w.heap.size,0,none⟩ = some (ptrV p) := qb h2 0 _ rfl;have hS := qhU h3 (fun b hb => hb.elim (fun e => by have := hZ b e; omega) (fun e => by omega)) hm hl hg hx hsd hn hpre (by omega);have hW := Lib.hid (show qf Z w W from h5);have hB := Lib.hid h2;have hL := Lib.hid h4;have hSz := Lib.hid hsz;clear h2 h3 h4 h5 h6 hr0 hbox hb0
  gi_wp2
  refine ⟨trivial,?_⟩;refine (CallsIn.inRound l (callsIn_wide.2 hS)).mono ?_;rintro e w' ⟨rfl,hT⟩
  gi_wp2
  obtain ⟨q2,xs2,K2,g1,g2,g3⟩ := hT;refine ⟨?_,?_,⟨q2,xs2,K2,?_,g2.trans hL.out,hW.out.trans (g3.mono fun b hb => .inl hb),?_⟩,?_⟩
  · exact g3.block _ (by omega) (.inr (by omega))
  · exact g3.block _ (by omega) (.inr (by omega))
  · rw [List.foldl_append];exact g1
  · have := g3.size; omega
  · exact (g3.block _ (by omega) (.inr (by omega))).trans hB.out
 case done =>
  rintro W ⟨h1,h2⟩ hd hsD;have hSz := Lib.hid hsz;rw [hsz] at hd ⊢;have hT := Lib.hid (show Turned w (W.putObj (w.heap.size + 1) (.deferred none)) p N.sendAll Z q s from (h1.turn hZ _ (by omega) (by omega) _).turned);clear h1 h2 hr0 hbox hb0 hsz
  gi_wp2
  refine ⟨by simp, .inl ⟨_,_,rfl,run_takeDeferred hd,?_⟩⟩;exact ⟨_,results_none rfl _ _ _,rfl,hT.out⟩
end Go.Proofs.YtmiijlecfiddmaaGreat
set_option linter.unusedVariables false
set_option linter.unusedSimpArgs false
set_option maxRecDepth 100000
set_option maxHeartbeats 200000
namespace Go.Proofs.YtmiijlecfiddmaaGreat
open Go.RowKit Go.Shelf
def calm (Q : Exit -> Act -> World -> Prop) : Exit -> Act -> World -> Prop
 | .normal,a,w => Q .normal a w
 | .ret,a,w => Q .ret a w
 | .exit i,a,w => Q (.exit i) a w
 | .goto t,a,w => Q (.goto t) a w
 | .panic _,_,_ => False
 | .outgrown,_,_ => False
theorem qkn {Q : Exit -> Act -> World -> Prop} : ∀ e a w,calm Q e a w -> Q e a w
 | .normal,_,_,h => h
 | .ret,_,_,h => h
 | .exit _,_,_,h => h
 | .goto _,_,_,h => h
 | .panic _,_,_,h => h.elim
 | .outgrown,_,_,h => h.elim
section
variable {l n : Nat} {P : Program} {Q : Exit → Act → World → Prop} {o : Oper} {a : Act} {w : World} {K : Act → World → Prop}
theorem qgS {r : Result Next} (h : o.upon P a K Q r) : o.uponIn (Fence.wide.inRound l) n P a K Q r := by
 cases r with
 | ok x w' =>
   cases x with
   | value v => exact h
   | skip => exact h
   | defer d => exact h
   | enter f args =>
     refine ⟨fun e => (by cases e),CallsIn.inRound l (callsIn_wide.2 ?_)⟩
     exact Calls.mono h fun e w'' he => by cases e <;> exact he
   | row row args =>
     refine ⟨fun e => (by cases e),fun c cs _ => ?_⟩;obtain ⟨v,w'',hr,hs⟩ := h c cs;exact ⟨v,w'',hr,stepsIn_wide.2 hs⟩
   | _ => exact h.elim
 | halt x w' =>
   cases x <;> exact h
theorem qjp (hd : ∀ c,o.op ≠ .defer c) (h : o.wp P a w K Q) : o.wpIn (Fence.wide.inRound l) n P a w K Q := by
 refine ⟨fun _ _ => trivial,?_⟩;rw [Oper.semAt_plain _ _ _ hd];exact qgS h
theorem qbJ {ops : Array Oper} {md : Region.Mode} (hq : ¬ LetsOut Q) (hd : ∀ o ∈ ops.toList,∀ c,o.op ≠ .defer c) : ∀ (k : Nat) (listed : Array Bool) (a : Act) (w : World),wpAny P md ops Q k listed a w -> wpAnyIn (Fence.wide.inRound l) n P md ops Q k listed a w
 | 0,_,_,_,h => h
 | k + 1,listed,a,w,h => by
   refine ⟨h.1,fun i hi => ?_⟩;have h2 := h.2 i hi;unfold wpOp at h2;unfold wpOpIn
   cases ho : ops[i]? with
   | none =>
     rw [ho] at h2;exact qbJ hq hd k _ a w h2
   | some o =>
     rw [ho] at h2
     have hdo := hd o (by
      obtain ⟨hlt,e⟩ := Array.getElem?_eq_some_iff.1 ho;rw [<- e]
      simp)
     dsimp only at h2 ⊢
     split
     · rename_i hw;rw [if_pos hw] at h2;rcases h2 with h2 | h2
       · exact Oper.wpIn_mono (fun a w h3 => qbJ hq hd k _ a w h3) (qjp hdo h2)
       · exact absurd h2.2 hq
     · rename_i hw;rw [if_neg hw] at h2;exact ⟨fun _ _ => trivial,qbJ hq hd k _ _ w h2⟩
def qbX (l : List Oper) : Bool := l.all fun o => match o.op with | .defer _ => false | _ => true
theorem qe9 {ops : List Oper} (h : qbX ops = true) : ∀ o ∈ ops,∀ c,o.op ≠ .defer c := fun o ho c e => by
 unfold qbX at h;have := List.all_eq_true.1 h o ho;rw [e] at this;cases this
theorem qcz {id : Nat} {ops : Array Oper} (hm : P.follows .mixedOrders = true) (hq : ¬ LetsOut Q) (hd : qbX ops.toList = true) (h : wpAny P .any ops Q ops.size (Array.replicate ops.size false) a w.drew) : (Code.region id ops true).wpIn (Fence.wide.inRound l) n P Q a w :=
 wpIn_region_any hm (qbJ hq (qe9 hd) _ _ _ _ h)
theorem qI {id : Nat} {ops : List Oper} (hm : P.follows .mixedOrders = true) (hq : ¬ LetsOut Q) (hd : qbX ops = true) (hB : Region.lexB .any ops.toArray = true)
 (h : wpQuiet P ops.toArray (fun w' => ∃ n,w' = w.drewN n) (fun a' => ∀ w',(∃ n,w' = w.drewN n) -> Q .normal a' w') ops a) : (Code.region id ops.toArray true).wpIn (Fence.wide.inRound l) n P Q a w := by
 simp only [Region.lexB,Bool.and_eq_true] at hB;refine qcz hm hq (by simpa using hd) (wpAny_of_quiet (C := fun w' => ∃ n,w' = w.drewN n) (Q := fun a' => ∀ w',(∃ n,w' = w.drewN n) -> Q .normal a' w') (fun _ w' hw' h => h w' hw') _ _ _ _ ⟨1,rfl⟩ ?_);have := wpAnyQ_lex (C := fun w' => ∃ n,w' = w.drewN n) (md := .any) hB.1 ops 0 (Array.replicate ops.toArray.size false) a (by simp) (by simpa using hB.2) h
 simpa using this
theorem qM {id : Nat} {ops : Array Oper} {S : World -> Prop} (hm : P.follows .mixedOrders = true) (hq : ¬ LetsOut Q) (hd : qbX ops.toList = true) (hS : S w.drew)
 (h : S w.drew -> wpAnyH P .any ops Q S ops.size (Array.replicate ops.size false) a w.drew) : (Code.region id ops true).wpIn (Fence.wide.inRound l) n P Q a w :=
 qcz hm hq hd (wpAny_of_held _ _ _ _ (h hS))
end
end Go.Proofs.YtmiijlecfiddmaaGreat
