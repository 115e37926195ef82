/- A message in memory: its cells; what the smallest calls answer. -/
import Derived.Test.YtogbhedbgcmckaaGreatNNM22
import Derived.Test.YtogbhedbgcmckaaGreatNNM04
import Derived.Test.YtogbhedbgcmckaaGreatNNM15
import Derived.Laws.Tables
import Derived.Test.YtogbhedbgcmckaaGreatNNM21
import Derived.Deep.Cut
import Derived.Deep.DeepCutAuto
import Derived.RegionTactic
import Derived.StillTailTactics
import Derived.Outline
import Derived.Test.YtogbhedbgcmckaaGreatNNM01
import Derived.Test.YtogbhedbgcmckaaGreatNNM02
set_option linter.unusedVariables false
set_option linter.unusedSimpArgs false
set_option maxRecDepth 100000
set_option maxHeartbeats 200000
namespace Go.Proofs.YtogbhedbgcmckaaGreat
open Go.RowKit
abbrev mC (k f o t i l c x : Int) (b : Bool) (A : Option Addr) (n cA : Nat) (si st : Int) (E : Option Addr) (sn cE : Nat) : Array Value :=
 #[.int .i64 k, .int .i64 f, .int .i64 o, .int .i64 t, .int .i64 i, .int .i64 l, .int .i64 c, .int .i64 x, .bool b, .slice A n cA, .int .i64 si, .int .i64 st, .slice E sn cE]
abbrev msgV (m : Msg) (A : Option Addr) (cA : Nat) (E : Option Addr) (cE : Nat) : Value :=
 .agg #[.int .i64 m.k, .int .i64 m.f, .int .i64 m.o, .int .i64 m.t, .int .i64 m.i, .int .i64 m.l, .int .i64 m.c, .int .i64 m.x, .bool m.b, .slice A m.es.length cA, .int .i64 m.s.i, .int .i64 m.s.t, .slice E m.s.d.length cE]
structure qC (w : World) (Z : Nat -> Prop) (m : Msg) (A : Option Addr) (cA : Nat) (E : Option Addr) (cE : Nat) : Prop where
 ents : Ents w Z A m.es.length cA m.es
 hm : cA <= maxLen
 lies : Lies w E m.s.d.length cE m.s.d
 hz : 0 < m.s.d.length -> ∀ g off,E = some ⟨g,off,none⟩ -> Z g
section
variable {w w' : World} {Z Z' : Nat → Prop} {m : Msg} {A E : Option Addr} {cA cE : Nat}
theorem qC.len (h : qC w Z m A cA E cE) : m.es.length <= maxLen := Nat.le_trans h.ents.2.1 h.hm
theorem qC.keep (h : qC w Z m A cA E cE) (hs : w.heap.size <= w'.heap.size) (hk : ∀ k,k < w.heap.size -> Z k -> w'.heap[k]? = w.heap[k]?) : qC w' Z m A cA E cE :=
 ⟨h.ents.keep hs hk,h.hm,h.lies.keep hs fun h0 g off e hg => hk g hg (h.hz h0 g off e),h.hz⟩
theorem qC.keeps (h : qC w Z m A cA E cE) (hk : qa Z w w') : qC w' Z m A cA E cE := h.keep hk.size fun k h1 h2 => hk.block k h1 h2
theorem qC.below (h : qC w Z m A cA E cE) {B : Nat} (hb : Below B w w') (hB : w.heap.size <= B) : qC w' Z m A cA E cE :=
 h.keep hb.size fun k hk _ => hb.block k (Nat.lt_of_lt_of_le hk hB)
theorem qC.mono (h : qC w Z m A cA E cE) (hz : ∀ k,Z k -> Z' k) : qC w Z' m A cA E cE :=
 ⟨h.ents.mono hz,h.hm,h.lies,fun h0 g off e => hz _ (h.hz h0 g off e)⟩
theorem qa9 (w : World) (Z : Nat -> Prop) : Ents w Z none 0 0 [] := ⟨rfl,Nat.le_refl _,fun _ => rfl,fun h => absurd h (by omega)⟩
theorem qC.zero (w : World) (Z : Nat -> Prop) : qC w Z Msg.zero none 0 none 0 :=
 ⟨qa9 w Z,Nat.zero_le _,Lies.nil w,fun h => absurd h (by simp [Msg.zero])⟩
theorem qC.of {m' : Msg} (h : qC w Z m A cA E cE) (he : m'.es = m.es) (hs : m'.s.d = m.s.d) : qC w Z m' A cA E cE := by
 obtain ⟨h1,h2,h3,h5⟩ := h;refine ⟨by rw [he]; exact h1,h2,by rw [hs]; exact h3,by rw [hs]; exact h5⟩
end
theorem qku (k f o t i l c x : Int) (b : Bool) (A : Option Addr) (n cA : Nat) (si st : Int) (E : Option Addr) (sn cE : Nat) (w : World) :
 Calls Tryz.prog 8 #[.agg (mC k f o t i l c x b A n cA si st E sn cE)] w fun e w' => e = .returned (.agg (mC k f o t i l c x b A n cA si st E sn cE)) /\ Below w.heap.size w w' := by
 have hb := ((Below.refl w.heap.size w).alloc (Nat.le_refl _) (.cells (mC k f o t i l c x b A n cA si st E sn cE) 27)).alloc (by simp) (.cells (mC k f o t i l c x b A n cA si st E sn cE) 43)
 go_enter Tryz.func8,Tryz.ntmps8
 go_wp2;refine bodyPost_ret (qE (n := w.heap.size + 1) rfl rfl (heap_alloc2_new _ _ _) Tryz.underlying43 rfl (by kernel_rfl)) rfl ?_;exact ⟨rfl,hb⟩
end Go.Proofs.YtogbhedbgcmckaaGreat
set_option linter.unusedVariables false
set_option linter.unusedSimpArgs false
set_option maxRecDepth 100000
set_option maxHeartbeats 200000
namespace Go.Proofs.YtogbhedbgcmckaaGreat
open Go.RowKit
theorem qs.old {w : World} {Z : Nat -> Prop} {x : Lay} (h : qs w Z x) : qs w (fun q => Z q /\ q < w.heap.size) x := by
 refine ⟨h.1,h.2.1,fun h0 q o e => ⟨h.2.2 h0 q o e,?_⟩⟩;obtain ⟨g,off,e2,hg,_⟩ := h.2.1.2.2.2 h0;rw [e] at e2;injection e2 with e2;injection e2 with e2;subst e2;exact hg
end Go.Proofs.YtogbhedbgcmckaaGreat
set_option linter.unusedVariables false
set_option linter.unusedSimpArgs false
set_option maxRecDepth 100000
set_option maxHeartbeats 200000
namespace Go.Proofs.YtogbhedbgcmckaaGreat
open Go.RowKit
abbrev plC (r : RL) (A : Option Addr) (n c s : Nat) : Array Value := #[.int .i64 r.i, .int .i64 r.t, .slice A n c, .int .i64 (s : Int)]
abbrev ptrV (p : Nat) : Value := .pointer (some ⟨p,0,none⟩)
structure LgAt (w : World) (p : Nat) (r : RL) (s : Nat) (Z : Nat -> Prop) (A : Option Addr) (c : Nat) (xs : List Lay) : Prop where
 row : w.heap[p]? = some (.cells (plC r A r.l.length c s) 169)
 spot : qL w A r.l.length c xs
 map : xs.map (·.e) = r.l
 away : ¬ Z p
 own : ∀ q,blkR A q -> q ≠ p /\ ¬ Z q
 lays : ∀ x ∈ xs,qs w (fun q => q ≠ p /\ ¬ blkR A q /\ ¬ Z q) x
def LgR (w : World) (p : Nat) (r : RL) (s : Nat) (Z : Nat -> Prop) : Prop := ∃ A c xs,LgAt w p r s Z A c xs
structure Rd (w : World) (p : Nat) (r : RL) (s : Nat) (A : Option Addr) (n c : Nat) : Prop where
 row : w.heap[p]? = some (.cells (plC r A n c s) 169)
 ents : Ents w (fun _ => True) A n c r.l
section
variable {w w' : World} {p : Nat} {r : RL} {s : Nat} {Z Z' : Nat → Prop} {A : Option Addr} {n c : Nat} {xs : List Lay}
theorem LgAt.keep (h : LgAt w p r s Z A c xs) (hs : w.heap.size <= w'.heap.size) (hk : ∀ q,q < w.heap.size -> ¬ Z q -> w'.heap[q]? = w.heap[q]?) : LgAt w' p r s Z A c xs :=
 ⟨(hk p (hlt h.row) h.away).trans h.row,h.spot.keep fun q hq => hk q (h.spot.lt hq) (h.own q hq).2,h.map,h.away,h.own,fun x hx => (h.lays x hx).keep hs fun q hq hz => hk q hq hz.2.2⟩
theorem LgR.keep (h : LgR w p r s Z) (hs : w.heap.size <= w'.heap.size) (hk : ∀ q,q < w.heap.size -> ¬ Z q -> w'.heap[q]? = w.heap[q]?) : LgR w' p r s Z := by
 obtain ⟨A,c,xs,h⟩ := h;exact ⟨A,c,xs,h.keep hs hk⟩
theorem LgR.below (h : LgR w p r s Z) (hb : Below w.heap.size w w') : LgR w' p r s Z := h.keep hb.size fun q hq _ => hb.block q hq
theorem LgR.mono (h : LgR w p r s Z) (hz : ∀ q,Z' q -> Z q) : LgR w p r s Z' := by
 obtain ⟨A,c,xs,h⟩ := h;exact ⟨A,c,xs,h.row,h.spot,h.map,fun e => h.away (hz _ e),fun q hq => ⟨(h.own q hq).1,fun e => (h.own q hq).2 (hz _ e)⟩,fun x hx => (h.lays x hx).mono fun q hq => ⟨hq.1,hq.2.1,fun e => hq.2.2 (hz _ e)⟩⟩
theorem LgAt.grow (h : LgAt w p r s Z A c xs) : LgAt w p r s (fun q => Z q \/ w.heap.size <= q) A c xs := by
 refine ⟨h.row,h.spot,h.map,fun e => e.elim h.away fun e => ?_,fun q hq => ⟨(h.own q hq).1,fun e => e.elim (h.own q hq).2 fun e => ?_⟩,fun x hx => (h.lays x hx).old.mono fun q hq => ⟨hq.1.1,hq.1.2.1,fun e => e.elim hq.1.2.2 fun e => ?_⟩⟩
 · have := hlt h.row; omega
 · have := h.spot.lt hq; omega
 · omega
theorem LgR.grow (h : LgR w p r s Z) : LgR w p r s (fun q => Z q \/ w.heap.size <= q) := by
 obtain ⟨A,c,xs,h⟩ := h;exact ⟨A,c,xs,h.grow⟩
theorem LgAt.mono (h : LgAt w p r s Z A c xs) (hz : ∀ q,Z' q -> Z q) : LgAt w p r s Z' A c xs :=
 ⟨h.row,h.spot,h.map,fun e => h.away (hz _ e),fun q hq => ⟨(h.own q hq).1,fun e => (h.own q hq).2 (hz _ e)⟩,fun x hx => (h.lays x hx).mono fun q hq => ⟨hq.1,hq.2.1,fun e => hq.2.2 (hz _ e)⟩⟩
theorem LgR.same {r' : RL} (h : LgR w p r s Z) (h1 : r'.i = r.i) (h2 : r'.t = r.t) (h3 : r'.l = r.l) : LgR w p r' s Z := by
 obtain ⟨i,t,l,f⟩ := r;obtain ⟨i',t',l',f'⟩ := r';dsimp only at h1 h2 h3;subst h1 h2 h3;obtain ⟨A,c,xs,h⟩ := h;exact ⟨A,c,xs,⟨h.row,h.spot,h.map,h.away,h.own,h.lays⟩⟩
theorem LgAt.rd (h : LgAt w p r s Z A c xs) : Rd w p r s A r.l.length c :=
 ⟨h.row,by
   have := h.spot.ents (Z := fun _ => True) (fun _ _ => trivial) fun x hx => (h.lays x hx).mono fun _ _ => trivial
   rwa [h.map] at this⟩
theorem LgR.rd (h : LgR w p r s Z) : ∃ A c,Rd w p r s A r.l.length c := by
 obtain ⟨A,c,xs,h⟩ := h;exact ⟨A,c,h.rd⟩
theorem Rd.below (h : Rd w p r s A n c) (hb : Below w.heap.size w w') : Rd w' p r s A n c := ⟨(hb.block _ (hlt h.row)).trans h.row,h.ents.below hb (Nat.le_refl _)⟩
theorem Rd.cells (h : Rd w p r s A n c) : w.cell? ⟨p,0,none⟩ = some (.int .i64 r.i) /\ w.cell? ⟨p,1,none⟩ = some (.int .i64 r.t) /\ w.cell? ⟨p,2,none⟩ = some (.slice A n c) /\ w.cell? ⟨p,3,none⟩ = some (.int .i64 (s : Int)) := (row4 h.row).1
theorem qs.keeps {w w' : World} {Z : Nat -> Prop} {x : Lay} (h : qs w Z x) (hk : qa Z w w') : qs w' Z x := h.keep hk.size hk.block
end
theorem qcR {B : Nat} {w X : World} (h : Below B w X) (b : Nat) (hb : B <= b) (a0 a1 a2 : Value) : Below B w (((X.setCell ⟨b,0,none⟩ a0).setCell ⟨b,1,none⟩ a1).setCell ⟨b,2,none⟩ a2) :=
 ((h.setCell (by exact hb) a0).setCell (by exact hb) a1).setCell (by exact hb) a2
end Go.Proofs.YtogbhedbgcmckaaGreat
set_option linter.unusedVariables false
set_option linter.unusedSimpArgs false
set_option maxRecDepth 100000
set_option maxHeartbeats 1600000
namespace Go.Proofs.YtogbhedbgcmckaaGreat
open Go.RowKit
theorem qeP (i t : Int) (w : World) : Calls Tryz.prog 115 #[.int .i64 i, .int .i64 t] w fun e w' => e = .returned (.bool (RL.base i t)) /\ w = w' := by
 unfold RL.base
 by_cases h1 : 0 <= i
 · rw [decide_eq_true h1,Bool.true_and]
   by_cases h2 : i <= 1099511627776
   · rw [decide_eq_true h2,Bool.true_and]
     by_cases h3 : 0 <= t
     · rw [decide_eq_true h3,Bool.true_and]
       go_enter Tryz.func115,Tryz.ntmps115
       go_wp2;go_ret;exact ⟨rfl,rfl⟩
     · have e1 : decide (0 <= t) = false := decide_eq_false h3;have e2 : (0 <= t) = False := eq_false h3;rw [e1,Bool.false_and];clear h3
       go_enter Tryz.func115,Tryz.ntmps115
       go_wp2;go_ret;exact ⟨rfl,rfl⟩
   · have e1 : decide (i <= 1099511627776) = false := decide_eq_false h2;have e2 : (i <= 1099511627776) = False := eq_false h2;rw [e1,Bool.false_and];clear h2
     go_enter Tryz.func115,Tryz.ntmps115
     go_wp2;go_ret;exact ⟨rfl,rfl⟩
 · have e1 : decide (0 <= i) = false := decide_eq_false h1;have e2 : (0 <= i) = False := eq_false h1;rw [e1,Bool.false_and];clear h1
   go_enter Tryz.func115,Tryz.ntmps115
   go_wp2;go_ret;exact ⟨rfl,rfl⟩
theorem qaY {w : World} {p : Nat} {r : RL} {s : Nat} {A : Option Addr} {n c : Nat} (h : Rd w p r s A n c) : Calls Tryz.prog 67 #[ptrV p] w fun e w' => e = .returned (.tuple #[.int .i64 r.i, .int .i64 r.t]) /\ Below w.heap.size w w' := by
 obtain ⟨c0,c1,c2,c3⟩ := h.cells;clear h
 go_enter Tryz.func67,Tryz.ntmps67
 go_wp2
 go_big_quiet (fail)
 go_wp2
 go_ret2
 exact ⟨rfl,below_drewN (Below.refl _ _) _⟩
theorem qaZ {w : World} {p : Nat} {r : RL} {s : Nat} {A : Option Addr} {n c : Nat} (h : Rd w p r s A n c) (hm : n <= 1000000) : Calls Tryz.prog 65 #[ptrV p] w fun e w' => e = .returned (.tuple #[.int .i64 r.lastI, .int .i64 r.lastT]) /\ Below w.heap.size w w' := by
 obtain ⟨c0,c1,c2,c3⟩ := h.cells;have hll := h.ents.1
 by_cases h0 : n = 0
 · subst h0;obtain ⟨e1,e2⟩ := qiJ (r := r) (List.eq_nil_of_length_eq_zero hll);rw [e1,e2];have hB := qaY h;clear h hll e1 e2
   go_enter Tryz.func65,Tryz.ntmps65
   go_wp2_with fail
   refine hB.mono ?_;rintro e w1 ⟨rfl,hb1⟩;go_wp2
   go_ret2
   exact ⟨rfl,hb1⟩
 · obtain ⟨e1,e2⟩ := qiK (r := r) (by omega);obtain ⟨m,hmm⟩ : ∃ m,m = n - 1 := ⟨_,rfl⟩
   have hl2 : r.l.length - 1 = m := by omega
   simp only [hl2] at e1 e2;rw [e1,e2];obtain ⟨g,off,E,k,rfl,hg,x0,x1,x2,_⟩ := h.ents.at_ m (by omega);have hne : ((n : Int) == 0) = false := beq_eq_false_iff_ne.2 (by omega);have hne2 : ((n : Int) = 0) = False := eq_false (by omega)
   have hw : wrap64 ((n : Int) - 1) = (m : Int) := by rw [<- IntWalk.i64_left,IntWalk.i64_in _ (by omega)]; omega
   have hw2 : IntKind.i64.wrap ((n : Int) - 1) = (m : Int) := by rw [IntWalk.i64_in _ (by omega)]; omega
   have hlt1 : (m : Int) < (n : Int) := by omega
   have hlt2 : m < n := by omega
   generalize (r.l[m]'(by omega)) = a at *;obtain ⟨ai,at_,ad⟩ := a;dsimp only at *;have hp := hlt h.row;have hb2 : Below w.heap.size w (w.alloc (.cells #[.int .i64 ai, .int .i64 at_, .slice E ad.length k] 117)).drew := ((Below.refl _ _).alloc (Nat.le_refl _) _).drew;clear h hm h0 hll e1 e2 hl2 hmm
   go_enter Tryz.func65,Tryz.ntmps65
   go_wp2
   go_region
   all_goals
    go_wp2
    go_big_quiet (fail)
    go_wp2
    go_ret2
    exact ⟨rfl,below_drewN hb2 _⟩
end Go.Proofs.YtogbhedbgcmckaaGreat
set_option linter.unusedVariables false
set_option linter.unusedSimpArgs false
set_option maxRecDepth 100000
set_option maxHeartbeats 1600000
namespace Go.Proofs.YtogbhedbgcmckaaGreat
open Go.RowKit
abbrev plcV (o : Option Nat) : Value := .tuple #[.int .i64 ((o.getD 0 : Nat) : Int), .bool o.isSome]
theorem qdQ {w : World} {p : Nat} {r : RL} {s : Nat} {A : Option Addr} {n c : Nat} (h : Rd w p r s A n c) (hm : n <= 1000000) (hg : qk r) (x : Int) :
 Calls Tryz.prog 117 #[ptrV p, .int .i64 x] w fun e w' => e = .returned (plcV (r.place x)) /\ Below w.heap.size w w' := by
 have hL := qaZ h hm;have hlim := hg.lim;have hli := hg.lastI;rw [h.ents.1] at hlim hli
 have hpl : r.place x = if r.i < x /\ x <= r.lastI then some (x - r.i - 1).toNat else none := by
  unfold RL.place;rw [h.ents.1,hli]
 rw [hpl]
 have h2 := fun w1 (hb : Below w.heap.size w w1) => (h.below hb).cells
 generalize r.lastI = li at *;generalize r.lastT = lt at *;clear hpl h hg
 by_cases h1 : r.i < x
 · have q1 : (x <= r.i) = False := eq_false (by omega);have q1d : decide (x <= r.i) = false := decide_eq_false (by omega)
   by_cases h3 : x <= li
   · rw [if_pos ⟨h1,h3⟩];have q2 : (li < x) = False := eq_false (by omega);have q2d : decide (li < x) = false := decide_eq_false (by omega);obtain ⟨k,hk⟩ : ∃ k,k = (x - r.i - 1).toNat := ⟨_,rfl⟩;obtain ⟨J,hJ⟩ : ∃ J,J = x - r.i := ⟨_,rfl⟩
     have y1 : wrap64 (x - r.i) = J := by rw [hJ,<- IntWalk.i64_left,IntWalk.i64_in _ (by omega)]
     have y2 : wrap64 (J - 1) = (k : Int) := by rw [<- IntWalk.i64_left,IntWalk.i64_in _ (by omega)]; omega
     rw [<- hk];clear hk hJ h1 h3 hlim hli hm
     go_enter Tryz.func117,Tryz.ntmps117
     go_wp2_with fail
     refine hL.mono ?_;rintro e w1 ⟨rfl,hb1⟩;obtain ⟨c0,c1,c2,c3⟩ := h2 w1 hb1;go_wp2
     go_ret2
     refine ⟨?_,hb1⟩;show Ending.returned (.tuple #[.int .i64 (wrap64 (J - 1)), .bool true]) = _;rw [y2]
     rfl
   · rw [if_neg (fun e => h3 e.2)]
     have q2 : li < x := by omega
     clear h1 h3 hlim hli hm
     go_enter Tryz.func117,Tryz.ntmps117
     go_wp2_with fail
     refine hL.mono ?_;rintro e w1 ⟨rfl,hb1⟩;obtain ⟨c0,c1,c2,c3⟩ := h2 w1 hb1;go_wp2
     go_ret2
     exact ⟨rfl,hb1⟩
 · rw [if_neg (fun e => h1 e.1)]
   have q1 : x <= r.i := by omega
   clear h1 hlim hli hm
   go_enter Tryz.func117,Tryz.ntmps117
   go_wp2_with fail
   refine hL.mono ?_;rintro e w1 ⟨rfl,hb1⟩;obtain ⟨c0,c1,c2,c3⟩ := h2 w1 hb1;go_wp2
   go_ret2
   exact ⟨rfl,hb1⟩
theorem qbY {w : World} {p : Nat} {r : RL} {s : Nat} {A : Option Addr} {n c : Nat} (h : Rd w p r s A n c) (hm : n <= 1000000) (hg : qk r) (x : Int) :
 Calls Tryz.prog 68 #[ptrV p, .int .i64 x] w fun e w' => e = .returned (atV (r.at_ x)) /\ Below w.heap.size w w' := by
 obtain ⟨c0,c1,c2,c3⟩ := h.cells;rw [hg.at_]
 by_cases hx : x = r.i
 · rw [if_pos hx];subst hx;clear h hg hm
   go_enter Tryz.func68,Tryz.ntmps68
   go_wp2
   go_ret2
   exact ⟨rfl,Below.refl _ _⟩
 · rw [if_neg hx];have q1 : (x == r.i) = false := beq_eq_false_iff_ne.2 hx;have q2 : (x = r.i) = False := eq_false hx;have hP := qdQ h hm hg x
   have h2 := fun w1 (hb : Below w.heap.size w w1) => h.below hb
   have hpk : ∀ k,r.place x = some k -> k < n := fun k e => by
    unfold RL.place at e;have := h.ents.1
    split at e
    · injection e with e;omega
    · cases e
   cases hp : r.place x with
   | none =>
     rw [hp] at hP;clear h hg hm hx hpk hp
     go_enter Tryz.func68,Tryz.ntmps68
     go_wp2_with fail
     refine hP.mono ?_;rintro e w1 ⟨rfl,hb1⟩;clear h2;go_wp2
     go_ret2
     exact ⟨rfl,hb1⟩
   | some k =>
     rw [hp] at hP;have hk := hpk k hp;have hll := h.ents.1
     have e1 : (Option.bind (some k) fun k => r.l[k]?.map Ent.t) = some (r.l[k]'(by omega)).t := by
      simp only [Option.bind_some,List.getElem?_eq_getElem (show k < r.l.length by omega),Option.map_some]
     rw [e1]
     have hk2 : (k : Int) < (n : Int) := by omega
     obtain ⟨a,ha⟩ := exq (r.l[k]'(by omega))
     have h3 : ∀ w1,Below w.heap.size w w1 -> ∃ g off E cc,A = some ⟨g,off,none⟩ /\ g < w1.heap.size /\ w1.cell? ⟨g,off + k * 3,none⟩ = some (.int .i64 a.i) /\ w1.cell? ⟨g,off + k * 3 + 1,none⟩ = some (.int .i64 a.t) /\ w1.cell? ⟨g,off + k * 3 + 2,none⟩ = some (.slice E a.d.length cc) := fun w1 hb => by
      obtain ⟨g,off,E,cc,e,hg,x0,x1,x2,_⟩ := (h2 w1 hb).ents.at_ k hk;rw [ha] at x0 x1;simp only [ha] at x2;exact ⟨g,off,E,cc,e,hg,x0,x1,x2⟩
     have h4 := fun w1 (hb : Below w.heap.size w w1) => (h2 w1 hb).cells
     rw [ha];clear h hg hm hx hpk hp e1 h2 hll ha
     go_enter Tryz.func68,Tryz.ntmps68
     go_wp2_with fail
     refine hP.mono ?_;rintro e w1 ⟨rfl,hb1⟩;obtain ⟨g,off,E,cc,rfl,hg,x0,x1,x2⟩ := h3 w1 hb1;obtain ⟨d0,d1,d2,d3⟩ := h4 w1 hb1;clear hP h3 h4;go_wp2
     go_ret2
     exact ⟨rfl,hb1⟩
theorem qhI {w : World} {p : Nat} {r : RL} {s : Nat} {A : Option Addr} {n c : Nat} (h : Rd w p r s A n c) (hm : n <= 1000000) (i t : Int) :
 Calls Tryz.prog 133 #[ptrV p, .int .i64 i, .int .i64 t] w fun e w' => e = .returned (.bool (r.newer i t)) /\ Below w.heap.size w w' := by
 have hL := qaZ h hm;unfold RL.newer;clear h hm;generalize r.lastI = li at *;generalize r.lastT = lt at *
 by_cases h1 : lt < t
 · rw [decide_eq_true h1,Bool.true_or]
   go_enter Tryz.func133,Tryz.ntmps133
   go_wp2_with fail
   refine hL.mono ?_;rintro e w1 ⟨rfl,hb1⟩;have hd : decide (lt < t) = true := decide_eq_true h1;go_wp2;go_ret;exact ⟨rfl,hb1⟩
 · rw [decide_eq_false h1,Bool.false_or];have h1' : (lt < t) = False := eq_false h1;have h1d : decide (lt < t) = false := decide_eq_false h1
   by_cases h2 : t = lt
   · subst h2;rw [decide_eq_true rfl,Bool.true_and];clear h1
     go_enter Tryz.func133,Tryz.ntmps133
     go_wp2_with fail
     refine hL.mono ?_;rintro e w1 ⟨rfl,hb1⟩;go_wp2;go_ret;exact ⟨rfl,hb1⟩
   · rw [decide_eq_false h2,Bool.false_and];have h2' : (t == lt) = false := beq_eq_false_iff_ne.2 h2;have h2'' : (t = lt) = False := eq_false h2;clear h1 h2
     go_enter Tryz.func133,Tryz.ntmps133
     go_wp2_with fail
     refine hL.mono ?_;rintro e w1 ⟨rfl,hb1⟩;go_wp2;go_ret;exact ⟨rfl,hb1⟩
end Go.Proofs.YtogbhedbgcmckaaGreat
set_option linter.unusedVariables false
set_option linter.unusedSimpArgs false
set_option maxRecDepth 100000
set_option maxHeartbeats 1600000
namespace Go.Proofs.YtogbhedbgcmckaaGreat
open Go.RowKit
theorem qex {T : TypeId} {w : World} {base : Nat} {A : Option Addr} {n cap : Nat} {l : List UInt8} (h : Owns T w base (.slice A n cap) l) : cap <= maxLen := by
 rcases h.2 with ⟨e,_⟩ | ⟨g,cp,cur,e,_,_,_,hcm,_⟩
 · injection e with _ _ e3; omega
 · injection e with _ _ e3; omega
theorem qcq (i t : Int) (A : Option Addr) (n c : Nat) (d : List UInt8) (w : World) (h : Lies w A n c d) (hb : n <= 140737488355328) :
 Calls Tryz.prog 103 #[.agg #[.int .i64 i, .int .i64 t, .slice A n c]] w fun e w' => ∃ E k,e = .returned (.agg #[.int .i64 i, .int .i64 t, .slice E n k]) /\ qs w' (fun q => w.heap.size + 2 <= q) ⟨⟨i,t,d⟩,E,k⟩ /\ (∀ q,blkR E q -> w.heap.size + 2 <= q) /\ Below w.heap.size w w' := by
 obtain rfl := h.1;have hA2 : Below w.heap.size w ((w.alloc (.cells #[.int .i64 i, .int .i64 t, .slice A d.length c] 117)).alloc (.cells #[.int .i64 0, .int .i64 0, .slice none 0 0] 117)) := ((Below.refl _ _).alloc (Nat.le_refl _) _).alloc (by simp) _;have hr1 : ((w.alloc (.cells #[.int .i64 i, .int .i64 t, .slice A d.length c] 117)).alloc (.cells #[.int .i64 0, .int .i64 0, .slice none 0 0] 117)).heap[w.heap.size]? = some (.cells #[.int .i64 i, .int .i64 t, .slice A d.length c] 117) := (Below.heap_alloc _ _ _ (by simp)).trans (heap_alloc_new _ _);have hr2 := heap_alloc2_new w (.cells #[.int .i64 i, .int .i64 t, .slice A d.length c] 117) (.cells #[.int .i64 0, .int .i64 0, .slice none 0 0] 117);have hC := qas A d.length c d _ (h.below hA2 (Nat.le_refl _)) (by omega);simp only [World.size_alloc] at hC;clear h hb
 go_enter Tryz.func103,Tryz.ntmps103
 go_wp2_with fail
 refine hC.mono ?_;rintro e w3 ⟨v,rfl,ho,hb3⟩
 have hb3' : Below ((w.alloc (.cells #[.int .i64 i, .int .i64 t, .slice A d.length c] 117)).alloc (.cells #[.int .i64 0, .int .i64 0, .slice none 0 0] 117)).heap.size ((w.alloc (.cells #[.int .i64 i, .int .i64 t, .slice A d.length c] 117)).alloc (.cells #[.int .i64 0, .int .i64 0, .slice none 0 0] 117)) w3 := by simpa using hb3
 have hs1 := (hb3'.block _ (hlt hr1)).trans hr1;have hs2 := (hb3'.block _ (hlt hr2)).trans hr2;have hbw := hA2.trans (hb3'.mono hA2.size);obtain ⟨E,k,rfl,hl,hE⟩ := qp ho;have hcap := qex ho;have hown := Owns.lt ho;obtain ⟨⟨a0,a1,a2⟩,⟨f0,f1,f2⟩⟩ := row3 hs1;obtain ⟨_,⟨g0,g1,g2⟩⟩ := row3 hs2
 have hne : w.heap.size + 1 ≠ w.heap.size := by omega
 have t1 := (Below.heap_setCell w3 ⟨w.heap.size,2,none⟩ (.slice E d.length k) (w.heap.size + 1) hne).trans hs2;have hfin := qN _ (w.heap.size + 1) (.int .i64 i) (.int .i64 t) (.slice E d.length k) _ _ _ _ t1;have t2 : Below w.heap.size w (w3.setCell ⟨w.heap.size,2,none⟩ (.slice E d.length k)) := hbw.setCell (Nat.le_refl _) _;have hbf := qcR t2 (w.heap.size + 1) (by omega) (.int .i64 i) (.int .i64 t) (.slice E d.length k)
 have hok : qs ((((w3.setCell ⟨w.heap.size,2,none⟩ (.slice E d.length k)).setCell ⟨w.heap.size + 1,0,none⟩ (.int .i64 i)).setCell ⟨w.heap.size + 1,1,none⟩ (.int .i64 t)).setCell ⟨w.heap.size + 1,2,none⟩ (.slice E d.length k)) (fun q => w.heap.size + 2 <= q) ⟨⟨i,t,d⟩,E,k⟩ := by
  have hz : ∀ q o,E = some ⟨q,o,none⟩ -> w.heap.size + 2 <= q := fun q o e => (hown q (hE q o e)).1
  refine ⟨Nat.le_refl _,?_,fun _ q o e => hz q o e⟩;show Lies _ E d.length k d;refine hl.keep (by simp) fun h0 q o e hq => ?_;have := hz q o e;exact (Below.heap_setCell _ _ _ _ (by show q ≠ w.heap.size + 1; omega)).trans ((Below.heap_setCell _ _ _ _ (by show q ≠ w.heap.size + 1; omega)).trans ((Below.heap_setCell _ _ _ _ (by show q ≠ w.heap.size + 1; omega)).trans (Below.heap_setCell _ _ _ _ (by show q ≠ w.heap.size; omega))))
 have HOK := Lib.hid hok;have HZ := Lib.hid (show ∀ q,blkR E q -> w.heap.size + 2 <= q from fun q ⟨o,e⟩ => (hown q (hE q o e)).1);clear hok hl hE hcap hown ho hb3 hb3' hs1 hs2 hr1 hr2 hA2 hC t1 t2 hbw;go_wp2;refine bodyPost_ret (qE (n := w.heap.size + 1) rfl rfl hfin Tryz.underlying117 rfl (by kernel_rfl)) rfl ?_;exact ⟨E,k,rfl,HOK.out,HZ.out,hbf⟩
end Go.Proofs.YtogbhedbgcmckaaGreat
set_option linter.unusedVariables false
set_option linter.unusedSimpArgs false
set_option maxRecDepth 100000
set_option maxHeartbeats 3200000
namespace Go.Proofs.YtogbhedbgcmckaaGreat
open Go.RowKit
structure qay (w W : World) (n k : Nat) (ys : List Lay) : Prop where
 row : ∃ cur : Array Value,W.heap[w.heap.size]? = some (.cells cur 117 (0,0)) /\ cur.size = n * 3 /\ ∀ (j : Nat) (u : Value),(rowOf ys)[j]? = some u -> cur[j]? = some u
 len : ys.length = k
 lays : ∀ y ∈ ys,qs W (fun q => w.heap.size < q) y
 below : Below w.heap.size w W
section
variable {w W W2 : World} {n k : Nat} {ys : List Lay}
theorem qay.step (h : qay w W n k ys) (hb : Below W.heap.size W W2) : qay w W2 n k ys := by
 obtain ⟨cur,h1,h2⟩ := h.row;exact ⟨⟨cur,(hb.block _ (hlt h1)).trans h1,h2⟩,h.len,fun y hy => (h.lays y hy).keep hb.size fun q hq _ => hb.block q hq,h.below.trans (hb.mono h.below.size)⟩
theorem qay.seen (h : qay w W n k ys) (hk : k < n) : ∃ u0 u1 u2,W.cell? ⟨w.heap.size,k * 3,none⟩ = some u0 /\ W.cell? ⟨w.heap.size,k * 3 + 1,none⟩ = some u1 /\ W.cell? ⟨w.heap.size,k * 3 + 2,none⟩ = some u2 ∧
 W.frozen? ⟨w.heap.size,k * 3,none⟩ = false /\ W.frozen? ⟨w.heap.size,k * 3 + 1,none⟩ = false /\ W.frozen? ⟨w.heap.size,k * 3 + 2,none⟩ = false := by
 obtain ⟨cur,h1,h2,_⟩ := h.row
 have hc : ∀ o,W.cell? ⟨w.heap.size,o,none⟩ = cur[o]? := fun o => cell_of_row W _ o cur _ _ h1
 have hf : ∀ o,W.frozen? ⟨w.heap.size,o,none⟩ = false := fun o => frozen_of_row W _ o cur _ h1
 exact ⟨cur[k * 3]'(by omega),cur[k * 3 + 1]'(by omega),cur[k * 3 + 2]'(by omega),by rw [hc,Array.getElem?_eq_getElem],by rw [hc,Array.getElem?_eq_getElem],by rw [hc,Array.getElem?_eq_getElem],hf _,hf _,hf _⟩
theorem qay.store (h : qay w W n k ys) (hk : k < n) (x : Lay) (hx : qs W (fun q => w.heap.size < q) x) :
 qay w (((W.setCell ⟨w.heap.size,k * 3,none⟩ (.int .i64 x.e.i)).setCell ⟨w.heap.size,k * 3 + 1,none⟩ (.int .i64 x.e.t)).setCell ⟨w.heap.size,k * 3 + 2,none⟩ (.slice x.A x.e.d.length x.c)) n (k + 1) (ys ++ [x]) := by
 obtain ⟨cur,h1,h2,h3⟩ := h.row;have e1 := setCell_at W ⟨w.heap.size,k * 3,none⟩ (.int .i64 x.e.i) cur _ _ rfl h1;have e2 := setCell_at _ ⟨w.heap.size,k * 3 + 1,none⟩ (.int .i64 x.e.t) _ _ _ rfl e1;have e3 := setCell_at _ ⟨w.heap.size,k * 3 + 2,none⟩ (.slice x.A x.e.d.length x.c) _ _ _ rfl e2
 have hoff : ∀ q,q ≠ w.heap.size -> (((W.setCell ⟨w.heap.size,k * 3,none⟩ (.int .i64 x.e.i)).setCell ⟨w.heap.size,k * 3 + 1,none⟩ (.int .i64 x.e.t)).setCell ⟨w.heap.size,k * 3 + 2,none⟩ (.slice x.A x.e.d.length x.c)).heap[q]? = W.heap[q]? := fun q hq =>
  (Below.heap_setCell _ _ _ _ (by exact hq)).trans ((Below.heap_setCell _ _ _ _ (by exact hq)).trans (Below.heap_setCell _ _ _ _ (by exact hq)))
 have hkeep : ∀ y,qs W (fun q => w.heap.size < q) y -> qs (((W.setCell ⟨w.heap.size,k * 3,none⟩ (.int .i64 x.e.i)).setCell ⟨w.heap.size,k * 3 + 1,none⟩ (.int .i64 x.e.t)).setCell ⟨w.heap.size,k * 3 + 2,none⟩ (.slice x.A x.e.d.length x.c)) (fun q => w.heap.size < q) y := fun y hy => hy.keep (by simp) fun q _ hq => hoff q (by omega);refine ⟨⟨_,e3,by simpa using h2,fun j u hu => ?_⟩,by rw [List.length_append,h.len]; rfl,fun y hy => ?_,((h.below.setCell (Nat.le_refl _) _).setCell (Nat.le_refl _) _).setCell (Nat.le_refl _) _⟩
 · have hl : (rowOf ys).length = k * 3 := by rw [qu,h.len]
   rw [qax] at hu;rcases Nat.lt_or_ge j (k * 3) with hj | hj
   · rw [List.getElem?_append_left (by omega)] at hu;rw [Array.getElem?_setIfInBounds_ne (by show k * 3 + 2 ≠ j; omega),Array.getElem?_setIfInBounds_ne (by show k * 3 + 1 ≠ j; omega),Array.getElem?_setIfInBounds_ne (by show k * 3 ≠ j; omega)];exact h3 j u hu
   · rw [List.getElem?_append_right (by omega),hl] at hu
     have e : rowOf [x] = [.int .i64 x.e.i, .int .i64 x.e.t, .slice x.A x.e.d.length x.c] := by simp [rowOf,cells3]
     rw [e] at hu
     have hj3 : j - k * 3 < 3 := by
      have := (List.getElem?_eq_some_iff.1 hu).1
      simpa using this
     have hc : j = k * 3 \/ j = k * 3 + 1 \/ j = k * 3 + 2 := by omega
     rcases hc with rfl | rfl | rfl
     · rw [show k * 3 - k * 3 = 0 by omega] at hu;rw [Array.getElem?_setIfInBounds_ne (by show k * 3 + 2 ≠ k * 3; omega),Array.getElem?_setIfInBounds_ne (by show k * 3 + 1 ≠ k * 3; omega),Array.getElem?_setIfInBounds_self];rw [if_pos (by show k * 3 < cur.size; omega)];exact hu
     · rw [show k * 3 + 1 - k * 3 = 1 by omega] at hu;rw [Array.getElem?_setIfInBounds_ne (by show k * 3 + 2 ≠ k * 3 + 1; omega),Array.getElem?_setIfInBounds_self];rw [if_pos (by simp; omega)];exact hu
     · rw [show k * 3 + 2 - k * 3 = 2 by omega] at hu;rw [Array.getElem?_setIfInBounds_self];rw [if_pos (by simp; omega)];exact hu
 · rcases List.mem_append.1 hy with hy | hy
   · exact hkeep y (h.lays y hy)
   · rw [List.mem_singleton.1 hy];exact hkeep x hx
theorem qay.spot (h : qay w W n n ys) (hn : n <= maxLen) : qL W (some ⟨w.heap.size,0,none⟩) n n ys := by
 obtain ⟨cur,h1,h2,h3⟩ := h.row
 exact ⟨h.len,Nat.le_refl _,hn,(fun e => by cases e),fun a e => by
  injection e with e;subst e
  exact ⟨_,0,cur,rfl,h1,by omega,fun j u hu => by rw [Nat.zero_add]; exact h3 j u hu⟩⟩
end
def Copies (w : World) (n : Nat) (ls : List Ent) (e : Ending) (w' : World) : Prop :=
 ∃ ys : List Lay,e = .returned (.slice (some ⟨w.heap.size,0,none⟩) n n) /\ qL w' (some ⟨w.heap.size,0,none⟩) n n ys /\ ys.map (·.e) = ls /\ (∀ y ∈ ys,qs w' (fun q => w.heap.size < q) y) /\ Below w.heap.size w w'
theorem qcr (Z : Nat -> Prop) (A : Option Addr) (n c : Nat) (ls : List Ent) (w : World) (h : Ents w Z A n c ls) (hm : n <= 1000000) (hd : ∀ e ∈ ls,e.d.length <= 140737488355328) :
 Calls Tryz.prog 116 #[.slice A n c] w (Copies w n ls) := by
 obtain ⟨i0,hi0,hz0,hz1,hz2⟩ := info_parts qa8
 have hmk : ∀ w1 : World,(Instr.makeSlice 22 (.int .i64 (n : Int)) (.int .i64 (n : Int))).run Tryz.prog w1 = .ok (.slice (some ⟨w1.heap.size,0,none⟩) n n) (w1.alloc (.cells (madeCells #[.int .i64 0, .int .i64 0, .slice none 0 0] (n * 3)) 117)) := fun w1 => by
  have := run_make (P := Tryz.prog) w1 22 117 i0 _ Tryz.underlying22 hi0 hz0 .i64 .i64 (n : Int) (n : Int) (by omega) (Int.le_refl _) (by rw [hz2]; omega) (by omega);rw [hz1] at this;exact this
 have h0 : qay w (w.alloc (.cells (madeCells #[.int .i64 0, .int .i64 0, .slice none 0 0] (n * 3)) 117)) n 0 [] :=
  ⟨⟨_,heap_alloc_new _ _,size_madeCells _ _,fun j u hu => by simp [rowOf] at hu⟩,rfl,fun y hy => by simp at hy,(Below.refl _ _).alloc (Nat.le_refl _) _⟩
 have hll := h.1;obtain ⟨xs,hxs,hok,hcell⟩ := h.lays
 have hxl : xs.length = n := by rw [<- hll,<- hxs,List.length_map]
 have hg0 : 0 < n -> ∃ g0 off0,A = some ⟨g0,off0,none⟩ /\ g0 < w.heap.size := fun h0 => by
  obtain ⟨g0,off0,e,hg,_⟩ := h.2.2.2 h0;exact ⟨g0,off0,e,hg⟩
 have hdx : ∀ x ∈ xs,x.e.d.length <= 140737488355328 := fun x hx => hd _ (by rw [<- hxs]; exact List.mem_map.2 ⟨x,hx,rfl⟩)
 have HXS := Lib.hid hxs;clear h hi0 hz0 hz1 hz2 hxs hd hll
 go_enter Tryz.func116,Tryz.ntmps116
 go_wp2
 go_loopg [4,5,11] n (fun g s4 s5 kk wr => ∃ (k : Nat) (ys : List Lay),k + g = n /\ kk = .int .i64 (k : Int) /\ qay w wr n k ys /\ ys.map (·.e) = (xs.take k).map (·.e))
 case atStart => exact ⟨0,[],by omega,rfl,h0,by simp⟩
 case round =>
  clear h0 hmk;obtain ⟨k,ys,hk,rfl,hcp,hmap⟩ := hrel;have HK := Lib.hid hk;have HMAP := Lib.hid hmap
  by_cases hkn : k < n
  · have hkn' : (k : Int) < (n : Int) := by omega
    obtain ⟨g0,off0,rfl,hgb⟩ := hg0 (by omega);obtain ⟨y0,y1,y2⟩ := qgQ (hcell _ rfl) k (by omega);have y0 := (hcp.below.cell (p := ⟨g0,off0 + k * 3,none⟩) hgb).trans y0;have y1 := (hcp.below.cell (p := ⟨g0,off0 + k * 3 + 1,none⟩) hgb).trans y1;have y2 := (hcp.below.cell (p := ⟨g0,off0 + k * 3 + 2,none⟩) hgb).trans y2;have hq := hok _ (List.getElem_mem (show k < xs.length by omega));have hqd := hdx _ (List.getElem_mem (show k < xs.length by omega));have hsn := List.take_succ_eq_append_getElem (show k < xs.length by omega);generalize (xs[k]'(by omega)) = q at *;have hlies := (hq.keep hcp.below.size fun z hz _ => hcp.below.block z hz).2.1;obtain ⟨⟨qi,qt,qd⟩,qA,qc⟩ := q;dsimp only at *;have hA2 := (Below.refl wr.heap.size wr).alloc (Nat.le_refl _) (.cells #[.int .i64 qi, .int .i64 qt, .slice qA qd.length qc] 117);have hC := qcq qi qt qA qd.length qc qd _ (hlies.below hA2 (Nat.le_refl _)) hqd;have hcp2 := hcp.step hA2;have hbs := hcp.below.size;have HSN := Lib.hid hsn;clear hcell hok hdx hq hqd hsn hlies hg0 hmap hk
    go_wp2_with fail
    refine hC.mono ?_;rintro e w3 ⟨E,k',rfl,hok3,_,hb3⟩;have hcp3 := hcp2.step hb3;obtain ⟨u0,u1,u2,d0,d1,d2,f0,f1,f2⟩ := hcp3.seen hkn;have hfin := hcp3.store hkn _ (hok3.mono fun z hz => by rw [World.size_alloc] at hz; omega);dsimp only at hfin;have HF := Lib.hid hfin;clear hcp hcp2 hcp3 hC hA2 hok3 hb3 hfin;go_wp2
    go_roundg (gk - 1)
    case measure => have : k + gk = n := HK; omega
    case rel => exact ⟨k + 1,ys ++ [⟨⟨qi,qt,qd⟩,E,k'⟩],by have : k + gk = n := HK; omega,by go_num,HF.out,by
     rw [show xs.take (k + 1) = xs.take k ++ [⟨⟨qi,qt,qd⟩,qA,qc⟩] from HSN,List.map_append,List.map_append,show ys.map (·.e) = (xs.take k).map (·.e) from HMAP]
     rfl⟩
  · obtain rfl : k = n := by omega
    have hdec : decide ((k : Int) < (k : Int)) = false := decide_eq_false (by omega)
    have hm' : k <= maxLen := by unfold maxLen; omega
    have HE := Lib.hid (show ys.map (·.e) = ls by rw [hmap,List.take_of_length_le (by omega)]; exact HXS);clear hcell hok hk hm hmap hdx hg0;go_wp2;go_ret;exact ⟨ys,rfl,hcp.spot hm',HE,hcp.lays,hcp.below⟩
end Go.Proofs.YtogbhedbgcmckaaGreat
