/- The program's placed, Right, RightHard, RightSnap, each by its contract. -/
import Derived.Test.YtogbhedbgcmckaaGreatNNM01
import Derived.StillTailTactics
import Derived.Lib.SliceRun
import Derived.Test.YtogbhedbgcmckaaGreatRows
import Derived.Laws.ResultCell
import Derived.Deep.LoopGhost
import Derived.Deep.RegionLaw
import Derived.Deep.RegionWith
import Derived.Laws.Rows
set_option linter.unusedVariables false
set_option linter.unusedSimpArgs false
set_option maxRecDepth 100000
set_option maxHeartbeats 200000
namespace Go.Proofs.YtogbhedbgcmckaaGreat
open Go.RowKit
def qby (i t : Int) : Bool := numB i && numB t
theorem qeI (i t : Int) (n : Nat) : rightB i t n = (qby i t && decide (n <= 12000)) := rfl
theorem qd7 (i t : Int) (w : World) : Calls Tryz.prog 114 #[.int .i64 i, .int .i64 t] w fun e w' => e = .returned (.bool (qby i t)) /\ w = w' := by
 unfold qby numB
 by_cases h1 : 1 <= i
 · rw [decide_eq_true h1,Bool.true_and]
   by_cases h2 : i <= 1099511627776
   · rw [decide_eq_true h2,Bool.true_and]
     by_cases h3 : 1 <= t
     · rw [decide_eq_true h3,Bool.true_and]
       go_enter Tryz.func114,Tryz.ntmps114
       go_wp2;go_ret;exact ⟨rfl,rfl⟩
     · have e1 : decide (1 <= t) = false := decide_eq_false h3;have e2 : (1 <= t) = False := eq_false h3;rw [e1,Bool.false_and];clear h3
       go_enter Tryz.func114,Tryz.ntmps114
       go_wp2;go_ret;exact ⟨rfl,rfl⟩
   · have e1 : decide (i <= 1099511627776) = false := decide_eq_false h2;have e2 : (i <= 1099511627776) = False := eq_false h2;rw [e1,Bool.false_and];clear h2
     go_enter Tryz.func114,Tryz.ntmps114
     go_wp2;go_ret;exact ⟨rfl,rfl⟩
 · have e1 : decide (1 <= i) = false := decide_eq_false h1;have e2 : (1 <= i) = False := eq_false h1;rw [e1,Bool.false_and,Bool.false_and];clear h1
   go_enter Tryz.func114,Tryz.ntmps114
   go_wp2;go_ret;exact ⟨rfl,rfl⟩
theorem qbf (i t : Int) (A : Option Addr) (n c : Nat) (w : World) : Calls Tryz.prog 102 #[entV i t A n c] w fun e w' => e = .returned (.bool (rightB i t n)) /\ Below w.heap.size w w' := by
 have hi := fun W => qd7 i t W
 have hb : Below w.heap.size w (w.alloc (.cells #[.int .i64 i, .int .i64 t, .slice A n c] 117)) := (Below.refl _ _).alloc (Nat.le_refl _) _;rw [qeI];generalize qby i t = bi at *
 cases bi with
 | false =>
   go_enter Tryz.func102,Tryz.ntmps102
   go_wp2_with fail
   refine (hi _).mono ?_;rintro e w1 ⟨rfl,rfl⟩;go_wp2;go_ret;exact ⟨rfl,hb⟩
 | true =>
   go_enter Tryz.func102,Tryz.ntmps102
   go_wp2_with fail
   refine (hi _).mono ?_;rintro e w1 ⟨rfl,rfl⟩;go_wp2;go_ret;refine ⟨?_,hb⟩;show Ending.returned (.bool (decide ((n : Int) <= 12000))) = _;rw [qe0 n 12000 12000 rfl]
   rfl
theorem qcg (t v : Int) (w : World) : Calls Tryz.prog 62 #[.agg #[.int .i64 t, .int .i64 v]] w fun e w' => e = .returned (.bool (hardB t v)) /\ Below w.heap.size w w' := by
 have hb : Below w.heap.size w (w.alloc (.cells #[.int .i64 t, .int .i64 v] 54)) := (Below.refl _ _).alloc (Nat.le_refl _) _;unfold hardB
 have hv : decide (v <= 2) = decide (v < 3) := by
  apply Bool.eq_iff_iff.2
  simp;omega
 rw [hv];clear hv
 by_cases h1 : 0 <= t
 · rw [decide_eq_true h1,Bool.true_and]
   by_cases h2 : t <= 1099511627776
   · rw [decide_eq_true h2,Bool.true_and]
     by_cases h3 : -1 <= v
     · rw [decide_eq_true h3,Bool.true_and]
       go_enter Tryz.func62,Tryz.ntmps62
       go_wp2;go_ret;exact ⟨rfl,hb⟩
     · have e1 : decide (-1 <= v) = false := decide_eq_false h3;have e2 : (-1 <= v) = False := eq_false h3;rw [e1,Bool.false_and];clear h3
       go_enter Tryz.func62,Tryz.ntmps62
       go_wp2;go_ret;exact ⟨rfl,hb⟩
   · have e1 : decide (t <= 1099511627776) = false := decide_eq_false h2;have e2 : (t <= 1099511627776) = False := eq_false h2;rw [e1,Bool.false_and];clear h2
     go_enter Tryz.func62,Tryz.ntmps62
     go_wp2;go_ret;exact ⟨rfl,hb⟩
 · have e1 : decide (0 <= t) = false := decide_eq_false h1;have e2 : (0 <= t) = False := eq_false h1;rw [e1,Bool.false_and];clear h1
   go_enter Tryz.func62,Tryz.ntmps62
   go_wp2;go_ret;exact ⟨rfl,hb⟩
theorem qe1 (i t : Int) (A : Option Addr) (n c : Nat) (w : World) : Calls Tryz.prog 63 #[entV i t A n c] w fun e w' => e = .returned (.bool (snapB i t n)) /\ Below w.heap.size w w' := by
 have hi := fun W => qd7 i t W
 have hb : Below w.heap.size w (w.alloc (.cells #[.int .i64 i, .int .i64 t, .slice A n c] 25)) := (Below.refl _ _).alloc (Nat.le_refl _) _;have hs : snapB i t n = if i = 0 /\ t = 0 then decide (n = 0) else qby i t && decide (n <= 50000) := rfl;rw [hs];clear hs
 by_cases h0 : i = 0 /\ t = 0
 · rw [if_pos h0];obtain ⟨rfl,rfl⟩ := h0;clear hi
   go_enter Tryz.func63,Tryz.ntmps63
   go_wp2;go_ret;refine ⟨?_,hb⟩;show Ending.returned (.bool ((n : Int) == 0)) = _;rw [qkw]
 · rw [if_neg h0];generalize qby i t = bi at *
   have hif : (i == 0) = false \/ (i = 0 /\ (t == 0) = false /\ (t = 0) = False) := by
    by_cases h : i = 0
    · refine .inr ⟨h,?_,eq_false fun e => h0 ⟨h,e⟩⟩
      exact beq_eq_false_iff_ne.2 fun e => h0 ⟨h,e⟩
    · exact .inl (beq_eq_false_iff_ne.2 h)
   clear h0;rcases hif with hif | ⟨rfl,htf,htf2⟩
   all_goals
    cases bi
    · go_enter Tryz.func63,Tryz.ntmps63
      go_wp2_with fail
      refine (hi _).mono ?_;rintro e w1 ⟨rfl,rfl⟩;go_wp2;go_ret;exact ⟨rfl,hb⟩
    · go_enter Tryz.func63,Tryz.ntmps63
      go_wp2_with fail
      refine (hi _).mono ?_;rintro e w1 ⟨rfl,rfl⟩;go_wp2;go_ret;refine ⟨?_,hb⟩;show Ending.returned (.bool (decide ((n : Int) <= 50000))) = _;rw [qe0 n 50000 50000 rfl]
      rfl
end Go.Proofs.YtogbhedbgcmckaaGreat
set_option linter.unusedVariables false
set_option linter.unusedSimpArgs false
set_option maxRecDepth 100000
set_option maxHeartbeats 200000
namespace Go.Proofs.YtogbhedbgcmckaaGreat
open Go.RowKit
theorem Owns.rebase {T : TypeId} {w : World} {base base' : Nat} {v : Value} {l : List UInt8} (h : Owns T w base v l) (hb : ∀ k,v.ownBlock = some k -> base' <= k) : Owns T w base' v l := by
 rcases h.2 with ⟨e,h0⟩ | ⟨g,cap,cur,e,hbg,r⟩
 · exact ⟨h.1, .inl ⟨e,h0⟩⟩
 · exact ⟨h.1, .inr ⟨g,cap,cur,e,hb g (by rw [e]; rfl),r⟩⟩
theorem qcZ (A : Option Addr) (n c n' c' : Nat) : (Value.slice A n c).ownBlock = (Value.slice A n' c').ownBlock := by cases A <;> rfl
theorem qas (A : Option Addr) (len cap : Nat) (l : List UInt8) (w : World) (h : Lies w A len cap l) (hb : l.length <= 140737488355328) :
 Calls Tryz.prog 77 #[.slice A len cap] w fun e w' => ∃ v,e = .returned v /\ Owns 5 w' w.heap.size v l /\ Below w.heap.size w w' := by
 have hq : ∀ (w : World) (a : Option Addr) (n c n' c' : Nat),(binOp .eql 23 (.slice a n c) (.slice none n' c')).run Tryz.prog w = .ok (.bool a.isNone) w := fun w a n c n' c' => Go.Lib.run_eql_slice_nil w _ _ a n c n' c' Tryz.underlying23
 obtain ⟨i0,hi0,hz0,hz1,hz2⟩ := info_parts qbx
 cases A with
 | none =>
   have := h.2.2.1 rfl;have h1 := h.1;have h2 := h.2.1;obtain rfl : l = [] := List.eq_nil_of_length_eq_zero (by omega);clear h hi0 hz0 hz1 hz2
   go_enter Tryz.func77,Tryz.ntmps77
   go_wp2;go_ret;exact ⟨_,rfl,Owns.nil _ _ _,Below.refl _ _⟩
 | some a =>
   go_enter Tryz.func77,Tryz.ntmps77
   go_wp2_with (at_builtin; refine qW _ rfl _ _ 23 rfl 5 i0 Tryz.underlying23 hi0 hz0 hz1 hz2 w.heap.size (by simp) (.slice (some ⟨w.heap.size,0,none⟩) 0 0) [] rfl (World.ownsRow_made _ #[] 0 (Nat.le_refl _) (Nat.zero_le _) rfl) (some a) len cap l rfl (h.below ((Below.refl _ _).alloc (Nat.le_refl _) _) (Nat.le_refl _)) (by simpa using hb) ?_)
   intro v1 w1 ho hg _;have hbw := ((Below.refl w.heap.size w).alloc (Nat.le_refl _) (.cells #[] 5)).grown hg (by simp) (fun k e => by injection e with e; have e' : w.heap.size = k := e; omega);clear hg h;go_wp2;go_ret;exact ⟨_,rfl,ho,hbw⟩
end Go.Proofs.YtogbhedbgcmckaaGreat
set_option linter.unusedVariables false
set_option linter.unusedSimpArgs false
set_option maxRecDepth 100000
set_option maxHeartbeats 200000
namespace Go.Proofs.YtogbhedbgcmckaaGreat
open Go.RowKit
section
variable {Z Z' : Nat → Prop} {w w' w'' : World}
end
section
set_option linter.unusedSectionVars false
variable {w w' : World} {A : Option Addr} {len cap : Nat} {l : List UInt8} {Z : Nat → Prop}
end
end Go.Proofs.YtogbhedbgcmckaaGreat
set_option linter.unusedVariables false
set_option linter.unusedSimpArgs false
set_option maxRecDepth 100000
set_option maxHeartbeats 200000
namespace Go.Proofs.YtogbhedbgcmckaaGreat
open Go.RowKit
structure qY (w : World) (o : Nat) (v : Value) (l : List UInt8) (Z : Nat -> Prop) : Prop where
 head : w.heap[o]? = some (.cells #[v, .bool false] 218)
 row : Owns 5 w 0 v l
 off : ∀ k,v.ownBlock = some k -> k ≠ o /\ ¬ Z k
 nz : ¬ Z o
 fits : l.length <= 60000
structure qaF (w : World) (o : Nat) (Z : Nat -> Prop) : Prop where
 head : w.heap[o]? = some (.cells #[.slice none 0 0, .bool true] 218)
 nz : ¬ Z o
def Out (w : World) (o : Nat) (l : List UInt8) (Z : Nat -> Prop) : Prop := (∃ v,qY w o v l Z) \/ (60000 < l.length /\ qaF w o Z)
section
variable {w w' : World} {o : Nat} {v v' : Value} {l new : List UInt8} {Z Z' : Nat → Prop}
theorem qY.keep (h : qY w o v l Z) (hs : w.heap.size <= w'.heap.size) (hk : ∀ k,k < w.heap.size -> ¬ Z k -> w'.heap[k]? = w.heap[k]?) : qY w' o v l Z := by
 exact ⟨(hk o (hlt h.head) h.nz).trans h.head,h.row.keep fun g e => hk g (h.row.lt g e).2 (h.off g e).2,h.off,h.nz,h.fits⟩
theorem qaF.keep (h : qaF w o Z) (hk : ∀ k,k < w.heap.size -> ¬ Z k -> w'.heap[k]? = w.heap[k]?) : qaF w' o Z := ⟨(hk o (hlt h.head) h.nz).trans h.head,h.nz⟩
theorem Out.keep (h : Out w o l Z) (hs : w.heap.size <= w'.heap.size) (hk : ∀ k,k < w.heap.size -> ¬ Z k -> w'.heap[k]? = w.heap[k]?) : Out w' o l Z := by
 rcases h with ⟨v,h⟩ | ⟨h0,h⟩
 · exact .inl ⟨v,h.keep hs hk⟩
 · exact .inr ⟨h0,h.keep hk⟩
theorem Out.below (h : Out w o l Z) {B : Nat} (hb : Below B w w') (hB : w.heap.size <= B) : Out w' o l Z := h.keep hb.size fun k hk _ => hb.block k (Nat.lt_of_lt_of_le hk hB)
theorem Out.grown (h : Out w o l Z) {row : Option Nat} (hg : w.grownBy w' row) (hr : ∀ k,row = some k -> Z k) : Out w' o l Z :=
 h.keep hg.size fun k hk hz => hg.block k hk fun e => hz (hr k e.symm)
theorem qY.lt (h : qY w o v l Z) : o < w.heap.size := hlt h.head
theorem Out.out (h : Out w o l Z) (hZ : ∀ k,Z' k -> Z k \/ w.heap.size <= k) : Out w o l Z' := by
 have nz : ∀ k,k < w.heap.size -> ¬ Z k -> ¬ Z' k := fun k hk hz hz' => by
  rcases hZ k hz' with h | h
  · exact hz h
  · omega
 rcases h with ⟨v,h⟩ | ⟨h0,h⟩
 · exact .inl ⟨v,h.head,h.row,fun k e => ⟨(h.off k e).1,nz k (h.row.lt k e).2 (h.off k e).2⟩,nz o (hlt h.head) h.nz,h.fits⟩
 · exact .inr ⟨h0,h.head,nz o (hlt h.head) h.nz⟩
theorem qY.put (h : qY w o v l Z) (hZ : ∀ k,Z k -> k < w.heap.size) (hr : Owns 5 w' 0 v' (l ++ new)) (hg : w.grownBy w' v.ownBlock) (hb : v'.ownBlock = v.ownBlock \/ v'.ownBlock = some w.heap.size)
 (hf : (l ++ new).length <= 60000) : qY (w'.setCell ⟨o,0,none⟩ v') o v' (l ++ new) Z /\ qa Z w (w'.setCell ⟨o,0,none⟩ v') := by
 have hlo := h.lt;have ho : w'.heap[o]? = some (.cells #[v, .bool false] 218) := (hg.block o hlo fun e => (h.off o e.symm).1 rfl).trans h.head
 have hoff : ∀ k,v'.ownBlock = some k -> k ≠ o /\ ¬ Z k := fun k e => by
  rcases hb with hb | hb
  · exact h.off k (hb ▸ e)
  · rw [hb] at e;injection e with e;subst e;exact ⟨by omega,fun hz => Nat.lt_irrefl _ (hZ _ hz)⟩
 exact ⟨⟨by rw [setCell_at _ ⟨o,0,none⟩ _ _ _ _ rfl ho]; rfl,hr.keep fun g e => Below.heap_setCell _ _ _ _ (hoff g e).1,hoff,h.nz,hf⟩,(qb4 hg fun k e => (h.off k e).2).trans (qg _ _ _ h.nz)⟩
end
theorem qY.puts {w : World} {o : Nat} {v : Value} {l : List UInt8} {Z : Nat -> Prop} (h : qY w o v l Z) {w0 : World} (hk : qa Z w0 w) (hZ : ∀ k,Z k -> k < w0.heap.size) (new : List UInt8) {w1 : World} {v1 : Value} (hr : Owns 5 w1 0 v1 (l ++ new)) (hg : w.grownBy w1 v.ownBlock)
 (hb : v1.ownBlock = v.ownBlock \/ v1.ownBlock = some w.heap.size) (hf : (l ++ new).length <= 60000) (N : Nat) (hN : (l ++ new).length = N) :
 ∃ A1 cap1,v1 = .slice A1 N cap1 /\ w1.cell? ⟨o,0,none⟩ = some v /\ w1.frozen? ⟨o,0,none⟩ = false /\ qY (w1.setCell ⟨o,0,none⟩ v1) o v1 (l ++ new) Z /\ qa Z w0 (w1.setCell ⟨o,0,none⟩ v1) := by
 have hput := h.put (fun i hi => Nat.lt_of_lt_of_le (hZ i hi) hk.size) hr hg hb hf;have ho2 : w1.heap[o]? = some (.cells #[v, .bool false] 218) := (hg.block o h.lt fun e => (h.off o e.symm).1 rfl).trans h.head;obtain ⟨A1,cap1,e,_⟩ := qp hr;rw [hN] at e;exact ⟨A1,cap1,e,by simp [World.cell?,ho2],by simp [World.frozen?,ho2],hput.1,hk.trans hput.2⟩
theorem qgI (w : World) (Z : Nat -> Prop) (hZ : ∀ k,Z k -> k < w.heap.size) : Out (w.alloc (.cells #[.slice none 0 0, .bool false] 218)) w.heap.size [] Z :=
 .inl ⟨.slice none 0 0,heap_alloc_new _ _,Owns.nil _ _ _,(fun k e => by cases e),fun hz => Nat.lt_irrefl _ (hZ _ hz),by simp⟩
theorem qd8 (n : Int) (w : World) (o : Nat) (Z : Nat -> Prop) (h : qaF w o Z) : Calls Tryz.prog 215 #[.pointer (some ⟨o,0,none⟩), .int .i64 n] w fun e w' => e = .returned (.bool false) /\ w = w' := by
 have f1 : w.cell? ⟨o,1,none⟩ = some (.bool true) := by simp [World.cell?,h.head]
 go_enter Tryz.func215,Tryz.ntmps215
 go_wp2;go_ret;exact ⟨rfl,rfl⟩
theorem qY.shape {w : World} {o : Nat} {v : Value} {l : List UInt8} {Z : Nat -> Prop} (h : qY w o v l Z) : ∃ A cap,v = .slice A l.length cap /\ Lies w A l.length cap l := by
 obtain ⟨A,cap,e,h1,_⟩ := qp h.row;exact ⟨A,cap,e,h1⟩
theorem qd9 (n : Nat) (w : World) (o : Nat) (v : Value) (l : List UInt8) (Z : Nat -> Prop) (h : qY w o v l Z) (hn : l.length + n <= 60000) :
 Calls Tryz.prog 215 #[.pointer (some ⟨o,0,none⟩), .int .i64 (n : Int)] w fun e w' => e = .returned (.bool true) /\ w = w' := by
 obtain ⟨A,cap,rfl,_⟩ := h.shape;have hf := h.fits
 have f0 : w.cell? ⟨o,0,none⟩ = some (.slice A l.length cap) := by simp [World.cell?,h.head]
 have f1 : w.cell? ⟨o,1,none⟩ = some (.bool false) := by simp [World.cell?,h.head]
 have hw : IntKind.i64.wrap (60000 - (l.length : Int)) = 60000 - (l.length : Int) := IntWalk.i64_in _ (by omega)
 have hle : ¬ (60000 - (l.length : Int) < (n : Int)) := by omega
 go_enter Tryz.func215,Tryz.ntmps215
 go_wp2;go_ret;exact ⟨rfl,rfl⟩
theorem qea (n : Nat) (w : World) (o : Nat) (v : Value) (l : List UInt8) (Z : Nat -> Prop) (h : qY w o v l Z) (hn : 60000 < l.length + n) :
 Calls Tryz.prog 215 #[.pointer (some ⟨o,0,none⟩), .int .i64 (n : Int)] w fun e w' => e = .returned (.bool false) /\ qaF w' o Z /\ qa Z w w' := by
 obtain ⟨A,cap,rfl,_⟩ := h.shape;have hf := h.fits
 have f0 : w.cell? ⟨o,0,none⟩ = some (.slice A l.length cap) := by simp [World.cell?,h.head]
 have f1 : w.cell? ⟨o,1,none⟩ = some (.bool false) := by simp [World.cell?,h.head]
 have g0 : w.frozen? ⟨o,0,none⟩ = false := by simp [World.frozen?,h.head]
 have g1 : w.frozen? ⟨o,1,none⟩ = false := by simp [World.frozen?,h.head]
 have hw : IntKind.i64.wrap (60000 - (l.length : Int)) = 60000 - (l.length : Int) := IntWalk.i64_in _ (by omega)
 have hle : (60000 - (l.length : Int) < (n : Int)) := by omega
 have hend : qaF ((w.setCell ⟨o,0,none⟩ (.slice none 0 0)).setCell ⟨o,1,none⟩ (.bool true)) o Z := ⟨by
  rw [setCell_at _ ⟨o,1,none⟩ _ _ _ _ rfl (setCell_at _ ⟨o,0,none⟩ _ _ _ _ rfl h.head)]
  rfl,h.nz⟩
 have hk : qa Z w ((w.setCell ⟨o,0,none⟩ (.slice none 0 0)).setCell ⟨o,1,none⟩ (.bool true)) := (qg _ _ _ h.nz).trans (qg _ _ _ h.nz)
 go_enter Tryz.func215,Tryz.ntmps215
 go_wp2
 all_goals
  go_ret;exact ⟨rfl,hend,hk⟩
end Go.Proofs.YtogbhedbgcmckaaGreat
set_option linter.unusedVariables false
set_option linter.unusedSimpArgs false
set_option maxRecDepth 100000
set_option maxHeartbeats 6400000
namespace Go.Proofs.YtogbhedbgcmckaaGreat
open Go.RowKit
theorem byte_of (v : Int) (k : Nat) (h : 0 <= v) : v / 2 ^ (8 * k) % 256 = ((UInt8.ofNat (v.toNat / 256 ^ k)).toNat : Int) := by
 obtain ⟨n,rfl⟩ := Int.eq_ofNat_of_zero_le h
 have e : (2 : Nat) ^ (8 * k) = 256 ^ k := by rw [Nat.pow_mul]
 have e' : (2 : Int) ^ (8 * k) = ((256 ^ k : Nat) : Int) := by rw [<- e]; simp
 rw [e'];simp
theorem qju (v : Int) (k : Nat) (h : 0 <= v) : IntKind.u8.wrap (v / 2 ^ (8 * (k : Int)).toNat) = ((UInt8.ofNat (v.toNat / 256 ^ k)).toNat : Int) := by
 rw [<- byte_of v k h]
 have : (8 * (k : Int)).toNat = 8 * k := by omega
 rw [this]
 simp [IntKind.wrap,IntKind.bits,IntKind.signed]
theorem qf7 (v : Int) (n : Nat) (hv : 0 <= v /\ v < 18446744073709551616) (hn : n <= 8) (w : World) (o : Nat) (s : Value) (l : List UInt8) (Z : Nat -> Prop) (h : qY w o s l Z) (hZ : ∀ k,Z k -> k < w.heap.size) (hf : l.length + n <= 60000) :
 Calls Tryz.prog 187 #[.pointer (some ⟨o,0,none⟩), .int .u64 v, .int .i64 (n : Int)] w fun e w' => e = .returned (.tuple #[]) /\ (∃ s',qY w' o s' (l ++ wide v.toNat n) Z) /\ qa Z w w' := by
 obtain ⟨i0,hi0,hz0,hz1,hz2⟩ := info_parts qbx;have e1 : IntKind.i64.wrap ((n : Int) - 1) = (n : Int) - 1 := IntWalk.i64_in _ (by omega)
 have nb : (n : Int) <= 8 := by omega
 go_enter Tryz.func187,Tryz.ntmps187
 go_wp2_with (go_at_call 215; refine (qd9 n _ _ _ _ _ h hf).mono ?_; rintro e w1 ⟨rfl,rfl⟩)
 go_loopg [6] n (fun g x wr => ∃ (done : List UInt8) (s' : Value),x = .int .i64 ((g : Int) - 1) /\ g <= n /\ done ++ wide v.toNat g = wide v.toNat n /\ qY wr o s' (l ++ done) Z /\ qa Z w wr)
 case atStart => exact ⟨[],s,rfl,Nat.le_refl _,rfl,by simpa using h,qa.refl _ _⟩
 case round =>
  obtain ⟨done,s',rfl,hg,hd,ho,hk⟩ := hrel
  cases gk with
  | zero =>
    go_wp2;refine bodyPost_end (results_none rfl _ _ _) rfl ?_;rw [show done = wide v.toNat n by simpa [wide] using hd] at ho;exact ⟨rfl,⟨_,ho⟩,hk⟩
  | succ k =>
    rw [show ((k + 1 : Nat) : Int) - 1 = (k : Int) by omega];obtain ⟨A,cap,rfl,hlies⟩ := ho.shape
    have f0 : wr.cell? ⟨o,0,none⟩ = some (.slice A (l ++ done).length cap) := by simp [World.cell?,ho.head]
    have e2 : IntKind.i64.wrap (8 * (k : Int)) = 8 * (k : Int) := IntWalk.i64_in _ (by omega)
    have kb : (k : Int) <= 7 := by omega
    have hlen : (l ++ done).length = l.length + done.length := List.length_append;rw [hlen] at f0;have hlo := ho.lt
    have z0 : wr.frozen? ⟨o,0,none⟩ = false := by simp [World.frozen?,ho.head]
    have hZ0 : ∀ z : Int,qY (wr.alloc (.cells #[.int .u8 z] 5)).drew o (.slice A (l.length + done.length) cap) (l ++ done) Z := fun z => by
     have := (ho.keep (w' := (wr.alloc (.cells #[.int .u8 z] 5)).drew) (by simp) (fun i hi _ => Below.heap_alloc _ _ _ hi))
     rwa [hlen] at this
    have hk1 : ∀ z : Int,qa Z w (wr.alloc (.cells #[.int .u8 z] 5)).drew := fun z => (hk.trans (qv wr (.cells #[.int .u8 z] 5))).drew
    have hl : (l ++ done).length + (k + 1) = l.length + n := by have := congrArg List.length hd; simp at this; simp; omega
    have hl1 : (l ++ done ++ [UInt8.ofNat (v.toNat / 256 ^ k)]).length <= 60000 := by rw [List.length_append]; simp only [List.length_singleton]; omega
    have hl2 : (l ++ done ++ [UInt8.ofNat (v.toNat / 256 ^ k)]).length <= 140737488355328 := by omega
    go_wp2
    go_region_law
     ((refine qbl _ (by rfl) _ _ 23 (by rfl) 5 i0 Tryz.underlying23 hi0 hz0 hz1 hz2 0 (Nat.zero_le _) (.slice A (l.length + done.length) cap) (l ++ done) (by rfl) (hZ0 _).row (some ⟨wr.heap.size,0,none⟩) 1 1 [UInt8.ofNat (v.toNat / 256 ^ k)] (by rfl) (Lies.lit _ _ _ _ (qju v k hv.1)).drew hl2 ?_
       intro v1 w1 hr hg hb;obtain ⟨A1,cap1,rfl,c0,c1,hput1,hput2⟩ := (hZ0 _).puts (hk1 _) hZ [UInt8.ofNat (v.toNat / 256 ^ k)] hr hg hb hl1 (l.length + (done.length + 1)) (by simp)
       clear hr hg hb))
    all_goals
     go_wp2
     go_roundg k
     case measure => omega
     case rel =>
      refine ⟨done ++ [UInt8.ofNat (v.toNat / 256 ^ k)],_,by go_num,by omega,by rw [<- hd,wide,List.append_assoc]; rfl,by rw [<- List.append_assoc]; exact hput1,hput2⟩
theorem qf8 (v : Int) (n : Nat) (w : World) (o : Nat) (s : Value) (l : List UInt8) (Z : Nat -> Prop) (h : qY w o s l Z) (hf : 60000 < l.length + n) :
 Calls Tryz.prog 187 #[.pointer (some ⟨o,0,none⟩), .int .u64 v, .int .i64 (n : Int)] w fun e w' => e = .returned (.tuple #[]) /\ qaF w' o Z /\ qa Z w w' := by
 go_enter Tryz.func187,Tryz.ntmps187
 go_wp2_with (go_at_call 215; refine (qea n _ _ _ _ _ h hf).mono ?_; rintro e w1 ⟨rfl,h1,h2⟩)
 refine bodyPost_ret (results_none rfl _ _ _) rfl ?_;exact ⟨rfl,h1,h2⟩
theorem qf9 (v n : Int) (w : World) (o : Nat) (Z : Nat -> Prop) (h : qaF w o Z) :
 Calls Tryz.prog 187 #[.pointer (some ⟨o,0,none⟩), .int .u64 v, .int .i64 n] w fun e w' => e = .returned (.tuple #[]) /\ w = w' := by
 go_enter Tryz.func187,Tryz.ntmps187
 go_wp2_with (go_at_call 215; refine (qd8 n _ _ _ h).mono ?_; rintro e w1 ⟨rfl,rfl⟩)
 refine bodyPost_ret (results_none rfl _ _ _) rfl ?_;exact ⟨rfl,rfl⟩
theorem qch (v : Int) (n : Nat) (hv : 0 <= v /\ v < 18446744073709551616) (hn : n <= 8) (w : World) (o : Nat) (l : List UInt8) (Z : Nat -> Prop) (h : Out w o l Z) (hZ : ∀ k,Z k -> k < w.heap.size) :
 Calls Tryz.prog 187 #[.pointer (some ⟨o,0,none⟩), .int .u64 v, .int .i64 (n : Int)] w fun e w' => e = .returned (.tuple #[]) /\ Out w' o (l ++ wide v.toNat n) Z /\ qa Z w w' := by
 rcases h with ⟨s,h⟩ | ⟨h0,h⟩
 · by_cases hf : l.length + n <= 60000
   · exact (qf7 v n hv hn w o s l Z h hZ hf).mono fun e w' ⟨h1,h2,h3⟩ => ⟨h1, .inl h2,h3⟩
   · exact (qf8 v n w o s l Z h (by omega)).mono fun e w' ⟨h1,h2,h3⟩ => ⟨h1, .inr ⟨by simp; omega,h2⟩,h3⟩
 · refine (qf9 v n w o Z h).mono ?_;rintro e w' ⟨h1,rfl⟩;exact ⟨h1, .inr ⟨by simp; omega,h⟩,qa.refl _ _⟩
theorem qe2 (v : Int) (hv : 0 <= v /\ v < 256) (w : World) (o : Nat) (l : List UInt8) (Z : Nat -> Prop) (h : Out w o l Z) (hZ : ∀ k,Z k -> k < w.heap.size) :
 Calls Tryz.prog 154 #[.pointer (some ⟨o,0,none⟩), .int .u8 v] w fun e w' => e = .returned (.tuple #[]) /\ Out w' o (l ++ [UInt8.ofNat v.toNat]) Z /\ qa Z w w' := by
 have e1 : IntKind.u64.wrap v = v := IntWalk.u64_in _ (by omega);have hc := qch v 1 (by omega) (by omega) w o l Z h hZ
 go_enter Tryz.func154,Tryz.ntmps154
 go_wp2_with (go_at_call 187; refine hc.mono ?_; rintro e w1 ⟨rfl,h1,h2⟩)
 refine bodyPost_end (results_none rfl _ _ _) rfl ?_;exact ⟨rfl,by simpa [wide] using h1,h2⟩
theorem count_any (n u : Int) (hu : IntKind.u64.wrap n = u) (w : World) (o : Nat) (l : List UInt8) (Z : Nat -> Prop) (h : Out w o l Z) (hZ : ∀ k,Z k -> k < w.heap.size) :
 Calls Tryz.prog 226 #[.pointer (some ⟨o,0,none⟩), .int .i64 n] w fun e w' => e = .returned (.tuple #[]) /\ Out w' o (l ++ wide u.toNat 4) Z /\ qa Z w w' := by
 have hu' := hu;rw [IntKind.wrap_u64] at hu';have hc := qch u 4 (by omega) (by omega) w o l Z h hZ;clear hu'
 go_enter Tryz.func226,Tryz.ntmps226
 go_wp2_with (go_at_call 187; refine hc.mono ?_; rintro e w1 ⟨rfl,h1,h2⟩)
 refine bodyPost_end (results_none rfl _ _ _) rfl ?_;exact ⟨rfl,h1,h2⟩
theorem qbz (n u : Int) (hu : IntKind.u64.wrap n = u) (w : World) (o : Nat) (l : List UInt8) (Z : Nat -> Prop) (h : Out w o l Z) (hZ : ∀ k,Z k -> k < w.heap.size) :
 Calls Tryz.prog 188 #[.pointer (some ⟨o,0,none⟩), .int .i64 n] w fun e w' => e = .returned (.tuple #[]) /\ Out w' o (l ++ wide u.toNat 8) Z /\ qa Z w w' := by
 have hu' := hu;rw [IntKind.wrap_u64] at hu';have hc := qch u 8 (by omega) (by omega) w o l Z h hZ;clear hu'
 go_enter Tryz.func188,Tryz.ntmps188
 go_wp2_with (go_at_call 187; refine hc.mono ?_; rintro e w1 ⟨rfl,h1,h2⟩)
 refine bodyPost_end (results_none rfl _ _ _) rfl ?_;exact ⟨rfl,h1,h2⟩
end Go.Proofs.YtogbhedbgcmckaaGreat
set_option linter.unusedVariables false
set_option linter.unusedSimpArgs false
set_option maxRecDepth 100000
set_option maxHeartbeats 200000
namespace Go.Proofs.YtogbhedbgcmckaaGreat
open Go.RowKit
def textOf (l : List UInt8) : List UInt8 := wide l.length 4 ++ l
theorem qh4 (A0 : Option Addr) (len0 cap0 : Nat) (s : List UInt8) (hs : len0 <= 1099511627776) (w : World) (o : Nat) (l : List UInt8) (Z : Nat -> Prop) (h : Out w o l Z) (hZ : ∀ k,Z k -> k < w.heap.size)
 (hx : Lies w A0 len0 cap0 s) (hxz : 0 < len0 -> ∀ g off,A0 = some ⟨g,off,none⟩ -> Z g) :
 Calls Tryz.prog 216 #[.pointer (some ⟨o,0,none⟩), .slice A0 len0 cap0] w fun e w' => e = .returned (.tuple #[]) /\ Out w' o (l ++ textOf s) Z /\ qa Z w w' := by
 obtain ⟨i0,hi0,hz0,hz1,hz2⟩ := info_parts qbx;have hC := count_any (len0 : Int) (len0 : Int) (IntWalk.u64_in _ (by omega)) w o l Z h hZ;have hsz : s.length = len0 := hx.1
 have hto : l ++ wide (len0 : Int).toNat 4 ++ s = l ++ textOf s := by simp [textOf,hsz]
 go_enter Tryz.func216,Tryz.ntmps216
 go_wp2_with (go_at_call 226; refine hC.mono ?_; rintro e w1 ⟨rfl,h1,k1⟩)
 replace hx := hx.keeps k1 hxz
 generalize hL : l ++ wide (len0 : Int).toNat 4 = L at h1 hto;rcases h1 with ⟨v,h1⟩ | ⟨h0,h1⟩
 · by_cases hf : L.length + len0 <= 60000
   · obtain ⟨A,cap,rfl,hlies⟩ := h1.shape
     have f0 : w1.cell? ⟨o,0,none⟩ = some (.slice A L.length cap) := by simp [World.cell?,h1.head]
     have hl1 : (L ++ s).length <= 60000 := by rw [List.length_append,hsz]; exact hf
     go_wp2_with (first
      | (go_at_call 215; refine (qd9 len0 _ _ _ _ _ h1 hf).mono ?_; rintro e w2 ⟨rfl,rfl⟩)
      | (at_builtin; refine qW _ rfl _ _ 23 rfl 5 i0 Tryz.underlying23 hi0 hz0 hz1 hz2 0 (Nat.zero_le _) (.slice A L.length cap) L rfl h1.row A0 len0 cap0 s rfl hx (by omega) ?_))
     intro v1 w2 hr hg hb;rw [<- hto] at hr;obtain ⟨A1,cap1,rfl,c0,c1,hput1,hput2⟩ := h1.puts k1 hZ s hr hg hb hl1 (L.length + len0) (by rw [List.length_append,hsz]);clear hr hg hb f0 hlies;go_wp2;refine bodyPost_end (results_none rfl _ _ _) rfl ?_;rw [hto] at hput1;exact ⟨rfl, .inl ⟨_,hput1⟩,hput2⟩
   · go_wp2_with (go_at_call 215; refine (qea len0 _ _ _ _ _ h1 (by omega)).mono ?_; rintro e w2 ⟨rfl,h2,k2⟩)
     refine bodyPost_end (results_none rfl _ _ _) rfl ?_;exact ⟨rfl, .inr ⟨by rw [<- hto,List.length_append]; omega,h2⟩,k1.trans k2⟩
 · go_wp2_with (go_at_call 215; refine (qd8 _ _ _ _ h1).mono ?_; rintro e w2 ⟨rfl,rfl⟩)
   refine bodyPost_end (results_none rfl _ _ _) rfl ?_;exact ⟨rfl, .inr ⟨by rw [<- hto,List.length_append]; omega,h1⟩,k1⟩
theorem qjv (w : World) (o : Nat) (l : List UInt8) (Z : Nat -> Prop) (h : Out w o l Z) (hl : l.length <= 60000) :
 Calls Tryz.prog 189 #[.pointer (some ⟨o,0,none⟩)] w fun e w' => ∃ A cap,e = .returned (.tuple #[.slice A l.length cap, .int .i64 0]) /\ Lies w' A l.length cap l /\ Owns 5 w' w.heap.size (.slice A l.length cap) l /\ Below w.heap.size w w' := by
 rcases h with ⟨v,h⟩ | ⟨h0,h⟩
 · obtain ⟨A,cap,rfl,hlies⟩ := h.shape
   have f0 : w.cell? ⟨o,0,none⟩ = some (.slice A l.length cap) := by simp [World.cell?,h.head]
   have f1 : w.cell? ⟨o,1,none⟩ = some (.bool false) := by simp [World.cell?,h.head]
   have hC := qas A l.length cap l w hlies (by omega);clear hlies h
   go_enter Tryz.func189,Tryz.ntmps189
   go_wp2_with (go_at_call 77; refine hC.mono ?_; rintro e w1 ⟨v1,rfl,ho,hb⟩)
   go_ret2
   obtain ⟨A1,cap1,rfl,hl1,_⟩ := qp ho;exact ⟨A1,cap1,rfl,hl1,ho,hb⟩
 · omega
end Go.Proofs.YtogbhedbgcmckaaGreat
set_option linter.unusedVariables false
set_option linter.unusedSimpArgs false
set_option maxRecDepth 100000
set_option maxHeartbeats 200000
namespace Go.Proofs.YtogbhedbgcmckaaGreat
open Go.RowKit
theorem Owns.lit {T : TypeId} (w : World) (z : Int) (b : UInt8) (h : z = (b.toNat : Int)) : Owns T (w.alloc (.cells #[.int .u8 z] T)) w.heap.size (.slice (some ⟨w.heap.size,0,none⟩) 1 1) [b] := by
 subst h;exact World.ownsRow_lit w #[u8 b] 1 (Nat.le_refl _) (by unfold maxLen; omega) rfl
end Go.Proofs.YtogbhedbgcmckaaGreat
set_option linter.unusedVariables false
set_option linter.unusedSimpArgs false
set_option maxRecDepth 100000
set_option maxHeartbeats 200000
namespace Go.Proofs.YtogbhedbgcmckaaGreat
open Go.RowKit
def num8 (n : Int) : List UInt8 := wide (IntKind.u64.wrap n).toNat 8
def qaw (i t : Int) (d : List UInt8) : List UInt8 := num8 i ++ (num8 t ++ textOf d)
end Go.Proofs.YtogbhedbgcmckaaGreat
set_option linter.unusedVariables false
set_option linter.unusedSimpArgs false
set_option maxRecDepth 100000
set_option maxHeartbeats 200000
namespace Go.Proofs.YtogbhedbgcmckaaGreat
open Go.RowKit
section
variable {P : Program} {fn : Func} {p q u : Tmp} {T : TypeId} {W : World} {n : Nat} {cs : Array Value} {fr : Nat × Nat} {d : TypeDesc} {tmps : Array Value}
theorem qE (h : fn.results = #[.cell p T]) (h1 : tmps.getD p undef = .pointer (some ⟨n,0,none⟩)) (hW : W.heap[n]? = some (.cells cs T fr)) (hu : P.underlying T = some d)
 (hd : (match d with | .struct _ | .array _ _ => true | _ => false) = true) (hi : (P.info? T).map (·.size) = some cs.size) : (results fn tmps).run P W = .ok (.agg cs) W :=
 results_cell_row h tmps W n T cs fr d h1 hW hu hd hi
theorem qm (h : fn.results = #[.cell p T, .tmp u]) (h1 : tmps.getD p undef = .pointer (some ⟨n,0,none⟩)) (hW : W.heap[n]? = some (.cells cs T fr)) (hu : P.underlying T = some d)
 (hd : (match d with | .struct _ | .array _ _ => true | _ => false) = true) (hi : (P.info? T).map (·.size) = some cs.size) : (results fn tmps).run P W = .ok (.tuple #[.agg cs,tmps.getD u undef]) W := by
 rw [results_cell_tmp h,h1]
 simp [asAddr,run_loadVar_row W n T T cs fr d hW hu hd hi]
theorem qci (h : fn.results = #[.tmp u, .cell p T, .tmp q]) (tmps : Array Value) (P : Program) (w : World) :
 (results fn tmps).run P w =
   ((asAddr (tmps.getD p undef)).run P w).andThen fun a w₁ => ((loadVar T a).run P w₁).andThen fun v w₂ => .ok (.tuple #[tmps.getD u undef,v,tmps.getD q undef]) w₂ := by
 simp only [results,h]
 simp [Sem.run_bind,Result.andThen]
theorem qaP (h : fn.results = #[.tmp u, .cell p T, .tmp q]) (h1 : tmps.getD p undef = .pointer (some ⟨n,0,none⟩)) (hW : W.heap[n]? = some (.cells cs T fr)) (hu : P.underlying T = some d)
 (hd : (match d with | .struct _ | .array _ _ => true | _ => false) = true) (hi : (P.info? T).map (·.size) = some cs.size) : (results fn tmps).run P W = .ok (.tuple #[tmps.getD u undef, .agg cs,tmps.getD q undef]) W := by
 rw [qci h,h1]
 simp [asAddr,run_loadVar_row W n T T cs fr d hW hu hd hi]
end
theorem row2 {w : World} {g : Nat} {v0 v1 : Value} {T : TypeId} (h : w.heap[g]? = some (.cells #[v0,v1] T)) : (w.cell? ⟨g,0,none⟩ = some v0 /\ w.cell? ⟨g,1,none⟩ = some v1) /\ (w.frozen? ⟨g,0,none⟩ = false /\ w.frozen? ⟨g,1,none⟩ = false) := by
 refine ⟨⟨?_,?_⟩,⟨?_,?_⟩⟩ <;> simp [World.cell?,World.frozen?,h]
theorem row3 {w : World} {g : Nat} {v0 v1 v2 : Value} {T : TypeId} (h : w.heap[g]? = some (.cells #[v0,v1,v2] T)) : (w.cell? ⟨g,0,none⟩ = some v0 /\ w.cell? ⟨g,1,none⟩ = some v1 /\ w.cell? ⟨g,2,none⟩ = some v2) /\ (w.frozen? ⟨g,0,none⟩ = false /\ w.frozen? ⟨g,1,none⟩ = false /\ w.frozen? ⟨g,2,none⟩ = false) := by
 refine ⟨⟨?_,?_,?_⟩,⟨?_,?_,?_⟩⟩ <;> simp [World.cell?,World.frozen?,h]
theorem row4 {w : World} {g : Nat} {v0 v1 v2 v3 : Value} {T : TypeId} (h : w.heap[g]? = some (.cells #[v0,v1,v2,v3] T)) : (w.cell? ⟨g,0,none⟩ = some v0 /\ w.cell? ⟨g,1,none⟩ = some v1 /\ w.cell? ⟨g,2,none⟩ = some v2 /\ w.cell? ⟨g,3,none⟩ = some v3) /\ (w.frozen? ⟨g,0,none⟩ = false /\ w.frozen? ⟨g,1,none⟩ = false /\ w.frozen? ⟨g,2,none⟩ = false /\ w.frozen? ⟨g,3,none⟩ = false) := by
 refine ⟨⟨?_,?_,?_,?_⟩,⟨?_,?_,?_,?_⟩⟩ <;> simp [World.cell?,World.frozen?,h]
theorem row5 {w : World} {g : Nat} {v0 v1 v2 v3 v4 : Value} {T : TypeId} (h : w.heap[g]? = some (.cells #[v0,v1,v2,v3,v4] T)) : (w.cell? ⟨g,0,none⟩ = some v0 /\ w.cell? ⟨g,1,none⟩ = some v1 /\ w.cell? ⟨g,2,none⟩ = some v2 /\ w.cell? ⟨g,3,none⟩ = some v3 /\ w.cell? ⟨g,4,none⟩ = some v4) /\ (w.frozen? ⟨g,0,none⟩ = false /\ w.frozen? ⟨g,1,none⟩ = false /\ w.frozen? ⟨g,2,none⟩ = false /\ w.frozen? ⟨g,3,none⟩ = false /\ w.frozen? ⟨g,4,none⟩ = false) := by
 refine ⟨⟨?_,?_,?_,?_,?_⟩,⟨?_,?_,?_,?_,?_⟩⟩ <;> simp [World.cell?,World.frozen?,h]
theorem row6 {w : World} {g : Nat} {v0 v1 v2 v3 v4 v5 : Value} {T : TypeId} (h : w.heap[g]? = some (.cells #[v0,v1,v2,v3,v4,v5] T)) : (w.cell? ⟨g,0,none⟩ = some v0 /\ w.cell? ⟨g,1,none⟩ = some v1 /\ w.cell? ⟨g,2,none⟩ = some v2 /\ w.cell? ⟨g,3,none⟩ = some v3 /\ w.cell? ⟨g,4,none⟩ = some v4 /\ w.cell? ⟨g,5,none⟩ = some v5) /\ (w.frozen? ⟨g,0,none⟩ = false /\ w.frozen? ⟨g,1,none⟩ = false /\ w.frozen? ⟨g,2,none⟩ = false /\ w.frozen? ⟨g,3,none⟩ = false /\ w.frozen? ⟨g,4,none⟩ = false /\ w.frozen? ⟨g,5,none⟩ = false) := by
 refine ⟨⟨?_,?_,?_,?_,?_,?_⟩,⟨?_,?_,?_,?_,?_,?_⟩⟩ <;> simp [World.cell?,World.frozen?,h]
theorem row8 {w : World} {g : Nat} {v0 v1 v2 v3 v4 v5 v6 v7 : Value} {T : TypeId} (h : w.heap[g]? = some (.cells #[v0,v1,v2,v3,v4,v5,v6,v7] T)) : (w.cell? ⟨g,0,none⟩ = some v0 /\ w.cell? ⟨g,1,none⟩ = some v1 /\ w.cell? ⟨g,2,none⟩ = some v2 /\ w.cell? ⟨g,3,none⟩ = some v3 /\ w.cell? ⟨g,4,none⟩ = some v4 /\ w.cell? ⟨g,5,none⟩ = some v5 /\ w.cell? ⟨g,6,none⟩ = some v6 /\ w.cell? ⟨g,7,none⟩ = some v7) /\ (w.frozen? ⟨g,0,none⟩ = false /\ w.frozen? ⟨g,1,none⟩ = false /\ w.frozen? ⟨g,2,none⟩ = false /\ w.frozen? ⟨g,3,none⟩ = false /\ w.frozen? ⟨g,4,none⟩ = false /\ w.frozen? ⟨g,5,none⟩ = false /\ w.frozen? ⟨g,6,none⟩ = false /\ w.frozen? ⟨g,7,none⟩ = false) := by
 refine ⟨⟨?_,?_,?_,?_,?_,?_,?_,?_⟩,⟨?_,?_,?_,?_,?_,?_,?_,?_⟩⟩ <;> simp [World.cell?,World.frozen?,h]
theorem qaq (X : World) (n : Nat) (a b a0 b0 : Value) (T : TypeId) (h : X.heap[n]? = some (.cells #[a0,b0] T)) : ((X.setCell ⟨n,0,none⟩ a).setCell ⟨n,1,none⟩ b).heap[n]? = some (.cells #[a,b] T) := by
 simp only [World.setCell,Array.getElem?_modify,if_true,h,Option.map_some];simp
theorem qN (X : World) (n : Nat) (a b c a0 b0 c0 : Value) (T : TypeId) (h : X.heap[n]? = some (.cells #[a0,b0,c0] T)) : (((X.setCell ⟨n,0,none⟩ a).setCell ⟨n,1,none⟩ b).setCell ⟨n,2,none⟩ c).heap[n]? = some (.cells #[a,b,c] T) := by
 simp only [World.setCell,Array.getElem?_modify,if_true,h,Option.map_some];simp
end Go.Proofs.YtogbhedbgcmckaaGreat
set_option linter.unusedVariables false
set_option linter.unusedSimpArgs false
set_option maxRecDepth 100000
set_option maxHeartbeats 200000
namespace Go.Proofs.YtogbhedbgcmckaaGreat
open Go.RowKit
def qdn (i t : Int) (d : List UInt8) : List UInt8 := if rightB i t d.length = true then qaw i t d else List.replicate 20 0
end Go.Proofs.YtogbhedbgcmckaaGreat
