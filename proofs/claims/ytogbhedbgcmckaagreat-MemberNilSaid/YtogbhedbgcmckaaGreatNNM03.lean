/- An In in memory; NewIn, Left, Fail, Bad, Done and next, each by its contract. -/
import Derived.Test.YtogbhedbgcmckaaGreatNNM02
import Derived.Deep.RegionWith
import Derived.Deep.Cut
import Derived.RegionTactic
import Derived.BigRegion
import Derived.ChangeAlike
set_option linter.unusedVariables false
set_option linter.unusedSimpArgs false
set_option maxRecDepth 100000
set_option maxHeartbeats 200000
namespace Go.Proofs.YtogbhedbgcmckaaGreat
open Go.RowKit
structure InAt (w : World) (i : Nat) (A : Option Addr) (cap : Nat) (l : List UInt8) (Z : Nat -> Prop) : Prop where
 head : w.heap[i]? = some (.cells #[.slice A l.length cap, .bool false] 243)
 lies : Lies w A l.length cap l
 off : Off (fun k => k = i \/ Z k) A l.length
 nz : ¬ Z i
structure qeT (w : World) (i : Nat) (Z : Nat -> Prop) : Prop where
 head : w.heap[i]? = some (.cells #[.slice none 0 0, .bool true] 243)
 nz : ¬ Z i
def In (w : World) (i : Nat) (s : St) (Z : Nat -> Prop) : Prop :=
 match s with
 | none => qeT w i Z
 | some l => ∃ A cap,InAt w i A cap l Z
section
variable {w w' : World} {i : Nat} {s : St} {Z Z' : Nat → Prop}
theorem In.keep (h : In w i s Z) (hs : w.heap.size <= w'.heap.size) (hk : ∀ k,k < w.heap.size -> ¬ Z k -> w'.heap[k]? = w.heap[k]?) : In w' i s Z := by
 cases s with
 | none => exact ⟨(hk i (hlt h.head) h.nz).trans h.head,h.nz⟩
 | some l =>
   obtain ⟨A,cap,h⟩ := h;exact ⟨A,cap,(hk i (hlt h.head) h.nz).trans h.head,h.lies.keep hs fun h0 g off e hg => hk g hg fun hz => h.off h0 g off e (.inr hz),h.off,h.nz⟩
theorem In.below (h : In w i s Z) {B : Nat} (hb : Below B w w') (hB : w.heap.size <= B) : In w' i s Z := h.keep hb.size fun k hk _ => hb.block k (Nat.lt_of_lt_of_le hk hB)
theorem In.grown (h : In w i s Z) {row : Option Nat} (hg : w.grownBy w' row) (hr : ∀ k,row = some k -> Z k) : In w' i s Z :=
 h.keep hg.size fun k hk hz => hg.block k hk fun e => hz (hr k e.symm)
theorem In.keeps (h : In w i s Z) {Z2 : Nat -> Prop} (hk : qa Z2 w w') (hall : ∀ k,k < w.heap.size -> Z2 k) : In w' i s Z := h.keep hk.size fun k hk' _ => hk.block k hk' (hall k hk')
theorem In.lt (h : In w i s Z) : i < w.heap.size := by
 cases s with
 | none => exact hlt h.head
 | some l => obtain ⟨A,cap,h⟩ := h; exact hlt h.head
theorem In.nz (h : In w i s Z) : ¬ Z i := by
 cases s with
 | none => exact qeT.nz h
 | some l => obtain ⟨A,cap,h⟩ := h; exact h.nz
theorem In.out (h : In w i s Z) (hZ : ∀ k,Z' k -> Z k \/ w.heap.size <= k) : In w i s Z' := by
 have nz : ∀ k,k < w.heap.size -> ¬ Z k -> ¬ Z' k := fun k hk hz hz' => by
  rcases hZ k hz' with h | h
  · exact hz h
  · omega
 cases s with
 | none => exact ⟨h.head,nz i (hlt h.head) h.nz⟩
 | some l =>
   obtain ⟨A,cap,h⟩ := h;refine ⟨A,cap,h.head,h.lies,fun h0 g off e hz => ?_,nz i (hlt h.head) h.nz⟩;obtain ⟨g',off',e',hg,_⟩ := h.lies.2.2.2 h0;rw [e] at e';injection e' with e';injection e' with e1 _ _;subst e1;rcases hz with hz | hz
   · exact h.off h0 g off e (.inl hz)
   · exact nz g hg (fun hz2 => h.off h0 g off e (.inr hz2)) hz
end
theorem qeb (A : Option Addr) (len cap : Nat) (l : List UInt8) (w : World) (Z : Nat -> Prop) (hZ : ∀ k,Z k -> k < w.heap.size) (h : Lies w A len cap l) (hb : l.length <= 140737488355328) :
 Calls Tryz.prog 143 #[.slice A len cap] w fun e w' => ∃ i,e = .returned (.pointer (some ⟨i,0,none⟩)) /\ In w' i (some l) Z /\ Below w.heap.size w w' := by
 have hC := qas A len cap l w h hb;clear h
 go_enter Tryz.func143,Tryz.ntmps143
 go_wp2_with (go_at_call 77; refine hC.mono ?_; rintro e w1 ⟨v1,rfl,ho,hb⟩; obtain ⟨A1,cap1,rfl,hl1,hl2⟩ := qp ho)
 go_ret;refine ⟨w1.heap.size,rfl,⟨A1,cap1,heap_alloc_new _ _,hl1.below ((Below.refl _ _).alloc (Nat.le_refl _) _) (Nat.le_refl _),fun h0 g off e hz => ?_,fun hz => ?_⟩,hb.alloc hb.size _⟩
 · obtain ⟨g1,g2⟩ := ho.lt g (hl2 g off e);rcases hz with rfl | hz
   · exact Nat.lt_irrefl _ g2
   · exact absurd (hZ g hz) (by omega)
 · have := hZ _ hz;have := hb.size;omega
theorem qaQ (w : World) (i : Nat) (s : St) (Z : Nat -> Prop) (h : In w i s Z) : Calls Tryz.prog 225 #[.pointer (some ⟨i,0,none⟩)] w fun e w' => e = .returned (.int .i64 (left s : Int)) /\ w = w' := by
 cases s with
 | none =>
   have f0 : w.cell? ⟨i,0,none⟩ = some (.slice none 0 0) := by simp [World.cell?,h.head]
   go_enter Tryz.func225,Tryz.ntmps225
   go_wp2;go_ret;exact ⟨rfl,rfl⟩
 | some l =>
   obtain ⟨A,cap,h⟩ := h
   have f0 : w.cell? ⟨i,0,none⟩ = some (.slice A l.length cap) := by simp [World.cell?,h.head]
   go_enter Tryz.func225,Tryz.ntmps225
   go_wp2;go_ret;exact ⟨rfl,rfl⟩
theorem In.cells {w : World} {i : Nat} {s : St} {Z : Nat -> Prop} (h : In w i s Z) : ∃ A len cap,w.heap[i]? = some (.cells #[.slice A len cap, .bool s.isNone] 243) /\ len = left s /\ ¬ Z i := by
 cases s with
 | none => exact ⟨none,0,0,h.head,rfl,h.nz⟩
 | some l => obtain ⟨A,cap,h⟩ := h; exact ⟨A,l.length,cap,h.head,rfl,h.nz⟩
theorem qbA (w : World) (i : Nat) (s : St) (Z : Nat -> Prop) (h : In w i s Z) : Calls Tryz.prog 210 #[.pointer (some ⟨i,0,none⟩)] w fun e w' => e = .returned (.tuple #[]) /\ In w' i none Z /\ qa Z w w' := by
 obtain ⟨A,len,cap,hh,_,hz⟩ := h.cells
 have f0 : w.cell? ⟨i,0,none⟩ = some (.slice A len cap) := by simp [World.cell?,hh]
 have f1 : w.cell? ⟨i,1,none⟩ = some (.bool s.isNone) := by simp [World.cell?,hh]
 have g0 : w.frozen? ⟨i,0,none⟩ = false := by simp [World.frozen?,hh]
 have g1 : w.frozen? ⟨i,1,none⟩ = false := by simp [World.frozen?,hh]
 have hend : In ((w.setCell ⟨i,0,none⟩ (.slice none 0 0)).setCell ⟨i,1,none⟩ (.bool true)) i none Z := ⟨by
  rw [setCell_at _ ⟨i,1,none⟩ _ _ _ _ rfl (setCell_at _ ⟨i,0,none⟩ _ _ _ _ rfl hh)]
  rfl,hz⟩
 have hk : qa Z w ((w.setCell ⟨i,0,none⟩ (.slice none 0 0)).setCell ⟨i,1,none⟩ (.bool true)) := (qg _ _ _ hz).trans (qg _ _ _ hz)
 go_enter Tryz.func210,Tryz.ntmps210
 go_wp2
 all_goals
  refine bodyPost_end (results_none rfl _ _ _) rfl ?_;exact ⟨rfl,hend,hk⟩
theorem qgJ (w : World) (i : Nat) (s : St) (Z : Nat -> Prop) (h : In w i s Z) : Calls Tryz.prog 211 #[.pointer (some ⟨i,0,none⟩)] w fun e w' => e = .returned (.bool s.isNone) /\ w = w' := by
 obtain ⟨A,len,cap,hh,_,hz⟩ := h.cells
 have f1 : w.cell? ⟨i,1,none⟩ = some (.bool s.isNone) := by simp [World.cell?,hh]
 go_enter Tryz.func211,Tryz.ntmps211
 go_wp2;go_ret;exact ⟨rfl,rfl⟩
theorem qjw (w : World) (i : Nat) (Z : Nat -> Prop) (h : In w i none Z) : Calls Tryz.prog 145 #[.pointer (some ⟨i,0,none⟩)] w fun e w' => e = .returned (.bool false) /\ w = w' := by
 have f1 : w.cell? ⟨i,1,none⟩ = some (.bool true) := by simp [World.cell?,h.head]
 go_enter Tryz.func145,Tryz.ntmps145
 go_wp2;go_ret;exact ⟨rfl,rfl⟩
theorem qh5 (w : World) (i : Nat) (l : List UInt8) (Z : Nat -> Prop) (h : In w i (some l) Z) : Calls Tryz.prog 145 #[.pointer (some ⟨i,0,none⟩)] w fun e w' => e = .returned (.bool (decide (l.length = 0))) /\ w = w' := by
 obtain ⟨A,cap,h⟩ := h
 have f0 : w.cell? ⟨i,0,none⟩ = some (.slice A l.length cap) := by simp [World.cell?,h.head]
 have f1 : w.cell? ⟨i,1,none⟩ = some (.bool false) := by simp [World.cell?,h.head]
 go_enter Tryz.func145,Tryz.ntmps145
 go_wp2;go_ret;refine ⟨?_,rfl⟩
 cases l with
 | nil => rfl
 | cons x l =>
   have : ((x :: l).length : Int) ≠ 0 := by simp; omega
   rw [beq_eq_false_iff_ne.2 this]
   rfl
theorem qdo (w : World) (i : Nat) (s : St) (Z : Nat -> Prop) (h : In w i s Z) : Calls Tryz.prog 145 #[.pointer (some ⟨i,0,none⟩)] w fun e w' => e = .returned (.bool (decide (s = some []))) /\ w = w' := by
 cases s with
 | none => exact (qjw w i Z h).mono fun e w' ⟨h1,h2⟩ => ⟨by rw [h1]; simp,h2⟩
 | some l => exact (qh5 w i l Z h).mono fun e w' ⟨h1,h2⟩ => ⟨by rw [h1]; simp,h2⟩
theorem qec (n : Nat) (w : World) (i : Nat) (s : St) (Z : Nat -> Prop) (h : In w i s Z) (hn : left s < n) :
 Calls Tryz.prog 214 #[.pointer (some ⟨i,0,none⟩), .int .i64 (n : Int)] w fun e w' => e = .returned (.slice none 0 0) /\ In w' i none Z /\ qa Z w w' := by
 have hL := qaQ w i s Z h;have hF := qbA w i s Z h
 have hn' : (left s : Int) < (n : Int) := by omega
 go_enter Tryz.func214,Tryz.ntmps214
 go_wp2_with (first
  | (go_at_call 225; refine hL.mono ?_; rintro e w1 ⟨rfl,rfl⟩)
  | (go_at_call 210; refine hF.mono ?_; rintro e w1 ⟨rfl,h1,k1⟩; have f1 : w1.cell? ⟨i,1,none⟩ = some (.bool true) := by simp [World.cell?,qeT.head h1]))
 go_ret;exact ⟨rfl,h1,k1⟩
theorem qjx (n : Nat) (w : World) (i : Nat) (Z : Nat -> Prop) (h : In w i none Z) :
 Calls Tryz.prog 214 #[.pointer (some ⟨i,0,none⟩), .int .i64 (n : Int)] w fun e w' => e = .returned (.slice none 0 0) /\ In w' i none Z /\ qa Z w w' := by
 by_cases hn : n = 0
 · subst hn;have hL := qaQ w i none Z h
   have f1 : w.cell? ⟨i,1,none⟩ = some (.bool true) := by simp [World.cell?,qeT.head h]
   go_enter Tryz.func214,Tryz.ntmps214
   go_wp2_with (go_at_call 225; refine hL.mono ?_; rintro e w1 ⟨rfl,rfl⟩; simp only [left])
   go_ret;exact ⟨rfl,h,qa.refl _ _⟩
 · exact qec n w i none Z h (by simp [left]; omega)
theorem qh6 (n : Nat) (w : World) (i : Nat) (l : List UInt8) (Z : Nat -> Prop) (h : In w i (some l) Z) (hn : n <= l.length) :
 Calls Tryz.prog 214 #[.pointer (some ⟨i,0,none⟩), .int .i64 (n : Int)] w fun e w' => ∃ A cap,e = .returned (.slice A n cap) /\ Lies w' A n cap (l.take n) /\ In w' i (some (l.drop n)) Z /\ qa Z w w' := by
 have hL := qaQ w i (some l) Z h;obtain ⟨A,cap,h⟩ := h
 have f0 : w.cell? ⟨i,0,none⟩ = some (.slice A l.length cap) := by simp [World.cell?,h.head]
 have f1 : w.cell? ⟨i,1,none⟩ = some (.bool false) := by simp [World.cell?,h.head]
 have g0 : w.frozen? ⟨i,0,none⟩ = false := by simp [World.frozen?,h.head]
 have hc := h.lies.2.1;have s1 := qd6 Tryz.underlying23 qar A l.length cap n (by omega);have s2 := qcf Tryz.underlying23 qar A l.length cap n hn hc
 have hn' : ¬ ((l.length : Int) < (n : Int)) := by omega
 have hk : qa Z w (w.setCell ⟨i,0,none⟩ (.slice (qK A cap n) (l.length - n) (cap - n))) := qg _ _ _ h.nz
 have hkeep : ∀ (len : Nat) (A' : Option Addr) (c : Nat) (l' : List UInt8),(0 < len -> ∀ g off,A' = some ⟨g,off,none⟩ -> ∃ off',A = some ⟨g,off',none⟩) -> (0 < len -> 0 < l.length) -> Lies w A' len c l' -> Lies (w.setCell ⟨i,0,none⟩ (.slice (qK A cap n) (l.length - n) (cap - n))) A' len c l' := fun len A' c l' ha hlen hl =>
  hl.keep (by simp) fun h0 g off e hg => Below.heap_setCell _ _ _ _ fun eg => by
   obtain ⟨off',e'⟩ := ha h0 g off e;exact h.off (hlen h0) g off' e' (.inl eg)
 have hrest : 0 < l.length - n -> ∀ g off,qK A cap n = some ⟨g,off,none⟩ -> ∃ off',A = some ⟨g,off',none⟩ := fun h0 g off e => by
  obtain ⟨g',off',e',_⟩ := h.lies.2.2.2 (by omega);rw [e',qbq _ _ _ _ (by omega)] at e;injection e with e;injection e with e1 _ _;subst e1;exact ⟨off',e'⟩
 have hin : In (w.setCell ⟨i,0,none⟩ (.slice (qK A cap n) (l.length - n) (cap - n))) i (some (l.drop n)) Z := by
  refine ⟨qK A cap n,cap - n,?_,?_,fun h0 g off e hz => ?_,h.nz⟩
  · rw [setCell_at _ ⟨i,0,none⟩ _ _ _ _ rfl h.head,List.length_drop]
    rfl
  · rw [List.length_drop];exact hkeep _ _ _ _ hrest (by omega) (h.lies.drop n hn)
  · rw [List.length_drop] at h0;obtain ⟨off',e'⟩ := hrest h0 g off e;exact h.off (by omega) g off' e' hz
 have hfront : Lies (w.setCell ⟨i,0,none⟩ (.slice (qK A cap n) (l.length - n) (cap - n))) A n cap (l.take n) := hkeep _ _ _ _ (fun _ g off e => ⟨off,e⟩) (by omega) (h.lies.take n hn);clear hkeep hrest h
 go_enter Tryz.func214,Tryz.ntmps214
 go_wp2_with (go_at_call 225; refine hL.mono ?_; rintro e w1 ⟨rfl,rfl⟩; simp only [left])
 go_ret;exact ⟨A,cap,rfl,hfront,hin,hk⟩
theorem qe3 (n : Nat) (w : World) (i : Nat) (s : St) (Z : Nat -> Prop) (h : In w i s Z) :
 Calls Tryz.prog 214 #[.pointer (some ⟨i,0,none⟩), .int .i64 (n : Int)] w fun e w' => ∃ A len cap,e = .returned (.slice A len cap) /\ Lies w' A len cap (takeN s n).1 /\ In w' i (takeN s n).2 Z /\ qa Z w w' := by
 cases s with
 | none => exact (qjx n w i Z h).mono fun e w' ⟨h1,h2,h3⟩ => ⟨none,0,0,h1,Lies.nil _,h2,h3⟩
 | some l =>
   by_cases hn : n <= l.length
   · refine (qh6 n w i l Z h hn).mono fun e w' ⟨A,cap,h1,h2,h3,h4⟩ => ⟨A,n,cap,h1,?_,?_,h4⟩
     · simp only [takeN,if_pos hn]; exact h2
     · simp only [takeN,if_pos hn]; exact h3
   · refine (qec n w i (some l) Z h (by simp [left]; omega)).mono fun e w' ⟨h1,h2,h3⟩ => ⟨none,0,0,h1,?_,?_,h3⟩
     · simp only [takeN,if_neg hn]; exact Lies.nil _
     · simp only [takeN,if_neg hn]; exact h2
end Go.Proofs.YtogbhedbgcmckaaGreat
set_option linter.unusedVariables false
set_option linter.unusedSimpArgs false
set_option maxRecDepth 100000
set_option maxHeartbeats 6400000
namespace Go.Proofs.YtogbhedbgcmckaaGreat
open Go.RowKit
theorem qkx (x : Nat) (b : UInt8) (hx : x < 72057594037927936) : bits BinOp.or IntKind.u64 (IntKind.u64.wrap ((x : Int) * 256)) (IntKind.u64.wrap (b.toNat : Int)) = ((x * 256 + b.toNat : Nat) : Int) := by
 have hb : b.toNat < 256 := b.toNat_lt;rw [IntWalk.u64_in _ (by omega),IntWalk.u64_in _ (by omega)];rw [bits_join .u64 64 (by decide) (fun m h0 h1 => IntWalk.u64_in _ (by omega)) 8 _ _ (by omega) (by omega) (by omega) (by omega) (by omega) (by omega)];omega
theorem qjy (l : List UInt8) (k : Nat) (h : k < l.length) : l.take (k + 1) = l.take k ++ [l[k]] := by
 rw [List.take_add_one,List.getElem?_eq_getElem h]
 rfl
/-- The loop over bytes that lie somewhere. -/
theorem qbB (n : Nat) (hn : n <= 8) (w : World) (i : Nat) (s : St) (Z : Nat -> Prop) (h : In w i s Z) :
 Calls Tryz.prog 183 #[.pointer (some ⟨i,0,none⟩), .int .i64 (n : Int)] w fun e w' => e = .returned (.int .u64 ((numberN s n).1 : Int)) /\ In w' i (numberN s n).2 Z /\ qa Z w w' := by
 have hN := qe3 n w i s Z h;have hlen := qcC s n;unfold numberN;generalize takeN s n = t at hN hlen;obtain ⟨l,s'⟩ := t
 simp only at hN hlen ⊢
 go_enter Tryz.func183,Tryz.ntmps183
 go_wp2_with (go_at_call 214; refine hN.mono ?_; rintro e w1 ⟨A,len,cap,rfl,hl,hi,hk⟩)
 obtain rfl : l.length = len := hl.1
 go_loopg [5,7,12] l.length (fun g v u x wr => ∃ j : Nat,v = .int .u64 ((num (l.take j) : Nat) : Int) /\ x = .int .i64 (j : Int) /\ j + g = l.length /\ wr = w1)
 case atStart => exact ⟨0,by simp [num],rfl,by omega,rfl⟩
 case round =>
  obtain ⟨j,rfl,rfl,hj,rfl⟩ := hrel
  have jb : (j : Int) <= 8 := by omega
  by_cases hlt : j < l.length
  · have hlt' : (j : Int) < (l.length : Int) := by omega
    obtain ⟨g,off,rfl,hg,hc⟩ := hl.cell j hlt
    have hx : num (l.take j) < 72057594037927936 := by
     have h1 := qdB (l.take j);have h2 : 256 ^ (l.take j).length <= 256 ^ 7 := Nat.pow_le_pow_right (by omega) (by simp; omega)
     have h3 : (256 : Nat) ^ 7 = 72057594037927936 := by decide
     omega
    have hor := qkx (num (l.take j)) l[j] hx
    have hnx : num (l.take j) * 256 + l[j].toNat = num (l.take (j + 1)) := by rw [qjy l j hlt,qeX]
    rw [hnx] at hor;go_wp2
    go_roundg (gk - 1)
    case measure => omega
    case rel => exact ⟨j + 1,by first | rw [hor] | (rw [IntWalk.u64_in ((num (l.take j) : Int) * 256) (by omega)] at hor; rw [hor]),by go_num,by omega,rfl⟩
  · obtain rfl : j = l.length := by omega
    have hdec : decide ((l.length : Int) < (l.length : Int)) = false := decide_eq_false (by omega);go_wp2;go_ret;rw [List.take_length];exact ⟨rfl,hi,hk⟩
theorem qgW (w : World) (i : Nat) (s : St) (Z : Nat -> Prop) (h : In w i s Z) :
 Calls Tryz.prog 148 #[.pointer (some ⟨i,0,none⟩)] w fun e w' => e = .returned (.int .u8 ((numberN s 1).1 : Int)) /\ In w' i (numberN s 1).2 Z /\ qa Z w w' := by
 have hN := qbB 1 (by omega) w i s Z h;have hlt := qbn s 1;generalize numberN s 1 = t at hN hlt ⊢
 have e1 : IntKind.u8.wrap (t.1 : Int) = (t.1 : Int) := by
  simp [IntKind.wrap,IntKind.bits,IntKind.signed]
  omega
 go_enter Tryz.func148,Tryz.ntmps148
 go_wp2_with (go_at_call 183; refine hN.mono ?_; rintro e w1 ⟨rfl,h1,h2⟩)
 go_ret;exact ⟨rfl,h1,h2⟩
theorem qaV (w : World) (i : Nat) (s : St) (Z : Nat -> Prop) (h : In w i s Z) :
 Calls Tryz.prog 184 #[.pointer (some ⟨i,0,none⟩)] w fun e w' => e = .returned (.int .i64 (IntKind.i64.wrap ((numberN s 8).1 : Int))) /\ In w' i (numberN s 8).2 Z /\ qa Z w w' := by
 have hN := qbB 8 (by omega) w i s Z h;generalize numberN s 8 = t at hN ⊢
 go_enter Tryz.func184,Tryz.ntmps184
 go_wp2_with (go_at_call 183; refine hN.mono ?_; rintro e w1 ⟨rfl,h1,h2⟩)
 go_ret;exact ⟨by rw [IntWalk.i64_left]; rfl,h1,h2⟩
theorem qga (most : Int) (hm : -9223372036854775808 <= most /\ most <= 9223372036854775807) (w : World) (i : Nat) (s : St) (Z : Nat -> Prop) (h : In w i s Z) (hL : left s <= 140737488355328) :
 Calls Tryz.prog 223 #[.pointer (some ⟨i,0,none⟩), .int .i64 most] w fun e w' => e = .returned (.int .i64 ((qaI s most).1 : Int)) /\ In w' i (qaI s most).2 Z /\ qa Z w w' := by
 have hN := qbB 4 (by omega) w i s Z h;have hlt : (numberN s 4).1 < 4294967296 := qbn s 4
 have hle : left (numberN s 4).2 <= 140737488355328 := by
  unfold numberN takeN
  cases s with
  | none => simp [left]
  | some l =>
    simp only [left] at hL
    simp only
    split
    · simp [left]; omega
    · simp [left]
 unfold qaI;generalize numberN s 4 = t at hN hlt hle ⊢;obtain ⟨v,s'⟩ := t
 simp only at hN hlt hle ⊢
 have vb : (v : Int) < 4294967296 := by omega
 have lb : (left s' : Int) <= 140737488355328 := by omega
 have e2 : IntKind.u64.wrap (left s' : Int) = (left s' : Int) := IntWalk.u64_in _ (by omega);have e3 : IntKind.i64.wrap (v : Int) = (v : Int) := IntWalk.i64_in _ (by omega)
 by_cases h0 : most < 0
 · rw [if_pos (.inl h0)];clear e2 e3
   go_enter Tryz.func223,Tryz.ntmps223
   go_wp2_with (first
    | (go_at_call 183; refine hN.mono ?_; rintro e w1 ⟨rfl,h1,k1⟩)
    | (go_at_call 225; refine (qaQ _ _ _ _ h1).mono ?_; rintro e w2 ⟨rfl,rfl⟩)
    | (go_at_call 210; refine (qbA _ _ _ _ h1).mono ?_; rintro e w2 ⟨rfl,h2,k2⟩))
   go_ret;exact ⟨rfl,h2,k1.trans k2⟩
 · have e1 : IntKind.u64.wrap most = most := IntWalk.u64_in _ (by omega)
   by_cases c1 : most < (v : Int)
   · rw [if_pos (.inr (.inl c1))];clear e2 e3
     go_enter Tryz.func223,Tryz.ntmps223
     go_wp2_with (first
      | (go_at_call 183; refine hN.mono ?_; rintro e w1 ⟨rfl,h1,k1⟩)
      | (go_at_call 225; refine (qaQ _ _ _ _ h1).mono ?_; rintro e w2 ⟨rfl,rfl⟩)
      | (go_at_call 210; refine (qbA _ _ _ _ h1).mono ?_; rintro e w2 ⟨rfl,h2,k2⟩))
     go_ret;exact ⟨rfl,h2,k1.trans k2⟩
   · by_cases c2 : left s' < v
     · have h2' : (left s' : Int) < (v : Int) := by omega
       rw [if_pos (.inr (.inr c2))]
       go_enter Tryz.func223,Tryz.ntmps223
       go_wp2_with (first
        | (go_at_call 183; refine hN.mono ?_; rintro e w1 ⟨rfl,h1,k1⟩)
        | (go_at_call 225; refine (qaQ _ _ _ _ h1).mono ?_; rintro e w2 ⟨rfl,rfl⟩)
        | (go_at_call 210; refine (qbA _ _ _ _ h1).mono ?_; rintro e w2 ⟨rfl,h2,k2⟩))
       go_ret;exact ⟨rfl,h2,k1.trans k2⟩
     · have h2' : ¬ ((left s' : Int) < (v : Int)) := by omega
       rw [if_neg (by omega)];show Calls Tryz.prog 223 #[.pointer (some ⟨i,0,none⟩), .int .i64 most] w fun e w' => e = .returned (.int .i64 (v : Int)) /\ In w' i s' Z /\ qa Z w w';have d0 : decide (most < 0) = false := decide_eq_false h0;have d1 : decide (most < (v : Int)) = false := decide_eq_false c1;have d2 : decide (left s' < v) = false := decide_eq_false c2;clear h0 c1 c2 h2' hlt hle hL e3
       go_enter Tryz.func223,Tryz.ntmps223
       go_wp2_with (first
        | (go_at_call 183; refine hN.mono ?_; rintro e w1 ⟨rfl,h1,k1⟩)
        | (go_at_call 225; refine (qaQ _ _ _ _ h1).mono ?_; rintro e w2 ⟨rfl,rfl⟩))
       go_ret;exact ⟨rfl,h1,k1⟩
theorem qc9 (most : Int) (hm : -9223372036854775808 <= most /\ most <= 9223372036854775807) (w : World) (i : Nat) (s : St) (Z : Nat -> Prop) (h : In w i s Z) (hL : left s <= 140737488355328) :
 Calls Tryz.prog 209 #[.pointer (some ⟨i,0,none⟩), .int .i64 most] w fun e w' => ∃ A len cap,e = .returned (.slice A len cap) /\ Lies w' A len cap (qbc s most).1 /\ Owns 5 w' w.heap.size (.slice A len cap) (qbc s most).1 /\ In w' i (qbc s most).2 Z /\ qa Z w w' := by
 have hlt : (qbc s most).1.length <= 4294967296 := by
  have h1 : (numberN s 4).1 < 4294967296 := qbn s 4
  have h2 : (qaI s most).1 < 4294967296 := by unfold qaI; split <;> first | exact h1 | simp
  have := qcC (qaI s most).2 (qaI s most).1;unfold qbc;omega
 have hN := qga most hm w i s Z h hL;unfold qbc at hlt ⊢;generalize qaI s most = t at hN hlt ⊢;obtain ⟨n,s'⟩ := t
 simp only at hN hlt ⊢
 have hX := fun w h => qe3 n w i s' Z h
 generalize takeN s' n = t at hX hlt ⊢;obtain ⟨l,s''⟩ := t
 simp only at hX hlt ⊢
 go_enter Tryz.func209,Tryz.ntmps209
 go_wp2_with (first
  | (go_at_call 223; refine hN.mono ?_; rintro e w1 ⟨rfl,h1,k1⟩)
  | (go_at_call 214; refine (hX _ h1).mono ?_; rintro e w2 ⟨A,len,cap,rfl,hl,h2,k2⟩)
  | (go_at_call 77; refine (qas _ _ _ _ _ hl (by omega)).mono ?_; rintro e w3 ⟨v,rfl,ho,hb⟩))
 go_ret;have hsz := Nat.le_trans k1.size k2.size;obtain ⟨A1,cap1,rfl,hl1,_⟩ := qp ho;refine ⟨A1,_,cap1,rfl,hl1,?_,h2.below hb (Nat.le_refl _),(k1.trans k2).trans (qb hb (Nat.le_refl _))⟩;refine ⟨ho.1,?_⟩;rcases ho.2 with ⟨e,h0⟩ | ⟨g,cap,cur,e,hb',r⟩
 · exact .inl ⟨e,h0⟩
 · exact .inr ⟨g,cap,cur,e,Nat.le_trans hsz hb',r⟩
end Go.Proofs.YtogbhedbgcmckaaGreat
set_option linter.unusedVariables false
set_option linter.unusedSimpArgs false
set_option maxRecDepth 100000
set_option maxHeartbeats 200000
namespace Go.Proofs.YtogbhedbgcmckaaGreat
open Go.RowKit
end Go.Proofs.YtogbhedbgcmckaaGreat
set_option linter.unusedVariables false
set_option linter.unusedSimpArgs false
set_option maxRecDepth 100000
set_option maxHeartbeats 200000
namespace Go.Proofs.YtogbhedbgcmckaaGreat
open Go.RowKit
theorem qaJ (s : St) (n : Nat) {b : Nat} (h : left s <= b) : left (numberN s n).2 <= b := by
 unfold numberN takeN
 cases s with
 | none => simp [left]
 | some l =>
   simp only [left] at h
   simp only
   split
   · simp [left]; omega
   · simp [left]
end Go.Proofs.YtogbhedbgcmckaaGreat
set_option linter.unusedVariables false
set_option linter.unusedSimpArgs false
set_option maxRecDepth 100000
set_option maxHeartbeats 200000
namespace Go.Proofs.YtogbhedbgcmckaaGreat
open Go.RowKit
def qcE (t v : Int) : List UInt8 := if hardB t v = true then num8 t ++ num8 v else List.replicate 16 0
end Go.Proofs.YtogbhedbgcmckaaGreat
set_option linter.unusedVariables false
set_option linter.unusedSimpArgs false
set_option maxRecDepth 100000
set_option maxHeartbeats 1000000
namespace Go.Proofs.YtogbhedbgcmckaaGreat
open Go.RowKit
theorem Out.box {w : World} {o : Nat} {l : List UInt8} {Z : Nat -> Prop} (h : Out w o l Z) (O : Obj) : Out (w.alloc O) o l (fun k => Z k \/ k = w.heap.size) :=
 (h.out (fun k hk => hk.imp id fun e => Nat.le_of_eq e.symm)).below ((Below.refl w.heap.size w).alloc (Nat.le_refl _) O) (Nat.le_refl _)
theorem qdW {w : World} {Z : Nat -> Prop} (hZ : ∀ k,Z k -> k < w.heap.size) (O : Obj) : ∀ k,(Z k \/ k = w.heap.size) -> k < (w.alloc O).heap.size := by
 intro k hk;rw [World.size_alloc];rcases hk with h | h
 · have := hZ k h; omega
 · omega
theorem qa.unbox {w w' : World} {Z : Nat -> Prop} {O : Obj} (h : qa (fun k => Z k \/ k = w.heap.size) (w.alloc O) w') : qa Z w w' :=
 (qv w O).trans (h.mono fun k hk => .inl hk)
theorem Out.un {w : World} {o n : Nat} {l : List UInt8} {Z : Nat -> Prop} (h : Out w o l (fun k => Z k \/ k = n)) : Out w o l Z := h.out fun k hk => .inl (.inl hk)
theorem qh7 {Z : Nat -> Prop} {A : Option Addr} {n : Nat} (h : 0 < n -> ∀ g off,A = some ⟨g,off,none⟩ -> Z g) (m : Nat) : 0 < n -> ∀ g off,A = some ⟨g,off,none⟩ -> (Z g \/ g = m) :=
 fun h0 g off e => .inl (h h0 g off e)
theorem qe4 (i t : Int) (A : Option Addr) (n c : Nat) (d : List UInt8) (w : World) (o : Nat) (l : List UInt8) (Z : Nat -> Prop) (h : Out w o l Z) (hZ : ∀ k,Z k -> k < w.heap.size) (hn : n <= 1099511627776)
 (hd : Lies w A n c d) (hdz : 0 < n -> ∀ g off,A = some ⟨g,off,none⟩ -> Z g) :
 Calls Tryz.prog 190 #[.pointer (some ⟨o,0,none⟩),entV i t A n c] w fun e w' => e = .returned (.tuple #[]) /\ Out w' o (l ++ qaw i t d) Z /\ qa Z w w' := by
 have h1 := h.box (.cells #[.int .i64 i, .int .i64 t, .slice A n c] 117);have hZ1 := qdW hZ (.cells #[.int .i64 i, .int .i64 t, .slice A n c] 117);have hd1 := hd.below ((Below.refl w.heap.size w).alloc (Nat.le_refl _) (.cells #[.int .i64 i, .int .i64 t, .slice A n c] 117)) (Nat.le_refl _);have hdz1 := qh7 hdz w.heap.size;have hr1 := heap_alloc_new w (.cells #[.int .i64 i, .int .i64 t, .slice A n c] 117)
 have hs1 : w.heap.size < (w.alloc (.cells #[.int .i64 i, .int .i64 t, .slice A n c] 117)).heap.size := by simp
 have hfin : ∀ w',qa (fun k => Z k \/ k = w.heap.size) (w.alloc (.cells #[.int .i64 i, .int .i64 t, .slice A n c] 117)) w' -> qa Z w w' := fun w' hk => hk.unbox
 have e8 : ∀ L : List UInt8,((L ++ num8 i) ++ num8 t) ++ textOf d = L ++ qaw i t d := fun L => by unfold qaw; simp
 clear h hd hdz hZ
 go_enter Tryz.func190,Tryz.ntmps190
 obtain ⟨⟨a0,a1,a2⟩,_⟩ := row3 hr1
 go_wp2_with fail
 refine (qbz i _ rfl _ o l _ h1 hZ1).mono ?_;rintro e w1 ⟨rfl,h2,k2⟩;have h2' : Out w1 o (l ++ num8 i) (fun k => Z k \/ k = w.heap.size) := h2;have hr2 := (k2.block w.heap.size hs1 (.inr rfl)).trans hr1;have hZ2 : ∀ k,(Z k \/ k = w.heap.size) -> k < w1.heap.size := fun k hk => Nat.lt_of_lt_of_le (hZ1 k hk) k2.size;have hd2 := hd1.keeps k2 hdz1;obtain ⟨⟨b0,b1,b2⟩,_⟩ := row3 hr2;clear a0 a1 a2 h1 h2 hd1
 go_wp2_with fail
 refine (qbz t _ rfl w1 o _ _ h2' hZ2).mono ?_;rintro e w2 ⟨rfl,h3,k3⟩;have h3' : Out w2 o ((l ++ num8 i) ++ num8 t) (fun k => Z k \/ k = w.heap.size) := h3;have hr3 := (k3.block w.heap.size (hlt hr2) (.inr rfl)).trans hr2;have hZ3 : ∀ k,(Z k \/ k = w.heap.size) -> k < w2.heap.size := fun k hk => Nat.lt_of_lt_of_le (hZ2 k hk) k3.size;have hd3 := hd2.keeps k3 hdz1;obtain ⟨⟨c0,c1,c2⟩,_⟩ := row3 hr3;clear b0 b1 b2 h2' h3 hd2
 go_wp2_with fail
 refine (qh4 A n c d hn w2 o _ _ h3' hZ3 hd3 hdz1).mono ?_;rintro e w3 ⟨rfl,h4,k4⟩;go_wp2;refine bodyPost_end (results_none rfl _ _ _) rfl ?_;rw [e8 l] at h4;exact ⟨rfl,h4.un,hfin _ ((k2.trans k3).trans k4)⟩
structure qe5 (w X : World) (o b : Nat) (l : List UInt8) (T : TypeId) (Z : Nat -> Prop) : Prop where
 out : Out X o l (fun k => Z k \/ k = b)
 row : X.heap[b]? = some (.cells #[.int .i64 0, .int .i64 0, .slice none 0 0] T)
 keeps : qa Z w X
 size : X.heap.size = w.heap.size
theorem qe5.zero {w : World} {o b : Nat} {l : List UInt8} {T : TypeId} {Z : Nat -> Prop} {x0 x1 x2 : Value} (hz : ¬ Z b) (h : Out w o l (fun k => Z k \/ k = b)) (hr : w.heap[b]? = some (.cells #[x0,x1,x2] T)) :
 qe5 w (((w.setCell ⟨b,0,none⟩ (.int .i64 0)).setCell ⟨b,1,none⟩ (.int .i64 0)).setCell ⟨b,2,none⟩ (.slice none 0 0)) o b l T Z := by
 refine ⟨h.keep (by simp) fun k hk hnz => ?_,qN _ _ _ _ _ _ _ _ _ hr,((qg _ _ _ hz).trans (qg _ _ _ hz)).trans (qg _ _ _ hz),by simp⟩
 have hne : k ≠ b := fun e => hnz (.inr e)
 exact (Below.heap_setCell _ _ _ _ (by exact hne)).trans ((Below.heap_setCell _ _ _ _ (by exact hne)).trans (Below.heap_setCell _ _ _ _ (by exact hne)))
theorem qgX : qaw 0 0 [] = List.replicate 20 0 := by decide +kernel
theorem qda (i t : Int) (d : List UInt8) : qdn i t d = if rightB i t d.length = true then qaw i t d else qaw 0 0 [] := by rw [qgX]; rfl
theorem qjz (i t : Int) (A : Option Addr) (n c : Nat) (d : List UInt8) (w : World) (o : Nat) (l : List UInt8) (Z : Nat -> Prop) (h : Out w o l Z) (hZ : ∀ k,Z k -> k < w.heap.size) (hn : n <= 1099511627776)
 (hd : Lies w A n c d) (hdz : 0 < n -> ∀ g off,A = some ⟨g,off,none⟩ -> Z g) :
 Calls Tryz.prog 157 #[.pointer (some ⟨o,0,none⟩),entV i t A n c] w fun e w' => e = .returned (.tuple #[]) /\ Out w' o (l ++ qdn i t d) Z /\ qa Z w w' := by
 have h1 := h.box (.cells #[.int .i64 i, .int .i64 t, .slice A n c] 117);have hZ1 := qdW hZ (.cells #[.int .i64 i, .int .i64 t, .slice A n c] 117);have hd1 := hd.below ((Below.refl w.heap.size w).alloc (Nat.le_refl _) (.cells #[.int .i64 i, .int .i64 t, .slice A n c] 117)) (Nat.le_refl _);have hdz1 := qh7 hdz w.heap.size;have hr1 := heap_alloc_new w (.cells #[.int .i64 i, .int .i64 t, .slice A n c] 117)
 have hs1 : w.heap.size < (w.alloc (.cells #[.int .i64 i, .int .i64 t, .slice A n c] 117)).heap.size := by simp
 have hfin : ∀ w',qa (fun k => Z k) w w' -> qa Z w w' := fun w' hk => hk
 have hbx : qa Z w (w.alloc (.cells #[.int .i64 i, .int .i64 t, .slice A n c] 117)) := qv _ _
 have hzn : ¬ Z w.heap.size := fun hz => absurd (hZ _ hz) (by omega)
 have hR := fun W => qbf i t A n c W
 have hdl := hd.1;have e8 := qda i t d;rw [hdl] at e8;rw [e8];clear e8 h hd hdz hZ;generalize rightB i t n = r at *
 have hP := fun W hO hZ2 hd2 hz2 => qe4 i t A n c d W o l (fun k => Z k \/ k = w.heap.size) hO hZ2 hn hd2 hz2
 have hP0 := fun W hO hZ2 hd2 hz2 => qe4 0 0 none 0 0 [] W o l (fun k => Z k \/ k = w.heap.size) hO hZ2 (by omega) hd2 hz2
 generalize qaw i t d = T at *;generalize qaw 0 0 [] = T0 at *
 go_enter Tryz.func157,Tryz.ntmps157
 obtain ⟨⟨a0,a1,a2⟩,_⟩ := row3 hr1
 cases r with
 | true =>
   rw [if_pos rfl];clear hP0
   go_wp2_with fail
   refine (hR _).mono ?_;rintro e w1 ⟨rfl,hb1⟩;have hr2 := (hb1.block w.heap.size hs1).trans hr1;have hP := hP w1 (h1.below hb1 (Nat.le_refl _)) (fun k hk => Nat.lt_of_lt_of_le (hZ1 k hk) hb1.size) (hd1.below hb1 (Nat.le_refl _)) hdz1;obtain ⟨⟨b0,b1,b2⟩,_⟩ := row3 hr2;clear a0 a1 a2 hR
   go_wp2_with fail
   refine hP.mono ?_;rintro e w2 ⟨rfl,h3,k3⟩;go_wp2;refine bodyPost_end (results_none rfl _ _ _) rfl ?_;exact ⟨rfl,h3.un,(hbx.trans (qb hb1 (Nat.le_refl _))).trans (k3.mono fun k hk => .inl hk)⟩
 | false =>
   rw [if_neg (by simp)];clear hP
   go_wp2_with fail
   refine (hR _).mono ?_;rintro e w1 ⟨rfl,hb1⟩;have hr2 := (hb1.block w.heap.size hs1).trans hr1;obtain ⟨⟨b0,b1,b2⟩,⟨f0,f1,f2⟩⟩ := row3 hr2
   have hz2 : ∀ k,Z k -> k < w1.heap.size := fun k hk => Nat.lt_of_lt_of_le (hZ1 k (.inl hk)) hb1.size
   have h3 := qe5.zero (w := w1) hzn (h1.below hb1 (Nat.le_refl _)) hr2;generalize hX : (((w1.setCell ⟨w.heap.size,0,none⟩ (.int .i64 0)).setCell ⟨w.heap.size,1,none⟩ (.int .i64 0)).setCell ⟨w.heap.size,2,none⟩ (.slice none 0 0)) = X at *;have hP0 := hP0 X h3.out (fun k hk => by rw [h3.size]; exact Nat.lt_of_lt_of_le (hZ1 k hk) hb1.size) (Lies.nil X) (fun h0 => absurd h0 (by omega));obtain ⟨⟨c0,c1,c2⟩,_⟩ := row3 h3.row;have hkst := h3.keeps;clear h3 a0 a1 a2 hR
   go_wp2_with fail
   refine hP0.mono ?_;rintro e w2 ⟨rfl,h3,k3⟩;go_wp2;refine bodyPost_end (results_none rfl _ _ _) rfl ?_;exact ⟨rfl,h3.un,((hbx.trans (qb hb1 (Nat.le_refl _))).trans hkst).trans (k3.mono fun k hk => .inl hk)⟩
end Go.Proofs.YtogbhedbgcmckaaGreat
set_option linter.unusedVariables false
set_option linter.unusedSimpArgs false
set_option maxRecDepth 100000
set_option maxHeartbeats 1000000
namespace Go.Proofs.YtogbhedbgcmckaaGreat
open Go.RowKit
structure Two1 (w X : World) (o b : Nat) (l : List UInt8) (T : TypeId) (Z : Nat -> Prop) : Prop where
 out : Out X o l (fun k => Z k \/ k = b)
 row : X.heap[b]? = some (.cells #[.int .i64 0, .int .i64 0] T)
 keeps : qa Z w X
 size : X.heap.size = w.heap.size
theorem Two1.zero {w : World} {o b : Nat} {l : List UInt8} {T : TypeId} {Z : Nat -> Prop} {x0 x1 : Value} (hz : ¬ Z b) (h : Out w o l (fun k => Z k \/ k = b)) (hr : w.heap[b]? = some (.cells #[x0,x1] T)) :
 Two1 w ((w.setCell ⟨b,0,none⟩ (.int .i64 0)).setCell ⟨b,1,none⟩ (.int .i64 0)) o b l T Z := by
 refine ⟨h.keep (by simp) fun k hk hnz => ?_,qaq _ _ _ _ _ _ _ hr,(qg _ _ _ hz).trans (qg _ _ _ hz),by simp⟩
 have hne : k ≠ b := fun e => hnz (.inr e)
 exact (Below.heap_setCell _ _ _ _ (by exact hne)).trans (Below.heap_setCell _ _ _ _ (by exact hne))
theorem qh8 : num8 0 ++ num8 0 = List.replicate 16 0 := by decide +kernel
def qbN (t v : Int) : List UInt8 := num8 t ++ num8 v
theorem qcF (t v : Int) : qcE t v = if hardB t v = true then qbN t v else qbN 0 0 := by
 unfold qbN;rw [qh8]
 rfl
theorem qjA (t v : Int) (w : World) (o : Nat) (l : List UInt8) (Z : Nat -> Prop) (h : Out w o l Z) (hZ : ∀ k,Z k -> k < w.heap.size) :
 Calls Tryz.prog 155 #[.pointer (some ⟨o,0,none⟩), .agg #[.int .i64 t, .int .i64 v]] w fun e w' => e = .returned (.tuple #[]) /\ Out w' o (l ++ qcE t v) Z /\ qa Z w w' := by
 have h1 := h.box (.cells #[.int .i64 t, .int .i64 v] 54);have hZ1 := qdW hZ (.cells #[.int .i64 t, .int .i64 v] 54);have hr1 := heap_alloc_new w (.cells #[.int .i64 t, .int .i64 v] 54)
 have hs1 : w.heap.size < (w.alloc (.cells #[.int .i64 t, .int .i64 v] 54)).heap.size := by simp
 have hbx : qa Z w (w.alloc (.cells #[.int .i64 t, .int .i64 v] 54)) := qv _ _
 have hzn : ¬ Z w.heap.size := fun hz => absurd (hZ _ hz) (by omega)
 have hR := fun W => qcg t v W
 rw [qcF];generalize hardB t v = r at *
 have e8 : ∀ z1 z2 : Int,(l ++ num8 z1) ++ num8 z2 = l ++ qbN z1 z2 := fun z1 z2 => by unfold qbN; simp
 clear h hZ
 cases r with
 | true =>
   rw [if_pos rfl];obtain ⟨⟨a0,a1⟩,_⟩ := row2 hr1
   go_enter Tryz.func155,Tryz.ntmps155
   go_wp2_with fail
   refine (hR _).mono ?_;rintro e w1 ⟨rfl,hb1⟩;have hr2 := (hb1.block w.heap.size hs1).trans hr1;obtain ⟨⟨b0,b1⟩,⟨f0,f1⟩⟩ := row2 hr2;have h2 := h1.below hb1 (Nat.le_refl _);have hZ2 : ∀ k,(Z k \/ k = w.heap.size) -> k < w1.heap.size := fun k hk => Nat.lt_of_lt_of_le (hZ1 k hk) hb1.size;have hk2 : qa Z w w1 := hbx.trans (qb hb1 (Nat.le_refl _));clear a0 a1 hR h1 hZ1 hb1 hbx hr1 hs1
   go_wp2_with fail
   refine (qbz t _ rfl w1 o _ _ h2 hZ2).mono ?_;rintro e w2 ⟨rfl,h3,k3⟩;have h3' : Out w2 o (l ++ num8 t) (fun k => Z k \/ k = w.heap.size) := h3;have hr3 := (k3.block w.heap.size (hlt hr2) (.inr rfl)).trans hr2;have hZ3 : ∀ k,(Z k \/ k = w.heap.size) -> k < w2.heap.size := fun k hk => Nat.lt_of_lt_of_le (hZ2 k hk) k3.size;obtain ⟨⟨c0,c1⟩,_⟩ := row2 hr3;clear b0 b1 f0 f1 h3
   go_wp2_with fail
   refine (qbz v _ rfl w2 o _ _ h3' hZ3).mono ?_;rintro e w3 ⟨rfl,h4,k4⟩;have h4' : Out w3 o ((l ++ num8 t) ++ num8 v) (fun k => Z k \/ k = w.heap.size) := h4;rw [e8] at h4';go_wp2;refine bodyPost_end (results_none rfl _ _ _) rfl ?_;exact ⟨rfl,h4'.un,hk2.trans ((k3.trans k4).mono fun k hk => .inl hk)⟩
 | false =>
   rw [if_neg (by simp)];obtain ⟨⟨a0,a1⟩,_⟩ := row2 hr1
   go_enter Tryz.func155,Tryz.ntmps155
   go_wp2_with fail
   refine (hR _).mono ?_;rintro e w1 ⟨rfl,hb1⟩;have hr2 := (hb1.block w.heap.size hs1).trans hr1;obtain ⟨⟨b0,b1⟩,⟨f0,f1⟩⟩ := row2 hr2;have h2 := h1.below hb1 (Nat.le_refl _);have hZ2 : ∀ k,(Z k \/ k = w.heap.size) -> k < w1.heap.size := fun k hk => Nat.lt_of_lt_of_le (hZ1 k hk) hb1.size;have hk2 : qa Z w w1 := hbx.trans (qb hb1 (Nat.le_refl _));clear a0 a1 hR h1 hZ1 hb1 hbx hr1 hs1;have h3 := Two1.zero (w := w1) hzn h2 hr2;generalize hX : ((w1.setCell ⟨w.heap.size,0,none⟩ (.int .i64 0)).setCell ⟨w.heap.size,1,none⟩ (.int .i64 0)) = X at *;obtain ⟨⟨c0,c1⟩,_⟩ := row2 h3.row;have hr3 := h3.row;have hkst := h3.keeps;have hO3 := h3.out
   have hZ3 : ∀ k,(Z k \/ k = w.heap.size) -> k < X.heap.size := fun k hk => by rw [h3.size]; exact hZ2 k hk
   clear h3 h2
   go_wp2_with fail
   refine (qbz 0 _ rfl X o _ _ hO3 hZ3).mono ?_;rintro e w2 ⟨rfl,h3,k3⟩;have h3' : Out w2 o (l ++ num8 0) (fun k => Z k \/ k = w.heap.size) := h3;have hr4 := (k3.block w.heap.size (hlt hr3) (.inr rfl)).trans hr3;have hZ4 : ∀ k,(Z k \/ k = w.heap.size) -> k < w2.heap.size := fun k hk => Nat.lt_of_lt_of_le (hZ3 k hk) k3.size;obtain ⟨⟨d0,d1⟩,_⟩ := row2 hr4;clear b0 b1 f0 f1 c0 c1 h3 hO3 hX
   go_wp2_with fail
   refine (qbz 0 _ rfl w2 o _ _ h3' hZ4).mono ?_;rintro e w3 ⟨rfl,h4,k4⟩;have h4' : Out w3 o ((l ++ num8 0) ++ num8 0) (fun k => Z k \/ k = w.heap.size) := h4;rw [e8] at h4';go_wp2;refine bodyPost_end (results_none rfl _ _ _) rfl ?_;exact ⟨rfl,h4'.un,(hk2.trans hkst).trans ((k3.trans k4).mono fun k hk => .inl hk)⟩
theorem qcG (b : Bool) (w : World) (i : Nat) (s : St) (Z : Nat -> Prop) (h : In w i s Z) :
 Calls Tryz.prog 180 #[.pointer (some ⟨i,0,none⟩), .bool b] w fun e w' => e = .returned (.bool (b && s.isSome)) /\ In w' i (if b = true then s else none) Z /\ qa Z w w' := by
 cases b with
 | true =>
   have hB := qgJ w i s Z h
   have hs : s.isSome = !s.isNone := by cases s <;> rfl
   rw [if_pos rfl,Bool.true_and,hs];clear hs;generalize s.isNone = n at *
   go_enter Tryz.func180,Tryz.ntmps180
   go_wp2_with fail
   refine hB.mono ?_;rintro e w1 ⟨rfl,rfl⟩;go_wp2;go_ret;exact ⟨rfl,h,qa.refl _ _⟩
 | false =>
   rw [if_neg (by simp),Bool.false_and];have hF := qbA w i s Z h
   go_enter Tryz.func180,Tryz.ntmps180
   go_wp2_with fail
   refine hF.mono ?_;rintro e w1 ⟨rfl,h1,k1⟩;have hB := qgJ w1 i none Z h1
   go_wp2_with fail
   refine hB.mono ?_;rintro e w2 ⟨rfl,rfl⟩;go_wp2;go_ret;exact ⟨rfl,h1,k1⟩
end Go.Proofs.YtogbhedbgcmckaaGreat
set_option linter.unusedVariables false
set_option linter.unusedSimpArgs false
set_option maxRecDepth 100000
set_option maxHeartbeats 200000
namespace Go.Proofs.YtogbhedbgcmckaaGreat
open Go.RowKit
structure qk4 where
 i : Int
 t : Int
 d : List UInt8
 s : St
def qQ (s : St) (most : Int) : qk4 :=
 ⟨IntKind.i64.wrap ((numberN s 8).1 : Int),IntKind.i64.wrap ((numberN (numberN s 8).2 8).1 : Int),(qbc (numberN (numberN s 8).2 8).2 most).1,(qbc (numberN (numberN s 8).2 8).2 most).2⟩
end Go.Proofs.YtogbhedbgcmckaaGreat
