/- More than half: what is reached. Plain mathematics. -/
import Derived.WalkKit
import Derived.Test.YtmiijlecfiddmaaProg
import Derived.Test.YtmiijlecfiddmaaNNM01
import Derived.Deep.LoopGhost
import Derived.BigQuiet
import Derived.IntWalk
import Derived.Lib.Hide
import Derived.Ground.SlgnProg
import Derived.Shelf.SlicesG.Clone
import Derived.Shelf.SortG.Plain
import Derived.Sort.OwnSortedInts
set_option linter.unusedVariables false
set_option linter.unusedSimpArgs false
set_option maxRecDepth 100000
set_option maxHeartbeats 200000
namespace Go.Proofs.Ytmiijlecfiddmaa
def cnt (l : List Int) (x : Int) : Nat := l.countP fun y => decide (x <= y)
def qbE (l : List Int) (s : Option Int) (x : Int) : Option Int := if l.length / 2 < cnt l x /\ (∀ b,s = some b -> b < x) then some x else s
def qad (l : List Int) (k : Nat) : Option Int := (l.take k).foldl (qbE l) none
def reach (l : List Int) : Int := (qad l l.length).getD 0
theorem qcl {l : List Int} {k : Nat} (hk : k < l.length) : qad l (k + 1) = qbE l (qad l k) l[k] := by
 unfold qad
 rw [List.take_succ_eq_append_getElem hk,List.foldl_append]
 rfl
def Best (l m : List Int) (s : Option Int) : Prop := (∀ b,s = some b -> b ∈ m /\ l.length / 2 < cnt l b /\ ∀ x ∈ m,l.length / 2 < cnt l x -> x <= b) /\ (s = none -> ∀ x ∈ m,¬ l.length / 2 < cnt l x)
theorem qdb {l m : List Int} {s : Option Int} (h : Best l m s) (x : Int) : Best l (m ++ [x]) (qbE l s x) := by
 unfold qbE
 by_cases hx : l.length / 2 < cnt l x /\ (∀ b,s = some b -> b < x)
 · rw [if_pos hx]
   refine ⟨fun b hb => ?_,fun e => by cases e⟩
   injection hb with hb
   subst hb
   refine ⟨by simp,hx.1,fun y hy hc => ?_⟩
   rcases List.mem_append.1 hy with hy | hy
   · cases hs : s with
     | none => exact absurd hc (h.2 hs y hy)
     | some b =>
       have h1 := (h.1 b hs).2.2 y hy hc
       have h2 := hx.2 b hs
       omega
   · rw [List.mem_singleton.1 hy]; omega
 · rw [if_neg hx]
   refine ⟨fun b hb => ?_,fun e => ?_⟩
   · obtain ⟨h1,h2,h3⟩ := h.1 b hb
     refine ⟨List.mem_append_left _ h1,h2,fun y hy hc => ?_⟩
     rcases List.mem_append.1 hy with hy | hy
     · exact h3 y hy hc
     · rw [List.mem_singleton.1 hy] at hc ⊢
       rcases Int.lt_or_le b x with h4 | h4
       · exact absurd ⟨hc,fun b' hb' => by rw [hb] at hb'; injection hb' with hb'; rw [<- hb']; exact h4⟩ hx
       · exact h4
   · intro y hy
     rcases List.mem_append.1 hy with hy | hy
     · exact h.2 e y hy
     · rw [List.mem_singleton.1 hy]
       intro hc
       exact hx ⟨hc,fun b' hb' => by rw [e] at hb'; cases hb'⟩
theorem qbV (l : List Int) : ∀ k,k <= l.length -> Best l (l.take k) (qad l k)
 | 0,_ => ⟨fun b hb => by simp [qad] at hb,fun _ x hx => by simp at hx⟩
 | k + 1,hk => by
   rw [qcl (by omega),List.take_succ_eq_append_getElem (by omega)]
   exact qdb (qbV l k (by omega)) _
theorem least (l : List Int) (h : 0 < l.length) : ∃ x ∈ l,∀ y ∈ l,x <= y := by
 induction l with
 | nil => simp at h
 | cons a l ih =>
   rcases Nat.eq_zero_or_pos l.length with h0 | h0
   · rw [List.eq_nil_of_length_eq_zero h0]
     exact ⟨a,by simp,fun y hy => by rw [List.mem_singleton.1 hy]; omega⟩
   · obtain ⟨x,hx,hall⟩ := ih h0
     rcases Int.lt_or_le a x with h1 | h1
     · exact ⟨a,by simp,fun y hy => by
        rcases List.mem_cons.1 hy with rfl | hy
        · omega
        · have := hall y hy; omega⟩
     · exact ⟨x,List.mem_cons_of_mem _ hx,fun y hy => by
        rcases List.mem_cons.1 hy with rfl | hy
        · exact h1
        · exact hall y hy⟩
theorem qcs {l : List Int} {x : Int} (h : ∀ y ∈ l,x <= y) : cnt l x = l.length := by
 unfold cnt
 rw [List.countP_eq_length]
 exact fun y hy => decide_eq_true (h y hy)
theorem qbW {l : List Int} (h : 0 < l.length) : reach l ∈ l /\ l.length / 2 < cnt l (reach l) /\ ∀ x ∈ l,l.length / 2 < cnt l x -> x <= reach l := by
 have hb := qbV l l.length (Nat.le_refl _)
 rw [List.take_length] at hb
 unfold reach
 cases hr : qad l l.length with
 | none =>
   obtain ⟨x,hx,hall⟩ := least l h
   have := hb.2 hr x hx
   rw [qcs hall] at this
   omega
 | some b => exact hb.1 b hr
theorem qdC {l : List Int} (h : 0 < l.length) {v : Int} (h1 : v ∈ l) (h2 : l.length / 2 < cnt l v) (h3 : ∀ x ∈ l,l.length / 2 < cnt l x -> x <= v) : reach l = v := by
 obtain ⟨a,b,c⟩ := qbW h
 have := c v h1 h2
 have := h3 _ a b
 omega
theorem qbX {l m : List Int} (h : l.Perm m) (x : Int) : cnt l x = cnt m x := h.countP_eq _
theorem qbr (l : List Int) (k : Nat) (x : Int) : cnt l x = cnt (l.take k) x + cnt (l.drop k) x := by
 unfold cnt
 rw [<- List.countP_append,List.take_append_drop]
theorem qbY {l s : List Int} (hp : s.Perm l) (hs : s.Pairwise fun a b => a <= b) (h : 0 < l.length) {m : Nat} (hm : m = (l.length - 1) / 2) (hml : m < s.length) : reach l = s[m] := by
 have hle := hp.length_eq
 have hsplit : s = s.take m ++ s[m] :: s.drop (m + 1) := by rw [<- List.drop_eq_getElem_cons hml,List.take_append_drop]
 have hup : ∀ y ∈ s.drop m,s[m] <= y := by
  rw [List.drop_eq_getElem_cons hml]
  intro y hy
  rcases List.mem_cons.1 hy with rfl | hy
  · omega
  · have hs' := hs
    rw [hsplit] at hs'
    exact (List.pairwise_cons.1 (List.pairwise_append.1 hs').2.1).1 y hy
 refine qdC h (hp.mem_iff.1 (List.getElem_mem hml)) ?_ fun x hx hc => ?_
 · rw [<- qbX hp]
   rw [qbr s m,qcs hup,List.length_drop]
   omega
 · rcases Int.lt_or_le s[m] x with h1 | h1
   · exfalso
     rw [<- qbX hp] at hc
     have e := qbr s (m + 1) x
     have e0 : cnt (s.take (m + 1)) x = 0 := by
      unfold cnt
      rw [List.countP_eq_zero]
      intro y hy
      rw [List.take_succ_eq_append_getElem hml] at hy
      simp only [decide_eq_true_eq]
      rcases List.mem_append.1 hy with hy | hy
      · have hs' := hs
        rw [hsplit] at hs'
        have := (List.pairwise_append.1 hs').2.2 y hy s[m] (List.mem_cons_self ..)
        omega
      · rw [List.mem_singleton.1 hy]; omega
     have e1 : cnt (s.drop (m + 1)) x <= (s.drop (m + 1)).length := List.countP_le_length
     rw [List.length_drop] at e1
     omega
   · exact h1
def wonB (k n : Int) : Bool := decide (1 <= n) && (decide (0 <= k) && (decide (k <= n) && decide (n - k < k)))
end Go.Proofs.Ytmiijlecfiddmaa
set_option linter.unusedVariables false
set_option linter.unusedSimpArgs false
set_option maxRecDepth 100000
set_option maxHeartbeats 200000
namespace Go.Proofs.Ytmiijlecfiddmaa
open Go.RowKit
def Nums (w : World) (A : Option Addr) (len : Nat) (l : List Int) : Prop :=
 l.length = len /\ (0 < len -> ∃ g off,A = some ⟨g,off,none⟩ /\ g < w.heap.size /\ ∀ j (hj : j < l.length),w.cell? ⟨g,off + j,none⟩ = some (.int .i64 l[j]))
theorem Nums.below {w w' : World} {A : Option Addr} {len : Nat} {l : List Int} (h : Nums w A len l) (hb : Below w.heap.size w w') : Nums w' A len l := by
 refine ⟨h.1,fun h0 => ?_⟩
 obtain ⟨g,off,e,hg,hc⟩ := h.2 h0
 exact ⟨g,off,e,Nat.lt_of_lt_of_le hg hb.size,fun j hj => (hb.cell (p := ⟨g,off + j,none⟩) hg).trans (hc j hj)⟩
theorem below_drewN {B : Nat} {w w' : World} (h : Below B w w') (n : Nat) : Below B w (w'.drewN n) := ⟨h.os,h.tape,h.output,h.size,h.block⟩
end Go.Proofs.Ytmiijlecfiddmaa
set_option linter.unusedVariables false
set_option linter.unusedSimpArgs false
set_option maxRecDepth 100000
set_option maxHeartbeats 200000
namespace Go.Proofs.Ytmiijlecfiddmaa
open Go.RowKit
abbrev In64 (x : Int) : Prop := -9223372036854775808 <= x /\ x <= 9223372036854775807
end Go.Proofs.Ytmiijlecfiddmaa
set_option linter.unusedVariables false
set_option linter.unusedSimpArgs false
set_option maxRecDepth 100000
set_option maxHeartbeats 200000
namespace Go.Proofs.Ytmiijlecfiddmaa
open Go.RowKit
def qal (k n : Int) : Bool := decide (1 <= n) && (decide (0 <= k) && decide (k <= n))
theorem qdX (k n : Int) (w : World) : Calls Try.prog 55 #[.int .i64 k, .int .i64 n] w fun e w' => e = .returned (.bool (qal k n)) /\ w = w' := by
 unfold qal
 by_cases h1 : 1 <= n
 · rw [decide_eq_true h1,Bool.true_and]
   by_cases h2 : 0 <= k
   · rw [decide_eq_true h2,Bool.true_and]
     go_enter Try.func55,Try.ntmps55
     go_wp2
     go_ret
     exact ⟨rfl,rfl⟩
   · have e1 : decide (0 <= k) = false := decide_eq_false h2
     have e2 : (0 <= k) = False := eq_false h2
     rw [e1,Bool.false_and]
     clear h2
     go_enter Try.func55,Try.ntmps55
     go_wp2
     go_ret
     exact ⟨rfl,rfl⟩
 · have e1 : decide (1 <= n) = false := decide_eq_false h1
   have e2 : (1 <= n) = False := eq_false h1
   rw [e1,Bool.false_and]
   clear h1
   go_enter Try.func55,Try.ntmps55
   go_wp2
   go_ret
   exact ⟨rfl,rfl⟩
theorem qdD {k n : Int} (h : qal k n = true) : wonB k n = decide (n - k < k) := by
 simp only [qal,Bool.and_eq_true,decide_eq_true_eq] at h
 simp [wonB,h.1,h.2.1,h.2.2]
theorem qdE {k n : Int} (h : qal k n = false) : wonB k n = false := by
 cases hw : wonB k n with
 | false => rfl
 | true =>
   simp only [wonB,Bool.and_eq_true,decide_eq_true_eq] at hw
   simp [qal,hw.1,hw.2.1,hw.2.2.1] at h
theorem qdc (k n : Int) (hn : n <= 9223372036854775807) (w : World) : Calls Try.prog 50 #[.int .i64 k, .int .i64 n] w fun e w' => e = .returned (.bool (wonB k n)) /\ w = w' := by
 have hS := fun W => qdX k n W
 cases hs : qal k n with
 | false =>
   rw [qdE hs]
   rw [hs] at hS
   clear hs hn
   go_enter Try.func50,Try.ntmps50
   go_wp2_with fail
   refine (hS _).mono ?_
   rintro e w1 ⟨rfl,rfl⟩
   clear hS
   go_wp2
   go_ret
   exact ⟨rfl,rfl⟩
 | true =>
   rw [qdD hs]
   obtain ⟨J,hJ⟩ : ∃ J,J = n - k := ⟨_,rfl⟩
   have m1 : wrap64 (n - k) = J := by
    simp only [qal,Bool.and_eq_true,decide_eq_true_eq] at hs
    rw [hJ,<- IntWalk.i64_left,IntWalk.i64_in _ (by omega)]
   rw [<- hJ]
   rw [hs] at hS
   clear hJ hn hs
   go_enter Try.func50,Try.ntmps50
   go_wp2_with fail
   refine (hS _).mono ?_
   rintro e w1 ⟨rfl,rfl⟩
   clear hS
   go_wp2
   go_ret
   exact ⟨rfl,rfl⟩
end Go.Proofs.Ytmiijlecfiddmaa
set_option linter.unusedVariables false
set_option linter.unusedSimpArgs false
set_option maxRecDepth 100000
set_option maxHeartbeats 200000
namespace Go.Proofs.Ytmiijlecfiddmaa
open Go.Shelf
def qdF : Go.Shelf.Ren := ⟨fun | 41 => 53 | n => n,fun | 22 => 36 | 23 => 2 | 4 => 4 | n => n,fun | n => n⟩
theorem qdd : Go.Proofs.SlLaysN.n41 Try.prog qdF := {
 mixed := by kernel_rfl
 f41 := ⟨Try.f53.name,by decide,Try.func53.trans (congrArg some (by kernel_rfl))⟩
 t4 := Try.underlying4
 a4 := Try.isAgg4
 z4 := Try.sizeOf4
 v4 := Try.zeroValue4
 t22 := Try.underlying36
 a22 := Try.isAgg36
 z22 := Try.sizeOf36
 v22 := Try.zeroValue36
 t23 := Try.underlying2
 a23 := Try.isAgg2
 z23 := Try.sizeOf2
 v23 := Try.zeroValue2
 i23 := by kernel_rfl }
open Go.RowKit Go.Lib in
theorem qcI (b off n c : Nat) (zs : List Int) (w : World) (hz : n <= zs.length) (hbig : n * 8 <= 140737488355328) (hc : ∀ j,j < zs.length -> w.cell? ⟨b,off + j,none⟩ = some (.int .i64 (zs.getD j 0))) :
 Calls Try.prog 53 #[.slice (some ⟨b,off,none⟩) n c] w fun e w' => ∃ v',e = .returned v' /\ w'.ownsRow w.heap.size 2 1 v' n ((zs.take n).map (Value.int .i64)) /\ v' ≠ .slice none 0 0 /\ Below w.heap.size w w' := AnyG.slices_Clone_int qdd b off n c zs w hz hbig hc
open Go.RowKit Go.Lib in
open Go.RowKit Go.Lib in
def qdY : Go.Shelf.Ren := ⟨fun | 53 => 54 | 64 => 57 | 63 => 56 | 78 => 67 | 79 => 68 | 70 => 58 | 71 => 59 | 72 => 60 | 73 => 61 | 74 => 62 | 75 => 63 | 59 => 64 | 76 => 65 | 77 => 66 | 88 => 69 | 89 => 70 | 90 => 71 | 91 => 72 | 92 => 73 | 68 => 74 | 96 => 75 | n => n,fun | 22 => 36 | 23 => 2 | 3 => 3 | 51 => 101 | 0 => 0 | 67 => 110 | 69 => 112 | 4 => 4 | 61 => 104 | 60 => 103 | 44 => 88 | 5 => 5 | 9 => 9 | 75 => 113 | 79 => 117 | 83 => 119 | 84 => 120 | n => n,fun | n => n⟩
theorem qdG : Go.Proofs.SlLaysN.n53 Try.prog qdY := {
 mixed := by kernel_rfl
 f53 := ⟨Try.f54.name,by decide,Try.func54.trans (congrArg some (by kernel_rfl))⟩
 f59 := ⟨Try.f64.name,by decide,Try.func64.trans (congrArg some (by kernel_rfl))⟩
 f63 := ⟨Try.f56.name,by decide,Try.func56.trans (congrArg some (by kernel_rfl))⟩
 f64 := Try.func57.trans (congrArg some (by kernel_rfl))
 f68 := ⟨Try.f74.name,by decide,Try.func74.trans (congrArg some (by kernel_rfl))⟩
 f70 := ⟨Try.f58.name,by decide,Try.func58.trans (congrArg some (by kernel_rfl))⟩
 f71 := ⟨Try.f59.name,by decide,Try.func59.trans (congrArg some (by kernel_rfl))⟩
 f72 := ⟨Try.f60.name,by decide,Try.func60.trans (congrArg some (by kernel_rfl))⟩
 f73 := ⟨Try.f61.name,by decide,Try.func61.trans (congrArg some (by kernel_rfl))⟩
 f74 := ⟨Try.f62.name,by decide,Try.func62.trans (congrArg some (by kernel_rfl))⟩
 f75 := ⟨Try.f63.name,by decide,Try.func63.trans (congrArg some (by kernel_rfl))⟩
 f76 := ⟨Try.f65.name,by decide,Try.func65.trans (congrArg some (by kernel_rfl))⟩
 f77 := ⟨Try.f66.name,by decide,Try.func66.trans (congrArg some (by kernel_rfl))⟩
 f78 := Try.func67.trans (congrArg some (by kernel_rfl))
 f79 := Try.func68.trans (congrArg some (by kernel_rfl))
 f88 := ⟨Try.f69.name,by decide,Try.func69.trans (congrArg some (by kernel_rfl))⟩
 f89 := Try.func70.trans (congrArg some (by kernel_rfl))
 f90 := Try.func71.trans (congrArg some (by kernel_rfl))
 f91 := ⟨Try.f72.name,by decide,Try.func72.trans (congrArg some (by kernel_rfl))⟩
 f92 := ⟨Try.f73.name,by decide,Try.func73.trans (congrArg some (by kernel_rfl))⟩
 f96 := ⟨Try.f75.name,by decide,Try.func75.trans (congrArg some (by kernel_rfl))⟩
 t0 := Try.underlying0
 a0 := Try.isAgg0
 z0 := Try.sizeOf0
 v0 := Try.zeroValue0
 t3 := Try.underlying3
 a3 := Try.isAgg3
 z3 := Try.sizeOf3
 v3 := Try.zeroValue3
 t4 := Try.underlying4
 a4 := Try.isAgg4
 z4 := Try.sizeOf4
 v4 := Try.zeroValue4
 t5 := Try.underlying5
 a5 := Try.isAgg5
 z5 := Try.sizeOf5
 v5 := Try.zeroValue5
 t9 := Try.underlying9
 a9 := Try.isAgg9
 z9 := Try.sizeOf9
 v9 := Try.zeroValue9
 t22 := Try.underlying36
 a22 := Try.isAgg36
 z22 := Try.sizeOf36
 v22 := Try.zeroValue36
 t23 := Try.underlying2
 a23 := Try.isAgg2
 z23 := Try.sizeOf2
 v23 := Try.zeroValue2
 t44 := Try.underlying88
 a44 := Try.isAgg88
 z44 := Try.sizeOf88
 v44 := Try.zeroValue88
 t51 := Try.underlying101
 a51 := Try.isAgg101
 z51 := Try.sizeOf101
 v51 := Try.zeroValue101
 t60 := Try.underlying103
 a60 := Try.isAgg103
 z60 := Try.sizeOf103
 v60 := Try.zeroValue103
 t61 := Try.underlying104
 a61 := Try.isAgg104
 z61 := Try.sizeOf104
 v61 := Try.zeroValue104
 t67 := Try.underlying110
 a67 := Try.isAgg110
 z67 := Try.sizeOf110
 v67 := Try.zeroValue110
 t69 := Try.underlying112
 a69 := Try.isAgg112
 z69 := Try.sizeOf112
 v69 := Try.zeroValue112
 t75 := Try.underlying113
 a75 := Try.isAgg113
 z75 := Try.sizeOf113
 v75 := Try.zeroValue113
 t79 := Try.underlying117
 a79 := Try.isAgg117
 z79 := Try.sizeOf117
 v79 := Try.zeroValue117
 t83 := Try.underlying119
 a83 := Try.isAgg119
 z83 := Try.sizeOf119
 v83 := Try.zeroValue119
 t84 := Try.underlying120
 a84 := Try.isAgg120
 z84 := Try.sizeOf120
 v84 := Try.zeroValue120 }
open Go.RowKit Go.Lib Go.Sort in
theorem qde (blk off cap : Nat) (zs : List Int) (w : World) (hH : Holds (Value.int .i64) w blk off zs.toArray) (hblk : blk < w.heap.size) (hsz : zs.length < 4611686018427387904) :
 Calls Try.prog 54 #[.slice (some ⟨blk,off,none⟩) zs.length cap] w fun e w' => e = .returned (.tuple #[]) /\ ∃ n os,w' = grow (putRow (Value.int .i64) (Sort.ahead w n) blk off (zs.mergeSort fun x y => decide (x <= y)).toArray) os := AnyG.slices_Sort_int qdG blk off cap zs w hH hblk hsz
end Go.Proofs.Ytmiijlecfiddmaa
set_option linter.unusedVariables false
set_option linter.unusedSimpArgs false
set_option maxRecDepth 100000
set_option maxHeartbeats 200000
namespace Go.Proofs.Ytmiijlecfiddmaa
open Go.RowKit Go.Sort
def rising (l : List Int) : List Int := l.mergeSort fun x y => decide (x <= y)
theorem qaU (l : List Int) : (rising l).Perm l := List.mergeSort_perm _ _
theorem qaz (l : List Int) : (rising l).length = l.length := (qaU l).length_eq
theorem qbZ (l : List Int) : (rising l).Pairwise fun a b => a <= b := by
 have h := List.pairwise_mergeSort (le := fun x y : Int => decide (x <= y)) (fun a b c h1 h2 => by simp only [decide_eq_true_eq] at *; omega) (fun a b => by simp only [Bool.or_eq_true,decide_eq_true_eq]; omega) l
 exact h.imp fun h => by simpa using h
theorem qb0 {l : List Int} (h : 0 < l.length) {m : Nat} (hm : m = (l.length - 1) / 2) : (rising l).getD m 0 = reach l := by
 have hml : m < (rising l).length := by rw [qaz]; omega
 rw [qbY (qaU l) (qbZ l) h hm hml]
 simp [List.getD,List.getElem?_eq_getElem hml]
theorem qcJ {l : List Int} (h : l.length = 0) : reach l = 0 := by
 rw [List.eq_nil_of_length_eq_zero h]; rfl
theorem qb1 {B g n : Nat} {w0 w : World} (os : Array Obj) (d : Array Int) (hb : Below B w0 w) (hB : B <= w.heap.size) (hg : B <= g) :
 Below B w0 (grow (putRow (Value.int .i64) (Sort.ahead w n) g 0 d) os) :=
 hb.grown (grownBy_sortedI d) hB (fun k e => by injection e with e; omega)
theorem qcm (w : World) (A : Option Addr) (len cap : Nat) (l : List Int) (h : Nums w A len l) (hlc : len <= cap) (hno : A = none -> cap = 0) (h100 : len <= 100) (hin : ∀ x ∈ l,In64 x) :
 Calls Try.prog 45 #[.slice A len cap] w fun e w' => e = .returned (.int .i64 (reach l)) /\ Below w.heap.size w w' := by
 rcases Nat.eq_zero_or_pos len with h0 | h0
 · subst h0
   rw [qcJ h.1]
   go_enter Try.func45,Try.ntmps45
   go_wp2
   go_ret
   exact ⟨rfl,Below.refl _ _⟩
 · obtain ⟨g,off,hA,hg,hc⟩ := h.2 h0
   have hlen := h.1
   subst hA
   have hcl := qcI g off len cap l w (by omega) (by omega) (fun j hj => by rw [hc j hj]; simp [List.getD,List.getElem?_eq_getElem hj])
   rw [List.take_of_length_le (by omega)] at hcl
   have hpos : 0 < l.length := by omega
   have hne : (len : Int) ≠ 0 := by omega
   have hr := fun m hm => qb0 (l := l) hpos (m := m) hm
   generalize reach l = R at *
   clear hc hin hno
   go_enter Try.func45,Try.ntmps45
   go_wp2_with fail
   refine hcl.mono ?_
   clear hcl
   rintro e w1 ⟨v1,rfl,hown,hnn,hb1⟩
   rcases hown.2 with ⟨e0,_⟩ | ⟨g1,cap1,cur,rfl,hg1,hb,hn1,hcap1,hcs,hct⟩
   · exact absurd e0 hnn
   · rw [Nat.mul_one] at hct
     have hH : Holds (Value.int .i64) w1 g1 0 l.toArray := holds_of_blockI hb (by rw [hlen]; exact hct)
     have hlt1 : g1 < w1.heap.size := (Array.getElem?_eq_some_iff.1 hb).1
     have hs := qde g1 0 cap1 l w1 hH hlt1 (by omega)
     rw [hlen] at hs
     go_wp2_with fail
     refine hs.mono ?_
     clear hs
     rintro e w2 ⟨rfl,n2,os,hw2⟩
     have hb2 : Below w.heap.size w w2 := hw2 ▸ qb1 os _ hb1 hb1.size hg1
     have hcell : w2.cell? ⟨g1,(len - 1) / 2,none⟩ = some (.int .i64 R) := by
      have hm : (len - 1) / 2 < len := by omega
      have ho := ownsRow_sortedI (w := w1) (n := n2) (os := os) (ss := l) (ts := rising l) (base := w.heap.size) (cap := cap1) (qaz l) hg1 hb (by omega) hcap1 hcs
      have hc := ho.cellAt ((len - 1) / 2) (by rw [hlen]; omega)
      rw [hw2,<- hr ((len - 1) / 2) (by rw [hlen])]
      refine hc.trans ?_
      have hm' : (len - 1) / 2 < (rising l).length := by rw [qaz]; omega
      simp [List.getD,List.getElem?_eq_getElem hm']
     clear hw2 hH hown hb hct hcs hr
     go_wp2
     go_ret
     exact ⟨rfl,hb2⟩
end Go.Proofs.Ytmiijlecfiddmaa
