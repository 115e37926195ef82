/- More than half: what is reached. Plain mathematics. -/
import Derived.WalkKit
import Derived.Test.YtmiijlecfiddmaaGreatNNM01
import Derived.Test.YtmiijlecfiddmaaGreatProg
import Derived.Test.YtmiijlecfiddmaaGreatNNM02
import Derived.Deep.LoopGhost
import Derived.BigQuiet
import Derived.IntWalk
import Derived.Lib.Hide
import Derived.Ground.SlgnProg
import Derived.Shelf.SlicesG.Clone
import Derived.Shelf.SortG.Plain
import Derived.Sort.OwnSortedInts
set_option linter.unusedVariables false
set_option linter.unusedSimpArgs false
set_option maxRecDepth 100000
set_option maxHeartbeats 200000
namespace Go.Proofs.YtmiijlecfiddmaaGreat
def cnt (l : List Int) (x : Int) : Nat := l.countP fun y => decide (x <= y)
def qeP (l : List Int) (s : Option Int) (x : Int) : Option Int := if l.length / 2 < cnt l x /\ (∀ b,s = some b -> b < x) then some x else s
def qbv (l : List Int) (k : Nat) : Option Int := (l.take k).foldl (qeP l) none
def reach (l : List Int) : Int := (qbv l l.length).getD 0
theorem qgd {l : List Int} {k : Nat} (hk : k < l.length) : qbv l (k + 1) = qeP l (qbv l k) l[k] := by
 unfold qbv;rw [List.take_succ_eq_append_getElem hk,List.foldl_append]
 rfl
def Best (l m : List Int) (s : Option Int) : Prop := (∀ b,s = some b -> b ∈ m /\ l.length / 2 < cnt l b /\ ∀ x ∈ m,l.length / 2 < cnt l x -> x <= b) /\ (s = none -> ∀ x ∈ m,¬ l.length / 2 < cnt l x)
theorem qhV {l m : List Int} {s : Option Int} (h : Best l m s) (x : Int) : Best l (m ++ [x]) (qeP l s x) := by
 unfold qeP
 by_cases hx : l.length / 2 < cnt l x /\ (∀ b,s = some b -> b < x)
 · rw [if_pos hx];refine ⟨fun b hb => ?_,fun e => by cases e⟩;injection hb with hb;subst hb;refine ⟨by simp,hx.1,fun y hy hc => ?_⟩;rcases List.mem_append.1 hy with hy | hy
   · cases hs : s with
     | none => exact absurd hc (h.2 hs y hy)
     | some b =>
       have h1 := (h.1 b hs).2.2 y hy hc;have h2 := hx.2 b hs;omega
   · rw [List.mem_singleton.1 hy]; omega
 · rw [if_neg hx];refine ⟨fun b hb => ?_,fun e => ?_⟩
   · obtain ⟨h1,h2,h3⟩ := h.1 b hb;refine ⟨List.mem_append_left _ h1,h2,fun y hy hc => ?_⟩;rcases List.mem_append.1 hy with hy | hy
     · exact h3 y hy hc
     · rw [List.mem_singleton.1 hy] at hc ⊢;rcases Int.lt_or_le b x with h4 | h4
       · exact absurd ⟨hc,fun b' hb' => by rw [hb] at hb'; injection hb' with hb'; rw [<- hb']; exact h4⟩ hx
       · exact h4
   · intro y hy;rcases List.mem_append.1 hy with hy | hy
     · exact h.2 e y hy
     · rw [List.mem_singleton.1 hy];intro hc;exact hx ⟨hc,fun b' hb' => by rw [e] at hb'; cases hb'⟩
theorem qfa (l : List Int) : ∀ k,k <= l.length -> Best l (l.take k) (qbv l k)
 | 0,_ => ⟨fun b hb => by simp [qbv] at hb,fun _ x hx => by simp at hx⟩
 | k + 1,hk => by
   rw [qgd (by omega),List.take_succ_eq_append_getElem (by omega)];exact qhV (qfa l k (by omega)) _
theorem least (l : List Int) (h : 0 < l.length) : ∃ x ∈ l,∀ y ∈ l,x <= y := by
 induction l with
 | nil => simp at h
 | cons a l ih =>
   rcases Nat.eq_zero_or_pos l.length with h0 | h0
   · rw [List.eq_nil_of_length_eq_zero h0];exact ⟨a,by simp,fun y hy => by rw [List.mem_singleton.1 hy]; omega⟩
   · obtain ⟨x,hx,hall⟩ := ih h0;rcases Int.lt_or_le a x with h1 | h1
     · exact ⟨a,by simp,fun y hy => by
        rcases List.mem_cons.1 hy with rfl | hy
        · omega
        · have := hall y hy; omega⟩
     · exact ⟨x,List.mem_cons_of_mem _ hx,fun y hy => by
        rcases List.mem_cons.1 hy with rfl | hy
        · exact h1
        · exact hall y hy⟩
theorem qgr {l : List Int} {x : Int} (h : ∀ y ∈ l,x <= y) : cnt l x = l.length := by
 unfold cnt;rw [List.countP_eq_length]
 exact fun y hy => decide_eq_true (h y hy)
theorem qfb {l : List Int} (h : 0 < l.length) : reach l ∈ l /\ l.length / 2 < cnt l (reach l) /\ ∀ x ∈ l,l.length / 2 < cnt l x -> x <= reach l := by
 have hb := qfa l l.length (Nat.le_refl _);rw [List.take_length] at hb;unfold reach
 cases hr : qbv l l.length with
 | none =>
   obtain ⟨x,hx,hall⟩ := least l h;have := hb.2 hr x hx;rw [qgr hall] at this;omega
 | some b => exact hb.1 b hr
theorem qjq {l : List Int} (h : 0 < l.length) {v : Int} (h1 : v ∈ l) (h2 : l.length / 2 < cnt l v) (h3 : ∀ x ∈ l,l.length / 2 < cnt l x -> x <= v) : reach l = v := by
 obtain ⟨a,b,c⟩ := qfb h;have := c v h1 h2;have := h3 _ a b;omega
theorem qfc {l m : List Int} (h : l.Perm m) (x : Int) : cnt l x = cnt m x := h.countP_eq _
theorem qed (l : List Int) (k : Nat) (x : Int) : cnt l x = cnt (l.take k) x + cnt (l.drop k) x := by
 unfold cnt;rw [<- List.countP_append,List.take_append_drop]
theorem qfd {l s : List Int} (hp : s.Perm l) (hs : s.Pairwise fun a b => a <= b) (h : 0 < l.length) {m : Nat} (hm : m = (l.length - 1) / 2) (hml : m < s.length) : reach l = s[m] := by
 have hle := hp.length_eq
 have hsplit : s = s.take m ++ s[m] :: s.drop (m + 1) := by rw [<- List.drop_eq_getElem_cons hml,List.take_append_drop]
 have hup : ∀ y ∈ s.drop m,s[m] <= y := by
  rw [List.drop_eq_getElem_cons hml];intro y hy;rcases List.mem_cons.1 hy with rfl | hy
  · omega
  · have hs' := hs;rw [hsplit] at hs';exact (List.pairwise_cons.1 (List.pairwise_append.1 hs').2.1).1 y hy
 refine qjq h (hp.mem_iff.1 (List.getElem_mem hml)) ?_ fun x hx hc => ?_
 · rw [<- qfc hp];rw [qed s m,qgr hup,List.length_drop];omega
 · rcases Int.lt_or_le s[m] x with h1 | h1
   · exfalso
     rw [<- qfc hp] at hc;have e := qed s (m + 1) x
     have e0 : cnt (s.take (m + 1)) x = 0 := by
      unfold cnt;rw [List.countP_eq_zero];intro y hy;rw [List.take_succ_eq_append_getElem hml] at hy;simp only [decide_eq_true_eq];rcases List.mem_append.1 hy with hy | hy
      · have hs' := hs;rw [hsplit] at hs';have := (List.pairwise_append.1 hs').2.2 y hy s[m] (List.mem_cons_self ..);omega
      · rw [List.mem_singleton.1 hy]; omega
     have e1 : cnt (s.drop (m + 1)) x <= (s.drop (m + 1)).length := List.countP_le_length;rw [List.length_drop] at e1;omega
   · exact h1
def wonB (k n : Int) : Bool := decide (1 <= n) && (decide (0 <= k) && (decide (k <= n) && decide (n - k < k)))
def qbK (k n : Int) : Bool := decide (1 <= n) && (decide (0 <= k) && (decide (k <= n) && decide (n - k <= k)))
end Go.Proofs.YtmiijlecfiddmaaGreat
set_option linter.unusedVariables false
set_option linter.unusedSimpArgs false
set_option maxRecDepth 100000
set_option maxHeartbeats 200000
namespace Go.Proofs.YtmiijlecfiddmaaGreat
open Go.RowKit
def Nums (w : World) (A : Option Addr) (len : Nat) (l : List Int) : Prop :=
 l.length = len /\ (0 < len -> ∃ g off,A = some ⟨g,off,none⟩ /\ g < w.heap.size /\ ∀ j (hj : j < l.length),w.cell? ⟨g,off + j,none⟩ = some (.int .i64 l[j]))
theorem below_drewN {B : Nat} {w w' : World} (h : Below B w w') (n : Nat) : Below B w (w'.drewN n) := ⟨h.os,h.tape,h.output,h.size,h.block⟩
theorem bbq {B : Nat} {w W : World} (h : Below B w W := by repeat (first | exact blq | apply Below.drew | apply below_drewN | refine Below.alloc ?_ (by simp) _)) : Below B w W := h
end Go.Proofs.YtmiijlecfiddmaaGreat
set_option linter.unusedVariables false
set_option linter.unusedSimpArgs false
set_option maxRecDepth 100000
set_option maxHeartbeats 200000
namespace Go.Proofs.YtmiijlecfiddmaaGreat
open Go.RowKit
abbrev In64 (x : Int) : Prop := -9223372036854775808 <= x /\ x <= 9223372036854775807
end Go.Proofs.YtmiijlecfiddmaaGreat
set_option linter.unusedVariables false
set_option linter.unusedSimpArgs false
set_option maxRecDepth 100000
set_option maxHeartbeats 200000
namespace Go.Proofs.YtmiijlecfiddmaaGreat
open Go.RowKit
def qas (k n : Int) : Bool := decide (1 <= n) && (decide (0 <= k) && decide (k <= n))
theorem qgs (k n : Int) (w : World) : Calls Tryz.prog 103 #[.int .i64 k, .int .i64 n] w fun e w' => e = .returned (.bool (qas k n)) /\ w = w' := by
 unfold qas
 by_cases h1 : 1 <= n
 · rw [decide_eq_true h1,Bool.true_and]
   by_cases h2 : 0 <= k
   · rw [decide_eq_true h2,Bool.true_and]
     go_enter Tryz.func103,Tryz.ntmps103
     go_wp2;go_ret;exact ⟨rfl,rfl⟩
   · have e1 : decide (0 <= k) = false := decide_eq_false h2;have e2 : (0 <= k) = False := eq_false h2;rw [e1,Bool.false_and];clear h2
     go_enter Tryz.func103,Tryz.ntmps103
     go_wp2;go_ret;exact ⟨rfl,rfl⟩
 · have e1 : decide (1 <= n) = false := decide_eq_false h1;have e2 : (1 <= n) = False := eq_false h1;rw [e1,Bool.false_and];clear h1
   go_enter Tryz.func103,Tryz.ntmps103
   go_wp2;go_ret;exact ⟨rfl,rfl⟩
theorem qjr {k n : Int} (h : qas k n = true) : wonB k n = decide (n - k < k) := by
 simp only [qas,Bool.and_eq_true,decide_eq_true_eq] at h
 simp [wonB,h.1,h.2.1,h.2.2]
theorem qjs {k n : Int} (h : qas k n = false) : wonB k n = false := by
 cases hw : wonB k n with
 | false => rfl
 | true =>
   simp only [wonB,Bool.and_eq_true,decide_eq_true_eq] at hw
   simp [qas,hw.1,hw.2.1,hw.2.2.1] at h
theorem qhW {k n : Int} (h : qas k n = false) : qbK k n = false := by
 cases hw : qbK k n with
 | false => rfl
 | true =>
   simp only [qbK,Bool.and_eq_true,decide_eq_true_eq] at hw
   simp [qas,hw.1,hw.2.1,hw.2.2.1] at h
theorem qhX {k n : Int} (h : qas k n = true) : qbK k n = !wonB (n - k) n := by
 simp only [qas,Bool.and_eq_true,decide_eq_true_eq] at h;obtain ⟨h1,h2,h3⟩ := h
 have a : decide (n - k <= k) = !decide (n - (n - k) < n - k) := by
  by_cases hh : n - k <= k
  · rw [decide_eq_true hh,decide_eq_false (by omega)]; rfl
  · rw [decide_eq_false hh,decide_eq_true (by omega)]; rfl
 unfold qbK wonB;rw [decide_eq_true h1,decide_eq_true h2,decide_eq_true h3,decide_eq_true (show 0 <= n - k by omega),decide_eq_true (show n - k <= n by omega),Bool.true_and,Bool.true_and,Bool.true_and,Bool.true_and,Bool.true_and,Bool.true_and,a]
theorem qfe (k n : Int) (hn : n <= 9223372036854775807) (w : World) : Calls Tryz.prog 89 #[.int .i64 k, .int .i64 n] w fun e w' => e = .returned (.bool (wonB k n)) /\ w = w' := by
 have hS := fun W => qgs k n W
 cases hs : qas k n with
 | false =>
   rw [qjs hs];rw [hs] at hS;clear hs hn
   go_enter Tryz.func89,Tryz.ntmps89
   go_wp2_with fail
   refine (hS _).mono ?_;rintro e w1 ⟨rfl,rfl⟩;clear hS;go_wp2;go_ret;exact ⟨rfl,rfl⟩
 | true =>
   rw [qjr hs];obtain ⟨J,hJ⟩ : ∃ J,J = n - k := ⟨_,rfl⟩
   have m1 : wrap64 (n - k) = J := by
    simp only [qas,Bool.and_eq_true,decide_eq_true_eq] at hs;rw [hJ,<- IntWalk.i64_left,IntWalk.i64_in _ (by omega)]
   rw [<- hJ];rw [hs] at hS;clear hJ hn hs
   go_enter Tryz.func89,Tryz.ntmps89
   go_wp2_with fail
   refine (hS _).mono ?_;rintro e w1 ⟨rfl,rfl⟩;clear hS;go_wp2;go_ret;exact ⟨rfl,rfl⟩
theorem qko (k n : Int) (hn : n <= 9223372036854775807) (w : World) : Calls Tryz.prog 108 #[.int .i64 k, .int .i64 n] w fun e w' => e = .returned (.bool (qbK k n)) /\ w = w' := by
 have hS := fun W => qgs k n W
 cases hs : qas k n with
 | false =>
   rw [qhW hs];rw [hs] at hS;clear hs hn
   go_enter Tryz.func108,Tryz.ntmps108
   go_wp2_with fail
   refine (hS _).mono ?_;rintro e w1 ⟨rfl,rfl⟩;clear hS;go_wp2;go_ret;exact ⟨rfl,rfl⟩
 | true =>
   rw [qhX hs];obtain ⟨J,hJ⟩ : ∃ J,J = n - k := ⟨_,rfl⟩
   have m1 : wrap64 (n - k) = J := by
    simp only [qas,Bool.and_eq_true,decide_eq_true_eq] at hs;rw [hJ,<- IntWalk.i64_left,IntWalk.i64_in _ (by omega)]
   rw [<- hJ]
   have hW := fun W => qfe J n hn W
   generalize wonB J n = b at *;rw [hs] at hS;clear hJ hn hs
   go_enter Tryz.func108,Tryz.ntmps108
   go_wp2_with fail
   refine (hS _).mono ?_;rintro e w1 ⟨rfl,rfl⟩;clear hS
   go_wp2_with fail
   first
    | refine (hW _).mono ?_
    | (rw [m1]; refine (hW _).mono ?_)
   rintro e w1 ⟨rfl,rfl⟩;clear hW
   cases b with
   | false => go_wp2; go_ret; exact ⟨rfl,rfl⟩
   | true => go_wp2; go_ret; exact ⟨rfl,rfl⟩
end Go.Proofs.YtmiijlecfiddmaaGreat
set_option linter.unusedVariables false
set_option linter.unusedSimpArgs false
set_option maxRecDepth 100000
set_option maxHeartbeats 200000
namespace Go.Proofs.YtmiijlecfiddmaaGreat
open Go.Shelf
def qjt : Go.Shelf.Ren := ⟨fun | 41 => 92 | n => n,fun | 22 => 46 | 23 => 2 | 4 => 4 | n => n,fun | n => n⟩
theorem qhY : Go.Proofs.SlLaysN.n41 Tryz.prog qjt := {
 mixed := by kernel_rfl
 f41 := ⟨Tryz.f92.name,by decide,Tryz.func92.trans (congrArg some (by kernel_rfl))⟩
 t4 := Tryz.underlying4
 a4 := Tryz.isAgg4
 z4 := Tryz.sizeOf4
 v4 := Tryz.zeroValue4
 t22 := Tryz.underlying46
 a22 := Tryz.isAgg46
 z22 := Tryz.sizeOf46
 v22 := Tryz.zeroValue46
 t23 := Tryz.underlying2
 a23 := Tryz.isAgg2
 z23 := Tryz.sizeOf2
 v23 := Tryz.zeroValue2
 i23 := by kernel_rfl }
open Go.RowKit Go.Lib in
theorem qgT (b off n c : Nat) (zs : List Int) (w : World) (hz : n <= zs.length) (hbig : n * 8 <= 140737488355328) (hc : ∀ j,j < zs.length -> w.cell? ⟨b,off + j,none⟩ = some (.int .i64 (zs.getD j 0))) :
 Calls Tryz.prog 92 #[.slice (some ⟨b,off,none⟩) n c] w fun e w' => ∃ v',e = .returned v' /\ w'.ownsRow w.heap.size 2 1 v' n ((zs.take n).map (Value.int .i64)) /\ v' ≠ .slice none 0 0 /\ Below w.heap.size w w' := AnyG.slices_Clone_int qhY b off n c zs w hz hbig hc
open Go.RowKit Go.Lib in
open Go.RowKit Go.Lib in
def qkp : Go.Shelf.Ren := ⟨fun | 53 => 93 | 64 => 105 | 63 => 104 | 78 => 122 | 79 => 123 | 70 => 113 | 71 => 114 | 72 => 115 | 73 => 116 | 74 => 117 | 75 => 118 | 59 => 119 | 76 => 120 | 77 => 121 | 88 => 125 | 89 => 126 | 90 => 127 | 91 => 128 | 92 => 129 | 68 => 130 | 96 => 131 | n => n,fun | 22 => 46 | 23 => 2 | 3 => 3 | 51 => 134 | 0 => 0 | 67 => 133 | 69 => 164 | 4 => 4 | 61 => 157 | 60 => 156 | 44 => 131 | 5 => 5 | 9 => 9 | 75 => 166 | 79 => 170 | 83 => 172 | 84 => 173 | n => n,fun | n => n⟩
theorem qju : Go.Proofs.SlLaysN.n53 Tryz.prog qkp := {
 mixed := by kernel_rfl
 f53 := ⟨Tryz.f93.name,by decide,Tryz.func93.trans (congrArg some (by kernel_rfl))⟩
 f59 := ⟨Tryz.f119.name,by decide,Tryz.func119.trans (congrArg some (by kernel_rfl))⟩
 f63 := ⟨Tryz.f104.name,by decide,Tryz.func104.trans (congrArg some (by kernel_rfl))⟩
 f64 := Tryz.func105.trans (congrArg some (by kernel_rfl))
 f68 := ⟨Tryz.f130.name,by decide,Tryz.func130.trans (congrArg some (by kernel_rfl))⟩
 f70 := ⟨Tryz.f113.name,by decide,Tryz.func113.trans (congrArg some (by kernel_rfl))⟩
 f71 := ⟨Tryz.f114.name,by decide,Tryz.func114.trans (congrArg some (by kernel_rfl))⟩
 f72 := ⟨Tryz.f115.name,by decide,Tryz.func115.trans (congrArg some (by kernel_rfl))⟩
 f73 := ⟨Tryz.f116.name,by decide,Tryz.func116.trans (congrArg some (by kernel_rfl))⟩
 f74 := ⟨Tryz.f117.name,by decide,Tryz.func117.trans (congrArg some (by kernel_rfl))⟩
 f75 := ⟨Tryz.f118.name,by decide,Tryz.func118.trans (congrArg some (by kernel_rfl))⟩
 f76 := ⟨Tryz.f120.name,by decide,Tryz.func120.trans (congrArg some (by kernel_rfl))⟩
 f77 := ⟨Tryz.f121.name,by decide,Tryz.func121.trans (congrArg some (by kernel_rfl))⟩
 f78 := Tryz.func122.trans (congrArg some (by kernel_rfl))
 f79 := Tryz.func123.trans (congrArg some (by kernel_rfl))
 f88 := ⟨Tryz.f125.name,by decide,Tryz.func125.trans (congrArg some (by kernel_rfl))⟩
 f89 := Tryz.func126.trans (congrArg some (by kernel_rfl))
 f90 := Tryz.func127.trans (congrArg some (by kernel_rfl))
 f91 := ⟨Tryz.f128.name,by decide,Tryz.func128.trans (congrArg some (by kernel_rfl))⟩
 f92 := ⟨Tryz.f129.name,by decide,Tryz.func129.trans (congrArg some (by kernel_rfl))⟩
 f96 := ⟨Tryz.f131.name,by decide,Tryz.func131.trans (congrArg some (by kernel_rfl))⟩
 t0 := Tryz.underlying0
 a0 := Tryz.isAgg0
 z0 := Tryz.sizeOf0
 v0 := Tryz.zeroValue0
 t3 := Tryz.underlying3
 a3 := Tryz.isAgg3
 z3 := Tryz.sizeOf3
 v3 := Tryz.zeroValue3
 t4 := Tryz.underlying4
 a4 := Tryz.isAgg4
 z4 := Tryz.sizeOf4
 v4 := Tryz.zeroValue4
 t5 := Tryz.underlying5
 a5 := Tryz.isAgg5
 z5 := Tryz.sizeOf5
 v5 := Tryz.zeroValue5
 t9 := Tryz.underlying9
 a9 := Tryz.isAgg9
 z9 := Tryz.sizeOf9
 v9 := Tryz.zeroValue9
 t22 := Tryz.underlying46
 a22 := Tryz.isAgg46
 z22 := Tryz.sizeOf46
 v22 := Tryz.zeroValue46
 t23 := Tryz.underlying2
 a23 := Tryz.isAgg2
 z23 := Tryz.sizeOf2
 v23 := Tryz.zeroValue2
 t44 := Tryz.underlying131
 a44 := Tryz.isAgg131
 z44 := Tryz.sizeOf131
 v44 := Tryz.zeroValue131
 t51 := Tryz.underlying134
 a51 := Tryz.isAgg134
 z51 := Tryz.sizeOf134
 v51 := Tryz.zeroValue134
 t60 := Tryz.underlying156
 a60 := Tryz.isAgg156
 z60 := Tryz.sizeOf156
 v60 := Tryz.zeroValue156
 t61 := Tryz.underlying157
 a61 := Tryz.isAgg157
 z61 := Tryz.sizeOf157
 v61 := Tryz.zeroValue157
 t67 := Tryz.underlying133
 a67 := Tryz.isAgg133
 z67 := Tryz.sizeOf133
 v67 := Tryz.zeroValue133
 t69 := Tryz.underlying164
 a69 := Tryz.isAgg164
 z69 := Tryz.sizeOf164
 v69 := Tryz.zeroValue164
 t75 := Tryz.underlying166
 a75 := Tryz.isAgg166
 z75 := Tryz.sizeOf166
 v75 := Tryz.zeroValue166
 t79 := Tryz.underlying170
 a79 := Tryz.isAgg170
 z79 := Tryz.sizeOf170
 v79 := Tryz.zeroValue170
 t83 := Tryz.underlying172
 a83 := Tryz.isAgg172
 z83 := Tryz.sizeOf172
 v83 := Tryz.zeroValue172
 t84 := Tryz.underlying173
 a84 := Tryz.isAgg173
 z84 := Tryz.sizeOf173
 v84 := Tryz.zeroValue173 }
open Go.RowKit Go.Lib Go.Sort in
theorem qhZ (blk off cap : Nat) (zs : List Int) (w : World) (hH : Holds (Value.int .i64) w blk off zs.toArray) (hblk : blk < w.heap.size) (hsz : zs.length < 4611686018427387904) :
 Calls Tryz.prog 93 #[.slice (some ⟨blk,off,none⟩) zs.length cap] w fun e w' => e = .returned (.tuple #[]) /\ ∃ n os,w' = grow (putRow (Value.int .i64) (Sort.ahead w n) blk off (zs.mergeSort fun x y => decide (x <= y)).toArray) os := AnyG.slices_Sort_int qju blk off cap zs w hH hblk hsz
end Go.Proofs.YtmiijlecfiddmaaGreat
set_option linter.unusedVariables false
set_option linter.unusedSimpArgs false
set_option maxRecDepth 100000
set_option maxHeartbeats 200000
namespace Go.Proofs.YtmiijlecfiddmaaGreat
open Go.RowKit Go.Sort
def rising (l : List Int) : List Int := l.mergeSort fun x y => decide (x <= y)
theorem qc1 (l : List Int) : (rising l).Perm l := List.mergeSort_perm _ _
theorem qce (l : List Int) : (rising l).length = l.length := (qc1 l).length_eq
theorem qff (l : List Int) : (rising l).Pairwise fun a b => a <= b := by
 have h := List.pairwise_mergeSort (le := fun x y : Int => decide (x <= y)) (fun a b c h1 h2 => by simp only [decide_eq_true_eq] at *; omega) (fun a b => by simp only [Bool.or_eq_true,decide_eq_true_eq]; omega) l
 exact h.imp fun h => by simpa using h
theorem qfg {l : List Int} (h : 0 < l.length) {m : Nat} (hm : m = (l.length - 1) / 2) : (rising l).getD m 0 = reach l := by
 have hml : m < (rising l).length := by rw [qce]; omega
 rw [qfd (qc1 l) (qff l) h hm hml]
 simp [List.getD,List.getElem?_eq_getElem hml]
theorem qgU {l : List Int} (h : l.length = 0) : reach l = 0 := by
 rw [List.eq_nil_of_length_eq_zero h]; rfl
theorem qfh {B g n : Nat} {w0 w : World} (os : Array Obj) (d : Array Int) (hb : Below B w0 w) (hB : B <= w.heap.size) (hg : B <= g) :
 Below B w0 (grow (putRow (Value.int .i64) (Sort.ahead w n) g 0 d) os) :=
 hb.grown (grownBy_sortedI d) hB (fun k e => by injection e with e; omega)
theorem qge (w : World) (A : Option Addr) (len cap : Nat) (l : List Int) (h : Nums w A len l) (hlc : len <= cap) (hno : A = none -> cap = 0) (h100 : len <= 100) (hin : ∀ x ∈ l,In64 x) :
 Calls Tryz.prog 66 #[.slice A len cap] w fun e w' => e = .returned (.int .i64 (reach l)) /\ Below w.heap.size w w' := by
 rcases Nat.eq_zero_or_pos len with h0 | h0
 · subst h0;rw [qgU h.1]
   go_enter Tryz.func66,Tryz.ntmps66
   go_wp2;go_ret;exact ⟨rfl,Below.refl _ _⟩
 · obtain ⟨g,off,hA,hg,hc⟩ := h.2 h0;have hlen := h.1;subst hA;have hcl := qgT g off len cap l w (by omega) (by omega) (fun j hj => by rw [hc j hj]; simp [List.getD,List.getElem?_eq_getElem hj]);rw [List.take_of_length_le (by omega)] at hcl
   have hpos : 0 < l.length := by omega
   have hne : (len : Int) ≠ 0 := by omega
   have hr := fun m hm => qfg (l := l) hpos (m := m) hm
   generalize reach l = R at *;clear hc hin hno
   go_enter Tryz.func66,Tryz.ntmps66
   go_wp2_with fail
   refine hcl.mono ?_;clear hcl;rintro e w1 ⟨v1,rfl,hown,hnn,hb1⟩;rcases hown.2 with ⟨e0,_⟩ | ⟨g1,cap1,cur,rfl,hg1,hb,hn1,hcap1,hcs,hct⟩
   · exact absurd e0 hnn
   · rw [Nat.mul_one] at hct;have hH : Holds (Value.int .i64) w1 g1 0 l.toArray := holds_of_blockI hb (by rw [hlen]; exact hct);have hlt1 : g1 < w1.heap.size := (Array.getElem?_eq_some_iff.1 hb).1;have hs := qhZ g1 0 cap1 l w1 hH hlt1 (by omega);rw [hlen] at hs
     go_wp2_with fail
     refine hs.mono ?_;clear hs;rintro e w2 ⟨rfl,n2,os,hw2⟩;have hb2 : Below w.heap.size w w2 := hw2 ▸ qfh os _ hb1 hb1.size hg1
     have hcell : w2.cell? ⟨g1,(len - 1) / 2,none⟩ = some (.int .i64 R) := by
      have hm : (len - 1) / 2 < len := by omega
      have ho := ownsRow_sortedI (w := w1) (n := n2) (os := os) (ss := l) (ts := rising l) (base := w.heap.size) (cap := cap1) (qce l) hg1 hb (by omega) hcap1 hcs;have hc := ho.cellAt ((len - 1) / 2) (by rw [hlen]; omega);rw [hw2,<- hr ((len - 1) / 2) (by rw [hlen])];refine hc.trans ?_
      have hm' : (len - 1) / 2 < (rising l).length := by rw [qce]; omega
      simp [List.getD,List.getElem?_eq_getElem hm']
     clear hw2 hH hown hb hct hcs hr;go_wp2;go_ret;exact ⟨rfl,hb2⟩
end Go.Proofs.YtmiijlecfiddmaaGreat
