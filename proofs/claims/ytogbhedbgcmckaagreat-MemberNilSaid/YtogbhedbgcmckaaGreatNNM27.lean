/- A region that draws its order, within a round of a range over a function: by the plain laws. -/
import Derived.Test.YtogbhedbgcmckaaGreatNNM26
import Derived.Deep.QuietTactic
import Derived.Deep.RegionHeld
import Derived.WalkKit
import Derived.Test.YtogbhedbgcmckaaGreatProg
import Derived.Test.YtogbhedbgcmckaaGreatNNM01
import Derived.Deep.LoopGhost
import Derived.BigQuiet
import Derived.IntWalk
import Derived.Lib.Hide
import Derived.Ground.SlgnProg
import Derived.Shelf.SlicesG.Clone
import Derived.Shelf.SortG.Plain
import Derived.Sort.OwnSortedInts
set_option linter.unusedVariables false
set_option linter.unusedSimpArgs false
set_option maxRecDepth 100000
set_option maxHeartbeats 200000
namespace Go.Proofs.YtogbhedbgcmckaaGreat
open Go.RowKit Go.Shelf
def calm (Q : Exit -> Act -> World -> Prop) : Exit -> Act -> World -> Prop
 | .normal,a,w => Q .normal a w
 | .ret,a,w => Q .ret a w
 | .exit i,a,w => Q (.exit i) a w
 | .goto t,a,w => Q (.goto t) a w
 | .panic _,_,_ => False
 | .outgrown,_,_ => False
theorem qkS {Q : Exit -> Act -> World -> Prop} : ∀ e a w,calm Q e a w -> Q e a w
 | .normal,_,_,h => h
 | .ret,_,_,h => h
 | .exit _,_,_,h => h
 | .goto _,_,_,h => h
 | .panic _,_,_,h => h.elim
 | .outgrown,_,_,h => h.elim
section
variable {l n : Nat} {P : Program} {Q : Exit → Act → World → Prop} {o : Oper} {a : Act} {w : World} {K : Act → World → Prop}
theorem qhM {r : Result Next} (h : o.upon P a K Q r) : o.uponIn (Fence.wide.inRound l) n P a K Q r := by
 cases r with
 | ok x w' =>
   cases x with
   | value v => exact h
   | skip => exact h
   | defer d => exact h
   | enter f args =>
     refine ⟨fun e => (by cases e),CallsIn.inRound l (callsIn_wide.2 ?_)⟩
     exact Calls.mono h fun e w'' he => by cases e <;> exact he
   | row row args =>
     refine ⟨fun e => (by cases e),fun c cs _ => ?_⟩;obtain ⟨v,w'',hr,hs⟩ := h c cs;exact ⟨v,w'',hr,stepsIn_wide.2 hs⟩
   | _ => exact h.elim
 | halt x w' =>
   cases x <;> exact h
theorem qka (hd : ∀ c,o.op ≠ .defer c) (h : o.wp P a w K Q) : o.wpIn (Fence.wide.inRound l) n P a w K Q := by
 refine ⟨fun _ _ => trivial,?_⟩;rw [Oper.semAt_plain _ _ _ hd];exact qhM h
theorem qb2 {ops : Array Oper} {md : Region.Mode} (hq : ¬ LetsOut Q) (hd : ∀ o ∈ ops.toList,∀ c,o.op ≠ .defer c) : ∀ (k : Nat) (listed : Array Bool) (a : Act) (w : World),wpAny P md ops Q k listed a w -> wpAnyIn (Fence.wide.inRound l) n P md ops Q k listed a w
 | 0,_,_,_,h => h
 | k + 1,listed,a,w,h => by
   refine ⟨h.1,fun i hi => ?_⟩;have h2 := h.2 i hi;unfold wpOp at h2;unfold wpOpIn
   cases ho : ops[i]? with
   | none =>
     rw [ho] at h2;exact qb2 hq hd k _ a w h2
   | some o =>
     rw [ho] at h2
     have hdo := hd o (by
      obtain ⟨hlt,e⟩ := Array.getElem?_eq_some_iff.1 ho;rw [<- e]
      simp)
     dsimp only at h2 ⊢
     split
     · rename_i hw;rw [if_pos hw] at h2;rcases h2 with h2 | h2
       · exact Oper.wpIn_mono (fun a w h3 => qb2 hq hd k _ a w h3) (qka hdo h2)
       · exact absurd h2.2 hq
     · rename_i hw;rw [if_neg hw] at h2;exact ⟨fun _ _ => trivial,qb2 hq hd k _ _ w h2⟩
def qc6 (l : List Oper) : Bool := l.all fun o => match o.op with | .defer _ => false | _ => true
theorem qfJ {ops : List Oper} (h : qc6 ops = true) : ∀ o ∈ ops,∀ c,o.op ≠ .defer c := fun o ho c e => by
 unfold qc6 at h;have := List.all_eq_true.1 h o ho;rw [e] at this;cases this
theorem qfK {id : Nat} {ops : Array Oper} (hm : P.follows .mixedOrders = true) (hq : ¬ LetsOut Q) (hd : qc6 ops.toList = true) (h : wpAny P .any ops Q ops.size (Array.replicate ops.size false) a w.drew) : (Code.region id ops true).wpIn (Fence.wide.inRound l) n P Q a w :=
 wpIn_region_any hm (qb2 hq (qfJ hd) _ _ _ _ h)
theorem qV {id : Nat} {ops : Array Oper} {S : World -> Prop} (hm : P.follows .mixedOrders = true) (hq : ¬ LetsOut Q) (hd : qc6 ops.toList = true) (hS : S w.drew)
 (h : S w.drew -> wpAnyH P .any ops Q S ops.size (Array.replicate ops.size false) a w.drew) : (Code.region id ops true).wpIn (Fence.wide.inRound l) n P Q a w :=
 qfK hm hq hd (wpAny_of_held _ _ _ _ (h hS))
end
end Go.Proofs.YtogbhedbgcmckaaGreat
set_option linter.unusedVariables false
set_option linter.unusedSimpArgs false
set_option maxRecDepth 100000
set_option maxHeartbeats 200000
namespace Go.Proofs.YtogbhedbgcmckaaGreat
def cntR (l : List Int) (x : Int) : Nat := l.countP fun y => decide (x <= y)
def qeW (l : List Int) (s : Option Int) (x : Int) : Option Int := if l.length / 2 < cntR l x /\ (∀ b,s = some b -> b < x) then some x else s
def qbL (l : List Int) (k : Nat) : Option Int := (l.take k).foldl (qeW l) none
def reach (l : List Int) : Int := (qbL l l.length).getD 0
theorem qgB {l : List Int} {k : Nat} (hk : k < l.length) : qbL l (k + 1) = qeW l (qbL l k) l[k] := by
 unfold qbL;rw [List.take_succ_eq_append_getElem hk,List.foldl_append]
 rfl
def Best (l m : List Int) (s : Option Int) : Prop := (∀ b,s = some b -> b ∈ m /\ l.length / 2 < cntR l b /\ ∀ x ∈ m,l.length / 2 < cntR l x -> x <= b) /\ (s = none -> ∀ x ∈ m,¬ l.length / 2 < cntR l x)
theorem qiX {l m : List Int} {s : Option Int} (h : Best l m s) (x : Int) : Best l (m ++ [x]) (qeW l s x) := by
 unfold qeW
 by_cases hx : l.length / 2 < cntR l x /\ (∀ b,s = some b -> b < x)
 · rw [if_pos hx];refine ⟨fun b hb => ?_,fun e => by cases e⟩;injection hb with hb;subst hb;refine ⟨by simp,hx.1,fun y hy hc => ?_⟩;rcases List.mem_append.1 hy with hy | hy
   · cases hs : s with
     | none => exact absurd hc (h.2 hs y hy)
     | some b =>
       have h1 := (h.1 b hs).2.2 y hy hc;have h2 := hx.2 b hs;omega
   · rw [List.mem_singleton.1 hy]; omega
 · rw [if_neg hx];refine ⟨fun b hb => ?_,fun e => ?_⟩
   · obtain ⟨h1,h2,h3⟩ := h.1 b hb;refine ⟨List.mem_append_left _ h1,h2,fun y hy hc => ?_⟩;rcases List.mem_append.1 hy with hy | hy
     · exact h3 y hy hc
     · rw [List.mem_singleton.1 hy] at hc ⊢;rcases Int.lt_or_le b x with h4 | h4
       · exact absurd ⟨hc,fun b' hb' => by rw [hb] at hb'; injection hb' with hb'; rw [<- hb']; exact h4⟩ hx
       · exact h4
   · intro y hy;rcases List.mem_append.1 hy with hy | hy
     · exact h.2 e y hy
     · rw [List.mem_singleton.1 hy];intro hc;exact hx ⟨hc,fun b' hb' => by rw [e] at hb'; cases hb'⟩
theorem qfL (l : List Int) : ∀ k,k <= l.length -> Best l (l.take k) (qbL l k)
 | 0,_ => ⟨fun b hb => by simp [qbL] at hb,fun _ x hx => by simp at hx⟩
 | k + 1,hk => by
   rw [qgB (by omega),List.take_succ_eq_append_getElem (by omega)];exact qiX (qfL l k (by omega)) _
theorem least (l : List Int) (h : 0 < l.length) : ∃ x ∈ l,∀ y ∈ l,x <= y := by
 induction l with
 | nil => simp at h
 | cons a l ih =>
   rcases Nat.eq_zero_or_pos l.length with h0 | h0
   · rw [List.eq_nil_of_length_eq_zero h0];exact ⟨a,by simp,fun y hy => by rw [List.mem_singleton.1 hy]; omega⟩
   · obtain ⟨x,hx,hall⟩ := ih h0;rcases Int.lt_or_le a x with h1 | h1
     · exact ⟨a,by simp,fun y hy => by
        rcases List.mem_cons.1 hy with rfl | hy
        · omega
        · have := hall y hy; omega⟩
     · exact ⟨x,List.mem_cons_of_mem _ hx,fun y hy => by
        rcases List.mem_cons.1 hy with rfl | hy
        · exact h1
        · exact hall y hy⟩
theorem qgR {l : List Int} {x : Int} (h : ∀ y ∈ l,x <= y) : cntR l x = l.length := by
 unfold cntR;rw [List.countP_eq_length]
 exact fun y hy => decide_eq_true (h y hy)
theorem qfM {l : List Int} (h : 0 < l.length) : reach l ∈ l /\ l.length / 2 < cntR l (reach l) /\ ∀ x ∈ l,l.length / 2 < cntR l x -> x <= reach l := by
 have hb := qfL l l.length (Nat.le_refl _);rw [List.take_length] at hb;unfold reach
 cases hr : qbL l l.length with
 | none =>
   obtain ⟨x,hx,hall⟩ := least l h;have := hb.2 hr x hx;rw [qgR hall] at this;omega
 | some b => exact hb.1 b hr
theorem qkb {l : List Int} (h : 0 < l.length) {v : Int} (h1 : v ∈ l) (h2 : l.length / 2 < cntR l v) (h3 : ∀ x ∈ l,l.length / 2 < cntR l x -> x <= v) : reach l = v := by
 obtain ⟨a,b,c⟩ := qfM h;have := c v h1 h2;have := h3 _ a b;omega
theorem qfN {l m : List Int} (h : l.Perm m) (x : Int) : cntR l x = cntR m x := h.countP_eq _
theorem qey (l : List Int) (k : Nat) (x : Int) : cntR l x = cntR (l.take k) x + cntR (l.drop k) x := by
 unfold cntR;rw [<- List.countP_append,List.take_append_drop]
theorem qfO {l s : List Int} (hp : s.Perm l) (hs : s.Pairwise fun a b => a <= b) (h : 0 < l.length) {m : Nat} (hm : m = (l.length - 1) / 2) (hml : m < s.length) : reach l = s[m] := by
 have hle := hp.length_eq
 have hsplit : s = s.take m ++ s[m] :: s.drop (m + 1) := by rw [<- List.drop_eq_getElem_cons hml,List.take_append_drop]
 have hup : ∀ y ∈ s.drop m,s[m] <= y := by
  rw [List.drop_eq_getElem_cons hml];intro y hy;rcases List.mem_cons.1 hy with rfl | hy
  · omega
  · have hs' := hs;rw [hsplit] at hs';exact (List.pairwise_cons.1 (List.pairwise_append.1 hs').2.1).1 y hy
 refine qkb h (hp.mem_iff.1 (List.getElem_mem hml)) ?_ fun x hx hc => ?_
 · rw [<- qfN hp];rw [qey s m,qgR hup,List.length_drop];omega
 · rcases Int.lt_or_le s[m] x with h1 | h1
   · exfalso
     rw [<- qfN hp] at hc;have e := qey s (m + 1) x
     have e0 : cntR (s.take (m + 1)) x = 0 := by
      unfold cntR;rw [List.countP_eq_zero];intro y hy;rw [List.take_succ_eq_append_getElem hml] at hy;simp only [decide_eq_true_eq];rcases List.mem_append.1 hy with hy | hy
      · have hs' := hs;rw [hsplit] at hs';have := (List.pairwise_append.1 hs').2.2 y hy s[m] (List.mem_cons_self ..);omega
      · rw [List.mem_singleton.1 hy]; omega
     have e1 : cntR (s.drop (m + 1)) x <= (s.drop (m + 1)).length := List.countP_le_length;rw [List.length_drop] at e1;omega
   · exact h1
def wonB (k n : Int) : Bool := decide (1 <= n) && (decide (0 <= k) && (decide (k <= n) && decide (n - k < k)))
end Go.Proofs.YtogbhedbgcmckaaGreat
set_option linter.unusedVariables false
set_option linter.unusedSimpArgs false
set_option maxRecDepth 100000
set_option maxHeartbeats 200000
namespace Go.Proofs.YtogbhedbgcmckaaGreat
open Go.RowKit
def Nums (w : World) (A : Option Addr) (len : Nat) (l : List Int) : Prop :=
 l.length = len /\ (0 < len -> ∃ g off,A = some ⟨g,off,none⟩ /\ g < w.heap.size /\ ∀ j (hj : j < l.length),w.cell? ⟨g,off + j,none⟩ = some (.int .i64 l[j]))
theorem Nums.below {w w' : World} {A : Option Addr} {len : Nat} {l : List Int} (h : Nums w A len l) (hb : Below w.heap.size w w') : Nums w' A len l := by
 refine ⟨h.1,fun h0 => ?_⟩;obtain ⟨g,off,e,hg,hc⟩ := h.2 h0;exact ⟨g,off,e,Nat.lt_of_lt_of_le hg hb.size,fun j hj => (hb.cell (p := ⟨g,off + j,none⟩) hg).trans (hc j hj)⟩
theorem qw {B : Nat} {w w' : World} (h : Below B w w') (n : Nat) : Below B w (w'.drewN n) := ⟨h.os,h.tape,h.output,h.size,h.block⟩
end Go.Proofs.YtogbhedbgcmckaaGreat
set_option linter.unusedVariables false
set_option linter.unusedSimpArgs false
set_option maxRecDepth 100000
set_option maxHeartbeats 200000
namespace Go.Proofs.YtogbhedbgcmckaaGreat
open Go.RowKit
abbrev In64 (x : Int) : Prop := -9223372036854775808 <= x /\ x <= 9223372036854775807
end Go.Proofs.YtogbhedbgcmckaaGreat
set_option linter.unusedVariables false
set_option linter.unusedSimpArgs false
set_option maxRecDepth 100000
set_option maxHeartbeats 200000
namespace Go.Proofs.YtogbhedbgcmckaaGreat
open Go.RowKit
def qb3 (k n : Int) : Bool := decide (1 <= n) && (decide (0 <= k) && decide (k <= n))
theorem qkT (k n : Int) (w : World) : Calls Tryz.prog 168 #[.int .i64 k, .int .i64 n] w fun e w' => e = .returned (.bool (qb3 k n)) /\ w = w' := by
 unfold qb3
 by_cases h1 : 1 <= n
 · rw [decide_eq_true h1,Bool.true_and]
   by_cases h2 : 0 <= k
   · rw [decide_eq_true h2,Bool.true_and]
     go_enter Tryz.func168,Tryz.ntmps168
     go_wp2;go_ret;exact ⟨rfl,rfl⟩
   · have e1 : decide (0 <= k) = false := decide_eq_false h2;have e2 : (0 <= k) = False := eq_false h2;rw [e1,Bool.false_and];clear h2
     go_enter Tryz.func168,Tryz.ntmps168
     go_wp2;go_ret;exact ⟨rfl,rfl⟩
 · have e1 : decide (1 <= n) = false := decide_eq_false h1;have e2 : (1 <= n) = False := eq_false h1;rw [e1,Bool.false_and];clear h1
   go_enter Tryz.func168,Tryz.ntmps168
   go_wp2;go_ret;exact ⟨rfl,rfl⟩
theorem qkc {k n : Int} (h : qb3 k n = true) : wonB k n = decide (n - k < k) := by
 simp only [qb3,Bool.and_eq_true,decide_eq_true_eq] at h
 simp [wonB,h.1,h.2.1,h.2.2]
theorem qkd {k n : Int} (h : qb3 k n = false) : wonB k n = false := by
 cases hw : wonB k n with
 | false => rfl
 | true =>
   simp only [wonB,Bool.and_eq_true,decide_eq_true_eq] at hw
   simp [qb3,hw.1,hw.2.1,hw.2.2.1] at h
theorem qlb (k n : Int) (hn : n <= 9223372036854775807) (w : World) : Calls Tryz.prog 125 #[.int .i64 k, .int .i64 n] w fun e w' => e = .returned (.bool (wonB k n)) /\ w = w' := by
 have hS := fun W => qkT k n W
 cases hs : qb3 k n with
 | false =>
   rw [qkd hs];rw [hs] at hS;clear hs hn
   go_enter Tryz.func125,Tryz.ntmps125
   go_wp2_with fail
   refine (hS _).mono ?_;rintro e w1 ⟨rfl,rfl⟩;clear hS;go_wp2;go_ret;exact ⟨rfl,rfl⟩
 | true =>
   rw [qkc hs];obtain ⟨J,hJ⟩ : ∃ J,J = n - k := ⟨_,rfl⟩
   have m1 : wrap64 (n - k) = J := by
    simp only [qb3,Bool.and_eq_true,decide_eq_true_eq] at hs;rw [hJ,<- IntWalk.i64_left,IntWalk.i64_in _ (by omega)]
   rw [<- hJ];rw [hs] at hS;clear hJ hn hs
   go_enter Tryz.func125,Tryz.ntmps125
   go_wp2_with fail
   refine (hS _).mono ?_;rintro e w1 ⟨rfl,rfl⟩;clear hS;go_wp2;go_ret;exact ⟨rfl,rfl⟩
end Go.Proofs.YtogbhedbgcmckaaGreat
set_option linter.unusedVariables false
set_option linter.unusedSimpArgs false
set_option maxRecDepth 100000
set_option maxHeartbeats 200000
namespace Go.Proofs.YtogbhedbgcmckaaGreat
open Go.Shelf
def qke : Go.Shelf.Ren := ⟨fun | 41 => 139 | n => n,fun | 22 => 55 | 23 => 2 | 4 => 4 | n => n,fun | n => n⟩
theorem qiY : Go.Proofs.SlLaysN.n41 Tryz.prog qke := {
 mixed := by kernel_rfl
 f41 := ⟨Tryz.f139.name,by decide,Tryz.func139.trans (congrArg some (by kernel_rfl))⟩
 t4 := Tryz.underlying4
 a4 := Tryz.isAgg4
 z4 := Tryz.sizeOf4
 v4 := Tryz.zeroValue4
 t22 := Tryz.underlying55
 a22 := Tryz.isAgg55
 z22 := Tryz.sizeOf55
 v22 := Tryz.zeroValue55
 t23 := Tryz.underlying2
 a23 := Tryz.isAgg2
 z23 := Tryz.sizeOf2
 v23 := Tryz.zeroValue2
 i23 := by kernel_rfl }
open Go.RowKit Go.Lib in
theorem qhN (b off n c : Nat) (zs : List Int) (w : World) (hz : n <= zs.length) (hbig : n * 8 <= 140737488355328) (hc : ∀ j,j < zs.length -> w.cell? ⟨b,off + j,none⟩ = some (.int .i64 (zs.getD j 0))) :
 Calls Tryz.prog 139 #[.slice (some ⟨b,off,none⟩) n c] w fun e w' => ∃ v',e = .returned v' /\ w'.ownsRow w.heap.size 2 1 v' n ((zs.take n).map (Value.int .i64)) /\ v' ≠ .slice none 0 0 /\ Below w.heap.size w w' := AnyG.slices_Clone_int qiY b off n c zs w hz hbig hc
open Go.RowKit Go.Lib in
open Go.RowKit Go.Lib in
def qkU : Go.Shelf.Ren := ⟨fun | 53 => 140 | 64 => 178 | 63 => 177 | 78 => 207 | 79 => 208 | 70 => 198 | 71 => 199 | 72 => 200 | 73 => 201 | 74 => 202 | 75 => 203 | 59 => 204 | 76 => 205 | 77 => 206 | 88 => 217 | 89 => 218 | 90 => 219 | 91 => 220 | 92 => 221 | 68 => 222 | 96 => 227 | n => n,fun | 22 => 55 | 23 => 2 | 3 => 3 | 51 => 241 | 0 => 0 | 67 => 246 | 69 => 249 | 4 => 4 | 61 => 260 | 60 => 259 | 44 => 186 | 5 => 5 | 9 => 9 | 75 => 270 | 79 => 274 | 83 => 278 | 84 => 279 | n => n,fun | n => n⟩
theorem qkf : Go.Proofs.SlLaysN.n53 Tryz.prog qkU := {
 mixed := by kernel_rfl
 f53 := ⟨Tryz.f140.name,by decide,Tryz.func140.trans (congrArg some (by kernel_rfl))⟩
 f59 := ⟨Tryz.f204.name,by decide,Tryz.func204.trans (congrArg some (by kernel_rfl))⟩
 f63 := ⟨Tryz.f177.name,by decide,Tryz.func177.trans (congrArg some (by kernel_rfl))⟩
 f64 := Tryz.func178.trans (congrArg some (by kernel_rfl))
 f68 := ⟨Tryz.f222.name,by decide,Tryz.func222.trans (congrArg some (by kernel_rfl))⟩
 f70 := ⟨Tryz.f198.name,by decide,Tryz.func198.trans (congrArg some (by kernel_rfl))⟩
 f71 := ⟨Tryz.f199.name,by decide,Tryz.func199.trans (congrArg some (by kernel_rfl))⟩
 f72 := ⟨Tryz.f200.name,by decide,Tryz.func200.trans (congrArg some (by kernel_rfl))⟩
 f73 := ⟨Tryz.f201.name,by decide,Tryz.func201.trans (congrArg some (by kernel_rfl))⟩
 f74 := ⟨Tryz.f202.name,by decide,Tryz.func202.trans (congrArg some (by kernel_rfl))⟩
 f75 := ⟨Tryz.f203.name,by decide,Tryz.func203.trans (congrArg some (by kernel_rfl))⟩
 f76 := ⟨Tryz.f205.name,by decide,Tryz.func205.trans (congrArg some (by kernel_rfl))⟩
 f77 := ⟨Tryz.f206.name,by decide,Tryz.func206.trans (congrArg some (by kernel_rfl))⟩
 f78 := Tryz.func207.trans (congrArg some (by kernel_rfl))
 f79 := Tryz.func208.trans (congrArg some (by kernel_rfl))
 f88 := ⟨Tryz.f217.name,by decide,Tryz.func217.trans (congrArg some (by kernel_rfl))⟩
 f89 := Tryz.func218.trans (congrArg some (by kernel_rfl))
 f90 := Tryz.func219.trans (congrArg some (by kernel_rfl))
 f91 := ⟨Tryz.f220.name,by decide,Tryz.func220.trans (congrArg some (by kernel_rfl))⟩
 f92 := ⟨Tryz.f221.name,by decide,Tryz.func221.trans (congrArg some (by kernel_rfl))⟩
 f96 := ⟨Tryz.f227.name,by decide,Tryz.func227.trans (congrArg some (by kernel_rfl))⟩
 t0 := Tryz.underlying0
 a0 := Tryz.isAgg0
 z0 := Tryz.sizeOf0
 v0 := Tryz.zeroValue0
 t3 := Tryz.underlying3
 a3 := Tryz.isAgg3
 z3 := Tryz.sizeOf3
 v3 := Tryz.zeroValue3
 t4 := Tryz.underlying4
 a4 := Tryz.isAgg4
 z4 := Tryz.sizeOf4
 v4 := Tryz.zeroValue4
 t5 := Tryz.underlying5
 a5 := Tryz.isAgg5
 z5 := Tryz.sizeOf5
 v5 := Tryz.zeroValue5
 t9 := Tryz.underlying9
 a9 := Tryz.isAgg9
 z9 := Tryz.sizeOf9
 v9 := Tryz.zeroValue9
 t22 := Tryz.underlying55
 a22 := Tryz.isAgg55
 z22 := Tryz.sizeOf55
 v22 := Tryz.zeroValue55
 t23 := Tryz.underlying2
 a23 := Tryz.isAgg2
 z23 := Tryz.sizeOf2
 v23 := Tryz.zeroValue2
 t44 := Tryz.underlying186
 a44 := Tryz.isAgg186
 z44 := Tryz.sizeOf186
 v44 := Tryz.zeroValue186
 t51 := Tryz.underlying241
 a51 := Tryz.isAgg241
 z51 := Tryz.sizeOf241
 v51 := Tryz.zeroValue241
 t60 := Tryz.underlying259
 a60 := Tryz.isAgg259
 z60 := Tryz.sizeOf259
 v60 := Tryz.zeroValue259
 t61 := Tryz.underlying260
 a61 := Tryz.isAgg260
 z61 := Tryz.sizeOf260
 v61 := Tryz.zeroValue260
 t67 := Tryz.underlying246
 a67 := Tryz.isAgg246
 z67 := Tryz.sizeOf246
 v67 := Tryz.zeroValue246
 t69 := Tryz.underlying249
 a69 := Tryz.isAgg249
 z69 := Tryz.sizeOf249
 v69 := Tryz.zeroValue249
 t75 := Tryz.underlying270
 a75 := Tryz.isAgg270
 z75 := Tryz.sizeOf270
 v75 := Tryz.zeroValue270
 t79 := Tryz.underlying274
 a79 := Tryz.isAgg274
 z79 := Tryz.sizeOf274
 v79 := Tryz.zeroValue274
 t83 := Tryz.underlying278
 a83 := Tryz.isAgg278
 z83 := Tryz.sizeOf278
 v83 := Tryz.zeroValue278
 t84 := Tryz.underlying279
 a84 := Tryz.isAgg279
 z84 := Tryz.sizeOf279
 v84 := Tryz.zeroValue279 }
open Go.RowKit Go.Lib Go.Sort in
theorem qiZ (blk off cap : Nat) (zs : List Int) (w : World) (hH : Holds (Value.int .i64) w blk off zs.toArray) (hblk : blk < w.heap.size) (hsz : zs.length < 4611686018427387904) :
 Calls Tryz.prog 140 #[.slice (some ⟨blk,off,none⟩) zs.length cap] w fun e w' => e = .returned (.tuple #[]) /\ ∃ n os,w' = grow (putRow (Value.int .i64) (Sort.ahead w n) blk off (zs.mergeSort fun x y => decide (x <= y)).toArray) os := AnyG.slices_Sort_int qkf blk off cap zs w hH hblk hsz
end Go.Proofs.YtogbhedbgcmckaaGreat
set_option linter.unusedVariables false
set_option linter.unusedSimpArgs false
set_option maxRecDepth 100000
set_option maxHeartbeats 200000
namespace Go.Proofs.YtogbhedbgcmckaaGreat
open Go.RowKit Go.Sort
def rising (l : List Int) : List Int := l.mergeSort fun x y => decide (x <= y)
theorem qdj (l : List Int) : (rising l).Perm l := List.mergeSort_perm _ _
theorem qcu (l : List Int) : (rising l).length = l.length := (qdj l).length_eq
theorem qfP (l : List Int) : (rising l).Pairwise fun a b => a <= b := by
 have h := List.pairwise_mergeSort (le := fun x y : Int => decide (x <= y)) (fun a b c h1 h2 => by simp only [decide_eq_true_eq] at *; omega) (fun a b => by simp only [Bool.or_eq_true,decide_eq_true_eq]; omega) l
 exact h.imp fun h => by simpa using h
theorem qfQ {l : List Int} (h : 0 < l.length) {m : Nat} (hm : m = (l.length - 1) / 2) : (rising l).getD m 0 = reach l := by
 have hml : m < (rising l).length := by rw [qcu]; omega
 rw [qfO (qdj l) (qfP l) h hm hml]
 simp [List.getD,List.getElem?_eq_getElem hml]
theorem qhO {l : List Int} (h : l.length = 0) : reach l = 0 := by
 rw [List.eq_nil_of_length_eq_zero h]; rfl
theorem qfR {B g n : Nat} {w0 w : World} (os : Array Obj) (d : Array Int) (hb : Below B w0 w) (hB : B <= w.heap.size) (hg : B <= g) :
 Below B w0 (grow (putRow (Value.int .i64) (Sort.ahead w n) g 0 d) os) :=
 hb.grown (grownBy_sortedI d) hB (fun k e => by injection e with e; omega)
theorem qgC (w : World) (A : Option Addr) (len cap : Nat) (l : List Int) (h : Nums w A len l) (hlc : len <= cap) (hno : A = none -> cap = 0) (h100 : len <= 100) (hin : ∀ x ∈ l,In64 x) :
 Calls Tryz.prog 104 #[.slice A len cap] w fun e w' => e = .returned (.int .i64 (reach l)) /\ Below w.heap.size w w' := by
 rcases Nat.eq_zero_or_pos len with h0 | h0
 · subst h0;rw [qhO h.1]
   go_enter Tryz.func104,Tryz.ntmps104
   go_wp2;go_ret;exact ⟨rfl,Below.refl _ _⟩
 · obtain ⟨g,off,hA,hg,hc⟩ := h.2 h0;have hlen := h.1;subst hA;have hcl := qhN g off len cap l w (by omega) (by omega) (fun j hj => by rw [hc j hj]; simp [List.getD,List.getElem?_eq_getElem hj]);rw [List.take_of_length_le (by omega)] at hcl
   have hpos : 0 < l.length := by omega
   have hne : (len : Int) ≠ 0 := by omega
   have hr := fun m hm => qfQ (l := l) hpos (m := m) hm
   generalize reach l = R at *;clear hc hin hno
   go_enter Tryz.func104,Tryz.ntmps104
   go_wp2_with fail
   refine hcl.mono ?_;clear hcl;rintro e w1 ⟨v1,rfl,hown,hnn,hb1⟩;rcases hown.2 with ⟨e0,_⟩ | ⟨g1,cap1,cur,rfl,hg1,hb,hn1,hcap1,hcs,hct⟩
   · exact absurd e0 hnn
   · rw [Nat.mul_one] at hct;have hH : Holds (Value.int .i64) w1 g1 0 l.toArray := holds_of_blockI hb (by rw [hlen]; exact hct);have hlt1 : g1 < w1.heap.size := (Array.getElem?_eq_some_iff.1 hb).1;have hs := qiZ g1 0 cap1 l w1 hH hlt1 (by omega);rw [hlen] at hs
     go_wp2_with fail
     refine hs.mono ?_;clear hs;rintro e w2 ⟨rfl,n2,os,hw2⟩;have hb2 : Below w.heap.size w w2 := hw2 ▸ qfR os _ hb1 hb1.size hg1
     have hcell : w2.cell? ⟨g1,(len - 1) / 2,none⟩ = some (.int .i64 R) := by
      have hm : (len - 1) / 2 < len := by omega
      have ho := ownsRow_sortedI (w := w1) (n := n2) (os := os) (ss := l) (ts := rising l) (base := w.heap.size) (cap := cap1) (qcu l) hg1 hb (by omega) hcap1 hcs;have hc := ho.cellAt ((len - 1) / 2) (by rw [hlen]; omega);rw [hw2,<- hr ((len - 1) / 2) (by rw [hlen])];refine hc.trans ?_
      have hm' : (len - 1) / 2 < (rising l).length := by rw [qcu]; omega
      simp [List.getD,List.getElem?_eq_getElem hm']
     clear hw2 hH hown hb hct hcs hr;go_wp2;go_ret;exact ⟨rfl,hb2⟩
end Go.Proofs.YtogbhedbgcmckaaGreat
