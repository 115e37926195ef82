/- Entries in memory: a slice of them; Few of the document, by its contract. -/
import Derived.Test.YtmiijlecfiddmaaGreatNNM01
import Derived.Deep.LoopGhost
import Derived.Deep.RegionWith
import Derived.Laws.OwnMore
import Derived.Laws.Rows
import Derived.Laws.ResultCell
set_option linter.unusedVariables false
set_option linter.unusedSimpArgs false
set_option maxRecDepth 100000
set_option maxHeartbeats 1000000
namespace Go.Proofs.YtmiijlecfiddmaaGreat
open Go.RowKit
def Ents (w : World) (Z : Nat -> Prop) (A : Option Addr) (len cap : Nat) (ls : List Ent) : Prop :=
 ls.length = len /\ len <= cap /\ (A = none -> cap = 0) /\ (0 < len -> ∃ g off,A = some ⟨g,off,none⟩ /\ g < w.heap.size /\ Z g ∧
  ∀ j (hj : j < ls.length),∃ E c,w.cell? ⟨g,off + j * 3,none⟩ = some (.int .i64 ls[j].i) /\ w.cell? ⟨g,off + j * 3 + 1,none⟩ = some (.int .i64 ls[j].t) /\ w.cell? ⟨g,off + j * 3 + 2,none⟩ = some (.slice E ls[j].d.length c) /\ c <= c /\ Lies w E ls[j].d.length c ls[j].d /\ (0 < ls[j].d.length -> ∀ q o,E = some ⟨q,o,none⟩ -> Z q))
section
variable {w w' : World} {Z Z' : Nat → Prop} {A : Option Addr} {len cap : Nat} {ls : List Ent}
theorem Ents.keep (h : Ents w Z A len cap ls) (hs : w.heap.size <= w'.heap.size) (hk : ∀ k,k < w.heap.size -> Z k -> w'.heap[k]? = w.heap[k]?) : Ents w' Z A len cap ls := by
 refine ⟨h.1,h.2.1,h.2.2.1,fun h0 => ?_⟩
 obtain ⟨g,off,e,hg,hz,hc⟩ := h.2.2.2 h0
 refine ⟨g,off,e,Nat.lt_of_lt_of_le hg hs,hz,fun j hj => ?_⟩
 obtain ⟨E,c,c0,c1,c2,hm,hl,hzE⟩ := hc j hj
 have hx : ∀ o,w'.cell? ⟨g,o,none⟩ = w.cell? ⟨g,o,none⟩ := fun o => World.cell?_of_block (hk g hg hz)
 exact ⟨E,c,(hx _).trans c0,(hx _).trans c1,(hx _).trans c2,hm,hl.keep hs fun h1 q o eq hq => hk q hq (hzE h1 q o eq),hzE⟩
theorem Ents.below (h : Ents w Z A len cap ls) {B : Nat} (hb : Below B w w') (hB : w.heap.size <= B) : Ents w' Z A len cap ls :=
 h.keep hb.size fun k hk _ => hb.block k (Nat.lt_of_lt_of_le hk hB)
theorem Ents.mono (h : Ents w Z A len cap ls) (hz : ∀ k,Z k -> Z' k) : Ents w Z' A len cap ls := by
 refine ⟨h.1,h.2.1,h.2.2.1,fun h0 => ?_⟩
 obtain ⟨g,off,e,hg,hzg,hc⟩ := h.2.2.2 h0
 refine ⟨g,off,e,hg,hz _ hzg,fun j hj => ?_⟩
 obtain ⟨E,c,c0,c1,c2,hm,hl,hzE⟩ := hc j hj
 exact ⟨E,c,c0,c1,c2,hm,hl,fun h1 q o eq => hz _ (hzE h1 q o eq)⟩
theorem Ents.at_ (h : Ents w Z A len cap ls) (j : Nat) (hj : j < len) : ∃ g off E c,A = some ⟨g,off,none⟩ /\ g < w.heap.size /\ w.cell? ⟨g,off + j * 3,none⟩ = some (.int .i64 (ls[j]'(by rw [h.1]; exact hj)).i) /\ w.cell? ⟨g,off + j * 3 + 1,none⟩ = some (.int .i64 (ls[j]'(by rw [h.1]; exact hj)).t) ∧
 w.cell? ⟨g,off + j * 3 + 2,none⟩ = some (.slice E (ls[j]'(by rw [h.1]; exact hj)).d.length c) /\ Lies w E (ls[j]'(by rw [h.1]; exact hj)).d.length c (ls[j]'(by rw [h.1]; exact hj)).d := by
 obtain ⟨g,off,e,hg,_,hc⟩ := h.2.2.2 (by omega)
 obtain ⟨E,c,c0,c1,c2,_,hl,_⟩ := hc j (by rw [h.1]; exact hj)
 exact ⟨g,off,E,c,e,hg,c0,c1,c2,hl⟩
end
def weigh (ls : List Ent) : Nat := (ls.map fun e => e.d.length).sum
theorem qbT (ls : List Ent) (k : Nat) (hk : k < ls.length) : weigh (ls.take (k + 1)) = weigh (ls.take k) + ls[k].d.length := by
 unfold weigh
 rw [List.take_succ_eq_append_getElem hk,List.map_append,List.sum_append]
 simp
theorem qcO (ls : List Ent) (k : Nat) : weigh (ls.take k) <= weigh ls := by
 unfold weigh
 rw [List.map_take]
 generalize ls.map (fun e => e.d.length) = q
 have := List.take_append_drop k q
 calc (q.take k).sum <= (q.take k).sum + (q.drop k).sum := Nat.le_add_right _ _
  _ = (q.take k ++ q.drop k).sum := by rw [List.sum_append]
  _ = q.sum := by rw [this]
def fewE (ls : List Ent) (many : Nat) : Bool := decide (ls.length <= many) && decide (weigh ls <= 40000)
theorem qcP (Z : Nat -> Prop) (A : Option Addr) (len cap : Nat) (ls : List Ent) (many : Nat) (w : World) (h : Ents w Z A len cap ls) (hm : len <= maxLen) (hmany : many <= 1000) (hd : ∀ e ∈ ls,e.d.length <= 140737488355328) :
 Calls Tryz.prog 57 #[.slice A len cap, .int .i64 (many : Int)] w fun e w' => e = .returned (.bool (fewE ls many)) /\ w = w' := by
 unfold maxLen at hm
 have hll := h.1
 go_enter Tryz.func57,Tryz.ntmps57
 go_wp2
 go_loop [5,6,9] (fun z r i => ∃ k : Nat,k <= len /\ k <= many /\ i = .int .i64 (k : Int) /\ z = .int .i64 ((weigh (ls.take k) : Nat) : Int) /\ weigh (ls.take k) <= 40000) (fun _ _ i => len - (intOf i).toNat)
 case atStart => exact ⟨0,by omega,by omega,rfl,by simp [weigh],by simp [weigh]⟩
 case round =>
  obtain ⟨k,hk,hkm,rfl,rfl,hz⟩ := hrel
  by_cases hlt : k < len
  · have hlt' : (k : Int) < (len : Int) := by omega
    obtain ⟨g,off,E,c,rfl,hg,_,_,hcell,_⟩ := h.at_ k hlt
    have hw := qbT ls k (by omega)
    have hwl := qcO ls (k + 1)
    have hdk := hd _ (List.getElem_mem (show k < ls.length by omega))
    generalize (ls[k]'(by omega)).d.length = n at *
    generalize weigh (ls.take k) = z at *
    obtain ⟨z2,hz2⟩ : ∃ z2,weigh (ls.take (k + 1)) = z2 := ⟨_,rfl⟩
    rw [hz2] at hw hwl
    have e2 : (z : Int) + (n : Int) = (z2 : Int) := by omega
    have HZ := Lib.hid hz2
    · have e3 : IntKind.i64.wrap (z2 : Int) = (z2 : Int) := IntWalk.i64_in _ (by omega)
      by_cases hkm2 : many <= k
      · have HE := Lib.hid (show fewE ls many = false by unfold fewE; rw [decide_eq_false (by omega),Bool.false_and])
        have q1 : (many : Int) <= (k : Int) := by omega
        clear hz2 hw hwl hz hd hdk hkm2 hkm hk hm
        go_wp2
        go_ret
        exact ⟨by have e : fewE ls many = false := HE; rw [e]; rfl,rfl⟩
      · have q1 : ((many : Int) <= (k : Int)) = False := eq_false (by omega)
        by_cases h4 : 40000 < z2
        · have HE := Lib.hid (show fewE ls many = false by unfold fewE; rw [decide_eq_false (show ¬ weigh ls <= 40000 by omega),Bool.and_false])
          have q2 : (40000 : Int) < (z2 : Int) := by omega
          clear hz2 hw hwl hz hd hdk hkm2 hkm hk hm h4
          go_wp2
          go_ret
          exact ⟨by have e : fewE ls many = false := HE; rw [e]; rfl,rfl⟩
        · have q2 : ((40000 : Int) < (z2 : Int)) = False := eq_false (by omega)
          have e5 : IntKind.i64.wrap ((k : Int) + 1) = ((k + 1 : Nat) : Int) := by rw [IntWalk.i64_in _ (by omega)]; omega
          have hnn : Hid (k + 1 <= many /\ k < len /\ z2 <= 40000) := ⟨by omega,by omega,by omega⟩
          clear hz2 hw hwl hz hd hdk hkm2 hkm hk hm h4
          go_wp2
          go_round
          case rel => exact ⟨k + 1,by have := hnn.out; omega,hnn.out.1,by go_num,by have e : weigh (ls.take (k + 1)) = z2 := HZ; rw [e],by have e : weigh (ls.take (k + 1)) = z2 := HZ; rw [e]; exact hnn.out.2.2⟩
          case measure => have := hnn.out; simp [intOf]; omega
  · obtain rfl : k = len := by omega
    have HE := Lib.hid (show fewE ls many = true by
     unfold fewE
     rw [List.take_of_length_le (by omega)] at hz
     rw [decide_eq_true (by omega),decide_eq_true hz]
     rfl)
    clear h hz hd hm hk hkm
    go_wp2
    go_ret
    exact ⟨by have e : fewE ls many = true := HE; rw [e]; rfl,rfl⟩
end Go.Proofs.YtmiijlecfiddmaaGreat
set_option linter.unusedVariables false
set_option linter.unusedSimpArgs false
set_option maxRecDepth 100000
set_option maxHeartbeats 200000
namespace Go.Proofs.YtmiijlecfiddmaaGreat
open Go.RowKit
end Go.Proofs.YtmiijlecfiddmaaGreat
set_option linter.unusedVariables false
set_option linter.unusedSimpArgs false
set_option maxRecDepth 100000
set_option maxHeartbeats 200000
namespace Go.Proofs.YtmiijlecfiddmaaGreat
open Go.RowKit
structure Lay where
 e : Ent
 A : Option Addr
 c : Nat
def cells3 (x : Lay) : List Value := [.int .i64 x.e.i, .int .i64 x.e.t, .slice x.A x.e.d.length x.c]
def rowOf (xs : List Lay) : List Value := xs.flatMap cells3
theorem qaJ (x : Lay) (xs : List Lay) : rowOf (x :: xs) = cells3 x ++ rowOf xs := rfl
theorem qk (xs : List Lay) : (rowOf xs).length = xs.length * 3 := by
 induction xs with
 | nil => rfl
 | cons x xs ih =>
   rw [qaJ,List.length_append,ih,List.length_cons]
   simp [cells3]
   omega
theorem qbh (xs : List Lay) : ∀ (j r : Nat) (hj : j < xs.length),r < 3 -> (rowOf xs)[j * 3 + r]? = (cells3 xs[j])[r]? := by
 induction xs with
 | nil => intro j r hj; simp at hj
 | cons x xs ih =>
   intro j r hj hr
   rw [qaJ]
   cases j with
   | zero =>
     rw [List.getElem?_append_left (by simp [cells3]; omega)]
     simp
   | succ j =>
     rw [List.getElem?_append_right (by simp [cells3]; omega)]
     rw [show (j + 1) * 3 + r - (cells3 x).length = j * 3 + r by simp [cells3]; omega]
     rw [ih j r (by simpa using hj) hr]
     simp
theorem qaV (xs : List Lay) : ∀ u ∈ rowOf xs,u.oneCell' = true := by
 intro u hu
 obtain ⟨x,_,hx⟩ := List.mem_flatMap.1 hu
 simp only [cells3,List.mem_cons,List.not_mem_nil,or_false] at hx
 rcases hx with rfl | rfl | rfl <;> rfl
def qj (w : World) (Z : Nat -> Prop) (x : Lay) : Prop :=
 x.c <= x.c /\ Lies w x.A x.e.d.length x.c x.e.d /\ (0 < x.e.d.length -> ∀ q o,x.A = some ⟨q,o,none⟩ -> Z q)
theorem qj.mono {w : World} {Z Z' : Nat -> Prop} {x : Lay} (h : qj w Z x) (hz : ∀ k,Z k -> Z' k) : qj w Z' x := ⟨h.1,h.2.1,fun h0 q o e => hz _ (h.2.2 h0 q o e)⟩
theorem qj.keep {w w' : World} {Z : Nat -> Prop} {x : Lay} (h : qj w Z x) (hs : w.heap.size <= w'.heap.size) (hk : ∀ k,k < w.heap.size -> Z k -> w'.heap[k]? = w.heap[k]?) : qj w' Z x :=
 ⟨h.1,h.2.1.keep hs fun h0 g off e hg => hk g hg (h.2.2 h0 g off e),h.2.2⟩
theorem Ents.lays {w : World} {Z : Nat -> Prop} {A : Option Addr} {len cap : Nat} {ls : List Ent} (h : Ents w Z A len cap ls) :
 ∃ xs : List Lay,xs.map (·.e) = ls /\ (∀ x ∈ xs,qj w Z x) /\ (∀ a,A = some a -> ∀ j u,(rowOf xs)[j]? = some u -> w.cell? (a.add j) = some u) := by
 by_cases h0 : 0 < len
 · obtain ⟨g,off,rfl,hg,hz,hc⟩ := h.2.2.2 h0
   obtain ⟨X,hX⟩ := Classical.axiomOfChoice (r := fun j (x : Option Addr × Nat) => ∀ (hj : j < ls.length),w.cell? ⟨g,off + j * 3,none⟩ = some (.int .i64 ls[j].i) /\ w.cell? ⟨g,off + j * 3 + 1,none⟩ = some (.int .i64 ls[j].t) /\ w.cell? ⟨g,off + j * 3 + 2,none⟩ = some (.slice x.1 ls[j].d.length x.2) /\ qj w Z ⟨ls[j],x.1,x.2⟩) (fun j => by
    by_cases hj : j < ls.length
    · obtain ⟨E,c,c0,c1,c2,hm,hl,hzE⟩ := hc j hj
      exact ⟨(E,c),fun _ => ⟨c0,c1,c2,hm,hl,hzE⟩⟩
    · exact ⟨(none,0),fun h => absurd h hj⟩)
   have hxl : ((List.range ls.length).map fun j => (⟨ls.getD j ⟨0,0,[]⟩,(X j).1,(X j).2⟩ : Lay)).length = ls.length := by simp
   refine ⟨(List.range ls.length).map fun j => ⟨ls.getD j ⟨0,0,[]⟩,(X j).1,(X j).2⟩,?_,?_,?_⟩
   · apply List.ext_getElem
     · simp
     · intro j h1 h2
       simp [List.getD_eq_getElem?_getD,List.getElem?_eq_getElem h2]
   · intro x hx
     obtain ⟨j,hj,rfl⟩ := List.mem_map.1 hx
     have hj' : j < ls.length := by simpa using hj
     have := (hX j hj').2.2.2
     simpa [List.getD_eq_getElem?_getD,List.getElem?_eq_getElem hj'] using this
   · intro a ea j u hu
     injection ea with ea
     subst ea
     rw [Addr.add_lit]
     have hjl : j < ls.length * 3 := by
      have := (List.getElem?_eq_some_iff.1 hu).1
      rw [qk,hxl] at this
      exact this
     have hq : j / 3 < ls.length := by omega
     have hat := qbh _ (j / 3) (j % 3) (by rw [hxl]; exact hq) (Nat.mod_lt _ (by omega))
     rw [show j / 3 * 3 + j % 3 = j by omega,hu] at hat
     obtain ⟨c0,c1,c2,_⟩ := hX (j / 3) hq
     simp only [List.getElem_map,List.getElem_range,List.getD_eq_getElem?_getD,List.getElem?_eq_getElem hq,Option.getD_some,cells3] at hat
     have h3 : j % 3 = 0 \/ j % 3 = 1 \/ j % 3 = 2 := by omega
     rcases h3 with h3 | h3 | h3
     · rw [h3] at hat
       injection hat with hat
       rw [hat,show off + j = off + j / 3 * 3 by omega]
       exact c0
     · rw [h3] at hat
       injection hat with hat
       rw [hat,show off + j = off + j / 3 * 3 + 1 by omega]
       exact c1
     · rw [h3] at hat
       injection hat with hat
       rw [hat,show off + j = off + j / 3 * 3 + 2 by omega]
       exact c2
 · have hl := h.1
   obtain rfl : ls = [] := List.eq_nil_of_length_eq_zero (by omega)
   exact ⟨[],rfl,fun x hx => by simp at hx,fun a _ j u hu => by simp [rowOf] at hu⟩
theorem qaD : (Tryz.prog.info? 78).map (fun i => (i.zero,i.size,i.bytes)) = some (some (.agg #[.int .i64 0, .int .i64 0, .slice none 0 0]),3,40) := by kernel_rfl
theorem qaK (w : World) : (Go.sizeOf 78).run Tryz.prog w = .ok 3 w := by
 obtain ⟨i,hi,_,hs,_⟩ := info_parts qaD
 simp [Go.sizeOf,typeInfo,hi,hs]
def qbU (g off cap : Nat) : Option Addr := if cap = 1 then some ⟨g,off,none⟩ else some ⟨g,off + 3,none⟩
theorem Ents.rest {w : World} {Z : Nat -> Prop} {g off n cap : Nat} {ls : List Ent} (h : Ents w Z (some ⟨g,off,none⟩) n cap ls) (h1 : 1 <= n) : Ents w Z (qbU g off cap) (n - 1) (cap - 1) (ls.drop 1) := by
 have hl := h.1
 have hc := h.2.1
 refine ⟨by simp; omega,by omega,(fun e => by unfold qbU at e; split at e <;> cases e),fun h0 => ?_⟩
 obtain ⟨g',off',e,hg,hz,hcell⟩ := h.2.2.2 (by omega)
 injection e with e
 injection e with e1 e2
 subst e1 e2
 refine ⟨g,off + 3,by unfold qbU; rw [if_neg (by omega)],hg,hz,fun j hj => ?_⟩
 have hj' : 1 + j < ls.length := by simp at hj; omega
 obtain ⟨E,c,c0,c1,c2,r⟩ := hcell (1 + j) hj'
 simp only [List.getElem_drop]
 exact ⟨E,c,by rw [show off + 3 + j * 3 = off + (1 + j) * 3 by omega]; exact c0,by rw [show off + 3 + j * 3 + 1 = off + (1 + j) * 3 + 1 by omega]; exact c1,by rw [show off + 3 + j * 3 + 2 = off + (1 + j) * 3 + 2 by omega]; exact c2,r⟩
end Go.Proofs.YtmiijlecfiddmaaGreat
set_option linter.unusedVariables false
set_option linter.unusedSimpArgs false
set_option maxRecDepth 100000
set_option maxHeartbeats 200000
namespace Go.Proofs.YtmiijlecfiddmaaGreat
structure Msg where
 k : Int
 f : Int
 o : Int
 t : Int
 i : Int
 l : Int
 c : Int
 x : Int
 b : Bool
 es : List Ent
 s : Ent
def Msg.zero : Msg := ⟨0,0,0,0,0,0,0,0,false,[],⟨0,0,[]⟩⟩
def numZ (n : Int) : Bool := decide (0 <= n) && decide (n <= 1099511627776)
def qdF (k f o t : Int) : Bool := decide (1 <= k) && (decide (k <= 7) && (decide (0 <= f) && (decide (f <= 2) && (decide (0 <= o) && (decide (o <= 2) && (decide (f ≠ o) && decide (1 <= t)))))))
def qdG (k i l c x : Int) (b : Bool) (n : Nat) (si st : Int) (sn : Nat) : Bool :=
 (decide (k = 1 \/ k = 3 \/ k = 5 \/ k = 6) || decide (i = 0)) && ((decide (k = 1 \/ k = 3 \/ k = 5) || decide (l = 0)) && ((decide (k = 5) || (decide (c = 0) && decide (n = 0))) &&
   ((decide (k = 5 \/ k = 6) || decide (x = 0)) && ((decide (k = 2 \/ k = 4 \/ k = 6) || !b) && (decide (k = 7) || (decide (si = 0) && (decide (st = 0) && decide (sn = 0))))))))
def qdH (t i l c x : Int) : Bool := numZ t && (numZ i && (numZ l && (numZ c && numZ x)))
def qdI (t : Int) (es : List Ent) : Bool := es.all fun e => decide (e.t <= t)
def qdu (k : Int) (si st : Int) (sn : Nat) : Bool := decide (k ≠ 7) || (qaH si st sn && decide (0 < si))
def qdv (m : Msg) : Bool :=
 qdF m.k m.f m.o m.t && ((qdH m.t m.i m.l m.c m.x && qdG m.k m.i m.l m.c m.x m.b m.es.length m.s.i m.s.t m.s.d.length) &&
  ((decide (m.es.length <= 4) && runB m.i m.l m.es) && (qdI m.t m.es && qdu m.k m.s.i m.s.t m.s.d.length)))
end Go.Proofs.YtmiijlecfiddmaaGreat
set_option linter.unusedVariables false
set_option linter.unusedSimpArgs false
set_option maxRecDepth 100000
set_option maxHeartbeats 200000
namespace Go.Proofs.YtmiijlecfiddmaaGreat
open Go.RowKit
end Go.Proofs.YtmiijlecfiddmaaGreat
set_option linter.unusedVariables false
set_option linter.unusedSimpArgs false
set_option maxRecDepth 100000
set_option maxHeartbeats 200000
namespace Go.Proofs.YtmiijlecfiddmaaGreat
open Go.RowKit
end Go.Proofs.YtmiijlecfiddmaaGreat
set_option linter.unusedVariables false
set_option linter.unusedSimpArgs false
set_option maxRecDepth 100000
set_option maxHeartbeats 200000
namespace Go.Proofs.YtmiijlecfiddmaaGreat
open Go.RowKit
def qN (i t : Int) : Bool := numB i && numB t
theorem qa7 (i t : Int) (n : Nat) : qw i t n = (qN i t && decide (n <= 12000)) := rfl
theorem qaW (i t : Int) (w : World) : Calls Tryz.prog 86 #[.int .i64 i, .int .i64 t] w fun e w' => e = .returned (.bool (qN i t)) /\ w = w' := by
 unfold qN numB
 by_cases h1 : 1 <= i
 · rw [decide_eq_true h1,Bool.true_and]
   by_cases h2 : i <= 1099511627776
   · rw [decide_eq_true h2,Bool.true_and]
     by_cases h3 : 1 <= t
     · rw [decide_eq_true h3,Bool.true_and]
       go_enter Tryz.func86,Tryz.ntmps86
       go_wp2
       go_ret
       exact ⟨rfl,rfl⟩
     · have e1 : decide (1 <= t) = false := decide_eq_false h3
       have e2 : (1 <= t) = False := eq_false h3
       rw [e1,Bool.false_and]
       clear h3
       go_enter Tryz.func86,Tryz.ntmps86
       go_wp2
       go_ret
       exact ⟨rfl,rfl⟩
   · have e1 : decide (i <= 1099511627776) = false := decide_eq_false h2
     have e2 : (i <= 1099511627776) = False := eq_false h2
     rw [e1,Bool.false_and]
     clear h2
     go_enter Tryz.func86,Tryz.ntmps86
     go_wp2
     go_ret
     exact ⟨rfl,rfl⟩
 · have e1 : decide (1 <= i) = false := decide_eq_false h1
   have e2 : (1 <= i) = False := eq_false h1
   rw [e1,Bool.false_and,Bool.false_and]
   clear h1
   go_enter Tryz.func86,Tryz.ntmps86
   go_wp2
   go_ret
   exact ⟨rfl,rfl⟩
theorem qaX (i t : Int) (A : Option Addr) (n c : Nat) (w : World) : Calls Tryz.prog 64 #[entV i t A n c] w fun e w' => e = .returned (.bool (qw i t n)) /\ Below w.heap.size w w' := by
 have hi := fun W => qaW i t W
 have hb : Below w.heap.size w (w.alloc (.cells #[.int .i64 i, .int .i64 t, .slice A n c] 78)) := (Below.refl _ _).alloc (Nat.le_refl _) _
 rw [qa7]
 generalize qN i t = bi at *
 cases bi with
 | false =>
   go_enter Tryz.func64,Tryz.ntmps64
   go_wp2_with fail
   refine (hi _).mono ?_
   rintro e w1 ⟨rfl,rfl⟩
   go_wp2
   go_ret
   exact ⟨rfl,hb⟩
 | true =>
   go_enter Tryz.func64,Tryz.ntmps64
   go_wp2_with fail
   refine (hi _).mono ?_
   rintro e w1 ⟨rfl,rfl⟩
   go_wp2
   go_ret
   refine ⟨?_,hb⟩
   show Ending.returned (.bool (decide ((n : Int) <= 12000))) = _
   rw [qbg n 12000 12000 rfl]
   rfl
theorem qcQ (t v : Int) (w : World) : Calls Tryz.prog 53 #[.agg #[.int .i64 t, .int .i64 v]] w fun e w' => e = .returned (.bool (qbb t v)) /\ Below w.heap.size w w' := by
 have hb : Below w.heap.size w (w.alloc (.cells #[.int .i64 t, .int .i64 v] 40)) := (Below.refl _ _).alloc (Nat.le_refl _) _
 unfold qbb
 have hv : decide (v <= 2) = decide (v < 3) := by
  apply Bool.eq_iff_iff.2
  simp
  omega
 rw [hv]
 clear hv
 by_cases h1 : 0 <= t
 · rw [decide_eq_true h1,Bool.true_and]
   by_cases h2 : t <= 1099511627776
   · rw [decide_eq_true h2,Bool.true_and]
     by_cases h3 : -1 <= v
     · rw [decide_eq_true h3,Bool.true_and]
       go_enter Tryz.func53,Tryz.ntmps53
       go_wp2
       go_ret
       exact ⟨rfl,hb⟩
     · have e1 : decide (-1 <= v) = false := decide_eq_false h3
       have e2 : (-1 <= v) = False := eq_false h3
       rw [e1,Bool.false_and]
       clear h3
       go_enter Tryz.func53,Tryz.ntmps53
       go_wp2
       go_ret
       exact ⟨rfl,hb⟩
   · have e1 : decide (t <= 1099511627776) = false := decide_eq_false h2
     have e2 : (t <= 1099511627776) = False := eq_false h2
     rw [e1,Bool.false_and]
     clear h2
     go_enter Tryz.func53,Tryz.ntmps53
     go_wp2
     go_ret
     exact ⟨rfl,hb⟩
 · have e1 : decide (0 <= t) = false := decide_eq_false h1
   have e2 : (0 <= t) = False := eq_false h1
   rw [e1,Bool.false_and]
   clear h1
   go_enter Tryz.func53,Tryz.ntmps53
   go_wp2
   go_ret
   exact ⟨rfl,hb⟩
theorem qcR (i t : Int) (A : Option Addr) (n c : Nat) (w : World) : Calls Tryz.prog 54 #[entV i t A n c] w fun e w' => e = .returned (.bool (qaH i t n)) /\ Below w.heap.size w w' := by
 have hi := fun W => qaW i t W
 have hb : Below w.heap.size w (w.alloc (.cells #[.int .i64 i, .int .i64 t, .slice A n c] 25)) := (Below.refl _ _).alloc (Nat.le_refl _) _
 have hs : qaH i t n = if i = 0 /\ t = 0 then decide (n = 0) else qN i t && decide (n <= 50000) := rfl
 rw [hs]
 clear hs
 by_cases h0 : i = 0 /\ t = 0
 · rw [if_pos h0]
   obtain ⟨rfl,rfl⟩ := h0
   clear hi
   go_enter Tryz.func54,Tryz.ntmps54
   go_wp2
   go_ret
   refine ⟨?_,hb⟩
   show Ending.returned (.bool ((n : Int) == 0)) = _
   rw [qde]
 · rw [if_neg h0]
   generalize qN i t = bi at *
   have hif : (i == 0) = false \/ (i = 0 /\ (t == 0) = false /\ (t = 0) = False) := by
    by_cases h : i = 0
    · refine .inr ⟨h,?_,eq_false fun e => h0 ⟨h,e⟩⟩
      exact beq_eq_false_iff_ne.2 fun e => h0 ⟨h,e⟩
    · exact .inl (beq_eq_false_iff_ne.2 h)
   clear h0
   rcases hif with hif | ⟨rfl,htf,htf2⟩
   all_goals
    cases bi
    · go_enter Tryz.func54,Tryz.ntmps54
      go_wp2_with fail
      refine (hi _).mono ?_
      rintro e w1 ⟨rfl,rfl⟩
      go_wp2
      go_ret
      exact ⟨rfl,hb⟩
    · go_enter Tryz.func54,Tryz.ntmps54
      go_wp2_with fail
      refine (hi _).mono ?_
      rintro e w1 ⟨rfl,rfl⟩
      go_wp2
      go_ret
      refine ⟨?_,hb⟩
      show Ending.returned (.bool (decide ((n : Int) <= 50000))) = _
      rw [qbg n 50000 50000 rfl]
      rfl
end Go.Proofs.YtmiijlecfiddmaaGreat
set_option linter.unusedVariables false
set_option linter.unusedSimpArgs false
set_option maxRecDepth 100000
set_option maxHeartbeats 200000
namespace Go.Proofs.YtmiijlecfiddmaaGreat
open Go.RowKit
section
variable {P : Program} {fn : Func} {p q u : Tmp} {T : TypeId} {W : World} {n : Nat} {cs : Array Value} {fr : Nat × Nat} {d : TypeDesc} {tmps : Array Value}
theorem qB (h : fn.results = #[.cell p T]) (h1 : tmps.getD p undef = .pointer (some ⟨n,0,none⟩)) (hW : W.heap[n]? = some (.cells cs T fr)) (hu : P.underlying T = some d)
 (hd : (match d with | .struct _ | .array _ _ => true | _ => false) = true) (hi : (P.info? T).map (·.size) = some cs.size) : (results fn tmps).run P W = .ok (.agg cs) W :=
 results_cell_row h tmps W n T cs fr d h1 hW hu hd hi
theorem qa8 (h : fn.results = #[.cell p T, .tmp u]) (h1 : tmps.getD p undef = .pointer (some ⟨n,0,none⟩)) (hW : W.heap[n]? = some (.cells cs T fr)) (hu : P.underlying T = some d)
 (hd : (match d with | .struct _ | .array _ _ => true | _ => false) = true) (hi : (P.info? T).map (·.size) = some cs.size) : (results fn tmps).run P W = .ok (.tuple #[.agg cs,tmps.getD u undef]) W := by
 rw [results_cell_tmp h,h1]
 simp [asAddr,run_loadVar_row W n T T cs fr d hW hu hd hi]
end
theorem row3 {w : World} {g : Nat} {v0 v1 v2 : Value} {T : TypeId} (h : w.heap[g]? = some (.cells #[v0,v1,v2] T)) : (w.cell? ⟨g,0,none⟩ = some v0 /\ w.cell? ⟨g,1,none⟩ = some v1 /\ w.cell? ⟨g,2,none⟩ = some v2) /\ (w.frozen? ⟨g,0,none⟩ = false /\ w.frozen? ⟨g,1,none⟩ = false /\ w.frozen? ⟨g,2,none⟩ = false) := by
 refine ⟨⟨?_,?_,?_⟩,⟨?_,?_,?_⟩⟩ <;> simp [World.cell?,World.frozen?,h]
theorem row4 {w : World} {g : Nat} {v0 v1 v2 v3 : Value} {T : TypeId} (h : w.heap[g]? = some (.cells #[v0,v1,v2,v3] T)) : (w.cell? ⟨g,0,none⟩ = some v0 /\ w.cell? ⟨g,1,none⟩ = some v1 /\ w.cell? ⟨g,2,none⟩ = some v2 /\ w.cell? ⟨g,3,none⟩ = some v3) /\ (w.frozen? ⟨g,0,none⟩ = false /\ w.frozen? ⟨g,1,none⟩ = false /\ w.frozen? ⟨g,2,none⟩ = false /\ w.frozen? ⟨g,3,none⟩ = false) := by
 refine ⟨⟨?_,?_,?_,?_⟩,⟨?_,?_,?_,?_⟩⟩ <;> simp [World.cell?,World.frozen?,h]
theorem qaU (X : World) (n : Nat) (a b c a0 b0 c0 : Value) (T : TypeId) (h : X.heap[n]? = some (.cells #[a0,b0,c0] T)) : (((X.setCell ⟨n,0,none⟩ a).setCell ⟨n,1,none⟩ b).setCell ⟨n,2,none⟩ c).heap[n]? = some (.cells #[a,b,c] T) := by
 simp only [World.setCell,Array.getElem?_modify,if_true,h,Option.map_some]
 simp
end Go.Proofs.YtmiijlecfiddmaaGreat
