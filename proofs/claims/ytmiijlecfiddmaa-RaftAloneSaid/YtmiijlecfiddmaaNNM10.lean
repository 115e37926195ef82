/- Rows of elements of any type in memory: from somewhere on, with room behind them; read, appended to, cut in front. -/
import Derived.Test.YtmiijlecfiddmaaNNM05
import Derived.Test.YtmiijlecfiddmaaNNM09
import Derived.Test.YtmiijlecfiddmaaNNM02
import Derived.Test.YtmiijlecfiddmaaNNM03
import Derived.Test.YtmiijlecfiddmaaNNM07
import Derived.Laws.Tables
import Derived.Test.YtmiijlecfiddmaaNNM08
import Derived.Deep.RegionLaw
import Derived.Deep.RegionHeld3
set_option linter.unusedVariables false
set_option linter.unusedSimpArgs false
set_option maxRecDepth 100000
set_option maxHeartbeats 200000
namespace Go.Proofs.Ytmiijlecfiddmaa
open Go.RowKit
structure Elem (ts T : TypeId) (z : Value) (sz bytes : Nat) : Prop where
 sl : Try.prog.underlying ts = some (.slice T)
 info : (Try.prog.info? T).map (fun i => (i.zero,i.size,i.bytes)) = some (some z,sz,bytes)
 zs : z.cells.size = sz
 pos : 0 < sz
 few : bytes <= 1000
def Sp (T : TypeId) (sz : Nat) (w : World) (A : Option Addr) (n cap : Nat) (vs : List Value) : Prop :=
 vs.length = n * sz /\ n <= cap /\ (A = none -> cap = 0) /\ ∀ a,A = some a -> ∃ g off cur,a = ⟨g,off,none⟩ /\ w.heap[g]? = some (.cells cur T (0,0)) /\ off + cap * sz <= cur.size /\ ∀ j u,vs[j]? = some u -> cur[off + j]? = some u
section
variable {w w' : World} {A : Option Addr} {n cap sz : Nat} {T : TypeId} {vs us : List Value}
theorem Sp.nil (T : TypeId) (sz : Nat) (w : World) : Sp T sz w none 0 0 [] := ⟨by simp,nlq,fun _ => rfl,fun a e => by cases e⟩
theorem Sp.keep (h : Sp T sz w A n cap vs) (hk : ∀ q,blk A q -> w'.heap[q]? = w.heap[q]?) : Sp T sz w' A n cap vs := by
 refine ⟨h.1,h.2.1,h.2.2.1,fun a e => ?_⟩
 obtain ⟨g,off,cur,rfl,hg,r⟩ := h.2.2.2 a e
 exact ⟨g,off,cur,rfl,(hk g ⟨off,e⟩).trans hg,r⟩
theorem Sp.block (h : Sp T sz w A n cap vs) {q : Nat} (hq : blk A q) : ∃ cur,w.heap[q]? = some (.cells cur T (0,0)) := by
 obtain ⟨o,e⟩ := hq
 obtain ⟨g,off,cur,e2,hg,_⟩ := h.2.2.2 _ e
 injection e2 with e2
 subst e2
 exact ⟨cur,hg⟩
theorem Sp.lt (h : Sp T sz w A n cap vs) {q : Nat} (hq : blk A q) : q < w.heap.size := by
 obtain ⟨cur,hg⟩ := h.block hq
 exact hlt hg
theorem Sp.len (h : Sp T sz w A n cap vs) : vs.length = n * sz := h.1
theorem Sp.at_ (h : Sp T sz w A n cap vs) (hs : 0 < sz) (k : Nat) (hk : k < n) : ∃ g off,A = some ⟨g,off,none⟩ /\ g < w.heap.size /\ (∀ j (hj : j < sz) u,vs[k * sz + j]? = some u -> w.cell? ⟨g,off + k * sz + j,none⟩ = some u) /\ ∀ o,w.frozen? ⟨g,o,none⟩ = false := by
 cases A with
 | none => have := h.2.2.1 rfl; have := h.2.1; omega
 | some a =>
   obtain ⟨g,off,cur,rfl,hg,hl,hc⟩ := h.2.2.2 a rfl
   refine ⟨g,off,rfl,hlt hg,fun j hj u hu => ?_,fun o => frozen_of_row w g o cur _ hg⟩
   rw [cell_of_row w g _ cur _ _ hg,Nat.add_assoc]
   exact hc _ u hu
theorem Sp.cells (h : Sp T sz w A n cap vs) {a : Addr} (e : A = some a) : ∀ j u,vs[j]? = some u -> w.cell? (a.add j) = some u := fun j u hu => by
 obtain ⟨g,off,cur,rfl,hg,_,hc⟩ := h.2.2.2 a e
 rw [Addr.add_lit,cell_of_row w g _ cur _ _ hg]
 exact hc j u hu
theorem Sp.spotless (h : Sp T sz w A n cap vs) : ∀ a,A = some a -> a.spot = none := fun a e => by
 obtain ⟨g,off,cur,rfl,_⟩ := h.2.2.2 a e
 rfl
def qC (sz : Nat) (A : Option Addr) (cap k : Nat) : Option Addr := if cap = k then A else A.map (·.add (k * sz))
theorem qc5 {k : Nat} (q : Nat) (hA : ∀ a,A = some a -> a.spot = none) : blk (qC sz A cap k) q ↔ blk A q := by
 unfold qC
 split
 · exact Iff.rfl
 · cases A with
   | none => exact Iff.rfl
   | some a =>
     obtain ⟨g,o,sp⟩ := a
     obtain rfl : sp = none := hA _ rfl
     rw [Option.map_some,Addr.add_lit,qs,qs]
theorem Sp.drop (h : Sp T sz w A n cap vs) {k : Nat} (hk : k <= n) : Sp T sz w (qC sz A cap k) (n - k) (cap - k) (vs.drop (k * sz)) := by
 have h1 := h.1
 have h2 := h.2.1
 refine ⟨by rw [List.length_drop,h1,Nat.sub_mul],by omega,fun e => ?_,fun a e => ?_⟩
 · unfold qC at e
   split at e
   · omega
   · cases A with
     | none => have := h.2.2.1 rfl; omega
     | some a => cases e
 · cases A with
   | none => unfold qC at e; split at e <;> cases e
   | some b =>
     obtain ⟨g,off,cur,rfl,hg,hs,hc⟩ := h.2.2.2 b rfl
     unfold qC at e
     split at e
     · injection e with e
       subst e
       refine ⟨g,off,cur,rfl,hg,?_,fun j u hu => ?_⟩
       · have : (cap - k) * sz <= cap * sz := Nat.mul_le_mul_right _ (Nat.sub_le _ _)
         omega
       · have hl : j < (vs.drop (k * sz)).length := (List.getElem?_eq_some_iff.1 hu).1
         rw [List.length_drop,h1] at hl
         have : n * sz <= k * sz := Nat.mul_le_mul_right _ (by omega)
         omega
     · rw [Option.map_some,Addr.add_lit] at e
       injection e with e
       subst e
       refine ⟨g,off + k * sz,cur,rfl,hg,?_,fun j u hu => ?_⟩
       · have : k * sz + (cap - k) * sz = cap * sz := by rw [<- Nat.add_mul]; congr 1; omega
         omega
       · rw [List.getElem?_drop] at hu
         rw [Nat.add_assoc]
         exact hc _ _ hu
theorem Sp.take (h : Sp T sz w A n cap vs) {k : Nat} (hk : k <= n) : Sp T sz w A k cap (vs.take (k * sz)) := by
 have h1 := h.1
 have h2 := h.2.1
 have hm : k * sz <= n * sz := Nat.mul_le_mul_right _ hk
 refine ⟨by rw [List.length_take]; omega,by omega,h.2.2.1,fun a e => ?_⟩
 obtain ⟨g,off,cur,rfl,hg,hs,hc⟩ := h.2.2.2 a e
 refine ⟨g,off,cur,rfl,hg,hs,fun j u hu => hc j u ?_⟩
 rw [List.getElem?_take] at hu
 split at hu
 · exact hu
 · cases hu
variable {ts : TypeId} {z : Value} {bytes : Nat}
theorem Elem.size (E : Elem ts T z sz bytes) (W : World) : (Go.sizeOf T).run Try.prog W = .ok sz W := by
 obtain ⟨i,hi,_,hs,_⟩ := info_parts E.info
 simp [Go.sizeOf,typeInfo,hi,hs]
theorem qcG (E : Elem ts T z sz bytes) {k : Nat} (hk : k <= n) (hn : n <= cap) (W : World) : (Instr.slice ts (.slice A n cap) (some (.int .i64 (k : Int))) none none).run Try.prog W = .ok (.slice (qC sz A cap k) (n - k) (cap - k)) W := by
 have ht := E.sl
 have ht' : Try.prog.underlying ts = some (.slice (Try.prog.elem ts)) := by simp [Program.elem,ht]
 have he : Try.prog.elem ts = T := by simp [Program.elem,ht]
 rw [run_slice_l W ts _ _ _ ht' .i64 _ (by omega) (by omega),he,E.size]
 simp [Result.andThen,sliced,qC]
theorem qaC (E : Elem ts T z sz bytes) (ty : TypeId) (h : Sp T sz w A n cap vs) (B : Option Addr) (m c : Nat) (hB : B = none -> m = 0) (hl : us.length = m * sz) (h1 : ∀ u ∈ us,u.oneCell' = true) (hcell : ∀ b,B = some b -> ∀ j u,us[j]? = some u -> w.cell? (b.add j) = some u) (hf : n + m <= 1000000) :
 ∃ A' cap' w',(Builtin.append_ #[ts,ts] ty #[.slice A n cap, .slice B m c]).run Try.prog w = .ok (.slice A' (n + m) cap') w' /\ Sp T sz w' A' (n + m) cap' (vs ++ us) /\ (∀ q,blk A' q -> blk A q \/ w.heap.size <= q) ∧
  w.os = w'.os /\ w.tape = w'.tape /\ w.output = w'.output /\ w.heap.size <= w'.heap.size /\ ∀ q,q < w.heap.size -> ¬ blk A q -> w'.heap[q]? = w.heap[q]? := by
 obtain ⟨i0,hi0,hz0,hz1,hz2⟩ := info_parts E.info
 have hu := E.sl
 have hzs := E.zs
 have hpos := E.pos
 have hfew := E.few
 have hlen := h.1
 have hnc := h.2.1
 have hbytes : (n + m) * bytes <= 140737488355328 := Nat.le_trans (Nat.mul_le_mul hf hfew) (by decide)
 cases B with
 | none =>
   obtain rfl := hB rfl
   obtain rfl : us = [] := List.eq_nil_of_length_eq_zero (by simpa using hl)
   refine ⟨A,cap,w,?_,by simpa using h,fun q hq => .inl hq,rfl,rfl,rfl,nlq,fun _ _ _ => rfl⟩
   cases A with
   | none =>
     have := h.2.2.1 rfl
     obtain rfl : cap = 0 := this
     obtain rfl : n = 0 := by omega
     simp [Builtin.append_,run_underlying hu,sizeOf,typeInfo,hi0,Builtin.lenOf,Builtin.firstCells,loadCells,loadCellsFrom]
   | some a =>
     simp [Builtin.append_,run_underlying hu,sizeOf,typeInfo,hi0,Builtin.lenOf,Builtin.firstCells,loadCells,loadCellsFrom,hnc,storeCells]
 | some b =>
   have hcb := hcell b rfl
   have fresh : ∀ v' w',w'.ownsRow w.heap.size T sz v' (n + m) (vs ++ us) -> w.grownBy w' none -> 0 < n + m -> (Builtin.append_ #[ts,ts] ty #[.slice A n cap, .slice (some b) m c]).run Try.prog w = .ok v' w' →
    ∃ A' cap' w',(Builtin.append_ #[ts,ts] ty #[.slice A n cap, .slice (some b) m c]).run Try.prog w = .ok (.slice A' (n + m) cap') w' /\ Sp T sz w' A' (n + m) cap' (vs ++ us) /\ (∀ q,blk A' q -> blk A q \/ w.heap.size <= q) ∧
     w.os = w'.os /\ w.tape = w'.tape /\ w.output = w'.output /\ w.heap.size <= w'.heap.size /\ ∀ q,q < w.heap.size -> ¬ blk A q -> w'.heap[q]? = w.heap[q]? := by
    intro v' w' ho hg h0 hr
    rcases ho.2 with ⟨_,h1⟩ | ⟨g,cap',cur,rfl,hb,hh,h1,h2,h3,h4⟩
    · omega
    · have hh' : w'.heap[g]? = some (.cells cur T (0,0)) := hh
      refine ⟨some ⟨g,0,none⟩,cap',w',hr,⟨by rw [List.length_append,hlen,hl,Nat.add_mul],h1,(fun e => by cases e),fun a e => ?_⟩,fun q hq => .inr ?_,hg.os.symm,hg.tape.symm,hg.output.symm,hg.size,fun q hq _ => hg.block q hq (by simp)⟩
      · injection e with e
        subst e
        refine ⟨g,0,cur,rfl,hh',by omega,fun j u hu => ?_⟩
        rw [<- h4] at hu
        rw [List.getElem?_take] at hu
        split at hu
        · rw [Nat.zero_add]; simpa using hu
        · cases hu
      · rw [qs] at hq
        omega
   cases A with
   | none =>
     have := h.2.2.1 rfl
     obtain rfl : cap = 0 := this
     obtain rfl : n = 0 := by omega
     obtain rfl : vs = [] := List.eq_nil_of_length_eq_zero (by simpa using hlen)
     rcases Nat.eq_zero_or_pos m with h0 | h0
     · subst h0
       obtain rfl : us = [] := List.eq_nil_of_length_eq_zero (by simpa using hl)
       refine ⟨none,0,w,?_,by simpa using h,fun q hq => .inl hq,rfl,rfl,rfl,nlq,fun _ _ _ => rfl⟩
       simp [Builtin.append_,run_underlying hu,sizeOf,typeInfo,hi0,Builtin.lenOf,Builtin.firstCells,loadCells,loadCellsFrom]
     · obtain ⟨v',w',hr,h2,h3,_,_⟩ := run_append_own_at (P := Try.prog) w w.heap.size ts ty T i0 _ sz bytes hu hi0 hz0 hz1 hz2 hzs hpos (.slice none 0 0) 0 [] (World.ownsRow_nil _ _ _ _) b m c us hl hcb h1 (by unfold maxLen; omega) hbytes nlq
       exact fresh v' w' h2 h3 (by omega) hr
   | some a =>
     obtain ⟨g,off,cur,rfl,hg,hs,hc⟩ := h.2.2.2 a rfl
     by_cases hroom : n + m <= cap
     · have hmul : (n + m) * sz <= cap * sz := Nat.mul_le_mul_right sz hroom
       have hin : ∀ j,j < us.length -> off + n * sz + j < cur.size := fun j hj => by
        rw [hl] at hj
        rw [Nat.add_mul] at hmul
        omega
       have hrun := run_append_room_cells (P := Try.prog) w ts ty T i0 hu hi0 g off n cap b m c us (by rw [hz1]; exact hl) hcb h1 hroom
        (fun j hj => by
          rw [hz1,cell_of_row w g _ cur _ _ hg,Array.getElem?_eq_getElem (hin j hj)]
          rfl)
        (fun j hj => by rw [hz1]; exact frozen_of_row w g _ cur _ hg)
       rw [hz1] at hrun
       obtain ⟨C',c1,c2,c3,c4⟩ := setCells_at g us (off + n * sz) w cur _ _ hg (by
        rw [hl]
        rw [Nat.add_mul] at hmul
        omega)
       obtain ⟨hgr,hsz⟩ := qX g us (off + n * sz) w
       refine ⟨some ⟨g,off,none⟩,cap,_,hrun,⟨by rw [List.length_append,hlen,hl,Nat.add_mul],hroom,(fun e => by cases e),fun a e => ?_⟩,fun q hq => .inl hq,hgr.os.symm,hgr.tape.symm,hgr.output.symm,hgr.size,fun q hq hne => hgr.block q hq (fun e => hne (by injection e with e; rw [e,qs]))⟩
       injection e with e
       subst e
       refine ⟨g,off,C',rfl,c1,by omega,fun j u hu => ?_⟩
       rcases Nat.lt_or_ge j (n * sz) with hj | hj
       · rw [List.getElem?_append_left (by omega)] at hu
         rw [c3 _ (by omega)]
         exact hc j u hu
       · rw [List.getElem?_append_right (by omega),hlen] at hu
         rw [show off + j = off + n * sz + (j - n * sz) by omega]
         exact c4 _ _ hu
     · obtain ⟨v',w',hr,h2,h3⟩ := run_append_arg_grows (P := Try.prog) w ts ty T i0 _ sz bytes hu hi0 hz0 hz1 hz2 hzs hpos ⟨g,off,none⟩ n cap vs hlen (h.cells rfl) b m c us hl hcb (by omega) (by unfold maxLen; omega) hbytes
       exact fresh v' w' h2 h3 (by omega) hr
end
end Go.Proofs.Ytmiijlecfiddmaa
set_option linter.unusedVariables false
set_option linter.unusedSimpArgs false
set_option maxRecDepth 100000
set_option maxHeartbeats 200000
namespace Go.Proofs.Ytmiijlecfiddmaa
open Go.RowKit
end Go.Proofs.Ytmiijlecfiddmaa
set_option linter.unusedVariables false
set_option linter.unusedSimpArgs false
set_option maxRecDepth 100000
set_option maxHeartbeats 200000
namespace Go.Proofs.Ytmiijlecfiddmaa
open Go.RowKit
abbrev msgV (m : Msg) (A : Option Addr) (cA : Nat) (E : Option Addr) (cE : Nat) : Value :=
 .agg #[.int .i64 m.k, .int .i64 m.f, .int .i64 m.o, .int .i64 m.t, .int .i64 m.i, .int .i64 m.l, .int .i64 m.c, .int .i64 m.x, .bool m.b, .slice A m.es.length cA, .int .i64 m.s.i, .int .i64 m.s.t, .slice E m.s.d.length cE]
structure qk (w : World) (Z : Nat -> Prop) (m : Msg) (A : Option Addr) (cA : Nat) (E : Option Addr) (cE : Nat) : Prop where
 ents : Ents w Z A m.es.length cA m.es
 hm : cA <= maxLen
 lies : Lies w E m.s.d.length cE m.s.d
 hz : 0 < m.s.d.length -> ∀ g off,E = some ⟨g,off,none⟩ -> Z g
section
variable {w w' : World} {Z Z' : Nat → Prop} {m : Msg} {A E : Option Addr} {cA cE : Nat}
theorem qk.len (h : qk w Z m A cA E cE) : m.es.length <= maxLen := Nat.le_trans h.ents.2.1 h.hm
theorem qk.keep (h : qk w Z m A cA E cE) (hs : w.heap.size <= w'.heap.size) (hk : ∀ k,k < w.heap.size -> Z k -> w'.heap[k]? = w.heap[k]?) : qk w' Z m A cA E cE :=
 ⟨h.ents.keep hs hk,h.hm,h.lies.keep hs fun h0 g off e hg => hk g hg (h.hz h0 g off e),h.hz⟩
theorem qk.keeps (h : qk w Z m A cA E cE) (hk : qf Z w w') : qk w' Z m A cA E cE := h.keep hk.size fun k h1 h2 => hk.block k h1 h2
theorem qk.below (h : qk w Z m A cA E cE) {B : Nat} (hb : Below B w w') (hB : w.heap.size <= B) : qk w' Z m A cA E cE :=
 h.keep hb.size fun k hk _ => hb.block k (Nat.lt_of_lt_of_le hk hB)
theorem qk.mono (h : qk w Z m A cA E cE) (hz : ∀ k,Z k -> Z' k) : qk w Z' m A cA E cE :=
 ⟨h.ents.mono hz,h.hm,h.lies,fun h0 g off e => hz _ (h.hz h0 g off e)⟩
theorem qO (w : World) (Z : Nat -> Prop) : Ents w Z none 0 0 [] := ⟨rfl,Nat.le_refl _,fun _ => rfl,fun h => absurd h (by omega)⟩
theorem qk.zero (w : World) (Z : Nat -> Prop) : qk w Z Msg.zero none 0 none 0 :=
 ⟨qO w Z,Nat.zero_le _,Lies.nil w,fun h => absurd h (by simp [Msg.zero])⟩
theorem qk.of {m' : Msg} (h : qk w Z m A cA E cE) (he : m'.es = m.es) (hs : m'.s.d = m.s.d) : qk w Z m' A cA E cE := by
 obtain ⟨h1,h2,h3,h5⟩ := h
 refine ⟨by rw [he]; exact h1,h2,by rw [hs]; exact h3,by rw [hs]; exact h5⟩
end
end Go.Proofs.Ytmiijlecfiddmaa
set_option linter.unusedVariables false
set_option linter.unusedSimpArgs false
set_option maxRecDepth 100000
set_option maxHeartbeats 200000
namespace Go.Proofs.Ytmiijlecfiddmaa
open Go.RowKit
end Go.Proofs.Ytmiijlecfiddmaa
set_option linter.unusedVariables false
set_option linter.unusedSimpArgs false
set_option maxRecDepth 100000
set_option maxHeartbeats 200000
namespace Go.Proofs.Ytmiijlecfiddmaa
open Go.RowKit
theorem cells_one {W : World} {k : Nat} {T : TypeId} (x : Lay) {n : Nat} (hn : x.e.d.length = n) (h : W.heap[k]? = some (.cells #[.int .i64 x.e.i, .int .i64 x.e.t, .slice x.A n x.c] T)) : ∀ j u,(rowOf [x])[j]? = some u -> W.cell? ((⟨k,0,none⟩ : Addr).add j) = some u := by
 intro j u hu
 rw [Addr.add_lit,Nat.zero_add,cell_of_row _ _ _ _ _ _ h]
 have e : rowOf [x] = [.int .i64 x.e.i, .int .i64 x.e.t, .slice x.A n x.c] := by simp [rowOf,cells3,hn]
 rw [e] at hu
 simpa using hu
end Go.Proofs.Ytmiijlecfiddmaa
set_option linter.unusedVariables false
set_option linter.unusedSimpArgs false
set_option maxRecDepth 100000
set_option maxHeartbeats 200000
namespace Go.Proofs.Ytmiijlecfiddmaa
open Go.RowKit
end Go.Proofs.Ytmiijlecfiddmaa
set_option linter.unusedVariables false
set_option linter.unusedSimpArgs false
set_option maxRecDepth 100000
set_option maxHeartbeats 200000
namespace Go.Proofs.Ytmiijlecfiddmaa
open Go.RowKit
theorem Lg.row4 {w : World} {p : Nat} {r : RL} {s : Nat} {Z : Nat -> Prop} (h : Lg w p r s Z) : w.cell? ⟨p,3,none⟩ = some (.int .i64 (s : Int)) /\ w.frozen? ⟨p,3,none⟩ = false := by
 obtain ⟨A,c,xs,h⟩ := h
 obtain ⟨⟨_,_,_,c3⟩,⟨_,_,_,f3⟩⟩ := Proofs.Ytmiijlecfiddmaa.row4 h.row
 exact ⟨c3,f3⟩
end Go.Proofs.Ytmiijlecfiddmaa
set_option linter.unusedVariables false
set_option linter.unusedSimpArgs false
set_option maxRecDepth 100000
set_option maxHeartbeats 200000
namespace Go.Proofs.Ytmiijlecfiddmaa
open Go.RowKit
theorem Ents.back {w : World} {Z : Nat -> Prop} {A : Option Addr} {n cap : Nat} {ls : List Ent} (h : Ents w Z A n cap ls) {k : Nat} (hk : k <= n) : Ents w Z (qD A cap k) (n - k) (cap - k) (ls.drop k) := by
 have hl := h.1
 have hc := h.2.1
 refine ⟨by rw [List.length_drop]; omega,by omega,fun e => ?_,fun h0 => ?_⟩
 · unfold qD at e
   split at e
   · omega
   · cases A with
     | none => have := h.2.2.1 rfl; omega
     | some a => cases e
 · obtain ⟨g,off,e,hg,hz,hcell⟩ := h.2.2.2 (by omega)
   subst e
   refine ⟨g,off + k * 3,by unfold qD; rw [if_neg (by omega),Option.map_some,Addr.add_lit],hg,hz,fun j hj => ?_⟩
   have hj' : k + j < ls.length := by rw [List.length_drop] at hj; omega
   obtain ⟨E,c,c0,c1,c2,r⟩ := hcell (k + j) hj'
   simp only [List.getElem_drop]
   exact ⟨E,c,by rw [show off + k * 3 + j * 3 = off + (k + j) * 3 by omega]; exact c0,by rw [show off + k * 3 + j * 3 + 1 = off + (k + j) * 3 + 1 by omega]; exact c1,by rw [show off + k * 3 + j * 3 + 2 = off + (k + j) * 3 + 2 by omega]; exact c2,r⟩
end Go.Proofs.Ytmiijlecfiddmaa
