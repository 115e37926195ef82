/- Bytes in memory: slices, an Out, an In; numbers as bytes. -/
import Derived.Test.YtmeoooojmhhahaaGreatTCmn
import Derived.Test.YtmeoooojmhhahaaGreatTWalPure
import Derived.Test.YtmeoooojmhhahaaGreatRows
import Derived.Deep.LoopGhost
import Derived.Deep.RegionLaw
import Derived.Deep.RegionWith
import Derived.Deep.Cut
import Derived.RegionTactic
import Derived.BigRegion
import Derived.ChangeAlike
set_option linter.unusedVariables false
set_option linter.unusedSimpArgs false
set_option maxRecDepth 100000
set_option maxHeartbeats 6400000
namespace Go.Proofs.YtmeoooojmhhahaaGreat
open Go.RowKit
section
variable {Z Z' : Nat → Prop} {w w' w'' : World}
end
section
set_option linter.unusedSectionVars false
variable {w w' : World} {A : Option Addr} {len cap : Nat} {l : List UInt8} {Z : Nat → Prop}
end
end Go.Proofs.YtmeoooojmhhahaaGreat
namespace Go.Proofs.YtmeoooojmhhahaaGreat
open Go.RowKit
structure qaq (w : World) (o : Nat) (v : Value) (l : List UInt8) (Z : Nat -> Prop) : Prop where
 head : w.heap[o]? = some (.cells #[v, .bool false] 187)
 row : Owns 5 w 0 v l
 off : ∀ k,v.ownBlock = some k -> k ≠ o /\ ¬ Z k
 nz : ¬ Z o
 fits : l.length <= 60000
structure qbf (w : World) (o : Nat) (Z : Nat -> Prop) : Prop where
 head : w.heap[o]? = some (.cells #[.slice none 0 0, .bool true] 187)
 nz : ¬ Z o
def Out (w : World) (o : Nat) (l : List UInt8) (Z : Nat -> Prop) : Prop := (∃ v,qaq w o v l Z) \/ (60000 < l.length /\ qbf w o Z)
section
variable {w w' : World} {o : Nat} {v v' : Value} {l new : List UInt8} {Z Z' : Nat → Prop}
theorem qaq.keep (h : qaq w o v l Z) (hs : w.heap.size <= w'.heap.size) (hk : ∀ k,k < w.heap.size -> ¬ Z k -> w'.heap[k]? = w.heap[k]?) : qaq w' o v l Z := by
 exact ⟨(hk o (hlt h.head) h.nz).trans h.head,h.row.keep fun g e => hk g (h.row.lt g e).2 (h.off g e).2,h.off,h.nz,h.fits⟩
theorem qbf.keep (h : qbf w o Z) (hk : ∀ k,k < w.heap.size -> ¬ Z k -> w'.heap[k]? = w.heap[k]?) : qbf w' o Z := ⟨(hk o (hlt h.head) h.nz).trans h.head,h.nz⟩
theorem Out.keep (h : Out w o l Z) (hs : w.heap.size <= w'.heap.size) (hk : ∀ k,k < w.heap.size -> ¬ Z k -> w'.heap[k]? = w.heap[k]?) : Out w' o l Z := by
 rcases h with ⟨v,h⟩ | ⟨h0,h⟩
 · exact .inl ⟨v,h.keep hs hk⟩
 · exact .inr ⟨h0,h.keep hk⟩
theorem Out.below (h : Out w o l Z) {B : Nat} (hb : Below B w w') (hB : w.heap.size <= B) : Out w' o l Z := h.keep hb.size fun k hk _ => hb.block k (Nat.lt_of_lt_of_le hk hB)
theorem Out.grown (h : Out w o l Z) {row : Option Nat} (hg : w.grownBy w' row) (hr : ∀ k,row = some k -> Z k) : Out w' o l Z :=
 h.keep hg.size fun k hk hz => hg.block k hk fun e => hz (hr k e.symm)
theorem qaq.lt (h : qaq w o v l Z) : o < w.heap.size := hlt h.head
theorem Out.out (h : Out w o l Z) (hZ : ∀ k,Z' k -> Z k \/ w.heap.size <= k) : Out w o l Z' := by
 have nz : ∀ k,k < w.heap.size -> ¬ Z k -> ¬ Z' k := fun k hk hz hz' => by
  rcases hZ k hz' with h | h
  · exact hz h
  · omega
 rcases h with ⟨v,h⟩ | ⟨h0,h⟩
 · exact .inl ⟨v,h.head,h.row,fun k e => ⟨(h.off k e).1,nz k (h.row.lt k e).2 (h.off k e).2⟩,nz o (hlt h.head) h.nz,h.fits⟩
 · exact .inr ⟨h0,h.head,nz o (hlt h.head) h.nz⟩
theorem qaq.put (h : qaq w o v l Z) (hZ : ∀ k,Z k -> k < w.heap.size) (hr : Owns 5 w' 0 v' (l ++ new)) (hg : w.grownBy w' v.ownBlock) (hb : v'.ownBlock = v.ownBlock \/ v'.ownBlock = some w.heap.size)
 (hf : (l ++ new).length <= 60000) : qaq (w'.setCell ⟨o,0,none⟩ v') o v' (l ++ new) Z /\ qc Z w (w'.setCell ⟨o,0,none⟩ v') := by
 have hlo := h.lt
 have ho : w'.heap[o]? = some (.cells #[v, .bool false] 187) := (hg.block o hlo fun e => (h.off o e.symm).1 rfl).trans h.head
 have hoff : ∀ k,v'.ownBlock = some k -> k ≠ o /\ ¬ Z k := fun k e => by
  rcases hb with hb | hb
  · exact h.off k (hb ▸ e)
  · rw [hb] at e
    injection e with e
    subst e
    exact ⟨by omega,fun hz => Nat.lt_irrefl _ (hZ _ hz)⟩
 exact ⟨⟨by rw [setCell_at _ ⟨o,0,none⟩ _ _ _ _ rfl ho]; rfl,hr.keep fun g e => Below.heap_setCell _ _ _ _ (hoff g e).1,hoff,h.nz,hf⟩,(qc1 hg fun k e => (h.off k e).2).trans (qo _ _ _ h.nz)⟩
end
theorem qaq.puts {w : World} {o : Nat} {v : Value} {l : List UInt8} {Z : Nat -> Prop} (h : qaq w o v l Z) {w0 : World} (hk : qc Z w0 w) (hZ : ∀ k,Z k -> k < w0.heap.size) (new : List UInt8) {w1 : World} {v1 : Value} (hr : Owns 5 w1 0 v1 (l ++ new)) (hg : w.grownBy w1 v.ownBlock)
 (hb : v1.ownBlock = v.ownBlock \/ v1.ownBlock = some w.heap.size) (hf : (l ++ new).length <= 60000) (N : Nat) (hN : (l ++ new).length = N) :
 ∃ A1 cap1,v1 = .slice A1 N cap1 /\ w1.cell? ⟨o,0,none⟩ = some v /\ w1.frozen? ⟨o,0,none⟩ = false /\ qaq (w1.setCell ⟨o,0,none⟩ v1) o v1 (l ++ new) Z /\ qc Z w0 (w1.setCell ⟨o,0,none⟩ v1) := by
 have hput := h.put (fun i hi => Nat.lt_of_lt_of_le (hZ i hi) hk.size) hr hg hb hf
 have ho2 : w1.heap[o]? = some (.cells #[v, .bool false] 187) := (hg.block o h.lt fun e => (h.off o e.symm).1 rfl).trans h.head
 obtain ⟨A1,cap1,e,_⟩ := qq hr
 rw [hN] at e
 exact ⟨A1,cap1,e,by simp [World.cell?,ho2],by simp [World.frozen?,ho2],hput.1,hk.trans hput.2⟩
theorem qfM (w : World) (Z : Nat -> Prop) (hZ : ∀ k,Z k -> k < w.heap.size) : Out (w.alloc (.cells #[.slice none 0 0, .bool false] 187)) w.heap.size [] Z :=
 .inl ⟨.slice none 0 0,heap_alloc_new _ _,Owns.nil _ _ _,(fun k e => by cases e),fun hz => Nat.lt_irrefl _ (hZ _ hz),by simp⟩
theorem qgA {P : Program} (w : World) (t u ty e : TypeId) (i : TypeInfo) (ht : P.underlying t = some (.slice e)) (hu : P.underlying u = some .string) (hi : P.info? e = some i) (hz : i.zero = some (.int .u8 0))
 (hsize : i.size = 1) (hby : i.bytes = 1) (v : Value) (n : Nat) (xs : List Value) (hown : w.ownsRow 0 e 1 v n xs) (s : ByteArray) (h63 : n + s.size <= 60000) :
 ∃ v' w',(Builtin.append_ #[t,u] ty #[v, .string s]).run P w = .ok v' w' /\ w'.ownsRow 0 e 1 v' (n + s.size) (xs ++ Go.Lib.strCells s) /\ w.grownBy w' v.ownBlock /\ (v'.ownBlock = v.ownBlock \/ v'.ownBlock = some w.heap.size) := by
 obtain ⟨v',w',hr,h2,h3,h4⟩ := Go.Lib.run_append_own_string (P := P) w 0 t u ty e i ht hu hi hz hsize hby v n xs hown s (by unfold maxLen; omega) (by omega) (Nat.zero_le _)
 refine ⟨v',w',hr,h2,h3,?_⟩
 have hxl : xs.length = n := by simpa using hown.1
 rcases hown.2 with ⟨rfl,rfl⟩ | ⟨g,cap,cur,rfl,hbg,hg,hnc,hcm,hcs,htake⟩
 · by_cases hm : s.size = 0
   · rw [h4.2 ⟨rfl,hm⟩]; exact .inl rfl
   · have hr2 := run_append_nil_string (P := P) w t u ty e i (.int .u8 0) ht hu hi hz s (by omega) (by omega) (by rw [hby]; omega)
     rw [hr2] at hr
     injection hr with e1 _
     rw [<- e1]
     exact .inr rfl
 · by_cases hroom : n + s.size <= cap
   · have hcs' : cur.size = cap := by simpa using hcs
     have hr2 := Go.Lib.run_append_room_string (P := P) w t u ty e i ht hu hi hsize g n cap cur hg s hroom (by omega)
     rw [hr2] at hr
     injection hr with e1 _
     rw [<- e1]
     exact .inl rfl
   · have holds : ∀ j u,xs[j]? = some u -> w.cell? ((⟨g,0,none⟩ : Addr).add j) = some u := hown.cells (g := g) rfl
     have hr2 := Go.Lib.run_append_grow_string (P := P) w t u ty e i (.int .u8 0) ht hu hi hz ⟨g,0,none⟩ n cap xs (by rw [hsize]; simpa using hxl) holds s (by omega) (by omega) (by rw [hby]; exact growslice_fits (by omega) (by omega))
     rw [hr2] at hr
     injection hr with e1 _
     rw [<- e1]
     exact .inr rfl
theorem wpList_append_text {P : Program} (w : World) {ops : Array Oper} {rest : List Oper} {o : Oper} {a : Act} {Q : Exit -> Act -> World -> Prop} (hgd : o.guard = none) (sl x : Operand) (t u : TypeId)
 (ho : o.op = .call { callee := .builtin .append,args := #[sl,x],argTypes := #[t,u] })
 (e : TypeId) (i : TypeInfo) (ht : P.underlying t = some (.slice e)) (hu : P.underlying u = some .string) (hi : P.info? e = some i) (hz : i.zero = some (.int .u8 0)) (hsize : i.size = 1) (hby : i.bytes = 1)
 (v : Value) (l : List UInt8) (hs : a.eval sl = v) (hown : Owns e w 0 v l) (s : ByteArray) (hx : a.eval x = .string s) (hf : (l ++ s.data.toList).length <= 60000)
 (h : ∀ v' w',Owns e w' 0 v' (l ++ s.data.toList) -> w.grownBy w' v.ownBlock -> (v'.ownBlock = v.ownBlock \/ v'.ownBlock = some w.heap.size) -> wpList P ops Q rest (a.put o.dst v') w') : wpList P ops Q (o :: rest) a w := by
 have hsz : s.data.toList.length = s.size := by simp
 have hl : l.length + s.size = (l ++ s.data.toList).length := by simp
 refine wpList_plain hgd fun K hK => ?_
 obtain ⟨v',w',hr,h2,h3,h4⟩ := qgA (P := P) w t u o.type e i ht hu hi hz hsize hby v l.length (cellsOf l) hown s (by omega)
 unfold Oper.wp execOp
 simp only [ho,resolve,invoke,builtin,Sem.run_bind,Sem.run_pure,Result.andThen_ok,List.map_toArray,List.map_cons,List.map_nil,hs,hx,hr]
 rw [hl] at h2
 rw [strCells_eq,<- List.map_append] at h2
 exact hK _ _ (h v' w' h2 h3 h4)
theorem qfY (n : Int) (w : World) (o : Nat) (Z : Nat -> Prop) (h : qbf w o Z) : Calls Tryz.prog 167 #[.pointer (some ⟨o,0,none⟩), .int .i64 n] w fun e w' => e = .returned (.bool false) /\ w = w' := by
 have f1 : w.cell? ⟨o,1,none⟩ = some (.bool true) := by simp [World.cell?,h.head]
 go_enter Tryz.func167,Tryz.ntmps167
 go_wp2
 go_ret
 exact ⟨rfl,rfl⟩
theorem qaq.shape {w : World} {o : Nat} {v : Value} {l : List UInt8} {Z : Nat -> Prop} (h : qaq w o v l Z) : ∃ A cap,v = .slice A l.length cap /\ Lies w A l.length cap l := by
 obtain ⟨A,cap,e,h1,_⟩ := qq h.row
 exact ⟨A,cap,e,h1⟩
theorem qfZ (n : Nat) (w : World) (o : Nat) (v : Value) (l : List UInt8) (Z : Nat -> Prop) (h : qaq w o v l Z) (hn : l.length + n <= 60000) :
 Calls Tryz.prog 167 #[.pointer (some ⟨o,0,none⟩), .int .i64 (n : Int)] w fun e w' => e = .returned (.bool true) /\ w = w' := by
 obtain ⟨A,cap,rfl,_⟩ := h.shape
 have hf := h.fits
 have f0 : w.cell? ⟨o,0,none⟩ = some (.slice A l.length cap) := by simp [World.cell?,h.head]
 have f1 : w.cell? ⟨o,1,none⟩ = some (.bool false) := by simp [World.cell?,h.head]
 have hw : IntKind.i64.wrap (60000 - (l.length : Int)) = 60000 - (l.length : Int) := IntWalk.i64_in _ (by omega)
 have hle : ¬ (60000 - (l.length : Int) < (n : Int)) := by omega
 go_enter Tryz.func167,Tryz.ntmps167
 go_wp2
 go_ret
 exact ⟨rfl,rfl⟩
theorem qf0 (n : Nat) (w : World) (o : Nat) (v : Value) (l : List UInt8) (Z : Nat -> Prop) (h : qaq w o v l Z) (hn : 60000 < l.length + n) :
 Calls Tryz.prog 167 #[.pointer (some ⟨o,0,none⟩), .int .i64 (n : Int)] w fun e w' => e = .returned (.bool false) /\ qbf w' o Z /\ qc Z w w' := by
 obtain ⟨A,cap,rfl,_⟩ := h.shape
 have hf := h.fits
 have f0 : w.cell? ⟨o,0,none⟩ = some (.slice A l.length cap) := by simp [World.cell?,h.head]
 have f1 : w.cell? ⟨o,1,none⟩ = some (.bool false) := by simp [World.cell?,h.head]
 have g0 : w.frozen? ⟨o,0,none⟩ = false := by simp [World.frozen?,h.head]
 have g1 : w.frozen? ⟨o,1,none⟩ = false := by simp [World.frozen?,h.head]
 have hw : IntKind.i64.wrap (60000 - (l.length : Int)) = 60000 - (l.length : Int) := IntWalk.i64_in _ (by omega)
 have hle : (60000 - (l.length : Int) < (n : Int)) := by omega
 have hend : qbf ((w.setCell ⟨o,0,none⟩ (.slice none 0 0)).setCell ⟨o,1,none⟩ (.bool true)) o Z := ⟨by
  rw [setCell_at _ ⟨o,1,none⟩ _ _ _ _ rfl (setCell_at _ ⟨o,0,none⟩ _ _ _ _ rfl h.head)]
  rfl,h.nz⟩
 have hk : qc Z w ((w.setCell ⟨o,0,none⟩ (.slice none 0 0)).setCell ⟨o,1,none⟩ (.bool true)) := (qo _ _ _ h.nz).trans (qo _ _ _ h.nz)
 go_enter Tryz.func167,Tryz.ntmps167
 go_wp2
 all_goals
  go_ret
  exact ⟨rfl,hend,hk⟩
end Go.Proofs.YtmeoooojmhhahaaGreat
namespace Go.Proofs.YtmeoooojmhhahaaGreat
open Go.RowKit
theorem byte_of (v : Int) (k : Nat) (h : 0 <= v) : v / 2 ^ (8 * k) % 256 = ((UInt8.ofNat (v.toNat / 256 ^ k)).toNat : Int) := by
 obtain ⟨n,rfl⟩ := Int.eq_ofNat_of_zero_le h
 have e : (2 : Nat) ^ (8 * k) = 256 ^ k := by rw [Nat.pow_mul]
 have e' : (2 : Int) ^ (8 * k) = ((256 ^ k : Nat) : Int) := by rw [<- e]; simp
 rw [e']
 simp
theorem qkJ (v : Int) (k : Nat) (h : 0 <= v) : IntKind.u8.wrap (v / 2 ^ (8 * (k : Int)).toNat) = ((UInt8.ofNat (v.toNat / 256 ^ k)).toNat : Int) := by
 rw [<- byte_of v k h]
 have : (8 * (k : Int)).toNat = 8 * k := by omega
 rw [this]
 simp [IntKind.wrap,IntKind.bits,IntKind.signed]
theorem qhQ (v : Int) (n : Nat) (hv : 0 <= v /\ v < 18446744073709551616) (hn : n <= 8) (w : World) (o : Nat) (s : Value) (l : List UInt8) (Z : Nat -> Prop) (h : qaq w o s l Z) (hZ : ∀ k,Z k -> k < w.heap.size) (hf : l.length + n <= 60000) :
 Calls Tryz.prog 145 #[.pointer (some ⟨o,0,none⟩), .int .u64 v, .int .i64 (n : Int)] w fun e w' => e = .returned (.tuple #[]) /\ (∃ s',qaq w' o s' (l ++ wide v.toNat n) Z) /\ qc Z w w' := by
 obtain ⟨i0,hi0,hz0,hz1,hz2⟩ := info_parts qaM
 have e1 : IntKind.i64.wrap ((n : Int) - 1) = (n : Int) - 1 := IntWalk.i64_in _ (by omega)
 have nb : (n : Int) <= 8 := by omega
 go_enter Tryz.func145,Tryz.ntmps145
 go_wp2_with (go_at_call 167; refine (qfZ n _ _ _ _ _ h hf).mono ?_; rintro e w1 ⟨rfl,rfl⟩)
 go_loopg [6] n (fun g x wr => ∃ (done : List UInt8) (s' : Value),x = .int .i64 ((g : Int) - 1) /\ g <= n /\ done ++ wide v.toNat g = wide v.toNat n /\ qaq wr o s' (l ++ done) Z /\ qc Z w wr)
 case atStart => exact ⟨[],s,rfl,nlq,rfl,by simpa using h,qc.refl _ _⟩
 case round =>
  obtain ⟨done,s',rfl,hg,hd,ho,hk⟩ := hrel
  cases gk with
  | zero =>
    go_wp2
    refine bodyPost_end (results_none rfl _ _ _) rfl ?_
    rw [show done = wide v.toNat n by simpa [wide] using hd] at ho
    exact ⟨rfl,⟨_,ho⟩,hk⟩
  | succ k =>
    rw [show ((k + 1 : Nat) : Int) - 1 = (k : Int) by omega]
    obtain ⟨A,cap,rfl,hlies⟩ := ho.shape
    have f0 : wr.cell? ⟨o,0,none⟩ = some (.slice A (l ++ done).length cap) := by simp [World.cell?,ho.head]
    have e2 : IntKind.i64.wrap (8 * (k : Int)) = 8 * (k : Int) := IntWalk.i64_in _ (by omega)
    have kb : (k : Int) <= 7 := by omega
    have hlen : (l ++ done).length = l.length + done.length := List.length_append
    rw [hlen] at f0
    have hlo := ho.lt
    have z0 : wr.frozen? ⟨o,0,none⟩ = false := by simp [World.frozen?,ho.head]
    have hZ0 : ∀ z : Int,qaq (wr.alloc (.cells #[.int .u8 z] 5)).drew o (.slice A (l.length + done.length) cap) (l ++ done) Z := fun z => by
     have := (ho.keep (w' := (wr.alloc (.cells #[.int .u8 z] 5)).drew) (by simp) (fun i hi _ => Below.heap_alloc _ _ _ hi))
     rwa [hlen] at this
    have hk1 : ∀ z : Int,qc Z w (wr.alloc (.cells #[.int .u8 z] 5)).drew := fun z => (hk.trans (qG wr (.cells #[.int .u8 z] 5))).drew
    have hl : (l ++ done).length + (k + 1) = l.length + n := by have := congrArg List.length hd; simp at this; simp; omega
    have hl1 : (l ++ done ++ [UInt8.ofNat (v.toNat / 256 ^ k)]).length <= 60000 := by rw [List.length_append]; simp only [List.length_singleton]; omega
    have hl2 : (l ++ done ++ [UInt8.ofNat (v.toNat / 256 ^ k)]).length <= 140737488355328 := by omega
    go_wp2
    go_region_law
     ((refine qaz _ (by rfl) _ _ 33 (by rfl) 5 i0 Tryz.underlying33 hi0 hz0 hz1 hz2 0 (Nat.zero_le _) (.slice A (l.length + done.length) cap) (l ++ done) (by rfl) (hZ0 _).row (some ⟨wr.heap.size,0,none⟩) 1 1 [UInt8.ofNat (v.toNat / 256 ^ k)] (by rfl) (Lies.lit _ _ _ _ (qkJ v k hv.1)).drew hl2 ?_
       intro v1 w1 hr hg hb
       obtain ⟨A1,cap1,rfl,c0,c1,hput1,hput2⟩ := (hZ0 _).puts (hk1 _) hZ [UInt8.ofNat (v.toNat / 256 ^ k)] hr hg hb hl1 (l.length + (done.length + 1)) (by simp)
       clear hr hg hb))
    all_goals
     go_wp2
     go_roundg k
     case measure => omega
     case rel =>
      refine ⟨done ++ [UInt8.ofNat (v.toNat / 256 ^ k)],_,by go_num,by omega,by rw [<- hd,wide,List.append_assoc]; rfl,by rw [<- List.append_assoc]; exact hput1,hput2⟩
theorem qhR (v : Int) (n : Nat) (w : World) (o : Nat) (s : Value) (l : List UInt8) (Z : Nat -> Prop) (h : qaq w o s l Z) (hf : 60000 < l.length + n) :
 Calls Tryz.prog 145 #[.pointer (some ⟨o,0,none⟩), .int .u64 v, .int .i64 (n : Int)] w fun e w' => e = .returned (.tuple #[]) /\ qbf w' o Z /\ qc Z w w' := by
 go_enter Tryz.func145,Tryz.ntmps145
 go_wp2_with (go_at_call 167; refine (qf0 n _ _ _ _ _ h hf).mono ?_; rintro e w1 ⟨rfl,h1,h2⟩)
 refine bodyPost_ret (results_none rfl _ _ _) rfl ?_
 exact ⟨rfl,h1,h2⟩
theorem qhS (v n : Int) (w : World) (o : Nat) (Z : Nat -> Prop) (h : qbf w o Z) :
 Calls Tryz.prog 145 #[.pointer (some ⟨o,0,none⟩), .int .u64 v, .int .i64 n] w fun e w' => e = .returned (.tuple #[]) /\ w = w' := by
 go_enter Tryz.func145,Tryz.ntmps145
 go_wp2_with (go_at_call 167; refine (qfY n _ _ _ h).mono ?_; rintro e w1 ⟨rfl,rfl⟩)
 refine bodyPost_ret (results_none rfl _ _ _) rfl ?_
 exact ⟨rfl,rfl⟩
theorem qdm (v : Int) (n : Nat) (hv : 0 <= v /\ v < 18446744073709551616) (hn : n <= 8) (w : World) (o : Nat) (l : List UInt8) (Z : Nat -> Prop) (h : Out w o l Z) (hZ : ∀ k,Z k -> k < w.heap.size) :
 Calls Tryz.prog 145 #[.pointer (some ⟨o,0,none⟩), .int .u64 v, .int .i64 (n : Int)] w fun e w' => e = .returned (.tuple #[]) /\ Out w' o (l ++ wide v.toNat n) Z /\ qc Z w w' := by
 rcases h with ⟨s,h⟩ | ⟨h0,h⟩
 · by_cases hf : l.length + n <= 60000
   · exact (qhQ v n hv hn w o s l Z h hZ hf).mono fun e w' ⟨h1,h2,h3⟩ => ⟨h1, .inl h2,h3⟩
   · exact (qhR v n w o s l Z h (by omega)).mono fun e w' ⟨h1,h2,h3⟩ => ⟨h1, .inr ⟨by simp; omega,h2⟩,h3⟩
 · refine (qhS v n w o Z h).mono ?_
   rintro e w' ⟨h1,rfl⟩
   exact ⟨h1, .inr ⟨by simp; omega,h⟩,qc.refl _ _⟩
theorem qgT (v : Int) (hv : 0 <= v /\ v < 256) (w : World) (o : Nat) (l : List UInt8) (Z : Nat -> Prop) (h : Out w o l Z) (hZ : ∀ k,Z k -> k < w.heap.size) :
 Calls Tryz.prog 107 #[.pointer (some ⟨o,0,none⟩), .int .u8 v] w fun e w' => e = .returned (.tuple #[]) /\ Out w' o (l ++ [UInt8.ofNat v.toNat]) Z /\ qc Z w w' := by
 have e1 : IntKind.u64.wrap v = v := IntWalk.u64_in _ (by omega)
 have hc := qdm v 1 (by omega) (by omega) w o l Z h hZ
 go_enter Tryz.func107,Tryz.ntmps107
 go_wp2_with (go_at_call 145; refine hc.mono ?_; rintro e w1 ⟨rfl,h1,h2⟩)
 refine bodyPost_end (results_none rfl _ _ _) rfl ?_
 exact ⟨rfl,by simpa [wide] using h1,h2⟩
theorem count_any (n u : Int) (hu : IntKind.u64.wrap n = u) (w : World) (o : Nat) (l : List UInt8) (Z : Nat -> Prop) (h : Out w o l Z) (hZ : ∀ k,Z k -> k < w.heap.size) :
 Calls Tryz.prog 182 #[.pointer (some ⟨o,0,none⟩), .int .i64 n] w fun e w' => e = .returned (.tuple #[]) /\ Out w' o (l ++ wide u.toNat 4) Z /\ qc Z w w' := by
 have hu' := hu
 rw [IntKind.wrap_u64] at hu'
 have hc := qdm u 4 (by omega) (by omega) w o l Z h hZ
 clear hu'
 go_enter Tryz.func182,Tryz.ntmps182
 go_wp2_with (go_at_call 145; refine hc.mono ?_; rintro e w1 ⟨rfl,h1,h2⟩)
 refine bodyPost_end (results_none rfl _ _ _) rfl ?_
 exact ⟨rfl,h1,h2⟩
theorem qci (n u : Int) (hu : IntKind.u64.wrap n = u) (w : World) (o : Nat) (l : List UInt8) (Z : Nat -> Prop) (h : Out w o l Z) (hZ : ∀ k,Z k -> k < w.heap.size) :
 Calls Tryz.prog 146 #[.pointer (some ⟨o,0,none⟩), .int .i64 n] w fun e w' => e = .returned (.tuple #[]) /\ Out w' o (l ++ wide u.toNat 8) Z /\ qc Z w w' := by
 have hu' := hu
 rw [IntKind.wrap_u64] at hu'
 have hc := qdm u 8 (by omega) (by omega) w o l Z h hZ
 clear hu'
 go_enter Tryz.func146,Tryz.ntmps146
 go_wp2_with (go_at_call 145; refine hc.mono ?_; rintro e w1 ⟨rfl,h1,h2⟩)
 refine bodyPost_end (results_none rfl _ _ _) rfl ?_
 exact ⟨rfl,h1,h2⟩
end Go.Proofs.YtmeoooojmhhahaaGreat
namespace Go.Proofs.YtmeoooojmhhahaaGreat
open Go.RowKit
def textOf (l : List UInt8) : List UInt8 := wide l.length 4 ++ l
theorem qjF (A0 : Option Addr) (len0 cap0 : Nat) (s : List UInt8) (hs : len0 <= 1099511627776) (w : World) (o : Nat) (l : List UInt8) (Z : Nat -> Prop) (h : Out w o l Z) (hZ : ∀ k,Z k -> k < w.heap.size)
 (hx : Lies w A0 len0 cap0 s) (hxz : 0 < len0 -> ∀ g off,A0 = some ⟨g,off,none⟩ -> Z g) :
 Calls Tryz.prog 170 #[.pointer (some ⟨o,0,none⟩), .slice A0 len0 cap0] w fun e w' => e = .returned (.tuple #[]) /\ Out w' o (l ++ textOf s) Z /\ qc Z w w' := by
 obtain ⟨i0,hi0,hz0,hz1,hz2⟩ := info_parts qaM
 have hC := count_any (len0 : Int) (len0 : Int) (IntWalk.u64_in _ (by omega)) w o l Z h hZ
 have hsz : s.length = len0 := hx.1
 have hto : l ++ wide (len0 : Int).toNat 4 ++ s = l ++ textOf s := by simp [textOf,hsz]
 go_enter Tryz.func170,Tryz.ntmps170
 go_wp2_with (go_at_call 182; refine hC.mono ?_; rintro e w1 ⟨rfl,h1,k1⟩)
 replace hx := hx.keeps k1 hxz
 generalize hL : l ++ wide (len0 : Int).toNat 4 = L at h1 hto
 rcases h1 with ⟨v,h1⟩ | ⟨h0,h1⟩
 · by_cases hf : L.length + len0 <= 60000
   · obtain ⟨A,cap,rfl,hlies⟩ := h1.shape
     have f0 : w1.cell? ⟨o,0,none⟩ = some (.slice A L.length cap) := by simp [World.cell?,h1.head]
     have hl1 : (L ++ s).length <= 60000 := by rw [List.length_append,hsz]; exact hf
     go_wp2_with (first
      | (go_at_call 167; refine (qfZ len0 _ _ _ _ _ h1 hf).mono ?_; rintro e w2 ⟨rfl,rfl⟩)
      | (at_builtin; refine qan _ rfl _ _ 33 rfl 5 i0 Tryz.underlying33 hi0 hz0 hz1 hz2 0 (Nat.zero_le _) (.slice A L.length cap) L rfl h1.row A0 len0 cap0 s rfl hx (by omega) ?_))
     intro v1 w2 hr hg hb
     rw [<- hto] at hr
     obtain ⟨A1,cap1,rfl,c0,c1,hput1,hput2⟩ := h1.puts k1 hZ s hr hg hb hl1 (L.length + len0) (by rw [List.length_append,hsz])
     clear hr hg hb f0 hlies
     go_wp2
     refine bodyPost_end (results_none rfl _ _ _) rfl ?_
     rw [hto] at hput1
     exact ⟨rfl, .inl ⟨_,hput1⟩,hput2⟩
   · go_wp2_with (go_at_call 167; refine (qf0 len0 _ _ _ _ _ h1 (by omega)).mono ?_; rintro e w2 ⟨rfl,h2,k2⟩)
     refine bodyPost_end (results_none rfl _ _ _) rfl ?_
     exact ⟨rfl, .inr ⟨by rw [<- hto,List.length_append]; omega,h2⟩,k1.trans k2⟩
 · go_wp2_with (go_at_call 167; refine (qfY _ _ _ _ h1).mono ?_; rintro e w2 ⟨rfl,rfl⟩)
   refine bodyPost_end (results_none rfl _ _ _) rfl ?_
   exact ⟨rfl, .inr ⟨by rw [<- hto,List.length_append]; omega,h1⟩,k1⟩
theorem qkK (w : World) (o : Nat) (l : List UInt8) (Z : Nat -> Prop) (h : Out w o l Z) (hl : l.length <= 60000) :
 Calls Tryz.prog 147 #[.pointer (some ⟨o,0,none⟩)] w fun e w' => ∃ A cap,e = .returned (.tuple #[.slice A l.length cap, .int .i64 0]) /\ Lies w' A l.length cap l /\ Owns 5 w' w.heap.size (.slice A l.length cap) l /\ Below w.heap.size w w' := by
 rcases h with ⟨v,h⟩ | ⟨h0,h⟩
 · obtain ⟨A,cap,rfl,hlies⟩ := h.shape
   have f0 : w.cell? ⟨o,0,none⟩ = some (.slice A l.length cap) := by simp [World.cell?,h.head]
   have f1 : w.cell? ⟨o,1,none⟩ = some (.bool false) := by simp [World.cell?,h.head]
   have hC := qbx A l.length cap l w hlies (by omega)
   clear hlies h
   go_enter Tryz.func147,Tryz.ntmps147
   go_wp2_with (go_at_call 130; refine hC.mono ?_; rintro e w1 ⟨v1,rfl,ho,hb⟩)
   go_ret2
   obtain ⟨A1,cap1,rfl,hl1,_⟩ := qq ho
   exact ⟨A1,cap1,rfl,hl1,ho,hb⟩
 · omega
end Go.Proofs.YtmeoooojmhhahaaGreat
namespace Go.Proofs.YtmeoooojmhhahaaGreat
open Go.RowKit
structure InAt (w : World) (i : Nat) (A : Option Addr) (cap : Nat) (l : List UInt8) (Z : Nat -> Prop) : Prop where
 head : w.heap[i]? = some (.cells #[.slice A l.length cap, .bool false] 243)
 lies : Lies w A l.length cap l
 off : Off (fun k => k = i \/ Z k) A l.length
 nz : ¬ Z i
structure qgP (w : World) (i : Nat) (Z : Nat -> Prop) : Prop where
 head : w.heap[i]? = some (.cells #[.slice none 0 0, .bool true] 243)
 nz : ¬ Z i
def In (w : World) (i : Nat) (s : St) (Z : Nat -> Prop) : Prop :=
 match s with
 | none => qgP w i Z
 | some l => ∃ A cap,InAt w i A cap l Z
section
variable {w w' : World} {i : Nat} {s : St} {Z Z' : Nat → Prop}
theorem In.keep (h : In w i s Z) (hs : w.heap.size <= w'.heap.size) (hk : ∀ k,k < w.heap.size -> ¬ Z k -> w'.heap[k]? = w.heap[k]?) : In w' i s Z := by
 cases s with
 | none => exact ⟨(hk i (hlt h.head) h.nz).trans h.head,h.nz⟩
 | some l =>
   obtain ⟨A,cap,h⟩ := h
   exact ⟨A,cap,(hk i (hlt h.head) h.nz).trans h.head,h.lies.keep hs fun h0 g off e hg => hk g hg fun hz => h.off h0 g off e (.inr hz),h.off,h.nz⟩
theorem In.below (h : In w i s Z) {B : Nat} (hb : Below B w w') (hB : w.heap.size <= B) : In w' i s Z := h.keep hb.size fun k hk _ => hb.block k (Nat.lt_of_lt_of_le hk hB)
theorem In.grown (h : In w i s Z) {row : Option Nat} (hg : w.grownBy w' row) (hr : ∀ k,row = some k -> Z k) : In w' i s Z :=
 h.keep hg.size fun k hk hz => hg.block k hk fun e => hz (hr k e.symm)
theorem In.keeps (h : In w i s Z) {Z2 : Nat -> Prop} (hk : qc Z2 w w') (hall : ∀ k,k < w.heap.size -> Z2 k) : In w' i s Z := h.keep hk.size fun k hk' _ => hk.block k hk' (hall k hk')
theorem In.lt (h : In w i s Z) : i < w.heap.size := by
 cases s with
 | none => exact hlt h.head
 | some l => obtain ⟨A,cap,h⟩ := h; exact hlt h.head
theorem In.nz (h : In w i s Z) : ¬ Z i := by
 cases s with
 | none => exact qgP.nz h
 | some l => obtain ⟨A,cap,h⟩ := h; exact h.nz
theorem In.out (h : In w i s Z) (hZ : ∀ k,Z' k -> Z k \/ w.heap.size <= k) : In w i s Z' := by
 have nz : ∀ k,k < w.heap.size -> ¬ Z k -> ¬ Z' k := fun k hk hz hz' => by
  rcases hZ k hz' with h | h
  · exact hz h
  · omega
 cases s with
 | none => exact ⟨h.head,nz i (hlt h.head) h.nz⟩
 | some l =>
   obtain ⟨A,cap,h⟩ := h
   refine ⟨A,cap,h.head,h.lies,fun h0 g off e hz => ?_,nz i (hlt h.head) h.nz⟩
   obtain ⟨g',off',e',hg,_⟩ := h.lies.2.2.2 h0
   rw [e] at e'
   injection e' with e'
   injection e' with e1 _ _
   subst e1
   rcases hz with hz | hz
   · exact h.off h0 g off e (.inl hz)
   · exact nz g hg (fun hz2 => h.off h0 g off e (.inr hz2)) hz
end
theorem qf1 (A : Option Addr) (len cap : Nat) (l : List UInt8) (w : World) (Z : Nat -> Prop) (hZ : ∀ k,Z k -> k < w.heap.size) (h : Lies w A len cap l) (hb : l.length <= 140737488355328) :
 Calls Tryz.prog 132 #[.slice A len cap] w fun e w' => ∃ i,e = .returned (.pointer (some ⟨i,0,none⟩)) /\ In w' i (some l) Z /\ Below w.heap.size w w' := by
 have hC := qbx A len cap l w h hb
 clear h
 go_enter Tryz.func132,Tryz.ntmps132
 go_wp2_with (go_at_call 130; refine hC.mono ?_; rintro e w1 ⟨v1,rfl,ho,hb⟩; obtain ⟨A1,cap1,rfl,hl1,hl2⟩ := qq ho)
 go_ret
 refine ⟨w1.heap.size,rfl,⟨A1,cap1,heap_alloc_new _ _,hl1.below (blq.alloc nlq _) nlq,fun h0 g off e hz => ?_,fun hz => ?_⟩,hb.alloc hb.size _⟩
 · obtain ⟨g1,g2⟩ := ho.lt g (hl2 g off e)
   rcases hz with rfl | hz
   · exact Nat.lt_irrefl _ g2
   · exact absurd (hZ g hz) (by omega)
 · have := hZ _ hz
   have := hb.size
   omega
theorem qbu (w : World) (i : Nat) (s : St) (Z : Nat -> Prop) (h : In w i s Z) : Calls Tryz.prog 187 #[.pointer (some ⟨i,0,none⟩)] w fun e w' => e = .returned (.int .i64 (left s : Int)) /\ w = w' := by
 cases s with
 | none =>
   have f0 : w.cell? ⟨i,0,none⟩ = some (.slice none 0 0) := by simp [World.cell?,h.head]
   go_enter Tryz.func187,Tryz.ntmps187
   go_wp2
   go_ret
   exact ⟨rfl,rfl⟩
 | some l =>
   obtain ⟨A,cap,h⟩ := h
   have f0 : w.cell? ⟨i,0,none⟩ = some (.slice A l.length cap) := by simp [World.cell?,h.head]
   go_enter Tryz.func187,Tryz.ntmps187
   go_wp2
   go_ret
   exact ⟨rfl,rfl⟩
theorem In.cells {w : World} {i : Nat} {s : St} {Z : Nat -> Prop} (h : In w i s Z) : ∃ A len cap,w.heap[i]? = some (.cells #[.slice A len cap, .bool s.isNone] 243) /\ len = left s /\ ¬ Z i := by
 cases s with
 | none => exact ⟨none,0,0,h.head,rfl,h.nz⟩
 | some l => obtain ⟨A,cap,h⟩ := h; exact ⟨A,l.length,cap,h.head,rfl,h.nz⟩
theorem qcr (w : World) (i : Nat) (s : St) (Z : Nat -> Prop) (h : In w i s Z) : Calls Tryz.prog 177 #[.pointer (some ⟨i,0,none⟩)] w fun e w' => e = .returned (.tuple #[]) /\ In w' i none Z /\ qc Z w w' := by
 obtain ⟨A,len,cap,hh,_,hz⟩ := h.cells
 have f0 : w.cell? ⟨i,0,none⟩ = some (.slice A len cap) := by simp [World.cell?,hh]
 have f1 : w.cell? ⟨i,1,none⟩ = some (.bool s.isNone) := by simp [World.cell?,hh]
 have g0 : w.frozen? ⟨i,0,none⟩ = false := by simp [World.frozen?,hh]
 have g1 : w.frozen? ⟨i,1,none⟩ = false := by simp [World.frozen?,hh]
 have hend : In ((w.setCell ⟨i,0,none⟩ (.slice none 0 0)).setCell ⟨i,1,none⟩ (.bool true)) i none Z := ⟨by
  rw [setCell_at _ ⟨i,1,none⟩ _ _ _ _ rfl (setCell_at _ ⟨i,0,none⟩ _ _ _ _ rfl hh)]
  rfl,hz⟩
 have hk : qc Z w ((w.setCell ⟨i,0,none⟩ (.slice none 0 0)).setCell ⟨i,1,none⟩ (.bool true)) := (qo _ _ _ hz).trans (qo _ _ _ hz)
 go_enter Tryz.func177,Tryz.ntmps177
 go_wp2
 all_goals
  refine bodyPost_end (results_none rfl _ _ _) rfl ?_
  exact ⟨rfl,hend,hk⟩
theorem qip (w : World) (i : Nat) (s : St) (Z : Nat -> Prop) (h : In w i s Z) : Calls Tryz.prog 178 #[.pointer (some ⟨i,0,none⟩)] w fun e w' => e = .returned (.bool s.isNone) /\ w = w' := by
 obtain ⟨A,len,cap,hh,_,hz⟩ := h.cells
 have f1 : w.cell? ⟨i,1,none⟩ = some (.bool s.isNone) := by simp [World.cell?,hh]
 go_enter Tryz.func178,Tryz.ntmps178
 go_wp2
 go_ret
 exact ⟨rfl,rfl⟩
theorem qkL (w : World) (i : Nat) (Z : Nat -> Prop) (h : In w i none Z) : Calls Tryz.prog 134 #[.pointer (some ⟨i,0,none⟩)] w fun e w' => e = .returned (.bool false) /\ w = w' := by
 have f1 : w.cell? ⟨i,1,none⟩ = some (.bool true) := by simp [World.cell?,h.head]
 go_enter Tryz.func134,Tryz.ntmps134
 go_wp2
 go_ret
 exact ⟨rfl,rfl⟩
theorem qjG (w : World) (i : Nat) (l : List UInt8) (Z : Nat -> Prop) (h : In w i (some l) Z) : Calls Tryz.prog 134 #[.pointer (some ⟨i,0,none⟩)] w fun e w' => e = .returned (.bool (decide (l.length = 0))) /\ w = w' := by
 obtain ⟨A,cap,h⟩ := h
 have f0 : w.cell? ⟨i,0,none⟩ = some (.slice A l.length cap) := by simp [World.cell?,h.head]
 have f1 : w.cell? ⟨i,1,none⟩ = some (.bool false) := by simp [World.cell?,h.head]
 go_enter Tryz.func134,Tryz.ntmps134
 go_wp2
 go_ret
 refine ⟨?_,rfl⟩
 cases l with
 | nil => rfl
 | cons x l =>
   have : ((x :: l).length : Int) ≠ 0 := by simp; omega
   rw [beq_eq_false_iff_ne.2 this]
   rfl
theorem qeG (w : World) (i : Nat) (s : St) (Z : Nat -> Prop) (h : In w i s Z) : Calls Tryz.prog 134 #[.pointer (some ⟨i,0,none⟩)] w fun e w' => e = .returned (.bool (decide (s = some []))) /\ w = w' := by
 cases s with
 | none => exact (qkL w i Z h).mono fun e w' ⟨h1,h2⟩ => ⟨by rw [h1]; simp,h2⟩
 | some l => exact (qjG w i l Z h).mono fun e w' ⟨h1,h2⟩ => ⟨by rw [h1]; simp,h2⟩
theorem qf2 (n : Nat) (w : World) (i : Nat) (s : St) (Z : Nat -> Prop) (h : In w i s Z) (hn : left s < n) :
 Calls Tryz.prog 179 #[.pointer (some ⟨i,0,none⟩), .int .i64 (n : Int)] w fun e w' => e = .returned (.slice none 0 0) /\ In w' i none Z /\ qc Z w w' := by
 have hL := qbu w i s Z h
 have hF := qcr w i s Z h
 have hn' : (left s : Int) < (n : Int) := by omega
 go_enter Tryz.func179,Tryz.ntmps179
 go_wp2_with (first
  | (go_at_call 187; refine hL.mono ?_; rintro e w1 ⟨rfl,rfl⟩)
  | (go_at_call 177; refine hF.mono ?_; rintro e w1 ⟨rfl,h1,k1⟩; have f1 : w1.cell? ⟨i,1,none⟩ = some (.bool true) := by simp [World.cell?,qgP.head h1]))
 go_ret
 exact ⟨rfl,h1,k1⟩
theorem qkM (n : Nat) (w : World) (i : Nat) (Z : Nat -> Prop) (h : In w i none Z) :
 Calls Tryz.prog 179 #[.pointer (some ⟨i,0,none⟩), .int .i64 (n : Int)] w fun e w' => e = .returned (.slice none 0 0) /\ In w' i none Z /\ qc Z w w' := by
 by_cases hn : n = 0
 · subst hn
   have hL := qbu w i none Z h
   have f1 : w.cell? ⟨i,1,none⟩ = some (.bool true) := by simp [World.cell?,qgP.head h]
   go_enter Tryz.func179,Tryz.ntmps179
   go_wp2_with (go_at_call 187; refine hL.mono ?_; rintro e w1 ⟨rfl,rfl⟩; simp only [left])
   go_ret
   exact ⟨rfl,h,qc.refl _ _⟩
 · exact qf2 n w i none Z h (by simp [left]; omega)
theorem qjH (n : Nat) (w : World) (i : Nat) (l : List UInt8) (Z : Nat -> Prop) (h : In w i (some l) Z) (hn : n <= l.length) :
 Calls Tryz.prog 179 #[.pointer (some ⟨i,0,none⟩), .int .i64 (n : Int)] w fun e w' => ∃ A cap,e = .returned (.slice A n cap) /\ Lies w' A n cap (l.take n) /\ In w' i (some (l.drop n)) Z /\ qc Z w w' := by
 have hL := qbu w i (some l) Z h
 obtain ⟨A,cap,h⟩ := h
 have f0 : w.cell? ⟨i,0,none⟩ = some (.slice A l.length cap) := by simp [World.cell?,h.head]
 have f1 : w.cell? ⟨i,1,none⟩ = some (.bool false) := by simp [World.cell?,h.head]
 have g0 : w.frozen? ⟨i,0,none⟩ = false := by simp [World.frozen?,h.head]
 have hc := h.lies.2.1
 have s1 := qdG Tryz.underlying33 qaD A l.length cap n (by omega)
 have s2 := qcq Tryz.underlying33 qaD A l.length cap n hn hc
 have hn' : ¬ ((l.length : Int) < (n : Int)) := by omega
 have hk : qc Z w (w.setCell ⟨i,0,none⟩ (.slice (qK A cap n) (l.length - n) (cap - n))) := qo _ _ _ h.nz
 have hkeep : ∀ (len : Nat) (A' : Option Addr) (c : Nat) (l' : List UInt8),(0 < len -> ∀ g off,A' = some ⟨g,off,none⟩ -> ∃ off',A = some ⟨g,off',none⟩) -> (0 < len -> 0 < l.length) -> Lies w A' len c l' -> Lies (w.setCell ⟨i,0,none⟩ (.slice (qK A cap n) (l.length - n) (cap - n))) A' len c l' := fun len A' c l' ha hlen hl =>
  hl.keep (by simp) fun h0 g off e hg => Below.heap_setCell _ _ _ _ fun eg => by
   obtain ⟨off',e'⟩ := ha h0 g off e
   exact h.off (hlen h0) g off' e' (.inl eg)
 have hrest : 0 < l.length - n -> ∀ g off,qK A cap n = some ⟨g,off,none⟩ -> ∃ off',A = some ⟨g,off',none⟩ := fun h0 g off e => by
  obtain ⟨g',off',e',_⟩ := h.lies.2.2.2 (by omega)
  rw [e',qca _ _ _ _ (by omega)] at e
  injection e with e
  injection e with e1 _ _
  subst e1
  exact ⟨off',e'⟩
 have hin : In (w.setCell ⟨i,0,none⟩ (.slice (qK A cap n) (l.length - n) (cap - n))) i (some (l.drop n)) Z := by
  refine ⟨qK A cap n,cap - n,?_,?_,fun h0 g off e hz => ?_,h.nz⟩
  · rw [setCell_at _ ⟨i,0,none⟩ _ _ _ _ rfl h.head,List.length_drop]
    rfl
  · rw [List.length_drop]
    exact hkeep _ _ _ _ hrest (by omega) (h.lies.drop n hn)
  · rw [List.length_drop] at h0
    obtain ⟨off',e'⟩ := hrest h0 g off e
    exact h.off (by omega) g off' e' hz
 have hfront : Lies (w.setCell ⟨i,0,none⟩ (.slice (qK A cap n) (l.length - n) (cap - n))) A n cap (l.take n) := hkeep _ _ _ _ (fun _ g off e => ⟨off,e⟩) (by omega) (h.lies.take n hn)
 clear hkeep hrest h
 go_enter Tryz.func179,Tryz.ntmps179
 go_wp2_with (go_at_call 187; refine hL.mono ?_; rintro e w1 ⟨rfl,rfl⟩; simp only [left])
 go_ret
 exact ⟨A,cap,rfl,hfront,hin,hk⟩
theorem qgU (n : Nat) (w : World) (i : Nat) (s : St) (Z : Nat -> Prop) (h : In w i s Z) :
 Calls Tryz.prog 179 #[.pointer (some ⟨i,0,none⟩), .int .i64 (n : Int)] w fun e w' => ∃ A len cap,e = .returned (.slice A len cap) /\ Lies w' A len cap (takeN s n).1 /\ In w' i (takeN s n).2 Z /\ qc Z w w' := by
 cases s with
 | none => exact (qkM n w i Z h).mono fun e w' ⟨h1,h2,h3⟩ => ⟨none,0,0,h1,Lies.nil _,h2,h3⟩
 | some l =>
   by_cases hn : n <= l.length
   · refine (qjH n w i l Z h hn).mono fun e w' ⟨A,cap,h1,h2,h3,h4⟩ => ⟨A,n,cap,h1,?_,?_,h4⟩
     · simp only [takeN,if_pos hn]; exact h2
     · simp only [takeN,if_pos hn]; exact h3
   · refine (qf2 n w i (some l) Z h (by simp [left]; omega)).mono fun e w' ⟨h1,h2,h3⟩ => ⟨none,0,0,h1,?_,?_,h3⟩
     · simp only [takeN,if_neg hn]; exact Lies.nil _
     · simp only [takeN,if_neg hn]; exact h2
end Go.Proofs.YtmeoooojmhhahaaGreat
namespace Go.Proofs.YtmeoooojmhhahaaGreat
open Go.RowKit
theorem qlI (x : Nat) (b : UInt8) (hx : x < 72057594037927936) : bits BinOp.or IntKind.u64 (IntKind.u64.wrap ((x : Int) * 256)) (IntKind.u64.wrap (b.toNat : Int)) = ((x * 256 + b.toNat : Nat) : Int) := by
 have hb : b.toNat < 256 := b.toNat_lt
 rw [IntWalk.u64_in _ (by omega),IntWalk.u64_in _ (by omega)]
 rw [bits_join .u64 64 (by decide) (fun m h0 h1 => IntWalk.u64_in _ (by omega)) 8 _ _ (by omega) (by omega) (by omega) (by omega) (by omega) (by omega)]
 omega
theorem qgV (l : List UInt8) (k : Nat) (h : k < l.length) : l.take (k + 1) = l.take k ++ [l[k]] := by
 rw [List.take_add_one,List.getElem?_eq_getElem h]
 rfl
/-- The loop over bytes that lie somewhere. -/
theorem qcs (n : Nat) (hn : n <= 8) (w : World) (i : Nat) (s : St) (Z : Nat -> Prop) (h : In w i s Z) :
 Calls Tryz.prog 162 #[.pointer (some ⟨i,0,none⟩), .int .i64 (n : Int)] w fun e w' => e = .returned (.int .u64 ((numberN s n).1 : Int)) /\ In w' i (numberN s n).2 Z /\ qc Z w w' := by
 have hN := qgU n w i s Z h
 have hlen := qcE s n
 unfold numberN
 generalize takeN s n = t at hN hlen
 obtain ⟨l,s'⟩ := t
 simp only at hN hlen ⊢
 go_enter Tryz.func162,Tryz.ntmps162
 go_wp2_with (go_at_call 179; refine hN.mono ?_; rintro e w1 ⟨A,len,cap,rfl,hl,hi,hk⟩)
 obtain rfl : l.length = len := hl.1
 go_loopg [5,7,12] l.length (fun g v u x wr => ∃ j : Nat,v = .int .u64 ((num (l.take j) : Nat) : Int) /\ x = .int .i64 (j : Int) /\ j + g = l.length /\ wr = w1)
 case atStart => exact ⟨0,by simp [num],rfl,by omega,rfl⟩
 case round =>
  obtain ⟨j,rfl,rfl,hj,rfl⟩ := hrel
  have jb : (j : Int) <= 8 := by omega
  by_cases hlt : j < l.length
  · have hlt' : (j : Int) < (l.length : Int) := by omega
    obtain ⟨g,off,rfl,hg,hc⟩ := hl.cell j hlt
    have hx : num (l.take j) < 72057594037927936 := by
     have h1 := qdc (l.take j)
     have h2 : 256 ^ (l.take j).length <= 256 ^ 7 := Nat.pow_le_pow_right (by omega) (by simp; omega)
     have h3 : (256 : Nat) ^ 7 = 72057594037927936 := by decide
     omega
    have hor := qlI (num (l.take j)) l[j] hx
    have hnx : num (l.take j) * 256 + l[j].toNat = num (l.take (j + 1)) := by rw [qgV l j hlt,qeA]
    rw [hnx] at hor
    go_wp2
    go_roundg (gk - 1)
    case measure => omega
    case rel => exact ⟨j + 1,by first | rw [hor] | (rw [IntWalk.u64_in ((num (l.take j) : Int) * 256) (by omega)] at hor; rw [hor]),by go_num,by omega,rfl⟩
  · obtain rfl : j = l.length := by omega
    have hdec : decide ((l.length : Int) < (l.length : Int)) = false := decide_eq_false (by omega)
    go_wp2
    go_ret
    rw [List.take_length]
    exact ⟨rfl,hi,hk⟩
theorem qiE (w : World) (i : Nat) (s : St) (Z : Nat -> Prop) (h : In w i s Z) :
 Calls Tryz.prog 136 #[.pointer (some ⟨i,0,none⟩)] w fun e w' => e = .returned (.int .u8 ((numberN s 1).1 : Int)) /\ In w' i (numberN s 1).2 Z /\ qc Z w w' := by
 have hN := qcs 1 (by omega) w i s Z h
 have hlt := qbc s 1
 generalize numberN s 1 = t at hN hlt ⊢
 have e1 : IntKind.u8.wrap (t.1 : Int) = (t.1 : Int) := by
  simp [IntKind.wrap,IntKind.bits,IntKind.signed]
  omega
 go_enter Tryz.func136,Tryz.ntmps136
 go_wp2_with (go_at_call 162; refine hN.mono ?_; rintro e w1 ⟨rfl,h1,h2⟩)
 go_ret
 exact ⟨rfl,h1,h2⟩
theorem qby (w : World) (i : Nat) (s : St) (Z : Nat -> Prop) (h : In w i s Z) :
 Calls Tryz.prog 163 #[.pointer (some ⟨i,0,none⟩)] w fun e w' => e = .returned (.int .i64 (IntKind.i64.wrap ((numberN s 8).1 : Int))) /\ In w' i (numberN s 8).2 Z /\ qc Z w w' := by
 have hN := qcs 8 (by omega) w i s Z h
 generalize numberN s 8 = t at hN ⊢
 go_enter Tryz.func163,Tryz.ntmps163
 go_wp2_with (go_at_call 162; refine hN.mono ?_; rintro e w1 ⟨rfl,h1,h2⟩)
 go_ret
 exact ⟨by rw [IntWalk.i64_left]; rfl,h1,h2⟩
theorem qhT (most : Int) (hm : -9223372036854775808 <= most /\ most <= 9223372036854775807) (w : World) (i : Nat) (s : St) (Z : Nat -> Prop) (h : In w i s Z) (hL : left s <= 140737488355328) :
 Calls Tryz.prog 186 #[.pointer (some ⟨i,0,none⟩), .int .i64 most] w fun e w' => e = .returned (.int .i64 ((qaI s most).1 : Int)) /\ In w' i (qaI s most).2 Z /\ qc Z w w' := by
 have hN := qcs 4 (by omega) w i s Z h
 have hlt : (numberN s 4).1 < 4294967296 := qbc s 4
 have hle : left (numberN s 4).2 <= 140737488355328 := by
  unfold numberN takeN
  cases s with
  | none => simp [left]
  | some l =>
    simp only [left] at hL
    simp only
    split
    · simp [left]; omega
    · simp [left]
 unfold qaI
 generalize numberN s 4 = t at hN hlt hle ⊢
 obtain ⟨v,s'⟩ := t
 simp only at hN hlt hle ⊢
 have vb : (v : Int) < 4294967296 := by omega
 have lb : (left s' : Int) <= 140737488355328 := by omega
 have e2 : IntKind.u64.wrap (left s' : Int) = (left s' : Int) := IntWalk.u64_in _ (by omega)
 have e3 : IntKind.i64.wrap (v : Int) = (v : Int) := IntWalk.i64_in _ (by omega)
 by_cases h0 : most < 0
 · rw [if_pos (.inl h0)]
   clear e2 e3
   go_enter Tryz.func186,Tryz.ntmps186
   go_wp2_with (first
    | (go_at_call 162; refine hN.mono ?_; rintro e w1 ⟨rfl,h1,k1⟩)
    | (go_at_call 187; refine (qbu _ _ _ _ h1).mono ?_; rintro e w2 ⟨rfl,rfl⟩)
    | (go_at_call 177; refine (qcr _ _ _ _ h1).mono ?_; rintro e w2 ⟨rfl,h2,k2⟩))
   go_ret
   exact ⟨rfl,h2,k1.trans k2⟩
 · have e1 : IntKind.u64.wrap most = most := IntWalk.u64_in _ (by omega)
   by_cases c1 : most < (v : Int)
   · rw [if_pos (.inr (.inl c1))]
     clear e2 e3
     go_enter Tryz.func186,Tryz.ntmps186
     go_wp2_with (first
      | (go_at_call 162; refine hN.mono ?_; rintro e w1 ⟨rfl,h1,k1⟩)
      | (go_at_call 187; refine (qbu _ _ _ _ h1).mono ?_; rintro e w2 ⟨rfl,rfl⟩)
      | (go_at_call 177; refine (qcr _ _ _ _ h1).mono ?_; rintro e w2 ⟨rfl,h2,k2⟩))
     go_ret
     exact ⟨rfl,h2,k1.trans k2⟩
   · by_cases c2 : left s' < v
     · have h2' : (left s' : Int) < (v : Int) := by omega
       rw [if_pos (.inr (.inr c2))]
       go_enter Tryz.func186,Tryz.ntmps186
       go_wp2_with (first
        | (go_at_call 162; refine hN.mono ?_; rintro e w1 ⟨rfl,h1,k1⟩)
        | (go_at_call 187; refine (qbu _ _ _ _ h1).mono ?_; rintro e w2 ⟨rfl,rfl⟩)
        | (go_at_call 177; refine (qcr _ _ _ _ h1).mono ?_; rintro e w2 ⟨rfl,h2,k2⟩))
       go_ret
       exact ⟨rfl,h2,k1.trans k2⟩
     · have h2' : ¬ ((left s' : Int) < (v : Int)) := by omega
       rw [if_neg (by omega)]
       show Calls Tryz.prog 186 #[.pointer (some ⟨i,0,none⟩), .int .i64 most] w fun e w' => e = .returned (.int .i64 (v : Int)) /\ In w' i s' Z /\ qc Z w w'
       have d0 : decide (most < 0) = false := decide_eq_false h0
       have d1 : decide (most < (v : Int)) = false := decide_eq_false c1
       have d2 : decide (left s' < v) = false := decide_eq_false c2
       clear h0 c1 c2 h2' hlt hle hL e3
       go_enter Tryz.func186,Tryz.ntmps186
       go_wp2_with (first
        | (go_at_call 162; refine hN.mono ?_; rintro e w1 ⟨rfl,h1,k1⟩)
        | (go_at_call 187; refine (qbu _ _ _ _ h1).mono ?_; rintro e w2 ⟨rfl,rfl⟩))
       go_ret
       exact ⟨rfl,h1,k1⟩
theorem qel (most : Int) (hm : -9223372036854775808 <= most /\ most <= 9223372036854775807) (w : World) (i : Nat) (s : St) (Z : Nat -> Prop) (h : In w i s Z) (hL : left s <= 140737488355328) :
 Calls Tryz.prog 176 #[.pointer (some ⟨i,0,none⟩), .int .i64 most] w fun e w' => ∃ A len cap,e = .returned (.slice A len cap) /\ Lies w' A len cap (qaY s most).1 /\ Owns 5 w' w.heap.size (.slice A len cap) (qaY s most).1 /\ In w' i (qaY s most).2 Z /\ qc Z w w' := by
 have hlt : (qaY s most).1.length <= 4294967296 := by
  have h1 : (numberN s 4).1 < 4294967296 := qbc s 4
  have h2 : (qaI s most).1 < 4294967296 := by unfold qaI; split <;> first | exact h1 | simp
  have := qcE (qaI s most).2 (qaI s most).1
  unfold qaY
  omega
 have hN := qhT most hm w i s Z h hL
 unfold qaY at hlt ⊢
 generalize qaI s most = t at hN hlt ⊢
 obtain ⟨n,s'⟩ := t
 simp only at hN hlt ⊢
 have hX := fun w h => qgU n w i s' Z h
 generalize takeN s' n = t at hX hlt ⊢
 obtain ⟨l,s''⟩ := t
 simp only at hX hlt ⊢
 go_enter Tryz.func176,Tryz.ntmps176
 go_wp2_with (first
  | (go_at_call 186; refine hN.mono ?_; rintro e w1 ⟨rfl,h1,k1⟩)
  | (go_at_call 179; refine (hX _ h1).mono ?_; rintro e w2 ⟨A,len,cap,rfl,hl,h2,k2⟩)
  | (go_at_call 130; refine (qbx _ _ _ _ _ hl (by omega)).mono ?_; rintro e w3 ⟨v,rfl,ho,hb⟩))
 go_ret
 have hsz := Nat.le_trans k1.size k2.size
 obtain ⟨A1,cap1,rfl,hl1,_⟩ := qq ho
 refine ⟨A1,_,cap1,rfl,hl1,?_,h2.below hb nlq,(k1.trans k2).trans (qe hb nlq)⟩
 refine ⟨ho.1,?_⟩
 rcases ho.2 with ⟨e,h0⟩ | ⟨g,cap,cur,e,hb',r⟩
 · exact .inl ⟨e,h0⟩
 · exact .inr ⟨g,cap,cur,e,Nat.le_trans hsz hb',r⟩
end Go.Proofs.YtmeoooojmhhahaaGreat
namespace Go.Proofs.YtmeoooojmhhahaaGreat
open Go.RowKit
theorem Owns.lit {T : TypeId} (w : World) (z : Int) (b : UInt8) (h : z = (b.toNat : Int)) : Owns T (w.alloc (.cells #[.int .u8 z] T)) w.heap.size (.slice (some ⟨w.heap.size,0,none⟩) 1 1) [b] := by
 subst h
 exact World.ownsRow_lit w #[u8 b] 1 nlq (by unfold maxLen; omega) rfl
theorem qkN (v n j : Nat) (hj : j < n) : (List.replicate (n - j) (0 : UInt8) ++ wide v j).set (n - 1 - j) (UInt8.ofNat (v / 256 ^ j)) = List.replicate (n - (j + 1)) 0 ++ wide v (j + 1) := by
 have e : n - j = (n - 1 - j) + 1 := by omega
 have e2 : n - (j + 1) = n - 1 - j := by omega
 rw [e,e2,List.replicate_succ',List.append_assoc,List.set_append_right _ _ (by simp)]
 simp [wide]
theorem Owns.putAt {T : TypeId} {w : World} {base g n cap : Nat} {l : List UInt8} (h : Owns T w base (.slice (some ⟨g,0,none⟩) n cap) l) (hn : l.length = n) (j : Nat) (b : UInt8) :
 Owns T (w.setCell ⟨g,j,none⟩ (u8 b)) base (.slice (some ⟨g,0,none⟩) n cap) (l.set j b) /\ w.grownBy (w.setCell ⟨g,j,none⟩ (u8 b)) (some g) := by
 subst hn
 have := World.ownsRow.stored h j (u8 b)
 refine ⟨?_,this.2⟩
 unfold Owns
 rw [List.length_set]
 have e : cellsOf (l.set j b) = (cellsOf l).set j (u8 b) := by simp [cellsOf,List.map_set]
 rw [e]
 exact this.1
theorem qlJ (x : Nat) (hv : x < 18446744073709551616) : IntKind.u64.wrap ((x : Int).tdiv 256) = (x : Int) / 256 := IntWalk.u64_quo _ _ (by omega)
theorem qcJ (v : Nat) (hv : v < 18446744073709551616) (n : Nat) (hn : n <= 8) (w : World) :
 Calls Tryz.prog 121 #[.int .u64 (v : Int), .int .i64 (n : Int)] w fun e w' => ∃ A cap,e = .returned (.slice A n cap) /\ Owns 5 w' w.heap.size (.slice A n cap) (wide v n) /\ Below w.heap.size w w' := by
 obtain ⟨i0,hi0,hz0,hz1,hz2⟩ := info_parts qaM
 have nb : (n : Int) <= 8 := by omega
 have e1 : IntKind.i64.wrap ((n : Int) - 1) = (n : Int) - 1 := IntWalk.i64_in _ (by omega)
 go_enter Tryz.func121,Tryz.ntmps121
 go_wp2_with (at_make; refine wpList_make_full _ rfl _ _ 33 rfl w.heap.size 5 i0 _ 1 Tryz.underlying33 hi0 hz0 hz1 _ _ _ _ n rfl rfl rfl rfl (by rw [hz2]; omega) (by unfold maxLen; omega) nlq ?_)
 intro w1 ho hg
 have hb1 := (Below.refl w.heap.size w).grown hg nlq (fun k e => by cases e)
 have ho1 : Owns 5 w1 w.heap.size (.slice (some ⟨w.heap.size,0,none⟩) n n) (List.replicate n 0) := by
  unfold Owns
  have e : cellsOf (List.replicate n 0) = (madeCells #[.int .u8 0] n).toList := by rw [toList_madeCells_one]; simp [cellsOf]
  rw [e,List.length_replicate]
  simpa using ho
 clear ho hg
 go_wp2
 go_loopg [0,6,10] n (fun g x k z wr => ∃ j y : Nat,x = .int .u64 (y : Int) /\ Hid (v / 256 ^ j = y) /\ z = .int .i64 (j : Int) /\ j + g = n /\ Owns 5 wr w.heap.size (.slice (some ⟨w.heap.size,0,none⟩) n n) (List.replicate (n - j) 0 ++ wide v j) /\ Below w.heap.size w wr)
 case atStart => exact ⟨0,v,rfl,⟨by simp⟩,rfl,by omega,by simpa [wide] using ho1,hb1⟩
 case round =>
  obtain ⟨j,y,rfl,hy,rfl,hj,ho,hb⟩ := hrel
  clear ho1 hb1
  by_cases hlt : j < n
  · have hlt' : (j : Int) < (n : Int) := by omega
    have hlen : (List.replicate (n - j) (0 : UInt8) ++ wide v j).length = n := by simp; omega
    have hcell := World.ownsRow.cellAt (h := by have := ho; unfold Owns at this; rw [hlen] at this; exact this) (n - 1 - j) (by omega)
    have hfr := World.ownsRow.frozenAt (h := by have := ho; unfold Owns at this; rw [hlen] at this; exact this) (n - 1 - j)
    have hset := ho.putAt hlen (n - 1 - j) (UInt8.ofNat (v / 256 ^ j))
    rw [qkN v n j hlt,hy.out] at hset
    have hyv : y < 18446744073709551616 := Nat.lt_of_le_of_lt (hy.out ▸ Nat.div_le_self _ _) hv
    have hq := qlJ y hyv
    have hy1 : Hid (v / 256 ^ (j + 1) = y / 256) := ⟨by rw [Nat.pow_succ,<- Nat.div_div_eq_div_mul,hy.out]⟩
    have hby : Hid ((y : Int) % 256 = ((UInt8.ofNat y).toNat : Int)) := ⟨by simp⟩
    have e2 : IntKind.i64.wrap ((n : Int) - 1 - (j : Int)) = ((n - 1 - j : Nat) : Int) := by rw [IntWalk.i64_in _ (by omega)]; omega
    have hc2 : (cellsOf (List.replicate (n - j) (0 : UInt8) ++ wide v j))[n - 1 - j]? = some (u8 ((List.replicate (n - j) (0 : UInt8) ++ wide v j)[n - 1 - j]'(by rw [hlen]; omega))) := by
     rw [List.getElem?_map,List.getElem?_eq_getElem (by rw [hlen]; omega)]
     rfl
    rw [hc2] at hcell
    generalize (List.replicate (n - j) (0 : UInt8) ++ wide v j)[n - 1 - j]'(by rw [hlen]; omega) = b at hcell
    clear hc2 ho
    go_wp2
    go_roundg (gk - 1)
    case measure => omega
    case rel =>
     refine ⟨j + 1,y / 256,by simp,hy1,by go_num,by omega,?_,?_⟩
     · rw [hby.out]; exact hset.1
     · rw [hby.out]; exact hb.grown hset.2 hb.size (fun k e => by injection e with e; omega)
  · obtain rfl : j = n := by omega
    have hdec : decide ((j : Int) < (j : Int)) = false := decide_eq_false (by omega)
    go_wp2
    go_ret
    exact ⟨_,_,rfl,by simpa using ho,hb⟩
theorem qeH (n : Int) : 0 <= IntKind.u64.wrap n /\ IntKind.u64.wrap n < 18446744073709551616 := by rw [IntKind.wrap_u64]; omega
theorem qiF (n : Int) (u : Nat) (hu : IntKind.u64.wrap n = (u : Int)) (w : World) :
 Calls Tryz.prog 171 #[.int .i64 n] w fun e w' => ∃ A cap,e = .returned (.slice A 4 cap) /\ Owns 5 w' w.heap.size (.slice A 4 cap) (wide u 4) /\ Below w.heap.size w w' := by
 have hW := qcJ u (by have := qeH n; omega) 4 (by omega) w
 go_enter Tryz.func171,Tryz.ntmps171
 go_wp2_with (go_at_call 121; refine hW.mono ?_; rintro e w1 ⟨A,cap,rfl,ho,hb⟩)
 go_ret
 exact ⟨A,cap,rfl,ho,hb⟩
theorem qkO (n : Int) (u : Nat) (hu : IntKind.u64.wrap n = (u : Int)) (w : World) :
 Calls Tryz.prog 144 #[.int .i64 n] w fun e w' => ∃ A cap,e = .returned (.slice A 8 cap) /\ Owns 5 w' w.heap.size (.slice A 8 cap) (wide u 8) /\ Below w.heap.size w w' := by
 have hW := qcJ u (by have := qeH n; omega) 8 (by omega) w
 go_enter Tryz.func144,Tryz.ntmps144
 go_wp2_with (go_at_call 121; refine hW.mono ?_; rintro e w1 ⟨A,cap,rfl,ho,hb⟩)
 go_ret
 exact ⟨A,cap,rfl,ho,hb⟩
theorem qjI (s : ByteArray) (hs : s.size <= 50000) (w : World) :
 Calls Tryz.prog 153 #[.string s] w fun e w' => ∃ A cap,e = .returned (.slice A (4 + s.size) cap) /\ Owns 5 w' w.heap.size (.slice A (4 + s.size) cap) (textOf s.data.toList) /\ Below w.heap.size w w' := by
 obtain ⟨i0,hi0,hz0,hz1,hz2⟩ := info_parts qaM
 have hC := qiF (s.size : Int) s.size (IntWalk.u64_in _ (by omega)) w
 have hsz : s.data.toList.length = s.size := by simp
 have hto : wide s.size 4 ++ s.data.toList = textOf s.data.toList := by simp [textOf]
 have hle : (wide s.size 4 ++ s.data.toList).length = 4 + s.size := by simp
 go_enter Tryz.func153,Tryz.ntmps153
 go_wp2_with (first
  | (go_at_call 171; refine hC.mono ?_; rintro e w1 ⟨A,cap,rfl,ho,hb⟩)
  | (at_builtin; refine wpList_append_text _ rfl _ _ 33 9 rfl 5 i0 Tryz.underlying33 Tryz.underlying9 hi0 hz0 hz1 hz2 (.slice A 4 cap) (wide s.size 4) rfl (ho.rebase (fun k e => Nat.zero_le _)) s rfl (by omega) ?_))
 intro v1 w2 hr hg hbb
 rw [<- hto] at hr
 have hlt := ho.lt
 have hsz1 := hb.size
 have hr2 : Owns 5 w2 w.heap.size v1 (wide s.size 4 ++ s.data.toList) := hr.rebase fun k e => by
  rcases hbb with h | h
  · exact (hlt k (h ▸ e)).1
  · rw [h] at e; injection e with e; omega
 have hb2 : Below w.heap.size w w2 := hb.grown hg hb.size fun k e => (hlt k e).1
 obtain ⟨A1,cap1,rfl,_⟩ := qq hr2
 rw [hle] at hr2 ⊢
 rw [hto] at hr2
 clear hr hg hbb ho
 go_wp2
 go_ret
 exact ⟨_,_,rfl,hr2,hb2⟩
theorem qbD (W : World) (s : ByteArray) : ∃ c W',(convert 9 33 (.string s)).run Tryz.prog W = .ok (.slice (some ⟨W.heap.size,0,none⟩) s.size c) W' /\ Lies W' (some ⟨W.heap.size,0,none⟩) s.size c s.data.toList /\ Below W.heap.size W W' /\ W.heap.size < W'.heap.size := by
 refine ⟨_,_,run_bytes_of_string W _ _ _ s Tryz.underlying9 Tryz.underlying33 Tryz.underlying5,⟨by simp,grownCap_ge _ _ _ _,(fun h => by cases h),fun _ => ⟨_,_,rfl,by simp,fun j hj => ?_⟩⟩,blq.drew.alloc nlq _,by simp⟩
 have hj' : j < s.size := by simpa using hj
 have := World.cell?_alloc_mark W.drew (bytesRow s (grownCap W s.size 0 5)) 5 ((bytesRow s (grownCap W s.size 0 5)).size,(bytesRow s (grownCap W s.size 0 5)).size + 1) j
 rw [Nat.zero_add]
 refine this.trans ?_
 have hj2 : j < s.data.size := hj'
 simp only [bytesRow,Array.getElem?_append,Array.size_map,Array.getElem?_map]
 rw [if_pos hj2,Array.getElem?_eq_getElem hj2]
 rfl
end Go.Proofs.YtmeoooojmhhahaaGreat
namespace Go.Proofs.YtmeoooojmhhahaaGreat
open Go.RowKit
abbrev inv (A : Option Addr) (cap : Nat) (s : St) : Value := .agg #[.slice A (left s) cap, .bool s.isNone]
def qp (w : World) (A : Option Addr) (cap : Nat) (s : St) : Prop := Lies w A (left s) cap (s.getD [])
theorem qp.below {w w' : World} {A : Option Addr} {cap : Nat} {s : St} (h : qp w A cap s) {B : Nat} (hb : Below B w w') (hB : w.heap.size <= B) : qp w' A cap s := Lies.below h hb hB
theorem qp.bad (w : World) : qp w none 0 none := Lies.nil w
theorem qV {fn : Func} {u p : Tmp} (h : fn.results = #[.tmp u, .cell p 171]) (tmps : Array Value) (W : World) (n : Nat) (x y : Value) (fr : Nat × Nat) (h1 : tmps.getD p undef = .pointer (some ⟨n,0,none⟩))
 (hW : W.heap[n]? = some (.cells #[x,y] 171 fr)) : (results fn tmps).run Tryz.prog W = .ok (.tuple #[tmps.getD u undef, .agg #[x,y]]) W := by
 rw [qeF h,h1]
 simp [asAddr,run_loadVar_row W n 171 171 #[x,y] fr _ hW Tryz.underlying171 rfl (by kernel_rfl)]
theorem qe4 (A : Option Addr) (cap : Nat) (s : St) (w : World) (k : Nat) (hk : s = none \/ left s < k) :
 Calls Tryz.prog 165 #[inv A cap s, .int .i64 (k : Int)] w fun e w' => e = .returned (.tuple #[.slice none 0 0,inv none 0 none]) /\ Below w.heap.size w w' := by
 have hb : ∀ a b,Below w.heap.size w ((w.alloc a).alloc b) := fun a b => (blq.alloc nlq _).alloc (by simp) _
 cases s with
 | none =>
   go_enter Tryz.func165,Tryz.ntmps165
   go_wp2
   refine bodyPost_ret (qV rfl _ _ (w.heap.size + 1) _ _ _ rfl (heap_alloc2_new _ _ _)) rfl ?_
   exact ⟨rfl,hb _ _⟩
 | some l =>
   have hk' : (l.length : Int) < (k : Int) := by
    rcases hk with h | h
    · cases h
    · simp only [left] at h; omega
   simp only [inv,left,Option.isNone]
   go_enter Tryz.func165,Tryz.ntmps165
   go_wp2
   refine bodyPost_ret (qV rfl _ _ (w.heap.size + 1) _ _ _ rfl (heap_alloc2_new _ _ _)) rfl ?_
   exact ⟨rfl,hb _ _⟩
theorem qhU (A : Option Addr) (cap : Nat) (l : List UInt8) (w : World) (k : Nat) (hk : k <= l.length) (h : Lies w A l.length cap l) :
 Calls Tryz.prog 165 #[.agg #[.slice A l.length cap, .bool false], .int .i64 (k : Int)] w fun e w' => e = .returned (.tuple #[.slice A k cap, .agg #[.slice (qK A cap k) (l.length - k) (cap - k), .bool false]]) /\ Below w.heap.size w w' := by
 have hc := h.2.1
 have s1 := qdG Tryz.underlying33 qaD A l.length cap k (by omega)
 have s2 := qcq Tryz.underlying33 qaD A l.length cap k hk hc
 have hk' : ¬ ((l.length : Int) < (k : Int)) := by omega
 have hb : ∀ a b,Below w.heap.size w ((w.alloc a).alloc b).drew := fun a b => ((blq.alloc nlq _).alloc (by simp) _).drew
 clear h
 go_enter Tryz.func165,Tryz.ntmps165
 go_wp2
 go_region
 all_goals
  go_wp2
  refine bodyPost_ret (qV rfl _ _ (w.heap.size + 1) _ _ _ rfl (heap_alloc2_new _ _ _)) rfl ?_
  exact ⟨rfl,hb _ _⟩
theorem qe5 (A : Option Addr) (cap : Nat) (s : St) (w : World) (k : Nat) (h : qp w A cap s) :
 Calls Tryz.prog 165 #[inv A cap s, .int .i64 (k : Int)] w fun e w' => ∃ B bl bc A' cap',e = .returned (.tuple #[.slice B bl bc,inv A' cap' (takeN s k).2]) /\ (∀ w0,qp w0 A cap s -> Lies w0 B bl bc (takeN s k).1 /\ qp w0 A' cap' (takeN s k).2) /\ Below w.heap.size w w' := by
 cases s with
 | none => exact (qe4 A cap none w k (.inl rfl)).mono fun e w' ⟨h1,h2⟩ => ⟨none,0,0,none,0,h1,fun w0 _ => ⟨Lies.nil _,qp.bad _⟩,h2⟩
 | some l =>
   by_cases hk : k <= l.length
   · refine (qhU A cap l w k hk h).mono fun e w' ⟨h1,h2⟩ => ?_
     have e1 : takeN (some l) k = (l.take k,some (l.drop k)) := by simp only [takeN,if_pos hk]
     rw [e1]
     refine ⟨A,k,cap,qK A cap k,cap - k,?_,fun w0 h0 => ⟨Lies.take h0 k hk,?_⟩,h2⟩
     · rw [h1]; simp [inv,left]
     · have hd := Lies.drop h0 k hk
       show Lies w0 _ (left (some (l.drop k))) _ _
       simp only [left,List.length_drop,Option.getD_some]
       exact hd
   · refine (qe4 A cap (some l) w k (.inr (by simp only [left]; omega))).mono fun e w' ⟨h1,h2⟩ => ?_
     have e1 : takeN (some l) k = ([],none) := by simp only [takeN,if_neg hk]
     rw [e1]
     exact ⟨none,0,0,none,0,h1,fun w0 _ => ⟨Lies.nil _,qp.bad _⟩,h2⟩
theorem qax (X : World) (n : Nat) (u v u0 v0 : Value) (T : TypeId) (h : X.heap[n]? = some (.cells #[u0,v0] T)) : ((X.setCell ⟨n,0,none⟩ u).setCell ⟨n,1,none⟩ v).heap[n]? = some (.cells #[u,v] T) := by
 simp only [World.setCell,Array.getElem?_modify,if_true,h,Option.map_some]
 simp
/-- A number of so many bytes. -/
theorem qbX (A : Option Addr) (cap : Nat) (s : St) (w : World) (k : Nat) (hk8 : k <= 8) (h : qp w A cap s) :
 Calls Tryz.prog 141 #[inv A cap s, .int .i64 (k : Int)] w fun e w' => ∃ A' cap',e = .returned (.tuple #[.int .u64 ((numberN s k).1 : Int),inv A' cap' (numberN s k).2]) /\ (∀ w0,qp w0 A cap s -> qp w0 A' cap' (numberN s k).2) /\ Below w.heap.size w w' := by
 have hb0 : Below w.heap.size w ((w.alloc (.cells #[.slice A (left s) cap, .bool s.isNone] 171)).alloc (.cells #[.slice none 0 0, .bool false] 171)) := (blq.alloc nlq _).alloc (by simp) _
 have hm0 : ((w.alloc (.cells #[.slice A (left s) cap, .bool s.isNone] 171)).alloc (.cells #[.slice none 0 0, .bool false] 171)).heap[w.heap.size + 1]? = some (.cells #[.slice none 0 0, .bool false] 171) := heap_alloc2_new _ _ _
 have hB := qe5 A cap s _ k (h.below hb0 nlq)
 have hlen := qcE s k
 unfold numberN
 generalize takeN s k = t at hB hlen ⊢
 obtain ⟨l,s'⟩ := t
 simp only at hB hlen ⊢
 simp only [inv] at hB ⊢
 have f0 : ((w.alloc (.cells #[.slice A (left s) cap, .bool s.isNone] 171)).alloc (.cells #[.slice none 0 0, .bool false] 171)).cell? ⟨w.heap.size,0,none⟩ = some (.slice A (left s) cap) := by simp [go_sem]
 have f1 : ((w.alloc (.cells #[.slice A (left s) cap, .bool s.isNone] 171)).alloc (.cells #[.slice none 0 0, .bool false] 171)).cell? ⟨w.heap.size,1,none⟩ = some (.bool s.isNone) := by simp [go_sem]
 generalize hW : ((w.alloc (.cells #[.slice A (left s) cap, .bool s.isNone] 171)).alloc (.cells #[.slice none 0 0, .bool false] 171)) = W at hb0 hm0 hB f0 f1
 go_enter Tryz.func141,Tryz.ntmps141
 go_wp2_with (go_at_call 165; refine hB.mono ?_; rintro e w1 ⟨B,bl,bc,A',cap',rfl,hlr,hb⟩)
 have hq : w.heap.size + 1 < w1.heap.size := Nat.lt_of_lt_of_le (hlt hm0) hb.size
 have hbX : Below w.heap.size w (w1.alloc (.cells #[.slice A' (left s') cap', .bool s'.isNone] 171)) := (hb0.trans (hb.mono hb0.size)).alloc (by omega) _
 have hmX : (w1.alloc (.cells #[.slice A' (left s') cap', .bool s'.isNone] 171)).heap[w.heap.size + 1]? = some (.cells #[.slice none 0 0, .bool false] 171) := (Below.heap_alloc _ _ _ hq).trans ((hb.block _ (hlt hm0)).trans hm0)
 have hmY : (w1.alloc (.cells #[.slice A' (left s') cap', .bool s'.isNone] 171)).heap[w1.heap.size]? = some (.cells #[.slice A' (left s') cap', .bool s'.isNone] 171) := heap_alloc_new _ _
 have hlX := (((hlr w h).1.below hb0 nlq).below hb nlq).below ((Below.refl w1.heap.size w1).alloc nlq (.cells #[.slice A' (left s') cap', .bool s'.isNone] 171)) nlq
 generalize (w1.alloc (.cells #[.slice A' (left s') cap', .bool s'.isNone] 171)) = X at hbX hmX hmY hlX ⊢
 generalize w1.heap.size = q at hq hmY ⊢
 have hfin : ∀ w0,qp w0 A cap s -> qp w0 A' cap' s' := fun w0 h0 => (hlr w0 h0).2
 clear hb0 hm0 hB f0 f1 hW hlr hb h
 obtain rfl : l.length = bl := hlX.1
 go_loopg [8,9,18] l.length (fun g v u x wr => ∃ j : Nat,v = .int .u64 ((num (l.take j) : Nat) : Int) /\ x = .int .i64 (j : Int) /\ j + g = l.length /\ wr = X)
 case atStart => exact ⟨0,by simp [num],rfl,by omega,rfl⟩
 case round =>
  obtain ⟨j,rfl,rfl,hj,rfl⟩ := hrel
  have jb : (j : Int) <= 8 := by omega
  by_cases hlt' : j < l.length
  · have hlt2 : (j : Int) < (l.length : Int) := by omega
    obtain ⟨g,off,rfl,hg,hc⟩ := hlX.cell j hlt'
    have hx : num (l.take j) < 72057594037927936 := by
     have h1 := qdc (l.take j)
     have h2 : 256 ^ (l.take j).length <= 256 ^ 7 := Nat.pow_le_pow_right (by omega) (by simp; omega)
     have h3 : (256 : Nat) ^ 7 = 72057594037927936 := by decide
     omega
    have hb8 : l[j].toNat < 256 := l[j].toNat_lt
    have hnx : Hid (num (l.take j) * 256 + l[j].toNat = num (l.take (j + 1))) := ⟨by rw [qgV l j hlt',qeA]⟩
    generalize l[j] = b at hc hb8 hnx
    generalize num (l.take j) = v at hx hnx ⊢
    go_wp2
    go_roundg (gk - 1)
    case measure => omega
    case rel => exact ⟨j + 1,by rw [<- hnx.out]; simp,by go_num,by omega,rfl⟩
  · obtain rfl : j = l.length := by omega
    have hdec : decide ((l.length : Int) < (l.length : Int)) = false := decide_eq_false (by omega)
    have f2 : wr.cell? ⟨q,0,none⟩ = some (.slice A' (left s') cap') := by simp [World.cell?,hmY]
    have f3 : wr.cell? ⟨q,1,none⟩ = some (.bool s'.isNone) := by simp [World.cell?,hmY]
    have f4 : wr.cell? ⟨w.heap.size + 1,0,none⟩ = some (.slice none 0 0) := by simp [World.cell?,hmX]
    have f5 : wr.cell? ⟨w.heap.size + 1,1,none⟩ = some (.bool false) := by simp [World.cell?,hmX]
    have f6 : wr.frozen? ⟨w.heap.size + 1,0,none⟩ = false := by simp [World.frozen?,hmX]
    have f7 : wr.frozen? ⟨w.heap.size + 1,1,none⟩ = false := by simp [World.frozen?,hmX]
    rw [List.take_length]
    go_wp2
    go_region
    all_goals
     go_wp2
     refine bodyPost_ret (qV rfl _ _ (w.heap.size + 1) _ _ _ rfl (qax _ _ _ _ _ _ _ hmX)) rfl ?_
     exact ⟨A',cap',rfl,hfin,((hbX.setCell (by simp) _).setCell (by simp) _).drew⟩
end Go.Proofs.YtmeoooojmhhahaaGreat
namespace Go.Proofs.YtmeoooojmhhahaaGreat
open Go.RowKit
theorem qar (s : St) (n : Nat) {b : Nat} (h : left s <= b) : left (numberN s n).2 <= b := by
 unfold numberN takeN
 cases s with
 | none => simp [left]
 | some l =>
   simp only [left] at h
   simp only
   split
   · simp [left]; omega
   · simp [left]
theorem qjJ (A : Option Addr) (cap : Nat) (s : St) (w : World) (h : qp w A cap s) :
 Calls Tryz.prog 98 #[inv A cap s] w fun e w' => ∃ A' cap',e = .returned (.tuple #[.int .u8 ((numberN s 1).1 : Int),inv A' cap' (numberN s 1).2]) /\ (∀ w0,qp w0 A cap s -> qp w0 A' cap' (numberN s 1).2) /\ Below w.heap.size w w' := by
 have hb0 : Below w.heap.size w ((w.alloc (.cells #[.slice A (left s) cap, .bool s.isNone] 171)).alloc (.cells #[.slice none 0 0, .bool false] 171)) := (blq.alloc nlq _).alloc (by simp) _
 have hm0 : ((w.alloc (.cells #[.slice A (left s) cap, .bool s.isNone] 171)).alloc (.cells #[.slice none 0 0, .bool false] 171)).heap[w.heap.size + 1]? = some (.cells #[.slice none 0 0, .bool false] 171) := heap_alloc2_new _ _ _
 have f0 : ((w.alloc (.cells #[.slice A (left s) cap, .bool s.isNone] 171)).alloc (.cells #[.slice none 0 0, .bool false] 171)).cell? ⟨w.heap.size,0,none⟩ = some (.slice A (left s) cap) := by simp [go_sem]
 have f1 : ((w.alloc (.cells #[.slice A (left s) cap, .bool s.isNone] 171)).alloc (.cells #[.slice none 0 0, .bool false] 171)).cell? ⟨w.heap.size,1,none⟩ = some (.bool s.isNone) := by simp [go_sem]
 have hN := qbX A cap s _ 1 (by omega) (h.below hb0 nlq)
 have hlt8 := qbc s 1
 generalize numberN s 1 = t at hN hlt8 ⊢
 obtain ⟨v,s'⟩ := t
 simp only [inv] at hN hlt8 ⊢
 have hv : (v : Int) < 256 := by omega
 generalize hW : ((w.alloc (.cells #[.slice A (left s) cap, .bool s.isNone] 171)).alloc (.cells #[.slice none 0 0, .bool false] 171)) = W at hb0 hm0 hN f0 f1
 go_enter Tryz.func98,Tryz.ntmps98
 go_wp2_with (
  go_at_call 141
  refine hN.mono ?_
  rintro e w1 ⟨A',cap',rfl,hr,hb⟩
  have hq : w.heap.size + 1 < w1.heap.size := Nat.lt_of_lt_of_le (hlt hm0) hb.size
  have hm1 : w1.heap[w.heap.size + 1]? = some (.cells #[.slice none 0 0, .bool false] 171) := (hb.block _ (hlt hm0)).trans hm0
  have hb1 : Below w.heap.size w w1 := hb0.trans (hb.mono hb0.size)
  have f4 : w1.cell? ⟨w.heap.size + 1,0,none⟩ = some (.slice none 0 0) := by simp [World.cell?,hm1]
  have f5 : w1.cell? ⟨w.heap.size + 1,1,none⟩ = some (.bool false) := by simp [World.cell?,hm1]
  have f6 : w1.frozen? ⟨w.heap.size + 1,0,none⟩ = false := by simp [World.frozen?,hm1]
  have f7 : w1.frozen? ⟨w.heap.size + 1,1,none⟩ = false := by simp [World.frozen?,hm1]
  clear hb hb0 hm0)
 go_region
 all_goals
  go_wp2
  refine bodyPost_ret (qV rfl _ _ (w.heap.size + 1) _ _ _ rfl ((Below.heap_alloc _ _ _ (by simpa using hq)).trans (qax _ _ _ _ _ _ _ hm1))) rfl ?_
  exact ⟨A',cap',by first | rfl | (simp [IntKind.wrap,IntKind.bits,IntKind.signed]; done) | (simp [IntKind.wrap,IntKind.bits,IntKind.signed]; omega),hr,(((hb1.setCell (by simp) _).setCell (by simp) _).alloc (by simp; omega) _).drew⟩
theorem qcK (A : Option Addr) (cap : Nat) (s : St) (w : World) (h : qp w A cap s) :
 Calls Tryz.prog 143 #[inv A cap s] w fun e w' => ∃ A' cap',e = .returned (.tuple #[.int .i64 (IntKind.i64.wrap ((numberN s 8).1 : Int)),inv A' cap' (numberN s 8).2]) /\ (∀ w0,qp w0 A cap s -> qp w0 A' cap' (numberN s 8).2) /\ Below w.heap.size w w' := by
 have hb0 : Below w.heap.size w ((w.alloc (.cells #[.slice A (left s) cap, .bool s.isNone] 171)).alloc (.cells #[.slice none 0 0, .bool false] 171)) := (blq.alloc nlq _).alloc (by simp) _
 have hm0 : ((w.alloc (.cells #[.slice A (left s) cap, .bool s.isNone] 171)).alloc (.cells #[.slice none 0 0, .bool false] 171)).heap[w.heap.size + 1]? = some (.cells #[.slice none 0 0, .bool false] 171) := heap_alloc2_new _ _ _
 have f0 : ((w.alloc (.cells #[.slice A (left s) cap, .bool s.isNone] 171)).alloc (.cells #[.slice none 0 0, .bool false] 171)).cell? ⟨w.heap.size,0,none⟩ = some (.slice A (left s) cap) := by simp [go_sem]
 have f1 : ((w.alloc (.cells #[.slice A (left s) cap, .bool s.isNone] 171)).alloc (.cells #[.slice none 0 0, .bool false] 171)).cell? ⟨w.heap.size,1,none⟩ = some (.bool s.isNone) := by simp [go_sem]
 have hN := qbX A cap s _ 8 (by omega) (h.below hb0 nlq)
 generalize numberN s 8 = t at hN ⊢
 obtain ⟨v,s'⟩ := t
 simp only [inv] at hN ⊢
 generalize hW : ((w.alloc (.cells #[.slice A (left s) cap, .bool s.isNone] 171)).alloc (.cells #[.slice none 0 0, .bool false] 171)) = W at hb0 hm0 hN f0 f1
 go_enter Tryz.func143,Tryz.ntmps143
 go_wp2_with (
  go_at_call 141
  refine hN.mono ?_
  rintro e w1 ⟨A',cap',rfl,hr,hb⟩
  have hq : w.heap.size + 1 < w1.heap.size := Nat.lt_of_lt_of_le (hlt hm0) hb.size
  have hm1 : w1.heap[w.heap.size + 1]? = some (.cells #[.slice none 0 0, .bool false] 171) := (hb.block _ (hlt hm0)).trans hm0
  have hb1 : Below w.heap.size w w1 := hb0.trans (hb.mono hb0.size)
  have f4 : w1.cell? ⟨w.heap.size + 1,0,none⟩ = some (.slice none 0 0) := by simp [World.cell?,hm1]
  have f5 : w1.cell? ⟨w.heap.size + 1,1,none⟩ = some (.bool false) := by simp [World.cell?,hm1]
  have f6 : w1.frozen? ⟨w.heap.size + 1,0,none⟩ = false := by simp [World.frozen?,hm1]
  have f7 : w1.frozen? ⟨w.heap.size + 1,1,none⟩ = false := by simp [World.frozen?,hm1]
  clear hb hb0 hm0)
 go_region
 all_goals
  go_wp2
  refine bodyPost_ret (qV rfl _ _ (w.heap.size + 1) _ _ _ rfl ((Below.heap_alloc _ _ _ (by simpa using hq)).trans (qax _ _ _ _ _ _ _ hm1))) rfl ?_
  exact ⟨A',cap',by rw [IntWalk.i64_left]; rfl,hr,(((hb1.setCell (by simp) _).setCell (by simp) _).alloc (by simp; omega) _).drew⟩
theorem qhV (A : Option Addr) (cap : Nat) (s : St) (w : World) (most : Int) (hm : -9223372036854775808 <= most /\ most <= 9223372036854775807) (hL : left s <= 140737488355328) (h : qp w A cap s) :
 Calls Tryz.prog 180 #[inv A cap s, .int .i64 most] w fun e w' => ∃ A' cap',e = .returned (.tuple #[.int .i64 ((qaI s most).1 : Int),inv A' cap' (qaI s most).2]) /\ (∀ w0,qp w0 A cap s -> qp w0 A' cap' (qaI s most).2) /\ Below w.heap.size w w' := by
 have hb0 : Below w.heap.size w ((w.alloc (.cells #[.slice A (left s) cap, .bool s.isNone] 171)).alloc (.cells #[.slice none 0 0, .bool false] 171)) := (blq.alloc nlq _).alloc (by simp) _
 have hm0 : ((w.alloc (.cells #[.slice A (left s) cap, .bool s.isNone] 171)).alloc (.cells #[.slice none 0 0, .bool false] 171)).heap[w.heap.size + 1]? = some (.cells #[.slice none 0 0, .bool false] 171) := heap_alloc2_new _ _ _
 have f0 : ((w.alloc (.cells #[.slice A (left s) cap, .bool s.isNone] 171)).alloc (.cells #[.slice none 0 0, .bool false] 171)).cell? ⟨w.heap.size,0,none⟩ = some (.slice A (left s) cap) := by simp [go_sem]
 have f1 : ((w.alloc (.cells #[.slice A (left s) cap, .bool s.isNone] 171)).alloc (.cells #[.slice none 0 0, .bool false] 171)).cell? ⟨w.heap.size,1,none⟩ = some (.bool s.isNone) := by simp [go_sem]
 have hN := qbX A cap s _ 4 (by omega) (h.below hb0 nlq)
 have hlt4 : (numberN s 4).1 < 4294967296 := qbc s 4
 have hle := qar s 4 hL
 unfold qaI
 generalize numberN s 4 = t at hN hlt4 hle ⊢
 obtain ⟨v,s'⟩ := t
 simp only [inv] at hN hlt4 hle ⊢
 have vb : (v : Int) < 4294967296 := by omega
 have lb : (left s' : Int) <= 140737488355328 := by omega
 have e2 : IntKind.u64.wrap (left s' : Int) = (left s' : Int) := IntWalk.u64_in _ (by omega)
 generalize hW : ((w.alloc (.cells #[.slice A (left s) cap, .bool s.isNone] 171)).alloc (.cells #[.slice none 0 0, .bool false] 171)) = W at hb0 hm0 hN f0 f1
 by_cases c0 : most < 0
 · rw [if_pos (.inl c0)]
   go_enter Tryz.func180,Tryz.ntmps180
   go_wp2_with (
    go_at_call 141
    refine hN.mono ?_
    rintro e w1 ⟨A',cap',rfl,hr,hb⟩
    have hq : w.heap.size + 1 < w1.heap.size := Nat.lt_of_lt_of_le (hlt hm0) hb.size
    have hm1 : w1.heap[w.heap.size + 1]? = some (.cells #[.slice none 0 0, .bool false] 171) := (hb.block _ (hlt hm0)).trans hm0
    have hb1 : Below w.heap.size w w1 := hb0.trans (hb.mono hb0.size)
    have f4 : w1.cell? ⟨w.heap.size + 1,0,none⟩ = some (.slice none 0 0) := by simp [World.cell?,hm1]
    have f5 : w1.cell? ⟨w.heap.size + 1,1,none⟩ = some (.bool false) := by simp [World.cell?,hm1]
    have f6 : w1.frozen? ⟨w.heap.size + 1,0,none⟩ = false := by simp [World.frozen?,hm1]
    have f7 : w1.frozen? ⟨w.heap.size + 1,1,none⟩ = false := by simp [World.frozen?,hm1]
    clear hb hb0 hm0)
   refine bodyPost_ret (qV rfl _ _ (w.heap.size + 1) _ _ _ rfl ((Below.heap_alloc _ _ _ (by simpa using hq)).trans (qax _ _ _ _ _ _ _ hm1))) rfl ?_
   exact ⟨none,0,rfl,fun w0 _ => qp.bad w0,((hb1.setCell (by simp) _).setCell (by simp) _).alloc (by simp; omega) _⟩
 have e1 : IntKind.u64.wrap most = most := IntWalk.u64_in _ (by omega)
 by_cases c1 : most < (v : Int)
 · rw [if_pos (.inr (.inl c1))]
   go_enter Tryz.func180,Tryz.ntmps180
   go_wp2_with (
    go_at_call 141
    refine hN.mono ?_
    rintro e w1 ⟨A',cap',rfl,hr,hb⟩
    have hq : w.heap.size + 1 < w1.heap.size := Nat.lt_of_lt_of_le (hlt hm0) hb.size
    have hm1 : w1.heap[w.heap.size + 1]? = some (.cells #[.slice none 0 0, .bool false] 171) := (hb.block _ (hlt hm0)).trans hm0
    have hb1 : Below w.heap.size w w1 := hb0.trans (hb.mono hb0.size)
    have f4 : w1.cell? ⟨w.heap.size + 1,0,none⟩ = some (.slice none 0 0) := by simp [World.cell?,hm1]
    have f5 : w1.cell? ⟨w.heap.size + 1,1,none⟩ = some (.bool false) := by simp [World.cell?,hm1]
    have f6 : w1.frozen? ⟨w.heap.size + 1,0,none⟩ = false := by simp [World.frozen?,hm1]
    have f7 : w1.frozen? ⟨w.heap.size + 1,1,none⟩ = false := by simp [World.frozen?,hm1]
    clear hb hb0 hm0)
   refine bodyPost_ret (qV rfl _ _ (w.heap.size + 1) _ _ _ rfl ((Below.heap_alloc _ _ _ (by simpa using hq)).trans (qax _ _ _ _ _ _ _ hm1))) rfl ?_
   exact ⟨none,0,rfl,fun w0 _ => qp.bad w0,((hb1.setCell (by simp) _).setCell (by simp) _).alloc (by simp; omega) _⟩
 by_cases c2 : left s' < v
 · rw [if_pos (.inr (.inr c2))]
   have c2' : (left s' : Int) < (v : Int) := by omega
   go_enter Tryz.func180,Tryz.ntmps180
   go_wp2_with (
    go_at_call 141
    refine hN.mono ?_
    rintro e w1 ⟨A',cap',rfl,hr,hb⟩
    have hq : w.heap.size + 1 < w1.heap.size := Nat.lt_of_lt_of_le (hlt hm0) hb.size
    have hm1 : w1.heap[w.heap.size + 1]? = some (.cells #[.slice none 0 0, .bool false] 171) := (hb.block _ (hlt hm0)).trans hm0
    have hb1 : Below w.heap.size w w1 := hb0.trans (hb.mono hb0.size)
    have f4 : w1.cell? ⟨w.heap.size + 1,0,none⟩ = some (.slice none 0 0) := by simp [World.cell?,hm1]
    have f5 : w1.cell? ⟨w.heap.size + 1,1,none⟩ = some (.bool false) := by simp [World.cell?,hm1]
    have f6 : w1.frozen? ⟨w.heap.size + 1,0,none⟩ = false := by simp [World.frozen?,hm1]
    have f7 : w1.frozen? ⟨w.heap.size + 1,1,none⟩ = false := by simp [World.frozen?,hm1]
    clear hb hb0 hm0)
   refine bodyPost_ret (qV rfl _ _ (w.heap.size + 1) _ _ _ rfl ((Below.heap_alloc _ _ _ (by simpa using hq)).trans (qax _ _ _ _ _ _ _ hm1))) rfl ?_
   exact ⟨none,0,rfl,fun w0 _ => qp.bad w0,((hb1.setCell (by simp) _).setCell (by simp) _).alloc (by simp; omega) _⟩
 · rw [if_neg (by omega)]
   have d0 : decide (most < 0) = false := decide_eq_false c0
   have d1 : decide (most < (v : Int)) = false := decide_eq_false c1
   have d2 : decide (left s' < v) = false := decide_eq_false c2
   clear c0 c1 c2 hlt4 hle hL
   go_enter Tryz.func180,Tryz.ntmps180
   go_wp2_with (
    go_at_call 141
    refine hN.mono ?_
    rintro e w1 ⟨A',cap',rfl,hr,hb⟩
    have hq : w.heap.size + 1 < w1.heap.size := Nat.lt_of_lt_of_le (hlt hm0) hb.size
    have hm1 : w1.heap[w.heap.size + 1]? = some (.cells #[.slice none 0 0, .bool false] 171) := (hb.block _ (hlt hm0)).trans hm0
    have hb1 : Below w.heap.size w w1 := hb0.trans (hb.mono hb0.size)
    have f4 : w1.cell? ⟨w.heap.size + 1,0,none⟩ = some (.slice none 0 0) := by simp [World.cell?,hm1]
    have f5 : w1.cell? ⟨w.heap.size + 1,1,none⟩ = some (.bool false) := by simp [World.cell?,hm1]
    have f6 : w1.frozen? ⟨w.heap.size + 1,0,none⟩ = false := by simp [World.frozen?,hm1]
    have f7 : w1.frozen? ⟨w.heap.size + 1,1,none⟩ = false := by simp [World.frozen?,hm1]
    clear hb hb0 hm0)
   go_region
   all_goals
    go_wp2
    refine bodyPost_ret (qV rfl _ _ (w.heap.size + 1) _ _ _ rfl ((Below.heap_alloc _ _ _ (by simpa using hq)).trans (qax _ _ _ _ _ _ _ hm1))) rfl ?_
    exact ⟨A',cap',rfl,hr,(((hb1.setCell (by simp) _).setCell (by simp) _).alloc (by simp; omega) _).drew⟩
theorem qiG (A : Option Addr) (cap : Nat) (s : St) (w : World) (most : Int) (hm : -9223372036854775808 <= most /\ most <= 9223372036854775807) (hL : left s <= 140737488355328) (h : qp w A cap s) :
 Calls Tryz.prog 166 #[inv A cap s, .int .i64 most] w fun e w' => ∃ A' cap',e = .returned (.tuple #[.string ⟨(qaY s most).1.toArray⟩,inv A' cap' (qaY s most).2]) /\ (∀ w0,qp w0 A cap s -> qp w0 A' cap' (qaY s most).2) /\ Below w.heap.size w w' := by
 have hb0 : Below w.heap.size w ((w.alloc (.cells #[.slice A (left s) cap, .bool s.isNone] 171)).alloc (.cells #[.slice none 0 0, .bool false] 171)) := (blq.alloc nlq _).alloc (by simp) _
 have hm0 : ((w.alloc (.cells #[.slice A (left s) cap, .bool s.isNone] 171)).alloc (.cells #[.slice none 0 0, .bool false] 171)).heap[w.heap.size + 1]? = some (.cells #[.slice none 0 0, .bool false] 171) := heap_alloc2_new _ _ _
 have f0 : ((w.alloc (.cells #[.slice A (left s) cap, .bool s.isNone] 171)).alloc (.cells #[.slice none 0 0, .bool false] 171)).cell? ⟨w.heap.size,0,none⟩ = some (.slice A (left s) cap) := by simp [go_sem]
 have f1 : ((w.alloc (.cells #[.slice A (left s) cap, .bool s.isNone] 171)).alloc (.cells #[.slice none 0 0, .bool false] 171)).cell? ⟨w.heap.size,1,none⟩ = some (.bool s.isNone) := by simp [go_sem]
 have hN := qhV A cap s _ most hm hL (h.below hb0 nlq)
 unfold qaY
 generalize qaI s most = t at hN ⊢
 obtain ⟨v,s1⟩ := t
 simp only at hN ⊢
 have hM := fun A1 cap1 w h => qe5 A1 cap1 s1 w v h
 generalize takeN s1 v = t at hM ⊢
 obtain ⟨l,s2⟩ := t
 simp only [inv] at hN hM ⊢
 generalize hW : ((w.alloc (.cells #[.slice A (left s) cap, .bool s.isNone] 171)).alloc (.cells #[.slice none 0 0, .bool false] 171)) = W at hb0 hm0 hN f0 f1
 go_enter Tryz.func166,Tryz.ntmps166
 go_wp2_with (
  go_at_call 180
  refine hN.mono ?_
  rintro e w1 ⟨A',cap',rfl,hr,hb⟩
  have hq : w.heap.size + 1 < w1.heap.size := Nat.lt_of_lt_of_le (hlt hm0) hb.size
  have hm1 : w1.heap[w.heap.size + 1]? = some (.cells #[.slice none 0 0, .bool false] 171) := (hb.block _ (hlt hm0)).trans hm0
  have hb1 : Below w.heap.size w w1 := hb0.trans (hb.mono hb0.size)
  have f4 : w1.cell? ⟨w.heap.size + 1,0,none⟩ = some (.slice none 0 0) := by simp [World.cell?,hm1]
  have f5 : w1.cell? ⟨w.heap.size + 1,1,none⟩ = some (.bool false) := by simp [World.cell?,hm1]
  have f6 : w1.frozen? ⟨w.heap.size + 1,0,none⟩ = false := by simp [World.frozen?,hm1]
  have f7 : w1.frozen? ⟨w.heap.size + 1,1,none⟩ = false := by simp [World.frozen?,hm1]
  clear hb hb0 hm0)
 refine (hM A' cap' _ ((hr w h).below (hb1.alloc (by omega) _) nlq)).mono ?_
 rintro e w2 ⟨B,bl,bc,A2,cap2,rfl,hlr,hb2⟩
 have hX : (w1.alloc (.cells #[.slice A' (left s1) cap', .bool s1.isNone] 171)).heap[w1.heap.size]? = some (.cells #[.slice A' (left s1) cap', .bool s1.isNone] 171) := heap_alloc_new _ _
 have hq2 : w2.heap[w1.heap.size]? = some (.cells #[.slice A' (left s1) cap', .bool s1.isNone] 171) := (hb2.block _ (hlt hX)).trans hX
 have hm2 : w2.heap[w.heap.size + 1]? = some (.cells #[.slice none 0 0, .bool false] 171) := (hb2.block _ (Nat.lt_trans hq (hlt hX))).trans ((Below.heap_alloc _ _ _ hq).trans hm1)
 have hbw2 : Below w.heap.size w w2 := (hb1.alloc (by omega) _).trans (hb2.mono (by simp; omega))
 have hrr : ∀ w0,qp w0 A cap s -> Lies w0 B bl bc l /\ qp w0 A2 cap2 s2 := fun w0 h0 => hlr w0 (hr w0 h0)
 have g0 : w2.cell? ⟨w1.heap.size,0,none⟩ = some (.slice A' (left s1) cap') := by simp [World.cell?,hq2]
 have g1 : w2.cell? ⟨w1.heap.size,1,none⟩ = some (.bool s1.isNone) := by simp [World.cell?,hq2]
 have g2 : w2.frozen? ⟨w1.heap.size,0,none⟩ = false := by simp [World.frozen?,hq2]
 have g3 : w2.frozen? ⟨w1.heap.size,1,none⟩ = false := by simp [World.frozen?,hq2]
 have hm3 : ((w2.setCell ⟨w1.heap.size,0,none⟩ (.slice A2 (left s2) cap2)).setCell ⟨w1.heap.size,1,none⟩ (.bool s2.isNone)).heap[w.heap.size + 1]? = some (.cells #[.slice none 0 0, .bool false] 171) := (Below.heap_setCell _ _ _ _ (by simp; omega)).trans ((Below.heap_setCell _ _ _ _ (by simp; omega)).trans hm2)
 have hq3 : ((w2.setCell ⟨w1.heap.size,0,none⟩ (.slice A2 (left s2) cap2)).setCell ⟨w1.heap.size,1,none⟩ (.bool s2.isNone)).heap[w1.heap.size]? = some (.cells #[.slice A2 (left s2) cap2, .bool s2.isNone] 171) := qax _ _ _ _ _ _ _ hq2
 have hb3 : Below w.heap.size w ((w2.setCell ⟨w1.heap.size,0,none⟩ (.slice A2 (left s2) cap2)).setCell ⟨w1.heap.size,1,none⟩ (.bool s2.isNone)) := (hbw2.setCell (by simp; omega) _).setCell (by simp; omega) _
 clear hb2 hX hlr hr hM hN hm2 hq2 hbw2 hb1 hm1 f4 f5 f6 f7
 go_wp2
 generalize ((w2.setCell ⟨w1.heap.size,0,none⟩ (.slice A2 (left s2) cap2)).setCell ⟨w1.heap.size,1,none⟩ (.bool s2.isNone)) = X at hm3 hq3 hb3 ⊢
 generalize w1.heap.size = q at hq hq3 g0 g1 g2 g3 ⊢
 have f2 : X.cell? ⟨q,0,none⟩ = some (.slice A2 (left s2) cap2) := by simp [World.cell?,hq3]
 have f3 : X.cell? ⟨q,1,none⟩ = some (.bool s2.isNone) := by simp [World.cell?,hq3]
 have f4 : X.cell? ⟨w.heap.size + 1,0,none⟩ = some (.slice none 0 0) := by simp [World.cell?,hm3]
 have f5 : X.cell? ⟨w.heap.size + 1,1,none⟩ = some (.bool false) := by simp [World.cell?,hm3]
 have f6 : X.frozen? ⟨w.heap.size + 1,0,none⟩ = false := by simp [World.frozen?,hm3]
 have f7 : X.frozen? ⟨w.heap.size + 1,1,none⟩ = false := by simp [World.frozen?,hm3]
 have ht := ((hrr w h).1.below hb3.drew nlq).text Tryz.underlying33 Tryz.underlying5 Tryz.underlying9
 go_region
 all_goals
  go_wp2
  refine bodyPost_ret (qV rfl _ _ (w.heap.size + 1) _ _ _ rfl (qax _ _ _ _ _ _ _ hm3)) rfl ?_
  exact ⟨A2,cap2,rfl,fun w0 h0 => (hrr w0 h0).2,((hb3.setCell (by simp) _).setCell (by simp) _).drew⟩
theorem qdI (A : Option Addr) (cap : Nat) (s : St) (w : World) :
 Calls Tryz.prog 97 #[inv A cap s] w fun e w' => e = .returned (.bool (decide (s = some []))) /\ Below w.heap.size w w' := by
 cases s with
 | none =>
   simp only [inv,left,Option.isNone]
   go_enter Tryz.func97,Tryz.ntmps97
   go_wp2
   go_ret
   exact ⟨rfl,blq.alloc nlq _⟩
 | some l =>
   simp only [inv,left,Option.isNone]
   go_enter Tryz.func97,Tryz.ntmps97
   go_wp2
   go_ret
   refine ⟨?_,blq.alloc nlq _⟩
   cases l with
   | nil => rfl
   | cons x l =>
     have : ((x :: l).length : Int) ≠ 0 := by simp; omega
     rw [beq_eq_false_iff_ne.2 this]
     simp
end Go.Proofs.YtmeoooojmhhahaaGreat
namespace Go.Proofs.YtmeoooojmhhahaaGreat
end Go.Proofs.YtmeoooojmhhahaaGreat
