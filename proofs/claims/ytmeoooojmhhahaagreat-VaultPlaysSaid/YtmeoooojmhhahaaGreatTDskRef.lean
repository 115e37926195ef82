/- The document's disk in memory; Right, Used, Get, each by its contract. -/
import Derived.Test.YtmeoooojmhhahaaGreatTDskPure
import Derived.Test.YtmeoooojmhhahaaGreatTCmn
import Derived.Test.YtmeoooojmhhahaaGreatRows
import Derived.Outline
import Derived.Lib.Hide
import Derived.Deep.LoopGhost
import Derived.Deep.QuietTactic
import Derived.Deep.Cut
import Derived.Deep.DeepCutAuto
import Derived.Deep.RegionWith
import Derived.Deep.RegionHeld3
set_option linter.unusedVariables false
set_option linter.unusedSimpArgs false
set_option maxRecDepth 100000
set_option maxHeartbeats 6400000
namespace Go.Proofs.YtmeoooojmhhahaaGreat
open Go.RowKit
def RF (w : World) (A : Option Addr) (cap : Nat) (l : List Fil) : Prop :=
 l.length <= cap /\ (0 < l.length -> ∃ g off,A = some ⟨g,off,none⟩ /\ g < w.heap.size /\ ∀ j (hj : j < l.length),
  w.cell? ⟨g,off + j * 3,none⟩ = some (.string l[j].name) /\ w.cell? ⟨g,off + j * 3 + 1,none⟩ = some (.string l[j].b) /\ w.cell? ⟨g,off + j * 3 + 2,none⟩ = some (.int .i64 (l[j].safe : Int)))
abbrev qD (A : Option Addr) (cap : Nat) (D : Dsk) : Value := .agg #[.int .i64 D.room, .slice A D.l.length cap, .bool D.set, .int .i64 D.n, .bool D.lost]
abbrev diskC (A : Option Addr) (cap : Nat) (D : Dsk) : Array Value := #[.int .i64 D.room, .slice A D.l.length cap, .bool D.set, .int .i64 D.n, .bool D.lost]
abbrev filV (f : Fil) : Value := .agg #[.string f.name, .string f.b, .int .i64 (f.safe : Int)]
abbrev filC (f : Fil) : Array Value := #[.string f.name, .string f.b, .int .i64 (f.safe : Int)]
def filL (f : Fil) : List Value := [.string f.name, .string f.b, .int .i64 (f.safe : Int)]
def qaR (l : List Fil) : List Value := l.flatMap filL
section
variable {w w' : World} {A : Option Addr} {cap : Nat} {l : List Fil}
theorem qf7 (a b : List Fil) : qaR (a ++ b) = qaR a ++ qaR b := List.flatMap_append
theorem qf8 (f : Fil) : qaR [f] = filL f := by simp [qaR]
theorem qk0 (l : List Fil) : ∀ j (hj : j < l.length),(qaR l)[j * 3]? = some (.string l[j].name) /\ (qaR l)[j * 3 + 1]? = some (.string l[j].b) /\ (qaR l)[j * 3 + 2]? = some (.int .i64 (l[j].safe : Int)) := by
 induction l with
 | nil => intro j hj; simp at hj
 | cons f l ih =>
   intro j hj
   cases j with
   | zero => simp [qaR,filL]
   | succ j =>
     have := ih j (by simpa using hj)
     have e : ∀ i,(qaR (f :: l))[(j + 1) * 3 + i]? = (qaR l)[j * 3 + i]? := fun i => by
      rw [show (j + 1) * 3 + i = (j * 3 + i) + 3 by omega]
      simp [qaR,filL,List.flatMap_cons]
     refine ⟨?_,?_,?_⟩
     · rw [show (j + 1) * 3 = (j + 1) * 3 + 0 from rfl,e]; simpa using this.1
     · rw [e]; simpa using this.2.1
     · rw [e]; simpa using this.2.2
theorem RF.nil (w : World) : RF w none 0 [] := ⟨nlq,fun h => absurd h (by simp)⟩
theorem RF.keep (h : RF w A cap l) (hs : w.heap.size <= w'.heap.size) (hk : ∀ g,g < w.heap.size -> w'.heap[g]? = w.heap[g]?) : RF w' A cap l := by
 refine ⟨h.1,fun h0 => ?_⟩
 obtain ⟨g,off,e,hg,hc⟩ := h.2 h0
 refine ⟨g,off,e,Nat.lt_of_lt_of_le hg hs,fun j hj => ?_⟩
 obtain ⟨c0,c1,c2⟩ := hc j hj
 have hx : ∀ o,w'.cell? ⟨g,o,none⟩ = w.cell? ⟨g,o,none⟩ := fun o => World.cell?_of_block (hk g hg)
 exact ⟨(hx _).trans c0,(hx _).trans c1,(hx _).trans c2⟩
theorem RF.below (h : RF w A cap l) {B : Nat} (hb : Below B w w') (hB : w.heap.size <= B) : RF w' A cap l :=
 h.keep hb.size fun g hg => hb.block g (Nat.lt_of_lt_of_le hg hB)
theorem RF.drew (h : RF w A cap l) : RF w.drew A cap l := h
def New (B : Nat) (A : Option Addr) : Prop := ∀ a,A = some a -> B <= a.block
theorem New.mono {B B' : Nat} (h : New B A) (hB : B' <= B) : New B' A := fun a e => Nat.le_trans hB (h a e)
theorem New.of_own {base : Nat} {T : TypeId} {size n c : Nat} {xs : List Value} (h : w.ownsRow base T size (.slice A n c) n xs) : New base A := fun a e => by
 subst e
 exact (h.lt a.block rfl).1
theorem RF.keepN (h : RF w A cap l) {B : Nat} (hn : New B A) (hs : w.heap.size <= w'.heap.size) (hk : ∀ g,B <= g -> g < w.heap.size -> w'.heap[g]? = w.heap[g]?) : RF w' A cap l := by
 refine ⟨h.1,fun h0 => ?_⟩
 obtain ⟨g,off,e,hg,hc⟩ := h.2 h0
 refine ⟨g,off,e,Nat.lt_of_lt_of_le hg hs,fun j hj => ?_⟩
 obtain ⟨c0,c1,c2⟩ := hc j hj
 have hx : ∀ o,w'.cell? ⟨g,o,none⟩ = w.cell? ⟨g,o,none⟩ := fun o => World.cell?_of_block (hk g (hn _ e) hg)
 exact ⟨(hx _).trans c0,(hx _).trans c1,(hx _).trans c2⟩
def Got (w : World) (A : Option Addr) (cap : Nat) (l : List Fil) (w' : World) (A' : Option Addr) (cap' : Nat) (l' : List Fil) : Prop :=
 Below w.heap.size w w' /\ ((A' = A /\ cap' = cap /\ l' = l) \/ (RF w' A' cap' l' /\ New w.heap.size A'))
theorem Got.rf {A' : Option Addr} {cap' : Nat} {l' : List Fil} (h : Got w A cap l w' A' cap' l') (h0 : RF w A cap l) : RF w' A' cap' l' := by
 rcases h.2 with ⟨rfl,rfl,rfl⟩ | ⟨h1,_⟩
 · exact h0.below h.1 nlq
 · exact h1
theorem Got.same (hb : Below w.heap.size w w') : Got w A cap l w' A cap l := ⟨hb, .inl ⟨rfl,rfl,rfl⟩⟩
theorem Got.wrap {w1 w2 w3 : World} {A' : Option Addr} {cap' : Nat} {l' : List Fil} (hb : Below w.heap.size w w1) (hg : Got w1 A cap l w2 A' cap' l') (hb3 : Below w.heap.size w2 w3) (hk : ∀ g,w1.heap.size <= g -> g < w2.heap.size -> w3.heap[g]? = w2.heap[g]?) :
 Got w A cap l w3 A' cap' l' := by
 refine ⟨(hb.trans (hg.1.mono hb.size)).trans hb3,?_⟩
 rcases hg.2 with h | ⟨h1,h2⟩
 · exact .inl h
 · exact .inr ⟨h1.keepN h2 hb3.size hk,h2.mono hb.size⟩
theorem RF.of_own {base : Nat} {T : TypeId} {n : Nat} (h : w.ownsRow base T 3 (.slice A n cap) n (qaR l)) (hn : l.length = n) : RF w A cap l := by
 subst hn
 rcases h.2 with ⟨e,h0⟩ | ⟨g,cap',cur,e,hb,hg,hc,hm,hs,ht⟩
 · exact ⟨by omega,fun h1 => by omega⟩
 · injection e with e1 e2 e3
   subst e1 e3
   refine ⟨hc,fun _ => ⟨g,0,rfl,hlt hg,fun j hj => ?_⟩⟩
   obtain ⟨q0,q1,q2⟩ := qk0 l j hj
   have hx : ∀ i v,i < l.length * 3 -> (qaR l)[i]? = some v -> w.cell? ⟨g,i,none⟩ = some v := fun i v hi hv => by
    rw [cell_of_row w g i cur _ (0,0) hg]
    have := congrArg (fun q => q[i]?) ht
    simp only [List.getElem?_take,if_pos hi] at this
    rw [<- hv,<- this]
    simp
   exact ⟨by simpa using hx _ _ (by omega) q0,by simpa using hx _ _ (by omega) q1,by simpa using hx _ _ (by omega) q2⟩
end
theorem qhZ (l : List UInt8) (b : UInt8) : qae (l ++ [b]) = (qae l && !(decide (b.toNat < 33) || decide (126 < b.toNat))) := by simp [qae]
theorem qen (s : ByteArray) (k : Nat) (h : k < s.size) : qae (s.data.toList.take (k + 1)) = (qae (s.data.toList.take k) && !(decide ((s[k]).toNat < 33) || decide (126 < (s[k]).toNat))) := by
 rw [List.take_succ_eq_append_getElem (by simpa using h),qhZ]; rfl
theorem qj1 (l : List UInt8) (k : Nat) (h : qae (l.take k) = false) : qae l = false := by
 rw [<- List.take_append_drop k l]
 simp only [qae,List.all_append] at h ⊢
 rw [h]; rfl
theorem qcS (s : ByteArray) (k : Nat) (h : qae (s.data.toList.take k) = false) : qx s = false := by
 unfold qx; rw [qj1 _ _ h,Bool.and_false]
theorem qff (s : ByteArray) (w : World) : Calls Tryz.prog 152 #[.string s] w fun e w' => e = .returned (.bool (qx s)) /\ w = w' := by
 by_cases h1 : s.size < 1
 · have h1' : ((s.size : Int) < 1) := by omega
   have hr : qx s = false := by simp [qx,h1]
   rw [hr]
   clear hr
   go_enter Tryz.func152,Tryz.ntmps152
   go_wp2
   go_ret
   exact ⟨rfl,rfl⟩
 · have h1' : ¬ ((s.size : Int) < 1) := by omega
   by_cases h2 : 12 < s.size
   · have h2' : ((12 : Int) < (s.size : Int)) := by omega
     have hr : qx s = false := by simp [qx,h2]
     rw [hr]
     clear hr
     go_enter Tryz.func152,Tryz.ntmps152
     go_wp2
     go_ret
     exact ⟨rfl,rfl⟩
   · have h2' : ¬ ((12 : Int) < (s.size : Int)) := by omega
     have HR : Hid (qx s = qae s.data.toList) := ⟨by simp [qx,h1,h2]⟩
     go_enter Tryz.func152,Tryz.ntmps152
     go_wp2
     go_loop [14] (fun i => ∃ k : Nat,k <= s.size /\ i = .int .i64 (k : Int) /\ Hid (qae (s.data.toList.take k) = true)) (fun i => s.size - (intOf i).toNat)
     case atStart => exact ⟨0,Nat.zero_le _,rfl,⟨rfl⟩⟩
     case round =>
      obtain ⟨k,hk,rfl,HK⟩ := hrel
      by_cases hlt : k < s.size
      · have HT : Hid (qae (s.data.toList.take (k + 1)) = (qae (s.data.toList.take k) && !(decide ((s[k]).toNat < 33) || decide (126 < (s[k]).toNat)))) := ⟨qen s k hlt⟩
        by_cases c1 : (s[k]).toNat < 33
        · have c1' : ((s[k]).toNat : Int) < 33 := by omega
          have HN : Hid (qx s = false) := ⟨qcS s (k + 1) (by rw [HT.out,decide_eq_true c1]; simp)⟩
          go_wp2
          go_ret
          exact ⟨by rw [HN.out]; rfl,rfl⟩
        · have c1' : ¬ (((s[k]).toNat : Int) < 33) := by omega
          by_cases c2 : 126 < (s[k]).toNat
          · have c2' : (126 : Int) < ((s[k]).toNat : Int) := by omega
            have HN : Hid (qx s = false) := ⟨qcS s (k + 1) (by rw [HT.out,decide_eq_true c2]; simp)⟩
            go_wp2
            go_ret
            exact ⟨by rw [HN.out]; rfl,rfl⟩
          · have c2' : ¬ ((126 : Int) < ((s[k]).toNat : Int)) := by omega
            have HY : Hid (qae (s.data.toList.take (k + 1)) = true) := ⟨by rw [HT.out,HK.out,decide_eq_false c1,decide_eq_false c2]; rfl⟩
            go_wp2
            go_round
            case rel => exact ⟨k + 1,by omega,by go_num,HY⟩
            case measure => simp [intOf]; omega
      · have HY : Hid (qx s = true) := ⟨by rw [HR.out,<- HK.out,List.take_of_length_le (by simp; omega)]⟩
        go_wp2
        go_ret
        exact ⟨by rw [HY.out]; rfl,rfl⟩
theorem qi0 (l : List Fil) (k : Nat) (h : k < l.length) : qg (l.take (k + 1)) = qg (l.take k) + l[k].b.size := by
 rw [List.take_succ_eq_append_getElem h]; simp only [qg,List.map_append,List.sum_append,List.map_cons,List.map_nil,List.sum_cons,List.sum_nil,Nat.add_zero]
theorem qk1 (l : List Fil) (k : Nat) : qg (l.take k) <= qg l := by
 have : qg l = qg (l.take k) + qg (l.drop k) := by
  rw [show qg (l.take k) + qg (l.drop k) = qg (l.take k ++ l.drop k) by simp only [qg,List.map_append,List.sum_append],List.take_append_drop]
 omega
theorem qf9 (A : Option Addr) (cap : Nat) (D : Dsk) (w : World) (h : RF w A cap D.l) (hu : qg D.l <= 1099511627776) (hn : D.l.length <= 1099511627776) :
 Calls Tryz.prog 74 #[qD A cap D] w fun e w' => e = .returned (.int .i64 ((qg D.l : Nat) : Int)) /\ Below w.heap.size w w' := by
 have hb0 : Below w.heap.size w (w.alloc (.cells (diskC A cap D) 41)) := blq.alloc nlq _
 have h0 := h.below hb0 nlq
 obtain ⟨room,l,set,n,lost⟩ := D
 dsimp only at *
 have hn' : (l.length : Int) <= 1099511627776 := by omega
 go_enter Tryz.func74,Tryz.ntmps74
 go_wp2
 go_loop [3,8] (fun u i => ∃ k : Nat,k <= l.length /\ i = .int .i64 (k : Int) /\ u = .int .i64 ((qg (l.take k) : Nat) : Int)) (fun _ i => l.length - (intOf i).toNat)
 case atStart => exact ⟨0,Nat.zero_le _,rfl,rfl⟩
 case round =>
  obtain ⟨k,hk,rfl,rfl⟩ := hrel
  by_cases hlt : k < l.length
  · have hlt' : (k : Int) < (l.length : Int) := by omega
    obtain ⟨g,off,rfl,hg,hc⟩ := h0.2 (by show 0 < l.length; omega)
    obtain ⟨_,c1,_⟩ := hc k hlt
    have ht := qi0 l k hlt
    have hle := qk1 l (k + 1)
    have HT : Hid (qg (l.take (k + 1)) = qg (l.take k) + l[k].b.size) := ⟨ht⟩
    rw [ht] at hle
    clear ht hc
    generalize l[k].b = s at *
    generalize qg (l.take k) = u at *
    have hu1 : (u : Int) <= 1099511627776 := by omega
    have hu2 : (s.size : Int) <= 1099511627776 := by omega
    go_wp2
    go_round
    case rel => exact ⟨k + 1,by omega,by go_num,by rw [HT.out]; go_num⟩
    case measure => simp [intOf]; omega
  · obtain rfl : k = l.length := by omega
    have HT : Hid (qg (l.take l.length) = qg l) := ⟨by rw [List.take_length]⟩
    go_wp2
    go_ret
    exact ⟨by rw [<- HT.out]; rfl,hb0⟩
theorem qk2 (l : List Fil) (name : ByteArray) (k : Nat) (hk : k < l.length) (hno : ∀ i (hi : i < l.length),i < k -> isN name l[i] = false) (h : isN name l[k] = true) : getF l name = (l[k],true) := by
 have : l.find? (isN name) = some l[k] := by
  rw [List.find?_eq_some_iff_getElem]
  exact ⟨h,k,hk,rfl,fun j hj => by simp [hno j (by omega) hj]⟩
 simp [getF,this]
theorem qlN (l : List Fil) (name : ByteArray) (hno : ∀ i (hi : i < l.length),i < l.length -> isN name l[i] = false) : getF l name = (⟨name,ByteArray.empty,0⟩,false) := by
 have : l.find? (isN name) = none := by
  rw [List.find?_eq_none]
  intro x hx
  obtain ⟨i,hi,rfl⟩ := List.getElem_of_mem hx
  simp [hno i hi hi]
 simp [getF,this]
theorem qbT (A : Option Addr) (cap : Nat) (D : Dsk) (name : ByteArray) (w : World) (h : RF w A cap D.l) (hn : D.l.length <= 1099511627776) :
 Calls Tryz.prog 117 #[qD A cap D, .string name] w fun e w' => e = .returned (.tuple #[filV (getF D.l name).1, .bool (getF D.l name).2]) /\ Below w.heap.size w w' := by
 have hb0 : Below w.heap.size w ((w.alloc (.cells (diskC A cap D) 41)).alloc (.cells #[.string ⟨#[]⟩, .string ⟨#[]⟩, .int .i64 0] 141)) := (blq.alloc nlq _).alloc (by simp) _
 have h0 := h.below hb0 nlq
 obtain ⟨room,l,set,n,lost⟩ := D
 dsimp only at *
 have hn' : (l.length : Int) <= 1099511627776 := by omega
 go_enter Tryz.func117,Tryz.ntmps117
 go_wp2
 go_loop [10] (fun i => ∃ k : Nat,k <= l.length /\ i = .int .i64 (k : Int) /\ Hid (∀ i (hi : i < l.length),i < k -> isN name l[i] = false)) (fun i => l.length - (intOf i).toNat)
 case atStart => exact ⟨0,Nat.zero_le _,rfl,⟨fun i _ h => absurd h (by omega)⟩⟩
 case round =>
  obtain ⟨k,hk,rfl,HK⟩ := hrel
  by_cases hlt : k < l.length
  · have hlt' : (k : Int) < (l.length : Int) := by omega
    obtain ⟨g,off,rfl,hg,hc⟩ := h0.2 (by show 0 < l.length; omega)
    obtain ⟨c0,c1,c2⟩ := hc k hlt
    have HY := fun h => qk2 l name k hlt HK.out h
    cases hq : isN name l[k] with
    | true =>
      have hq' : (l[k].name.toList == name.toList) = true := hq
      have HY := Lib.hid (HY hq)
      clear hc hq
      generalize l[k] = f at *
      go_wp2
      refine bodyPost_ret (qa (n := w.heap.size + 1) rfl rfl (heap_alloc2_new _ _ _) Tryz.underlying141 rfl (by kernel_rfl)) rfl ?_
      rw [HY.out]
      exact ⟨rfl,(blq.alloc nlq _).alloc (by simp) _⟩
    | false =>
      have hq' : (l[k].name.toList == name.toList) = false := hq
      have HN : Hid (∀ i (hi : i < l.length),i < k + 1 -> isN name l[i] = false) := ⟨fun i hi h => by
       rcases Nat.lt_or_ge i k with h' | h'
       · exact HK.out i hi h'
       · obtain rfl : i = k := by omega
         exact hq⟩
      clear hc hq HY
      go_wp2
      go_round
      case rel => exact ⟨k + 1,by omega,by go_num,HN⟩
      case measure => simp [intOf]; omega
  · obtain rfl : k = l.length := by omega
    have HN := Lib.hid (qlN l name HK.out)
    go_wp2
    refine bodyPost_ret (qa (n := w.heap.size + 1) rfl rfl (heap_alloc2_new _ _ _) Tryz.underlying141 rfl (by kernel_rfl)) rfl ?_
    rw [HN.out]
    exact ⟨rfl,(blq.alloc nlq _).alloc (by simp) _⟩
end Go.Proofs.YtmeoooojmhhahaaGreat
namespace Go.Proofs.YtmeoooojmhhahaaGreat
open Go.RowKit
theorem qk3 : (Tryz.prog.info? 141).map (fun i => (i.zero,i.size,i.bytes)) = some (some (.agg #[.string ⟨#[]⟩, .string ⟨#[]⟩, .int .i64 0]),3,40) := by kernel_rfl
theorem below_drewN {B : Nat} {a w : World} (h : Below B a w) (n : Nat) : Below B a (w.drewN n) := ⟨h.os,h.tape,h.output,h.size,h.block⟩
theorem qeR (f : Fil) : ∀ u ∈ filL f,u.oneCell' = true := by
 intro u hu
 simp only [filL,List.mem_cons,List.not_mem_nil,or_false] at hu
 rcases hu with rfl | rfl | rfl <;> rfl
theorem qeo {α : Type} (P : α -> Bool) {l : List α} {i : Nat} (hi : i < l.length) : (l.take (i + 1)).filter P = (l.take i).filter P ++ (if P l[i] = true then [l[i]] else []) := by
 rw [List.take_succ_eq_append_getElem hi,List.filter_append,List.filter_cons]
 rfl
def Gath (W : World) (T : TypeId) (l pre : List Fil) (P : Fil -> Bool) (i : Nat) (v : Value) (wr : World) : Prop :=
 ∃ A m c,v = .slice A m c /\ (pre ++ (l.take i).filter P).length = m /\ wr.ownsRow W.heap.size T 3 (.slice A m c) m (qaR (pre ++ (l.take i).filter P)) /\ Below W.heap.size W wr
theorem qha (l pre : List Fil) (P : Fil -> Bool) (i : Nat) : (pre ++ (l.take i).filter P).length <= pre.length + l.length := by
 have h1 := List.length_filter_le P (l.take i)
 have h2 := List.length_take_le i l
 simp
 simp at h1
 omega
theorem qhb {W : World} {T : TypeId} {l pre : List Fil} {P : Fil -> Bool} {i : Nat} (hi : i < l.length) (hp : P l[i] = true) {n : Nat} (hn : (pre ++ (l.take i).filter P).length = n) {g c : Nat} {w2 : World}
 (ho : w2.ownsRow W.heap.size T 3 (.slice (some ⟨g,0,none⟩) (n + 1) c) (n + 1) (qaR (pre ++ (l.take i).filter P) ++ filL l[i])) (hb : Below W.heap.size W w2) :
 Gath W T l pre P (i + 1) (.slice (some ⟨g,0,none⟩) (n + 1) c) w2 := by
 have e : pre ++ (l.take (i + 1)).filter P = (pre ++ (l.take i).filter P) ++ [l[i]] := by
  rw [qeo P hi,if_pos hp,List.append_assoc]
 have hl : (pre ++ (l.take (i + 1)).filter P).length = n + 1 := by rw [e,List.length_append,hn]; rfl
 refine ⟨some ⟨g,0,none⟩,n + 1,c,rfl,hl,?_,hb⟩
 rw [e,qf7,qf8]
 exact ho
theorem qis {W : World} {T : TypeId} {l pre : List Fil} {P : Fil -> Bool} {i : Nat} (hi : i < l.length) (hp : P l[i] = false) {v : Value} {w2 : World} (h : Gath W T l pre P i v w2) : Gath W T l pre P (i + 1) v w2 := by
 have e : (l.take (i + 1)).filter P = (l.take i).filter P := by
  rw [qeo P hi,if_neg (by rw [hp]; decide),List.append_nil]
 unfold Gath
 rw [e]
 exact h
theorem qj2 {W : World} {T : TypeId} {l pre : List Fil} {P Q : Fil -> Bool} {i : Nat} (hi : l.length <= i) {v : Value} {w2 : World} (h : Gath W T l pre P i v w2) : Gath W T l (pre ++ l.filter P) Q 0 v w2 := by
 have e : (pre ++ l.filter P) ++ (l.take 0).filter Q = pre ++ (l.take i).filter P := by simp [List.take_of_length_le hi]
 unfold Gath
 rw [e]
 exact h
theorem qk4 {W : World} {T : TypeId} {l pre : List Fil} {P Q : Fil -> Bool} {i : Nat} (hi : l.length <= i) (f : Fil) {n : Nat} (hn : (pre ++ (l.take i).filter P).length = n) {g c : Nat} {w2 : World}
 (ho : w2.ownsRow W.heap.size T 3 (.slice (some ⟨g,0,none⟩) (n + 1) c) (n + 1) (qaR (pre ++ (l.take i).filter P) ++ filL f)) (hb : Below W.heap.size W w2) :
 Gath W T l (pre ++ l.filter P ++ [f]) Q 0 (.slice (some ⟨g,0,none⟩) (n + 1) c) w2 := by
 have e : (pre ++ l.filter P ++ [f]) ++ (l.take 0).filter Q = (pre ++ (l.take i).filter P) ++ [f] := by simp [List.take_of_length_le hi]
 refine ⟨some ⟨g,0,none⟩,n + 1,c,rfl,by rw [e,List.length_append,hn]; rfl,?_,hb⟩
 rw [e,qf7,qf8]
 exact ho
theorem qi1 (W : World) (T : TypeId) (l : List Fil) (P : Fil -> Bool) : Gath W T l [] P 0 (.slice none 0 0) W :=
 ⟨none,0,0,rfl,by simp,World.ownsRow_nil W W.heap.size T 3,blq⟩
theorem qdQ {W : World} {T : TypeId} {l pre : List Fil} {P : Fil -> Bool} {i : Nat} {v : Value} {w2 : World} (h : Gath W T l pre P i v w2) (n : Nat) : Gath W T l pre P i v (w2.drewN n) := by
 obtain ⟨A,m,c,e,hl,ho,hb⟩ := h
 exact ⟨A,m,c,e,hl,ho,below_drewN hb n⟩
theorem qdu (A : Option Addr) (cap : Nat) (D : Dsk) (f : Fil) (w : World) (h : RF w A cap D.l) (hn : D.l.length <= 1000000000) :
 Calls Tryz.prog 119 #[qD A cap D,filV f] w fun e w' => ∃ A' cap',e = .returned (qD A' cap' { D with l := putF D.l f }) /\ RF w' A' cap' (putF D.l f) /\ New w.heap.size A' /\ Below w.heap.size w w' := by
 obtain ⟨W,hW⟩ : ∃ W,W = ((w.alloc (.cells (diskC A cap D) 41)).alloc (.cells (filC f) 141)).alloc (.cells #[.int .i64 0, .slice none 0 0, .bool false, .int .i64 0, .bool false] 41) := ⟨_,rfl⟩
 have hbW : Below w.heap.size w W := by rw [hW]; exact ((blq.alloc nlq _).alloc (by simp) _).alloc (by simp; omega) _
 have hsW : W.heap.size = w.heap.size + 3 := by rw [hW]; simp
 have hm0 : W.heap[w.heap.size]? = some (.cells (diskC A cap D) 41) := by
  rw [hW,Below.heap_alloc _ _ _ (by simp; omega),Below.heap_alloc _ _ _ (by simp)]; exact heap_alloc_new _ _
 have hm1 : W.heap[w.heap.size + 1]? = some (.cells (filC f) 141) := by
  rw [hW,Below.heap_alloc _ _ _ (by simp)]; exact heap_alloc2_new _ _ _
 have hm2 : W.heap[w.heap.size + 2]? = some (.cells #[.int .i64 0, .slice none 0 0, .bool false, .int .i64 0, .bool false] 41) := by
  have := heap_alloc_new ((w.alloc (.cells (diskC A cap D) 41)).alloc (.cells (filC f) 141)) (.cells #[.int .i64 0, .slice none 0 0, .bool false, .int .i64 0, .bool false] 41)
  rw [World.size_alloc,World.size_alloc] at this
  rw [hW]; exact this
 have hW2 := Lib.hid hW
 have h0 := h.below hbW nlq
 obtain ⟨room,l,set,n,lost⟩ := D
 obtain ⟨fname,fb,fsafe⟩ := f
 dsimp only at *
 have hn' : (l.length : Int) <= 1000000000 := by omega
 obtain ⟨i0,hi0,hz0,hz1,hz2⟩ := info_parts qk3
 clear h
 go_enter Tryz.func119,Tryz.ntmps119
 go_wp2
 rw [<- hW]
 clear hW
 go_loopg [5,11] l.length (fun g o x wr => ∃ i : Nat,x = .int .i64 (i : Int) /\ i + g = l.length /\ Gath W 141 l [] (fun g => ltS g.name fname) i o wr)
 case atStart => exact ⟨0,rfl,by omega,qi1 _ _ _ _⟩
 case round =>
  obtain ⟨i,rfl,hi,HG⟩ := hrel
  have HG2 := Lib.hid HG
  obtain ⟨A',m,c',rfl,hm,ho,hb⟩ := HG
  have hgl := qha l [] (fun g => ltS g.name fname) i
  rw [hm] at hgl
  have hml : m <= 1000000000 := by simp at hgl; omega
  have HM := Lib.hid hm
  clear hgl hm
  have d0 : wr.cell? ⟨w.heap.size,1,none⟩ = some (.slice A l.length cap) := (hb.cell (p := ⟨w.heap.size,1,none⟩) (by show w.heap.size < _; omega)).trans (cell_of_row _ _ 1 _ _ _ hm0)
  have d1 : wr.cell? ⟨w.heap.size + 1,0,none⟩ = some (.string fname) := (hb.cell (p := ⟨w.heap.size + 1,0,none⟩) (by show w.heap.size + 1 < _; omega)).trans (cell_of_row _ _ 0 _ _ _ hm1)
  by_cases hlt : i < l.length
  · have hlt' : (i : Int) < (l.length : Int) := by omega
    have hi0' : (0 : Int) <= (i : Int) := by omega
    obtain ⟨g,off,rfl,hg,hc⟩ := h0.2 (by show 0 < l.length; omega)
    obtain ⟨c0,c1,c2⟩ := hc i hlt
    have e0 : wr.cell? ⟨g,off + i * 3,none⟩ = some (.string l[i].name) := (hb.cell (p := ⟨g,off + i * 3,none⟩) hg).trans c0
    have e1 : wr.cell? ⟨g,off + i * 3 + 1,none⟩ = some (.string l[i].b) := (hb.cell (p := ⟨g,off + i * 3 + 1,none⟩) hg).trans c1
    have e2 : wr.cell? ⟨g,off + i * 3 + 2,none⟩ = some (.int .i64 (l[i].safe : Int)) := (hb.cell (p := ⟨g,off + i * 3 + 2,none⟩) hg).trans c2
    have hb2 := Lib.hid (hb.size)
    clear c0 c1 c2 hc
    cases hq : ltS l[i].name fname with
    | true =>
      have hq' : Op.bytesLess l[i].name.toList fname.toList = true := hq
      have HY := Lib.hid (fun (g c : Nat) (w2 : World) ho hb => qhb (W := W) (T := 141) (l := l) (pre := []) (P := fun g => ltS g.name fname) (i := i) (g := g) (c := c) (w2 := w2) hlt hq HM.out ho hb)
      clear HG2
      go_wp2
      go_quiet (fail)
      have hoX : (wr.drewN nq).ownsRow W.heap.size 141 3 (.slice A' m c') m _ := ho
      have hbX := below_drewN hb nq
      replace d0 : (wr.drewN nq).cell? ⟨w.heap.size,1,none⟩ = some (.slice (some ⟨g,off,none⟩) l.length cap) := d0
      replace e0 : (wr.drewN nq).cell? ⟨g,off + i * 3,none⟩ = some (.string l[i].name) := e0
      replace e1 : (wr.drewN nq).cell? ⟨g,off + i * 3 + 1,none⟩ = some (.string l[i].b) := e1
      replace e2 : (wr.drewN nq).cell? ⟨g,off + i * 3 + 2,none⟩ = some (.int .i64 (l[i].safe : Int)) := e2
      clear ho hb d1
      generalize wr.drewN nq = X at hoX hbX d0 e0 e1 e2 ⊢
      go_wp2_with (first
       | (at_builtin; refine wpList_append_lies _ rfl (.tmp 23) (.tmp 29) 39 rfl W.heap.size 141 i0 _ 3 40 Tryz.underlying39 hi0 hz0 hz1 hz2 rfl (by omega) (.slice A' m c') m _ rfl (hoX.alloc _) ⟨X.heap.size,0,none⟩ 1 1 (filL l[i]) rfl rfl (World.news_of_block (heap_alloc_new X _)) (qeR _) (by omega) (by unfold maxLen; omega) (by omega) (by have := hbX.size; simp; omega) (X.heap.size + 1) (by simp) ?_
          intro g2 cap2 w2 ho2 hgr2 hat2 hlt2)
       | fail)
      have hb3 : Below W.heap.size W w2 := (hbX.alloc hbX.size _).grown hgr2 (by have := hbX.size; simp; omega) (fun k hk => (hoX.lt k hk).1)
      have HF := HY.out g2 cap2 w2 ho2 hb3
      clear hoX hbX d0 e0 e1 e2 ho2 hgr2 hat2 hlt2 hi0 hz0 hz1 hz2
      go_roundg (gk - 1)
      case measure => omega
      case rel => exact ⟨i + 1,by go_num,by omega,HF⟩
    | false =>
      have hq' : Op.bytesLess l[i].name.toList fname.toList = false := hq
      have HN := Lib.hid (qis hlt hq HG2.out)
      clear HG2 ho hi0 hz0 hz1 hz2
      go_wp2
      go_quiet (fail)
      go_wp2
      go_roundg (gk - 1)
      case measure => omega
      case rel => exact ⟨i + 1,by go_num,by omega,qdQ HN.out nq⟩
  · have hge : l.length <= i := by omega
    have hdec : decide ((i : Int) < (l.length : Int)) = false := decide_eq_false (by omega)
    have d2 : wr.cell? ⟨w.heap.size + 1,1,none⟩ = some (.string fb) := (hb.cell (p := ⟨w.heap.size + 1,1,none⟩) (by show w.heap.size + 1 < _; omega)).trans (cell_of_row _ _ 1 _ _ _ hm1)
    have d3 : wr.cell? ⟨w.heap.size + 1,2,none⟩ = some (.int .i64 (fsafe : Int)) := (hb.cell (p := ⟨w.heap.size + 1,2,none⟩) (by show w.heap.size + 1 < _; omega)).trans (cell_of_row _ _ 2 _ _ _ hm1)
    obtain ⟨pre,hpre⟩ : ∃ pre,pre = l.filter (fun g => ltS g.name fname) ++ (if 0 < fb.size then [⟨fname,fb,fsafe⟩] else []) := ⟨_,rfl⟩
    have hpl : pre.length <= l.length + 1 := by
     have := List.length_filter_le (fun g : Fil => ltS g.name fname) l
     rw [hpre,List.length_append]
     split <;> simp <;> omega
    have HPRE := Lib.hid hpre
    clear hpre
    go_upto_if 35 with fail
    go_cut [5] (fun o wx => Gath W 141 l pre (fun g => ltS fname g.name) 0 o wx)
    case first =>
     by_cases hz : 0 < fb.size
     · have hz' : (0 : Int) < (fb.size : Int) := by omega
       have HY := Lib.hid (fun (g c : Nat) (w2 : World) ho hb => qk4 (W := W) (T := 141) (l := l) (pre := []) (P := fun g => ltS g.name fname) (Q := fun g => ltS fname g.name) (i := i) (g := g) (c := c) (w2 := w2) hge ⟨fname,fb,fsafe⟩ HM.out ho hb)
       have hpe := HPRE.out
       rw [if_pos hz] at hpe
       have HPE := Lib.hid hpe
       clear HG2 hpe
       go_wp2_with (first
        | (at_builtin; refine wpList_append_lies _ rfl (.tmp 36) (.tmp 38) 39 rfl W.heap.size 141 i0 _ 3 40 Tryz.underlying39 hi0 hz0 hz1 hz2 rfl (by omega) (.slice A' m c') m _ rfl (ho.alloc _) ⟨wr.heap.size,0,none⟩ 1 1 (filL ⟨fname,fb,fsafe⟩) rfl rfl (World.news_of_block (heap_alloc_new wr _)) (qeR _) (by omega) (by unfold maxLen; omega) (by omega) (by have := hb.size; simp; omega) (wr.heap.size + 1) (by simp) ?_
           intro g2 cap2 w2 ho2 hgr2 hat2 hlt2)
        | fail)
       have hb3 : Below W.heap.size W w2 := (hb.alloc hb.size _).grown hgr2 (by have := hb.size; simp; omega) (fun k hk => (ho.lt k hk).1)
       have HF := HY.out g2 cap2 w2 ho2 hb3
       go_meet
       rw [HPE.out]
       exact HF
     · have hz' : ¬ ((0 : Int) < (fb.size : Int)) := by omega
       have hpe := HPRE.out
       rw [if_neg hz,List.append_nil] at hpe
       have HPE := Lib.hid hpe
       have HT := Lib.hid (qj2 (Q := fun g => ltS fname g.name) hge HG2.out)
       clear HG2 hpe
       go_wp2_with fail
       go_meet
       rw [HPE.out]
       exact HT.out
    case rest =>
     clear HG2 HM ho hb d0 d1 d2 d3 hdec hml
     have hcut2 := Lib.hid hcut
     obtain ⟨A1,m1,c1,rfl,hm1',ho1,hb1⟩ := hcut
     have d0 : wc.cell? ⟨w.heap.size,1,none⟩ = some (.slice A l.length cap) := (hb1.cell (p := ⟨w.heap.size,1,none⟩) (by show w.heap.size < _; omega)).trans (cell_of_row _ _ 1 _ _ _ hm0)
     clear hm1' ho1 hb1
     go_wp2
     clear d0
     go_loopg [5,43] l.length (fun g o x wr => ∃ i : Nat,x = .int .i64 (i : Int) /\ i + g = l.length /\ Gath W 141 l pre (fun g => ltS fname g.name) i o wr)
     case atStart => exact ⟨0,rfl,by omega,hcut2.out⟩
     case round =>
      clear hcut2
      obtain ⟨i,rfl,hi,HG⟩ := hrel
      have HG2 := Lib.hid HG
      obtain ⟨A',m,c',rfl,hm,ho,hb⟩ := HG
      have hgl := qha l pre (fun g => ltS fname g.name) i
      rw [hm] at hgl
      have hml : m <= 2000000001 := by omega
      have HM := Lib.hid hm
      clear hgl hm
      have d0 : wr.cell? ⟨w.heap.size,1,none⟩ = some (.slice A l.length cap) := (hb.cell (p := ⟨w.heap.size,1,none⟩) (by show w.heap.size < _; omega)).trans (cell_of_row _ _ 1 _ _ _ hm0)
      have d1 : wr.cell? ⟨w.heap.size + 1,0,none⟩ = some (.string fname) := (hb.cell (p := ⟨w.heap.size + 1,0,none⟩) (by show w.heap.size + 1 < _; omega)).trans (cell_of_row _ _ 0 _ _ _ hm1)
      by_cases hlt : i < l.length
      · have hlt' : (i : Int) < (l.length : Int) := by omega
        have hi0' : (0 : Int) <= (i : Int) := by omega
        obtain ⟨g,off,rfl,hg,hc⟩ := h0.2 (by show 0 < l.length; omega)
        obtain ⟨c0,c1,c2⟩ := hc i hlt
        have e0 : wr.cell? ⟨g,off + i * 3,none⟩ = some (.string l[i].name) := (hb.cell (p := ⟨g,off + i * 3,none⟩) hg).trans c0
        have e1 : wr.cell? ⟨g,off + i * 3 + 1,none⟩ = some (.string l[i].b) := (hb.cell (p := ⟨g,off + i * 3 + 1,none⟩) hg).trans c1
        have e2 : wr.cell? ⟨g,off + i * 3 + 2,none⟩ = some (.int .i64 (l[i].safe : Int)) := (hb.cell (p := ⟨g,off + i * 3 + 2,none⟩) hg).trans c2
        have hb2 := Lib.hid (hb.size)
        clear c0 c1 c2 hc
        cases hq : ltS fname l[i].name with
        | true =>
          have hq1 : Op.bytesLess l[i].name.toList fname.toList = false := qaE hq
          have hq2 : (l[i].name.toList == fname.toList) = false := by
           have := qg1 hq
           simpa using this
          have HY := Lib.hid (fun (g c : Nat) (w2 : World) ho hb => qhb (W := W) (T := 141) (l := l) (pre := pre) (P := fun g => ltS fname g.name) (i := i) (g := g) (c := c) (w2 := w2) hlt hq HM.out ho hb)
          clear HG2
          go_wp2
          go_quiet (fail)
          have hoX : (wr.drewN nq).ownsRow W.heap.size 141 3 (.slice A' m c') m _ := ho
          have hbX := below_drewN hb nq
          replace d0 : (wr.drewN nq).cell? ⟨w.heap.size,1,none⟩ = some (.slice (some ⟨g,off,none⟩) l.length cap) := d0
          replace e0 : (wr.drewN nq).cell? ⟨g,off + i * 3,none⟩ = some (.string l[i].name) := e0
          replace e1 : (wr.drewN nq).cell? ⟨g,off + i * 3 + 1,none⟩ = some (.string l[i].b) := e1
          replace e2 : (wr.drewN nq).cell? ⟨g,off + i * 3 + 2,none⟩ = some (.int .i64 (l[i].safe : Int)) := e2
          clear ho hb d1
          generalize wr.drewN nq = X at hoX hbX d0 e0 e1 e2 ⊢
          go_wp2_with (first
           | (at_builtin; refine wpList_append_lies _ rfl (.tmp 55) (.tmp 61) 39 rfl W.heap.size 141 i0 _ 3 40 Tryz.underlying39 hi0 hz0 hz1 hz2 rfl (by omega) (.slice A' m c') m _ rfl (hoX.alloc _) ⟨X.heap.size,0,none⟩ 1 1 (filL l[i]) rfl rfl (World.news_of_block (heap_alloc_new X _)) (qeR _) (by omega) (by unfold maxLen; omega) (by omega) (by have := hbX.size; simp; omega) (X.heap.size + 1) (by simp) ?_
              intro g2 cap2 w2 ho2 hgr2 hat2 hlt2)
           | fail)
          have hb3 : Below W.heap.size W w2 := (hbX.alloc hbX.size _).grown hgr2 (by have := hbX.size; simp; omega) (fun k hk => (hoX.lt k hk).1)
          have HF := HY.out g2 cap2 w2 ho2 hb3
          clear hoX hbX d0 e0 e1 e2 ho2 hgr2 hat2 hlt2 hi0 hz0 hz1 hz2
          go_roundg (gk - 1)
          case measure => omega
          case rel => exact ⟨i + 1,by go_num,by omega,HF⟩
        | false =>
          have HN := Lib.hid (qis hlt hq HG2.out)
          clear HG2 ho hi0 hz0 hz1 hz2
          cases hq1 : ltS l[i].name fname with
          | true =>
            have hq' : Op.bytesLess l[i].name.toList fname.toList = true := hq1
            clear hq hq1
            go_wp2
            go_quiet (fail)
            go_wp2
            go_roundg (gk - 1)
            case measure => omega
            case rel => exact ⟨i + 1,by go_num,by omega,qdQ HN.out nq⟩
          | false =>
            have hq' : (l[i].name.toList == fname.toList) = true := by rw [qbz hq1 hq]; simp
            have hq2 : Op.bytesLess l[i].name.toList fname.toList = false := hq1
            clear hq hq1
            go_wp2
            go_quiet (fail)
            go_wp2
            go_roundg (gk - 1)
            case measure => omega
            case rel => exact ⟨i + 1,by go_num,by omega,qdQ HN.out nq⟩
      · have hge : l.length <= i := by omega
        have hdec : decide ((i : Int) < (l.length : Int)) = false := decide_eq_false (by omega)
        have hfin : pre ++ (l.take i).filter (fun g => ltS fname g.name) = putF l ⟨fname,fb,fsafe⟩ := by
         rw [List.take_of_length_le hge,HPRE.out,List.append_assoc]; rfl
        have hlen : (putF l ⟨fname,fb,fsafe⟩).length = m := by rw [<- hfin]; exact HM.out
        rw [hfin] at ho
        have HO := Lib.hid ho
        have HL := Lib.hid hlen
        clear hfin hlen ho hi0 hz0 hz1 hz2 HG2 HM
        have m0 : wr.heap[w.heap.size]? = some (.cells #[.int .i64 room, .slice A l.length cap, .bool set, .int .i64 n, .bool lost] 41) := (hb.block _ (by omega)).trans hm0
        have m2 : wr.heap[w.heap.size + 2]? = some (.cells #[.int .i64 0, .slice none 0 0, .bool false, .int .i64 0, .bool false] 41) := (hb.block _ (by omega)).trans hm2
        have hbw := hbW.trans (hb.mono hbW.size)
        have f0 : wr.cell? ⟨w.heap.size,0,none⟩ = some (.int .i64 room) := by simp [World.cell?,m0]
        have f2 : wr.cell? ⟨w.heap.size,2,none⟩ = some (.bool set) := by simp [World.cell?,m0]
        have f3 : wr.cell? ⟨w.heap.size,3,none⟩ = some (.int .i64 n) := by simp [World.cell?,m0]
        have f4 : wr.cell? ⟨w.heap.size,4,none⟩ = some (.bool lost) := by simp [World.cell?,m0]
        have q1 : wr.frozen? ⟨w.heap.size,1,none⟩ = false := by simp [World.frozen?,m0]
        have m2' : wr.heap[w.heap.size + 1 + 1]? = some (.cells #[.int .i64 0, .slice none 0 0, .bool false, .int .i64 0, .bool false] 41) := m2
        have s0 : wr.cell? ⟨w.heap.size + 1 + 1,0,none⟩ = some (.int .i64 0) := by simp [World.cell?,m2']
        have s1 : wr.cell? ⟨w.heap.size + 1 + 1,1,none⟩ = some (.slice none 0 0) := by simp [World.cell?,m2']
        have s2 : wr.cell? ⟨w.heap.size + 1 + 1,2,none⟩ = some (.bool false) := by simp [World.cell?,m2']
        have s3 : wr.cell? ⟨w.heap.size + 1 + 1,3,none⟩ = some (.int .i64 0) := by simp [World.cell?,m2']
        have s4 : wr.cell? ⟨w.heap.size + 1 + 1,4,none⟩ = some (.bool false) := by simp [World.cell?,m2']
        have t0 : wr.frozen? ⟨w.heap.size + 1 + 1,0,none⟩ = false := by simp [World.frozen?,m2']
        have t1 : wr.frozen? ⟨w.heap.size + 1 + 1,1,none⟩ = false := by simp [World.frozen?,m2']
        have t2 : wr.frozen? ⟨w.heap.size + 1 + 1,2,none⟩ = false := by simp [World.frozen?,m2']
        have t3 : wr.frozen? ⟨w.heap.size + 1 + 1,3,none⟩ = false := by simp [World.frozen?,m2']
        have t4 : wr.frozen? ⟨w.heap.size + 1 + 1,4,none⟩ = false := by simp [World.frozen?,m2']
        go_wp2
        refine bodyPost_ret (qQ (n := w.heap.size + 1 + 1) rfl rfl (qw _ _ _ _ _ _ _ _ _ _ _ _ _ ((Below.heap_setCell _ _ _ _ (by show w.heap.size + 1 + 1 ≠ w.heap.size; omega)).trans m2')) Tryz.underlying41 rfl (by kernel_rfl)) rfl ?_
        refine ⟨A',c',by simp only [qD,HL.out],RF.of_own (n := m) (T := 141) (base := W.heap.size) ?_ HL.out,(New.of_own HO.out).mono hbW.size,?_⟩
        · repeat (refine ownsRow_setCell_below ?_ (by show _ < W.heap.size; simp only []; omega) _)
          exact HO.out
        · repeat (refine Below.setCell ?_ (by show w.heap.size <= _; simp only []; omega) _)
          exact hbw
end Go.Proofs.YtmeoooojmhhahaaGreat
namespace Go.Proofs.YtmeoooojmhhahaaGreat
open Go.RowKit
theorem qfg (D : Dsk) : D.burn.l = D.l := by
 unfold Dsk.burn; split
 · rfl
 · split <;> rfl
theorem qga (A : Option Addr) (cap : Nat) (D : Dsk) (w : World) (hn : -9223372036854775808 <= D.n /\ D.n <= 9223372036854775807) :
 Calls Tryz.prog 120 #[qD A cap D] w fun e w' => e = .returned (qD A cap D.burn) /\ Below w.heap.size w w' := by
 obtain ⟨room,l,set,n,lost⟩ := D
 dsimp only at *
 have hb : ∀ a b,Below w.heap.size w ((w.alloc a).alloc b) := fun a b => (blq.alloc nlq _).alloc (by simp) _
 obtain ⟨h1,h2⟩ := hn
 cases set with
 | false =>
   have HD : Hid (Dsk.burn ⟨room,l,false,n,lost⟩ = ⟨room,l,false,n,lost⟩) := ⟨rfl⟩
   go_enter Tryz.func120,Tryz.ntmps120
   go_wp2
   refine bodyPost_ret (qQ (n := w.heap.size + 1) rfl rfl (heap_alloc2_new _ _ _) Tryz.underlying41 rfl (by kernel_rfl)) rfl ?_
   exact ⟨by rw [HD.out],hb _ _⟩
 | true =>
   by_cases hz : n = 0
   · subst hz
     have HD : Hid (Dsk.burn ⟨room,l,true,0,lost⟩ = ⟨room,l,true,0,true⟩) := ⟨rfl⟩
     go_enter Tryz.func120,Tryz.ntmps120
     go_wp2
     refine bodyPost_ret (qQ (n := w.heap.size + 1) rfl rfl (heap_alloc2_new _ _ _) Tryz.underlying41 rfl (by kernel_rfl)) rfl ?_
     exact ⟨by rw [HD.out],hb _ _⟩
   · have hz' : (n == 0) = false := by simpa using hz
     by_cases hp : 0 < n
     · have HD : Hid (Dsk.burn ⟨room,l,true,n,lost⟩ = ⟨room,l,true,n - 1,lost⟩) := ⟨by simp [Dsk.burn,hz,hp]⟩
       clear hz
       go_enter Tryz.func120,Tryz.ntmps120
       go_wp2
       refine bodyPost_ret (qQ (n := w.heap.size + 1) rfl rfl (heap_alloc2_new _ _ _) Tryz.underlying41 rfl (by kernel_rfl)) rfl ?_
       exact ⟨by rw [HD.out],hb _ _⟩
     · have HD : Hid (Dsk.burn ⟨room,l,true,n,lost⟩ = ⟨room,l,true,n,lost⟩) := ⟨by simp [Dsk.burn,hz,hp]⟩
       clear hz
       go_enter Tryz.func120,Tryz.ntmps120
       go_wp2
       refine bodyPost_ret (qQ (n := w.heap.size + 1) rfl rfl (heap_alloc2_new _ _ _) Tryz.underlying41 rfl (by kernel_rfl)) rfl ?_
       exact ⟨by rw [HD.out],hb _ _⟩
theorem qbU (A : Option Addr) (cap : Nat) (D : Dsk) (a b : ByteArray) (w : World) :
 Calls Tryz.prog 116 #[qD A cap D, .string a, .string b] w fun e w' => e = .returned (.int .i64 ((D.may a b : Nat) : Int)) /\ Below w.heap.size w w' := by
 obtain ⟨room,l,set,n,lost⟩ := D
 have hb : ∀ a,Below w.heap.size w (w.alloc a) := fun a => (blq.alloc nlq _)
 have R1 := fun w => qff a w
 have R2 := fun w => qff b w
 cases lost with
 | true =>
   have HD : Hid (Dsk.may ⟨room,l,set,n,true⟩ a b = 5) := ⟨rfl⟩
   go_enter Tryz.func116,Tryz.ntmps116
   go_wp2
   go_ret
   exact ⟨by rw [HD.out]; rfl,hb _⟩
 | false =>
   have HD : Hid (Dsk.may ⟨room,l,set,n,false⟩ a b = if qx a && qx b then 0 else 1) := ⟨rfl⟩
   go_enter Tryz.func116,Tryz.ntmps116
   cases ha : qx a with
   | false =>
     rw [ha] at R1
     have HE : Hid (Dsk.may ⟨room,l,set,n,false⟩ a b = 1) := ⟨by rw [HD.out,ha]; rfl⟩
     clear ha
     go_wp2_with fail
     refine (R1 _).mono ?_; rintro e w' ⟨rfl,rfl⟩
     go_wp2
     go_ret
     exact ⟨by rw [HE.out]; rfl,hb _⟩
   | true =>
     rw [ha] at R1
     cases hc : qx b with
     | false =>
       rw [hc] at R2
       have HE : Hid (Dsk.may ⟨room,l,set,n,false⟩ a b = 1) := ⟨by rw [HD.out,ha,hc]; rfl⟩
       clear ha hc
       go_wp2_with fail
       refine (R1 _).mono ?_; rintro e w' ⟨rfl,rfl⟩
       go_wp2_with fail
       refine (R2 _).mono ?_; rintro e w' ⟨rfl,rfl⟩
       go_wp2
       go_ret
       exact ⟨by rw [HE.out]; rfl,hb _⟩
     | true =>
       rw [hc] at R2
       have HE : Hid (Dsk.may ⟨room,l,set,n,false⟩ a b = 0) := ⟨by rw [HD.out,ha,hc]; rfl⟩
       clear ha hc
       go_wp2_with fail
       refine (R1 _).mono ?_; rintro e w' ⟨rfl,rfl⟩
       go_wp2_with fail
       refine (R2 _).mono ?_; rintro e w' ⟨rfl,rfl⟩
       go_wp2
       go_ret
       exact ⟨by rw [HE.out]; rfl,hb _⟩
theorem qk5 (l : List Fil) (f : Fil) : (putF l f).length <= 2 * l.length + 1 := by
 have h1 := List.length_filter_le (fun g : Fil => ltS g.name f.name) l
 have h2 := List.length_filter_le (fun g : Fil => ltS f.name g.name) l
 unfold putF
 rw [List.length_append,List.length_append]
 split <;> simp <;> omega
theorem qcT (A : Option Addr) (cap : Nat) (D : Dsk) (f : Fil) (gone : ByteArray) (w : World) (h : RF w A cap D.l) (hl : D.l.length <= 400000000) (hn : -9223372036854775808 <= D.n /\ D.n <= 9223372036854775807) :
 Calls Tryz.prog 118 #[qD A cap D,filV f, .string gone] w fun e w' => ∃ A' cap',e = .returned (.tuple #[qD A' cap' (D.done f gone).1, .int .i64 (((D.done f gone).2 : Nat) : Int)]) /\ Got w A cap D.l w' A' cap' (D.done f gone).1.l := by
 obtain ⟨W,hW⟩ : ∃ W,W = ((w.alloc (.cells (diskC A cap D) 41)).alloc (.cells (filC f) 141)).alloc (.cells #[.int .i64 0, .slice none 0 0, .bool false, .int .i64 0, .bool false] 41) := ⟨_,rfl⟩
 have hbW : Below w.heap.size w W := by rw [hW]; exact ((blq.alloc nlq _).alloc (by simp) _).alloc (by simp; omega) _
 have hsW : W.heap.size = w.heap.size + 3 := by rw [hW]; simp
 have hm0 : W.heap[w.heap.size]? = some (.cells (diskC A cap D) 41) := by
  rw [hW,Below.heap_alloc _ _ _ (by simp; omega),Below.heap_alloc _ _ _ (by simp)]; exact heap_alloc_new _ _
 have hm1 : W.heap[w.heap.size + 1]? = some (.cells (filC f) 141) := by
  rw [hW,Below.heap_alloc _ _ _ (by simp)]; exact heap_alloc2_new _ _ _
 have hm2 : W.heap[w.heap.size + 1 + 1]? = some (.cells #[.int .i64 0, .slice none 0 0, .bool false, .int .i64 0, .bool false] 41) := by
  have := heap_alloc_new ((w.alloc (.cells (diskC A cap D) 41)).alloc (.cells (filC f) 141)) (.cells #[.int .i64 0, .slice none 0 0, .bool false, .int .i64 0, .bool false] 41)
  rw [World.size_alloc,World.size_alloc] at this
  rw [hW]; exact this
 have hB := qga A cap D W hn
 have hel := qfg D
 have hDone : Hid (D.done f gone = if D.burn.lost then (D.burn,5) else ({ D.burn with l := putF (putF D.burn.l ⟨gone,ByteArray.empty,0⟩) f },0)) := ⟨rfl⟩
 generalize D.done f gone = R at hDone ⊢
 generalize D.burn = E at hB hel hDone
 obtain ⟨eroom,el,eset,en,elost⟩ := E
 obtain ⟨room,l,set,n,lost⟩ := D
 obtain ⟨fname,fb,fsafe⟩ := f
 dsimp only at *
 obtain rfl := hel
 go_enter Tryz.func118,Tryz.ntmps118
 go_upto_if 11 with (first
  | (go_at_call 120
     rw [<- hW]
     refine hB.mono ?_
     rintro e w1 ⟨rfl,hb1⟩
     have m0 := (hb1.block _ (by omega)).trans hm0
     have m1 := (hb1.block _ (by omega)).trans hm1
     have m2 := (hb1.block _ (by omega)).trans hm2
     obtain ⟨⟨a0,a1,a2,a3,a4⟩,⟨b0,b1,b2,b3,b4⟩⟩ := row5 m0)
  | fail)
 obtain ⟨X,hX⟩ : ∃ X,X = ((((w1.setCell ⟨w.heap.size,0,none⟩ (.int .i64 eroom)).setCell ⟨w.heap.size,1,none⟩ (.slice A el.length cap)).setCell ⟨w.heap.size,2,none⟩ (.bool eset)).setCell ⟨w.heap.size,3,none⟩ (.int .i64 en)).setCell ⟨w.heap.size,4,none⟩ (.bool elost) := ⟨_,rfl⟩
 have x0 : X.heap[w.heap.size]? = some (.cells #[.int .i64 eroom, .slice A el.length cap, .bool eset, .int .i64 en, .bool elost] 41) := by rw [hX]; exact qw _ _ _ _ _ _ _ _ _ _ _ _ _ m0
 have xo : ∀ k,k ≠ w.heap.size -> X.heap[k]? = w1.heap[k]? := fun k hk => by
  rw [hX]; simp only [Below.heap_setCell _ _ _ _ (show k ≠ (⟨w.heap.size,0,none⟩ : Addr).block from hk),Below.heap_setCell _ _ _ _ (show k ≠ (⟨w.heap.size,1,none⟩ : Addr).block from hk),Below.heap_setCell _ _ _ _ (show k ≠ (⟨w.heap.size,2,none⟩ : Addr).block from hk),Below.heap_setCell _ _ _ _ (show k ≠ (⟨w.heap.size,3,none⟩ : Addr).block from hk),Below.heap_setCell _ _ _ _ (show k ≠ (⟨w.heap.size,4,none⟩ : Addr).block from hk)]
 have x1 := (xo (w.heap.size + 1) (by omega)).trans m1
 have x2 := (xo (w.heap.size + 1 + 1) (by omega)).trans m2
 have hbX : Below w.heap.size w X := by
  rw [hX]
  repeat (refine Below.setCell ?_ (by show w.heap.size <= w.heap.size; exact nlq) _)
  exact hbW.trans (hb1.mono hbW.size)
 have hxs : w.heap.size + 3 <= X.heap.size := by rw [hX]; simp only [World.size_setCell]; have := hb1.size; omega
 rw [<- hX]
 have hR := h.below hbX nlq
 clear hX xo m0 m1 m2 a0 a1 a2 a3 a4 b0 b1 b2 b3 b4 hb1 hm0 hm1 hm2 hW hbW hsW hB
 obtain ⟨⟨a0,a1,a2,a3,a4⟩,⟨b0,b1,b2,b3,b4⟩⟩ := row5 x0
 obtain ⟨⟨c0,c1,c2,c3,c4⟩,⟨d0,d1,d2,d3,d4⟩⟩ := row5 x2
 obtain ⟨⟨p0,p1,p2⟩,⟨q0,q1,q2⟩⟩ := row3 x1
 cases elost with
 | true =>
   rw [if_pos rfl] at hDone
   have HX2 := Lib.hid x2
   clear x0 x1 x2
   go_wp2
   refine bodyPost_ret (qa (n := w.heap.size + 1 + 1) rfl rfl (qw _ _ _ _ _ _ _ _ _ _ _ _ _ HX2.out) Tryz.underlying41 rfl (by kernel_rfl)) rfl ?_
   rw [hDone.out]
   have hbF : ∀ u0 u1 u2 u3 u4,Below w.heap.size w (((((X.setCell ⟨w.heap.size + 1 + 1,0,none⟩ u0).setCell ⟨w.heap.size + 1 + 1,1,none⟩ u1).setCell ⟨w.heap.size + 1 + 1,2,none⟩ u2).setCell ⟨w.heap.size + 1 + 1,3,none⟩ u3).setCell ⟨w.heap.size + 1 + 1,4,none⟩ u4) := fun u0 u1 u2 u3 u4 => by
    repeat (refine Below.setCell ?_ (by show w.heap.size <= w.heap.size + 1 + 1; omega) _)
    exact hbX
   exact ⟨A,cap,rfl,Got.same (hbF _ _ _ _ _)⟩
 | false =>
   rw [if_neg (by decide)] at hDone
   have P1 := qdu A cap ⟨eroom,el,eset,en,false⟩ ⟨gone,ByteArray.empty,0⟩
   have hlp : (putF el ⟨gone,ByteArray.empty,0⟩).length <= 1000000000 := Nat.le_trans (qk5 _ _) (by simp; omega)
   have P2 := fun (A' : Option Addr) (cap' : Nat) => qdu A' cap' ⟨eroom,putF el ⟨gone,ByteArray.empty,0⟩,eset,en,false⟩ ⟨fname,fb,fsafe⟩
   dsimp only at P1 P2
   generalize putF el ⟨gone,ByteArray.empty,0⟩ = el2 at *
   go_wp2
   go_region_with (first
    | (go_at_call_of 119 (Value.slice A el.length cap)
       refine (P1 _ (h.below hbX.drew nlq) (by omega)).mono ?_
       rintro e w2 ⟨A2,cap2,rfl,hr2,hn2,hb2⟩
       have y1 := (hb2.block _ (by show w.heap.size + 1 < X.heap.size; omega)).trans x1
       have y2 := (hb2.block _ (by show w.heap.size + 1 + 1 < X.heap.size; omega)).trans x2
       have hbY : Below w.heap.size w w2 := hbX.drew.trans (hb2.mono (by show w.heap.size <= X.heap.size; omega))
       have hys : w.heap.size + 3 <= w2.heap.size := Nat.le_trans hxs hb2.size
       obtain ⟨⟨r0,r1,r2⟩,_⟩ := row3 y1)
    | (go_at_call 119
       refine (P2 A2 cap2 _ hr2 hlp).mono ?_
       rintro e w3 ⟨A3,cap3,rfl,hr3,hn3,hb3⟩
       have z2 := (hb3.block _ (by omega)).trans y2
       have hbZ : Below w.heap.size w w3 := hbY.trans (hb3.mono (by omega))
       have hzs : w.heap.size + 3 <= w3.heap.size := Nat.le_trans hys hb3.size
       obtain ⟨⟨k0,k1,k2,k3,k4⟩,⟨l0,l1,l2,l3,l4⟩⟩ := row5 z2))
   all_goals
    go_wp2
    refine bodyPost_ret (qa (n := w.heap.size + 1 + 1) rfl rfl (qw _ _ _ _ _ _ _ _ _ _ _ _ _ z2) Tryz.underlying41 rfl (by kernel_rfl)) rfl ?_
    rw [hDone.out]
    refine ⟨A3,cap3,rfl,?_, .inr ⟨hr3.keepN hn3 (by simp) (fun g h1 h2 => ?_),hn3.mono (Nat.le_trans (by omega) hys)⟩⟩
    · repeat (refine Below.setCell ?_ (by show w.heap.size <= w.heap.size + 1 + 1; omega) _)
      exact hbZ
    · repeat (refine (Below.heap_setCell _ _ _ _ (by show g ≠ w.heap.size + 1 + 1; omega)).trans ?_)
      rfl
end Go.Proofs.YtmeoooojmhhahaaGreat
namespace Go.Proofs.YtmeoooojmhhahaaGreat
open Go.RowKit
abbrev qas : Array Value := #[.int .i64 0, .slice none 0 0, .bool false, .int .i64 0, .bool false]
theorem qde (w : World) (C : Array Value) (T : TypeId) :
 Below w.heap.size w ((w.alloc (.cells C T)).alloc (.cells qas T)) /\ ((w.alloc (.cells C T)).alloc (.cells qas T)).heap[w.heap.size]? = some (.cells C T) ∧
 ((w.alloc (.cells C T)).alloc (.cells qas T)).heap[w.heap.size + 1]? = some (.cells qas T) /\ ((w.alloc (.cells C T)).alloc (.cells qas T)).heap.size = w.heap.size + 2 :=
 ⟨(blq.alloc nlq _).alloc (by simp) _,heap_alloc2_old _ _ _,heap_alloc2_new _ _ _,by simp⟩
theorem qk {B : Nat} {w w1 : World} {n : Nat} (h : Below B w w1) (hn : B <= n) (a b c d e : Value) :
 Below B w (((((w1.setCell ⟨n,0,none⟩ a).setCell ⟨n,1,none⟩ b).setCell ⟨n,2,none⟩ c).setCell ⟨n,3,none⟩ d).setCell ⟨n,4,none⟩ e) := by
 repeat (refine Below.setCell ?_ (by show B <= n; exact hn) _)
 exact h
theorem qf (w1 : World) {n k : Nat} (hk : k ≠ n) (a b c d e : Value) :
 (((((w1.setCell ⟨n,0,none⟩ a).setCell ⟨n,1,none⟩ b).setCell ⟨n,2,none⟩ c).setCell ⟨n,3,none⟩ d).setCell ⟨n,4,none⟩ e).heap[k]? = w1.heap[k]? := by
 repeat (refine (Below.heap_setCell _ _ _ _ (by show k ≠ n; exact hk)).trans ?_)
 rfl
theorem Got.wrap5 {w w1 w2 : World} {A A' : Option Addr} {cap cap' n : Nat} {l l' : List Fil} (hb : Below w.heap.size w w1) (hg : Got w1 A cap l w2 A' cap' l') (hn : w.heap.size <= n) (hn2 : n < w1.heap.size) (a b c d e : Value) :
 Got w A cap l (((((w2.setCell ⟨n,0,none⟩ a).setCell ⟨n,1,none⟩ b).setCell ⟨n,2,none⟩ c).setCell ⟨n,3,none⟩ d).setCell ⟨n,4,none⟩ e) A' cap' l' :=
 Got.wrap hb hg (by
  repeat (refine Below.setCell ?_ (by show w.heap.size <= n; exact hn) _)
  exact blq) (fun g h1 h2 => qf w2 (by omega) a b c d e)
theorem qdR (A : Option Addr) (cap : Nat) (D : Dsk) (name : ByteArray) (w : World) (h : RF w A cap D.l) (hl : D.l.length <= 400000000) (hn : -9223372036854775808 <= D.n /\ D.n <= 9223372036854775807) :
 Calls Tryz.prog 64 #[qD A cap D, .string name] w fun e w' => ∃ A' cap',e = .returned (.tuple #[qD A' cap' (D.sync name).1, .int .i64 (((D.sync name).2 : Nat) : Int)]) /\ Got w A cap D.l w' A' cap' (D.sync name).1.l := by
 obtain ⟨hbW,hm0,hm1,hsW⟩ := qde w (diskC A cap D) 41
 have hM := qbU A cap D name name
 have hDef : Hid (D.sync name = if D.may name name ≠ 0 then (D,D.may name name) else if (getF D.l name).2 = false then (D,6) else D.done { (getF D.l name).1 with safe := (getF D.l name).1.b.size } name) := ⟨rfl⟩
 have hG := fun w h => qbT A cap D name w h (by omega)
 have hDn := fun f w h => qcT A cap D f name w h hl hn
 generalize hW : (w.alloc (.cells (diskC A cap D) 41)).alloc (.cells qas 41) = W at hbW hm0 hm1 hsW
 have HW := Lib.hid hW
 clear hW
 generalize D.may name name = m at hM hDef
 generalize D.sync name = R at hDef ⊢
 generalize getF D.l name = gf at hDef hG
 obtain ⟨⟨gname,gb,gsafe⟩,ok⟩ := gf
 have hDn := fun w h => hDn ⟨gname,gb,gb.size⟩ w h
 dsimp only at hDef hG hDn
 generalize D.done ⟨gname,gb,gb.size⟩ name = dn at hDef hDn
 obtain ⟨room,l,set,n,lost⟩ := D
 obtain ⟨⟨eroom,el,eset,en,elost⟩,ecode⟩ := dn
 dsimp only at *
 go_enter Tryz.func64,Tryz.ntmps64
 go_wp2_with fail
 rw [HW.out]
 refine (hM _).mono ?_
 rintro e w1 ⟨rfl,hb1⟩
 have m0 := (hb1.block _ (by omega)).trans hm0
 have m1 := (hb1.block _ (by omega)).trans hm1
 have hbw1 : Below w.heap.size w w1 := hbW.trans (hb1.mono hbW.size)
 have hs1 : w.heap.size + 2 <= w1.heap.size := Nat.le_trans (Nat.le_of_eq hsW.symm) hb1.size
 clear hb1 hM hbW hm0 hm1 hsW HW
 obtain ⟨⟨a0,a1,a2,a3,a4⟩,_⟩ := row5 m0
 by_cases hmz : m = 0
 · subst hmz
   rw [if_neg (by simp)] at hDef
   go_wp2_with fail
   refine (hG _ (h.below hbw1 nlq)).mono ?_
   rintro e w2 ⟨rfl,hb2⟩
   have k0 := (hb2.block _ (by omega)).trans m0
   have k1 := (hb2.block _ (by omega)).trans m1
   have hbw2 : Below w.heap.size w w2 := hbw1.trans (hb2.mono hbw1.size)
   have hs2 : w.heap.size + 2 <= w2.heap.size := Nat.le_trans hs1 hb2.size
   clear hb2 m0 m1 a0 a1 a2 a3 a4 hbw1 hs1 hG
   obtain ⟨⟨a0,a1,a2,a3,a4⟩,_⟩ := row5 k0
   obtain ⟨⟨c0,c1,c2,c3,c4⟩,⟨d0,d1,d2,d3,d4⟩⟩ := row5 k1
   have K1 := Lib.hid k1
   have hz0 : w.heap.size < w2.heap.size := by omega
   have hz1 : w.heap.size + 1 < w2.heap.size := by omega
   cases ok with
   | false =>
     rw [if_pos rfl] at hDef
     clear k0 k1
     go_wp2
     refine bodyPost_ret (qa (n := w.heap.size + 1) rfl rfl ((Below.heap_alloc _ _ (w.heap.size + 1) (by simp; omega)).trans (qw _ _ _ _ _ _ _ _ _ _ _ _ _ K1.out)) Tryz.underlying41 rfl (by kernel_rfl)) rfl ?_
     rw [hDef.out]
     exact ⟨A,cap,rfl,Got.same ((qk hbw2 (by omega) _ _ _ _ _).alloc (by simp; omega) _)⟩
   | true =>
     rw [if_neg (by decide)] at hDef
     have hx : Below w.heap.size w (w2.alloc (.cells #[.string gname, .string gb, .int .i64 (gb.size : Int)] 141)) := hbw2.alloc hbw2.size _
     have x1 := (Below.heap_alloc w2 (.cells #[.string gname, .string gb, .int .i64 (gb.size : Int)] 141) (w.heap.size + 1) (by omega)).trans k1
     have hx2 : w.heap.size + 2 <= (w2.alloc (.cells #[.string gname, .string gb, .int .i64 (gb.size : Int)] 141)).heap.size := by simp; omega
     have hQ := hDn _ (h.below hx nlq)
     clear k0 k1 hDn
     go_wp2_with fail
     refine hQ.mono ?_
     rintro e w3 ⟨A3,cap3,rfl,hg3⟩
     have z1 := (hg3.1.block _ (by omega)).trans x1
     obtain ⟨⟨c0,c1,c2,c3,c4⟩,⟨d0,d1,d2,d3,d4⟩⟩ := row5 z1
     clear x1 hQ
     have Z1 := Lib.hid z1
     clear z1
     go_wp2
     refine bodyPost_ret (qa (n := w.heap.size + 1) rfl rfl (qw _ _ _ _ _ _ _ _ _ _ _ _ _ Z1.out) Tryz.underlying41 rfl (by kernel_rfl)) rfl ?_
     rw [hDef.out]
     exact ⟨A3,cap3,rfl,Got.wrap5 hx hg3 (by omega) (by omega) _ _ _ _ _⟩
 · rw [if_pos hmz] at hDef
   have hmz' : ((m : Int) != 0) = true := by simp; omega
   obtain ⟨⟨c0,c1,c2,c3,c4⟩,⟨d0,d1,d2,d3,d4⟩⟩ := row5 m1
   have M1 := Lib.hid m1
   clear m0 m1 hmz
   go_wp2
   refine bodyPost_ret (qa (n := w.heap.size + 1) rfl rfl (qw _ _ _ _ _ _ _ _ _ _ _ _ _ M1.out) Tryz.underlying41 rfl (by kernel_rfl)) rfl ?_
   rw [hDef.out]
   exact ⟨A,cap,rfl,Got.same (qk hbw1 (by omega) _ _ _ _ _)⟩
theorem qc3 (A : Option Addr) (cap : Nat) (D : Dsk) (name : ByteArray) (w : World) (h : RF w A cap D.l) (hl : D.l.length <= 400000000) (hn : -9223372036854775808 <= D.n /\ D.n <= 9223372036854775807) :
 Calls Tryz.prog 60 #[qD A cap D, .string name] w fun e w' => ∃ A' cap',e = .returned (.tuple #[qD A' cap' (D.remove name).1, .int .i64 (((D.remove name).2 : Nat) : Int)]) /\ Got w A cap D.l w' A' cap' (D.remove name).1.l := by
 obtain ⟨hbW,hm0,hm1,hsW⟩ := qde w (diskC A cap D) 41
 have hM := qbU A cap D name name
 have hDef : Hid (D.remove name = if D.may name name ≠ 0 then (D,D.may name name) else if (getF D.l name).2 = false then (D,6) else D.done ⟨name,ByteArray.empty,0⟩ name) := ⟨rfl⟩
 have hG := fun w h => qbT A cap D name w h (by omega)
 have hDn := fun f w h => qcT A cap D f name w h hl hn
 generalize hW : (w.alloc (.cells (diskC A cap D) 41)).alloc (.cells qas 41) = W at hbW hm0 hm1 hsW
 have HW := Lib.hid hW
 clear hW
 generalize D.may name name = m at hM hDef
 generalize D.remove name = R at hDef ⊢
 generalize getF D.l name = gf at hDef hG
 obtain ⟨⟨gname,gb,gsafe⟩,ok⟩ := gf
 have hDn := fun w h => hDn ⟨name,ByteArray.empty,0⟩ w h
 dsimp only at hDef hG hDn
 generalize D.done ⟨name,ByteArray.empty,0⟩ name = dn at hDef hDn
 obtain ⟨room,l,set,n,lost⟩ := D
 obtain ⟨⟨eroom,el,eset,en,elost⟩,ecode⟩ := dn
 dsimp only at *
 go_enter Tryz.func60,Tryz.ntmps60
 go_wp2_with fail
 rw [HW.out]
 refine (hM _).mono ?_
 rintro e w1 ⟨rfl,hb1⟩
 have m0 := (hb1.block _ (by omega)).trans hm0
 have m1 := (hb1.block _ (by omega)).trans hm1
 have hbw1 : Below w.heap.size w w1 := hbW.trans (hb1.mono hbW.size)
 have hs1 : w.heap.size + 2 <= w1.heap.size := Nat.le_trans (Nat.le_of_eq hsW.symm) hb1.size
 clear hb1 hM hbW hm0 hm1 hsW HW
 obtain ⟨⟨a0,a1,a2,a3,a4⟩,_⟩ := row5 m0
 by_cases hmz : m = 0
 · subst hmz
   rw [if_neg (by simp)] at hDef
   go_wp2_with fail
   refine (hG _ (h.below hbw1 nlq)).mono ?_
   rintro e w2 ⟨rfl,hb2⟩
   have k0 := (hb2.block _ (by omega)).trans m0
   have k1 := (hb2.block _ (by omega)).trans m1
   have hbw2 : Below w.heap.size w w2 := hbw1.trans (hb2.mono hbw1.size)
   have hs2 : w.heap.size + 2 <= w2.heap.size := Nat.le_trans hs1 hb2.size
   clear hb2 m0 m1 a0 a1 a2 a3 a4 hbw1 hs1 hG
   obtain ⟨⟨a0,a1,a2,a3,a4⟩,_⟩ := row5 k0
   obtain ⟨⟨c0,c1,c2,c3,c4⟩,⟨d0,d1,d2,d3,d4⟩⟩ := row5 k1
   have K1 := Lib.hid k1
   have hz0 : w.heap.size < w2.heap.size := by omega
   have hz1 : w.heap.size + 1 < w2.heap.size := by omega
   cases ok with
   | false =>
     rw [if_pos rfl] at hDef
     clear k0 k1
     go_wp2
     refine bodyPost_ret (qa (n := w.heap.size + 1) rfl rfl ((Below.heap_alloc _ _ (w.heap.size + 1) (by simp; omega)).trans (qw _ _ _ _ _ _ _ _ _ _ _ _ _ K1.out)) Tryz.underlying41 rfl (by kernel_rfl)) rfl ?_
     rw [hDef.out]
     exact ⟨A,cap,rfl,Got.same ((qk hbw2 (by omega) _ _ _ _ _).alloc (by simp; omega) _)⟩
   | true =>
     rw [if_neg (by decide)] at hDef
     have hx : Below w.heap.size w (w2.alloc (.cells #[.string gname, .string gb, .int .i64 (gsafe : Int)] 141)) := hbw2.alloc hbw2.size _
     have x1 := (Below.heap_alloc w2 (.cells #[.string gname, .string gb, .int .i64 (gsafe : Int)] 141) (w.heap.size + 1) (by omega)).trans k1
     have hx2 : w.heap.size + 2 <= (w2.alloc (.cells #[.string gname, .string gb, .int .i64 (gsafe : Int)] 141)).heap.size := by simp; omega
     have hQ := hDn _ (h.below hx nlq)
     clear k0 k1 hDn
     go_wp2_with fail
     refine hQ.mono ?_
     rintro e w3 ⟨A3,cap3,rfl,hg3⟩
     have z1 := (hg3.1.block _ (by omega)).trans x1
     obtain ⟨⟨c0,c1,c2,c3,c4⟩,⟨d0,d1,d2,d3,d4⟩⟩ := row5 z1
     clear x1 hQ
     have Z1 := Lib.hid z1
     clear z1
     go_wp2
     refine bodyPost_ret (qa (n := w.heap.size + 1) rfl rfl (qw _ _ _ _ _ _ _ _ _ _ _ _ _ Z1.out) Tryz.underlying41 rfl (by kernel_rfl)) rfl ?_
     rw [hDef.out]
     exact ⟨A3,cap3,rfl,Got.wrap5 hx hg3 (by omega) (by omega) _ _ _ _ _⟩
 · rw [if_pos hmz] at hDef
   have hmz' : ((m : Int) != 0) = true := by simp; omega
   obtain ⟨⟨c0,c1,c2,c3,c4⟩,⟨d0,d1,d2,d3,d4⟩⟩ := row5 m1
   have M1 := Lib.hid m1
   clear m0 m1 hmz
   go_wp2
   refine bodyPost_ret (qa (n := w.heap.size + 1) rfl rfl (qw _ _ _ _ _ _ _ _ _ _ _ _ _ M1.out) Tryz.underlying41 rfl (by kernel_rfl)) rfl ?_
   rw [hDef.out]
   exact ⟨A,cap,rfl,Got.same (qk hbw1 (by omega) _ _ _ _ _)⟩
theorem qc4 (A : Option Addr) (cap : Nat) (D : Dsk) (name to_ : ByteArray) (w : World) (h : RF w A cap D.l) (hl : D.l.length <= 400000000) (hn : -9223372036854775808 <= D.n /\ D.n <= 9223372036854775807) :
 Calls Tryz.prog 65 #[qD A cap D, .string name, .string to_] w fun e w' => ∃ A' cap',e = .returned (.tuple #[qD A' cap' (D.rename name to_).1, .int .i64 (((D.rename name to_).2 : Nat) : Int)]) /\ Got w A cap D.l w' A' cap' (D.rename name to_).1.l := by
 obtain ⟨hbW,hm0,hm1,hsW⟩ := qde w (diskC A cap D) 41
 have hM := qbU A cap D name to_
 have hDef : Hid (D.rename name to_ = if D.may name to_ ≠ 0 then (D,D.may name to_) else if (getF D.l name).2 = false then (D,6) else if (getF D.l name).1.safe < (getF D.l name).1.b.size then (D,7) else D.done { (getF D.l name).1 with name := to_ } name) := ⟨rfl⟩
 have hG := fun w h => qbT A cap D name w h (by omega)
 have hDn := fun f w h => qcT A cap D f name w h hl hn
 generalize hW : (w.alloc (.cells (diskC A cap D) 41)).alloc (.cells qas 41) = W at hbW hm0 hm1 hsW
 have HW := Lib.hid hW
 clear hW
 generalize D.may name to_ = m at hM hDef
 generalize D.rename name to_ = R at hDef ⊢
 generalize getF D.l name = gf at hDef hG
 obtain ⟨⟨gname,gb,gsafe⟩,ok⟩ := gf
 have hDn := fun w h => hDn ⟨to_,gb,gsafe⟩ w h
 dsimp only at hDef hG hDn
 generalize D.done ⟨to_,gb,gsafe⟩ name = dn at hDef hDn
 obtain ⟨room,l,set,n,lost⟩ := D
 obtain ⟨⟨eroom,el,eset,en,elost⟩,ecode⟩ := dn
 dsimp only at *
 go_enter Tryz.func65,Tryz.ntmps65
 go_wp2_with fail
 rw [HW.out]
 refine (hM _).mono ?_
 rintro e w1 ⟨rfl,hb1⟩
 have m0 := (hb1.block _ (by omega)).trans hm0
 have m1 := (hb1.block _ (by omega)).trans hm1
 have hbw1 : Below w.heap.size w w1 := hbW.trans (hb1.mono hbW.size)
 have hs1 : w.heap.size + 2 <= w1.heap.size := Nat.le_trans (Nat.le_of_eq hsW.symm) hb1.size
 clear hb1 hM hbW hm0 hm1 hsW HW
 obtain ⟨⟨a0,a1,a2,a3,a4⟩,_⟩ := row5 m0
 by_cases hmz : m = 0
 · subst hmz
   rw [if_neg (by simp)] at hDef
   go_wp2_with fail
   refine (hG _ (h.below hbw1 nlq)).mono ?_
   rintro e w2 ⟨rfl,hb2⟩
   have k0 := (hb2.block _ (by omega)).trans m0
   have k1 := (hb2.block _ (by omega)).trans m1
   have hbw2 : Below w.heap.size w w2 := hbw1.trans (hb2.mono hbw1.size)
   have hs2 : w.heap.size + 2 <= w2.heap.size := Nat.le_trans hs1 hb2.size
   clear hb2 m0 m1 a0 a1 a2 a3 a4 hbw1 hs1 hG
   obtain ⟨⟨a0,a1,a2,a3,a4⟩,_⟩ := row5 k0
   obtain ⟨⟨c0,c1,c2,c3,c4⟩,⟨d0,d1,d2,d3,d4⟩⟩ := row5 k1
   have K1 := Lib.hid k1
   have hz0 : w.heap.size < w2.heap.size := by omega
   have hz1 : w.heap.size + 1 < w2.heap.size := by omega
   cases ok with
   | false =>
     rw [if_pos rfl] at hDef
     clear k0 k1
     go_wp2
     refine bodyPost_ret (qa (n := w.heap.size + 1) rfl rfl ((Below.heap_alloc _ _ (w.heap.size + 1) (by simp; omega)).trans (qw _ _ _ _ _ _ _ _ _ _ _ _ _ K1.out)) Tryz.underlying41 rfl (by kernel_rfl)) rfl ?_
     rw [hDef.out]
     exact ⟨A,cap,rfl,Got.same ((qk hbw2 (by omega) _ _ _ _ _).alloc (by simp; omega) _)⟩
   | true =>
     rw [if_neg (by decide)] at hDef
     by_cases hby : gsafe < gb.size
     · have hby' : (gsafe : Int) < (gb.size : Int) := by omega
       rw [if_pos hby] at hDef
       clear k0 k1 hDn hby
       go_wp2
       refine bodyPost_ret (qa (n := w.heap.size + 1) rfl rfl ((Below.heap_alloc _ _ (w.heap.size + 1) (by simp; omega)).trans (qw _ _ _ _ _ _ _ _ _ _ _ _ _ K1.out)) Tryz.underlying41 rfl (by kernel_rfl)) rfl ?_
       rw [hDef.out]
       exact ⟨A,cap,rfl,Got.same ((qk hbw2 (by omega) _ _ _ _ _).alloc (by simp; omega) _)⟩
     · have hby' : ¬ ((gsafe : Int) < (gb.size : Int)) := by omega
       rw [if_neg hby] at hDef
       clear hby
       have hx : Below w.heap.size w (w2.alloc (.cells #[.string to_, .string gb, .int .i64 (gsafe : Int)] 141)) := hbw2.alloc hbw2.size _
       have x1 := (Below.heap_alloc w2 (.cells #[.string to_, .string gb, .int .i64 (gsafe : Int)] 141) (w.heap.size + 1) (by omega)).trans k1
       have hx2 : w.heap.size + 2 <= (w2.alloc (.cells #[.string to_, .string gb, .int .i64 (gsafe : Int)] 141)).heap.size := by simp; omega
       have hQ := hDn _ (h.below hx nlq)
       clear k0 k1 hDn
       go_wp2_with fail
       refine hQ.mono ?_
       rintro e w3 ⟨A3,cap3,rfl,hg3⟩
       have z1 := (hg3.1.block _ (by omega)).trans x1
       obtain ⟨⟨c0,c1,c2,c3,c4⟩,⟨d0,d1,d2,d3,d4⟩⟩ := row5 z1
       clear x1 hQ
       have Z1 := Lib.hid z1
       clear z1
       go_wp2
       refine bodyPost_ret (qa (n := w.heap.size + 1) rfl rfl (qw _ _ _ _ _ _ _ _ _ _ _ _ _ Z1.out) Tryz.underlying41 rfl (by kernel_rfl)) rfl ?_
       rw [hDef.out]
       exact ⟨A3,cap3,rfl,Got.wrap5 hx hg3 (by omega) (by omega) _ _ _ _ _⟩
 · rw [if_pos hmz] at hDef
   have hmz' : ((m : Int) != 0) = true := by simp; omega
   obtain ⟨⟨c0,c1,c2,c3,c4⟩,⟨d0,d1,d2,d3,d4⟩⟩ := row5 m1
   have M1 := Lib.hid m1
   clear m0 m1 hmz
   go_wp2
   refine bodyPost_ret (qa (n := w.heap.size + 1) rfl rfl (qw _ _ _ _ _ _ _ _ _ _ _ _ _ M1.out) Tryz.underlying41 rfl (by kernel_rfl)) rfl ?_
   rw [hDef.out]
   exact ⟨A,cap,rfl,Got.same (qk hbw1 (by omega) _ _ _ _ _)⟩
theorem qhc (A : Option Addr) (cap : Nat) (D : Dsk) (name : ByteArray) (z : Int) (w : World) (h : RF w A cap D.l) (hl : D.l.length <= 400000000) (hn : -9223372036854775808 <= D.n /\ D.n <= 9223372036854775807) :
 Calls Tryz.prog 67 #[qD A cap D, .string name, .int .i64 z] w fun e w' => ∃ A' cap',e = .returned (.tuple #[qD A' cap' (D.cut name z).1, .int .i64 (((D.cut name z).2 : Nat) : Int)]) /\ Got w A cap D.l w' A' cap' (D.cut name z).1.l := by
 obtain ⟨hbW,hm0,hm1,hsW⟩ := qde w (diskC A cap D) 41
 have hM := qbU A cap D name name
 have hDef : Hid (D.cut name z = if D.may name name ≠ 0 then (D,D.may name name) else if (getF D.l name).2 = false then (D,6) else if z < 0 \/ ((getF D.l name).1.b.size : Int) < z then (D,1) else D.done { (getF D.l name).1 with b := (getF D.l name).1.b.extract 0 z.toNat,safe := z.toNat } name) := ⟨rfl⟩
 have hG := fun w h => qbT A cap D name w h (by omega)
 have hDn := fun f w h => qcT A cap D f name w h hl hn
 generalize hW : (w.alloc (.cells (diskC A cap D) 41)).alloc (.cells qas 41) = W at hbW hm0 hm1 hsW
 have HW := Lib.hid hW
 clear hW
 generalize D.may name name = m at hM hDef
 generalize D.cut name z = R at hDef ⊢
 generalize getF D.l name = gf at hDef hG
 obtain ⟨⟨gname,gb,gsafe⟩,ok⟩ := gf
 have hDn := fun w h => hDn ⟨gname,gb.extract 0 z.toNat,z.toNat⟩ w h
 dsimp only at hDef hG hDn
 generalize D.done ⟨gname,gb.extract 0 z.toNat,z.toNat⟩ name = dn at hDef hDn
 obtain ⟨room,l,set,n,lost⟩ := D
 obtain ⟨⟨eroom,el,eset,en,elost⟩,ecode⟩ := dn
 dsimp only at *
 go_enter Tryz.func67,Tryz.ntmps67
 go_wp2_with fail
 rw [HW.out]
 refine (hM _).mono ?_
 rintro e w1 ⟨rfl,hb1⟩
 have m0 := (hb1.block _ (by omega)).trans hm0
 have m1 := (hb1.block _ (by omega)).trans hm1
 have hbw1 : Below w.heap.size w w1 := hbW.trans (hb1.mono hbW.size)
 have hs1 : w.heap.size + 2 <= w1.heap.size := Nat.le_trans (Nat.le_of_eq hsW.symm) hb1.size
 clear hb1 hM hbW hm0 hm1 hsW HW
 obtain ⟨⟨a0,a1,a2,a3,a4⟩,_⟩ := row5 m0
 by_cases hmz : m = 0
 · subst hmz
   rw [if_neg (by simp)] at hDef
   go_wp2_with fail
   refine (hG _ (h.below hbw1 nlq)).mono ?_
   rintro e w2 ⟨rfl,hb2⟩
   have k0 := (hb2.block _ (by omega)).trans m0
   have k1 := (hb2.block _ (by omega)).trans m1
   have hbw2 : Below w.heap.size w w2 := hbw1.trans (hb2.mono hbw1.size)
   have hs2 : w.heap.size + 2 <= w2.heap.size := Nat.le_trans hs1 hb2.size
   clear hb2 m0 m1 a0 a1 a2 a3 a4 hbw1 hs1 hG
   obtain ⟨⟨a0,a1,a2,a3,a4⟩,_⟩ := row5 k0
   obtain ⟨⟨c0,c1,c2,c3,c4⟩,⟨d0,d1,d2,d3,d4⟩⟩ := row5 k1
   have K1 := Lib.hid k1
   have hz0 : w.heap.size < w2.heap.size := by omega
   have hz1 : w.heap.size + 1 < w2.heap.size := by omega
   cases ok with
   | false =>
     rw [if_pos rfl] at hDef
     clear k0 k1
     go_wp2
     refine bodyPost_ret (qa (n := w.heap.size + 1) rfl rfl ((Below.heap_alloc _ _ (w.heap.size + 1) (by simp; omega)).trans (qw _ _ _ _ _ _ _ _ _ _ _ _ _ K1.out)) Tryz.underlying41 rfl (by kernel_rfl)) rfl ?_
     rw [hDef.out]
     exact ⟨A,cap,rfl,Got.same ((qk hbw2 (by omega) _ _ _ _ _).alloc (by simp; omega) _)⟩
   | true =>
     rw [if_neg (by decide)] at hDef
     by_cases hby : z < 0 \/ (gb.size : Int) < z
     · rw [if_pos hby] at hDef
       clear k0 k1 hDn
       by_cases hz0 : z < 0
       all_goals
        first | have hzz : (gb.size : Int) < z := (hby.resolve_left hz0) | skip
        clear hby
        go_wp2
        refine bodyPost_ret (qa (n := w.heap.size + 1) rfl rfl ((Below.heap_alloc _ _ (w.heap.size + 1) (by simp; omega)).trans (qw _ _ _ _ _ _ _ _ _ _ _ _ _ K1.out)) Tryz.underlying41 rfl (by kernel_rfl)) rfl ?_
        rw [hDef.out]
        exact ⟨A,cap,rfl,Got.same ((qk hbw2 (by omega) _ _ _ _ _).alloc (by simp; omega) _)⟩
     · rw [if_neg hby] at hDef
       obtain ⟨z,rfl⟩ := Int.eq_ofNat_of_zero_le (show 0 <= z by omega)
       have hzz : ¬ ((gb.size : Int) < (z : Int)) := by omega
       have hzn : z <= gb.size := by omega
       rw [Int.toNat_natCast] at hDn
       clear hby
       have hx : Below w.heap.size w (w2.alloc (.cells #[.string gname, .string (gb.extract 0 z), .int .i64 (z : Int)] 141)) := hbw2.alloc hbw2.size _
       have x1 := (Below.heap_alloc w2 (.cells #[.string gname, .string (gb.extract 0 z), .int .i64 (z : Int)] 141) (w.heap.size + 1) (by omega)).trans k1
       have hx2 : w.heap.size + 2 <= (w2.alloc (.cells #[.string gname, .string (gb.extract 0 z), .int .i64 (z : Int)] 141)).heap.size := by simp; omega
       have hQ := hDn _ (h.below hx nlq)
       clear k0 k1 hDn
       go_wp2_with fail
       refine hQ.mono ?_
       rintro e w3 ⟨A3,cap3,rfl,hg3⟩
       have z1 := (hg3.1.block _ (by omega)).trans x1
       obtain ⟨⟨c0,c1,c2,c3,c4⟩,⟨d0,d1,d2,d3,d4⟩⟩ := row5 z1
       clear x1 hQ
       have Z1 := Lib.hid z1
       clear z1
       go_wp2
       refine bodyPost_ret (qa (n := w.heap.size + 1) rfl rfl (qw _ _ _ _ _ _ _ _ _ _ _ _ _ Z1.out) Tryz.underlying41 rfl (by kernel_rfl)) rfl ?_
       rw [hDef.out]
       exact ⟨A3,cap3,rfl,Got.wrap5 hx hg3 (by omega) (by omega) _ _ _ _ _⟩
 · rw [if_pos hmz] at hDef
   have hmz' : ((m : Int) != 0) = true := by simp; omega
   obtain ⟨⟨c0,c1,c2,c3,c4⟩,⟨d0,d1,d2,d3,d4⟩⟩ := row5 m1
   have M1 := Lib.hid m1
   clear m0 m1 hmz
   go_wp2
   refine bodyPost_ret (qa (n := w.heap.size + 1) rfl rfl (qw _ _ _ _ _ _ _ _ _ _ _ _ _ M1.out) Tryz.underlying41 rfl (by kernel_rfl)) rfl ?_
   rw [hDef.out]
   exact ⟨A,cap,rfl,Got.same (qk hbw1 (by omega) _ _ _ _ _)⟩
end Go.Proofs.YtmeoooojmhhahaaGreat
namespace Go.Proofs.YtmeoooojmhhahaaGreat
open Go.RowKit
theorem qdS (A : Option Addr) (cap : Nat) (D : Dsk) (name : ByteArray) (w : World) (h : RF w A cap D.l) (hl : D.l.length <= 400000000) :
 Calls Tryz.prog 69 #[qD A cap D, .string name] w fun e w' => e = .returned (.tuple #[.string (D.read name).1, .int .i64 (((D.read name).2 : Nat) : Int)]) /\ Below w.heap.size w w' := by
 have hbW : Below w.heap.size w (w.alloc (.cells (diskC A cap D) 41)) := blq.alloc nlq _
 have hm0 : (w.alloc (.cells (diskC A cap D) 41)).heap[w.heap.size]? = some (.cells (diskC A cap D) 41) := heap_alloc_new _ _
 have hsW : (w.alloc (.cells (diskC A cap D) 41)).heap.size = w.heap.size + 1 := by simp
 have hM := qbU A cap D name name
 have hDef : Hid (D.read name = if D.may name name ≠ 0 then (ByteArray.empty,D.may name name) else if (getF D.l name).2 = false then (ByteArray.empty,6) else ((getF D.l name).1.b,0)) := ⟨rfl⟩
 have hG := fun w h => qbT A cap D name w h (by omega)
 generalize hW : (w.alloc (.cells (diskC A cap D) 41)) = W at hbW hm0 hsW
 have HW := Lib.hid hW
 clear hW
 generalize D.may name name = m at hM hDef
 generalize D.read name = R at hDef ⊢
 generalize getF D.l name = gf at hDef hG
 obtain ⟨⟨gname,gb,gsafe⟩,ok⟩ := gf
 obtain ⟨room,l,set,n,lost⟩ := D
 dsimp only at *
 go_enter Tryz.func69,Tryz.ntmps69
 go_wp2_with fail
 rw [HW.out]
 refine (hM _).mono ?_
 rintro e w1 ⟨rfl,hb1⟩
 have m0 := (hb1.block _ (by omega)).trans hm0
 have hbw1 : Below w.heap.size w w1 := hbW.trans (hb1.mono hbW.size)
 clear hb1 hM hbW hm0 hsW HW
 obtain ⟨⟨a0,a1,a2,a3,a4⟩,_⟩ := row5 m0
 clear m0
 by_cases hmz : m = 0
 · subst hmz
   rw [if_neg (by simp)] at hDef
   go_wp2_with fail
   refine (hG _ (h.below hbw1 nlq)).mono ?_
   rintro e w2 ⟨rfl,hb2⟩
   have hbw2 : Below w.heap.size w w2 := hbw1.trans (hb2.mono hbw1.size)
   clear hb2 a0 a1 a2 a3 a4 hbw1 hG
   cases ok with
   | false =>
     rw [if_pos rfl] at hDef
     go_wp2
     go_ret2
     exact ⟨by rw [hDef.out]; rfl,hbw2.alloc hbw2.size _⟩
   | true =>
     rw [if_neg (by decide)] at hDef
     go_wp2
     go_ret2
     exact ⟨by rw [hDef.out]; rfl,hbw2.alloc hbw2.size _⟩
 · rw [if_pos hmz] at hDef
   have hmz' : ((m : Int) != 0) = true := by simp; omega
   clear hmz
   go_wp2
   go_ret2
   exact ⟨by rw [hDef.out]; rfl,hbw1⟩
theorem qj3 (A : Option Addr) (cap : Nat) (D : Dsk) (z : Int) (w : World) :
 Calls Tryz.prog 70 #[qD A cap D, .int .i64 z] w fun e w' => e = .returned (.tuple #[qD A cap (D.fuse z).1, .int .i64 (((D.fuse z).2 : Nat) : Int)]) /\ (D.fuse z).1.l = D.l /\ Below w.heap.size w w' := by
 have hb : ∀ a b,Below w.heap.size w ((w.alloc a).alloc b) := fun a b => (blq.alloc nlq _).alloc (by simp) _
 have hDef : Hid (D.fuse z = if D.lost then (D,5) else if z < 0 then (D,1) else ({ D with set := true,n := z },0)) := ⟨rfl⟩
 generalize D.fuse z = R at hDef ⊢
 obtain ⟨room,l,set,n,lost⟩ := D
 dsimp only at *
 cases lost with
 | true =>
   rw [if_pos rfl] at hDef
   go_enter Tryz.func70,Tryz.ntmps70
   go_wp2
   refine bodyPost_ret (qa (n := w.heap.size + 1) rfl rfl (heap_alloc2_new _ _ _) Tryz.underlying41 rfl (by kernel_rfl)) rfl ?_
   rw [hDef.out]
   exact ⟨rfl,rfl,hb _ _⟩
 | false =>
   rw [if_neg (by decide)] at hDef
   by_cases hz : z < 0
   · rw [if_pos hz] at hDef
     go_enter Tryz.func70,Tryz.ntmps70
     go_wp2
     refine bodyPost_ret (qa (n := w.heap.size + 1) rfl rfl (heap_alloc2_new _ _ _) Tryz.underlying41 rfl (by kernel_rfl)) rfl ?_
     rw [hDef.out]
     exact ⟨rfl,rfl,hb _ _⟩
   · rw [if_neg hz] at hDef
     go_enter Tryz.func70,Tryz.ntmps70
     go_wp2
     refine bodyPost_ret (qa (n := w.heap.size + 1) rfl rfl (heap_alloc2_new _ _ _) Tryz.underlying41 rfl (by kernel_rfl)) rfl ?_
     rw [hDef.out]
     exact ⟨rfl,rfl,hb _ _⟩
theorem qgb {l : List Fil} {f : Fil} (h : f ∈ l) : f.b.size <= qg l := by
 induction l with
 | nil => cases h
 | cons g l ih =>
   have e : qg (g :: l) = g.b.size + qg l := by simp [qg]
   rw [e]
   rcases List.mem_cons.1 h with rfl | h
   · omega
   · have := ih h; omega
theorem qj4 (l : List Fil) (name : ByteArray) : (getF l name).1.b.size <= qg l := by
 unfold getF
 cases hq : l.find? (isN name) with
 | none => simp
 | some f => exact qgb (List.mem_of_find?_eq_some hq)
theorem qc5 (A : Option Addr) (cap : Nat) (D : Dsk) (name s : ByteArray) (w : World) (h : RF w A cap D.l) (hl : D.l.length <= 400000000) (hn : -9223372036854775808 <= D.n /\ D.n <= 9223372036854775807) (hu : qg D.l <= 1099511627776) (hs : s.size <= 1099511627776) :
 Calls Tryz.prog 61 #[qD A cap D, .string name, .string s] w fun e w' => ∃ A' cap',e = .returned (.tuple #[qD A' cap' (D.append name s).1, .int .i64 (((D.append name s).2 : Nat) : Int)]) /\ Got w A cap D.l w' A' cap' (D.append name s).1.l := by
 obtain ⟨hbW,hm0,hm1,hsW⟩ := qde w (diskC A cap D) 41
 have hM := qbU A cap D name name
 have hDef : Hid (D.append name s = if D.may name name ≠ 0 then (D,D.may name name) else if D.room < (qg D.l : Int) + (s.size : Int) then (D,4) else
  let d := Dsk.burn { D with l := putF D.l { (getF D.l name).1 with b := (getF D.l name).1.b ++ s } }
  if d.lost then (d,5) else (d,0)) := ⟨rfl⟩
 have hU := fun w h => qf9 A cap D w h hu (by omega)
 have hG := fun w h => qbT A cap D name w h (by omega)
 have hP := fun f w h => qdu A cap D f w h (by omega)
 have hB := fun (f : Fil) (A' : Option Addr) (cap' : Nat) w => qga A' cap' { D with l := putF D.l f } w hn
 generalize hW : (w.alloc (.cells (diskC A cap D) 41)).alloc (.cells qas 41) = W at hbW hm0 hm1 hsW
 have HW := Lib.hid hW
 clear hW
 generalize D.may name name = m at hM hDef
 generalize D.append name s = R at hDef ⊢
 have hgs := qj4 D.l name
 generalize getF D.l name = gf at hDef hG hgs
 obtain ⟨⟨gname,gb,gsafe⟩,ok⟩ := gf
 have hP := fun w h => hP ⟨gname,gb ++ s,gsafe⟩ w h
 have hB := hB ⟨gname,gb ++ s,gsafe⟩
 have hbl := qfg { D with l := putF D.l ⟨gname,gb ++ s,gsafe⟩ }
 obtain ⟨room,l,set,n,lost⟩ := D
 dsimp only at *
 generalize Dsk.burn ⟨room,putF l ⟨gname,gb ++ s,gsafe⟩,set,n,lost⟩ = E at hB hbl hDef
 obtain ⟨eroom,el,eset,en,elost⟩ := E
 dsimp only at *
 subst hbl
 generalize qg l = u at hU hDef hu hgs
 have hcat : ¬ (9223372036854775807 < gb.size + s.size) := by omega
 go_enter Tryz.func61,Tryz.ntmps61
 go_wp2_with fail
 rw [HW.out]
 refine (hM _).mono ?_
 rintro e w1 ⟨rfl,hb1⟩
 have m0 := (hb1.block _ (by omega)).trans hm0
 have m1 := (hb1.block _ (by omega)).trans hm1
 have hbw1 : Below w.heap.size w w1 := hbW.trans (hb1.mono hbW.size)
 have hs1 : w.heap.size + 2 <= w1.heap.size := Nat.le_trans (Nat.le_of_eq hsW.symm) hb1.size
 clear hb1 hM hbW hm0 hm1 hsW HW
 obtain ⟨⟨a0,a1,a2,a3,a4⟩,_⟩ := row5 m0
 by_cases hmz : m = 0
 · subst hmz
   rw [if_neg (by simp)] at hDef
   have hus : IntKind.i64.wrap ((u : Int) + (s.size : Int)) = (u : Int) + (s.size : Int) := IntWalk.i64_in _ (by omega)
   go_upto_region 4 with (fail)
   go_cut [26] (fun t wx => t = .bool (decide (room < (u : Int) + (s.size : Int))) /\ wx.heap[w.heap.size]? = some (.cells #[.int .i64 room, .slice A l.length cap, .bool set, .int .i64 n, .bool lost] 41) /\ wx.heap[w.heap.size + 1]? = some (.cells qas 41) /\ Below w.heap.size w wx /\ w.heap.size + 2 <= wx.heap.size)
   case first =>
    go_region_with (first
     | (go_at_call 74
        refine (hU _ (h.below hbw1.drew nlq)).mono ?_
        rintro e w2 ⟨rfl,hb2⟩
        have k0 := (hb2.block _ (by show w.heap.size < w1.heap.size; omega)).trans m0
        have k1 := (hb2.block _ (by show w.heap.size + 1 < w1.heap.size; omega)).trans m1
        have hbw2 : Below w.heap.size w w2 := hbw1.drew.trans (hb2.mono (by show w.heap.size <= w1.heap.size; omega))
        have hs2 : w.heap.size + 2 <= w2.heap.size := Nat.le_trans hs1 hb2.size
        obtain ⟨⟨e0,e1,e2,e3,e4⟩,_⟩ := row5 k0)
     | fail)
    all_goals
     go_wp2_with fail
     go_meet
     exact ⟨rfl,k0,k1,hbw2,hs2⟩
   case rest =>
    clear m0 m1 a0 a1 a2 a3 a4 hbw1 hs1 hU hus
    obtain ⟨rfl,k0,k1,hbw2,hs2⟩ := hcut
    obtain ⟨⟨a0,a1,a2,a3,a4⟩,⟨b0,b1,b2,b3,b4⟩⟩ := row5 k0
    obtain ⟨⟨c0,c1,c2,c3,c4⟩,⟨d0,d1,d2,d3,d4⟩⟩ := row5 k1
    by_cases hf : room < (u : Int) + (s.size : Int)
    · rw [if_pos hf] at hDef
      have K1 := Lib.hid k1
      clear k0 k1
      go_wp2
      refine bodyPost_ret (qa (n := w.heap.size + 1) rfl rfl (qw _ _ _ _ _ _ _ _ _ _ _ _ _ K1.out) Tryz.underlying41 rfl (by kernel_rfl)) rfl ?_
      rw [hDef.out]
      exact ⟨A,cap,rfl,Got.same (qk hbw2 (by omega) _ _ _ _ _)⟩
    · rw [if_neg hf] at hDef
      go_wp2_with fail
      refine (hG _ (h.below hbw2 nlq)).mono ?_
      rintro e w3 ⟨rfl,hb3⟩
      have q0 := (hb3.block _ (by omega)).trans k0
      have q1 := (hb3.block _ (by omega)).trans k1
      have hbw3 : Below w.heap.size w w3 := hbw2.trans (hb3.mono hbw2.size)
      have hs3 : w.heap.size + 2 <= w3.heap.size := Nat.le_trans hs2 hb3.size
      clear hb3 k0 k1 a0 a1 a2 a3 a4 b0 b1 b2 b3 b4 c0 c1 c2 c3 c4 d0 d1 d2 d3 d4 hbw2 hs2 hG
      obtain ⟨⟨a0,a1,a2,a3,a4⟩,_⟩ := row5 q0
      have hz0 : w.heap.size < w3.heap.size := by omega
      have hz1 : w.heap.size + 1 < w3.heap.size := by omega
      have hx : Below w.heap.size w (w3.alloc (.cells #[.string gname, .string (gb ++ s), .int .i64 (gsafe : Int)] 141)) := hbw3.alloc hbw3.size _
      have x0 := (Below.heap_alloc w3 (.cells #[.string gname, .string (gb ++ s), .int .i64 (gsafe : Int)] 141) w.heap.size (by omega)).trans q0
      have x1 := (Below.heap_alloc w3 (.cells #[.string gname, .string (gb ++ s), .int .i64 (gsafe : Int)] 141) (w.heap.size + 1) (by omega)).trans q1
      have hx2 : w.heap.size + 2 <= (w3.alloc (.cells #[.string gname, .string (gb ++ s), .int .i64 (gsafe : Int)] 141)).heap.size := by simp; omega
      have hQ := hP _ (h.below hx nlq)
      clear q0 q1 hP hbw3 hs3
      go_wp2_with fail
      refine hQ.mono ?_
      rintro e w4 ⟨A4,cap4,rfl,hr4,hn4,hb4⟩
      have y0 := (hb4.block _ (by omega)).trans x0
      have y1 := (hb4.block _ (by omega)).trans x1
      have hbw4 : Below w.heap.size w w4 := hx.trans (hb4.mono hx.size)
      have hs4 : w.heap.size + 2 <= w4.heap.size := Nat.le_trans hx2 hb4.size
      have hn5 := hn4.mono hx2
      clear hQ hb4 x0 x1 hx hx2 a0 a1 a2 a3 a4 hn4 hz0 hz1
      go_wp2_with fail
      refine (hB A4 cap4 _).mono ?_
      rintro e w5 ⟨rfl,hb5⟩
      have z0 := (hb5.block _ (by omega)).trans y0
      have z1 := (hb5.block _ (by omega)).trans y1
      have hr5 := hr4.below hb5 nlq
      have hbw5 : Below w.heap.size w w5 := hbw4.trans (hb5.mono hbw4.size)
      clear hb5 y0 y1 hr4 hbw4 hB
      obtain ⟨⟨a0,a1,a2,a3,a4⟩,⟨b0,b1,b2,b3,b4⟩⟩ := row5 z0
      obtain ⟨⟨c0,c1,c2,c3,c4⟩,⟨d0,d1,d2,d3,d4⟩⟩ := row5 z1
      have Z0 := Lib.hid z0
      have Z1 := Lib.hid z1
      clear z0 z1
      cases elost with
      | true =>
        go_wp2
        refine bodyPost_ret (qa (n := w.heap.size + 1) rfl rfl (qw _ _ _ _ _ _ _ _ _ _ _ _ _ ((qf w5 (by omega) _ _ _ _ _).trans Z1.out)) Tryz.underlying41 rfl (by kernel_rfl)) rfl ?_
        rw [hDef.out]
        exact ⟨A4,cap4,rfl,qk (qk hbw5 nlq _ _ _ _ _) (by omega) _ _ _ _ _, .inr ⟨hr5.keepN hn5 (by simp) (fun g h1 h2 => (qf _ (by omega) _ _ _ _ _).trans (qf _ (by omega) _ _ _ _ _)),hn5.mono (by omega)⟩⟩
      | false =>
        go_wp2
        refine bodyPost_ret (qa (n := w.heap.size + 1) rfl rfl (qw _ _ _ _ _ _ _ _ _ _ _ _ _ ((qf w5 (by omega) _ _ _ _ _).trans Z1.out)) Tryz.underlying41 rfl (by kernel_rfl)) rfl ?_
        rw [hDef.out]
        exact ⟨A4,cap4,rfl,qk (qk hbw5 nlq _ _ _ _ _) (by omega) _ _ _ _ _, .inr ⟨hr5.keepN hn5 (by simp) (fun g h1 h2 => (qf _ (by omega) _ _ _ _ _).trans (qf _ (by omega) _ _ _ _ _)),hn5.mono (by omega)⟩⟩
 · rw [if_pos hmz] at hDef
   have hmz' : ((m : Int) != 0) = true := by simp; omega
   obtain ⟨⟨c0,c1,c2,c3,c4⟩,⟨d0,d1,d2,d3,d4⟩⟩ := row5 m1
   have M1 := Lib.hid m1
   clear m0 m1 hmz
   go_wp2
   refine bodyPost_ret (qa (n := w.heap.size + 1) rfl rfl (qw _ _ _ _ _ _ _ _ _ _ _ _ _ M1.out) Tryz.underlying41 rfl (by kernel_rfl)) rfl ?_
   rw [hDef.out]
   exact ⟨A,cap,rfl,Got.same (qk hbw1 (by omega) _ _ _ _ _)⟩
end Go.Proofs.YtmeoooojmhhahaaGreat
namespace Go.Proofs.YtmeoooojmhhahaaGreat
open Go.RowKit
def RI (w : World) (K : Option Addr) (klen : Nat) (Z : Nat -> Int) : Prop :=
 (∀ j,j < klen -> -9223372036854775808 <= Z j /\ Z j <= 9223372036854775807) /\ (0 < klen -> ∃ b off,K = some ⟨b,off,none⟩ /\ b < w.heap.size /\ ∀ j,j < klen -> w.cell? ⟨b,off + j,none⟩ = some (.int .i64 (Z j)))
theorem RI.below {w w' : World} {K : Option Addr} {klen : Nat} {Z : Nat -> Int} (h : RI w K klen Z) (hb : Below w.heap.size w w') : RI w' K klen Z := by
 refine ⟨h.1,fun h0 => ?_⟩
 obtain ⟨b,off,e,hg,hc⟩ := h.2 h0
 exact ⟨b,off,e,Nat.lt_of_lt_of_le hg hb.size,fun j hj => (hb.cell (p := ⟨b,off + j,none⟩) hg).trans (hc j hj)⟩
def qfh (w : World) (A : Option Addr) (cap : Nat) (D : Dsk) (Z : Nat -> Int) (klen : Nat) (k : Nat) (wr : World) : Prop :=
 ∃ A' cap',wr.heap[w.heap.size]? = some (.cells #[.int .i64 D.room, .slice A' (backSt Z klen D.l k).2.length cap', .bool D.set, .int .i64 D.n, .bool D.lost] 41) ∧
  wr.heap[w.heap.size + 1]? = some (.cells qas 41) /\ Below w.heap.size w wr /\ w.heap.size + 2 <= wr.heap.size /\ RF wr A' cap' (backSt Z klen D.l k).2 ∧
  ((A' = A /\ cap' = cap /\ (backSt Z klen D.l k).2 = D.l) \/ New (w.heap.size + 2) A')
theorem qhd (A : Option Addr) (cap : Nat) (D : Dsk) (K : Option Addr) (klen kcap : Nat) (Z : Nat -> Int) (w : World) (h : RF w A cap D.l) (hl : D.l.length <= 100000000) (hZ : RI w K klen Z) (hk : klen <= 9223372036854775807)
 (hsafe : ∀ f ∈ D.l,f.safe <= f.b.size /\ f.b.size <= 1099511627776) :
 Calls Tryz.prog 71 #[qD A cap D, .slice K klen kcap] w fun e w' => ∃ A' cap',e = .returned (qD A' cap' (D.restart Z klen)) /\ Got w A cap D.l w' A' cap' (D.restart Z klen).l := by
 obtain ⟨hbW,hm0,hm1,hsW⟩ := qde w (diskC A cap D) 41
 have hP := fun (l' : List Fil) (f : Fil) (A' : Option Addr) (cap' : Nat) w h hl => qdu A' cap' { D with l := l' } f w h hl
 generalize hW : (w.alloc (.cells (diskC A cap D) 41)).alloc (.cells qas 41) = W at hbW hm0 hm1 hsW
 have HW := Lib.hid hW
 clear hW
 have hst : qfh w A cap D Z klen 0 W := ⟨A,cap,hm0,hm1,hbW,Nat.le_of_eq hsW.symm,h.below hbW nlq, .inl ⟨rfl,rfl,rfl⟩⟩
 clear hm0 hm1
 have hlen := qfd Z klen D.l
 obtain ⟨room,l,set,n,lost⟩ := D
 dsimp only at *
 have hn' : (l.length : Int) <= 100000000 := by omega
 have hk' : (klen : Int) <= 9223372036854775807 := by omega
 go_enter Tryz.func71,Tryz.ntmps71
 go_wp2
 rw [HW.out]
 go_loopg [5,15] l.length (fun g i x wr => ∃ k : Nat,x = .int .i64 (k : Int) /\ k + g = l.length /\ i = .int .i64 (((backSt Z klen l k).1 : Nat) : Int) /\ qfh w A cap ⟨room,l,set,n,lost⟩ Z klen k wr)
 case atStart => exact ⟨0,rfl,by omega,rfl,hst⟩
 case round =>
  clear hst hbW hsW HW
  obtain ⟨k,rfl,hkg,rfl,A',cap',m0,m1,hb,hs,hr,hor⟩ := hrel
  have hlk := hlen k
  dsimp only at m0 m1 hr hor
  by_cases hlt : k < l.length
  · have hlt' : (k : Int) < (l.length : Int) := by omega
    have hno := qdO Z klen l k hlt
    have hyes := qdt Z klen l k hlt
    obtain ⟨g,off,rfl,hg,hc⟩ := h.2 (by show 0 < l.length; omega)
    obtain ⟨c0,c1,c2⟩ := hc k hlt
    have e0 : wr.cell? ⟨g,off + k * 3,none⟩ = some (.string l[k].name) := (hb.cell (p := ⟨g,off + k * 3,none⟩) hg).trans c0
    have e1 : wr.cell? ⟨g,off + k * 3 + 1,none⟩ = some (.string l[k].b) := (hb.cell (p := ⟨g,off + k * 3 + 1,none⟩) hg).trans c1
    have e2 : wr.cell? ⟨g,off + k * 3 + 2,none⟩ = some (.int .i64 (l[k].safe : Int)) := (hb.cell (p := ⟨g,off + k * 3 + 2,none⟩) hg).trans c2
    obtain ⟨hs1,hs2⟩ := hsafe l[k] (List.getElem_mem hlt)
    clear c0 c1 c2 hc hsafe
    generalize l[k] = f at *
    obtain ⟨fn,fb,fs⟩ := f
    dsimp only at *
    obtain ⟨m,hm⟩ : ∃ m,(fb.size : Int) - (fs : Int) + 1 = m := ⟨_,rfl⟩
    have hm1 : 1 <= m := by omega
    have hm2 : m <= 1099511627777 := by omega
    have hfb : (fb.size : Int) <= 1099511627776 := by omega
    have hfs : (fs : Int) <= (fb.size : Int) := by omega
    have hrow : ∀ (o : Obj) k,k < wr.heap.size -> (wr.alloc o).heap[k]? = wr.heap[k]? := fun o k hk => Below.heap_alloc _ _ _ hk
    by_cases hfe : fs = fb.size
    · have HN := Lib.hid (hno hfe)
      obtain rfl : m = 1 := by omega
      have HB : Hid (qfh w (some ⟨g,off,none⟩) cap ⟨room,l,set,n,lost⟩ Z klen (k + 1) (wr.alloc (.cells #[.string fn, .string fb, .int .i64 (fs : Int)] 141))) := ⟨by
       refine ⟨A',cap',?_,?_,hb.alloc (by omega) _,by simp; omega,?_,?_⟩
       · rw [hrow _ _ (by omega),HN.out]; exact m0
       · rw [hrow _ _ (by omega)]; exact m1
       · show RF _ A' cap' (backSt Z klen l (k + 1)).2
         rw [HN.out]; exact hr.below (blq.alloc nlq _) nlq
       · show (_ /\ _ /\ (backSt Z klen l (k + 1)).2 = l) \/ _
         rw [HN.out]; exact hor⟩
      clear hno hyes hr hor m0 m1 hP hfe hrow
      go_wp2
      go_roundg (gk - 1)
      case measure => omega
      case rel => exact ⟨k + 1,by go_num,by omega,by rw [HN.out],HB.out⟩
    · have HY := Lib.hid (hyes hfe)
      clear hno hyes
      have hmt : (m == 1) = false := by simp; omega
      have hmz : (m == 0) = false := by simp; omega
      have hst := qeO Z klen (backSt Z klen l k).1 m (by omega)
      generalize hS : backSt Z klen l k = st at *
      obtain ⟨i,out⟩ := st
      dsimp only at *
      obtain ⟨nn,hnn⟩ : ∃ nn,stays Z klen i m = nn := ⟨_,rfl⟩
      rw [hnn] at hst
      obtain ⟨sf,hsf⟩ : ∃ sf,fs + nn = sf := ⟨_,rfl⟩
      have hbk : Hid (back1 Z klen i ⟨fn,fb,fs⟩ = ⟨fn,fb.extract 0 sf,sf⟩) := ⟨by
       unfold back1 qbH
       dsimp only
       rw [hm,hnn,hsf]⟩
      have hcut : sf <= fb.size := by omega
      have hcut' : (sf : Int) <= 1099511627776 := by omega
      have hNX := Lib.hid (fun (w2 : World) h => hP out ⟨fn,fb.extract 0 sf,sf⟩ A' cap' w2 h (by omega))
      clear hP hfe
      by_cases hi : i < klen
      · have hi' : (i : Int) < (klen : Int) := by omega
        obtain ⟨b,offk,rfl,hbz,hcz⟩ := hZ.2 (by omega)
        have z0 : wr.cell? ⟨b,offk + i,none⟩ = some (.int .i64 (Z i)) := (hb.cell (p := ⟨b,offk + i,none⟩) hbz).trans (hcz i hi)
        have hZi := hZ.1 i hi
        have hbl : b < wr.heap.size := Nat.lt_of_lt_of_le hbz hb.size
        have hmod : Z i % m = (nn : Int) := by
         unfold stays at hnn
         rw [if_pos hi] at hnn
         have := Int.emod_nonneg (Z i) (show m ≠ 0 by omega)
         omega
        have hback := qf6 (Z i) m (by omega)
        rw [hmod] at hback
        have hy1 := Int.lt_tmod_of_pos (Z i) (show 0 < m by omega)
        have hy2 := Int.tmod_lt_of_pos (Z i) (show 0 < m by omega)
        clear hcz hmod
        generalize Z i = zi at *
        obtain ⟨y,hy⟩ : ∃ y,zi.tmod m = y := ⟨_,rfl⟩
        rw [hy] at hback hy1 hy2
        have hym : 0 <= y + m := by omega
        have hback2 : (y + m).tmod m = (nn : Int) := by rw [Int.tmod_eq_emod_of_nonneg hym]; exact hback
        have hsum : IntKind.i64.wrap ((fs : Int) + (nn : Int)) = (sf : Int) := by rw [IntWalk.i64_in _ (by omega)]; omega
        have hsum2 : (fs : Int) + (nn : Int) = (sf : Int) := by omega
        clear hsf
        have hyw : IntKind.i64.wrap (y + m) = y + m := IntWalk.i64_in _ (by omega)
        have hx : Below w.heap.size w (wr.alloc (.cells #[.string fn, .string (fb.extract 0 sf), .int .i64 (sf : Int)] 141)) := hb.alloc (by omega) _
        have hQ := hNX.out (wr.alloc (.cells #[.string fn, .string (fb.extract 0 sf), .int .i64 (sf : Int)] 141)) (hr.below (blq.alloc nlq _) nlq)
        have x0 := (hrow (.cells #[.string fn, .string (fb.extract 0 sf), .int .i64 (sf : Int)] 141) w.heap.size (by omega)).trans m0
        have x1 := (hrow (.cells #[.string fn, .string (fb.extract 0 sf), .int .i64 (sf : Int)] 141) (w.heap.size + 1) (by omega)).trans m1
        have hx2 : w.heap.size + 2 <= (wr.alloc (.cells #[.string fn, .string (fb.extract 0 sf), .int .i64 (sf : Int)] 141)).heap.size := by simp; omega
        obtain ⟨⟨a0,a1,a2,a3,a4⟩,⟨b0,b1,b2,b3,b4⟩⟩ := row5 m0
        have hz0 : w.heap.size < wr.heap.size := by omega
        have hz1 : w.heap.size + 1 < wr.heap.size := by omega
        clear hr hor m0 m1 hrow hNX
        go_wp2_with fail
        refine hQ.mono ?_
        rintro e w3 ⟨A3,cap3,rfl,hr3,hn3,hb3⟩
        have y0 := (hb3.block _ (by omega)).trans x0
        have y1 := (hb3.block _ (by omega)).trans x1
        have hbw : Below w.heap.size w w3 := hx.trans (hb3.mono hx.size)
        have hn4 := hn3.mono hx2
        have hs3 : w.heap.size + 2 <= w3.heap.size := Nat.le_trans hx2 hb3.size
        clear hQ x0 x1 hx hn3 hb3 hx2 a0 a1 a2 a3 a4 b0 b1 b2 b3 b4
        obtain ⟨⟨a0,a1,a2,a3,a4⟩,⟨b0,b1,b2,b3,b4⟩⟩ := row5 y0
        have HF : Hid (∀ u0 u1 u2 u3 u4,u0 = Value.int .i64 room -> u1 = Value.slice A3 (putF out ⟨fn,fb.extract 0 sf,sf⟩).length cap3 -> u2 = Value.bool set -> u3 = Value.int .i64 n -> u4 = Value.bool lost →
         qfh w (some ⟨g,off,none⟩) cap ⟨room,l,set,n,lost⟩ Z klen (k + 1) (((((w3.setCell ⟨w.heap.size,0,none⟩ u0).setCell ⟨w.heap.size,1,none⟩ u1).setCell ⟨w.heap.size,2,none⟩ u2).setCell ⟨w.heap.size,3,none⟩ u3).setCell ⟨w.heap.size,4,none⟩ u4)) := ⟨by
         rintro _ _ _ _ _ rfl rfl rfl rfl rfl
         refine ⟨A3,cap3,?_,?_,qk hbw nlq _ _ _ _ _,by simpa using hs3,?_, .inr hn4⟩
         · dsimp only
           rw [HY.out,hbk.out]
           exact qw _ _ _ _ _ _ _ _ _ _ _ _ _ y0
         · rw [qf _ (by omega)]; exact y1
         · show RF _ A3 cap3 (backSt Z klen l (k + 1)).2
           rw [HY.out,hbk.out]
           exact hr3.keepN hn4 (by simp) fun q h1 h2 => qf _ (by omega) _ _ _ _ _⟩
        clear y0 y1 hr3 hn4 hbw
        go_wp2
        go_roundg (gk - 1)
        case measure => omega
        case rel => exact ⟨k + 1,by go_num,by omega,by rw [HY.out]; go_num,HF.out _ _ _ _ _ rfl rfl rfl rfl rfl⟩
      · have hi' : ¬ ((i : Int) < (klen : Int)) := by omega
        obtain rfl : nn = 0 := by
         unfold stays at hnn
         rw [if_neg hi] at hnn
         omega
        obtain rfl : fs = sf := by omega
        clear hsf
        have hx : Below w.heap.size w (wr.alloc (.cells #[.string fn, .string (fb.extract 0 fs), .int .i64 (fs : Int)] 141)) := hb.alloc (by omega) _
        have hQ := hNX.out (wr.alloc (.cells #[.string fn, .string (fb.extract 0 fs), .int .i64 (fs : Int)] 141)) (hr.below (blq.alloc nlq _) nlq)
        have x0 := (hrow (.cells #[.string fn, .string (fb.extract 0 fs), .int .i64 (fs : Int)] 141) w.heap.size (by omega)).trans m0
        have x1 := (hrow (.cells #[.string fn, .string (fb.extract 0 fs), .int .i64 (fs : Int)] 141) (w.heap.size + 1) (by omega)).trans m1
        have hx2 : w.heap.size + 2 <= (wr.alloc (.cells #[.string fn, .string (fb.extract 0 fs), .int .i64 (fs : Int)] 141)).heap.size := by simp; omega
        obtain ⟨⟨a0,a1,a2,a3,a4⟩,⟨b0,b1,b2,b3,b4⟩⟩ := row5 m0
        have hz0 : w.heap.size < wr.heap.size := by omega
        have hz1 : w.heap.size + 1 < wr.heap.size := by omega
        clear hr hor m0 m1 hrow hNX
        go_wp2_with fail
        refine hQ.mono ?_
        rintro e w3 ⟨A3,cap3,rfl,hr3,hn3,hb3⟩
        have y0 := (hb3.block _ (by omega)).trans x0
        have y1 := (hb3.block _ (by omega)).trans x1
        have hbw : Below w.heap.size w w3 := hx.trans (hb3.mono hx.size)
        have hn4 := hn3.mono hx2
        have hs3 : w.heap.size + 2 <= w3.heap.size := Nat.le_trans hx2 hb3.size
        clear hQ x0 x1 hx hn3 hb3 hx2 a0 a1 a2 a3 a4 b0 b1 b2 b3 b4
        obtain ⟨⟨a0,a1,a2,a3,a4⟩,⟨b0,b1,b2,b3,b4⟩⟩ := row5 y0
        have HF : Hid (∀ u0 u1 u2 u3 u4,u0 = Value.int .i64 room -> u1 = Value.slice A3 (putF out ⟨fn,fb.extract 0 fs,fs⟩).length cap3 -> u2 = Value.bool set -> u3 = Value.int .i64 n -> u4 = Value.bool lost →
         qfh w (some ⟨g,off,none⟩) cap ⟨room,l,set,n,lost⟩ Z klen (k + 1) (((((w3.setCell ⟨w.heap.size,0,none⟩ u0).setCell ⟨w.heap.size,1,none⟩ u1).setCell ⟨w.heap.size,2,none⟩ u2).setCell ⟨w.heap.size,3,none⟩ u3).setCell ⟨w.heap.size,4,none⟩ u4)) := ⟨by
         rintro _ _ _ _ _ rfl rfl rfl rfl rfl
         refine ⟨A3,cap3,?_,?_,qk hbw nlq _ _ _ _ _,by simpa using hs3,?_, .inr hn4⟩
         · dsimp only
           rw [HY.out,hbk.out]
           exact qw _ _ _ _ _ _ _ _ _ _ _ _ _ y0
         · rw [qf _ (by omega)]; exact y1
         · show RF _ A3 cap3 (backSt Z klen l (k + 1)).2
           rw [HY.out,hbk.out]
           exact hr3.keepN hn4 (by simp) fun q h1 h2 => qf _ (by omega) _ _ _ _ _⟩
        clear y0 y1 hr3 hn4 hbw
        go_wp2
        go_roundg (gk - 1)
        case measure => omega
        case rel => exact ⟨k + 1,by go_num,by omega,by rw [HY.out]; go_num,HF.out _ _ _ _ _ rfl rfl rfl rfl rfl⟩
  · obtain rfl : k = l.length := by omega
    generalize hS : backSt Z klen l l.length = st at *
    obtain ⟨i,out⟩ := st
    dsimp only at *
    obtain ⟨⟨a0,a1,a2,a3,a4⟩,⟨b0,b1,b2,b3,b4⟩⟩ := row5 m0
    obtain ⟨⟨c0,c1,c2,c3,c4⟩,⟨d0,d1,d2,d3,d4⟩⟩ := row5 m1
    have M1 := Lib.hid m1
    have HR := Lib.hid hr
    have HO := Lib.hid hor
    have HE : Hid (Dsk.restart ⟨room,l,set,n,lost⟩ Z klen = ⟨room,out,false,0,false⟩) := ⟨by unfold Dsk.restart; dsimp only; rw [hS]⟩
    clear m0 m1 hr hor hP hsafe hZ hS
    go_wp2
    refine bodyPost_ret (qQ (n := w.heap.size + 1) rfl rfl (qw _ _ _ _ _ _ _ _ _ _ _ _ _ ((Below.heap_setCell _ _ _ _ (by show w.heap.size + 1 ≠ w.heap.size; omega)).trans ((Below.heap_setCell _ _ _ _ (by show w.heap.size + 1 ≠ w.heap.size; omega)).trans ((Below.heap_setCell _ _ _ _ (by show w.heap.size + 1 ≠ w.heap.size; omega)).trans M1.out)))) Tryz.underlying41 rfl (by kernel_rfl)) rfl ?_
    rw [HE.out]
    have hb3 : ∀ u2 u3 u4,Below w.heap.size w (((wr.setCell ⟨w.heap.size,2,none⟩ u2).setCell ⟨w.heap.size,3,none⟩ u3).setCell ⟨w.heap.size,4,none⟩ u4) := fun u2 u3 u4 => by
     repeat (refine Below.setCell ?_ (by show w.heap.size <= w.heap.size; exact nlq) _)
     exact hb
    refine ⟨A',cap',rfl,qk (hb3 _ _ _) (by omega) _ _ _ _ _,?_⟩
    rcases HO.out with ⟨h1,h2,h3⟩ | h1
    · exact .inl ⟨h1,h2,h3⟩
    · refine .inr ⟨HR.out.keepN h1 (by simp) (fun q q1 q2 => (qf _ (by omega) _ _ _ _ _).trans ?_),h1.mono (by omega)⟩
      repeat (refine (Below.heap_setCell _ _ _ _ (by show q ≠ w.heap.size; omega)).trans ?_)
      rfl
end Go.Proofs.YtmeoooojmhhahaaGreat
