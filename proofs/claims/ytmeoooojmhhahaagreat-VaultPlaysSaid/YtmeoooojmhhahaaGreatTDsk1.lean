/- What is done with one file: bytes.Clone, waits, first, more, copy, each by its contract. -/
import Derived.Test.YtmeoooojmhhahaaGreatTMap
import Derived.Deep.RegionLaw
import Derived.Test.YtmeoooojmhhahaaGreatTDskRef
import Derived.Lib.ConvBytes
set_option linter.unusedVariables false
set_option linter.unusedSimpArgs false
set_option maxRecDepth 100000
set_option maxHeartbeats 2000000
namespace Go.Proofs.YtmeoooojmhhahaaGreat
open Go.RowKit
abbrev FRow (w : World) (base : Nat) (v : FV) : Prop := Owns 5 w base (fvS v) v.l
theorem FRow.lies {w : World} {base : Nat} {v : FV} (h : FRow w base v) : Lies w v.A v.l.length v.cap v.l := by
 obtain ⟨A,cap,e,hl,_⟩ := qq h
 injection e with e1 e2 e3
 subst e1 e3
 exact hl
theorem qgc (v : FV) (w : World) (h : v.safe <= v.l.length) (hl : v.l.length <= 4294967296) :
 Calls Tryz.prog 79 #[fvV v] w fun e w' => e = .returned (.int .i64 ((v.l.length : Int) - (v.safe : Int))) /\ Below w.heap.size w w' := by
 have e1 : IntKind.i64.wrap ((v.l.length : Int) - (v.safe : Int)) = (v.l.length : Int) - (v.safe : Int) := IntWalk.i64_in _ (by omega)
 go_enter Tryz.func79,Tryz.ntmps79
 go_wp2
 go_ret
 exact ⟨rfl,blq.alloc nlq _⟩
theorem qj5 {T : TypeId} {w : World} {base : Nat} {A : Option Addr} {len cap : Nat} {l : List UInt8} (h : Owns T w base (.slice A len cap) l) (n : Nat) (hn : n <= l.length) : Owns T w base (.slice A n cap) (l.take n) := by
 have hlen : (l.take n).length = n := by simp; omega
 rcases h.2 with ⟨e,h0⟩ | ⟨g,cap',cur,e,hb,hg,hc,hm,hs,ht⟩
 · injection e with e1 e2 e3
   subst e1 e3
   have : n = 0 := by omega
   subst this
   exact ⟨by simp, .inl ⟨rfl,by simp⟩⟩
 · injection e with e1 e2 e3
   subst e1 e3
   refine ⟨by simp, .inr ⟨g,cap,cur,by rw [hlen],hb,hg,by rw [hlen]; omega,hm,hs,?_⟩⟩
   have h2 := congrArg (fun q => q.take n) ht
   rw [hlen]
   simp only [List.take_take,Nat.mul_one] at h2 ⊢
   rw [show min n l.length = n by omega] at h2
   rw [h2]
   simp [cellsOf,List.map_take]
theorem qgd (v : FV) (n : Nat) (w : World) (h : FRow w 0 v) (hn : n <= v.l.length) (hl : v.l.length <= 4294967296) (hc : v.cap <= maxLen) :
 Calls Tryz.prog 82 #[fvV v, .int .i64 (n : Int)] w fun e w' => ∃ v',e = .returned (fvV v') /\ v'.l = v.l.take n /\ v'.safe = n /\ FRow w' 0 v' ∧
  (∀ g,(fvS v').ownBlock = some g -> (fvS v).ownBlock = some g \/ w.heap.size <= g) /\ Below w.heap.size w w' := by
 have hS := fun W => qdG (P := Tryz.prog) Tryz.underlying33 qaD v.A v.l.length v.cap n (by have := h.lies.2.1; omega) W
 have hlen : (v.l.take n).length = n := by simp; omega
 have ho := qj5 h n hn
 have hcl := fun w' (hb : Below w.heap.size w w') => qbx v.A n v.cap (v.l.take n) w' ((h.lies.below hb nlq).take n hn) (by rw [hlen]; omega)
 by_cases hq : (n : Int) < wrap64 ((v.cap : Int) / 2)
 · go_enter Tryz.func82,Tryz.ntmps82
   go_wp2_with (first
    | (go_at_call 130
       refine (hcl _ (by repeat (first | exact blq | refine Below.alloc ?_ (by simp <;> omega) _))).mono ?_
       rintro e w1 ⟨v1,rfl,ho1,hb1⟩
       obtain ⟨A1,cap1,rfl,hl1,hl2⟩ := qq ho1
       have hr := (hb1.block (w.heap.size + 1) (by simp)).trans (heap_alloc2_new _ _ _)
       obtain ⟨⟨k0,k1⟩,⟨k2,k3⟩⟩ := row2 hr
       have hz : w.heap.size + 1 < w1.heap.size := hlq hr
       have hb : Below w.heap.size w w1 := Tr.below_of hb1 (by repeat (first | exact blq | refine Below.alloc ?_ (by simp <;> omega) _)))
    | fail)
   refine bodyPost_ret (qQ (n := w.heap.size + 1) rfl rfl (qR _ _ _ _ _ _ _ hr) Tryz.underlying147 rfl (by kernel_rfl)) rfl ?_
   refine ⟨⟨A1,cap1,v.l.take n,n⟩,by simp [fvV,fvS,fvN,hlen],rfl,rfl,?_,?_,(hb.setCell (by simp <;> omega) _).setCell (by simp <;> omega) _⟩
   · refine Owns.rebase (Owns.keep ho1 fun g hg => ?_) (fun k _ => Nat.zero_le _)
     have := (ho1.lt g hg).1
     have hg' : g ≠ w.heap.size + 1 := by simp at this; omega
     exact (Below.heap_setCell _ _ _ _ (fun e => hg' e)).trans (Below.heap_setCell _ _ _ _ (fun e => hg' e))
   · intro g hg
     have := (ho1.lt g hg).1
     simp at this
     omega
 · go_enter Tryz.func82,Tryz.ntmps82
   go_wp2
   refine bodyPost_ret (qQ (n := w.heap.size + 1) rfl rfl (heap_alloc2_new _ _ _) Tryz.underlying147 rfl (by kernel_rfl)) rfl ?_
   have hb : Below w.heap.size w ((w.alloc (.cells #[fvS v,fvN v] 147)).alloc (.cells #[.slice v.A n v.cap, .int .i64 (n : Int)] 147)) := (blq.alloc nlq _).alloc (by simp) _
   refine ⟨⟨v.A,v.cap,v.l.take n,n⟩,by simp [fvV,fvS,fvN,hlen],rfl,rfl,?_,?_,hb⟩
   · show Owns _ _ _ (.slice v.A (v.l.take n).length v.cap) (v.l.take n)
     rw [hlen]
     exact Owns.keep ho fun g hg => hb.block g (ho.lt g hg).2
   · intro g hg
     left
     rw [<- hg]
     exact qd8 _ _ _ _ _
theorem qk6 (v : FV) (w : World) (h : FRow w 0 v) (hl : v.l.length <= 4294967296) :
 Calls Tryz.prog 86 #[fvV v] w fun e w' => ∃ v',e = .returned (fvV v') /\ v'.l = v.l /\ v'.safe = v.safe /\ FRow w' w.heap.size v' /\ Below w.heap.size w w' := by
 have hcl := fun w' (hb : Below w.heap.size w w') => qbx v.A v.l.length v.cap v.l w' (h.lies.below hb nlq) (by omega)
 go_enter Tryz.func86,Tryz.ntmps86
 go_wp2
 go_region_with (first
  | (go_at_call 130
     refine (hcl _ (by repeat (first | exact blq | apply Below.drew | refine Below.alloc ?_ (by simp <;> omega) _))).mono ?_
     rintro e w1 ⟨v1,rfl,ho1,hb1⟩
     obtain ⟨A1,cap1,rfl,hl1,hl2⟩ := qq ho1
     have hr0 := (hb1.block w.heap.size (by simp <;> omega)).trans ((Below.heap_alloc _ _ _ (by simp)).trans (heap_alloc_new _ _))
     obtain ⟨⟨j0,j1⟩,_⟩ := row2 hr0
     have hr := (hb1.block (w.heap.size + 1) (by simp)).trans (heap_alloc2_new _ _ _)
     obtain ⟨⟨k0,k1⟩,⟨k2,k3⟩⟩ := row2 hr
     have hz : w.heap.size + 1 < w1.heap.size := hlq hr
     have hb : Below w.heap.size w w1 := Tr.below_of hb1 (by repeat (first | exact blq | apply Below.drew | refine Below.alloc ?_ (by simp <;> omega) _)))
  | fail)
 all_goals
  have hno : ∀ g,(Value.slice A1 v.l.length cap1).ownBlock = some g -> w.heap.size <= g /\ g ≠ w.heap.size + 1 := fun g hg => by have := (ho1.lt g hg).1; simp at this; omega
  go_wp2
  refine bodyPost_ret (qQ (n := w.heap.size + 1) rfl rfl (qR _ _ _ _ _ _ _ hr) Tryz.underlying147 rfl (by kernel_rfl)) rfl ?_
  refine ⟨⟨A1,cap1,v.l,v.safe⟩,rfl,rfl,rfl,?_,?_⟩
  · exact Owns.rebase (Owns.keep ho1 fun g hg => (Below.heap_setCell _ _ _ _ (hno g hg).2).trans (Below.heap_setCell _ _ _ _ (hno g hg).2)) fun k hk => (hno k hk).1
  · repeat (first | exact hb | apply Below.drew | refine Below.setCell ?_ (by simp <;> omega) _)
theorem qk7 (v : FV) (A : Option Addr) (len cap : Nat) (b : List UInt8) (w : World) (h : FRow w 0 v) (hA : Lies w A len cap b) (hl : (v.l ++ b).length <= 4294967296) :
 Calls Tryz.prog 89 #[fvV v, .slice A len cap] w fun e w' => ∃ v',e = .returned (fvV v') /\ v'.l = v.l ++ b /\ v'.safe = v.safe /\ FRow w' 0 v' /\ w.grownBy w' (fvS v).ownBlock ∧
  ((fvS v').ownBlock = (fvS v).ownBlock \/ ∃ g,(fvS v').ownBlock = some g /\ w.heap.size <= g) := by
 obtain ⟨i0,hi0,hz0,hz1,hz2⟩ := info_parts qaM
 have hl2 : (v.l ++ b).length <= 140737488355328 := by omega
 have hX : ∀ w',Below w.heap.size w w' -> FRow w' 0 v := fun w' hb => h.keep fun g hg => hb.block g (h.lt g hg).2
 have hAX : ∀ w',Below w.heap.size w w' -> Lies w' A len cap b := fun w' hb => hA.below hb nlq
 have hnb : ∀ k,w.heap.size <= k -> some k ≠ (fvS v).ownBlock := fun k hk e => by have := (h.lt k e.symm).2; omega
 have HB : Hid (Below w.heap.size w ((w.alloc (.cells #[fvS v,fvN v] 147)).alloc (.cells #[.slice none 0 0, .int .i64 0] 147)).drew) := ⟨((blq.alloc nlq _).alloc (by simp) _).drew⟩
 go_enter Tryz.func89,Tryz.ntmps89
 go_wp2
 go_region_law
  ((refine qaz _ (by rfl) _ _ 33 (by rfl) 5 i0 Tryz.underlying33 hi0 hz0 hz1 hz2 0 (Nat.zero_le _) (fvS v) v.l (by rfl) (hX _ HB.out) A len cap b (by rfl) (hAX _ HB.out) hl2 ?_
    intro v1 w1 hr hg hb
    obtain ⟨A1,cap1,rfl,hl1,hl3⟩ := qq hr
    have hr0 := (hg.block w.heap.size (by simp <;> omega) (hnb _ nlq)).trans ((Below.heap_alloc _ _ _ (by simp)).trans (heap_alloc_new _ _))
    obtain ⟨⟨j0,j1⟩,_⟩ := row2 hr0
    have hr1 := (hg.block (w.heap.size + 1) (by simp) (hnb _ (by omega))).trans (heap_alloc2_new _ _ _)
    obtain ⟨⟨k0,k1⟩,⟨k2,k3⟩⟩ := row2 hr1))
 all_goals
  have hno : ∀ g,(Value.slice A1 (v.l ++ b).length cap1).ownBlock = some g -> g ≠ w.heap.size + 1 := fun g hg => by
   rintro rfl
   rcases hb with e | e
   · rw [hg] at e
     have := (h.lt _ e.symm).2
     omega
   · rw [hg] at e
     injection e with e
     simp at e
  go_wp2
  refine bodyPost_ret (qQ (n := w.heap.size + 1) rfl rfl (qR _ _ _ _ _ _ _ hr1) Tryz.underlying147 rfl (by kernel_rfl)) rfl ?_
  refine ⟨⟨A1,cap1,v.l ++ b,v.safe⟩,by simp [fvV,fvS,fvN],rfl,rfl,?_,?_,?_⟩
  · exact Owns.keep hr fun g hg => (Below.heap_setCell _ _ _ _ (hno g hg)).trans (Below.heap_setCell _ _ _ _ (hno g hg))
  · refine ⟨hg.os,hg.tape,hg.output,by have := hg.size; simp at this ⊢; omega,fun k hk hne => ?_⟩
    exact (Below.heap_setCell _ _ _ _ (by show k ≠ w.heap.size + 1; omega)).trans ((Below.heap_setCell _ _ _ _ (by show k ≠ w.heap.size + 1; omega)).trans ((hg.block k (Nat.lt_of_lt_of_le hk HB.out.size) hne).trans (HB.out.block k hk)))
  · rcases hb with e | e
    · exact .inl e
    · exact .inr ⟨_,e,by simp <;> omega⟩
end Go.Proofs.YtmeoooojmhhahaaGreat
namespace Go.Proofs.YtmeoooojmhhahaaGreat
open Go.RowKit
abbrev FT := MapFl.T
def qj (p : ByteArray × FV) : Fil := ⟨p.1,⟨p.2.l.toArray⟩,p.2.safe⟩
abbrev blk (v : FV) : Option Nat := (fvS v).ownBlock
def qcw (D : Dsk) : Int := if D.set then D.n else -1
abbrev Pn (M : Nat -> Prop) (w : World) : Nat -> Prop := fun k => ¬ M k \/ w.heap.size <= k
structure qeb (w : World) (M Z : Nat -> Prop) (v : FV) : Prop where
 own : FRow w 0 v
 out : ∀ g,blk v = some g -> ¬ M g /\ ¬ Z g
structure Dt (w : World) (d : Nat) (D : Dsk) (M Z : Nat -> Prop) (X : ByteArray -> Prop) (t : FT) : Prop where
 box : ∃ u,w.heap[d]? = some (.cells #[.int .i64 D.room, .int .i64 ((qg D.l : Nat) : Int), .pointer u, .int .i64 (qcw D), .bool D.lost] 92) /\ MapFl.Rp (Pn M w) w u t
 bst : Tr.Bst ltS t
 fil : t.list.map qj = D.l
 row : ∀ p ∈ t.list,¬ X p.1 -> qeb w M Z p.2
 apart : ∀ a ∈ t.list,∀ b ∈ t.list,a.1 ≠ b.1 -> ¬ X a.1 -> ¬ X b.1 -> ∀ g,blk a.2 = some g -> blk b.2 ≠ some g
 own : ¬ M d /\ ¬ Z d
abbrev noX : ByteArray -> Prop := fun _ => False
theorem Pn.ev {M : Nat -> Prop} {w : World} (h : ∀ k,M k -> k < w.heap.size) : ∀ k,w.heap.size <= k -> Pn M w k := fun k hk => .inr hk
theorem Dt.lt {w : World} {d : Nat} {D : Dsk} {M Z : Nat -> Prop} {X : ByteArray -> Prop} {t : FT} (h : Dt w d D M Z X t) : d < w.heap.size := by
 obtain ⟨u,hb,_⟩ := h.box
 exact hlt hb
theorem qeb.lt {w : World} {M Z : Nat -> Prop} {v : FV} (h : qeb w M Z v) {g : Nat} (hg : blk v = some g) : g < w.heap.size := (h.own.lt g hg).2
theorem FRow.ne {w : World} {v : FV} (h : FRow w 0 v) {d : Nat} {cs : Array Value} (hd : w.heap[d]? = some (.cells cs 92)) : blk v ≠ some d := by
 intro e
 rcases h.2 with ⟨e1,h0⟩ | ⟨g,cap,cur,e1,_,hg,_⟩
 · rw [blk,e1] at e; cases e
 · rw [blk,e1] at e
   injection e with e
   have e : g = d := e
   subst e
   rw [hd] at hg
   injection hg with hg
   injection hg with _ ht
   revert ht
   decide
theorem qeb.ne {w : World} {M Z : Nat -> Prop} {v : FV} (h : qeb w M Z v) {d : Nat} {cs : Array Value} (hd : w.heap[d]? = some (.cells cs 92)) : blk v ≠ some d := FRow.ne h.own hd
theorem Dt.carry {w w' : World} {d : Nat} {D : Dsk} {M M' Z Z' : Nat -> Prop} {X : ByteArray -> Prop} {t : FT} (h : Dt w d D M Z X t) (hs : w.heap.size <= w'.heap.size)
 (hM : ∀ k,M' k -> M k \/ w.heap.size <= k) (hZ : ∀ k,Z' k -> Z k \/ w.heap.size <= k) (hb : ∀ k,k < w.heap.size -> ¬ M k -> w'.heap[k]? = w.heap[k]?) : Dt w' d D M' Z' X t := by
 obtain ⟨u,hbx,hr⟩ := h.box
 have hd := h.lt
 have ho : ∀ k,k < w.heap.size -> ¬ M k /\ ¬ Z k -> ¬ M' k /\ ¬ Z' k := fun k hk ⟨h1,h2⟩ => ⟨fun e => (hM k e).elim h1 (by omega),fun e => (hZ k e).elim h2 (by omega)⟩
 refine ⟨⟨u,(hb d hd h.own.1).trans hbx,hr.carry (fun k hk => .inr hk) fun b hlt hP _ => ?_⟩,h.bst,h.fil,fun p hp hx => ⟨(h.row p hp hx).own.keep fun g hg => hb g ((h.row p hp hx).lt hg) ((h.row p hp hx).out g hg).1,fun g hg => ho g ((h.row p hp hx).lt hg) ((h.row p hp hx).out g hg)⟩,h.apart,ho d hd h.own⟩
 have hM0 : ¬ M b := hP.elim id (fun e => by omega)
 exact ⟨.inl fun e => (hM b e).elim hM0 (by omega),hb b hlt hM0⟩
theorem Dt.below {w w' : World} {d : Nat} {D : Dsk} {M Z : Nat -> Prop} {X : ByteArray -> Prop} {t : FT} (h : Dt w d D M Z X t) (hb : Below w.heap.size w w') : Dt w' d D M Z X t :=
 h.carry hb.size (fun k hk => .inl hk) (fun k hk => .inl hk) fun k hk _ => hb.block k hk
theorem Dt.turn {w w' : World} {d : Nat} {D D' : Dsk} {M Z : Nat -> Prop} {X : ByteArray -> Prop} {t : FT} {u : Option Addr} (h : Dt w d D M Z X t) (hk : qc (· ≠ d) w w')
 (hb : w'.heap[d]? = some (.cells #[.int .i64 D'.room, .int .i64 ((qg D'.l : Nat) : Int), .pointer u, .int .i64 (qcw D'), .bool D'.lost] 92))
 (hu : ∀ cs,w.heap[d]? = some (.cells cs 92) -> cs[2]? = some (.pointer u)) (hl : D'.l = D.l) : Dt w' d D' M Z X t := by
 obtain ⟨u0,hbx,hr⟩ := h.box
 have hd := h.lt
 have e := hu _ hbx
 injection e with e
 injection e with e
 subst e
 refine ⟨⟨u0,hb,hr.carry (fun k hk => .inr hk) fun b hlt hP ⟨k,hc⟩ => ?_⟩,h.bst,h.fil.trans hl.symm,fun p hp hx => ⟨(h.row p hp hx).own.keep fun g hg => hk.block g ((h.row p hp hx).lt hg) (fun e => (h.row p hp hx).ne hbx (e ▸ hg)),(h.row p hp hx).out⟩,h.apart,h.own⟩
 have hne : b ≠ d := by
  rintro rfl
  rw [cell_of_row _ _ _ _ _ _ hbx] at hc
  cases hc
 exact ⟨hP.elim .inl (fun e => by omega),hk.block b hlt hne⟩
theorem qi2 {l : List (ByteArray × FV)} (h : l.Pairwise fun a b => ltS a.1 b.1 = true) : (l.map qj).Pairwise fun a b => ltS a.name b.name = true := by
 rw [List.pairwise_map]; exact h
theorem Dt.sort {w : World} {d : Nat} {D : Dsk} {M Z : Nat -> Prop} {X : ByteArray -> Prop} {t : FT} (h : Dt w d D M Z X t) : D.l.Pairwise fun a b => ltS a.name b.name = true := by
 rw [<- h.fil]; exact qi2 h.bst
theorem Dt.size {w : World} {d : Nat} {D : Dsk} {M Z : Nat -> Prop} {X : ByteArray -> Prop} {t : FT} (h : Dt w d D M Z X t) : t.size = D.l.length := by
 rw [<- Tr.length_list,<- h.fil,List.length_map]
theorem Dt.get {w : World} {d : Nat} {D : Dsk} {M Z : Nat -> Prop} {X : ByteArray -> Prop} {t : FT} (h : Dt w d D M Z X t) {name : ByteArray} {v : FV} (hm : (name,v) ∈ t.list) : getF D.l name = (qj (name,v),true) :=
 qeP (f := qj (name,v)) h.sort (by rw [<- h.fil]; exact List.mem_map_of_mem hm)
theorem Dt.getno {w : World} {d : Nat} {D : Dsk} {M Z : Nat -> Prop} {X : ByteArray -> Prop} {t : FT} (h : Dt w d D M Z X t) {name : ByteArray} (hm : ∀ p ∈ t.list,p.1 ≠ name) : getF D.l name = (⟨name,ByteArray.empty,0⟩,false) :=
 qjU fun g hg => by
  rw [<- h.fil] at hg
  obtain ⟨p,hp,rfl⟩ := List.mem_map.1 hg
  exact hm p hp
def noFV : FV := ⟨none,0,[],0⟩
theorem Dt.has {w : World} {d : Nat} {D : Dsk} {M Z : Nat -> Prop} {X : ByteArray -> Prop} {t : FT} (h : Dt w d D M Z X t) (name : ByteArray) :
 (∃ v a b,Tr.find ltS name t = .node name v a b /\ (name,v) ∈ t.list /\ getF D.l name = (qj (name,v),true)) ∨
 (Tr.find ltS name t = .nil /\ (∀ p ∈ t.list,p.1 ≠ name) /\ getF D.l name = (⟨name,ByteArray.empty,0⟩,false)) := by
 cases hf : Tr.find ltS name t with
 | nil =>
   have := Tr.find_mem linS name t h.bst hf
   exact .inr ⟨rfl,this,h.getno this⟩
 | node k v a b =>
   obtain ⟨rfl,hm⟩ := Tr.find_node linS name t hf
   exact .inl ⟨v,a,b,rfl,hm,h.get hm⟩
theorem qeS {l : List (ByteArray × FV)} (h : l.Pairwise fun a b => ltS a.1 b.1 = true) (k : ByteArray) :
 l.filter (fun p => ltS p.1 k || ltS k p.1) = l.filter (fun p => ltS p.1 k) ++ l.filter (fun p => ltS k p.1) := by
 induction l with
 | nil => rfl
 | cons a l ih =>
   rw [List.pairwise_cons] at h
   have ih := ih h.2
   simp only [List.filter_cons]
   cases h1 : ltS a.1 k with
   | true => rw [qaE h1,ih]; simp
   | false =>
     cases h2 : ltS k a.1 with
     | false => simpa using ih
     | true =>
       have hn : l.filter (fun p => ltS p.1 k) = [] := List.filter_eq_nil_iff.2 fun p hp => by rw [qaE (qcO h2 (h.1 p hp))]; decide
       rw [ih,hn]; simp
theorem qk8 (l : List (ByteArray × FV)) (name : ByteArray) (v : FV) (h : 0 < v.l.length) : (Tr.insL ltS name v l).map qj = putF (l.map qj) (qj (name,v)) := by
 unfold Tr.insL putF
 have : 0 < (qj (name,v)).b.size := h
 rw [if_pos this]
 simp [List.filter_map,Function.comp_def,qj]
theorem qk9 {l : List (ByteArray × FV)} (hs : l.Pairwise fun a b => ltS a.1 b.1 = true) (name : ByteArray) (f : Fil) (hn : f.name = name) (h : f.b.size = 0) : (Tr.delL ltS name l).map qj = putF (l.map qj) f := by
 unfold Tr.delL putF
 rw [qeS hs,hn,if_neg (by omega)]
 simp [List.filter_map,Function.comp_def,qj]
theorem qhe {l : List (ByteArray × FV)} {name : ByteArray} {v : FV} {p : ByteArray × FV} (h : p ∈ Tr.insL ltS name v l) : p = (name,v) \/ (p ∈ l /\ p.1 ≠ name) := by
 unfold Tr.insL at h
 rcases List.mem_append.1 h with h | h
 · obtain ⟨h1,h2⟩ := List.mem_filter.1 h
   exact .inr ⟨h1,fun e => by rw [e,qaN] at h2; cases h2⟩
 · rcases List.mem_cons.1 h with h | h
   · exact .inl h
   · obtain ⟨h1,h2⟩ := List.mem_filter.1 h
     exact .inr ⟨h1,fun e => by rw [e,qaN] at h2; cases h2⟩
theorem qhf {l : List (ByteArray × FV)} {name : ByteArray} {p : ByteArray × FV} (h : p ∈ Tr.delL ltS name l) : p ∈ l /\ p.1 ≠ name := by
 obtain ⟨h1,h2⟩ := List.mem_filter.1 h
 exact ⟨h1,fun e => by rw [e,qaN] at h2; cases h2⟩
theorem qlD {a b : ByteArray} (h : a ≠ b) : ltS a b = true \/ ltS b a = true := by
 cases h1 : ltS a b with
 | true => exact .inl rfl
 | false =>
   cases h2 : ltS b a with
   | true => exact .inr rfl
   | false => exact absurd (qbz h1 h2) h
theorem qlO {l : List (ByteArray × FV)} {name : ByteArray} {v : FV} {p : ByteArray × FV} (h : p ∈ l) (hn : p.1 ≠ name) : p ∈ Tr.insL ltS name v l := by
 unfold Tr.insL
 rcases qlD hn with h1 | h1
 · exact List.mem_append_left _ (List.mem_filter.2 ⟨h,h1⟩)
 · exact List.mem_append_right _ (List.mem_cons_of_mem _ (List.mem_filter.2 ⟨h,h1⟩))
theorem qlP {l : List (ByteArray × FV)} {name : ByteArray} {p : ByteArray × FV} (h : p ∈ l) (hn : p.1 ≠ name) : p ∈ Tr.delL ltS name l := by
 refine List.mem_filter.2 ⟨h,?_⟩
 rcases qlD hn with h1 | h1 <;> simp [h1]
theorem qh0 {l : List Fil} (h : l.Pairwise fun a b => ltS a.name b.name = true) (name : ByteArray) : qg (l.filter (isN name)) = (getF l name).1.b.size := by
 induction l with
 | nil => rfl
 | cons a l ih =>
   rw [List.pairwise_cons] at h
   have ih := ih h.2
   unfold getF at *
   rw [List.filter_cons,List.find?_cons]
   cases hq : isN name a with
   | false => simpa using ih
   | true =>
     have hn : l.filter (isN name) = [] := List.filter_eq_nil_iff.2 fun g hg hgn => by
      have := h.1 g hg
      rw [qbv hq,qbv hgn,qaN] at this
      cases this
     rw [hn]
     simp [qg]
theorem Dt.used {w : World} {d : Nat} {D : Dsk} {M Z : Nat -> Prop} {X : ByteArray -> Prop} {t : FT} (h : Dt w d D M Z X t) (f : Fil) : qg (putF D.l f) + (getF D.l f.name).1.b.size = qg D.l + f.b.size := by
 rw [<- qh0 h.sort,qcQ]
theorem qhg {w w' : World} {d : Nat} {cs : Array Value} {T : TypeId} {fr : Nat × Nat} {P : Nat -> Prop} {u : Option Addr} {t : FT} {z : Int} {rest : List Value} (hbx : w.heap[d]? = some (.cells cs T fr)) (h0 : cs.toList = .int .i64 z :: rest) (hr : MapFl.Rp P w u t) (hk : qc (· ≠ d) w w') : MapFl.Rp P w' u t :=
 hr.carry (fun k hk' => hr.ev k (Nat.le_trans hk.size hk')) fun b hlt hP ⟨k,hc⟩ => ⟨hP,hk.block b hlt fun e => by
  subst e
  rw [cell_of_row _ _ _ _ _ _ hbx] at hc
  rw [<- Array.getElem?_toList,h0] at hc
  cases hc⟩
theorem Dt.fin {w w4 : World} {d : Nat} {D D' : Dsk} {M Z : Nat -> Prop} {t t' : FT} {name : ByteArray} {v : FV} {u1 : Option Addr} (h : Dt w d D M Z (· = name) t) (hk : qc (· ≠ d) w w4) (hM : ∀ k,M k -> k < w.heap.size)
 (hb : w4.heap[d]? = some (.cells #[.int .i64 D'.room, .int .i64 ((qg D'.l : Nat) : Int), .pointer u1, .int .i64 (qcw D'), .bool D'.lost] 92)) (hr : MapFl.Rp (Pn M w) w4 u1 t') (hbst : Tr.Bst ltS t') (hfil : t'.list.map qj = D'.l)
 (hmem : ∀ p ∈ t'.list,p = (name,v) \/ (p ∈ t.list /\ p.1 ≠ name)) (hv : FRow w 0 v) (hvo : ∀ g,blk v = some g -> ¬ M g /\ ¬ Z g) (hva : ∀ p ∈ t.list,p.1 ≠ name -> ∀ g,blk v = some g -> blk p.2 ≠ some g) : Dt w4 d D' M Z noX t' := by
 obtain ⟨u,hbx,_⟩ := h.box
 have hr4 : MapFl.Rp (Pn M w4) w4 u1 t' := hr.carry (fun k hk => .inr hk) fun b hlt hP _ => ⟨.inl fun e => by
  rcases hP with hP | hP
  · exact hP e
  · have := hM b e; omega,rfl⟩
 have hrow : ∀ p ∈ t'.list,¬ noX p.1 -> qeb w4 M Z p.2 := by
  intro p hp _
  rcases hmem p hp with rfl | ⟨hp,hne⟩
  · exact ⟨hv.keep fun g hg => hk.block g (hv.lt g hg).2 fun e => hv.ne hbx (e ▸ hg),hvo⟩
  · have hrw := h.row p hp hne
    exact ⟨hrw.own.keep fun g hg => hk.block g (hrw.lt hg) fun e => hrw.ne hbx (e ▸ hg),hrw.out⟩
 have hap : ∀ a ∈ t'.list,∀ b ∈ t'.list,a.1 ≠ b.1 -> ¬ noX a.1 -> ¬ noX b.1 -> ∀ g,blk a.2 = some g -> blk b.2 ≠ some g := by
  intro a ha b hb' hab _ _ g hg
  rcases hmem a ha with rfl | ⟨ha,hna⟩
  · rcases hmem b hb' with rfl | ⟨hb',hnb⟩
    · exact absurd rfl hab
    · exact hva b hb' hnb g hg
  · rcases hmem b hb' with rfl | ⟨hb',hnb⟩
    · exact fun e => hva a ha hna g e hg
    · exact h.apart a ha b hb' hab hna hnb g hg
 exact ⟨⟨u1,hb,hr4⟩,hbst,hfil,hrow,hap,h.own⟩
theorem MapFl.Rp.setCell' {w : World} {d i : Nat} {x : Value} {z : Int} {v1 v2 v3 v4 : Value} {T : TypeId} {P : Nat -> Prop} {u : Option Addr} {t : FT} (hr : MapFl.Rp P w u t) (hbx : w.heap[d]? = some (.cells #[.int .i64 z,v1,v2,v3,v4] T)) : MapFl.Rp P (w.setCell ⟨d,i,none⟩ x) u t :=
 qhg hbx (List.toList_toArray) hr (qo w ⟨d,i,none⟩ x (fun h => h rfl))
end Go.Proofs.YtmeoooojmhhahaaGreat
namespace Go.Proofs.YtmeoooojmhhahaaGreat
open Go.RowKit
theorem bytesWorld_below (w : World) (e : TypeId) (s : ByteArray) : Below w.heap.size w (Lib.bytesWorld w e s) :=
 ⟨rfl,rfl,rfl,by rw [Lib.bytesWorld_size]; omega,fun k hk => Lib.bytesWorld_at_old w e s k hk⟩
theorem qj6 (s : ByteArray) (w : World) : Calls Tryz.prog 127 #[.string s] w fun e w' => e = .returned (.bool (qx s)) /\ Below w.heap.size w w' := by
 by_cases h1 : s.size < 1
 · have h1' : ((s.size : Int) < 1) := by omega
   have hr : qx s = false := by simp [qx,h1]
   rw [hr]
   clear hr
   go_enter Tryz.func127,Tryz.ntmps127
   go_wp2
   go_ret
   exact ⟨rfl,blq⟩
 · have h1' : ¬ ((s.size : Int) < 1) := by omega
   by_cases h2 : 12 < s.size
   · have h2' : ((12 : Int) < (s.size : Int)) := by omega
     have hr : qx s = false := by simp [qx,h2]
     rw [hr]
     clear hr
     go_enter Tryz.func127,Tryz.ntmps127
     go_wp2
     go_ret
     exact ⟨rfl,blq⟩
   · have h2' : ¬ ((12 : Int) < (s.size : Int)) := by omega
     have HR : Hid (qx s = qae s.data.toList) := ⟨by simp [qx,h1,h2]⟩
     have kc := Lib.run_convert_string_bytes (P := Tryz.prog) w 9 33 5 s Tryz.underlying9 Tryz.underlying33 Tryz.underlying5
     have hbw := bytesWorld_below w 5 s
     have hc : ∀ j (hj : j < s.size),(Lib.bytesWorld w 5 s).cell? ⟨w.heap.size,j,none⟩ = some (.int .u8 ((s[j]).toNat : Int)) := fun j hj => by
      rw [Lib.bytesWorld_cell w _ s j hj]
      have : s.data.toList.getD j 0 = s[j] := by
       rw [List.getD_eq_getElem?_getD,List.getElem?_eq_getElem (by simpa using hj)]; rfl
      rw [this]
     generalize Lib.bytesWorld w 5 s = W1 at kc hbw hc
     generalize grownCap w s.size 0 5 = cp at kc
     go_enter Tryz.func127,Tryz.ntmps127
     go_wp2
     go_loopg [16] s.size (fun g i wr => W1 = wr /\ ∃ k : Nat,k + g = s.size /\ i = .int .i64 (k : Int) /\ Hid (qae (s.data.toList.take k) = true))
     case atStart => exact ⟨rfl,0,by omega,rfl,⟨rfl⟩⟩
     case round =>
      obtain ⟨rfl,k,hk,rfl,HK⟩ := hrel
      by_cases hlt : k < s.size
      · have HT : Hid (qae (s.data.toList.take (k + 1)) = (qae (s.data.toList.take k) && !(decide ((s[k]).toNat < 33) || decide (126 < (s[k]).toNat)))) := ⟨qen s k hlt⟩
        have hlt' : (k : Int) < (s.size : Int) := by omega
        have hck := hc k hlt
        by_cases c1 : (s[k]).toNat < 33
        · have c1' : ((s[k]).toNat : Int) < 33 := by omega
          have HN : Hid (qx s = false) := ⟨qcS s (k + 1) (by rw [HT.out,decide_eq_true c1]; simp)⟩
          clear hc
          go_wp2
          go_ret
          exact ⟨by rw [HN.out]; rfl,hbw⟩
        · have c1' : ¬ (((s[k]).toNat : Int) < 33) := by omega
          by_cases c2 : 126 < (s[k]).toNat
          · have c2' : (126 : Int) < ((s[k]).toNat : Int) := by omega
            have HN : Hid (qx s = false) := ⟨qcS s (k + 1) (by rw [HT.out,decide_eq_true c2]; simp)⟩
            clear hc
            go_wp2
            go_ret
            exact ⟨by rw [HN.out]; rfl,hbw⟩
          · have c2' : ¬ ((126 : Int) < ((s[k]).toNat : Int)) := by omega
            have HY : Hid (qae (s.data.toList.take (k + 1)) = true) := ⟨by rw [HT.out,HK.out,decide_eq_false c1,decide_eq_false c2]; rfl⟩
            clear hc
            go_wp2
            go_roundg (gk - 1)
            case measure => omega
            case rel => exact ⟨rfl,k + 1,by omega,by go_num,HY⟩
      · have HY : Hid (qx s = true) := ⟨by rw [HR.out,<- HK.out,List.take_of_length_le (by simp; omega)]⟩
        obtain rfl : k = s.size := by omega
        have hdec : decide ((s.size : Int) < (s.size : Int)) = false := decide_eq_false (by omega)
        go_wp2
        go_ret
        exact ⟨by rw [HY.out]; rfl,hbw⟩
def RStr (w : World) (A : Option Addr) (l : List ByteArray) : Prop :=
 0 < l.length -> ∃ g off,A = some ⟨g,off,none⟩ /\ g < w.heap.size /\ ∀ j (hj : j < l.length),w.cell? ⟨g,off + j,none⟩ = some (.string l[j])
theorem RStr.below {w w' : World} {A : Option Addr} {l : List ByteArray} {B : Nat} (h : RStr w A l) (hb : Below B w w') (hB : w.heap.size <= B) : RStr w' A l := fun h0 => by
 obtain ⟨g,off,e,hg,hc⟩ := h h0
 exact ⟨g,off,e,Nat.lt_of_lt_of_le hg hb.size,fun j hj => (hb.cell (p := ⟨g,off + j,none⟩) (Nat.lt_of_lt_of_le hg hB)).trans (hc j hj)⟩
def qa9 (lost : Bool) (l : List ByteArray) : Nat := if lost then 5 else if l.all qx then 0 else 1
theorem qfi (D : Dsk) (a : ByteArray) : qa9 D.lost [a] = D.may a a := by simp [qa9,Dsk.may]
theorem qi3 (D : Dsk) (a b : ByteArray) : qa9 D.lost [a,b] = D.may a b := by simp [qa9,Dsk.may]
theorem qh1 (D : Dsk) : qa9 D.lost [] = if D.lost then 5 else 0 := by simp [qa9]
theorem qcU (w : World) (d : Nat) (D : Dsk) (M Z : Nat -> Prop) (X : ByteArray -> Prop) (t : FT) (h : Dt w d D M Z X t) (A : Option Addr) (cap : Nat) (l : List ByteArray) (hA : RStr w A l) (hl : l.length <= 100) :
 Calls Tryz.prog 77 #[.pointer (some ⟨d,0,none⟩), .slice A l.length cap] w fun e w' => e = .returned (.int .i64 ((qa9 D.lost l : Nat) : Int)) /\ Below w.heap.size w w' := by
 obtain ⟨u,hbx,_⟩ := h.box
 have hd := h.lt
 obtain ⟨⟨a0,a1,a2,a3,a4⟩,_⟩ := row5 hbx
 clear h hbx
 obtain ⟨room,L,set,n,lost⟩ := D
 dsimp only at *
 cases lost with
 | true =>
   go_enter Tryz.func77,Tryz.ntmps77
   go_wp2
   go_ret
   exact ⟨rfl,blq⟩
 | false =>
   go_enter Tryz.func77,Tryz.ntmps77
   go_wp2
   go_loopg [15] l.length (fun g i wr => ∃ k : Nat,k + g = l.length /\ i = .int .i64 (k : Int) /\ Below w.heap.size w wr /\ Hid ((l.take k).all qx = true))
   case atStart => exact ⟨0,by omega,rfl,blq,⟨rfl⟩⟩
   case round =>
    obtain ⟨k,hk,rfl,hb,HK⟩ := hrel
    have hlb : (l.length : Int) <= 100 := by omega
    by_cases hlt : k < l.length
    · have hlt' : (k : Int) < (l.length : Int) := by omega
      obtain ⟨g,off,rfl,hg,hc⟩ := (hA.below hb nlq) (by omega)
      have hck := hc k hlt
      have HT : Hid ((l.take (k + 1)).all qx = qx l[k]) := ⟨by rw [List.take_succ_eq_append_getElem hlt,List.all_append,HK.out]; simp⟩
      have hN := qj6 l[k] wr
      clear hc
      cases hr : qx l[k] with
      | true =>
        rw [hr] at hN HT
        clear hr
        go_wp2_with (first | (go_at_call 127; refine hN.mono ?_; rintro e w1 ⟨rfl,hb1⟩) | fail)
        go_roundg (gk - 1)
        case measure => omega
        case rel => exact ⟨k + 1,by omega,by go_num,hb.trans (hb1.mono hb.size),HT⟩
      | false =>
        rw [hr] at hN
        have HN : Hid (qa9 false l = 1) := ⟨by
         have : l.all qx = false := by
          rw [<- Bool.not_eq_true,List.all_eq_true]
          intro h
          have := h _ (List.getElem_mem hlt)
          rw [hr] at this
          cases this
         simp [qa9,this]⟩
        clear hr
        go_wp2_with (first | (go_at_call 127; refine hN.mono ?_; rintro e w1 ⟨rfl,hb1⟩) | fail)
        go_ret
        exact ⟨by rw [HN.out]; rfl,hb.trans (hb1.mono hb.size)⟩
    · obtain rfl : k = l.length := by omega
      have hdec : decide ((l.length : Int) < (l.length : Int)) = false := decide_eq_false (by omega)
      have HN : Hid (qa9 false l = 0) := ⟨by
       have := HK.out
       rw [List.take_length] at this
       simp [qa9,this]⟩
      go_wp2
      go_ret
      exact ⟨by rw [HN.out]; rfl,hb⟩
theorem qE {w : World} {d i : Nat} (u : Value) : qc (· ≠ d) w (w.setCell ⟨d,i,none⟩ u) := qo w ⟨d,i,none⟩ u (fun h => h rfl)
theorem qb2 (w : World) (d : Nat) (D : Dsk) (M Z : Nat -> Prop) (X : ByteArray -> Prop) (t : FT) (h : Dt w d D M Z X t) (hg : Good D) (hl : D.lost = false) :
 Calls Tryz.prog 87 #[.pointer (some ⟨d,0,none⟩)] w fun e w' => e = .returned (.int .i64 ((if D.burn.lost then 5 else 0 : Nat) : Int)) /\ Dt w' d D.burn M Z X t /\ qc (· ≠ d) w w' := by
 obtain ⟨u,hbx,_⟩ := h.box
 have hd := h.lt
 obtain ⟨⟨a0,a1,a2,a3,a4⟩,⟨f0,f1,f2,f3,f4⟩⟩ := row5 hbx
 have hn := hg.n
 obtain ⟨room,L,set,n,lost⟩ := D
 dsimp only at hl hn
 subst hl
 have hu : ∀ cs,w.heap[d]? = some (.cells cs 92) -> cs[2]? = some (.pointer u) := fun cs hc => by
  rw [hbx] at hc
  injection hc with hc
  injection hc with hc
  subst hc
  rfl
 cases set with
 | false =>
   have hf : qcw ⟨room,L,false,n,false⟩ = -1 := rfl
   have hbn : Dsk.burn ⟨room,L,false,n,false⟩ = ⟨room,L,false,n,false⟩ := by simp [Dsk.burn]
   rw [hbn]
   rw [hf] at a3
   have HD := Lib.hid h
   clear h hg hbx hu
   go_enter Tryz.func87,Tryz.ntmps87
   go_wp2
   go_ret
   exact ⟨rfl,HD.out,qc.refl _ _⟩
 | true =>
   have hf : qcw ⟨room,L,true,n,false⟩ = n := rfl
   rw [hf] at a3
   rw [hf] at hbx
   by_cases h0 : n = 0
   · subst h0
     have hbn : Dsk.burn ⟨room,L,true,0,false⟩ = ⟨room,L,true,0,true⟩ := by simp [Dsk.burn]
     rw [hbn]
     have HD : Hid (Dt (w.setCell ⟨d,4,none⟩ (.bool true)) d ⟨room,L,true,0,true⟩ M Z X t) := ⟨h.turn (qE _) (by rw [setCell_at w ⟨d,4,none⟩ _ _ _ _ rfl hbx]; rfl) hu rfl⟩
     clear h hg hbx hu
     go_enter Tryz.func87,Tryz.ntmps87
     go_wp2
     go_ret
     exact ⟨rfl,HD.out,qE _⟩
   · have hp : 0 < n := by omega
     have hbn : Dsk.burn ⟨room,L,true,n,false⟩ = ⟨room,L,true,n - 1,false⟩ := by simp [Dsk.burn,h0,hp]
     rw [hbn]
     have e1 : IntKind.i64.wrap (n - 1) = n - 1 := IntWalk.i64_in _ (by omega)
     have HD : Hid (Dt (w.setCell ⟨d,3,none⟩ (.int .i64 (n - 1))) d ⟨room,L,true,n - 1,false⟩ M Z X t) := ⟨h.turn (qE _) (by rw [setCell_at w ⟨d,3,none⟩ _ _ _ _ rfl hbx]; rfl) hu rfl⟩
     clear h hg hbx hu
     go_enter Tryz.func87,Tryz.ntmps87
     go_wp2
     go_ret
     exact ⟨rfl,HD.out,qE _⟩
def Found (D : Dsk) (t : FT) (name : ByteArray) (v : FV) (c : Nat) : Prop :=
 (D.may name name ≠ 0 /\ c = D.may name name /\ v = noFV) \/ (D.may name name = 0 /\ (getF D.l name).2 = false /\ c = 6 /\ v = noFV) ∨
 (D.may name name = 0 /\ (getF D.l name).2 = true /\ c = 0 /\ (name,v) ∈ t.list /\ getF D.l name = (qj (name,v),true))
theorem RStr.one (w : World) (a : ByteArray) (T : TypeId) (fr : Nat × Nat) (n : Nat) (hn : n = w.heap.size) : RStr (w.alloc (.cells #[.string a] T fr)) (some ⟨n,0,none⟩) [a] := by
 subst hn
 refine fun _ => ⟨w.heap.size,0,rfl,by simp,fun j hj => ?_⟩
 obtain rfl : j = 0 := by simpa using hj
 rw [cell_of_row _ _ _ _ _ _ (heap_alloc_new w _)]
 rfl
theorem RStr.two (w : World) (a b : ByteArray) (T : TypeId) (fr : Nat × Nat) (n : Nat) (hn : n = w.heap.size) : RStr (w.alloc (.cells #[.string a, .string b] T fr)) (some ⟨n,0,none⟩) [a,b] := by
 subst hn
 refine fun _ => ⟨w.heap.size,0,rfl,by simp,fun j hj => ?_⟩
 rw [cell_of_row _ _ _ _ _ _ (heap_alloc_new w _)]
 have : j = 0 \/ j = 1 := by simp at hj; omega
 rcases this with rfl | rfl <;> rfl
theorem qb3 (w : World) (d : Nat) (D : Dsk) (M Z : Nat -> Prop) (X : ByteArray -> Prop) (t : FT) (h : Dt w d D M Z X t) (name : ByteArray) :
 Calls Tryz.prog 85 #[.pointer (some ⟨d,0,none⟩), .string name] w fun e w' => ∃ v c,e = .returned (.tuple #[fvV v, .int .i64 ((c : Nat) : Int)]) /\ Found D t name v c /\ Below w.heap.size w w' := by
 have hR : ∀ w' A,Below w.heap.size w w' -> RStr w' A [name] -> Calls Tryz.prog 77 #[.pointer (some ⟨d,0,none⟩), .slice A 1 1] w' fun e w'' => e = .returned (.int .i64 ((D.may name name : Nat) : Int)) /\ Below w'.heap.size w' w'' := fun w' A hb hA => by
  have := qcU w' d D M Z X t (h.below hb) A 1 [name] hA (by simp)
  rwa [qfi] at this
 obtain ⟨u,hbx,hr⟩ := h.box
 have hd := h.lt
 obtain ⟨⟨a0,a1,a2,a3,a4⟩,_⟩ := row5 hbx
 have hh := h.has name
 have hF : ∀ v c,Found D t name v c -> Hid (Found D t name v c) := fun v c h => ⟨h⟩
 clear a0 a1 a3 a4 hbx
 by_cases hm : D.may name name = 0
 · rw [hm] at hR
   rcases hh with ⟨v,a,b,hf,hmem,hget⟩ | ⟨hf,hno,hget⟩
   · have HF := hF v 0 (.inr (.inr ⟨hm,by rw [hget],rfl,hmem,hget⟩))
     have hG := fun w' (hb : Below w.heap.size w w') => MapFl.get_yes t u name name v a b w' (hr.below hb nlq) hf
     clear hf hmem hget hr h hF
     go_enter Tryz.func85,Tryz.ntmps85
     go_wp2_with (first
      | (go_at_call 77
         refine (hR _ _ (by repeat (first | exact blq | refine Below.alloc ?_ (by simp <;> omega) _)) (RStr.one _ _ _ _ _ (by simp))).mono ?_
         rintro e w1 ⟨rfl,hb1⟩
         have hb : Below w.heap.size w w1 := Tr.below_of hb1 (by repeat (first | exact blq | refine Below.alloc ?_ (by simp <;> omega) _))
         have b2 := (hb.cell (p := ⟨d,2,none⟩) hd).trans a2
         have hr1 := (hb1.block w.heap.size (by simp <;> omega)).trans ((Below.heap_alloc _ _ _ (by simp)).trans (heap_alloc_new _ _))
         have hz1 : w.heap.size < w1.heap.size := hlq hr1)
      | (go_at_call 88
         refine (hG _ hb).mono ?_
         rintro e w2 ⟨rfl,hb2⟩
         have hbb : Below w.heap.size w w2 := hb.trans (hb2.mono hb.size)
         have hr2 := (hb2.block w.heap.size hz1).trans hr1
         obtain ⟨⟨k0,k1⟩,⟨k2,k3⟩⟩ := row2 hr2
         have hz : w.heap.size < w2.heap.size := hlq hr2)
      | fail)
     refine bodyPost_ret (qa (n := w.heap.size) rfl rfl (by first | exact (Below.heap_alloc _ _ _ (by simp; omega)).trans (qR _ _ _ _ _ _ _ hr2) | exact qR _ _ _ _ _ _ _ ((Below.heap_alloc _ _ _ (by omega)).trans hr2)) Tryz.underlying147 rfl (by kernel_rfl)) rfl ?_
     exact ⟨v,0,rfl,HF.out,by repeat (first | exact hbb | refine Below.alloc ?_ (by simp <;> omega) _ | refine Below.setCell ?_ (by simp <;> omega) _)⟩
   · have HF := hF noFV 6 (.inr (.inl ⟨hm,by rw [hget],rfl,rfl⟩))
     have hG := fun w' (hb : Below w.heap.size w w') => MapFl.get_no t u name w' (hr.below hb nlq) hf
     clear hf hno hget hr h hF
     go_enter Tryz.func85,Tryz.ntmps85
     go_wp2_with (first
      | (go_at_call 77
         refine (hR _ _ (by repeat (first | exact blq | refine Below.alloc ?_ (by simp <;> omega) _)) (RStr.one _ _ _ _ _ (by simp))).mono ?_
         rintro e w1 ⟨rfl,hb1⟩
         have hb : Below w.heap.size w w1 := Tr.below_of hb1 (by repeat (first | exact blq | refine Below.alloc ?_ (by simp <;> omega) _))
         have b2 := (hb.cell (p := ⟨d,2,none⟩) hd).trans a2
         have hr1 := (hb1.block w.heap.size (by simp <;> omega)).trans ((Below.heap_alloc _ _ _ (by simp)).trans (heap_alloc_new _ _))
         have hz1 : w.heap.size < w1.heap.size := hlq hr1)
      | (go_at_call 88
         refine (hG _ hb).mono ?_
         rintro e w2 ⟨rfl,hb2⟩
         have hbb : Below w.heap.size w w2 := hb.trans (hb2.mono hb.size)
         have hr2 := (hb2.block w.heap.size hz1).trans hr1
         obtain ⟨⟨k0,k1⟩,⟨k2,k3⟩⟩ := row2 hr2
         have hz : w.heap.size < w2.heap.size := hlq hr2)
      | fail)
     refine bodyPost_ret (qa (n := w.heap.size) rfl rfl (by first | exact (Below.heap_alloc _ _ _ (by simp; omega)).trans (qR _ _ _ _ _ _ _ hr2) | exact qR _ _ _ _ _ _ _ ((Below.heap_alloc _ _ _ (by omega)).trans hr2)) Tryz.underlying147 rfl (by kernel_rfl)) rfl ?_
     exact ⟨noFV,6,rfl,HF.out,by repeat (first | exact hbb | refine Below.alloc ?_ (by simp <;> omega) _ | refine Below.setCell ?_ (by simp <;> omega) _)⟩
 · have HF := hF noFV (D.may name name) (.inl ⟨hm,rfl,rfl⟩)
   generalize D.may name name = c at *
   clear hh hr h hF
   have hm' : ¬ ((c : Int) = 0) := by omega
   go_enter Tryz.func85,Tryz.ntmps85
   go_wp2_with (first
    | (go_at_call 77
       refine (hR _ _ (by repeat (first | exact blq | refine Below.alloc ?_ (by simp <;> omega) _)) (RStr.one _ _ _ _ _ (by simp))).mono ?_
       rintro e w1 ⟨rfl,hb1⟩
       have hb : Below w.heap.size w w1 := Tr.below_of hb1 (by repeat (first | exact blq | refine Below.alloc ?_ (by simp <;> omega) _))
       have hr1 := (hb1.block w.heap.size (by simp <;> omega)).trans ((Below.heap_alloc _ _ _ (by simp)).trans (heap_alloc_new _ _))
       obtain ⟨⟨k0,k1⟩,⟨k2,k3⟩⟩ := row2 hr1
       have hz1 : w.heap.size < w1.heap.size := hlq hr1)
    | fail)
   refine bodyPost_ret (qa (n := w.heap.size) rfl rfl (qR _ _ _ _ _ _ _ hr1) Tryz.underlying147 rfl (by kernel_rfl)) rfl ?_
   exact ⟨noFV,c,rfl,HF.out,by repeat (first | exact hb | refine Below.alloc ?_ (by simp <;> omega) _ | refine Below.setCell ?_ (by simp <;> omega) _)⟩
end Go.Proofs.YtmeoooojmhhahaaGreat
namespace Go.Proofs.YtmeoooojmhhahaaGreat
open Go.RowKit
theorem Dt.gets {w : World} {d : Nat} {D : Dsk} {M Z : Nat -> Prop} {X : ByteArray -> Prop} {t : FT} (h : Dt w d D M Z X t) (name : ByteArray) :
 ∃ v ok,(getF D.l name).1.b.size = v.l.length /\ (getF D.l name).1.safe = v.safe /\ (ok = true -> (name,v) ∈ t.list) /\ (ok = false -> v = noFV) /\ (getF D.l name).2 = ok ∧
  ∀ (P : Nat -> Prop) (w' : World) (u : Option Addr),MapFl.Rp P w' u t -> Calls Tryz.prog 88 #[.agg #[.pointer u], .string name] w' fun e w'' => e = .returned (.tuple #[fvV v, .bool ok]) /\ Below w'.heap.size w' w'' := by
 rcases h.has name with ⟨v,a,b,hf,hmem,hget⟩ | ⟨hf,hno,hget⟩
 · refine ⟨v,true,by rw [hget]; rfl,by rw [hget]; rfl,(fun _ => hmem),(fun e => by cases e),by rw [hget],fun P w' u hr => MapFl.get_yes t u name name v a b w' hr hf⟩
 · exact ⟨noFV,false,by rw [hget]; rfl,by rw [hget]; rfl,(fun e => by cases e),(fun _ => rfl),by rw [hget],fun P w' u hr => MapFl.get_no t u name w' hr hf⟩
theorem qdf (w : World) (d : Nat) (D : Dsk) (M Z : Nat -> Prop) (t : FT) (name : ByteArray) (v : FV) (h : Dt w d D M Z (· = name) t) (hM : ∀ k,M k -> k < w.heap.size)
 (hv : FRow w 0 v) (hvo : ∀ g,blk v = some g -> ¬ M g /\ ¬ Z g) (hva : ∀ p ∈ t.list,p.1 ≠ name -> ∀ g,blk v = some g -> blk p.2 ≠ some g)
 (hu : qg D.l <= 2000000000) (hvl : v.l.length <= 2000000000) (hs : t.size + 1 <= 4000000) :
 Calls Tryz.prog 81 #[.pointer (some ⟨d,0,none⟩), .string name,fvV v] w fun e w' => e = .returned (.tuple #[]) /\ ∃ t',Dt w' d { D with l := putF D.l (qj (name,v)) } M Z noX t' /\ (∀ p ∈ t'.list,p = (name,v) \/ (p ∈ t.list /\ p.1 ≠ name)) /\ (∀ p ∈ t.list,p.1 ≠ name -> p ∈ t'.list) /\ qc (· ≠ d) w w' := by
 obtain ⟨v0,ok,g1,_,_,_,_,hG⟩ := h.gets name
 have hused := h.used (qj (name,v))
 have hfn : (qj (name,v)).name = name := rfl
 have hfb : (qj (name,v)).b.size = v.l.length := rfl
 rw [hfn,g1,hfb] at hused
 obtain ⟨u,hbx,hr⟩ := h.box
 have hd := h.lt
 obtain ⟨⟨a0,a1,a2,a3,a4⟩,⟨f0,f1,f2,f3,f4⟩⟩ := row5 hbx
 have hRp : ∀ w',qc (· ≠ d) w w' -> MapFl.Rp (Pn M w) w' u t := fun w' hk => qhg hbx (List.toList_toArray) hr hk
 have e1 : IntKind.i64.wrap ((v.l.length : Int) - (v0.l.length : Int)) = (v.l.length : Int) - (v0.l.length : Int) := IntWalk.i64_in _ (by omega)
 have e2 : IntKind.i64.wrap ((qg D.l : Int) + ((v.l.length : Int) - (v0.l.length : Int))) = ((qg (putF D.l (qj (name,v))) : Nat) : Int) := by
  rw [IntWalk.i64_in _ (by omega)]; omega
 have hG' := fun w' (hb : Below w.heap.size w w') => hG (Pn M w) w' u (hr.below hb nlq)
 clear hG g1 hused hfn hfb
 have HX := Lib.hid hbx
 have HD := Lib.hid h
 have HV := Lib.hid hv
 have HO := Lib.hid hvo
 have HA := Lib.hid hva
 have hbst := h.bst
 have hfil := Lib.hid h.fil
 by_cases hz : v.l.length = 0
 · have hP := fun w' hk => MapFl.del_map t u name w' (hRp w' hk) hbst (by omega)
   have hz' : ((v.l.length : Int) == 0) = true := by simp [hz]
   have HZ := Lib.hid hz
   clear hz
   have hL : ∀ t',(t' = Tr.del ltS t name /\ Tr.find ltS name t ≠ .nil \/ t' = t /\ Tr.find ltS name t = .nil) -> Hid (t'.list = Tr.delL ltS name t.list /\ Tr.Bst ltS t') := fun t' hh => ⟨by
    rcases hh with ⟨rfl,_⟩ | ⟨rfl,hn⟩
    · exact ⟨Tr.list_del linS t name hbst,hbst.del linS name⟩
    · refine ⟨?_,hbst⟩
      have hno := Tr.find_mem linS name t' hbst hn
      refine (List.filter_eq_self.2 fun p hp => ?_).symm
      cases h1 : ltS p.1 name with
      | true => rfl
      | false =>
        cases h2 : ltS name p.1 with
        | true => rfl
        | false => exact absurd (qbz h1 h2) (hno p hp)⟩
   clear hRp hr hbx h hv hvo hva hbst
   go_enter Tryz.func81,Tryz.ntmps81
   go_wp2_with (first
    | (go_at_call 88
       refine (hG' _ (by repeat (first | exact blq | refine Below.alloc ?_ (by simp <;> omega) _))).mono ?_
       rintro e w1 ⟨rfl,hb1⟩
       have hb : Below w.heap.size w w1 := Tr.below_of hb1 (by repeat (first | exact blq | refine Below.alloc ?_ (by simp <;> omega) _))
       have b1 := (hb.cell (p := ⟨d,1,none⟩) hd).trans a1
       have b2 := (hb.cell (p := ⟨d,2,none⟩) hd).trans a2
       have q1 := (hb.frozen (p := ⟨d,1,none⟩) hd).trans f1
       have q2 := (hb.frozen (p := ⟨d,2,none⟩) hd).trans f2
       have hr1 := (hb1.block w.heap.size (by simp)).trans (heap_alloc_new _ _)
       obtain ⟨⟨k0,k1⟩,_⟩ := row2 hr1
       have hz1 : w.heap.size < w1.heap.size := hlq hr1
       have hd1 : d < w1.heap.size := Nat.lt_of_lt_of_le hd hb.size)
    | fail)
   go_region
   go_wp2_with fail
   generalize hW : World.drew _ = W2
   have kk : qc (· ≠ d) w W2 := by
    rw [<- hW]
    exact ((qe hb nlq).trans ((qE _).trans (qG _ _))).drew
   have hbx2 : W2.heap[d]? = some (.cells #[.int .i64 D.room, .int .i64 ((qg (putF D.l (qj (name,v))) : Nat) : Int), .pointer u, .int .i64 (qcw D), .bool D.lost] 92) := by
    rw [<- hW]
    refine (Below.heap_alloc _ _ _ (by simp; omega)).trans ?_
    rw [setCell_at w1 ⟨d,1,none⟩ _ _ _ _ rfl ((hb.block d hd).trans HX.out)]
    rfl
   have hr2 : W2.heap[w.heap.size]? = some (.cells #[fvS v,fvN v] 147) := by
    rw [<- hW]
    exact (Below.heap_alloc _ _ _ (by simp; omega)).trans ((Below.heap_setCell _ _ _ _ (by show w.heap.size ≠ d; omega)).trans hr1)
   clear hW hb1 hb hr1 k0 k1 b1 b2 q1 q2 a0 a1 a2 a3 a4 f0 f1 f2 f3 f4 hz1 hd1 hG'
   obtain ⟨⟨a0,a1,a2,a3,a4⟩,⟨f0,f1,f2,f3,f4⟩⟩ := row5 hbx2
   obtain ⟨⟨k0,k1⟩,_⟩ := row2 hr2
   have hd2 : d < W2.heap.size := hlq hbx2
   have HK := Lib.hid kk
   have HBX := Lib.hid hbx2
   clear kk hbx2 hr2
   refine (hP _ HK.out).mono ?_
   rintro e w3 ⟨u1,t',rfl,hr3,ht',hb3⟩
   have hbx3 := (hb3.block d hd2).trans HBX.out
   obtain ⟨⟨p0,p1,p2,p3,p4⟩,⟨m0,m1,m2,m3,m4⟩⟩ := row5 hbx3
   have kk := HK.out
   go_wp2_with fail
   refine bodyPost_end (results_none rfl _ _ _) rfl ?_
   refine ⟨rfl,t',HD.out.fin (kk.trans ((qe hb3 nlq).trans (qE _))) hM (by rw [setCell_at w3 ⟨d,2,none⟩ _ _ _ _ rfl hbx3]; rfl) (hr3.setCell' hbx3) (hL t' ht').out.2 (by rw [(hL t' ht').out.1,qk9 HD.out.bst name (qj (name,v)) rfl HZ.out,hfil.out]) (fun p hp => .inr (qhf ((hL t' ht').out.1 ▸ hp))) HV.out HO.out HA.out,(fun p hp => .inr (qhf ((hL t' ht').out.1 ▸ hp))),(fun p hp hn => by rw [(hL t' ht').out.1]; exact qlP hp hn),kk.trans ((qe hb3 nlq).trans (qE _))⟩
 · have hz' : ¬ ((v.l.length : Int) = 0) := by omega
   have hP := fun w' hk => MapFl.put_map t u name v w' (hRp w' hk) hs
   have hlp := Lib.hid (Tr.list_put linS name v t hbst)
   have hbp := Lib.hid (hbst.put linS name v)
   clear hRp hr hbx h hv hvo hva hbst
   go_enter Tryz.func81,Tryz.ntmps81
   go_wp2_with (first
    | (go_at_call 88
       refine (hG' _ (by repeat (first | exact blq | refine Below.alloc ?_ (by simp <;> omega) _))).mono ?_
       rintro e w1 ⟨rfl,hb1⟩
       have hb : Below w.heap.size w w1 := Tr.below_of hb1 (by repeat (first | exact blq | refine Below.alloc ?_ (by simp <;> omega) _))
       have b1 := (hb.cell (p := ⟨d,1,none⟩) hd).trans a1
       have b2 := (hb.cell (p := ⟨d,2,none⟩) hd).trans a2
       have q1 := (hb.frozen (p := ⟨d,1,none⟩) hd).trans f1
       have q2 := (hb.frozen (p := ⟨d,2,none⟩) hd).trans f2
       have hr1 := (hb1.block w.heap.size (by simp)).trans (heap_alloc_new _ _)
       obtain ⟨⟨k0,k1⟩,_⟩ := row2 hr1
       have hz1 : w.heap.size < w1.heap.size := hlq hr1
       have hd1 : d < w1.heap.size := Nat.lt_of_lt_of_le hd hb.size)
    | fail)
   go_region
   go_wp2_with fail
   generalize hW : World.drew _ = W2
   have kk : qc (· ≠ d) w W2 := by
    rw [<- hW]
    exact ((qe hb nlq).trans ((qE _).trans (qG _ _))).drew
   have hbx2 : W2.heap[d]? = some (.cells #[.int .i64 D.room, .int .i64 ((qg (putF D.l (qj (name,v))) : Nat) : Int), .pointer u, .int .i64 (qcw D), .bool D.lost] 92) := by
    rw [<- hW]
    refine (Below.heap_alloc _ _ _ (by simp; omega)).trans ?_
    rw [setCell_at w1 ⟨d,1,none⟩ _ _ _ _ rfl ((hb.block d hd).trans HX.out)]
    rfl
   have hr2 : W2.heap[w.heap.size]? = some (.cells #[fvS v,fvN v] 147) := by
    rw [<- hW]
    exact (Below.heap_alloc _ _ _ (by simp; omega)).trans ((Below.heap_setCell _ _ _ _ (by show w.heap.size ≠ d; omega)).trans hr1)
   clear hW hb1 hb hr1 k0 k1 b1 b2 q1 q2 a0 a1 a2 a3 a4 f0 f1 f2 f3 f4 hz1 hd1 hG'
   obtain ⟨⟨a0,a1,a2,a3,a4⟩,⟨f0,f1,f2,f3,f4⟩⟩ := row5 hbx2
   obtain ⟨⟨k0,k1⟩,_⟩ := row2 hr2
   have hd2 : d < W2.heap.size := hlq hbx2
   have HK := Lib.hid kk
   have HBX := Lib.hid hbx2
   clear kk hbx2 hr2
   go_region_with (first
    | (go_at_call 125
       refine (hP _ (by first | exact HK.out | exact HK.out.drew)).mono ?_
       rintro e w3 ⟨u1,rfl,hr3,hb3⟩
       have hbx3 := (hb3.block d hd2).trans HBX.out
       obtain ⟨⟨p0,p1,p2,p3,p4⟩,⟨m0,m1,m2,m3,m4⟩⟩ := row5 hbx3)
    | fail)
   all_goals
    have kk := HK.out.drew
    go_wp2_with fail
    refine bodyPost_end (results_none rfl _ _ _) rfl ?_
    refine ⟨rfl,_,HD.out.fin (kk.trans ((qe hb3 nlq).trans (qE _))) hM (by rw [setCell_at w3 ⟨d,2,none⟩ _ _ _ _ rfl hbx3]; rfl) (hr3.setCell' hbx3) hbp.out (by rw [hlp.out,qk8 _ _ _ (Nat.pos_of_ne_zero hz),hfil.out]) (fun p hp => qhe (hlp.out ▸ hp)) HV.out HO.out HA.out,(fun p hp => qhe (hlp.out ▸ hp)),(fun p hp hn => by rw [hlp.out]; exact qlO hp hn),kk.trans ((qe hb3 nlq).trans (qE _))⟩
end Go.Proofs.YtmeoooojmhhahaaGreat
