/- One act, by the program and by the document: they answer alike. -/
import Derived.Test.YtmeoooojmhhahaaGreatTVauOps
import Derived.BigRegion
import Derived.ChangeAlike
set_option linter.unusedVariables false
set_option linter.unusedSimpArgs false
set_option maxRecDepth 100000
set_option maxHeartbeats 600000
namespace Go.Proofs.YtmeoooojmhhahaaGreat
open Go.RowKit
theorem qb4 (w : World) (C0 C1 C2 : Array Value) (T0 T1 T2 : TypeId) : ∃ W,W = ((w.alloc (.cells C0 T0)).alloc (.cells C1 T1)).alloc (.cells C2 T2) /\ Below w.heap.size w W /\ W.heap.size = w.heap.size + 3 ∧
 W.heap[w.heap.size]? = some (.cells C0 T0) /\ W.heap[w.heap.size + 1]? = some (.cells C1 T1) /\ W.heap[w.heap.size + 1 + 1]? = some (.cells C2 T2) := by
 refine ⟨_,rfl,((blq.alloc nlq _).alloc (by simp) _).alloc (by simp; omega) _,by simp,?_,?_,?_⟩
 · rw [Below.heap_alloc _ _ _ (by simp; omega),Below.heap_alloc _ _ _ (by simp)]; exact heap_alloc_new _ _
 · rw [Below.heap_alloc _ _ _ (by simp)]; exact heap_alloc2_new _ _ _
 · have := heap_alloc_new ((w.alloc (.cells C0 T0)).alloc (.cells C1 T1)) (.cells C2 T2)
   rwa [World.size_alloc,World.size_alloc] at this
structure Alike (O : qM) (w : World) (d : Nat) (A : Option Addr) (cap : Nat) (D : Dsk) (Z : Nat -> Prop) : Prop where
 dk : O.Dk w d D Z
 good : Good D
 lt : ∀ k,Z k -> k < w.heap.size
 rf : RF w A cap D.l
 rz : InZ Z A D.l.length
def qaj (O : qM) (w : World) (d' : Nat) (Z : Nat -> Prop) (D' : Dsk) (e : Ending) (w' : World) : Prop :=
 ∃ A' cap' Z',e = .returned (.tuple #[dptr d',qD A' cap' D', .bool true]) /\ Alike O w' d' A' cap' D' Z' /\ (∀ k,Z k -> Z' k) /\ qc Z w w'
def within (Z : Nat -> Prop) (n : Nat) : Nat -> Prop := fun k => Z k \/ (n <= k /\ k < n + 3)
theorem Alike.enter {O : qM} {w W : World} {d : Nat} {A : Option Addr} {cap : Nat} {D : Dsk} {Z : Nat -> Prop} (h : Alike O w d A cap D Z) (hb : Below w.heap.size w W) (hs : W.heap.size = w.heap.size + 3) : Alike O W d A cap D (within Z w.heap.size) := by
 refine ⟨O.keep (O.out h.dk ?_) hb.size (fun k hk _ => hb.block k hk),h.good,?_,h.rf.below hb nlq,fun h0 a e => .inl (h.rz h0 a e)⟩
 · rintro k (hk | hk)
   · exact .inl hk
   · exact .inr hk.1
 · rintro k (hk | hk)
   · have := h.lt k hk; omega
   · omega
theorem qaj.mk {O : qM} {w W w1 w2 w3 : World} {d' : Nat} {A A' : Option Addr} {cap cap' : Nat} {l : List Fil} {D' : Dsk} {Z : Nat -> Prop} (hb : Below w.heap.size w W) (hs : W.heap.size = w.heap.size + 3) (hZ : ∀ k,Z k -> k < w.heap.size)
 (hd : O.Dk w1 d' D' (within Z w.heap.size)) (hk : qc (within Z w.heap.size) W w1) (hr : RF w1 A cap l) (hz : InZ Z A l.length) (hg : Got w1 A cap l w2 A' cap' D'.l) (good : Good D')
 (h3b : Below w.heap.size w2 w3) (h3 : ∀ k,k < w2.heap.size -> ¬ (w.heap.size <= k /\ k < w.heap.size + 3) -> w3.heap[k]? = w2.heap[k]?) {e : Ending} (he : e = .returned (.tuple #[dptr d',qD A' cap' D', .bool true])) :
 qaj O w d' Z D' e w3 := by
 have hs1 : w.heap.size + 3 <= w1.heap.size := by have := hk.size; omega
 have hs2 := hg.1.size
 have h3s := h3b.size
 refine ⟨A',cap',fun k => within Z w.heap.size k \/ (w1.heap.size <= k /\ k < w3.heap.size),he,⟨?_,good,?_,?_,?_⟩,fun k hk => .inl (.inl hk),?_⟩
 · refine O.keep (w := w1) (O.out hd ?_) (by omega) (fun k h1 h2 => (h3 k (by omega) fun h => h2 (.inl (.inr h))).trans (hg.1.block k h1))
   rintro k (hk | hk)
   · exact .inl hk
   · exact .inr hk.1
 · rintro k ((hk | hk) | hk)
   · have := hZ k hk; omega
   · omega
   · exact hk.2
 · have h2 := hg.rf hr
   rcases hg.2 with ⟨rfl,rfl,e⟩ | ⟨h4,h5⟩
   · rw [e]
     refine ⟨hr.1,fun h0 => ?_⟩
     obtain ⟨g,off,e1,hg1,hc⟩ := hr.2 h0
     refine ⟨g,off,e1,by omega,fun j hj => ?_⟩
     obtain ⟨c0,c1,c2⟩ := hc j hj
     have hgz := hZ _ (hz h0 _ e1)
     have hx : ∀ o,w3.cell? ⟨g,o,none⟩ = w1.cell? ⟨g,o,none⟩ := fun o => World.cell?_of_block ((h3 g (by omega) (by dsimp only at hgz; omega)).trans (hg.1.block g hg1))
     exact ⟨(hx _).trans c0,(hx _).trans c1,(hx _).trans c2⟩
   · exact h4.keepN h5 h3s fun g h1 h2 => h3 g h2 (by omega)
 · intro h0 a e1
   rcases hg.2 with ⟨rfl,rfl,e⟩ | ⟨h4,h5⟩
   · exact .inl (.inl (hz (by rw [<- e]; exact h0) a e1))
   · obtain ⟨g,off,e2,hg2,_⟩ := h4.2 h0
     have := h5 a e1
     rw [e2] at e1
     injection e1 with e1
     subst e1
     exact .inr ⟨this,by dsimp only; omega⟩
 · have hk1 : qc Z w w1 := (qe hb nlq).trans (hk.mono fun k hk => .inl hk)
   refine ⟨?_,?_,?_,by have := hk1.size; omega,fun k h1 h2 => ?_⟩
   · rw [h3b.os,hg.1.os,hk1.os]
   · rw [h3b.tape,hg.1.tape,hk1.tape]
   · rw [h3b.output,hg.1.output,hk1.output]
   · rw [h3 k (by omega) (by omega),hg.1.block k (by omega)]
     exact hk1.block k h1 h2
theorem qkz (O : qM) (w : World) (d : Nat) (A : Option Addr) (cap : Nat) (D : Dsk) (Z : Nat -> Prop) (name to_ : ByteArray) (bA : Option Addr) (bcap : Nat) (bL : List UInt8) (n : Int) (kA : Option Addr) (klen kcap : Nat) (kY : Nat -> Int)
 (h : Alike O w d A cap D Z) (ha : qam w Z ⟨0,name,to_,bA,bcap,bL,n,kA,klen,kcap,kY⟩) (h1 : name.size <= 20) (h2 : to_.size <= 20) (h3 : bL.length <= 300) (h4 : klen <= 20) :
 Calls Tryz.prog 19 #[dptr d,qD A cap D,(.agg #[.int .u8 0, .string name, .string to_, .slice bA bL.length bcap, .int .i64 n, .slice kA klen kcap])] w (qaj O w d Z (D.append name ⟨bL.toArray⟩).1) := by
 obtain ⟨W,hW,hbW,hsW,m0,m1,m2⟩ := qb4 w (diskC A cap D) #[.int .u8 0, .string name, .string to_, .slice bA bL.length bcap, .int .i64 n, .slice kA klen kcap] qas 41 53 41
 have HW := Lib.hid hW.symm
 have hE := h.enter hbW hsW
 have hbz : InZ (within Z w.heap.size) bA bL.length := fun h0 x e => .inl (ha.bz h0 x e)
 have hbl := ha.b.below hbW nlq
 have hP := O.append W d D _ name bA bcap bL hE.dk hE.good hE.lt (ha.b.below hbW nlq) (by omega) ha.bcap (by omega)
 have hR := fun w1 hr => qc5 A cap D name ⟨bL.toArray⟩ w1 hr (by have := h.good.len; omega) (by have := h.good.n; omega) (by have := h.good.usedN; omega) (by show bL.toArray.size <= _; simp; omega)
 have hgood := h.good.append name ⟨bL.toArray⟩
 generalize D.append name ⟨bL.toArray⟩ = R at hP hR hgood ⊢
 obtain ⟨⟨eroom,el,eset,en,elost⟩,ec⟩ := R
 obtain ⟨room,l,set,nn,lost⟩ := D
 dsimp only at *
 clear hW
 go_enter Tryz.func19,Tryz.ntmps19
 go_wp2_with fail
 rw [HW.out]
 refine hP.mono ?_
 rintro e w1 ⟨rfl,hd1,k1⟩
 have p0 := (k1.block _ (by omega) (.inr (by omega))).trans m0
 have p1 := (k1.block _ (by omega) (.inr (by omega))).trans m1
 have p2 := (k1.block _ (by omega) (.inr (by omega))).trans m2
 obtain ⟨⟨a0,a1,a2,a3,a4⟩,_⟩ := row5 p0
 obtain ⟨⟨b0,b1,b2,b3,b4,b5⟩,_⟩ := row6 p1
 have hr1 := k1.rf hE.rf hE.rz
 have hcv := (k1.lies hbl hbz).text Tryz.underlying33 Tryz.underlying5 Tryz.underlying9
 have hQ := hR w1 hr1
 clear hP hR m0 m1 m2 HW
 go_wp2_with fail
 refine hQ.mono ?_
 rintro e w2 ⟨A2,cap2,rfl,hg⟩
 have hs1 : w.heap.size + 3 <= w1.heap.size := by have := k1.size; omega
 have q0 := (hg.1.block _ (by omega)).trans p0
 have q2 := (hg.1.block _ (by omega)).trans p2
 clear hQ p0 p1 p2 a0 a1 a2 a3 a4 b0 b1 b2 b3 b4 b5
 obtain ⟨⟨a0,a1,a2,a3,a4⟩,⟨b0,b1,b2,b3,b4⟩⟩ := row5 q0
 obtain ⟨⟨c0,c1,c2,c3,c4⟩,⟨d0,d1,d2,d3,d4⟩⟩ := row5 q2
 have Q2 := Lib.hid q2
 have Q0 := Lib.hid q0
 clear q0 q2
 go_wp2
 obtain ⟨X,hX⟩ : ∃ X,X = ((((w2.setCell ⟨w.heap.size,0,none⟩ (.int .i64 eroom)).setCell ⟨w.heap.size,1,none⟩ (.slice A2 el.length cap2)).setCell ⟨w.heap.size,2,none⟩ (.bool eset)).setCell ⟨w.heap.size,3,none⟩ (.int .i64 en)).setCell ⟨w.heap.size,4,none⟩ (.bool elost) := ⟨_,rfl⟩
 have x0 := qw w2 w.heap.size (.int .i64 eroom) (.slice A2 el.length cap2) (.bool eset) (.int .i64 en) (.bool elost) _ _ _ _ _ _ Q0.out
 have x2 := (qf w2 (n := w.heap.size) (k := w.heap.size + 1 + 1) (by omega) (.int .i64 eroom) (.slice A2 el.length cap2) (.bool eset) (.int .i64 en) (.bool elost)).trans Q2.out
 have xb : Below w.heap.size w2 X := by rw [hX]; exact qk blq nlq _ _ _ _ _
 have xf : ∀ k,k ≠ w.heap.size -> X.heap[k]? = w2.heap[k]? := fun k hk => by rw [hX]; exact qf w2 hk _ _ _ _ _
 rw [<- hX] at x0 x2 ⊢
 clear a0 a1 a2 a3 a4 b0 b1 b2 b3 b4 c0 c1 c2 c3 c4 d0 d1 d2 d3 d4
 obtain ⟨⟨a0,a1,a2,a3,a4⟩,_⟩ := row5 x0
 obtain ⟨⟨c0,c1,c2,c3,c4⟩,⟨d0,d1,d2,d3,d4⟩⟩ := row5 x2
 have X2 := Lib.hid x2
 clear hX x0 x2
 go_region
 all_goals
  go_wp2
  refine bodyPost_ret (qU (n := w.heap.size + 1 + 1) rfl rfl (qaW _ _ _ _ _ _ _ _ _ _ _ _ _ X2.out) Tryz.underlying41 rfl (by kernel_rfl)) rfl ?_
  exact qaj.mk hbW hsW h.lt hd1 k1 hr1 h.rz hg hgood (qk xb (by omega) _ _ _ _ _).drew (fun k h1 h2 => (qaZ (qf X (by omega) _ _ _ _ _)).trans (xf k (by omega))) rfl
theorem qlY (O : qM) (w : World) (d : Nat) (A : Option Addr) (cap : Nat) (D : Dsk) (Z : Nat -> Prop) (name to_ : ByteArray) (bA : Option Addr) (bcap : Nat) (bL : List UInt8) (n : Int) (kA : Option Addr) (klen kcap : Nat) (kY : Nat -> Int)
 (h : Alike O w d A cap D Z) (ha : qam w Z ⟨1,name,to_,bA,bcap,bL,n,kA,klen,kcap,kY⟩) (h1 : name.size <= 20) (h2 : to_.size <= 20) (h3 : bL.length <= 300) (h4 : klen <= 20) :
 Calls Tryz.prog 19 #[dptr d,qD A cap D,(.agg #[.int .u8 1, .string name, .string to_, .slice bA bL.length bcap, .int .i64 n, .slice kA klen kcap])] w (qaj O w d Z (D.sync name).1) := by
 obtain ⟨W,hW,hbW,hsW,m0,m1,m2⟩ := qb4 w (diskC A cap D) #[.int .u8 1, .string name, .string to_, .slice bA bL.length bcap, .int .i64 n, .slice kA klen kcap] qas 41 53 41
 have HW := Lib.hid hW.symm
 have hE := h.enter hbW hsW
 have hP := O.sync W d D _ name hE.dk hE.good hE.lt (by omega)
 have hR := fun w1 hr => qdR A cap D name w1 hr (by have := h.good.len; omega) (by have := h.good.n; omega)
 have hgood := h.good.sync name
 generalize D.sync name = R at hP hR hgood ⊢
 obtain ⟨⟨eroom,el,eset,en,elost⟩,ec⟩ := R
 obtain ⟨room,l,set,nn,lost⟩ := D
 dsimp only at *
 clear hW
 go_enter Tryz.func19,Tryz.ntmps19
 go_wp2_with fail
 rw [HW.out]
 refine hP.mono ?_
 rintro e w1 ⟨rfl,hd1,k1⟩
 have p0 := (k1.block _ (by omega) (.inr (by omega))).trans m0
 have p1 := (k1.block _ (by omega) (.inr (by omega))).trans m1
 have p2 := (k1.block _ (by omega) (.inr (by omega))).trans m2
 obtain ⟨⟨a0,a1,a2,a3,a4⟩,_⟩ := row5 p0
 obtain ⟨⟨b0,b1,b2,b3,b4,b5⟩,_⟩ := row6 p1
 have hr1 := k1.rf hE.rf hE.rz
 have hQ := hR w1 hr1
 clear hP hR m0 m1 m2 HW
 go_wp2_with fail
 refine hQ.mono ?_
 rintro e w2 ⟨A2,cap2,rfl,hg⟩
 have hs1 : w.heap.size + 3 <= w1.heap.size := by have := k1.size; omega
 have q0 := (hg.1.block _ (by omega)).trans p0
 have q2 := (hg.1.block _ (by omega)).trans p2
 clear hQ p0 p1 p2 a0 a1 a2 a3 a4 b0 b1 b2 b3 b4 b5
 obtain ⟨⟨a0,a1,a2,a3,a4⟩,⟨b0,b1,b2,b3,b4⟩⟩ := row5 q0
 obtain ⟨⟨c0,c1,c2,c3,c4⟩,⟨d0,d1,d2,d3,d4⟩⟩ := row5 q2
 have Q2 := Lib.hid q2
 have Q0 := Lib.hid q0
 clear q0 q2
 go_wp2
 obtain ⟨X,hX⟩ : ∃ X,X = ((((w2.setCell ⟨w.heap.size,0,none⟩ (.int .i64 eroom)).setCell ⟨w.heap.size,1,none⟩ (.slice A2 el.length cap2)).setCell ⟨w.heap.size,2,none⟩ (.bool eset)).setCell ⟨w.heap.size,3,none⟩ (.int .i64 en)).setCell ⟨w.heap.size,4,none⟩ (.bool elost) := ⟨_,rfl⟩
 have x0 := qw w2 w.heap.size (.int .i64 eroom) (.slice A2 el.length cap2) (.bool eset) (.int .i64 en) (.bool elost) _ _ _ _ _ _ Q0.out
 have x2 := (qf w2 (n := w.heap.size) (k := w.heap.size + 1 + 1) (by omega) (.int .i64 eroom) (.slice A2 el.length cap2) (.bool eset) (.int .i64 en) (.bool elost)).trans Q2.out
 have xb : Below w.heap.size w2 X := by rw [hX]; exact qk blq nlq _ _ _ _ _
 have xf : ∀ k,k ≠ w.heap.size -> X.heap[k]? = w2.heap[k]? := fun k hk => by rw [hX]; exact qf w2 hk _ _ _ _ _
 rw [<- hX] at x0 x2 ⊢
 clear a0 a1 a2 a3 a4 b0 b1 b2 b3 b4 c0 c1 c2 c3 c4 d0 d1 d2 d3 d4
 obtain ⟨⟨a0,a1,a2,a3,a4⟩,_⟩ := row5 x0
 obtain ⟨⟨c0,c1,c2,c3,c4⟩,⟨d0,d1,d2,d3,d4⟩⟩ := row5 x2
 have X2 := Lib.hid x2
 clear hX x0 x2
 go_region
 all_goals
  go_wp2
  refine bodyPost_ret (qU (n := w.heap.size + 1 + 1) rfl rfl (qaW _ _ _ _ _ _ _ _ _ _ _ _ _ X2.out) Tryz.underlying41 rfl (by kernel_rfl)) rfl ?_
  exact qaj.mk hbW hsW h.lt hd1 k1 hr1 h.rz hg hgood (qk xb (by omega) _ _ _ _ _).drew (fun k h1 h2 => (qaZ (qf X (by omega) _ _ _ _ _)).trans (xf k (by omega))) rfl
theorem qmc (O : qM) (w : World) (d : Nat) (A : Option Addr) (cap : Nat) (D : Dsk) (Z : Nat -> Prop) (name to_ : ByteArray) (bA : Option Addr) (bcap : Nat) (bL : List UInt8) (n : Int) (kA : Option Addr) (klen kcap : Nat) (kY : Nat -> Int)
 (h : Alike O w d A cap D Z) (ha : qam w Z ⟨2,name,to_,bA,bcap,bL,n,kA,klen,kcap,kY⟩) (h1 : name.size <= 20) (h2 : to_.size <= 20) (h3 : bL.length <= 300) (h4 : klen <= 20) :
 Calls Tryz.prog 19 #[dptr d,qD A cap D,(.agg #[.int .u8 2, .string name, .string to_, .slice bA bL.length bcap, .int .i64 n, .slice kA klen kcap])] w (qaj O w d Z (D.cut name n).1) := by
 obtain ⟨W,hW,hbW,hsW,m0,m1,m2⟩ := qb4 w (diskC A cap D) #[.int .u8 2, .string name, .string to_, .slice bA bL.length bcap, .int .i64 n, .slice kA klen kcap] qas 41 53 41
 have HW := Lib.hid hW.symm
 have hE := h.enter hbW hsW
 have hP := O.cut W d D _ name n hE.dk hE.good hE.lt (by omega) ha.n
 have hR := fun w1 hr => qhc A cap D name n w1 hr (by have := h.good.len; omega) (by have := h.good.n; omega)
 have hgood := h.good.cut name n
 generalize D.cut name n = R at hP hR hgood ⊢
 obtain ⟨⟨eroom,el,eset,en,elost⟩,ec⟩ := R
 obtain ⟨room,l,set,nn,lost⟩ := D
 dsimp only at *
 clear hW
 go_enter Tryz.func19,Tryz.ntmps19
 go_wp2_with fail
 rw [HW.out]
 refine hP.mono ?_
 rintro e w1 ⟨rfl,hd1,k1⟩
 have p0 := (k1.block _ (by omega) (.inr (by omega))).trans m0
 have p1 := (k1.block _ (by omega) (.inr (by omega))).trans m1
 have p2 := (k1.block _ (by omega) (.inr (by omega))).trans m2
 obtain ⟨⟨a0,a1,a2,a3,a4⟩,_⟩ := row5 p0
 obtain ⟨⟨b0,b1,b2,b3,b4,b5⟩,_⟩ := row6 p1
 have hr1 := k1.rf hE.rf hE.rz
 have hQ := hR w1 hr1
 clear hP hR m0 m1 m2 HW
 go_wp2_with fail
 refine hQ.mono ?_
 rintro e w2 ⟨A2,cap2,rfl,hg⟩
 have hs1 : w.heap.size + 3 <= w1.heap.size := by have := k1.size; omega
 have q0 := (hg.1.block _ (by omega)).trans p0
 have q2 := (hg.1.block _ (by omega)).trans p2
 clear hQ p0 p1 p2 a0 a1 a2 a3 a4 b0 b1 b2 b3 b4 b5
 obtain ⟨⟨a0,a1,a2,a3,a4⟩,⟨b0,b1,b2,b3,b4⟩⟩ := row5 q0
 obtain ⟨⟨c0,c1,c2,c3,c4⟩,⟨d0,d1,d2,d3,d4⟩⟩ := row5 q2
 have Q2 := Lib.hid q2
 have Q0 := Lib.hid q0
 clear q0 q2
 go_wp2
 obtain ⟨X,hX⟩ : ∃ X,X = ((((w2.setCell ⟨w.heap.size,0,none⟩ (.int .i64 eroom)).setCell ⟨w.heap.size,1,none⟩ (.slice A2 el.length cap2)).setCell ⟨w.heap.size,2,none⟩ (.bool eset)).setCell ⟨w.heap.size,3,none⟩ (.int .i64 en)).setCell ⟨w.heap.size,4,none⟩ (.bool elost) := ⟨_,rfl⟩
 have x0 := qw w2 w.heap.size (.int .i64 eroom) (.slice A2 el.length cap2) (.bool eset) (.int .i64 en) (.bool elost) _ _ _ _ _ _ Q0.out
 have x2 := (qf w2 (n := w.heap.size) (k := w.heap.size + 1 + 1) (by omega) (.int .i64 eroom) (.slice A2 el.length cap2) (.bool eset) (.int .i64 en) (.bool elost)).trans Q2.out
 have xb : Below w.heap.size w2 X := by rw [hX]; exact qk blq nlq _ _ _ _ _
 have xf : ∀ k,k ≠ w.heap.size -> X.heap[k]? = w2.heap[k]? := fun k hk => by rw [hX]; exact qf w2 hk _ _ _ _ _
 rw [<- hX] at x0 x2 ⊢
 clear a0 a1 a2 a3 a4 b0 b1 b2 b3 b4 c0 c1 c2 c3 c4 d0 d1 d2 d3 d4
 obtain ⟨⟨a0,a1,a2,a3,a4⟩,_⟩ := row5 x0
 obtain ⟨⟨c0,c1,c2,c3,c4⟩,⟨d0,d1,d2,d3,d4⟩⟩ := row5 x2
 have X2 := Lib.hid x2
 clear hX x0 x2
 go_region
 all_goals
  go_wp2
  refine bodyPost_ret (qU (n := w.heap.size + 1 + 1) rfl rfl (qaW _ _ _ _ _ _ _ _ _ _ _ _ _ X2.out) Tryz.underlying41 rfl (by kernel_rfl)) rfl ?_
  exact qaj.mk hbW hsW h.lt hd1 k1 hr1 h.rz hg hgood (qk xb (by omega) _ _ _ _ _).drew (fun k h1 h2 => (qaZ (qf X (by omega) _ _ _ _ _)).trans (xf k (by omega))) rfl
theorem qkA (O : qM) (w : World) (d : Nat) (A : Option Addr) (cap : Nat) (D : Dsk) (Z : Nat -> Prop) (name to_ : ByteArray) (bA : Option Addr) (bcap : Nat) (bL : List UInt8) (n : Int) (kA : Option Addr) (klen kcap : Nat) (kY : Nat -> Int)
 (h : Alike O w d A cap D Z) (ha : qam w Z ⟨3,name,to_,bA,bcap,bL,n,kA,klen,kcap,kY⟩) (h1 : name.size <= 20) (h2 : to_.size <= 20) (h3 : bL.length <= 300) (h4 : klen <= 20) :
 Calls Tryz.prog 19 #[dptr d,qD A cap D,(.agg #[.int .u8 3, .string name, .string to_, .slice bA bL.length bcap, .int .i64 n, .slice kA klen kcap])] w (qaj O w d Z (D.rename name to_).1) := by
 obtain ⟨W,hW,hbW,hsW,m0,m1,m2⟩ := qb4 w (diskC A cap D) #[.int .u8 3, .string name, .string to_, .slice bA bL.length bcap, .int .i64 n, .slice kA klen kcap] qas 41 53 41
 have HW := Lib.hid hW.symm
 have hE := h.enter hbW hsW
 have hP := O.rename W d D _ name to_ hE.dk hE.good hE.lt (by omega) (by omega)
 have hR := fun w1 hr => qc4 A cap D name to_ w1 hr (by have := h.good.len; omega) (by have := h.good.n; omega)
 have hgood := h.good.rename name to_
 generalize D.rename name to_ = R at hP hR hgood ⊢
 obtain ⟨⟨eroom,el,eset,en,elost⟩,ec⟩ := R
 obtain ⟨room,l,set,nn,lost⟩ := D
 dsimp only at *
 clear hW
 go_enter Tryz.func19,Tryz.ntmps19
 go_wp2_with fail
 rw [HW.out]
 refine hP.mono ?_
 rintro e w1 ⟨rfl,hd1,k1⟩
 have p0 := (k1.block _ (by omega) (.inr (by omega))).trans m0
 have p1 := (k1.block _ (by omega) (.inr (by omega))).trans m1
 have p2 := (k1.block _ (by omega) (.inr (by omega))).trans m2
 obtain ⟨⟨a0,a1,a2,a3,a4⟩,_⟩ := row5 p0
 obtain ⟨⟨b0,b1,b2,b3,b4,b5⟩,_⟩ := row6 p1
 have hr1 := k1.rf hE.rf hE.rz
 have hQ := hR w1 hr1
 clear hP hR m0 m1 m2 HW
 go_wp2_with fail
 refine hQ.mono ?_
 rintro e w2 ⟨A2,cap2,rfl,hg⟩
 have hs1 : w.heap.size + 3 <= w1.heap.size := by have := k1.size; omega
 have q0 := (hg.1.block _ (by omega)).trans p0
 have q2 := (hg.1.block _ (by omega)).trans p2
 clear hQ p0 p1 p2 a0 a1 a2 a3 a4 b0 b1 b2 b3 b4 b5
 obtain ⟨⟨a0,a1,a2,a3,a4⟩,⟨b0,b1,b2,b3,b4⟩⟩ := row5 q0
 obtain ⟨⟨c0,c1,c2,c3,c4⟩,⟨d0,d1,d2,d3,d4⟩⟩ := row5 q2
 have Q2 := Lib.hid q2
 have Q0 := Lib.hid q0
 clear q0 q2
 go_wp2
 obtain ⟨X,hX⟩ : ∃ X,X = ((((w2.setCell ⟨w.heap.size,0,none⟩ (.int .i64 eroom)).setCell ⟨w.heap.size,1,none⟩ (.slice A2 el.length cap2)).setCell ⟨w.heap.size,2,none⟩ (.bool eset)).setCell ⟨w.heap.size,3,none⟩ (.int .i64 en)).setCell ⟨w.heap.size,4,none⟩ (.bool elost) := ⟨_,rfl⟩
 have x0 := qw w2 w.heap.size (.int .i64 eroom) (.slice A2 el.length cap2) (.bool eset) (.int .i64 en) (.bool elost) _ _ _ _ _ _ Q0.out
 have x2 := (qf w2 (n := w.heap.size) (k := w.heap.size + 1 + 1) (by omega) (.int .i64 eroom) (.slice A2 el.length cap2) (.bool eset) (.int .i64 en) (.bool elost)).trans Q2.out
 have xb : Below w.heap.size w2 X := by rw [hX]; exact qk blq nlq _ _ _ _ _
 have xf : ∀ k,k ≠ w.heap.size -> X.heap[k]? = w2.heap[k]? := fun k hk => by rw [hX]; exact qf w2 hk _ _ _ _ _
 rw [<- hX] at x0 x2 ⊢
 clear a0 a1 a2 a3 a4 b0 b1 b2 b3 b4 c0 c1 c2 c3 c4 d0 d1 d2 d3 d4
 obtain ⟨⟨a0,a1,a2,a3,a4⟩,_⟩ := row5 x0
 obtain ⟨⟨c0,c1,c2,c3,c4⟩,⟨d0,d1,d2,d3,d4⟩⟩ := row5 x2
 have X2 := Lib.hid x2
 clear hX x0 x2
 go_region
 all_goals
  go_wp2
  refine bodyPost_ret (qU (n := w.heap.size + 1 + 1) rfl rfl (qaW _ _ _ _ _ _ _ _ _ _ _ _ _ X2.out) Tryz.underlying41 rfl (by kernel_rfl)) rfl ?_
  exact qaj.mk hbW hsW h.lt hd1 k1 hr1 h.rz hg hgood (qk xb (by omega) _ _ _ _ _).drew (fun k h1 h2 => (qaZ (qf X (by omega) _ _ _ _ _)).trans (xf k (by omega))) rfl
theorem qkB (O : qM) (w : World) (d : Nat) (A : Option Addr) (cap : Nat) (D : Dsk) (Z : Nat -> Prop) (name to_ : ByteArray) (bA : Option Addr) (bcap : Nat) (bL : List UInt8) (n : Int) (kA : Option Addr) (klen kcap : Nat) (kY : Nat -> Int)
 (h : Alike O w d A cap D Z) (ha : qam w Z ⟨4,name,to_,bA,bcap,bL,n,kA,klen,kcap,kY⟩) (h1 : name.size <= 20) (h2 : to_.size <= 20) (h3 : bL.length <= 300) (h4 : klen <= 20) :
 Calls Tryz.prog 19 #[dptr d,qD A cap D,(.agg #[.int .u8 4, .string name, .string to_, .slice bA bL.length bcap, .int .i64 n, .slice kA klen kcap])] w (qaj O w d Z (D.remove name).1) := by
 obtain ⟨W,hW,hbW,hsW,m0,m1,m2⟩ := qb4 w (diskC A cap D) #[.int .u8 4, .string name, .string to_, .slice bA bL.length bcap, .int .i64 n, .slice kA klen kcap] qas 41 53 41
 have HW := Lib.hid hW.symm
 have hE := h.enter hbW hsW
 have hP := O.remove W d D _ name hE.dk hE.good hE.lt (by omega)
 have hR := fun w1 hr => qc3 A cap D name w1 hr (by have := h.good.len; omega) (by have := h.good.n; omega)
 have hgood := h.good.remove name
 generalize D.remove name = R at hP hR hgood ⊢
 obtain ⟨⟨eroom,el,eset,en,elost⟩,ec⟩ := R
 obtain ⟨room,l,set,nn,lost⟩ := D
 dsimp only at *
 clear hW
 go_enter Tryz.func19,Tryz.ntmps19
 go_wp2_with fail
 rw [HW.out]
 refine hP.mono ?_
 rintro e w1 ⟨rfl,hd1,k1⟩
 have p0 := (k1.block _ (by omega) (.inr (by omega))).trans m0
 have p1 := (k1.block _ (by omega) (.inr (by omega))).trans m1
 have p2 := (k1.block _ (by omega) (.inr (by omega))).trans m2
 obtain ⟨⟨a0,a1,a2,a3,a4⟩,_⟩ := row5 p0
 obtain ⟨⟨b0,b1,b2,b3,b4,b5⟩,_⟩ := row6 p1
 have hr1 := k1.rf hE.rf hE.rz
 have hQ := hR w1 hr1
 clear hP hR m0 m1 m2 HW
 go_wp2_with fail
 refine hQ.mono ?_
 rintro e w2 ⟨A2,cap2,rfl,hg⟩
 have hs1 : w.heap.size + 3 <= w1.heap.size := by have := k1.size; omega
 have q0 := (hg.1.block _ (by omega)).trans p0
 have q2 := (hg.1.block _ (by omega)).trans p2
 clear hQ p0 p1 p2 a0 a1 a2 a3 a4 b0 b1 b2 b3 b4 b5
 obtain ⟨⟨a0,a1,a2,a3,a4⟩,⟨b0,b1,b2,b3,b4⟩⟩ := row5 q0
 obtain ⟨⟨c0,c1,c2,c3,c4⟩,⟨d0,d1,d2,d3,d4⟩⟩ := row5 q2
 have Q2 := Lib.hid q2
 have Q0 := Lib.hid q0
 clear q0 q2
 go_wp2
 obtain ⟨X,hX⟩ : ∃ X,X = ((((w2.setCell ⟨w.heap.size,0,none⟩ (.int .i64 eroom)).setCell ⟨w.heap.size,1,none⟩ (.slice A2 el.length cap2)).setCell ⟨w.heap.size,2,none⟩ (.bool eset)).setCell ⟨w.heap.size,3,none⟩ (.int .i64 en)).setCell ⟨w.heap.size,4,none⟩ (.bool elost) := ⟨_,rfl⟩
 have x0 := qw w2 w.heap.size (.int .i64 eroom) (.slice A2 el.length cap2) (.bool eset) (.int .i64 en) (.bool elost) _ _ _ _ _ _ Q0.out
 have x2 := (qf w2 (n := w.heap.size) (k := w.heap.size + 1 + 1) (by omega) (.int .i64 eroom) (.slice A2 el.length cap2) (.bool eset) (.int .i64 en) (.bool elost)).trans Q2.out
 have xb : Below w.heap.size w2 X := by rw [hX]; exact qk blq nlq _ _ _ _ _
 have xf : ∀ k,k ≠ w.heap.size -> X.heap[k]? = w2.heap[k]? := fun k hk => by rw [hX]; exact qf w2 hk _ _ _ _ _
 rw [<- hX] at x0 x2 ⊢
 clear a0 a1 a2 a3 a4 b0 b1 b2 b3 b4 c0 c1 c2 c3 c4 d0 d1 d2 d3 d4
 obtain ⟨⟨a0,a1,a2,a3,a4⟩,_⟩ := row5 x0
 obtain ⟨⟨c0,c1,c2,c3,c4⟩,⟨d0,d1,d2,d3,d4⟩⟩ := row5 x2
 have X2 := Lib.hid x2
 clear hX x0 x2
 go_region
 all_goals
  go_wp2
  refine bodyPost_ret (qU (n := w.heap.size + 1 + 1) rfl rfl (qaW _ _ _ _ _ _ _ _ _ _ _ _ _ X2.out) Tryz.underlying41 rfl (by kernel_rfl)) rfl ?_
  exact qaj.mk hbW hsW h.lt hd1 k1 hr1 h.rz hg hgood (qk xb (by omega) _ _ _ _ _).drew (fun k h1 h2 => (qaZ (qf X (by omega) _ _ _ _ _)).trans (xf k (by omega))) rfl
theorem qlZ (O : qM) (w : World) (d : Nat) (A : Option Addr) (cap : Nat) (D : Dsk) (Z : Nat -> Prop) (name to_ : ByteArray) (bA : Option Addr) (bcap : Nat) (bL : List UInt8) (n : Int) (kA : Option Addr) (klen kcap : Nat) (kY : Nat -> Int)
 (h : Alike O w d A cap D Z) (ha : qam w Z ⟨6,name,to_,bA,bcap,bL,n,kA,klen,kcap,kY⟩) (h1 : name.size <= 20) (h2 : to_.size <= 20) (h3 : bL.length <= 300) (h4 : klen <= 20) :
 Calls Tryz.prog 19 #[dptr d,qD A cap D,(.agg #[.int .u8 6, .string name, .string to_, .slice bA bL.length bcap, .int .i64 n, .slice kA klen kcap])] w (qaj O w d Z (D.fuse n).1) := by
 obtain ⟨W,hW,hbW,hsW,m0,m1,m2⟩ := qb4 w (diskC A cap D) #[.int .u8 6, .string name, .string to_, .slice bA bL.length bcap, .int .i64 n, .slice kA klen kcap] qas 41 53 41
 have HW := Lib.hid hW.symm
 have hE := h.enter hbW hsW
 have hP := O.fuse W d D _ n hE.dk hE.lt ha.n
 have hR := fun w1 => qj3 A cap D n w1
 have hgood := h.good.fuse n ha.n.2
 generalize D.fuse n = R at hP hR hgood ⊢
 obtain ⟨⟨eroom,el,eset,en,elost⟩,ec⟩ := R
 obtain ⟨room,l,set,nn,lost⟩ := D
 dsimp only at *
 clear hW
 go_enter Tryz.func19,Tryz.ntmps19
 go_wp2_with fail
 rw [HW.out]
 refine hP.mono ?_
 rintro e w1 ⟨rfl,hd1,k1⟩
 have p0 := (k1.block _ (by omega) (.inr (by omega))).trans m0
 have p1 := (k1.block _ (by omega) (.inr (by omega))).trans m1
 have p2 := (k1.block _ (by omega) (.inr (by omega))).trans m2
 obtain ⟨⟨a0,a1,a2,a3,a4⟩,_⟩ := row5 p0
 obtain ⟨⟨b0,b1,b2,b3,b4,b5⟩,_⟩ := row6 p1
 have hr1 := k1.rf hE.rf hE.rz
 have hQ := hR w1
 clear hP hR m0 m1 m2 HW
 go_wp2_with fail
 refine hQ.mono ?_
 rintro e w2 ⟨rfl,rfl,hb2⟩
 have hg : Got w1 A cap el w2 A cap el := Got.same hb2
 have hs1 : w.heap.size + 3 <= w1.heap.size := by have := k1.size; omega
 have q0 := (hg.1.block _ (by omega)).trans p0
 have q2 := (hg.1.block _ (by omega)).trans p2
 clear hQ p0 p1 p2 a0 a1 a2 a3 a4 b0 b1 b2 b3 b4 b5
 obtain ⟨⟨a0,a1,a2,a3,a4⟩,⟨b0,b1,b2,b3,b4⟩⟩ := row5 q0
 obtain ⟨⟨c0,c1,c2,c3,c4⟩,⟨d0,d1,d2,d3,d4⟩⟩ := row5 q2
 have Q2 := Lib.hid q2
 have Q0 := Lib.hid q0
 clear q0 q2
 go_wp2
 obtain ⟨X,hX⟩ : ∃ X,X = ((((w2.setCell ⟨w.heap.size,0,none⟩ (.int .i64 eroom)).setCell ⟨w.heap.size,1,none⟩ (.slice A el.length cap)).setCell ⟨w.heap.size,2,none⟩ (.bool eset)).setCell ⟨w.heap.size,3,none⟩ (.int .i64 en)).setCell ⟨w.heap.size,4,none⟩ (.bool elost) := ⟨_,rfl⟩
 have x0 := qw w2 w.heap.size (.int .i64 eroom) (.slice A el.length cap) (.bool eset) (.int .i64 en) (.bool elost) _ _ _ _ _ _ Q0.out
 have x2 := (qf w2 (n := w.heap.size) (k := w.heap.size + 1 + 1) (by omega) (.int .i64 eroom) (.slice A el.length cap) (.bool eset) (.int .i64 en) (.bool elost)).trans Q2.out
 have xb : Below w.heap.size w2 X := by rw [hX]; exact qk blq nlq _ _ _ _ _
 have xf : ∀ k,k ≠ w.heap.size -> X.heap[k]? = w2.heap[k]? := fun k hk => by rw [hX]; exact qf w2 hk _ _ _ _ _
 rw [<- hX] at x0 x2 ⊢
 clear a0 a1 a2 a3 a4 b0 b1 b2 b3 b4 c0 c1 c2 c3 c4 d0 d1 d2 d3 d4
 obtain ⟨⟨a0,a1,a2,a3,a4⟩,_⟩ := row5 x0
 obtain ⟨⟨c0,c1,c2,c3,c4⟩,⟨d0,d1,d2,d3,d4⟩⟩ := row5 x2
 have X2 := Lib.hid x2
 clear hX x0 x2
 go_region
 all_goals
  go_wp2
  refine bodyPost_ret (qU (n := w.heap.size + 1 + 1) rfl rfl (qaW _ _ _ _ _ _ _ _ _ _ _ _ _ X2.out) Tryz.underlying41 rfl (by kernel_rfl)) rfl ?_
  exact qaj.mk hbW hsW h.lt hd1 k1 hr1 h.rz hg hgood (qk xb (by omega) _ _ _ _ _).drew (fun k h1 h2 => (qaZ (qf X (by omega) _ _ _ _ _)).trans (xf k (by omega))) rfl
theorem qjy (O : qM) (w : World) (d : Nat) (A : Option Addr) (cap : Nat) (D : Dsk) (Z : Nat -> Prop) (name to_ : ByteArray) (bA : Option Addr) (bcap : Nat) (bL : List UInt8) (n : Int) (kA : Option Addr) (klen kcap : Nat) (kY : Nat -> Int)
 (h : Alike O w d A cap D Z) (ha : qam w Z ⟨7,name,to_,bA,bcap,bL,n,kA,klen,kcap,kY⟩) (h1 : name.size <= 20) (h2 : to_.size <= 20) (h3 : bL.length <= 300) (h4 : klen <= 20) :
 Calls Tryz.prog 19 #[dptr d,qD A cap D,(.agg #[.int .u8 7, .string name, .string to_, .slice bA bL.length bcap, .int .i64 n, .slice kA klen kcap])] w (qaj O w d Z (D.restart kY klen)) := by
 obtain ⟨W,hW,hbW,hsW,m0,m1,m2⟩ := qb4 w (diskC A cap D) #[.int .u8 7, .string name, .string to_, .slice bA bL.length bcap, .int .i64 n, .slice kA klen kcap] qas 41 53 41
 have HW := Lib.hid hW.symm
 have hE := h.enter hbW hsW
 have hP := O.restart W d D _ kA klen kcap kY hE.dk hE.good hE.lt (ha.k.below hbW) (by omega) ha.kc (fun h0 a e q => (O.own hE.dk).1 (q ▸ (Or.inl (ha.kz h0 a e))))
 have hR := fun w1 hr hi => qhd A cap D kA klen kcap kY w1 hr (by have := h.good.len; omega) hi (by omega) (fun f hf => ⟨(h.good.fils.each f hf).2.1,Nat.le_trans (qgb hf) (by have := h.good.usedN; omega)⟩)
 have hkz : InZ (within Z w.heap.size) kA klen := fun h0 x e => .inl (ha.kz h0 x e)
 have hki := ha.k.below hbW
 have hgood := h.good.restart kY klen
 generalize D.restart kY klen = R at hP hR hgood ⊢
 obtain ⟨eroom,el,eset,en,elost⟩ := R
 obtain ⟨room,l,set,nn,lost⟩ := D
 dsimp only at *
 clear hW
 go_enter Tryz.func19,Tryz.ntmps19
 go_wp2_with fail
 rw [HW.out]
 refine hP.mono ?_
 rintro e w1 ⟨rfl,hd1,k1⟩
 have p0 := (k1.block _ (by omega) (.inr (by omega))).trans m0
 have p1 := (k1.block _ (by omega) (.inr (by omega))).trans m1
 have p2 := (k1.block _ (by omega) (.inr (by omega))).trans m2
 obtain ⟨⟨a0,a1,a2,a3,a4⟩,_⟩ := row5 p0
 obtain ⟨⟨b0,b1,b2,b3,b4,b5⟩,_⟩ := row6 p1
 have hr1 := k1.rf hE.rf hE.rz
 have hQ := hR w1 hr1 (k1.ri hki hkz)
 clear hP hR m0 m1 m2 HW
 go_wp2_with fail
 refine hQ.mono ?_
 rintro e w2 ⟨A2,cap2,rfl,hg⟩
 have hs1 : w.heap.size + 3 <= w1.heap.size := by have := k1.size; omega
 have q0 := (hg.1.block _ (by omega)).trans p0
 have q2 := (hg.1.block _ (by omega)).trans p2
 clear hQ p0 p1 p2 a0 a1 a2 a3 a4 b0 b1 b2 b3 b4 b5
 obtain ⟨⟨a0,a1,a2,a3,a4⟩,⟨b0,b1,b2,b3,b4⟩⟩ := row5 q0
 obtain ⟨⟨c0,c1,c2,c3,c4⟩,⟨d0,d1,d2,d3,d4⟩⟩ := row5 q2
 have Q2 := Lib.hid q2
 have Q0 := Lib.hid q0
 clear q0 q2
 go_wp2
 obtain ⟨X,hX⟩ : ∃ X,X = ((((w2.setCell ⟨w.heap.size,0,none⟩ (.int .i64 eroom)).setCell ⟨w.heap.size,1,none⟩ (.slice A2 el.length cap2)).setCell ⟨w.heap.size,2,none⟩ (.bool eset)).setCell ⟨w.heap.size,3,none⟩ (.int .i64 en)).setCell ⟨w.heap.size,4,none⟩ (.bool elost) := ⟨_,rfl⟩
 have x0 := qw w2 w.heap.size (.int .i64 eroom) (.slice A2 el.length cap2) (.bool eset) (.int .i64 en) (.bool elost) _ _ _ _ _ _ Q0.out
 have x2 := (qf w2 (n := w.heap.size) (k := w.heap.size + 1 + 1) (by omega) (.int .i64 eroom) (.slice A2 el.length cap2) (.bool eset) (.int .i64 en) (.bool elost)).trans Q2.out
 have xb : Below w.heap.size w2 X := by rw [hX]; exact qk blq nlq _ _ _ _ _
 have xf : ∀ k,k ≠ w.heap.size -> X.heap[k]? = w2.heap[k]? := fun k hk => by rw [hX]; exact qf w2 hk _ _ _ _ _
 rw [<- hX] at x0 x2 ⊢
 clear a0 a1 a2 a3 a4 b0 b1 b2 b3 b4 c0 c1 c2 c3 c4 d0 d1 d2 d3 d4
 obtain ⟨⟨a0,a1,a2,a3,a4⟩,_⟩ := row5 x0
 obtain ⟨⟨c0,c1,c2,c3,c4⟩,⟨d0,d1,d2,d3,d4⟩⟩ := row5 x2
 have X2 := Lib.hid x2
 clear hX x0 x2
 go_region
 all_goals
  go_wp2
  refine bodyPost_ret (qU (n := w.heap.size + 1 + 1) rfl rfl (qaW _ _ _ _ _ _ _ _ _ _ _ _ _ X2.out) Tryz.underlying41 rfl (by kernel_rfl)) rfl ?_
  exact qaj.mk hbW hsW h.lt hd1 k1 hr1 h.rz hg hgood (qk xb (by omega) _ _ _ _ _).drew (fun k h1 h2 => (qaZ (qf X (by omega) _ _ _ _ _)).trans (xf k (by omega))) rfl
theorem ql0 (O : qM) (w : World) (d : Nat) (A : Option Addr) (cap : Nat) (D : Dsk) (Z : Nat -> Prop) (name to_ : ByteArray) (bA : Option Addr) (bcap : Nat) (bL : List UInt8) (n : Int) (kA : Option Addr) (klen kcap : Nat) (kY : Nat -> Int)
 (h : Alike O w d A cap D Z) (ha : qam w Z ⟨5,name,to_,bA,bcap,bL,n,kA,klen,kcap,kY⟩) (h1 : name.size <= 20) (h2 : to_.size <= 20) (h3 : bL.length <= 300) (h4 : klen <= 20) :
 Calls Tryz.prog 19 #[dptr d,qD A cap D,(.agg #[.int .u8 5, .string name, .string to_, .slice bA bL.length bcap, .int .i64 n, .slice kA klen kcap])] w (qaj O w d Z D) := by
 obtain ⟨W,hW,hbW,hsW,m0,m1,m2⟩ := qb4 w (diskC A cap D) #[.int .u8 5, .string name, .string to_, .slice bA bL.length bcap, .int .i64 n, .slice kA klen kcap] qas 41 53 41
 have HW := Lib.hid hW.symm
 have hE := h.enter hbW hsW
 have hP := O.read W d D _ name hE.dk hE.good hE.lt (by omega)
 have hR := fun w1 hr => qdS A cap D name w1 hr (by have := h.good.len; omega)
 have hgood := h.good
 generalize D.read name = R at hP hR
 obtain ⟨rs,ec⟩ := R
 obtain ⟨eroom,el,eset,en,elost⟩ := D
 dsimp only at *
 clear hW
 go_enter Tryz.func19,Tryz.ntmps19
 go_wp2_with fail
 rw [HW.out]
 refine hP.mono ?_
 rintro e w1 ⟨rA,rcap,rfl,hl1,_,hd1,k1⟩
 have hd2 := O.out hd1 (Z' := within Z w.heap.size) (fun k hk => .inl (.inl hk))
 have p0 := (k1.block _ (by omega) (.inr (by omega))).trans m0
 have p1 := (k1.block _ (by omega) (.inr (by omega))).trans m1
 have p2 := (k1.block _ (by omega) (.inr (by omega))).trans m2
 obtain ⟨⟨a0,a1,a2,a3,a4⟩,_⟩ := row5 p0
 obtain ⟨⟨b0,b1,b2,b3,b4,b5⟩,_⟩ := row6 p1
 have hr1 := k1.rf hE.rf hE.rz
 have hQ := hR w1 hr1
 clear hP hR m0 m1 m2 HW hd1
 go_wp2_with fail
 refine hQ.mono ?_
 rintro e w2 ⟨rfl,hb2⟩
 have hg : Got w1 A cap el w2 A cap el := Got.same hb2
 have hcv : (convert 33 9 (.slice rA rs.size rcap)).run Tryz.prog w2 = .ok (.string rs) w2 := by
  have := (hl1.below hb2 nlq).text Tryz.underlying33 Tryz.underlying5 Tryz.underlying9
  have e : (⟨rs.data.toList.toArray⟩ : ByteArray) = rs := by simp
  rwa [e] at this
 have hs1 : w.heap.size + 3 <= w1.heap.size := by have := k1.size; omega
 have q0 := (hg.1.block _ (by omega)).trans p0
 have q2 := (hg.1.block _ (by omega)).trans p2
 clear hQ p0 p1 p2 a0 a1 a2 a3 a4 b0 b1 b2 b3 b4 b5
 obtain ⟨⟨a0,a1,a2,a3,a4⟩,⟨b0,b1,b2,b3,b4⟩⟩ := row5 q0
 obtain ⟨⟨c0,c1,c2,c3,c4⟩,⟨d0,d1,d2,d3,d4⟩⟩ := row5 q2
 have Q2 := Lib.hid q2
 have Q0 := Lib.hid q0
 clear q0 q2
 go_wp2
 go_region
 all_goals
  go_wp2
  refine bodyPost_ret (qU (n := w.heap.size + 1 + 1) rfl rfl (qaW _ _ _ _ _ _ _ _ _ _ _ _ _ Q2.out) Tryz.underlying41 rfl (by kernel_rfl)) rfl ?_
  exact qaj.mk hbW hsW h.lt hd2 k1 hr1 h.rz hg hgood (qk blq (by omega) _ _ _ _ _).drew (fun k h1 h2 => qaZ (qf _ (by omega) _ _ _ _ _)) rfl
theorem qmd (O : qM) (w : World) (d : Nat) (A : Option Addr) (cap : Nat) (D : Dsk) (Z : Nat -> Prop) (a : Act) (h : Alike O w d A cap D Z) (ha : qam w Z a) (h1 : a.name.size <= 20) (h2 : a.to_.size <= 20) (h3 : a.bL.length <= 300) (h4 : a.klen <= 20) (h7 : a.kind <= 7) :
 Calls Tryz.prog 19 #[dptr d,qD A cap D,actV a] w (qaj O w d Z (a.on D)) := by
 obtain ⟨kind,name,to_,bA,bcap,bL,n,kA,klen,kcap,kY⟩ := a
 unfold Act.on
 dsimp only at *
 have hx : ∀ k : Nat,qam w Z ⟨kind,name,to_,bA,bcap,bL,n,kA,klen,kcap,kY⟩ -> k < 256 -> qam w Z ⟨k,name,to_,bA,bcap,bL,n,kA,klen,kcap,kY⟩ := fun k g hk => ⟨g.b,g.bz,g.k,g.kz,g.n,hk,g.bcap,g.kc⟩
 by_cases k0 : kind = 0
 · subst k0; exact qkz O w d A cap D Z name to_ bA bcap bL n kA klen kcap kY h ha h1 h2 h3 h4
 rw [if_neg k0]
 by_cases k1 : kind = 1
 · subst k1; exact qlY O w d A cap D Z name to_ bA bcap bL n kA klen kcap kY h ha h1 h2 h3 h4
 rw [if_neg k1]
 by_cases k2 : kind = 2
 · subst k2; exact qmc O w d A cap D Z name to_ bA bcap bL n kA klen kcap kY h ha h1 h2 h3 h4
 rw [if_neg k2]
 by_cases k3 : kind = 3
 · subst k3; exact qkA O w d A cap D Z name to_ bA bcap bL n kA klen kcap kY h ha h1 h2 h3 h4
 rw [if_neg k3]
 by_cases k4 : kind = 4
 · subst k4; exact qkB O w d A cap D Z name to_ bA bcap bL n kA klen kcap kY h ha h1 h2 h3 h4
 rw [if_neg k4]
 by_cases k5 : kind = 5
 · subst k5; exact ql0 O w d A cap D Z name to_ bA bcap bL n kA klen kcap kY h ha h1 h2 h3 h4
 rw [if_neg k5]
 by_cases k6 : kind = 6
 · subst k6; exact qlZ O w d A cap D Z name to_ bA bcap bL n kA klen kcap kY h ha h1 h2 h3 h4
 rw [if_neg k6]
 by_cases k7 : kind = 7
 · subst k7; exact qjy O w d A cap D Z name to_ bA bcap bL n kA klen kcap kY h ha h1 h2 h3 h4
 rw [if_neg k7]
 exact absurd h7 (by omega)
end Go.Proofs.YtmeoooojmhhahaaGreat
