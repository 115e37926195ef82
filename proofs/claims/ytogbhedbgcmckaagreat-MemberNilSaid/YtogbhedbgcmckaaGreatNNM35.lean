/- A member settles: what its node comes to is kept, then told. -/
import Derived.Test.YtogbhedbgcmckaaGreatNNM01
import Derived.Test.YtogbhedbgcmckaaGreatNNM34
set_option linter.unusedVariables false
set_option linter.unusedSimpArgs false
set_option maxRecDepth 100000
set_option maxHeartbeats 200000
namespace Go.Proofs.YtogbhedbgcmckaaGreat
open Go.RowKit
theorem qc7 {X : World} {n : Nat} {a b c d e f a0 b0 c0 d0 e0 f0 : Value} {T : TypeId} (h : X.heap[n]? = some (.cells #[a0,b0,c0,d0,e0,f0] T)) :
 ((((((X.setCell ⟨n,0,none⟩ a).setCell ⟨n,1,none⟩ b).setCell ⟨n,2,none⟩ c).setCell ⟨n,3,none⟩ d).setCell ⟨n,4,none⟩ e).setCell ⟨n,5,none⟩ f).heap[n]? = some (.cells #[a,b,c,d,e,f] T) ∧
 Below n X ((((((X.setCell ⟨n,0,none⟩ a).setCell ⟨n,1,none⟩ b).setCell ⟨n,2,none⟩ c).setCell ⟨n,3,none⟩ d).setCell ⟨n,4,none⟩ e).setCell ⟨n,5,none⟩ f) ∧
 (∀ k,k ≠ n -> ((((((X.setCell ⟨n,0,none⟩ a).setCell ⟨n,1,none⟩ b).setCell ⟨n,2,none⟩ c).setCell ⟨n,3,none⟩ d).setCell ⟨n,4,none⟩ e).setCell ⟨n,5,none⟩ f).heap[k]? = X.heap[k]?) := by
 have r0 := stq 0 a h;have r1 := stq 1 b r0;have r2 := stq 2 c r1;have r3 := stq 3 d r2;have r4 := stq 4 e r3;have r5 := setCell_at _ ⟨n,5,none⟩ f _ _ _ rfl r4;refine ⟨r5,(((((blq.setCell (p := ⟨n,0,none⟩) nlq a).setCell (p := ⟨n,1,none⟩) nlq b).setCell (p := ⟨n,2,none⟩) nlq c).setCell (p := ⟨n,3,none⟩) nlq d).setCell (p := ⟨n,4,none⟩) nlq e).setCell (p := ⟨n,5,none⟩) nlq f,fun k hk => ?_⟩;exact (Below.heap_setCell _ _ _ _ (by exact hk)).trans ((Below.heap_setCell _ _ _ _ (by exact hk)).trans ((Below.heap_setCell _ _ _ _ (by exact hk)).trans ((Below.heap_setCell _ _ _ _ (by exact hk)).trans ((Below.heap_setCell _ _ _ _ (by exact hk)).trans (Below.heap_setCell _ _ _ _ (by exact hk))))))
section
variable {W w w' : World} {m p v j d : Nat} {N : Node} {D : Dsk} {was : Hd} {n ap : Int} {g : Bool} {Zv Zn : Nat → Prop} {q : Ptrs} {s : Nat} {xs : List MLay} {K : Nat → Prop}
theorem Mb.boxed (h : Mb W w m p v j d N D was n ap g Zv Zn q s xs K) {b : Nat} (hv : Zv b /\ b ≠ j /\ b ≠ v) (hn : Zn b) (hm : b ≠ m) (hW : W.heap.size <= b) (hs : w'.heap.size = w.heap.size) (ht : w'.tape = w.tape) (ho : w'.os = w.os) (hu : w'.output = w.output) (hk : ∀ k,k ≠ b -> w'.heap[k]? = w.heap[k]?) : Mb W w' m p v j d N D was n ap g Zv Zn q s xs K := by
 refine ⟨(hk m (fun e => hm e.symm)).trans h.row,?_,h.rf.keep (by omega) fun k _ hz => hk k fun e => hz (e ▸ hn),h.fr,fun k hk => by rw [hs]; exact h.zn k hk,fun k hk => h.cov k (by omega),h.mv,h.mn,h.all,?_⟩
 · exact ⟨(hk v fun e => hv.2.2 e.symm).trans h.vt.box,⟨(hk j fun e => hv.2.1 e.symm).trans h.vt.lg.box,h.vt.lg.dk.keep (by omega) fun k _ hz => hk k fun e => hz (e ▸ hv.1),h.vt.lg.own⟩,h.vt.own,h.vt.ne⟩
 · exact ⟨ho.trans h.low.os,ht.trans h.low.tape,hu.trans h.low.output,by have := h.low.size; omega,fun k hkk => (hk k (by omega)).trans (h.low.block k hkk)⟩
abbrev qaH : Array Value := #[.slice none 0 0, .int .i64 0, .int .i64 0, .slice none 0 0, .slice none 0 0, .slice none 0 0]
def qgT (W w w' : World) (m p v j d : Nat) (N : Node) (D : Dsk) (was : Hd) (n ap : Int) (Zv Zn : Nat -> Prop) (e : Ending) : Prop :=
 ∃ n' Zv' Zn' q' s' xs' K',0 <= n' /\ n' <= n + (N.lg.changed.length : Int) + 1 /\ (∀ k,Beside Zv Zn j v m k -> Beside Zv' Zn' j v m k) /\ qa (Beside Zv Zn j v m) w w' ∧
  (((D.saveV was ⟨N.ht,N.hv⟩ N.lg.changed).1.2 = 0 /\ (∃ MA mc DA dc EA ec TA tc,e = .returned (.tuple #[.agg #[.slice MA N.ms.length mc, .int .i64 0, .int .i64 0, .slice DA 0 dc, .slice EA (N.took.1.part (ap + 1) N.cm).length ec, .slice TA N.td.length tc], .int .i64 0])) ∧
      Mb W w' m p v j d N.took.1 (D.saveV was ⟨N.ht,N.hv⟩ N.lg.changed).1.1 (D.saveV was ⟨N.ht,N.hv⟩ N.lg.changed).2 n' N.cm false Zv' Zn' q' s' xs' K') ∨
    ((D.saveV was ⟨N.ht,N.hv⟩ N.lg.changed).1.2 ≠ 0 /\ e = .returned (.tuple #[.agg qaH, .int .i64 (((D.saveV was ⟨N.ht,N.hv⟩ N.lg.changed).1.2 : Nat) : Int)]) ∧
      Mb W w' m p v j d N.took.1 (D.saveV was ⟨N.ht,N.hv⟩ N.lg.changed).1.1 (D.saveV was ⟨N.ht,N.hv⟩ N.lg.changed).2 n' ap true Zv' Zn' q' s' xs' K'))
structure MidM (W w X : World) (m p v j d : Nat) (N : Node) (D : Dsk) (was : Hd) (n ap : Int) (g : Bool) (Zv0 Zn0 : Nat -> Prop) (R B : Nat) (C : Array Value) : Prop where
 mb : ∃ Zv Zn q s xs K,Mb W X m p v j d N D was n ap g Zv Zn q s xs K /\ (∀ k,Beside Zv0 Zn0 j v m k -> Beside Zv Zn j v m k) /\ Beside Zv Zn j v m R /\ Beside Zv Zn j v m B
 kp : qa (Beside Zv0 Zn0 j v m) w X
 lo : W.heap.size <= R /\ w.heap.size <= R /\ w.heap.size <= B
 r : X.heap[R]? = some (.cells qaH 38)
 b : X.heap[B]? = some (.cells C 110)
theorem MidM.c {R B : Nat} {C : Array Value} {X : World} (h : MidM W w X m p v j d N D was n ap g Zv Zn R B C) : X.heap[m]? = some (.cells #[ptrV p, .pointer (some ⟨v,0,none⟩), .int .i64 ap, .bool g] 70) := by
 obtain ⟨_,_,_,_,_,_,h1,_⟩ := h.mb;exact h1.row
theorem MidM.below {R B : Nat} {C : Array Value} {X Y : World} (h : MidM W w X m p v j d N D was n ap g Zv Zn R B C) (hb : Below X.heap.size X Y) : MidM W w Y m p v j d N D was n ap g Zv Zn R B C := by
 obtain ⟨Zv1,Zn1,q,s,xs,K,h1,h2,h3,h4⟩ := h.mb
 have up : ∀ k,Beside Zv1 Zn1 j v m k -> Beside (fun k => Zv1 k \/ X.heap.size <= k /\ k < Y.heap.size) (fun k => Zn1 k \/ X.heap.size <= k /\ k < Y.heap.size) j v m k := fun k hk => ⟨⟨.inl hk.1.1,hk.1.2⟩, .inl hk.2.1,hk.2.2⟩
 exact ⟨⟨_,_,_,_,_,_,h1.below hb,fun k hk => up k (h2 k hk),up _ h3,up _ h4⟩,h.kp.trans (qb hb nlq),h.lo,(hb.block _ (hlt h.r)).trans h.r,(hb.block _ (hlt h.b)).trans h.b⟩
theorem MidM.own {R B : Nat} {C : Array Value} {X Y : World} {ap' : Int} {g' : Bool} (h : MidM W w X m p v j d N D was n ap g Zv Zn R B C) (hO : OnM m #[ptrV p, .pointer (some ⟨v,0,none⟩), .int .i64 ap', .bool g'] X Y) : MidM W w Y m p v j d N D was n ap' g' Zv Zn R B C := by
 obtain ⟨Zv1,Zn1,q,s,xs,K,h1,h2,h3,h4⟩ := h.mb;exact ⟨⟨_,_,_,_,_,_,h1.own hO.size hO.tape hO.os hO.output hO.off hO.row,h2,h3,h4⟩,h.kp.trans ⟨hO.os,hO.tape,hO.output,by have := hO.size; omega,fun k _ hk => hO.off k hk.2.2⟩,h.lo,(hO.off _ h3.2.2).trans h.r,(hO.off _ h4.2.2).trans h.b⟩
theorem MidM.fin {R B : Nat} {C : Array Value} {X Y : World} (h : MidM W w X m p v j d N D was n ap g Zv Zn R B C) (hs : Y.heap.size = X.heap.size) (ht : Y.tape = X.tape) (ho : Y.os = X.os) (hu : Y.output = X.output) (hk : ∀ k,k ≠ R -> Y.heap[k]? = X.heap[k]?) :
 ∃ Zv' Zn' q s xs K,Mb W Y m p v j d N D was n ap g Zv' Zn' q s xs K /\ (∀ k,Beside Zv Zn j v m k -> Beside Zv' Zn' j v m k) /\ qa (Beside Zv Zn j v m) w Y := by
 obtain ⟨Zv1,Zn1,q,s,xs,K,h1,h2,h3,h4⟩ := h.mb;refine ⟨Zv1,Zn1,q,s,xs,K,h1.boxed h3.1 h3.2.1 h3.2.2 h.lo.1 hs ht ho hu hk,h2,⟨ho.trans h.kp.os,ht.trans h.kp.tape,hu.trans h.kp.output,by have := h.kp.size; omega,fun k hkw hz => (hk k (by have := h.lo.2.1; omega)).trans (h.kp.block k hkw hz)⟩⟩
theorem MidM.fin6 {R B : Nat} {C : Array Value} {X : World} (h : MidM W w X m p v j d N D was n ap g Zv Zn R B C) (a b c d' e f : Value) :
 ((((((X.setCell ⟨R,0,none⟩ a).setCell ⟨R,1,none⟩ b).setCell ⟨R,2,none⟩ c).setCell ⟨R,3,none⟩ d').setCell ⟨R,4,none⟩ e).setCell ⟨R,5,none⟩ f).heap[R]? = some (.cells #[a,b,c,d',e,f] 38) ∧
 ∃ Zv' Zn' q s xs K,Mb W ((((((X.setCell ⟨R,0,none⟩ a).setCell ⟨R,1,none⟩ b).setCell ⟨R,2,none⟩ c).setCell ⟨R,3,none⟩ d').setCell ⟨R,4,none⟩ e).setCell ⟨R,5,none⟩ f) m p v j d N D was n ap g Zv' Zn' q s xs K /\ (∀ k,Beside Zv Zn j v m k -> Beside Zv' Zn' j v m k) /\ qa (Beside Zv Zn j v m) w ((((((X.setCell ⟨R,0,none⟩ a).setCell ⟨R,1,none⟩ b).setCell ⟨R,2,none⟩ c).setCell ⟨R,3,none⟩ d').setCell ⟨R,4,none⟩ e).setCell ⟨R,5,none⟩ f) := by
 have h6 := qc7 (a := a) (b := b) (c := c) (d := d') (e := e) (f := f) h.r;exact ⟨h6.1,h.fin (by simp) h6.2.1.tape h6.2.1.os h6.2.1.output h6.2.2⟩
end
end Go.Proofs.YtogbhedbgcmckaaGreat
set_option linter.unusedVariables false
set_option linter.unusedSimpArgs false
set_option maxRecDepth 100000
set_option maxHeartbeats 6400000
namespace Go.Proofs.YtogbhedbgcmckaaGreat
open Go.RowKit
section
variable {W w X : World} {m p v j d : Nat} {N : Node} {D : Dsk} {was : Hd} {n ap : Int} {g : Bool} {Zv Zn : Nat → Prop} {q : Ptrs} {s : Nat} {xs : List MLay} {K : Nat → Prop} {R B : Nat} {C : Array Value}
theorem qeD (h : MidM W w X m p v j d N D was n ap g Zv Zn R B C) (hd : Hd) {Y : Nat -> Prop} {FA : Option Addr} {fc : Nat} {l : List Ent} (hE : Ents X Y FA l.length fc l) (hl : l.length <= 20000) (hn : 0 <= n /\ n <= 900000000) (EA : Option Addr) (el ec : Nat) (MA : Option Addr) (ml mc : Nat) (TA : Option Addr) (tl tc : Nat) :
 Calls Tryz.prog 44 #[.pointer (some ⟨m,0,none⟩), .agg #[.int .i64 hd.t, .int .i64 hd.v, .slice FA l.length fc, .int .i64 0, .int .i64 0, .slice EA el ec, .slice MA ml mc, .slice TA tl tc]] X
  fun e X' => e = .returned (.int .i64 (((D.saveV was hd l).1.2 : Nat) : Int)) /\ ∃ n',0 <= n' /\ n' <= n + (l.length : Int) + 1 /\ MidM W w X' m p v j d N (D.saveV was hd l).1.1 (D.saveV was hd l).2 n' ap g Zv Zn R B C := by
 obtain ⟨Zv1,Zn1,q,s,xs,K,h1,h2,h3,h4⟩ := h.mb;refine (qjh h1 hd Y FA l.length fc l hE hl hn 0 EA el ec MA ml mc TA tl tc).mono ?_;rintro e X' ⟨rfl,n',Zv',Zn',hn1,hn2,hM,u1,u2,hk⟩
 have up : ∀ k,Beside Zv1 Zn1 j v m k -> Beside Zv' Zn' j v m k := fun k hk => ⟨⟨u1 k hk.1.1,hk.1.2⟩,u2 k hk.2.1,hk.2.2⟩
 exact ⟨rfl,n',hn1,hn2,⟨Zv',Zn',q,s,xs,K,hM,fun k hk => up k (h2 k hk),up _ h3,up _ h4⟩,h.kp.trans (hk.mono fun k hk => (h2 k hk).1),h.lo,(hk.block _ (hlt h.r) h3.1).trans h.r,(hk.block _ (hlt h.b) h4.1).trans h.b⟩
theorem qhX (h : MidM W w X m p v j d N D was n ap g Zv Zn R B C) (hl : N.lg.l.length <= 1000000) (hn : N.n <= 3) :
 Calls Tryz.prog 28 #[ptrV p] X fun e X' => ∃ NA nc MA mc,e = .returned (.agg #[.int .i64 N.ro, .int .i64 N.ld, .int .i64 N.wk, .int .i64 N.ht, .int .i64 N.hv, .int .i64 N.cm, .int .i64 N.lg.i, .int .i64 N.lg.lastI, .slice NA N.n nc, .slice MA N.n mc]) /\ Below X.heap.size X X' := by
 obtain ⟨Zv1,Zn1,q,s,xs,K,h1,h2,h3,h4⟩ := h.mb;refine (qdU h1.rf hl hn).mono ?_;rintro e X' ⟨NA,nc,MA,mc,rfl,_,_,_,_,hb⟩;exact ⟨NA,nc,MA,mc,rfl,hb⟩
theorem qf1 (h : MidM W w X m p v j d N D was n ap g Zv Zn R B C) (hg : qk N.lg) (hl : N.lg.l.length <= 1000000) (a b : Int) (ha : -4611686018427387904 <= a /\ a <= 4611686018427387904) (hb : -4611686018427387904 <= b /\ b <= 4611686018427387904) :
 Calls Tryz.prog 45 #[ptrV p, .int .i64 a, .int .i64 b] X fun e X' => ∃ A' c',e = .returned (.slice A' (N.part a b).length c') /\ Below X.heap.size X X' := by
 obtain ⟨Zv1,Zn1,q,s,xs,K,h1,h2,h3,h4⟩ := h.mb;refine (qfY h1.rf hg hl a b ha hb).mono ?_;rintro e X' ⟨A',c',rfl,_,hb⟩;exact ⟨A',c',rfl,hb⟩
abbrev outC (N : Node) (FA : Option Addr) (fc : Nat) (EA : Option Addr) (ec : Nat) (q : Ptrs) : Array Value :=
 #[.int .i64 N.ht, .int .i64 N.hv, .slice FA N.lg.changed.length fc, .int .i64 0, .int .i64 0, .slice EA 0 ec, .slice q.M N.ms.length q.cM, .slice q.T N.td.length q.cT]
theorem qji (h : Mb W X m p v j d N D was n ap g Zv Zn q s xs K) (hkp : N.kp = false) (hg : qk N.lg) (hl : N.lg.l.length <= 20000) (hsd : N.sn.d.length <= 50000) :
 Calls Tryz.prog 43 #[ptrV p] X fun e X' => ∃ FA fc EA ec q' s' xs' K',e = .returned (.agg (outC N FA fc EA ec q)) /\ Ents X' (fun b => X.heap.size <= b) FA N.lg.changed.length fc N.lg.changed ∧
  Mb W X' m p v j d N.took.1 D was n ap g (fun k => Zv k \/ X.heap.size <= k /\ k < X'.heap.size) Zn q' s' xs' K' /\ qa Zn X X' := by
 have hsn : N.took.2.sn = Node.noEnt := by
  show (if N.kp = true then N.sn else Node.noEnt) = _;rw [hkp]
  rfl
 refine (qi8 h.rf hg (by omega) h.fr hsd h.zn).mono ?_;rintro e X' ⟨FA,fc,EA,ec,s',rfl,hE,_,_,hR,hfr,_,_,_,_,hk⟩;refine ⟨FA,fc,EA,ec,_,s',_,_,?_,hE,h.node (hR.less fun b hb => .inl (.inl hb)) hfr hk,hk⟩;rw [hsn]
 rfl
theorem qgE (r : RL) : r.changed.length <= r.l.length := List.length_filter_le ..
theorem qgF (h : Mb W w m p v j d N D was n ap false Zv Zn q s xs K) (hkp : N.kp = false) (hg : qk N.lg) (hl : N.lg.l.length <= 20000) (hn : 0 <= n /\ n <= 900000000) (hsd : N.sn.d.length <= 50000) (hap : 0 <= ap /\ ap <= 2199023255552) (hcm : 0 <= N.cm /\ N.cm <= 2199023255552) (hN3 : N.n <= 3) :
 Calls Tryz.prog 22 #[.pointer (some ⟨m,0,none⟩)] w fun e w' => qgT W w w' m p v j d N D was n ap Zv Zn e := by
 obtain ⟨W1,hW1⟩ := exq (w.alloc (.cells #[.slice none 0 0, .int .i64 0, .int .i64 0, .slice none 0 0, .slice none 0 0, .slice none 0 0] 38))
 have hb1 : Below w.heap.size w W1 := by rw [<- hW1]; exact blq.alloc nlq _
 have hr1 : W1.heap[w.heap.size]? = some (.cells qaH 38) := by rw [<- hW1]; exact heap_alloc_new w _
 have hsz : W1.heap.size = w.heap.size + 1 := by rw [<- hW1]; simp
 have h1 := h.below hb1;have hT := qji h1 hkp hg hl hsd;have hcl := qgE N.lg;have c0 := h1.c.1;have hvl := h.vt.lt;have hjl := h.vt.lg.lt;have hml := h.lt;have hlow := h.low.size;have hRb : ∀ Zn' : Nat -> Prop,(∀ k,(Zn k \/ w.heap.size <= k /\ k < W1.heap.size) -> Zn' k) -> ∀ Zv' : Nat -> Prop,(∀ k,(Zv k \/ w.heap.size <= k /\ k < W1.heap.size) -> Zv' k) -> Beside Zv' Zn' j v m w.heap.size := fun Zn' h1 Zv' h2 => ⟨⟨h2 _ (.inr ⟨nlq,by omega⟩),by omega,by omega⟩,h1 _ (.inr ⟨nlq,by omega⟩),by omega⟩
 -- a member in the midst,behind Take
 have hMid : ∀ (w2 : World) (FA : Option Addr) (fc : Nat) (EA : Option Addr) (ec : Nat) (q' : Ptrs) (s' : Nat) (xs' : List MLay) (K' : Nat -> Prop),Mb W w2 m p v j d N.took.1 D was n ap false (fun k => (Zv k \/ w.heap.size <= k /\ k < W1.heap.size) \/ W1.heap.size <= k /\ k < w2.heap.size) (fun k => Zn k \/ w.heap.size <= k /\ k < W1.heap.size) q' s' xs' K' →
  qa (fun k => Zn k \/ w.heap.size <= k /\ k < W1.heap.size) W1 w2 -> MidM W w (w2.alloc (.cells (outC N FA fc EA ec q) 110)) m p v j d N.took.1 D was n ap false Zv Zn w.heap.size w2.heap.size (outC N FA fc EA ec q) := by
  intro w2 FA fc EA ec q' s' xs' K' hM hk;have hs2 := hk.size;have hb : Below w2.heap.size w2 (w2.alloc (.cells (outC N FA fc EA ec q) 110)) := blq.alloc nlq _
  have hz : (w2.alloc (.cells (outC N FA fc EA ec q) 110)).heap.size = w2.heap.size + 1 := by simp
  refine ⟨⟨_,_,_,_,_,_,hM.below hb,fun k hk => ⟨⟨.inl (.inl (.inl hk.1.1)),hk.1.2⟩, .inl (.inl hk.2.1),hk.2.2⟩,hRb _ (fun k hk => .inl hk) _ (fun k hk => .inl (.inl hk)),⟨⟨.inr ⟨nlq,by omega⟩,by omega,by omega⟩, .inr ⟨nlq,by omega⟩,by omega⟩⟩,?_,⟨hlow,nlq,by omega⟩,?_,heap_alloc_new _ _⟩
  · exact ((qb hb1 nlq).trans (hk.mono fun k hk => .inl hk.2.1)).trans (qb hb nlq)
  · exact (hb.block _ (by omega)).trans ((hk.block _ (by omega) (.inr ⟨nlq,by omega⟩)).trans hr1)
 have y1 : IntKind.i64.wrap (ap + 1) = ap + 1 := IntWalk.i64_in _ (by omega);have hf4 := qjc;have HH := hdq2 hMid hW1;have HG := hdq7 hg hl hcl hn hN3 hap hcm;clear h h1 hr1 hb1 hsz hMid hg hl hcl hn hN3 hap hcm hvl hjl hml hlow hRb hW1
 by_cases hc : (D.saveV was ⟨N.ht,N.hv⟩ N.lg.changed).1.2 = 0
 · go_enter Tryz.func22,Tryz.ntmps22
   go_upto_region 1 with fail
   rw [HH.out.2]
   go_wp2_with fail
   refine hT.mono ?_;rintro e w2 ⟨FA,fc,EA,ec,q2,s2,xs2,K2,rfl,hE2,hM2,hk2⟩;have M3 := HH.out.1 w2 FA fc EA ec q2 s2 xs2 K2 hM2 hk2;have hE3 : Ents (w2.alloc (.cells (outC N FA fc EA ec q) 110)) (fun b => W1.heap.size <= b) FA N.lg.changed.length fc N.lg.changed := hE2.below (blq.alloc nlq _) nlq;have hz2 := hlt M3.b;clear hT c0 hE2 hM2 hk2;have hK := qeD M3 ⟨N.ht,N.hv⟩ hE3 (Nat.le_trans HG.out.2.2.1 HG.out.2.1) HG.out.2.2.2.1 EA 0 ec q.M N.ms.length q.cM q.T N.td.length q.cT;rw [hc] at hK;obtain ⟨W3,hW3⟩ := exq (w2.alloc (.cells (outC N FA fc EA ec q) 110));rw [hW3] at hK M3;obtain ⟨⟨b0,b1,b2,b3,b4,b5,b6,b7⟩,_⟩ := row8 M3.b;have HW3 := Lib.hid hW3;clear hW3 hE3 M3 hz2
   go_upto_region 2 with fail
   rw [HW3.out]
   go_wp2_with fail
   refine hK.mono ?_;rintro e w4 ⟨rfl,n',hn1,hn2,M4⟩;have hLa := qjf M4.c;have HN := hdq3 hn1 hn2 M4;clear hK b0 b1 b2 b3 b4 b5 b6 b7 hn1 hn2 M4
   go_wp2_with fail
   refine hLa.mono ?_;rintro e w5 ⟨rfl,hO5⟩;have M5 := HN.out.2.2.own hO5;obtain ⟨⟨b0,b1,b2,b3,b4,b5,b6,b7⟩,_⟩ := row8 M5.b;have c0 := qe M5.c 0 _ rfl;have hSt := qhX M5 (show N.took.1.lg.l.length <= 1000000 from Nat.le_trans HG.out.2.1 (by omega)) HG.out.2.2.2.2.1;have H5 := Lib.hid M5;clear hLa hO5 M5
   go_wp2_with fail
   refine hSt.mono ?_;rintro e w6 ⟨NA,nc,MA,mc,rfl,hb6⟩;have M6 := H5.out.below hb6;have M6d := M6.below (Below.refl w6.heap.size w6).drew;have hEn := qf1 M6d (show qk N.took.1.lg from ⟨HG.out.1.base,HG.out.1.run⟩) (show N.took.1.lg.l.length <= 1000000 from Nat.le_trans HG.out.2.1 (by omega)) (ap + 1) N.took.1.cm ⟨by have := HG.out.2.2.2.2.2.1; omega,by have := HG.out.2.2.2.2.2.1; omega⟩ (show _ <= N.cm /\ N.cm <= _ from ⟨by have := HG.out.2.2.2.2.2.2; omega,by have := HG.out.2.2.2.2.2.2; omega⟩);clear hSt hb6 b0 b1 b2 b3 b4 b5 b6 b7 c0;have c0 := qe M6.c 0 _ rfl;have c2 := qe M6.c 2 _ rfl;have H6 := Lib.hid M6d;have HE := Lib.hid hEn;clear M6 M6d hEn
   go_upto_region 8 with fail
   refine wp_region_held_drew (S := (fun w' => w'.cell? ⟨m,0,none⟩ = some (ptrV p) /\ w'.cell? ⟨m,2,none⟩ = some (.int .i64 ap))) (by kernel_rfl) ⟨c0,c2⟩ (fun hHeld => ?_);refine lsq 12 ?_;refine tkq 0 ?_;refine tkq 1 ?_;refine tkq 2 ?_;refine tkq 3 ?_;refine tkq 4 ?_;refine tkq 5 ?_;refine tkq 6 ?_;refine tkq 7 ?_;refine tkq 8 ?_;refine tkq 9 ?_;refine rdq1 10 fun KK hK => ?_;go_simp;refine (HE.out).mono ?_;rintro e w7 ⟨EA7,ec7,rfl,hb7⟩;have M7 := H6.out.below hb7;refine hK.out _ _ ⟨qe M7.c 0 _ rfl,qe M7.c 2 _ rfl⟩ ?_;clear hK KK hHeld hb7 c0 c2;intro hHeld
   try simp only [lpq]
   refine tkq 11 ?_;refine dnq ?_;have f2 := qf M7.c 2;have c2 := hHeld.2;have hO8 : OnM m #[ptrV p, .pointer (some ⟨v,0,none⟩), .int .i64 ap, .bool false] w7 w7 := ⟨M7.c,rfl,fun _ _ => rfl,rfl,rfl,rfl⟩;have M8 := M7.own (hO8.put 2 (.int .i64 N.took.1.cm) rfl);clear hHeld hO8 M7;obtain ⟨W8,hW8⟩ := exq (w7.setCell ⟨m,2,none⟩ (.int .i64 N.took.1.cm));rw [hW8] at M8;have H8 := Lib.hid M8;have HW8 := Lib.hid hW8;obtain ⟨⟨b0,b1,b2,b3,b4,b5,b6,b7⟩,_⟩ := row8 M8.b;obtain ⟨_,g0,g1,g2,g3,g4,g5⟩ := row6 M8.r;clear M8 hW8
   go_upto_region 10 with fail
   rw [HW8.out];go_wp2;obtain ⟨hfin,Zv',Zn',q',s',xs',K',hM,hB,hk⟩ := H8.out.fin6 (.slice q.M N.ms.length q.cM) (.int .i64 0) (.int .i64 0) (.slice EA 0 ec) (.slice EA7 (N.took.1.part (ap + 1) N.took.1.cm).length ec7) (.slice q.T N.td.length q.cT);refine bodyPost_ret (qm (n := w.heap.size) rfl rfl hfin Tryz.underlying38 rfl (by kernel_rfl)) rfl ?_;exact ⟨n',Zv',Zn',q',s',xs',K',HN.out.1,HN.out.2.1,hB,hk, .inl ⟨hc,⟨_,_,_,_,_,_,_,_,rfl⟩,hM⟩⟩
 · obtain ⟨cc,hcc⟩ : ∃ cc : Int,(((D.saveV was ⟨N.ht,N.hv⟩ N.lg.changed).1.2 : Nat) : Int) = cc := ⟨_,rfl⟩
   have hc0 : cc ≠ 0 := by rw [<- hcc]; omega
   have hc1 : (cc != 0) = true := by simpa using hc0
   have HC := hdq2 hcc hc0;clear hc0 hcc
   go_enter Tryz.func22,Tryz.ntmps22
   go_upto_region 1 with fail
   rw [HH.out.2]
   go_wp2_with fail
   refine hT.mono ?_;rintro e w2 ⟨FA,fc,EA,ec,q2,s2,xs2,K2,rfl,hE2,hM2,hk2⟩;have M3 := HH.out.1 w2 FA fc EA ec q2 s2 xs2 K2 hM2 hk2;have hE3 : Ents (w2.alloc (.cells (outC N FA fc EA ec q) 110)) (fun b => W1.heap.size <= b) FA N.lg.changed.length fc N.lg.changed := hE2.below (blq.alloc nlq _) nlq;clear hT c0 hE2 hM2 hk2;have hK := qeD M3 ⟨N.ht,N.hv⟩ hE3 (Nat.le_trans HG.out.2.2.1 HG.out.2.1) HG.out.2.2.2.1 EA 0 ec q.M N.ms.length q.cM q.T N.td.length q.cT;rw [HC.out.1] at hK;obtain ⟨W3,hW3⟩ := exq (w2.alloc (.cells (outC N FA fc EA ec q) 110));rw [hW3] at hK M3;obtain ⟨⟨b0,b1,b2,b3,b4,b5,b6,b7⟩,_⟩ := row8 M3.b;have HW3 := Lib.hid hW3;clear hW3 hE3 M3
   go_upto_region 2 with fail
   rw [HW3.out]
   go_wp2_with fail
   refine hK.mono ?_;rintro e w4 ⟨rfl,n',hn1,hn2,M4⟩;have hLa := qjg M4.c cc HC.out.2;have HN := hdq3 hn1 hn2 M4;clear hK b0 b1 b2 b3 b4 b5 b6 b7 hn1 hn2 M4
   go_wp2_with fail
   refine hLa.mono ?_;rintro e w5 ⟨rfl,hO5⟩;have M5 := HN.out.2.2.own hO5;obtain ⟨_,g0,g1,g2,g3,g4,g5⟩ := row6 M5.r;have H5 := Lib.hid M5;clear hLa hO5 M5;go_wp2;obtain ⟨hfin,Zv',Zn',q',s',xs',K',hM,hB,hk⟩ := H5.out.fin6 (.slice none 0 0) (.int .i64 0) (.int .i64 0) (.slice none 0 0) (.slice none 0 0) (.slice none 0 0);refine bodyPost_ret (qm (n := w.heap.size) rfl rfl hfin Tryz.underlying38 rfl (by kernel_rfl)) rfl ?_;exact ⟨n',Zv',Zn',q',s',xs',K',HN.out.1,HN.out.2.1,hB,hk, .inr ⟨hc,by rw [HC.out.1]; rfl,hM⟩⟩
end
end Go.Proofs.YtogbhedbgcmckaaGreat
set_option linter.unusedVariables false
set_option linter.unusedSimpArgs false
set_option maxRecDepth 100000
set_option maxHeartbeats 1600000
namespace Go.Proofs.YtogbhedbgcmckaaGreat
open Go.RowKit
theorem qbb (w : World) : ∃ W1,w.alloc (.cells #[.slice none 0 0, .int .i64 0, .int .i64 0, .slice none 0 0, .slice none 0 0, .slice none 0 0] 38) = W1 /\ Below w.heap.size w W1 /\ W1.heap[w.heap.size]? = some (.cells qaH 38) :=
 ⟨_,rfl,blq.alloc nlq _,heap_alloc_new w _⟩
theorem qc8 {X : World} {n : Nat} {T : TypeId} {a0 b0 c0 d0 e0 f0 : Value} (h : X.heap[n]? = some (.cells #[a0,b0,c0,d0,e0,f0] T)) :
 ((((((X.setCell ⟨n,0,none⟩ (.slice none 0 0)).setCell ⟨n,1,none⟩ (.int .i64 0)).setCell ⟨n,2,none⟩ (.int .i64 0)).setCell ⟨n,3,none⟩ (.slice none 0 0)).setCell ⟨n,4,none⟩ (.slice none 0 0)).setCell ⟨n,5,none⟩ (.slice none 0 0)).heap[n]? = some (.cells qaH T) ∧
 Below n X ((((((X.setCell ⟨n,0,none⟩ (.slice none 0 0)).setCell ⟨n,1,none⟩ (.int .i64 0)).setCell ⟨n,2,none⟩ (.int .i64 0)).setCell ⟨n,3,none⟩ (.slice none 0 0)).setCell ⟨n,4,none⟩ (.slice none 0 0)).setCell ⟨n,5,none⟩ (.slice none 0 0)) :=
 ⟨(qc7 h).1,(qc7 h).2.1⟩
section
variable {P : Program} {fn : Func} {p q u r : Tmp} {T : TypeId} {W : World} {n : Nat} {cs : Array Value} {fr : Nat × Nat} {d : TypeDesc} {tmps : Array Value}
theorem qbM (h : fn.results = #[.tmp u, .tmp r, .cell p T, .tmp q]) (tmps : Array Value) (P : Program) (w : World) :
 (results fn tmps).run P w =
   ((asAddr (tmps.getD p undef)).run P w).andThen fun a w₁ => ((loadVar T a).run P w₁).andThen fun v w₂ => .ok (.tuple #[tmps.getD u undef,tmps.getD r undef,v,tmps.getD q undef]) w₂ := by
 simp only [results,h]
 simp [Sem.run_bind,Result.andThen]
theorem qcw (h : fn.results = #[.tmp u, .tmp r, .cell p T, .tmp q]) (h1 : tmps.getD p undef = .pointer (some ⟨n,0,none⟩)) (hW : W.heap[n]? = some (.cells cs T fr)) (hu : P.underlying T = some d)
 (hd : (match d with | .struct _ | .array _ _ => true | _ => false) = true) (hi : (P.info? T).map (·.size) = some cs.size) : (results fn tmps).run P W = .ok (.tuple #[tmps.getD u undef,tmps.getD r undef, .agg cs,tmps.getD q undef]) W := by
 rw [qbM h,h1]
 simp [asAddr,run_loadVar_row W n T T cs fr d hW hu hd hi]
end
theorem qjj {w : World} : Calls Tryz.prog 6 #[.pointer none] w fun e w' => e = .returned (.tuple #[.agg qaH, .int .i64 1]) /\ Below w.heap.size w w' := by
 obtain ⟨W1,hW1,hb1,hr1⟩ := qbb w;have hb : Below w.heap.size w W1 := hb1;have hrd := qa6 W1;obtain ⟨_,f0,f1,f2,f3,f4,f5⟩ := row6 hr1;have HH := hdq3 hb hr1 hW1;clear hb hb1 hr1 hW1
 go_enter Tryz.func6,Tryz.ntmps6
 go_upto_region 1 with fail
 rw [HH.out.2.2]
 go_wp2_with fail
 refine hrd.mono ?_;rintro e w1 ⟨rfl,rfl⟩;go_wp2;obtain ⟨z1,z2⟩ := qc8 HH.out.2.1;refine bodyPost_ret (qm (n := w.heap.size) rfl rfl z1 Tryz.underlying38 rfl (by kernel_rfl)) rfl ?_;exact ⟨rfl,HH.out.1.trans (z2.mono nlq)⟩
theorem qjk (mk mf mo mt mi ml mc mx : Int) (mb : Bool) (A : Option Addr) (an ac : Nat) (si st : Int) (E : Option Addr) (en ec : Nat) {w : World} : Calls Tryz.prog 7 #[.pointer none, .agg #[.int .i64 mk, .int .i64 mf, .int .i64 mo, .int .i64 mt, .int .i64 mi, .int .i64 ml, .int .i64 mc, .int .i64 mx, .bool mb, .slice A an ac, .int .i64 si, .int .i64 st, .slice E en ec]] w fun e w' => e = .returned (.tuple #[.agg qaH, .int .i64 1]) /\ Below w.heap.size w w' := by
 obtain ⟨W0,hW0,hb0⟩ : ∃ W0,w.alloc (.cells #[.int .i64 mk, .int .i64 mf, .int .i64 mo, .int .i64 mt, .int .i64 mi, .int .i64 ml, .int .i64 mc, .int .i64 mx, .bool mb, .slice A an ac, .int .i64 si, .int .i64 st, .slice E en ec] 43) = W0 /\ Below w.heap.size w W0 := ⟨_,rfl,blq.alloc nlq _⟩
 have hz0 : W0.heap.size = w.heap.size + 1 := by rw [<- hW0]; simp
 obtain ⟨W1,hW1,hb1,hr1⟩ := qbb W0;rw [hz0] at hr1;have hb : Below w.heap.size w W1 := hb0.trans (hb1.mono (by omega));have hrd := qa6 W1;obtain ⟨_,f0,f1,f2,f3,f4,f5⟩ := row6 hr1;have HH := hdq3 hb hr1 hW1;have H0 := hdq2 hW0 hz0;clear hb hb1 hr1 hW1 hW0 hz0 hb0
 go_enter Tryz.func7,Tryz.ntmps7
 go_upto_region 1 with fail
 rw [H0.out.1];rw [HH.out.2.2]
 go_wp2_with fail
 refine hrd.mono ?_;rintro e w1 ⟨rfl,rfl⟩;go_wp2;obtain ⟨z1,z2⟩ := qc8 HH.out.2.1;refine bodyPost_ret (qm (n := w.heap.size + 1) rfl rfl z1 Tryz.underlying38 rfl (by kernel_rfl)) rfl ?_;exact ⟨rfl,HH.out.1.trans (z2.mono (by omega))⟩
theorem qf2 (D : Option Addr) (dn dc : Nat) {w : World} : Calls Tryz.prog 9 #[.pointer none, .slice D dn dc] w fun e w' => e = .returned (.tuple #[.int .i64 0, .int .i64 0, .agg qaH, .int .i64 1]) /\ Below w.heap.size w w' := by
 obtain ⟨W1,hW1,hb1,hr1⟩ := qbb w;have hb : Below w.heap.size w W1 := hb1;have hrd := qa6 W1;obtain ⟨_,f0,f1,f2,f3,f4,f5⟩ := row6 hr1;have HH := hdq3 hb hr1 hW1;clear hb hb1 hr1 hW1
 go_enter Tryz.func9,Tryz.ntmps9
 go_upto_region 1 with fail
 rw [HH.out.2.2]
 go_wp2_with fail
 refine hrd.mono ?_;rintro e w1 ⟨rfl,rfl⟩;go_wp2;obtain ⟨z1,z2⟩ := qc8 HH.out.2.1;refine bodyPost_ret (qcw (n := w.heap.size) rfl rfl z1 Tryz.underlying38 rfl (by kernel_rfl)) rfl ?_;exact ⟨rfl,HH.out.1.trans (z2.mono nlq)⟩
theorem qjl {w : World} : Calls Tryz.prog 10 #[.pointer none] w fun e w' => e = .returned (.tuple #[.int .i64 0, .agg qaH, .int .i64 1]) /\ Below w.heap.size w w' := by
 obtain ⟨W1,hW1,hb1,hr1⟩ := qbb w;have hb : Below w.heap.size w W1 := hb1;have hrd := qa6 W1;obtain ⟨_,f0,f1,f2,f3,f4,f5⟩ := row6 hr1;have HH := hdq3 hb hr1 hW1;clear hb hb1 hr1 hW1
 go_enter Tryz.func10,Tryz.ntmps10
 go_upto_region 1 with fail
 rw [HH.out.2.2]
 go_wp2_with fail
 refine hrd.mono ?_;rintro e w1 ⟨rfl,rfl⟩;go_wp2;obtain ⟨z1,z2⟩ := qc8 HH.out.2.1;refine bodyPost_ret (qaP (n := w.heap.size) rfl rfl z1 Tryz.underlying38 rfl (by kernel_rfl)) rfl ?_;exact ⟨rfl,HH.out.1.trans (z2.mono nlq)⟩
theorem qhY {w : World} {m : Nat} {a0 a1 a2 : Value} {T : TypeId} (h : w.heap[m]? = some (.cells #[a0,a1,a2, .bool true] T)) : Calls Tryz.prog 6 #[.pointer (some ⟨m,0,none⟩)] w fun e w' => e = .returned (.tuple #[.agg qaH, .int .i64 5]) /\ Below w.heap.size w w' := by
 obtain ⟨W1,hW1,hb1,hr1⟩ := qbb w;have hb : Below w.heap.size w W1 := hb1;have hrd := qb8 ((hb.block _ (hlt h)).trans h);obtain ⟨_,f0,f1,f2,f3,f4,f5⟩ := row6 hr1;have HH := hdq3 hb hr1 hW1;clear hb hb1 hr1 hW1 h
 go_enter Tryz.func6,Tryz.ntmps6
 go_upto_region 1 with fail
 rw [HH.out.2.2]
 go_wp2_with fail
 refine hrd.mono ?_;rintro e w1 ⟨rfl,rfl⟩;go_wp2;obtain ⟨z1,z2⟩ := qc8 HH.out.2.1;refine bodyPost_ret (qm (n := w.heap.size) rfl rfl z1 Tryz.underlying38 rfl (by kernel_rfl)) rfl ?_;exact ⟨rfl,HH.out.1.trans (z2.mono nlq)⟩
theorem qhZ (mk mf mo mt mi ml mc mx : Int) (mb : Bool) (A : Option Addr) (an ac : Nat) (si st : Int) (E : Option Addr) (en ec : Nat) {w : World} {m : Nat} {a0 a1 a2 : Value} {T : TypeId} (h : w.heap[m]? = some (.cells #[a0,a1,a2, .bool true] T)) : Calls Tryz.prog 7 #[.pointer (some ⟨m,0,none⟩), .agg #[.int .i64 mk, .int .i64 mf, .int .i64 mo, .int .i64 mt, .int .i64 mi, .int .i64 ml, .int .i64 mc, .int .i64 mx, .bool mb, .slice A an ac, .int .i64 si, .int .i64 st, .slice E en ec]] w fun e w' => e = .returned (.tuple #[.agg qaH, .int .i64 5]) /\ Below w.heap.size w w' := by
 obtain ⟨W0,hW0,hb0⟩ : ∃ W0,w.alloc (.cells #[.int .i64 mk, .int .i64 mf, .int .i64 mo, .int .i64 mt, .int .i64 mi, .int .i64 ml, .int .i64 mc, .int .i64 mx, .bool mb, .slice A an ac, .int .i64 si, .int .i64 st, .slice E en ec] 43) = W0 /\ Below w.heap.size w W0 := ⟨_,rfl,blq.alloc nlq _⟩
 have hz0 : W0.heap.size = w.heap.size + 1 := by rw [<- hW0]; simp
 obtain ⟨W1,hW1,hb1,hr1⟩ := qbb W0;rw [hz0] at hr1;have hb : Below w.heap.size w W1 := hb0.trans (hb1.mono (by omega));have hrd := qb8 ((hb.block _ (hlt h)).trans h);obtain ⟨_,f0,f1,f2,f3,f4,f5⟩ := row6 hr1;have HH := hdq3 hb hr1 hW1;have H0 := hdq2 hW0 hz0;clear hb hb1 hr1 hW1 hW0 hz0 hb0 h
 go_enter Tryz.func7,Tryz.ntmps7
 go_upto_region 1 with fail
 rw [H0.out.1];rw [HH.out.2.2]
 go_wp2_with fail
 refine hrd.mono ?_;rintro e w1 ⟨rfl,rfl⟩;go_wp2;obtain ⟨z1,z2⟩ := qc8 HH.out.2.1;refine bodyPost_ret (qm (n := w.heap.size + 1) rfl rfl z1 Tryz.underlying38 rfl (by kernel_rfl)) rfl ?_;exact ⟨rfl,HH.out.1.trans (z2.mono (by omega))⟩
theorem qf3 (D : Option Addr) (dn dc : Nat) (w : World) : Calls Tryz.prog 12 #[.pointer none, .slice D dn dc] w fun e w' => e = .returned (.int .i64 1) /\ w' = w := by
 have hrd := qa6 w
 go_enter Tryz.func12,Tryz.ntmps12
 go_wp2_with fail
 refine hrd.mono ?_;rintro e w1 ⟨rfl,rfl⟩;go_wp2;go_ret;exact ⟨rfl,rfl⟩
theorem qeR (D : Option Addr) (dn dc : Nat) {w : World} {m : Nat} {a0 a1 a2 : Value} {T : TypeId} (h : w.heap[m]? = some (.cells #[a0,a1,a2, .bool true] T)) : Calls Tryz.prog 12 #[.pointer (some ⟨m,0,none⟩), .slice D dn dc] w fun e w' => e = .returned (.int .i64 5) /\ w' = w := by
 have hrd := qb8 h;clear h
 go_enter Tryz.func12,Tryz.ntmps12
 go_wp2_with fail
 refine hrd.mono ?_;rintro e w1 ⟨rfl,rfl⟩;go_wp2;go_ret;exact ⟨rfl,rfl⟩
theorem qf4 (w : World) : Calls Tryz.prog 13 #[.pointer none] w fun e w' => e = .returned (.int .i64 0) /\ w' = w := by
 go_enter Tryz.func13,Tryz.ntmps13
 go_wp2;go_ret;exact ⟨rfl,rfl⟩
theorem qgG {w : World} {m : Nat} {a0 a1 a3 : Value} {ap : Int} {T : TypeId} (h : w.heap[m]? = some (.cells #[a0,a1, .int .i64 ap,a3] T)) : Calls Tryz.prog 13 #[.pointer (some ⟨m,0,none⟩)] w fun e w' => e = .returned (.int .i64 ap) /\ w' = w := by
 have c2 := qe h 2 _ rfl
 go_enter Tryz.func13,Tryz.ntmps13
 go_wp2;go_ret;exact ⟨rfl,rfl⟩
theorem qjm (w : World) : Calls Tryz.prog 14 #[.pointer none] w fun e w' => e = .returned (.bool false) /\ w' = w := by
 go_enter Tryz.func14,Tryz.ntmps14
 go_wp2;go_ret;exact ⟨rfl,rfl⟩
theorem qkn {w : World} {m : Nat} {a0 a1 a2 : Value} {g : Bool} {T : TypeId} (h : w.heap[m]? = some (.cells #[a0,a1,a2, .bool g] T)) : Calls Tryz.prog 14 #[.pointer (some ⟨m,0,none⟩)] w fun e w' => e = .returned (.bool g) /\ w' = w := by
 have c3 := qe h 3 _ rfl
 go_enter Tryz.func14,Tryz.ntmps14
 go_wp2;go_ret;exact ⟨rfl,rfl⟩
end Go.Proofs.YtogbhedbgcmckaaGreat
set_option linter.unusedVariables false
set_option linter.unusedSimpArgs false
set_option maxRecDepth 100000
set_option maxHeartbeats 3200000
namespace Go.Proofs.YtogbhedbgcmckaaGreat
open Go.RowKit
theorem qd4 (N : Node) : N.sendAll.lg = N.lg := by
 unfold Node.sendAll;obtain ⟨ls,_,e⟩ := qb1 N N.others;rw [e]
theorem qeS {N : Node} {s : Nat} (hg : qk N.lg) (h : frel N.lg s) : frel N.tick.lg s := by
 unfold Node.tick;dsimp only
 split
 · rw [qd4];exact h
 · split
   · exact h
   · split
     · exact qkj (N := ({ N with wk := N.wk + 1 } : Node).count 1) hg h
     · rw [qi7];exact h
theorem qdk (k : Nat) (hk : k <= 6) : (oneN k).kp = false /\ qk (oneN k).lg /\ (oneN k).lg.l.length <= 20000 /\ (oneN k).sn.d.length <= 50000 /\ (0 <= (oneN k).cm /\ (oneN k).cm <= 2199023255552) /\ (oneN k).n <= 3 := by
 by_cases h : k <= 5
 · rw [qba k h];exact ⟨rfl,qeC,by show (0 : Nat) <= 20000; decide,by show (0 : Nat) <= 50000; decide,⟨by show (0 : Int) <= 0; decide,by show (0 : Int) <= 2199023255552; decide⟩,by show 1 <= 3; decide⟩
 · obtain rfl : k = 6 := by omega
   exact ⟨by decide,⟨by decide,by decide⟩,by decide,by decide,by decide,by decide⟩
theorem qko (k : Nat) (hk : k <= 5) : (oneN k).took.1 = oneN k := by
 rw [qba k hk]
 rfl
section
variable {W X : World} {m p v j d : Nat} {N : Node} {D : Dsk} {was : Hd} {n ap : Int} {g : Bool} {Zv Zn : Nat → Prop} {q : Ptrs} {s : Nat} {xs : List MLay} {K : Nat → Prop}
theorem Mb.fin6 (h : Mb W X m p v j d N D was n ap g Zv Zn q s xs K) {R : Nat} (hR : Beside Zv Zn j v m R) (hW : W.heap.size <= R) {a0 b0 c0 d0 e0 f0 : Value} {T : TypeId} (hr : X.heap[R]? = some (.cells #[a0,b0,c0,d0,e0,f0] T)) (a b c d' e f : Value) :
 ((((((X.setCell ⟨R,0,none⟩ a).setCell ⟨R,1,none⟩ b).setCell ⟨R,2,none⟩ c).setCell ⟨R,3,none⟩ d').setCell ⟨R,4,none⟩ e).setCell ⟨R,5,none⟩ f).heap[R]? = some (.cells #[a,b,c,d',e,f] T) ∧
 Mb W ((((((X.setCell ⟨R,0,none⟩ a).setCell ⟨R,1,none⟩ b).setCell ⟨R,2,none⟩ c).setCell ⟨R,3,none⟩ d').setCell ⟨R,4,none⟩ e).setCell ⟨R,5,none⟩ f) m p v j d N D was n ap g Zv Zn q s xs K ∧
 qa (· ≠ R) X ((((((X.setCell ⟨R,0,none⟩ a).setCell ⟨R,1,none⟩ b).setCell ⟨R,2,none⟩ c).setCell ⟨R,3,none⟩ d').setCell ⟨R,4,none⟩ e).setCell ⟨R,5,none⟩ f) := by
 have h6 := qc7 (a := a) (b := b) (c := c) (d := d') (e := e) (f := f) hr;exact ⟨h6.1,h.boxed hR.1 hR.2.1 hR.2.2 hW (by simp) h6.2.1.tape h6.2.1.os h6.2.1.output h6.2.2,⟨h6.2.1.os,h6.2.1.tape,h6.2.1.output,h6.2.1.size,fun k _ hk => h6.2.2 k hk⟩⟩
end
section
variable {W w : World} {m p v j d : Nat} {D : Dsk} {was : Hd} {n ap : Int} {Zv Zn : Nat → Prop} {q : Ptrs} {s : Nat} {xs : List MLay} {K : Nat → Prop}
/-- A tick of a member of one. -/
theorem qcY (k : Nat) (hk : k <= 5) (h : Mb W w m p v j d (oneN k) D was n ap false Zv Zn q s xs K) (hn : 0 <= n /\ n <= 900000000) (hap : 0 <= ap /\ ap <= 2199023255552) :
 Calls Tryz.prog 6 #[.pointer (some ⟨m,0,none⟩)] w fun e w' => qgT W w w' m p v j d (oneN (k + 1)) D was n ap Zv Zn e := by
 obtain ⟨W1,hW1,hb1,hr1⟩ := qbb w
 have hsz : W1.heap.size = w.heap.size + 1 := by rw [<- hW1]; simp
 have h1 := h.below hb1;have hrd := qje h1.row;have hT := qjd k hk h1.rf h1.zn;have hfr : frel (oneN (k + 1)).lg s := qeS (qdk k (by omega)).2.1 h.fr;obtain ⟨s1,s2,s3,s4,s5,s6⟩ := qdk (k + 1) (by omega);have c0 := h1.c.1;have hvl := h.vt.lt;have hjl := h.vt.lg.lt;have hml := h.lt;have hlow := h.low.size
 have hSe := fun (w2 : World) (Zv' Zn' : Nat -> Prop) (q' : Ptrs) (xs' : List MLay) (K' : Nat -> Prop) (hM : Mb W w2 m p v j d (oneN (k + 1)) D was n ap false Zv' Zn' q' s xs' K') => qgF hM s1 s2 s3 hn s4 hap s5 s6
 have hold := h.vt.lg.dk.old
 have hB1 : ∀ k,Beside Zv Zn j v m k -> Beside (fun k => Zv k \/ w.heap.size <= k /\ k < W1.heap.size) (fun k => Zn k \/ w.heap.size <= k /\ k < W1.heap.size) j v m k := fun k hk => ⟨⟨.inl hk.1.1,hk.1.2⟩, .inl hk.2.1,hk.2.2⟩
 have hBR : Beside (fun k => Zv k \/ w.heap.size <= k /\ k < W1.heap.size) (fun k => Zn k \/ w.heap.size <= k /\ k < W1.heap.size) j v m w.heap.size := ⟨⟨.inr ⟨nlq,by omega⟩,by omega,by omega⟩, .inr ⟨nlq,by omega⟩,by omega⟩
 -- the result's block behind the node's tick and behind settling,what stays
 have hEnd : ∀ w2 w3 (q' : Ptrs) (xs' : List MLay) (K' : Nat -> Prop),qa (fun k => Zn k \/ w.heap.size <= k /\ k < W1.heap.size) W1 w2 -> qa (Beside (fun k => (Zv k \/ w.heap.size <= k /\ k < W1.heap.size) \/ W1.heap.size <= k /\ k < w2.heap.size) (fun k => Zn k \/ w.heap.size <= k /\ k < W1.heap.size) j v m) w2 w3 →
  w3.heap[w.heap.size]? = some (.cells qaH 38) /\ ∀ Y,qa (· ≠ w.heap.size) w3 Y -> qa (Beside Zv Zn j v m) w Y := by
  intro w2 w3 q' xs' K' k2 k3;have hs2 := k2.size;refine ⟨(k3.block _ (by omega) ⟨⟨.inl hBR.1.1,hBR.1.2⟩,hBR.2⟩).trans ((k2.block _ (by omega) hBR.2.1).trans hr1),fun Y hY => ?_⟩;exact (((qb hb1 nlq).trans (k2.mono fun k hk => .inl hk.2.1)).trans (k3.mono fun k hk => ⟨⟨.inl (.inl hk.1.1),hk.1.2⟩, .inl hk.2.1,hk.2.2⟩)).trans (hY.mono fun k hk e => by have := hold k hk.1.1; omega)
 have HH := hdq7 h1 hfr hEnd hW1 hB1 hBR hlow;have HS := Lib.hid hSe;clear h h1 hb1 hr1 hW1 hsz hfr hvl hjl hml hlow hSe s1 s2 s3 s4 s5 s6 hn hap hold hB1 hBR hEnd
 go_enter Tryz.func6,Tryz.ntmps6
 go_upto_region 1 with fail
 rw [HH.out.2.2.2.1]
 go_wp2_with fail
 refine hrd.mono ?_;rintro e w1 ⟨rfl,rfl⟩;clear hrd
 go_wp2_with fail
 refine hT.mono ?_;rintro e w2 ⟨rfl,q2,xs2,K2,hR2,_,hk2⟩;have M2 := HH.out.1.node hR2 HH.out.2.1 hk2;have hS := HS.out w2 _ _ q2 xs2 K2 M2;have HK := hdq2 M2 hk2;clear hT hR2 hk2 M2 c0
 go_wp2_with fail
 refine hS.mono ?_;rintro e w3 ⟨n',Zv',Zn',q',s',xs',K',hn1,hn2,hB,hk3,hP⟩;obtain ⟨hr3,hEnd⟩ := HH.out.2.2.1 w2 w3 q2 xs2 K2 HK.out.2 hk3;have hBR := hB _ (show Beside (fun k => (Zv k \/ w.heap.size <= k /\ k < w1.heap.size) \/ w1.heap.size <= k /\ k < w2.heap.size) (fun k => Zn k \/ w.heap.size <= k /\ k < w1.heap.size) j v m w.heap.size from ⟨⟨.inl HH.out.2.2.2.2.2.1.1.1,HH.out.2.2.2.2.2.1.1.2⟩,HH.out.2.2.2.2.2.1.2⟩)
 have hup : ∀ k,Beside Zv Zn j v m k -> Beside Zv' Zn' j v m k := fun k hk => hB k (by have := HH.out.2.2.2.2.1 k hk; exact ⟨⟨.inl this.1.1,this.1.2⟩,this.2⟩)
 obtain ⟨_,g0,g1,g2,g3,g4,g5⟩ := row6 hr3;clear hS hB hk3;rcases hP with ⟨hc,⟨MA,mc,DA,dc,EA,ec,TA,tc,rfl⟩,hM⟩ | ⟨hc,rfl,hM⟩
 · have HM := hdq8 hM hBR hr3 hup hEnd hc hn1 hn2;clear hM hBR hr3 hup hEnd hc hn1 hn2;go_wp2;obtain ⟨z1,z2,z3⟩ := HM.out.1.fin6 HM.out.2.1 HH.out.2.2.2.2.2.2 HM.out.2.2.1 (.slice MA (oneN (k + 1)).ms.length mc) (.int .i64 0) (.int .i64 0) (.slice DA 0 dc) (.slice EA ((oneN (k + 1)).took.1.part (ap + 1) (oneN (k + 1)).cm).length ec) (.slice TA (oneN (k + 1)).td.length tc);refine bodyPost_ret (qm (n := w.heap.size) rfl rfl z1 Tryz.underlying38 rfl (by kernel_rfl)) rfl ?_;exact ⟨n',Zv',Zn',q',s',xs',K',HM.out.2.2.2.2.2.2.1,HM.out.2.2.2.2.2.2.2,HM.out.2.2.2.1,HM.out.2.2.2.2.1 _ z3, .inl ⟨HM.out.2.2.2.2.2.1,⟨_,_,_,_,_,_,_,_,rfl⟩,z2⟩⟩
 · have HM := hdq8 hM hBR hr3 hup hEnd hc hn1 hn2;clear hM hBR hr3 hup hEnd hn1 hn2;obtain ⟨cc,hcc⟩ : ∃ cc : Int,(((D.saveV was ⟨(oneN (k + 1)).ht,(oneN (k + 1)).hv⟩ (oneN (k + 1)).lg.changed).1.2 : Nat) : Int) = cc := ⟨_,rfl⟩;rw [hcc];have HC := Lib.hid hcc;clear hcc hc;go_wp2;obtain ⟨z1,z2,z3⟩ := HM.out.1.fin6 HM.out.2.1 HH.out.2.2.2.2.2.2 HM.out.2.2.1 (.slice none 0 0) (.int .i64 0) (.int .i64 0) (.slice none 0 0) (.slice none 0 0) (.slice none 0 0);refine bodyPost_ret (qm (n := w.heap.size) rfl rfl z1 Tryz.underlying38 rfl (by kernel_rfl)) rfl ?_;exact ⟨n',Zv',Zn',q',s',xs',K',HM.out.2.2.2.2.2.2.1,HM.out.2.2.2.2.2.2.2,HM.out.2.2.2.1,HM.out.2.2.2.2.1 _ z3, .inr ⟨HM.out.2.2.2.2.2.1,by rw [HC.out]; rfl,z2⟩⟩
end
end Go.Proofs.YtogbhedbgcmckaaGreat
