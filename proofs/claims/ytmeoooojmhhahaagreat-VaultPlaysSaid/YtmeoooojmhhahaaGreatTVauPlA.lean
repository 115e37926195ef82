/- VaultPlays: what stays of a disk, by call; the law's boxes on its way, the program's and the document's; Has of what is the same; whether acts are few. -/
import Derived.Test.YtmeoooojmhhahaaGreatTVauP5
import Derived.Test.YtmeoooojmhhahaaGreatTVauRefQ
import Derived.Test.YtmeoooojmhhahaaGreatTVauRefO
import Derived.Test.YtmeoooojmhhahaaGreatTVauSame
import Derived.Test.YtmeoooojmhhahaaGreatTVauArg
set_option linter.unusedVariables false
set_option linter.unusedSimpArgs false
set_option maxRecDepth 100000
set_option maxHeartbeats 200000
namespace Go.Proofs.YtmeoooojmhhahaaGreat
open Go.RowKit
section
variable (D : Dsk)
theorem qgv : D.burn.room = D.room := by unfold Dsk.burn; split <;> (try split) <;> rfl
theorem qcY (f : Fil) (g : ByteArray) : (D.done f g).1.room = D.room := by unfold Dsk.done; split <;> exact qgv D
theorem qda (n b : ByteArray) : (D.append n b).1.room = D.room := by
 unfold Dsk.append; split
 · rfl
 split
 · rfl
 · dsimp only; split <;> exact qgv _
theorem qgw (n : ByteArray) : (D.sync n).1.room = D.room := by
 unfold Dsk.sync; split
 · rfl
 split
 · rfl
 · exact qcY _ _ _
theorem qhM (n : ByteArray) (k : Int) : (D.cut n k).1.room = D.room := by
 unfold Dsk.cut; split
 · rfl
 split
 · rfl
 split
 · rfl
 · exact qcY _ _ _
theorem qey (a b : ByteArray) : (D.rename a b).1.room = D.room := by
 unfold Dsk.rename; split
 · rfl
 split
 · rfl
 split
 · rfl
 · exact qcY _ _ _
theorem qez (n : ByteArray) : (D.remove n).1.room = D.room := by
 unfold Dsk.remove; split
 · rfl
 split
 · rfl
 · exact qcY _ _ _
theorem qdD (n b : ByteArray) : (D.wrote n b).1.room = D.room := by
 unfold Dsk.wrote; split
 · exact qda _ _ _
 · rw [qgw,qda]
theorem qb5 (n : ByteArray) : (D.gone n).1.room = D.room := qez _ _
theorem qbs (n b : ByteArray) : (D.replaced n b).1.room = D.room := by
 unfold Dsk.replaced; split
 · exact qb5 _ _
 split
 · rw [qb5,qb5]
 split
 · rw [qdD,qb5]
 · rw [qey,qdD,qb5]
theorem qjz (n : ByteArray) (l : List (List UInt8)) : (D.added n l).1.room = D.room := by
 unfold Dsk.added; split
 · rfl
 · exact qdD _ _ _
theorem qbl (n : ByteArray) : (D.openW n).1.room = D.room := by
 unfold Dsk.openW; split
 · rfl
 split
 · exact qhM _ _ _
 · rfl
theorem qfL (was h : Hd) (l : List Ent) : (D.saveV was h l).1.1.room = D.room := by
 unfold Dsk.saveV; split
 · exact qjz _ _ _
 · rfl
theorem qhN (r : Dsk × Nat) (f : Dsk -> Dsk × Nat) (h : ∀ E : Dsk,(f E).1.room = E.room) : (thn r f).1.room = r.1.room := by
 unfold thn; split
 · rfl
 · exact h _
theorem qjA (was h : Hd) (s : Ent) (l : List Ent) : (D.keepV was h s l).1.1.room = D.room := by
 unfold Dsk.keepV; split
 · show (thn _ _).1.room = _
   exact (qhN _ _ fun E => qbs _ _ _).trans ((qhN _ _ fun E => qbs _ _ _).trans (qfL _ _ _ _))
 · rfl
theorem qjB : D.openV.1.1.room = D.room := by
 unfold Dsk.openV; split
 · rfl
 split
 · exact qbl _ _
 · unfold qaL; split
   · exact qbl _ _
   · split
     · exact qbl _ _
     · split
       · exact qbl _ _
       · split
         · exact (qbs _ _ _).trans (qbl _ _)
         · exact (qbs _ _ _).trans (qbl _ _)
theorem qkC (h : D.openV.1.2 ≠ 0) : D.openV.2 = qN := by
 revert h
 unfold Dsk.openV; split
 · intro _; rfl
 split
 · intro _; rfl
 · unfold qaL; split
   · intro _; rfl
   · split
     · intro _; rfl
     · split
       · intro h; exact absurd rfl h
       · split
         · intro _; rfl
         · rename_i h0; intro h; exact absurd h h0
end
theorem ql4 (a : Act) (D : Dsk) : (a.on D).room = D.room := by
 unfold Act.on
 split
 · exact qda _ _ _
 split
 · exact qgw _ _
 split
 · exact qhM _ _ _
 split
 · exact qey _ _ _
 split
 · exact qez _ _
 split
 · rfl
 split
 · unfold Dsk.fuse; split
   · rfl
   split <;> rfl
 split <;> rfl
theorem qkD (room : Int) : Dsk.openV ⟨room,[],false,0,false⟩ = ((⟨room,[],false,0,false⟩,0),⟨⟨0,-1⟩,qaC,[]⟩) := by rfl
theorem qgx {D : Dsk} (hG : Good D) (hr : D.room <= 65535) (nm : ByteArray) : (D.told nm).1.length <= 20000 := by
 have h1 := qma D nm
 have h2 := hG.used
 have h3 : ((qg D.l : Nat) : Int) <= D.room := h2
 omega
structure PAt (G w : World) (v j d : Nat) (D : Dsk) (was : Hd) (n : Int) (B : Nat) (A : Option Addr) (cap : Nat) (E : Dsk) (wE : Hd) (m : Int) (Q : Nat -> Prop) : Prop where
 ctx : Ctx G w v j d D was n Q
 rf : RF w A cap E.l
 rz : InZ (fun k => (Q k /\ k ≠ j /\ k ≠ v) /\ k ≠ B) A E.l.length
 box : w.heap[B]? = some (.cells (vauC A cap E m wE) 45)
 qb : Q B /\ B ≠ j /\ B ≠ v
 bG : G.heap.size <= B
theorem RF.kept {w w' : World} {A : Option Addr} {cap : Nat} {l : List Fil} (h : RF w A cap l) {Z : Nat -> Prop} (hz : InZ Z A l.length) (hs : w.heap.size <= w'.heap.size) (hk : ∀ k,k < w.heap.size -> Z k -> w'.heap[k]? = w.heap[k]?) : RF w' A cap l := by
 refine ⟨h.1,fun h0 => ?_⟩
 obtain ⟨g,off,e,hg,hc⟩ := h.2 h0
 refine ⟨g,off,e,Nat.lt_of_lt_of_le hg hs,fun j hj => ?_⟩
 obtain ⟨c0,c1,c2⟩ := hc j hj
 have hx : ∀ o,w'.cell? ⟨g,o,none⟩ = w.cell? ⟨g,o,none⟩ := fun o => World.cell?_of_block (hk g hg (hz h0 _ e))
 exact ⟨(hx _).trans c0,(hx _).trans c1,(hx _).trans c2⟩
section
variable {G w w' : World} {v j d : Nat} {D D' : Dsk} {was was' : Hd} {n n' : Int} {B : Nat} {A : Option Addr} {cap : Nat} {E : Dsk} {wE : Hd} {m : Int} {Q : Nat → Prop}
theorem PAt.below (h : PAt G w v j d D was n B A cap E wE m Q) (hb : Below w.heap.size w w') : PAt G w' v j d D was n B A cap E wE m Q :=
 ⟨h.ctx.below hb,h.rf.below hb nlq,h.rz,(hb.block _ (hlt h.box)).trans h.box,h.qb,h.bG⟩
theorem PAt.vdid (h : PAt G w v j d D was n B A cap E wE m Q) (hd : VDid w w' v j d D' was' n' Q) : PAt G w' v j d D' was' n' B A cap E wE m Q :=
 ⟨h.ctx.vdid hd,h.rf.kept h.rz hd.2.size fun k hk hz => hd.2.block k hk hz.1,h.rz,hd.at h.box h.qb.1 h.qb.2.1 h.qb.2.2,h.qb,h.bG⟩
theorem PAt.did (h : PAt G w v j d D was n B A cap E wE m Q) (hd : Did w w' d D' Q) : PAt G w' v j d D' was n B A cap E wE m Q :=
 ⟨h.ctx.did hd,h.rf.kept h.rz hd.2.size fun k hk hz => hd.2.block k hk hz.1.1,h.rz,(hd.2.block _ (hlt h.box) h.qb.1).trans h.box,h.qb,h.bG⟩
theorem PAt.opd (h : PAt G w v j d D was n B A cap E wE m Q) {v2 j2 : Nat} {hd : Held} {n2 : Int} {Q2 : Nat -> Prop} {Bs : Option Addr} {bc : Nat} {A2 : Option Addr} {c : Nat} (ho : Opd w w' d D' v2 j2 hd n2 Q Q2 Bs bc A2 c) : PAt G w' v2 j2 d D' hd.h n2 B A cap E wE m Q2 :=
 ⟨Ctx.opd ho h.ctx.low h.ctx.all,h.rf.kept h.rz ho.kp.size fun k hk hz => ho.kp.block k hk hz.1.1,fun h0 a e => ⟨ho.sub _ (h.rz h0 a e).1.1,(h.rz h0 a e).2⟩,(ho.kp.block _ (hlt h.box) h.qb.1).trans h.box,ho.sub _ h.qb.1,h.bG⟩
theorem PAt.got (h : PAt G w v j d D was n B A cap E wE m Q) {A' : Option Addr} {cap' : Nat} {E' : Dsk} {wE' : Hd} {m' : Int} {w3 : World} (hg : Got w A cap E.l w' A' cap' E'.l) (hX : Below G.heap.size w' w3) (hs : w3.heap.size = w'.heap.size) (far : ∀ k,k ≠ B -> w3.heap[k]? = w'.heap[k]?) (box : w3.heap[B]? = some (.cells (vauC A' cap' E' m' wE') 45)) :
 PAt G w3 v j d D was n B A' cap' E' wE' m' (fun k => Q k \/ w.heap.size <= k /\ k < w3.heap.size) := by
 have hC := h.ctx.wide hg.1
 have hsz := hg.1.size
 have hj := h.ctx.vt.lg.lt
 have hv := h.ctx.vt.lt
 have hBl := hlt h.box
 have hQ : (fun k => Q k \/ w.heap.size <= k /\ k < w3.heap.size) = (fun k => Q k \/ w.heap.size <= k /\ k < w'.heap.size) := by rw [hs]
 rw [hQ]
 have hzB : Q B := h.qb.1
 have hC3 : Ctx G w3 v j d D was n (fun k => Q k \/ w.heap.size <= k /\ k < w'.heap.size) :=
  ⟨⟨(far _ h.qb.2.2.symm).trans hC.vt.box,⟨(far _ h.qb.2.1.symm).trans hC.vt.lg.box,hC.vt.lg.dk.keep (Nat.le_of_eq hs.symm) fun k _ hk => far k (fun e => hk (e ▸ .inl hzB)),hC.vt.lg.own⟩,hC.vt.own,hC.vt.ne⟩,hC.low.trans hX,hC.all,hC.newv,hC.newj⟩
 have hrf := hg.rf h.rf
 have hblk : ∀ (h0 : 0 < E'.l.length) x,A' = some x -> x.block ≠ B /\ ((Q x.block /\ x.block ≠ j /\ x.block ≠ v) \/ w.heap.size <= x.block) := fun h0 x e => by
  rcases hg.2 with ⟨e1,_,e3⟩ | ⟨_,e5⟩
  · subst e1
    have hz := h.rz (by rw [<- e3]; exact h0) x e
    exact ⟨hz.2, .inl hz.1⟩
  · have := e5 x e
    exact ⟨by omega, .inr this⟩
 exact ⟨hC3,hrf.kept (Z := fun k => k ≠ B) (fun h0 x e => (hblk h0 x e).1) (Nat.le_of_eq hs.symm) fun k _ hk => far k hk,
  fun h0 x e => by
   obtain ⟨g,off,e2,hgg,_⟩ := hrf.2 h0
   have hb := (hblk h0 x e).2
   rw [e2] at e
   injection e with e
   subst e
   have hnB := (hblk h0 _ e2).1
   rcases hb with hb | hb
   · exact ⟨⟨.inl hb.1,hb.2⟩,hnB⟩
   · dsimp only at hb ⊢; exact ⟨⟨.inr ⟨hb,by omega⟩,by omega,by omega⟩,hnB⟩,
  box,⟨.inl hzB,h.qb.2⟩,h.bG⟩
end
end Go.Proofs.YtmeoooojmhhahaaGreat
