/- VaultPlays: steps of the walk: rows of its boxes; stores into the document's vault; what goes on behind each act. -/
import Derived.Test.YtmeoooojmhhahaaGreatTVauPlB
set_option linter.unusedVariables false
set_option linter.unusedSimpArgs false
set_option maxRecDepth 100000
set_option maxHeartbeats 200000
namespace Go.Proofs.YtmeoooojmhhahaaGreat
open Go.RowKit
theorem qim {G : Nat} {w : World} {B : Nat} (hB : G <= B) (a b c d e : Value) : Below G w (((((w.setCell ⟨B,0,none⟩ a).setCell ⟨B,1,none⟩ b).setCell ⟨B,2,none⟩ c).setCell ⟨B,3,none⟩ d).setCell ⟨B,4,none⟩ e) := qk blq hB _ _ _ _ _
theorem vau5 (w : World) {B : Nat} {a0 a1 a2 a3 a4 a5 a6 a7 a8 : Value} {T : TypeId} (h : w.heap[B]? = some (.cells #[a0,a1,a2,a3,a4,a5,a6,a7,a8] T)) (b0 b1 b2 b3 b4 : Value) :
 (((((w.setCell ⟨B,0,none⟩ b0).setCell ⟨B,1,none⟩ b1).setCell ⟨B,2,none⟩ b2).setCell ⟨B,3,none⟩ b3).setCell ⟨B,4,none⟩ b4).heap[B]? = some (.cells #[b0,b1,b2,b3,b4,a5,a6,a7,a8] T) := by
 have h1 := setCell_at w ⟨B,0,none⟩ b0 _ _ _ rfl h
 have h2 := setCell_at _ ⟨B,1,none⟩ b1 _ _ _ rfl h1
 have h3 := setCell_at _ ⟨B,2,none⟩ b2 _ _ _ rfl h2
 have h4 := setCell_at _ ⟨B,3,none⟩ b3 _ _ _ rfl h3
 exact setCell_at _ ⟨B,4,none⟩ b4 _ _ _ rfl h4
theorem qdb {G : Nat} {w : World} {B : Nat} {a0 a1 a2 a3 a4 a5 a6 a7 a8 : Value} {T : TypeId} (h : w.heap[B]? = some (.cells #[a0,a1,a2,a3,a4,a5,a6,a7,a8] T)) (hB : G <= B) (b0 b1 b2 b3 b4 : Value) :
 ∃ X,Hid ((((((w.setCell ⟨B,0,none⟩ b0).setCell ⟨B,1,none⟩ b1).setCell ⟨B,2,none⟩ b2).setCell ⟨B,3,none⟩ b3).setCell ⟨B,4,none⟩ b4) = X) /\ Below G w X /\ X.heap.size = w.heap.size /\ (∀ q,q ≠ B -> X.heap[q]? = w.heap[q]?) /\ X.heap[B]? = some (.cells #[b0,b1,b2,b3,b4,a5,a6,a7,a8] T) ∧
  (∀ (q o : Nat) (u : Value),q ≠ B -> w.cell? ⟨q,o,none⟩ = some u -> X.cell? ⟨q,o,none⟩ = some u) := by
 have far : ∀ q,q ≠ B -> (((((w.setCell ⟨B,0,none⟩ b0).setCell ⟨B,1,none⟩ b1).setCell ⟨B,2,none⟩ b2).setCell ⟨B,3,none⟩ b3).setCell ⟨B,4,none⟩ b4).heap[q]? = w.heap[q]? := fun q hq => qf w (n := B) (k := q) hq b0 b1 b2 b3 b4
 have hs : (((((w.setCell ⟨B,0,none⟩ b0).setCell ⟨B,1,none⟩ b1).setCell ⟨B,2,none⟩ b2).setCell ⟨B,3,none⟩ b3).setCell ⟨B,4,none⟩ b4).heap.size = w.heap.size := by simp
 have hb := qim (w := w) hB b0 b1 b2 b3 b4
 have hv := vau5 w h b0 b1 b2 b3 b4
 obtain ⟨X,hX⟩ : ∃ X,(((((w.setCell ⟨B,0,none⟩ b0).setCell ⟨B,1,none⟩ b1).setCell ⟨B,2,none⟩ b2).setCell ⟨B,3,none⟩ b3).setCell ⟨B,4,none⟩ b4) = X := ⟨_,rfl⟩
 rw [hX] at hs hb hv
 have far' : ∀ q,q ≠ B -> X.heap[q]? = w.heap[q]? := fun q hq => by rw [<- hX]; exact far q hq
 clear far
 exact ⟨X,⟨hX⟩,hb,hs,far',hv,fun q o u hq hu => (World.cell?_of_block (a := ⟨q,o,none⟩) (far' q hq)).trans hu⟩
theorem qjC {w : World} {A : Option Addr} {cap : Nat} {l : List Fil} (h : RF w A cap l) (h0 : 0 < l.length) {B : Nat} {C : Array Value} {T : TypeId} (hB : w.heap[B]? = some (.cells C T)) (hC : ∀ (o : Nat) s t,C[o]? = some (.string s) -> C[o + 1]? = some (.string t) -> False) : ∀ x,A = some x -> x.block ≠ B := by
 intro x e1
 obtain ⟨g,off,e2,hg,hc⟩ := h.2 h0
 rw [e2] at e1
 injection e1 with e1
 subst e1
 intro e3
 dsimp only at e3
 subst e3
 obtain ⟨c0,c1,_⟩ := hc 0 h0
 rw [Nat.zero_mul,Nat.add_zero] at c0 c1
 rw [cell_of_row w g _ C _ _ hB] at c0 c1
 exact hC off _ _ c0 c1
theorem qei {w : World} {A : Option Addr} {n c : Nat} {l : List UInt8} (h : Lies w A n c l) (h0 : 0 < n) {B : Nat} {C : Array Value} {T : TypeId} (hB : w.heap[B]? = some (.cells C T)) (hC : ∀ (o : Nat) {b : UInt8},C[o]? = some (u8 b) -> False) : ∀ g off,A = some ⟨g,off,none⟩ -> g ≠ B := by
 intro g off e1 e3
 obtain ⟨g',off',e2,hg,hc⟩ := h.2.2.2 h0
 rw [e2] at e1
 injection e1 with e1
 injection e1 with e4 e5
 subst e4 e5 e3
 have c0 := hc 0 (by rw [h.1]; exact h0)
 rw [Nat.add_zero,cell_of_row w _ _ C _ _ hB] at c0
 exact hC _ c0
theorem qcZ (A : Option Addr) (cap : Nat) (D : Dsk) (m : Int) (was : Hd) : ∀ (o : Nat) {b : UInt8},(vauC A cap D m was)[o]? = some (u8 b) -> False := by
 intro o b q
 match o,q with
 | 0,q => simp [u8] at q
 | 1,q => simp [u8] at q
 | 2,q => simp [u8] at q
 | 3,q => simp [u8] at q
 | 4,q => simp [u8] at q
 | 5,q => simp [u8] at q
 | 6,q => simp [u8] at q
 | 7,q => simp [u8] at q
 | 8,q => simp [u8] at q
 | o + 9,q => simp at q
structure Goes (G w : World) (room : Int) (k : Nat) (v j d : Nat) (D : Dsk) (was : Hd) (n : Int) (B : Nat) (A : Option Addr) (cap : Nat) (m : Int) (Q : Nat -> Prop) : Prop where
 pat : PAt G w v j d D was n B A cap D was m Q
 good : Good D
 room : D.room = room
 n : 0 <= n /\ n <= 20001 + 100 * (k : Int)
 m : 0 <= m /\ m <= 100000 + 100 * (k : Int)
section
variable {G w w' : World} {room : Int} {k v j d : Nat} {D : Dsk} {was : Hd} {n : Int} {B : Nat} {A : Option Addr} {cap : Nat} {m : Int} {Q : Nat → Prop}
theorem Goes.below (h : Goes G w room k v j d D was n B A cap m Q) (hb : Below w.heap.size w w') : Goes G w' room k v j d D was n B A cap m Q := ⟨h.pat.below hb,h.good,h.room,h.n,h.m⟩
theorem Goes.alike (h : Goes G w room k v j d D was n B A cap m Q) : Alike qbk w d A cap D Q := ⟨h.pat.ctx.vt.lg.dk.dk,h.good,h.pat.ctx.vt.lg.dk.old,h.pat.rf,fun h0 a e => (h.pat.rz h0 a e).1.1⟩
theorem Goes.same (h : Goes G w room k v j d D was n B A cap m Q) (al : Alike qbk w' d A cap D Q) (hk : qc Q w w') : Goes G w' room k v j d D was n B A cap m Q := ⟨h.pat.did ⟨⟨al.dk,al.good,al.lt⟩,hk⟩,h.good,h.room,h.n,h.m⟩
theorem Goes.succ (h : Goes G w room k v j d D was n B A cap m Q) : Goes G w room (k + 1) v j d D was n B A cap m Q := ⟨h.pat,h.good,h.room,by have := h.n; push_cast; omega,by have := h.m; push_cast; omega⟩
theorem Goes.did (h : Goes G w room k v j d D was n B A cap m Q) {D' : Dsk} {A' : Option Addr} {cap' : Nat} {Q' : Nat -> Prop} {w3 : World} (al : Alike qbk w' d A' cap' D' Q') (hz : ∀ q,Q q -> Q' q) (hk : qc Q w w') (hr : D'.room = D.room)
 (hX : Below G.heap.size w' w3) (hs : w3.heap.size = w'.heap.size) (far : ∀ q,q ≠ B -> w3.heap[q]? = w'.heap[q]?) (box : w3.heap[B]? = some (.cells (vauC A' cap' D' m was) 45)) :
 Goes G w3 room k v j d D' was n B A' cap' m Q' := by
 have P := h.pat
 have hv := (hk.block v P.ctx.vt.lt P.ctx.vt.own).trans P.ctx.vt.box
 have hj := (hk.block j P.ctx.vt.lg.lt P.ctx.vt.lg.own).trans P.ctx.vt.lg.box
 have hdk : Dk w' d D' Q' := ⟨al.dk,al.good,al.lt⟩
 have hlow := qaf P.ctx.low hk P.ctx.all P.ctx.low.size
 have hbx := (hk.block B (hlt P.box) P.qb.1).trans P.box
 have hne : 0 < D'.l.length -> ∀ x,A' = some x -> x.block ≠ B /\ x.block ≠ j /\ x.block ≠ v := fun h0 x e =>
  ⟨qjC al.rf h0 hbx (fun o s t q1 q2 => by match o with | 0 | 1 | 2 | 3 | 4 | 5 | 6 | 7 | 8 => simp at q1 q2 | o + 9 => simp at q1) x e,
    qjC al.rf h0 hj (fun o s t q1 q2 => by match o with | 0 | 1 | 2 => simp at q1 q2 | o + 3 => simp at q1) x e,
    qjC al.rf h0 hv (fun o s t q1 q2 => by match o with | 0 | 1 | 2 | 3 => simp at q1 q2 | o + 4 => simp at q1) x e⟩
 refine ⟨⟨⟨⟨(far _ P.qb.2.2.symm).trans hv,⟨(far _ P.qb.2.1.symm).trans hj,hdk.keep (Nat.le_of_eq hs.symm) fun q _ hq => far q fun e => hq (e ▸ hz _ P.qb.1),hz _ P.ctx.vt.lg.own⟩,hz _ P.ctx.vt.own,P.ctx.vt.ne⟩,hlow.trans hX,fun q hq => hz q (P.ctx.all q hq),P.ctx.newv,P.ctx.newj⟩,?_,?_,box,⟨hz _ P.qb.1,P.qb.2⟩,P.bG⟩,al.good,hr.trans h.room,h.n,h.m⟩
 · exact al.rf.kept (Z := fun q => q ≠ B) (fun h0 x e => (hne h0 x e).1) (Nat.le_of_eq hs.symm) fun q _ hq => far q hq
 · exact fun h0 x e => ⟨⟨al.rz h0 x e,(hne h0 x e).2.1,(hne h0 x e).2.2⟩,(hne h0 x e).1⟩
end
end Go.Proofs.YtmeoooojmhhahaaGreat
