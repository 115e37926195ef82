/- The program's Open, by its contract. -/
import Derived.Test.YtogbhedbgcmckaaGreatNNM16
import Derived.Test.YtogbhedbgcmckaaGreatNNM18
set_option linter.unusedVariables false
set_option linter.unusedSimpArgs false
set_option maxRecDepth 100000
set_option maxHeartbeats 200000
namespace Go.Proofs.YtogbhedbgcmckaaGreat
open Go.RowKit
theorem qgv {D : Dsk} (h : D.snapV.2 = 0) : 0 <= D.snapV.1.i /\ D.snapV.1.i <= 1099511627776 := by
 have key : ∀ s : Ent,snapB s.i s.t s.d.length = true -> 0 <= s.i /\ s.i <= 1099511627776 := fun s hs => by
  unfold snapB at hs
  split at hs
  · rename_i h0; omega
  · unfold numB at hs;simp only [Bool.and_eq_true,decide_eq_true_eq] at hs;omega
 unfold Dsk.snapV at h ⊢;generalize D.read qc2 = r at *;unfold qaS at h ⊢
 by_cases h6 : r.2 = 6
 · rw [if_pos h6]; exact ⟨Int.le_refl _,by decide⟩
 · rw [if_neg h6] at h ⊢
   by_cases h0 : r.2 ≠ 0
   · rw [if_pos h0] at h; exact absurd h h0
   · rw [if_neg h0] at h ⊢
     cases ho : snapOf r.1.data.toList with
     | none => rw [ho] at h; cases h
     | some s => exact key s (qfx ho).1
theorem qr.within {w : World} {Y : Nat -> Prop} {A : Option Addr} {n cap : Nat} {l : List Ent} (h : qr w Y A n cap l) : qr w (fun k => Y k /\ k < w.heap.size) A n cap l := by
 obtain ⟨xs,ho,hy,hx,hl⟩ := h;refine ⟨xs,ho,fun q hq => ⟨hy q hq,ho.lt hq⟩,hx,fun x hx => ?_⟩;obtain ⟨h1,h2,h3⟩ := hl x hx;exact ⟨h1,h2,fun h0 q o e => ⟨⟨(h3 h0 q o e).1,h2.lt h0 e⟩,(h3 h0 q o e).2⟩⟩
structure qH (w X : World) (a b : Nat) (C1 C2 : Array Value) (T1 T2 : TypeId) : Prop where
 one : X.heap[a]? = some (.cells C1 T1)
 two : X.heap[b]? = some (.cells C2 T2)
 far : ∀ k,k ≠ a -> k ≠ b -> X.heap[k]? = w.heap[k]?
 size : X.heap.size = w.heap.size
 os : X.os = w.os
 tape : X.tape = w.tape
 output : X.output = w.output
theorem qkt (w : World) {a b : Nat} (hab : a ≠ b) {x0 x1 y0 y1 y2 : Value} {T1 T2 : TypeId} (h1 : w.heap[a]? = some (.cells #[x0,x1] T1)) (h2 : w.heap[b]? = some (.cells #[y0,y1,y2] T2)) (u0 u1 v0 v1 v2 : Value) :
 qH w (((((w.setCell ⟨a,0,none⟩ u0).setCell ⟨a,1,none⟩ u1).setCell ⟨b,0,none⟩ v0).setCell ⟨b,1,none⟩ v1).setCell ⟨b,2,none⟩ v2) a b #[u0,u1] #[v0,v1,v2] T1 T2 := by
 have f1 : ∀ k,k ≠ a -> ((w.setCell ⟨a,0,none⟩ u0).setCell ⟨a,1,none⟩ u1).heap[k]? = w.heap[k]? := fun k hk => (Below.heap_setCell _ _ _ _ (by exact hk)).trans (Below.heap_setCell _ _ _ _ (by exact hk));have e1 := qaq w a u0 u1 _ _ _ h1
 have key : ∀ W : World,W.heap[a]? = some (.cells #[u0,u1] T1) -> W.heap[b]? = some (.cells #[y0,y1,y2] T2) -> (∀ k,k ≠ a -> W.heap[k]? = w.heap[k]?) -> W.heap.size = w.heap.size -> W.os = w.os -> W.tape = w.tape -> W.output = w.output →
  qH w (((W.setCell ⟨b,0,none⟩ v0).setCell ⟨b,1,none⟩ v1).setCell ⟨b,2,none⟩ v2) a b #[u0,u1] #[v0,v1,v2] T1 T2 := fun W k1 k2 k3 k4 k5 k6 k7 => by
  have hb : Below 0 W (((W.setCell ⟨b,0,none⟩ v0).setCell ⟨b,1,none⟩ v1).setCell ⟨b,2,none⟩ v2) := qP (Below.refl _ _) (Nat.zero_le _) _ _ _;refine ⟨(qbI W hab v0 v1 v2).trans k1,qN W b v0 v1 v2 y0 y1 y2 T2 k2,fun k ha hb => (qbI W hb v0 v1 v2).trans (k3 k ha),?_,hb.os.trans k5,hb.tape.trans k6,hb.output.trans k7⟩;rw [<- k4];simp
 have hb : Below 0 w ((w.setCell ⟨a,0,none⟩ u0).setCell ⟨a,1,none⟩ u1) := ((Below.refl _ _).setCell (Nat.zero_le _) _).setCell (Nat.zero_le _) _;exact key _ e1 ((f1 b (Ne.symm hab)).trans h2) f1 (by simp) hb.os hb.tape hb.output
theorem qH.below {w X : World} {a b B : Nat} {C1 C2 : Array Value} {T1 T2 : TypeId} (h : qH w X a b C1 C2 T1 T2) (ha : B <= a) (hb : B <= b) : Below B w X :=
 ⟨h.os,h.tape,h.output,Nat.le_of_eq h.size.symm,fun k hk => h.far k (by omega) (by omega)⟩
theorem qH.keeps {w X : World} {a b : Nat} {Z : Nat -> Prop} {C1 C2 : Array Value} {T1 T2 : TypeId} (h : qH w X a b C1 C2 T1 T2) (ha : ¬ Z a) (hb : ¬ Z b) : qa Z w X :=
 ⟨h.os,h.tape,h.output,Nat.le_of_eq h.size.symm,fun k hk hz => h.far k (fun e => ha (e ▸ hz)) (fun e => hb (e ▸ hz))⟩
theorem qH.drew {w X : World} {a b : Nat} {C1 C2 : Array Value} {T1 T2 : TypeId} (h : qH w X a b C1 C2 T1 T2) : qH w X.drew a b C1 C2 T1 T2 :=
 ⟨h.one,h.two,h.far,h.size,h.os,h.tape,h.output⟩
theorem qhF {w W X : World} {a b d : Nat} {D' : Dsk} {Z Z2 : Nat -> Prop} {C1 C2 : Array Value} {T1 T2 : TypeId} (hZ : ∀ k,Z k -> k ≠ a /\ k ≠ b) (hd : Dk W d D' Z2) (ha : Z2 a) (hb : Z2 b) (hz : ∀ k,Z k -> Z2 k) (hk : qa Z w W) (h : qH W X a b C1 C2 T1 T2) : Did w X d D' Z :=
 ⟨(hd.keep (Nat.le_of_eq h.size.symm) fun k _ hnz => h.far k (fun e => hnz (e ▸ ha)) (fun e => hnz (e ▸ hb))).less hz,hk.trans (h.keeps (fun hz => (hZ a hz).1 rfl) (fun hz => (hZ b hz).2 rfl))⟩
structure Opd (w w' : World) (d : Nat) (D' : Dsk) (v j : Nat) (hd : Held) (n : Int) (Z Z' : Nat -> Prop) (Bs : Option Addr) (bc : Nat) (A : Option Addr) (c : Nat) : Prop where
 vt : Vt w' v j d D' hd.h n Z'
 num : 0 <= n /\ n <= 20001
 sub : ∀ k,Z k -> Z' k /\ k ≠ j /\ k ≠ v
 lies : Lies w' Bs hd.s.d.length bc hd.s.d
 lz : 0 < hd.s.d.length -> ∀ g off,Bs = some ⟨g,off,none⟩ -> Z' g /\ g ≠ j /\ g ≠ v /\ w.heap.size <= g
 ents : qr w' (fun k => Z' k /\ k ≠ j /\ k ≠ v /\ w.heap.size <= k) A hd.l.length c hd.l
 kp : qa Z w w'
def qav (w w' : World) (d : Nat) (D : Dsk) (Z : Nat -> Prop) (e : Ending) : Prop :=
 (D.openV.1.2 = 0 /\ ∃ v j n Z' Bs bc A c,e = .returned (.tuple #[.pointer (some ⟨v,0,none⟩), .agg #[.int .i64 D.openV.2.h.t, .int .i64 D.openV.2.h.v],entV D.openV.2.s.i D.openV.2.s.t Bs D.openV.2.s.d.length bc, .slice A D.openV.2.l.length c, .int .i64 0]) /\ Opd w w' d D.openV.1.1 v j D.openV.2 n Z Z' Bs bc A c) ∨
 (D.openV.1.2 ≠ 0 /\ e = .returned (.tuple #[.pointer none, .agg #[.int .i64 0, .int .i64 0],entV 0 0 none 0 0, .slice none 0 0, .int .i64 ((D.openV.1.2 : Nat) : Int)]) /\ Did w w' d D.openV.1.1 Z)
theorem qav.no {w w' : World} {d : Nat} {D D' : Dsk} {Z : Nat -> Prop} {c : Nat} (h : D.openV = ((D',c),qag)) (hc : c ≠ 0) (hd : Did w w' d D' Z) : qav w w' d D Z (.returned (.tuple #[.pointer none, .agg #[.int .i64 0, .int .i64 0],entV 0 0 none 0 0, .slice none 0 0, .int .i64 ((c : Nat) : Int)])) := by
 unfold qav;rw [h];exact .inr ⟨hc,rfl,hd⟩
end Go.Proofs.YtogbhedbgcmckaaGreat
