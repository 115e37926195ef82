/- A law's acts: are there few? -/
import Derived.Test.YtmiijlecfiddmaaGreatNNM04
import Derived.Test.YtmiijlecfiddmaaGreatNNM11
set_option linter.unusedVariables false
set_option linter.unusedSimpArgs false
set_option maxRecDepth 100000
set_option maxHeartbeats 3200000
namespace Go.Proofs.YtmiijlecfiddmaaGreat
open Go.RowKit
attribute [local go_sem] Oper.semAt_some
def fewM (m : Msg) : Bool := fewE m.es 6 && decide (m.s.d.length <= 2000)
theorem qcX (m : Msg) (A : Option Addr) (cA : Nat) (E : Option Addr) (cE : Nat) (w : World) (Z : Nat -> Prop) (h : qh w Z m A cA E cE) (hd : ∀ e ∈ m.es,e.d.length <= 140737488355328) :
 Calls Tryz.prog 28 #[msgV m A cA E cE] w fun e w' => e = .returned (.bool (fewM m)) /\ Below w.heap.size w w' := by
 have hlen := h.len
 obtain ⟨k,f,o,t,i,l,c,x,b,es,si,st,sd⟩ := m
 obtain ⟨he,_,hs,_⟩ := h
 unfold fewM
 dsimp only [msgV] at *
 have hb : Below w.heap.size w (w.alloc (.cells (mC k f o t i l c x b A es.length cA si st E sd.length cE) 27)) := blq.alloc nlq _
 have hF := qcP Z A es.length cA es 6 _ (he.below hb nlq) hlen (by omega) hd
 have hsm := hs.2.1
 generalize es.length = n at *
 generalize sd.length = sn at *
 generalize fewE es 6 = q at *
 clear he hs hd hlen
 cases q with
 | false =>
   go_enter Tryz.func28,Tryz.ntmps28
   go_wp2_with fail
   refine hF.mono ?_
   rintro e w1 ⟨rfl,rfl⟩
   go_wp2
   go_ret
   exact ⟨rfl,hb⟩
 | true =>
   rw [Bool.true_and]
   go_enter Tryz.func28,Tryz.ntmps28
   go_wp2_with fail
   refine hF.mono ?_
   rintro e w1 ⟨rfl,rfl⟩
   go_wp2
   go_ret
   refine ⟨?_,hb⟩
   show Ending.returned (.bool (decide ((sn : Int) <= 2000))) = _
   rw [qbg sn 2000 2000 rfl]
theorem qay {w : World} {g : Nat} {v0 v1 v2 v3 v4 v5 v6 v7 v8 v9 v10 v11 v12 v13 v14 v15 : Value} {T : TypeId} {o : Nat × Nat} (h : w.heap[g]? = some (.cells #[v0,v1,v2,v3,v4,v5,v6,v7,v8,v9,v10,v11,v12,v13,v14,v15] T o)) : w.cell? ⟨g,0,none⟩ = some v0 /\ w.cell? ⟨g,1,none⟩ = some v1 /\ w.cell? ⟨g,2,none⟩ = some v2 /\ w.cell? ⟨g,3,none⟩ = some v3 /\ w.cell? ⟨g,4,none⟩ = some v4 /\ w.cell? ⟨g,5,none⟩ = some v5 /\ w.cell? ⟨g,6,none⟩ = some v6 /\ w.cell? ⟨g,7,none⟩ = some v7 /\ w.cell? ⟨g,8,none⟩ = some v8 /\ w.cell? ⟨g,9,none⟩ = some v9 /\ w.cell? ⟨g,10,none⟩ = some v10 /\ w.cell? ⟨g,11,none⟩ = some v11 /\ w.cell? ⟨g,12,none⟩ = some v12 /\ w.cell? ⟨g,13,none⟩ = some v13 /\ w.cell? ⟨g,14,none⟩ = some v14 /\ w.cell? ⟨g,15,none⟩ = some v15 := by
 refine ⟨?_,?_,?_,?_,?_,?_,?_,?_,?_,?_,?_,?_,?_,?_,?_,?_⟩ <;> simp [World.cell?,h]
theorem qcY (k : Int) (m : Msg) (A : Option Addr) (cA : Nat) (E : Option Addr) (cE : Nat) (D : Option Addr) (dn dc : Nat) (i : Int) (g : Nat) (T : TypeId) (o : Nat × Nat) (Z : Nat -> Prop) (w : World)
 (hrow : w.heap[g]? = some (.cells #[.int .u8 k, .int .i64 m.k, .int .i64 m.f, .int .i64 m.o, .int .i64 m.t, .int .i64 m.i, .int .i64 m.l, .int .i64 m.c, .int .i64 m.x, .bool m.b, .slice A m.es.length cA, .int .i64 m.s.i, .int .i64 m.s.t, .slice E m.s.d.length cE, .slice D dn dc, .int .i64 i] T o))
 (hM : qh w Z m A cA E cE) (hd : ∀ e ∈ m.es,e.d.length <= 140737488355328) (hdn : dn <= maxLen) :
 Calls Tryz.prog 7 #[.slice (some ⟨g,0,none⟩) 1 1, .int .i64 1] w fun e w' => ∃ b,e = .returned (.bool b) /\ Below w.heap.size w w' := by
 have hF := fun W (hW : Below w.heap.size w W) => qcX m A cA E cE W _ (hM.below hW nlq) hd
 obtain ⟨x0,x1,x2,x3,x4,x5,x6,x7,x8,x9,x10,x11,x12,x13,x14,x15⟩ := qay hrow
 unfold maxLen at hdn
 generalize fewM m = q1 at *
 clear hM hd
 obtain ⟨mk,mf,mo,mt,mi,ml,mc,mx,mb,es,si,st,sd⟩ := m
 dsimp only [msgV] at *
 go_enter Tryz.func7,Tryz.ntmps7
 go_wp2_with fail
 go_loopw [8] (fun v8 wr => ∃ k : Nat,k <= 1 /\ v8 = .int .i64 (k : Int) /\ Below w.heap.size w wr) (fun v8 _ => 1 - (intOf v8).toNat)
 case atStart => exact ⟨0,Nat.zero_le _,rfl,blq⟩
 case round =>
  obtain ⟨k,hk,rfl,hb⟩ := hrel
  by_cases hk0 : k = 0
  · subst hk0
    have hrow := (hb.block g (hlt hrow)).trans hrow
    clear x0 x1 x2 x3 x4 x5 x6 x7 x8 x9 x10 x11 x12 x13 x14 x15
    obtain ⟨x0,x1,x2,x3,x4,x5,x6,x7,x8,x9,x10,x11,x12,x13,x14,x15⟩ := qay hrow
    by_cases hq : 13000 < dn
    · have e1 : decide ((13000 : Int) < (dn : Int)) = true := decide_eq_true (by omega)
      go_wp2
      go_ret
      exact ⟨false,rfl,hb⟩
    · have e1 : decide ((13000 : Int) < (dn : Int)) = false := decide_eq_false (by omega)
      have hF := hF wr hb
      go_wp2_with fail
      refine hF.mono ?_
      rintro e w2 ⟨rfl,hb2⟩
      cases q1 with
      | false =>
        go_wp2
        go_ret
        exact ⟨false,rfl,hb.trans (hb2.mono hb.size)⟩
      | true =>
        go_wp2
        go_roundw
        case rel => exact ⟨1,nlq,rfl,hb.trans (hb2.mono hb.size)⟩
        case measure => simp [intOf]
  · obtain rfl : k = 1 := by omega
    go_wp2
    go_ret
    exact ⟨true,rfl,hb⟩
end Go.Proofs.YtmiijlecfiddmaaGreat
set_option linter.unusedVariables false
set_option linter.unusedSimpArgs false
set_option maxRecDepth 100000
set_option maxHeartbeats 1600000
namespace Go.Proofs.YtmiijlecfiddmaaGreat
open Go.RowKit
theorem qq {W : World} {g : Nat} {C : List Value} {T : TypeId} (h : W.heap[g]? = some (.cells C.toArray T)) : ∀ j u,C[j]? = some u -> W.cell? ((⟨g,0,none⟩ : Addr).add j) = some u := fun j u hu => by
 rw [Addr.add_lit,cell_of_row W g _ _ _ _ h]
 simpa using hu
def Said (w w' : World) (p : Nat) (N : Node) (Z : Nat -> Prop) (q : Ptrs) (s : Nat) (xs : List MLay) (K : Nat -> Prop) (x : MLay) : Prop :=
 ∃ A' c',RfAt w' p { N with ms := N.ms ++ [x.m] } Z { q with M := A',cM := c' } s (xs ++ [x]) K /\ qe Z w w'
theorem qC {w : World} {p : Nat} {N : Node} {Z : Nat -> Prop} {q : Ptrs} {s : Nat} {xs : List MLay} {K : Nat -> Prop} (h : RfAt w p N Z q s xs K) (hZ : ∀ b,Z b -> b < w.heap.size) (hm : N.ms.length < 999999) (tt : Int) (x : MLay) (hx : qh w (Pay N.sn.d.length q.E K) x.m x.A x.cA x.E x.cE) :
 Calls Tryz.prog 76 #[ptrV p, .int .i64 tt,msgV x.m x.A x.cA x.E x.cE] w fun e w' => e = .returned (.tuple #[]) ∧
  Said w w' p N Z q s xs K ⟨{ x.m with f := N.id,o := tt,t := if x.m.t = 0 then N.ht else x.m.t },x.A,x.cA,x.E,x.cE⟩ := by
 have c0 := h.c0
 have c2 := h.c2
 have c27 := h.c27
 have hp := h.lt
 obtain ⟨m,A,cA,E,cE⟩ := x
 dsimp only at *
 obtain ⟨mm,hmm⟩ : ∃ mm : Msg,mm = { m with f := (N.id : Int),o := tt,t := if m.t = 0 then N.ht else m.t } := ⟨_,rfl⟩
 rw [<- hmm]
 have hx2 : qh w (Pay N.sn.d.length q.E K) mm A cA E cE := hx.of (by rw [hmm]) (by rw [hmm])
 have hnm : ¬ blk q.M p := fun e => (h.mz p e).2.1 rfl
 have HS : ∀ X,Below w.heap.size w X -> Sp 51 13 X q.M N.ms.length q.cM (mrow xs) := fun X hX => h.mss.keep fun b hb => hX.block b (h.mss.lt hb)
 have HR : ∀ X,Below w.heap.size w X -> X.heap[p]? = some (.cells (rfC N q) 90) := fun X hX => (hX.block p hp).trans h.row
 have H := Lib.hid h
 have HX := Lib.hid hx2
 have HM : mrow [⟨mm,A,cA,E,cE⟩] = [.int .i64 m.k, .int .i64 (N.id : Int), .int .i64 tt, .int .i64 (if m.t = 0 then N.ht else m.t), .int .i64 m.i, .int .i64 m.l, .int .i64 m.c, .int .i64 m.x, .bool m.b, .slice A m.es.length cA, .int .i64 m.s.i, .int .i64 m.s.t, .slice E m.s.d.length cE] := by rw [hmm]; rfl
 clear h hx hx2 hmm
 by_cases ht : m.t = 0
 · rw [if_pos ht] at HM
   have q1 : (m.t == 0) = true := by rw [ht]; rfl
   generalize hvs : mrow [⟨mm,A,cA,E,cE⟩] = vs at *
   have h1c : ∀ u ∈ vs,u.oneCell' = true := by rw [<- hvs]; exact qbm _
   have HV := Lib.hid hvs
   clear hvs
   go_enter Tryz.func76,Tryz.ntmps76
   go_upto_region 4 with fail
   go_region_law (refine ql qbn _ (by rfl) _ _ (by rfl) q.M N.ms.length q.cM (mrow xs) (by rfl) (HS _ (by repeat (first | exact blq | apply Below.drew | refine Below.alloc ?_ (by simp) _))) (some ⟨w.heap.size + 1,0,none⟩) 1 1 vs (by rfl) (fun e => by cases e) (by rw [HM]; rfl) h1c (fun b e => by cases e; rw [HM]; exact qq (heap_alloc2_new _ _ _)) (by omega) ?_
                  intro A' c' w4 hsp hA hgr
                  have hr4 := (hgr.block p (by simp; omega) hnm).trans (HR _ (by repeat (first | exact blq | apply Below.drew | refine Below.alloc ?_ (by simp) _)))
                  have e27 : w4.cell? ⟨p,27,none⟩ = some (.slice q.M N.ms.length q.cM) := qa hr4 27 _ rfl
                  have f27 := qb hr4 27)
   all_goals
    rw [<- HV.out] at hsp
    obtain ⟨k1,k2⟩ := H.out.say hZ (by repeat (first | exact blq | apply Below.drew | refine Below.alloc ?_ (by simp) _)) hsp hA hgr HX.out
    have K1 := Lib.hid (show Said _ _ _ _ _ _ _ _ _ _ from ⟨_,_,k1,k2⟩)
    clear k1 k2 hsp hA hgr hr4 e27 f27 HS HR
    go_wp2
    refine bodyPost_end (results_none rfl _ _ _) rfl ?_
    exact ⟨rfl,K1.out⟩
 · rw [if_neg ht] at HM
   have q1 : (m.t == 0) = false := beq_eq_false_iff_ne.2 ht
   have q2 : (m.t = 0) = False := eq_false ht
   generalize hvs : mrow [⟨mm,A,cA,E,cE⟩] = vs at *
   have h1c : ∀ u ∈ vs,u.oneCell' = true := by rw [<- hvs]; exact qbm _
   have HV := Lib.hid hvs
   clear hvs
   go_enter Tryz.func76,Tryz.ntmps76
   go_upto_region 4 with fail
   go_region_law (refine ql qbn _ (by rfl) _ _ (by rfl) q.M N.ms.length q.cM (mrow xs) (by rfl) (HS _ (by repeat (first | exact blq | apply Below.drew | refine Below.alloc ?_ (by simp) _))) (some ⟨w.heap.size + 1,0,none⟩) 1 1 vs (by rfl) (fun e => by cases e) (by rw [HM]; rfl) h1c (fun b e => by cases e; rw [HM]; exact qq (heap_alloc2_new _ _ _)) (by omega) ?_
                  intro A' c' w4 hsp hA hgr
                  have hr4 := (hgr.block p (by simp; omega) hnm).trans (HR _ (by repeat (first | exact blq | apply Below.drew | refine Below.alloc ?_ (by simp) _)))
                  have e27 : w4.cell? ⟨p,27,none⟩ = some (.slice q.M N.ms.length q.cM) := qa hr4 27 _ rfl
                  have f27 := qb hr4 27)
   all_goals
    rw [<- HV.out] at hsp
    obtain ⟨k1,k2⟩ := H.out.say hZ (by repeat (first | exact blq | apply Below.drew | refine Below.alloc ?_ (by simp) _)) hsp hA hgr HX.out
    have K1 := Lib.hid (show Said _ _ _ _ _ _ _ _ _ _ from ⟨_,_,k1,k2⟩)
    clear k1 k2 hsp hA hgr hr4 e27 f27 HS HR
    go_wp2
    refine bodyPost_end (results_none rfl _ _ _) rfl ?_
    exact ⟨rfl,K1.out⟩
theorem qV {w : World} {p : Nat} {N : Node} {Z : Nat -> Prop} {q : Ptrs} {s : Nat} {xs : List MLay} {K : Nat -> Prop} (h : RfAt w p N Z q s xs K) (hm : N.lg.l.length <= 1000000) :
 Calls Tryz.prog 32 #[ptrV p] w fun e w' => e = .returned (.int .i64 N.lg.lastI) /\ Below w.heap.size w w' := by
 have c8 := h.c8
 obtain ⟨A,c,hr⟩ := h.log.rd
 have hL := qD hr hm
 clear h hr
 go_enter Tryz.func32,Tryz.ntmps32
 go_wp2_with fail
 refine hL.mono ?_
 rintro e w1 ⟨rfl,hb1⟩
 go_wp2
 go_ret
 exact ⟨rfl,hb1⟩
def Node.ownB (N : Node) (x : Int) : Bool := decide (N.lg.at_ x = some N.ht)
theorem qcZ {w : World} {p : Nat} {N : Node} {Z : Nat -> Prop} {q : Ptrs} {s : Nat} {xs : List MLay} {K : Nat -> Prop} (h : RfAt w p N Z q s xs K) (hm : N.lg.l.length <= 1000000) (hg : Good N.lg) (x : Int) :
 Calls Tryz.prog 35 #[ptrV p, .int .i64 x] w fun e w' => e = .returned (.bool (N.ownB x)) /\ Below w.heap.size w w' := by
 have c8 := h.c8
 have c2 : ∀ X,Below w.heap.size w X -> X.cell? ⟨p,2,none⟩ = some (.int .i64 N.ht) := fun X hX => (h.below hX).c2
 have hp := h.lt
 obtain ⟨A,c,hr⟩ := h.log.rd
 have hL := qU hr hm hg x
 unfold Node.ownB
 clear h hr hg
 cases ha : N.lg.at_ x with
 | none =>
   rw [ha] at hL
   have e1 : decide ((none : Option Int) = some N.ht) = false := rfl
   rw [e1]
   clear ha
   go_enter Tryz.func35,Tryz.ntmps35
   go_wp2_with fail
   refine hL.mono ?_
   rintro e w1 ⟨rfl,hb1⟩
   have d2 := c2 w1 hb1
   clear c2
   go_wp2
   go_ret
   exact ⟨rfl,hb1⟩
 | some t =>
   rw [ha] at hL
   have e1 : decide (some t = some N.ht) = (t == N.ht) := by
    by_cases h : t = N.ht
    · subst h; simp
    · rw [beq_eq_false_iff_ne.2 h]; exact decide_eq_false fun e => h (by injection e)
   rw [e1]
   clear ha e1
   go_enter Tryz.func35,Tryz.ntmps35
   go_wp2_with fail
   refine hL.mono ?_
   rintro e w1 ⟨rfl,hb1⟩
   have d2 := c2 w1 hb1
   clear c2
   go_wp2
   go_ret
   exact ⟨rfl,hb1⟩
end Go.Proofs.YtmiijlecfiddmaaGreat
