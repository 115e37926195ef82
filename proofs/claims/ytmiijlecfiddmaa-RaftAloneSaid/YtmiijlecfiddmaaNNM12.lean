/- The program's node: what is said; the smallest calls. -/
import Derived.Test.YtmiijlecfiddmaaNNM11
set_option linter.unusedVariables false
set_option linter.unusedSimpArgs false
set_option maxRecDepth 100000
set_option maxHeartbeats 1600000
namespace Go.Proofs.Ytmiijlecfiddmaa
open Go.RowKit
theorem qq {W : World} {g : Nat} {C : List Value} {T : TypeId} (h : W.heap[g]? = some (.cells C.toArray T)) : ∀ j u,C[j]? = some u -> W.cell? ((⟨g,0,none⟩ : Addr).add j) = some u := fun j u hu => by
 rw [Addr.add_lit,cell_of_row W g _ _ _ _ h]
 simpa using hu
def Said (w w' : World) (p : Nat) (N : Node) (Z : Nat -> Prop) (q : Ptrs) (s : Nat) (xs : List MLay) (K : Nat -> Prop) (x : MLay) : Prop :=
 ∃ A' c',RfAt w' p { N with ms := N.ms ++ [x.m] } Z { q with M := A',cM := c' } s (xs ++ [x]) K /\ qf Z w w'
theorem qP {w : World} {p : Nat} {N : Node} {Z : Nat -> Prop} {q : Ptrs} {s : Nat} {xs : List MLay} {K : Nat -> Prop} (h : RfAt w p N Z q s xs K) (hZ : ∀ b,Z b -> b < w.heap.size) (hm : N.ms.length < 999999) (tt : Int) (x : MLay) (hx : qk w (Pay N.sn.d.length q.E K) x.m x.A x.cA x.E x.cE) :
 Calls Try.prog 49 #[ptrV p, .int .i64 tt,msgV x.m x.A x.cA x.E x.cE] w fun e w' => e = .returned (.tuple #[]) ∧
  Said w w' p N Z q s xs K ⟨{ x.m with f := N.id,o := tt,t := if x.m.t = 0 then N.ht else x.m.t },x.A,x.cA,x.E,x.cE⟩ := by
 have c0 := h.c0
 have c2 := h.c2
 have c27 := h.c27
 have hp := h.lt
 obtain ⟨m,A,cA,E,cE⟩ := x
 dsimp only at *
 obtain ⟨mm,hmm⟩ : ∃ mm : Msg,mm = { m with f := (N.id : Int),o := tt,t := if m.t = 0 then N.ht else m.t } := ⟨_,rfl⟩
 rw [<- hmm]
 have hx2 : qk w (Pay N.sn.d.length q.E K) mm A cA E cE := hx.of (by rw [hmm]) (by rw [hmm])
 have hnm : ¬ blk q.M p := fun e => (h.mz p e).2.1 rfl
 have HS : ∀ X,Below w.heap.size w X -> Sp 93 13 X q.M N.ms.length q.cM (mrow xs) := fun X hX => h.mss.keep fun b hb => hX.block b (h.mss.lt hb)
 have HR : ∀ X,Below w.heap.size w X -> X.heap[p]? = some (.cells (rfC N q) 68) := fun X hX => (hX.block p hp).trans h.row
 have H := Lib.hid h
 have HX := Lib.hid hx2
 have HM : mrow [⟨mm,A,cA,E,cE⟩] = [.int .i64 m.k, .int .i64 (N.id : Int), .int .i64 tt, .int .i64 (if m.t = 0 then N.ht else m.t), .int .i64 m.i, .int .i64 m.l, .int .i64 m.c, .int .i64 m.x, .bool m.b, .slice A m.es.length cA, .int .i64 m.s.i, .int .i64 m.s.t, .slice E m.s.d.length cE] := by rw [hmm]; rfl
 clear h hx hx2 hmm
 by_cases ht : m.t = 0
 · rw [if_pos ht] at HM
   have q1 : (m.t == 0) = true := by rw [ht]; rfl
   generalize hvs : mrow [⟨mm,A,cA,E,cE⟩] = vs at *
   have h1c : ∀ u ∈ vs,u.oneCell' = true := by rw [<- hvs]; exact qbQ _
   have HV := Lib.hid hvs
   clear hvs
   go_enter Try.func49,Try.ntmps49
   go_upto_region 4 with fail
   go_region_law (refine qj qbS _ (by rfl) _ _ (by rfl) q.M N.ms.length q.cM (mrow xs) (by rfl) (HS _ (by repeat (first | exact blq | apply Below.drew | refine Below.alloc ?_ (by simp) _))) (some ⟨w.heap.size + 1,0,none⟩) 1 1 vs (by rfl) (fun e => by cases e) (by rw [HM]; rfl) h1c (fun b e => by cases e; rw [HM]; exact qq (heap_alloc2_new _ _ _)) (by omega) ?_
                  intro A' c' w4 hsp hA hgr
                  have hr4 := (hgr.block p (by simp; omega) hnm).trans (HR _ (by repeat (first | exact blq | apply Below.drew | refine Below.alloc ?_ (by simp) _)))
                  have e27 : w4.cell? ⟨p,27,none⟩ = some (.slice q.M N.ms.length q.cM) := qa hr4 27 _ rfl
                  have f27 := qb hr4 27)
   all_goals
    rw [<- HV.out] at hsp
    obtain ⟨k1,k2⟩ := H.out.say hZ (by repeat (first | exact blq | apply Below.drew | refine Below.alloc ?_ (by simp) _)) hsp hA hgr HX.out
    have K1 := Lib.hid (show Said _ _ _ _ _ _ _ _ _ _ from ⟨_,_,k1,k2⟩)
    clear k1 k2 hsp hA hgr hr4 e27 f27 HS HR
    go_wp2
    refine bodyPost_end (results_none rfl _ _ _) rfl ?_
    exact ⟨rfl,K1.out⟩
 · rw [if_neg ht] at HM
   have q1 : (m.t == 0) = false := beq_eq_false_iff_ne.2 ht
   have q2 : (m.t = 0) = False := eq_false ht
   generalize hvs : mrow [⟨mm,A,cA,E,cE⟩] = vs at *
   have h1c : ∀ u ∈ vs,u.oneCell' = true := by rw [<- hvs]; exact qbQ _
   have HV := Lib.hid hvs
   clear hvs
   go_enter Try.func49,Try.ntmps49
   go_upto_region 4 with fail
   go_region_law (refine qj qbS _ (by rfl) _ _ (by rfl) q.M N.ms.length q.cM (mrow xs) (by rfl) (HS _ (by repeat (first | exact blq | apply Below.drew | refine Below.alloc ?_ (by simp) _))) (some ⟨w.heap.size + 1,0,none⟩) 1 1 vs (by rfl) (fun e => by cases e) (by rw [HM]; rfl) h1c (fun b e => by cases e; rw [HM]; exact qq (heap_alloc2_new _ _ _)) (by omega) ?_
                  intro A' c' w4 hsp hA hgr
                  have hr4 := (hgr.block p (by simp; omega) hnm).trans (HR _ (by repeat (first | exact blq | apply Below.drew | refine Below.alloc ?_ (by simp) _)))
                  have e27 : w4.cell? ⟨p,27,none⟩ = some (.slice q.M N.ms.length q.cM) := qa hr4 27 _ rfl
                  have f27 := qb hr4 27)
   all_goals
    rw [<- HV.out] at hsp
    obtain ⟨k1,k2⟩ := H.out.say hZ (by repeat (first | exact blq | apply Below.drew | refine Below.alloc ?_ (by simp) _)) hsp hA hgr HX.out
    have K1 := Lib.hid (show Said _ _ _ _ _ _ _ _ _ _ from ⟨_,_,k1,k2⟩)
    clear k1 k2 hsp hA hgr hr4 e27 f27 HS HR
    go_wp2
    refine bodyPost_end (results_none rfl _ _ _) rfl ?_
    exact ⟨rfl,K1.out⟩
theorem qS {w : World} {p : Nat} {N : Node} {Z : Nat -> Prop} {q : Ptrs} {s : Nat} {xs : List MLay} {K : Nat -> Prop} (h : RfAt w p N Z q s xs K) (hm : N.lg.l.length <= 1000000) :
 Calls Try.prog 22 #[ptrV p] w fun e w' => e = .returned (.int .i64 N.lg.lastI) /\ Below w.heap.size w w' := by
 have c8 := h.c8
 obtain ⟨A,c,hr⟩ := h.log.rd
 have hL := qR hr hm
 clear h hr
 go_enter Try.func22,Try.ntmps22
 go_wp2_with fail
 refine hL.mono ?_
 rintro e w1 ⟨rfl,hb1⟩
 go_wp2
 go_ret
 exact ⟨rfl,hb1⟩
def Node.ownB (N : Node) (x : Int) : Bool := decide (N.lg.at_ x = some N.ht)
theorem qbT {w : World} {p : Nat} {N : Node} {Z : Nat -> Prop} {q : Ptrs} {s : Nat} {xs : List MLay} {K : Nat -> Prop} (h : RfAt w p N Z q s xs K) (hm : N.lg.l.length <= 1000000) (hg : Good N.lg) (x : Int) :
 Calls Try.prog 26 #[ptrV p, .int .i64 x] w fun e w' => e = .returned (.bool (N.ownB x)) /\ Below w.heap.size w w' := by
 have c8 := h.c8
 have c2 : ∀ X,Below w.heap.size w X -> X.cell? ⟨p,2,none⟩ = some (.int .i64 N.ht) := fun X hX => (h.below hX).c2
 have hp := h.lt
 obtain ⟨A,c,hr⟩ := h.log.rd
 have hL := qah hr hm hg x
 unfold Node.ownB
 clear h hr hg
 cases ha : N.lg.at_ x with
 | none =>
   rw [ha] at hL
   have e1 : decide ((none : Option Int) = some N.ht) = false := rfl
   rw [e1]
   clear ha
   go_enter Try.func26,Try.ntmps26
   go_wp2_with fail
   refine hL.mono ?_
   rintro e w1 ⟨rfl,hb1⟩
   have d2 := c2 w1 hb1
   clear c2
   go_wp2
   go_ret
   exact ⟨rfl,hb1⟩
 | some t =>
   rw [ha] at hL
   have e1 : decide (some t = some N.ht) = (t == N.ht) := by
    by_cases h : t = N.ht
    · subst h; simp
    · rw [beq_eq_false_iff_ne.2 h]; exact decide_eq_false fun e => h (by injection e)
   rw [e1]
   clear ha e1
   go_enter Try.func26,Try.ntmps26
   go_wp2_with fail
   refine hL.mono ?_
   rintro e w1 ⟨rfl,hb1⟩
   have d2 := c2 w1 hb1
   clear c2
   go_wp2
   go_ret
   exact ⟨rfl,hb1⟩
end Go.Proofs.Ytmiijlecfiddmaa
