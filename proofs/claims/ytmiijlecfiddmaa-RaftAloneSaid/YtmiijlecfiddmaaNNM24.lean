/- The program's leader is asked for a reading. -/
import Derived.Test.YtmiijlecfiddmaaNNM23
set_option linter.unusedVariables false
set_option linter.unusedSimpArgs false
set_option maxRecDepth 100000
set_option maxHeartbeats 3200000
namespace Go.Proofs.Ytmiijlecfiddmaa
open Go.RowKit Go.Shelf
attribute [local go_sem] Oper.semAt_some
section
variable {w w' : World} {p : Nat} {N : Node} {Z : Nat → Prop} {q : Ptrs} {s : Nat} {xs : List MLay} {K : Nat → Prop}
theorem RfAt.asks (h : RfAt w p N Z q s xs K) (hZ : ∀ b,Z b -> b < w.heap.size) {X : World} (hX : Below w.heap.size w X) {A' : Option Addr} {c' : Nat} {y : Int × Int} (hsp : Sp 51 2 w' A' (N.rd.length + 1) c' (rrow N.rd ++ rrow [y])) (hA : ∀ b,blk A' b -> blk q.R b \/ X.heap.size <= b) (hg : Grew X w' q.R) :
 RfAt (w'.setCell ⟨p,26,none⟩ (.slice A' (N.rd.length + 1) c')) p { N with rd := N.rd ++ [y] } Z { q with R := A',cR := c' } s xs K /\ qf Z w (w'.setCell ⟨p,26,none⟩ (.slice A' (N.rd.length + 1) c')) := by
 have hs1 := hX.size
 have hs2 := hg.size
 have hp := h.lt
 have hnm : ¬ blk q.R p := fun e => (h.rz p e).2.1 rfl
 have hrow : w'.heap[p]? = some (.cells (rfC N q) 68) := (hg.block p (by omega) hnm).trans ((hX.block p hp).trans h.row)
 have hset := setCell_at w' ⟨p,26,none⟩ (.slice A' (N.rd.length + 1) c') _ _ _ rfl hrow
 have hoff : ∀ b,b ≠ p -> (w'.setCell ⟨p,26,none⟩ (.slice A' (N.rd.length + 1) c')).heap[b]? = w'.heap[b]? := fun b hb => Below.heap_setCell _ _ _ _ (by exact hb)
 have hkk : ∀ b,b < w.heap.size -> b ≠ p -> ¬ blk q.R b -> (w'.setCell ⟨p,26,none⟩ (.slice A' (N.rd.length + 1) c')).heap[b]? = w.heap[b]? := fun b h1 h2 h3 => (hoff b h2).trans ((hg.block b (by omega) h3).trans (hX.block b h1))
 have hsz : w.heap.size <= (w'.setCell ⟨p,26,none⟩ (.slice A' (N.rd.length + 1) c')).heap.size := by simp; omega
 have hnew : ∀ b,blk A' b -> blk q.R b \/ w.heap.size <= b := fun b hb => (hA b hb).imp_right fun e => by omega
 have hA' : ∀ b,blk A' b -> ¬ Z b /\ b ≠ p /\ ¬ K b /\ ¬ blk q.M b /\ ¬ blk q.T b := fun b hb => by
  rcases hnew b hb with hb | hb
  · exact ⟨(h.rz b hb).1,(h.rz b hb).2.1,(h.rz b hb).2.2,fun e => (h.mz b e).2.2.2 hb,fun e => (h.tz b e).2.2.2.1 hb⟩
  · exact ⟨fun e => by have := hZ b e; omega,by omega,fun e => by have := (h.kz b e).2.2; omega,fun e => by have := h.mss.lt e; omega,fun e => by have := h.tds.lt e; omega⟩
 constructor
 · exact {
    row := by
     have e : N.rd.length + 1 = (N.rd ++ [y]).length := by simp
     rw [hset,e]
     rfl
    away := h.away
    kz := fun b hb => ⟨(h.kz b hb).1,(h.kz b hb).2.1,Nat.lt_of_lt_of_le (h.kz b hb).2.2 hsz⟩
    rz := fun b hb => ⟨(hA' b hb).1,(hA' b hb).2.1,(hA' b hb).2.2.1⟩
    mz := fun b hb => ⟨(h.mz b hb).1,(h.mz b hb).2.1,(h.mz b hb).2.2.1,fun e => (hA' b e).2.2.2.1 hb⟩
    tz := fun b hb => ⟨(h.tz b hb).1,(h.tz b hb).2.1,(h.tz b hb).2.2.1,fun e => (hA' b e).2.2.2.2 hb,(h.tz b hb).2.2.2.2⟩
    log := by
     refine (h.log.grow.keep (w' := w'.setCell ⟨p,26,none⟩ (.slice A' (N.rd.length + 1) c')) hsz fun b hb hz => hkk b hb (fun e => hz (.inl (.inr (.inl e)))) fun e => hz (.inl (.inr (.inr (.inr (.inl e)))))).mono fun b hb => ?_
     rcases hb with hb | hb | hb | hb | hb | hb
     · exact .inl (.inl hb)
     · exact .inl (.inr (.inl hb))
     · exact .inl (.inr (.inr (.inl hb)))
     · rcases hnew b hb with hb | hb
       · exact .inl (.inr (.inr (.inr (.inl hb))))
       · exact .inr hb
     · exact .inl (.inr (.inr (.inr (.inr (.inl hb)))))
     · exact .inl (.inr (.inr (.inr (.inr (.inr hb)))))
    tds := h.tds.keep fun b hb => hkk b (h.tds.lt hb) (h.tz b hb).2.1 fun e => (h.tz b hb).2.2.2.1 e
    mss := h.mss.keep fun b hb => hkk b (h.mss.lt hb) (h.mz b hb).2.1 fun e => (h.mz b hb).2.2.2 e
    rds := by
     rw [show ({ N with rd := N.rd ++ [y] } : Node).rd.length = N.rd.length + 1 by simp,qaT]
     exact hsp.keep fun b hb => hoff b (hA' b hb).2.1
    map := h.map
    msg := fun y hy => (h.msg y hy).keep hsz fun b hb hkb => hkk b hb (h.kz b hkb.1).2.1 fun e => (h.rz b e).2.2 hkb.1
    snp := h.snp.keep hsz fun h0 g off e hg' => hkk g hg' (h.kz g (h.snk h0 g off e)).2.1 fun e' => (h.rz g e').2.2 (h.snk h0 g off e)
    snk := h.snk }
 · have k1 := qe (Z := Z) hX nlq
   have k2 := hg.keeps (Z := Z) fun b hb => (h.rz b hb).1
   exact (k1.trans k2).trans (qg _ ⟨p,26,none⟩ _ h.away)
theorem RfAt.setCx (h : RfAt w p N Z q s xs K) (c : Int) : RfAt (w.setCell ⟨p,25,none⟩ (.int .i64 c)) p { N with cx := c } Z q s xs K /\ qf Z w (w.setCell ⟨p,25,none⟩ (.int .i64 c)) := by
 have o1 := h.on.put 25 (.int .i64 c) (C' := rfC { N with cx := c } q) rfl
 exact ⟨h.turn (Nat.le_of_eq o1.size.symm) (fun b _ hb => o1.off b hb) o1.row rfl rfl rfl rfl rfl,o1.keeps h.away⟩
end
theorem qdn {w : World} {p : Nat} {N : Node} {Z : Nat -> Prop} {q : Ptrs} {s : Nat} {xs : List MLay} {K : Nat -> Prop} (h : RfAt w p N Z q s xs K) (hZ : ∀ b,Z b -> b < w.heap.size) (a : Able N) :
 Calls Try.prog 10 #[ptrV p] w fun e w' => e = .returned (.tuple #[.int .i64 N.read.2.1, .int .i64 N.read.2.2]) /\ Turned w w' p N.read.1 Z q s := by
 have hp := h.lt
 have c10 := h.c10
 by_cases hro : N.ro = 3
 · have e1 : (N.ro != 3) = false := by rw [bne,beq_iff_eq.2 hro]; rfl
   have hown := qbT h (by have := a.len; omega) a.good N.cm
   have c9 := h.c9
   by_cases ho : N.lg.at_ N.cm = some N.ht
   · have hP : N.read = (({ N with cx := N.cx + 1,rd := N.rd ++ [(N.cx + 1,N.cm)] } : Node).tell.sendAll,N.cx + 1,0) := by
      unfold Node.read
      rw [if_neg (by rw [hro]; simp),if_neg (by rw [ho]; simp)]
     have hob : N.ownB N.cm = true := by
      unfold Node.ownB
      simp [ho]
     rw [hob] at hown
     have y1 : IntKind.i64.wrap (N.cx + 1) = N.cx + 1 := IntWalk.i64_in _ (by have := a.cx; omega)
     rw [hP]
     have H := Lib.hid (And.intro h (And.intro hZ a))
     clear h hZ a hro ho hP hob
     go_enter Try.func10,Try.ntmps10
     go_wp2_with fail
     refine hown.mono ?_
     rintro e w2 ⟨rfl,hb2⟩
     obtain ⟨h,hZ,a⟩ := H.out
     have R2 := h.below hb2
     have k2 := qe (Z := Z) hb2 nlq
     have c25 := R2.c25
     have f25 := R2.fz 25
     obtain ⟨R3,k3⟩ := R2.setCx (N.cx + 1)
     have hZ3 : ∀ b,Z b -> b < (w2.setCell ⟨p,25,none⟩ (.int .i64 (N.cx + 1))).heap.size := fun b hb => Nat.lt_of_lt_of_le (hZ b hb) (k2.trans k3).size
     have hlen : N.rd.length + 1 <= 1000000 := by have := a.td; omega
     obtain ⟨W3,hW3⟩ : ∃ W3,w2.setCell ⟨p,25,none⟩ (.int .i64 (N.cx + 1)) = W3 := ⟨_,rfl⟩
     rw [hW3] at R3 k3 hZ3
     have d25 : W3.cell? ⟨p,25,none⟩ = some (.int .i64 (N.cx + 1)) := R3.c25
     have d9 : W3.cell? ⟨p,9,none⟩ = some (.int .i64 N.cm) := R3.c9
     have d26 : W3.cell? ⟨p,26,none⟩ = some (.slice q.R N.rd.length q.cR) := R3.c26
     have hp3 := R3.lt
     have hnt : ¬ blk q.R p := fun e => (R3.rz p e).2.1 rfl
     have HS : ∀ X,Below W3.heap.size W3 X -> Sp 51 2 X q.R N.rd.length q.cR (rrow N.rd) := fun X hX => R3.rds.keep fun b hb => hX.block b (R3.rds.lt hb)
     have HR : ∀ X,Below W3.heap.size W3 X -> X.heap[p]? = some (.cells (rfC { N with cx := N.cx + 1 } q) 68) := fun X hX => (hX.block p hp3).trans R3.row
     have H3 := Lib.hid (And.intro R3 (And.intro (k2.trans k3) (And.intro hZ3 a)))
     clear h hZ a R2 k2 R3 k3 hZ3 hown c10 c9 H hb2 hp
     go_upto_region 8 with fail
     clear hW3 c25 f25
     go_region_law (refine qj qaJ _ (by rfl) _ _ (by rfl) q.R N.rd.length q.cR (rrow N.rd) (by rfl) (HS _ (by repeat (first | exact blq | apply Below.drew | refine Below.alloc ?_ (by simp) _))) (some ⟨W3.heap.size,0,none⟩) 1 1 (rrow [(N.cx + 1,N.cm)]) (by rfl) (fun e => by cases e) (by rfl) (qbR _) (fun b e => by cases e; exact qq (heap_alloc_new _ _)) hlen ?_
                    intro A' c' w4 hsp hA hgr
                    have hr4 := (hgr.block p (by simp; omega) hnt).trans (HR _ (by repeat (first | exact blq | apply Below.drew | refine Below.alloc ?_ (by simp) _)))
                    have e26 : w4.cell? ⟨p,26,none⟩ = some (.slice q.R N.rd.length q.cR) := qa hr4 26 _ rfl
                    have f26 := qb hr4 26)
     all_goals
      obtain ⟨R3,k3,hZ3,a⟩ := H3.out
      obtain ⟨R4,k4⟩ := R3.asks (y := (N.cx + 1,N.cm)) hZ3 (by repeat (first | exact blq | apply Below.drew | refine Below.alloc ?_ (by simp) _)) hsp hA hgr
      have hTl := qdm R4 (fun b hb => Nat.lt_of_lt_of_le (hZ3 b hb) k4.size) ⟨a.n.1,by have := a.n; show N.id < 3; omega⟩ (by have := a.td; show N.td.length + (N.rd ++ [(N.cx + 1,N.cm)]).length <= 900000; rw [List.length_append]; simp only [List.length_cons,List.length_nil]; omega)
      have HF := Lib.hid (And.intro hZ3 (And.intro (k3.trans k4) (And.intro k4 a)))
      clear R3 k3 hZ3 a R4 k4 hsp hA hgr hr4 e26 f26 HS HR d25 d9 d26
      go_wp2_with fail
      refine hTl.mono ?_
      rintro e w6 ⟨rfl,q6,R6,hq6,k6⟩
      obtain ⟨hZ3,k4,k34,a⟩ := HF.out
      have hSd := qU R6 (fun b hb => Nat.lt_of_lt_of_le (hZ3 b hb) (k34.trans k6).size) (by have := a.ms; show N.ms.length < 999990; omega) (by have := a.len; show N.lg.l.length <= 1000000; omega) a.good (fun j => by have := a.nx j; show _ <= N.nx j /\ N.nx j <= _; omega) a.sd ⟨a.n.1,by have := a.n; show N.id < 3; omega⟩
      have HG := Lib.hid (And.intro (k4.trans k6) hq6)
      clear hZ3 k4 k34 a R6 hq6 k6 hTl HF
      go_wp2_with fail
      refine hSd.mono ?_
      rintro e w7 ⟨rfl,q7,xs7,K7,R7,hq7,k7⟩
      have c25 : w7.cell? ⟨p,25,none⟩ = some (.int .i64 (N.cx + 1)) := by
       have e := R7.c25
       obtain ⟨ls,_,e2⟩ := qaj ({ N with cx := N.cx + 1,rd := N.rd ++ [(N.cx + 1,N.cm)] } : Node).tell ({ N with cx := N.cx + 1,rd := N.rd ++ [(N.cx + 1,N.cm)] } : Node).tell.others
       rw [show (({ N with cx := N.cx + 1,rd := N.rd ++ [(N.cx + 1,N.cm)] } : Node).tell.sendAll).cx = N.cx + 1 from congrArg Node.cx e2] at e
       exact e
      have HT := Lib.hid (And.intro R7 (And.intro hq7 k7))
      clear R7 hq7 k7 hSd
      go_wp2
      go_ret2
      obtain ⟨k6,hq6⟩ := HG.out
      obtain ⟨R7,hq7,k7⟩ := HT.out
      exact ⟨rfl,q7,xs7,K7,R7,hq7.trans hq6,k6.trans k7⟩
   · have hP : N.read = (N,0,7) := by
      unfold Node.read
      rw [if_neg (by rw [hro]; simp),if_pos ho]
     have hob : N.ownB N.cm = false := by
      unfold Node.ownB
      simp [ho]
     rw [hob] at hown
     rw [hP]
     have H := Lib.hid h
     clear h hZ a hro ho hP hob
     go_enter Try.func10,Try.ntmps10
     go_wp2_with fail
     refine hown.mono ?_
     rintro e w2 ⟨rfl,hb2⟩
     go_wp2
     go_ret2
     exact ⟨rfl,q,xs,K,H.out.below hb2,rfl,qe hb2 nlq⟩
 · have e1 : (N.ro != 3) = true := by rw [bne,beq_eq_false_iff_ne.2 hro]; rfl
   have e1' : (N.ro = 3) = False := eq_false hro
   have hP : N.read = (N,0,14) := by
    unfold Node.read
    rw [if_pos hro]
   rw [hP]
   have H := Lib.hid h
   clear h hZ a hro hP
   go_enter Try.func10,Try.ntmps10
   go_wp2
   go_ret2
   exact ⟨rfl,q,xs,K,H.out,rfl,qf.refl _ _⟩
end Go.Proofs.Ytmiijlecfiddmaa
set_option linter.unusedVariables false
set_option linter.unusedSimpArgs false
set_option maxRecDepth 100000
set_option maxHeartbeats 200000
namespace Go.Proofs.Ytmiijlecfiddmaa
open Go.RowKit Go.Shelf
attribute [local go_sem] Oper.semAt_some
end Go.Proofs.Ytmiijlecfiddmaa
