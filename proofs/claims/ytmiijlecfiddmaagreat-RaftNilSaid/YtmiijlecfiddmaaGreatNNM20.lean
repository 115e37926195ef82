/- The program's node runs; it polls. -/
import Derived.Test.YtmiijlecfiddmaaGreatNNM18
import Derived.Test.YtmiijlecfiddmaaGreatNNM19
set_option linter.unusedVariables false
set_option linter.unusedSimpArgs false
set_option maxRecDepth 100000
set_option maxHeartbeats 1600000
namespace Go.Proofs.YtmiijlecfiddmaaGreat
open Go.RowKit Go.Shelf
attribute [local go_sem] Oper.semAt_some
theorem Turned.back {w w1 w2 : World} {p : Nat} {N' : Node} {Z : Nat -> Prop} {q q1 : Ptrs} {s1 : Nat} (hq : q1.l = q.l) (hk : qe Z w w1) (h : Turned w1 w2 p N' Z q1 s1) : Turned w w2 p N' Z q s1 := by
 obtain ⟨q',xs',K',h1,h2,h3⟩ := h
 exact ⟨q',xs',K',h1,h2.trans hq,hk.trans h3⟩
theorem qbR (N : Node) (hn : N.n <= 3) (hid : N.id < N.n) (ro : Int) : Node.won ((N.count ro).yes 1) (N.count ro).n = decide (N.n = 1) := by
 have h1 : (N.count ro).yes 1 = 1 := by
  show ((List.range N.n).filter fun k => decide ((if k = N.id then (1 : Int) else 0) = 1)).length = 1
  generalize N.n = n at *
  generalize N.id = i at *
  obtain ⟨rfl,rfl⟩ | ⟨rfl,rfl⟩ | ⟨rfl,rfl⟩ | ⟨rfl,rfl⟩ | ⟨rfl,rfl⟩ | ⟨rfl,rfl⟩ : (n = 1 /\ i = 0) \/ (n = 2 /\ i = 0) \/ (n = 2 /\ i = 1) \/ (n = 3 /\ i = 0) \/ (n = 3 /\ i = 1) \/ (n = 3 /\ i = 2) := by omega
  all_goals rfl
 rw [h1]
 show decide (1 <= N.n /\ 1 <= N.n /\ N.n < 2 * 1) = _
 exact decide_eq_decide.2 (by omega)
theorem qc8 {w : World} {p : Nat} {N : Node} {Z : Nat -> Prop} {q : Ptrs} {s : Nat} {xs : List MLay} {K : Nat -> Prop} (h : RfAt w p N Z q s xs K) (hZ : ∀ b,Z b -> b < w.heap.size) (hms : N.ms.length < 999990) (hl : N.lg.l.length <= 400000) (hg : Good N.lg) (hn : N.n <= 3 /\ N.id < N.n) (hsd : N.sn.d.length <= 50000)
 (hidle : N.cx = 0 /\ N.rd = [] /\ N.nx = Node.zeroF /\ N.ma = Node.zeroF /\ N.ac = Node.zeroF) (hti : 0 <= N.ht /\ N.ht <= 2199023255552) (hadd : N.n = 1 -> runB N.lg.lastI N.lg.lastT [⟨N.lg.lastI + 1,N.ht + 1,[]⟩] = true) :
 Calls Tryz.prog 62 #[ptrV p] w fun e w' => e = .returned (.tuple #[]) /\ Turned w w' p N.run Z q s := by
 have c0 := h.c0
 have c2 := h.c2
 have c3 := h.c3
 have f2 := h.fz 2
 have f3 := h.fz 3
 have y1 : IntKind.i64.wrap (N.ht + 1) = N.ht + 1 := IntWalk.i64_in _ (by omega)
 have HO := Lib.hid h.on
 have H := Lib.hid (And.intro h (And.intro hZ (And.intro hms (And.intro hl (And.intro hg (And.intro hn (And.intro hsd (And.intro hidle (And.intro hti hadd)))))))))
 clear h hZ hms hl hg hn hsd hidle hti hadd
 go_enter Tryz.func62,Tryz.ntmps62
 go_wp2
 go_region
 obtain ⟨h,hZ,hms,hl,hg,hn,hsd,hidle,hti,hadd⟩ := H.out
 have g0 := OnP.put HO.out 2 (.int .i64 (N.ht + 1)) (C' := #[.int .i64 (N.id : Int), .int .i64 (N.n : Int), .int .i64 (N.ht + 1), .int .i64 N.hv, .int .i64 N.sn.i, .int .i64 N.sn.t, .slice q.E N.sn.d.length q.cE, .bool N.kp,ptrV q.l, .int .i64 N.cm, .int .i64 N.ro, .int .i64 N.ld, .int .i64 N.wk, .int .i64 (N.sy 0), .int .i64 (N.sy 1), .int .i64 (N.sy 2), .int .i64 (N.nx 0), .int .i64 (N.ma 0), .int .i64 (N.ac 0), .int .i64 (N.nx 1), .int .i64 (N.ma 1), .int .i64 (N.ac 1), .int .i64 (N.nx 2), .int .i64 (N.ma 2), .int .i64 (N.ac 2), .int .i64 N.cx, .slice q.R N.rd.length q.cR, .slice q.M N.ms.length q.cM, .slice q.T N.td.length q.cT]) rfl
 have g1 := OnP.put g0 3 (.int .i64 (N.id : Int)) (C' := #[.int .i64 (N.id : Int), .int .i64 (N.n : Int), .int .i64 (N.ht + 1), .int .i64 (N.id : Int), .int .i64 N.sn.i, .int .i64 N.sn.t, .slice q.E N.sn.d.length q.cE, .bool N.kp,ptrV q.l, .int .i64 N.cm, .int .i64 N.ro, .int .i64 N.ld, .int .i64 N.wk, .int .i64 (N.sy 0), .int .i64 (N.sy 1), .int .i64 (N.sy 2), .int .i64 (N.nx 0), .int .i64 (N.ma 0), .int .i64 (N.ac 0), .int .i64 (N.nx 1), .int .i64 (N.ma 1), .int .i64 (N.ac 1), .int .i64 (N.nx 2), .int .i64 (N.ma 2), .int .i64 (N.ac 2), .int .i64 N.cx, .slice q.R N.rd.length q.cR, .slice q.M N.ms.length q.cM, .slice q.T N.td.length q.cT]) rfl
 have o2 := g1.drew
 clear c0 c2 c3 f2 f3 y1 HO
 generalize ((w.setCell ⟨p,2,none⟩ (.int .i64 (N.ht + 1))).setCell ⟨p,3,none⟩ (.int .i64 (N.id : Int))).drew = W1 at *
 have h1 : RfAt W1 p { N with ht := N.ht + 1,hv := N.id } Z q s xs K := h.turn (Nat.le_of_eq o2.size.symm) (fun b _ hb => o2.off b hb) o2.row rfl rfl rfl rfl rfl
 have k1 : qe Z w W1 := o2.keeps h.away
 have hS := qaP h1 hn.1 (show N.id < 3 by omega) 2
 have HF := Lib.hid (And.intro h1 k1)
 clear h hZ hms hl hg hn hsd hidle hti hadd o2 h1 k1 g0 g1
 go_wp2_with fail
 refine hS.mono ?_
 rintro e w2 ⟨rfl,h2,k2⟩
 obtain ⟨h1,k1⟩ := HF.out
 obtain ⟨h,hZ,hms,hl,hg,hn,hsd,hidle,hti,hadd⟩ := H.out
 have hW := qbA h2 hn.1
 rw [show Node.won (Node.yes { N with ht := N.ht + 1,hv := (N.id : Int),ro := 2,ld := -1,wk := 0,sy := Node.put Node.zeroF N.id 1 } 1) N.n = decide (N.n = 1) from qbR { N with ht := N.ht + 1,hv := N.id } hn.1 hn.2 2] at hW
 have HG := Lib.hid (And.intro h2 (k1.trans k2))
 by_cases h1n : N.n = 1
 · have HN := Lib.hid h1n
   rw [decide_eq_true h1n] at hW
   clear h hZ hms hl hg hn hsd hidle hti hadd h1 k1 h2 k2 HF hS h1n
   go_wp2_with fail
   refine hW.mono ?_
   rintro e w3 ⟨rfl,m,rfl⟩
   obtain ⟨h2,k2⟩ := HG.out
   obtain ⟨h,hZ,hms,hl,hg,hn,hsd,hidle,hti,hadd⟩ := H.out
   have hR := qct (h2.below (below_drewN blq m)) (fun b hb => Nat.lt_of_lt_of_le (hZ b hb) (k2.trans (qf (below_drewN blq m) nlq)).size) hms hl hg ⟨hn.1,show N.id < 3 by omega⟩ hsd hidle (hadd HN.out)
   have hk := k2.trans (qf (Z := Z) (below_drewN blq m) nlq)
   have HK := Lib.hid hk
   clear h hZ hms hl hg hn hsd hidle hti hadd h2 k2 HG hW hk
   go_wp2_with fail
   refine hR.mono ?_
   rintro e w4 ⟨rfl,hT⟩
   have HT := Lib.hid hT
   clear hT hR
   go_wp2
   first | refine bodyPost_ret (results_none rfl _ _ _) rfl ?_ | refine bodyPost_end (results_none rfl _ _ _) rfl ?_
   refine ⟨rfl,?_⟩
   have e : N.run = Node.rise (Node.count { N with ht := N.ht + 1,hv := N.id } 2) := by
    show (if N.n = 1 then _ else _) = _
    rw [if_pos HN.out]
   rw [e]
   exact HT.out.back rfl HK.out
 · have HN := Lib.hid h1n
   rw [decide_eq_false h1n] at hW
   clear h hZ hms hl hg hn hsd hidle hti hadd h1 k1 h2 k2 HF hS h1n
   go_wp2_with fail
   refine hW.mono ?_
   rintro e w3 ⟨rfl,m,rfl⟩
   obtain ⟨h2,k2⟩ := HG.out
   obtain ⟨h,hZ,hms,hl,hg,hn,hsd,hidle,hti,hadd⟩ := H.out
   have c2 : (w2.drewN m).cell? ⟨p,2,none⟩ = some (.int .i64 (N.ht + 1)) := h2.c2
   have hR := fun j => qaw (h2.below (below_drewN (Below.refl w2.heap.size w2) j)) (fun b hb => Nat.lt_of_lt_of_le (hZ b hb) (k2.trans (qf (below_drewN blq j) nlq)).size) hms (by show N.lg.l.length <= 1000000; omega) ⟨hn.1,show N.id < 3 by omega⟩ 3 (N.ht + 1) (by omega)
   have hk := fun j => k2.trans (qf (Z := Z) (below_drewN (Below.refl w2.heap.size w2) j) nlq)
   have HK := Lib.hid hk
   clear h hZ hms hl hg hn hsd hidle hti hadd h2 k2 HG hW hk
   go_wp2_with fail
   refine (hR _).mono ?_
   rintro e w4 ⟨rfl,hT⟩
   have HT := Lib.hid hT
   clear hT hR
   go_wp2
   first | refine bodyPost_ret (results_none rfl _ _ _) rfl ?_ | refine bodyPost_end (results_none rfl _ _ _) rfl ?_
   refine ⟨rfl,?_⟩
   have e : N.run = Node.ask (Node.count { N with ht := N.ht + 1,hv := N.id } 2) 3 (N.ht + 1) := by
    show (if N.n = 1 then _ else _) = _
    rw [if_neg HN.out]
    rfl
   rw [e]
   exact HT.out.back rfl (HK.out _)
theorem qcx {w : World} {p : Nat} {N : Node} {Z : Nat -> Prop} {q : Ptrs} {s : Nat} {xs : List MLay} {K : Nat -> Prop} (h : RfAt w p N Z q s xs K) (hZ : ∀ b,Z b -> b < w.heap.size) (hms : N.ms.length < 999990) (hl : N.lg.l.length <= 400000) (hg : Good N.lg) (hn : N.n <= 3 /\ N.id < N.n) (hsd : N.sn.d.length <= 50000)
 (hidle : N.cx = 0 /\ N.rd = [] /\ N.nx = Node.zeroF /\ N.ma = Node.zeroF /\ N.ac = Node.zeroF) (hti : 0 <= N.ht /\ N.ht <= 2199023255552) (hadd : N.n = 1 -> runB N.lg.lastI N.lg.lastT [⟨N.lg.lastI + 1,N.ht + 1,[]⟩] = true) :
 Calls Tryz.prog 31 #[ptrV p] w fun e w' => e = .returned (.tuple #[]) /\ Turned w w' p (if N.n = 1 then (N.count 1).run else (N.count 1).ask 1 (N.ht + 1)) Z q s := by
 have y1 : IntKind.i64.wrap (N.ht + 1) = N.ht + 1 := IntWalk.i64_in _ (by omega)
 have hS := qaP h hn.1 (show N.id < 3 by omega) 1
 have H := Lib.hid (And.intro h (And.intro hZ (And.intro hms (And.intro hl (And.intro hg (And.intro hn (And.intro hsd (And.intro hidle (And.intro hti hadd)))))))))
 clear h hZ hms hl hg hn hsd hidle hti hadd
 go_enter Tryz.func31,Tryz.ntmps31
 go_wp2_with fail
 refine hS.mono ?_
 rintro e w2 ⟨rfl,h2,k2⟩
 obtain ⟨h,hZ,hms,hl,hg,hn,hsd,hidle,hti,hadd⟩ := H.out
 have hW := qbA h2 hn.1
 rw [show Node.won (Node.yes { N with ro := 1,ld := -1,wk := 0,sy := Node.put Node.zeroF N.id 1 } 1) N.n = decide (N.n = 1) from qbR N hn.1 hn.2 1] at hW
 have HG := Lib.hid (And.intro h2 k2)
 by_cases h1n : N.n = 1
 · have HN := Lib.hid h1n
   rw [decide_eq_true h1n] at hW
   clear h hZ hms hl hg hn hsd hidle hti hadd h2 k2 hS h1n
   go_wp2_with fail
   refine hW.mono ?_
   rintro e w3 ⟨rfl,m,rfl⟩
   obtain ⟨h2,k2⟩ := HG.out
   obtain ⟨h,hZ,hms,hl,hg,hn,hsd,hidle,hti,hadd⟩ := H.out
   have hk := k2.trans (qf (Z := Z) (below_drewN (Below.refl w2.heap.size w2) m) nlq)
   have hR := qc8 (h2.below (below_drewN blq m)) (fun b hb => Nat.lt_of_lt_of_le (hZ b hb) hk.size) hms hl hg hn hsd hidle hti hadd
   have HK := Lib.hid hk
   clear h hZ hms hl hg hn hsd hidle hti hadd h2 k2 HG hW hk
   go_wp2_with fail
   refine hR.mono ?_
   rintro e w4 ⟨rfl,hT⟩
   have HT := Lib.hid hT
   clear hT hR
   go_wp2
   first | refine bodyPost_ret (results_none rfl _ _ _) rfl ?_ | refine bodyPost_end (results_none rfl _ _ _) rfl ?_
   refine ⟨rfl,?_⟩
   exact HT.out.back rfl HK.out
 · have HN := Lib.hid h1n
   rw [decide_eq_false h1n] at hW
   clear h hZ hms hl hg hn hsd hidle hti hadd h2 k2 hS h1n
   go_wp2_with fail
   refine hW.mono ?_
   rintro e w3 ⟨rfl,m,rfl⟩
   obtain ⟨h2,k2⟩ := HG.out
   obtain ⟨h,hZ,hms,hl,hg,hn,hsd,hidle,hti,hadd⟩ := H.out
   have c2 : (w2.drewN m).cell? ⟨p,2,none⟩ = some (.int .i64 N.ht) := h2.c2
   have hR := fun j => qaw (h2.below (below_drewN (Below.refl w2.heap.size w2) j)) (fun b hb => Nat.lt_of_lt_of_le (hZ b hb) (k2.trans (qf (below_drewN blq j) nlq)).size) hms (by show N.lg.l.length <= 1000000; omega) ⟨hn.1,show N.id < 3 by omega⟩ 1 (N.ht + 1) (by omega)
   have hk := fun j => k2.trans (qf (Z := Z) (below_drewN (Below.refl w2.heap.size w2) j) nlq)
   have HK := Lib.hid hk
   clear h hZ hms hl hg hn hsd hidle hti hadd h2 k2 HG hW hk
   go_wp2_with fail
   refine (hR _).mono ?_
   rintro e w4 ⟨rfl,hT⟩
   have HT := Lib.hid hT
   clear hT hR
   go_wp2
   first | refine bodyPost_ret (results_none rfl _ _ _) rfl ?_ | refine bodyPost_end (results_none rfl _ _ _) rfl ?_
   refine ⟨rfl,?_⟩
   exact HT.out.back rfl (HK.out _)
end Go.Proofs.YtmiijlecfiddmaaGreat
set_option linter.unusedVariables false
set_option linter.unusedSimpArgs false
set_option maxRecDepth 100000
set_option maxHeartbeats 1600000
namespace Go.Proofs.YtmiijlecfiddmaaGreat
open Go.RowKit Go.Shelf
attribute [local go_sem] Oper.semAt_some
theorem qdA {r : RL} (h : Good r) {t : Int} (h1 : 1 <= t) (h2 : t <= 1099511627776) (h3 : r.lastT <= t) (h4 : r.lastI < 1099511627776) (d : List UInt8) (hd : d.length <= 12000) : runB r.lastI r.lastT [⟨r.lastI + 1,t,d⟩] = true := by
 have h5 := h.lastI
 have h6 := h.base
 have h7 := h.lim
 rw [qL,qbj,(qs _ _ _).2 ⟨⟨show 1 <= r.lastI + 1 by omega,show r.lastI + 1 <= 1099511627776 by omega⟩,⟨h1,h2⟩,hd⟩,decide_eq_true (show r.lastT <= t from h3)]
 simp
theorem qdB {N : Node} (h1 : N.ro = 3) (h2 : 2 <= N.wk + 1) : N.tick = ({ N with wk := 0 } : Node).sendAll := by
 unfold Node.tick
 exact if_pos ⟨h1,h2⟩
theorem qdC {N : Node} (h1 : N.ro = 3) (h2 : ¬ 2 <= N.wk + 1) : N.tick = { N with wk := N.wk + 1 } := by
 unfold Node.tick
 exact (if_neg fun e => h2 e.2).trans (if_pos (.inl h1))
theorem qbD {N : Node} (h1 : N.ro ≠ 3) (h2 : N.wk + 1 < 6 + 3 * (N.id : Int) \/ 1099511627776 <= N.ht \/ 1099511627776 <= N.lg.lastI) : N.tick = { N with wk := N.wk + 1 } := by
 unfold Node.tick
 exact (if_neg fun e => h1 e.1).trans (if_pos (.inr h2))
theorem qdD {N : Node} (h1 : N.ro ≠ 3) (h2 : ¬ (N.wk + 1 < 6 + 3 * (N.id : Int) \/ 1099511627776 <= N.ht \/ 1099511627776 <= N.lg.lastI)) :
 N.tick = if N.n = 1 then (({ N with wk := N.wk + 1 } : Node).count 1).run else (({ N with wk := N.wk + 1 } : Node).count 1).ask 1 (N.ht + 1) := by
 unfold Node.tick
 exact (if_neg fun e => h1 e.1).trans (if_neg fun e => e.elim h1 h2)
theorem qcy {w : World} {p : Nat} {N : Node} {Z : Nat -> Prop} {q : Ptrs} {s : Nat} {xs : List MLay} {K : Nat -> Prop} (h : RfAt w p N Z q s xs K) (hZ : ∀ b,Z b -> b < w.heap.size) (hms : N.ms.length < 999990) (hl : N.lg.l.length <= 400000) (hg : Good N.lg) (hn : N.n <= 3 /\ N.id < N.n) (hsd : N.sn.d.length <= 50000)
 (hidle : N.ro ≠ 3 -> N.cx = 0 /\ N.rd = [] /\ N.nx = Node.zeroF /\ N.ma = Node.zeroF /\ N.ac = Node.zeroF) (hti : 0 <= N.ht /\ N.ht <= 2199023255552) (hwk : 0 <= N.wk /\ N.wk <= 2199023255552) (hnx : ∀ j,-4611686018427387904 <= N.nx j /\ N.nx j <= 4611686018427387904) (hlt : N.lg.lastT <= N.ht) :
 Calls Tryz.prog 8 #[ptrV p] w fun e w' => e = .returned (.tuple #[]) /\ Turned w w' p N.tick Z q s := by
 have c0 := h.c0
 have c10 := h.c10
 have c12 := h.c12
 have f12 := h.fz 12
 have hp := h.lt
 have y1 : IntKind.i64.wrap (N.wk + 1) = N.wk + 1 := IntWalk.i64_in _ (by omega)
 have o1 := h.on.put 12 (.int .i64 (N.wk + 1)) (C' := rfC { N with wk := N.wk + 1 } q) rfl
 have h1 : RfAt (w.setCell ⟨p,12,none⟩ (.int .i64 (N.wk + 1))) p { N with wk := N.wk + 1 } Z q s xs K := h.turn (Nat.le_of_eq o1.size.symm) (fun b _ hb => o1.off b hb) o1.row rfl rfl rfl rfl rfl
 have k1 : qe Z w (w.setCell ⟨p,12,none⟩ (.int .i64 (N.wk + 1))) := o1.keeps h.away
 by_cases hro : N.ro = 3
 · have e1 : (N.ro == 3) = true := beq_iff_eq.2 hro
   by_cases hw : 2 <= N.wk + 1
   · have e2 : decide (2 <= N.wk + 1) = true := decide_eq_true hw
     have o2 := o1.put 12 (.int .i64 0) (C' := rfC { N with wk := 0 } q) rfl
     have h2 : RfAt ((w.setCell ⟨p,12,none⟩ (.int .i64 (N.wk + 1))).setCell ⟨p,12,none⟩ (.int .i64 0)) p { N with wk := 0 } Z q s xs K := h.turn (Nat.le_of_eq o2.size.symm) (fun b _ hb => o2.off b hb) o2.row rfl rfl rfl rfl rfl
     have k2 : qe Z w ((w.setCell ⟨p,12,none⟩ (.int .i64 (N.wk + 1))).setCell ⟨p,12,none⟩ (.int .i64 0)) := o2.keeps h.away
     have hS := qas h2 (fun b hb => Nat.lt_of_lt_of_le (hZ b hb) k2.size) hms (by show N.lg.l.length <= 1000000; omega) hg hnx hsd ⟨hn.1,show N.id < 3 by omega⟩
     have HK := Lib.hid (And.intro k2 (And.intro hro hw))
     clear h hZ hms hl hg hn hsd hidle hti hwk hnx hlt h1 k1 o1 o2 h2 k2 hro hw
     go_enter Tryz.func8,Tryz.ntmps8
     go_wp2_with fail
     refine hS.mono ?_
     rintro e w4 ⟨rfl,hT⟩
     have HT := Lib.hid hT
     clear hT hS
     go_wp2
     first | refine bodyPost_ret (results_none rfl _ _ _) rfl ?_ | refine bodyPost_end (results_none rfl _ _ _) rfl ?_
     refine ⟨rfl,?_⟩
     obtain ⟨k2,hro,hw⟩ := HK.out
     rw [qdB hro hw]
     exact HT.out.back rfl k2
   · have e2 : decide (2 <= N.wk + 1) = false := decide_eq_false hw
     have HK := Lib.hid (And.intro h1 (And.intro k1 (And.intro hro hw)))
     clear h hZ hms hl hg hn hsd hidle hti hwk hnx hlt h1 k1 o1 hro hw
     go_enter Tryz.func8,Tryz.ntmps8
     go_wp2
     first | refine bodyPost_ret (results_none rfl _ _ _) rfl ?_ | refine bodyPost_end (results_none rfl _ _ _) rfl ?_
     refine ⟨rfl,?_⟩
     obtain ⟨h1,k1,hro,hw⟩ := HK.out
     rw [qdC hro (by omega)]
     exact ⟨q,xs,K,h1,rfl,k1⟩
 · have e1 : (N.ro == 3) = false := beq_eq_false_iff_ne.2 hro
   have e1' : (N.ro = 3) = False := eq_false hro
   have y2 : IntKind.i64.wrap (3 * (N.id : Int)) = 3 * (N.id : Int) := IntWalk.i64_in _ (by omega)
   have y3 : IntKind.i64.wrap (6 + 3 * (N.id : Int)) = 6 + 3 * (N.id : Int) := IntWalk.i64_in _ (by omega)
   by_cases hw : 6 + 3 * (N.id : Int) <= N.wk + 1
   · have e2 : decide (6 + 3 * (N.id : Int) <= N.wk + 1) = true := decide_eq_true hw
     have hL := fun X (hX : Below (w.setCell ⟨p,12,none⟩ (.int .i64 (N.wk + 1))).heap.size (w.setCell ⟨p,12,none⟩ (.int .i64 (N.wk + 1))) X) => qbB (h1.below hX) (show N.lg.l.length <= 1000000 by omega)
     generalize hbb : (decide (N.ht < 1099511627776) && decide (N.lg.lastI < 1099511627776)) = bb at hL
     have HBB := Lib.hid hbb
     clear hbb
     have H := Lib.hid (And.intro h (And.intro hZ (And.intro hms (And.intro hl (And.intro hg (And.intro hn (And.intro hsd (And.intro hidle (And.intro hti (And.intro hwk (And.intro hnx (And.intro hlt (And.intro h1 (And.intro k1 (And.intro hro hw)))))))))))))))
     have hp1 : p < (w.setCell ⟨p,12,none⟩ (.int .i64 (N.wk + 1))).heap.size := h1.lt
     have d0 := h1.c0
     have d12 := h1.c12
     clear h hZ hms hl hg hn hsd hidle hti hwk hnx hlt h1 k1 hro hw
     go_enter Tryz.func8,Tryz.ntmps8
     go_wp2_with fail
     generalize w.setCell ⟨p,12,none⟩ (.int .i64 (N.wk + 1)) = w1 at *
     refine wp_region_held_drew (S := (fun w' => w'.cell? ⟨p,0,none⟩ = some (.int .i64 (N.id : Int)) /\ w'.cell? ⟨p,12,none⟩ = some (.int .i64 (N.wk + 1)))) (by kernel_rfl) ⟨d0,d12⟩ (fun hHeld => ?_)
     change wpAnyH _ _ _ _ _ 16 #[false,false,false,false,false,false,false,false,false,false,false,false,false,false,false,false] _ _
     refine tkq 0 ⟨some 28, .move (.tmp 0),33, "vote.go:30",#[],none⟩ ?_ ?_ ?_
     rotate_left
     · (intro w h; (try dsimp only at h); go_simp); (try with_reducible rfl)
     try simp only [lpq]
     refine tkq 1 ⟨some 29, .nilCheck (.tmp 28),0, "vote.go:30",#[⟨0, .data⟩],none⟩ ?_ ?_ ?_
     rotate_left
     · (intro w h; (try dsimp only at h); go_simp); (try with_reducible rfl)
     try simp only [lpq]
     refine tkq 2 ⟨some 30, .fieldAddr 90 (.tmp 29) 9,0, "vote.go:30",#[⟨1, .data⟩],none⟩ ?_ ?_ ?_
     rotate_left
     · (intro w h; (try dsimp only at h); go_simp); (try with_reducible rfl)
     try simp only [lpq]
     refine tkq 3 ⟨some 31, .load 3 (.tmp 30),3, "vote.go:30",#[⟨2, .data⟩],none⟩ ?_ ?_ ?_
     rotate_left
     · (intro w h; (try dsimp only at h); go_simp); (try with_reducible rfl)
     try simp only [lpq]
     refine tkq 4 ⟨some 32, .move (.tmp 0),33, "vote.go:30",#[],none⟩ ?_ ?_ ?_
     rotate_left
     · (intro w h; (try dsimp only at h); go_simp); (try with_reducible rfl)
     try simp only [lpq]
     refine tkq 5 ⟨some 33, .nilCheck (.tmp 32),0, "vote.go:30",#[⟨4, .data⟩],none⟩ ?_ ?_ ?_
     rotate_left
     · (intro w h; (try dsimp only at h); go_simp); (try with_reducible rfl)
     try simp only [lpq]
     refine tkq 6 ⟨some 34, .fieldAddr 90 (.tmp 33) 0,0, "vote.go:30",#[⟨5, .data⟩],none⟩ ?_ ?_ ?_
     rotate_left
     · (intro w h; (try dsimp only at h); go_simp); (try with_reducible rfl)
     try simp only [lpq]
     refine tkq 7 ⟨some 35, .load 3 (.tmp 34),3, "vote.go:30",#[⟨6, .data⟩],none⟩ ?_ ?_ ?_
     rotate_left
     · (intro w h; (try dsimp only at h); go_simp); (try with_reducible rfl)
     try simp only [lpq]
     refine tkq 8 ⟨some 36, .binOp .mul 3 (.const (.int .i64 3)) (.tmp 35) 3,3, "vote.go:30",#[⟨7, .data⟩],none⟩ ?_ ?_ ?_
     rotate_left
     · (intro w h; (try dsimp only at h); go_simp); (try with_reducible rfl)
     try simp only [lpq]
     refine tkq 9 ⟨some 37, .binOp .add 3 (.const (.int .i64 6)) (.tmp 36) 3,3, "vote.go:30",#[⟨8, .data⟩],none⟩ ?_ ?_ ?_
     rotate_left
     · (intro w h; (try dsimp only at h); go_simp); (try with_reducible rfl)
     try simp only [lpq]
     refine tkq 10 ⟨some 38, .binOp .geq 3 (.tmp 31) (.tmp 37) 3,4, "vote.go:30",#[⟨3, .data⟩,⟨9, .data⟩],none⟩ ?_ ?_ ?_
     rotate_left
     · (intro w h; (try dsimp only at h); go_simp); (try with_reducible rfl)
     try simp only [lpq]
     refine tkq 11 ⟨some 39, .move (.tmp 38),4, "vote.go:30",#[⟨10, .data⟩],none⟩ ?_ ?_ ?_
     rotate_left
     · (intro w h; (try dsimp only at h); go_simp); (try with_reducible rfl)
     try simp only [lpq]
     refine tkq 12 ⟨some 40, .move (.tmp 0),33, "vote.go:30",#[⟨11, .guard⟩],some (11,true)⟩ ?_ ?_ ?_
     rotate_left
     · (intro w h; (try dsimp only at h); go_simp); (try with_reducible rfl)
     try simp only [lpq]
     refine wpAnyH_ready (rs := [13]) (by kernel_rfl) (by simp) ?_
     refine AllReadyH.cons (o := ⟨some 41, .call ⟨.value (.func 30),#[.tmp 40],#[33]⟩,4, "vote.go:30",#[⟨12, .data⟩,⟨11, .chain⟩,⟨11, .guard⟩],some (11,true)⟩) rfl (fun KK hK => ?_) AllReadyH.nil
     go_simp
     refine (hL _ (blq.drew)).mono ?_
     rintro e w3 ⟨rfl,hb3⟩
     have HB := Lib.hid hb3
     refine hK.out _ _ ⟨(hb3.cell (p := ⟨p,0,none⟩) hp1).trans hHeld.1,(hb3.cell (p := ⟨p,12,none⟩) hp1).trans hHeld.2⟩ (fun hHeld2 => ?_)
     clear hK KK hHeld
     have hHeld := hHeld2
     clear hHeld2
     try simp only [lpq]
     refine tkq 14 ⟨some 42, .pick (.tmp 39) (.tmp 41) (.const (.bool false)),4, "vote.go:30",#[⟨11, .data⟩,⟨13, .data⟩],none⟩ ?_ ?_ ?_
     rotate_left
     · (intro w h; (try dsimp only at h); go_simp); (try with_reducible rfl)
     try simp only [lpq]
     refine tkq 15 ⟨some 27, .assign (.tmp 42),4, "vote.go:30",#[⟨14, .data⟩,⟨13, .chain⟩],none⟩ ?_ ?_ ?_
     rotate_left
     · (intro w h; (try dsimp only at h); go_simp); (try with_reducible rfl)
     try simp only [lpq]
     refine wpAnyH_done (by kernel_rfl) ?_ _
     clear hHeld hL
     cases bb with
     | false =>
       go_wp2
       first | refine bodyPost_ret (results_none rfl _ _ _) rfl ?_ | refine bodyPost_end (results_none rfl _ _ _) rfl ?_
       refine ⟨rfl,?_⟩
       obtain ⟨h,hZ,hms,hl,hg,hn,hsd,hidle,hti,hwk,hnx,hlt,h1,k1,hro,hw⟩ := H.out
       have hb3 := blq.drew.trans HB.out
       have hor : 1099511627776 <= N.ht \/ 1099511627776 <= N.lg.lastI := by
        by_cases a : N.ht < 1099511627776
        · by_cases b : N.lg.lastI < 1099511627776
          · have := HBB.out
            rw [decide_eq_true a,decide_eq_true b] at this
            cases this
          · exact .inr (by omega)
        · exact .inl (by omega)
       rw [qbD hro (.inr hor)]
       exact ⟨q,xs,K,h1.below hb3,rfl,k1.trans (qf hb3 nlq)⟩
     | true =>
       obtain ⟨h,hZ,hms,hl,hg,hn,hsd,hidle,hti,hwk,hnx,hlt,h1,k1,hro,hw⟩ := H.out
       have hb3 := blq.drew.trans HB.out
       have hand : N.ht < 1099511627776 /\ N.lg.lastI < 1099511627776 := by
        have := HBB.out
        simpa using this
       have k3 : qe Z w w3 := k1.trans (qf hb3 nlq)
       have hP := qcx (h1.below hb3) (fun b hb => Nat.lt_of_lt_of_le (hZ b hb) k3.size) hms hl hg hn hsd (hidle hro) hti (fun _ => qdA hg (show 1 <= N.ht + 1 by omega) (show N.ht + 1 <= 1099511627776 by omega) (show N.lg.lastT <= N.ht + 1 by omega) hand.2 [] (by simp))
       have HK := Lib.hid (And.intro k3 (And.intro hro (And.intro hw hand)))
       clear h hZ hms hl hg hn hsd hidle hti hwk hnx hlt h1 k1 hro hw hb3 hand k3 HB H HBB
       go_wp2_with fail
       refine hP.mono ?_
       rintro e w4 ⟨rfl,hT⟩
       have HT := Lib.hid hT
       clear hT hP
       go_wp2
       first | refine bodyPost_ret (results_none rfl _ _ _) rfl ?_ | refine bodyPost_end (results_none rfl _ _ _) rfl ?_
       refine ⟨rfl,?_⟩
       obtain ⟨k3,hro,hw,hand⟩ := HK.out
       rw [qdD hro (by omega)]
       exact HT.out.back rfl k3
   · have e2 : decide (6 + 3 * (N.id : Int) <= N.wk + 1) = false := decide_eq_false hw
     have HK := Lib.hid (And.intro h1 (And.intro k1 (And.intro hro hw)))
     clear h hZ hms hl hg hn hsd hidle hti hwk hnx hlt h1 k1 o1 hro hw
     go_enter Tryz.func8,Tryz.ntmps8
     go_wp2
     go_quiet (fail)
     go_wp2
     first | refine bodyPost_ret (results_none rfl _ _ _) rfl ?_ | refine bodyPost_end (results_none rfl _ _ _) rfl ?_
     refine ⟨rfl,?_⟩
     obtain ⟨h1,k1,hro,hw⟩ := HK.out
     rw [qbD hro (.inl (by omega))]
     exact ⟨q,xs,K,h1.below (below_drewN blq _),rfl,k1.trans (qf (below_drewN blq _) nlq)⟩
end Go.Proofs.YtmiijlecfiddmaaGreat
