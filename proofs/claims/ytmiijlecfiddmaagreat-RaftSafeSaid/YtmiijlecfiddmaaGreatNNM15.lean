/- The program's node runs; it polls. -/
import Derived.Test.YtmiijlecfiddmaaGreatNNM01
import Derived.Test.YtmiijlecfiddmaaGreatNNM13
import Derived.Test.YtmiijlecfiddmaaGreatNNM14
set_option linter.unusedVariables false
set_option linter.unusedSimpArgs false
set_option maxRecDepth 100000
set_option maxHeartbeats 1600000
namespace Go.Proofs.YtmiijlecfiddmaaGreat
open Go.RowKit Go.Shelf
attribute [local go_sem] Oper.semAt_some
variable {w : World} {p : Nat} {N : Node} {Z : Nat -> Prop} {q : Ptrs} {s : Nat} {xs : List MLay} {K : Nat -> Prop}
theorem Turned.back {w w1 w2 : World} {p : Nat} {N' : Node} {Z : Nat -> Prop} {q q1 : Ptrs} {s1 : Nat} (hq : q1.l = q.l) (hk : qf Z w w1) (h : Turned w1 w2 p N' Z q1 s1) : Turned w w2 p N' Z q s1 := by
 obtain ⟨q',xs',K',h1,h2,h3⟩ := h;exact ⟨q',xs',K',h1,h2.trans hq,hk.trans h3⟩
theorem qgv (N : Node) (hn : N.n <= 3) (hid : N.id < N.n) (ro : Int) : Node.won ((N.count ro).yes 1) (N.count ro).n = decide (N.n = 1) := by
 have h1 : (N.count ro).yes 1 = 1 := by
  show ((List.range N.n).filter fun k => decide ((if k = N.id then (1 : Int) else 0) = 1)).length = 1;generalize N.n = n at *;generalize N.id = i at *
  obtain ⟨rfl,rfl⟩ | ⟨rfl,rfl⟩ | ⟨rfl,rfl⟩ | ⟨rfl,rfl⟩ | ⟨rfl,rfl⟩ | ⟨rfl,rfl⟩ : (n = 1 /\ i = 0) \/ (n = 2 /\ i = 0) \/ (n = 2 /\ i = 1) \/ (n = 3 /\ i = 0) \/ (n = 3 /\ i = 1) \/ (n = 3 /\ i = 2) := by omega
  all_goals rfl
 rw [h1];show decide (1 <= N.n /\ 1 <= N.n /\ N.n < 2 * 1) = _;exact decide_eq_decide.2 (by omega)
theorem qfm (h : RfAt w p N Z q s xs K) (hZ : ∀ b,Z b -> b < w.heap.size) (hms : N.ms.length < 999990) (hl : N.lg.l.length <= 400000) (hg : Good N.lg) (hn : N.n <= 3 /\ N.id < N.n) (hsd : N.sn.d.length <= 50000)
 (hidle : N.cx = 0 /\ N.rd = [] /\ N.nx = Node.zeroF /\ N.ma = Node.zeroF /\ N.ac = Node.zeroF) (hti : 0 <= N.ht /\ N.ht <= 2199023255552) (hadd : N.n = 1 -> runB N.lg.lastI N.lg.lastT [⟨N.lg.lastI + 1,N.ht + 1,[]⟩] = true) :
 Calls Tryz.prog 62 #[ptrV p] w fun e w' => e = .returned (.tuple #[]) /\ Turned w w' p N.run Z q s := by
 have c0 := h.c0;have c2 := h.c2;have c3 := h.c3;have f2 := h.fz 2;have f3 := h.fz 3;have y1 : IntKind.i64.wrap (N.ht + 1) = N.ht + 1 := IntWalk.i64_in _ (by omega);have HO := Lib.hid h.on;have H := hdq10 h hZ hms hl hg hn hsd hidle hti hadd;clear h hZ hms hl hg hn hsd hidle hti hadd
 go_enter Tryz.func62,Tryz.ntmps62
 go_wp2
 go_region
 obtain ⟨h,hZ,hms,hl,hg,hn,hsd,hidle,hti,hadd⟩ := H.out;have g0 := OnP.puq HO.out 2 (.int .i64 (N.ht + 1));have g1 := OnP.puq g0 3 (.int .i64 (N.id : Int));have o2 := g1.drew;clear c0 c2 c3 f2 f3 y1 HO;generalize ((w.setCell ⟨p,2,none⟩ (.int .i64 (N.ht + 1))).setCell ⟨p,3,none⟩ (.int .i64 (N.id : Int))).drew = W1 at *;have h1 : RfAt W1 p { N with ht := N.ht + 1,hv := N.id } Z q s xs K := h.turn (Nat.le_of_eq o2.size.symm) (fun b _ hb => o2.off b hb) o2.row rfl rfl rfl rfl rfl;have k1 : qf Z w W1 := o2.keeps h.away;have hS := qdw h1 hn.1 (show N.id < 3 by omega) 2;have HF := hdq2 h1 k1;clear h hZ hms hl hg hn hsd hidle hti hadd o2 h1 k1 g0 g1
 go_wp2_with fail
 refine hS.mono ?_;rintro e w2 ⟨rfl,h2,k2⟩;obtain ⟨h1,k1⟩ := HF.out;obtain ⟨h,hZ,hms,hl,hg,hn,hsd,hidle,hti,hadd⟩ := H.out;have hW := qde h2 hn.1;rw [show Node.won (Node.yes { N with ht := N.ht + 1,hv := (N.id : Int),ro := 2,ld := -1,wk := 0,sy := Node.put Node.zeroF N.id 1 } 1) N.n = decide (N.n = 1) from qgv { N with ht := N.ht + 1,hv := N.id } hn.1 hn.2 2] at hW;have HG := hdq2 h2 (k1.trans k2)
 by_cases h1n : N.n = 1
 · have HN := Lib.hid h1n;rw [decide_eq_true h1n] at hW;clear h hZ hms hl hg hn hsd hidle hti hadd h1 k1 h2 k2 HF hS h1n
   go_wp2_with fail
   refine hW.mono ?_;rintro e w3 ⟨rfl,m,rfl⟩;obtain ⟨h2,k2⟩ := HG.out;obtain ⟨h,hZ,hms,hl,hg,hn,hsd,hidle,hti,hadd⟩ := H.out;have hR := qee (h2.below (below_drewN blq m)) (fun b hb => Nat.lt_of_lt_of_le (hZ b hb) (k2.trans (keeps_below (below_drewN blq m) nlq)).size) hms hl hg ⟨hn.1,show N.id < 3 by omega⟩ hsd hidle (hadd HN.out);have hk := k2.trans (keeps_below (Z := Z) (below_drewN blq m) nlq);have HK := Lib.hid hk;clear h hZ hms hl hg hn hsd hidle hti hadd h2 k2 HG hW hk
   go_wp2_with fail
   refine hR.mono ?_;rintro e w4 ⟨rfl,hT⟩;have HT := Lib.hid hT;clear hT hR;go_wp2;refine bpq ?_;refine ⟨rfl,?_⟩
   have e : N.run = Node.rise (Node.count { N with ht := N.ht + 1,hv := N.id } 2) := by
    show (if N.n = 1 then _ else _) = _;rw [if_pos HN.out]
   rw [e];exact HT.out.back rfl HK.out
 · have HN := Lib.hid h1n;rw [decide_eq_false h1n] at hW;clear h hZ hms hl hg hn hsd hidle hti hadd h1 k1 h2 k2 HF hS h1n
   go_wp2_with fail
   refine hW.mono ?_;rintro e w3 ⟨rfl,m,rfl⟩;obtain ⟨h2,k2⟩ := HG.out;obtain ⟨h,hZ,hms,hl,hg,hn,hsd,hidle,hti,hadd⟩ := H.out;have c2 : (w2.drewN m).cell? ⟨p,2,none⟩ = some (.int .i64 (N.ht + 1)) := h2.c2
   have hR := fun j => qcD (h2.below (below_drewN (Below.refl w2.heap.size w2) j)) (fun b hb => Nat.lt_of_lt_of_le (hZ b hb) (k2.trans (keeps_below (below_drewN blq j) nlq)).size) hms (by show N.lg.l.length <= 1000000; omega) ⟨hn.1,show N.id < 3 by omega⟩ 3 (N.ht + 1) (by omega)
   have hk := fun j => k2.trans (keeps_below (Z := Z) (below_drewN (Below.refl w2.heap.size w2) j) nlq)
   have HK := Lib.hid hk;clear h hZ hms hl hg hn hsd hidle hti hadd h2 k2 HG hW hk
   go_wp2_with fail
   refine (hR _).mono ?_;rintro e w4 ⟨rfl,hT⟩;have HT := Lib.hid hT;clear hT hR;go_wp2;refine bpq ?_;refine ⟨rfl,?_⟩
   have e : N.run = Node.ask (Node.count { N with ht := N.ht + 1,hv := N.id } 2) 3 (N.ht + 1) := by
    show (if N.n = 1 then _ else _) = _;rw [if_neg HN.out]
    rfl
   rw [e];exact HT.out.back rfl (HK.out _)
theorem qh3 (h : RfAt w p N Z q s xs K) (hZ : ∀ b,Z b -> b < w.heap.size) (hms : N.ms.length < 999990) (hl : N.lg.l.length <= 400000) (hg : Good N.lg) (hn : N.n <= 3 /\ N.id < N.n) (hsd : N.sn.d.length <= 50000)
 (hidle : N.cx = 0 /\ N.rd = [] /\ N.nx = Node.zeroF /\ N.ma = Node.zeroF /\ N.ac = Node.zeroF) (hti : 0 <= N.ht /\ N.ht <= 2199023255552) (hadd : N.n = 1 -> runB N.lg.lastI N.lg.lastT [⟨N.lg.lastI + 1,N.ht + 1,[]⟩] = true) :
 Calls Tryz.prog 31 #[ptrV p] w fun e w' => e = .returned (.tuple #[]) /\ Turned w w' p (if N.n = 1 then (N.count 1).run else (N.count 1).ask 1 (N.ht + 1)) Z q s := by
 have y1 : IntKind.i64.wrap (N.ht + 1) = N.ht + 1 := IntWalk.i64_in _ (by omega);have hS := qdw h hn.1 (show N.id < 3 by omega) 1;have H := hdq10 h hZ hms hl hg hn hsd hidle hti hadd;clear h hZ hms hl hg hn hsd hidle hti hadd
 go_enter Tryz.func31,Tryz.ntmps31
 go_wp2_with fail
 refine hS.mono ?_;rintro e w2 ⟨rfl,h2,k2⟩;obtain ⟨h,hZ,hms,hl,hg,hn,hsd,hidle,hti,hadd⟩ := H.out;have hW := qde h2 hn.1;rw [show Node.won (Node.yes { N with ro := 1,ld := -1,wk := 0,sy := Node.put Node.zeroF N.id 1 } 1) N.n = decide (N.n = 1) from qgv N hn.1 hn.2 1] at hW;have HG := hdq2 h2 k2
 by_cases h1n : N.n = 1
 · have HN := Lib.hid h1n;rw [decide_eq_true h1n] at hW;clear h hZ hms hl hg hn hsd hidle hti hadd h2 k2 hS h1n
   go_wp2_with fail
   refine hW.mono ?_;rintro e w3 ⟨rfl,m,rfl⟩;obtain ⟨h2,k2⟩ := HG.out;obtain ⟨h,hZ,hms,hl,hg,hn,hsd,hidle,hti,hadd⟩ := H.out;have hk := k2.trans (keeps_below (Z := Z) (below_drewN (Below.refl w2.heap.size w2) m) nlq);have hR := qfm (h2.below (below_drewN blq m)) (fun b hb => Nat.lt_of_lt_of_le (hZ b hb) hk.size) hms hl hg hn hsd hidle hti hadd;have HK := Lib.hid hk;clear h hZ hms hl hg hn hsd hidle hti hadd h2 k2 HG hW hk
   go_wp2_with fail
   refine hR.mono ?_;rintro e w4 ⟨rfl,hT⟩;have HT := Lib.hid hT;clear hT hR;go_wp2;refine bpq ?_;refine ⟨rfl,?_⟩;exact HT.out.back rfl HK.out
 · have HN := Lib.hid h1n;rw [decide_eq_false h1n] at hW;clear h hZ hms hl hg hn hsd hidle hti hadd h2 k2 hS h1n
   go_wp2_with fail
   refine hW.mono ?_;rintro e w3 ⟨rfl,m,rfl⟩;obtain ⟨h2,k2⟩ := HG.out;obtain ⟨h,hZ,hms,hl,hg,hn,hsd,hidle,hti,hadd⟩ := H.out;have c2 : (w2.drewN m).cell? ⟨p,2,none⟩ = some (.int .i64 N.ht) := h2.c2
   have hR := fun j => qcD (h2.below (below_drewN (Below.refl w2.heap.size w2) j)) (fun b hb => Nat.lt_of_lt_of_le (hZ b hb) (k2.trans (keeps_below (below_drewN blq j) nlq)).size) hms (by show N.lg.l.length <= 1000000; omega) ⟨hn.1,show N.id < 3 by omega⟩ 1 (N.ht + 1) (by omega)
   have hk := fun j => k2.trans (keeps_below (Z := Z) (below_drewN (Below.refl w2.heap.size w2) j) nlq)
   have HK := Lib.hid hk;clear h hZ hms hl hg hn hsd hidle hti hadd h2 k2 HG hW hk
   go_wp2_with fail
   refine (hR _).mono ?_;rintro e w4 ⟨rfl,hT⟩;have HT := Lib.hid hT;clear hT hR;go_wp2;refine bpq ?_;refine ⟨rfl,?_⟩;exact HT.out.back rfl (HK.out _)
end Go.Proofs.YtmiijlecfiddmaaGreat
set_option linter.unusedVariables false
set_option linter.unusedSimpArgs false
set_option maxRecDepth 100000
set_option maxHeartbeats 1600000
namespace Go.Proofs.YtmiijlecfiddmaaGreat
open Go.RowKit Go.Shelf
attribute [local go_sem] Oper.semAt_some
theorem qfn {r : RL} (h : Good r) {t : Int} (h1 : 1 <= t) (h2 : t <= 1099511627776) (h3 : r.lastT <= t) (h4 : r.lastI < 1099511627776) (d : List UInt8) (hd : d.length <= 12000) : runB r.lastI r.lastT [⟨r.lastI + 1,t,d⟩] = true := by
 have h5 := h.lastI;have h6 := h.base;have h7 := h.lim;rw [qaL,qc6,(qy _ _ _).2 ⟨⟨show 1 <= r.lastI + 1 by omega,show r.lastI + 1 <= 1099511627776 by omega⟩,⟨h1,h2⟩,hd⟩,decide_eq_true (show r.lastT <= t from h3)];simp
theorem qk7 {N : Node} (h1 : N.ro = 3) (h2 : 2 <= N.wk + 1) : N.tick = ({ N with wk := 0 } : Node).sendAll := by
 unfold Node.tick;exact if_pos ⟨h1,h2⟩
theorem qk8 {N : Node} (h1 : N.ro = 3) (h2 : ¬ 2 <= N.wk + 1) : N.tick = { N with wk := N.wk + 1 } := by
 unfold Node.tick;exact (if_neg fun e => h2 e.2).trans (if_pos (.inl h1))
theorem qfo {N : Node} (h1 : N.ro ≠ 3) (h2 : N.wk + 1 < 6 + 3 * (N.id : Int) \/ 1099511627776 <= N.ht \/ 1099511627776 <= N.lg.lastI) : N.tick = { N with wk := N.wk + 1 } := by
 unfold Node.tick;exact (if_neg fun e => h1 e.1).trans (if_pos (.inr h2))
theorem qk9 {N : Node} (h1 : N.ro ≠ 3) (h2 : ¬ (N.wk + 1 < 6 + 3 * (N.id : Int) \/ 1099511627776 <= N.ht \/ 1099511627776 <= N.lg.lastI)) :
 N.tick = if N.n = 1 then (({ N with wk := N.wk + 1 } : Node).count 1).run else (({ N with wk := N.wk + 1 } : Node).count 1).ask 1 (N.ht + 1) := by
 unfold Node.tick;exact (if_neg fun e => h1 e.1).trans (if_neg fun e => e.elim h1 h2)
theorem qeg {w : World} {p : Nat} {N : Node} {Z : Nat -> Prop} {q : Ptrs} {s : Nat} {xs : List MLay} {K : Nat -> Prop} (h : RfAt w p N Z q s xs K) (hZ : ∀ b,Z b -> b < w.heap.size) (hms : N.ms.length < 999990) (hl : N.lg.l.length <= 400000) (hg : Good N.lg) (hn : N.n <= 3 /\ N.id < N.n) (hsd : N.sn.d.length <= 50000)
 (hidle : N.ro ≠ 3 -> N.cx = 0 /\ N.rd = [] /\ N.nx = Node.zeroF /\ N.ma = Node.zeroF /\ N.ac = Node.zeroF) (hti : 0 <= N.ht /\ N.ht <= 2199023255552) (hwk : 0 <= N.wk /\ N.wk <= 2199023255552) (hnx : ∀ j,-4611686018427387904 <= N.nx j /\ N.nx j <= 4611686018427387904) (hlt : N.lg.lastT <= N.ht) :
 Calls Tryz.prog 8 #[ptrV p] w fun e w' => e = .returned (.tuple #[]) /\ Turned w w' p N.tick Z q s := by
 have c0 := h.c0;have c10 := h.c10;have c12 := h.c12;have f12 := h.fz 12;have hp := h.lt;have y1 : IntKind.i64.wrap (N.wk + 1) = N.wk + 1 := IntWalk.i64_in _ (by omega);have o1 := h.on.put 12 (.int .i64 (N.wk + 1)) (C' := rfC { N with wk := N.wk + 1 } q) rfl;have h1 : RfAt (w.setCell ⟨p,12,none⟩ (.int .i64 (N.wk + 1))) p { N with wk := N.wk + 1 } Z q s xs K := h.turn (Nat.le_of_eq o1.size.symm) (fun b _ hb => o1.off b hb) o1.row rfl rfl rfl rfl rfl;have k1 : qf Z w (w.setCell ⟨p,12,none⟩ (.int .i64 (N.wk + 1))) := o1.keeps h.away
 by_cases hro : N.ro = 3
 · have e1 : (N.ro == 3) = true := beq_iff_eq.2 hro
   by_cases hw : 2 <= N.wk + 1
   · have e2 : decide (2 <= N.wk + 1) = true := decide_eq_true hw;have o2 := o1.put 12 (.int .i64 0) (C' := rfC { N with wk := 0 } q) rfl;have h2 : RfAt ((w.setCell ⟨p,12,none⟩ (.int .i64 (N.wk + 1))).setCell ⟨p,12,none⟩ (.int .i64 0)) p { N with wk := 0 } Z q s xs K := h.turn (Nat.le_of_eq o2.size.symm) (fun b _ hb => o2.off b hb) o2.row rfl rfl rfl rfl rfl;have k2 : qf Z w ((w.setCell ⟨p,12,none⟩ (.int .i64 (N.wk + 1))).setCell ⟨p,12,none⟩ (.int .i64 0)) := o2.keeps h.away;have hS := qax h2 (fun b hb => Nat.lt_of_lt_of_le (hZ b hb) k2.size) hms (by show N.lg.l.length <= 1000000; omega) hg hnx hsd ⟨hn.1,show N.id < 3 by omega⟩;have HK := hdq3 k2 hro hw;clear h hZ hms hl hg hn hsd hidle hti hwk hnx hlt h1 k1 o1 o2 h2 k2 hro hw
     go_enter Tryz.func8,Tryz.ntmps8
     go_wp2_with fail
     refine hS.mono ?_;rintro e w4 ⟨rfl,hT⟩;have HT := Lib.hid hT;clear hT hS;go_wp2;refine bpq ?_;refine ⟨rfl,?_⟩;obtain ⟨k2,hro,hw⟩ := HK.out;rw [qk7 hro hw];exact HT.out.back rfl k2
   · have e2 : decide (2 <= N.wk + 1) = false := decide_eq_false hw;have HK := hdq4 h1 k1 hro hw;clear h hZ hms hl hg hn hsd hidle hti hwk hnx hlt h1 k1 o1 hro hw
     go_enter Tryz.func8,Tryz.ntmps8
     go_wp2;refine bpq ?_;refine ⟨rfl,?_⟩;obtain ⟨h1,k1,hro,hw⟩ := HK.out;rw [qk8 hro (by omega)];exact ⟨q,xs,K,h1,rfl,k1⟩
 · have e1 : (N.ro == 3) = false := beq_eq_false_iff_ne.2 hro;have e1' : (N.ro = 3) = False := eq_false hro;have y2 : IntKind.i64.wrap (3 * (N.id : Int)) = 3 * (N.id : Int) := IntWalk.i64_in _ (by omega);have y3 : IntKind.i64.wrap (6 + 3 * (N.id : Int)) = 6 + 3 * (N.id : Int) := IntWalk.i64_in _ (by omega)
   by_cases hw : 6 + 3 * (N.id : Int) <= N.wk + 1
   · have e2 : decide (6 + 3 * (N.id : Int) <= N.wk + 1) = true := decide_eq_true hw
     have hL := fun X (hX : Below (w.setCell ⟨p,12,none⟩ (.int .i64 (N.wk + 1))).heap.size (w.setCell ⟨p,12,none⟩ (.int .i64 (N.wk + 1))) X) => qfl (h1.below hX) (show N.lg.l.length <= 1000000 by omega)
     generalize hbb : (decide (N.ht < 1099511627776) && decide (N.lg.lastI < 1099511627776)) = bb at hL;have HBB := Lib.hid hbb;clear hbb;have H := Lib.hid (And.intro h (And.intro hZ (And.intro hms (And.intro hl (And.intro hg (And.intro hn (And.intro hsd (And.intro hidle (And.intro hti (And.intro hwk (And.intro hnx (And.intro hlt (And.intro h1 (And.intro k1 (And.intro hro hw)))))))))))))));have hp1 : p < (w.setCell ⟨p,12,none⟩ (.int .i64 (N.wk + 1))).heap.size := h1.lt;have d0 := h1.c0;have d12 := h1.c12;clear h hZ hms hl hg hn hsd hidle hti hwk hnx hlt h1 k1 hro hw
     go_enter Tryz.func8,Tryz.ntmps8
     go_wp2_with fail
     generalize w.setCell ⟨p,12,none⟩ (.int .i64 (N.wk + 1)) = w1 at *;refine wp_region_held_drew (S := (fun w' => w'.cell? ⟨p,0,none⟩ = some (.int .i64 (N.id : Int)) /\ w'.cell? ⟨p,12,none⟩ = some (.int .i64 (N.wk + 1)))) (by kernel_rfl) ⟨d0,d12⟩ (fun hHeld => ?_);refine lsq 16 ?_;refine tkq 0 ?_;refine tkq 1 ?_;refine tkq 2 ?_;refine tkq 3 ?_;refine tkq 4 ?_;refine tkq 5 ?_;refine tkq 6 ?_;refine tkq 7 ?_;refine tkq 8 ?_;refine tkq 9 ?_;refine tkq 10 ?_;refine tkq 11 ?_;refine tkq 12 ?_;refine rdq1 13 fun KK hK => ?_;go_simp;refine (hL _ (blq.drew)).mono ?_;rintro e w3 ⟨rfl,hb3⟩;have HB := Lib.hid hb3;refine hK.out _ _ ⟨(hb3.cell (p := ⟨p,0,none⟩) hp1).trans hHeld.1,(hb3.cell (p := ⟨p,12,none⟩) hp1).trans hHeld.2⟩ ?_;clear hK KK hHeld;intro hHeld
     try simp only [lpq]
     refine tkq 14 ?_;refine tkq 15 ?_;refine dnq ?_;clear hHeld hL
     cases bb with
     | false =>
       go_wp2;refine bpq ?_;refine ⟨rfl,?_⟩;obtain ⟨h,hZ,hms,hl,hg,hn,hsd,hidle,hti,hwk,hnx,hlt,h1,k1,hro,hw⟩ := H.out;have hb3 := blq.drew.trans HB.out
       have hor : 1099511627776 <= N.ht \/ 1099511627776 <= N.lg.lastI := by
        by_cases a : N.ht < 1099511627776
        · by_cases b : N.lg.lastI < 1099511627776
          · have := HBB.out;rw [decide_eq_true a,decide_eq_true b] at this;cases this
          · exact .inr (by omega)
        · exact .inl (by omega)
       rw [qfo hro (.inr hor)];exact ⟨q,xs,K,h1.below hb3,rfl,k1.trans (keeps_below hb3 nlq)⟩
     | true =>
       obtain ⟨h,hZ,hms,hl,hg,hn,hsd,hidle,hti,hwk,hnx,hlt,h1,k1,hro,hw⟩ := H.out;have hb3 := blq.drew.trans HB.out
       have hand : N.ht < 1099511627776 /\ N.lg.lastI < 1099511627776 := by
        have := HBB.out
        simpa using this
       have k3 : qf Z w w3 := k1.trans (keeps_below hb3 nlq);have hP := qh3 (h1.below hb3) (fun b hb => Nat.lt_of_lt_of_le (hZ b hb) k3.size) hms hl hg hn hsd (hidle hro) hti (fun _ => qfn hg (show 1 <= N.ht + 1 by omega) (show N.ht + 1 <= 1099511627776 by omega) (show N.lg.lastT <= N.ht + 1 by omega) hand.2 [] (by simp));have HK := hdq4 k3 hro hw hand;clear h hZ hms hl hg hn hsd hidle hti hwk hnx hlt h1 k1 hro hw hb3 hand k3 HB H HBB
       go_wp2_with fail
       refine hP.mono ?_;rintro e w4 ⟨rfl,hT⟩;have HT := Lib.hid hT;clear hT hP;go_wp2;refine bpq ?_;refine ⟨rfl,?_⟩;obtain ⟨k3,hro,hw,hand⟩ := HK.out;rw [qk9 hro (by omega)];exact HT.out.back rfl k3
   · have e2 : decide (6 + 3 * (N.id : Int) <= N.wk + 1) = false := decide_eq_false hw;have HK := hdq4 h1 k1 hro hw;clear h hZ hms hl hg hn hsd hidle hti hwk hnx hlt h1 k1 o1 hro hw
     go_enter Tryz.func8,Tryz.ntmps8
     go_wp2
     go_quiet (fail)
     go_wp2;refine bpq ?_;refine ⟨rfl,?_⟩;obtain ⟨h1,k1,hro,hw⟩ := HK.out;rw [qfo hro (.inl (by omega))];exact ⟨q,xs,K,h1.below (below_drewN blq _),rfl,k1.trans (keeps_below (below_drewN blq _) nlq)⟩
end Go.Proofs.YtmiijlecfiddmaaGreat
set_option linter.unusedVariables false
set_option linter.unusedSimpArgs false
set_option maxRecDepth 100000
set_option maxHeartbeats 1600000
namespace Go.Proofs.YtmiijlecfiddmaaGreat
open Go.RowKit Go.Shelf
attribute [local go_sem] Oper.semAt_some
variable {w : World} {p : Nat} {N : Node} {Z : Nat -> Prop} {q : Ptrs} {s : Nat} {xs : List MLay} {K : Nat -> Prop}
theorem qfp {α : Type} (f : α -> Bool) : ∀ (l : List α) (k : Nat),(∀ y ∈ l.take k,f y = true) -> (∀ y r,l.drop k = y :: r -> f y = false) -> l.takeWhile f = l.take k /\ l.dropWhile f = l.drop k
 | [],k,_,_ => by simp
 | x :: l,0,_,h2 => by
   have := h2 x l rfl
   simp [List.takeWhile,List.dropWhile,this]
 | x :: l,k + 1,h1,h2 => by
   have hx := h1 x (by simp);have := qfp f l k (fun y hy => h1 y (by simp [hy])) (fun y r e => h2 y r (by simpa using e))
   simp [List.takeWhile,List.dropWhile,hx,this]
section
variable {w w' : World} {p : Nat} {N : Node} {Z : Nat → Prop} {q : Ptrs} {s : Nat} {xs : List MLay} {K : Nat → Prop}
theorem RfAt.cast {N' : Node} (h : RfAt w p N Z q s xs K) (e : N' = N) : RfAt w p N' Z q s xs K := by rw [e]; exact h
theorem RfAt.tell (h : RfAt w p N Z q s xs K) (hZ : ∀ b,Z b -> b < w.heap.size) {X : World} (hX : Below w.heap.size w X) {A' : Option Addr} {c' : Nat} {y : Int × Int} (hsp : Sp 96 2 w' A' (N.td.length + 1) c' (rrow N.td ++ rrow [y])) (hA : ∀ b,blk A' b -> blk q.T b \/ X.heap.size <= b) (hg : Grew X w' q.T) :
 RfAt (w'.setCell ⟨p,28,none⟩ (.slice A' (N.td.length + 1) c')) p { N with td := N.td ++ [y] } Z { q with T := A',cT := c' } s xs K /\ qf Z w (w'.setCell ⟨p,28,none⟩ (.slice A' (N.td.length + 1) c')) := by
 have hs1 := hX.size;have hs2 := hg.size;have hp := h.lt
 have hnm : ¬ blk q.T p := fun e => (h.tz p e).2.1 rfl
 have hrow : w'.heap[p]? = some (.cells (rfC N q) 90) := (hg.block p (by omega) hnm).trans ((hX.block p hp).trans h.row);have hset := setCell_at w' ⟨p,28,none⟩ (.slice A' (N.td.length + 1) c') _ _ _ rfl hrow;have hoff : ∀ b,b ≠ p -> (w'.setCell ⟨p,28,none⟩ (.slice A' (N.td.length + 1) c')).heap[b]? = w'.heap[b]? := fun b hb => Below.heap_setCell _ _ _ _ (by exact hb);have hkk : ∀ b,b < w.heap.size -> b ≠ p -> ¬ blk q.T b -> (w'.setCell ⟨p,28,none⟩ (.slice A' (N.td.length + 1) c')).heap[b]? = w.heap[b]? := fun b h1 h2 h3 => (hoff b h2).trans ((hg.block b (by omega) h3).trans (hX.block b h1))
 have hsz : w.heap.size <= (w'.setCell ⟨p,28,none⟩ (.slice A' (N.td.length + 1) c')).heap.size := by simp; omega
 have hnew : ∀ b,blk A' b -> blk q.T b \/ w.heap.size <= b := fun b hb => (hA b hb).imp_right fun e => by omega
 have hA' : ∀ b,blk A' b -> ¬ Z b /\ b ≠ p /\ ¬ K b /\ ¬ blk q.R b /\ ¬ blk q.M b := fun b hb => by
  rcases hnew b hb with hb | hb
  · exact h.tz b hb
  · exact ⟨fun e => by have := hZ b e; omega,by omega,fun e => by have := (h.kz b e).2.2; omega,fun e => by have := h.rds.lt e; omega,fun e => by have := h.mss.lt e; omega⟩
 constructor
 · exact {
    row := by
     have e : N.td.length + 1 = (N.td ++ [y]).length := by simp
     rw [hset,e]
     rfl
    away := h.away
    kz := fun b hb => ⟨(h.kz b hb).1,(h.kz b hb).2.1,Nat.lt_of_lt_of_le (h.kz b hb).2.2 hsz⟩
    rz := h.rz
    mz := h.mz
    tz := hA'
    log := by
     refine (h.log.grow.keep (w' := w'.setCell ⟨p,28,none⟩ (.slice A' (N.td.length + 1) c')) hsz fun b hb hz => hkk b hb (fun e => hz (.inl (.inr (.inl e)))) fun e => hz (.inl (.inr (.inr (.inr (.inr (.inr e))))))).mono fun b hb => ?_;rcases hb with hb | hb | hb | hb | hb | hb
     · exact .inl (.inl hb)
     · exact .inl (.inr (.inl hb))
     · exact .inl (.inr (.inr (.inl hb)))
     · exact .inl (.inr (.inr (.inr (.inl hb))))
     · exact .inl (.inr (.inr (.inr (.inr (.inl hb)))))
     · rcases hnew b hb with hb | hb
       · exact .inl (.inr (.inr (.inr (.inr (.inr hb)))))
       · exact .inr hb
    rds := h.rds.keep fun b hb => hkk b (h.rds.lt hb) (h.rz b hb).2.1 fun e => (h.tz b e).2.2.2.1 hb
    mss := h.mss.keep fun b hb => hkk b (h.mss.lt hb) (h.mz b hb).2.1 fun e => (h.tz b e).2.2.2.2 hb
    tds := by
     rw [show ({ N with td := N.td ++ [y] } : Node).td.length = N.td.length + 1 by simp,qc0]
     exact hsp.keep fun b hb => hoff b (hA' b hb).2.1
    map := h.map
    msg := fun y hy => (h.msg y hy).keep hsz fun b hb hkb => hkk b hb (h.kz b hkb.1).2.1 fun e => (h.tz b e).2.2.1 hkb.1
    snp := h.snp.keep hsz fun h0 g off e hg' => hkk g hg' (h.kz g (h.snk h0 g off e)).2.1 fun e' => (h.tz g e').2.2.1 (h.snk h0 g off e)
    snk := h.snk }
 · have k1 := keeps_below (Z := Z) hX nlq;have k2 := hg.keeps (Z := Z) fun b hb => (h.tz b hb).1;exact (k1.trans k2).trans (qk _ ⟨p,28,none⟩ _ h.away)
theorem RfAt.shift (h : RfAt w p N Z q s xs K) {y : Int × Int} {r : List (Int × Int)} (hr : N.rd = y :: r) :
 RfAt (w.setCell ⟨p,26,none⟩ (.slice (qab 2 q.R q.cR 1) r.length (q.cR - 1))) p { N with rd := r } Z { q with R := qab 2 q.R q.cR 1,cR := q.cR - 1 } s xs K /\ qf Z w (w.setCell ⟨p,26,none⟩ (.slice (qab 2 q.R q.cR 1) r.length (q.cR - 1))) := by
 have hset := setCell_at w ⟨p,26,none⟩ (.slice (qab 2 q.R q.cR 1) r.length (q.cR - 1)) _ _ _ rfl h.row;have hoff : ∀ b,b ≠ p -> (w.setCell ⟨p,26,none⟩ (.slice (qab 2 q.R q.cR 1) r.length (q.cR - 1))).heap[b]? = w.heap[b]? := fun b hb => Below.heap_setCell _ _ _ _ (by exact hb)
 have hsz : w.heap.size <= (w.setCell ⟨p,26,none⟩ (.slice (qab 2 q.R q.cR 1) r.length (q.cR - 1))).heap.size := by simp
 have hb : ∀ b,blk (qab 2 q.R q.cR 1) b ↔ blk q.R b := fun b => qhF b h.rds.spotless
 have hd := h.rds.drop (k := 1) (by rw [hr]; simp)
 constructor
 · exact {
    row := hset
    away := h.away
    kz := fun b hb => ⟨(h.kz b hb).1,(h.kz b hb).2.1,Nat.lt_of_lt_of_le (h.kz b hb).2.2 hsz⟩
    rz := fun b e => h.rz b ((hb b).1 e)
    mz := fun b e => ⟨(h.mz b e).1,(h.mz b e).2.1,(h.mz b e).2.2.1,fun e' => (h.mz b e).2.2.2 ((hb b).1 e')⟩
    tz := fun b e => ⟨(h.tz b e).1,(h.tz b e).2.1,(h.tz b e).2.2.1,fun e' => (h.tz b e).2.2.2.1 ((hb b).1 e'),(h.tz b e).2.2.2.2⟩
    log := (h.log.keep hsz fun b hb hz => hoff b fun e => hz (.inr (.inl e))).mono fun b e => by
     rcases e with e | e | e | e | e
     · exact .inl e
     · exact .inr (.inl e)
     · exact .inr (.inr (.inl e))
     · exact .inr (.inr (.inr (.inl ((hb b).1 e))))
     · exact .inr (.inr (.inr (.inr e)))
    rds := by
     have e1 : N.rd.length - 1 = r.length := by rw [hr]; simp
     have e2 : (rrow N.rd).drop (1 * 2) = rrow r := by rw [hr]; rfl
     rw [e1,e2] at hd
     exact hd.keep fun b e => hoff b (h.rz b ((hb b).1 e)).2.1
    tds := h.tds.keep fun b hb => hoff b (h.tz b hb).2.1
    mss := h.mss.keep fun b hb => hoff b (h.mz b hb).2.1
    map := h.map
    msg := fun x hx => (h.msg x hx).keep hsz fun b hb hkb => hoff b (h.kz b hkb.1).2.1
    snp := h.snp.keep hsz fun h0 g off e hg => hoff g (h.kz g (h.snk h0 g off e)).2.1
    snk := h.snk }
 · exact qk _ ⟨p,26,none⟩ _ h.away
end
def lenAt (w : World) (p : Nat) : Nat := match w.cell? ⟨p,26,none⟩ with | some (.slice _ n _) => n | _ => 0
theorem RfAt.lenAt (h : RfAt w p N Z q s xs K) : lenAt w p = N.rd.length := by
 unfold Go.Proofs.YtmiijlecfiddmaaGreat.lenAt;rw [h.c26]
def qT (N : Node) (k : Nat) : Node := { N with td := N.td ++ N.rd.take k,rd := N.rd.drop k }
def qcS (w wr : World) (p : Nat) (N : Node) (Z : Nat -> Prop) (q : Ptrs) (s : Nat) (xs : List MLay) (K : Nat -> Prop) (k : Nat) : Prop :=
 k <= N.rd.length /\ (∀ y ∈ N.rd.take k,N.known y.1 = true) /\ ∃ q',RfAt wr p (qT N k) Z q' s xs K /\ q'.l = q.l /\ qf Z w wr
theorem qg0 {N : Node} {k : Nat} {y : Int × Int} {r : List (Int × Int)} (h : N.rd.drop k = y :: r) : qT N (k + 1) = { qT N k with td := (qT N k).td ++ [y],rd := r } /\ k + 1 <= N.rd.length /\ N.rd.take (k + 1) = N.rd.take k ++ [y] := by
 have hk : k < N.rd.length := by
  apply Nat.lt_of_not_le
  intro e;rw [List.drop_eq_nil_of_le e] at h;cases h
 have e1 := List.drop_eq_getElem_cons hk;rw [h] at e1;injection e1 with e1 e2
 have e3 : N.rd.take (k + 1) = N.rd.take k ++ [y] := by rw [List.take_add_one,List.getElem?_eq_getElem hk,<- e1]; rfl
 refine ⟨?_,hk,e3⟩;unfold qT;rw [e3,<- e2,List.append_assoc]
theorem qcS.ends {wr : World} {k : Nat} (h : qcS w wr p N Z q s xs K k) (he : ∀ y r,N.rd.drop k = y :: r -> N.known y.1 = false) : ∃ q',RfAt wr p N.tell Z q' s xs K /\ q'.l = q.l /\ qf Z w wr := by
 obtain ⟨h1,h2,q',h3,h4,h5⟩ := h;obtain ⟨e1,e2⟩ := qfp (fun x : Int × Int => N.known x.1) N.rd k h2 he;refine ⟨q',?_,h4,h5⟩;unfold Node.tell;rw [e1,e2];exact h3
theorem qbL (h : RfAt w p N Z q s xs K) (hZ : ∀ b,Z b -> b < w.heap.size) (hn : N.n <= 3 /\ N.id < 3) (hlen : N.td.length + N.rd.length <= 900000) :
 Calls Tryz.prog 36 #[ptrV p] w fun e w' => e = .returned (.tuple #[]) /\ ∃ q',RfAt w' p N.tell Z q' s xs K /\ q'.l = q.l /\ qf Z w w' := by
 have hi : qcS w w p N Z q s xs K 0 := ⟨Nat.zero_le _,fun y hy => by simp at hy,q,by unfold qT; simpa using h,rfl,qf.refl _ _⟩;have HI := Lib.hid hi;clear hi h
 go_enter Tryz.func36,Tryz.ntmps36
 go_wp2
 go_loopw [] (fun wr => ∃ k : Nat,qcS w wr p N Z q s xs K k) (fun wr => lenAt wr p)
 case atStart => exact ⟨0,HI.out⟩
 case round =>
  obtain ⟨k,hT⟩ := hrel;have HT := Lib.hid hT;obtain ⟨hk,hkn,q',h1,hq,hks⟩ := hT;have c26 := h1.c26;have hlast := h1.lenAt;rcases hd : N.rd.drop k with _ | ⟨y,r⟩
  · have e0 : (qT N k).rd = [] := hd;rw [e0] at c26;have HE := Lib.hid hd;clear hd h1 hkn hq hks hk e0 hlast;go_wp2;refine bodyPost_end (results_none rfl _ _ _) rfl ?_;exact ⟨rfl,HT.out.ends fun y r e => by rw [HE.out] at e; cases e⟩
  · have e0 : (qT N k).rd = y :: r := hd;have hR := h1.rds;rw [e0] at c26 hR;obtain ⟨g,off,hqR,hg,hcells,hfz⟩ := hR.at_ (by omega) 0 (by simp)
    have b0 : wr.cell? ⟨g,off,none⟩ = some (.int .i64 y.1) := by have := hcells 0 (by omega) (.int .i64 y.1) rfl; simpa using this
    have b1 : wr.cell? ⟨g,off + 1,none⟩ = some (.int .i64 y.2) := by have := hcells 1 (by omega) (.int .i64 y.2) rfl; simpa using this
    have hF := qeF h1 hn y.1;rw [hqR] at c26;have hkw : N.known y.1 = (qT N k).known y.1 := rfl;rw [<- hkw] at hF;obtain ⟨bb,hbb⟩ : ∃ b,N.known y.1 = b := ⟨_,rfl⟩;rw [hbb] at hF;have HB := hdq10 hbb hd hlast hqR h1 hq hks hg hkn hk;clear hbb hd hlast h1 hkn hq hks hk e0 hkw hR hcells hqR
    go_wp2_with fail
    refine hF.mono ?_;rintro e w2 ⟨rfl,hb2⟩
    cases bb with
    | false =>
      have HB2 := Lib.hid hb2;clear hb2 hF hfz b0 b1;go_wp2;refine bodyPost_end (results_none rfl _ _ _) rfl ?_;obtain ⟨hkn,hd,h0⟩ := HB.out
      obtain ⟨q1,h1,h2,h3⟩ := HT.out.ends fun y' r' e => by rw [hd] at e; cases e; exact hkn
      exact ⟨rfl,q1,h1.below HB2.out,h2,h3.trans (keeps_below HB2.out nlq)⟩
    | true =>
      obtain ⟨hkn,hd,hlast,hqR,h1,hq,hks,hg,hkn',hk⟩ := HB.out;have h2 := h1.below hb2;have hks2 : qf Z w w2 := hks.trans (keeps_below hb2 nlq);have c26' : w2.cell? ⟨p,26,none⟩ = some (.slice (some ⟨g,off,none⟩) (r.length + 1) q'.cR) := (hb2.cell (p := ⟨p,26,none⟩) h1.lt).trans c26;have c28 := h2.c28;have d0 : w2.cell? ⟨g,off,none⟩ = some (.int .i64 y.1) := (hb2.cell (p := ⟨g,off,none⟩) hg).trans b0;have d1 : w2.cell? ⟨g,off + 1,none⟩ = some (.int .i64 y.2) := (hb2.cell (p := ⟨g,off + 1,none⟩) hg).trans b1;have hg2 : g < w2.heap.size := Nat.lt_of_lt_of_le hg hb2.size;have hp2 := h2.lt
      have hZ2 : ∀ b,Z b -> b < w2.heap.size := fun b hb => Nat.lt_of_lt_of_le (hZ b hb) hks2.size
      have hnt : ¬ blk q'.T p := fun e => (h2.tz p e).2.1 rfl
      have HS : ∀ X,Below w2.heap.size w2 X -> Sp 96 2 X q'.T (qT N k).td.length q'.cT (rrow (qT N k).td) := fun X hX => h2.tds.keep fun b hb => hX.block b (h2.tds.lt hb);have HR : ∀ X,Below w2.heap.size w2 X -> X.heap[p]? = some (.cells (rfC (qT N k) q') 90) := fun X hX => (hX.block p hp2).trans h2.row
      have hlen' : (qT N k).td.length + 1 <= 1000000 := by
       show (N.td ++ N.rd.take k).length + 1 <= 1000000;rw [List.length_append,List.length_take];omega
      generalize htd : (qT N k).td = td at *;have H2 := hdq4 h2 hks2 hZ2 htd;have HBB := HB;clear htd h2 hks2 hZ2 hkn hd hlast h1 hq hks hkn' hk HB b0 b1 c26 hF hfz hqR hb2 HT HI
      go_upto_region 1 with fail
      go_region_law (refine ql qcy _ (by rfl) _ _ (by rfl) q'.T td.length q'.cT (rrow td) (by rfl) (HS _ bbr) (some ⟨w2.heap.size,0,none⟩) 1 1 (rrow [y]) (by rfl) (fun e => by cases e) (by rfl) (qe7 _) (fun b e => by cases e; exact cells_lit (heap_alloc_new _ _)) hlen' ?_
                     intro A' c' w4 hsp hA hgr;have hr4 := (hgr.block p (by simp; omega) hnt).trans (HR _ bbr)
                     have e28 : w4.cell? ⟨p,28,none⟩ = some (.slice q'.T td.length q'.cT) := by rw [<- H2.out.2.2.2]; exact qb hr4 28 _ rfl
                     have e26 : w4.cell? ⟨p,26,none⟩ = some (.slice q'.R (qT N k).rd.length q'.cR) := qb hr4 26 _ rfl
                     have f28 := qg hr4 28)
      all_goals
       obtain ⟨h2,hks2,hZ2,htd⟩ := H2.out;rw [<- htd] at hsp;obtain ⟨k1,k2⟩ := h2.tell hZ2 bbr hsp hA hgr;rw [htd] at k1 k2;have hsz2 := k2.size;obtain ⟨hkn,hd,hlast,hqR,h1,hq,hks,hg0,hkn',hk⟩ := HBB.out;have hrd : (qT N k).rd = y :: r := hd;have x26 := k1.c26;rw [show (({ qT N k with td := td ++ [y] } : Node).rd) = y :: r from hrd] at x26
       have x26' : (w4.setCell ⟨p,28,none⟩ (.slice A' (td.length + 1) c')).cell? ⟨p,26,none⟩ = some (.slice (some ⟨g,off,none⟩) (r.length + 1) q'.cR) := by rw [<- hqR]; exact x26
       have y26 := k1.fz 26
       have hcap : r.length + 1 <= q'.cR := by have := k1.rds.2.1; rw [show (({ qT N k with td := td ++ [y] } : Node).rd) = y :: r from hrd] at this; exact this
       have hcut : ∀ W : World,(Instr.slice 42 (.slice (some ⟨g,off,none⟩) (r.length + 1) q'.cR) (some (.int .i64 1)) none none).run Tryz.prog W = .ok (.slice (qab 2 (some ⟨g,off,none⟩) q'.cR 1) r.length (q'.cR - 1)) W := fun W => qdo qcy (k := 1) (n := r.length + 1) (by omega) hcap W;obtain ⟨m1,m2⟩ := k1.shift (y := y) (r := r) hrd;rw [hqR] at m1 m2;have HF := hdq8 m1 (hks2.trans (k2.trans m2)) hd hq hlast hkn hkn' htd;clear h2 hks2 hZ2 htd hsp hA hgr k1 k2 hkn hd hlast hqR h1 hq hks hg0 hkn' hk hrd x26 hcap m1 m2 hr4 e28 e26 f28 HS HR;go_wp2
       go_roundw
       case rel =>
        obtain ⟨m1,m2,hd,hq,hlast,hkn,hkn',htd⟩ := HF.out;obtain ⟨n1,n2,n3⟩ := qg0 hd;rw [htd] at n1;refine ⟨k + 1,n2,?_,_,m1.cast n1,hq,m2⟩;rw [n3];intro z hz;rcases List.mem_append.1 hz with hz | hz
        · exact hkn' z hz
        · rw [List.mem_singleton.1 hz]; exact hkn
       case measure =>
        obtain ⟨m1,m2,hd,hq,hlast,hkn,hkn',htd⟩ := HF.out;have e1 := m1.lenAt
        have e2 : (qT N k).rd.length = r.length + 1 := by show (N.rd.drop k).length = _; rw [hd]; rfl
        rw [e1,hlast,e2];exact Nat.lt_succ_self _
end Go.Proofs.YtmiijlecfiddmaaGreat
set_option linter.unusedVariables false
set_option linter.unusedSimpArgs false
set_option maxRecDepth 100000
set_option maxHeartbeats 1600000
namespace Go.Proofs.YtmiijlecfiddmaaGreat
open Go.RowKit Go.Shelf
attribute [local go_sem] Oper.semAt_some
variable {w : World} {p : Nat} {N : Node} {Z : Nat -> Prop} {q : Ptrs} {s : Nat} {xs : List MLay} {K : Nat -> Prop}
theorem qaK (h : RfAt w p N Z q s xs K) (hZ : ∀ b,Z b -> b < w.heap.size) (hm : N.ms.length < 999990) (m : Msg) (he : m.es = []) (hd : m.s.d = []) (tt : Int) (m' : Msg) (hm' : m' = { m with o := tt,t := if m.t = 0 then N.ht else m.t }) :
 Calls Tryz.prog 76 #[ptrV p, .int .i64 tt,msgV m none 0 none 0] w fun e w' => e = .returned (.tuple #[]) /\ Turned w w' p (N.say m') Z q s := by
 refine (qav h hZ (by omega) tt ⟨m,none,0,none,0⟩ ⟨by rw [he]; exact qY _ _,Nat.zero_le _,by rw [hd]; exact Lies.nil _,fun h0 => absurd h0 (by rw [hd]; simp)⟩).mono ?_;rintro e w' ⟨rfl,hT⟩;refine ⟨rfl,hT.turned blq ?_⟩;rw [hm']
 rfl
def corr (N : Node) (m : Msg) : Node :=
 if m.k = 5 \/ m.k = 7 then N.say (Node.msg 6 m.f.toNat N.ht) else if m.k = 1 \/ m.k = 3 then N.say (Node.msg (m.k + 1) m.f.toNat N.ht) else N
theorem qfq (h : RfAt w p N Z q s xs K) (hZ : ∀ b,Z b -> b < w.heap.size) (hm : N.ms.length < 999990) (m : Msg) (A : Option Addr) (cA : Nat) (E : Option Addr) (cE : Nat) (hk : 1 <= m.k /\ m.k <= 7) (hf : 0 <= m.f) :
 Calls Tryz.prog 42 #[ptrV p,msgV m A cA E cE] w fun e w' => e = .returned (.tuple #[]) /\ Turned w w' p (corr N m) Z q s := by
 have hS : ∀ W,Below w.heap.size w W -> ∀ k : Int,Calls Tryz.prog 76 #[ptrV p, .int .i64 m.f,msgV ⟨k,0,0,0,0,0,0,0,false,[],Node.noEnt⟩ none 0 none 0] W fun e w' => e = .returned (.tuple #[]) /\ Turned W w' p (N.say (Node.msg k m.f.toNat N.ht)) Z q s := fun W hW k =>
  qaK (h.below hW) (fun b hb => Nat.lt_of_lt_of_le (hZ b hb) hW.size) hm _ rfl rfl m.f _ (by
   unfold Node.msg;rw [Int.toNat_of_nonneg hf]
   rfl)
 have hid : Turned w w p N Z q s := ⟨q,xs,K,h,rfl,qf.refl _ _⟩;have HI := hdq2 h hid;clear h hZ hid hm;obtain ⟨mk,mf,mo,mt,mi,ml,mc,mx,mb,mes,msn⟩ := m;dsimp only at *
 obtain rfl | rfl | rfl | rfl | rfl | rfl | rfl : mk = 1 \/ mk = 2 \/ mk = 3 \/ mk = 4 \/ mk = 5 \/ mk = 6 \/ mk = 7 := by omega
 · have hs := fun W hW => hS W hW 2
   clear hS
   go_enter Tryz.func42,Tryz.ntmps42
   go_wp2_with fail
   refine (hs _ (blq.alloc nlq _)).mono ?_;rintro e w1 ⟨rfl,hT⟩;have HT := Lib.hid hT;clear hT hs;go_wp2;refine bpq ?_;exact ⟨rfl,HT.out.back rfl (keeps_below (blq.alloc nlq _) nlq)⟩
 · clear hS
   go_enter Tryz.func42,Tryz.ntmps42
   go_wp2;refine bpq ?_;exact ⟨rfl,q,xs,K,HI.out.1.below (blq.alloc nlq _),rfl,keeps_below (blq.alloc nlq _) nlq⟩
 · have hs := fun W hW => hS W hW 4
   clear hS
   go_enter Tryz.func42,Tryz.ntmps42
   go_wp2_with fail
   refine (hs _ (blq.alloc nlq _)).mono ?_;rintro e w1 ⟨rfl,hT⟩;have HT := Lib.hid hT;clear hT hs;go_wp2;refine bpq ?_;exact ⟨rfl,HT.out.back rfl (keeps_below (blq.alloc nlq _) nlq)⟩
 · clear hS
   go_enter Tryz.func42,Tryz.ntmps42
   go_wp2;refine bpq ?_;exact ⟨rfl,q,xs,K,HI.out.1.below (blq.alloc nlq _),rfl,keeps_below (blq.alloc nlq _) nlq⟩
 · have hs := fun W hW => hS W hW 6
   clear hS
   go_enter Tryz.func42,Tryz.ntmps42
   go_wp2_with fail
   refine (hs _ (blq.alloc nlq _)).mono ?_;rintro e w1 ⟨rfl,hT⟩;have HT := Lib.hid hT;clear hT hs;go_wp2;refine bpq ?_;exact ⟨rfl,HT.out.back rfl (keeps_below (blq.alloc nlq _) nlq)⟩
 · clear hS
   go_enter Tryz.func42,Tryz.ntmps42
   go_wp2;refine bpq ?_;exact ⟨rfl,q,xs,K,HI.out.1.below (blq.alloc nlq _),rfl,keeps_below (blq.alloc nlq _) nlq⟩
 · have hs := fun W hW => hS W hW 6
   clear hS
   go_enter Tryz.func42,Tryz.ntmps42
   go_wp2_with fail
   refine (hs _ (blq.alloc nlq _)).mono ?_;rintro e w1 ⟨rfl,hT⟩;have HT := Lib.hid hT;clear hT hs;go_wp2;refine bpq ?_;exact ⟨rfl,HT.out.back rfl (keeps_below (blq.alloc nlq _) nlq)⟩
end Go.Proofs.YtmiijlecfiddmaaGreat
