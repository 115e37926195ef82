/- The program's node hears that time goes by. -/
import Derived.Test.YtmiijlecfiddmaaNNM20
set_option linter.unusedVariables false
set_option linter.unusedSimpArgs false
set_option maxRecDepth 100000
set_option maxHeartbeats 1600000
namespace Go.Proofs.Ytmiijlecfiddmaa
open Go.RowKit Go.Shelf
attribute [local go_sem] Oper.semAt_some
theorem qdl {r : RL} (h : Good r) {t : Int} (h1 : 1 <= t) (h2 : t <= 1099511627776) (h3 : r.lastT <= t) (h4 : r.lastI < 1099511627776) (d : List UInt8) (hd : d.length <= 12000) : runB r.lastI r.lastT [⟨r.lastI + 1,t,d⟩] = true := by
 have h5 := h.lastI
 have h6 := h.base
 have h7 := h.lim
 rw [qY,qbK,(qw _ _ _).2 ⟨⟨show 1 <= r.lastI + 1 by omega,show r.lastI + 1 <= 1099511627776 by omega⟩,⟨h1,h2⟩,hd⟩,decide_eq_true (show r.lastT <= t from h3)]
 simp
theorem qea {N : Node} (h1 : N.ro = 3) (h2 : 2 <= N.wk + 1) : N.tick = ({ N with wk := 0 } : Node).sendAll := by
 unfold Node.tick
 exact if_pos ⟨h1,h2⟩
theorem qeb {N : Node} (h1 : N.ro = 3) (h2 : ¬ 2 <= N.wk + 1) : N.tick = { N with wk := N.wk + 1 } := by
 unfold Node.tick
 exact (if_neg fun e => h2 e.2).trans (if_pos (.inl h1))
theorem qb8 {N : Node} (h1 : N.ro ≠ 3) (h2 : N.wk + 1 < 6 + 3 * (N.id : Int) \/ 1099511627776 <= N.ht \/ 1099511627776 <= N.lg.lastI) : N.tick = { N with wk := N.wk + 1 } := by
 unfold Node.tick
 exact (if_neg fun e => h1 e.1).trans (if_pos (.inr h2))
theorem qec {N : Node} (h1 : N.ro ≠ 3) (h2 : ¬ (N.wk + 1 < 6 + 3 * (N.id : Int) \/ 1099511627776 <= N.ht \/ 1099511627776 <= N.lg.lastI)) :
 N.tick = if N.n = 1 then (({ N with wk := N.wk + 1 } : Node).count 1).run else (({ N with wk := N.wk + 1 } : Node).count 1).ask 1 (N.ht + 1) := by
 unfold Node.tick
 exact (if_neg fun e => h1 e.1).trans (if_neg fun e => e.elim h1 h2)
theorem qbt {w : World} {p : Nat} {N : Node} {Z : Nat -> Prop} {q : Ptrs} {s : Nat} {xs : List MLay} {K : Nat -> Prop} (h : RfAt w p N Z q s xs K) (hZ : ∀ b,Z b -> b < w.heap.size) (hms : N.ms.length < 999990) (hl : N.lg.l.length <= 400000) (hg : Good N.lg) (hn : N.n <= 3 /\ N.id < N.n) (hsd : N.sn.d.length <= 50000)
 (hidle : N.ro ≠ 3 -> N.cx = 0 /\ N.rd = [] /\ N.nx = Node.zeroF /\ N.ma = Node.zeroF /\ N.ac = Node.zeroF) (hti : 0 <= N.ht /\ N.ht <= 2199023255552) (hwk : 0 <= N.wk /\ N.wk <= 2199023255552) (hnx : ∀ j,-4611686018427387904 <= N.nx j /\ N.nx j <= 4611686018427387904) (hlt : N.lg.lastT <= N.ht) :
 Calls Try.prog 7 #[ptrV p] w fun e w' => e = .returned (.tuple #[]) /\ Turned w w' p N.tick Z q s := by
 have c0 := h.c0
 have c10 := h.c10
 have c12 := h.c12
 have f12 := h.fz 12
 have hp := h.lt
 have y1 : IntKind.i64.wrap (N.wk + 1) = N.wk + 1 := IntWalk.i64_in _ (by omega)
 have o1 := h.on.put 12 (.int .i64 (N.wk + 1)) (C' := rfC { N with wk := N.wk + 1 } q) rfl
 have h1 : RfAt (w.setCell ⟨p,12,none⟩ (.int .i64 (N.wk + 1))) p { N with wk := N.wk + 1 } Z q s xs K := h.turn (Nat.le_of_eq o1.size.symm) (fun b _ hb => o1.off b hb) o1.row rfl rfl rfl rfl rfl
 have k1 : qf Z w (w.setCell ⟨p,12,none⟩ (.int .i64 (N.wk + 1))) := o1.keeps h.away
 by_cases hro : N.ro = 3
 · have e1 : (N.ro == 3) = true := beq_iff_eq.2 hro
   by_cases hw : 2 <= N.wk + 1
   · have e2 : decide (2 <= N.wk + 1) = true := decide_eq_true hw
     have o2 := o1.put 12 (.int .i64 0) (C' := rfC { N with wk := 0 } q) rfl
     have h2 : RfAt ((w.setCell ⟨p,12,none⟩ (.int .i64 (N.wk + 1))).setCell ⟨p,12,none⟩ (.int .i64 0)) p { N with wk := 0 } Z q s xs K := h.turn (Nat.le_of_eq o2.size.symm) (fun b _ hb => o2.off b hb) o2.row rfl rfl rfl rfl rfl
     have k2 : qf Z w ((w.setCell ⟨p,12,none⟩ (.int .i64 (N.wk + 1))).setCell ⟨p,12,none⟩ (.int .i64 0)) := o2.keeps h.away
     have hS := qU h2 (fun b hb => Nat.lt_of_lt_of_le (hZ b hb) k2.size) hms (by show N.lg.l.length <= 1000000; omega) hg hnx hsd ⟨hn.1,show N.id < 3 by omega⟩
     have HK := Lib.hid (And.intro k2 (And.intro hro hw))
     clear h hZ hms hl hg hn hsd hidle hti hwk hnx hlt h1 k1 o1 o2 h2 k2 hro hw
     go_enter Try.func7,Try.ntmps7
     go_wp2_with fail
     refine hS.mono ?_
     rintro e w4 ⟨rfl,hT⟩
     have HT := Lib.hid hT
     clear hT hS
     go_wp2
     first | refine bodyPost_ret (results_none rfl _ _ _) rfl ?_ | refine bodyPost_end (results_none rfl _ _ _) rfl ?_
     refine ⟨rfl,?_⟩
     obtain ⟨k2,hro,hw⟩ := HK.out
     rw [qea hro hw]
     exact HT.out.back rfl k2
   · have e2 : decide (2 <= N.wk + 1) = false := decide_eq_false hw
     have HK := Lib.hid (And.intro h1 (And.intro k1 (And.intro hro hw)))
     clear h hZ hms hl hg hn hsd hidle hti hwk hnx hlt h1 k1 o1 hro hw
     go_enter Try.func7,Try.ntmps7
     go_wp2
     first | refine bodyPost_ret (results_none rfl _ _ _) rfl ?_ | refine bodyPost_end (results_none rfl _ _ _) rfl ?_
     refine ⟨rfl,?_⟩
     obtain ⟨h1,k1,hro,hw⟩ := HK.out
     rw [qeb hro (by omega)]
     exact ⟨q,xs,K,h1,rfl,k1⟩
 · have e1 : (N.ro == 3) = false := beq_eq_false_iff_ne.2 hro
   have e1' : (N.ro = 3) = False := eq_false hro
   have y2 : IntKind.i64.wrap (3 * (N.id : Int)) = 3 * (N.id : Int) := IntWalk.i64_in _ (by omega)
   have y3 : IntKind.i64.wrap (6 + 3 * (N.id : Int)) = 6 + 3 * (N.id : Int) := IntWalk.i64_in _ (by omega)
   by_cases hw : 6 + 3 * (N.id : Int) <= N.wk + 1
   · have e2 : decide (6 + 3 * (N.id : Int) <= N.wk + 1) = true := decide_eq_true hw
     have hL := fun X (hX : Below (w.setCell ⟨p,12,none⟩ (.int .i64 (N.wk + 1))).heap.size (w.setCell ⟨p,12,none⟩ (.int .i64 (N.wk + 1))) X) => qb6 (h1.below hX) (show N.lg.l.length <= 1000000 by omega)
     generalize hbb : (decide (N.ht < 1099511627776) && decide (N.lg.lastI < 1099511627776)) = bb at hL
     have HBB := Lib.hid hbb
     clear hbb
     have H := Lib.hid (And.intro h (And.intro hZ (And.intro hms (And.intro hl (And.intro hg (And.intro hn (And.intro hsd (And.intro hidle (And.intro hti (And.intro hwk (And.intro hnx (And.intro hlt (And.intro h1 (And.intro k1 (And.intro hro hw)))))))))))))))
     have hp1 : p < (w.setCell ⟨p,12,none⟩ (.int .i64 (N.wk + 1))).heap.size := h1.lt
     have d0 := h1.c0
     have d12 := h1.c12
     clear h hZ hms hl hg hn hsd hidle hti hwk hnx hlt h1 k1 hro hw
     go_enter Try.func7,Try.ntmps7
     go_wp2_with fail
     generalize w.setCell ⟨p,12,none⟩ (.int .i64 (N.wk + 1)) = w1 at *
     refine wp_region_held_drew (S := (fun w' => w'.cell? ⟨p,0,none⟩ = some (.int .i64 (N.id : Int)) /\ w'.cell? ⟨p,12,none⟩ = some (.int .i64 (N.wk + 1)))) (by kernel_rfl) ⟨d0,d12⟩ (fun hHeld => ?_)
     change wpAnyH _ _ _ _ _ 16 #[false,false,false,false,false,false,false,false,false,false,false,false,false,false,false,false] _ _
     refine tkq 0 ⟨some 28, .move (.tmp 0),32, "vote.go:30",#[],none⟩ ?_ ?_ ?_
     rotate_left
     · (intro w h; (try dsimp only at h); go_simp); (try with_reducible rfl)
     try simp only [lpq]
     refine tkq 1 ⟨some 29, .nilCheck (.tmp 28),0, "vote.go:30",#[⟨0, .data⟩],none⟩ ?_ ?_ ?_
     rotate_left
     · (intro w h; (try dsimp only at h); go_simp); (try with_reducible rfl)
     try simp only [lpq]
     refine tkq 2 ⟨some 30, .fieldAddr 68 (.tmp 29) 9,0, "vote.go:30",#[⟨1, .data⟩],none⟩ ?_ ?_ ?_
     rotate_left
     · (intro w h; (try dsimp only at h); go_simp); (try with_reducible rfl)
     try simp only [lpq]
     refine tkq 3 ⟨some 31, .load 3 (.tmp 30),3, "vote.go:30",#[⟨2, .data⟩],none⟩ ?_ ?_ ?_
     rotate_left
     · (intro w h; (try dsimp only at h); go_simp); (try with_reducible rfl)
     try simp only [lpq]
     refine tkq 4 ⟨some 32, .move (.tmp 0),32, "vote.go:30",#[],none⟩ ?_ ?_ ?_
     rotate_left
     · (intro w h; (try dsimp only at h); go_simp); (try with_reducible rfl)
     try simp only [lpq]
     refine tkq 5 ⟨some 33, .nilCheck (.tmp 32),0, "vote.go:30",#[⟨4, .data⟩],none⟩ ?_ ?_ ?_
     rotate_left
     · (intro w h; (try dsimp only at h); go_simp); (try with_reducible rfl)
     try simp only [lpq]
     refine tkq 6 ⟨some 34, .fieldAddr 68 (.tmp 33) 0,0, "vote.go:30",#[⟨5, .data⟩],none⟩ ?_ ?_ ?_
     rotate_left
     · (intro w h; (try dsimp only at h); go_simp); (try with_reducible rfl)
     try simp only [lpq]
     refine tkq 7 ⟨some 35, .load 3 (.tmp 34),3, "vote.go:30",#[⟨6, .data⟩],none⟩ ?_ ?_ ?_
     rotate_left
     · (intro w h; (try dsimp only at h); go_simp); (try with_reducible rfl)
     try simp only [lpq]
     refine tkq 8 ⟨some 36, .binOp .mul 3 (.const (.int .i64 3)) (.tmp 35) 3,3, "vote.go:30",#[⟨7, .data⟩],none⟩ ?_ ?_ ?_
     rotate_left
     · (intro w h; (try dsimp only at h); go_simp); (try with_reducible rfl)
     try simp only [lpq]
     refine tkq 9 ⟨some 37, .binOp .add 3 (.const (.int .i64 6)) (.tmp 36) 3,3, "vote.go:30",#[⟨8, .data⟩],none⟩ ?_ ?_ ?_
     rotate_left
     · (intro w h; (try dsimp only at h); go_simp); (try with_reducible rfl)
     try simp only [lpq]
     refine tkq 10 ⟨some 38, .binOp .geq 3 (.tmp 31) (.tmp 37) 3,4, "vote.go:30",#[⟨3, .data⟩,⟨9, .data⟩],none⟩ ?_ ?_ ?_
     rotate_left
     · (intro w h; (try dsimp only at h); go_simp); (try with_reducible rfl)
     try simp only [lpq]
     refine tkq 11 ⟨some 39, .move (.tmp 38),4, "vote.go:30",#[⟨10, .data⟩],none⟩ ?_ ?_ ?_
     rotate_left
     · (intro w h; (try dsimp only at h); go_simp); (try with_reducible rfl)
     try simp only [lpq]
     refine tkq 12 ⟨some 40, .move (.tmp 0),32, "vote.go:30",#[⟨11, .guard⟩],some (11,true)⟩ ?_ ?_ ?_
     rotate_left
     · (intro w h; (try dsimp only at h); go_simp); (try with_reducible rfl)
     try simp only [lpq]
     refine wpAnyH_ready (rs := [13]) (by kernel_rfl) (by simp) ?_
     refine AllReadyH.cons (o := ⟨some 41, .call ⟨.value (.func 20),#[.tmp 40],#[32]⟩,4, "vote.go:30",#[⟨12, .data⟩,⟨11, .chain⟩,⟨11, .guard⟩],some (11,true)⟩) rfl (fun KK hK => ?_) AllReadyH.nil
     go_simp
     refine (hL _ (blq.drew)).mono ?_
     rintro e w3 ⟨rfl,hb3⟩
     have HB := Lib.hid hb3
     refine hK.out _ _ ⟨(hb3.cell (p := ⟨p,0,none⟩) hp1).trans hHeld.1,(hb3.cell (p := ⟨p,12,none⟩) hp1).trans hHeld.2⟩ (fun hHeld2 => ?_)
     clear hK KK hHeld
     have hHeld := hHeld2
     clear hHeld2
     try simp only [lpq]
     refine tkq 14 ⟨some 42, .pick (.tmp 39) (.tmp 41) (.const (.bool false)),4, "vote.go:30",#[⟨11, .data⟩,⟨13, .data⟩],none⟩ ?_ ?_ ?_
     rotate_left
     · (intro w h; (try dsimp only at h); go_simp); (try with_reducible rfl)
     try simp only [lpq]
     refine tkq 15 ⟨some 27, .assign (.tmp 42),4, "vote.go:30",#[⟨14, .data⟩,⟨13, .chain⟩],none⟩ ?_ ?_ ?_
     rotate_left
     · (intro w h; (try dsimp only at h); go_simp); (try with_reducible rfl)
     try simp only [lpq]
     refine wpAnyH_done (by kernel_rfl) ?_ _
     clear hHeld hL
     cases bb with
     | false =>
       go_wp2
       first | refine bodyPost_ret (results_none rfl _ _ _) rfl ?_ | refine bodyPost_end (results_none rfl _ _ _) rfl ?_
       refine ⟨rfl,?_⟩
       obtain ⟨h,hZ,hms,hl,hg,hn,hsd,hidle,hti,hwk,hnx,hlt,h1,k1,hro,hw⟩ := H.out
       have hb3 := blq.drew.trans HB.out
       have hor : 1099511627776 <= N.ht \/ 1099511627776 <= N.lg.lastI := by
        by_cases a : N.ht < 1099511627776
        · by_cases b : N.lg.lastI < 1099511627776
          · have := HBB.out
            rw [decide_eq_true a,decide_eq_true b] at this
            cases this
          · exact .inr (by omega)
        · exact .inl (by omega)
       rw [qb8 hro (.inr hor)]
       exact ⟨q,xs,K,h1.below hb3,rfl,k1.trans (qe hb3 nlq)⟩
     | true =>
       obtain ⟨h,hZ,hms,hl,hg,hn,hsd,hidle,hti,hwk,hnx,hlt,h1,k1,hro,hw⟩ := H.out
       have hb3 := blq.drew.trans HB.out
       have hand : N.ht < 1099511627776 /\ N.lg.lastI < 1099511627776 := by
        have := HBB.out
        simpa using this
       have k3 : qf Z w w3 := k1.trans (qe hb3 nlq)
       have hP := qdk (h1.below hb3) (fun b hb => Nat.lt_of_lt_of_le (hZ b hb) k3.size) hms hl hg hn hsd (hidle hro) hti (fun _ => qdl hg (show 1 <= N.ht + 1 by omega) (show N.ht + 1 <= 1099511627776 by omega) (show N.lg.lastT <= N.ht + 1 by omega) hand.2 [] (by simp))
       have HK := Lib.hid (And.intro k3 (And.intro hro (And.intro hw hand)))
       clear h hZ hms hl hg hn hsd hidle hti hwk hnx hlt h1 k1 hro hw hb3 hand k3 HB H HBB
       go_wp2_with fail
       refine hP.mono ?_
       rintro e w4 ⟨rfl,hT⟩
       have HT := Lib.hid hT
       clear hT hP
       go_wp2
       first | refine bodyPost_ret (results_none rfl _ _ _) rfl ?_ | refine bodyPost_end (results_none rfl _ _ _) rfl ?_
       refine ⟨rfl,?_⟩
       obtain ⟨k3,hro,hw,hand⟩ := HK.out
       rw [qec hro (by omega)]
       exact HT.out.back rfl k3
   · have e2 : decide (6 + 3 * (N.id : Int) <= N.wk + 1) = false := decide_eq_false hw
     have HK := Lib.hid (And.intro h1 (And.intro k1 (And.intro hro hw)))
     clear h hZ hms hl hg hn hsd hidle hti hwk hnx hlt h1 k1 o1 hro hw
     go_enter Try.func7,Try.ntmps7
     go_wp2
     go_quiet (fail)
     go_wp2
     first | refine bodyPost_ret (results_none rfl _ _ _) rfl ?_ | refine bodyPost_end (results_none rfl _ _ _) rfl ?_
     refine ⟨rfl,?_⟩
     obtain ⟨h1,k1,hro,hw⟩ := HK.out
     rw [qb8 hro (.inl (by omega))]
     exact ⟨q,xs,K,h1.below (below_drewN blq _),rfl,k1.trans (qe (below_drewN blq _) nlq)⟩
end Go.Proofs.Ytmiijlecfiddmaa
