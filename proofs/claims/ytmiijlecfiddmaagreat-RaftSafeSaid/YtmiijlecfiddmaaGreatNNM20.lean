/- The program's leader hears an answer. -/
import Derived.Test.YtmiijlecfiddmaaGreatNNM01
import Derived.Test.YtmiijlecfiddmaaGreatNNM19
set_option linter.unusedVariables false
set_option linter.unusedSimpArgs false
set_option maxRecDepth 100000
set_option maxHeartbeats 3200000
namespace Go.Proofs.YtmiijlecfiddmaaGreat
open Go.RowKit Go.Shelf
attribute [local go_sem] Oper.semAt_some
variable {w : World} {p : Nat} {N : Node} {Z : Nat -> Prop} {q : Ptrs} {s : Nat} {xs : List MLay} {K : Nat -> Prop}
def qad (N : Node) (k : Nat) (x : Int) : Node := if x <= N.cx then { N with ac := Node.put N.ac k (max (N.ac k) x) } else N
def refused (N : Node) (k : Nat) (i : Int) : Node := ({ N with nx := Node.put N.nx k (max (min (N.nx k - 1) (i + 1)) (N.ma k + 1)) } : Node).send k
def granted (N : Node) (k : Nat) (i : Int) : Node := qbd { N with ma := Node.put N.ma k (max (N.ma k) i),nx := Node.put N.nx k (max (N.nx k) (Node.put N.ma k (max (N.ma k) i) k + 1)) } k
theorem qlc (f : Nat -> Int) (k : Nat) (v : Int) : Node.put f k v k = v := by simp [Node.put]
theorem qam (N : Node) (k : Nat) (i : Int) : granted N k i = qbd { N with ma := Node.put N.ma k (max (N.ma k) i),nx := Node.put N.nx k (max (N.nx k) (max (N.ma k) i + 1)) } k := by
 unfold granted;rw [qlc]
theorem put_same (f : Nat -> Int) (k : Nat) : Node.put f k (f k) = f := by
 funext x
 unfold Node.put
 split
 · rename_i e; rw [e]
 · rfl
theorem qjz (N : Node) (k : Nat) (x : Int) : (if x <= N.cx /\ N.ac k < x then { N with ac := Node.put N.ac k x } else N) = qad N k x := by
 unfold qad
 by_cases h1 : x <= N.cx
 · by_cases h2 : N.ac k < x
   · rw [if_pos ⟨h1,h2⟩,if_pos h1,show max (N.ac k) x = x by omega]
   · rw [if_neg fun e => h2 e.2,if_pos h1,show max (N.ac k) x = N.ac k by omega,put_same]
 · rw [if_neg fun e => h1 e.1,if_neg h1]
theorem qcg {N : Node} {m : Msg} (hro : N.ro = 3) :
 N.apped m = (if m.b = true then granted (qad N m.f.toNat m.x) m.f.toNat (min m.i N.lg.lastI) else refused (qad N m.f.toNat m.x) m.f.toNat (min m.i N.lg.lastI)).tell := by
 have hlg : (qad N m.f.toNat m.x).lg = N.lg := by
  unfold qad
  split <;> rfl
 unfold Node.apped;rw [if_neg (by rw [hro]; simp)];dsimp only;rw [qjz];generalize qad N m.f.toNat m.x = r at *;rw [<- hlg]
 cases m.b with
 | true =>
   rw [if_neg (by simp),if_pos rfl]
   rfl
 | false =>
   rw [if_pos rfl,if_neg (by simp)]
   rfl
theorem qa7 (N : Node) (k : Nat) (x : Int) : ∃ g,qad N k x = { N with ac := g } := by
 unfold qad
 split
 · exact ⟨_,rfl⟩
 · exact ⟨N.ac,rfl⟩
theorem qaW (N : Node) (k : Nat) : ∃ c ls,qbd N k = { N with cm := c,ms := N.ms ++ ls } := by
 obtain ⟨c,hc⟩ := qbb N;unfold qbd;rw [hc]
 split
 · obtain ⟨ls,_,e⟩ := qU ({ N with cm := c } : Node) ({ N with cm := c } : Node).others;exact ⟨c,ls,e⟩
 · split
   · obtain ⟨x,e⟩ := qbY ({ N with cm := c } : Node) k;exact ⟨c,[x],e⟩
   · exact ⟨c,[],by simp⟩
section
variable {w : World} {p : Nat} {N : Node} {Z : Nat → Prop} {q : Ptrs} {s : Nat} {xs : List MLay} {K : Nat → Prop}
theorem RfAt.putAc (h : RfAt w p N Z q s xs K) (j : Nat) (hj : j < 3) (v : Int) : RfAt (w.setCell ⟨p,18 + 3 * j,none⟩ (.int .i64 v)) p { N with ac := Node.put N.ac j v } Z q s xs K /\ qf Z w (w.setCell ⟨p,18 + 3 * j,none⟩ (.int .i64 v)) := by
 have o1 : OnP p (rfC { N with ac := Node.put N.ac j v } q) w (w.setCell ⟨p,18 + 3 * j,none⟩ (.int .i64 v)) := by
  obtain rfl | rfl | rfl : j = 0 \/ j = 1 \/ j = 2 := by omega
  all_goals exact h.on.put _ (.int .i64 v) rfl
 exact ⟨h.turn (Nat.le_of_eq o1.size.symm) (fun b _ hb => o1.off b hb) o1.row rfl rfl rfl rfl rfl,o1.keeps h.away⟩
theorem RfAt.putMa (h : RfAt w p N Z q s xs K) (j : Nat) (hj : j < 3) (v : Int) : RfAt (w.setCell ⟨p,17 + 3 * j,none⟩ (.int .i64 v)) p { N with ma := Node.put N.ma j v } Z q s xs K /\ qf Z w (w.setCell ⟨p,17 + 3 * j,none⟩ (.int .i64 v)) := by
 have o1 : OnP p (rfC { N with ma := Node.put N.ma j v } q) w (w.setCell ⟨p,17 + 3 * j,none⟩ (.int .i64 v)) := by
  obtain rfl | rfl | rfl : j = 0 \/ j = 1 \/ j = 2 := by omega
  all_goals exact h.on.put _ (.int .i64 v) rfl
 exact ⟨h.turn (Nat.le_of_eq o1.size.symm) (fun b _ hb => o1.off b hb) o1.row rfl rfl rfl rfl rfl,o1.keeps h.away⟩
theorem RfAt.putNx (h : RfAt w p N Z q s xs K) (j : Nat) (hj : j < 3) (v : Int) : RfAt (w.setCell ⟨p,16 + 3 * j,none⟩ (.int .i64 v)) p { N with nx := Node.put N.nx j v } Z q s xs K /\ qf Z w (w.setCell ⟨p,16 + 3 * j,none⟩ (.int .i64 v)) := by
 have o1 : OnP p (rfC { N with nx := Node.put N.nx j v } q) w (w.setCell ⟨p,16 + 3 * j,none⟩ (.int .i64 v)) := by
  obtain rfl | rfl | rfl : j = 0 \/ j = 1 \/ j = 2 := by omega
  all_goals exact h.on.put _ (.int .i64 v) rfl
 exact ⟨h.turn (Nat.le_of_eq o1.size.symm) (fun b _ hb => o1.off b hb) o1.row rfl rfl rfl rfl rfl,o1.keeps h.away⟩
end
theorem qah {f : Nat -> Int} {k : Nat} {v lo hi : Int} (hf : ∀ j,lo <= f j /\ f j <= hi) (hv : lo <= v /\ v <= hi) : ∀ j,lo <= Node.put f k v j /\ Node.put f k v j <= hi := by
 intro j;unfold Node.put
 split
 · exact hv
 · exact hf j
theorem qft (h : RfAt w p N Z q s xs K) (hZ : ∀ b,Z b -> b < w.heap.size) (a : Able N) (m : Msg) (A : Option Addr) (cA : Nat) (E : Option Addr) (cE : Nat) (hf : m.f = 0) (hro : N.ro = 3) (hmi : 0 <= m.i) :
 Calls Tryz.prog 82 #[ptrV p,msgV m A cA E cE] w fun e w' => e = .returned (.tuple #[]) /\ Turned w w' p (N.apped m) Z q s := by
 have hp := h.lt;obtain ⟨mk,mf,mo,mt,mi,ml,mc,mx,mb,mes,msn⟩ := m;dsimp only at hf hmi;subst hf;obtain ⟨W1,hW1⟩ := exq (w.alloc (.cells #[.int .i64 mk, .int .i64 0, .int .i64 mo, .int .i64 mt, .int .i64 mi, .int .i64 ml, .int .i64 mc, .int .i64 mx, .bool mb, .slice A mes.length cA, .int .i64 msn.i, .int .i64 msn.t, .slice E msn.d.length cE] 51))
 have hb1 : Below w.heap.size w W1 := by rw [<- hW1]; exact blq.alloc nlq _
 have hrow : W1.heap[w.heap.size]? = some (.cells #[.int .i64 mk, .int .i64 0, .int .i64 mo, .int .i64 mt, .int .i64 mi, .int .i64 ml, .int .i64 mc, .int .i64 mx, .bool mb, .slice A mes.length cA, .int .i64 msn.i, .int .i64 msn.t, .slice E msn.d.length cE] 51) := by rw [<- hW1]; exact heap_alloc_new w _
 have hsz : W1.heap.size = w.heap.size + 1 := by rw [<- hW1]; simp
 have R1 := h.more (Y := fun b => b = w.heap.size) (fun b hb => by rw [hb]; exact nlq) hb1
 have hZ1 : ∀ b,(Z b \/ b = w.heap.size) -> b < W1.heap.size := fun b hb => by
  rcases hb with hb | rfl
  · have := hZ b hb; omega
  · omega
 have hkp : qf Z w W1 := keeps_below hb1 nlq
 have hlt1 : w.heap.size < W1.heap.size := by omega
 have n1 : p ≠ w.heap.size := by omega
 have n2 : (p = w.heap.size) = False := eq_false n1;have n3 : (w.heap.size = p) = False := eq_false n1.symm;have hall := qcg (N := N) (m := ⟨mk,0,mo,mt,mi,ml,mc,mx,mb,mes,msn⟩) hro;dsimp only at hall;rw [show (0 : Int).toNat = 0 from rfl] at hall;have c10 := R1.c10;rw [hro] at c10;have c25 := R1.c25;have d1 : W1.cell? ⟨w.heap.size,1,none⟩ = some (.int .i64 0) := qb hrow 1 _ rfl;have d7 : W1.cell? ⟨w.heap.size,7,none⟩ = some (.int .i64 mx) := qb hrow 7 _ rfl;have hBox : ∀ W,qf (fun b => Z b \/ b = w.heap.size) W1 W -> W.heap[w.heap.size]? = some (.cells #[.int .i64 mk, .int .i64 0, .int .i64 mo, .int .i64 mt, .int .i64 mi, .int .i64 ml, .int .i64 mc, .int .i64 mx, .bool mb, .slice A mes.length cA, .int .i64 msn.i, .int .i64 msn.t, .slice E msn.d.length cE] 51) := fun W hk => (hk.block _ hlt1 (.inr rfl)).trans hrow;obtain ⟨bx,hbx⟩ : ∃ b,decide (mx <= N.cx) = b := ⟨_,rfl⟩;have HB := hdq7 hall hkp hBox a hZ1 hmi hbx;have HR1 := Lib.hid R1;clear hall hkp hBox a hZ1 hmi R1 h hZ hro hb1 hrow
 go_enter Tryz.func82,Tryz.ntmps82
 go_wp2_with fail
 go_quiet (fail)
 have hdn1 := below_drewN (Below.refl W1.heap.size W1) nq;have c25 : (W1.drewN nq).cell? ⟨p,25,none⟩ = some (.int .i64 N.cx) := c25;have d7 : (W1.drewN nq).cell? ⟨w.heap.size,7,none⟩ = some (.int .i64 mx) := d7;generalize W1.drewN nq = W2 at *
 go_wp2_with fail
 go_quiet (fail)
 obtain ⟨hall,hkp,hBox,a,hZ1,hmi,hbx⟩ := HB.out;have hdn : Below W1.heap.size W1 (W2.drewN nq) := below_drewN hdn1 nq;have R3 := HR1.out.below hdn;have kk3 := keeps_below (Z := fun b => Z b \/ b = w.heap.size) hdn nlq;have hb3 := hBox _ kk3;generalize W2.drewN nq = w3 at *;have g7 : w3.cell? ⟨w.heap.size,7,none⟩ = some (.int .i64 mx) := qb hb3 7 _ rfl;have ca : w3.cell? ⟨p,18,none⟩ = some (.int .i64 (N.ac 0)) := R3.c18;have fa := R3.fz 18;have hbi := hbx;have HR3 := hdq3 R3 kk3 hbx;clear hall hkp hBox a hZ1 hmi hbx hbi hdn R3 kk3 hb3 HR1 d1 d7 c10 c25 hdn1
 go_upto_if 23 with fail
 go_cut [] (fun wx => RfAt wx p (qad N 0 mx) (fun b => Z b \/ b = w.heap.size) q s xs K /\ qf (fun b => Z b \/ b = w.heap.size) W1 wx)
 case first =>
  cases bx with
  | true =>
    go_wp2_with fail
    go_region
    go_wp2
    go_meet
    obtain ⟨R3,kk3,hbx⟩ := HR3.out;obtain ⟨R4,k4⟩ := R3.putAc 0 (by omega) (max (N.ac 0) mx);have e : qad N 0 mx = { N with ac := Node.put N.ac 0 (max (N.ac 0) mx) } := if_pos (of_decide_eq_true hbx);exact ⟨(R4.below blq.drew).cast e,(kk3.trans k4).drew⟩
  | false =>
    go_wp2
    go_meet
    obtain ⟨R3,kk3,hbx⟩ := HR3.out;have e : qad N 0 mx = N := if_neg (of_decide_eq_false hbx);exact ⟨R3.cast e,kk3⟩
 case rest =>
  obtain ⟨Rc,kc⟩ := hcut;obtain ⟨hall,hkp,hBox,a,hZ1,hmi,_⟩ := HB.out;obtain ⟨g,hg⟩ := qa7 N 0 mx;rw [hg] at Rc hall;have hb4 := hBox wc kc;have hli : N.lg.lastI < 1099511627776 := a.li
  have hl0 : 0 <= N.lg.lastI := by have := a.good.lim; have := a.good.lastI; omega
  have hLast := fun X (hX : Below wc.heap.size wc X) => qC (Rc.below hX) (by have := a.len; show N.lg.l.length <= 1000000; omega)
  obtain ⟨LI,hLI⟩ := exq (N.lg.lastI)
  have hLast : ∀ X,Below wc.heap.size wc X -> Calls Tryz.prog 32 #[ptrV p] X fun e w' => e = .returned (.int .i64 LI) /\ Below X.heap.size X w' := by rw [<- hLI]; exact hLast
  rw [hLI] at hall hli hl0;have g4 : wc.cell? ⟨w.heap.size,4,none⟩ = some (.int .i64 mi) := qb hb4 4 _ rfl;have hbz := hlt hb4;have H4 := hdq10 Rc kc hall hkp hBox a hZ1 hmi hli hl0;clear Rc kc hall hkp hBox a hZ1 hmi hg hb4 hli hl0 HB HR3 g7 ca fa hLI
  go_wp2_with fail
  refine wp_region_held_drew (S := (fun w' => w'.cell? ⟨w.heap.size,4,none⟩ = some (.int .i64 mi) /\ Below wc.heap.size wc w')) (by kernel_rfl) ⟨g4,blq.drew⟩ (fun hHeld => ?_);refine lsq 6 ?_;refine tkq 0 ?_;refine tkq 1 ?_;refine tkq 2 ?_;refine rdq1 3 fun KK hK => ?_;go_simp;refine (hLast _ hHeld.2).mono ?_;rintro e w5 ⟨rfl,hb5⟩;have HB5 := Lib.hid (hHeld.2.trans (hb5.mono hHeld.2.size));clear hb5;refine hK.out _ _ ⟨(HB5.out.cell (p := ⟨w.heap.size,4,none⟩) hbz).trans g4,HB5.out⟩ ?_;clear hK KK hHeld;intro hHeld
  try simp only [lpq]
  refine tkq 4 ?_;refine tkq 5 ?_;refine dnq ?_;clear hHeld hLast g4;obtain ⟨Rc,kc,hall,hkp,hBox,a,hZ1,hmi,hli,hl0⟩ := H4.out;have R5 := Rc.below HB5.out;have k5 := kc.trans (keeps_below HB5.out nlq);have hb5 := hBox w5 k5;have hZ5 : ∀ b,(Z b \/ b = w.heap.size) -> b < w5.heap.size := fun b hb => Nat.lt_of_lt_of_le (hZ1 b hb) k5.size;have g8 : w5.cell? ⟨w.heap.size,8,none⟩ = some (.bool mb) := qb hb5 8 _ rfl
  have hib : 0 <= min mi LI /\ min mi LI <= 1099511627776 := by omega
  generalize min mi LI = ii at *;have cn : w5.cell? ⟨p,16,none⟩ = some (.int .i64 (N.nx 0)) := R5.c16;have cm : w5.cell? ⟨p,17,none⟩ = some (.int .i64 (N.ma 0)) := R5.c17;have fn := R5.fz 16;have fm := R5.fz 17;have g1 : w5.cell? ⟨w.heap.size,1,none⟩ = some (.int .i64 0) := qb hb5 1 _ rfl;have y1 : IntKind.i64.wrap (max (N.ma 0) ii + 1) = max (N.ma 0) ii + 1 := IntWalk.i64_in _ (by have := a.ma 0; omega);have y2 : IntKind.i64.wrap (N.nx 0 - 1) = N.nx 0 - 1 := IntWalk.i64_in _ (by have := a.nx 0; omega);have y3 : IntKind.i64.wrap (ii + 1) = ii + 1 := IntWalk.i64_in _ (by omega);have y4 : IntKind.i64.wrap (N.ma 0 + 1) = N.ma 0 + 1 := IntWalk.i64_in _ (by have := a.ma 0; omega);have y5 : wrap64 (N.nx 0 - 1) = N.nx 0 - 1 := IntWalk.wrap64_in _ (by have := a.nx 0; omega);have H5 := hdq8 R5 k5 hall hkp hZ1 a hZ5 hib;clear Rc kc R5 k5 hall hkp hBox a hZ1 hZ5 hmi hb5 HB5 H4 hbz hib hli hl0
  go_upto_if 40 with fail
  go_cut [] (fun wx => Turned W1 wx p (if mb = true then granted { N with ac := g } 0 ii else refused { N with ac := g } 0 ii) (fun b => Z b \/ b = w.heap.size) q s)
  case first =>
   cases mb with
   | true =>
     go_wp2_with fail
     go_region
     obtain ⟨R5,k5,hall,hkp,hZ1,a,hZ5,hib⟩ := H5.out;obtain ⟨R6,k6⟩ := R5.putMa 0 (by omega) (max (N.ma 0) ii);obtain ⟨R7,k7⟩ := R6.putNx 0 (by omega) (max (N.nx 0) (max (N.ma 0) ii + 1));have R8 := R7.below blq.drew;have k8 : qf (fun b => Z b \/ b = w.heap.size) w5 (((w5.setCell ⟨p,17,none⟩ (.int .i64 (max (N.ma 0) ii))).setCell ⟨p,16,none⟩ (.int .i64 (max (N.nx 0) (max (N.ma 0) ii + 1)))).drew) := (k6.trans k7).drew
     have hGo := qcF R8 (fun b hb => Nat.lt_of_lt_of_le (hZ5 b hb) k8.size) ⟨⟨a.n.1,by have := a.n; show N.id < 3; omega⟩,by have := a.ms; show N.ms.length < 999990; omega,a.len,a.good,a.sd,
      qah (fun j => by have := a.nx j; show _ <= N.nx j /\ N.nx j <= _; omega) (by have := a.nx 0; have := a.ma 0; omega),
      qah (fun j => by have := a.ma j; show _ <= N.ma j /\ N.ma j <= _; omega) (by have := a.ma 0; omega)⟩ 0 (by omega)
     have HF := Lib.hid (k5.trans k8);clear R5 k5 hall hkp hZ1 a hZ5 hib R6 k6 R7 k7 R8 k8
     go_wp2_with fail
     refine hGo.mono ?_;rintro e w6 ⟨rfl,hT⟩;have HT := Lib.hid hT;clear hT hGo;go_wp2
     go_meet
     rw [if_pos (by trivial),qam];exact HT.out.back rfl HF.out
   | false =>
     go_wp2_with fail
     go_region
     obtain ⟨R5,k5,hall,hkp,hZ1,a,hZ5,hib⟩ := H5.out;obtain ⟨R7,k7⟩ := R5.putNx 0 (by omega) (max (min (N.nx 0 - 1) (ii + 1)) (N.ma 0 + 1));have R8 := R7.below blq.drew;have k8 : qf (fun b => Z b \/ b = w.heap.size) w5 ((w5.setCell ⟨p,16,none⟩ (.int .i64 (max (min (N.nx 0 - 1) (ii + 1)) (N.ma 0 + 1)))).drew) := k7.drew
     have hGo := qaw R8 (fun b hb => Nat.lt_of_lt_of_le (hZ5 b hb) k8.size) (by have := a.ms; show N.ms.length < 999999; omega) (by have := a.len; show N.lg.l.length <= 1000000; omega) a.good
      (qah (fun j => by have := a.nx j; show _ <= N.nx j /\ N.nx j <= _; omega) (by have := a.nx 0; have := a.ma 0; omega)) a.sd (by have := a.n; show N.id < 4; omega) 0 (by omega)
     have HF := Lib.hid (k5.trans k8);clear R5 k5 hall hkp hZ1 a hZ5 hib R7 k7 R8 k8
     go_wp2_with fail
     refine hGo.mono ?_;rintro e w6 ⟨rfl,hT⟩;have HT := Lib.hid hT;clear hT hGo;go_wp2
     go_meet
     rw [if_neg (by simp)];exact HT.out.back rfl HF.out
  case rest =>
   obtain ⟨q6,xs6,K6,R6,hq6,k6⟩ := hcut;obtain ⟨R5,k5,hall,hkp,hZ1,a,hZ5,hib⟩ := H5.out
   have hX : ∃ c ls f1 f2,(if mb = true then granted { N with ac := g } 0 ii else refused { N with ac := g } 0 ii) = { N with ac := g,cm := c,ms := N.ms ++ ls,nx := f1,ma := f2 } := by
    cases mb with
    | true =>
      rw [if_pos rfl,qam];obtain ⟨c,ls,e⟩ := qaW { N with ac := g,ma := Node.put N.ma 0 (max (N.ma 0) ii),nx := Node.put N.nx 0 (max (N.nx 0) (max (N.ma 0) ii + 1)) } 0;exact ⟨c,ls,_,_,e⟩
    | false =>
      rw [if_neg (by simp)];unfold refused;obtain ⟨x,e⟩ := qbY { N with ac := g,nx := Node.put N.nx 0 (max (min (N.nx 0 - 1) (ii + 1)) (N.ma 0 + 1)) } 0;exact ⟨N.cm,[x],_,N.ma,e⟩
   obtain ⟨c,ls,f1,f2,hX⟩ := hX;rw [hX] at hall R6;have htd := a.td;have hTl := qbL R6 (fun b hb => Nat.lt_of_lt_of_le (hZ1 b hb) k6.size) ⟨a.n.1,by have := a.n; show N.id < 3; omega⟩ (by show N.td.length + N.rd.length <= 900000; omega);have HF := hdq4 hall hkp k6 hq6;clear R6 hq6 k6 R5 k5 hall hkp hZ1 a hZ5 hib hX H5 htd
   go_wp2_with fail
   refine hTl.mono ?_;rintro e w7 ⟨rfl,q7,R7,hq7,k7⟩;have HT := hdq3 R7 hq7 k7;clear R7 hq7 k7 hTl;go_wp2;refine bpq ?_;obtain ⟨hall,hkp,k6,hq6⟩ := HF.out;obtain ⟨R7,hq7,k7⟩ := HT.out;rw [hall];exact ⟨rfl,q7,xs6,K6,R7.less fun b hb => .inl hb,hq7.trans hq6,hkp.trans ((k6.trans k7).mono fun b hb => .inl hb)⟩
theorem qfu (h : RfAt w p N Z q s xs K) (hZ : ∀ b,Z b -> b < w.heap.size) (a : Able N) (m : Msg) (A : Option Addr) (cA : Nat) (E : Option Addr) (cE : Nat) (hf : m.f = 1) (hro : N.ro = 3) (hmi : 0 <= m.i) :
 Calls Tryz.prog 82 #[ptrV p,msgV m A cA E cE] w fun e w' => e = .returned (.tuple #[]) /\ Turned w w' p (N.apped m) Z q s := by
 have hp := h.lt;obtain ⟨mk,mf,mo,mt,mi,ml,mc,mx,mb,mes,msn⟩ := m;dsimp only at hf hmi;subst hf;obtain ⟨W1,hW1⟩ := exq (w.alloc (.cells #[.int .i64 mk, .int .i64 1, .int .i64 mo, .int .i64 mt, .int .i64 mi, .int .i64 ml, .int .i64 mc, .int .i64 mx, .bool mb, .slice A mes.length cA, .int .i64 msn.i, .int .i64 msn.t, .slice E msn.d.length cE] 51))
 have hb1 : Below w.heap.size w W1 := by rw [<- hW1]; exact blq.alloc nlq _
 have hrow : W1.heap[w.heap.size]? = some (.cells #[.int .i64 mk, .int .i64 1, .int .i64 mo, .int .i64 mt, .int .i64 mi, .int .i64 ml, .int .i64 mc, .int .i64 mx, .bool mb, .slice A mes.length cA, .int .i64 msn.i, .int .i64 msn.t, .slice E msn.d.length cE] 51) := by rw [<- hW1]; exact heap_alloc_new w _
 have hsz : W1.heap.size = w.heap.size + 1 := by rw [<- hW1]; simp
 have R1 := h.more (Y := fun b => b = w.heap.size) (fun b hb => by rw [hb]; exact nlq) hb1
 have hZ1 : ∀ b,(Z b \/ b = w.heap.size) -> b < W1.heap.size := fun b hb => by
  rcases hb with hb | rfl
  · have := hZ b hb; omega
  · omega
 have hkp : qf Z w W1 := keeps_below hb1 nlq
 have hlt1 : w.heap.size < W1.heap.size := by omega
 have n1 : p ≠ w.heap.size := by omega
 have n2 : (p = w.heap.size) = False := eq_false n1;have n3 : (w.heap.size = p) = False := eq_false n1.symm;have hall := qcg (N := N) (m := ⟨mk,1,mo,mt,mi,ml,mc,mx,mb,mes,msn⟩) hro;dsimp only at hall;rw [show (1 : Int).toNat = 1 from rfl] at hall;have c10 := R1.c10;rw [hro] at c10;have c25 := R1.c25;have d1 : W1.cell? ⟨w.heap.size,1,none⟩ = some (.int .i64 1) := qb hrow 1 _ rfl;have d7 : W1.cell? ⟨w.heap.size,7,none⟩ = some (.int .i64 mx) := qb hrow 7 _ rfl;have hBox : ∀ W,qf (fun b => Z b \/ b = w.heap.size) W1 W -> W.heap[w.heap.size]? = some (.cells #[.int .i64 mk, .int .i64 1, .int .i64 mo, .int .i64 mt, .int .i64 mi, .int .i64 ml, .int .i64 mc, .int .i64 mx, .bool mb, .slice A mes.length cA, .int .i64 msn.i, .int .i64 msn.t, .slice E msn.d.length cE] 51) := fun W hk => (hk.block _ hlt1 (.inr rfl)).trans hrow;obtain ⟨bx,hbx⟩ : ∃ b,decide (mx <= N.cx) = b := ⟨_,rfl⟩;have HB := hdq7 hall hkp hBox a hZ1 hmi hbx;have HR1 := Lib.hid R1;clear hall hkp hBox a hZ1 hmi R1 h hZ hro hb1 hrow
 go_enter Tryz.func82,Tryz.ntmps82
 go_wp2_with fail
 go_quiet (fail)
 have hdn1 := below_drewN (Below.refl W1.heap.size W1) nq;have c25 : (W1.drewN nq).cell? ⟨p,25,none⟩ = some (.int .i64 N.cx) := c25;have d7 : (W1.drewN nq).cell? ⟨w.heap.size,7,none⟩ = some (.int .i64 mx) := d7;generalize W1.drewN nq = W2 at *
 go_wp2_with fail
 go_quiet (fail)
 obtain ⟨hall,hkp,hBox,a,hZ1,hmi,hbx⟩ := HB.out;have hdn : Below W1.heap.size W1 (W2.drewN nq) := below_drewN hdn1 nq;have R3 := HR1.out.below hdn;have kk3 := keeps_below (Z := fun b => Z b \/ b = w.heap.size) hdn nlq;have hb3 := hBox _ kk3;generalize W2.drewN nq = w3 at *;have g7 : w3.cell? ⟨w.heap.size,7,none⟩ = some (.int .i64 mx) := qb hb3 7 _ rfl;have ca : w3.cell? ⟨p,21,none⟩ = some (.int .i64 (N.ac 1)) := R3.c21;have fa := R3.fz 21;have hbi := hbx;have HR3 := hdq3 R3 kk3 hbx;clear hall hkp hBox a hZ1 hmi hbx hbi hdn R3 kk3 hb3 HR1 d1 d7 c10 c25 hdn1
 go_upto_if 23 with fail
 go_cut [] (fun wx => RfAt wx p (qad N 1 mx) (fun b => Z b \/ b = w.heap.size) q s xs K /\ qf (fun b => Z b \/ b = w.heap.size) W1 wx)
 case first =>
  cases bx with
  | true =>
    go_wp2_with fail
    go_region
    go_wp2
    go_meet
    obtain ⟨R3,kk3,hbx⟩ := HR3.out;obtain ⟨R4,k4⟩ := R3.putAc 1 (by omega) (max (N.ac 1) mx);have e : qad N 1 mx = { N with ac := Node.put N.ac 1 (max (N.ac 1) mx) } := if_pos (of_decide_eq_true hbx);exact ⟨(R4.below blq.drew).cast e,(kk3.trans k4).drew⟩
  | false =>
    go_wp2
    go_meet
    obtain ⟨R3,kk3,hbx⟩ := HR3.out;have e : qad N 1 mx = N := if_neg (of_decide_eq_false hbx);exact ⟨R3.cast e,kk3⟩
 case rest =>
  obtain ⟨Rc,kc⟩ := hcut;obtain ⟨hall,hkp,hBox,a,hZ1,hmi,_⟩ := HB.out;obtain ⟨g,hg⟩ := qa7 N 1 mx;rw [hg] at Rc hall;have hb4 := hBox wc kc;have hli : N.lg.lastI < 1099511627776 := a.li
  have hl0 : 0 <= N.lg.lastI := by have := a.good.lim; have := a.good.lastI; omega
  have hLast := fun X (hX : Below wc.heap.size wc X) => qC (Rc.below hX) (by have := a.len; show N.lg.l.length <= 1000000; omega)
  obtain ⟨LI,hLI⟩ := exq (N.lg.lastI)
  have hLast : ∀ X,Below wc.heap.size wc X -> Calls Tryz.prog 32 #[ptrV p] X fun e w' => e = .returned (.int .i64 LI) /\ Below X.heap.size X w' := by rw [<- hLI]; exact hLast
  rw [hLI] at hall hli hl0;have g4 : wc.cell? ⟨w.heap.size,4,none⟩ = some (.int .i64 mi) := qb hb4 4 _ rfl;have hbz := hlt hb4;have H4 := hdq10 Rc kc hall hkp hBox a hZ1 hmi hli hl0;clear Rc kc hall hkp hBox a hZ1 hmi hg hb4 hli hl0 HB HR3 g7 ca fa hLI
  go_wp2_with fail
  refine wp_region_held_drew (S := (fun w' => w'.cell? ⟨w.heap.size,4,none⟩ = some (.int .i64 mi) /\ Below wc.heap.size wc w')) (by kernel_rfl) ⟨g4,blq.drew⟩ (fun hHeld => ?_);refine lsq 6 ?_;refine tkq 0 ?_;refine tkq 1 ?_;refine tkq 2 ?_;refine rdq1 3 fun KK hK => ?_;go_simp;refine (hLast _ hHeld.2).mono ?_;rintro e w5 ⟨rfl,hb5⟩;have HB5 := Lib.hid (hHeld.2.trans (hb5.mono hHeld.2.size));clear hb5;refine hK.out _ _ ⟨(HB5.out.cell (p := ⟨w.heap.size,4,none⟩) hbz).trans g4,HB5.out⟩ ?_;clear hK KK hHeld;intro hHeld
  try simp only [lpq]
  refine tkq 4 ?_;refine tkq 5 ?_;refine dnq ?_;clear hHeld hLast g4;obtain ⟨Rc,kc,hall,hkp,hBox,a,hZ1,hmi,hli,hl0⟩ := H4.out;have R5 := Rc.below HB5.out;have k5 := kc.trans (keeps_below HB5.out nlq);have hb5 := hBox w5 k5;have hZ5 : ∀ b,(Z b \/ b = w.heap.size) -> b < w5.heap.size := fun b hb => Nat.lt_of_lt_of_le (hZ1 b hb) k5.size;have g8 : w5.cell? ⟨w.heap.size,8,none⟩ = some (.bool mb) := qb hb5 8 _ rfl
  have hib : 0 <= min mi LI /\ min mi LI <= 1099511627776 := by omega
  generalize min mi LI = ii at *;have cn : w5.cell? ⟨p,19,none⟩ = some (.int .i64 (N.nx 1)) := R5.c19;have cm : w5.cell? ⟨p,20,none⟩ = some (.int .i64 (N.ma 1)) := R5.c20;have fn := R5.fz 19;have fm := R5.fz 20;have g1 : w5.cell? ⟨w.heap.size,1,none⟩ = some (.int .i64 1) := qb hb5 1 _ rfl;have y1 : IntKind.i64.wrap (max (N.ma 1) ii + 1) = max (N.ma 1) ii + 1 := IntWalk.i64_in _ (by have := a.ma 1; omega);have y2 : IntKind.i64.wrap (N.nx 1 - 1) = N.nx 1 - 1 := IntWalk.i64_in _ (by have := a.nx 1; omega);have y3 : IntKind.i64.wrap (ii + 1) = ii + 1 := IntWalk.i64_in _ (by omega);have y4 : IntKind.i64.wrap (N.ma 1 + 1) = N.ma 1 + 1 := IntWalk.i64_in _ (by have := a.ma 1; omega);have y5 : wrap64 (N.nx 1 - 1) = N.nx 1 - 1 := IntWalk.wrap64_in _ (by have := a.nx 1; omega);have H5 := hdq8 R5 k5 hall hkp hZ1 a hZ5 hib;clear Rc kc R5 k5 hall hkp hBox a hZ1 hZ5 hmi hb5 HB5 H4 hbz hib hli hl0
  go_upto_if 40 with fail
  go_cut [] (fun wx => Turned W1 wx p (if mb = true then granted { N with ac := g } 1 ii else refused { N with ac := g } 1 ii) (fun b => Z b \/ b = w.heap.size) q s)
  case first =>
   cases mb with
   | true =>
     go_wp2_with fail
     go_region
     obtain ⟨R5,k5,hall,hkp,hZ1,a,hZ5,hib⟩ := H5.out;obtain ⟨R6,k6⟩ := R5.putMa 1 (by omega) (max (N.ma 1) ii);obtain ⟨R7,k7⟩ := R6.putNx 1 (by omega) (max (N.nx 1) (max (N.ma 1) ii + 1));have R8 := R7.below blq.drew;have k8 : qf (fun b => Z b \/ b = w.heap.size) w5 (((w5.setCell ⟨p,20,none⟩ (.int .i64 (max (N.ma 1) ii))).setCell ⟨p,19,none⟩ (.int .i64 (max (N.nx 1) (max (N.ma 1) ii + 1)))).drew) := (k6.trans k7).drew
     have hGo := qcF R8 (fun b hb => Nat.lt_of_lt_of_le (hZ5 b hb) k8.size) ⟨⟨a.n.1,by have := a.n; show N.id < 3; omega⟩,by have := a.ms; show N.ms.length < 999990; omega,a.len,a.good,a.sd,
      qah (fun j => by have := a.nx j; show _ <= N.nx j /\ N.nx j <= _; omega) (by have := a.nx 1; have := a.ma 1; omega),
      qah (fun j => by have := a.ma j; show _ <= N.ma j /\ N.ma j <= _; omega) (by have := a.ma 1; omega)⟩ 1 (by omega)
     have HF := Lib.hid (k5.trans k8);clear R5 k5 hall hkp hZ1 a hZ5 hib R6 k6 R7 k7 R8 k8
     go_wp2_with fail
     refine hGo.mono ?_;rintro e w6 ⟨rfl,hT⟩;have HT := Lib.hid hT;clear hT hGo;go_wp2
     go_meet
     rw [if_pos (by trivial),qam];exact HT.out.back rfl HF.out
   | false =>
     go_wp2_with fail
     go_region
     obtain ⟨R5,k5,hall,hkp,hZ1,a,hZ5,hib⟩ := H5.out;obtain ⟨R7,k7⟩ := R5.putNx 1 (by omega) (max (min (N.nx 1 - 1) (ii + 1)) (N.ma 1 + 1));have R8 := R7.below blq.drew;have k8 : qf (fun b => Z b \/ b = w.heap.size) w5 ((w5.setCell ⟨p,19,none⟩ (.int .i64 (max (min (N.nx 1 - 1) (ii + 1)) (N.ma 1 + 1)))).drew) := k7.drew
     have hGo := qaw R8 (fun b hb => Nat.lt_of_lt_of_le (hZ5 b hb) k8.size) (by have := a.ms; show N.ms.length < 999999; omega) (by have := a.len; show N.lg.l.length <= 1000000; omega) a.good
      (qah (fun j => by have := a.nx j; show _ <= N.nx j /\ N.nx j <= _; omega) (by have := a.nx 1; have := a.ma 1; omega)) a.sd (by have := a.n; show N.id < 4; omega) 1 (by omega)
     have HF := Lib.hid (k5.trans k8);clear R5 k5 hall hkp hZ1 a hZ5 hib R7 k7 R8 k8
     go_wp2_with fail
     refine hGo.mono ?_;rintro e w6 ⟨rfl,hT⟩;have HT := Lib.hid hT;clear hT hGo;go_wp2
     go_meet
     rw [if_neg (by simp)];exact HT.out.back rfl HF.out
  case rest =>
   obtain ⟨q6,xs6,K6,R6,hq6,k6⟩ := hcut;obtain ⟨R5,k5,hall,hkp,hZ1,a,hZ5,hib⟩ := H5.out
   have hX : ∃ c ls f1 f2,(if mb = true then granted { N with ac := g } 1 ii else refused { N with ac := g } 1 ii) = { N with ac := g,cm := c,ms := N.ms ++ ls,nx := f1,ma := f2 } := by
    cases mb with
    | true =>
      rw [if_pos rfl,qam];obtain ⟨c,ls,e⟩ := qaW { N with ac := g,ma := Node.put N.ma 1 (max (N.ma 1) ii),nx := Node.put N.nx 1 (max (N.nx 1) (max (N.ma 1) ii + 1)) } 1;exact ⟨c,ls,_,_,e⟩
    | false =>
      rw [if_neg (by simp)];unfold refused;obtain ⟨x,e⟩ := qbY { N with ac := g,nx := Node.put N.nx 1 (max (min (N.nx 1 - 1) (ii + 1)) (N.ma 1 + 1)) } 1;exact ⟨N.cm,[x],_,N.ma,e⟩
   obtain ⟨c,ls,f1,f2,hX⟩ := hX;rw [hX] at hall R6;have htd := a.td;have hTl := qbL R6 (fun b hb => Nat.lt_of_lt_of_le (hZ1 b hb) k6.size) ⟨a.n.1,by have := a.n; show N.id < 3; omega⟩ (by show N.td.length + N.rd.length <= 900000; omega);have HF := hdq4 hall hkp k6 hq6;clear R6 hq6 k6 R5 k5 hall hkp hZ1 a hZ5 hib hX H5 htd
   go_wp2_with fail
   refine hTl.mono ?_;rintro e w7 ⟨rfl,q7,R7,hq7,k7⟩;have HT := hdq3 R7 hq7 k7;clear R7 hq7 k7 hTl;go_wp2;refine bpq ?_;obtain ⟨hall,hkp,k6,hq6⟩ := HF.out;obtain ⟨R7,hq7,k7⟩ := HT.out;rw [hall];exact ⟨rfl,q7,xs6,K6,R7.less fun b hb => .inl hb,hq7.trans hq6,hkp.trans ((k6.trans k7).mono fun b hb => .inl hb)⟩
theorem qfv (h : RfAt w p N Z q s xs K) (hZ : ∀ b,Z b -> b < w.heap.size) (a : Able N) (m : Msg) (A : Option Addr) (cA : Nat) (E : Option Addr) (cE : Nat) (hf : m.f = 2) (hro : N.ro = 3) (hmi : 0 <= m.i) :
 Calls Tryz.prog 82 #[ptrV p,msgV m A cA E cE] w fun e w' => e = .returned (.tuple #[]) /\ Turned w w' p (N.apped m) Z q s := by
 have hp := h.lt;obtain ⟨mk,mf,mo,mt,mi,ml,mc,mx,mb,mes,msn⟩ := m;dsimp only at hf hmi;subst hf;obtain ⟨W1,hW1⟩ := exq (w.alloc (.cells #[.int .i64 mk, .int .i64 2, .int .i64 mo, .int .i64 mt, .int .i64 mi, .int .i64 ml, .int .i64 mc, .int .i64 mx, .bool mb, .slice A mes.length cA, .int .i64 msn.i, .int .i64 msn.t, .slice E msn.d.length cE] 51))
 have hb1 : Below w.heap.size w W1 := by rw [<- hW1]; exact blq.alloc nlq _
 have hrow : W1.heap[w.heap.size]? = some (.cells #[.int .i64 mk, .int .i64 2, .int .i64 mo, .int .i64 mt, .int .i64 mi, .int .i64 ml, .int .i64 mc, .int .i64 mx, .bool mb, .slice A mes.length cA, .int .i64 msn.i, .int .i64 msn.t, .slice E msn.d.length cE] 51) := by rw [<- hW1]; exact heap_alloc_new w _
 have hsz : W1.heap.size = w.heap.size + 1 := by rw [<- hW1]; simp
 have R1 := h.more (Y := fun b => b = w.heap.size) (fun b hb => by rw [hb]; exact nlq) hb1
 have hZ1 : ∀ b,(Z b \/ b = w.heap.size) -> b < W1.heap.size := fun b hb => by
  rcases hb with hb | rfl
  · have := hZ b hb; omega
  · omega
 have hkp : qf Z w W1 := keeps_below hb1 nlq
 have hlt1 : w.heap.size < W1.heap.size := by omega
 have n1 : p ≠ w.heap.size := by omega
 have n2 : (p = w.heap.size) = False := eq_false n1;have n3 : (w.heap.size = p) = False := eq_false n1.symm;have hall := qcg (N := N) (m := ⟨mk,2,mo,mt,mi,ml,mc,mx,mb,mes,msn⟩) hro;dsimp only at hall;rw [show (2 : Int).toNat = 2 from rfl] at hall;have c10 := R1.c10;rw [hro] at c10;have c25 := R1.c25;have d1 : W1.cell? ⟨w.heap.size,1,none⟩ = some (.int .i64 2) := qb hrow 1 _ rfl;have d7 : W1.cell? ⟨w.heap.size,7,none⟩ = some (.int .i64 mx) := qb hrow 7 _ rfl;have hBox : ∀ W,qf (fun b => Z b \/ b = w.heap.size) W1 W -> W.heap[w.heap.size]? = some (.cells #[.int .i64 mk, .int .i64 2, .int .i64 mo, .int .i64 mt, .int .i64 mi, .int .i64 ml, .int .i64 mc, .int .i64 mx, .bool mb, .slice A mes.length cA, .int .i64 msn.i, .int .i64 msn.t, .slice E msn.d.length cE] 51) := fun W hk => (hk.block _ hlt1 (.inr rfl)).trans hrow;obtain ⟨bx,hbx⟩ : ∃ b,decide (mx <= N.cx) = b := ⟨_,rfl⟩;have HB := hdq7 hall hkp hBox a hZ1 hmi hbx;have HR1 := Lib.hid R1;clear hall hkp hBox a hZ1 hmi R1 h hZ hro hb1 hrow
 go_enter Tryz.func82,Tryz.ntmps82
 go_wp2_with fail
 go_quiet (fail)
 have hdn1 := below_drewN (Below.refl W1.heap.size W1) nq;have c25 : (W1.drewN nq).cell? ⟨p,25,none⟩ = some (.int .i64 N.cx) := c25;have d7 : (W1.drewN nq).cell? ⟨w.heap.size,7,none⟩ = some (.int .i64 mx) := d7;generalize W1.drewN nq = W2 at *
 go_wp2_with fail
 go_quiet (fail)
 obtain ⟨hall,hkp,hBox,a,hZ1,hmi,hbx⟩ := HB.out;have hdn : Below W1.heap.size W1 (W2.drewN nq) := below_drewN hdn1 nq;have R3 := HR1.out.below hdn;have kk3 := keeps_below (Z := fun b => Z b \/ b = w.heap.size) hdn nlq;have hb3 := hBox _ kk3;generalize W2.drewN nq = w3 at *;have g7 : w3.cell? ⟨w.heap.size,7,none⟩ = some (.int .i64 mx) := qb hb3 7 _ rfl;have ca : w3.cell? ⟨p,24,none⟩ = some (.int .i64 (N.ac 2)) := R3.c24;have fa := R3.fz 24;have hbi := hbx;have HR3 := hdq3 R3 kk3 hbx;clear hall hkp hBox a hZ1 hmi hbx hbi hdn R3 kk3 hb3 HR1 d1 d7 c10 c25 hdn1
 go_upto_if 23 with fail
 go_cut [] (fun wx => RfAt wx p (qad N 2 mx) (fun b => Z b \/ b = w.heap.size) q s xs K /\ qf (fun b => Z b \/ b = w.heap.size) W1 wx)
 case first =>
  cases bx with
  | true =>
    go_wp2_with fail
    go_region
    go_wp2
    go_meet
    obtain ⟨R3,kk3,hbx⟩ := HR3.out;obtain ⟨R4,k4⟩ := R3.putAc 2 (by omega) (max (N.ac 2) mx);have e : qad N 2 mx = { N with ac := Node.put N.ac 2 (max (N.ac 2) mx) } := if_pos (of_decide_eq_true hbx);exact ⟨(R4.below blq.drew).cast e,(kk3.trans k4).drew⟩
  | false =>
    go_wp2
    go_meet
    obtain ⟨R3,kk3,hbx⟩ := HR3.out;have e : qad N 2 mx = N := if_neg (of_decide_eq_false hbx);exact ⟨R3.cast e,kk3⟩
 case rest =>
  obtain ⟨Rc,kc⟩ := hcut;obtain ⟨hall,hkp,hBox,a,hZ1,hmi,_⟩ := HB.out;obtain ⟨g,hg⟩ := qa7 N 2 mx;rw [hg] at Rc hall;have hb4 := hBox wc kc;have hli : N.lg.lastI < 1099511627776 := a.li
  have hl0 : 0 <= N.lg.lastI := by have := a.good.lim; have := a.good.lastI; omega
  have hLast := fun X (hX : Below wc.heap.size wc X) => qC (Rc.below hX) (by have := a.len; show N.lg.l.length <= 1000000; omega)
  obtain ⟨LI,hLI⟩ := exq (N.lg.lastI)
  have hLast : ∀ X,Below wc.heap.size wc X -> Calls Tryz.prog 32 #[ptrV p] X fun e w' => e = .returned (.int .i64 LI) /\ Below X.heap.size X w' := by rw [<- hLI]; exact hLast
  rw [hLI] at hall hli hl0;have g4 : wc.cell? ⟨w.heap.size,4,none⟩ = some (.int .i64 mi) := qb hb4 4 _ rfl;have hbz := hlt hb4;have H4 := hdq10 Rc kc hall hkp hBox a hZ1 hmi hli hl0;clear Rc kc hall hkp hBox a hZ1 hmi hg hb4 hli hl0 HB HR3 g7 ca fa hLI
  go_wp2_with fail
  refine wp_region_held_drew (S := (fun w' => w'.cell? ⟨w.heap.size,4,none⟩ = some (.int .i64 mi) /\ Below wc.heap.size wc w')) (by kernel_rfl) ⟨g4,blq.drew⟩ (fun hHeld => ?_);refine lsq 6 ?_;refine tkq 0 ?_;refine tkq 1 ?_;refine tkq 2 ?_;refine rdq1 3 fun KK hK => ?_;go_simp;refine (hLast _ hHeld.2).mono ?_;rintro e w5 ⟨rfl,hb5⟩;have HB5 := Lib.hid (hHeld.2.trans (hb5.mono hHeld.2.size));clear hb5;refine hK.out _ _ ⟨(HB5.out.cell (p := ⟨w.heap.size,4,none⟩) hbz).trans g4,HB5.out⟩ ?_;clear hK KK hHeld;intro hHeld
  try simp only [lpq]
  refine tkq 4 ?_;refine tkq 5 ?_;refine dnq ?_;clear hHeld hLast g4;obtain ⟨Rc,kc,hall,hkp,hBox,a,hZ1,hmi,hli,hl0⟩ := H4.out;have R5 := Rc.below HB5.out;have k5 := kc.trans (keeps_below HB5.out nlq);have hb5 := hBox w5 k5;have hZ5 : ∀ b,(Z b \/ b = w.heap.size) -> b < w5.heap.size := fun b hb => Nat.lt_of_lt_of_le (hZ1 b hb) k5.size;have g8 : w5.cell? ⟨w.heap.size,8,none⟩ = some (.bool mb) := qb hb5 8 _ rfl
  have hib : 0 <= min mi LI /\ min mi LI <= 1099511627776 := by omega
  generalize min mi LI = ii at *;have cn : w5.cell? ⟨p,22,none⟩ = some (.int .i64 (N.nx 2)) := R5.c22;have cm : w5.cell? ⟨p,23,none⟩ = some (.int .i64 (N.ma 2)) := R5.c23;have fn := R5.fz 22;have fm := R5.fz 23;have g1 : w5.cell? ⟨w.heap.size,1,none⟩ = some (.int .i64 2) := qb hb5 1 _ rfl;have y1 : IntKind.i64.wrap (max (N.ma 2) ii + 1) = max (N.ma 2) ii + 1 := IntWalk.i64_in _ (by have := a.ma 2; omega);have y2 : IntKind.i64.wrap (N.nx 2 - 1) = N.nx 2 - 1 := IntWalk.i64_in _ (by have := a.nx 2; omega);have y3 : IntKind.i64.wrap (ii + 1) = ii + 1 := IntWalk.i64_in _ (by omega);have y4 : IntKind.i64.wrap (N.ma 2 + 1) = N.ma 2 + 1 := IntWalk.i64_in _ (by have := a.ma 2; omega);have y5 : wrap64 (N.nx 2 - 1) = N.nx 2 - 1 := IntWalk.wrap64_in _ (by have := a.nx 2; omega);have H5 := hdq8 R5 k5 hall hkp hZ1 a hZ5 hib;clear Rc kc R5 k5 hall hkp hBox a hZ1 hZ5 hmi hb5 HB5 H4 hbz hib hli hl0
  go_upto_if 40 with fail
  go_cut [] (fun wx => Turned W1 wx p (if mb = true then granted { N with ac := g } 2 ii else refused { N with ac := g } 2 ii) (fun b => Z b \/ b = w.heap.size) q s)
  case first =>
   cases mb with
   | true =>
     go_wp2_with fail
     go_region
     obtain ⟨R5,k5,hall,hkp,hZ1,a,hZ5,hib⟩ := H5.out;obtain ⟨R6,k6⟩ := R5.putMa 2 (by omega) (max (N.ma 2) ii);obtain ⟨R7,k7⟩ := R6.putNx 2 (by omega) (max (N.nx 2) (max (N.ma 2) ii + 1));have R8 := R7.below blq.drew;have k8 : qf (fun b => Z b \/ b = w.heap.size) w5 (((w5.setCell ⟨p,23,none⟩ (.int .i64 (max (N.ma 2) ii))).setCell ⟨p,22,none⟩ (.int .i64 (max (N.nx 2) (max (N.ma 2) ii + 1)))).drew) := (k6.trans k7).drew
     have hGo := qcF R8 (fun b hb => Nat.lt_of_lt_of_le (hZ5 b hb) k8.size) ⟨⟨a.n.1,by have := a.n; show N.id < 3; omega⟩,by have := a.ms; show N.ms.length < 999990; omega,a.len,a.good,a.sd,
      qah (fun j => by have := a.nx j; show _ <= N.nx j /\ N.nx j <= _; omega) (by have := a.nx 2; have := a.ma 2; omega),
      qah (fun j => by have := a.ma j; show _ <= N.ma j /\ N.ma j <= _; omega) (by have := a.ma 2; omega)⟩ 2 (by omega)
     have HF := Lib.hid (k5.trans k8);clear R5 k5 hall hkp hZ1 a hZ5 hib R6 k6 R7 k7 R8 k8
     go_wp2_with fail
     refine hGo.mono ?_;rintro e w6 ⟨rfl,hT⟩;have HT := Lib.hid hT;clear hT hGo;go_wp2
     go_meet
     rw [if_pos (by trivial),qam];exact HT.out.back rfl HF.out
   | false =>
     go_wp2_with fail
     go_region
     obtain ⟨R5,k5,hall,hkp,hZ1,a,hZ5,hib⟩ := H5.out;obtain ⟨R7,k7⟩ := R5.putNx 2 (by omega) (max (min (N.nx 2 - 1) (ii + 1)) (N.ma 2 + 1));have R8 := R7.below blq.drew;have k8 : qf (fun b => Z b \/ b = w.heap.size) w5 ((w5.setCell ⟨p,22,none⟩ (.int .i64 (max (min (N.nx 2 - 1) (ii + 1)) (N.ma 2 + 1)))).drew) := k7.drew
     have hGo := qaw R8 (fun b hb => Nat.lt_of_lt_of_le (hZ5 b hb) k8.size) (by have := a.ms; show N.ms.length < 999999; omega) (by have := a.len; show N.lg.l.length <= 1000000; omega) a.good
      (qah (fun j => by have := a.nx j; show _ <= N.nx j /\ N.nx j <= _; omega) (by have := a.nx 2; have := a.ma 2; omega)) a.sd (by have := a.n; show N.id < 4; omega) 2 (by omega)
     have HF := Lib.hid (k5.trans k8);clear R5 k5 hall hkp hZ1 a hZ5 hib R7 k7 R8 k8
     go_wp2_with fail
     refine hGo.mono ?_;rintro e w6 ⟨rfl,hT⟩;have HT := Lib.hid hT;clear hT hGo;go_wp2
     go_meet
     rw [if_neg (by simp)];exact HT.out.back rfl HF.out
  case rest =>
   obtain ⟨q6,xs6,K6,R6,hq6,k6⟩ := hcut;obtain ⟨R5,k5,hall,hkp,hZ1,a,hZ5,hib⟩ := H5.out
   have hX : ∃ c ls f1 f2,(if mb = true then granted { N with ac := g } 2 ii else refused { N with ac := g } 2 ii) = { N with ac := g,cm := c,ms := N.ms ++ ls,nx := f1,ma := f2 } := by
    cases mb with
    | true =>
      rw [if_pos rfl,qam];obtain ⟨c,ls,e⟩ := qaW { N with ac := g,ma := Node.put N.ma 2 (max (N.ma 2) ii),nx := Node.put N.nx 2 (max (N.nx 2) (max (N.ma 2) ii + 1)) } 2;exact ⟨c,ls,_,_,e⟩
    | false =>
      rw [if_neg (by simp)];unfold refused;obtain ⟨x,e⟩ := qbY { N with ac := g,nx := Node.put N.nx 2 (max (min (N.nx 2 - 1) (ii + 1)) (N.ma 2 + 1)) } 2;exact ⟨N.cm,[x],_,N.ma,e⟩
   obtain ⟨c,ls,f1,f2,hX⟩ := hX;rw [hX] at hall R6;have htd := a.td;have hTl := qbL R6 (fun b hb => Nat.lt_of_lt_of_le (hZ1 b hb) k6.size) ⟨a.n.1,by have := a.n; show N.id < 3; omega⟩ (by show N.td.length + N.rd.length <= 900000; omega);have HF := hdq4 hall hkp k6 hq6;clear R6 hq6 k6 R5 k5 hall hkp hZ1 a hZ5 hib hX H5 htd
   go_wp2_with fail
   refine hTl.mono ?_;rintro e w7 ⟨rfl,q7,R7,hq7,k7⟩;have HT := hdq3 R7 hq7 k7;clear R7 hq7 k7 hTl;go_wp2;refine bpq ?_;obtain ⟨hall,hkp,k6,hq6⟩ := HF.out;obtain ⟨R7,hq7,k7⟩ := HT.out;rw [hall];exact ⟨rfl,q7,xs6,K6,R7.less fun b hb => .inl hb,hq7.trans hq6,hkp.trans ((k6.trans k7).mono fun b hb => .inl hb)⟩
theorem qdU (h : RfAt w p N Z q s xs K) (hZ : ∀ b,Z b -> b < w.heap.size) (a : Able N) (m : Msg) (A : Option Addr) (cA : Nat) (E : Option Addr) (cE : Nat) (hf : 0 <= m.f /\ m.f < 3) (hro : N.ro = 3) (hmi : 0 <= m.i) :
 Calls Tryz.prog 82 #[ptrV p,msgV m A cA E cE] w fun e w' => e = .returned (.tuple #[]) /\ Turned w w' p (N.apped m) Z q s := by
 obtain e | e | e : m.f = 0 \/ m.f = 1 \/ m.f = 2 := by omega
 · exact qft h hZ a m A cA E cE e hro hmi
 · exact qfu h hZ a m A cA E cE e hro hmi
 · exact qfv h hZ a m A cA E cE e hro hmi
theorem qeI (h : RfAt w p N Z q s xs K) (m : Msg) (A : Option Addr) (cA : Nat) (E : Option Addr) (cE : Nat) (hro : N.ro ≠ 3) :
 Calls Tryz.prog 82 #[ptrV p,msgV m A cA E cE] w fun e w' => e = .returned (.tuple #[]) /\ Turned w w' p (N.apped m) Z q s := by
 have hp := h.lt;obtain ⟨W1,hW1⟩ := exq (w.alloc (.cells #[.int .i64 m.k, .int .i64 m.f, .int .i64 m.o, .int .i64 m.t, .int .i64 m.i, .int .i64 m.l, .int .i64 m.c, .int .i64 m.x, .bool m.b, .slice A m.es.length cA, .int .i64 m.s.i, .int .i64 m.s.t, .slice E m.s.d.length cE] 51))
 have hb1 : Below w.heap.size w W1 := by rw [<- hW1]; exact blq.alloc nlq _
 have R1 := h.below hb1;have c10 := R1.c10;have e1 : (N.ro == 3) = false := beq_eq_false_iff_ne.2 hro;have e1' : (N.ro = 3) = False := eq_false hro
 have hx : N.apped m = N := by
  unfold Node.apped;exact if_pos hro
 have HX := hdq3 hx R1 (keeps_below (Z := Z) hb1 nlq);clear h hb1 R1 hx hro
 go_enter Tryz.func82,Tryz.ntmps82
 go_wp2;refine bpq ?_;refine ⟨rfl,?_⟩;rw [HX.out.1];exact ⟨q,xs,K,HX.out.2.1,rfl,HX.out.2.2⟩
end Go.Proofs.YtmiijlecfiddmaaGreat
