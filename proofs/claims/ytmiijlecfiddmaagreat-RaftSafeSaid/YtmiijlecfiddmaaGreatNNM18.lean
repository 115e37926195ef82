/- The program's node takes a leader's snap. -/
import Derived.Test.YtmiijlecfiddmaaGreatNNM01
import Derived.Test.YtmiijlecfiddmaaGreatNNM17
set_option linter.unusedVariables false
set_option linter.unusedSimpArgs false
set_option maxRecDepth 100000
set_option maxHeartbeats 3200000
namespace Go.Proofs.YtmiijlecfiddmaaGreat
open Go.RowKit Go.Shelf
attribute [local go_sem] Oper.semAt_some
variable {w : World} {p : Nat} {N : Node} {Z : Nat -> Prop} {q : Ptrs} {s : Nat} {xs : List MLay} {K : Nat -> Prop}
theorem RfAt.turnS {w w' : World} {p : Nat} {N N' : Node} {Z : Nat -> Prop} {q : Ptrs} {s : Nat} {xs : List MLay} {K : Nat -> Prop} (h : RfAt w p N Z q s xs K) {E' : Option Addr} {c' : Nat} (hs : w.heap.size <= w'.heap.size) (hk : ∀ b,b < w.heap.size -> b ≠ p -> w'.heap[b]? = w.heap[b]?) (hrow : w'.heap[p]? = some (.cells (rfC N' { q with E := E',cE := c' }) 90))
 (e1 : N'.lg = N.lg) (e2 : N'.rd = N.rd) (e3 : N'.ms = N.ms) (e4 : N'.td = N.td) (hsn : Lies w' E' N'.sn.d.length c' N'.sn.d) (hsk : 0 < N'.sn.d.length -> ∀ g o,E' = some ⟨g,o,none⟩ -> K g) (hms : ∀ x ∈ xs,qo w (Pay N'.sn.d.length E' K) x.m x.A x.cA x.E x.cE) : RfAt w' p N' Z { q with E := E',cE := c' } s xs K where
 row := hrow
 away := h.away
 kz b hb := ⟨(h.kz b hb).1,(h.kz b hb).2.1,Nat.lt_of_lt_of_le (h.kz b hb).2.2 hs⟩
 rz := h.rz
 mz := h.mz
 tz := h.tz
 log := by rw [e1]; exact h.log.keep hs fun b hb hz => hk b hb fun e => hz (.inr (.inl e))
 rds := by rw [e2]; exact h.rds.keep fun b hb => hk b (h.rds.lt hb) (h.rz b hb).2.1
 tds := by rw [e4]; exact h.tds.keep fun b hb => hk b (h.tds.lt hb) (h.tz b hb).2.1
 mss := by rw [e3]; exact h.mss.keep fun b hb => hk b (h.mss.lt hb) (h.mz b hb).2.1
 map := by rw [e3]; exact h.map
 msg x hx := (hms x hx).keep hs fun b hb hkb => hk b hb (h.kz b hkb.1).2.1
 snp := hsn
 snk := hsk
theorem RfAt.fresh_pay {w w' : World} {p : Nat} {N : Node} {Z : Nat -> Prop} {q : Ptrs} {s : Nat} {xs : List MLay} {K : Nat -> Prop} (h : RfAt w p N Z q s xs K) (hb : Below w.heap.size w w') {E' : Option Addr} {n : Nat} (hE : ∀ b,blk E' b -> w.heap.size <= b) :
 ∀ x ∈ xs,qo w' (Pay n E' (fun b => K b \/ (w.heap.size <= b /\ b < w'.heap.size))) x.m x.A x.cA x.E x.cE := fun x hx => ((h.below hb).msg x hx).mono fun b hp => ⟨.inl hp.1,fun e => by have h1 := hE b e.2; have h2 := (h.kz b hp.1).2.2; omega⟩
theorem RfAt.term (h : RfAt w p N Z q s xs K) (hl : N.lg.l.length <= 1000000) (hg : Good N.lg) (x : Int) :
 Calls Tryz.prog 45 #[ptrV q.l, .int .i64 x] w fun e w' => e = .returned (atV (N.lg.at_ x)) /\ Below w.heap.size w w' := by
 obtain ⟨A,c,hr⟩ := h.log.rd;exact qaf hr hl hg x
def restored (N : Node) (x : Ent) : Node :=
 { (if N.lg.at_ x.i = some x.t then N else { N with lg := ⟨x.i,x.t,[],0⟩,sn := x,kp := true }) with cm := x.i }
theorem qfs (h : RfAt w p N Z q s xs K) (hZ : ∀ b,Z b -> b < w.heap.size) (hg : Good N.lg) (hl : N.lg.l.length <= 1000000) (si st : Int) (sd : List UInt8) (E : Option Addr) (cE : Nat) (hE : Lies w E sd.length cE sd) (hEz : 0 < sd.length -> ∀ g o,E = some ⟨g,o,none⟩ -> Z g) (hsd : sd.length <= 50000) (hbase : RL.base si st = true) :
 Calls Tryz.prog 102 #[ptrV p, .agg #[.int .i64 si, .int .i64 st, .slice E sd.length cE]] w fun e w' => e = .returned (.tuple #[]) /\ qaD w w' p N (restored N ⟨si,st,sd⟩) Z q s := by
 have hp := h.lt;obtain ⟨W1,hW1⟩ := exq (w.alloc (.cells #[.int .i64 si, .int .i64 st, .slice E sd.length cE] 25))
 have hb1 : Below w.heap.size w W1 := by rw [<- hW1]; exact blq.alloc nlq _
 have hrow : W1.heap[w.heap.size]? = some (.cells #[.int .i64 si, .int .i64 st, .slice E sd.length cE] 25) := by rw [<- hW1]; exact heap_alloc_new w _
 have hsz : W1.heap.size = w.heap.size + 1 := by rw [<- hW1]; simp
 have R1 := h.more (Y := fun b => b = w.heap.size) (fun b hb => by rw [hb]; exact nlq) hb1
 have hZ1 : ∀ b,(Z b \/ b = w.heap.size) -> b < W1.heap.size := fun b hb => by
  rcases hb with hb | rfl
  · have := hZ b hb; omega
  · omega
 have hkp : qf Z w W1 := keeps_below hb1 nlq;have hE1 : Lies W1 E sd.length cE sd := hE.below hb1 nlq
 have hlt1 : w.heap.size < W1.heap.size := by omega
 have hp1 : p < W1.heap.size := by omega
 have n1 : p ≠ w.heap.size := by omega
 have n2 : (p = w.heap.size) = False := eq_false n1;have n3 : (w.heap.size = p) = False := eq_false n1.symm;have c8 := R1.c8;have d0 : W1.cell? ⟨w.heap.size,0,none⟩ = some (.int .i64 si) := qb hrow 0 _ rfl;have d1 : W1.cell? ⟨w.heap.size,1,none⟩ = some (.int .i64 st) := qb hrow 1 _ rfl
 have hTerm := fun X (hX : Below W1.heap.size W1 X) => (R1.below hX).term hl hg si
 have hKS : ∀ W,Below W1.heap.size W1 W -> (fun w' : World => w'.cell? ⟨p,8,none⟩ = some (ptrV q.l) /\ w'.cell? ⟨w.heap.size,0,none⟩ = some (.int .i64 si) /\ w'.cell? ⟨w.heap.size,1,none⟩ = some (.int .i64 st) /\ Below W1.heap.size W1 w') W := fun W hW => ⟨(hW.cell (p := ⟨p,8,none⟩) hp1).trans c8,(hW.cell (p := ⟨w.heap.size,0,none⟩) hlt1).trans d0,(hW.cell (p := ⟨w.heap.size,1,none⟩) hlt1).trans d1,hW⟩;have HK := Lib.hid hKS;have hEz1 : 0 < sd.length -> ∀ g o,E = some ⟨g,o,none⟩ -> (Z g \/ g = w.heap.size) := fun h0 g o e => .inl (hEz h0 g o e);have hBox : ∀ W,qf (fun b => Z b \/ b = w.heap.size) W1 W -> W.heap[w.heap.size]? = some (.cells #[.int .i64 si, .int .i64 st, .slice E sd.length cE] 25) := fun W hk => (hk.block _ hlt1 (.inr rfl)).trans hrow;have H := hdq8 R1 hZ1 hkp hE1 hEz1 hbase hsd hBox;clear h hZ R1 hZ1 hkp hb1 hE1 hE hEz hEz1 hbase hrow hKS hBox c8 d0 d1 hsd;rcases ho : N.lg.at_ si with _ | tt
 · rw [ho] at hTerm;have HO := Lib.hid (show ¬ N.lg.at_ si = some st by rw [ho]; simp);clear ho
   go_enter Tryz.func102,Tryz.ntmps102
   go_wp2_with fail
   refine wp_region_held_drew (S := (fun w' => w'.cell? ⟨p,8,none⟩ = some (ptrV q.l) /\ w'.cell? ⟨w.heap.size,0,none⟩ = some (.int .i64 si) /\ w'.cell? ⟨w.heap.size,1,none⟩ = some (.int .i64 st) /\ Below W1.heap.size W1 w')) (by kernel_rfl) (HK.out _ blq.drew) (fun hHeld => ?_);refine lsq 12 ?_;refine tkq 0 ?_;refine tkq 1 ?_;refine tkq 2 ?_;refine tkq 3 ?_;refine tkq 4 ?_;refine tkq 5 ?_;refine rdq1 6 fun KK hK => ?_;go_simp;refine (hTerm _ hHeld.2.2.2).mono ?_;rintro e w2 ⟨rfl,hb2⟩;have HB2 := Lib.hid (hHeld.2.2.2.trans (hb2.mono hHeld.2.2.2.size));clear hb2;refine hK.out _ _ (HK.out _ HB2.out) ?_;clear hK KK hHeld;intro hHeld
   try simp only [lpq]
   refine tkq 7 ?_;refine tkq 8 ?_;refine tkq 9 ?_;refine tkq 10 ?_;refine tkq 11 ?_;refine dnq ?_;obtain ⟨R1,hZ1,hkp,hE1,hEz1,hbase,hsd,hBox⟩ := H.out;have R2 := R1.below HB2.out;have kk2 := keeps_below (Z := fun b => Z b \/ b = w.heap.size) HB2.out nlq;have hZ2 : ∀ b,(Z b \/ b = w.heap.size) -> b < w2.heap.size := fun b hb => Nat.lt_of_lt_of_le (hZ1 b hb) kk2.size;have hb0 := hBox w2 kk2;have d0 : w2.cell? ⟨w.heap.size,0,none⟩ = some (.int .i64 si) := qb hb0 0 _ rfl;have d1 : w2.cell? ⟨w.heap.size,1,none⟩ = some (.int .i64 st) := qb hb0 1 _ rfl;have c8 := R2.c8
   have hRes := fun X (hX : Below w2.heap.size w2 X) => qdt (R2.below hX).log si st hbase
   have hKS3 : ∀ W,qf (fun b => (Z b \/ b = w.heap.size) \/ b = p \/ Parts q K b) w2 W -> (fun w' : World => w'.cell? ⟨p,8,none⟩ = some (ptrV q.l) /\ w'.cell? ⟨w.heap.size,0,none⟩ = some (.int .i64 si) /\ w'.cell? ⟨w.heap.size,1,none⟩ = some (.int .i64 st) /\ qf (fun b => (Z b \/ b = w.heap.size) \/ b = p \/ Parts q K b) w2 w') W := fun W hk => ⟨hk.cell c8 (.inr (.inl rfl)),hk.cell d0 (.inl (.inr rfl)),hk.cell d1 (.inl (.inr rfl)),hk⟩;have HK3 := Lib.hid hKS3;have HR := hdq8 R2 kk2 hZ2 hkp hE1 hEz1 hsd hBox;clear R1 hZ1 hkp hE1 hEz1 hbase hBox R2 hb0 kk2 hZ2 hKS3 hHeld hTerm HK H HB2 hsd c8
   go_wp2_with fail
   refine wp_region_held_drew (S := (fun w' => w'.cell? ⟨p,8,none⟩ = some (ptrV q.l) /\ w'.cell? ⟨w.heap.size,0,none⟩ = some (.int .i64 si) /\ w'.cell? ⟨w.heap.size,1,none⟩ = some (.int .i64 st) /\ qf (fun b => (Z b \/ b = w.heap.size) \/ b = p \/ Parts q K b) w2 w')) (by kernel_rfl) (HK3.out _ (qf.refl _ _).drew) (fun hHeld => ?_);refine lsq 9 ?_;refine tkq 0 ?_;refine tkq 1 ?_;refine tkq 2 ?_;refine tkq 3 ?_;refine tkq 4 ?_;refine tkq 5 ?_;refine tkq 6 ?_;refine tkq 7 ?_;refine rdq1 8 fun KK hK => ?_;go_simp;refine (hRes _ blq.drew).mono ?_;rintro e w3 ⟨rfl,hlg,hk3⟩;have HT := hdq2 hlg (hHeld.2.2.2.trans hk3);clear hlg hk3;refine hK.out _ _ (HK3.out _ HT.out.2) ?_;clear hK KK hHeld;intro hHeld
   try simp only [lpq]
   refine dnq ?_;obtain ⟨R2,kk2,hZ2,hkp,hE1,hEz1,hsd,hBox⟩ := HR.out;have R3 := R2.logged HT.out.1 HT.out.2;have kk3 := kk2.trans (HT.out.2.mono fun b hb => .inl hb);have hb0 := hBox w3 kk3;have d0 : w3.cell? ⟨w.heap.size,0,none⟩ = some (.int .i64 si) := qb hb0 0 _ rfl;have d1 : w3.cell? ⟨w.heap.size,1,none⟩ = some (.int .i64 st) := qb hb0 1 _ rfl;have d2 : w3.cell? ⟨w.heap.size,2,none⟩ = some (.slice E sd.length cE) := qb hb0 2 _ rfl
   have hE3 : Lies w3 E sd.length cE sd := hE1.keep kk3.size fun h0 g o e hg => kk3.block g hg (hEz1 h0 g o e)
   have hCo := qO si st E sd.length cE sd w3 hE3 (by omega);have hZ3 : ∀ b,(Z b \/ b = w.heap.size) -> b < w3.heap.size := fun b hb => Nat.lt_of_lt_of_le (hZ2 b hb) (HT.out.2.size);have HF := hdq5 R3 kk3 hZ3 hkp hb0;clear R2 kk2 hZ2 hkp hE1 hEz1 hsd hBox R3 kk3 hb0 hE3 hZ3 hHeld hRes HK3 HR HT
   go_wp2_with fail
   refine hCo.mono ?_;rintro e w4 ⟨E4,k4,rfl,hlay,hblk,hb4⟩;obtain ⟨R3,kk3,hZ3,hkp,hb0⟩ := HF.out;have R4 := R3.grow hZ3 hb4;have hbx : w4.heap[w.heap.size]? = some (.cells #[.int .i64 si, .int .i64 st, .slice E sd.length cE] 25) := (hb4.block _ (hlt hb0)).trans hb0;have d0 : w4.cell? ⟨w.heap.size,0,none⟩ = some (.int .i64 si) := qb hbx 0 _ rfl;have x4 := R4.c4;have x5 := R4.c5;have x6 := R4.c6;have x7 := R4.c7;have x9 := R4.c9;have f4 := R4.fz 4;have f5 := R4.fz 5;have f6 := R4.fz 6;have f7 := R4.fz 7;have f9 := R4.fz 9;have hO := R4.on;have hms4 := R3.fresh_pay hb4 (E' := E4) (n := sd.length) fun b hb => Nat.le_trans (Nat.le_add_right _ 2) (hblk b hb);have HG := hdq9 R4 (kk3.trans (keeps_below hb4 nlq)) hkp hlay hblk hO hb4 R3.lt hms4;clear hms4 R3 kk3 hZ3 hkp hb0 R4 hbx hlay hblk hb4 hCo hO HF;go_wp2;refine bpq ?_;obtain ⟨R4,kk4,hkp,hlay,hblk,hO,hb4,hlt3,hms4⟩ := HG.out;have z0 := OnP.puq hO 4 (.int .i64 si);have z1 := OnP.puq z0 5 (.int .i64 st);have z2 := OnP.puq z1 6 (.slice E4 sd.length k4);have z3 := OnP.puq z2 7 (.bool true);have z4 := OnP.puq z3 9 (.int .i64 si);refine ⟨rfl,0,?_,?_⟩
   · have e : restored N ⟨si,st,sd⟩ = { N with lg := ⟨si,st,[],0⟩,sn := ⟨si,st,sd⟩,kp := true,cm := si } := by
      unfold restored;rw [if_neg HO.out]
     rw [e];have hoff : ∀ b,b ≠ p -> _ := z4.off;refine ⟨{ q with E := E4,cE := k4 },xs,_,RfAt.less (RfAt.turnS (N' := { N with lg := ⟨si,st,[],0⟩,sn := ⟨si,st,sd⟩,kp := true,cm := si }) R4 (Nat.le_of_eq z4.size.symm) (fun b _ hb => z4.off b hb) z4.row rfl rfl rfl rfl ?_ ?_ hms4) (fun b hb => .inl hb),rfl,hkp.trans ((kk4.trans (z4.keeps R4.away)).mono fun b hb => .inl hb)⟩
     · exact hlay.2.1.keep (Nat.le_of_eq z4.size.symm) fun h0 g o e hg => z4.off g fun e' => by
        have h1 := hblk g ⟨o,e⟩;subst e';omega
     · intro h0 g o e;obtain ⟨g',o',e',hg',_⟩ := hlay.2.1.2.2.2 h0
       cases (Option.some.inj (e.symm.trans e'))
       exact .inr ⟨Nat.le_trans (Nat.le_add_right _ 2) (hblk g ⟨o,e⟩),hg'⟩
   · intro _
     have e : (restored N ⟨si,st,sd⟩).lg = ⟨si,st,[],0⟩ := by
      unfold restored;rw [if_neg HO.out]
     rw [e];exact .inl ⟨rfl,rfl⟩
 · rw [ho] at hTerm
   by_cases hts : tt = st
   · have HO := Lib.hid (show N.lg.at_ si = some st by rw [ho,hts]);have e1 : (tt == st) = true := beq_iff_eq.2 hts;clear ho hts
     go_enter Tryz.func102,Tryz.ntmps102
     go_wp2_with fail
     refine wp_region_held_drew (S := (fun w' => w'.cell? ⟨p,8,none⟩ = some (ptrV q.l) /\ w'.cell? ⟨w.heap.size,0,none⟩ = some (.int .i64 si) /\ w'.cell? ⟨w.heap.size,1,none⟩ = some (.int .i64 st) /\ Below W1.heap.size W1 w')) (by kernel_rfl) (HK.out _ blq.drew) (fun hHeld => ?_);refine lsq 12 ?_;refine tkq 0 ?_;refine tkq 1 ?_;refine tkq 2 ?_;refine tkq 3 ?_;refine tkq 4 ?_;refine tkq 5 ?_;refine rdq1 6 fun KK hK => ?_;go_simp;refine (hTerm _ hHeld.2.2.2).mono ?_;rintro e w2 ⟨rfl,hb2⟩;have HB2 := Lib.hid (hHeld.2.2.2.trans (hb2.mono hHeld.2.2.2.size));clear hb2;refine hK.out _ _ (HK.out _ HB2.out) ?_;clear hK KK hHeld;intro hHeld
     try simp only [lpq]
     refine tkq 7 ?_;refine tkq 8 ?_;refine tkq 9 ?_;refine tkq 10 ?_;refine tkq 11 ?_;refine dnq ?_;obtain ⟨R1,hZ1,hkp,hE1,hEz1,hbase,hsd,hBox⟩ := H.out;have R2 := R1.below HB2.out;have hb0 := hBox w2 (keeps_below HB2.out nlq);have k2 : qf Z w w2 := hkp.trans (keeps_below HB2.out nlq);have d0 : w2.cell? ⟨w.heap.size,0,none⟩ = some (.int .i64 si) := qb hb0 0 _ rfl;have d1 : w2.cell? ⟨w.heap.size,1,none⟩ = some (.int .i64 st) := qb hb0 1 _ rfl;have c9 := R2.c9;have f9 := R2.fz 9;obtain ⟨R4,k4⟩ := R2.setCm si;have HF := hdq2 R4 (k2.trans (k4.mono fun b hb => .inl hb));clear R1 hZ1 hkp hE1 hEz1 hbase hBox R2 hb0 k2 R4 k4 hHeld hTerm HK H HB2 hsd;go_wp2;refine bpq ?_;obtain ⟨R4,k4⟩ := HF.out;refine ⟨rfl,s,?_,?_⟩
     · have e : restored N ⟨si,st,sd⟩ = { N with cm := si } := by
        unfold restored;rw [if_pos HO.out]
       rw [e];exact ⟨q,xs,K,R4.less fun b hb => .inl hb,rfl,k4⟩
     · have e : (restored N ⟨si,st,sd⟩).lg = N.lg := by
        unfold restored;rw [if_pos HO.out]
       rw [e];exact id
   · have HO := Lib.hid (show ¬ N.lg.at_ si = some st by rw [ho]; exact fun e => hts (Option.some.inj e));have e1 : (tt == st) = false := beq_eq_false_iff_ne.2 hts;have e2 : (tt = st) = False := eq_false hts;clear ho hts
     go_enter Tryz.func102,Tryz.ntmps102
     go_wp2_with fail
     refine wp_region_held_drew (S := (fun w' => w'.cell? ⟨p,8,none⟩ = some (ptrV q.l) /\ w'.cell? ⟨w.heap.size,0,none⟩ = some (.int .i64 si) /\ w'.cell? ⟨w.heap.size,1,none⟩ = some (.int .i64 st) /\ Below W1.heap.size W1 w')) (by kernel_rfl) (HK.out _ blq.drew) (fun hHeld => ?_);refine lsq 12 ?_;refine tkq 0 ?_;refine tkq 1 ?_;refine tkq 2 ?_;refine tkq 3 ?_;refine tkq 4 ?_;refine tkq 5 ?_;refine rdq1 6 fun KK hK => ?_;go_simp;refine (hTerm _ hHeld.2.2.2).mono ?_;rintro e w2 ⟨rfl,hb2⟩;have HB2 := Lib.hid (hHeld.2.2.2.trans (hb2.mono hHeld.2.2.2.size));clear hb2;refine hK.out _ _ (HK.out _ HB2.out) ?_;clear hK KK hHeld;intro hHeld
     try simp only [lpq]
     refine tkq 7 ?_;refine tkq 8 ?_;refine tkq 9 ?_;refine tkq 10 ?_;refine tkq 11 ?_;refine dnq ?_;obtain ⟨R1,hZ1,hkp,hE1,hEz1,hbase,hsd,hBox⟩ := H.out;have R2 := R1.below HB2.out;have kk2 := keeps_below (Z := fun b => Z b \/ b = w.heap.size) HB2.out nlq;have hZ2 : ∀ b,(Z b \/ b = w.heap.size) -> b < w2.heap.size := fun b hb => Nat.lt_of_lt_of_le (hZ1 b hb) kk2.size;have hb0 := hBox w2 kk2;have d0 : w2.cell? ⟨w.heap.size,0,none⟩ = some (.int .i64 si) := qb hb0 0 _ rfl;have d1 : w2.cell? ⟨w.heap.size,1,none⟩ = some (.int .i64 st) := qb hb0 1 _ rfl;have c8 := R2.c8
     have hRes := fun X (hX : Below w2.heap.size w2 X) => qdt (R2.below hX).log si st hbase
     have hKS3 : ∀ W,qf (fun b => (Z b \/ b = w.heap.size) \/ b = p \/ Parts q K b) w2 W -> (fun w' : World => w'.cell? ⟨p,8,none⟩ = some (ptrV q.l) /\ w'.cell? ⟨w.heap.size,0,none⟩ = some (.int .i64 si) /\ w'.cell? ⟨w.heap.size,1,none⟩ = some (.int .i64 st) /\ qf (fun b => (Z b \/ b = w.heap.size) \/ b = p \/ Parts q K b) w2 w') W := fun W hk => ⟨hk.cell c8 (.inr (.inl rfl)),hk.cell d0 (.inl (.inr rfl)),hk.cell d1 (.inl (.inr rfl)),hk⟩;have HK3 := Lib.hid hKS3;have HR := hdq8 R2 kk2 hZ2 hkp hE1 hEz1 hsd hBox;clear R1 hZ1 hkp hE1 hEz1 hbase hBox R2 hb0 kk2 hZ2 hKS3 hHeld hTerm HK H HB2 hsd c8
     go_wp2_with fail
     refine wp_region_held_drew (S := (fun w' => w'.cell? ⟨p,8,none⟩ = some (ptrV q.l) /\ w'.cell? ⟨w.heap.size,0,none⟩ = some (.int .i64 si) /\ w'.cell? ⟨w.heap.size,1,none⟩ = some (.int .i64 st) /\ qf (fun b => (Z b \/ b = w.heap.size) \/ b = p \/ Parts q K b) w2 w')) (by kernel_rfl) (HK3.out _ (qf.refl _ _).drew) (fun hHeld => ?_);refine lsq 9 ?_;refine tkq 0 ?_;refine tkq 1 ?_;refine tkq 2 ?_;refine tkq 3 ?_;refine tkq 4 ?_;refine tkq 5 ?_;refine tkq 6 ?_;refine tkq 7 ?_;refine rdq1 8 fun KK hK => ?_;go_simp;refine (hRes _ blq.drew).mono ?_;rintro e w3 ⟨rfl,hlg,hk3⟩;have HT := hdq2 hlg (hHeld.2.2.2.trans hk3);clear hlg hk3;refine hK.out _ _ (HK3.out _ HT.out.2) ?_;clear hK KK hHeld;intro hHeld
     try simp only [lpq]
     refine dnq ?_;obtain ⟨R2,kk2,hZ2,hkp,hE1,hEz1,hsd,hBox⟩ := HR.out;have R3 := R2.logged HT.out.1 HT.out.2;have kk3 := kk2.trans (HT.out.2.mono fun b hb => .inl hb);have hb0 := hBox w3 kk3;have d0 : w3.cell? ⟨w.heap.size,0,none⟩ = some (.int .i64 si) := qb hb0 0 _ rfl;have d1 : w3.cell? ⟨w.heap.size,1,none⟩ = some (.int .i64 st) := qb hb0 1 _ rfl;have d2 : w3.cell? ⟨w.heap.size,2,none⟩ = some (.slice E sd.length cE) := qb hb0 2 _ rfl
     have hE3 : Lies w3 E sd.length cE sd := hE1.keep kk3.size fun h0 g o e hg => kk3.block g hg (hEz1 h0 g o e)
     have hCo := qO si st E sd.length cE sd w3 hE3 (by omega);have hZ3 : ∀ b,(Z b \/ b = w.heap.size) -> b < w3.heap.size := fun b hb => Nat.lt_of_lt_of_le (hZ2 b hb) (HT.out.2.size);have HF := hdq5 R3 kk3 hZ3 hkp hb0;clear R2 kk2 hZ2 hkp hE1 hEz1 hsd hBox R3 kk3 hb0 hE3 hZ3 hHeld hRes HK3 HR HT
     go_wp2_with fail
     refine hCo.mono ?_;rintro e w4 ⟨E4,k4,rfl,hlay,hblk,hb4⟩;obtain ⟨R3,kk3,hZ3,hkp,hb0⟩ := HF.out;have R4 := R3.grow hZ3 hb4;have hbx : w4.heap[w.heap.size]? = some (.cells #[.int .i64 si, .int .i64 st, .slice E sd.length cE] 25) := (hb4.block _ (hlt hb0)).trans hb0;have d0 : w4.cell? ⟨w.heap.size,0,none⟩ = some (.int .i64 si) := qb hbx 0 _ rfl;have x4 := R4.c4;have x5 := R4.c5;have x6 := R4.c6;have x7 := R4.c7;have x9 := R4.c9;have f4 := R4.fz 4;have f5 := R4.fz 5;have f6 := R4.fz 6;have f7 := R4.fz 7;have f9 := R4.fz 9;have hO := R4.on;have hms4 := R3.fresh_pay hb4 (E' := E4) (n := sd.length) fun b hb => Nat.le_trans (Nat.le_add_right _ 2) (hblk b hb);have HG := hdq9 R4 (kk3.trans (keeps_below hb4 nlq)) hkp hlay hblk hO hb4 R3.lt hms4;clear hms4 R3 kk3 hZ3 hkp hb0 R4 hbx hlay hblk hb4 hCo hO HF;go_wp2;refine bpq ?_;obtain ⟨R4,kk4,hkp,hlay,hblk,hO,hb4,hlt3,hms4⟩ := HG.out;have z0 := OnP.puq hO 4 (.int .i64 si);have z1 := OnP.puq z0 5 (.int .i64 st);have z2 := OnP.puq z1 6 (.slice E4 sd.length k4);have z3 := OnP.puq z2 7 (.bool true);have z4 := OnP.puq z3 9 (.int .i64 si);refine ⟨rfl,0,?_,?_⟩
     · have e : restored N ⟨si,st,sd⟩ = { N with lg := ⟨si,st,[],0⟩,sn := ⟨si,st,sd⟩,kp := true,cm := si } := by
        unfold restored;rw [if_neg HO.out]
       rw [e];have hoff : ∀ b,b ≠ p -> _ := z4.off;refine ⟨{ q with E := E4,cE := k4 },xs,_,RfAt.less (RfAt.turnS (N' := { N with lg := ⟨si,st,[],0⟩,sn := ⟨si,st,sd⟩,kp := true,cm := si }) R4 (Nat.le_of_eq z4.size.symm) (fun b _ hb => z4.off b hb) z4.row rfl rfl rfl rfl ?_ ?_ hms4) (fun b hb => .inl hb),rfl,hkp.trans ((kk4.trans (z4.keeps R4.away)).mono fun b hb => .inl hb)⟩
       · exact hlay.2.1.keep (Nat.le_of_eq z4.size.symm) fun h0 g o e hg => z4.off g fun e' => by
          have h1 := hblk g ⟨o,e⟩;subst e';omega
       · intro h0 g o e;obtain ⟨g',o',e',hg',_⟩ := hlay.2.1.2.2.2 h0
         cases (Option.some.inj (e.symm.trans e'))
         exact .inr ⟨Nat.le_trans (Nat.le_add_right _ 2) (hblk g ⟨o,e⟩),hg'⟩
     · intro _
       have e : (restored N ⟨si,st,sd⟩).lg = ⟨si,st,[],0⟩ := by
        unfold restored;rw [if_neg HO.out]
       rw [e];exact .inl ⟨rfl,rfl⟩
end Go.Proofs.YtmiijlecfiddmaaGreat
set_option linter.unusedVariables false
set_option linter.unusedSimpArgs false
set_option maxRecDepth 100000
set_option maxHeartbeats 3200000
namespace Go.Proofs.YtmiijlecfiddmaaGreat
open Go.RowKit Go.Shelf
attribute [local go_sem] Oper.semAt_some
def qdg (w wx : World) (p : Nat) (N0 N1 : Node) (m : Msg) (Z1 : Nat -> Prop) (q : Ptrs) (s : Nat) : Prop :=
 qaD w wx p N1 (if N1.cm < m.s.i then restored N1 m.s else N1) Z1 q s
theorem qjy {N : Node} {m : Msg} (hro : N.ro ≠ 3) (ht : m.t = N.ht) :
 N.whole m = (if (N.fall N.ht m.f).cm < m.s.i then restored (N.fall N.ht m.f) m.s else N.fall N.ht m.f).say { Node.msg 6 m.f.toNat N.ht with b := true,i := (if (N.fall N.ht m.f).cm < m.s.i then restored (N.fall N.ht m.f) m.s else N.fall N.ht m.f).cm } := by
 have hh : (N.fall N.ht m.f).ht = N.ht := by
  show (if N.ht < N.ht then N.ht else N.ht) = N.ht;rw [if_neg (Int.lt_irrefl _)]
 unfold Node.whole restored;rw [if_neg hro,ht];dsimp only;obtain ⟨r,hr⟩ := exq (N.fall N.ht m.f);rw [hr] at hh ⊢;rw [<- hh]
 split
 · split <;> rfl
 · rfl
theorem qc4 (N : Node) (x : Ent) : (restored N x).ht = N.ht /\ (restored N x).ms = N.ms := by
 unfold restored
 split <;> exact ⟨rfl,rfl⟩
theorem qdT {w : World} {p : Nat} {N : Node} {Z : Nat -> Prop} {q : Ptrs} {s : Nat} {xs : List MLay} {K : Nat -> Prop} (h : RfAt w p N Z q s xs K) (hZ : ∀ b,Z b -> b < w.heap.size) (a : Able N) (m : Msg) (A : Option Addr) (cA : Nat) (E : Option Addr) (cE : Nat) (hM : qo w Z m A cA E cE) (hf : 0 <= m.f) (hmt : m.t = N.ht) (hbase : RL.base m.s.i m.s.t = true) (hsd : m.s.d.length <= 50000) :
 Calls Tryz.prog 83 #[ptrV p,msgV m A cA E cE] w fun e w' => e = .returned (.tuple #[]) /\ qaD w w' p N (N.whole m) Z q s := by
 have hp := h.lt;obtain ⟨W1,hW1⟩ := exq (w.alloc (.cells #[.int .i64 m.k, .int .i64 m.f, .int .i64 m.o, .int .i64 m.t, .int .i64 m.i, .int .i64 m.l, .int .i64 m.c, .int .i64 m.x, .bool m.b, .slice A m.es.length cA, .int .i64 m.s.i, .int .i64 m.s.t, .slice E m.s.d.length cE] 51))
 have hb1 : Below w.heap.size w W1 := by rw [<- hW1]; exact blq.alloc nlq _
 have hrow : W1.heap[w.heap.size]? = some (.cells #[.int .i64 m.k, .int .i64 m.f, .int .i64 m.o, .int .i64 m.t, .int .i64 m.i, .int .i64 m.l, .int .i64 m.c, .int .i64 m.x, .bool m.b, .slice A m.es.length cA, .int .i64 m.s.i, .int .i64 m.s.t, .slice E m.s.d.length cE] 51) := by rw [<- hW1]; exact heap_alloc_new w _
 have hsz : W1.heap.size = w.heap.size + 1 := by rw [<- hW1]; simp
 have R1 := h.more (Y := fun b => b = w.heap.size) (fun b hb => by rw [hb]; exact nlq) hb1
 have hZ1 : ∀ b,(Z b \/ b = w.heap.size) -> b < W1.heap.size := fun b hb => by
  rcases hb with hb | rfl
  · have := hZ b hb; omega
  · omega
 have hkp : qf Z w W1 := keeps_below hb1 nlq
 have M1 : qo W1 (fun b => Z b \/ b = w.heap.size) m A cA E cE := (hM.below hb1 nlq).mono fun b hb => .inl hb
 have c10 := R1.c10
 by_cases hro : N.ro = 3
 · have e1 : (N.ro == 3) = true := beq_iff_eq.2 hro
   have hx : N.whole m = N := by
    unfold Node.whole;exact if_pos hro
   have HX := hdq3 hx R1 hkp;clear h hZ R1 hZ1 hkp a hx hro hf hb1 M1 hM hmt hbase hsd hrow
   go_enter Tryz.func83,Tryz.ntmps83
   go_wp2;refine bpq ?_;refine ⟨rfl,?_⟩;rw [HX.out.1];exact ⟨s,⟨q,xs,K,HX.out.2.1.less fun b hb => .inl hb,rfl,HX.out.2.2⟩,id⟩
 · have e1 : (N.ro == 3) = false := beq_eq_false_iff_ne.2 hro;have e1' : (N.ro = 3) = False := eq_false hro
   have hFall := fun X (hX : Below W1.heap.size W1 X) => qbc (R1.below hX) N.ht m.f
   have hlt1 : w.heap.size < W1.heap.size := by omega
   have hp1 : p < W1.heap.size := by omega
   have c2 := R1.c2;have d1 : W1.cell? ⟨w.heap.size,1,none⟩ = some (.int .i64 m.f) := qb hrow 1 _ rfl;have hBox : ∀ W,qf (fun b => Z b \/ b = w.heap.size) W1 W -> W.heap[w.heap.size]? = some (.cells #[.int .i64 m.k, .int .i64 m.f, .int .i64 m.o, .int .i64 m.t, .int .i64 m.i, .int .i64 m.l, .int .i64 m.c, .int .i64 m.x, .bool m.b, .slice A m.es.length cA, .int .i64 m.s.i, .int .i64 m.s.t, .slice E m.s.d.length cE] 51) := fun W hk => (hk.block _ hlt1 (.inr rfl)).trans hrow;have H := hdq11 hro R1 hZ1 hkp M1 a hf hmt hbase hsd hBox;clear h hZ R1 hZ1 hkp a hro hf hb1 M1 hM hmt hbase hsd hBox
   go_enter Tryz.func83,Tryz.ntmps83
   go_wp2_with fail
   refine wp_region_held_drew (S := (fun w' => (w'.cell? ⟨p,2,none⟩ = some (.int .i64 N.ht) /\ w'.cell? ⟨w.heap.size,1,none⟩ = some (.int .i64 m.f)) /\ True)) (by kernel_rfl) ⟨⟨c2,d1⟩,trivial⟩ (fun hHeld => ?_);refine lsq 9 ?_;refine tkq 0 ?_;refine tkq 1 ?_;refine tkq 2 ?_;refine tkq 3 ?_;refine tkq 4 ?_;refine tkq 5 ?_;refine tkq 6 ?_;refine tkq 7 ?_;refine rdq1 8 fun KK hK => ?_;go_simp;refine (hFall _ blq.drew).mono ?_;rintro e w2 ⟨rfl,R2,k2⟩;have HR2 := hdq2 (And.intro R2 k2) (Below.refl W1.heap.size W1).drew;have b2 : (w2.cell? ⟨p,2,none⟩ = some (.int .i64 N.ht) /\ w2.cell? ⟨w.heap.size,1,none⟩ = some (.int .i64 m.f)) := ⟨by have e := R2.c2; rw [show (N.fall N.ht m.f).ht = N.ht from if_neg (Int.lt_irrefl _)] at e; exact e,k2.cell (hHeld.1.2) (.inr rfl)⟩;clear R2 k2;refine hK.out _ _ ⟨b2,trivial⟩ ?_;clear hK KK hHeld;intro hHeld
   try simp only [lpq]
   clear b2;refine dnq ?_;clear hHeld hFall c2 d1 hrow;obtain ⟨⟨R2,k2⟩,hbX⟩ := HR2.out;obtain ⟨hro,R1,hZ1,hkp,M1,a,hf,hmt,hbase,hsd,hBox⟩ := H.out;have kk2 : qf (fun b => Z b \/ b = w.heap.size) W1 w2 := (keeps_below hbX nlq).trans k2;have hb2 := hBox w2 kk2;have d10 : w2.cell? ⟨w.heap.size,10,none⟩ = some (.int .i64 m.s.i) := qb hb2 10 _ rfl;have c9 : w2.cell? ⟨p,9,none⟩ = some (.int .i64 N.cm) := R2.c9;obtain ⟨bi,hbi⟩ : ∃ b,decide (N.cm < m.s.i) = b := ⟨_,rfl⟩;have HB := hdq8 hro hkp hf hmt hBox a hZ1 hbi;have HC := hdq5 R2 kk2 M1 hbase hsd;clear hro R1 hkp M1 a hf hmt hbase hsd hBox R2 k2 kk2 hbX HR2 H hb2 hZ1 hp1 c10
   go_upto_region 3 with fail
   go_quiet (fail)
   obtain ⟨R2,kk2,M1,hbase,hsd⟩ := HC.out;have hdn := below_drewN (Below.refl w2.heap.size w2) nq;have R3 := R2.below hdn;have kk3 := kk2.trans (keeps_below hdn nlq);have hZ3 : ∀ b,(Z b \/ b = w.heap.size) -> b < (w2.drewN nq).heap.size := fun b hb => Nat.lt_of_lt_of_le (HB.out.2.2.2.2.2.2.1 b hb) kk3.size;have hb3 := HB.out.2.2.2.2.1 _ kk3;have M3 := M1.keeps kk3;generalize w2.drewN nq = w3 at *;have g10 : w3.cell? ⟨w.heap.size,10,none⟩ = some (.int .i64 m.s.i) := qb hb3 10 _ rfl;have g11 : w3.cell? ⟨w.heap.size,11,none⟩ = some (.int .i64 m.s.t) := qb hb3 11 _ rfl;have g12 : w3.cell? ⟨w.heap.size,12,none⟩ = some (.slice E m.s.d.length cE) := qb hb3 12 _ rfl;have hRst := qfs R3 hZ3 HB.out.2.2.2.2.2.1.good (by have := HB.out.2.2.2.2.2.1.len; show N.lg.l.length <= 1000000; omega) m.s.i m.s.t m.s.d E cE M3.lies M3.hz hsd hbase;have HR3 := hdq2 R3 kk3;clear R2 kk2 M1 hbase hsd hdn R3 kk3 hZ3 hb3 M3 d10 c9 HC hbi
   go_upto_if 25 with fail
   go_cut [] (fun wx => qdg W1 wx p N (N.fall N.ht m.f) m (fun b => Z b \/ b = w.heap.size) q s)
   case first =>
    have hbi := HB.out.2.2.2.2.2.2.2
    cases bi with
    | true =>
      have HBI := Lib.hid hbi;clear hbi
      go_wp2_with fail
      refine hRst.mono ?_;rintro e w4 ⟨rfl,hT⟩;have HT := Lib.hid hT;clear hT hRst;go_wp2
      go_meet
      obtain ⟨R3,kk3⟩ := HR3.out;obtain ⟨s',hT,hfr⟩ := HT.out;unfold qdg;rw [if_pos (show (N.fall N.ht m.f).cm < m.s.i from of_decide_eq_true HBI.out)];exact ⟨s',hT.back rfl kk3,hfr⟩
    | false =>
      have HBI := Lib.hid hbi;clear hbi;go_wp2
      go_meet
      obtain ⟨R3,kk3⟩ := HR3.out;unfold qdg;rw [if_neg (show ¬ (N.fall N.ht m.f).cm < m.s.i from of_decide_eq_false HBI.out)];exact ⟨s,⟨_,xs,K,R3,rfl,kk3⟩,id⟩
   case rest =>
    obtain ⟨s',⟨q',xs',K',R3,hq,kk3⟩,hfr⟩ := hcut;obtain ⟨hro,hkp,hf,hmt,hBox,a,hZ1,hbi⟩ := HB.out;have hb3 := hBox wc kk3;have g1 : wc.cell? ⟨w.heap.size,1,none⟩ = some (.int .i64 m.f) := qb hb3 1 _ rfl;have c9 := R3.c9;have hall := qjy (N := N) (m := m) hro hmt
    have hx2 : ∀ X,X = (if (N.fall N.ht m.f).cm < m.s.i then restored (N.fall N.ht m.f) m.s else N.fall N.ht m.f) -> X.ht = N.ht /\ X.ms = N.ms := by
     intro X hX
     have hh : (N.fall N.ht m.f).ht = N.ht := by
      show (if N.ht < N.ht then N.ht else N.ht) = N.ht;rw [if_neg (Int.lt_irrefl _)]
     rw [hX]
     split
     · exact ⟨(qc4 _ _).1.trans hh,(qc4 _ _).2⟩
     · exact ⟨hh,rfl⟩
    have hx3 := hx2 _ rfl;generalize (if (N.fall N.ht m.f).cm < m.s.i then restored (N.fall N.ht m.f) m.s else N.fall N.ht m.f) = X at *;have hZ3 : ∀ b,(Z b \/ b = w.heap.size) -> b < wc.heap.size := fun b hb => Nat.lt_of_lt_of_le (hZ1 b hb) kk3.size
    have hS := fun W (hW : Below wc.heap.size wc W) => qaK (R3.below hW) (fun b hb => Nat.lt_of_lt_of_le (hZ3 b hb) hW.size) (by rw [hx3.2]; have := a.ms; omega) ⟨6,0,0,0,X.cm,0,0,0,true,[],Node.noEnt⟩ rfl rfl m.f { Node.msg 6 m.f.toNat N.ht with b := true,i := X.cm } (by
     unfold Node.msg;rw [Int.toNat_of_nonneg hf];show (⟨6,0,m.f,N.ht,X.cm,0,0,0,true,[],Node.noEnt⟩ : Msg) = ⟨6,0,m.f,X.ht,X.cm,0,0,0,true,[],Node.noEnt⟩
     rw [hx3.1])
    have HF := hdq5 hall hfr kk3 hkp hq;clear R3 hfr kk3 hro hkp hf hmt hBox a hZ1 hb3 hall hx2 hx3 hZ3 HB HR3 hRst hbi hq
    go_wp2_with fail
    have g1d : wc.drew.cell? ⟨w.heap.size,1,none⟩ = some (.int .i64 m.f) := g1;have c9d : wc.drew.cell? ⟨p,9,none⟩ = some (.int .i64 X.cm) := c9;refine wp_region_held_drew (S := (fun w' => w'.cell? ⟨p,9,none⟩ = some (.int .i64 X.cm) /\ w'.cell? ⟨w.heap.size,1,none⟩ = some (.int .i64 m.f))) (by kernel_rfl) ⟨c9d,g1d⟩ (fun hHeld => ?_);refine lsq 9 ?_;refine tkq 0 ?_;refine tkq 1 ?_;refine tkq 2 ?_;refine tkq 3 ?_;refine tkq 4 ?_;refine tkq 5 ?_;refine tkq 6 ?_;refine tkq 7 ?_;refine rdq1 8 fun KK hK => ?_;go_simp;refine (hS _ blq.drew).mono ?_;rintro e w5 ⟨rfl,hT⟩;have HT := hdq2 hT (Below.refl wc.heap.size wc).drew
    have b5 : w5.cell? ⟨p,9,none⟩ = some (.int .i64 X.cm) /\ w5.cell? ⟨w.heap.size,1,none⟩ = some (.int .i64 m.f) := by
     obtain ⟨q5,xs5,K5,r1,r2,r3⟩ := hT;exact ⟨r1.c9,r3.cell hHeld.2 (.inr rfl)⟩
    clear hT;refine hK.out _ _ b5 ?_;clear hK KK hHeld;intro hHeld
    try simp only [lpq]
    refine dnq ?_;clear hHeld hS;go_wp2;refine bpq ?_;obtain ⟨hall,hfr,kk,hkp,hq⟩ := HF.out;obtain ⟨⟨q5,xs5,K5,r1,r2,r3⟩,hbX⟩ := HT.out;rw [hall];exact ⟨rfl,s',⟨q5,xs5,K5,r1.less fun b hb => .inl hb,r2.trans hq,hkp.trans (((kk.trans (keeps_below hbX nlq)).trans r3).mono fun b hb => .inl hb)⟩,hfr⟩
end Go.Proofs.YtmiijlecfiddmaaGreat
