/- The program's leader adds an entry. -/
import Derived.Test.YtmiijlecfiddmaaGreatNNM01
import Derived.Test.YtmiijlecfiddmaaGreatNNM24
set_option linter.unusedVariables false
set_option linter.unusedSimpArgs false
set_option maxRecDepth 100000
set_option maxHeartbeats 3200000
namespace Go.Proofs.YtmiijlecfiddmaaGreat
open Go.RowKit Go.Shelf
attribute [local go_sem] Oper.semAt_some
def qkJ (w wx : World) (p : Nat) (N1 : Node) (i t : Int) (Z : Nat -> Prop) (q : Ptrs) (s : Nat) (xs : List MLay) (K : Nat -> Prop) (v7 v8 : Value) : Prop :=
 ∃ g c,v7 = .pointer (some ⟨g,0,none⟩) /\ v8 = .int .i64 0 /\ wx.heap[g]? = some (.cells #[.int .i64 i, .int .i64 t,c] 78) /\ RfAt wx p N1 (fun b => Z b \/ b = g) q s xs K /\ qf Z w wx /\ w.heap.size <= g
theorem box3 {W : World} {g : Nat} {T : TypeId} {x y z a b c : Value} (h : W.heap[g]? = some (.cells #[x,y,z] T)) :
 (((W.setCell ⟨g,0,none⟩ a).setCell ⟨g,1,none⟩ b).setCell ⟨g,2,none⟩ c).heap[g]? = some (.cells #[a,b,c] T) /\ (((W.setCell ⟨g,0,none⟩ a).setCell ⟨g,1,none⟩ b).setCell ⟨g,2,none⟩ c).heap.size = W.heap.size ∧
 ∀ k,k ≠ g -> (((W.setCell ⟨g,0,none⟩ a).setCell ⟨g,1,none⟩ b).setCell ⟨g,2,none⟩ c).heap[k]? = W.heap[k]? := by
 have r1 := setCell_at W ⟨g,0,none⟩ a _ _ _ rfl h;have r2 := setCell_at _ ⟨g,1,none⟩ b _ _ _ rfl r1;have r3 := setCell_at _ ⟨g,2,none⟩ c _ _ _ rfl r2;exact ⟨r3,by simp,fun k hk => (Below.heap_setCell _ _ _ _ (by exact hk)).trans ((Below.heap_setCell _ _ _ _ (by exact hk)).trans (Below.heap_setCell _ _ _ _ (by exact hk)))⟩
theorem qfz {W : World} {g p : Nat} {N : Node} {Z : Nat -> Prop} {q : Ptrs} {s : Nat} {xs : List MLay} {K : Nat -> Prop} {T : TypeId} {x y z a b c : Value} (R : RfAt W p N (fun k => Z k \/ k = g) q s xs K) (h : W.heap[g]? = some (.cells #[x,y,z] T)) (hZ : ¬ Z g) :
 RfAt (((W.setCell ⟨g,0,none⟩ a).setCell ⟨g,1,none⟩ b).setCell ⟨g,2,none⟩ c) p N (fun k => Z k \/ k = g) q s xs K /\ qf Z W (((W.setCell ⟨g,0,none⟩ a).setCell ⟨g,1,none⟩ b).setCell ⟨g,2,none⟩ c) := by
 obtain ⟨h1,h2,h3⟩ := box3 (a := a) (b := b) (c := c) h;refine ⟨R.keep (Nat.le_of_eq h2.symm) fun k _ hk => h3 k fun e => hk (.inr e),rfl,rfl,rfl,Nat.le_of_eq h2.symm,fun k _ hk => h3 k fun e => hZ (e ▸ hk)⟩
theorem qfA {w : World} {p : Nat} {N : Node} {Z : Nat -> Prop} {q : Ptrs} {s : Nat} {xs : List MLay} {K : Nat -> Prop} (h : RfAt w p N Z q s xs K) (hZ : ∀ b,Z b -> b < w.heap.size) (a : Able N) (D : Option Addr) (dc : Nat) (d : List UInt8) (hD : dc <= maxLen /\ Lies w D d.length dc d /\ (0 < d.length -> ∀ g o,D = some ⟨g,o,none⟩ -> Z g)) (hdl : d.length <= 9223372036854775807) :
 Calls Tryz.prog 9 #[ptrV p, .slice D d.length dc] w fun e w' => e = .returned (.tuple #[.int .i64 (N.propose d).2.1, .int .i64 (N.propose d).2.2.1, .int .i64 (N.propose d).2.2.2]) /\ qaD w w' p N (N.propose d).1 Z q s := by
 have hp := h.lt;have c10 := h.c10
 by_cases hro : N.ro = 3
 · have e1 : (N.ro != 3) = false := by rw [bne,beq_iff_eq.2 hro]; rfl
   by_cases hlen : 12000 < d.length
   · have e2 : decide ((12000 : Int) < d.length) = true := decide_eq_true (by omega)
     have hP : N.propose d = (N,0,0,1) := by
      unfold Node.propose;rw [if_neg (by rw [hro]; simp),if_pos hlen]
     rw [hP];have H := Lib.hid h;clear h hZ a hD hro hlen hdl hP
     go_enter Tryz.func9,Tryz.ntmps9
     go_wp2
     go_ret3
     exact ⟨rfl,s,⟨q,xs,K,H.out,rfl,qf.refl _ _⟩,id⟩
   · have e2 : decide ((12000 : Int) < d.length) = false := decide_eq_false (by omega)
     have hP : N.propose d = (({ N with lg := N.grown d } : Node).settle.1.sendAll,N.lg.lastI + 1,N.ht,0) := by
      unfold Node.propose;rw [if_neg (by rw [hro]; simp),if_neg hlen,if_neg (by have := a.li; omega)]
     rw [hP];have hadd := qfn a.good (a.up (.inr hro)) a.ht.2 a.lt a.li d (by omega);have hLast := qC h (by have := a.len; omega);have hll := a.li;have e3 : (N.lg.lastI == 1099511627776) = false := beq_eq_false_iff_ne.2 (by omega);have e3' : (N.lg.lastI = 1099511627776) = False := eq_false (by omega)
     have hgr : N.lg.more ⟨N.lg.lastI + 1,N.ht,d⟩ = N.grown d := by
      unfold Node.grown RL.add;rw [if_pos hadd]
      rfl
     have H := hdq6 h hZ a hD hadd hgr;generalize hLI : N.lg.lastI = LI at *;have HLI := Lib.hid hLI;clear h hZ a hD hro hlen hdl hP hadd hll hgr hLI
     go_enter Tryz.func9,Tryz.ntmps9
     go_upto_region 7 with fail
     go_wp2_with fail
     refine hLast.mono ?_;rintro e w3 ⟨rfl,hb3⟩;obtain ⟨h,hZ,a,hD,hadd,hgr⟩ := H.out;have R3 := h.below hb3
     have hZ3 : ∀ b,Z b -> b < w3.heap.size := fun b hb => Nat.lt_of_lt_of_le (hZ b hb) hb3.size
     have hk3 := keeps_below (Z := Z) hb3 nlq;have hD3 : dc <= maxLen /\ Lies w3 D d.length dc d /\ (0 < d.length -> ∀ g o,D = some ⟨g,o,none⟩ -> Z g) := ⟨hD.1,hD.2.1.below hb3 nlq,hD.2.2⟩;have c8 := R3.c8;have c2 := R3.c2;have hp3 := R3.lt
     have hAddA := fun X (hX : Below w3.heap.size w3 X) => qdc (w := X) (R3.below hX).log (fun b hb => (R3.below hX).low (fun b hb => Nat.lt_of_lt_of_le (hZ3 b hb) hX.size) b hb) (by have := a.len; omega) a.good N.ht D d.length dc d ⟨nlq,hD3.2.1.below hX nlq,fun h0 g o e => .inl (hD3.2.2 h0 g o e)⟩ rfl (by rw [HLI.out]; exact hadd)
     have hAddB := fun X (hX : Below w3.heap.size w3 X) (hXs : X.heap.size = w3.heap.size + 1) => qdc (w := X) (R3.more (Y := fun b => b = w3.heap.size) (fun b hb => by rw [hb]; exact nlq) hX).log (fun b hb => (R3.more (Y := fun b => b = w3.heap.size) (fun b hb => by rw [hb]; exact nlq) hX).low (fun b hb => hb.elim (fun e => Nat.lt_of_lt_of_le (hZ3 b e) hX.size) (fun e => by rw [e,hXs]; exact Nat.lt_succ_self _)) b hb) (by have := a.len; omega) a.good N.ht D d.length dc d ⟨nlq,hD3.2.1.below hX nlq,fun h0 g o e => .inl (.inl (hD3.2.2 h0 g o e))⟩ rfl (by rw [HLI.out]; exact hadd)
     rw [HLI.out] at hAddA hAddB;have hlow := R3.low hZ3;have hKS : ∀ W,qf (fun b => Z b \/ b = p \/ Parts q K b) w3 W -> (fun w' : World => w'.cell? ⟨p,8,none⟩ = some (ptrV q.l) /\ w'.cell? ⟨p,2,none⟩ = some (.int .i64 N.ht) /\ qf (fun b => Z b \/ b = p \/ Parts q K b) w3 w') W := fun W hk => ⟨hk.cell c8 (.inr (.inl rfl)),hk.cell c2 (.inr (.inl rfl)),hk⟩;have HK := hdq2 hKS hlow;have HR := hdq6 R3 hZ3 hk3 a hgr hadd;clear h hZ a hD hadd hgr R3 hZ3 hk3 hD3 hlow hKS hLast c10 c8 c2 H hb3
     go_wp2_with fail
     go_upto_region 9 with fail
     go_cut [7,8] (fun v7 v8 wx => qkJ w3 wx p { N with lg := N.grown d } (LI + 1) N.ht Z q s xs K v7 v8)
     case first =>
      refine wp_region_held_drew (S := (fun w' => w'.cell? ⟨p,8,none⟩ = some (ptrV q.l) /\ w'.cell? ⟨p,2,none⟩ = some (.int .i64 N.ht) /\ qf (fun b => Z b \/ b = p \/ Parts q K b) w3 w')) (by kernel_rfl) (HK.out.1 _ (qf.refl _ _).drew) (fun hHeld => ?_);refine lsq 17 ?_;refine tkq 0 ?_;refine tkq 1 ?_;refine tkq 2 ?_;refine tkq 3 ?_;refine tkq 4 ?_;refine tkq 5 ?_;refine tkq 6 ?_;refine tkq 7 ?_;refine tkq 8 ?_;refine tkq 9 ?_;refine rdq2 10 14 (fun KK hK => ?_) (fun KK hK => ?_)
      · go_simp;refine (hAddA _ blq.drew).mono ?_;rintro e w4 ⟨E4,k4,rfl,hlay,hblk,hlg,hk4⟩;have hkk := hHeld.2.2.trans hk4;have HT := hdq3 hlg hkk hk4;refine hK.out _ _ (HK.out.1 _ hkk) ?_;clear hK KK hHeld;intro hHeld
        try simp only [lpq]
        clear hlay hblk hlg hk4 hAddA hAddB;refine tkq 11 ?_;refine tkq 12 ?_;refine tkq 13 ?_;refine rdq1 14 fun KK hK => ?_;go_simp;refine hK.out _ _ (HK.out.1 _ (hkk.trans (qai _ _))) ?_;clear hK KK hHeld;intro hHeld
        try simp only [lpq]
        have hb4 := heap_alloc_new w4 (.cells #[.int .i64 0, .int .i64 0, .slice none 0 0] 78);have hs4 := hkk.size
        have hnz : ¬ (Z w4.heap.size \/ w4.heap.size = p \/ Parts q K w4.heap.size) := fun e => by have := HK.out.2 _ e; omega
        have hsz4 : (w4.alloc (.cells #[.int .i64 0, .int .i64 0, .slice none 0 0] 78)).heap.size = w4.heap.size + 1 := by simp
        have hk5 := hkk.trans (qai (Z := fun b => Z b \/ b = p \/ Parts q K b) w4 (.cells #[.int .i64 0, .int .i64 0, .slice none 0 0] 78));have hbl4 : Below w4.heap.size w4 (w4.alloc (.cells #[.int .i64 0, .int .i64 0, .slice none 0 0] 78)) := blq.alloc nlq _;have x0 : (w4.alloc (.cells #[.int .i64 0, .int .i64 0, .slice none 0 0] 78)).cell? ⟨w4.heap.size,0,none⟩ = some (.int .i64 0) := qb hb4 0 _ rfl;have x1 : (w4.alloc (.cells #[.int .i64 0, .int .i64 0, .slice none 0 0] 78)).cell? ⟨w4.heap.size,1,none⟩ = some (.int .i64 0) := qb hb4 1 _ rfl;have x2 : (w4.alloc (.cells #[.int .i64 0, .int .i64 0, .slice none 0 0] 78)).cell? ⟨w4.heap.size,2,none⟩ = some (.slice none 0 0) := qb hb4 2 _ rfl;have y0 := qg hb4 0;have y1 := qg hb4 1;have y2 := qg hb4 2;generalize w4.alloc (.cells #[.int .i64 0, .int .i64 0, .slice none 0 0] 78) = w5 at *;obtain ⟨g4,hg4⟩ : ∃ g,g = w4.heap.size := ⟨_,rfl⟩;rw [<- hg4] at x0 x1 x2 y0 y1 y2 hb4 hnz;rw [<- hg4];have HG4 := Lib.hid hg4;clear hg4;refine rdq1 15 fun KK hK => ?_;go_simp;refine hK.out _ _ (HK.out.1 _ (((hk5.trans (qk _ ⟨g4,0,none⟩ _ hnz)).trans (qk _ ⟨g4,1,none⟩ _ hnz)).trans (qk _ ⟨g4,2,none⟩ _ hnz))) ?_;clear hK KK hHeld;intro hHeld
        try simp only [lpq]
        refine tkq 16 ?_;refine dnq ?_;clear hHeld x0 x1 x2 y0 y1 y2;go_wp2
        go_meet
        obtain ⟨R3,hZ3,hk3,a,hgr,hadd⟩ := HR.out;obtain ⟨hlg,hkk,hk4⟩ := HT.out;have hg4 := HG4.out
        have R4 : RfAt w4 p { N with lg := N.grown d } Z q s xs K := by
         rw [<- hgr];exact (R3.below blq.drew).logged (hlg.mono fun b hb => .inl hb) hk4
        have R5 := R4.more (Y := fun b => b = g4) (fun b hb => by rw [hb,HG4.out]; exact nlq) (hbl4);obtain ⟨R6,k6⟩ := qfz (a := .int .i64 (LI + 1)) (b := .int .i64 N.ht) (c := .slice E4 d.length k4) R5 hb4 (fun e => hnz (.inl e));exact ⟨g4,_,rfl,rfl,(box3 hb4).1,R6,(hk5.mono fun b hb => .inl hb).trans k6,by omega⟩
      · go_simp;have hkA := hHeld.2.2.trans (qai (Z := fun b => Z b \/ b = p \/ Parts q K b) w3.drew (.cells #[.int .i64 0, .int .i64 0, .slice none 0 0] 78));refine hK.out _ _ (HK.out.1 _ hkA) ?_;clear hK KK hHeld;intro hHeld
        try simp only [lpq]
        have hXB : Below w3.heap.size w3 ((w3.alloc (.cells #[.int .i64 0, .int .i64 0, .slice none 0 0] 78)).drew) := (blq.alloc nlq _).drew
        have hXs : (w3.alloc (.cells #[.int .i64 0, .int .i64 0, .slice none 0 0] 78)).drew.heap.size = w3.heap.size + 1 := by simp
        have hbx : (w3.alloc (.cells #[.int .i64 0, .int .i64 0, .slice none 0 0] 78)).drew.heap[w3.heap.size]? = some (.cells #[.int .i64 0, .int .i64 0, .slice none 0 0] 78) := heap_alloc_new w3 _;have RX := Lib.hid (HR.out.1.more (Y := fun b => b = w3.heap.size) (fun b hb => by rw [hb]; exact nlq) hXB);have hAd := hAddB _ hXB hXs;clear hAddA hAddB;have hkA : qf (fun b => Z b \/ b = p \/ Parts q K b) w3 (w3.alloc (.cells #[.int .i64 0, .int .i64 0, .slice none 0 0] 78)).drew := (qai _ _).drew;generalize (w3.alloc (.cells #[.int .i64 0, .int .i64 0, .slice none 0 0] 78)).drew = wX at *;refine rdq1 10 fun KK hK => ?_;go_simp;refine hAd.mono ?_;rintro e w5 ⟨E4,k4,rfl,hlay,hblk,hlg,hk4⟩;have hk5 := hkA.trans (hk4.mono fun b hb => hb.imp_left .inl);have hb4 := (hk4.block _ (hlt hbx) (.inl (.inr rfl))).trans hbx;have HT := hdq3 hlg hk5 hk4;refine hK.out _ _ (HK.out.1 _ hk5) ?_;clear hK KK hHeld;intro hHeld
        try simp only [lpq]
        clear hlay hblk hlg hk4 hAd
        have hnz : ¬ (Z w3.heap.size \/ w3.heap.size = p \/ Parts q K w3.heap.size) := fun e => by have := HK.out.2 _ e; omega
        have hs4 := Nat.le_refl w3.heap.size;refine tkq 11 ?_;refine tkq 12 ?_;refine tkq 13 ?_;have x0 : w5.cell? ⟨w3.heap.size,0,none⟩ = some (.int .i64 0) := qb hb4 0 _ rfl;have x1 : w5.cell? ⟨w3.heap.size,1,none⟩ = some (.int .i64 0) := qb hb4 1 _ rfl;have x2 : w5.cell? ⟨w3.heap.size,2,none⟩ = some (.slice none 0 0) := qb hb4 2 _ rfl;have y0 := qg hb4 0;have y1 := qg hb4 1;have y2 := qg hb4 2;obtain ⟨g4,hg4⟩ : ∃ g,g = w3.heap.size := ⟨_,rfl⟩;rw [<- hg4] at x0 x1 x2 y0 y1 y2 hb4 hnz;rw [<- hg4];have HG4 := Lib.hid hg4;clear hg4;refine rdq1 15 fun KK hK => ?_;go_simp;refine hK.out _ _ (HK.out.1 _ (((hk5.trans (qk _ ⟨g4,0,none⟩ _ hnz)).trans (qk _ ⟨g4,1,none⟩ _ hnz)).trans (qk _ ⟨g4,2,none⟩ _ hnz))) ?_;clear hK KK hHeld;intro hHeld
        try simp only [lpq]
        refine tkq 16 ?_;refine dnq ?_;clear hHeld x0 x1 x2 y0 y1 y2;go_wp2
        go_meet
        obtain ⟨R3,hZ3,hk3,a,hgr,hadd⟩ := HR.out;obtain ⟨hlg,hkk,hk4⟩ := HT.out;have hg4 := HG4.out
        have R4 : RfAt w5 p { N with lg := N.grown d } (fun b => Z b \/ b = g4) q s xs K := by
         rw [hg4,<- hgr];exact RX.out.logged (hlg.mono fun b hb => .inl hb) hk4
        obtain ⟨R6,k6⟩ := qfz (a := .int .i64 (LI + 1)) (b := .int .i64 N.ht) (c := .slice E4 d.length k4) R4 hb4 (fun e => hnz (.inl e));exact ⟨g4,_,rfl,rfl,(box3 hb4).1,R6,(hk5.mono fun b hb => .inl hb).trans k6,by omega⟩
     case rest =>
      obtain ⟨g,c,rfl,rfl,hbox,R5,k5,hg5⟩ := hcut;obtain ⟨R3,hZ3,hk3,a,hgr,hadd⟩ := HR.out;have hZ5 : ∀ b,(Z b \/ b = g) -> b < wc.heap.size := fun b hb => hb.elim (fun e => Nat.lt_of_lt_of_le (hZ3 b e) k5.size) (fun e => by rw [e]; exact hlt hbox)
      have hgl : (N.grown d).l.length = N.lg.l.length + 1 /\ (N.grown d).i = N.lg.i := by
       rw [<- hgr];obtain ⟨a1,a2,_⟩ := qbr (⟨N.lg.i,N.lg.t,N.lg.l ++ [⟨LI + 1,N.ht,d⟩],N.lg.f⟩ : RL) (N.lg.lastI + 1);unfold RL.more;rw [a1,a2];exact ⟨by simp,rfl⟩
      have hgd : Good (N.grown d) := by rw [<- hgr]; exact a.good.more (by rw [HLI.out]; exact hadd)
      have hgood := hgd.lastI;have hglim := hgd.lim;have hAv := qbw R5 hZ5 (by have := a.len; show (N.grown d).l.length <= 1000000; omega) hgd ⟨a.n.1,by have := a.n; show N.id < 3; omega⟩ (fun j => ⟨by have := a.ma j; show (-9223372036854775808 : Int) <= N.ma j; omega,by have := a.ma j; show N.ma j <= (9223372036854775807 : Int); omega⟩) ⟨by show (-9223372036854775808 : Int) <= (N.grown d).lastI; omega,by show (N.grown d).lastI <= (9223372036854775807 : Int); omega⟩ (fun j => (a.ma j).1) (by show 0 <= (N.grown d).lastI; omega);have hset := qbb { N with lg := N.grown d };have HF := hdq9 hZ5 (hk3.trans k5) a hset hgd hgl hbox hgr hadd;clear R3 hZ3 hk3 a hgr hadd R5 k5 hZ5 hgl hgd hgood hglim hset hbox HK HR hAddA hAddB hg5
      go_wp2_with fail
      refine hAv.mono ?_;rintro e w6 ⟨rfl,R6,k6⟩;obtain ⟨hZ5,hk5,a,⟨cq,hset⟩,hgd,hgl,hbox,hgr,hadd⟩ := HF.out;have hSd := qax R6 (fun b hb => Nat.lt_of_lt_of_le (hZ5 b hb) k6.size) (by rw [hset]; have := a.ms; show N.ms.length < 999990; omega) (by rw [hset]; have := a.len; show (N.grown d).l.length <= 1000000; omega) (by rw [hset]; exact hgd) (fun j => by rw [hset]; have := a.nx j; show _ <= N.nx j /\ N.nx j <= _; omega) (by rw [hset]; exact a.sd) (by rw [hset]; exact ⟨a.n.1,by have := a.n; show N.id < 3; omega⟩)
      have hlgS : ({ N with lg := N.grown d } : Node).settle.1.sendAll.lg = N.grown d := by
       rw [hset];obtain ⟨ls,_,e⟩ := qU ({ N with lg := N.grown d,cm := cq } : Node) ({ N with lg := N.grown d,cm := cq } : Node).others;exact congrArg Node.lg e
      have hbox6 := (k6.block _ (hlt hbox) (.inr rfl)).trans hbox;have HG := hdq5 (hk5.trans (k6.mono fun b hb => .inl hb)) hlgS hbox6 (fun s (hs : frel N.lg s) => (by rw [<- hgr]; exact qd6 a.good hs _ : frel (N.grown d) s)) True.intro;clear hZ5 hk5 a hset hgd hgl hbox hgr hadd R6 k6 hAv HF hlgS hbox6
      go_wp2_with fail
      refine hSd.mono ?_;rintro e w7 ⟨rfl,q7,xs7,K7,R7,hq7,k7⟩;obtain ⟨hk6,hlgS,hbox6,hfr,_⟩ := HG.out;have hbox7 := (k7.block _ (hlt hbox6) (.inr rfl)).trans hbox6;have g0 : w7.cell? ⟨g,0,none⟩ = some (.int .i64 (LI + 1)) := qb hbox7 0 _ rfl;have g1 : w7.cell? ⟨g,1,none⟩ = some (.int .i64 N.ht) := qb hbox7 1 _ rfl
      have hT : qaD w w7 p N (({ N with lg := N.grown d } : Node).settle.1.sendAll) Z q s := ⟨s,⟨q7,xs7,K7,R7.less fun b hb => .inl hb,hq7,hk6.trans (k7.mono fun b hb => .inl hb)⟩,fun hs => by rw [hlgS]; exact hfr s hs⟩
      have HT := Lib.hid hT;clear hk6 hlgS hbox6 hfr hbox7 R7 hq7 k7 hT HG hSd
      go_wp2_with fail
      go_quiet (fail)
      go_wp2
      go_ret3
      obtain ⟨s',⟨q8,xs8,K8,r1,r2,r3⟩,r4⟩ := HT.out;exact ⟨rfl,s',⟨q8,xs8,K8,r1.below (below_drewN blq _),r2,r3.trans (keeps_below (below_drewN blq _) nlq)⟩,r4⟩
 · have e1 : (N.ro != 3) = true := by rw [bne,beq_eq_false_iff_ne.2 hro]; rfl
   have hP : N.propose d = (N,0,0,14) := by
    unfold Node.propose;rw [if_pos hro]
   rw [hP];have e1' : (N.ro = 3) = False := eq_false hro;have H := Lib.hid h;clear h hZ a hD hro hdl hP
   go_enter Tryz.func9,Tryz.ntmps9
   go_wp2
   go_ret3
   exact ⟨rfl,s,⟨q,xs,K,H.out,rfl,qf.refl _ _⟩,id⟩
end Go.Proofs.YtmiijlecfiddmaaGreat
set_option linter.unusedVariables false
set_option linter.unusedSimpArgs false
set_option maxRecDepth 100000
set_option maxHeartbeats 3200000
namespace Go.Proofs.YtmiijlecfiddmaaGreat
open Go.RowKit Go.Shelf
attribute [local go_sem] Oper.semAt_some
section
variable {w w' : World} {p : Nat} {N : Node} {Z : Nat → Prop} {q : Ptrs} {s : Nat} {xs : List MLay} {K : Nat → Prop}
theorem RfAt.asks (h : RfAt w p N Z q s xs K) (hZ : ∀ b,Z b -> b < w.heap.size) {X : World} (hX : Below w.heap.size w X) {A' : Option Addr} {c' : Nat} {y : Int × Int} (hsp : Sp 96 2 w' A' (N.rd.length + 1) c' (rrow N.rd ++ rrow [y])) (hA : ∀ b,blk A' b -> blk q.R b \/ X.heap.size <= b) (hg : Grew X w' q.R) :
 RfAt (w'.setCell ⟨p,26,none⟩ (.slice A' (N.rd.length + 1) c')) p { N with rd := N.rd ++ [y] } Z { q with R := A',cR := c' } s xs K /\ qf Z w (w'.setCell ⟨p,26,none⟩ (.slice A' (N.rd.length + 1) c')) := by
 have hs1 := hX.size;have hs2 := hg.size;have hp := h.lt
 have hnm : ¬ blk q.R p := fun e => (h.rz p e).2.1 rfl
 have hrow : w'.heap[p]? = some (.cells (rfC N q) 90) := (hg.block p (by omega) hnm).trans ((hX.block p hp).trans h.row);have hset := setCell_at w' ⟨p,26,none⟩ (.slice A' (N.rd.length + 1) c') _ _ _ rfl hrow;have hoff : ∀ b,b ≠ p -> (w'.setCell ⟨p,26,none⟩ (.slice A' (N.rd.length + 1) c')).heap[b]? = w'.heap[b]? := fun b hb => Below.heap_setCell _ _ _ _ (by exact hb);have hkk : ∀ b,b < w.heap.size -> b ≠ p -> ¬ blk q.R b -> (w'.setCell ⟨p,26,none⟩ (.slice A' (N.rd.length + 1) c')).heap[b]? = w.heap[b]? := fun b h1 h2 h3 => (hoff b h2).trans ((hg.block b (by omega) h3).trans (hX.block b h1))
 have hsz : w.heap.size <= (w'.setCell ⟨p,26,none⟩ (.slice A' (N.rd.length + 1) c')).heap.size := by simp; omega
 have hnew : ∀ b,blk A' b -> blk q.R b \/ w.heap.size <= b := fun b hb => (hA b hb).imp_right fun e => by omega
 have hA' : ∀ b,blk A' b -> ¬ Z b /\ b ≠ p /\ ¬ K b /\ ¬ blk q.M b /\ ¬ blk q.T b := fun b hb => by
  rcases hnew b hb with hb | hb
  · exact ⟨(h.rz b hb).1,(h.rz b hb).2.1,(h.rz b hb).2.2,fun e => (h.mz b e).2.2.2 hb,fun e => (h.tz b e).2.2.2.1 hb⟩
  · exact ⟨fun e => by have := hZ b e; omega,by omega,fun e => by have := (h.kz b e).2.2; omega,fun e => by have := h.mss.lt e; omega,fun e => by have := h.tds.lt e; omega⟩
 constructor
 · exact {
    row := by
     have e : N.rd.length + 1 = (N.rd ++ [y]).length := by simp
     rw [hset,e]
     rfl
    away := h.away
    kz := fun b hb => ⟨(h.kz b hb).1,(h.kz b hb).2.1,Nat.lt_of_lt_of_le (h.kz b hb).2.2 hsz⟩
    rz := fun b hb => ⟨(hA' b hb).1,(hA' b hb).2.1,(hA' b hb).2.2.1⟩
    mz := fun b hb => ⟨(h.mz b hb).1,(h.mz b hb).2.1,(h.mz b hb).2.2.1,fun e => (hA' b e).2.2.2.1 hb⟩
    tz := fun b hb => ⟨(h.tz b hb).1,(h.tz b hb).2.1,(h.tz b hb).2.2.1,fun e => (hA' b e).2.2.2.2 hb,(h.tz b hb).2.2.2.2⟩
    log := by
     refine (h.log.grow.keep (w' := w'.setCell ⟨p,26,none⟩ (.slice A' (N.rd.length + 1) c')) hsz fun b hb hz => hkk b hb (fun e => hz (.inl (.inr (.inl e)))) fun e => hz (.inl (.inr (.inr (.inr (.inl e)))))).mono fun b hb => ?_;rcases hb with hb | hb | hb | hb | hb | hb
     · exact .inl (.inl hb)
     · exact .inl (.inr (.inl hb))
     · exact .inl (.inr (.inr (.inl hb)))
     · rcases hnew b hb with hb | hb
       · exact .inl (.inr (.inr (.inr (.inl hb))))
       · exact .inr hb
     · exact .inl (.inr (.inr (.inr (.inr (.inl hb)))))
     · exact .inl (.inr (.inr (.inr (.inr (.inr hb)))))
    tds := h.tds.keep fun b hb => hkk b (h.tds.lt hb) (h.tz b hb).2.1 fun e => (h.tz b hb).2.2.2.1 e
    mss := h.mss.keep fun b hb => hkk b (h.mss.lt hb) (h.mz b hb).2.1 fun e => (h.mz b hb).2.2.2 e
    rds := by
     rw [show ({ N with rd := N.rd ++ [y] } : Node).rd.length = N.rd.length + 1 by simp,qc0]
     exact hsp.keep fun b hb => hoff b (hA' b hb).2.1
    map := h.map
    msg := fun y hy => (h.msg y hy).keep hsz fun b hb hkb => hkk b hb (h.kz b hkb.1).2.1 fun e => (h.rz b e).2.2 hkb.1
    snp := h.snp.keep hsz fun h0 g off e hg' => hkk g hg' (h.kz g (h.snk h0 g off e)).2.1 fun e' => (h.rz g e').2.2 (h.snk h0 g off e)
    snk := h.snk }
 · have k1 := keeps_below (Z := Z) hX nlq;have k2 := hg.keeps (Z := Z) fun b hb => (h.rz b hb).1;exact (k1.trans k2).trans (qk _ ⟨p,26,none⟩ _ h.away)
theorem RfAt.setCx (h : RfAt w p N Z q s xs K) (c : Int) : RfAt (w.setCell ⟨p,25,none⟩ (.int .i64 c)) p { N with cx := c } Z q s xs K /\ qf Z w (w.setCell ⟨p,25,none⟩ (.int .i64 c)) := by
 have o1 := h.on.put 25 (.int .i64 c) (C' := rfC { N with cx := c } q) rfl;exact ⟨h.turn (Nat.le_of_eq o1.size.symm) (fun b _ hb => o1.off b hb) o1.row rfl rfl rfl rfl rfl,o1.keeps h.away⟩
end
theorem qid {w : World} {p : Nat} {N : Node} {Z : Nat -> Prop} {q : Ptrs} {s : Nat} {xs : List MLay} {K : Nat -> Prop} (h : RfAt w p N Z q s xs K) (hZ : ∀ b,Z b -> b < w.heap.size) (a : Able N) :
 Calls Tryz.prog 10 #[ptrV p] w fun e w' => e = .returned (.tuple #[.int .i64 N.read.2.1, .int .i64 N.read.2.2]) /\ Turned w w' p N.read.1 Z q s := by
 have hp := h.lt;have c10 := h.c10
 by_cases hro : N.ro = 3
 · have e1 : (N.ro != 3) = false := by rw [bne,beq_iff_eq.2 hro]; rfl
   have hown := qe8 h (by have := a.len; omega) a.good N.cm;have c9 := h.c9
   by_cases ho : N.lg.at_ N.cm = some N.ht
   · have hP : N.read = (({ N with cx := N.cx + 1,rd := N.rd ++ [(N.cx + 1,N.cm)] } : Node).tell.sendAll,N.cx + 1,0) := by
      unfold Node.read;rw [if_neg (by rw [hro]; simp),if_neg (by rw [ho]; simp)]
     have hob : N.ownB N.cm = true := by
      unfold Node.ownB
      simp [ho]
     rw [hob] at hown;have y1 : IntKind.i64.wrap (N.cx + 1) = N.cx + 1 := IntWalk.i64_in _ (by have := a.cx; omega);rw [hP];have H := hdq3 h hZ a;clear h hZ a hro ho hP hob
     go_enter Tryz.func10,Tryz.ntmps10
     go_wp2_with fail
     refine hown.mono ?_;rintro e w2 ⟨rfl,hb2⟩;obtain ⟨h,hZ,a⟩ := H.out;have R2 := h.below hb2;have k2 := keeps_below (Z := Z) hb2 nlq;have c25 := R2.c25;have f25 := R2.fz 25;obtain ⟨R3,k3⟩ := R2.setCx (N.cx + 1);have hZ3 : ∀ b,Z b -> b < (w2.setCell ⟨p,25,none⟩ (.int .i64 (N.cx + 1))).heap.size := fun b hb => Nat.lt_of_lt_of_le (hZ b hb) (k2.trans k3).size
     have hlen : N.rd.length + 1 <= 1000000 := by have := a.td; omega
     obtain ⟨W3,hW3⟩ := exq (w2.setCell ⟨p,25,none⟩ (.int .i64 (N.cx + 1)));rw [hW3] at R3 k3 hZ3;have d25 : W3.cell? ⟨p,25,none⟩ = some (.int .i64 (N.cx + 1)) := R3.c25;have d9 : W3.cell? ⟨p,9,none⟩ = some (.int .i64 N.cm) := R3.c9;have d26 : W3.cell? ⟨p,26,none⟩ = some (.slice q.R N.rd.length q.cR) := R3.c26;have hp3 := R3.lt
     have hnt : ¬ blk q.R p := fun e => (R3.rz p e).2.1 rfl
     have HS : ∀ X,Below W3.heap.size W3 X -> Sp 96 2 X q.R N.rd.length q.cR (rrow N.rd) := fun X hX => R3.rds.keep fun b hb => hX.block b (R3.rds.lt hb);have HR : ∀ X,Below W3.heap.size W3 X -> X.heap[p]? = some (.cells (rfC { N with cx := N.cx + 1 } q) 90) := fun X hX => (hX.block p hp3).trans R3.row;have H3 := hdq4 R3 (k2.trans k3) hZ3 a;clear h hZ a R2 k2 R3 k3 hZ3 hown c10 c9 H hb2 hp
     go_upto_region 8 with fail
     clear hW3 c25 f25
     go_region_law (refine ql qcy _ (by rfl) _ _ (by rfl) q.R N.rd.length q.cR (rrow N.rd) (by rfl) (HS _ bbr) (some ⟨W3.heap.size,0,none⟩) 1 1 (rrow [(N.cx + 1,N.cm)]) (by rfl) (fun e => by cases e) (by rfl) (qe7 _) (fun b e => by cases e; exact cells_lit (heap_alloc_new _ _)) hlen ?_
                    intro A' c' w4 hsp hA hgr;have hr4 := (hgr.block p (by simp; omega) hnt).trans (HR _ bbr);have e26 : w4.cell? ⟨p,26,none⟩ = some (.slice q.R N.rd.length q.cR) := qb hr4 26 _ rfl
                    have f26 := qg hr4 26)
     all_goals
      obtain ⟨R3,k3,hZ3,a⟩ := H3.out;obtain ⟨R4,k4⟩ := R3.asks (y := (N.cx + 1,N.cm)) hZ3 bbr hsp hA hgr;have hTl := qbL R4 (fun b hb => Nat.lt_of_lt_of_le (hZ3 b hb) k4.size) ⟨a.n.1,by have := a.n; show N.id < 3; omega⟩ (by have := a.td; show N.td.length + (N.rd ++ [(N.cx + 1,N.cm)]).length <= 900000; rw [List.length_append]; simp only [List.length_cons,List.length_nil]; omega);have HF := hdq4 hZ3 (k3.trans k4) k4 a;clear R3 k3 hZ3 a R4 k4 hsp hA hgr hr4 e26 f26 HS HR d25 d9 d26
      go_wp2_with fail
      refine hTl.mono ?_;rintro e w6 ⟨rfl,q6,R6,hq6,k6⟩;obtain ⟨hZ3,k4,k34,a⟩ := HF.out;have hSd := qax R6 (fun b hb => Nat.lt_of_lt_of_le (hZ3 b hb) (k34.trans k6).size) (by have := a.ms; show N.ms.length < 999990; omega) (by have := a.len; show N.lg.l.length <= 1000000; omega) a.good (fun j => by have := a.nx j; show _ <= N.nx j /\ N.nx j <= _; omega) a.sd ⟨a.n.1,by have := a.n; show N.id < 3; omega⟩;have HG := hdq2 (k4.trans k6) hq6;clear hZ3 k4 k34 a R6 hq6 k6 hTl HF
      go_wp2_with fail
      refine hSd.mono ?_;rintro e w7 ⟨rfl,q7,xs7,K7,R7,hq7,k7⟩
      have c25 : w7.cell? ⟨p,25,none⟩ = some (.int .i64 (N.cx + 1)) := by
       have e := R7.c25;obtain ⟨ls,_,e2⟩ := qU ({ N with cx := N.cx + 1,rd := N.rd ++ [(N.cx + 1,N.cm)] } : Node).tell ({ N with cx := N.cx + 1,rd := N.rd ++ [(N.cx + 1,N.cm)] } : Node).tell.others;rw [show (({ N with cx := N.cx + 1,rd := N.rd ++ [(N.cx + 1,N.cm)] } : Node).tell.sendAll).cx = N.cx + 1 from congrArg Node.cx e2] at e;exact e
      have HT := hdq3 R7 hq7 k7;clear R7 hq7 k7 hSd;go_wp2
      go_ret2
      obtain ⟨k6,hq6⟩ := HG.out;obtain ⟨R7,hq7,k7⟩ := HT.out;exact ⟨rfl,q7,xs7,K7,R7,hq7.trans hq6,k6.trans k7⟩
   · have hP : N.read = (N,0,7) := by
      unfold Node.read;rw [if_neg (by rw [hro]; simp),if_pos ho]
     have hob : N.ownB N.cm = false := by
      unfold Node.ownB
      simp [ho]
     rw [hob] at hown;rw [hP];have H := Lib.hid h;clear h hZ a hro ho hP hob
     go_enter Tryz.func10,Tryz.ntmps10
     go_wp2_with fail
     refine hown.mono ?_;rintro e w2 ⟨rfl,hb2⟩;go_wp2
     go_ret2
     exact ⟨rfl,q,xs,K,H.out.below hb2,rfl,keeps_below hb2 nlq⟩
 · have e1 : (N.ro != 3) = true := by rw [bne,beq_eq_false_iff_ne.2 hro]; rfl
   have e1' : (N.ro = 3) = False := eq_false hro
   have hP : N.read = (N,0,14) := by
    unfold Node.read;rw [if_pos hro]
   rw [hP];have H := Lib.hid h;clear h hZ a hro hP
   go_enter Tryz.func10,Tryz.ntmps10
   go_wp2
   go_ret2
   exact ⟨rfl,q,xs,K,H.out,rfl,qf.refl _ _⟩
end Go.Proofs.YtmiijlecfiddmaaGreat
set_option linter.unusedVariables false
set_option linter.unusedSimpArgs false
set_option maxRecDepth 100000
set_option maxHeartbeats 3200000
namespace Go.Proofs.YtmiijlecfiddmaaGreat
open Go.RowKit Go.Shelf
attribute [local go_sem] Oper.semAt_some
def Compacted (w w' : World) (p : Nat) (N : Node) (x : Int) (d : List UInt8) (Z : Nat -> Prop) (q : Ptrs) (s : Nat) (e : Ending) : Prop :=
 e = .returned (.int .i64 (if (N.compact x d).2 = true then 0 else 1)) /\ ∃ s',Turned w w' p (N.compact x d).1 Z q s' /\ frel (N.compact x d).1.lg s'
theorem qbT {N : Node} {x : Int} {d : List UInt8} (h : x < 1 \/ N.cm < x \/ 50000 < d.length) : N.compact x d = (N,false) := by
 unfold Node.compact
 split
 · rfl
 · exact if_pos h
theorem qfB {N : Node} {x : Int} {d : List UInt8} (h : N.lg.at_ x = none) : N.compact x d = (N,false) := by
 unfold Node.compact;rw [h]
theorem qfC {N : Node} {x t : Int} {d : List UInt8} (hg : Good N.lg) (ho : N.lg.at_ x = some t) (h : ¬ (x < 1 \/ N.cm < x \/ 50000 < d.length)) : N.compact x d = ({ N with lg := N.lg.cut x t,sn := ⟨x,t,d⟩ },true) := by
 unfold Node.compact;rw [ho];dsimp only;rw [if_neg h,hg.compact ho]
 rfl
theorem qfD {w : World} {p : Nat} {N : Node} {Z : Nat -> Prop} {q : Ptrs} {s : Nat} {xs : List MLay} {K : Nat -> Prop} (h : RfAt w p N Z q s xs K) (hZ : ∀ b,Z b -> b < w.heap.size) (hg : Good N.lg) (hl : N.lg.l.length <= 1000000) (hs : frel N.lg s) (x : Int) (D : Option Addr) (dc : Nat) (d : List UInt8) (hD : Lies w D d.length dc d) (hDz : 0 < d.length -> ∀ g o,D = some ⟨g,o,none⟩ -> Z g) :
 Calls Tryz.prog 15 #[ptrV p, .int .i64 x, .slice D d.length dc] w fun e w' => Compacted w w' p N x d Z q s e := by
 have hp := h.lt;have c9 := h.c9;have c8 := h.c8;obtain ⟨PP,hPP⟩ : ∃ PP,PP = (fun (e : Ending) w' => Compacted w w' p N x d Z q s e) := ⟨_,rfl⟩;rw [<- hPP]
 have nofail : N.compact x d = (N,false) -> ∀ w3,Below w.heap.size w w3 -> PP (.returned (.int .i64 1)) w3 := by
  intro hc w3 hb3;rw [hPP];unfold Compacted;rw [hc,if_neg (by simp)];exact ⟨rfl,s,⟨q,xs,K,h.below hb3,rfl,keeps_below hb3 nlq⟩,hs⟩
 have HNO := Lib.hid nofail;have H := hdq8 h hZ hg hl hs hD hDz hPP;have hlim := hg.lim
 have hneg : x < 0 -> N.lg.at_ x = none := by
  intro h0
  cases ho : N.lg.at_ x with
  | none => rfl
  | some t => have := (hg.at_some ho).1; omega
 have hTerm := h.term hl hg x;clear nofail h hZ hg hl hs hD hDz hPP
 by_cases h0 : x = 0
 · have e1 : (x == 0) = true := beq_iff_eq.2 h0;have hc : N.compact x d = (N,false) := qbT (.inl (by omega));have HC := Lib.hid hc;clear hc h0 hneg
   go_enter Tryz.func15,Tryz.ntmps15
   go_wp2;exact (show PP (.returned (.int .i64 1)) w from HNO.out HC.out w blq)
 · have e1 : (x == 0) = false := beq_eq_false_iff_ne.2 h0;have e1' : (x = 0) = False := eq_false h0
   by_cases h1 : N.cm < x
   · have e2 : decide (N.cm < x) = true := decide_eq_true h1;have HC := Lib.hid (show N.compact x d = (N,false) from qbT (.inr (.inl h1)));clear h0 h1 hneg
     go_enter Tryz.func15,Tryz.ntmps15
     go_wp2;exact (show PP (.returned (.int .i64 1)) w from HNO.out HC.out w blq)
   · have e2 : decide (N.cm < x) = false := decide_eq_false h1
     by_cases h2 : 50000 < d.length
     · have e3 : decide ((50000 : Int) < d.length) = true := decide_eq_true (by omega);have HC := Lib.hid (show N.compact x d = (N,false) from qbT (.inr (.inr h2)));clear h0 h1 h2 hneg
       go_enter Tryz.func15,Tryz.ntmps15
       go_wp2;exact (show PP (.returned (.int .i64 1)) w from HNO.out HC.out w blq)
     · have e3 : decide ((50000 : Int) < d.length) = false := decide_eq_false (by omega)
       cases ho : N.lg.at_ x with
       | none =>
         rw [ho] at hTerm;have HC := hdq2 (show N.compact x d = (N,false) from qfB ho) ho;clear h0 h1 h2 hneg ho
         go_enter Tryz.func15,Tryz.ntmps15
         go_wp2_with fail
         refine hTerm.mono ?_;rintro e w2 ⟨rfl,hb2⟩;obtain ⟨h,hZ,hg,hl,hs,hD,hDz,hPP⟩ := H.out;have R2 := h.below hb2
         have hCp := fun (A : Option Addr) (c : Nat) (hr : Rd w2 q.l N.lg s A N.lg.l.length c) => qga hr hl hg x HC.out.2
         obtain ⟨A,c,hr⟩ := R2.log.rd;have hCp := hCp A c hr;have c82 := R2.c8;have HB := Lib.hid hb2;clear h hZ hg hl hs hD hDz hPP R2 hr hb2 hTerm
         go_wp2_with fail
         refine hCp.mono ?_;rintro e w3 ⟨rfl,hb3⟩;go_wp2;exact (show PP (.returned (.int .i64 1)) w3 from HNO.out HC.out.1 w3 (HB.out.trans (hb3.mono HB.out.size)))
       | some t =>
         have hx0 : ¬ x < 0 := fun e => by have := hneg e; rw [ho] at this; cases this
         rw [ho] at hTerm;have HC := hdq2 (show ¬ (x < 1 \/ N.cm < x \/ 50000 < d.length) by omega) ho;clear h0 h1 h2 hneg ho hx0
         go_enter Tryz.func15,Tryz.ntmps15
         go_wp2_with fail
         refine hTerm.mono ?_;rintro e w2 ⟨rfl,hb2⟩;obtain ⟨h,hZ,hg,hl,hs,hD,hDz,hPP⟩ := H.out;have R2 := h.below hb2;have hCp := qe5 R2.log hl hg (qgq hs hg) x t HC.out.2;have c82 := R2.c8;have HB := hdq2 hb2 R2;clear h hZ hg hl hs hD hDz hPP R2 hb2 hTerm
         go_wp2_with fail
         refine hCp.mono ?_;rintro e w3 ⟨rfl,hlg3,hk3⟩;obtain ⟨h,hZ,hg,hl,hs,hD,hDz,hPP⟩ := H.out;obtain ⟨hb2,R2⟩ := HB.out;have R3 := R2.logged hlg3 hk3
         have k23 : qf Z w2 w3 := hk3.mono fun b hb => .inl hb
         have k3 : qf Z w w3 := (keeps_below hb2 nlq).trans k23;have hD3 : Lies w3 D d.length dc d := hD.keeps k3 hDz;have hCo := qO x t D d.length dc d w3 hD3 (by have := HC.out.1; omega);have HF := hdq2 R3 k3;clear h hZ hg hl hs hD hDz hPP hb2 R2 R3 k23 k3 hD3 hlg3 hk3 hCp HB c82
         go_wp2_with fail
         refine hCo.mono ?_;rintro e w4 ⟨E4,k4,rfl,hlay,hblk,hb4⟩;obtain ⟨R3,k3⟩ := HF.out;have R4 := R3.grow (fun b hb => Nat.lt_of_lt_of_le (H.out.2.1 b hb) k3.size) hb4;have x4 := R4.c4;have x5 := R4.c5;have x6 := R4.c6;have f4 := R4.fz 4;have f5 := R4.fz 5;have f6 := R4.fz 6;have hO := R4.on;have hms4 := R3.fresh_pay hb4 (E' := E4) (n := d.length) fun b hb => Nat.le_trans (Nat.le_add_right _ 2) (hblk b hb);have HG := hdq8 R4 (k3.trans (keeps_below hb4 nlq)) hlay hblk hO hb4 R3.lt hms4;clear hms4 R3 k3 R4 hlay hblk hO hb4 hCo HF;go_wp2;obtain ⟨h,hZ,hg,hl,hs,hD,hDz,hPP⟩ := H.out;obtain ⟨R4,k4',hlay,hblk,hO,hb4,hlt3,hms4⟩ := HG.out;have z0 := OnP.puq hO 4 (.int .i64 x);have z1 := OnP.puq z0 5 (.int .i64 t);have z2 := OnP.puq z1 6 (.slice E4 d.length k4);rw [hPP];unfold Compacted;rw [qfC hg HC.out.2 HC.out.1,if_pos (by trivial)];refine ⟨rfl,_,⟨{ q with E := E4,cE := k4 },xs,_,RfAt.turnS (N' := { N with lg := N.lg.cut x t,sn := ⟨x,t,d⟩ }) R4 (Nat.le_of_eq z2.size.symm) (fun b _ hb => z2.off b hb) z2.row rfl rfl rfl rfl ?_ ?_ hms4,rfl,k4'.trans (z2.keeps R4.away)⟩,qjf hg hs HC.out.2⟩
         · exact hlay.2.1.keep (Nat.le_of_eq z2.size.symm) fun h0 g o e hg => z2.off g fun e' => by
            have h1 := hblk g ⟨o,e⟩;subst e';omega
         · intro h0 g o e;obtain ⟨g',o',e',hg',_⟩ := hlay.2.1.2.2.2 h0
           cases (Option.some.inj (e.symm.trans e'))
           exact .inr ⟨Nat.le_trans (Nat.le_add_right _ 2) (hblk g ⟨o,e⟩),hg'⟩
end Go.Proofs.YtmiijlecfiddmaaGreat
