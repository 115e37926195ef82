/- A cluster: a message is taken. (Written by mkmove.py.) -/
import Derived.Test.YtmiijlecfiddmaaGreatNNM01
import Derived.Test.YtmiijlecfiddmaaGreatNNM42
set_option linter.unusedVariables false
set_option linter.unusedSimpArgs false
set_option maxRecDepth 100000
set_option maxHeartbeats 6400000
namespace Go.Proofs.YtmiijlecfiddmaaGreat
open Go.RowKit Go.Shelf
attribute [local go_sem] Oper.semAt_some
theorem qdY {w : World} {S : Sim} {L : SimL} {lab : Nat -> Nat} {rb ri : Nat} (hri : 100 <= ri) (h : qh w S L lab) (hr : w.heap[rb]? = some (.cells #[.int .i64 0, .int .i64 0, .int .i64 0, .int .i64 0, .int .i64 0, .int .i64 0, .int .i64 0, .int .i64 0, .bool false, .slice none 0 0, .int .i64 0, .int .i64 0, .slice none 0 0] 51)) (hrl : lab rb = ri) (hn : S.n <= 3) (x : MLay) : (((((((((((((w.setCell ⟨rb,0,none⟩ (.int .i64 x.m.k)).setCell ⟨rb,1,none⟩ (.int .i64 x.m.f)).setCell ⟨rb,2,none⟩ (.int .i64 x.m.o)).setCell ⟨rb,3,none⟩ (.int .i64 x.m.t)).setCell ⟨rb,4,none⟩ (.int .i64 x.m.i)).setCell ⟨rb,5,none⟩ (.int .i64 x.m.l)).setCell ⟨rb,6,none⟩ (.int .i64 x.m.c)).setCell ⟨rb,7,none⟩ (.int .i64 x.m.x)).setCell ⟨rb,8,none⟩ (.bool x.m.b)).setCell ⟨rb,9,none⟩ (.slice x.A x.m.es.length x.cA)).setCell ⟨rb,10,none⟩ (.int .i64 x.m.s.i)).setCell ⟨rb,11,none⟩ (.int .i64 x.m.s.t)).setCell ⟨rb,12,none⟩ (.slice x.E x.m.s.d.length x.cE)).heap[rb]? = some (.cells #[.int .i64 x.m.k, .int .i64 x.m.f, .int .i64 x.m.o, .int .i64 x.m.t, .int .i64 x.m.i, .int .i64 x.m.l, .int .i64 x.m.c, .int .i64 x.m.x, .bool x.m.b, .slice x.A x.m.es.length x.cA, .int .i64 x.m.s.i, .int .i64 x.m.s.t, .slice x.E x.m.s.d.length x.cE] 51) /\ qh (((((((((((((w.setCell ⟨rb,0,none⟩ (.int .i64 x.m.k)).setCell ⟨rb,1,none⟩ (.int .i64 x.m.f)).setCell ⟨rb,2,none⟩ (.int .i64 x.m.o)).setCell ⟨rb,3,none⟩ (.int .i64 x.m.t)).setCell ⟨rb,4,none⟩ (.int .i64 x.m.i)).setCell ⟨rb,5,none⟩ (.int .i64 x.m.l)).setCell ⟨rb,6,none⟩ (.int .i64 x.m.c)).setCell ⟨rb,7,none⟩ (.int .i64 x.m.x)).setCell ⟨rb,8,none⟩ (.bool x.m.b)).setCell ⟨rb,9,none⟩ (.slice x.A x.m.es.length x.cA)).setCell ⟨rb,10,none⟩ (.int .i64 x.m.s.i)).setCell ⟨rb,11,none⟩ (.int .i64 x.m.s.t)).setCell ⟨rb,12,none⟩ (.slice x.E x.m.s.d.length x.cE)) S L lab /\ Turn (fun i => i = ri) w (((((((((((((w.setCell ⟨rb,0,none⟩ (.int .i64 x.m.k)).setCell ⟨rb,1,none⟩ (.int .i64 x.m.f)).setCell ⟨rb,2,none⟩ (.int .i64 x.m.o)).setCell ⟨rb,3,none⟩ (.int .i64 x.m.t)).setCell ⟨rb,4,none⟩ (.int .i64 x.m.i)).setCell ⟨rb,5,none⟩ (.int .i64 x.m.l)).setCell ⟨rb,6,none⟩ (.int .i64 x.m.c)).setCell ⟨rb,7,none⟩ (.int .i64 x.m.x)).setCell ⟨rb,8,none⟩ (.bool x.m.b)).setCell ⟨rb,9,none⟩ (.slice x.A x.m.es.length x.cA)).setCell ⟨rb,10,none⟩ (.int .i64 x.m.s.i)).setCell ⟨rb,11,none⟩ (.int .i64 x.m.s.t)).setCell ⟨rb,12,none⟩ (.slice x.E x.m.s.d.length x.cE)) lab lab := by
 have t0 := qj (i := ri) (j := 0) (v := .int .i64 x.m.k) h.lim hrl;have t1 := qj (i := ri) (j := 1) (v := .int .i64 x.m.f) t0.lim hrl;have t2 := qj (i := ri) (j := 2) (v := .int .i64 x.m.o) t1.lim hrl;have t3 := qj (i := ri) (j := 3) (v := .int .i64 x.m.t) t2.lim hrl;have t4 := qj (i := ri) (j := 4) (v := .int .i64 x.m.i) t3.lim hrl;have t5 := qj (i := ri) (j := 5) (v := .int .i64 x.m.l) t4.lim hrl;have t6 := qj (i := ri) (j := 6) (v := .int .i64 x.m.c) t5.lim hrl;have t7 := qj (i := ri) (j := 7) (v := .int .i64 x.m.x) t6.lim hrl;have t8 := qj (i := ri) (j := 8) (v := .bool x.m.b) t7.lim hrl;have t9 := qj (i := ri) (j := 9) (v := .slice x.A x.m.es.length x.cA) t8.lim hrl;have t10 := qj (i := ri) (j := 10) (v := .int .i64 x.m.s.i) t9.lim hrl;have t11 := qj (i := ri) (j := 11) (v := .int .i64 x.m.s.t) t10.lim hrl;have t12 := qj (i := ri) (j := 12) (v := .slice x.E x.m.s.d.length x.cE) t11.lim hrl;have tt := ((((((((((((t0.trans t1 (by omega)).trans t2 (by omega)).trans t3 (by omega)).trans t4 (by omega)).trans t5 (by omega)).trans t6 (by omega)).trans t7 (by omega)).trans t8 (by omega)).trans t9 (by omega)).trans t10 (by omega)).trans t11 (by omega)).trans t12 (by omega));have r0 := stq 0 (.int .i64 x.m.k) hr;have r1 := stq 1 (.int .i64 x.m.f) r0;have r2 := stq 2 (.int .i64 x.m.o) r1;have r3 := stq 3 (.int .i64 x.m.t) r2;have r4 := stq 4 (.int .i64 x.m.i) r3;have r5 := stq 5 (.int .i64 x.m.l) r4;have r6 := stq 6 (.int .i64 x.m.c) r5;have r7 := stq 7 (.int .i64 x.m.x) r6;have r8 := stq 8 (.bool x.m.b) r7;have r9 := stq 9 (.slice x.A x.m.es.length x.cA) r8;have r10 := stq 10 (.int .i64 x.m.s.i) r9;have r11 := stq 11 (.int .i64 x.m.s.t) r10;have r12 := stq 12 (.slice x.E x.m.s.d.length x.cE) r11;exact ⟨r12,h.move tt (fun i hi => by omega) (fun k hk => by omega),tt⟩
theorem qci {w : World} {ob : Obj} {lab : Nat -> Nat} (ri : Nat) (hl : ∀ b,w.heap.size <= b -> lab b = 0) : Turn (fun i => i = ri) w (w.alloc ob) lab (fun b => if b = w.heap.size then ri else lab b) where
 os := rfl
 tape := rfl
 output := rfl
 size := by simp
 same b hb _ := Below.heap_alloc _ _ _ hb
 old b hb _ := if_neg (by omega)
 own b hb hj := .inl (by show (if b = w.heap.size then ri else lab b) = ri; rw [if_neg (by omega)]; exact hj)
 new b hb := by
  show (if b = w.heap.size then ri else lab b) = ri \/ (if b = w.heap.size then ri else lab b) = 0
  split
  · exact .inl rfl
  · exact .inr (hl b hb)
 lim b hb := by
  have h1 : w.heap.size + 1 <= b := by simpa using hb
  show (if b = w.heap.size then ri else lab b) = 0;rw [if_neg (by omega)];exact hl b (by omega)
theorem Turn.boxed {J : Nat -> Prop} {ri : Nat} (hri : ri ≠ 0) {w W0 W w1 : World} {ob : Obj} {lab lab1 : Nat -> Nat} (hl : ∀ b,w.heap.size <= b -> lab b = 0) (hb0 : Below w.heap.size w W0) (hb : Below W0.heap.size W0 W) (t : Turn J (W.alloc ob) w1 (fun b => if b = W.heap.size then ri else lab b) lab1) (hj : ¬ J 0) : Turn (fun i => i ≠ 0) w w1 lab lab1 := by
 have hlW : ∀ b,W.heap.size <= b -> lab b = 0 := fun b h => hl b (by have := hb0.size; have := hb.size; omega)
 exact Turn.onto hl hb0 hb (((qci (ob := ob) ri hlW).wide (J' := fun i => i ≠ 0) fun i e => by omega).trans (t.wide fun i e e0 => hj (e0 ▸ e)) (by decide)) (by decide)
namespace RegW
theorem qiB {w : World} {S : Sim} {L : SimL} {lab : Nat -> Nat} (h : qh w S L lab) (a x : Int) (D : Option Addr) (d : List UInt8) (dc : Nat) (ha : 0 <= a /\ a < 256) (hx : 0 <= x /\ x < 256) (hn : 1 <= S.n /\ S.n <= 3) {i : Nat} (hi : i = x.toNat % S.net.length) {y : Msg} (hy : S.net[i]? = some y) (hnl : S.net.length <= 400000) (ho : 0 <= y.o /\ y.o < S.n) (f : Fine { S with net := S.net.eraseIdx i } y.o.toNat) (yes : (Sim.look { S with net := S.net.eraseIdx i } y.o.toNat).2 = true) :
 Calls Tryz.prog 20 #[ptrV L.g, .agg #[.int .u8 2, .int .u8 a, .int .u8 x, .slice D d.length dc]] w fun e w' => e = .returned (.bool true) /\ Went w w' (Sim.look { S with net := S.net.eraseIdx i } y.o.toNat).1 L lab := by
 have hil : i < S.net.length := by
  rcases Nat.lt_or_ge i S.net.length with h1 | h1
  · exact h1
  · rw [List.getElem?_eq_none h1] at hy;cases hy
 obtain ⟨k,hk⟩ : ∃ k,k = a.toNat % S.n := ⟨_,rfl⟩;obtain ⟨W0,hW0⟩ := exq (w.alloc (.cells #[.int .u8 2, .int .u8 a, .int .u8 x, .slice D d.length dc] 63))
 have hb0 : Below w.heap.size w W0 := by rw [<- hW0]; exact blq.alloc nlq _
 have hr0 : W0.heap[w.heap.size]? = some (.cells #[.int .u8 2, .int .u8 a, .int .u8 x, .slice D d.length dc] 63) := by rw [<- hW0]; exact heap_alloc_new w _
 have x0 := qb hr0 0 (.int .u8 2) rfl;have x1 := qb hr0 1 (.int .u8 a) rfl;have x2 := qb hr0 2 (.int .u8 x) rfl;have x3 := qb hr0 3 (.slice D d.length dc) rfl;have h0 := h.below hb0
 have ek : a % (S.n : Int) = (k : Int) := by
  rw [hk]
  have : a = ((a.toNat : Nat) : Int) := by omega
  rw [this];simp
 have hkn : k < S.n := by rw [hk]; exact Nat.mod_lt _ (by omega)
 obtain ⟨b,off,eA,hpc,hpl,hpn⟩ := h0.ptr hkn;have c0 := qb h0.row 0 _ rfl;rw [show (simC S L)[0] = .slice L.Ar S.n L.cr from rfl,eA] at c0
 have ei : x % (S.net.length : Int) = (i : Int) := by
  rw [hi]
  have : x = ((x.toNat : Nat) : Int) := by omega
  rw [this];simp
 have c4 := qb h0.row 4 _ rfl;rw [show (simC S L)[4] = .slice L.An S.net.length L.cn from rfl] at c4
 have hne : ¬ S.net = [] := fun e => by rw [e] at hil; exact absurd hil (by simp)
 have ew : IntKind.i64.wrap x = x := IntWalk.i64_in _ (by omega)
 have et : x.tmod (S.net.length : Int) = (i : Int) := by rw [<- ei]; exact Int.tmod_eq_emod_of_nonneg hx.1
 have hSW : ∀ W,Below W0.heap.size W0 W -> (fun w' : World => w'.cell? ⟨w.heap.size,0,none⟩ = some (.int .u8 2) /\ w'.cell? ⟨w.heap.size,2,none⟩ = some (.int .u8 x) /\ w'.cell? ⟨L.g,4,none⟩ = some (.slice L.An S.net.length L.cn)) W := fun W hW => by
  have hc : ∀ a v,W0.cell? a = some v -> W.cell? a = some v := fun a v hv => (World.cell?_of_block (hW.block a.block (World.block_lt_of_cell? W0 a hv))).trans hv
  exact ⟨hc _ _ x0,hc _ _ x2,hc _ _ c4⟩
 have hT := fun W (hW : Below W0.heap.size W0 W) => qaQ (h0.below hW) i hil hn.2 hnl false
 have hTb := fun W (hW : Below W0.heap.size W0 W) => qaQ ((h0.below hW).move (qci (ob := .cells #[.int .i64 0, .int .i64 0, .int .i64 0, .int .i64 0, .int .i64 0, .int .i64 0, .int .i64 0, .int .i64 0, .bool false, .slice none 0 0, .int .i64 0, .int .i64 0, .slice none 0 0] 51) 10000 (h0.below hW).lim) (fun i hi => by omega) (fun k hk => by have := hn.2; omega)) i hil hn.2 hnl false
 have HT := hdq2 hT hTb;clear hT hTb;have HY := hdq4 hy ho f yes;have HS := Lib.hid hSW;have H0 := hdq2 h hb0;clear h h0 hb0 hk eA hr0 hSW hy hi ho f yes
 go_enter Tryz.func20,Tryz.ntmps20
 go_wp2_with fail
 clear hW0
 go_quiet (fail)
 go_wp2_with fail
 refine wp_region_held_drew ⟨(fun w' : World => w'.cell? ⟨w.heap.size,0,none⟩ = some (.int .u8 2) /\ w'.cell? ⟨w.heap.size,2,none⟩ = some (.int .u8 x) /\ w'.cell? ⟨L.g,4,none⟩ = some (.slice L.An S.net.length L.cn)),[13,15]⟩ (by kernel_rfl) (HS.out _ bbq) (fun hHeld => ?_);refine lsq 16 ?_;refine puq 0 ?_;refine puq 1 ?_;refine tvq 2 [3,9] ?_;refine puq 3 ?_;refine puq 4 ?_;refine puq 5 ?_;refine puq 6 ?_;refine tvq 7 [8,9] ?_;refine puq 8 ?_;refine puq 9 ?_;refine puq 10 ?_;refine tvq 11 [12] ?_;refine puq 12 ?_;refine wpAnyH_ready (rs := [13,14]) (by kernel_rfl) (by simp) ?_;refine AllReadyH.late (o := ⟨some 55, .call ⟨.value (.func 26),#[.tmp 42, .tmp 51, .tmp 54],#[59,3,4]⟩,51, "sim.go:172",#[⟨0, .data⟩,⟨9, .data⟩,⟨12, .data⟩],none⟩) rfl (by kernel_rfl) (fun KK hK => ?_) (AllReadyH.cons (o := ⟨some 6, .alloc 51,0, "sim.go:172",#[],none⟩) rfl (fun KK hK => ?_) AllReadyH.nil)
 · go_simp;refine (HT.out.1 _ bbq).mono ?_;rintro e w1 ⟨X,L1,lab1,rfl,hn1,hM1,h1,g1,t1⟩;refine hK.out _ _ ?_;clear hK KK
   try simp only [lpq]
   refine ltq 14 fun KK hK => ?_;go_simp;refine hK.out _ _ ?_;clear hK KK
   try simp only [lpq]
   refine ltq 15 fun KK hK => ?_;go_simp;refine hK.out _ _ ?_;clear hK KK
   try simp only [lpq]
   refine dnq ?_;have hb9 : Below w1.heap.size w1 (w1.alloc (.cells #[.int .i64 X.m.k, .int .i64 X.m.f, .int .i64 X.m.o, .int .i64 X.m.t, .int .i64 X.m.i, .int .i64 X.m.l, .int .i64 X.m.c, .int .i64 X.m.x, .bool X.m.b, .slice X.A X.m.es.length X.cA, .int .i64 X.m.s.i, .int .i64 X.m.s.t, .slice X.E X.m.s.d.length X.cE] 51)) := blq.alloc nlq _;have tJ : Turn (fun i => i ≠ 0) W0 w1 lab lab1 := Turn.onto (fun b hb => H0.out.1.lim b (Nat.le_trans H0.out.2.size hb)) blq bbq t1 (by omega);have hJ := h1.below hb9;have hMJ := hM1.moved (Turn.below (J := fun i => i ≠ 0) hb9 h1.lim) (by omega);have tJ2 := tJ.trans (Turn.below hb9 h1.lim) (by decide);have hPJ := heap_alloc_new w1 (.cells #[.int .i64 X.m.k, .int .i64 X.m.f, .int .i64 X.m.o, .int .i64 X.m.t, .int .i64 X.m.i, .int .i64 X.m.l, .int .i64 X.m.c, .int .i64 X.m.x, .bool X.m.b, .slice X.A X.m.es.length X.cA, .int .i64 X.m.s.i, .int .i64 X.m.s.t, .slice X.E X.m.s.d.length X.cE] 51);obtain ⟨P,hP⟩ := exq (w1.heap.size);obtain ⟨WJ,hWJ⟩ := exq (w1.alloc (.cells #[.int .i64 X.m.k, .int .i64 X.m.f, .int .i64 X.m.o, .int .i64 X.m.t, .int .i64 X.m.i, .int .i64 X.m.l, .int .i64 X.m.c, .int .i64 X.m.x, .bool X.m.b, .slice X.A X.m.es.length X.cA, .int .i64 X.m.s.i, .int .i64 X.m.s.t, .slice X.E X.m.s.d.length X.cE] 51));rw [hWJ] at hJ hMJ tJ2 hPJ ⊢;rw [hP] at hPJ ⊢;clear hWJ hP hb9 tJ t1 h1 hM1
   obtain rfl : X.m = y := by have := hn1.symm.trans HY.out.1; injection this
   replace hJ : qh WJ { S with net := S.net.eraseIdx i } L1 lab1 := hJ
   have ho := HY.out.2.1
   have hkn2 : X.m.o.toNat < S.n := by omega
   obtain ⟨b2,off2,eA2,hpc2,hpl2,hpn2⟩ := hJ.ptr (k := X.m.o.toNat) hkn2
   try dsimp only at hpn2
   have e0 := qb hJ.row 0 _ rfl;rw [show (simC { S with net := S.net.eraseIdx i } L1)[0] = .slice L1.Ar S.n L1.cr from rfl,eA2,g1] at e0;have hbx : lab w.heap.size = 0 := H0.out.1.lim _ nlq;have y0 := tJ2.cell blq x0 (by rw [hbx]; omega);obtain ⟨⟨a0,a1,a2,a3,a4,a5,a6,a7,a8,a9,a10,a11,a12⟩,_⟩ := qu hPJ
   have q1 : ¬ X.m.o < 0 := by omega
   have q2 : ¬ (S.n : Int) <= X.m.o := by omega
   have hcW : ∀ W,Below WJ.heap.size WJ W -> ∀ a v,WJ.cell? a = some v -> W.cell? a = some v := fun W hW a v hv => (World.cell?_of_block (hW.block a.block (World.block_lt_of_cell? WJ a hv))).trans hv
   have hLk := fun W (hW : Below WJ.heap.size WJ W) => qP hJ hW (qE (hJ.below hW) X.m.o.toNat HY.out.2.2.1 HY.out.2.2.2)
   rw [Int.toNat_of_nonneg ho.1,g1] at hLk;have HF := hdq4 g1 tJ2 hcW y0;clear hJ g1 tJ2 hMJ hPJ hcW HS HT hn1 ek ei et ew hbx
   go_wp2_with fail
   clear a0 a1 a2 a3 a4 a5 a6 a7 a8 a9 a10 a11 a12 x0 x1 x2 x3 c0 c4 hpc;refine wp_region_held_drew ⟨(fun w' : World => w'.cell? ⟨w.heap.size,0,none⟩ = some (.int .u8 2)),[]⟩ (by kernel_rfl) (HF.out.2.2.1 _ bbq _ _ HF.out.2.2.2) (fun hHeld => ?_);refine lsq 15 ?_;refine tkq 0 ?_;refine tkq 1 ?_;refine tkq 2 ?_;refine tkq 3 ?_;refine tuq 4 ?_;refine tuq 5 ?_;refine tuq 6 ?_;refine tuq 7 ?_;refine tuq 8 ?_;refine tuq 9 ?_;refine tuq 10 ?_;refine tuq 11 ?_;refine tuq 12 ?_;refine tuq 13 ?_;refine puq 14 ?_;refine dnq ?_
   go_wp2_with fail
   refine (hLk _ bbq).mono ?_;rintro e w2 ⟨rfl,Ww⟩;have H2 := Lib.hid (Went.after H0.out.1 H0.out.2 (Went.then HF.out.1 HF.out.2.1 Ww));clear hLk Ww;go_wp2;go_ret;exact ⟨rfl,H2.out⟩
 · go_simp;refine hK.out _ _ (HS.out _ bbq) ?_;clear hK KK hHeld;intro hHeld
   try simp only [lpq]
   refine ltq 13 fun KK hK => ?_;go_simp;refine (HT.out.2 _ bbq).mono ?_;rintro e w1 ⟨X,L1,lab1,rfl,hn1,hM1,h1,g1,t1⟩;have hP1 : w1.heap[W0.heap.size]? = some (.cells #[.int .i64 0, .int .i64 0, .int .i64 0, .int .i64 0, .int .i64 0, .int .i64 0, .int .i64 0, .int .i64 0, .bool false, .slice none 0 0, .int .i64 0, .int .i64 0, .slice none 0 0] 51) := (t1.same W0.heap.size (by simp) (by show ¬ ((if W0.heap.size = W0.heap.size then 10000 else lab W0.heap.size) = 1 \/ (if W0.heap.size = W0.heap.size then 10000 else lab W0.heap.size) = 6 \/ (if W0.heap.size = W0.heap.size then 10000 else lab W0.heap.size) = 9999); rw [if_pos rfl]; omega)).trans (heap_alloc_new _ _);have hPl : lab1 W0.heap.size = 10000 := (t1.old W0.heap.size (by simp) (by show ¬ ((if W0.heap.size = W0.heap.size then 10000 else lab W0.heap.size) = 1 \/ (if W0.heap.size = W0.heap.size then 10000 else lab W0.heap.size) = 6 \/ (if W0.heap.size = W0.heap.size then 10000 else lab W0.heap.size) = 9999); rw [if_pos rfl]; omega)).trans (if_pos rfl);have tJ1 : Turn (fun i => i ≠ 0) W0 w1 lab lab1 := Turn.boxed (ri := 10000) (by decide) (fun b hb => H0.out.1.lim b (Nat.le_trans H0.out.2.size hb)) blq bbq t1 (by omega);have HA := hdq7 hn1 hM1 h1 g1 tJ1 hP1 hPl;obtain ⟨⟨a0,a1,a2,a3,a4,a5,a6,a7,a8,a9,a10,a11,a12⟩,⟨f0,f1,f2,f3,f4,f5,f6,f7,f8,f9,f10,f11,f12⟩⟩ := qu hP1;clear hn1 hM1 h1 g1 t1 hP1 hPl tJ1;refine hK.out _ _ ?_;clear hK KK
   try simp only [lpq]
   refine ltq 15 fun KK hK => ?_;go_simp;refine hK.out _ _ ?_;clear hK KK
   try simp only [lpq]
   refine dnq ?_;obtain ⟨hPJ,hJ,z3⟩ := qdY (by omega) HA.out.2.2.1 HA.out.2.2.2.2.2.1 HA.out.2.2.2.2.2.2 (by have := hn.2; exact this) X;have hn1 := HA.out.1;have g1 := HA.out.2.2.2.1;have hMJ := HA.out.2.1.moved z3 (by decide);have tJ2 := HA.out.2.2.2.2.1.trans (z3.wide (J' := fun i => i ≠ 0) fun i e => by omega) (by decide);obtain ⟨P,hP⟩ := exq (W0.heap.size);obtain ⟨WJ,hWJ⟩ := exq ((((((((((((((w1.setCell ⟨W0.heap.size,0,none⟩ (.int .i64 X.m.k)).setCell ⟨W0.heap.size,1,none⟩ (.int .i64 X.m.f)).setCell ⟨W0.heap.size,2,none⟩ (.int .i64 X.m.o)).setCell ⟨W0.heap.size,3,none⟩ (.int .i64 X.m.t)).setCell ⟨W0.heap.size,4,none⟩ (.int .i64 X.m.i)).setCell ⟨W0.heap.size,5,none⟩ (.int .i64 X.m.l)).setCell ⟨W0.heap.size,6,none⟩ (.int .i64 X.m.c)).setCell ⟨W0.heap.size,7,none⟩ (.int .i64 X.m.x)).setCell ⟨W0.heap.size,8,none⟩ (.bool X.m.b)).setCell ⟨W0.heap.size,9,none⟩ (.slice X.A X.m.es.length X.cA)).setCell ⟨W0.heap.size,10,none⟩ (.int .i64 X.m.s.i)).setCell ⟨W0.heap.size,11,none⟩ (.int .i64 X.m.s.t)).setCell ⟨W0.heap.size,12,none⟩ (.slice X.E X.m.s.d.length X.cE)));rw [hWJ] at hJ hMJ tJ2 hPJ ⊢;rw [hP] at hPJ ⊢;clear hWJ hP z3 HA a0 a1 a2 a3 a4 a5 a6 a7 a8 a9 a10 a11 a12 f0 f1 f2 f3 f4 f5 f6 f7 f8 f9 f10 f11 f12
   obtain rfl : X.m = y := by have := hn1.symm.trans HY.out.1; injection this
   replace hJ : qh WJ { S with net := S.net.eraseIdx i } L1 lab1 := hJ
   have ho := HY.out.2.1
   have hkn2 : X.m.o.toNat < S.n := by omega
   obtain ⟨b2,off2,eA2,hpc2,hpl2,hpn2⟩ := hJ.ptr (k := X.m.o.toNat) hkn2
   try dsimp only at hpn2
   have e0 := qb hJ.row 0 _ rfl;rw [show (simC { S with net := S.net.eraseIdx i } L1)[0] = .slice L1.Ar S.n L1.cr from rfl,eA2,g1] at e0;have hbx : lab w.heap.size = 0 := H0.out.1.lim _ nlq;have y0 := tJ2.cell blq x0 (by rw [hbx]; omega);obtain ⟨⟨a0,a1,a2,a3,a4,a5,a6,a7,a8,a9,a10,a11,a12⟩,_⟩ := qu hPJ
   have q1 : ¬ X.m.o < 0 := by omega
   have q2 : ¬ (S.n : Int) <= X.m.o := by omega
   have hcW : ∀ W,Below WJ.heap.size WJ W -> ∀ a v,WJ.cell? a = some v -> W.cell? a = some v := fun W hW a v hv => (World.cell?_of_block (hW.block a.block (World.block_lt_of_cell? WJ a hv))).trans hv
   have hLk := fun W (hW : Below WJ.heap.size WJ W) => qP hJ hW (qE (hJ.below hW) X.m.o.toNat HY.out.2.2.1 HY.out.2.2.2)
   rw [Int.toNat_of_nonneg ho.1,g1] at hLk;have HF := hdq4 g1 tJ2 hcW y0;clear hJ g1 tJ2 hMJ hPJ hcW HS HT hn1 ek ei et ew hbx
   go_wp2_with fail
   clear a0 a1 a2 a3 a4 a5 a6 a7 a8 a9 a10 a11 a12 x0 x1 x2 x3 c0 c4 hpc;refine wp_region_held_drew ⟨(fun w' : World => w'.cell? ⟨w.heap.size,0,none⟩ = some (.int .u8 2)),[]⟩ (by kernel_rfl) (HF.out.2.2.1 _ bbq _ _ HF.out.2.2.2) (fun hHeld => ?_);refine lsq 15 ?_;refine tkq 0 ?_;refine tkq 1 ?_;refine tkq 2 ?_;refine tkq 3 ?_;refine tuq 4 ?_;refine tuq 5 ?_;refine tuq 6 ?_;refine tuq 7 ?_;refine tuq 8 ?_;refine tuq 9 ?_;refine tuq 10 ?_;refine tuq 11 ?_;refine tuq 12 ?_;refine tuq 13 ?_;refine puq 14 ?_;refine dnq ?_
   go_wp2_with fail
   refine (hLk _ bbq).mono ?_;rintro e w2 ⟨rfl,Ww⟩;have H2 := Lib.hid (Went.after H0.out.1 H0.out.2 (Went.then HF.out.1 HF.out.2.1 Ww));clear hLk Ww;go_wp2;go_ret;exact ⟨rfl,H2.out⟩
end RegW
end Go.Proofs.YtmiijlecfiddmaaGreat
