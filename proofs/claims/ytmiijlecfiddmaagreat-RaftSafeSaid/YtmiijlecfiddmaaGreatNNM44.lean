/- A cluster: a message is taken and heard. (Written by mkmove.py.) -/
import Derived.Test.YtmiijlecfiddmaaGreatNNM01
import Derived.Test.YtmiijlecfiddmaaGreatNNM43
set_option linter.unusedVariables false
set_option linter.unusedSimpArgs false
set_option maxRecDepth 100000
set_option maxHeartbeats 6400000
namespace Go.Proofs.YtmiijlecfiddmaaGreat
open Go.RowKit Go.Shelf
attribute [local go_sem] Oper.semAt_some
theorem qh.stepC {w : World} {S : Sim} {L : SimL} {lab : Nat -> Nat} (h : qh w S L lab) {k : Nat} (hk : k < S.n) (able : Able (S.r k)) (m : Msg) (A : Option Addr) (cA : Nat) (E : Option Addr) (cE : Nat) (hM : qo w (fun b => lab b = 0) m A cA E cE) (hh : (S.r k).heard m = true) :
 Calls Tryz.prog 13 #[ptrV (L.ps k),msgV m A cA E cE] w fun e w' => e = .returned (.int .i64 0) /\ Went w w' { S with r := Sim.upd S.r k ((S.r k).step m) } L lab := by
 obtain ⟨q,s,xs,K,R,hfr⟩ := h.nodes k hk
 have hM2 : qo w (fun b => b < w.heap.size /\ lab b ≠ 11 + k) m A cA E cE := by
  refine ⟨hM.ents.old.mono fun b hb => ⟨hb.2,by rw [hb.1]; omega⟩,hM.hm,hM.lies,fun h0 g o e => ?_⟩;have hg := hM.lies.2.2.2 (by omega);obtain ⟨g',o',e',hg',_⟩ := hg;rw [e'] at e;injection e with e;injection e with e1;subst e1;exact ⟨hg',by rw [hM.hz h0 g' o' e']; omega⟩
 refine (qic R (fun b hb => hb.1) able m A cA E cE hM2).mono ?_;rintro e w' ⟨e1,s',T,hs⟩;rw [if_pos hh] at e1 T hs;obtain ⟨lab',z1,z2⟩ := h.turned hk T (hs hfr);exact ⟨e1,L,lab',z1,rfl,z2.wide fun i e => by omega⟩
namespace RegW
theorem qiC {w : World} {S : Sim} {L : SimL} {lab : Nat -> Nat} (h : qh w S L lab) (a x : Int) (D : Option Addr) (d : List UInt8) (dc : Nat) (ha : 0 <= a /\ a < 256) (hx : 0 <= x /\ x < 256) (hn : 1 <= S.n /\ S.n <= 3) {i : Nat} (hi : i = x.toNat % S.net.length) {y : Msg} (hy : S.net[i]? = some y) (hnl : S.net.length <= 400000) (ho : 0 <= y.o /\ y.o < S.n) (f : Fine { S with net := S.net.eraseIdx i,r := Sim.upd S.r y.o.toNat ((S.r y.o.toNat).step y) } y.o.toNat) (yes : (Sim.look { S with net := S.net.eraseIdx i,r := Sim.upd S.r y.o.toNat ((S.r y.o.toNat).step y) } y.o.toNat).2 = true) (able : Able (S.r y.o.toNat)) (hh : (S.r y.o.toNat).heard y = true) :
 Calls Tryz.prog 20 #[ptrV L.g, .agg #[.int .u8 1, .int .u8 a, .int .u8 x, .slice D d.length dc]] w fun e w' => e = .returned (.bool true) /\ Went w w' (Sim.look { S with net := S.net.eraseIdx i,r := Sim.upd S.r y.o.toNat ((S.r y.o.toNat).step y) } y.o.toNat).1 L lab := by
 have hil : i < S.net.length := by
  rcases Nat.lt_or_ge i S.net.length with h1 | h1
  · exact h1
  · rw [List.getElem?_eq_none h1] at hy;cases hy
 obtain ⟨k,hk⟩ : ∃ k,k = a.toNat % S.n := ⟨_,rfl⟩;obtain ⟨W0,hW0⟩ := exq (w.alloc (.cells #[.int .u8 1, .int .u8 a, .int .u8 x, .slice D d.length dc] 63))
 have hb0 : Below w.heap.size w W0 := by rw [<- hW0]; exact blq.alloc nlq _
 have hr0 : W0.heap[w.heap.size]? = some (.cells #[.int .u8 1, .int .u8 a, .int .u8 x, .slice D d.length dc] 63) := by rw [<- hW0]; exact heap_alloc_new w _
 have x0 := qb hr0 0 (.int .u8 1) rfl;have x1 := qb hr0 1 (.int .u8 a) rfl;have x2 := qb hr0 2 (.int .u8 x) rfl;have x3 := qb hr0 3 (.slice D d.length dc) rfl;have h0 := h.below hb0
 have ek : a % (S.n : Int) = (k : Int) := by
  rw [hk]
  have : a = ((a.toNat : Nat) : Int) := by omega
  rw [this];simp
 have hkn : k < S.n := by rw [hk]; exact Nat.mod_lt _ (by omega)
 obtain ⟨b,off,eA,hpc,hpl,hpn⟩ := h0.ptr hkn;have c0 := qb h0.row 0 _ rfl;rw [show (simC S L)[0] = .slice L.Ar S.n L.cr from rfl,eA] at c0
 have ei : x % (S.net.length : Int) = (i : Int) := by
  rw [hi]
  have : x = ((x.toNat : Nat) : Int) := by omega
  rw [this];simp
 have c4 := qb h0.row 4 _ rfl;rw [show (simC S L)[4] = .slice L.An S.net.length L.cn from rfl] at c4
 have hne : ¬ S.net = [] := fun e => by rw [e] at hil; exact absurd hil (by simp)
 have ew : IntKind.i64.wrap x = x := IntWalk.i64_in _ (by omega)
 have et : x.tmod (S.net.length : Int) = (i : Int) := by rw [<- ei]; exact Int.tmod_eq_emod_of_nonneg hx.1
 have hSW : ∀ W,Below W0.heap.size W0 W -> (fun w' : World => w'.cell? ⟨w.heap.size,0,none⟩ = some (.int .u8 1) /\ w'.cell? ⟨w.heap.size,2,none⟩ = some (.int .u8 x) /\ w'.cell? ⟨L.g,4,none⟩ = some (.slice L.An S.net.length L.cn)) W := fun W hW => by
  have hc : ∀ a v,W0.cell? a = some v -> W.cell? a = some v := fun a v hv => (World.cell?_of_block (hW.block a.block (World.block_lt_of_cell? W0 a hv))).trans hv
  exact ⟨hc _ _ x0,hc _ _ x2,hc _ _ c4⟩
 have hT := fun W (hW : Below W0.heap.size W0 W) => qaQ (h0.below hW) i hil hn.2 hnl false
 have hTb := fun W (hW : Below W0.heap.size W0 W) => qaQ ((h0.below hW).move (qci (ob := .cells #[.int .i64 0, .int .i64 0, .int .i64 0, .int .i64 0, .int .i64 0, .int .i64 0, .int .i64 0, .int .i64 0, .bool false, .slice none 0 0, .int .i64 0, .int .i64 0, .slice none 0 0] 51) 10000 (h0.below hW).lim) (fun i hi => by omega) (fun k hk => by have := hn.2; omega)) i hil hn.2 hnl false
 have HT := hdq2 hT hTb;clear hT hTb;have HY := hdq6 hy ho f yes able hh;have HS := Lib.hid hSW;have H0 := hdq2 h hb0;clear h h0 hb0 hk eA hr0 hSW hy hi ho f yes able hh
 go_enter Tryz.func20,Tryz.ntmps20
 go_wp2_with fail
 clear hW0
 go_quiet (fail)
 go_wp2_with fail
 refine wp_region_held_drew ⟨(fun w' : World => w'.cell? ⟨w.heap.size,0,none⟩ = some (.int .u8 1) /\ w'.cell? ⟨w.heap.size,2,none⟩ = some (.int .u8 x) /\ w'.cell? ⟨L.g,4,none⟩ = some (.slice L.An S.net.length L.cn)),[13,15]⟩ (by kernel_rfl) (HS.out _ bbq) (fun hHeld => ?_);refine lsq 16 ?_;refine puq 0 ?_;refine puq 1 ?_;refine tvq 2 [3,9] ?_;refine puq 3 ?_;refine puq 4 ?_;refine puq 5 ?_;refine puq 6 ?_;refine tvq 7 [8,9] ?_;refine puq 8 ?_;refine puq 9 ?_;refine puq 10 ?_;refine tvq 11 [12] ?_;refine puq 12 ?_;refine wpAnyH_ready (rs := [13,14]) (by kernel_rfl) (by simp) ?_;refine AllReadyH.late (o := ⟨some 55, .call ⟨.value (.func 26),#[.tmp 42, .tmp 51, .tmp 54],#[59,3,4]⟩,51, "sim.go:172",#[⟨0, .data⟩,⟨9, .data⟩,⟨12, .data⟩],none⟩) rfl (by kernel_rfl) (fun KK hK => ?_) (AllReadyH.cons (o := ⟨some 6, .alloc 51,0, "sim.go:172",#[],none⟩) rfl (fun KK hK => ?_) AllReadyH.nil)
 · go_simp;refine (HT.out.1 _ bbq).mono ?_;rintro e w1 ⟨X,L1,lab1,rfl,hn1,hM1,h1,g1,t1⟩;refine hK.out _ _ ?_;clear hK KK
   try simp only [lpq]
   refine ltq 14 fun KK hK => ?_;go_simp;refine hK.out _ _ ?_;clear hK KK
   try simp only [lpq]
   refine ltq 15 fun KK hK => ?_;go_simp;refine hK.out _ _ ?_;clear hK KK
   try simp only [lpq]
   refine dnq ?_;have hb9 : Below w1.heap.size w1 (w1.alloc (.cells #[.int .i64 X.m.k, .int .i64 X.m.f, .int .i64 X.m.o, .int .i64 X.m.t, .int .i64 X.m.i, .int .i64 X.m.l, .int .i64 X.m.c, .int .i64 X.m.x, .bool X.m.b, .slice X.A X.m.es.length X.cA, .int .i64 X.m.s.i, .int .i64 X.m.s.t, .slice X.E X.m.s.d.length X.cE] 51)) := blq.alloc nlq _;have tJ : Turn (fun i => i ≠ 0) W0 w1 lab lab1 := Turn.onto (fun b hb => H0.out.1.lim b (Nat.le_trans H0.out.2.size hb)) blq bbq t1 (by omega);have hJ := h1.below hb9;have hMJ := hM1.moved (Turn.below (J := fun i => i ≠ 0) hb9 h1.lim) (by omega);have tJ2 := tJ.trans (Turn.below hb9 h1.lim) (by decide);have hPJ := heap_alloc_new w1 (.cells #[.int .i64 X.m.k, .int .i64 X.m.f, .int .i64 X.m.o, .int .i64 X.m.t, .int .i64 X.m.i, .int .i64 X.m.l, .int .i64 X.m.c, .int .i64 X.m.x, .bool X.m.b, .slice X.A X.m.es.length X.cA, .int .i64 X.m.s.i, .int .i64 X.m.s.t, .slice X.E X.m.s.d.length X.cE] 51);obtain ⟨P,hP⟩ := exq (w1.heap.size);obtain ⟨WJ,hWJ⟩ := exq (w1.alloc (.cells #[.int .i64 X.m.k, .int .i64 X.m.f, .int .i64 X.m.o, .int .i64 X.m.t, .int .i64 X.m.i, .int .i64 X.m.l, .int .i64 X.m.c, .int .i64 X.m.x, .bool X.m.b, .slice X.A X.m.es.length X.cA, .int .i64 X.m.s.i, .int .i64 X.m.s.t, .slice X.E X.m.s.d.length X.cE] 51));rw [hWJ] at hJ hMJ tJ2 hPJ ⊢;rw [hP] at hPJ ⊢;clear hWJ hP hb9 tJ t1 h1 hM1
   obtain rfl : X.m = y := by have := hn1.symm.trans HY.out.1; injection this
   replace hJ : qh WJ { S with net := S.net.eraseIdx i } L1 lab1 := hJ
   have ho := HY.out.2.1
   have hkn2 : X.m.o.toNat < S.n := by omega
   obtain ⟨b2,off2,eA2,hpc2,hpl2,hpn2⟩ := hJ.ptr (k := X.m.o.toNat) hkn2
   try dsimp only at hpn2
   have e0 := qb hJ.row 0 _ rfl;rw [show (simC { S with net := S.net.eraseIdx i } L1)[0] = .slice L1.Ar S.n L1.cr from rfl,eA2,g1] at e0;have hbx : lab w.heap.size = 0 := H0.out.1.lim _ nlq;have y0 := tJ2.cell blq x0 (by rw [hbx]; omega);obtain ⟨⟨a0,a1,a2,a3,a4,a5,a6,a7,a8,a9,a10,a11,a12⟩,_⟩ := qu hPJ
   have q1 : ¬ X.m.o < 0 := by omega
   have q2 : ¬ (S.n : Int) <= X.m.o := by omega
   have hcW : ∀ W,Below WJ.heap.size WJ W -> ∀ a v,WJ.cell? a = some v -> W.cell? a = some v := fun W hW a v hv => (World.cell?_of_block (hW.block a.block (World.block_lt_of_cell? WJ a hv))).trans hv
   have hSt := fun W (hW : Below WJ.heap.size WJ W) => qP hJ hW (qh.stepC (h := hJ.below hW) hkn2 HY.out.2.2.2.2.1 X.m X.A X.cA X.E X.cE (hMJ.moved (Turn.below (J := fun i => i ≠ 0) hW hJ.lim) (by omega)) HY.out.2.2.2.2.2)
   have HF := Lib.hid (And.intro g1 (And.intro tJ2 (And.intro hcW (And.intro y0 (And.intro e0 (And.intro hpc2 (And.intro a0 (And.intro a1 (And.intro a2 (And.intro a3 (And.intro a4 (And.intro a5 (And.intro a6 (And.intro a7 (And.intro a8 (And.intro a9 (And.intro a10 (And.intro a11 a12))))))))))))))))));clear hJ g1 tJ2 hMJ hPJ hcW HS HT hn1 ek ei et ew hbx
   go_wp2_with fail
   clear a0 a1 a2 a3 a4 a5 a6 a7 a8 a9 a10 a11 a12 x0 x1 x2 x3 c0 c4 hpc y0 e0 hpc2;refine wp_region_held_drew ⟨(fun w' : World => w'.cell? ⟨w.heap.size,0,none⟩ = some (.int .u8 1) /\ w'.cell? ⟨L.g,0,none⟩ = some (.slice (some ⟨b2,off2,none⟩) S.n L1.cr) /\ w'.cell? ⟨b2,off2 + X.m.o.toNat,none⟩ = some (ptrV (L1.ps X.m.o.toNat)) /\ w'.cell? ⟨P,0,none⟩ = some (.int .i64 X.m.k) /\ w'.cell? ⟨P,1,none⟩ = some (.int .i64 X.m.f) /\ w'.cell? ⟨P,2,none⟩ = some (.int .i64 X.m.o) /\ w'.cell? ⟨P,3,none⟩ = some (.int .i64 X.m.t) /\ w'.cell? ⟨P,4,none⟩ = some (.int .i64 X.m.i) /\ w'.cell? ⟨P,5,none⟩ = some (.int .i64 X.m.l) /\ w'.cell? ⟨P,6,none⟩ = some (.int .i64 X.m.c) /\ w'.cell? ⟨P,7,none⟩ = some (.int .i64 X.m.x) /\ w'.cell? ⟨P,8,none⟩ = some (.bool X.m.b) /\ w'.cell? ⟨P,9,none⟩ = some (.slice X.A X.m.es.length X.cA) /\ w'.cell? ⟨P,10,none⟩ = some (.int .i64 X.m.s.i) /\ w'.cell? ⟨P,11,none⟩ = some (.int .i64 X.m.s.t) /\ w'.cell? ⟨P,12,none⟩ = some (.slice X.E X.m.s.d.length X.cE)),[12]⟩ (by kernel_rfl) ⟨HF.out.2.2.1 _ bbq _ _ HF.out.2.2.2.1,HF.out.2.2.1 _ bbq _ _ HF.out.2.2.2.2.1,HF.out.2.2.1 _ bbq _ _ HF.out.2.2.2.2.2.1,HF.out.2.2.1 _ bbq _ _ HF.out.2.2.2.2.2.2.1,HF.out.2.2.1 _ bbq _ _ HF.out.2.2.2.2.2.2.2.1,HF.out.2.2.1 _ bbq _ _ HF.out.2.2.2.2.2.2.2.2.1,HF.out.2.2.1 _ bbq _ _ HF.out.2.2.2.2.2.2.2.2.2.1,HF.out.2.2.1 _ bbq _ _ HF.out.2.2.2.2.2.2.2.2.2.2.1,HF.out.2.2.1 _ bbq _ _ HF.out.2.2.2.2.2.2.2.2.2.2.2.1,HF.out.2.2.1 _ bbq _ _ HF.out.2.2.2.2.2.2.2.2.2.2.2.2.1,HF.out.2.2.1 _ bbq _ _ HF.out.2.2.2.2.2.2.2.2.2.2.2.2.2.1,HF.out.2.2.1 _ bbq _ _ HF.out.2.2.2.2.2.2.2.2.2.2.2.2.2.2.1,HF.out.2.2.1 _ bbq _ _ HF.out.2.2.2.2.2.2.2.2.2.2.2.2.2.2.2.1,HF.out.2.2.1 _ bbq _ _ HF.out.2.2.2.2.2.2.2.2.2.2.2.2.2.2.2.2.1,HF.out.2.2.1 _ bbq _ _ HF.out.2.2.2.2.2.2.2.2.2.2.2.2.2.2.2.2.2.1,HF.out.2.2.1 _ bbq _ _ HF.out.2.2.2.2.2.2.2.2.2.2.2.2.2.2.2.2.2.2⟩ (fun hHeld => ?_);refine lsq 15 ?_;refine puq 0 ?_;refine tvq 1 [2,3] ?_;refine puq 2 ?_;refine puq 3 ?_;refine puq 4 ?_;refine puq 5 ?_;refine puq 6 ?_;refine tvq 7 [9,10] ?_;refine puq 8 ?_;refine puq 9 ?_;refine tvq 10 [] ?_;refine tvq 11 [] ?_;refine ltq 12 fun KK hK => ?_;go_simp;refine (hSt _ bbq).mono ?_;rintro e w3 ⟨rfl,L3,lab3,h3,g3,t3⟩;refine hK.out _ _ ?_;clear hK KK
   try simp only [lpq]
   refine plq 13 ?_;refine plq 14 ?_;refine dnq ?_;have hL := qE h3 X.m.o.toNat HY.out.2.2.1 HY.out.2.2.2.1;rw [Int.toNat_of_nonneg ho.1,g3,HF.out.1] at hL;have H3 := hdq2 (g3.trans HF.out.1) (HF.out.2.1.trans t3 (by decide));clear h3 g3 t3 hSt
   go_wp2_with fail
   refine hL.mono ?_;rintro e w2 ⟨rfl,Ww⟩;have H2 := Lib.hid (Went.after H0.out.1 H0.out.2 (Went.then H3.out.1 H3.out.2 Ww));clear hL Ww;go_wp2;go_ret;exact ⟨rfl,H2.out⟩
 · go_simp;refine hK.out _ _ (HS.out _ bbq) ?_;clear hK KK hHeld;intro hHeld
   try simp only [lpq]
   refine ltq 13 fun KK hK => ?_;go_simp;refine (HT.out.2 _ bbq).mono ?_;rintro e w1 ⟨X,L1,lab1,rfl,hn1,hM1,h1,g1,t1⟩;have hP1 : w1.heap[W0.heap.size]? = some (.cells #[.int .i64 0, .int .i64 0, .int .i64 0, .int .i64 0, .int .i64 0, .int .i64 0, .int .i64 0, .int .i64 0, .bool false, .slice none 0 0, .int .i64 0, .int .i64 0, .slice none 0 0] 51) := (t1.same W0.heap.size (by simp) (by show ¬ ((if W0.heap.size = W0.heap.size then 10000 else lab W0.heap.size) = 1 \/ (if W0.heap.size = W0.heap.size then 10000 else lab W0.heap.size) = 6 \/ (if W0.heap.size = W0.heap.size then 10000 else lab W0.heap.size) = 9999); rw [if_pos rfl]; omega)).trans (heap_alloc_new _ _);have hPl : lab1 W0.heap.size = 10000 := (t1.old W0.heap.size (by simp) (by show ¬ ((if W0.heap.size = W0.heap.size then 10000 else lab W0.heap.size) = 1 \/ (if W0.heap.size = W0.heap.size then 10000 else lab W0.heap.size) = 6 \/ (if W0.heap.size = W0.heap.size then 10000 else lab W0.heap.size) = 9999); rw [if_pos rfl]; omega)).trans (if_pos rfl);have tJ1 : Turn (fun i => i ≠ 0) W0 w1 lab lab1 := Turn.boxed (ri := 10000) (by decide) (fun b hb => H0.out.1.lim b (Nat.le_trans H0.out.2.size hb)) blq bbq t1 (by omega);have HA := hdq7 hn1 hM1 h1 g1 tJ1 hP1 hPl;obtain ⟨⟨a0,a1,a2,a3,a4,a5,a6,a7,a8,a9,a10,a11,a12⟩,⟨f0,f1,f2,f3,f4,f5,f6,f7,f8,f9,f10,f11,f12⟩⟩ := qu hP1;clear hn1 hM1 h1 g1 t1 hP1 hPl tJ1;refine hK.out _ _ ?_;clear hK KK
   try simp only [lpq]
   refine ltq 15 fun KK hK => ?_;go_simp;refine hK.out _ _ ?_;clear hK KK
   try simp only [lpq]
   refine dnq ?_;obtain ⟨hPJ,hJ,z3⟩ := qdY (by omega) HA.out.2.2.1 HA.out.2.2.2.2.2.1 HA.out.2.2.2.2.2.2 (by have := hn.2; exact this) X;have hn1 := HA.out.1;have g1 := HA.out.2.2.2.1;have hMJ := HA.out.2.1.moved z3 (by decide);have tJ2 := HA.out.2.2.2.2.1.trans (z3.wide (J' := fun i => i ≠ 0) fun i e => by omega) (by decide);obtain ⟨P,hP⟩ := exq (W0.heap.size);obtain ⟨WJ,hWJ⟩ := exq ((((((((((((((w1.setCell ⟨W0.heap.size,0,none⟩ (.int .i64 X.m.k)).setCell ⟨W0.heap.size,1,none⟩ (.int .i64 X.m.f)).setCell ⟨W0.heap.size,2,none⟩ (.int .i64 X.m.o)).setCell ⟨W0.heap.size,3,none⟩ (.int .i64 X.m.t)).setCell ⟨W0.heap.size,4,none⟩ (.int .i64 X.m.i)).setCell ⟨W0.heap.size,5,none⟩ (.int .i64 X.m.l)).setCell ⟨W0.heap.size,6,none⟩ (.int .i64 X.m.c)).setCell ⟨W0.heap.size,7,none⟩ (.int .i64 X.m.x)).setCell ⟨W0.heap.size,8,none⟩ (.bool X.m.b)).setCell ⟨W0.heap.size,9,none⟩ (.slice X.A X.m.es.length X.cA)).setCell ⟨W0.heap.size,10,none⟩ (.int .i64 X.m.s.i)).setCell ⟨W0.heap.size,11,none⟩ (.int .i64 X.m.s.t)).setCell ⟨W0.heap.size,12,none⟩ (.slice X.E X.m.s.d.length X.cE)));rw [hWJ] at hJ hMJ tJ2 hPJ ⊢;rw [hP] at hPJ ⊢;clear hWJ hP z3 HA a0 a1 a2 a3 a4 a5 a6 a7 a8 a9 a10 a11 a12 f0 f1 f2 f3 f4 f5 f6 f7 f8 f9 f10 f11 f12
   obtain rfl : X.m = y := by have := hn1.symm.trans HY.out.1; injection this
   replace hJ : qh WJ { S with net := S.net.eraseIdx i } L1 lab1 := hJ
   have ho := HY.out.2.1
   have hkn2 : X.m.o.toNat < S.n := by omega
   obtain ⟨b2,off2,eA2,hpc2,hpl2,hpn2⟩ := hJ.ptr (k := X.m.o.toNat) hkn2
   try dsimp only at hpn2
   have e0 := qb hJ.row 0 _ rfl;rw [show (simC { S with net := S.net.eraseIdx i } L1)[0] = .slice L1.Ar S.n L1.cr from rfl,eA2,g1] at e0;have hbx : lab w.heap.size = 0 := H0.out.1.lim _ nlq;have y0 := tJ2.cell blq x0 (by rw [hbx]; omega);obtain ⟨⟨a0,a1,a2,a3,a4,a5,a6,a7,a8,a9,a10,a11,a12⟩,_⟩ := qu hPJ
   have q1 : ¬ X.m.o < 0 := by omega
   have q2 : ¬ (S.n : Int) <= X.m.o := by omega
   have hcW : ∀ W,Below WJ.heap.size WJ W -> ∀ a v,WJ.cell? a = some v -> W.cell? a = some v := fun W hW a v hv => (World.cell?_of_block (hW.block a.block (World.block_lt_of_cell? WJ a hv))).trans hv
   have hSt := fun W (hW : Below WJ.heap.size WJ W) => qP hJ hW (qh.stepC (h := hJ.below hW) hkn2 HY.out.2.2.2.2.1 X.m X.A X.cA X.E X.cE (hMJ.moved (Turn.below (J := fun i => i ≠ 0) hW hJ.lim) (by omega)) HY.out.2.2.2.2.2)
   have HF := Lib.hid (And.intro g1 (And.intro tJ2 (And.intro hcW (And.intro y0 (And.intro e0 (And.intro hpc2 (And.intro a0 (And.intro a1 (And.intro a2 (And.intro a3 (And.intro a4 (And.intro a5 (And.intro a6 (And.intro a7 (And.intro a8 (And.intro a9 (And.intro a10 (And.intro a11 a12))))))))))))))))));clear hJ g1 tJ2 hMJ hPJ hcW HS HT hn1 ek ei et ew hbx
   go_wp2_with fail
   clear a0 a1 a2 a3 a4 a5 a6 a7 a8 a9 a10 a11 a12 x0 x1 x2 x3 c0 c4 hpc y0 e0 hpc2;refine wp_region_held_drew ⟨(fun w' : World => w'.cell? ⟨w.heap.size,0,none⟩ = some (.int .u8 1) /\ w'.cell? ⟨L.g,0,none⟩ = some (.slice (some ⟨b2,off2,none⟩) S.n L1.cr) /\ w'.cell? ⟨b2,off2 + X.m.o.toNat,none⟩ = some (ptrV (L1.ps X.m.o.toNat)) /\ w'.cell? ⟨P,0,none⟩ = some (.int .i64 X.m.k) /\ w'.cell? ⟨P,1,none⟩ = some (.int .i64 X.m.f) /\ w'.cell? ⟨P,2,none⟩ = some (.int .i64 X.m.o) /\ w'.cell? ⟨P,3,none⟩ = some (.int .i64 X.m.t) /\ w'.cell? ⟨P,4,none⟩ = some (.int .i64 X.m.i) /\ w'.cell? ⟨P,5,none⟩ = some (.int .i64 X.m.l) /\ w'.cell? ⟨P,6,none⟩ = some (.int .i64 X.m.c) /\ w'.cell? ⟨P,7,none⟩ = some (.int .i64 X.m.x) /\ w'.cell? ⟨P,8,none⟩ = some (.bool X.m.b) /\ w'.cell? ⟨P,9,none⟩ = some (.slice X.A X.m.es.length X.cA) /\ w'.cell? ⟨P,10,none⟩ = some (.int .i64 X.m.s.i) /\ w'.cell? ⟨P,11,none⟩ = some (.int .i64 X.m.s.t) /\ w'.cell? ⟨P,12,none⟩ = some (.slice X.E X.m.s.d.length X.cE)),[12]⟩ (by kernel_rfl) ⟨HF.out.2.2.1 _ bbq _ _ HF.out.2.2.2.1,HF.out.2.2.1 _ bbq _ _ HF.out.2.2.2.2.1,HF.out.2.2.1 _ bbq _ _ HF.out.2.2.2.2.2.1,HF.out.2.2.1 _ bbq _ _ HF.out.2.2.2.2.2.2.1,HF.out.2.2.1 _ bbq _ _ HF.out.2.2.2.2.2.2.2.1,HF.out.2.2.1 _ bbq _ _ HF.out.2.2.2.2.2.2.2.2.1,HF.out.2.2.1 _ bbq _ _ HF.out.2.2.2.2.2.2.2.2.2.1,HF.out.2.2.1 _ bbq _ _ HF.out.2.2.2.2.2.2.2.2.2.2.1,HF.out.2.2.1 _ bbq _ _ HF.out.2.2.2.2.2.2.2.2.2.2.2.1,HF.out.2.2.1 _ bbq _ _ HF.out.2.2.2.2.2.2.2.2.2.2.2.2.1,HF.out.2.2.1 _ bbq _ _ HF.out.2.2.2.2.2.2.2.2.2.2.2.2.2.1,HF.out.2.2.1 _ bbq _ _ HF.out.2.2.2.2.2.2.2.2.2.2.2.2.2.2.1,HF.out.2.2.1 _ bbq _ _ HF.out.2.2.2.2.2.2.2.2.2.2.2.2.2.2.2.1,HF.out.2.2.1 _ bbq _ _ HF.out.2.2.2.2.2.2.2.2.2.2.2.2.2.2.2.2.1,HF.out.2.2.1 _ bbq _ _ HF.out.2.2.2.2.2.2.2.2.2.2.2.2.2.2.2.2.2.1,HF.out.2.2.1 _ bbq _ _ HF.out.2.2.2.2.2.2.2.2.2.2.2.2.2.2.2.2.2.2⟩ (fun hHeld => ?_);refine lsq 15 ?_;refine puq 0 ?_;refine tvq 1 [2,3] ?_;refine puq 2 ?_;refine puq 3 ?_;refine puq 4 ?_;refine puq 5 ?_;refine puq 6 ?_;refine tvq 7 [9,10] ?_;refine puq 8 ?_;refine puq 9 ?_;refine tvq 10 [] ?_;refine tvq 11 [] ?_;refine ltq 12 fun KK hK => ?_;go_simp;refine (hSt _ bbq).mono ?_;rintro e w3 ⟨rfl,L3,lab3,h3,g3,t3⟩;refine hK.out _ _ ?_;clear hK KK
   try simp only [lpq]
   refine plq 13 ?_;refine plq 14 ?_;refine dnq ?_;have hL := qE h3 X.m.o.toNat HY.out.2.2.1 HY.out.2.2.2.1;rw [Int.toNat_of_nonneg ho.1,g3,HF.out.1] at hL;have H3 := hdq2 (g3.trans HF.out.1) (HF.out.2.1.trans t3 (by decide));clear h3 g3 t3 hSt
   go_wp2_with fail
   refine hL.mono ?_;rintro e w2 ⟨rfl,Ww⟩;have H2 := Lib.hid (Went.after H0.out.1 H0.out.2 (Went.then H3.out.1 H3.out.2 Ww));clear hL Ww;go_wp2;go_ret;exact ⟨rfl,H2.out⟩
theorem qiD {w : World} {S : Sim} {L : SimL} {lab : Nat -> Nat} (h : qh w S L lab) (a x : Int) (D : Option Addr) (d : List UInt8) (dc : Nat) (ha : 0 <= a /\ a < 256) (hx : 0 <= x /\ x < 256) (hn : 1 <= S.n /\ S.n <= 3) {i : Nat} (hi : i = x.toNat % S.net.length) {y : Msg} (hy : S.net[i]? = some y) (hnl : S.net.length <= 400000) (ho : 0 <= y.o /\ y.o < S.n) (f : Fine { S with r := Sim.upd S.r y.o.toNat ((S.r y.o.toNat).step y) } y.o.toNat) (yes : (Sim.look { S with r := Sim.upd S.r y.o.toNat ((S.r y.o.toNat).step y) } y.o.toNat).2 = true) (able : Able (S.r y.o.toNat)) (hh : (S.r y.o.toNat).heard y = true) :
 Calls Tryz.prog 20 #[ptrV L.g, .agg #[.int .u8 3, .int .u8 a, .int .u8 x, .slice D d.length dc]] w fun e w' => e = .returned (.bool true) /\ Went w w' (Sim.look { S with r := Sim.upd S.r y.o.toNat ((S.r y.o.toNat).step y) } y.o.toNat).1 L lab := by
 have hil : i < S.net.length := by
  rcases Nat.lt_or_ge i S.net.length with h1 | h1
  · exact h1
  · rw [List.getElem?_eq_none h1] at hy;cases hy
 obtain ⟨k,hk⟩ : ∃ k,k = a.toNat % S.n := ⟨_,rfl⟩;obtain ⟨W0,hW0⟩ := exq (w.alloc (.cells #[.int .u8 3, .int .u8 a, .int .u8 x, .slice D d.length dc] 63))
 have hb0 : Below w.heap.size w W0 := by rw [<- hW0]; exact blq.alloc nlq _
 have hr0 : W0.heap[w.heap.size]? = some (.cells #[.int .u8 3, .int .u8 a, .int .u8 x, .slice D d.length dc] 63) := by rw [<- hW0]; exact heap_alloc_new w _
 have x0 := qb hr0 0 (.int .u8 3) rfl;have x1 := qb hr0 1 (.int .u8 a) rfl;have x2 := qb hr0 2 (.int .u8 x) rfl;have x3 := qb hr0 3 (.slice D d.length dc) rfl;have h0 := h.below hb0
 have ek : a % (S.n : Int) = (k : Int) := by
  rw [hk]
  have : a = ((a.toNat : Nat) : Int) := by omega
  rw [this];simp
 have hkn : k < S.n := by rw [hk]; exact Nat.mod_lt _ (by omega)
 obtain ⟨b,off,eA,hpc,hpl,hpn⟩ := h0.ptr hkn;have c0 := qb h0.row 0 _ rfl;rw [show (simC S L)[0] = .slice L.Ar S.n L.cr from rfl,eA] at c0
 have ei : x % (S.net.length : Int) = (i : Int) := by
  rw [hi]
  have : x = ((x.toNat : Nat) : Int) := by omega
  rw [this];simp
 have c4 := qb h0.row 4 _ rfl;rw [show (simC S L)[4] = .slice L.An S.net.length L.cn from rfl] at c4
 have hne : ¬ S.net = [] := fun e => by rw [e] at hil; exact absurd hil (by simp)
 have ew : IntKind.i64.wrap x = x := IntWalk.i64_in _ (by omega)
 have et : x.tmod (S.net.length : Int) = (i : Int) := by rw [<- ei]; exact Int.tmod_eq_emod_of_nonneg hx.1
 have hSW : ∀ W,Below W0.heap.size W0 W -> (fun w' : World => w'.cell? ⟨w.heap.size,0,none⟩ = some (.int .u8 3) /\ w'.cell? ⟨w.heap.size,2,none⟩ = some (.int .u8 x) /\ w'.cell? ⟨L.g,4,none⟩ = some (.slice L.An S.net.length L.cn)) W := fun W hW => by
  have hc : ∀ a v,W0.cell? a = some v -> W.cell? a = some v := fun a v hv => (World.cell?_of_block (hW.block a.block (World.block_lt_of_cell? W0 a hv))).trans hv
  exact ⟨hc _ _ x0,hc _ _ x2,hc _ _ c4⟩
 have hT := fun W (hW : Below W0.heap.size W0 W) => qaQ (h0.below hW) i hil hn.2 hnl true
 have hTb := fun W (hW : Below W0.heap.size W0 W) => qaQ ((h0.below hW).move (qci (ob := .cells #[.int .i64 0, .int .i64 0, .int .i64 0, .int .i64 0, .int .i64 0, .int .i64 0, .int .i64 0, .int .i64 0, .bool false, .slice none 0 0, .int .i64 0, .int .i64 0, .slice none 0 0] 51) 10000 (h0.below hW).lim) (fun i hi => by omega) (fun k hk => by have := hn.2; omega)) i hil hn.2 hnl true
 have HT := hdq2 hT hTb;clear hT hTb;have HY := hdq6 hy ho f yes able hh;have HS := Lib.hid hSW;have H0 := hdq2 h hb0;clear h h0 hb0 hk eA hr0 hSW hy hi ho f yes able hh
 go_enter Tryz.func20,Tryz.ntmps20
 go_wp2_with fail
 clear hW0
 go_quiet (fail)
 go_wp2_with fail
 refine wp_region_held_drew ⟨(fun w' : World => w'.cell? ⟨w.heap.size,0,none⟩ = some (.int .u8 3) /\ w'.cell? ⟨w.heap.size,2,none⟩ = some (.int .u8 x) /\ w'.cell? ⟨L.g,4,none⟩ = some (.slice L.An S.net.length L.cn)),[13,15]⟩ (by kernel_rfl) (HS.out _ bbq) (fun hHeld => ?_);refine lsq 16 ?_;refine puq 0 ?_;refine puq 1 ?_;refine tvq 2 [3,9] ?_;refine puq 3 ?_;refine puq 4 ?_;refine puq 5 ?_;refine puq 6 ?_;refine tvq 7 [8,9] ?_;refine puq 8 ?_;refine puq 9 ?_;refine puq 10 ?_;refine tvq 11 [12] ?_;refine puq 12 ?_;refine wpAnyH_ready (rs := [13,14]) (by kernel_rfl) (by simp) ?_;refine AllReadyH.late (o := ⟨some 55, .call ⟨.value (.func 26),#[.tmp 42, .tmp 51, .tmp 54],#[59,3,4]⟩,51, "sim.go:172",#[⟨0, .data⟩,⟨9, .data⟩,⟨12, .data⟩],none⟩) rfl (by kernel_rfl) (fun KK hK => ?_) (AllReadyH.cons (o := ⟨some 6, .alloc 51,0, "sim.go:172",#[],none⟩) rfl (fun KK hK => ?_) AllReadyH.nil)
 · go_simp;refine (HT.out.1 _ bbq).mono ?_;rintro e w1 ⟨X,L1,lab1,rfl,hn1,hM1,h1,g1,t1⟩;refine hK.out _ _ ?_;clear hK KK
   try simp only [lpq]
   refine ltq 14 fun KK hK => ?_;go_simp;refine hK.out _ _ ?_;clear hK KK
   try simp only [lpq]
   refine ltq 15 fun KK hK => ?_;go_simp;refine hK.out _ _ ?_;clear hK KK
   try simp only [lpq]
   refine dnq ?_;have hb9 : Below w1.heap.size w1 (w1.alloc (.cells #[.int .i64 X.m.k, .int .i64 X.m.f, .int .i64 X.m.o, .int .i64 X.m.t, .int .i64 X.m.i, .int .i64 X.m.l, .int .i64 X.m.c, .int .i64 X.m.x, .bool X.m.b, .slice X.A X.m.es.length X.cA, .int .i64 X.m.s.i, .int .i64 X.m.s.t, .slice X.E X.m.s.d.length X.cE] 51)) := blq.alloc nlq _;have tJ : Turn (fun i => i ≠ 0) W0 w1 lab lab1 := Turn.onto (fun b hb => H0.out.1.lim b (Nat.le_trans H0.out.2.size hb)) blq bbq t1 (by omega);have hJ := h1.below hb9;have hMJ := hM1.moved (Turn.below (J := fun i => i ≠ 0) hb9 h1.lim) (by omega);have tJ2 := tJ.trans (Turn.below hb9 h1.lim) (by decide);have hPJ := heap_alloc_new w1 (.cells #[.int .i64 X.m.k, .int .i64 X.m.f, .int .i64 X.m.o, .int .i64 X.m.t, .int .i64 X.m.i, .int .i64 X.m.l, .int .i64 X.m.c, .int .i64 X.m.x, .bool X.m.b, .slice X.A X.m.es.length X.cA, .int .i64 X.m.s.i, .int .i64 X.m.s.t, .slice X.E X.m.s.d.length X.cE] 51);obtain ⟨P,hP⟩ := exq (w1.heap.size);obtain ⟨WJ,hWJ⟩ := exq (w1.alloc (.cells #[.int .i64 X.m.k, .int .i64 X.m.f, .int .i64 X.m.o, .int .i64 X.m.t, .int .i64 X.m.i, .int .i64 X.m.l, .int .i64 X.m.c, .int .i64 X.m.x, .bool X.m.b, .slice X.A X.m.es.length X.cA, .int .i64 X.m.s.i, .int .i64 X.m.s.t, .slice X.E X.m.s.d.length X.cE] 51));rw [hWJ] at hJ hMJ tJ2 hPJ ⊢;rw [hP] at hPJ ⊢;clear hWJ hP hb9 tJ t1 h1 hM1
   obtain rfl : X.m = y := by have := hn1.symm.trans HY.out.1; injection this
   replace hJ : qh WJ S L1 lab1 := hJ
   have ho := HY.out.2.1
   have hkn2 : X.m.o.toNat < S.n := by omega
   obtain ⟨b2,off2,eA2,hpc2,hpl2,hpn2⟩ := hJ.ptr (k := X.m.o.toNat) hkn2
   try dsimp only at hpn2
   have e0 := qb hJ.row 0 _ rfl;rw [show (simC S L1)[0] = .slice L1.Ar S.n L1.cr from rfl,eA2,g1] at e0;have hbx : lab w.heap.size = 0 := H0.out.1.lim _ nlq;have y0 := tJ2.cell blq x0 (by rw [hbx]; omega);obtain ⟨⟨a0,a1,a2,a3,a4,a5,a6,a7,a8,a9,a10,a11,a12⟩,_⟩ := qu hPJ
   have q1 : ¬ X.m.o < 0 := by omega
   have q2 : ¬ (S.n : Int) <= X.m.o := by omega
   have hcW : ∀ W,Below WJ.heap.size WJ W -> ∀ a v,WJ.cell? a = some v -> W.cell? a = some v := fun W hW a v hv => (World.cell?_of_block (hW.block a.block (World.block_lt_of_cell? WJ a hv))).trans hv
   have hSt := fun W (hW : Below WJ.heap.size WJ W) => qP hJ hW (qh.stepC (h := hJ.below hW) hkn2 HY.out.2.2.2.2.1 X.m X.A X.cA X.E X.cE (hMJ.moved (Turn.below (J := fun i => i ≠ 0) hW hJ.lim) (by omega)) HY.out.2.2.2.2.2)
   have HF := Lib.hid (And.intro g1 (And.intro tJ2 (And.intro hcW (And.intro y0 (And.intro e0 (And.intro hpc2 (And.intro a0 (And.intro a1 (And.intro a2 (And.intro a3 (And.intro a4 (And.intro a5 (And.intro a6 (And.intro a7 (And.intro a8 (And.intro a9 (And.intro a10 (And.intro a11 a12))))))))))))))))));clear hJ g1 tJ2 hMJ hPJ hcW HS HT hn1 ek ei et ew hbx
   go_wp2_with fail
   clear a0 a1 a2 a3 a4 a5 a6 a7 a8 a9 a10 a11 a12 x0 x1 x2 x3 c0 c4 hpc y0 e0 hpc2;refine wp_region_held_drew ⟨(fun w' : World => w'.cell? ⟨w.heap.size,0,none⟩ = some (.int .u8 3) /\ w'.cell? ⟨L.g,0,none⟩ = some (.slice (some ⟨b2,off2,none⟩) S.n L1.cr) /\ w'.cell? ⟨b2,off2 + X.m.o.toNat,none⟩ = some (ptrV (L1.ps X.m.o.toNat)) /\ w'.cell? ⟨P,0,none⟩ = some (.int .i64 X.m.k) /\ w'.cell? ⟨P,1,none⟩ = some (.int .i64 X.m.f) /\ w'.cell? ⟨P,2,none⟩ = some (.int .i64 X.m.o) /\ w'.cell? ⟨P,3,none⟩ = some (.int .i64 X.m.t) /\ w'.cell? ⟨P,4,none⟩ = some (.int .i64 X.m.i) /\ w'.cell? ⟨P,5,none⟩ = some (.int .i64 X.m.l) /\ w'.cell? ⟨P,6,none⟩ = some (.int .i64 X.m.c) /\ w'.cell? ⟨P,7,none⟩ = some (.int .i64 X.m.x) /\ w'.cell? ⟨P,8,none⟩ = some (.bool X.m.b) /\ w'.cell? ⟨P,9,none⟩ = some (.slice X.A X.m.es.length X.cA) /\ w'.cell? ⟨P,10,none⟩ = some (.int .i64 X.m.s.i) /\ w'.cell? ⟨P,11,none⟩ = some (.int .i64 X.m.s.t) /\ w'.cell? ⟨P,12,none⟩ = some (.slice X.E X.m.s.d.length X.cE)),[12]⟩ (by kernel_rfl) ⟨HF.out.2.2.1 _ bbq _ _ HF.out.2.2.2.1,HF.out.2.2.1 _ bbq _ _ HF.out.2.2.2.2.1,HF.out.2.2.1 _ bbq _ _ HF.out.2.2.2.2.2.1,HF.out.2.2.1 _ bbq _ _ HF.out.2.2.2.2.2.2.1,HF.out.2.2.1 _ bbq _ _ HF.out.2.2.2.2.2.2.2.1,HF.out.2.2.1 _ bbq _ _ HF.out.2.2.2.2.2.2.2.2.1,HF.out.2.2.1 _ bbq _ _ HF.out.2.2.2.2.2.2.2.2.2.1,HF.out.2.2.1 _ bbq _ _ HF.out.2.2.2.2.2.2.2.2.2.2.1,HF.out.2.2.1 _ bbq _ _ HF.out.2.2.2.2.2.2.2.2.2.2.2.1,HF.out.2.2.1 _ bbq _ _ HF.out.2.2.2.2.2.2.2.2.2.2.2.2.1,HF.out.2.2.1 _ bbq _ _ HF.out.2.2.2.2.2.2.2.2.2.2.2.2.2.1,HF.out.2.2.1 _ bbq _ _ HF.out.2.2.2.2.2.2.2.2.2.2.2.2.2.2.1,HF.out.2.2.1 _ bbq _ _ HF.out.2.2.2.2.2.2.2.2.2.2.2.2.2.2.2.1,HF.out.2.2.1 _ bbq _ _ HF.out.2.2.2.2.2.2.2.2.2.2.2.2.2.2.2.2.1,HF.out.2.2.1 _ bbq _ _ HF.out.2.2.2.2.2.2.2.2.2.2.2.2.2.2.2.2.2.1,HF.out.2.2.1 _ bbq _ _ HF.out.2.2.2.2.2.2.2.2.2.2.2.2.2.2.2.2.2.2⟩ (fun hHeld => ?_);refine lsq 15 ?_;refine puq 0 ?_;refine tvq 1 [2,3] ?_;refine puq 2 ?_;refine puq 3 ?_;refine puq 4 ?_;refine puq 5 ?_;refine puq 6 ?_;refine tvq 7 [9,10] ?_;refine puq 8 ?_;refine puq 9 ?_;refine tvq 10 [] ?_;refine tvq 11 [] ?_;refine ltq 12 fun KK hK => ?_;go_simp;refine (hSt _ bbq).mono ?_;rintro e w3 ⟨rfl,L3,lab3,h3,g3,t3⟩;refine hK.out _ _ ?_;clear hK KK
   try simp only [lpq]
   refine plq 13 ?_;refine plq 14 ?_;refine dnq ?_;have hL := qE h3 X.m.o.toNat HY.out.2.2.1 HY.out.2.2.2.1;rw [Int.toNat_of_nonneg ho.1,g3,HF.out.1] at hL;have H3 := hdq2 (g3.trans HF.out.1) (HF.out.2.1.trans t3 (by decide));clear h3 g3 t3 hSt
   go_wp2_with fail
   refine hL.mono ?_;rintro e w2 ⟨rfl,Ww⟩;have H2 := Lib.hid (Went.after H0.out.1 H0.out.2 (Went.then H3.out.1 H3.out.2 Ww));clear hL Ww;go_wp2;go_ret;exact ⟨rfl,H2.out⟩
 · go_simp;refine hK.out _ _ (HS.out _ bbq) ?_;clear hK KK hHeld;intro hHeld
   try simp only [lpq]
   refine ltq 13 fun KK hK => ?_;go_simp;refine (HT.out.2 _ bbq).mono ?_;rintro e w1 ⟨X,L1,lab1,rfl,hn1,hM1,h1,g1,t1⟩;have hP1 : w1.heap[W0.heap.size]? = some (.cells #[.int .i64 0, .int .i64 0, .int .i64 0, .int .i64 0, .int .i64 0, .int .i64 0, .int .i64 0, .int .i64 0, .bool false, .slice none 0 0, .int .i64 0, .int .i64 0, .slice none 0 0] 51) := (t1.same W0.heap.size (by simp) (by show ¬ ((if W0.heap.size = W0.heap.size then 10000 else lab W0.heap.size) = 1 \/ (if W0.heap.size = W0.heap.size then 10000 else lab W0.heap.size) = 6 \/ (if W0.heap.size = W0.heap.size then 10000 else lab W0.heap.size) = 9999); rw [if_pos rfl]; omega)).trans (heap_alloc_new _ _);have hPl : lab1 W0.heap.size = 10000 := (t1.old W0.heap.size (by simp) (by show ¬ ((if W0.heap.size = W0.heap.size then 10000 else lab W0.heap.size) = 1 \/ (if W0.heap.size = W0.heap.size then 10000 else lab W0.heap.size) = 6 \/ (if W0.heap.size = W0.heap.size then 10000 else lab W0.heap.size) = 9999); rw [if_pos rfl]; omega)).trans (if_pos rfl);have tJ1 : Turn (fun i => i ≠ 0) W0 w1 lab lab1 := Turn.boxed (ri := 10000) (by decide) (fun b hb => H0.out.1.lim b (Nat.le_trans H0.out.2.size hb)) blq bbq t1 (by omega);have HA := hdq7 hn1 hM1 h1 g1 tJ1 hP1 hPl;obtain ⟨⟨a0,a1,a2,a3,a4,a5,a6,a7,a8,a9,a10,a11,a12⟩,⟨f0,f1,f2,f3,f4,f5,f6,f7,f8,f9,f10,f11,f12⟩⟩ := qu hP1;clear hn1 hM1 h1 g1 t1 hP1 hPl tJ1;refine hK.out _ _ ?_;clear hK KK
   try simp only [lpq]
   refine ltq 15 fun KK hK => ?_;go_simp;refine hK.out _ _ ?_;clear hK KK
   try simp only [lpq]
   refine dnq ?_;obtain ⟨hPJ,hJ,z3⟩ := qdY (by omega) HA.out.2.2.1 HA.out.2.2.2.2.2.1 HA.out.2.2.2.2.2.2 (by have := hn.2; exact this) X;have hn1 := HA.out.1;have g1 := HA.out.2.2.2.1;have hMJ := HA.out.2.1.moved z3 (by decide);have tJ2 := HA.out.2.2.2.2.1.trans (z3.wide (J' := fun i => i ≠ 0) fun i e => by omega) (by decide);obtain ⟨P,hP⟩ := exq (W0.heap.size);obtain ⟨WJ,hWJ⟩ := exq ((((((((((((((w1.setCell ⟨W0.heap.size,0,none⟩ (.int .i64 X.m.k)).setCell ⟨W0.heap.size,1,none⟩ (.int .i64 X.m.f)).setCell ⟨W0.heap.size,2,none⟩ (.int .i64 X.m.o)).setCell ⟨W0.heap.size,3,none⟩ (.int .i64 X.m.t)).setCell ⟨W0.heap.size,4,none⟩ (.int .i64 X.m.i)).setCell ⟨W0.heap.size,5,none⟩ (.int .i64 X.m.l)).setCell ⟨W0.heap.size,6,none⟩ (.int .i64 X.m.c)).setCell ⟨W0.heap.size,7,none⟩ (.int .i64 X.m.x)).setCell ⟨W0.heap.size,8,none⟩ (.bool X.m.b)).setCell ⟨W0.heap.size,9,none⟩ (.slice X.A X.m.es.length X.cA)).setCell ⟨W0.heap.size,10,none⟩ (.int .i64 X.m.s.i)).setCell ⟨W0.heap.size,11,none⟩ (.int .i64 X.m.s.t)).setCell ⟨W0.heap.size,12,none⟩ (.slice X.E X.m.s.d.length X.cE)));rw [hWJ] at hJ hMJ tJ2 hPJ ⊢;rw [hP] at hPJ ⊢;clear hWJ hP z3 HA a0 a1 a2 a3 a4 a5 a6 a7 a8 a9 a10 a11 a12 f0 f1 f2 f3 f4 f5 f6 f7 f8 f9 f10 f11 f12
   obtain rfl : X.m = y := by have := hn1.symm.trans HY.out.1; injection this
   replace hJ : qh WJ S L1 lab1 := hJ
   have ho := HY.out.2.1
   have hkn2 : X.m.o.toNat < S.n := by omega
   obtain ⟨b2,off2,eA2,hpc2,hpl2,hpn2⟩ := hJ.ptr (k := X.m.o.toNat) hkn2
   try dsimp only at hpn2
   have e0 := qb hJ.row 0 _ rfl;rw [show (simC S L1)[0] = .slice L1.Ar S.n L1.cr from rfl,eA2,g1] at e0;have hbx : lab w.heap.size = 0 := H0.out.1.lim _ nlq;have y0 := tJ2.cell blq x0 (by rw [hbx]; omega);obtain ⟨⟨a0,a1,a2,a3,a4,a5,a6,a7,a8,a9,a10,a11,a12⟩,_⟩ := qu hPJ
   have q1 : ¬ X.m.o < 0 := by omega
   have q2 : ¬ (S.n : Int) <= X.m.o := by omega
   have hcW : ∀ W,Below WJ.heap.size WJ W -> ∀ a v,WJ.cell? a = some v -> W.cell? a = some v := fun W hW a v hv => (World.cell?_of_block (hW.block a.block (World.block_lt_of_cell? WJ a hv))).trans hv
   have hSt := fun W (hW : Below WJ.heap.size WJ W) => qP hJ hW (qh.stepC (h := hJ.below hW) hkn2 HY.out.2.2.2.2.1 X.m X.A X.cA X.E X.cE (hMJ.moved (Turn.below (J := fun i => i ≠ 0) hW hJ.lim) (by omega)) HY.out.2.2.2.2.2)
   have HF := Lib.hid (And.intro g1 (And.intro tJ2 (And.intro hcW (And.intro y0 (And.intro e0 (And.intro hpc2 (And.intro a0 (And.intro a1 (And.intro a2 (And.intro a3 (And.intro a4 (And.intro a5 (And.intro a6 (And.intro a7 (And.intro a8 (And.intro a9 (And.intro a10 (And.intro a11 a12))))))))))))))))));clear hJ g1 tJ2 hMJ hPJ hcW HS HT hn1 ek ei et ew hbx
   go_wp2_with fail
   clear a0 a1 a2 a3 a4 a5 a6 a7 a8 a9 a10 a11 a12 x0 x1 x2 x3 c0 c4 hpc y0 e0 hpc2;refine wp_region_held_drew ⟨(fun w' : World => w'.cell? ⟨w.heap.size,0,none⟩ = some (.int .u8 3) /\ w'.cell? ⟨L.g,0,none⟩ = some (.slice (some ⟨b2,off2,none⟩) S.n L1.cr) /\ w'.cell? ⟨b2,off2 + X.m.o.toNat,none⟩ = some (ptrV (L1.ps X.m.o.toNat)) /\ w'.cell? ⟨P,0,none⟩ = some (.int .i64 X.m.k) /\ w'.cell? ⟨P,1,none⟩ = some (.int .i64 X.m.f) /\ w'.cell? ⟨P,2,none⟩ = some (.int .i64 X.m.o) /\ w'.cell? ⟨P,3,none⟩ = some (.int .i64 X.m.t) /\ w'.cell? ⟨P,4,none⟩ = some (.int .i64 X.m.i) /\ w'.cell? ⟨P,5,none⟩ = some (.int .i64 X.m.l) /\ w'.cell? ⟨P,6,none⟩ = some (.int .i64 X.m.c) /\ w'.cell? ⟨P,7,none⟩ = some (.int .i64 X.m.x) /\ w'.cell? ⟨P,8,none⟩ = some (.bool X.m.b) /\ w'.cell? ⟨P,9,none⟩ = some (.slice X.A X.m.es.length X.cA) /\ w'.cell? ⟨P,10,none⟩ = some (.int .i64 X.m.s.i) /\ w'.cell? ⟨P,11,none⟩ = some (.int .i64 X.m.s.t) /\ w'.cell? ⟨P,12,none⟩ = some (.slice X.E X.m.s.d.length X.cE)),[12]⟩ (by kernel_rfl) ⟨HF.out.2.2.1 _ bbq _ _ HF.out.2.2.2.1,HF.out.2.2.1 _ bbq _ _ HF.out.2.2.2.2.1,HF.out.2.2.1 _ bbq _ _ HF.out.2.2.2.2.2.1,HF.out.2.2.1 _ bbq _ _ HF.out.2.2.2.2.2.2.1,HF.out.2.2.1 _ bbq _ _ HF.out.2.2.2.2.2.2.2.1,HF.out.2.2.1 _ bbq _ _ HF.out.2.2.2.2.2.2.2.2.1,HF.out.2.2.1 _ bbq _ _ HF.out.2.2.2.2.2.2.2.2.2.1,HF.out.2.2.1 _ bbq _ _ HF.out.2.2.2.2.2.2.2.2.2.2.1,HF.out.2.2.1 _ bbq _ _ HF.out.2.2.2.2.2.2.2.2.2.2.2.1,HF.out.2.2.1 _ bbq _ _ HF.out.2.2.2.2.2.2.2.2.2.2.2.2.1,HF.out.2.2.1 _ bbq _ _ HF.out.2.2.2.2.2.2.2.2.2.2.2.2.2.1,HF.out.2.2.1 _ bbq _ _ HF.out.2.2.2.2.2.2.2.2.2.2.2.2.2.2.1,HF.out.2.2.1 _ bbq _ _ HF.out.2.2.2.2.2.2.2.2.2.2.2.2.2.2.2.1,HF.out.2.2.1 _ bbq _ _ HF.out.2.2.2.2.2.2.2.2.2.2.2.2.2.2.2.2.1,HF.out.2.2.1 _ bbq _ _ HF.out.2.2.2.2.2.2.2.2.2.2.2.2.2.2.2.2.2.1,HF.out.2.2.1 _ bbq _ _ HF.out.2.2.2.2.2.2.2.2.2.2.2.2.2.2.2.2.2.2⟩ (fun hHeld => ?_);refine lsq 15 ?_;refine puq 0 ?_;refine tvq 1 [2,3] ?_;refine puq 2 ?_;refine puq 3 ?_;refine puq 4 ?_;refine puq 5 ?_;refine puq 6 ?_;refine tvq 7 [9,10] ?_;refine puq 8 ?_;refine puq 9 ?_;refine tvq 10 [] ?_;refine tvq 11 [] ?_;refine ltq 12 fun KK hK => ?_;go_simp;refine (hSt _ bbq).mono ?_;rintro e w3 ⟨rfl,L3,lab3,h3,g3,t3⟩;refine hK.out _ _ ?_;clear hK KK
   try simp only [lpq]
   refine plq 13 ?_;refine plq 14 ?_;refine dnq ?_;have hL := qE h3 X.m.o.toNat HY.out.2.2.1 HY.out.2.2.2.1;rw [Int.toNat_of_nonneg ho.1,g3,HF.out.1] at hL;have H3 := hdq2 (g3.trans HF.out.1) (HF.out.2.1.trans t3 (by decide));clear h3 g3 t3 hSt
   go_wp2_with fail
   refine hL.mono ?_;rintro e w2 ⟨rfl,Ww⟩;have H2 := Lib.hid (Went.after H0.out.1 H0.out.2 (Went.then H3.out.1 H3.out.2 Ww));clear hL Ww;go_wp2;go_ret;exact ⟨rfl,H2.out⟩
theorem qiE {w : World} {S : Sim} {L : SimL} {lab : Nat -> Nat} (h : qh w S L lab) (a x : Int) (D : Option Addr) (d : List UInt8) (dc : Nat) (ha : 0 <= a /\ a < 256) (hn : 1 <= S.n /\ S.n <= 3) (h0n : S.net.length = 0) :
 Calls Tryz.prog 20 #[ptrV L.g, .agg #[.int .u8 1, .int .u8 a, .int .u8 x, .slice D d.length dc]] w fun e w' => e = .returned (.bool true) /\ Went w w' S L lab := by
 obtain ⟨k,hk⟩ : ∃ k,k = a.toNat % S.n := ⟨_,rfl⟩;obtain ⟨W0,hW0⟩ := exq (w.alloc (.cells #[.int .u8 1, .int .u8 a, .int .u8 x, .slice D d.length dc] 63))
 have hb0 : Below w.heap.size w W0 := by rw [<- hW0]; exact blq.alloc nlq _
 have hr0 : W0.heap[w.heap.size]? = some (.cells #[.int .u8 1, .int .u8 a, .int .u8 x, .slice D d.length dc] 63) := by rw [<- hW0]; exact heap_alloc_new w _
 have x0 := qb hr0 0 (.int .u8 1) rfl;have x1 := qb hr0 1 (.int .u8 a) rfl;have x2 := qb hr0 2 (.int .u8 x) rfl;have x3 := qb hr0 3 (.slice D d.length dc) rfl;have h0 := h.below hb0
 have ek : a % (S.n : Int) = (k : Int) := by
  rw [hk]
  have : a = ((a.toNat : Nat) : Int) := by omega
  rw [this];simp
 have hkn : k < S.n := by rw [hk]; exact Nat.mod_lt _ (by omega)
 obtain ⟨b,off,eA,hpc,hpl,hpn⟩ := h0.ptr hkn;have c0 := qb h0.row 0 _ rfl;rw [show (simC S L)[0] = .slice L.Ar S.n L.cr from rfl,eA] at c0;have c4 := qb h0.row 4 _ rfl;rw [show (simC S L)[4] = .slice L.An S.net.length L.cn from rfl,h0n] at c4;have H0 := hdq2 h hb0;clear h h0 hb0 hk eA hr0 h0n
 go_enter Tryz.func20,Tryz.ntmps20
 go_wp2_with fail
 clear hW0
 go_quiet (fail)
 go_wp2;go_ret;exact ⟨rfl,Went.after H0.out.1 H0.out.2 (Went.same (H0.out.1.below H0.out.2) bbq)⟩
theorem qiF {w : World} {S : Sim} {L : SimL} {lab : Nat -> Nat} (h : qh w S L lab) (a x : Int) (D : Option Addr) (d : List UInt8) (dc : Nat) (ha : 0 <= a /\ a < 256) (hn : 1 <= S.n /\ S.n <= 3) (h0n : S.net.length = 0) :
 Calls Tryz.prog 20 #[ptrV L.g, .agg #[.int .u8 2, .int .u8 a, .int .u8 x, .slice D d.length dc]] w fun e w' => e = .returned (.bool true) /\ Went w w' S L lab := by
 obtain ⟨k,hk⟩ : ∃ k,k = a.toNat % S.n := ⟨_,rfl⟩;obtain ⟨W0,hW0⟩ := exq (w.alloc (.cells #[.int .u8 2, .int .u8 a, .int .u8 x, .slice D d.length dc] 63))
 have hb0 : Below w.heap.size w W0 := by rw [<- hW0]; exact blq.alloc nlq _
 have hr0 : W0.heap[w.heap.size]? = some (.cells #[.int .u8 2, .int .u8 a, .int .u8 x, .slice D d.length dc] 63) := by rw [<- hW0]; exact heap_alloc_new w _
 have x0 := qb hr0 0 (.int .u8 2) rfl;have x1 := qb hr0 1 (.int .u8 a) rfl;have x2 := qb hr0 2 (.int .u8 x) rfl;have x3 := qb hr0 3 (.slice D d.length dc) rfl;have h0 := h.below hb0
 have ek : a % (S.n : Int) = (k : Int) := by
  rw [hk]
  have : a = ((a.toNat : Nat) : Int) := by omega
  rw [this];simp
 have hkn : k < S.n := by rw [hk]; exact Nat.mod_lt _ (by omega)
 obtain ⟨b,off,eA,hpc,hpl,hpn⟩ := h0.ptr hkn;have c0 := qb h0.row 0 _ rfl;rw [show (simC S L)[0] = .slice L.Ar S.n L.cr from rfl,eA] at c0;have c4 := qb h0.row 4 _ rfl;rw [show (simC S L)[4] = .slice L.An S.net.length L.cn from rfl,h0n] at c4;have H0 := hdq2 h hb0;clear h h0 hb0 hk eA hr0 h0n
 go_enter Tryz.func20,Tryz.ntmps20
 go_wp2_with fail
 clear hW0
 go_quiet (fail)
 go_wp2;go_ret;exact ⟨rfl,Went.after H0.out.1 H0.out.2 (Went.same (H0.out.1.below H0.out.2) bbq)⟩
theorem qiG {w : World} {S : Sim} {L : SimL} {lab : Nat -> Nat} (h : qh w S L lab) (a x : Int) (D : Option Addr) (d : List UInt8) (dc : Nat) (ha : 0 <= a /\ a < 256) (hn : 1 <= S.n /\ S.n <= 3) (h0n : S.net.length = 0) :
 Calls Tryz.prog 20 #[ptrV L.g, .agg #[.int .u8 3, .int .u8 a, .int .u8 x, .slice D d.length dc]] w fun e w' => e = .returned (.bool true) /\ Went w w' S L lab := by
 obtain ⟨k,hk⟩ : ∃ k,k = a.toNat % S.n := ⟨_,rfl⟩;obtain ⟨W0,hW0⟩ := exq (w.alloc (.cells #[.int .u8 3, .int .u8 a, .int .u8 x, .slice D d.length dc] 63))
 have hb0 : Below w.heap.size w W0 := by rw [<- hW0]; exact blq.alloc nlq _
 have hr0 : W0.heap[w.heap.size]? = some (.cells #[.int .u8 3, .int .u8 a, .int .u8 x, .slice D d.length dc] 63) := by rw [<- hW0]; exact heap_alloc_new w _
 have x0 := qb hr0 0 (.int .u8 3) rfl;have x1 := qb hr0 1 (.int .u8 a) rfl;have x2 := qb hr0 2 (.int .u8 x) rfl;have x3 := qb hr0 3 (.slice D d.length dc) rfl;have h0 := h.below hb0
 have ek : a % (S.n : Int) = (k : Int) := by
  rw [hk]
  have : a = ((a.toNat : Nat) : Int) := by omega
  rw [this];simp
 have hkn : k < S.n := by rw [hk]; exact Nat.mod_lt _ (by omega)
 obtain ⟨b,off,eA,hpc,hpl,hpn⟩ := h0.ptr hkn;have c0 := qb h0.row 0 _ rfl;rw [show (simC S L)[0] = .slice L.Ar S.n L.cr from rfl,eA] at c0;have c4 := qb h0.row 4 _ rfl;rw [show (simC S L)[4] = .slice L.An S.net.length L.cn from rfl,h0n] at c4;have H0 := hdq2 h hb0;clear h h0 hb0 hk eA hr0 h0n
 go_enter Tryz.func20,Tryz.ntmps20
 go_wp2_with fail
 clear hW0
 go_quiet (fail)
 go_wp2;go_ret;exact ⟨rfl,Went.after H0.out.1 H0.out.2 (Went.same (H0.out.1.below H0.out.2) bbq)⟩
end RegW
end Go.Proofs.YtmiijlecfiddmaaGreat
