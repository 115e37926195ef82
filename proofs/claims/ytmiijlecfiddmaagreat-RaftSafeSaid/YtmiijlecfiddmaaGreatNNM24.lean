/- The program's node takes a step, whole. -/
import Derived.Test.YtmiijlecfiddmaaGreatNNM01
import Derived.Test.YtmiijlecfiddmaaGreatNNM23
set_option linter.unusedVariables false
set_option linter.unusedSimpArgs false
set_option maxRecDepth 100000
set_option maxHeartbeats 3200000
namespace Go.Proofs.YtmiijlecfiddmaaGreat
open Go.RowKit Go.Shelf
attribute [local go_sem] Oper.semAt_some
theorem hlt_ {w : World} {k : Nat} {o : Obj} (h : w.heap[k]? = some o) : k < w.heap.size := hlt h
theorem qbN (N : Node) (t x y : Int) : (N.fall t x).fall t y = N.fall t y := by
 unfold Node.fall;dsimp only
 have e2 : ¬ (if N.ht < t then t else N.ht) < t := by split <;> omega
 have e1 : (if (if N.ht < t then t else N.ht) < t then t else (if N.ht < t then t else N.ht)) = (if N.ht < t then t else N.ht) := if_neg e2;rw [e1,if_neg e2]
theorem qjC (N : Node) (m : Msg) (x y : Int) : (N.fall m.t x).app m = (N.fall m.t y).app m := by
 unfold Node.app;rw [if_neg (show ¬ (N.fall m.t x).ro = 3 by show ¬ (0 : Int) = 3; decide),if_neg (show ¬ (N.fall m.t y).ro = 3 by show ¬ (0 : Int) = 3; decide),qbN,qbN]
theorem qg3 (N : Node) (m : Msg) (x y : Int) : (N.fall m.t x).whole m = (N.fall m.t y).whole m := by
 unfold Node.whole;rw [if_neg (show ¬ (N.fall m.t x).ro = 3 by show ¬ (0 : Int) = 3; decide),if_neg (show ¬ (N.fall m.t y).ro = 3 by show ¬ (0 : Int) = 3; decide),qbN,qbN]
def fallsB (N : Node) (m : Msg) : Bool := decide (N.ht < m.t) && (!decide (m.k = 1) && !(decide (m.k = 2) && m.b))
theorem qjD {N : Node} {m : Msg} (h : m.t < N.ht) : N.step m = corr N m := by
 unfold Node.step corr;exact if_pos h
theorem qfy {N : Node} {m : Msg} (h : ¬ m.t < N.ht) : N.step m = heardN (if fallsB N m = true then N.fall m.t (-1) else N) m := by
 have e0 : N.step m = heardN (if N.ht < m.t /\ m.k ≠ 1 /\ (m.k ≠ 2 \/ m.b = false) then N.fall m.t (if m.k = 5 \/ m.k = 7 then m.f else -1) else N) m := by
  unfold Node.step;exact if_neg h
 have e : (fallsB N m = true) = (N.ht < m.t /\ m.k ≠ 1 /\ (m.k ≠ 2 \/ m.b = false)) := by
  unfold fallsB
  cases m.b <;> simp
 rw [e0]
 by_cases hb : fallsB N m = true
 · rw [if_pos hb,if_pos (by rw [<- e]; exact hb)]
   by_cases hk : m.k = 5 \/ m.k = 7
   · rw [if_pos hk];unfold heardN;rcases hk with hk | hk
     · simp only [hk];exact qjC N m _ _
     · simp only [hk];exact qg3 N m _ _
   · rw [if_neg hk]
 · rw [if_neg hb,if_neg (by rw [<- e]; exact hb)]
theorem Able.fall {N : Node} (a : Able N) {t : Int} (x : Int) (h0 : 0 <= t) (h1 : t <= 1099511627776) : Able (N.fall t x) where
 n := a.n
 ms := a.ms
 len := a.len
 good := a.good
 sd := a.sd
 idle _ := ⟨rfl,rfl,rfl,rfl,by
  show Node.zeroF = _
  rfl⟩
 ht := by
  have := a.ht;show 0 <= (if N.ht < t then t else N.ht) /\ (if N.ht < t then t else N.ht) <= _
  split <;> omega
 lt := by
  have := a.lt;show N.lg.lastT <= (if N.ht < t then t else N.ht)
  split <;> omega
 li := a.li
 wk := ⟨by show (0 : Int) <= 0; decide,by show (0 : Int) <= 2199023255552; decide⟩
 cx := ⟨by show (0 : Int) <= 0; decide,by show (0 : Int) <= 2199023255552; decide⟩
 cm := a.cm
 nx _ := ⟨by show (0 : Int) <= 0; decide,by show (0 : Int) <= 2199023255552; decide⟩
 ma _ := ⟨by show (0 : Int) <= 0; decide,by show (0 : Int) <= 2199023255552; decide⟩
 td := by have := a.td; show N.td.length + ([] : List (Int × Int)).length <= 800000; simp; omega
 up h := absurd h (by show ¬ ((0 : Int) = 2 \/ (0 : Int) = 3); decide)
 r1 h := absurd h (by show ¬ (0 : Int) = 1; decide)
def Stepped (w w' : World) (p : Nat) (N : Node) (m : Msg) (Z : Nat -> Prop) (q : Ptrs) (s : Nat) (e : Ending) : Prop :=
 e = .returned (.int .i64 (if N.heard m = true then 0 else 1)) /\ qaD w w' p N (if N.heard m = true then N.step m else N) Z q s
theorem qic {w : World} {p : Nat} {N : Node} {Z : Nat -> Prop} {q : Ptrs} {s : Nat} {xs : List MLay} {K : Nat -> Prop} (h : RfAt w p N Z q s xs K) (hZ : ∀ b,Z b -> b < w.heap.size) (a : Able N) (m : Msg) (A : Option Addr) (cA : Nat) (E : Option Addr) (cE : Nat) (hM : qo w Z m A cA E cE) :
 Calls Tryz.prog 13 #[ptrV p,msgV m A cA E cE] w fun e w' => Stepped w w' p N m Z q s e := by
 have hp := h.lt;obtain ⟨W1,hW1⟩ := exq (w.alloc (.cells #[.int .i64 m.k, .int .i64 m.f, .int .i64 m.o, .int .i64 m.t, .int .i64 m.i, .int .i64 m.l, .int .i64 m.c, .int .i64 m.x, .bool m.b, .slice A m.es.length cA, .int .i64 m.s.i, .int .i64 m.s.t, .slice E m.s.d.length cE] 51))
 have hb1 : Below w.heap.size w W1 := by rw [<- hW1]; exact blq.alloc nlq _
 have hrow : W1.heap[w.heap.size]? = some (.cells #[.int .i64 m.k, .int .i64 m.f, .int .i64 m.o, .int .i64 m.t, .int .i64 m.i, .int .i64 m.l, .int .i64 m.c, .int .i64 m.x, .bool m.b, .slice A m.es.length cA, .int .i64 m.s.i, .int .i64 m.s.t, .slice E m.s.d.length cE] 51) := by rw [<- hW1]; exact heap_alloc_new w _
 have hsz : W1.heap.size = w.heap.size + 1 := by rw [<- hW1]; simp
 have R1 := h.more (Y := fun b => b = w.heap.size) (fun b hb => by rw [hb]; exact nlq) hb1
 have hZ1 : ∀ b,(Z b \/ b = w.heap.size) -> b < W1.heap.size := fun b hb => by
  rcases hb with hb | rfl
  · have := hZ b hb; omega
  · omega
 have hkp : qf Z w W1 := keeps_below hb1 nlq
 have M1 : qo W1 (fun b => Z b \/ b = w.heap.size) m A cA E cE := (hM.below hb1 nlq).mono fun b hb => .inl hb
 have hlt1 : w.heap.size < W1.heap.size := by omega
 have hp1 : p < W1.heap.size := by omega
 have hC0 := R1.c0;have hC1 := R1.c1;obtain ⟨⟨r0,r1,r2,r3,r4,r5,r6,r7,r8,r9,r10,r11,r12⟩,_⟩ := qu hrow;have hKS : ∀ W,Below W1.heap.size W1 W -> (fun w' : World => (w'.cell? ⟨w.heap.size,0,none⟩ = some (.int .i64 m.k) /\ w'.cell? ⟨w.heap.size,1,none⟩ = some (.int .i64 m.f) /\ w'.cell? ⟨w.heap.size,2,none⟩ = some (.int .i64 m.o) /\ w'.cell? ⟨w.heap.size,3,none⟩ = some (.int .i64 m.t) /\ w'.cell? ⟨w.heap.size,4,none⟩ = some (.int .i64 m.i) /\ w'.cell? ⟨w.heap.size,5,none⟩ = some (.int .i64 m.l) /\ w'.cell? ⟨w.heap.size,6,none⟩ = some (.int .i64 m.c) /\ w'.cell? ⟨w.heap.size,7,none⟩ = some (.int .i64 m.x) /\ w'.cell? ⟨w.heap.size,8,none⟩ = some (.bool m.b) /\ w'.cell? ⟨w.heap.size,9,none⟩ = some (.slice A m.es.length cA) /\ w'.cell? ⟨w.heap.size,10,none⟩ = some (.int .i64 m.s.i) /\ w'.cell? ⟨w.heap.size,11,none⟩ = some (.int .i64 m.s.t) /\ w'.cell? ⟨w.heap.size,12,none⟩ = some (.slice E m.s.d.length cE)) /\ w'.cell? ⟨p,0,none⟩ = some (.int .i64 (N.id : Int)) /\ w'.cell? ⟨p,1,none⟩ = some (.int .i64 (N.n : Int)) /\ Below W1.heap.size W1 w') W := fun W hW => ⟨⟨(hW.cell (p := ⟨w.heap.size,0,none⟩) hlt1).trans r0,(hW.cell (p := ⟨w.heap.size,1,none⟩) hlt1).trans r1,(hW.cell (p := ⟨w.heap.size,2,none⟩) hlt1).trans r2,(hW.cell (p := ⟨w.heap.size,3,none⟩) hlt1).trans r3,(hW.cell (p := ⟨w.heap.size,4,none⟩) hlt1).trans r4,(hW.cell (p := ⟨w.heap.size,5,none⟩) hlt1).trans r5,(hW.cell (p := ⟨w.heap.size,6,none⟩) hlt1).trans r6,(hW.cell (p := ⟨w.heap.size,7,none⟩) hlt1).trans r7,(hW.cell (p := ⟨w.heap.size,8,none⟩) hlt1).trans r8,(hW.cell (p := ⟨w.heap.size,9,none⟩) hlt1).trans r9,(hW.cell (p := ⟨w.heap.size,10,none⟩) hlt1).trans r10,(hW.cell (p := ⟨w.heap.size,11,none⟩) hlt1).trans r11,(hW.cell (p := ⟨w.heap.size,12,none⟩) hlt1).trans r12⟩,(hW.cell (p := ⟨p,0,none⟩) hp1).trans hC0,(hW.cell (p := ⟨p,1,none⟩) hp1).trans hC1,hW⟩;have HK := Lib.hid hKS
 have hRight := fun X (hX : Below W1.heap.size W1 X) => qgf m A cA E cE X _ (M1.below hX nlq)
 have hBox : ∀ W,qf (fun b => Z b \/ b = w.heap.size) W1 W -> W.heap[w.heap.size]? = some (.cells #[.int .i64 m.k, .int .i64 m.f, .int .i64 m.o, .int .i64 m.t, .int .i64 m.i, .int .i64 m.l, .int .i64 m.c, .int .i64 m.x, .bool m.b, .slice A m.es.length cA, .int .i64 m.s.i, .int .i64 m.s.t, .slice E m.s.d.length cE] 51) := fun W hk => (hk.block _ hlt1 (.inr rfl)).trans hrow;obtain ⟨rb,hrb⟩ : ∃ b,rightM m = b := ⟨_,rfl⟩;rw [hrb] at hRight;obtain ⟨PP,hPP⟩ : ∃ PP,PP = (fun (e : Ending) w' => Stepped w w' p N m Z q s e) := ⟨_,rfl⟩;rw [<- hPP];have H := hdq9 R1 hZ1 hkp M1 a hBox hrb hPP hp;clear h hZ a hM R1 hZ1 hkp M1 hBox hrb hPP hb1 hrow hKS r0 r1 r2 r3 r4 r5 r6 r7 r8 r9 r10 r11 r12 hC0 hC1
 have nofail : ∀ w3,Below W1.heap.size W1 w3 -> N.heard m = false -> PP (.returned (.int .i64 1)) w3 := by
  intro w3 hb3 hno;obtain ⟨R1,hZ1,hkp,M1,a,hBox,hrb,hPP,hp⟩ := H.out;rw [hPP];unfold Stepped;rw [hno,if_neg (by simp),if_neg (by simp)];exact ⟨rfl,s,⟨q,xs,K,(R1.below hb3).less fun b hb => .inl hb,rfl,hkp.trans (keeps_below hb3 nlq)⟩,id⟩
 have HNO := Lib.hid nofail;clear nofail
 cases rb with
 | false =>
   go_enter Tryz.func13,Tryz.ntmps13
   go_wp2_with fail
   refine wp_region_held_drew (S := (fun w' => (w'.cell? ⟨w.heap.size,0,none⟩ = some (.int .i64 m.k) /\ w'.cell? ⟨w.heap.size,1,none⟩ = some (.int .i64 m.f) /\ w'.cell? ⟨w.heap.size,2,none⟩ = some (.int .i64 m.o) /\ w'.cell? ⟨w.heap.size,3,none⟩ = some (.int .i64 m.t) /\ w'.cell? ⟨w.heap.size,4,none⟩ = some (.int .i64 m.i) /\ w'.cell? ⟨w.heap.size,5,none⟩ = some (.int .i64 m.l) /\ w'.cell? ⟨w.heap.size,6,none⟩ = some (.int .i64 m.c) /\ w'.cell? ⟨w.heap.size,7,none⟩ = some (.int .i64 m.x) /\ w'.cell? ⟨w.heap.size,8,none⟩ = some (.bool m.b) /\ w'.cell? ⟨w.heap.size,9,none⟩ = some (.slice A m.es.length cA) /\ w'.cell? ⟨w.heap.size,10,none⟩ = some (.int .i64 m.s.i) /\ w'.cell? ⟨w.heap.size,11,none⟩ = some (.int .i64 m.s.t) /\ w'.cell? ⟨w.heap.size,12,none⟩ = some (.slice E m.s.d.length cE)) /\ w'.cell? ⟨p,0,none⟩ = some (.int .i64 (N.id : Int)) /\ w'.cell? ⟨p,1,none⟩ = some (.int .i64 (N.n : Int)) /\ Below W1.heap.size W1 w')) (by kernel_rfl) (HK.out _ blq.drew) (fun hHeld => ?_);refine lsq 25 ?_;refine tkq 0 ?_;refine tkq 1 ?_;refine tkq 2 ?_;refine tkq 3 ?_;refine rdq1 4 fun KK hK => ?_;go_simp;refine (hRight _ hHeld.2.2.2).mono ?_;rintro e w3 ⟨rfl,hb3⟩;have HB3 := Lib.hid (hHeld.2.2.2.trans (hb3.mono hHeld.2.2.2.size));clear hb3;refine hK.out _ _ (HK.out _ HB3.out) ?_;clear hK KK hHeld;intro hHeld
   try simp only [lpq]
   refine tkq 5 ?_;refine tkq 6 ?_;refine tkq 7 ?_;refine tuq 8 ?_;refine tuq 9 ?_;refine tuq 10 ?_;refine tuq 11 ?_;refine tuq 12 ?_;refine tuq 13 ?_;refine tuq 14 ?_;refine tkq 15 ?_;refine tkq 16 ?_;refine tuq 17 ?_;refine tuq 18 ?_;refine tuq 19 ?_;refine tuq 20 ?_;refine tuq 21 ?_;refine tuq 22 ?_;refine tuq 23 ?_;refine tkq 24 ?_;refine dnq ?_;clear hHeld hRight;go_wp2;refine (show PP (.returned (.int .i64 1)) w3 from HNO.out _ HB3.out ?_);unfold Node.heard;rw [H.out.2.2.2.2.2.2.1]
   rfl
 | true =>
   by_cases hfn : N.n <= m.f
   · have e1 : decide ((N.n : Int) <= m.f) = true := decide_eq_true hfn;have HN := Lib.hid hfn;clear hfn
     go_enter Tryz.func13,Tryz.ntmps13
     go_wp2_with fail
     refine wp_region_held_drew (S := (fun w' => (w'.cell? ⟨w.heap.size,0,none⟩ = some (.int .i64 m.k) /\ w'.cell? ⟨w.heap.size,1,none⟩ = some (.int .i64 m.f) /\ w'.cell? ⟨w.heap.size,2,none⟩ = some (.int .i64 m.o) /\ w'.cell? ⟨w.heap.size,3,none⟩ = some (.int .i64 m.t) /\ w'.cell? ⟨w.heap.size,4,none⟩ = some (.int .i64 m.i) /\ w'.cell? ⟨w.heap.size,5,none⟩ = some (.int .i64 m.l) /\ w'.cell? ⟨w.heap.size,6,none⟩ = some (.int .i64 m.c) /\ w'.cell? ⟨w.heap.size,7,none⟩ = some (.int .i64 m.x) /\ w'.cell? ⟨w.heap.size,8,none⟩ = some (.bool m.b) /\ w'.cell? ⟨w.heap.size,9,none⟩ = some (.slice A m.es.length cA) /\ w'.cell? ⟨w.heap.size,10,none⟩ = some (.int .i64 m.s.i) /\ w'.cell? ⟨w.heap.size,11,none⟩ = some (.int .i64 m.s.t) /\ w'.cell? ⟨w.heap.size,12,none⟩ = some (.slice E m.s.d.length cE)) /\ w'.cell? ⟨p,0,none⟩ = some (.int .i64 (N.id : Int)) /\ w'.cell? ⟨p,1,none⟩ = some (.int .i64 (N.n : Int)) /\ Below W1.heap.size W1 w')) (by kernel_rfl) (HK.out _ blq.drew) (fun hHeld => ?_);refine lsq 25 ?_;refine tkq 0 ?_;refine tkq 1 ?_;refine tkq 2 ?_;refine tkq 3 ?_;refine rdq1 4 fun KK hK => ?_;go_simp;refine (hRight _ hHeld.2.2.2).mono ?_;rintro e w3 ⟨rfl,hb3⟩;have HB3 := Lib.hid (hHeld.2.2.2.trans (hb3.mono hHeld.2.2.2.size));clear hb3;refine hK.out _ _ (HK.out _ HB3.out) ?_;clear hK KK hHeld;intro hHeld
     try simp only [lpq]
     refine tkq 5 ?_;refine tkq 6 ?_;refine tkq 7 ?_;refine tkq 8 ?_;refine tkq 9 ?_;refine tkq 10 ?_;refine tkq 11 ?_;refine tkq 12 ?_;refine tkq 13 ?_;refine tkq 14 ?_;refine tkq 15 ?_;refine tkq 16 ?_;refine tuq 17 ?_;refine tuq 18 ?_;refine tuq 19 ?_;refine tuq 20 ?_;refine tuq 21 ?_;refine tuq 22 ?_;refine tuq 23 ?_;refine tkq 24 ?_;refine dnq ?_;clear hHeld hRight;go_wp2;refine (show PP (.returned (.int .i64 1)) w3 from HNO.out _ HB3.out ?_);unfold Node.heard;rw [decide_eq_false (show ¬ m.f < (N.n : Int) by have := HN.out; omega)];simp
   · have e1 : decide ((N.n : Int) <= m.f) = false := decide_eq_false hfn
     by_cases hoi : m.o = N.id
     · have e2 : (m.o == (N.id : Int)) = true := beq_iff_eq.2 hoi
       have e3 : (m.o != (N.id : Int)) = false := by rw [bne,e2]; rfl
       have HN := hdq2 hfn hoi;clear hfn hoi
       go_enter Tryz.func13,Tryz.ntmps13
       go_wp2_with fail
       refine wp_region_held_drew (S := (fun w' => (w'.cell? ⟨w.heap.size,0,none⟩ = some (.int .i64 m.k) /\ w'.cell? ⟨w.heap.size,1,none⟩ = some (.int .i64 m.f) /\ w'.cell? ⟨w.heap.size,2,none⟩ = some (.int .i64 m.o) /\ w'.cell? ⟨w.heap.size,3,none⟩ = some (.int .i64 m.t) /\ w'.cell? ⟨w.heap.size,4,none⟩ = some (.int .i64 m.i) /\ w'.cell? ⟨w.heap.size,5,none⟩ = some (.int .i64 m.l) /\ w'.cell? ⟨w.heap.size,6,none⟩ = some (.int .i64 m.c) /\ w'.cell? ⟨w.heap.size,7,none⟩ = some (.int .i64 m.x) /\ w'.cell? ⟨w.heap.size,8,none⟩ = some (.bool m.b) /\ w'.cell? ⟨w.heap.size,9,none⟩ = some (.slice A m.es.length cA) /\ w'.cell? ⟨w.heap.size,10,none⟩ = some (.int .i64 m.s.i) /\ w'.cell? ⟨w.heap.size,11,none⟩ = some (.int .i64 m.s.t) /\ w'.cell? ⟨w.heap.size,12,none⟩ = some (.slice E m.s.d.length cE)) /\ w'.cell? ⟨p,0,none⟩ = some (.int .i64 (N.id : Int)) /\ w'.cell? ⟨p,1,none⟩ = some (.int .i64 (N.n : Int)) /\ Below W1.heap.size W1 w')) (by kernel_rfl) (HK.out _ blq.drew) (fun hHeld => ?_);refine lsq 25 ?_;refine tkq 0 ?_;refine tkq 1 ?_;refine tkq 2 ?_;refine tkq 3 ?_;refine rdq1 4 fun KK hK => ?_;go_simp;refine (hRight _ hHeld.2.2.2).mono ?_;rintro e w3 ⟨rfl,hb3⟩;have HB3 := Lib.hid (hHeld.2.2.2.trans (hb3.mono hHeld.2.2.2.size));clear hb3;refine hK.out _ _ (HK.out _ HB3.out) ?_;clear hK KK hHeld;intro hHeld
       try simp only [lpq]
       refine tkq 5 ?_;refine tkq 6 ?_;refine tkq 7 ?_;refine tkq 8 ?_;refine tkq 9 ?_;refine tkq 10 ?_;refine tkq 11 ?_;refine tkq 12 ?_;refine tkq 13 ?_;refine tkq 14 ?_;refine tkq 15 ?_;refine tkq 16 ?_;refine tkq 17 ?_;refine tkq 18 ?_;refine tkq 19 ?_;refine tkq 20 ?_;refine tkq 21 ?_;refine tkq 22 ?_;refine tkq 23 ?_;refine tkq 24 ?_;refine dnq ?_;clear hHeld hRight
       have hheard : N.heard m = true := by
        unfold Node.heard;rw [H.out.2.2.2.2.2.2.1,decide_eq_true (show m.f < (N.n : Int) by have := HN.out.1; omega),decide_eq_true HN.out.2]
        rfl
       have yes : ∀ w5 N',N' = N.step m -> qaD W1 w5 p N N' (fun b => Z b \/ b = w.heap.size) q s -> PP (.returned (.int .i64 0)) w5 := by
        intro w5 N' hN' hT;obtain ⟨R1,hZ1,hkp,M1,a,hBox,hrb,hPP,hp⟩ := H.out;rw [hPP];unfold Stepped;rw [hheard,if_pos (by trivial),if_pos (by trivial),<- hN'];obtain ⟨s',⟨q',xs',K',t1,t2,t3⟩,hf⟩ := hT;exact ⟨rfl,s',⟨q',xs',K',t1.less fun b hb => .inl hb,t2,hkp.trans (t3.mono fun b hb => .inl hb)⟩,hf⟩
       have HY := Lib.hid yes;obtain ⟨R1,hZ1,hkp,M1,a,hBox,hrb,hPP,hp⟩ := H.out;have R3 := R1.below HB3.out;have kk3 := keeps_below (Z := fun b => Z b \/ b = w.heap.size) HB3.out nlq;have M3 := M1.keeps kk3;have hZ3 : ∀ b,(Z b \/ b = w.heap.size) -> b < w3.heap.size := fun b hb => Nat.lt_of_lt_of_le (hZ1 b hb) kk3.size;have hb3 := hBox w3 kk3;have fm := qdV hrb;have c2 := R3.c2;obtain ⟨⟨r0,r1,r2,r3,r4,r5,r6,r7,r8,r9,r10,r11,r12⟩,_⟩ := qu hb3;have H3 := hdq8 R3 kk3 M3 hZ3 fm a hBox hb3;clear yes hheard R1 hZ1 hkp M1 a hBox hrb hPP R3 kk3 M3 hZ3 hb3 fm HNO HB3 HK
       by_cases hlt : m.t < N.ht
       · have e4 : decide (m.t < N.ht) = true := decide_eq_true hlt;have HL := Lib.hid hlt;clear hlt
         go_wp2_with fail
         go_quiet (fail)
         obtain ⟨R3,kk3,M3,hZ3,fm,a,hBox,hb3⟩ := H3.out;have hdn := below_drewN (Below.refl w3.heap.size w3) nq;have R4 := R3.below hdn;have kk4 := kk3.trans (keeps_below hdn nlq);have hb4 := (hdn.block _ (hlt_ hb3)).trans hb3;have hC := qfq R4 (fun b hb => Nat.lt_of_lt_of_le (hZ3 b hb) hdn.size) (by have := a.ms; omega) m A cA E cE fm.k fm.f.1;generalize w3.drewN nq = w4 at *;clear r0 r1 r2 r3 r4 r5 r6 r7 r8 r9 r10 r11 r12;obtain ⟨⟨r0,r1,r2,r3,r4,r5,r6,r7,r8,r9,r10,r11,r12⟩,_⟩ := qu hb4;have HK4 := Lib.hid kk4;clear R3 kk3 M3 hZ3 fm a hBox hb3 hdn R4 kk4 hb4 H3 c2
         go_wp2_with fail
         refine hC.mono ?_;rintro e w5 ⟨rfl,hT⟩;have HT := Lib.hid hT;clear hT hC;go_wp2;refine (show PP (.returned (.int .i64 0)) w5 from HY.out w5 (corr N m) (qjD HL.out).symm ⟨s,HT.out.back rfl HK4.out,fun hs => ?_⟩)
         have e : (corr N m).lg = N.lg := by
          unfold corr
          split
          · rfl
          · split <;> rfl
         rw [e];exact hs
       · have e4 : decide (m.t < N.ht) = false := decide_eq_false hlt;have HL := Lib.hid hlt;clear hlt
         go_wp2_with fail
         go_quiet (fail)
         obtain ⟨R3,kk3,M3,hZ3,fm,a,hBox,hb3⟩ := H3.out;have hdn := below_drewN (Below.refl w3.heap.size w3) nq;have R4 := R3.below hdn;have kk4 := kk3.trans (keeps_below hdn nlq);have hb4 := (hdn.block _ (hlt_ hb3)).trans hb3;have hZ4 : ∀ b,(Z b \/ b = w.heap.size) -> b < (w3.drewN nq).heap.size := fun b hb => Nat.lt_of_lt_of_le (hZ3 b hb) hdn.size;have M4 := M3.below hdn nlq;generalize w3.drewN nq = w4 at *;clear r0 r1 r2 r3 r4 r5 r6 r7 r8 r9 r10 r11 r12;obtain ⟨⟨r0,r1,r2,r3,r4,r5,r6,r7,r8,r9,r10,r11,r12⟩,_⟩ := qu hb4;have c2 := R4.c2;have H4 := hdq8 R4 kk4 M4 hZ4 fm a hBox hb4;clear R3 kk3 M3 hZ3 fm a hBox hb3 hdn R4 kk4 hb4 H3 hZ4 M4;obtain ⟨fb,hfb⟩ : ∃ b,fallsB N m = b := ⟨_,rfl⟩;have HFB := Lib.hid hfb
         go_upto_region 6 with fail
         go_cut [63] (fun v63 wx => v63 = .bool fb /\ ∃ j,wx = w4.drewN j)
         case first =>
          unfold fallsB at hfb
          by_cases k1 : N.ht < m.t
          · have q1 : decide (N.ht < m.t) = true := decide_eq_true k1
            by_cases k2 : m.k = 1
            · have q2 : (m.k == 1) = true := beq_iff_eq.2 k2
              have q3 : (m.k != 1) = false := by rw [bne,q2]; rfl
              rw [q1,decide_eq_true k2] at hfb;simp only [Bool.not_true,Bool.false_and,Bool.and_false,Bool.true_and] at hfb;subst hfb;clear k1 k2
              go_quiet (fail)
              go_wp2
              go_meet
              exact ⟨rfl,_,rfl⟩
            · have q2 : (m.k == 1) = false := beq_eq_false_iff_ne.2 k2;have q2' : (m.k = 1) = False := eq_false k2
              have q3 : (m.k != 1) = true := by rw [bne,q2]; rfl
              rw [q1,decide_eq_false k2] at hfb;simp only [Bool.not_false,Bool.true_and] at hfb
              by_cases k3 : m.k = 2
              · have q4 : (m.k == 2) = true := beq_iff_eq.2 k3;rw [decide_eq_true k3] at hfb;simp only [Bool.true_and] at hfb;obtain ⟨mb,hmb⟩ : ∃ b,m.b = b := ⟨_,rfl⟩;rw [hmb] at r8 hfb;have HR := Lib.hid hmb;clear k1 k2 k3 hmb
                cases mb with
                | true =>
                  subst hfb
                  go_quiet (fail)
                  go_wp2
                  go_meet
                  exact ⟨rfl,_,rfl⟩
                | false =>
                  subst hfb
                  go_quiet (fail)
                  go_wp2
                  go_meet
                  exact ⟨rfl,_,rfl⟩
              · have q4 : (m.k == 2) = false := beq_eq_false_iff_ne.2 k3;have q4' : (m.k = 2) = False := eq_false k3;rw [decide_eq_false k3] at hfb;simp only [Bool.false_and,Bool.not_false] at hfb;subst hfb;clear k1 k2 k3
                go_quiet (fail)
                go_wp2
                go_meet
                exact ⟨rfl,_,rfl⟩
          · have q1 : decide (N.ht < m.t) = false := decide_eq_false k1;rw [q1] at hfb;simp only [Bool.false_and] at hfb;subst hfb;clear k1
            go_quiet (fail)
            go_wp2
            go_meet
            exact ⟨rfl,_,rfl⟩
         case rest =>
          obtain ⟨rfl,j,rfl⟩ := hcut;obtain ⟨R4,kk4,M4,hZ4,fm,a,hBox,hb4⟩ := H4.out;have hdn := below_drewN (Below.refl w4.heap.size w4) j;have R5 := R4.below hdn;have kk5 := kk4.trans (keeps_below hdn nlq);have hb5 := (hdn.block _ (hlt_ hb4)).trans hb4;have hZ5 : ∀ b,(Z b \/ b = w.heap.size) -> b < (w4.drewN j).heap.size := fun b hb => Nat.lt_of_lt_of_le (hZ4 b hb) hdn.size;have M5 := M4.below hdn nlq;generalize w4.drewN j = w5 at *;clear r0 r1 r2 r3 r4 r5 r6 r7 r8 r9 r10 r11 r12 c2 hfb;obtain ⟨⟨r0,r1,r2,r3,r4,r5,r6,r7,r8,r9,r10,r11,r12⟩,_⟩ := qu hb5
          cases fb with
          | true =>
            have hFall := qbc R5 m.t (-1);have H5 := hdq6 kk5 M5 hZ5 fm a hBox;clear R4 kk4 M4 hZ4 fm a hBox hb4 hdn R5 kk5 hb5 hZ5 M5 H4
            go_wp2_with fail
            refine hFall.mono ?_;rintro e w6 ⟨rfl,R6,k6⟩;obtain ⟨kk5,M5,hZ5,fm,a,hBox⟩ := H5.out;have kk6 := kk5.trans k6;have hb6 := hBox w6 kk6
            have ht2 : m.t = (N.fall m.t (-1)).ht := by
             have := HL.out;show m.t = if N.ht < m.t then m.t else N.ht
             split <;> omega
            have hH := qei R6 (fun b hb => Nat.lt_of_lt_of_le (hZ5 b hb) k6.size) (a.fall (-1) (by have := fm.t; omega) fm.t.2) m A cA E cE (M5.keeps k6) fm (by show m.f < (N.n : Int); have := HN.out.1; omega) (by show m.o = (N.id : Int); exact HN.out.2) (fun _ _ => ht2);clear r0 r1 r2 r3 r4 r5 r6 r7 r8 r9 r10 r11 r12;obtain ⟨⟨r0,r1,r2,r3,r4,r5,r6,r7,r8,r9,r10,r11,r12⟩,_⟩ := qu hb6;have HK6 := Lib.hid kk6;clear kk5 M5 hZ5 fm a hBox R6 k6 kk6 hb6 ht2 hFall H5
            go_wp2_with fail
            refine hH.mono ?_;rintro e w7 ⟨rfl,hT⟩;have HT := Lib.hid hT;clear hT hH;go_wp2;have e := qfy (N := N) (m := m) (by have := HL.out; omega);rw [HFB.out,if_pos (by trivial)] at e;obtain ⟨s',hT,hf⟩ := HT.out;exact (show PP (.returned (.int .i64 0)) w7 from HY.out w7 _ e.symm ⟨s',hT.back rfl HK6.out,hf⟩)
          | false =>
            have hH := qei R5 hZ5 a m A cA E cE M5 fm (by have := HN.out.1; omega) HN.out.2 (fun k1 k2 => by
             have h1 := HL.out;have h2 := HFB.out;unfold fallsB at h2;rw [decide_eq_false k1,decide_eq_false k2] at h2;simp only [Bool.not_false,Bool.false_and,Bool.and_true,decide_eq_false_iff_not] at h2
             omega)
            have HK5 := Lib.hid kk5;clear R4 kk4 M4 hZ4 fm a hBox hb4 hdn R5 kk5 hb5 hZ5 M5 H4
            go_wp2_with fail
            refine hH.mono ?_;rintro e w7 ⟨rfl,hT⟩;have HT := Lib.hid hT;clear hT hH;go_wp2;have e := qfy (N := N) (m := m) (by have := HL.out; omega);rw [HFB.out,if_neg (by simp)] at e;obtain ⟨s',hT,hf⟩ := HT.out;exact (show PP (.returned (.int .i64 0)) w7 from HY.out w7 _ e.symm ⟨s',hT.back rfl HK5.out,hf⟩)
     · have e2 : (m.o == (N.id : Int)) = false := beq_eq_false_iff_ne.2 hoi;have e2' : (m.o = (N.id : Int)) = False := eq_false hoi
       have e3 : (m.o != (N.id : Int)) = true := by rw [bne,e2]; rfl
       have HN := Lib.hid hoi;clear hfn hoi
       go_enter Tryz.func13,Tryz.ntmps13
       go_wp2_with fail
       refine wp_region_held_drew (S := (fun w' => (w'.cell? ⟨w.heap.size,0,none⟩ = some (.int .i64 m.k) /\ w'.cell? ⟨w.heap.size,1,none⟩ = some (.int .i64 m.f) /\ w'.cell? ⟨w.heap.size,2,none⟩ = some (.int .i64 m.o) /\ w'.cell? ⟨w.heap.size,3,none⟩ = some (.int .i64 m.t) /\ w'.cell? ⟨w.heap.size,4,none⟩ = some (.int .i64 m.i) /\ w'.cell? ⟨w.heap.size,5,none⟩ = some (.int .i64 m.l) /\ w'.cell? ⟨w.heap.size,6,none⟩ = some (.int .i64 m.c) /\ w'.cell? ⟨w.heap.size,7,none⟩ = some (.int .i64 m.x) /\ w'.cell? ⟨w.heap.size,8,none⟩ = some (.bool m.b) /\ w'.cell? ⟨w.heap.size,9,none⟩ = some (.slice A m.es.length cA) /\ w'.cell? ⟨w.heap.size,10,none⟩ = some (.int .i64 m.s.i) /\ w'.cell? ⟨w.heap.size,11,none⟩ = some (.int .i64 m.s.t) /\ w'.cell? ⟨w.heap.size,12,none⟩ = some (.slice E m.s.d.length cE)) /\ w'.cell? ⟨p,0,none⟩ = some (.int .i64 (N.id : Int)) /\ w'.cell? ⟨p,1,none⟩ = some (.int .i64 (N.n : Int)) /\ Below W1.heap.size W1 w')) (by kernel_rfl) (HK.out _ blq.drew) (fun hHeld => ?_);refine lsq 25 ?_;refine tkq 0 ?_;refine tkq 1 ?_;refine tkq 2 ?_;refine tkq 3 ?_;refine rdq1 4 fun KK hK => ?_;go_simp;refine (hRight _ hHeld.2.2.2).mono ?_;rintro e w3 ⟨rfl,hb3⟩;have HB3 := Lib.hid (hHeld.2.2.2.trans (hb3.mono hHeld.2.2.2.size));clear hb3;refine hK.out _ _ (HK.out _ HB3.out) ?_;clear hK KK hHeld;intro hHeld
       try simp only [lpq]
       refine tkq 5 ?_;refine tkq 6 ?_;refine tkq 7 ?_;refine tkq 8 ?_;refine tkq 9 ?_;refine tkq 10 ?_;refine tkq 11 ?_;refine tkq 12 ?_;refine tkq 13 ?_;refine tkq 14 ?_;refine tkq 15 ?_;refine tkq 16 ?_;refine tkq 17 ?_;refine tkq 18 ?_;refine tkq 19 ?_;refine tkq 20 ?_;refine tkq 21 ?_;refine tkq 22 ?_;refine tkq 23 ?_;refine tkq 24 ?_;refine dnq ?_;clear hHeld hRight;go_wp2;refine (show PP (.returned (.int .i64 1)) w3 from HNO.out _ HB3.out ?_);unfold Node.heard;rw [decide_eq_false (show ¬ m.o = (N.id : Int) from HN.out)];simp
end Go.Proofs.YtmiijlecfiddmaaGreat
