/- The program's leader adds an entry. -/
import Derived.Test.YtmiijlecfiddmaaNNM22
set_option linter.unusedVariables false
set_option linter.unusedSimpArgs false
set_option maxRecDepth 100000
set_option maxHeartbeats 3200000
namespace Go.Proofs.Ytmiijlecfiddmaa
open Go.RowKit Go.Shelf
attribute [local go_sem] Oper.semAt_some
def qd1 (w wx : World) (p : Nat) (N1 : Node) (i t : Int) (Z : Nat -> Prop) (q : Ptrs) (s : Nat) (xs : List MLay) (K : Nat -> Prop) (v7 v8 : Value) : Prop :=
 ∃ g c,v7 = .pointer (some ⟨g,0,none⟩) /\ v8 = .int .i64 0 /\ wx.heap[g]? = some (.cells #[.int .i64 i, .int .i64 t,c] 31) /\ RfAt wx p N1 (fun b => Z b \/ b = g) q s xs K /\ qf Z w wx /\ w.heap.size <= g
theorem box3 {W : World} {g : Nat} {T : TypeId} {x y z a b c : Value} (h : W.heap[g]? = some (.cells #[x,y,z] T)) :
 (((W.setCell ⟨g,0,none⟩ a).setCell ⟨g,1,none⟩ b).setCell ⟨g,2,none⟩ c).heap[g]? = some (.cells #[a,b,c] T) /\ (((W.setCell ⟨g,0,none⟩ a).setCell ⟨g,1,none⟩ b).setCell ⟨g,2,none⟩ c).heap.size = W.heap.size ∧
 ∀ k,k ≠ g -> (((W.setCell ⟨g,0,none⟩ a).setCell ⟨g,1,none⟩ b).setCell ⟨g,2,none⟩ c).heap[k]? = W.heap[k]? := by
 have r1 := setCell_at W ⟨g,0,none⟩ a _ _ _ rfl h
 have r2 := setCell_at _ ⟨g,1,none⟩ b _ _ _ rfl r1
 have r3 := setCell_at _ ⟨g,2,none⟩ c _ _ _ rfl r2
 exact ⟨r3,by simp,fun k hk => (Below.heap_setCell _ _ _ _ (by exact hk)).trans ((Below.heap_setCell _ _ _ _ (by exact hk)).trans (Below.heap_setCell _ _ _ _ (by exact hk)))⟩
theorem qca {W : World} {g p : Nat} {N : Node} {Z : Nat -> Prop} {q : Ptrs} {s : Nat} {xs : List MLay} {K : Nat -> Prop} {T : TypeId} {x y z a b c : Value} (R : RfAt W p N (fun k => Z k \/ k = g) q s xs K) (h : W.heap[g]? = some (.cells #[x,y,z] T)) (hZ : ¬ Z g) :
 RfAt (((W.setCell ⟨g,0,none⟩ a).setCell ⟨g,1,none⟩ b).setCell ⟨g,2,none⟩ c) p N (fun k => Z k \/ k = g) q s xs K /\ qf Z W (((W.setCell ⟨g,0,none⟩ a).setCell ⟨g,1,none⟩ b).setCell ⟨g,2,none⟩ c) := by
 obtain ⟨h1,h2,h3⟩ := box3 (a := a) (b := b) (c := c) h
 refine ⟨R.keep (Nat.le_of_eq h2.symm) fun k _ hk => h3 k fun e => hk (.inr e),rfl,rfl,rfl,Nat.le_of_eq h2.symm,fun k _ hk => h3 k fun e => hZ (e ▸ hk)⟩
theorem qcb {w : World} {p : Nat} {N : Node} {Z : Nat -> Prop} {q : Ptrs} {s : Nat} {xs : List MLay} {K : Nat -> Prop} (h : RfAt w p N Z q s xs K) (hZ : ∀ b,Z b -> b < w.heap.size) (a : Able N) (D : Option Addr) (dc : Nat) (d : List UInt8) (hD : dc <= maxLen /\ Lies w D d.length dc d /\ (0 < d.length -> ∀ g o,D = some ⟨g,o,none⟩ -> Z g)) (hdl : d.length <= 9223372036854775807) :
 Calls Try.prog 9 #[ptrV p, .slice D d.length dc] w fun e w' => e = .returned (.tuple #[.int .i64 (N.propose d).2.1, .int .i64 (N.propose d).2.2.1, .int .i64 (N.propose d).2.2.2]) /\ qcw w w' p N (N.propose d).1 Z q s := by
 have hp := h.lt
 have c10 := h.c10
 by_cases hro : N.ro = 3
 · have e1 : (N.ro != 3) = false := by rw [bne,beq_iff_eq.2 hro]; rfl
   by_cases hlen : 12000 < d.length
   · have e2 : decide ((12000 : Int) < d.length) = true := decide_eq_true (by omega)
     have hP : N.propose d = (N,0,0,1) := by
      unfold Node.propose
      rw [if_neg (by rw [hro]; simp),if_pos hlen]
     rw [hP]
     have H := Lib.hid h
     clear h hZ a hD hro hlen hdl hP
     go_enter Try.func9,Try.ntmps9
     go_wp2
     go_ret3
     exact ⟨rfl,s,⟨q,xs,K,H.out,rfl,qf.refl _ _⟩,id⟩
   · have e2 : decide ((12000 : Int) < d.length) = false := decide_eq_false (by omega)
     have hP : N.propose d = (({ N with lg := N.grown d } : Node).settle.1.sendAll,N.lg.lastI + 1,N.ht,0) := by
      unfold Node.propose
      rw [if_neg (by rw [hro]; simp),if_neg hlen,if_neg (by have := a.li; omega)]
     rw [hP]
     have hadd := qdl a.good (a.up (.inr hro)) a.ht.2 a.lt a.li d (by omega)
     have hLast := qS h (by have := a.len; omega)
     have hll := a.li
     have e3 : (N.lg.lastI == 1099511627776) = false := beq_eq_false_iff_ne.2 (by omega)
     have e3' : (N.lg.lastI = 1099511627776) = False := eq_false (by omega)
     have hgr : N.lg.more ⟨N.lg.lastI + 1,N.ht,d⟩ = N.grown d := by
      unfold Node.grown RL.add
      rw [if_pos hadd]
      rfl
     have H := Lib.hid (And.intro h (And.intro hZ (And.intro a (And.intro hD (And.intro hadd hgr)))))
     generalize hLI : N.lg.lastI = LI at *
     have HLI := Lib.hid hLI
     clear h hZ a hD hro hlen hdl hP hadd hll hgr hLI
     go_enter Try.func9,Try.ntmps9
     go_upto_region 7 with fail
     go_wp2_with fail
     refine hLast.mono ?_
     rintro e w3 ⟨rfl,hb3⟩
     obtain ⟨h,hZ,a,hD,hadd,hgr⟩ := H.out
     have R3 := h.below hb3
     have hZ3 : ∀ b,Z b -> b < w3.heap.size := fun b hb => Nat.lt_of_lt_of_le (hZ b hb) hb3.size
     have hk3 := qe (Z := Z) hb3 nlq
     have hD3 : dc <= maxLen /\ Lies w3 D d.length dc d /\ (0 < d.length -> ∀ g o,D = some ⟨g,o,none⟩ -> Z g) := ⟨hD.1,hD.2.1.below hb3 nlq,hD.2.2⟩
     have c8 := R3.c8
     have c2 := R3.c2
     have hp3 := R3.lt
     have hAddA := fun X (hX : Below w3.heap.size w3 X) => qa3 (w := X) (R3.below hX).log (fun b hb => (R3.below hX).low (fun b hb => Nat.lt_of_lt_of_le (hZ3 b hb) hX.size) b hb) (by have := a.len; omega) a.good N.ht D d.length dc d ⟨nlq,hD3.2.1.below hX nlq,fun h0 g o e => .inl (hD3.2.2 h0 g o e)⟩ rfl (by rw [HLI.out]; exact hadd)
     have hAddB := fun X (hX : Below w3.heap.size w3 X) (hXs : X.heap.size = w3.heap.size + 1) => qa3 (w := X) (R3.more (Y := fun b => b = w3.heap.size) (fun b hb => by rw [hb]; exact nlq) hX).log (fun b hb => (R3.more (Y := fun b => b = w3.heap.size) (fun b hb => by rw [hb]; exact nlq) hX).low (fun b hb => hb.elim (fun e => Nat.lt_of_lt_of_le (hZ3 b e) hX.size) (fun e => by rw [e,hXs]; exact Nat.lt_succ_self _)) b hb) (by have := a.len; omega) a.good N.ht D d.length dc d ⟨nlq,hD3.2.1.below hX nlq,fun h0 g o e => .inl (.inl (hD3.2.2 h0 g o e))⟩ rfl (by rw [HLI.out]; exact hadd)
     rw [HLI.out] at hAddA hAddB
     have hlow := R3.low hZ3
     have hKS : ∀ W,qf (fun b => Z b \/ b = p \/ Parts q K b) w3 W -> (fun w' : World => w'.cell? ⟨p,8,none⟩ = some (ptrV q.l) /\ w'.cell? ⟨p,2,none⟩ = some (.int .i64 N.ht) /\ qf (fun b => Z b \/ b = p \/ Parts q K b) w3 w') W := fun W hk => ⟨hk.cell c8 (.inr (.inl rfl)),hk.cell c2 (.inr (.inl rfl)),hk⟩
     have HK := Lib.hid (And.intro hKS hlow)
     have HR := Lib.hid (And.intro R3 (And.intro hZ3 (And.intro hk3 (And.intro a (And.intro hgr hadd)))))
     clear h hZ a hD hadd hgr R3 hZ3 hk3 hD3 hlow hKS hLast c10 c8 c2 H hb3
     go_wp2_with fail
     go_upto_region 9 with fail
     go_cut [7,8] (fun v7 v8 wx => qd1 w3 wx p { N with lg := N.grown d } (LI + 1) N.ht Z q s xs K v7 v8)
     case first =>
      refine wp_region_held_drew (S := (fun w' => w'.cell? ⟨p,8,none⟩ = some (ptrV q.l) /\ w'.cell? ⟨p,2,none⟩ = some (.int .i64 N.ht) /\ qf (fun b => Z b \/ b = p \/ Parts q K b) w3 w')) (by kernel_rfl) (HK.out.1 _ (qf.refl _ _).drew) (fun hHeld => ?_)
      change wpAnyH _ _ _ _ _ 17 #[false,false,false,false,false,false,false,false,false,false,false,false,false,false,false,false,false] _ _
      refine tkq 0 ⟨some 27, .move (.tmp 0),32, "lead.go:24",#[],none⟩ ?_ ?_ ?_
      rotate_left
      · (intro w h; (try dsimp only at h); go_simp); (try with_reducible rfl)
      try simp only [lpq]
      refine tkq 1 ⟨some 28, .nilCheck (.tmp 27),0, "lead.go:24",#[⟨0, .data⟩],none⟩ ?_ ?_ ?_
      rotate_left
      · (intro w h; (try dsimp only at h); go_simp); (try with_reducible rfl)
      try simp only [lpq]
      refine tkq 2 ⟨some 29, .fieldAddr 68 (.tmp 28) 5,0, "lead.go:24",#[⟨1, .data⟩],none⟩ ?_ ?_ ?_
      rotate_left
      · (intro w h; (try dsimp only at h); go_simp); (try with_reducible rfl)
      try simp only [lpq]
      refine tkq 3 ⟨some 30, .load 56 (.tmp 29),56, "lead.go:24",#[⟨2, .data⟩],none⟩ ?_ ?_ ?_
      rotate_left
      · (intro w h; (try dsimp only at h); go_simp); (try with_reducible rfl)
      try simp only [lpq]
      refine tkq 4 ⟨some 31, .move (.tmp 0),32, "lead.go:24",#[],none⟩ ?_ ?_ ?_
      rotate_left
      · (intro w h; (try dsimp only at h); go_simp); (try with_reducible rfl)
      try simp only [lpq]
      refine tkq 5 ⟨some 32, .nilCheck (.tmp 31),0, "lead.go:24",#[⟨4, .data⟩],none⟩ ?_ ?_ ?_
      rotate_left
      · (intro w h; (try dsimp only at h); go_simp); (try with_reducible rfl)
      try simp only [lpq]
      refine tkq 6 ⟨some 33, .fieldAddr 68 (.tmp 32) 2,0, "lead.go:24",#[⟨5, .data⟩],none⟩ ?_ ?_ ?_
      rotate_left
      · (intro w h; (try dsimp only at h); go_simp); (try with_reducible rfl)
      try simp only [lpq]
      refine tkq 7 ⟨some 34, .fieldAddr 23 (.tmp 33) 0,0, "lead.go:24",#[⟨6, .data⟩],none⟩ ?_ ?_ ?_
      rotate_left
      · (intro w h; (try dsimp only at h); go_simp); (try with_reducible rfl)
      try simp only [lpq]
      refine tkq 8 ⟨some 35, .load 2 (.tmp 34),2, "lead.go:24",#[⟨7, .data⟩],none⟩ ?_ ?_ ?_
      rotate_left
      · (intro w h; (try dsimp only at h); go_simp); (try with_reducible rfl)
      try simp only [lpq]
      refine tkq 9 ⟨some 36, .move (.tmp 1),24, "lead.go:24",#[],none⟩ ?_ ?_ ?_
      rotate_left
      · (intro w h; (try dsimp only at h); go_simp); (try with_reducible rfl)
      try simp only [lpq]
      refine wpAnyH_ready (rs := [10,14]) (by kernel_rfl) (by simp) ?_
      refine AllReadyH.cons (o := ⟨some 37, .call ⟨.value (.func 24),#[.tmp 30, .tmp 35, .tmp 36],#[56,2,24]⟩,71, "lead.go:24",#[⟨3, .data⟩,⟨8, .data⟩,⟨9, .data⟩],none⟩) rfl (fun KK hK => ?_) (AllReadyH.cons (o := ⟨some 7, .alloc 31,0, "lead.go:24",#[],none⟩) rfl (fun KK hK => ?_) AllReadyH.nil)
      · go_simp
        refine (hAddA _ blq.drew).mono ?_
        rintro e w4 ⟨E4,k4,rfl,hlay,hblk,hlg,hk4⟩
        have hkk := hHeld.2.2.trans hk4
        have HT := Lib.hid (And.intro hlg (And.intro hkk hk4))
        refine hK.out _ _ (HK.out.1 _ hkk) (fun hHeld2 => ?_)
        clear hK KK hHeld
        have hHeld := hHeld2
        clear hHeld2
        try simp only [lpq]
        clear hlay hblk hlg hk4 hAddA hAddB
        refine tkq 11 ⟨some 26, .move (.tmp 37),71, "lead.go:24",#[⟨10, .data⟩],none⟩ ?_ ?_ ?_
        rotate_left
        · (intro w h; (try dsimp only at h); go_simp); (try with_reducible rfl)
        try simp only [lpq]
        refine tkq 12 ⟨some 38, .extract (.tmp 26) 0,31, "lead.go:24",#[⟨11, .data⟩],none⟩ ?_ ?_ ?_
        rotate_left
        · (intro w h; (try dsimp only at h); go_simp); (try with_reducible rfl)
        try simp only [lpq]
        refine tkq 13 ⟨some 39, .extract (.tmp 26) 1,33, "lead.go:24",#[⟨11, .data⟩,⟨15, .gcOnly .lateStores⟩],none⟩ ?_ ?_ ?_
        rotate_left
        · (intro w h; (try dsimp only at h); go_simp); (try with_reducible rfl)
        try simp only [lpq]
        refine wpAnyH_ready (rs := [14]) (by kernel_rfl) (by simp) ?_
        refine AllReadyH.cons (o := ⟨some 7, .alloc 31,0, "lead.go:24",#[],none⟩) rfl (fun KK hK => ?_) AllReadyH.nil
        go_simp
        refine hK.out _ _ (HK.out.1 _ (hkk.trans (qz _ _))) (fun hHeld2 => ?_)
        clear hK KK hHeld
        have hHeld := hHeld2
        clear hHeld2
        try simp only [lpq]
        have hb4 := heap_alloc_new w4 (.cells #[.int .i64 0, .int .i64 0, .slice none 0 0] 31)
        have hs4 := hkk.size
        have hnz : ¬ (Z w4.heap.size \/ w4.heap.size = p \/ Parts q K w4.heap.size) := fun e => by have := HK.out.2 _ e; omega
        have hsz4 : (w4.alloc (.cells #[.int .i64 0, .int .i64 0, .slice none 0 0] 31)).heap.size = w4.heap.size + 1 := by simp
        have hk5 := hkk.trans (qz (Z := fun b => Z b \/ b = p \/ Parts q K b) w4 (.cells #[.int .i64 0, .int .i64 0, .slice none 0 0] 31))
        have hbl4 : Below w4.heap.size w4 (w4.alloc (.cells #[.int .i64 0, .int .i64 0, .slice none 0 0] 31)) := blq.alloc nlq _
        have x0 : (w4.alloc (.cells #[.int .i64 0, .int .i64 0, .slice none 0 0] 31)).cell? ⟨w4.heap.size,0,none⟩ = some (.int .i64 0) := qa hb4 0 _ rfl
        have x1 : (w4.alloc (.cells #[.int .i64 0, .int .i64 0, .slice none 0 0] 31)).cell? ⟨w4.heap.size,1,none⟩ = some (.int .i64 0) := qa hb4 1 _ rfl
        have x2 : (w4.alloc (.cells #[.int .i64 0, .int .i64 0, .slice none 0 0] 31)).cell? ⟨w4.heap.size,2,none⟩ = some (.slice none 0 0) := qa hb4 2 _ rfl
        have y0 := qb hb4 0
        have y1 := qb hb4 1
        have y2 := qb hb4 2
        generalize w4.alloc (.cells #[.int .i64 0, .int .i64 0, .slice none 0 0] 31) = w5 at *
        obtain ⟨g4,hg4⟩ : ∃ g,g = w4.heap.size := ⟨_,rfl⟩
        rw [<- hg4] at x0 x1 x2 y0 y1 y2 hb4 hnz
        rw [<- hg4]
        have HG4 := Lib.hid hg4
        clear hg4
        refine wpAnyH_ready (rs := [15]) (by kernel_rfl) (by simp) ?_
        refine AllReadyH.cons (o := ⟨none, .store 31 (.tmp 7) (.tmp 38),0, "lead.go:24",#[⟨14, .data⟩,⟨12, .data⟩,⟨10, .chain⟩,⟨0, .phase⟩,⟨1, .phase⟩,⟨2, .phase⟩,⟨3, .phase⟩,⟨4, .phase⟩,⟨5, .phase⟩,⟨6, .phase⟩,⟨7, .phase⟩,⟨8, .phase⟩,⟨9, .phase⟩,⟨10, .phase⟩,⟨11, .phase⟩,⟨12, .phase⟩,⟨13, .textOnly .lateStores⟩,⟨14, .phase⟩],none⟩) rfl (fun KK hK => ?_) AllReadyH.nil
        go_simp
        refine hK.out _ _ (HK.out.1 _ (((hk5.trans (qg _ ⟨g4,0,none⟩ _ hnz)).trans (qg _ ⟨g4,1,none⟩ _ hnz)).trans (qg _ ⟨g4,2,none⟩ _ hnz))) (fun hHeld2 => ?_)
        clear hK KK hHeld
        have hHeld := hHeld2
        clear hHeld2
        try simp only [lpq]
        refine tkq 16 ⟨some 8, .assign (.tmp 39),33, "lead.go:24",#[⟨13, .data⟩,⟨15, .chain⟩,⟨0, .phase⟩,⟨1, .phase⟩,⟨2, .phase⟩,⟨3, .phase⟩,⟨4, .phase⟩,⟨5, .phase⟩,⟨6, .phase⟩,⟨7, .phase⟩,⟨8, .phase⟩,⟨9, .phase⟩,⟨10, .phase⟩,⟨11, .phase⟩,⟨12, .phase⟩,⟨13, .phase⟩,⟨14, .phase⟩,⟨15, .phase⟩],none⟩ ?_ ?_ ?_
        rotate_left
        · (intro w h; (try dsimp only at h); go_simp); (try with_reducible rfl)
        try simp only [lpq]
        refine wpAnyH_done (by kernel_rfl) ?_ _
        clear hHeld x0 x1 x2 y0 y1 y2
        go_wp2
        go_meet
        obtain ⟨R3,hZ3,hk3,a,hgr,hadd⟩ := HR.out
        obtain ⟨hlg,hkk,hk4⟩ := HT.out
        have hg4 := HG4.out
        have R4 : RfAt w4 p { N with lg := N.grown d } Z q s xs K := by
         rw [<- hgr]
         exact (R3.below blq.drew).logged (hlg.mono fun b hb => .inl hb) hk4
        have R5 := R4.more (Y := fun b => b = g4) (fun b hb => by rw [hb,HG4.out]; exact nlq) (hbl4)
        obtain ⟨R6,k6⟩ := qca (a := .int .i64 (LI + 1)) (b := .int .i64 N.ht) (c := .slice E4 d.length k4) R5 hb4 (fun e => hnz (.inl e))
        exact ⟨g4,_,rfl,rfl,(box3 hb4).1,R6,(hk5.mono fun b hb => .inl hb).trans k6,by omega⟩
      · go_simp
        have hkA := hHeld.2.2.trans (qz (Z := fun b => Z b \/ b = p \/ Parts q K b) w3.drew (.cells #[.int .i64 0, .int .i64 0, .slice none 0 0] 31))
        refine hK.out _ _ (HK.out.1 _ hkA) (fun hHeld2 => ?_)
        clear hK KK hHeld
        have hHeld := hHeld2
        clear hHeld2
        try simp only [lpq]
        have hXB : Below w3.heap.size w3 ((w3.alloc (.cells #[.int .i64 0, .int .i64 0, .slice none 0 0] 31)).drew) := (blq.alloc nlq _).drew
        have hXs : (w3.alloc (.cells #[.int .i64 0, .int .i64 0, .slice none 0 0] 31)).drew.heap.size = w3.heap.size + 1 := by simp
        have hbx : (w3.alloc (.cells #[.int .i64 0, .int .i64 0, .slice none 0 0] 31)).drew.heap[w3.heap.size]? = some (.cells #[.int .i64 0, .int .i64 0, .slice none 0 0] 31) := heap_alloc_new w3 _
        have RX := Lib.hid (HR.out.1.more (Y := fun b => b = w3.heap.size) (fun b hb => by rw [hb]; exact nlq) hXB)
        have hAd := hAddB _ hXB hXs
        clear hAddA hAddB
        have hkA : qf (fun b => Z b \/ b = p \/ Parts q K b) w3 (w3.alloc (.cells #[.int .i64 0, .int .i64 0, .slice none 0 0] 31)).drew := (qz _ _).drew
        generalize (w3.alloc (.cells #[.int .i64 0, .int .i64 0, .slice none 0 0] 31)).drew = wX at *
        refine wpAnyH_ready (rs := [10]) (by kernel_rfl) (by simp) ?_
        refine AllReadyH.cons (o := ⟨some 37, .call ⟨.value (.func 24),#[.tmp 30, .tmp 35, .tmp 36],#[56,2,24]⟩,71, "lead.go:24",#[⟨3, .data⟩,⟨8, .data⟩,⟨9, .data⟩],none⟩) rfl (fun KK hK => ?_) AllReadyH.nil
        go_simp
        refine hAd.mono ?_
        rintro e w5 ⟨E4,k4,rfl,hlay,hblk,hlg,hk4⟩
        have hk5 := hkA.trans (hk4.mono fun b hb => hb.imp_left .inl)
        have hb4 := (hk4.block _ (hlt hbx) (.inl (.inr rfl))).trans hbx
        have HT := Lib.hid (And.intro hlg (And.intro hk5 hk4))
        refine hK.out _ _ (HK.out.1 _ hk5) (fun hHeld2 => ?_)
        clear hK KK hHeld
        have hHeld := hHeld2
        clear hHeld2
        try simp only [lpq]
        clear hlay hblk hlg hk4 hAd
        have hnz : ¬ (Z w3.heap.size \/ w3.heap.size = p \/ Parts q K w3.heap.size) := fun e => by have := HK.out.2 _ e; omega
        have hs4 := Nat.le_refl w3.heap.size
        refine tkq 11 ⟨some 26, .move (.tmp 37),71, "lead.go:24",#[⟨10, .data⟩],none⟩ ?_ ?_ ?_
        rotate_left
        · (intro w h; (try dsimp only at h); go_simp); (try with_reducible rfl)
        try simp only [lpq]
        refine tkq 12 ⟨some 38, .extract (.tmp 26) 0,31, "lead.go:24",#[⟨11, .data⟩],none⟩ ?_ ?_ ?_
        rotate_left
        · (intro w h; (try dsimp only at h); go_simp); (try with_reducible rfl)
        try simp only [lpq]
        refine tkq 13 ⟨some 39, .extract (.tmp 26) 1,33, "lead.go:24",#[⟨11, .data⟩,⟨15, .gcOnly .lateStores⟩],none⟩ ?_ ?_ ?_
        rotate_left
        · (intro w h; (try dsimp only at h); go_simp); (try with_reducible rfl)
        try simp only [lpq]
        have x0 : w5.cell? ⟨w3.heap.size,0,none⟩ = some (.int .i64 0) := qa hb4 0 _ rfl
        have x1 : w5.cell? ⟨w3.heap.size,1,none⟩ = some (.int .i64 0) := qa hb4 1 _ rfl
        have x2 : w5.cell? ⟨w3.heap.size,2,none⟩ = some (.slice none 0 0) := qa hb4 2 _ rfl
        have y0 := qb hb4 0
        have y1 := qb hb4 1
        have y2 := qb hb4 2
        obtain ⟨g4,hg4⟩ : ∃ g,g = w3.heap.size := ⟨_,rfl⟩
        rw [<- hg4] at x0 x1 x2 y0 y1 y2 hb4 hnz
        rw [<- hg4]
        have HG4 := Lib.hid hg4
        clear hg4
        refine wpAnyH_ready (rs := [15]) (by kernel_rfl) (by simp) ?_
        refine AllReadyH.cons (o := ⟨none, .store 31 (.tmp 7) (.tmp 38),0, "lead.go:24",#[⟨14, .data⟩,⟨12, .data⟩,⟨10, .chain⟩,⟨0, .phase⟩,⟨1, .phase⟩,⟨2, .phase⟩,⟨3, .phase⟩,⟨4, .phase⟩,⟨5, .phase⟩,⟨6, .phase⟩,⟨7, .phase⟩,⟨8, .phase⟩,⟨9, .phase⟩,⟨10, .phase⟩,⟨11, .phase⟩,⟨12, .phase⟩,⟨13, .textOnly .lateStores⟩,⟨14, .phase⟩],none⟩) rfl (fun KK hK => ?_) AllReadyH.nil
        go_simp
        refine hK.out _ _ (HK.out.1 _ (((hk5.trans (qg _ ⟨g4,0,none⟩ _ hnz)).trans (qg _ ⟨g4,1,none⟩ _ hnz)).trans (qg _ ⟨g4,2,none⟩ _ hnz))) (fun hHeld2 => ?_)
        clear hK KK hHeld
        have hHeld := hHeld2
        clear hHeld2
        try simp only [lpq]
        refine tkq 16 ⟨some 8, .assign (.tmp 39),33, "lead.go:24",#[⟨13, .data⟩,⟨15, .chain⟩,⟨0, .phase⟩,⟨1, .phase⟩,⟨2, .phase⟩,⟨3, .phase⟩,⟨4, .phase⟩,⟨5, .phase⟩,⟨6, .phase⟩,⟨7, .phase⟩,⟨8, .phase⟩,⟨9, .phase⟩,⟨10, .phase⟩,⟨11, .phase⟩,⟨12, .phase⟩,⟨13, .phase⟩,⟨14, .phase⟩,⟨15, .phase⟩],none⟩ ?_ ?_ ?_
        rotate_left
        · (intro w h; (try dsimp only at h); go_simp); (try with_reducible rfl)
        try simp only [lpq]
        refine wpAnyH_done (by kernel_rfl) ?_ _
        clear hHeld x0 x1 x2 y0 y1 y2
        go_wp2
        go_meet
        obtain ⟨R3,hZ3,hk3,a,hgr,hadd⟩ := HR.out
        obtain ⟨hlg,hkk,hk4⟩ := HT.out
        have hg4 := HG4.out
        have R4 : RfAt w5 p { N with lg := N.grown d } (fun b => Z b \/ b = g4) q s xs K := by
         rw [hg4,<- hgr]
         exact RX.out.logged (hlg.mono fun b hb => .inl hb) hk4
        obtain ⟨R6,k6⟩ := qca (a := .int .i64 (LI + 1)) (b := .int .i64 N.ht) (c := .slice E4 d.length k4) R4 hb4 (fun e => hnz (.inl e))
        exact ⟨g4,_,rfl,rfl,(box3 hb4).1,R6,(hk5.mono fun b hb => .inl hb).trans k6,by omega⟩
     case rest =>
      obtain ⟨g,c,rfl,rfl,hbox,R5,k5,hg5⟩ := hcut
      obtain ⟨R3,hZ3,hk3,a,hgr,hadd⟩ := HR.out
      have hZ5 : ∀ b,(Z b \/ b = g) -> b < wc.heap.size := fun b hb => hb.elim (fun e => Nat.lt_of_lt_of_le (hZ3 b e) k5.size) (fun e => by rw [e]; exact hlt hbox)
      have hgl : (N.grown d).l.length = N.lg.l.length + 1 /\ (N.grown d).i = N.lg.i := by
       rw [<- hgr]
       obtain ⟨a1,a2,_⟩ := qap (⟨N.lg.i,N.lg.t,N.lg.l ++ [⟨LI + 1,N.ht,d⟩],N.lg.f⟩ : RL) (N.lg.lastI + 1)
       unfold RL.more
       rw [a1,a2]
       exact ⟨by simp,rfl⟩
      have hgd : Good (N.grown d) := by rw [<- hgr]; exact a.good.more (by rw [HLI.out]; exact hadd)
      have hgood := hgd.lastI
      have hglim := hgd.lim
      have hAv := qaO R5 hZ5 (by have := a.len; show (N.grown d).l.length <= 1000000; omega) hgd ⟨a.n.1,by have := a.n; show N.id < 3; omega⟩ (fun j => ⟨by have := a.ma j; show (-9223372036854775808 : Int) <= N.ma j; omega,by have := a.ma j; show N.ma j <= (9223372036854775807 : Int); omega⟩) ⟨by show (-9223372036854775808 : Int) <= (N.grown d).lastI; omega,by show (N.grown d).lastI <= (9223372036854775807 : Int); omega⟩ (fun j => (a.ma j).1) (by show 0 <= (N.grown d).lastI; omega)
      have hset := qbs { N with lg := N.grown d }
      have HF := Lib.hid (And.intro hZ5 (And.intro (hk3.trans k5) (And.intro a (And.intro hset (And.intro hgd (And.intro hgl (And.intro hbox (And.intro hgr hadd))))))))
      clear R3 hZ3 hk3 a hgr hadd R5 k5 hZ5 hgl hgd hgood hglim hset hbox HK HR hAddA hAddB hg5
      go_wp2_with fail
      refine hAv.mono ?_
      rintro e w6 ⟨rfl,R6,k6⟩
      obtain ⟨hZ5,hk5,a,⟨cq,hset⟩,hgd,hgl,hbox,hgr,hadd⟩ := HF.out
      have hSd := qU R6 (fun b hb => Nat.lt_of_lt_of_le (hZ5 b hb) k6.size) (by rw [hset]; have := a.ms; show N.ms.length < 999990; omega) (by rw [hset]; have := a.len; show (N.grown d).l.length <= 1000000; omega) (by rw [hset]; exact hgd) (fun j => by rw [hset]; have := a.nx j; show _ <= N.nx j /\ N.nx j <= _; omega) (by rw [hset]; exact a.sd) (by rw [hset]; exact ⟨a.n.1,by have := a.n; show N.id < 3; omega⟩)
      have hlgS : ({ N with lg := N.grown d } : Node).settle.1.sendAll.lg = N.grown d := by
       rw [hset]
       obtain ⟨ls,_,e⟩ := qaj ({ N with lg := N.grown d,cm := cq } : Node) ({ N with lg := N.grown d,cm := cq } : Node).others
       exact congrArg Node.lg e
      have hbox6 := (k6.block _ (hlt hbox) (.inr rfl)).trans hbox
      have HG := Lib.hid (And.intro (hk5.trans (k6.mono fun b hb => .inl hb)) (And.intro hlgS (And.intro hbox6 (And.intro (fun s (hs : frel N.lg s) => (by rw [<- hgr]; exact qbm a.good hs _ : frel (N.grown d) s)) True.intro))))
      clear hZ5 hk5 a hset hgd hgl hbox hgr hadd R6 k6 hAv HF hlgS hbox6
      go_wp2_with fail
      refine hSd.mono ?_
      rintro e w7 ⟨rfl,q7,xs7,K7,R7,hq7,k7⟩
      obtain ⟨hk6,hlgS,hbox6,hfr,_⟩ := HG.out
      have hbox7 := (k7.block _ (hlt hbox6) (.inr rfl)).trans hbox6
      have g0 : w7.cell? ⟨g,0,none⟩ = some (.int .i64 (LI + 1)) := qa hbox7 0 _ rfl
      have g1 : w7.cell? ⟨g,1,none⟩ = some (.int .i64 N.ht) := qa hbox7 1 _ rfl
      have hT : qcw w w7 p N (({ N with lg := N.grown d } : Node).settle.1.sendAll) Z q s := ⟨s,⟨q7,xs7,K7,R7.less fun b hb => .inl hb,hq7,hk6.trans (k7.mono fun b hb => .inl hb)⟩,fun hs => by rw [hlgS]; exact hfr s hs⟩
      have HT := Lib.hid hT
      clear hk6 hlgS hbox6 hfr hbox7 R7 hq7 k7 hT HG hSd
      go_wp2_with fail
      go_quiet (fail)
      go_wp2
      go_ret3
      obtain ⟨s',⟨q8,xs8,K8,r1,r2,r3⟩,r4⟩ := HT.out
      exact ⟨rfl,s',⟨q8,xs8,K8,r1.below (below_drewN blq _),r2,r3.trans (qe (below_drewN blq _) nlq)⟩,r4⟩
 · have e1 : (N.ro != 3) = true := by rw [bne,beq_eq_false_iff_ne.2 hro]; rfl
   have hP : N.propose d = (N,0,0,14) := by
    unfold Node.propose
    rw [if_pos hro]
   rw [hP]
   have e1' : (N.ro = 3) = False := eq_false hro
   have H := Lib.hid h
   clear h hZ a hD hro hdl hP
   go_enter Try.func9,Try.ntmps9
   go_wp2
   go_ret3
   exact ⟨rfl,s,⟨q,xs,K,H.out,rfl,qf.refl _ _⟩,id⟩
end Go.Proofs.Ytmiijlecfiddmaa
