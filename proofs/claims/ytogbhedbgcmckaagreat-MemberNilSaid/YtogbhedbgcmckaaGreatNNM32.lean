/- What the program's node hands out. -/
import Derived.Test.YtogbhedbgcmckaaGreatNNM01
import Derived.Test.YtogbhedbgcmckaaGreatNNM31
set_option linter.unusedVariables false
set_option linter.unusedSimpArgs false
set_option maxRecDepth 100000
set_option maxHeartbeats 3200000
namespace Go.Proofs.YtogbhedbgcmckaaGreat
open Go.RowKit Go.Shelf
attribute [local go_sem] Oper.semAt_some
theorem RfAt.hand {w w' : World} {p : Nat} {N : Node} {Z : Nat -> Prop} {q : Ptrs} {s : Nat} {xs : List MLay} {K : Nat -> Prop} (h : RfAt w p N Z q s xs K) (hs : w.heap.size <= w'.heap.size) (hk : ∀ b,b < w.heap.size -> b ≠ p -> w'.heap[b]? = w.heap[b]?)
 (hrow : w'.heap[p]? = some (.cells (rfC { N with kp := false,ms := [],td := [] } { q with M := none,cM := 0,T := none,cT := 0 }) 108)) :
 RfAt w' p { N with kp := false,ms := [],td := [] } (fun b => Z b \/ Pay N.sn.d.length q.E K b \/ blkR q.M b \/ blkR q.T b) { q with M := none,cM := 0,T := none,cT := 0 } s [] (fun b => 0 < N.sn.d.length /\ blkR q.E b) where
 row := hrow
 away e := by
  rcases e with e | e | e | e
  · exact h.away e
  · exact (h.kz p e.1).2.1 rfl
  · exact (h.mz p e).2.1 rfl
  · exact (h.tz p e).2.1 rfl
 kz b hb := by
  have hK : K b := by
   obtain ⟨h0,o,e⟩ := hb;exact h.snk h0 b o e
  refine ⟨fun e => ?_,(h.kz b hK).2.1,Nat.lt_of_lt_of_le (h.kz b hK).2.2 hs⟩;rcases e with e | e | e | e
  · exact (h.kz b hK).1 e
  · exact e.2 hb
  · exact (h.mz b e).2.2.1 hK
  · exact (h.tz b e).2.2.1 hK
 rz b hb := by
  refine ⟨fun e => ?_,(h.rz b hb).2.1,fun e => (h.rz b hb).2.2 (h.snk e.1 b e.2.choose e.2.choose_spec)⟩;rcases e with e | e | e | e
  · exact (h.rz b hb).1 e
  · exact (h.rz b hb).2.2 e.1
  · exact (h.mz b e).2.2.2 hb
  · exact (h.tz b e).2.2.2.1 hb
 mz b hb := absurd hb (qaa b)
 tz b hb := absurd hb (qaa b)
 log := (h.log.keep hs fun b hb hz => hk b hb fun e => hz (.inr (.inl e))).mono fun b hb => by
  rcases hb with (hb | hb | hb | hb) | hb | hb | hb | hb | hb
  · exact .inl hb
  · exact .inr (.inr (.inl hb.1))
  · exact .inr (.inr (.inr (.inr (.inl hb))))
  · exact .inr (.inr (.inr (.inr (.inr hb))))
  · exact .inr (.inl hb)
  · exact .inr (.inr (.inl (h.snk hb.1 b hb.2.choose hb.2.choose_spec)))
  · exact .inr (.inr (.inr (.inl hb)))
  · exact absurd hb (qaa b)
  · exact absurd hb (qaa b)
 rds := h.rds.keep fun b hb => hk b (h.rds.lt hb) (h.rz b hb).2.1
 tds := Sp.nil _ _ _
 mss := Sp.nil _ _ _
 map := rfl
 msg x hx := by cases hx
 snp := h.snp.keep hs fun h0 g off e hg => hk g hg (h.kz g (h.snk h0 g off e)).2.1
 snk h0 g o e := ⟨h0,o,e⟩
theorem box8 {W : World} {g : Nat} {T : TypeId} {x0 x1 x2 x3 x4 x5 x6 x7 a0 a1 a2 a3 a4 a5 a6 a7 : Value} (h : W.heap[g]? = some (.cells #[x0,x1,x2,x3,x4,x5,x6,x7] T)) :
 ((((((((W.setCell ⟨g,0,none⟩ a0).setCell ⟨g,1,none⟩ a1).setCell ⟨g,2,none⟩ a2).setCell ⟨g,3,none⟩ a3).setCell ⟨g,4,none⟩ a4).setCell ⟨g,5,none⟩ a5).setCell ⟨g,6,none⟩ a6).setCell ⟨g,7,none⟩ a7).heap[g]? = some (.cells #[a0,a1,a2,a3,a4,a5,a6,a7] T) ∧
 (∀ B,B <= g -> Below B W ((((((((W.setCell ⟨g,0,none⟩ a0).setCell ⟨g,1,none⟩ a1).setCell ⟨g,2,none⟩ a2).setCell ⟨g,3,none⟩ a3).setCell ⟨g,4,none⟩ a4).setCell ⟨g,5,none⟩ a5).setCell ⟨g,6,none⟩ a6).setCell ⟨g,7,none⟩ a7)) /\ ∀ k,k ≠ g -> ((((((((W.setCell ⟨g,0,none⟩ a0).setCell ⟨g,1,none⟩ a1).setCell ⟨g,2,none⟩ a2).setCell ⟨g,3,none⟩ a3).setCell ⟨g,4,none⟩ a4).setCell ⟨g,5,none⟩ a5).setCell ⟨g,6,none⟩ a6).setCell ⟨g,7,none⟩ a7).heap[k]? = W.heap[k]? := by
 have r0 := stq 0 a0 h;have r1 := stq 1 a1 r0;have r2 := stq 2 a2 r1;have r3 := stq 3 a3 r2;have r4 := stq 4 a4 r3;have r5 := stq 5 a5 r4;have r6 := stq 6 a6 r5;have r7 := stq 7 a7 r6;refine ⟨r7,fun B hB => ?_,fun k hk => ?_⟩
 case refine_2 => exact (Below.heap_setCell _ _ _ _ (by exact hk)).trans ((Below.heap_setCell _ _ _ _ (by exact hk)).trans ((Below.heap_setCell _ _ _ _ (by exact hk)).trans ((Below.heap_setCell _ _ _ _ (by exact hk)).trans ((Below.heap_setCell _ _ _ _ (by exact hk)).trans ((Below.heap_setCell _ _ _ _ (by exact hk)).trans ((Below.heap_setCell _ _ _ _ (by exact hk)).trans (Below.heap_setCell _ _ _ _ (by exact hk))))))))
 exact ((((((((Below.refl B W).setCell (p := ⟨g,0,none⟩) hB a0).setCell (p := ⟨g,1,none⟩) hB a1).setCell (p := ⟨g,2,none⟩) hB a2).setCell (p := ⟨g,3,none⟩) hB a3).setCell (p := ⟨g,4,none⟩) hB a4).setCell (p := ⟨g,5,none⟩) hB a5).setCell (p := ⟨g,6,none⟩) hB a6).setCell (p := ⟨g,7,none⟩) hB a7
theorem qhV {W : World} {g : Nat} {T : TypeId} {x0 x1 x2 x3 x4 x5 x6 x7 a0 a1 a2 a3 a4 a5 a6 a7 : Value} (hb : W.heap[g]? = some (.cells #[x0,x1,x2,x3,x4,x5,x6,x7] T)) {B n c : Nat} {A : Option Addr} {ls : List Ent} (h : Ents W (fun b => B <= b) A n c ls) (hB : g < B) :
 Ents ((((((((W.setCell ⟨g,0,none⟩ a0).setCell ⟨g,1,none⟩ a1).setCell ⟨g,2,none⟩ a2).setCell ⟨g,3,none⟩ a3).setCell ⟨g,4,none⟩ a4).setCell ⟨g,5,none⟩ a5).setCell ⟨g,6,none⟩ a6).setCell ⟨g,7,none⟩ a7) (fun b => B <= b) A n c ls := by
 exact h.keep ((box8 hb).2.1 0 (Nat.zero_le _)).size fun k _ hk => (box8 hb).2.2 k (by have : B <= k := hk; omega)
theorem LgR.f0 {w : World} {p : Nat} {r : RL} {s : Nat} {Z : Nat -> Prop} (h : LgR w p r s Z) : LgR w p ⟨r.i,r.t,r.l,0⟩ s Z := by
 obtain ⟨A,c,xs,h⟩ := h;exact ⟨A,c,xs,⟨h.row,h.spot,h.map,h.away,h.own,h.lays⟩⟩
def qkZ (w wx : World) (N : Node) (q : Ptrs) (v3 : Value) : Prop :=
 ∃ g FA fc,v3 = .pointer (some ⟨g,0,none⟩) /\ wx.heap[g]? = some (.cells #[.int .i64 N.ht, .int .i64 N.hv, .slice FA N.lg.changed.length fc, .int .i64 0, .int .i64 0, .slice none 0 0, .slice q.M N.ms.length q.cM, .slice q.T N.td.length q.cT] 110) ∧
  Below w.heap.size w wx /\ w.heap.size < g /\ wx.heap[w.heap.size]? = some (.cells #[.int .i64 0, .int .i64 0, .slice none 0 0, .int .i64 0, .int .i64 0, .slice none 0 0, .slice none 0 0, .slice none 0 0] 110) /\ Ents wx (fun b => w.heap.size < b /\ b ≠ g) FA N.lg.changed.length fc N.lg.changed
def qhW (w wx : World) (N : Node) (q : Ptrs) (g : Nat) (FA : Option Addr) (fc : Nat) : Prop :=
 ∃ EA ec,wx.heap[g]? = some (.cells #[.int .i64 N.ht, .int .i64 N.hv, .slice FA N.lg.changed.length fc, .int .i64 N.took.2.sn.i, .int .i64 N.took.2.sn.t, .slice EA N.took.2.sn.d.length ec, .slice q.M N.ms.length q.cM, .slice q.T N.td.length q.cT] 110) ∧
  Below w.heap.size w wx /\ w.heap.size < g /\ wx.heap[w.heap.size]? = some (.cells #[.int .i64 0, .int .i64 0, .slice none 0 0, .int .i64 0, .int .i64 0, .slice none 0 0, .slice none 0 0, .slice none 0 0] 110) /\ Ents wx (fun b => w.heap.size < b) FA N.lg.changed.length fc N.lg.changed /\ Lies wx EA N.took.2.sn.d.length ec N.took.2.sn.d /\ (0 < N.took.2.sn.d.length -> ∀ g o,EA = some ⟨g,o,none⟩ -> w.heap.size < g)
def qlq (w w' : World) (p : Nat) (N : Node) (Z : Nat -> Prop) (q : Ptrs) (xs : List MLay) (K : Nat -> Prop) (e : Ending) : Prop :=
 ∃ FA fc EA ec s',e = .returned (.agg #[.int .i64 N.ht, .int .i64 N.hv, .slice FA N.lg.changed.length fc, .int .i64 N.took.2.sn.i, .int .i64 N.took.2.sn.t, .slice EA N.took.2.sn.d.length ec, .slice q.M N.ms.length q.cM, .slice q.T N.td.length q.cT]) ∧
  Ents w' (fun b => w.heap.size <= b) FA N.lg.changed.length fc N.lg.changed /\ Lies w' EA N.took.2.sn.d.length ec N.took.2.sn.d /\ (0 < N.took.2.sn.d.length -> ∀ g o,EA = some ⟨g,o,none⟩ -> w.heap.size <= g) ∧
  RfAt w' p N.took.1 (fun b => (Z b \/ w.heap.size <= b) \/ Pay N.sn.d.length q.E K b \/ blkR q.M b \/ blkR q.T b) { q with M := none,cM := 0,T := none,cT := 0 } s' [] (fun b => 0 < N.sn.d.length /\ blkR q.E b) /\ frel N.took.1.lg s' ∧
  Sp 43 13 w' q.M N.ms.length q.cM (mrow xs) /\ xs.map (·.m) = N.ms /\ (∀ x ∈ xs,qC w' (Pay N.sn.d.length q.E K) x.m x.A x.cA x.E x.cE) /\ Sp 122 2 w' q.T N.td.length q.cT (rrow N.td) /\ qa Z w w'
theorem qi8 {w : World} {p : Nat} {N : Node} {Z : Nat -> Prop} {q : Ptrs} {s : Nat} {xs : List MLay} {K : Nat -> Prop} (h : RfAt w p N Z q s xs K) (hg : qk N.lg) (hl : N.lg.l.length <= 1000000) (hs : frel N.lg s) (hsd : N.sn.d.length <= 50000) (hZ : ∀ b,Z b -> b < w.heap.size) :
 Calls Tryz.prog 43 #[ptrV p] w fun e w' => qlq w w' p N Z q xs K e := by
 have hp := h.lt;obtain ⟨Wa,hWa⟩ := exq (w.alloc (.cells #[.int .i64 0, .int .i64 0, .slice none 0 0, .int .i64 0, .int .i64 0, .slice none 0 0, .slice none 0 0, .slice none 0 0] 110))
 have hb1 : Below w.heap.size w Wa := by rw [<- hWa]; exact blq.alloc nlq _
 have hres : Wa.heap[w.heap.size]? = some (.cells #[.int .i64 0, .int .i64 0, .slice none 0 0, .int .i64 0, .int .i64 0, .slice none 0 0, .slice none 0 0, .slice none 0 0] 110) := by rw [<- hWa]; exact heap_alloc_new w _
 have hsz : Wa.heap.size = w.heap.size + 1 := by rw [<- hWa]; simp
 have hup : ∀ W,Below Wa.heap.size Wa W -> Below w.heap.size w W := fun W hW => hb1.trans (hW.mono (by omega))
 have hR : ∀ W,Below w.heap.size w W -> RfAt W p N (fun b => Z b \/ w.heap.size <= b) q s xs K := fun W hW => h.more (fun b hb => hb) hW;have hch : N.lg.changed = N.lg.l.drop s := hg.changed hs
 have hFr : ∀ X,Below w.heap.size w X -> Calls Tryz.prog 84 #[ptrV q.l] X fun e w' => ∃ A' c',e = .returned (.slice A' N.lg.changed.length c') /\ Ents w' (fun b => X.heap.size <= b) A' N.lg.changed.length c' N.lg.changed /\ Below X.heap.size X w' := by
  intro X hX;obtain ⟨A,c,ls,hla⟩ := (h.below hX).log;rw [hch];exact qhJ hla hl hg (qkM hs hg)
 obtain ⟨B0,hB0⟩ : ∃ B,B = Wa.heap.size := ⟨_,rfl⟩;rw [<- hB0] at hup
 have hmo : ∀ X,Below B0 Wa X -> B0 <= X.heap.size := fun X hX => by rw [hB0]; exact hX.size
 have hC : ∀ W,Below B0 Wa W -> (fun w' : World => w'.cell? ⟨p,2,none⟩ = some (.int .i64 N.ht) /\ w'.cell? ⟨p,3,none⟩ = some (.int .i64 N.hv) /\ w'.cell? ⟨p,8,none⟩ = some (ptrV q.l) /\ w'.cell? ⟨p,27,none⟩ = some (.slice q.M N.ms.length q.cM) /\ w'.cell? ⟨p,28,none⟩ = some (.slice q.T N.td.length q.cT) /\ Below B0 Wa w') W := fun W hW => ⟨(h.below (hup W hW)).c2,(h.below (hup W hW)).c3,(h.below (hup W hW)).c8,(h.below (hup W hW)).c27,(h.below (hup W hW)).c28,hW⟩;have HK := Lib.hid hC;have HU := hdq5 hup hres hb1 hmo hB0;have H := hdq7 h hg hl hs hsd hZ hR;clear h hg hl hs hsd hZ hR hC hch hb1 hup hres hmo hB0
 go_enter Tryz.func43,Tryz.ntmps43
 go_wp2_with fail
 go_upto_region 3 with fail
 go_cut [3] (fun v3 wx => qkZ w wx N q v3)
 case first =>
  refine wp_region_held_drew (S := (fun w' => w'.cell? ⟨p,2,none⟩ = some (.int .i64 N.ht) /\ w'.cell? ⟨p,3,none⟩ = some (.int .i64 N.hv) /\ w'.cell? ⟨p,8,none⟩ = some (ptrV q.l) /\ w'.cell? ⟨p,27,none⟩ = some (.slice q.M N.ms.length q.cM) /\ w'.cell? ⟨p,28,none⟩ = some (.slice q.T N.td.length q.cT) /\ Below B0 Wa w')) (by kernel_rfl) (HK.out _ blq.drew) (fun hHeld => ?_);refine lsq 20 ?_;refine tkq 0 ?_;refine tkq 1 ?_;refine tkq 2 ?_;refine tkq 3 ?_;refine tkq 4 ?_;refine tkq 5 ?_;refine tkq 6 ?_;refine tkq 7 ?_;refine tkq 9 ?_;refine tkq 10 ?_;refine tkq 11 ?_;refine tkq 12 ?_;refine tkq 13 ?_;refine tkq 14 ?_;refine tkq 15 ?_;refine tkq 16 ?_;refine rdq2 8 18 (fun KK hK => ?_) (fun KK hK => ?_)
  · go_simp;refine (hFr _ (HU.out.1 _ hHeld.2.2.2.2.2)).mono ?_;rintro e w4 ⟨A4,c4,rfl,hE4,hb4⟩;have hbb := hHeld.2.2.2.2.2.trans (hb4.mono (HU.out.2.2.2.1 _ hHeld.2.2.2.2.2));have HE := hdq3 hE4 hbb (show Wa.heap.size <= Wa.drew.heap.size from nlq);refine hK.out _ _ (HK.out _ hbb) ?_;clear hK KK hHeld;intro hHeld
    try simp only [lpq]
    clear hE4 hb4 hFr;refine tkq 17 ?_;refine rdq1 18 fun KK hK => ?_;go_simp;refine hK.out _ _ (HK.out _ (hbb.alloc (HU.out.2.2.2.1 _ hbb) _)) ?_;clear hK KK hHeld;intro hHeld
    try simp only [lpq]
    have hb5 := heap_alloc_new w4 (.cells #[.int .i64 0, .int .i64 0, .slice none 0 0, .int .i64 0, .int .i64 0, .slice none 0 0, .slice none 0 0, .slice none 0 0] 110);have hs5 := hbb.size;have hbl : Below B0 Wa (w4.alloc (.cells #[.int .i64 0, .int .i64 0, .slice none 0 0, .int .i64 0, .int .i64 0, .slice none 0 0, .slice none 0 0, .slice none 0 0] 110)) := hbb.alloc (HU.out.2.2.2.1 _ hbb) _;have hE5 : Below w4.heap.size w4 (w4.alloc (.cells #[.int .i64 0, .int .i64 0, .slice none 0 0, .int .i64 0, .int .i64 0, .slice none 0 0, .slice none 0 0, .slice none 0 0] 110)) := blq.alloc nlq _;generalize w4.alloc (.cells #[.int .i64 0, .int .i64 0, .slice none 0 0, .int .i64 0, .int .i64 0, .slice none 0 0, .slice none 0 0, .slice none 0 0] 110) = w5 at *;obtain ⟨g,hg⟩ : ∃ g,g = w4.heap.size := ⟨_,rfl⟩;rw [<- hg] at hb5;rw [<- hg];have HG := hdq4 hg hs5 hbl hE5;clear hg hs5 hE5;have x0 : w5.cell? ⟨g,0,none⟩ = some (.int .i64 0) := qe hb5 0 _ rfl;have x1 : w5.cell? ⟨g,1,none⟩ = some (.int .i64 0) := qe hb5 1 _ rfl;have x2 : w5.cell? ⟨g,2,none⟩ = some (.slice none 0 0) := qe hb5 2 _ rfl;have x3 : w5.cell? ⟨g,3,none⟩ = some (.int .i64 0) := qe hb5 3 _ rfl;have x4 : w5.cell? ⟨g,4,none⟩ = some (.int .i64 0) := qe hb5 4 _ rfl;have x5 : w5.cell? ⟨g,5,none⟩ = some (.slice none 0 0) := qe hb5 5 _ rfl;have x6 : w5.cell? ⟨g,6,none⟩ = some (.slice none 0 0) := qe hb5 6 _ rfl;have x7 : w5.cell? ⟨g,7,none⟩ = some (.slice none 0 0) := qe hb5 7 _ rfl;have y0 := qf hb5 0;have y1 := qf hb5 1;have y2 := qf hb5 2;have y3 := qf hb5 3;have y4 := qf hb5 4;have y5 := qf hb5 5;have y6 := qf hb5 6;have y7 := qf hb5 7;have HGE := Lib.hid (show B0 <= g by rw [HG.out.1]; have := HU.out.2.2.2.2; have := HG.out.2.1; omega);refine rdq1 19 fun KK hK => ?_;go_simp;refine hK.out _ _ (HK.out _ (hbl.trans ((box8 hb5).2.1 _ HGE.out))) ?_;clear hK KK hHeld;intro hHeld
    try simp only [lpq]
    refine dnq ?_;clear x0 y0 x1 y1 x2 y2 x3 y3 x4 y4 x5 y5 x6 y6 x7 y7;go_wp2
    go_meet
    obtain ⟨hg,hs5,hbl,hE5⟩ := HG.out;obtain ⟨hE4,hbb,_⟩ := HE.out;have hbx := box8 (a0 := .int .i64 N.ht) (a1 := .int .i64 N.hv) (a2 := .slice A4 N.lg.changed.length c4) (a3 := .int .i64 0) (a4 := .int .i64 0) (a5 := .slice none 0 0) (a6 := .slice q.M N.ms.length q.cM) (a7 := .slice q.T N.td.length q.cT) hb5;refine ⟨g,A4,c4,rfl,hbx.1,HU.out.1 _ (hbl.trans (hbx.2.1 _ HGE.out)),by rw [hg]; have := HU.out.2.2.2.2; omega,((hbl.trans (hbx.2.1 _ HGE.out)).block _ (by have := HU.out.2.2.2.2; omega)).trans HU.out.2.1,?_⟩;refine ((hE4.old.below (hE5.trans (hbx.2.1 _ (by rw [hg]; exact nlq))) nlq).mono fun b hb => ⟨?_,?_⟩)
    · have := hb.1; have e : Wa.drew.heap.size = Wa.heap.size := rfl; omega
    · have := hb.2; rw [hg]; omega
  · go_simp;have hbA : Below B0 Wa ((Wa.alloc (.cells #[.int .i64 0, .int .i64 0, .slice none 0 0, .int .i64 0, .int .i64 0, .slice none 0 0, .slice none 0 0, .slice none 0 0] 110)).drew) := (blq.alloc (by rw [HU.out.2.2.2.2]; exact nlq) _).drew;refine hK.out _ _ (HK.out _ hbA) ?_;clear hK KK hHeld;intro hHeld
    try simp only [lpq]
    have hb5x : (Wa.alloc (.cells #[.int .i64 0, .int .i64 0, .slice none 0 0, .int .i64 0, .int .i64 0, .slice none 0 0, .slice none 0 0, .slice none 0 0] 110)).drew.heap[Wa.heap.size]? = some (.cells #[.int .i64 0, .int .i64 0, .slice none 0 0, .int .i64 0, .int .i64 0, .slice none 0 0, .slice none 0 0, .slice none 0 0] 110) := heap_alloc_new Wa _;have hbA : Below B0 Wa ((Wa.alloc (.cells #[.int .i64 0, .int .i64 0, .slice none 0 0, .int .i64 0, .int .i64 0, .slice none 0 0, .slice none 0 0, .slice none 0 0] 110)).drew) := (blq.alloc (by rw [HU.out.2.2.2.2]; exact nlq) _).drew
    have hsX : (Wa.alloc (.cells #[.int .i64 0, .int .i64 0, .slice none 0 0, .int .i64 0, .int .i64 0, .slice none 0 0, .slice none 0 0, .slice none 0 0] 110)).drew.heap.size = Wa.heap.size + 1 := by simp
    have hAd := hFr _ (HU.out.1 _ hbA);clear hFr;generalize (Wa.alloc (.cells #[.int .i64 0, .int .i64 0, .slice none 0 0, .int .i64 0, .int .i64 0, .slice none 0 0, .slice none 0 0, .slice none 0 0] 110)).drew = wX at *;refine rdq1 8 fun KK hK => ?_;go_simp;refine hAd.mono ?_;rintro e w5 ⟨A4,c4,rfl,hE4,hb4⟩;have hbl := hbA.trans (hb4.mono (HU.out.2.2.2.1 _ hbA));have hb5 := (hb4.block _ (hlt hb5x)).trans hb5x;have HE := hdq3 hE4 hb4 hsX;refine hK.out _ _ (HK.out _ hbl) ?_;clear hK KK hHeld;intro hHeld
    try simp only [lpq]
    clear hE4 hb4 hAd;refine tkq 17 ?_;obtain ⟨g,hg⟩ : ∃ g,g = w.heap.size + 1 := ⟨_,rfl⟩;rw [hsz,<- hg] at hb5;rw [<- hg];have HG := hdq2 hg hbl;clear hg;have x0 : w5.cell? ⟨g,0,none⟩ = some (.int .i64 0) := qe hb5 0 _ rfl;have x1 : w5.cell? ⟨g,1,none⟩ = some (.int .i64 0) := qe hb5 1 _ rfl;have x2 : w5.cell? ⟨g,2,none⟩ = some (.slice none 0 0) := qe hb5 2 _ rfl;have x3 : w5.cell? ⟨g,3,none⟩ = some (.int .i64 0) := qe hb5 3 _ rfl;have x4 : w5.cell? ⟨g,4,none⟩ = some (.int .i64 0) := qe hb5 4 _ rfl;have x5 : w5.cell? ⟨g,5,none⟩ = some (.slice none 0 0) := qe hb5 5 _ rfl;have x6 : w5.cell? ⟨g,6,none⟩ = some (.slice none 0 0) := qe hb5 6 _ rfl;have x7 : w5.cell? ⟨g,7,none⟩ = some (.slice none 0 0) := qe hb5 7 _ rfl;have y0 := qf hb5 0;have y1 := qf hb5 1;have y2 := qf hb5 2;have y3 := qf hb5 3;have y4 := qf hb5 4;have y5 := qf hb5 5;have y6 := qf hb5 6;have y7 := qf hb5 7;have HGE := Lib.hid (show B0 <= g by rw [HG.out.1,HU.out.2.2.2.2,hsz]; exact nlq);refine rdq1 19 fun KK hK => ?_;go_simp;refine hK.out _ _ (HK.out _ (hbl.trans ((box8 hb5).2.1 _ HGE.out))) ?_;clear hK KK hHeld;intro hHeld
    try simp only [lpq]
    refine dnq ?_;clear x0 y0 x1 y1 x2 y2 x3 y3 x4 y4 x5 y5 x6 y6 x7 y7;go_wp2
    go_meet
    obtain ⟨hg,hbl⟩ := HG.out;obtain ⟨hE4,hb4,hsX⟩ := HE.out;have hbx := box8 (a0 := .int .i64 N.ht) (a1 := .int .i64 N.hv) (a2 := .slice A4 N.lg.changed.length c4) (a3 := .int .i64 0) (a4 := .int .i64 0) (a5 := .slice none 0 0) (a6 := .slice q.M N.ms.length q.cM) (a7 := .slice q.T N.td.length q.cT) hb5;refine ⟨g,A4,c4,rfl,hbx.1,HU.out.1 _ (hbl.trans (hbx.2.1 _ HGE.out)),by rw [hg]; have := HU.out.2.2.2.2; omega,((hbl.trans (hbx.2.1 _ HGE.out)).block _ (by have := HU.out.2.2.2.2; omega)).trans HU.out.2.1,?_⟩;refine ((qhV hb5 hE4 (by rw [hg]; omega)).mono fun b hb => ⟨by omega,by rw [hg]; omega⟩)
 case rest =>
  obtain ⟨g,FA,fc,rfl,hbox,hbw,hgw,hres,hEn⟩ := hcut;obtain ⟨h,hg,hl,hs,hsd,hZ,hR⟩ := H.out;have Rc := hR wc hbw;have hpc : p < wc.heap.size := Nat.lt_of_lt_of_le hp hbw.size
  have n1 : p ≠ g := by omega
  have n2 : p ≠ w.heap.size := by omega
  have n3 : (p = g) = False := eq_false n1;have n4 : (g = p) = False := eq_false n1.symm;have n5 : (p = w.heap.size) = False := eq_false n2;have n6 : (w.heap.size = p) = False := eq_false n2.symm
  have n7 : g ≠ w.heap.size := by omega
  have n8 : (g = w.heap.size) = False := eq_false n7;have n9 : (w.heap.size = g) = False := eq_false n7.symm;have c7 := Rc.c7;have c4 := Rc.c4;have c5 := Rc.c5;have c6 := Rc.c6;have hCo := qaM N.sn.i N.sn.t q.E N.sn.d.length q.cE N.sn.d wc Rc.snp (by omega);have HC := hdq5 hbox hbw hgw hres hEn;clear h hg hl hs hsd hZ hR Rc hbox hbw hres hEn HK hFr;obtain ⟨kb,hkb⟩ : ∃ b,N.kp = b := ⟨_,rfl⟩;have HP := Lib.hid hkb;rw [hkb] at c7;clear hkb
  go_upto_if 28 with fail
  go_cut [] (fun wx => qhW w wx N q g FA fc)
  case first =>
   cases kb with
   | true =>
     go_wp2_with fail
     refine hCo.mono ?_;rintro e w4 ⟨E4,k4,rfl,hlay,hblk,hb4⟩;obtain ⟨hbox,hbw,hgw,hres,hEn⟩ := HC.out;have hbox4 := (hb4.block _ (hlt hbox)).trans hbox;have o3 : w4.cell? ⟨g,3,none⟩ = some (.int .i64 0) := qe hbox4 3 _ rfl;have o4 : w4.cell? ⟨g,4,none⟩ = some (.int .i64 0) := qe hbox4 4 _ rfl;have o5 : w4.cell? ⟨g,5,none⟩ = some (.slice none 0 0) := qe hbox4 5 _ rfl;have z3 := qf hbox4 3;have z4 := qf hbox4 4;have z5 := qf hbox4 5;have HL := hdq4 hlay hblk hb4 hbox4;clear hbox hbw hgw hres hEn hlay hblk hb4 hbox4 hCo;go_wp2
     go_meet
     obtain ⟨hbox,hbw,hgw,hres,hEn⟩ := HC.out;obtain ⟨hlay,hblk,hb4,hbox4⟩ := HL.out;have hsn : N.took.2.sn = N.sn := if_pos HP.out;have r0 := setCell_at w4 ⟨g,3,none⟩ (.int .i64 N.sn.i) _ _ _ rfl hbox4;have r1 := setCell_at _ ⟨g,4,none⟩ (.int .i64 N.sn.t) _ _ _ rfl r0;have r2 := setCell_at _ ⟨g,5,none⟩ (.slice E4 N.sn.d.length k4) _ _ _ rfl r1;have hoff : ∀ k,k ≠ g -> (((w4.setCell ⟨g,3,none⟩ (.int .i64 N.sn.i)).setCell ⟨g,4,none⟩ (.int .i64 N.sn.t)).setCell ⟨g,5,none⟩ (.slice E4 N.sn.d.length k4)).heap[k]? = w4.heap[k]? := fun k hk => (Below.heap_setCell _ _ _ _ (by exact hk)).trans ((Below.heap_setCell _ _ _ _ (by exact hk)).trans (Below.heap_setCell _ _ _ _ (by exact hk)));have hbs : Below w.heap.size w4 (((w4.setCell ⟨g,3,none⟩ (.int .i64 N.sn.i)).setCell ⟨g,4,none⟩ (.int .i64 N.sn.t)).setCell ⟨g,5,none⟩ (.slice E4 N.sn.d.length k4)) := ((blq.setCell (p := ⟨g,3,none⟩) (Nat.le_of_lt hgw) _).setCell (p := ⟨g,4,none⟩) (Nat.le_of_lt hgw) _).setCell (p := ⟨g,5,none⟩) (Nat.le_of_lt hgw) _;have hsz4 : w4.heap.size <= (((w4.setCell ⟨g,3,none⟩ (.int .i64 N.sn.i)).setCell ⟨g,4,none⟩ (.int .i64 N.sn.t)).setCell ⟨g,5,none⟩ (.slice E4 N.sn.d.length k4)).heap.size := hbs.size;unfold qhW;rw [hsn];refine ⟨E4,k4,r2,(hbw.trans (hb4.mono hbw.size)).trans hbs,hgw,((hoff _ n7.symm).trans ((hb4.block _ (hlt hres)).trans hres)),?_,?_,?_⟩
     · exact ((hEn.below hb4 nlq).keep hsz4 fun k _ hk => hoff k hk.2).mono fun b hb => hb.1
     · exact hlay.2.1.keep hsz4 fun h0 g' o e hg' => hoff g' fun e' => by have := hblk g' ⟨o,e⟩; have := hlt hbox; omega
     · intro h0 g' o e;have := hblk g' ⟨o,e⟩;have := hbw.size;omega
   | false =>
     clear hCo;go_wp2
     go_meet
     obtain ⟨hbox,hbw,hgw,hres,hEn⟩ := HC.out;have hsn : N.took.2.sn = Node.noEnt := if_neg (by rw [HP.out]; simp);unfold qhW;rw [hsn];exact ⟨none,0,hbox,hbw,hgw,hres,hEn.mono fun b hb => hb.1,Lies.nil _,fun h0 => absurd h0 (by simp [Node.noEnt])⟩
  case rest =>
   obtain ⟨EA,ec,hbox,hbw,hgw,hres,hEn,hLi,hLz⟩ := hcut;obtain ⟨h,hg,hl,hs,hsd,hZ,hR⟩ := H.out;have Rc := hR wc hbw;have hSv := qhL Rc.log;have c8 := Rc.c8;have HD := hdq7 hbox hbw hres hEn hLi hLz Rc;clear h hg hl hs hsd hZ hR Rc hbox hbw hres hEn hLi hLz c7 c4 c5 c6 hCo HC
   go_wp2_with fail
   refine hSv.mono ?_;rintro e w6 ⟨rfl,hlg6,hk6⟩;obtain ⟨hbox,hbw,hres,hEn,hLi,hLz,Rc⟩ := HD.out;have R6 : RfAt w6 p { N with lg := ⟨N.lg.i,N.lg.t,N.lg.l,0⟩ } (fun b => Z b \/ w.heap.size <= b) q N.lg.l.length xs K := Rc.logged hlg6.f0 hk6
   have hk6' : qa (fun b => Z b \/ w.heap.size <= b) wc w6 := hk6.mono fun b hb => .inl hb
   have hbox6 := (hk6'.block _ (hlt hbox) (.inr (Nat.le_of_lt hgw))).trans hbox;have hres6 := (hk6'.block _ (hlt hres) (.inr nlq)).trans hres
   have hEn6 := hEn.keep hk6'.size fun k hk hz => hk6'.block k hk (.inr (Nat.le_of_lt hz))
   have hLi6 := hLi.keep hk6'.size fun h0 g' o e hg' => hk6'.block g' hg' (.inr (Nat.le_of_lt (hLz h0 g' o e)))
   have hkw : qa Z w w6 := (qb hbw nlq).trans (hk6'.mono fun b hb => .inl hb);have c7 := R6.c7;have c27 := R6.c27;have c28 := R6.c28;have f7 := R6.fz 7;have f27 := R6.fz 27;have f28 := R6.fz 28;have g0 : w6.cell? ⟨g,0,none⟩ = some (.int .i64 N.ht) := qe hbox6 0 _ rfl;have g1 : w6.cell? ⟨g,1,none⟩ = some (.int .i64 N.hv) := qe hbox6 1 _ rfl;have g2 : w6.cell? ⟨g,2,none⟩ = some (.slice FA N.lg.changed.length fc) := qe hbox6 2 _ rfl;have g3 : w6.cell? ⟨g,3,none⟩ = some (.int .i64 N.took.2.sn.i) := qe hbox6 3 _ rfl;have g4 : w6.cell? ⟨g,4,none⟩ = some (.int .i64 N.took.2.sn.t) := qe hbox6 4 _ rfl;have g5 : w6.cell? ⟨g,5,none⟩ = some (.slice EA N.took.2.sn.d.length ec) := qe hbox6 5 _ rfl;have g6 : w6.cell? ⟨g,6,none⟩ = some (.slice q.M N.ms.length q.cM) := qe hbox6 6 _ rfl;have g7 : w6.cell? ⟨g,7,none⟩ = some (.slice q.T N.td.length q.cT) := qe hbox6 7 _ rfl;have x0 : w6.cell? ⟨w.heap.size,0,none⟩ = some (.int .i64 0) := qe hres6 0 _ rfl;have y0 := qf hres6 0;have x1 : w6.cell? ⟨w.heap.size,1,none⟩ = some (.int .i64 0) := qe hres6 1 _ rfl;have y1 := qf hres6 1;have x2 : w6.cell? ⟨w.heap.size,2,none⟩ = some (.slice none 0 0) := qe hres6 2 _ rfl;have y2 := qf hres6 2;have x3 : w6.cell? ⟨w.heap.size,3,none⟩ = some (.int .i64 0) := qe hres6 3 _ rfl;have y3 := qf hres6 3;have x4 : w6.cell? ⟨w.heap.size,4,none⟩ = some (.int .i64 0) := qe hres6 4 _ rfl;have y4 := qf hres6 4;have x5 : w6.cell? ⟨w.heap.size,5,none⟩ = some (.slice none 0 0) := qe hres6 5 _ rfl;have y5 := qf hres6 5;have x6 : w6.cell? ⟨w.heap.size,6,none⟩ = some (.slice none 0 0) := qe hres6 6 _ rfl;have y6 := qf hres6 6;have x7 : w6.cell? ⟨w.heap.size,7,none⟩ = some (.slice none 0 0) := qe hres6 7 _ rfl;have y7 := qf hres6 7;have HE := hdq6 R6 hres6 hEn6 hLi6 hLz hkw;clear hlg6 hk6 hbox hbw hres hEn hLi hLz Rc R6 hk6' hbox6 hres6 hEn6 hLi6 hkw hSv HD;go_wp2;obtain ⟨R6,hres6,hEn6,hLi6,hLz,hkw⟩ := HE.out;have o7 := OnP.put R6.on 7 (.bool false) rfl;have o27 := OnP.put o7 27 (.slice none 0 0) rfl;have o28 := OnP.put o27 28 (.slice none 0 0) rfl;have hrow8 : (((w6.setCell ⟨p,7,none⟩ (.bool false)).setCell ⟨p,27,none⟩ (.slice none 0 0)).setCell ⟨p,28,none⟩ (.slice none 0 0)).heap[p]? = some (.cells (rfC { N with lg := ⟨N.lg.i,N.lg.t,N.lg.l,0⟩,kp := false,ms := [],td := [] } { q with M := none,cM := 0,T := none,cT := 0 }) 108) := o28.row;have R8 := R6.hand (Nat.le_of_eq o28.size.symm) (fun b _ hb => o28.off b hb) hrow8;have hres8 := (o28.off _ n2.symm).trans hres6;have hbx := box8 (a0 := .int .i64 N.ht) (a1 := .int .i64 N.hv) (a2 := .slice FA N.lg.changed.length fc) (a3 := .int .i64 N.took.2.sn.i) (a4 := .int .i64 N.took.2.sn.t) (a5 := .slice EA N.took.2.sn.d.length ec) (a6 := .slice q.M N.ms.length q.cM) (a7 := .slice q.T N.td.length q.cT) hres8;have hsz9 := (hbx.2.1 0 (Nat.zero_le _)).size;have hsz6 := Nat.le_of_eq o28.size.symm;refine bodyPost_ret (qE (n := w.heap.size) rfl rfl hbx.1 Tryz.underlying110 rfl (by kernel_rfl)) rfl ?_
   have all9 : ∀ b,b ≠ p -> b ≠ w.heap.size -> _ = w6.heap[b]? := fun b h1 h2 => (hbx.2.2 b h2).trans (o28.off b h1)
   refine ⟨FA,fc,EA,ec,N.lg.l.length,rfl,?_,?_,?_,?_, .inl ⟨rfl,rfl⟩,?_,R6.map,?_,?_,?_⟩
   · exact (hEn6.keep (Nat.le_trans hsz6 hsz9) fun k _ hk => all9 k (by have : w.heap.size < k := hk; omega) (by have : w.heap.size < k := hk; omega)).mono fun b hb => Nat.le_of_lt hb
   · exact hLi6.keep (Nat.le_trans hsz6 hsz9) fun h0 g' o e _ => all9 g' (by have := hLz h0 g' o e; omega) (by have := hLz h0 g' o e; omega)
   · exact fun h0 g' o e => Nat.le_of_lt (hLz h0 g' o e)
   · exact R8.keep hsz9 fun b _ hz => hbx.2.2 b fun e => hz (.inl (.inr (by rw [e]; exact nlq)))
   · exact R6.mss.keep fun b hb => all9 b (R6.mz b hb).2.1 fun e => (R6.mz b hb).1 (.inr (by rw [e]; exact nlq))
   · exact fun x hx => (R6.msg x hx).keep (Nat.le_trans hsz6 hsz9) fun b _ hb => all9 b (R6.kz b hb.1).2.1 fun e => (R6.kz b hb.1).1 (.inr (by rw [e]; exact nlq))
   · exact R6.tds.keep fun b hb => all9 b (R6.tz b hb).2.1 fun e => (R6.tz b hb).1 (.inr (by rw [e]; exact nlq))
   · exact (hkw.trans (o28.keeps fun e => R6.away (.inl e))).trans ⟨(hbx.2.1 0 (Nat.zero_le _)).os,(hbx.2.1 0 (Nat.zero_le _)).tape,(hbx.2.1 0 (Nat.zero_le _)).output,hsz9,fun k _ hz => hbx.2.2 k fun e => by have := H.out.2.2.2.2.2.1 k hz; omega⟩
end Go.Proofs.YtogbhedbgcmckaaGreat
set_option linter.unusedVariables false
set_option linter.unusedSimpArgs false
set_option maxRecDepth 100000
set_option maxHeartbeats 1600000
namespace Go.Proofs.YtogbhedbgcmckaaGreat
open Go.RowKit Go.Shelf
attribute [local go_sem] Oper.semAt_some
theorem qk0 {N : Node} (hg : qk N.lg) (a b : Int) : N.part a b = if max a (N.lg.i + 1) <= min b N.lg.lastI then N.lg.fromL (max a (N.lg.i + 1)) (min b N.lg.lastI - max a (N.lg.i + 1) + 1) else [] := by
 have hl := hg.lim;have hL := hg.lastI
 have h1 : N.part a b = (N.lg.l.drop (a - N.lg.i - 1).toNat).filter fun e => decide (e.i < b + 1) := by
  unfold Node.part;rw [<- qbX hg.one a,List.filter_filter]
  apply congrArg (fun f => List.filter f N.lg.l)
  funext e
  have : (decide (e.i <= b)) = decide (e.i < b + 1) := decide_eq_decide.2 (by omega);rw [this,Bool.and_comm]
 by_cases hD : (a - N.lg.i - 1).toNat <= N.lg.l.length
 · have ho : qaT (N.lg.i + ((a - N.lg.i - 1).toNat : Int)) (N.lg.l.drop (a - N.lg.i - 1).toNat) := fun k hk => by
    have hk' : (a - N.lg.i - 1).toNat + k < N.lg.l.length := by rw [List.length_drop] at hk; omega
    have := hg.one _ hk';rw [List.getElem_drop];omega
   rw [h1,filter_lt ho]
   by_cases hx : max a (N.lg.i + 1) <= min b N.lg.lastI
   · rw [if_pos hx,hg.from_];unfold RL.sub
     have hp : N.lg.place (max a (N.lg.i + 1)) = some (a - N.lg.i - 1).toNat := by
      unfold RL.place;rw [if_pos (by omega)]
      congr 1
      omega
     rw [hp];dsimp only
     by_cases hb : b <= N.lg.lastI
     · congr 1
       omega
     · rw [List.take_of_length_le (by rw [List.length_drop]; omega),List.take_of_length_le (by rw [List.length_drop]; omega)]
   · rw [if_neg hx]
     by_cases hb : b + 1 - (N.lg.i + ((a - N.lg.i - 1).toNat : Int)) - 1 <= 0
     · rw [show (b + 1 - (N.lg.i + ((a - N.lg.i - 1).toNat : Int)) - 1).toNat = 0 by omega]
       rfl
     · rw [List.drop_eq_nil_of_le (by omega)];simp
 · rw [h1,List.drop_eq_nil_of_le (by omega),if_neg (by omega)]
   rfl
theorem qfY {w : World} {p : Nat} {N : Node} {Z : Nat -> Prop} {q : Ptrs} {s : Nat} {xs : List MLay} {K : Nat -> Prop} (h : RfAt w p N Z q s xs K) (hg : qk N.lg) (hl : N.lg.l.length <= 1000000) (a b : Int) (ha : -4611686018427387904 <= a /\ a <= 4611686018427387904) (hb : -4611686018427387904 <= b /\ b <= 4611686018427387904) :
 Calls Tryz.prog 45 #[ptrV p, .int .i64 a, .int .i64 b] w fun e w' => ∃ A' c',e = .returned (.slice A' (N.part a b).length c') /\ Ents w' (fun k => w.heap.size <= k) A' (N.part a b).length c' (N.part a b) /\ Below w.heap.size w w' := by
 rw [qk0 hg];have hlim := hg.lim;have hlast := hg.lastI;have c8 := h.c8
 have hBase : ∀ X,Below w.heap.size w X -> Calls Tryz.prog 67 #[ptrV q.l] X fun e w' => e = .returned (.tuple #[.int .i64 N.lg.i, .int .i64 N.lg.t]) /\ Below X.heap.size X w' := fun X hX => by
  obtain ⟨A,c,hr⟩ := (h.below hX).log.rd;exact qaY hr
 have hLast := fun X (hX : Below w.heap.size w X) => qbj (h.below hX) hl
 have hFrom : ∀ X,Below w.heap.size w X -> ∀ x m : Int,Calls Tryz.prog 87 #[ptrV q.l, .int .i64 x, .int .i64 m] X fun e w' => ∃ A' c',e = .returned (.slice A' (N.lg.fromL x m).length c') /\ Ents w' (fun k => X.heap.size <= k) A' (N.lg.fromL x m).length c' (N.lg.fromL x m) /\ Below X.heap.size X w' := fun X hX x m => by
  obtain ⟨A,c,ls,hla⟩ := (h.below hX).log;refine (qbZ hla hl hg x m).mono ?_;rintro e w' ⟨A',c',h1,h2,_,h3⟩;exact ⟨A',c',h1,h2,h3⟩
 have hCl : ∀ X,Below w.heap.size w X -> X.cell? ⟨p,8,none⟩ = some (ptrV q.l) := fun X hX => (h.below hX).c8;have y1 : IntKind.i64.wrap (N.lg.i + 1) = N.lg.i + 1 := IntWalk.i64_in _ (by omega);have y2 : IntKind.i64.wrap (min b N.lg.lastI - max a (N.lg.i + 1)) = min b N.lg.lastI - max a (N.lg.i + 1) := IntWalk.i64_in _ (by omega);have y3 : IntKind.i64.wrap (min b N.lg.lastI - max a (N.lg.i + 1) + 1) = min b N.lg.lastI - max a (N.lg.i + 1) + 1 := IntWalk.i64_in _ (by omega);obtain ⟨LI,hLI⟩ := exq (N.lg.lastI);obtain ⟨BI,hBI⟩ := exq (N.lg.i);rw [hLI] at hLast y2 y3;rw [hBI] at hBase y1 y2 y3;rw [hLI,hBI];obtain ⟨ES,hES⟩ := exq ((if max a (BI + 1) <= min b LI then N.lg.fromL (max a (BI + 1)) (min b LI - max a (BI + 1) + 1) else []));rw [hES];have HES := Lib.hid hES;clear h hlim hlast hLI hBI ha hb hES
 go_enter Tryz.func45,Tryz.ntmps45
 go_wp2_with fail
 refine (hBase w blq).mono ?_;rintro e w2 ⟨rfl,hb2⟩;have c82 := hCl w2 hb2;have hLast := hLast w2 hb2
 go_wp2_with fail
 refine hLast.mono ?_;rintro e w3 ⟨rfl,hb3⟩;have hb3' := hb2.trans (hb3.mono hb2.size);have c83 := hCl w3 hb3'
 by_cases hle : max a (BI + 1) <= min b LI
 · have e1 : decide (min b LI < max a (BI + 1)) = false := decide_eq_false (by omega);have hFrom := hFrom w3 hb3' (max a (BI + 1)) (min b LI - max a (BI + 1) + 1);have hx := HES.out;rw [if_pos hle] at hx;rw [hx] at hFrom;clear hle hBase hCl hx
   go_wp2_with fail
   refine hFrom.mono ?_;rintro e w4 ⟨A',c',rfl,hE,hb4⟩;go_wp2;go_ret;exact ⟨A',c',rfl,hE.mono fun k hk => Nat.le_trans hb3'.size hk,hb3'.trans (hb4.mono hb3'.size)⟩
 · have e1 : decide (min b LI < max a (BI + 1)) = true := decide_eq_true (by omega);have hx := HES.out;rw [if_neg hle] at hx;have HX := Lib.hid hx;clear hle hBase hCl hFrom hx;go_wp2;go_ret;rw [<- HX.out];exact ⟨none,0,rfl,qa9 _ _,hb3'⟩
end Go.Proofs.YtogbhedbgcmckaaGreat
