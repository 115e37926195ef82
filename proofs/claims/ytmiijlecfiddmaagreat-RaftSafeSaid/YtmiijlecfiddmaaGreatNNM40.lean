/- A cluster: what a node has come to is kept, and said. (Written by mkkeep.py.) -/
import Derived.Test.YtmiijlecfiddmaaGreatNNM01
import Derived.Test.YtmiijlecfiddmaaGreatNNM38
set_option linter.unusedVariables false
set_option linter.unusedSimpArgs false
set_option maxRecDepth 100000
set_option maxHeartbeats 12800000
namespace Go.Proofs.YtmiijlecfiddmaaGreat
open Go.RowKit Go.Shelf
attribute [local go_sem] Oper.semAt_some
namespace RegW
def qkS (w w' : World) (S : Sim) (L : SimL) (lab : Nat -> Nat) (k : Nat) (N : Node) (e : Ending) : Prop :=
 ∃ (i0 i1 i2 i3 : Int) (F2 F5 F6 : Option Addr) (n2 d2 n5 d5 n6 d6 : Nat) (T : Option Addr) (cT : Nat) (L' : SimL) (lab' : Nat -> Nat),e = .returned (.agg #[.int .i64 i0, .int .i64 i1, .slice F2 n2 d2, .int .i64 i2, .int .i64 i3, .slice F5 n5 d5, .slice F6 n6 d6, .slice T N.td.length cT]) /\ qh w' (S.keep k).1 L' lab' /\ L'.g = L.g /\ Turn (fun i => i ≠ 0) w w' lab lab' /\ Sp 96 2 w' T N.td.length cT (rrow N.td) /\ (∀ b,blk T b -> lab' b = 0)
def qcU (w wx : World) (S : Sim) (L : SimL) (lab : Nat -> Nat) (k bx rb : Nat) (o : Handed) : Prop :=
 ∃ S4 L4 lab4,Kp w wx S4 L L4 lab lab4 bx rb o /\ S4.net = S.net /\ (S.keep k).1 = { S4 with net := S.net ++ o.N.ms.take (100 - S.net.length) }
theorem qis {w : World} {S : Sim} {L : SimL} {lab : Nat -> Nat} (h : qh w S L lab) (k : Nat) (hk : k < S.n) (hg : Good (S.r k).lg) (hl : (S.r k).lg.l.length <= 400000) (hsd : (S.r k).sn.d.length <= 50000) (hlg : (S.lg k).length <= 400000) (hms : (S.r k).ms.length <= 400000) (htd : (S.r k).td.length <= 900000) (hnet : S.net.length <= 400000) (hsi : (S.r k).sn.i = (S.r k).lg.i) (hn3 : S.n <= 3) :
 Calls Tryz.prog 24 #[ptrV L.g, .int .i64 (k : Int)] w fun e w' => qkS w w' S L lab k (S.r k) e := by
 obtain ⟨W0,hW0⟩ := exq (w.alloc (.cells #[.int .i64 0, .int .i64 0, .slice none 0 0, .int .i64 0, .int .i64 0, .slice none 0 0, .slice none 0 0, .slice none 0 0] 44))
 have hb0 : Below w.heap.size w W0 := by rw [<- hW0]; exact blq.alloc nlq _
 have hr0 : W0.heap[w.heap.size]? = some (.cells #[.int .i64 0, .int .i64 0, .slice none 0 0, .int .i64 0, .int .i64 0, .slice none 0 0, .slice none 0 0, .slice none 0 0] 44) := by rw [<- hW0]; exact heap_alloc_new w _
 have t0 : Turn (fun i => i = 9999) w W0 lab (fun b => if b = w.heap.size then 9999 else lab b) := by rw [<- hW0]; exact qfR h.lim
 obtain ⟨lab0,hlab0⟩ : ∃ lab0,(fun b => if b = w.heap.size then 9999 else lab b) = lab0 := ⟨_,rfl⟩
 have hlb0 : lab0 w.heap.size = 9999 := by rw [<- hlab0]; exact if_pos rfl
 rw [hlab0] at t0;have h0 := h.move t0 (fun i hi => by omega) (fun k hk => by omega);obtain ⟨q,s,xs,K,R,hf⟩ := h0.nodes k hk;obtain ⟨b,off,eA,hpc,hpl,hpn⟩ := h0.ptr hk;have hTk := qie R hg (by omega) hf hsd (fun b hb => hb.1);have c0 := qb h0.row 0 _ rfl;rw [show (simC S L)[0] = .slice L.Ar S.n L.cr from rfl,eA] at c0;obtain ⟨N,hN⟩ := exq (S.r k);have HT := hdq7 (t0.wide (J' := fun i => i ≠ 0) fun i e => by omega) h0 R hr0 hlb0 hN hW0
 have hTook := fun w' K' q' s2 (R' : RfAt w' (L.ps k) (S.r k).took.1 _ q' s2 [] K') hf2 hkp => h0.took hk R (K' := K') R' hf2 hkp
 have HK := Lib.hid hTook;rw [hN] at hTk hg hl hsd hms htd hsi ⊢;clear hTook h h0 R hf hr0 hlb0 hN hb0 hW0 t0 hlab0
 go_enter Tryz.func24,Tryz.ntmps24
 go_upto_region 1 with fail
 rw [HT.out.2.2.2.2.2.2]
 go_wp2_with fail
 refine hTk.mono ?_;rintro e w1 ⟨FA,fc,EA,ec,s',rfl,hFr,hEA,hEAz,R',hf',hM,hMm,hMx,hTd,hkp⟩;obtain ⟨lab1,h1,t1,z1⟩ := HK.out w1 _ _ _ (by rw [HT.out.2.2.2.2.2.1]; exact R') (by rw [HT.out.2.2.2.2.2.1]; exact hf') hkp;obtain ⟨W2,hW2⟩ := exq (w1.alloc (.cells #[.int .i64 N.ht, .int .i64 N.hv, .slice FA N.lg.changed.length fc, .int .i64 N.took.2.sn.i, .int .i64 N.took.2.sn.t, .slice EA N.took.2.sn.d.length ec, .slice q.M N.ms.length q.cM, .slice q.T N.td.length q.cT] 44))
 have hb2 : Below w1.heap.size w1 W2 := by rw [<- hW2]; exact blq.alloc nlq _
 have hr2 : W2.heap[w1.heap.size]? = some (.cells #[.int .i64 N.ht, .int .i64 N.hv, .slice FA N.lg.changed.length fc, .int .i64 N.took.2.sn.i, .int .i64 N.took.2.sn.t, .slice EA N.took.2.sn.d.length ec, .slice q.M N.ms.length q.cM, .slice q.T N.td.length q.cT] 44) := by rw [<- hW2]; exact heap_alloc_new w1 _
 have h2 := h1.below hb2;obtain ⟨S1,hS1⟩ : ∃ S1,({ S with r := Sim.upd S.r k (S.r k).took.1 } : Sim) = S1 := ⟨_,rfl⟩;rw [hS1] at h2
 have hn1 : S1.n = S.n := by rw [<- hS1]
 have tb : Turn (fun _ => False) w1 W2 lab1 lab1 := Turn.below hb2 h1.lim;have hlt0 := hlt HT.out.2.2.2.1;have hrl : lab1 w.heap.size = 9999 := (t1.old _ hlt0 (by rw [HT.out.2.2.2.2.1]; omega)).trans HT.out.2.2.2.2.1
 have K2 : Kp w W2 S1 L L lab lab1 w1.heap.size w.heap.size ⟨N,q,xs,FA,fc,EA,ec⟩ := {
  at_ := h2
  g := rfl
  t := (HT.out.1.trans (t1.wide fun i e => by omega) (by decide)).trans (tb.wide fun _ e => e.elim) (by decide)
  out := hr2
  ob := h1.lim _ nlq
  res := (hb2.block _ (Nat.lt_of_lt_of_le hlt0 t1.size)).trans ((t1.same _ hlt0 (by rw [HT.out.2.2.2.2.1]; omega)).trans HT.out.2.2.2.1)
  rl := hrl
  few := by rw [hn1]; exact hn3
  m := Row.move ⟨hM,fun b hb => z1 b (.inr (.inl hb))⟩ tb (fun e => e)
  mm := hMm
  mx := fun x hx => ((hMx x hx).mono fun b hb => z1 b (.inl (by rw [HT.out.2.2.2.2.2.1]; exact hb))).moved tb (fun e => e)
  td := Row.move ⟨hTd,fun b hb => z1 b (.inr (.inr (.inl hb)))⟩ tb (fun e => e)
  fr := (hFr.mono fun b hb => z1 b (.inr (.inr (.inr hb)))).moved tb (fun e => e)
  ea := hEA.below hb2 nlq
  ez := fun h0 g o e => z1 g (.inr (.inr (.inr (hEAz h0 g o e)))) }
 have x0 : W2.cell? ⟨w1.heap.size,0,none⟩ = some (.int .i64 N.ht) := qb K2.out 0 _ rfl;have x1 : W2.cell? ⟨w1.heap.size,1,none⟩ = some (.int .i64 N.hv) := qb K2.out 1 _ rfl;have c1 := qb K2.head 1 _ rfl;rw [show (simC S1 L)[1] = .slice L.Ah S1.n L.ch from rfl,hn1] at c1;obtain ⟨gh,oh,eh,_,hch,hfh⟩ := h2.h.sp.at_ (by omega) k (by rw [hn1]; exact hk);have hcap := h2.h.sp.2.1;rw [hn1] at hcap;rw [eh] at c1;obtain ⟨u0,d0⟩ : ∃ u0,W2.cell? ⟨gh,oh + k * 2,none⟩ = some u0 := ⟨_,hch 0 (by omega) _ (by rw [Nat.add_zero]; exact List.getElem?_eq_getElem (by unfold qal; rw [qa2 _ 2 (fun _ => rfl),hn1]; omega))⟩;obtain ⟨u1,d1⟩ : ∃ u1,W2.cell? ⟨gh,oh + k * 2 + 1,none⟩ = some u1 := ⟨_,hch 1 (by omega) _ (List.getElem?_eq_getElem (by unfold qal; rw [qa2 _ 2 (fun _ => rfl),hn1]; omega))⟩;have f0 := hfh (oh + k * 2);have f1 := hfh (oh + k * 2 + 1);have H2 := hdq4 K2 hS1 hn1 eh;clear hTk c0 hpc hkp hFr hEA hEAz R' hf' hM hMx hTd h1 t1 z1 hb2 hr2 h2 hch hMm K2 tb hlt0 hrl hS1 hn1 eh
 go_wp2_with fail
 clear hW2;refine wp_region_held_drew ⟨(fun w' : World => w'.cell? ⟨w1.heap.size,0,none⟩ = some (.int .i64 N.ht) /\ w'.cell? ⟨w1.heap.size,1,none⟩ = some (.int .i64 N.hv) /\ w'.cell? ⟨L.g,1,none⟩ = some (.slice (some ⟨gh,oh,none⟩) S.n L.ch)),[8]⟩ (by kernel_rfl) ⟨x0,x1,c1⟩ (fun hHeld => ?_);refine lsq 9 ?_;refine puq 0 ?_;refine puq 1 ?_;refine puq 2 ?_;refine tkq 3 ?_;refine puq 4 ?_;refine puq 5 ?_;refine tkq 6 ?_;refine puq 7 ?_;refine ltq 8 fun KK hK => ?_;go_simp;refine hK.out _ _ ?_;clear hK KK
 try simp only [lpq]
 refine dnq ?_;obtain ⟨q1,q2⟩ := H2.out.1.at_.hardPut (k := k) (by rw [H2.out.2.2.1]; exact hk) H2.out.2.2.2 N.ht N.hv;have K3 := (H2.out.1.move q1 rfl q2 (by decide)).below blq.drew;obtain ⟨W3,hW3⟩ := exq (((W2.setCell ⟨gh,oh + k * 2,none⟩ (.int .i64 N.ht)).setCell ⟨gh,oh + k * 2 + 1,none⟩ (.int .i64 N.hv)).drew);rw [hW3] at K3 ⊢;obtain ⟨S3,hS3⟩ : ∃ S3,({ S1 with ht := Sim.upd S1.ht k N.ht,hv := Sim.upd S1.hv k N.hv } : Sim) = S3 := ⟨_,rfl⟩;rw [hS3] at K3
 have hS3' : S3 = { { S with r := Sim.upd S.r k (S.r k).took.1 } with ht := Sim.upd S.ht k (S.r k).ht,hv := Sim.upd S.hv k (S.r k).hv } := by rw [<- hS3,<- H2.out.2.1,HT.out.2.2.2.2.2.1]
 have hn3 : S3.n = S.n := by rw [hS3']
 obtain ⟨sx,hsx⟩ := exq (N.took.2.sn)
 have x3 : W3.cell? ⟨w1.heap.size,3,none⟩ = some (.int .i64 sx.i) := by rw [<- hsx]; exact qb K3.out 3 _ rfl
 have hsx2 : 0 <= sx.i /\ sx.i <= 1099511627776 := by
  have hlim := hg.lim;rw [<- hsx];show 0 <= (if N.kp = true then N.sn else Node.noEnt).i /\ (if N.kp = true then N.sn else Node.noEnt).i <= 1099511627776
  split
  · rw [hsi]; omega
  · show (0 : Int) <= 0 /\ (0 : Int) <= 1099511627776; decide
 have H3 := hdq4 K3 hS3' hn3 hsx;clear x0 x1 c1 d0 d1 f0 f1 q1 q2 hW3 K3 hS3' hn3 hsx hS3 hfh hsi
 go_upto_if 28 with fail
 go_cut [] (fun wx => qcU w wx S L lab k w1.heap.size w.heap.size ⟨N,q,xs,FA,fc,EA,ec⟩)
 case first =>
  by_cases hpos : 0 < sx.i
  · have y1 : decide (0 < sx.i) = true := decide_eq_true hpos
    have x4 : W3.cell? ⟨w1.heap.size,4,none⟩ = some (.int .i64 sx.t) := by rw [<- H3.out.2.2.2]; exact qb H3.out.1.out 4 _ rfl
    have x5 : W3.cell? ⟨w1.heap.size,5,none⟩ = some (.slice EA sx.d.length ec) := by rw [<- H3.out.2.2.2]; exact qb H3.out.1.out 5 _ rfl
    have c2 := qb H3.out.1.head 2 _ rfl;rw [show (simC S3 L)[2] = .slice L.As S3.n L.cs from rfl,H3.out.2.2.1] at c2;obtain ⟨gs,os,es,_,hcs,hfs⟩ := H3.out.1.at_.s.sp.at_ (by omega) k (by rw [H3.out.2.2.1]; exact hk);have hcap := H3.out.1.at_.s.sp.2.1;rw [H3.out.2.2.1] at hcap;rw [es] at c2
    have hln : (qac S3.sn L.sE L.sc S3.n).length = S.n * 3 := by unfold qac; rw [qa2 _ 3 (fun _ => rfl),H3.out.2.2.1]
    obtain ⟨u0,d0⟩ : ∃ u0,W3.cell? ⟨gs,os + k * 3,none⟩ = some u0 := ⟨_,hcs 0 (by omega) _ (by rw [Nat.add_zero]; exact List.getElem?_eq_getElem (by omega))⟩;obtain ⟨u1,d1⟩ : ∃ u1,W3.cell? ⟨gs,os + k * 3 + 1,none⟩ = some u1 := ⟨_,hcs 1 (by omega) _ (List.getElem?_eq_getElem (by omega))⟩;obtain ⟨u2,d2⟩ : ∃ u2,W3.cell? ⟨gs,os + k * 3 + 2,none⟩ = some u2 := ⟨_,hcs 2 (by omega) _ (List.getElem?_eq_getElem (by omega))⟩;have f0 := hfs (os + k * 3);have f1 := hfs (os + k * 3 + 1);have f2 := hfs (os + k * 3 + 2);have HE := Lib.hid es;clear hcs hfs hln es
    go_wp2_with fail
    refine wp_region_held_drew ⟨(fun w' : World => w'.cell? ⟨w1.heap.size,3,none⟩ = some (.int .i64 sx.i) /\ w'.cell? ⟨w1.heap.size,4,none⟩ = some (.int .i64 sx.t) /\ w'.cell? ⟨w1.heap.size,5,none⟩ = some (.slice EA sx.d.length ec) /\ w'.cell? ⟨L.g,2,none⟩ = some (.slice (some ⟨gs,os,none⟩) S.n L.cs)),[8]⟩ (by kernel_rfl) ⟨x3,x4,x5,c2⟩ (fun hHeld => ?_);refine lsq 9 ?_;refine puq 0 ?_;refine puq 1 ?_;refine puq 2 ?_;refine tkq 3 ?_;refine puq 4 ?_;refine puq 5 ?_;refine tkq 6 ?_;refine puq 7 ?_;refine ltq 8 fun KK hK => ?_;go_simp;refine hK.out _ _ ?_;clear hK KK
    try simp only [lpq]
    refine dnq ?_
    have hea : Lies W3 EA sx.d.length ec sx.d := by rw [<- H3.out.2.2.2]; exact H3.out.1.ea
    have hez : 0 < sx.d.length -> ∀ g f,EA = some ⟨g,f,none⟩ -> lab1 g = 0 := by rw [<- H3.out.2.2.2]; exact H3.out.1.ez
    obtain ⟨q1,q2⟩ := H3.out.1.at_.snapPut (k := k) (by rw [H3.out.2.2.1]; exact hk) HE.out sx EA ec hea hez;have K4 := (H3.out.1.move q1 rfl q2 (by decide)).below blq.drew;obtain ⟨W4,hW4⟩ := exq ((((W3.setCell ⟨gs,os + k * 3,none⟩ (.int .i64 sx.i)).setCell ⟨gs,os + k * 3 + 1,none⟩ (.int .i64 sx.t)).setCell ⟨gs,os + k * 3 + 2,none⟩ (.slice EA sx.d.length ec)).drew);rw [hW4] at K4 ⊢;clear d0 d1 d2 f0 f1 f2 x3 x4 x5 c2 q1 q2 hea hez hW4;obtain ⟨L4,hL4⟩ : ∃ L4,({ L with sE := Sim.upd L.sE k EA,sc := Sim.upd L.sc k ec } : SimL) = L4 := ⟨_,rfl⟩;obtain ⟨S4,hS4⟩ : ∃ S4,({ S3 with sn := Sim.upd S3.sn k sx } : Sim) = S4 := ⟨_,rfl⟩;rw [hL4,hS4] at K4
    have hn4 : S4.n = S.n := by rw [<- hS4]; exact H3.out.2.2.1
    have hr4 : S4.r k = N.took.1 := by
     rw [<- hS4];show S3.r k = _;rw [H3.out.2.1];show Sim.upd S.r k (S.r k).took.1 k = _;rw [qm,HT.out.2.2.2.2.2.1]
    obtain ⟨b4,off4,eA4,hpc4,_,hpn4⟩ := K4.at_.ptr (k := k) (by rw [hn4]; exact hk);rw [hn4] at hpn4
    have x3 : W4.cell? ⟨w1.heap.size,3,none⟩ = some (.int .i64 sx.i) := by rw [<- H3.out.2.2.2]; exact qb K4.out 3 _ rfl
    have c0 := qb K4.head 0 _ rfl;rw [show (simC S4 L4)[0] = .slice L4.Ar S4.n L4.cr from rfl,hn4,eA4] at c0;have c3 := qb K4.head 3 _ rfl;obtain ⟨g5,o5,e5,_,hc5,hf5⟩ := K4.at_.l.sp.at_ (by omega) k (by rw [hn4]; exact hk);have hcap5 := K4.at_.l.sp.2.1;rw [hn4] at hcap5;rw [show (simC S4 L4)[3] = .slice L4.Al S4.n L4.cl from rfl,hn4,e5] at c3
    obtain ⟨u5,d5⟩ : ∃ u5,W4.cell? ⟨g5,o5 + k,none⟩ = some u5 := ⟨_,by
     have := hc5 0 (by omega) _ (List.getElem?_eq_getElem (by unfold logs; simp [hn4,hk]))
     simpa using this⟩
    have f5 := hf5 (o5 + k);obtain ⟨q4,s4,xs4,K4',R4,_⟩ := K4.at_.nodes k (by rw [hn4]; exact hk);rw [hr4] at R4;have hgT : Good N.took.1.lg := ⟨hg.base,hg.run⟩
    have hEn := fun W (hW : Below W4.heap.size W4 W) => qbx (R4.below hW) hgT (by show N.lg.l.length <= 1000000; omega) (sx.i + 1) 1099511627776 ⟨by omega,by omega⟩ ⟨by decide,by decide⟩
    have z1 : IntKind.i64.wrap (sx.i + 1) = sx.i + 1 := IntWalk.i64_in _ (by omega)
    have hSW : ∀ W,Below W4.heap.size W4 W -> (fun w' : World => w'.cell? ⟨L.g,3,none⟩ = some (.slice (some ⟨g5,o5,none⟩) S.n L4.cl) /\ w'.cell? ⟨L.g,0,none⟩ = some (.slice (some ⟨b4,off4,none⟩) S.n L4.cr) /\ w'.cell? ⟨b4,off4 + k,none⟩ = some (ptrV (L4.ps k)) /\ w'.cell? ⟨w1.heap.size,3,none⟩ = some (.int .i64 sx.i)) W := fun W hW => by
     have hc : ∀ a v,W4.cell? a = some v -> W.cell? a = some v := fun a v hv => (World.cell?_of_block (hW.block a.block (World.block_lt_of_cell? W4 a hv))).trans hv
     exact ⟨hc _ _ c3,hc _ _ c0,hc _ _ hpc4,hc _ _ x3⟩
    have d5w : ∀ W,Below W4.heap.size W4 W -> W.cell? ⟨g5,o5 + k,none⟩ = some u5 /\ W.frozen? ⟨g5,o5 + k,none⟩ = false := fun W hW => by
     obtain ⟨cur,hcur⟩ := K4.at_.l.sp.block ⟨o5,e5⟩;exact ⟨(World.cell?_of_block (hW.block g5 (hlt hcur))).trans d5,frozen_of_row W g5 _ cur _ ((hW.block g5 (hlt hcur)).trans hcur)⟩
    have H4 := hdq7 K4 hS4 hn4 e5 hSW hEn d5w;clear K4 hS4 hn4 e5 hSW hEn d5w R4 hr4 hgT hc5 hf5 c0 c3 x3 hpc4 d5 f5
    go_wp2_with fail
    refine wp_region_held_drew ⟨(fun w' : World => w'.cell? ⟨L.g,3,none⟩ = some (.slice (some ⟨g5,o5,none⟩) S.n L4.cl) /\ w'.cell? ⟨L.g,0,none⟩ = some (.slice (some ⟨b4,off4,none⟩) S.n L4.cr) /\ w'.cell? ⟨b4,off4 + k,none⟩ = some (ptrV (L4.ps k)) /\ w'.cell? ⟨w1.heap.size,3,none⟩ = some (.int .i64 sx.i)),[18]⟩ (by kernel_rfl) (H4.out.2.2.2.2.1 _ blq.drew) (fun hHeld => ?_);refine lsq 19 ?_;refine puq 0 ?_;refine puq 1 ?_;refine puq 2 ?_;refine tkq 3 ?_;refine puq 4 ?_;refine puq 5 ?_;refine puq 6 ?_;refine puq 7 ?_;refine tkq 8 ?_;refine puq 9 ?_;refine puq 10 ?_;refine tkq 11 ?_;refine puq 12 ?_;refine puq 13 ?_;refine tkq 14 ?_;refine puq 15 ?_;refine rdq1 16 fun KK hK => ?_;go_simp;refine (H4.out.2.2.2.2.2.1 _ (by exact blq.drew)).mono ?_;rintro e5 w5 ⟨A5,c5,rfl,hE5,hb5⟩;have hb45 : Below W4.heap.size W4 w5 := (show Below W4.heap.size W4 _ from blq.drew).trans (hb5.mono (by simp));refine hK.out _ _ (H4.out.2.2.2.2.1 w5 hb45) ?_;clear hK KK hHeld;intro hHeld
    try simp only [lpq]
    refine puq 17 ?_;obtain ⟨d5,f5⟩ := H4.out.2.2.2.2.2.2 w5 hb45;refine ltq 18 fun KK hK => ?_;go_simp;refine hK.out _ _ ?_;clear hK KK
    try simp only [lpq]
    refine dnq ?_
    have hEl := hE5.mono (Z' := fun b => lab1 b = 0) fun b hb => H4.out.1.at_.lim b hb
    have K5 := H4.out.1.below hb45;obtain ⟨q1,q2⟩ := K5.at_.logPut (k := k) (by rw [H4.out.2.2.1]; exact hk) H4.out.2.2.2.1 _ A5 c5 hEl;have K6 := K5.move q1 rfl q2 (by decide)
    have hkp : (S.keep k).1 = { { S4 with lg := Sim.upd S4.lg k (N.took.1.part (sx.i + 1) 1099511627776) } with net := S.net ++ N.ms.take (100 - S.net.length) } := by
     have h1 := qjO (S := S) (k := k) (by rw [HT.out.2.2.2.2.2.1,H3.out.2.2.2]; omega);rw [HT.out.2.2.2.2.2.1,H3.out.2.2.2] at h1;rw [h1,<- H4.out.2.1,H3.out.2.1,HT.out.2.2.2.2.2.1]
    have hnt : S4.net = S.net := by rw [<- H4.out.2.1,H3.out.2.1]
    have HC := Lib.hid (show qcU _ _ S L lab k _ _ _ from ⟨_,_,_,K6,hnt,hkp⟩);clear K5 K6 q1 q2 hEl d5 f5 hkp hnt hE5
    go_wp2_with fail
    go_meet
    exact HC.out
  · have y1 : decide (0 < sx.i) = false := decide_eq_false hpos
    cases hch : N.lg.changed with
    | nil =>
      have x2 : W3.cell? ⟨w1.heap.size,2,none⟩ = some (.slice FA 0 fc) := by
       have h1 := qb H3.out.1.out 2 (.slice FA N.lg.changed.length fc) rfl;rw [hch] at h1;exact h1
      have hkp : (S.keep k).1 = { S3 with net := S.net ++ N.ms.take (100 - S.net.length) } := by
       have h1 := qkR (S := S) (k := k) (by rw [HT.out.2.2.2.2.2.1,H3.out.2.2.2]; omega) (by rw [HT.out.2.2.2.2.2.1]; exact hch);rw [HT.out.2.2.2.2.2.1] at h1;rw [h1,H3.out.2.1,HT.out.2.2.2.2.2.1]
      have HC := Lib.hid (show qcU _ _ S L lab k _ _ _ from ⟨_,_,_,H3.out.1,by rw [H3.out.2.1],hkp⟩);clear hkp hch
      go_wp2_with fail
      go_meet
      exact HC.out
    | cons e0 l0 =>
      obtain ⟨nf,hnf⟩ := exq (N.lg.changed.length)
      have hnf0 : 0 < nf := by rw [<- hnf,hch]; exact Nat.succ_pos _
      have hnfl : nf <= 400000 := by
       rw [<- hnf];exact Nat.le_trans (List.length_filter_le _ _) hl
      have x2 : W3.cell? ⟨w1.heap.size,2,none⟩ = some (.slice FA nf fc) := by rw [<- hnf]; exact qb H3.out.1.out 2 _ rfl
      have y2 : decide ((0 : Int) < (nf : Int)) = true := decide_eq_true (by omega);obtain ⟨ll,hll⟩ := exq (S3.lg k)
      have hll2 : ll = S.lg k := by rw [<- hll,H3.out.2.1]
      have hld := H3.out.1.at_.ld k (by rw [H3.out.2.2.1]; exact hk);rw [hll] at hld;have hld := hld.old;obtain ⟨nl,hnl⟩ := exq (ll.length)
      have hnl2 : nl <= 400000 := by rw [<- hnl,hll2]; exact hlg
      rw [hnl] at hld;have c3 := qb H3.out.1.head 3 _ rfl;obtain ⟨g5,o5,e5,_,hc5,hf5⟩ := H3.out.1.at_.l.sp.at_ (by omega) k (by rw [H3.out.2.2.1]; exact hk);have hcap5 := H3.out.1.at_.l.sp.2.1;rw [H3.out.2.2.1] at hcap5;rw [show (simC S3 L)[3] = .slice L.Al S3.n L.cl from rfl,H3.out.2.2.1,e5] at c3
      have d5 : W3.cell? ⟨g5,o5 + k,none⟩ = some (.slice (L.lA k) nl (L.lc k)) := by
       have := hc5 0 (by omega) (.slice (L.lA k) nl (L.lc k)) (by unfold logs; simp [H3.out.2.2.1,hk,hll,hnl])
       simpa using this
      have f5 := hf5 (o5 + k);have hfre := H3.out.1.fr;dsimp only at hfre;rw [hnf] at hfre;obtain ⟨gf,of,Ef,cEf,ef,hgf,kk0,kk1,kk2,kk3⟩ := hfre.lay_at 0 (by rw [hch]; exact Nat.succ_pos _)
      have k0 : W3.cell? ⟨gf,of,none⟩ = some (.int .i64 e0.i) := by
       have h1 : (N.lg.changed[0]'(by rw [hch]; exact Nat.succ_pos _)) = e0 := by simp [hch]
       rw [h1] at kk0
       simpa using kk0
      have hncf := hfre.2.1;subst ef;have hncl := hld.2.1;have HL := hdq8 hld hfre hnf hch hll hll2 hnl e5;have HC3 := hdq5 c3 d5 x2 k0 f5;clear kk0 kk1 kk2 kk3 hld hfre hnf hch hll hll2 hnl e5 hc5 hf5 f5
      go_wp2_with fail
      clear c3 d5 k0
      go_loopw [6,67] (fun v6 v67 wx => ∃ (i n c : Nat) (A : Option Addr) (ys : List Lay),i <= nl /\ v67 = .int .i64 (i : Int) /\ v6 = .slice A n c /\ Sp 78 3 wx A n c (rowOf ys) /\ (∀ b,blk A b -> W3.heap.size <= b) /\ ys.map (·.e) = (ll.take i).filter (fun x => decide (x.i < e0.i)) /\ (∀ x ∈ ys,qs wx (fun b => lab1 b = 0 /\ b < W3.heap.size) x) /\ n <= i /\ Below W3.heap.size W3 wx) (fun _ v67 _ => nl - (intOf v67).toNat)
      case atStart => exact ⟨0,0,0,none,[],Nat.zero_le _,rfl,rfl,Sp.nil _ _ _,(fun b hb => absurd hb (qz b)),rfl,(fun x hx => by cases hx),nlq,blq⟩
      case round =>
       obtain ⟨i,n,c,A,ys,hi,rfl,rfl,hsp,hA,hys,hok,hni,hb⟩ := hrel
       by_cases hi2 : i < nl
       · have l1 : decide ((i : Int) < (nl : Int)) = true := decide_eq_true (by omega)
         have hil : i < ll.length := by rw [HL.out.2.2.2.2.2.2.1]; exact hi2
         obtain ⟨gl,ol,E,cE,eL,hgl,m0,m1,m2,hLay⟩ := (HL.out.1.below hb nlq).lay_at i hil
         have hc : ∀ a v,W3.cell? a = some v -> wr.cell? a = some v := fun a v hv => (World.cell?_of_block (hb.block a.block (World.block_lt_of_cell? W3 a hv))).trans hv
         have c3 := hc _ _ HC3.out.1;have d5 := hc _ _ HC3.out.2.1;have x2 := hc _ _ HC3.out.2.2.1;have k0 := hc _ _ HC3.out.2.2.2.1;rw [eL] at d5;obtain ⟨x,hx⟩ := exq (ll[i]);rw [hx] at m0 m1 m2 hLay
         have htk : (ll.take (i + 1)).filter (fun x => decide (x.i < e0.i)) = (ll.take i).filter (fun x => decide (x.i < e0.i)) ++ (if x.i < e0.i then [x] else []) := by
          rw [List.take_succ_eq_append_getElem hil,List.filter_append,hx]
          congr 1
          by_cases hq : x.i < e0.i
          · simp [hq]
          · simp [hq]
         have HI := hdq8 hsp hA hys hok hb htk hLay eL;clear hsp hA hys hok hb htk hLay eL hx hgl hc
         by_cases hq : x.i < e0.i
         · have y3 : decide (x.i < e0.i) = true := decide_eq_true hq;have HQ := Lib.hid hq;clear hq
           have h1c : ∀ u ∈ [Value.int .i64 x.i, .int .i64 x.t, .slice E x.d.length cE],u.oneCell' = true := fun u hu => by
            simp only [List.mem_cons,List.not_mem_nil,or_false] at hu
            rcases hu with rfl | rfl | rfl <;> rfl
           go_wp2_with fail
           go_quiet (fail)
           go_wp2_with (at_builtin
                        go_loud (refine qaI qa0 _ rfl _ _ rfl A n c (rowOf ys) rfl (HI.out.1.keep fun b hb => (show Below wr.heap.size wr _ from bbq).block b (HI.out.1.lt hb)) _ 1 1 [.int .i64 x.i, .int .i64 x.t, .slice E x.d.length cE] rfl (fun e => by cases e) rfl h1c (fun b e => by cases e; exact cells_lit (C := [.int .i64 x.i, .int .i64 x.t, .slice E x.d.length cE]) (heap_alloc_new _ _)) (by omega) ?_)
                        intro A8 c8 w8 hsp8 hA8 hg8
                        have hX8 := qN (w := wr) hg8 bbq)
           go_roundw
           case rel =>
            have hs8 := hX8.size
            have hok8 : ∀ b,b < wr.heap.size -> ¬ blk A b -> w8.heap[b]? = wr.heap[b]? := fun b hb hn => (hg8.block b (by omega) hn).trans (hX8.block b hb)
            have hz0 : ∀ b,lab1 b = 0 -> b < wr.heap.size -> ¬ blk A b -> True := fun _ _ _ _ => trivial
            refine ⟨i + 1,n + 1,c8,A8,ys ++ [⟨x,E,cE⟩],hi2,by go_num,rfl,by rw [qS]; exact hsp8,fun b hb => ?_,by rw [List.map_append,HI.out.2.2.1,HI.out.2.2.2.2.2.1,if_pos (by have := HQ.out; omega)]; rfl,fun y hy => ?_,by omega,?_⟩
            · rcases hA8 b hb with h9 | h9
              · exact HI.out.2.1 b h9
              · have := HI.out.2.2.2.2.1.size; omega
            · have hk9 : ∀ b,b < wr.heap.size -> (lab1 b = 0 /\ b < W3.heap.size) -> w8.heap[b]? = wr.heap[b]? := fun b h1 h2 => hok8 b h1 fun e => by have := HI.out.2.1 b e; omega
              rcases List.mem_append.1 hy with hy | hy
              · exact (HI.out.2.2.2.1 y hy).keep (by have := hg8.size; omega) hk9
              · rw [List.mem_singleton.1 hy];exact HI.out.2.2.2.2.2.2.1.keep (by have := hg8.size; omega) hk9
            · refine HI.out.2.2.2.2.1.trans ⟨hg8.os.symm.trans hX8.os,hg8.tape.symm.trans hX8.tape,hg8.output.symm.trans hX8.output,by have := hg8.size; omega,fun b hb => hok8 b (by have := HI.out.2.2.2.2.1.size; omega) fun e => by have := HI.out.2.1 b e; omega⟩
           case measure =>
            simp [intOf]
            omega
         · have y3 : decide (x.i < e0.i) = false := decide_eq_false hq;have HQ := Lib.hid hq;clear hq
           go_wp2_with fail
           go_quiet (fail)
           go_wp2
           go_roundw
           case rel =>
            refine ⟨i + 1,n,c,A,ys,hi2,by go_num,rfl,?_,HI.out.2.1,by rw [HI.out.2.2.1,HI.out.2.2.2.2.2.1,if_neg (by have := HQ.out; omega),List.append_nil],?_,by omega,?_⟩
            · exact HI.out.1.keep fun b hb => rfl
            · exact fun y hy => (HI.out.2.2.2.1 y hy).keep nlq fun _ _ _ => rfl
            · exact below_drewN HI.out.2.2.2.2.1 _
           case measure =>
            simp [intOf]
            omega
       · obtain rfl : i = nl := by omega
         have hys2 : ys.map (·.e) = ll.filter (fun x => decide (x.i < e0.i)) := by rw [hys,<- HL.out.2.2.2.2.2.2.1,List.take_length]
         have hc : ∀ W,Below W3.heap.size W3 W -> ∀ a v,W3.cell? a = some v -> W.cell? a = some v := fun W hW a v hv => (World.cell?_of_block (hW.block a.block (World.block_lt_of_cell? W3 a hv))).trans hv
         have c3 := hc _ hb _ _ HC3.out.1;have x2 := hc _ hb _ _ HC3.out.2.2.1;have hfl := HL.out.2.1;obtain ⟨zs,hz1,hz2,hz3⟩ := hfl.lays
         have hzl : zs.length = nf := by rw [<- HL.out.2.2.1,<- hz1,List.length_map]
         have hrz : (rowOf zs).length = nf * 3 := by rw [qv,hzl]
         have d5w : ∀ W,Below W3.heap.size W3 W -> W.cell? ⟨g5,o5 + k,none⟩ = some (.slice (L.lA k) i (L.lc k)) /\ W.frozen? ⟨g5,o5 + k,none⟩ = false := fun W hW => by
          obtain ⟨cur,hcur⟩ := H3.out.1.at_.l.sp.block ⟨o5,HL.out.2.2.2.2.2.2.2⟩;exact ⟨hc W hW _ _ HC3.out.2.1,frozen_of_row W g5 _ cur _ ((hW.block g5 (hlt hcur)).trans hcur)⟩
         have hone : ∀ u ∈ rowOf zs,u.oneCell' = true := fun u hu => by
          unfold rowOf at hu;obtain ⟨z,_,hz⟩ := List.mem_flatMap.1 hu;simp only [cells3,List.mem_cons,List.not_mem_nil,or_false] at hz
          rcases hz with rfl | rfl | rfl <;> rfl
         have hcz : ∀ W,Below W3.heap.size W3 W -> ∀ b,(some (⟨gf,of,none⟩ : Addr)) = some b -> ∀ j u,(rowOf zs)[j]? = some u -> W.cell? (b.add j) = some u := fun W hW b e j u hu => hc W hW _ _ (hz3 b e j u hu);have HE := hdq10 hsp hA hys2 hok hb hz1 hz2 hcz d5w hc;clear hsp hA hys hys2 hok hb hz1 hz2 hz3 hcz d5w hc hfl
         go_wp2_with fail
         refine wp_region_held_drew ⟨(fun w' : World => w'.cell? ⟨L.g,3,none⟩ = some (.slice (some ⟨g5,o5,none⟩) S.n L.cl) /\ w'.cell? ⟨w1.heap.size,2,none⟩ = some (.slice (some ⟨gf,of,none⟩) nf fc)),[10]⟩ (by kernel_rfl) ⟨c3,x2⟩ (fun hHeld => ?_);refine lsq 11 ?_;refine puq 0 ?_;refine puq 1 ?_;refine puq 2 ?_;refine tkq 3 ?_;refine puq 4 ?_;refine puq 5 ?_;refine puq 6 ?_;refine tkq 7 ?_;refine rdq1 8 fun KK hK => ?_;refine ql qa0 _ (by rfl) _ _ (by rfl) A n c (rowOf ys) (by rfl) (HE.out.1.keep fun b hb => rfl) (some ⟨gf,of,none⟩) nf fc (rowOf zs) (by rfl) (fun e => by cases e) hrz hone (fun b e => HE.out.2.2.2.2.2.2.2.1 _ (by exact HE.out.2.2.2.2.1.trans (blq.drew.mono HE.out.2.2.2.2.1.size)) b e) (by omega) ?_;intro A8 c8 w8 hsp8 hA8 hg8;have hX8 := qN (w := wr) hg8 bbq;have hb8 : Below W3.heap.size W3 w8 := HE.out.2.2.2.2.1.trans ⟨hg8.os.symm.trans hX8.os,hg8.tape.symm.trans hX8.tape,hg8.output.symm.trans hX8.output,by have := hg8.size; have := hX8.size; omega,fun b hb => (hg8.block b (by have := hX8.size; have := HE.out.2.2.2.2.1.size; omega) fun e => by have := HE.out.2.1 b e; omega).trans (hX8.block b (by have := HE.out.2.2.2.2.1.size; omega))⟩;refine hK.out _ _ (⟨HE.out.2.2.2.2.2.2.2.2.2 _ hb8 _ _ HC3.out.1,HE.out.2.2.2.2.2.2.2.2.2 _ hb8 _ _ HC3.out.2.2.1⟩) ?_;clear hK KK hHeld;intro hHeld
         try simp only [lpq]
         refine puq 9 ?_;obtain ⟨d5,f5⟩ := HE.out.2.2.2.2.2.2.2.2.1 w8 hb8;clear hb8;refine ltq 10 fun KK hK => ?_;go_simp;refine hK.out _ _ ?_;clear hK KK
         try simp only [lpq]
         refine dnq ?_;have hb8 : Below W3.heap.size W3 w8 := HE.out.2.2.2.2.1.trans ⟨hg8.os.symm.trans hX8.os,hg8.tape.symm.trans hX8.tape,hg8.output.symm.trans hX8.output,by have := hg8.size; have := hX8.size; omega,fun b hb => (hg8.block b (by have := hX8.size; have := HE.out.2.2.2.2.1.size; omega) fun e => by have := HE.out.2.1 b e; omega).trans (hX8.block b (by have := HE.out.2.2.2.2.1.size; omega))⟩;have hk9 : ∀ b,b < wr.heap.size -> (lab1 b = 0 /\ b < W3.heap.size) -> w8.heap[b]? = wr.heap[b]? := fun b h1 h2 => (hg8.block b (by have := hX8.size; omega) fun e => by have := HE.out.2.1 b e; omega).trans (hX8.block b h1)
         have hEl : Ents w8 (fun b => lab1 b = 0) A8 (n + nf) c8 ((ys ++ zs).map fun y : Lay => y.e) := by
          rw [<- qS] at hsp8
          have hyl : ys.length = n := by
           have h1 := HE.out.1.1;rw [qv] at h1;omega
          refine qjM hsp8 (by rw [List.length_append]; omega) (fun x hx => ?_) (fun b hb => ?_)
          · rcases List.mem_append.1 hx with hx | hx
            · exact ((HE.out.2.2.2.1 x hx).keep (by have := hg8.size; have := hX8.size; omega) hk9).mono fun b hb => hb.1
            · exact (((HE.out.2.2.2.2.2.2.1 x hx).keep hb8.size fun b h1 h2 => hb8.block b h1))
          · rcases hA8 b hb with h9 | h9
            · exact H3.out.1.at_.lim b (HE.out.2.1 b h9)
            · exact H3.out.1.at_.lim b (by have := hX8.size; have := HE.out.2.2.2.2.1.size; omega)
         have hlen : n + nf = ((ys ++ zs).map fun y : Lay => y.e).length := hEl.1.symm;have K5 := H3.out.1.below hb8;obtain ⟨q1,q2⟩ := K5.at_.logPut (k := k) (by rw [H3.out.2.2.1]; exact hk) HL.out.2.2.2.2.2.2.2 ((ys ++ zs).map fun y : Lay => y.e) A8 c8 (by rw [<- hlen]; exact hEl);have K6 := K5.move q1 rfl q2 (by decide);rw [<- hlen] at K6
         have hle : (ys ++ zs).map (fun y : Lay => y.e) = (S.lg k).filter (fun x => decide (x.i < e0.i)) ++ (e0 :: l0) := by
          rw [List.map_append,HE.out.2.2.1,HE.out.2.2.2.2.2.1,HL.out.2.2.2.1,HL.out.2.2.2.2.2.1]
         have hkp : (S.keep k).1 = { { S3 with lg := Sim.upd S3.lg k ((ys ++ zs).map fun y : Lay => y.e) } with net := S.net ++ N.ms.take (100 - S.net.length) } := by
          have h1 := qhc (S := S) (k := k) (e := e0) (l := l0) (by rw [HT.out.2.2.2.2.2.1,H3.out.2.2.2]; omega) (by rw [HT.out.2.2.2.2.2.1]; exact HL.out.2.2.2.1);rw [HT.out.2.2.2.2.2.1] at h1;rw [h1,H3.out.2.1,HT.out.2.2.2.2.2.1,hle]
         have HC := Lib.hid (show qcU _ _ S L lab k _ _ _ from ⟨_,_,_,K6,by rw [H3.out.2.1],hkp⟩);clear K5 K6 q1 q2 hEl hle hkp hlen hk9 hb8
         go_wp2_with fail
         go_meet
         exact HC.out
 case rest =>
  obtain ⟨S4,L4,lab4,K4,hnt,hkp⟩ := hcut;obtain ⟨nm,hnm⟩ := exq (N.ms.length);obtain ⟨r,hr⟩ := exq (100 - S.net.length);dsimp only at hkp;rw [hr] at hkp;rw [hnm] at hms
  have x6 : wc.cell? ⟨w1.heap.size,6,none⟩ = some (.slice q.M nm q.cM) := by rw [<- hnm]; exact qb K4.out 6 _ rfl
  have HN := hdq4 hnm hkp hnt hr;have HK4 := Lib.hid K4;clear hnm hkp hnt K4 hr
  go_wp2_with fail
  clear x6
  go_loopw [114] (fun v114 wx => ∃ (i : Nat) (Li : SimL) (labi : Nat -> Nat),i <= nm /\ v114 = .int .i64 (i : Int) /\ Kp w wx { S4 with net := S.net ++ (N.ms.take i).take r } L Li lab labi w1.heap.size w.heap.size ⟨N,q,xs,FA,fc,EA,ec⟩) (fun v114 _ => nm - (intOf v114).toNat)
  case atStart =>
   have e9 : ({ S4 with net := S.net ++ (N.ms.take 0).take r } : Sim) = S4 := by
    rw [List.take_zero,List.take_nil,List.append_nil,<- HN.out.2.2.1]
   exact ⟨0,L4,lab4,Nat.zero_le _,rfl,by rw [e9]; exact HK4.out⟩
  case round =>
   obtain ⟨i,Li,labi,hi,rfl,Ki⟩ := hrel
   by_cases hi2 : i < nm
   · have l1 : decide ((i : Int) < (nm : Int)) = true := decide_eq_true (by omega)
     have hims : i < N.ms.length := by rw [HN.out.1]; exact hi2
     obtain ⟨net,hnet2⟩ := exq (S.net ++ (N.ms.take i).take r)
     have hnl : net.length = S.net.length + min r i := by
      rw [<- hnet2,List.length_append,List.length_take,List.length_take];omega
     rw [hnet2] at Ki;obtain ⟨nn,hnn⟩ := exq (net.length);have c4 := qb Ki.head 4 _ rfl;rw [show (simC { S4 with net := net } Li)[4] = .slice Li.An net.length Li.cn from rfl,hnn] at c4
     have hxl : i < xs.length := by
      have h1 : (xs.map (·.m)).length = N.ms.length := congrArg List.length Ki.mm;rw [List.length_map] at h1;omega
     have hxm : N.ms[i] = xs[i].m := by
      have h1 : N.ms = xs.map (·.m) := Ki.mm.symm
      simp [h1]
     have hstep : S.net ++ (N.ms.take (i + 1)).take r = if nn < 100 then net ++ [xs[i].m] else net := by
      rw [qjN hims,hnet2,<- hxm]
      by_cases h9 : nn < 100
      · rw [if_pos h9,if_pos (by have := HN.out.2.2.2; omega)]
      · rw [if_neg h9,if_neg (by have := HN.out.2.2.2; omega)]
     have HI := hdq4 Ki hstep hnet2 hnn;clear hstep hnet2 Ki hxm
     by_cases h100 : nn < 100
     · have y9 : decide ((nn : Int) < 100) = true := decide_eq_true (by omega)
       have x6 : wr.cell? ⟨w1.heap.size,6,none⟩ = some (.slice q.M nm q.cM) := by rw [<- HN.out.1]; exact qb HI.out.1.out 6 _ rfl
       obtain ⟨gm,om,em,hgm,hcm,_⟩ := HI.out.1.m.sp.at_ (by omega) i hims;have hcapm := HI.out.1.m.sp.2.1;dsimp only at em hcapm hcm;rw [HN.out.1] at hcapm;rw [em] at x6;obtain ⟨x,hx⟩ := exq (xs[i])
       have hmj : ∀ j (hj : j < 13) u,(qaF x)[j]? = some u -> wr.cell? ⟨gm,om + i * 13 + j,none⟩ = some u := fun j hj u hu => hcm j hj u (by
        show (mrow xs)[i * 13 + j]? = _;unfold mrow;rw [qaP qaF 13 (fun _ => rfl) xs i hxl j hj,hx]
        exact hu)
       have m0 : wr.cell? ⟨gm,om + i * 13,none⟩ = some (.int .i64 x.m.k) := hmj 0 (by omega) _ rfl;have m1 : wr.cell? ⟨gm,om + i * 13 + 1,none⟩ = some (.int .i64 x.m.f) := hmj 1 (by omega) _ rfl;have m2 : wr.cell? ⟨gm,om + i * 13 + 2,none⟩ = some (.int .i64 x.m.o) := hmj 2 (by omega) _ rfl;have m3 : wr.cell? ⟨gm,om + i * 13 + 3,none⟩ = some (.int .i64 x.m.t) := hmj 3 (by omega) _ rfl;have m4 : wr.cell? ⟨gm,om + i * 13 + 4,none⟩ = some (.int .i64 x.m.i) := hmj 4 (by omega) _ rfl;have m5 : wr.cell? ⟨gm,om + i * 13 + 5,none⟩ = some (.int .i64 x.m.l) := hmj 5 (by omega) _ rfl;have m6 : wr.cell? ⟨gm,om + i * 13 + 6,none⟩ = some (.int .i64 x.m.c) := hmj 6 (by omega) _ rfl;have m7 : wr.cell? ⟨gm,om + i * 13 + 7,none⟩ = some (.int .i64 x.m.x) := hmj 7 (by omega) _ rfl;have m8 : wr.cell? ⟨gm,om + i * 13 + 8,none⟩ = some (.bool x.m.b) := hmj 8 (by omega) _ rfl;have m9 : wr.cell? ⟨gm,om + i * 13 + 9,none⟩ = some (.slice x.A x.m.es.length x.cA) := hmj 9 (by omega) _ rfl;have m10 : wr.cell? ⟨gm,om + i * 13 + 10,none⟩ = some (.int .i64 x.m.s.i) := hmj 10 (by omega) _ rfl;have m11 : wr.cell? ⟨gm,om + i * 13 + 11,none⟩ = some (.int .i64 x.m.s.t) := hmj 11 (by omega) _ rfl;have m12 : wr.cell? ⟨gm,om + i * 13 + 12,none⟩ = some (.slice x.E x.m.s.d.length x.cE) := hmj 12 (by omega) _ rfl;have hS19 : ∀ W : World,W.heap[L.g]? = wr.heap[L.g]? -> W.heap[w1.heap.size]? = wr.heap[w1.heap.size]? -> W.heap[gm]? = wr.heap[gm]? -> (fun w' : World => w'.cell? ⟨L.g,4,none⟩ = some (.slice Li.An nn Li.cn) /\ w'.cell? ⟨w1.heap.size,6,none⟩ = some (.slice (some ⟨gm,om,none⟩) nm q.cM) /\ w'.cell? ⟨gm,om + i * 13,none⟩ = some (.int .i64 x.m.k) /\ w'.cell? ⟨gm,om + i * 13 + 1,none⟩ = some (.int .i64 x.m.f) /\ w'.cell? ⟨gm,om + i * 13 + 2,none⟩ = some (.int .i64 x.m.o) /\ w'.cell? ⟨gm,om + i * 13 + 3,none⟩ = some (.int .i64 x.m.t) /\ w'.cell? ⟨gm,om + i * 13 + 4,none⟩ = some (.int .i64 x.m.i) /\ w'.cell? ⟨gm,om + i * 13 + 5,none⟩ = some (.int .i64 x.m.l) /\ w'.cell? ⟨gm,om + i * 13 + 6,none⟩ = some (.int .i64 x.m.c) /\ w'.cell? ⟨gm,om + i * 13 + 7,none⟩ = some (.int .i64 x.m.x) /\ w'.cell? ⟨gm,om + i * 13 + 8,none⟩ = some (.bool x.m.b) /\ w'.cell? ⟨gm,om + i * 13 + 9,none⟩ = some (.slice x.A x.m.es.length x.cA) /\ w'.cell? ⟨gm,om + i * 13 + 10,none⟩ = some (.int .i64 x.m.s.i) /\ w'.cell? ⟨gm,om + i * 13 + 11,none⟩ = some (.int .i64 x.m.s.t) /\ w'.cell? ⟨gm,om + i * 13 + 12,none⟩ = some (.slice x.E x.m.s.d.length x.cE)) W := fun W h1 h2 h3 => ⟨(World.cell?_of_block h1).trans c4,(World.cell?_of_block h2).trans x6,(World.cell?_of_block h3).trans m0,(World.cell?_of_block h3).trans m1,(World.cell?_of_block h3).trans m2,(World.cell?_of_block h3).trans m3,(World.cell?_of_block h3).trans m4,(World.cell?_of_block h3).trans m5,(World.cell?_of_block h3).trans m6,(World.cell?_of_block h3).trans m7,(World.cell?_of_block h3).trans m8,(World.cell?_of_block h3).trans m9,(World.cell?_of_block h3).trans m10,(World.cell?_of_block h3).trans m11,(World.cell?_of_block h3).trans m12⟩;have hlg1 := hlt HI.out.1.head;have hlx1 := hlt HI.out.1.out;have hS19b : ∀ W,Below wr.heap.size wr W -> (fun w' : World => w'.cell? ⟨L.g,4,none⟩ = some (.slice Li.An nn Li.cn) /\ w'.cell? ⟨w1.heap.size,6,none⟩ = some (.slice (some ⟨gm,om,none⟩) nm q.cM) /\ w'.cell? ⟨gm,om + i * 13,none⟩ = some (.int .i64 x.m.k) /\ w'.cell? ⟨gm,om + i * 13 + 1,none⟩ = some (.int .i64 x.m.f) /\ w'.cell? ⟨gm,om + i * 13 + 2,none⟩ = some (.int .i64 x.m.o) /\ w'.cell? ⟨gm,om + i * 13 + 3,none⟩ = some (.int .i64 x.m.t) /\ w'.cell? ⟨gm,om + i * 13 + 4,none⟩ = some (.int .i64 x.m.i) /\ w'.cell? ⟨gm,om + i * 13 + 5,none⟩ = some (.int .i64 x.m.l) /\ w'.cell? ⟨gm,om + i * 13 + 6,none⟩ = some (.int .i64 x.m.c) /\ w'.cell? ⟨gm,om + i * 13 + 7,none⟩ = some (.int .i64 x.m.x) /\ w'.cell? ⟨gm,om + i * 13 + 8,none⟩ = some (.bool x.m.b) /\ w'.cell? ⟨gm,om + i * 13 + 9,none⟩ = some (.slice x.A x.m.es.length x.cA) /\ w'.cell? ⟨gm,om + i * 13 + 10,none⟩ = some (.int .i64 x.m.s.i) /\ w'.cell? ⟨gm,om + i * 13 + 11,none⟩ = some (.int .i64 x.m.s.t) /\ w'.cell? ⟨gm,om + i * 13 + 12,none⟩ = some (.slice x.E x.m.s.d.length x.cE)) W := fun W hW => hS19 W (hW.block _ hlg1) (hW.block _ hlx1) (hW.block _ hgm)
       have hgl : labi L.g = 1 := by have h1 := HI.out.1.at_.me; rw [HI.out.1.g] at h1; exact h1
       have hn1 : ¬ blk Li.An L.g := fun e => by have := HI.out.1.at_.n.lb _ e; omega
       have hn2 : ¬ blk Li.An w1.heap.size := fun e => by have := HI.out.1.at_.n.lb _ e; have := HI.out.1.ob; omega
       have hn3 : ¬ blk Li.An gm := fun e => by have := HI.out.1.at_.n.lb _ e; have h1 : labi gm = 0 := HI.out.1.m.lb gm ⟨om,em⟩; omega
       have hSn : ∀ X,Below wr.heap.size wr X -> Sp 51 13 X Li.An nn Li.cn (mrow Li.xs) := fun X hX => by
        have h1 := HI.out.1.at_.n.sp;dsimp only at h1;rw [HI.out.2.2.2] at h1
        exact h1.keep fun b hb => hX.block b (h1.lt hb)
       have HM := hdq6 hS19 hS19b hSn hx em hgm;have HLT := hdq2 hlg1 hlx1;clear hS19 hS19b hSn hx em hgm hcm hmj hgl m0 m1 m2 m3 m4 m5 m6 m7 m8 m9 m10 m11 m12 hlg1 hlx1
       go_wp2_with fail
       clear c4 x6;refine wp_region_held_drew ⟨(fun w' : World => w'.cell? ⟨L.g,4,none⟩ = some (.slice Li.An nn Li.cn) /\ w'.cell? ⟨w1.heap.size,6,none⟩ = some (.slice (some ⟨gm,om,none⟩) nm q.cM) /\ w'.cell? ⟨gm,om + i * 13,none⟩ = some (.int .i64 x.m.k) /\ w'.cell? ⟨gm,om + i * 13 + 1,none⟩ = some (.int .i64 x.m.f) /\ w'.cell? ⟨gm,om + i * 13 + 2,none⟩ = some (.int .i64 x.m.o) /\ w'.cell? ⟨gm,om + i * 13 + 3,none⟩ = some (.int .i64 x.m.t) /\ w'.cell? ⟨gm,om + i * 13 + 4,none⟩ = some (.int .i64 x.m.i) /\ w'.cell? ⟨gm,om + i * 13 + 5,none⟩ = some (.int .i64 x.m.l) /\ w'.cell? ⟨gm,om + i * 13 + 6,none⟩ = some (.int .i64 x.m.c) /\ w'.cell? ⟨gm,om + i * 13 + 7,none⟩ = some (.int .i64 x.m.x) /\ w'.cell? ⟨gm,om + i * 13 + 8,none⟩ = some (.bool x.m.b) /\ w'.cell? ⟨gm,om + i * 13 + 9,none⟩ = some (.slice x.A x.m.es.length x.cA) /\ w'.cell? ⟨gm,om + i * 13 + 10,none⟩ = some (.int .i64 x.m.s.i) /\ w'.cell? ⟨gm,om + i * 13 + 11,none⟩ = some (.int .i64 x.m.s.t) /\ w'.cell? ⟨gm,om + i * 13 + 12,none⟩ = some (.slice x.E x.m.s.d.length x.cE)),[14]⟩ (by kernel_rfl) (HM.out.2.1 _ blq.drew) (fun hHeld => ?_);refine lsq 15 ?_;refine puq 0 ?_;refine puq 1 ?_;refine puq 2 ?_;refine puq 3 ?_;refine tkq 4 ?_;refine puq 5 ?_;refine tkq 6 ?_;refine puq 7 ?_;refine puq 8 ?_;refine tkq 9 ?_;refine rdq1 10 fun KK hK => ?_;go_simp;refine hK.out _ _ (HM.out.2.1 _ bbq) ?_;clear hK KK hHeld;intro hHeld
       try simp only [lpq]
       refine rdq1 11 fun KK hK => ?_;refine ql qaJ _ (by rfl) _ _ (by rfl) Li.An nn Li.cn (mrow Li.xs) (by rfl) (HM.out.2.2.1 _ bbq) _ 1 1 (mrow [x]) (by rfl) (fun e => by cases e) (by rfl) (qcb x) (fun b e => by cases e; exact cells_lit (C := [.int .i64 x.m.k, .int .i64 x.m.f, .int .i64 x.m.o, .int .i64 x.m.t, .int .i64 x.m.i, .int .i64 x.m.l, .int .i64 x.m.c, .int .i64 x.m.x, .bool x.m.b, .slice x.A x.m.es.length x.cA, .int .i64 x.m.s.i, .int .i64 x.m.s.t, .slice x.E x.m.s.d.length x.cE]) (heap_alloc_new _ _)) (by omega) ?_;intro A5 n5 w5 hsp5 hA5 hg5;have hX5 := qN (w := wr) hg5 bbq;have hr5 := (hg5.block L.g (by have := hX5.size; have := HLT.out.1; omega) hn1).trans (hX5.block _ HLT.out.1);have hx5 := (hg5.block w1.heap.size (by have := hX5.size; have := HLT.out.2; omega) hn2).trans (hX5.block _ HLT.out.2);have hm5 := (hg5.block gm (by have := hX5.size; have := HM.out.2.2.2.2.2; omega) hn3).trans (hX5.block _ HM.out.2.2.2.2.2);refine hK.out _ _ (HM.out.1 w5 hr5 hx5 hm5) ?_;clear hK KK hHeld;intro hHeld
       try simp only [lpq]
       refine puq 12 ?_;refine puq 13 ?_;have e4 := hHeld.1;have f4 := qg (hr5.trans HI.out.1.head) 4;refine ltq 14 fun KK hK => ?_;go_simp;refine hK.out _ _ ?_;clear hK KK
       try simp only [lpq]
       clear e4 f4;refine dnq ?_;obtain ⟨lab2,q1,q2⟩ := HI.out.1.at_.netted x (HI.out.1.mx x (by rw [<- HM.out.2.2.2.1]; exact List.getElem_mem hxl)) hX5 (by rw [HI.out.2.2.2]; exact hsp5) hA5 hg5;have Kn := HI.out.1.move q1 rfl q2 (by decide);rw [HI.out.1.g] at Kn;dsimp only at Kn;rw [HI.out.2.2.2] at Kn;have hst := HI.out.2.1;rw [if_pos h100,HM.out.2.2.2.1] at hst;have HF := Lib.hid Kn;clear Kn q1 q2
       go_wp2_with fail
       go_roundw
       case rel => exact ⟨i + 1,_,lab2,hi2,by go_num,by rw [hst]; exact HF.out⟩
       case measure =>
        simp [intOf]
        omega
     · have y9 : decide ((nn : Int) < 100) = false := decide_eq_false (by omega)
       go_wp2_with fail
       go_roundw
       case rel => exact ⟨i + 1,Li,labi,hi2,by go_num,by rw [HI.out.2.1,if_neg h100]; exact HI.out.1⟩
       case measure =>
        simp [intOf]
        omega
   · obtain rfl : i = nm := by omega
     have hfin : ({ S4 with net := S.net ++ (N.ms.take i).take r } : Sim) = (S.keep k).1 := by
      rw [HN.out.2.1,<- HN.out.1,List.take_length]
     rw [hfin] at Ki;have HF := Lib.hid Ki;have o0 := qb Ki.out 0 (.int .i64 N.ht) rfl;have o1 := qb Ki.out 1 (.int .i64 N.hv) rfl;have o2 := qb Ki.out 2 (.slice FA N.lg.changed.length fc) rfl;have o3 := qb Ki.out 3 (.int .i64 N.took.2.sn.i) rfl;have o4 := qb Ki.out 4 (.int .i64 N.took.2.sn.t) rfl;have o5 := qb Ki.out 5 (.slice EA N.took.2.sn.d.length ec) rfl;have o6 := qb Ki.out 6 (.slice q.M N.ms.length q.cM) rfl;have o7 := qb Ki.out 7 (.slice q.T N.td.length q.cT) rfl;have r0 := qb Ki.res 0 (.int .i64 0) rfl;have r1 := qb Ki.res 1 (.int .i64 0) rfl;have r2 := qb Ki.res 2 (.slice none 0 0) rfl;have r3 := qb Ki.res 3 (.int .i64 0) rfl;have r4 := qb Ki.res 4 (.int .i64 0) rfl;have r5 := qb Ki.res 5 (.slice none 0 0) rfl;have r6 := qb Ki.res 6 (.slice none 0 0) rfl;have r7 := qb Ki.res 7 (.slice none 0 0) rfl
     have rf := fun j => qg Ki.res j
     clear Ki hfin
     go_wp2_with fail
     obtain ⟨z1,z2,z3⟩ := HF.out.back;refine bodyPost_ret (qH (n := w.heap.size) rfl rfl z1 Tryz.underlying44 rfl (by kernel_rfl)) rfl ?_;have htd2 := HF.out.td.move z3 (by decide);exact ⟨_,_,_,_,_,_,_,_,_,_,_,_,_,q.T,q.cT,Li,labi,rfl,z2,HF.out.g,HF.out.t.trans (z3.wide fun i e => by omega) (by decide),htd2.sp,htd2.lb⟩
end RegW
end Go.Proofs.YtmiijlecfiddmaaGreat
