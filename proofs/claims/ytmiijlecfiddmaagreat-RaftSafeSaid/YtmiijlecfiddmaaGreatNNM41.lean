/- A cluster: something that was done at a node is looked at. -/
import Derived.Test.YtmiijlecfiddmaaGreatNNM01
import Derived.Test.YtmiijlecfiddmaaGreatNNM39
import Derived.Test.YtmiijlecfiddmaaGreatNNM40
import Derived.Test.YtmiijlecfiddmaaGreatNNM38
import Derived.Test.YtmiijlecfiddmaaGreatNNM02
import Derived.SizedLaws
import Derived.Lib.SmallJoins
import Derived.Test.YtmiijlecfiddmaaGreatNNM04
set_option linter.unusedVariables false
set_option linter.unusedSimpArgs false
set_option maxRecDepth 100000
set_option maxHeartbeats 6400000
namespace Go.Proofs.YtmiijlecfiddmaaGreat
open Go.RowKit Go.Shelf
attribute [local go_sem] Oper.semAt_some
theorem qcG (S : Sim) (k : Nat) : (S.keep k).1.r = Sim.upd S.r k (S.r k).took.1 /\ (S.keep k).1.rds = S.rds /\ (S.keep k).1.n = S.n /\ (S.keep k).2.td = (S.r k).td := by
 unfold Sim.keep;dsimp only
 split
 · exact ⟨rfl,rfl,rfl,rfl⟩
 · split
   · exact ⟨rfl,rfl,rfl,rfl⟩
   · exact ⟨rfl,rfl,rfl,rfl⟩
theorem qcH (S : Sim) (k : Nat) : ∃ l,(S.lone k).1 = { S with ldr := l } := by
 unfold Sim.lone
 split
 · exact ⟨S.ldr,rfl⟩
 · split
   · exact ⟨S.ldr,rfl⟩
   · exact ⟨_,rfl⟩
structure Fine (S : Sim) (k : Nat) : Prop where
 n3 : S.n <= 3
 kn : k < S.n
 good : Good (S.r k).lg
 len : (S.r k).lg.l.length <= 400000
 nn : (S.r k).n <= 3
 sd : (S.r k).sn.d.length <= 50000
 cm : 0 <= (S.r k).cm /\ (S.r k).cm <= 2199023255552
 sni : (S.r k).sn.i = (S.r k).lg.i
 ms : (S.r k).ms.length <= 400000
 td : (S.r k).td.length <= 900000
 lg : (S.lg k).length <= 400000
 net : S.net.length <= 400000
 ldr : S.ldr.length <= 100000
 rds : S.rds.length <= 1000000
 all : S.all.length <= 400000
 dl : ∀ e ∈ (S.look k).1.all,e.d.length <= 1000000
theorem qjQ (S : Sim) (k : Nat) : (S.keep k).1.all = S.all := by
 unfold Sim.keep;dsimp only
 split
 · rfl
 · split <;> rfl
theorem qgA {S : Sim} {k : Nat} (h : (S.look k).2 = true) : (S.lone k).2 = true /\ ((S.lone k).1.agrees k).2 = true /\ (S.look k).1 = (((S.lone k).1.agrees k).1.keep k).1 /\ (((S.lone k).1.agrees k).1.keep k).1.told k (((S.lone k).1.agrees k).1.keep k).2.td = true := by
 unfold Sim.look at h ⊢;dsimp only at h ⊢
 by_cases h1 : (S.lone k).2 = false
 · rw [if_pos h1,h1] at h;cases h
 · rw [if_neg h1] at h ⊢
   by_cases h2 : ((S.lone k).1.agrees k).2 = false
   · rw [if_pos h2,h2] at h;cases h
   · rw [if_neg h2] at h ⊢;exact ⟨by simpa using h1,by simpa using h2,rfl,h⟩
namespace RegW
theorem qE {w : World} {S : Sim} {L : SimL} {lab : Nat -> Nat} (h : qh w S L lab) (k : Nat) (f : Fine S k) (hyes : (S.look k).2 = true) :
 Calls Tryz.prog 23 #[ptrV L.g, .int .i64 (k : Int)] w fun e w' => e = .returned (.bool true) /\ Went w w' (S.look k).1 L lab := by
 obtain ⟨y1,y2,y3,y4⟩ := qgA hyes;obtain ⟨l,hl⟩ := qcH S k;have hdl := f.dl;rw [y3] at hdl ⊢;rw [qjQ] at hdl;have hL := qij h k f.kn (by have := f.len; omega) f.nn f.ldr;rw [y1] at hL;obtain ⟨S1,hS1⟩ := exq ((S.lone k).1);rw [hS1] at hL y2 y4 hl hdl ⊢;obtain ⟨S2,hS2⟩ := exq ((S1.agrees k).1)
 have hS2' : S2.r = S.r /\ S2.n = S.n /\ S2.lg = S.lg /\ S2.net = S.net /\ S2.rds = S.rds := by
  obtain ⟨_,_,all,_,e4,_⟩ := qdE y2;rw [<- hS2,e4,hl];exact ⟨rfl,rfl,rfl,rfl,rfl⟩
 have H := hdq8 h f y2 y4 hl hdl hS2 hS2';rw [hS2];clear h f hyes y1 y2 y3 y4 hl hdl hS1 hS2 hS2'
 go_enter Tryz.func23,Tryz.ntmps23
 go_wp2_with fail
 refine hL.mono ?_;rintro e w1 ⟨rfl,L1,lab1,h1,g1,t1⟩;have hA := qgh h1 k (by rw [H.out.2.2.2.2.1]; exact H.out.2.1.kn) (by rw [H.out.2.2.2.2.1]; exact H.out.2.1.good) (by rw [H.out.2.2.2.2.1]; have := H.out.2.1.len; show (S.r k).lg.l.length <= 1000000; omega) (by rw [H.out.2.2.2.2.1]; exact H.out.2.1.nn) (by rw [H.out.2.2.2.2.1]; exact H.out.2.1.sd) (by rw [H.out.2.2.2.2.1]; exact H.out.2.1.cm) (by rw [H.out.2.2.2.2.1]; exact H.out.2.1.all) (by rw [H.out.2.2.2.2.1]; exact H.out.2.1.len) H.out.2.2.2.2.2.1 H.out.2.2.1;rw [g1,H.out.2.2.2.2.2.2.1] at hA;have H1 := hdq2 g1 t1;clear hL h1 g1 t1
 go_wp2_with fail
 refine hA.mono ?_;rintro e w2 ⟨rfl,L2,lab2,h2,g2,t2⟩;have hr2 := H.out.2.2.2.2.2.2.2;have hK := qis h2 k (by rw [hr2.2.1]; exact H.out.2.1.kn) (by rw [hr2.1]; exact H.out.2.1.good) (by rw [hr2.1]; exact H.out.2.1.len) (by rw [hr2.1]; exact H.out.2.1.sd) (by rw [hr2.2.2.1]; exact H.out.2.1.lg) (by rw [hr2.1]; exact H.out.2.1.ms) (by rw [hr2.1]; exact H.out.2.1.td) (by rw [hr2.2.2.2.1]; exact H.out.2.1.net) (by rw [hr2.1]; exact H.out.2.1.sni) (by rw [hr2.2.1]; exact H.out.2.1.n3);rw [g2,H1.out.1] at hK;have H2 := hdq2 (g2.trans H1.out.1) (H1.out.2.trans t2 (by decide));clear hA h2 g2 t2 hr2
 go_wp2_with fail
 refine hK.mono ?_;rintro e w3 ⟨i0,i1,i2,i3,F2,F5,F6,n2,d2,n5,d5,n6,d6,T,cT,L3,lab3,rfl,h3,g3,t3,hT,hTz⟩;obtain ⟨W4,hW4⟩ := exq (w3.alloc (.cells #[.int .i64 i0, .int .i64 i1, .slice F2 n2 d2, .int .i64 i2, .int .i64 i3, .slice F5 n5 d5, .slice F6 n6 d6, .slice T (S2.r k).td.length cT] 44))
 have hb4 : Below w3.heap.size w3 W4 := by rw [<- hW4]; exact blq.alloc nlq _
 have hr4 : W4.heap[w3.heap.size]? = some (.cells #[.int .i64 i0, .int .i64 i1, .slice F2 n2 d2, .int .i64 i2, .int .i64 i3, .slice F5 n5 d5, .slice F6 n6 d6, .slice T (S2.r k).td.length cT] 44) := by rw [<- hW4]; exact heap_alloc_new w3 _
 have x7 := qb hr4 7 (.slice T (S2.r k).td.length cT) rfl;have hks := qcG S2 k;have hr2 := H.out.2.2.2.2.2.2.2;have hTd := qim (h3.below hb4) k (by rw [hks.2.2.1,hr2.2.1]; exact H.out.2.1.kn) (by rw [hks.1,qm]; show (S2.r k).lg.l.length <= 1000000; rw [hr2.1]; have := H.out.2.1.len; omega) (by rw [hks.1,qm]; show (S2.r k).n <= 3; rw [hr2.1]; exact H.out.2.1.nn) (S2.r k).td T cT (hT.keep fun b hb => hb4.block b (hT.lt hb)) (by rw [hr2.1]; have := H.out.2.1.td; omega) (by rw [hks.2.1,hr2.2.2.2.2]; exact H.out.2.1.rds);have y4 := H.out.2.2.2.1;rw [H.out.2.2.2.2.2.2.1,hks.2.2.2] at y4;rw [y4,g3,H2.out.1] at hTd;have H3 := hdq4 (h3.below hb4) (g3.trans H2.out.1) ((H2.out.2.trans t3 (by decide)).trans (Turn.below hb4 h3.lim) (by decide)) hW4;clear hK h3 g3 t3 hT hTz hks hr2 y4 hb4 hr4 hW4
 go_wp2_with fail
 rw [H3.out.2.2.2];refine hTd.mono ?_;rintro e w5 ⟨rfl,hb5⟩;go_wp2;go_ret;exact ⟨rfl,L3,lab3,H3.out.1.below hb5,H3.out.2.1,H3.out.2.2.1.trans (Turn.below hb5 H3.out.1.lim) (by decide)⟩
end RegW
end Go.Proofs.YtmiijlecfiddmaaGreat
set_option linter.unusedVariables false
set_option linter.unusedSimpArgs false
set_option maxRecDepth 100000
set_option maxHeartbeats 6400000
namespace Go.Proofs.YtmiijlecfiddmaaGreat
open Go.RowKit Go.Shelf
attribute [local go_sem] Oper.semAt_some
theorem qld {id n : Int} {ht hv : Int} {s : Ent} {l : List Ent} (h : Node.can id n ht hv s l = true) : (1 <= n /\ n <= 3 /\ 0 <= id /\ id < n) /\ qcO ht hv = true /\ qak s.i s.t s.d.length = true /\ runB s.i s.t l = true /\ s.t <= ht /\ (⟨s.i,s.t,l,0⟩ : RL).lastT <= ht := by
 unfold Node.can at h;simp only [Bool.and_eq_true,decide_eq_true_eq] at h;exact h
theorem qit {i t : Int} {n : Nat} (h : qak i t n = true) : RL.base i t = true /\ n <= 50000 := by
 unfold qak at h
 split at h
 · rename_i e;refine ⟨(qb3 _ _).2 (by omega),?_⟩;simp only [decide_eq_true_eq] at h;omega
 · unfold numB at h;simp only [Bool.and_eq_true,decide_eq_true_eq] at h;exact ⟨(qb3 _ _).2 (by omega),by omega⟩
namespace RegW
theorem qhd {w : World} {S : Sim} {L : SimL} {lab : Nat -> Nat} (h : qh w S L lab) (k : Nat) (hk : k < S.n) (hc : Node.can k S.n (S.ht k) (S.hv k) (S.sn k) (S.lg k) = true) (hlg : (S.lg k).length <= 1000000) :
 Calls Tryz.prog 48 #[ptrV L.g, .int .i64 (k : Int)] w fun e w' => e = .returned (.bool true) /\ Went w w' { S with r := Sim.upd S.r k (Node.fresh k S.n (S.ht k) (S.hv k) (S.sn k) (S.lg k)) } L lab := by
 obtain ⟨q1,q2,q3,q4,q5,q6⟩ := qld hc;obtain ⟨q7,q8⟩ := qit q3;obtain ⟨b,off,eA,hpc,hpl,hpn⟩ := h.ptr hk;have hsd := h.sd k hk;have hld := h.ld k hk
 have hlt : ∀ (g o : Nat),0 < (S.sn k).d.length -> L.sE k = some ⟨g,o,none⟩ -> g < w.heap.size := fun g o h0 e => by
  obtain ⟨g',o',e',hg',_⟩ := hsd.1.2.2.2 h0;rw [e'] at e;injection e with e;injection e with e1;omega
 have hNew := fun W (hW : Below w.heap.size w W) => qdh k S.n (S.ht k) (S.hv k) (S.sn k) (S.lg k) (L.sE k) (L.sc k) (L.lA k) (L.lc k) (fun b => lab b = 0) W ⟨by omega,by omega,by omega⟩ q2 q3 q7 q4 q6 (hsd.1.below hW nlq) (fun h0 g o e => Nat.lt_of_lt_of_le (hlt g o h0 e) hW.size) q8 (hld.below hW nlq) hlg
 have c0 := qb h.row 0 _ rfl;have c1 := qb h.row 1 _ rfl;have c2 := qb h.row 2 _ rfl;have c3 := qb h.row 3 _ rfl;rw [show (simC S L)[0] = .slice L.Ar S.n L.cr from rfl,eA] at c0;rw [show (simC S L)[1] = .slice L.Ah S.n L.ch from rfl] at c1;rw [show (simC S L)[2] = .slice L.As S.n L.cs from rfl] at c2;rw [show (simC S L)[3] = .slice L.Al S.n L.cl from rfl] at c3;obtain ⟨g1,o1,e1,_,hc1,_⟩ := h.h.sp.at_ (by omega) k hk;obtain ⟨g2,o2,e2,_,hc2,_⟩ := h.s.sp.at_ (by omega) k hk;obtain ⟨g3,o3,e3,_,hc3,_⟩ := h.l.sp.at_ (by omega) k hk;rw [e1] at c1;rw [e2] at c2;rw [e3] at c3;have n1 := h.h.sp.2.1;have n2 := h.s.sp.2.1;have n3 := h.l.sp.2.1
 have hrl : (List.range S.n)[k]? = some k := by simp [hk]
 have hrk : (List.range S.n)[k]'(by simpa using hk) = k := by simp
 have d0 : w.cell? ⟨g1,o1 + k * 2,none⟩ = some (.int .i64 (S.ht k)) := by
  have := hc1 0 (by omega) (.int .i64 (S.ht k)) (by unfold qal; rw [qaP _ 2 (fun _ => rfl) _ k (by simpa using hk) 0 (by omega),hrk]; rfl)
  simpa using this
 have d1 : w.cell? ⟨g1,o1 + k * 2 + 1,none⟩ = some (.int .i64 (S.hv k)) := hc1 1 (by omega) _ (by unfold qal; rw [qaP _ 2 (fun _ => rfl) _ k (by simpa using hk) 1 (by omega),hrk]; rfl)
 have s0 : w.cell? ⟨g2,o2 + k * 3,none⟩ = some (.int .i64 (S.sn k).i) := by
  have := hc2 0 (by omega) (.int .i64 (S.sn k).i) (by unfold qac; rw [qaP _ 3 (fun _ => rfl) _ k (by simpa using hk) 0 (by omega),hrk]; rfl)
  simpa using this
 have s1 : w.cell? ⟨g2,o2 + k * 3 + 1,none⟩ = some (.int .i64 (S.sn k).t) := hc2 1 (by omega) _ (by unfold qac; rw [qaP _ 3 (fun _ => rfl) _ k (by simpa using hk) 1 (by omega),hrk]; rfl);have s2 : w.cell? ⟨g2,o2 + k * 3 + 2,none⟩ = some (.slice (L.sE k) (S.sn k).d.length (L.sc k)) := hc2 2 (by omega) _ (by unfold qac; rw [qaP _ 3 (fun _ => rfl) _ k (by simpa using hk) 2 (by omega),hrk]; rfl)
 have l0 : w.cell? ⟨g3,o3 + k,none⟩ = some (.slice (L.lA k) (S.lg k).length (L.lc k)) := by
  have := hc3 0 (by omega) (.slice (L.lA k) (S.lg k).length (L.lc k)) (by unfold logs; simp [hk])
  simpa using this
 have hSW : ∀ W,Below w.heap.size w W -> (fun w' : World => w'.cell? ⟨L.g,0,none⟩ = some (.slice (some ⟨b,off,none⟩) S.n L.cr) /\ w'.cell? ⟨L.g,1,none⟩ = some (.slice (some ⟨g1,o1,none⟩) S.n L.ch) /\ w'.cell? ⟨L.g,2,none⟩ = some (.slice (some ⟨g2,o2,none⟩) S.n L.cs) /\ w'.cell? ⟨L.g,3,none⟩ = some (.slice (some ⟨g3,o3,none⟩) S.n L.cl) /\ w'.cell? ⟨g1,o1 + k * 2,none⟩ = some (.int .i64 (S.ht k)) /\ w'.cell? ⟨g1,o1 + k * 2 + 1,none⟩ = some (.int .i64 (S.hv k)) /\ w'.cell? ⟨g2,o2 + k * 3,none⟩ = some (.int .i64 (S.sn k).i) /\ w'.cell? ⟨g2,o2 + k * 3 + 1,none⟩ = some (.int .i64 (S.sn k).t) /\ w'.cell? ⟨g2,o2 + k * 3 + 2,none⟩ = some (.slice (L.sE k) (S.sn k).d.length (L.sc k)) /\ w'.cell? ⟨g3,o3 + k,none⟩ = some (.slice (L.lA k) (S.lg k).length (L.lc k))) W := fun W hW => by
  have hc : ∀ a v,w.cell? a = some v -> W.cell? a = some v := fun a v hv => (World.cell?_of_block (hW.block a.block (World.block_lt_of_cell? w a hv))).trans hv
  exact ⟨hc _ _ c0,hc _ _ c1,hc _ _ c2,hc _ _ c3,hc _ _ d0,hc _ _ d1,hc _ _ s0,hc _ _ s1,hc _ _ s2,hc _ _ l0⟩
 have H := hdq6 h hNew hSW eA hpc c0;clear h hNew hSW eA hpc c0 c1 c2 c3 d0 d1 s0 s1 s2 l0 hc1 hc2 hc3 e1 e2 e3 hsd hld hlt q1 q2 q3 q4 q5 q6 q7 q8 hc hrl hrk
 go_enter Tryz.func48,Tryz.ntmps48
 go_wp2_with fail
 refine wp_region_held_drew ⟨(fun w' : World => w'.cell? ⟨L.g,0,none⟩ = some (.slice (some ⟨b,off,none⟩) S.n L.cr) /\ w'.cell? ⟨L.g,1,none⟩ = some (.slice (some ⟨g1,o1,none⟩) S.n L.ch) /\ w'.cell? ⟨L.g,2,none⟩ = some (.slice (some ⟨g2,o2,none⟩) S.n L.cs) /\ w'.cell? ⟨L.g,3,none⟩ = some (.slice (some ⟨g3,o3,none⟩) S.n L.cl) /\ w'.cell? ⟨g1,o1 + k * 2,none⟩ = some (.int .i64 (S.ht k)) /\ w'.cell? ⟨g1,o1 + k * 2 + 1,none⟩ = some (.int .i64 (S.hv k)) /\ w'.cell? ⟨g2,o2 + k * 3,none⟩ = some (.int .i64 (S.sn k).i) /\ w'.cell? ⟨g2,o2 + k * 3 + 1,none⟩ = some (.int .i64 (S.sn k).t) /\ w'.cell? ⟨g2,o2 + k * 3 + 2,none⟩ = some (.slice (L.sE k) (S.sn k).d.length (L.sc k)) /\ w'.cell? ⟨g3,o3 + k,none⟩ = some (.slice (L.lA k) (S.lg k).length (L.lc k))),[]⟩ (by kernel_rfl) (H.out.2.2.1 _ blq.drew) (fun hHeld => ?_);refine lsq 33 ?_;refine tkq 0 ?_;refine tkq 1 ?_;refine tkq 2 ?_;refine tkq 3 ?_;refine tkq 4 ?_;refine tkq 5 ?_;refine tkq 6 ?_;refine tkq 7 ?_;refine tkq 8 ?_;refine tkq 9 ?_;refine tkq 10 ?_;refine tkq 11 ?_;refine tkq 12 ?_;refine tkq 13 ?_;refine tkq 14 ?_;refine tkq 15 ?_;refine tkq 16 ?_;refine tkq 17 ?_;refine tkq 18 ?_;refine tkq 19 ?_;refine tkq 20 ?_;refine tkq 21 ?_;refine tkq 22 ?_;refine tkq 23 ?_;refine tkq 24 ?_;refine tkq 25 ?_;refine tkq 26 ?_;refine rdq1 27 fun KK hK => ?_;go_simp;refine (H.out.2.1 _ (by exact blq.drew)).mono ?_;rintro e9 w9 ⟨p,q9,s9,K9,rfl,R9,hf9,hb9⟩;have hbw : Below w.heap.size w w9 := (show Below w.heap.size w _ from blq.drew).trans (hb9.mono (by simp));have HR9 := hdq2 (R9.less (Z' := fun b => b < w.heap.size) fun b hb => hb) hf9;clear R9 hf9;refine hK.out _ _ (H.out.2.2.1 w9 hbw) ?_;clear hK KK hHeld;intro hHeld
 try simp only [lpq]
 refine puq 28 ?_;refine puq 29 ?_;refine puq 30 ?_;refine puq 31 ?_;refine puq 32 ?_;refine dnq ?_;have hc0 := (World.cell?_of_block (a := ⟨L.g,0,none⟩) (hbw.block L.g (World.block_lt_of_cell? w ⟨L.g,0,none⟩ H.out.2.2.2.2.2))).trans H.out.2.2.2.2.2;have hpc := (World.cell?_of_block (a := ⟨b,off + k,none⟩) (hbw.block b (World.block_lt_of_cell? w ⟨b,off + k,none⟩ H.out.2.2.2.2.1))).trans H.out.2.2.2.2.1;obtain ⟨cur,hcur⟩ := H.out.1.r.sp.block ⟨off,H.out.2.2.2.1⟩;have hfr := frozen_of_row w9 b (off + k) cur _ ((hbw.block b (hlt hcur)).trans hcur);obtain ⟨lab',z1,z2⟩ := H.out.1.ptrPut hk H.out.2.2.2.1 p (Node.fresh k S.n (S.ht k) (S.hv k) (S.sn k) (S.lg k)) hbw HR9.out.1 HR9.out.2;have HZ := hdq2 z1 z2;clear z1 z2 hcur;go_wp2;go_ret;exact ⟨rfl,_,lab',HZ.out.1,rfl,HZ.out.2.wide fun i e => by omega⟩
end RegW
end Go.Proofs.YtmiijlecfiddmaaGreat
set_option linter.unusedVariables false
set_option linter.unusedSimpArgs false
set_option maxRecDepth 100000
set_option maxHeartbeats 6400000
namespace Go.Proofs.YtmiijlecfiddmaaGreat
open Go.RowKit Go.Shelf
attribute [local go_sem] Oper.semAt_some
section
variable {J : Nat → Prop} {w w' X : World} {lab lab' : Nat → Nat} {S : Sim} {L : SimL}
theorem qhe {i : Nat} {A' : Option Addr} (hl : ∀ b,w.heap.size <= b -> lab b = 0) (hb : Below w.heap.size w w') (hA : ∀ q,blk A' q -> w.heap.size <= q /\ q < w'.heap.size) :
 ∃ lab',Turn (fun j => j = i) w w' lab lab' /\ ∀ b,blk A' b -> lab' b = i := by
 have hs := hb.size
 classical
 refine ⟨fun b => if w.heap.size <= b /\ blk A' b then i else lab b,⟨hb.os,hb.tape,hb.output,hs,fun b h1 hj => hb.block b h1,fun b h1 _ => if_neg (by omega),fun b h1 hj => .inl ?_,fun b h1 => ?_,fun b h1 => ?_⟩,fun b h1 => ?_⟩
 · show (if w.heap.size <= b /\ blk A' b then i else lab b) = i;rw [if_neg (by omega)];exact hj
 · show (if w.heap.size <= b /\ blk A' b then i else lab b) = i \/ (if w.heap.size <= b /\ blk A' b then i else lab b) = 0
   split
   · exact .inl rfl
   · exact .inr (hl b h1)
 · show (if w.heap.size <= b /\ blk A' b then i else lab b) = 0
   rw [if_neg fun e => by have := hA b e.2; omega]
   exact hl b (by omega)
 · exact if_pos ⟨(hA b h1).1,h1⟩
theorem qh.netPut (h : qh w S L lab) {w5 : World} {A5 : Option Addr} {n5 : Nat} (ys : List MLay) (hb : Below w.heap.size w w5) (h5 : Sp 51 13 w5 A5 ys.length n5 (mrow ys)) (hA : ∀ b,blk A5 b -> w.heap.size <= b) (hy : ∀ y ∈ ys,qo w (fun b => lab b = 0) y.m y.A y.cA y.E y.cE) :
 ∃ lab',qh (w5.setCell ⟨L.g,4,none⟩ (.slice A5 ys.length n5)) { S with net := ys.map (·.m) } { L with An := A5,cn := n5,xs := ys } lab' /\ Turn (fun i => i = 1 \/ i = 6) w (w5.setCell ⟨L.g,4,none⟩ (.slice A5 ys.length n5)) lab lab' := by
 obtain ⟨lab1,t1,r1⟩ := qhe (i := 6) h.lim hb (fun b hb => ⟨hA b hb,h5.lt hb⟩);have ra : Row w5 lab1 6 51 13 A5 ys.length n5 (mrow ys) := ⟨h5,r1⟩;have e1 := t1.old L.g (hlt h.row) (by rw [h.me]; decide)
 have hgm : lab1 L.g = 1 := by rw [e1,h.me]
 have hrow5 : w5.heap[L.g]? = some (.cells (simC S L) 73) := (t1.same L.g (hlt h.row) (by rw [h.me]; decide)).trans h.row;have t3 : Turn (fun i => i = 1) w5 (w5.setCell ⟨L.g,4,none⟩ (.slice A5 ys.length n5)) lab1 lab1 := qj t1.lim hgm;have t : Turn (fun i => i = 1 \/ i = 6) w _ lab lab1 := (t1.wide fun i e => .inr e).trans (t3.wide fun i e => .inl e) (by decide);have hr5 := setCell_at w5 ⟨L.g,4,none⟩ (.slice A5 ys.length n5) _ _ _ rfl hrow5;refine ⟨lab1,?_,t⟩
 exact {
  lim := t.lim,
  row := by rw [hr5]; simp [simC],
  me := hgm,
  r := h.r.move t (by decide : ¬ (2 = 1 \/ 2 = 6)),
  h := h.h.move t (by decide : ¬ (3 = 1 \/ 3 = 6)),
  s := h.s.move t (by decide : ¬ (4 = 1 \/ 4 = 6)),
  sd := fun j hj => (h.sd j hj).1.moved (h.sd j hj).2 t (by decide : ¬ (0 = 1 \/ 0 = 6)),
  l := h.l.move t (by decide : ¬ (5 = 1 \/ 5 = 6)),
  ld := fun j hj => (h.ld j hj).moved t (by decide : ¬ (0 = 1 \/ 0 = 6)),
  n := by have := ra.move t3 (by decide); simpa using this,
  nm := rfl,
  nd := fun x hx => (hy x hx).moved t (by decide),
  t := h.t.move t (by decide : ¬ (7 = 1 \/ 7 = 6)),
  d := h.d.move t (by decide : ¬ (8 = 1 \/ 8 = 6)),
  a := h.a.move t (by decide : ¬ (9 = 1 \/ 9 = 6)),
  am := h.am,
  ad := fun x hx => (h.ad x hx).moved t (by decide : ¬ (0 = 1 \/ 0 = 6)),
  q := h.q.move t (by decide : ¬ (10 = 1 \/ 10 = 6)),
  nodes := fun j hj => (h.nodes j hj).move t (by omega) (by omega) }
/-- The message that is handed back. -/
theorem qiu {rb : Nat} (h : qh w S L lab) (hr : w.heap[rb]? = some (.cells #[.int .i64 0, .int .i64 0, .int .i64 0, .int .i64 0, .int .i64 0, .int .i64 0, .int .i64 0, .int .i64 0, .bool false, .slice none 0 0, .int .i64 0, .int .i64 0, .slice none 0 0] 51)) (hrl : lab rb = 9999) (hn : S.n <= 3) (x : MLay) : (((((((((((((w.setCell ⟨rb,0,none⟩ (.int .i64 x.m.k)).setCell ⟨rb,1,none⟩ (.int .i64 x.m.f)).setCell ⟨rb,2,none⟩ (.int .i64 x.m.o)).setCell ⟨rb,3,none⟩ (.int .i64 x.m.t)).setCell ⟨rb,4,none⟩ (.int .i64 x.m.i)).setCell ⟨rb,5,none⟩ (.int .i64 x.m.l)).setCell ⟨rb,6,none⟩ (.int .i64 x.m.c)).setCell ⟨rb,7,none⟩ (.int .i64 x.m.x)).setCell ⟨rb,8,none⟩ (.bool x.m.b)).setCell ⟨rb,9,none⟩ (.slice x.A x.m.es.length x.cA)).setCell ⟨rb,10,none⟩ (.int .i64 x.m.s.i)).setCell ⟨rb,11,none⟩ (.int .i64 x.m.s.t)).setCell ⟨rb,12,none⟩ (.slice x.E x.m.s.d.length x.cE)).heap[rb]? = some (.cells #[.int .i64 x.m.k, .int .i64 x.m.f, .int .i64 x.m.o, .int .i64 x.m.t, .int .i64 x.m.i, .int .i64 x.m.l, .int .i64 x.m.c, .int .i64 x.m.x, .bool x.m.b, .slice x.A x.m.es.length x.cA, .int .i64 x.m.s.i, .int .i64 x.m.s.t, .slice x.E x.m.s.d.length x.cE] 51) /\ qh (((((((((((((w.setCell ⟨rb,0,none⟩ (.int .i64 x.m.k)).setCell ⟨rb,1,none⟩ (.int .i64 x.m.f)).setCell ⟨rb,2,none⟩ (.int .i64 x.m.o)).setCell ⟨rb,3,none⟩ (.int .i64 x.m.t)).setCell ⟨rb,4,none⟩ (.int .i64 x.m.i)).setCell ⟨rb,5,none⟩ (.int .i64 x.m.l)).setCell ⟨rb,6,none⟩ (.int .i64 x.m.c)).setCell ⟨rb,7,none⟩ (.int .i64 x.m.x)).setCell ⟨rb,8,none⟩ (.bool x.m.b)).setCell ⟨rb,9,none⟩ (.slice x.A x.m.es.length x.cA)).setCell ⟨rb,10,none⟩ (.int .i64 x.m.s.i)).setCell ⟨rb,11,none⟩ (.int .i64 x.m.s.t)).setCell ⟨rb,12,none⟩ (.slice x.E x.m.s.d.length x.cE)) S L lab /\ Turn (fun i => i = 9999) w (((((((((((((w.setCell ⟨rb,0,none⟩ (.int .i64 x.m.k)).setCell ⟨rb,1,none⟩ (.int .i64 x.m.f)).setCell ⟨rb,2,none⟩ (.int .i64 x.m.o)).setCell ⟨rb,3,none⟩ (.int .i64 x.m.t)).setCell ⟨rb,4,none⟩ (.int .i64 x.m.i)).setCell ⟨rb,5,none⟩ (.int .i64 x.m.l)).setCell ⟨rb,6,none⟩ (.int .i64 x.m.c)).setCell ⟨rb,7,none⟩ (.int .i64 x.m.x)).setCell ⟨rb,8,none⟩ (.bool x.m.b)).setCell ⟨rb,9,none⟩ (.slice x.A x.m.es.length x.cA)).setCell ⟨rb,10,none⟩ (.int .i64 x.m.s.i)).setCell ⟨rb,11,none⟩ (.int .i64 x.m.s.t)).setCell ⟨rb,12,none⟩ (.slice x.E x.m.s.d.length x.cE)) lab lab := by
 have t0 := qj (i := 9999) (j := 0) (v := .int .i64 x.m.k) h.lim hrl;have t1 := qj (i := 9999) (j := 1) (v := .int .i64 x.m.f) t0.lim hrl;have t2 := qj (i := 9999) (j := 2) (v := .int .i64 x.m.o) t1.lim hrl;have t3 := qj (i := 9999) (j := 3) (v := .int .i64 x.m.t) t2.lim hrl;have t4 := qj (i := 9999) (j := 4) (v := .int .i64 x.m.i) t3.lim hrl;have t5 := qj (i := 9999) (j := 5) (v := .int .i64 x.m.l) t4.lim hrl;have t6 := qj (i := 9999) (j := 6) (v := .int .i64 x.m.c) t5.lim hrl;have t7 := qj (i := 9999) (j := 7) (v := .int .i64 x.m.x) t6.lim hrl;have t8 := qj (i := 9999) (j := 8) (v := .bool x.m.b) t7.lim hrl;have t9 := qj (i := 9999) (j := 9) (v := .slice x.A x.m.es.length x.cA) t8.lim hrl;have t10 := qj (i := 9999) (j := 10) (v := .int .i64 x.m.s.i) t9.lim hrl;have t11 := qj (i := 9999) (j := 11) (v := .int .i64 x.m.s.t) t10.lim hrl;have t12 := qj (i := 9999) (j := 12) (v := .slice x.E x.m.s.d.length x.cE) t11.lim hrl;have tt := ((((((((((((t0.trans t1 (by decide)).trans t2 (by decide)).trans t3 (by decide)).trans t4 (by decide)).trans t5 (by decide)).trans t6 (by decide)).trans t7 (by decide)).trans t8 (by decide)).trans t9 (by decide)).trans t10 (by decide)).trans t11 (by decide)).trans t12 (by decide));have r0 := stq 0 (.int .i64 x.m.k) hr;have r1 := stq 1 (.int .i64 x.m.f) r0;have r2 := stq 2 (.int .i64 x.m.o) r1;have r3 := stq 3 (.int .i64 x.m.t) r2;have r4 := stq 4 (.int .i64 x.m.i) r3;have r5 := stq 5 (.int .i64 x.m.l) r4;have r6 := stq 6 (.int .i64 x.m.c) r5;have r7 := stq 7 (.int .i64 x.m.x) r6;have r8 := stq 8 (.bool x.m.b) r7;have r9 := stq 9 (.slice x.A x.m.es.length x.cA) r8;have r10 := stq 10 (.int .i64 x.m.s.i) r9;have r11 := stq 11 (.int .i64 x.m.s.t) r10;have r12 := stq 12 (.slice x.E x.m.s.d.length x.cE) r11;exact ⟨r12,h.move tt (fun i hi => by omega) (fun k hk => by omega),tt⟩
theorem qiv (xs : List MLay) (x : Nat) : xs.take x ++ xs.drop (x + 1) = xs.eraseIdx x := (List.eraseIdx_eq_take_drop_succ xs x).symm
theorem qiw (xs : List MLay) (x : Nat) : (xs.eraseIdx x).map (·.m) = (xs.map (·.m)).eraseIdx x := by
 rw [List.eraseIdx_eq_take_drop_succ,List.eraseIdx_eq_take_drop_succ,List.map_append,List.map_take,List.map_drop]
theorem qcI (xs : List MLay) (k : Nat) : (mrow xs).take (k * 13) = mrow (xs.take k) := by
 induction xs generalizing k with
 | nil => simp [mrow]
 | cons y ys ih =>
   cases k with
   | zero => simp [mrow]
   | succ k =>
     rw [List.take_succ_cons];show List.take ((k + 1) * 13) (qaF y ++ mrow ys) = qaF y ++ mrow (ys.take k);rw [List.take_append,show (qaF y).length = 13 from rfl,List.take_of_length_le (by show 13 <= _; omega),<- ih k]
     congr 2
     omega
theorem qem (xs : List MLay) (k : Nat) : (mrow xs).drop (k * 13) = mrow (xs.drop k) := by
 have h1 : mrow xs = mrow (xs.take k) ++ mrow (xs.drop k) := by rw [<- qa6,List.take_append_drop]
 rw [<- qcI] at h1;have h2 := (List.take_append_drop (k * 13) (mrow xs)).symm
 have h3 : (mrow xs).take (k * 13) ++ (mrow xs).drop (k * 13) = (mrow xs).take (k * 13) ++ mrow (xs.drop k) := by rw [<- h2]; exact h1
 exact List.append_cancel_left h3
theorem qfS (xs : List MLay) : ∀ u ∈ mrow xs,u.oneCell' = true := by
 intro u hu;obtain ⟨x,_,hx⟩ := List.mem_flatMap.1 hu;exact qcb x u (by simp [mrow,hx])
end
def Taking (w w' : World) (S : Sim) (L : SimL) (lab : Nat -> Nat) (i : Nat) (stays : Bool) (e : Ending) : Prop :=
 ∃ (x : MLay) (L' : SimL) (lab' : Nat -> Nat),e = .returned (msgV x.m x.A x.cA x.E x.cE) /\ S.net[i]? = some x.m /\ qo w' (fun b => lab' b = 0) x.m x.A x.cA x.E x.cE /\ qh w' (if stays = true then S else { S with net := S.net.eraseIdx i }) L' lab' /\ L'.g = L.g /\ Turn (fun i => i = 1 \/ i = 6 \/ i = 9999) w w' lab lab'
namespace RegW
theorem qaQ {w : World} {S : Sim} {L : SimL} {lab : Nat -> Nat} (h : qh w S L lab) (i : Nat) (hi : i < S.net.length) (hn3 : S.n <= 3) (hnl : S.net.length <= 400000) (stays : Bool) :
 Calls Tryz.prog 26 #[ptrV L.g, .int .i64 (i : Int), .bool stays] w fun e w' => Taking w w' S L lab i stays e := by
 obtain ⟨W0,hW0⟩ := exq (w.alloc (.cells #[.int .i64 0, .int .i64 0, .int .i64 0, .int .i64 0, .int .i64 0, .int .i64 0, .int .i64 0, .int .i64 0, .bool false, .slice none 0 0, .int .i64 0, .int .i64 0, .slice none 0 0] 51))
 have hr0 : W0.heap[w.heap.size]? = some (.cells #[.int .i64 0, .int .i64 0, .int .i64 0, .int .i64 0, .int .i64 0, .int .i64 0, .int .i64 0, .int .i64 0, .bool false, .slice none 0 0, .int .i64 0, .int .i64 0, .slice none 0 0] 51) := by rw [<- hW0]; exact heap_alloc_new w _
 have t0 : Turn (fun i => i = 9999) w W0 lab (fun b => if b = w.heap.size then 9999 else lab b) := by rw [<- hW0]; exact qfR h.lim
 obtain ⟨lab0,hlab0⟩ : ∃ lab0,(fun b => if b = w.heap.size then 9999 else lab b) = lab0 := ⟨_,rfl⟩
 have hlb0 : lab0 w.heap.size = 9999 := by rw [<- hlab0]; exact if_pos rfl
 rw [hlab0] at t0;have h0 := h.move t0 (fun i hi => by omega) (fun k hk => by omega)
 have hxs : L.xs.length = S.net.length := by rw [<- h0.nm,List.length_map]
 have hil : i < L.xs.length := by omega
 obtain ⟨x,hx⟩ := exq (L.xs[i])
 have hxm : S.net[i]? = some x.m := by rw [<- h0.nm,List.getElem?_map,List.getElem?_eq_getElem hil,hx]; rfl
 obtain ⟨nn,hnn⟩ := exq (S.net.length);have c4 := qb h0.row 4 _ rfl;rw [show (simC S L)[4] = .slice L.An S.net.length L.cn from rfl,hnn] at c4;obtain ⟨gm,om,em,hgm,hcm,_⟩ := h0.n.sp.at_ (by omega) i hi;have hcap := h0.n.sp.2.1;rw [hnn] at hcap hi hnl;rw [em] at c4
 have hmj : ∀ j (hj : j < 13) u,(qaF x)[j]? = some u -> W0.cell? ⟨gm,om + i * 13 + j,none⟩ = some u := fun j hj u hu => hcm j hj u (by
  unfold mrow;rw [qaP qaF 13 (fun _ => rfl) L.xs i hil j hj,hx]
  exact hu)
 have m0 : W0.cell? ⟨gm,om + i * 13,none⟩ = some (.int .i64 x.m.k) := hmj 0 (by omega) _ rfl;have m1 : W0.cell? ⟨gm,om + i * 13 + 1,none⟩ = some (.int .i64 x.m.f) := hmj 1 (by omega) _ rfl;have m2 : W0.cell? ⟨gm,om + i * 13 + 2,none⟩ = some (.int .i64 x.m.o) := hmj 2 (by omega) _ rfl;have m3 : W0.cell? ⟨gm,om + i * 13 + 3,none⟩ = some (.int .i64 x.m.t) := hmj 3 (by omega) _ rfl;have m4 : W0.cell? ⟨gm,om + i * 13 + 4,none⟩ = some (.int .i64 x.m.i) := hmj 4 (by omega) _ rfl;have m5 : W0.cell? ⟨gm,om + i * 13 + 5,none⟩ = some (.int .i64 x.m.l) := hmj 5 (by omega) _ rfl;have m6 : W0.cell? ⟨gm,om + i * 13 + 6,none⟩ = some (.int .i64 x.m.c) := hmj 6 (by omega) _ rfl;have m7 : W0.cell? ⟨gm,om + i * 13 + 7,none⟩ = some (.int .i64 x.m.x) := hmj 7 (by omega) _ rfl;have m8 : W0.cell? ⟨gm,om + i * 13 + 8,none⟩ = some (.bool x.m.b) := hmj 8 (by omega) _ rfl;have m9 : W0.cell? ⟨gm,om + i * 13 + 9,none⟩ = some (.slice x.A x.m.es.length x.cA) := hmj 9 (by omega) _ rfl;have m10 : W0.cell? ⟨gm,om + i * 13 + 10,none⟩ = some (.int .i64 x.m.s.i) := hmj 10 (by omega) _ rfl;have m11 : W0.cell? ⟨gm,om + i * 13 + 11,none⟩ = some (.int .i64 x.m.s.t) := hmj 11 (by omega) _ rfl;have m12 : W0.cell? ⟨gm,om + i * 13 + 12,none⟩ = some (.slice x.E x.m.s.d.length x.cE) := hmj 12 (by omega) _ rfl;have H := hdq11 h0 t0 hr0 hlb0 hxm hx em hnn hxs hn3 hW0;clear h0 t0 hr0 hlb0 hxm hx em hnn hcm hmj hlab0 h hxs
 go_enter Tryz.func26,Tryz.ntmps26
 go_upto_region 1 with fail
 clear hW0;obtain ⟨W1,hW1⟩ := exq (W0.alloc (.cells #[.int .i64 x.m.k, .int .i64 x.m.f, .int .i64 x.m.o, .int .i64 x.m.t, .int .i64 x.m.i, .int .i64 x.m.l, .int .i64 x.m.c, .int .i64 x.m.x, .bool x.m.b, .slice x.A x.m.es.length x.cA, .int .i64 x.m.s.i, .int .i64 x.m.s.t, .slice x.E x.m.s.d.length x.cE] 51))
 have hb1 : Below W0.heap.size W0 W1 := by rw [<- hW1]; exact blq.alloc nlq _
 have hbx : W1.heap[W0.heap.size]? = some (.cells #[.int .i64 x.m.k, .int .i64 x.m.f, .int .i64 x.m.o, .int .i64 x.m.t, .int .i64 x.m.i, .int .i64 x.m.l, .int .i64 x.m.c, .int .i64 x.m.x, .bool x.m.b, .slice x.A x.m.es.length x.cA, .int .i64 x.m.s.i, .int .i64 x.m.s.t, .slice x.E x.m.s.d.length x.cE] 51) := by rw [<- hW1]; exact heap_alloc_new W0 _
 have hrb : W1.heap[w.heap.size]? = some (.cells #[.int .i64 0, .int .i64 0, .int .i64 0, .int .i64 0, .int .i64 0, .int .i64 0, .int .i64 0, .int .i64 0, .bool false, .slice none 0 0, .int .i64 0, .int .i64 0, .slice none 0 0] 51) := (hb1.block _ (hlt H.out.2.2.1)).trans H.out.2.2.1;have hMsg : qo W1 (fun b => lab0 b = 0) x.m x.A x.cA x.E x.cE := (H.out.1.nd x (by rw [<- H.out.2.2.2.2.2.1]; exact List.getElem_mem hil)).moved (J := fun _ => False) (Turn.below hb1 H.out.1.lim) (fun e => e);have h1 := H.out.1.below hb1;have H1 := hdq5 h1 hb1 hbx hrb hMsg;have c4b := (World.cell?_of_block (a := ⟨L.g,4,none⟩) (hb1.block L.g (World.block_lt_of_cell? W0 ⟨L.g,4,none⟩ c4))).trans c4;clear h1 hb1 hMsg
 cases stays with
 | true =>
   obtain ⟨⟨b0,b1,b2,b3,b4,b5,b6,b7,b8,b9,b10,b11,b12⟩,_⟩ := qu hbx;obtain ⟨⟨a0,a1,a2,a3,a4,a5,a6,a7,a8,a9,a10,a11,a12⟩,⟨f0,f1,f2,f3,f4,f5,f6,f7,f8,f9,f10,f11,f12⟩⟩ := qu hrb;clear hbx hrb c4b
   go_wp2_with fail
   obtain ⟨z1,z2,z3⟩ := qiu H1.out.1 H1.out.2.2.2.1 H.out.2.2.2.1 H.out.2.2.2.2.2.2.2.2.2.1 x;refine bodyPost_ret (qH (n := w.heap.size) rfl rfl z1 Tryz.underlying51 rfl (by kernel_rfl)) rfl ?_;exact ⟨x,L,lab0,rfl,H.out.2.2.2.2.1,H1.out.2.2.2.2.moved z3 (by decide),by rw [if_pos rfl]; exact z2,rfl,((H.out.2.1.wide fun i e => by omega).trans (Turn.below H1.out.2.1 H.out.1.lim) (by decide)).trans (z3.wide fun i e => by omega) (by decide)⟩
 | false =>
   clear hbx hrb
   have hlx : (mrow L.xs).length = nn * 13 := by rw [qgc,H.out.2.2.2.2.2.2.2.2.1,H.out.2.2.2.2.2.2.2.1]
   have hSp : Sp 51 13 W1 (some ⟨gm,om,none⟩) nn L.cn (mrow L.xs) := by
    have h9 := H1.out.1.n.sp;rw [H.out.2.2.2.2.2.2.2.1,H.out.2.2.2.2.2.2.1] at h9;exact h9
   have hgm1 : gm < W1.heap.size := Nat.lt_of_lt_of_le hgm H1.out.2.1.size;have hsl : ∀ W,(Instr.slice 41 (.slice (some ⟨gm,om,none⟩) nn L.cn) none (some (.int .i64 (i : Int))) none).run Tryz.prog W = .ok (.slice (some ⟨gm,om,none⟩) i L.cn) W := fun W => qb6 qaJ (by omega) W;have hsf : ∀ W,(Instr.slice 41 (.slice (some ⟨gm,om,none⟩) nn L.cn) (some (.int .i64 ((i : Int) + 1))) none none).run Tryz.prog W = .ok (.slice (qab 13 (some ⟨gm,om,none⟩) L.cn (i + 1)) (nn - (i + 1)) (L.cn - (i + 1))) W := fun W => qdo qaJ (k := i + 1) (by omega) hcap W;have z1 : IntKind.i64.wrap ((i : Int) + 1) = (i : Int) + 1 := IntWalk.i64_in _ (by omega)
   have hSn : ∀ X,(X : World).heap[gm]? = W1.heap[gm]? -> Sp 51 13 X (some ⟨gm,om,none⟩) nn L.cn (mrow L.xs) := fun X h => hSp.keep fun b hb => by
    obtain ⟨o,e⟩ := hb;injection e with e;injection e with e1;rw [<- e1];exact h
   have hlg : L.g < W1.heap.size := World.block_lt_of_cell? W1 ⟨L.g,4,none⟩ c4b;have hcW : ∀ X,(X : World).heap[L.g]? = W1.heap[L.g]? -> X.cell? ⟨L.g,4,none⟩ = some (.slice (some ⟨gm,om,none⟩) nn L.cn) := fun X h => (World.cell?_of_block h).trans c4b;have HS := hdq3 hSn hcW hlx;clear hSn hcW hSp hlx
   go_wp2_with fail
   clear hW1;refine wp_region_held_drew ⟨(fun w' : World => w'.cell? ⟨L.g,4,none⟩ = some (.slice (some ⟨gm,om,none⟩) nn L.cn)),[19]⟩ (by kernel_rfl) c4b (fun hHeld => ?_);refine lsq 20 ?_;refine puq 0 ?_;refine puq 2 ?_;refine puq 3 ?_;refine puq 4 ?_;refine tkq 5 ?_;refine puq 6 ?_;refine puq 7 ?_;refine puq 9 ?_;refine puq 10 ?_;refine puq 11 ?_;refine tkq 12 ?_;refine puq 13 ?_;refine puq 14 ?_;refine puq 15 ?_;refine rdq1 1 fun KK hK => ?_;go_simp;refine hK.out _ _ (HS.out.2.1 _ (show _ = _ from (show Below W1.heap.size W1 _ from bbq).block _ hlg)) ?_;clear hK KK hHeld;intro hHeld
   try simp only [lpq]
   refine rdq1 8 fun KK hK => ?_;refine ql qaJ _ (by rfl) _ _ (by rfl) _ 0 0 [] (by rfl) ⟨rfl,nlq,(fun e => by cases e),fun a e => ⟨_,_,#[],e.symm.trans rfl |> Option.some.inj,heap_alloc_new _ _,by simp,fun j u hu => by simp at hu⟩⟩ (some ⟨gm,om,none⟩) i L.cn (mrow (L.xs.take i)) (by rfl) (fun e => by cases e) (by rw [<- qcI,List.length_take,HS.out.2.2]; exact Nat.min_eq_left (by have := Nat.mul_le_mul_right 13 (Nat.le_of_lt hi); omega)) (qfS _) (fun b e j u hu => ((HS.out.1 _ (show _ = _ from (show Below W1.heap.size W1 _ from bbq).block _ hgm1)).take (k := i) (by omega)).cells e j u (by rw [qcI]; exact hu)) (by omega) ?_;intro A5 n5 w5 hsp5 hA5 hg5;have hX5 := qN (w := W1) hg5 bbq
   have hA5n : ∀ b,blk A5 b -> W1.heap.size <= b := fun b hb => by
    rcases hA5 b hb with h9 | h9
    · obtain ⟨o,e⟩ := h9; injection e with e; injection e with e1; rw [<- e1]; exact nlq
    · have := hX5.size; omega
   have hnB : ∀ b,b < W1.heap.size -> w5.heap[b]? = W1.heap[b]? := fun b hb => (hg5.block b (by have := hX5.size; omega) (fun e => by obtain ⟨o,e⟩ := e; injection e with e; injection e with e1; rw [<- e1] at hb; exact Nat.lt_irrefl _ hb)).trans (hX5.block b hb)
   refine hK.out _ _ (HS.out.2.1 _ (hnB _ hlg)) ?_;clear hK KK hHeld;intro hHeld
   try simp only [lpq]
   refine rdq1 16 fun KK hK => ?_;refine ql qaJ _ (by rfl) _ _ (by rfl) A5 (0 + i) n5 _ (by rfl) hsp5 (qab 13 (some ⟨gm,om,none⟩) L.cn (i + 1)) (nn - (i + 1)) (L.cn - (i + 1)) (mrow (L.xs.drop (i + 1))) (by rfl) (fun e => by have h9 := ((HS.out.1 w5 (hnB _ hgm1)).drop (k := i + 1) (by omega)).2.2.1 e; omega) (by rw [<- qem,List.length_drop,HS.out.2.2,Nat.sub_mul]) (qfS _) (fun b e j u hu => ((HS.out.1 w5 (hnB _ hgm1)).drop (k := i + 1) (by omega)).cells e j u (by rw [qem]; exact hu)) (by omega) ?_;intro A6 n6 w6 hsp6 hA6 hg6
   have hn6 : ∀ b,b < W1.heap.size -> w6.heap[b]? = W1.heap[b]? := fun b hb => (hg6.block b (by have := hX5.size; have := hg5.size; omega) (fun e => by have := hA5n b e; omega)).trans (hnB b hb)
   refine hK.out _ _ (HS.out.2.1 _ (hn6 _ hlg)) ?_;clear hK KK hHeld;intro hHeld
   try simp only [lpq]
   refine puq 17 ?_;refine puq 18 ?_;have e4 := HS.out.2.1 _ (hn6 _ hlg);have f4 := qg ((hn6 _ hlg).trans H1.out.1.row) 4;refine ltq 19 fun KK hK => ?_;go_simp;refine hK.out _ _ ?_;clear hK KK
   try simp only [lpq]
   clear e4 f4;refine dnq ?_
   have hlen : 0 + i + (nn - (i + 1)) = (L.xs.eraseIdx i).length := by
    rw [List.length_eraseIdx,if_pos hil,H.out.2.2.2.2.2.2.2.2.1,H.out.2.2.2.2.2.2.2.1];omega
   have hb6 : Below W1.heap.size W1 w6 := by
    have s1 := hX5.size;have s2 := hg5.size;have s3 := hg6.size;refine ⟨hg6.os.symm.trans (hg5.os.symm.trans hX5.os),hg6.tape.symm.trans (hg5.tape.symm.trans hX5.tape),hg6.output.symm.trans (hg5.output.symm.trans hX5.output),by omega,fun b hb => ?_⟩;exact (hg6.block b (by omega) fun e => by have := hA5n b e; omega).trans ((hg5.block b (by omega) fun e => by obtain ⟨o,e⟩ := e; injection e with e; injection e with e1; omega).trans (hX5.block b hb))
   have hrow6 : mrow (L.xs.take i) ++ mrow (L.xs.drop (i + 1)) = mrow (L.xs.eraseIdx i) := by rw [<- qa6,qiv]
   have hlen2 : i + (nn - (i + 1)) = (L.xs.eraseIdx i).length := by omega
   rw [hlen] at hsp6;rw [hlen2];rw [List.nil_append,hrow6] at hsp6
   obtain ⟨lab2,q1,q2⟩ := H1.out.1.netPut (L.xs.eraseIdx i) hb6 hsp6 (fun b hb => by
    rcases hA6 b hb with h9 | h9
    · exact hA5n b h9
    · have := hX5.size; have := hg5.size; omega) (fun y hy => H1.out.1.nd y (List.mem_of_mem_eraseIdx hy))
   rw [qiw,H1.out.1.nm] at q1;have hob : lab0 W0.heap.size = 0 := H.out.1.lim _ nlq;have hbx := (q2.same _ (hlt H1.out.2.2.1) (by rw [hob]; decide)).trans H1.out.2.2.1;have hrb := (q2.same _ (hlt H1.out.2.2.2.1) (by rw [H.out.2.2.2.1]; decide)).trans H1.out.2.2.2.1;have hrl2 : lab2 w.heap.size = 9999 := (q2.old _ (hlt H1.out.2.2.2.1) (by rw [H.out.2.2.2.1]; decide)).trans H.out.2.2.2.1;have hM2 := H1.out.2.2.2.2.moved q2 (by decide);obtain ⟨W7,hW7⟩ := exq (w6.setCell ⟨L.g,4,none⟩ (.slice A6 (L.xs.eraseIdx i).length n6));rw [hW7] at q1 q2 hbx hrb hM2 ⊢;clear hW7 hsp6 hA6 hg6 hsp5 hA5 hg5 hX5 hb6 hrow6 hA5n;obtain ⟨⟨b0,b1,b2,b3,b4,b5,b6,b7,b8,b9,b10,b11,b12⟩,_⟩ := qu hbx;obtain ⟨⟨a0,a1,a2,a3,a4,a5,a6,a7,a8,a9,a10,a11,a12⟩,⟨f0,f1,f2,f3,f4,f5,f6,f7,f8,f9,f10,f11,f12⟩⟩ := qu hrb;have HQ := hdq5 q1 q2 hrb hrl2 hM2;clear q1 q2 hbx hrb hrl2 hM2
   go_wp2_with fail
   obtain ⟨z1,z2,z3⟩ := qiu HQ.out.1 HQ.out.2.2.1 HQ.out.2.2.2.1 H.out.2.2.2.2.2.2.2.2.2.1 x;refine bodyPost_ret (qH (n := w.heap.size) rfl rfl z1 Tryz.underlying51 rfl (by kernel_rfl)) rfl ?_;exact ⟨x,{ L with An := A6,cn := n6,xs := L.xs.eraseIdx i },lab2,rfl,H.out.2.2.2.2.1,HQ.out.2.2.2.2.moved z3 (by decide),by rw [if_neg (by decide)]; exact z2,rfl,(((H.out.2.1.wide fun i e => by omega).trans (Turn.below H1.out.2.1 H.out.1.lim) (by decide)).trans (HQ.out.2.1.wide fun i e => by omega) (by decide)).trans (z3.wide fun i e => by omega) (by decide)⟩
end RegW
end Go.Proofs.YtmiijlecfiddmaaGreat
set_option linter.unusedVariables false
set_option linter.unusedSimpArgs false
set_option maxRecDepth 100000
set_option maxHeartbeats 200000
namespace Go.Proofs.YtmiijlecfiddmaaGreat
open Go.ChangeShapes Go.WideShapes Go.ChangeAt Go.RowKit Go.Deep
section
variable {H : Type} {enc : TypeId × Value → H} {P : Program} {W : World} {sp : Nat → Bool} {hd : Bool}
end
end Go.Proofs.YtmiijlecfiddmaaGreat
set_option linter.unusedVariables false
set_option linter.unusedSimpArgs false
set_option maxRecDepth 100000
set_option maxHeartbeats 200000
namespace Go.Proofs.YtmiijlecfiddmaaGreat
open Go.ChangeShapes Go.WideShapes Go.ChangeAt Go.RowKit Go.Deep
section
variable {H : Type} {enc : TypeId × Value → H} {P : Program} {W : World} {sp : Nat → Bool} {hd : Bool}
end
end Go.Proofs.YtmiijlecfiddmaaGreat
