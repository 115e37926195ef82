/- A cluster: is a leader the only one of its term? -/
import Derived.Test.YtmiijlecfiddmaaGreatNNM01
import Derived.Test.YtmiijlecfiddmaaGreatNNM10
import Derived.Test.YtmiijlecfiddmaaGreatNNM27
import Derived.Test.YtmiijlecfiddmaaGreatNNM28
set_option linter.unusedVariables false
set_option linter.unusedSimpArgs false
set_option maxRecDepth 100000
set_option maxHeartbeats 3200000
namespace Go.Proofs.YtmiijlecfiddmaaGreat
open Go.RowKit Go.Shelf
attribute [local go_sem] Oper.semAt_some
section
variable {w w' : World} {S : Sim} {L : SimL} {lab : Nat → Nat}
theorem qh.ptr (h : qh w S L lab) {k : Nat} (hk : k < S.n) : ∃ b off,L.Ar = some ⟨b,off,none⟩ /\ w.cell? ⟨b,off + k,none⟩ = some (ptrV (L.ps k)) /\ lab b = 2 /\ S.n <= L.cr := by
 obtain ⟨b,off,e,_,hc,_⟩ := h.r.sp.at_ (by omega) k hk;refine ⟨b,off,e,?_,h.r.lb b ⟨off,e⟩,h.r.sp.2.1⟩;have := hc 0 (by omega) (ptrV (L.ps k)) (by unfold ptrs; simp [hk])
 simpa using this
end
theorem qg6 {l : List (Int × Nat)} {t : Int} {j : Nat} (hj : j < l.length) (h : l[j].1 = t) (hb : ∀ i (hi : i < l.length),i < j -> l[i].1 ≠ t) : l.find? (fun x => decide (x.1 = t)) = some l[j] := by
 induction l generalizing j with
 | nil => exact absurd hj (by simp)
 | cons x l ih =>
   cases j with
   | zero => rw [List.find?_cons_of_pos (by exact decide_eq_true h)]; rfl
   | succ j =>
     have h0 : x.1 ≠ t := hb 0 (by simp) (by omega);rw [List.find?_cons_of_neg (by simpa using h0)];exact ih (by simpa using hj) h fun i hi hij => hb (i + 1) (by simpa using hi) (by omega)
theorem qgg {l : List (Int × Nat)} {t : Int} (hb : ∀ i (hi : i < l.length),l[i].1 ≠ t) : l.find? (fun x => decide (x.1 = t)) = none := by
 refine List.find?_eq_none.2 fun x hx => ?_;obtain ⟨i,hi,rfl⟩ := List.getElem_of_mem hx
 simpa using hb i hi
theorem qjG {S : Sim} {k : Nat} (h : (S.r k).ro ≠ 3) : S.lone k = (S,true) := if_pos h
theorem qkN {S : Sim} {k j : Nat} (h : (S.r k).ro = 3) (hj : j < S.ldr.length) (he : S.ldr[j].1 = (S.r k).ht) (hb : ∀ i (hi : i < S.ldr.length),i < j -> S.ldr[i].1 ≠ (S.r k).ht) : S.lone k = (S,decide (S.ldr[j].2 = k)) := by
 unfold Sim.lone;rw [if_neg (fun e => e h),qg6 hj he hb]
theorem qjH {S : Sim} {k : Nat} (h : (S.r k).ro = 3) (hb : ∀ i (hi : i < S.ldr.length),S.ldr[i].1 ≠ (S.r k).ht) : S.lone k = ({ S with ldr := S.ldr ++ [((S.r k).ht,k)] },true) := by
 unfold Sim.lone;rw [if_neg (fun e => e h),qgg hb]
theorem qN {w X w' : World} {A : Option Addr} (hg : Grew X w' A) (h : Below w.heap.size w X) : Below w.heap.size w X := h
namespace RegW
theorem qij {w : World} {S : Sim} {L : SimL} {lab : Nat -> Nat} (h : qh w S L lab) (k : Nat) (hk : k < S.n) (hl : (S.r k).lg.l.length <= 1000000) (hn : (S.r k).n <= 3) (hld : S.ldr.length <= 100000) :
 Calls Tryz.prog 50 #[ptrV L.g, .int .i64 (k : Int)] w fun e w' => e = .returned (.bool (S.lone k).2) /\ Went w w' (S.lone k).1 L lab := by
 obtain ⟨q,s,xs,K,R,hf⟩ := h.nodes k hk;have hS := qaE R hl hn;obtain ⟨b,off,eA,hpc,hpl,hpn⟩ := h.ptr hk;have c0 := qb h.row 0 _ rfl;have H := Lib.hid h;rw [show (simC S L)[0] = .slice L.Ar S.n L.cr from rfl,eA] at c0;obtain ⟨N,hN⟩ := exq (S.r k);rw [hN] at hS hn hl;have HN := Lib.hid hN;clear R hf h hN
 go_enter Tryz.func50,Tryz.ntmps50
 go_wp2_with fail
 refine hS.mono ?_;rintro e w2 ⟨NA,nc,MA,mc,rfl,_,_,_,_,hb2⟩
 by_cases hro : N.ro = 3
 · have e1 : (N.ro != 3) = false := by rw [hro]; rfl
   have HR := Lib.hid hro;have hbs := hb2.size;clear hro;have hb3 : Below w.heap.size w (w2.alloc (.cells #[.int .i64 N.ro, .int .i64 N.ld, .int .i64 N.wk, .int .i64 N.ht, .int .i64 N.hv, .int .i64 N.cm, .int .i64 N.lg.i, .int .i64 N.lg.lastI, .slice NA N.n nc, .slice MA N.n mc] 48)) := hb2.alloc hb2.size _;have H3 := H.out.below hb3;have hbx := heap_alloc_new w2 (.cells #[.int .i64 N.ro, .int .i64 N.ld, .int .i64 N.wk, .int .i64 N.ht, .int .i64 N.hv, .int .i64 N.cm, .int .i64 N.lg.i, .int .i64 N.lg.lastI, .slice NA N.n nc, .slice MA N.n mc] 48);have c5 := qb H3.row 5 _ rfl;have c6 := qb H3.row 6 _ rfl;rw [show (simC S L)[5] = .slice L.At S.ldr.length L.ct from rfl] at c5;rw [show (simC S L)[6] = .slice L.Ad S.ldr.length L.cd from rfl] at c6;have HH := hdq3 H3 hb3 hbx;clear H3 hb3 hbx hb2 c0 hpc hpl hS
   go_wp2_with fail
   obtain ⟨W3,hW3⟩ := exq (w2.alloc (.cells #[.int .i64 N.ro, .int .i64 N.ld, .int .i64 N.wk, .int .i64 N.ht, .int .i64 N.hv, .int .i64 N.cm, .int .i64 N.lg.i, .int .i64 N.lg.lastI, .slice NA N.n nc, .slice MA N.n mc] 48));rw [hW3] at HH c5 c6 ⊢;clear c5 c6
   go_loopw [23] (fun v23 wr => ∃ j : Nat,j <= S.ldr.length /\ v23 = .int .i64 (j : Int) /\ Below W3.heap.size W3 wr /\ ∀ i (hi : i < S.ldr.length),i < j -> S.ldr[i].1 ≠ N.ht) (fun v23 _ => S.ldr.length - (intOf v23).toNat)
   case atStart => exact ⟨0,Nat.zero_le _,rfl,blq,fun i _ hi => absurd hi (by omega)⟩
   case round =>
    obtain ⟨j,hj,rfl,hbr,hno⟩ := hrel;have HR3 := hdq4 (HH.out.1.below hbr) (HH.out.2.1.trans (hbr.mono HH.out.2.1.size)) ((hbr.block _ (hlt HH.out.2.2)).trans HH.out.2.2) hbr;clear hbr
    by_cases hj2 : j < S.ldr.length
    · have l1 : decide ((j : Int) < (S.ldr.length : Int)) = true := decide_eq_true (by omega);have c5 := qb HR3.out.1.row 5 _ rfl;have c6 := qb HR3.out.1.row 6 _ rfl;rw [show (simC S L)[5] = .slice L.At S.ldr.length L.ct from rfl] at c5;rw [show (simC S L)[6] = .slice L.Ad S.ldr.length L.cd from rfl] at c6;obtain ⟨g5,o5,eT,_,hcT,_⟩ := HR3.out.1.t.sp.at_ (by omega) j hj2;obtain ⟨g6,o6,eD,_,hcD,_⟩ := HR3.out.1.d.sp.at_ (by omega) j hj2;rw [eT] at c5;rw [eD] at c6
      have t5 : wr.cell? ⟨g5,o5 + j,none⟩ = some (.int .i64 S.ldr[j].1) := by
       have := hcT 0 (by omega) (.int .i64 S.ldr[j].1) (by simp [hj2])
       simpa using this
      have t6 : wr.cell? ⟨g6,o6 + j,none⟩ = some (.int .i64 (S.ldr[j].2 : Int)) := by
       have := hcD 0 (by omega) (.int .i64 (S.ldr[j].2 : Int)) (by simp [hj2])
       simpa using this
      have hcpT := HR3.out.1.t.sp.2.1;have hcpD := HR3.out.1.d.sp.2.1;have x3 := qb HR3.out.2.2.1 3 _ rfl;obtain ⟨u,hu⟩ : ∃ u : Int,S.ldr[j].1 = u := ⟨_,rfl⟩;obtain ⟨z,hz⟩ : ∃ z : Nat,S.ldr[j].2 = z := ⟨_,rfl⟩;rw [hu] at t5;rw [hz] at t6;have HU := hdq5 hu hz hno eT eD;clear hu hz hno hcT hcD eT eD
      by_cases hut : u = N.ht
      · have y1 : (u == N.ht) = true := by rw [hut]; exact beq_self_eq_true _
        have HE := Lib.hid hut;clear hut
        go_wp2_with fail
        go_quiet (fail)
        go_wp2;go_ret;have e3 : S.lone k = (S,decide (S.ldr[j].2 = k)) := qkN (by rw [HN.out]; exact HR.out) hj2 (by rw [HU.out.1,HN.out]; exact HE.out) (by rw [HN.out]; exact HU.out.2.2.1)
        have e4 : ((z : Int) == (k : Int)) = decide (S.ldr[j].2 = k) := by
         rw [HU.out.2.1]
         by_cases hzk : z = k
         · rw [hzk]; simp
         · rw [decide_eq_false hzk]; exact beq_eq_false_iff_ne.2 (by omega)
        rw [e3,e4];exact ⟨rfl,Went.same H.out (by have h9 := HR3.out.2.1; first | exact h9 | exact below_drewN h9 _)⟩
      · have y1 : (u == N.ht) = false := by simpa using hut
        have HE := Lib.hid hut;clear hut
        go_wp2_with fail
        go_quiet (fail)
        go_wp2
        go_roundw
        case rel =>
         refine ⟨j + 1,hj2,by go_num,(by have h9 := HR3.out.2.2.2; first | exact h9 | exact below_drewN h9 _),fun i hi hij => ?_⟩
         by_cases hij2 : i < j
         · exact HU.out.2.2.1 i hi hij2
         · obtain rfl : i = j := by omega
           rw [HU.out.1];exact HE.out
        case measure =>
         simp [intOf]
         omega
    · obtain rfl : j = S.ldr.length := by omega
      have e3 : S.lone k = ({ S with ldr := S.ldr ++ [((S.r k).ht,k)] },true) := qjH (by rw [HN.out]; exact HR.out) (fun i hi => by rw [HN.out]; exact hno i hi hi);have c5 := qb HR3.out.1.row 5 _ rfl;have c6 := qb HR3.out.1.row 6 _ rfl;rw [show (simC S L)[5] = .slice L.At S.ldr.length L.ct from rfl] at c5;rw [show (simC S L)[6] = .slice L.Ad S.ldr.length L.cd from rfl] at c6;have x3 := qb HR3.out.2.2.1 3 _ rfl;have HE3 := Lib.hid e3;clear hno e3;have hT7 := HR3.out.1.t.lb;have hD8 := HR3.out.1.d.lb;have HS5 : ∀ X,Below wr.heap.size wr X -> Sp 2 1 X L.At S.ldr.length L.ct (S.ldr.map fun x => .int .i64 x.1) := fun X hX => HR3.out.1.t.sp.keep fun b hb => hX.block b (HR3.out.1.t.sp.lt hb)
      have HS6 : ∀ X w5 Y,Below wr.heap.size wr X -> Grew X w5 L.At -> Below w5.heap.size w5 Y -> Sp 3 1 Y L.Ad S.ldr.length L.cd (S.ldr.map fun x => .int .i64 (x.2 : Int)) := fun X w5 Y hX hg hY => HR3.out.1.d.sp.keep fun b hb => by
       have h1 := HR3.out.1.d.sp.lt hb;have h2 := hX.size;exact (hY.block b (by have := hg.size; omega)).trans ((hg.block b (by omega) fun e => by have := hT7 b e; have := hD8 b hb; omega).trans (hX.block b h1))
      have HRw : ∀ X,Below wr.heap.size wr X -> X.heap[L.g]? = some (.cells (simC S L) 73) := fun X hX => (hX.block _ (hlt HR3.out.1.row)).trans HR3.out.1.row;have hg1 := HR3.out.1.me
      have hnT : ¬ blk L.At L.g := fun e => by have := hT7 _ e; omega
      have hnD : ¬ blk L.Ad L.g := fun e => by have := hD8 _ e; omega
      have h1a : ∀ u ∈ [Value.int .i64 N.ht],u.oneCell' = true := fun u hu => by rw [List.mem_singleton.1 hu]; rfl
      have h1b : ∀ u ∈ [Value.int .i64 (k : Int)],u.oneCell' = true := fun u hu => by rw [List.mem_singleton.1 hu]; rfl
      have hgl := hlt HR3.out.1.row
      have hnew : ∀ b,wr.heap.size <= b -> ¬ blk L.At b := fun b h1 e => by have := HR3.out.1.t.sp.lt e; omega
      have gF : ∀ X,Below wr.heap.size wr X -> X.cell? ⟨L.g,5,none⟩ = some (.slice L.At S.ldr.length L.ct) /\ X.cell? ⟨L.g,6,none⟩ = some (.slice L.Ad S.ldr.length L.cd) /\ X.cell? ⟨w2.heap.size,3,none⟩ = some (.int .i64 N.ht) := fun X hX => ⟨qb (HRw X hX) 5 _ rfl,qb (HRw X hX) 6 _ rfl,qb ((hX.block _ (hlt HR3.out.2.2.1)).trans HR3.out.2.2.1) 3 _ rfl⟩;obtain ⟨ga5,ga6,ga3⟩ := gF (wr.alloc (.cells #[.int .i64 (k : Int)] 3)) (blq.alloc nlq _);obtain ⟨gb5,gb6,gb3⟩ := gF (wr.alloc (.cells #[.int .i64 N.ht] 2)) (blq.alloc nlq _);clear gF;have hlb := H.out.lim _ hbs
      have hnB : ¬ blk L.At w2.heap.size := fun e => by have := hT7 _ e; omega
      have hnB2 : ¬ blk L.Ad w2.heap.size := fun e => by have := hD8 _ e; omega
      have gS : ∀ X : World,X.heap[L.g]? = some (.cells (simC S L) 73) -> X.heap[w2.heap.size]? = some (.cells #[.int .i64 N.ro, .int .i64 N.ld, .int .i64 N.wk, .int .i64 N.ht, .int .i64 N.hv, .int .i64 N.cm, .int .i64 N.lg.i, .int .i64 N.lg.lastI, .slice NA N.n nc, .slice MA N.n mc] 48) -> X.cell? ⟨L.g,5,none⟩ = some (.slice L.At S.ldr.length L.ct) /\ X.cell? ⟨L.g,6,none⟩ = some (.slice L.Ad S.ldr.length L.cd) /\ X.cell? ⟨w2.heap.size,3,none⟩ = some (.int .i64 N.ht) := fun X h1 h2 => ⟨qb h1 5 _ rfl,qb h1 6 _ rfl,qb h2 3 _ rfl⟩
      have gX : ∀ X : World,Below wr.heap.size wr X -> X.heap[w2.heap.size]? = some (.cells #[.int .i64 N.ro, .int .i64 N.ld, .int .i64 N.wk, .int .i64 N.ht, .int .i64 N.hv, .int .i64 N.cm, .int .i64 N.lg.i, .int .i64 N.lg.lastI, .slice NA N.n nc, .slice MA N.n mc] 48) := fun X hX => (hX.block _ (hlt HR3.out.2.2.1)).trans HR3.out.2.2.1;have gW : ∀ X : World,Below wr.heap.size wr X -> X.cell? ⟨L.g,5,none⟩ = some (.slice L.At S.ldr.length L.ct) /\ X.cell? ⟨L.g,6,none⟩ = some (.slice L.Ad S.ldr.length L.cd) /\ X.cell? ⟨w2.heap.size,3,none⟩ = some (.int .i64 N.ht) := fun X hX => gS X (HRw X hX) (gX X hX);have HGS := Lib.hid gS;have HGX := Lib.hid gX;have HGW := Lib.hid gW;have hbx2 := hlt HR3.out.2.2.1;clear hT7 hD8 gS gX gW c5 c6 x3
      go_wp2_with fail
      go_upto_region 10 with fail
      refine wp_region_held_drew ⟨(fun w' => w'.cell? ⟨L.g,5,none⟩ = some (.slice L.At S.ldr.length L.ct) /\ w'.cell? ⟨L.g,6,none⟩ = some (.slice L.Ad S.ldr.length L.cd) /\ w'.cell? ⟨w2.heap.size,3,none⟩ = some (.int .i64 N.ht)),[20,23]⟩ (by kernel_rfl) (HGW.out _ blq.drew) (fun hHeld => ?_);refine lsq 24 ?_;refine puq 0 ?_;refine puq 1 ?_;refine puq 2 ?_;refine puq 3 ?_;refine puq 4 ?_;refine tkq 5 ?_;refine puq 6 ?_;refine puq 7 ?_;refine tkq 8 ?_;refine puq 11 ?_;refine puq 12 ?_;refine puq 13 ?_;refine tkq 14 ?_;refine puq 15 ?_;refine rdq2 9 16 (fun KK hK => ?_) (fun KK hK => ?_)
      · go_simp;refine hK.out _ _ (HGW.out _ bbr) ?_;clear hK KK hHeld;intro hHeld
        try simp only [lpq]
        refine rdq2 10 16 (fun KK hK => ?_) (fun KK hK => ?_)
        · refine ql qZ _ (by rfl) _ _ (by rfl) L.At S.ldr.length L.ct (S.ldr.map fun x => .int .i64 x.1) (by rfl) (HS5 _ bbr) _ 1 1 [.int .i64 N.ht] (by rfl) (fun e => by cases e) (by rfl) h1a (fun b e => by cases e; exact cells_lit (C := [.int .i64 N.ht]) (by first | exact heap_alloc_new _ _ | exact heap_alloc2_new _ _ _ | exact (Below.heap_alloc _ _ _ (by simp)).trans (heap_alloc_new _ _))) (by omega) ?_;intro A5 n5 w5 hsp5 hA5 hg5;have hX5 := qN (w := wr) hg5 bbr;have hr5 := (hg5.block L.g (by have := hX5.size; omega) hnT).trans (HRw _ hX5);have hx5 := (hg5.block w2.heap.size (by have := hX5.size; omega) hnB).trans (HGX.out _ hX5);have hg5w := hg5.size;refine hK.out _ _ (HGS.out w5 hr5 hx5) ?_;clear hK KK hHeld;intro hHeld
          try simp only [lpq]
          refine rdq1 16 fun KK hK => ?_;go_simp;refine hK.out _ _ (HGS.out _ ((bbr : Below w5.heap.size w5 _).block _ (hlt hr5) |>.trans hr5) (((bbr : Below w5.heap.size w5 _).block _ (hlt hx5)).trans hx5)) ?_;clear hK KK hHeld;intro hHeld
          try simp only [lpq]
          refine rdq1 17 fun KK hK => ?_;refine ql qdb _ (by rfl) _ _ (by rfl) L.Ad S.ldr.length L.cd (S.ldr.map fun x => .int .i64 (x.2 : Int)) (by rfl) (HS6 _ _ _ hX5 hg5 bbr) _ 1 1 [.int .i64 (k : Int)] (by rfl) (fun e => by cases e) (by rfl) h1b (fun b e => by cases e; exact cells_lit (C := [.int .i64 (k : Int)]) (by first | exact heap_alloc_new _ _ | exact (hg5.block _ (by first | (simp; done) | (simp; omega)) (hnew _ (by first | (simp; done) | (simp; omega)))).trans (heap_alloc_new _ _) | exact (hg5.block _ (by first | (simp; done) | (simp; omega)) (hnew _ (by first | (simp; done) | (simp; omega)))).trans (heap_alloc2_new _ _ _) | exact (hg5.block _ (by first | (simp; done) | (simp; omega)) (hnew _ (by first | (simp; done) | (simp; omega)))).trans ((Below.heap_alloc _ _ _ (by simp)).trans (heap_alloc_new _ _)))) (by omega) ?_;intro A6 n6 w6 hsp6 hA6 hg6;have hY5 := qN (w := w5) hg6 bbr;have hr6 := (hg6.block L.g (by have := hY5.size; have := hlt hr5; omega) hnD).trans ((hY5.block _ (hlt hr5)).trans hr5);have hx6 := (hg6.block w2.heap.size (by have := hY5.size; have := hlt hx5; omega) hnB2).trans ((hY5.block _ (hlt hx5)).trans hx5);refine hK.out _ _ (HGS.out w6 hr6 hx6) ?_;clear hK KK hHeld;intro hHeld
          try simp only [lpq]
          refine puq 18 ?_;refine puq 19 ?_;have e5 := hHeld.1;have f5 := qg hr6 5;refine ltq 20 fun KK hK => ?_;go_simp;refine hK.out _ _ ?_;clear hK KK
          try simp only [lpq]
          clear e5 f5;refine plq 21 ?_;refine plq 22 ?_;have hr7 := setCell_at w6 ⟨L.g,5,none⟩ (.slice A5 (S.ldr.length + 1) n5) _ _ _ rfl hr6;have e6 : (w6.setCell ⟨L.g,5,none⟩ (.slice A5 (S.ldr.length + 1) n5)).cell? ⟨L.g,6,none⟩ = some (.slice L.Ad S.ldr.length L.cd) := qb hr7 6 _ rfl;have f6 := qg hr7 6;refine ltq 23 fun KK hK => ?_;go_simp;refine hK.out _ _ ?_;clear hK KK
          try simp only [lpq]
          refine dnq ?_;go_wp2;go_ret;have e3 := HE3.out;rw [HN.out] at e3;rw [e3];exact ⟨rfl,Went.after H.out HR3.out.2.1 (HR3.out.1.led N.ht k hX5 hsp5 hA5 hg5 hY5 hsp6 hA6 hg6)⟩
        · go_simp;refine hK.out _ _ (HGW.out _ bbr) ?_;clear hK KK hHeld;intro hHeld
          try simp only [lpq]
          refine rdq1 10 fun KK hK => ?_;refine ql qZ _ (by rfl) _ _ (by rfl) L.At S.ldr.length L.ct (S.ldr.map fun x => .int .i64 x.1) (by rfl) (HS5 _ bbr) _ 1 1 [.int .i64 N.ht] (by rfl) (fun e => by cases e) (by rfl) h1a (fun b e => by cases e; exact cells_lit (C := [.int .i64 N.ht]) (by first | exact heap_alloc_new _ _ | exact heap_alloc2_new _ _ _ | exact (Below.heap_alloc _ _ _ (by simp)).trans (heap_alloc_new _ _))) (by omega) ?_;intro A5 n5 w5 hsp5 hA5 hg5;have hX5 := qN (w := wr) hg5 bbr;have hr5 := (hg5.block L.g (by have := hX5.size; omega) hnT).trans (HRw _ hX5);have hx5 := (hg5.block w2.heap.size (by have := hX5.size; omega) hnB).trans (HGX.out _ hX5);have hg5w := hg5.size;refine hK.out _ _ (HGS.out w5 hr5 hx5) ?_;clear hK KK hHeld;intro hHeld
          try simp only [lpq]
          refine rdq1 17 fun KK hK => ?_;refine ql qdb _ (by rfl) _ _ (by rfl) L.Ad S.ldr.length L.cd (S.ldr.map fun x => .int .i64 (x.2 : Int)) (by rfl) (HS6 _ _ _ hX5 hg5 bbr) _ 1 1 [.int .i64 (k : Int)] (by rfl) (fun e => by cases e) (by rfl) h1b (fun b e => by cases e; exact cells_lit (C := [.int .i64 (k : Int)]) (by first | exact heap_alloc_new _ _ | exact (hg5.block _ (by first | (simp; done) | (simp; omega)) (hnew _ (by first | (simp; done) | (simp; omega)))).trans (heap_alloc_new _ _) | exact (hg5.block _ (by first | (simp; done) | (simp; omega)) (hnew _ (by first | (simp; done) | (simp; omega)))).trans (heap_alloc2_new _ _ _) | exact (hg5.block _ (by first | (simp; done) | (simp; omega)) (hnew _ (by first | (simp; done) | (simp; omega)))).trans ((Below.heap_alloc _ _ _ (by simp)).trans (heap_alloc_new _ _)))) (by omega) ?_;intro A6 n6 w6 hsp6 hA6 hg6;have hY5 := qN (w := w5) hg6 bbr;have hr6 := (hg6.block L.g (by have := hY5.size; have := hlt hr5; omega) hnD).trans ((hY5.block _ (hlt hr5)).trans hr5);have hx6 := (hg6.block w2.heap.size (by have := hY5.size; have := hlt hx5; omega) hnB2).trans ((hY5.block _ (hlt hx5)).trans hx5);refine hK.out _ _ (HGS.out w6 hr6 hx6) ?_;clear hK KK hHeld;intro hHeld
          try simp only [lpq]
          refine puq 18 ?_;refine puq 19 ?_;have e5 := hHeld.1;have f5 := qg hr6 5;refine ltq 20 fun KK hK => ?_;go_simp;refine hK.out _ _ ?_;clear hK KK
          try simp only [lpq]
          clear e5 f5;refine plq 21 ?_;refine plq 22 ?_;have hr7 := setCell_at w6 ⟨L.g,5,none⟩ (.slice A5 (S.ldr.length + 1) n5) _ _ _ rfl hr6;have e6 : (w6.setCell ⟨L.g,5,none⟩ (.slice A5 (S.ldr.length + 1) n5)).cell? ⟨L.g,6,none⟩ = some (.slice L.Ad S.ldr.length L.cd) := qb hr7 6 _ rfl;have f6 := qg hr7 6;refine ltq 23 fun KK hK => ?_;go_simp;refine hK.out _ _ ?_;clear hK KK
          try simp only [lpq]
          refine dnq ?_;go_wp2;go_ret;have e3 := HE3.out;rw [HN.out] at e3;rw [e3];exact ⟨rfl,Went.after H.out HR3.out.2.1 (HR3.out.1.led N.ht k hX5 hsp5 hA5 hg5 hY5 hsp6 hA6 hg6)⟩
      · go_simp;refine hK.out _ _ (HGW.out _ bbr) ?_;clear hK KK hHeld;intro hHeld
        try simp only [lpq]
        refine rdq1 9 fun KK hK => ?_;go_simp;refine hK.out _ _ (HGW.out _ bbr) ?_;clear hK KK hHeld;intro hHeld
        try simp only [lpq]
        refine rdq1 10 fun KK hK => ?_;refine ql qZ _ (by rfl) _ _ (by rfl) L.At S.ldr.length L.ct (S.ldr.map fun x => .int .i64 x.1) (by rfl) (HS5 _ bbr) _ 1 1 [.int .i64 N.ht] (by rfl) (fun e => by cases e) (by rfl) h1a (fun b e => by cases e; exact cells_lit (C := [.int .i64 N.ht]) (by first | exact heap_alloc_new _ _ | exact heap_alloc2_new _ _ _ | exact (Below.heap_alloc _ _ _ (by simp)).trans (heap_alloc_new _ _))) (by omega) ?_;intro A5 n5 w5 hsp5 hA5 hg5;have hX5 := qN (w := wr) hg5 bbr;have hr5 := (hg5.block L.g (by have := hX5.size; omega) hnT).trans (HRw _ hX5);have hx5 := (hg5.block w2.heap.size (by have := hX5.size; omega) hnB).trans (HGX.out _ hX5);have hg5w := hg5.size;refine hK.out _ _ (HGS.out w5 hr5 hx5) ?_;clear hK KK hHeld;intro hHeld
        try simp only [lpq]
        refine rdq1 17 fun KK hK => ?_;refine ql qdb _ (by rfl) _ _ (by rfl) L.Ad S.ldr.length L.cd (S.ldr.map fun x => .int .i64 (x.2 : Int)) (by rfl) (HS6 _ _ _ hX5 hg5 bbr) _ 1 1 [.int .i64 (k : Int)] (by rfl) (fun e => by cases e) (by rfl) h1b (fun b e => by cases e; exact cells_lit (C := [.int .i64 (k : Int)]) (by first | exact heap_alloc_new _ _ | exact (hg5.block _ (by first | (simp; done) | (simp; omega)) (hnew _ (by first | (simp; done) | (simp; omega)))).trans (heap_alloc_new _ _) | exact (hg5.block _ (by first | (simp; done) | (simp; omega)) (hnew _ (by first | (simp; done) | (simp; omega)))).trans (heap_alloc2_new _ _ _) | exact (hg5.block _ (by first | (simp; done) | (simp; omega)) (hnew _ (by first | (simp; done) | (simp; omega)))).trans ((Below.heap_alloc _ _ _ (by simp)).trans (heap_alloc_new _ _)))) (by omega) ?_;intro A6 n6 w6 hsp6 hA6 hg6;have hY5 := qN (w := w5) hg6 bbr;have hr6 := (hg6.block L.g (by have := hY5.size; have := hlt hr5; omega) hnD).trans ((hY5.block _ (hlt hr5)).trans hr5);have hx6 := (hg6.block w2.heap.size (by have := hY5.size; have := hlt hx5; omega) hnB2).trans ((hY5.block _ (hlt hx5)).trans hx5);refine hK.out _ _ (HGS.out w6 hr6 hx6) ?_;clear hK KK hHeld;intro hHeld
        try simp only [lpq]
        refine puq 18 ?_;refine puq 19 ?_;have e5 := hHeld.1;have f5 := qg hr6 5;refine ltq 20 fun KK hK => ?_;go_simp;refine hK.out _ _ ?_;clear hK KK
        try simp only [lpq]
        clear e5 f5;refine plq 21 ?_;refine plq 22 ?_;have hr7 := setCell_at w6 ⟨L.g,5,none⟩ (.slice A5 (S.ldr.length + 1) n5) _ _ _ rfl hr6;have e6 : (w6.setCell ⟨L.g,5,none⟩ (.slice A5 (S.ldr.length + 1) n5)).cell? ⟨L.g,6,none⟩ = some (.slice L.Ad S.ldr.length L.cd) := qb hr7 6 _ rfl;have f6 := qg hr7 6;refine ltq 23 fun KK hK => ?_;go_simp;refine hK.out _ _ ?_;clear hK KK
        try simp only [lpq]
        refine dnq ?_;go_wp2;go_ret;have e3 := HE3.out;rw [HN.out] at e3;rw [e3];exact ⟨rfl,Went.after H.out HR3.out.2.1 (HR3.out.1.led N.ht k hX5 hsp5 hA5 hg5 hY5 hsp6 hA6 hg6)⟩
 · have e1 : (N.ro != 3) = true := by simpa using hro
   clear hS
   go_wp2_with fail
   go_ret;rw [qjG (by rw [HN.out]; exact hro)];exact ⟨rfl,Went.same H.out (hb2.alloc hb2.size _)⟩
end RegW
end Go.Proofs.YtmiijlecfiddmaaGreat
set_option linter.unusedVariables false
set_option linter.unusedSimpArgs false
set_option maxRecDepth 100000
set_option maxHeartbeats 200000
namespace Go.Proofs.YtmiijlecfiddmaaGreat
open Go.RowKit
structure RS where
 A : Option Addr
 n : Nat
 c : Nat
 vs : List Value
def q4 {α : Type} (a b c d : α) : Nat -> α := fun i => if i = 0 then a else if i = 1 then b else if i = 2 then c else d
theorem qfG {α : Type} (a b c d x : α) : Sim.upd (q4 a b c d) 0 x = q4 x b c d := by funext i; unfold Sim.upd q4; by_cases h : i = 0 <;> simp [h]
theorem qfH {α : Type} (a b c d x : α) : Sim.upd (q4 a b c d) 1 x = q4 a x c d := by funext i; unfold Sim.upd q4; by_cases h : i = 1 <;> simp [h]
theorem qfI {α : Type} (a b c d x : α) : Sim.upd (q4 a b c d) 2 x = q4 a b x d := by funext i; unfold Sim.upd q4; by_cases h : i = 2 <;> simp [h]
theorem qfJ {α : Type} (a b c d x : α) : ∀ i,i < 4 -> Sim.upd (q4 a b c d) 3 x i = q4 a b c x i := by
 intro i hi
 have : i = 0 \/ i = 1 \/ i = 2 \/ i = 3 := by omega
 rcases this with rfl | rfl | rfl | rfl <;> rfl
def rT : Nat -> TypeId := q4 33 40 25 22
def rZ : Nat -> Nat := q4 1 2 3 1
def rU (p : Nat) : Nat -> List Value := q4 [ptrV p] [.int .i64 0, .int .i64 (-1)] [.int .i64 0, .int .i64 0, .slice none 0 0] [.slice none 0 0]
structure Mid4 (X0 : World) (lab0 : Nat -> Nat) (p : Nat) (W : World) (r : Nat -> RS) (o : Nat -> Option Nat) : Prop where
 ex : ∃ lab,Turn (fun i => 2 <= i /\ i <= 5) X0 W lab0 lab /\ (∀ i,i < 4 -> Row W lab (2 + i) (rT i) (rZ i) (r i).A (r i).n (r i).c (r i).vs) /\ ∀ i b,i < 4 -> o i = some b -> W.heap[b]? = some (.cells (rU p i).toArray (rT i)) /\ lab b = 0
section
variable {X0 W W' : World} {lab0 : Nat → Nat} {p : Nat} {r : Nat → RS} {o : Nat → Option Nat}
theorem Mid4.like (M : Mid4 X0 lab0 p W r o) {r' : Nat -> RS} {o' : Nat -> Option Nat} (hr : ∀ i,i < 4 -> r i = r' i) (ho : ∀ i,i < 4 -> o i = o' i) : Mid4 X0 lab0 p W r' o' := by
 obtain ⟨lab,t,R,B⟩ := M.ex;exact ⟨lab,t,fun i hi => by rw [<- hr i hi]; exact R i hi,fun i b hi e => B i b hi (by rw [ho i hi]; exact e)⟩
theorem Mid4.alloc (M : Mid4 X0 lab0 p W r o) {i : Nat} (hi : i < 4) : Mid4 X0 lab0 p (W.alloc (.cells (rU p i).toArray (rT i))) r (Sim.upd o i (some W.heap.size)) := by
 obtain ⟨lab,t,R,B⟩ := M.ex;have hb : Below W.heap.size W (W.alloc (.cells (rU p i).toArray (rT i))) := blq.alloc nlq _;have t1 : Turn (fun _ => False) W (W.alloc (.cells (rU p i).toArray (rT i))) lab lab := Turn.below hb t.lim;refine ⟨lab,t.trans (t1.wide fun _ e => e.elim) (by decide),fun j hj => (R j hj).move t1 (fun e => e),fun j b hj e => ?_⟩
 by_cases hij : j = i
 · subst hij;rw [qm] at e;injection e with e;subst e;exact ⟨heap_alloc_new _ _,t.lim _ nlq⟩
 · rw [upd_ne _ _ hij] at e;obtain ⟨h1,h2⟩ := B j b hj e;exact ⟨(hb.block b (hlt h1)).trans h1,h2⟩
theorem Mid4.grow (M : Mid4 X0 lab0 p W r o) {i : Nat} (hi : i < 4) {A' : Option Addr} {c' : Nat} (hg : Grew W W' (r i).A) (hsp : Sp (rT i) (rZ i) W' A' ((r i).n + 1) c' ((r i).vs ++ rU p i)) (hA : ∀ q,blk A' q -> blk (r i).A q \/ W.heap.size <= q) :
 Mid4 X0 lab0 p W' (Sim.upd r i ⟨A',(r i).n + 1,c',(r i).vs ++ rU p i⟩) (Sim.upd o i none) := by
 obtain ⟨lab,t,R,B⟩ := M.ex
 obtain ⟨lab1,t1,r1⟩ := qaO t.lim blq hg (fun b hb => ⟨(R i hi).lb b hb,(R i hi).sp.lt hb⟩) hA fun b hb => hsp.lt hb
 refine ⟨lab1,t.trans (t1.wide fun j e => by omega) (by decide),fun j hj => ?_,fun j b hj e => ?_⟩
 · by_cases hij : j = i
   · subst hij;rw [qm];exact ⟨hsp,r1⟩
   · rw [upd_ne _ _ hij];exact (R j hj).move t1 (by omega)
 · by_cases hij : j = i
   · subst hij;rw [qm] at e;cases e
   · rw [upd_ne _ _ hij] at e;obtain ⟨h1,h2⟩ := B j b hj e;exact ⟨(t1.same b (hlt h1) (by rw [h2]; omega)).trans h1,by rw [t1.old b (hlt h1) (by rw [h2]; omega),h2]⟩
theorem Mid4.sp (M : Mid4 X0 lab0 p W r o) {i : Nat} (hi : i < 4) : Sp (rT i) (rZ i) W (r i).A (r i).n (r i).c (r i).vs := by
 obtain ⟨lab,t,R,B⟩ := M.ex;exact (R i hi).sp
theorem Mid4.box (M : Mid4 X0 lab0 p W r o) {i b : Nat} (hi : i < 4) (e : o i = some b) : W.heap[b]? = some (.cells (rU p i).toArray (rT i)) := by
 obtain ⟨lab,t,R,B⟩ := M.ex;exact (B i b hi e).1
theorem Mid4.same (M : Mid4 X0 lab0 p W r o) {b : Nat} (hb : b < X0.heap.size) (hl : lab0 b < 2) : W.heap[b]? = X0.heap[b]? := by
 obtain ⟨lab,t,R,B⟩ := M.ex;exact t.same b hb (by omega)
theorem Mid4.start {lab : Nat -> Nat} (hl : ∀ b,X0.heap.size <= b -> lab b = 0) (R : ∀ i,i < 4 -> Row X0 lab (2 + i) (rT i) (rZ i) (r i).A (r i).n (r i).c (r i).vs) : Mid4 X0 lab p X0 r (q4 none none none none) := by
 refine ⟨lab,Turn.below blq hl,R,fun i b hi e => ?_⟩
 have : i = 0 \/ i = 1 \/ i = 2 \/ i = 3 := by omega
 rcases this with rfl | rfl | rfl | rfl <;> cases e
end
section
variable {X0 W W' : World} {lab0 : Nat → Nat} {p : Nat} {r0 r1 r2 r3 : RS} {o0 o1 o2 o3 : Option Nat}
theorem Mid4.alloc0 (M : Mid4 X0 lab0 p W (q4 r0 r1 r2 r3) (q4 o0 o1 o2 o3)) : Mid4 X0 lab0 p (W.alloc (.cells #[ptrV p] 33)) (q4 r0 r1 r2 r3) (q4 (some W.heap.size) o1 o2 o3) :=
 (M.alloc (i := 0) (by decide)).like (fun _ _ => rfl) (fun j hj => congrFun (qfG _ _ _ _ _) j)
theorem Mid4.grow0 (M : Mid4 X0 lab0 p W (q4 r0 r1 r2 r3) (q4 o0 o1 o2 o3)) {A' : Option Addr} {c' : Nat} (hg : Grew W W' r0.A) (hsp : Sp 33 1 W' A' (r0.n + 1) c' (r0.vs ++ [ptrV p])) (hA : ∀ q,blk A' q -> blk r0.A q \/ W.heap.size <= q) : Mid4 X0 lab0 p W' (q4 ⟨A',r0.n + 1,c',r0.vs ++ [ptrV p]⟩ r1 r2 r3) (q4 none o1 o2 o3) :=
 (M.grow (i := 0) (by decide) hg hsp hA).like (fun j hj => congrFun (qfG _ _ _ _ _) j) (fun j hj => congrFun (qfG _ _ _ _ _) j)
theorem Mid4.sp0 (M : Mid4 X0 lab0 p W (q4 r0 r1 r2 r3) (q4 o0 o1 o2 o3)) : Sp 33 1 W r0.A r0.n r0.c r0.vs := M.sp (i := 0) (by decide)
theorem Mid4.box0 {b : Nat} (M : Mid4 X0 lab0 p W (q4 r0 r1 r2 r3) (q4 (some b) o1 o2 o3)) : W.heap[b]? = some (.cells #[ptrV p] 33) := M.box (i := 0) (by decide) rfl
theorem Mid4.alloc1 (M : Mid4 X0 lab0 p W (q4 r0 r1 r2 r3) (q4 o0 o1 o2 o3)) : Mid4 X0 lab0 p (W.alloc (.cells #[.int .i64 0, .int .i64 (-1)] 40)) (q4 r0 r1 r2 r3) (q4 o0 (some W.heap.size) o2 o3) :=
 (M.alloc (i := 1) (by decide)).like (fun _ _ => rfl) (fun j hj => congrFun (qfH _ _ _ _ _) j)
theorem Mid4.grow1 (M : Mid4 X0 lab0 p W (q4 r0 r1 r2 r3) (q4 o0 o1 o2 o3)) {A' : Option Addr} {c' : Nat} (hg : Grew W W' r1.A) (hsp : Sp 40 2 W' A' (r1.n + 1) c' (r1.vs ++ [.int .i64 0, .int .i64 (-1)])) (hA : ∀ q,blk A' q -> blk r1.A q \/ W.heap.size <= q) : Mid4 X0 lab0 p W' (q4 r0 ⟨A',r1.n + 1,c',r1.vs ++ [.int .i64 0, .int .i64 (-1)]⟩ r2 r3) (q4 o0 none o2 o3) :=
 (M.grow (i := 1) (by decide) hg hsp hA).like (fun j hj => congrFun (qfH _ _ _ _ _) j) (fun j hj => congrFun (qfH _ _ _ _ _) j)
theorem Mid4.sp1 (M : Mid4 X0 lab0 p W (q4 r0 r1 r2 r3) (q4 o0 o1 o2 o3)) : Sp 40 2 W r1.A r1.n r1.c r1.vs := M.sp (i := 1) (by decide)
theorem Mid4.box1 {b : Nat} (M : Mid4 X0 lab0 p W (q4 r0 r1 r2 r3) (q4 o0 (some b) o2 o3)) : W.heap[b]? = some (.cells #[.int .i64 0, .int .i64 (-1)] 40) := M.box (i := 1) (by decide) rfl
theorem Mid4.alloc2 (M : Mid4 X0 lab0 p W (q4 r0 r1 r2 r3) (q4 o0 o1 o2 o3)) : Mid4 X0 lab0 p (W.alloc (.cells #[.int .i64 0, .int .i64 0, .slice none 0 0] 25)) (q4 r0 r1 r2 r3) (q4 o0 o1 (some W.heap.size) o3) :=
 (M.alloc (i := 2) (by decide)).like (fun _ _ => rfl) (fun j hj => congrFun (qfI _ _ _ _ _) j)
theorem Mid4.grow2 (M : Mid4 X0 lab0 p W (q4 r0 r1 r2 r3) (q4 o0 o1 o2 o3)) {A' : Option Addr} {c' : Nat} (hg : Grew W W' r2.A) (hsp : Sp 25 3 W' A' (r2.n + 1) c' (r2.vs ++ [.int .i64 0, .int .i64 0, .slice none 0 0])) (hA : ∀ q,blk A' q -> blk r2.A q \/ W.heap.size <= q) : Mid4 X0 lab0 p W' (q4 r0 r1 ⟨A',r2.n + 1,c',r2.vs ++ [.int .i64 0, .int .i64 0, .slice none 0 0]⟩ r3) (q4 o0 o1 none o3) :=
 (M.grow (i := 2) (by decide) hg hsp hA).like (fun j hj => congrFun (qfI _ _ _ _ _) j) (fun j hj => congrFun (qfI _ _ _ _ _) j)
theorem Mid4.sp2 (M : Mid4 X0 lab0 p W (q4 r0 r1 r2 r3) (q4 o0 o1 o2 o3)) : Sp 25 3 W r2.A r2.n r2.c r2.vs := M.sp (i := 2) (by decide)
theorem Mid4.box2 {b : Nat} (M : Mid4 X0 lab0 p W (q4 r0 r1 r2 r3) (q4 o0 o1 (some b) o3)) : W.heap[b]? = some (.cells #[.int .i64 0, .int .i64 0, .slice none 0 0] 25) := M.box (i := 2) (by decide) rfl
theorem Mid4.alloc3 (M : Mid4 X0 lab0 p W (q4 r0 r1 r2 r3) (q4 o0 o1 o2 o3)) : Mid4 X0 lab0 p (W.alloc (.cells #[.slice none 0 0] 22)) (q4 r0 r1 r2 r3) (q4 o0 o1 o2 (some W.heap.size)) :=
 (M.alloc (i := 3) (by decide)).like (fun _ _ => rfl) (fun j hj => qfJ _ _ _ _ _ j hj)
theorem Mid4.grow3 (M : Mid4 X0 lab0 p W (q4 r0 r1 r2 r3) (q4 o0 o1 o2 o3)) {A' : Option Addr} {c' : Nat} (hg : Grew W W' r3.A) (hsp : Sp 22 1 W' A' (r3.n + 1) c' (r3.vs ++ [.slice none 0 0])) (hA : ∀ q,blk A' q -> blk r3.A q \/ W.heap.size <= q) : Mid4 X0 lab0 p W' (q4 r0 r1 r2 ⟨A',r3.n + 1,c',r3.vs ++ [.slice none 0 0]⟩) (q4 o0 o1 o2 none) :=
 (M.grow (i := 3) (by decide) hg hsp hA).like (fun j hj => qfJ _ _ _ _ _ j hj) (fun j hj => qfJ _ _ _ _ _ j hj)
theorem Mid4.sp3 (M : Mid4 X0 lab0 p W (q4 r0 r1 r2 r3) (q4 o0 o1 o2 o3)) : Sp 22 1 W r3.A r3.n r3.c r3.vs := M.sp (i := 3) (by decide)
theorem Mid4.box3 {b : Nat} (M : Mid4 X0 lab0 p W (q4 r0 r1 r2 r3) (q4 o0 o1 o2 (some b))) : W.heap[b]? = some (.cells #[.slice none 0 0] 22) := M.box (i := 3) (by decide) rfl
end
def qa8 (n k : Nat) : Sim := { Sim.made n with n := k }
theorem qjI (ps : Nat -> Nat) (k p : Nat) : ptrs (Sim.upd ps k p) (k + 1) = ptrs ps k ++ [ptrV p] := by
 unfold ptrs;rw [List.range_succ,List.map_append]
 congr 1
 · refine List.map_congr_left fun j hj => ?_;rw [upd_ne _ _ (by have := List.mem_range.1 hj; omega)]
 · simp [qm]
theorem qik (k : Nat) : qal (fun _ => 0) (fun _ => -1) (k + 1) = qal (fun _ => 0) (fun _ => -1) k ++ [.int .i64 0, .int .i64 (-1)] := by
 unfold qal;rw [List.range_succ,List.flatMap_append]
 rfl
theorem qil (sE : Nat -> Option Addr) (sc : Nat -> Nat) (k : Nat) : qac (fun _ => Node.noEnt) (Sim.upd sE k none) (Sim.upd sc k 0) (k + 1) = qac (fun _ => Node.noEnt) sE sc k ++ [.int .i64 0, .int .i64 0, .slice none 0 0] := by
 unfold qac;rw [List.range_succ,List.flatMap_append]
 congr 1
 · rw [List.flatMap_def,List.flatMap_def]
   congr 1
   refine List.map_congr_left fun j hj => ?_;rw [upd_ne _ _ (by have := List.mem_range.1 hj; omega),upd_ne _ _ (by have := List.mem_range.1 hj; omega)]
 · simp [qm]
   exact ⟨rfl,rfl,rfl⟩
theorem qjJ (lA : Nat -> Option Addr) (lc : Nat -> Nat) (k : Nat) : logs (fun _ => []) (Sim.upd lA k none) (Sim.upd lc k 0) (k + 1) = logs (fun _ => []) lA lc k ++ [.slice none 0 0] := by
 unfold logs;rw [List.range_succ,List.map_append]
 congr 1
 · refine List.map_congr_left fun j hj => ?_;rw [upd_ne _ _ (by have := List.mem_range.1 hj; omega),upd_ne _ _ (by have := List.mem_range.1 hj; omega)]
 · simp [qm]
theorem qh.one {X0 W : World} {n k : Nat} {L : SimL} {lab : Nat -> Nat} {p : Nat} {A0 A1 A2 A3 : Option Addr} {c0 c1 c2 c3 : Nat} {o : Nat -> Option Nat} (h : qh X0 (qa8 n k) L lab) (hn : qaj X0 lab (11 + k) p (Node.fresh k n 0 (-1) Node.noEnt []))
 (M : Mid4 X0 lab p W (q4 ⟨A0,k + 1,c0,ptrs L.ps k ++ [ptrV p]⟩ ⟨A1,k + 1,c1,qal (fun _ => 0) (fun _ => -1) k ++ [.int .i64 0, .int .i64 (-1)]⟩ ⟨A2,k + 1,c2,qac (fun _ => Node.noEnt) L.sE L.sc k ++ [.int .i64 0, .int .i64 0, .slice none 0 0]⟩ ⟨A3,k + 1,c3,logs (fun _ => []) L.lA L.lc k ++ [.slice none 0 0]⟩) o) :
 ∃ L' lab',qh ((((W.setCell ⟨L.g,0,none⟩ (.slice A0 (k + 1) c0)).setCell ⟨L.g,1,none⟩ (.slice A1 (k + 1) c1)).setCell ⟨L.g,2,none⟩ (.slice A2 (k + 1) c2)).setCell ⟨L.g,3,none⟩ (.slice A3 (k + 1) c3)) (qa8 n (k + 1)) L' lab' /\ L'.g = L.g ∧
  Turn (fun i => 1 <= i /\ i <= 5) X0 ((((W.setCell ⟨L.g,0,none⟩ (.slice A0 (k + 1) c0)).setCell ⟨L.g,1,none⟩ (.slice A1 (k + 1) c1)).setCell ⟨L.g,2,none⟩ (.slice A2 (k + 1) c2)).setCell ⟨L.g,3,none⟩ (.slice A3 (k + 1) c3)) lab lab' := by
 obtain ⟨lab2,t2,R,_⟩ := M.ex
 have hgm : lab2 L.g = 1 := by rw [t2.old L.g (hlt h.row) (by rw [h.me]; decide),h.me]
 have hr0 : W.heap[L.g]? = some (.cells (simC (qa8 n k) L) 73) := (t2.same L.g (hlt h.row) (by rw [h.me]; decide)).trans h.row;have hr1 := setCell_at W ⟨L.g,0,none⟩ (.slice A0 (k + 1) c0) _ _ _ rfl hr0;have hr2 := setCell_at _ ⟨L.g,1,none⟩ (.slice A1 (k + 1) c1) _ _ _ rfl hr1;have hr3 := setCell_at _ ⟨L.g,2,none⟩ (.slice A2 (k + 1) c2) _ _ _ rfl hr2;have hr4 := setCell_at _ ⟨L.g,3,none⟩ (.slice A3 (k + 1) c3) _ _ _ rfl hr3;have s1 : Turn (fun i => i = 1) W (W.setCell ⟨L.g,0,none⟩ (.slice A0 (k + 1) c0)) lab2 lab2 := qj t2.lim hgm;have s2 : Turn (fun i => i = 1) _ ((W.setCell ⟨L.g,0,none⟩ (.slice A0 (k + 1) c0)).setCell ⟨L.g,1,none⟩ (.slice A1 (k + 1) c1)) lab2 lab2 := qj s1.lim hgm;have s3 : Turn (fun i => i = 1) _ (((W.setCell ⟨L.g,0,none⟩ (.slice A0 (k + 1) c0)).setCell ⟨L.g,1,none⟩ (.slice A1 (k + 1) c1)).setCell ⟨L.g,2,none⟩ (.slice A2 (k + 1) c2)) lab2 lab2 := qj s2.lim hgm;have s4 : Turn (fun i => i = 1) _ ((((W.setCell ⟨L.g,0,none⟩ (.slice A0 (k + 1) c0)).setCell ⟨L.g,1,none⟩ (.slice A1 (k + 1) c1)).setCell ⟨L.g,2,none⟩ (.slice A2 (k + 1) c2)).setCell ⟨L.g,3,none⟩ (.slice A3 (k + 1) c3)) lab2 lab2 := qj s3.lim hgm;have ss := ((s1.trans s2 (by decide)).trans s3 (by decide)).trans s4 (by decide);have t : Turn (fun i => 1 <= i /\ i <= 5) X0 _ lab lab2 := (t2.wide fun i e => by omega).trans (ss.wide fun i e => by omega) (by decide);refine ⟨{ L with ps := Sim.upd L.ps k p,Ar := A0,cr := c0,Ah := A1,ch := c1,As := A2,cs := c2,Al := A3,cl := c3,sE := Sim.upd L.sE k none,sc := Sim.upd L.sc k 0,lA := Sim.upd L.lA k none,lc := Sim.upd L.lc k 0 },lab2,?_,rfl,t⟩
 exact {
  lim := t.lim,
  row := by first | exact hr4 | (rw [hr4]; rfl) | (rw [hr4]; simp [simC,qa8,Sim.made]),
  me := hgm,
  r := by have := (R 0 (by decide)).move ss (by decide); show Row _ _ 2 _ 1 A0 (k + 1) c0 (ptrs (Sim.upd L.ps k p) (k + 1)); rw [qjI]; exact this,
  h := by have := (R 1 (by decide)).move ss (by decide); show Row _ _ 3 _ 2 A1 (k + 1) c1 (qal (fun _ => 0) (fun _ => -1) (k + 1)); rw [qik]; exact this,
  s := by have := (R 2 (by decide)).move ss (by decide); show Row _ _ 4 _ 3 A2 (k + 1) c2 (qac (fun _ => Node.noEnt) (Sim.upd L.sE k none) (Sim.upd L.sc k 0) (k + 1)); rw [qil]; exact this,
  sd := fun j hj => by
   show Lies _ (Sim.upd L.sE k none j) 0 (Sim.upd L.sc k 0 j) [] /\ (0 < 0 -> ∀ g o,Sim.upd L.sE k none j = some ⟨g,o,none⟩ -> lab2 g = 0)
   by_cases hjk : j = k
   · subst hjk;rw [qm,qm];exact ⟨Lies.nil _,fun e => absurd e (by decide)⟩
   · rw [upd_ne _ _ hjk,upd_ne _ _ hjk];have hj1 : j < k + 1 := hj
     exact (h.sd j (by show j < k; omega)).1.moved (h.sd j (by show j < k; omega)).2 t (by decide),
  l := by have := (R 3 (by decide)).move ss (by decide); show Row _ _ 5 _ 1 A3 (k + 1) c3 (logs (fun _ => []) (Sim.upd L.lA k none) (Sim.upd L.lc k 0) (k + 1)); rw [qjJ]; exact this,
  ld := fun j hj => by
   show Ents _ _ (Sim.upd L.lA k none j) 0 (Sim.upd L.lc k 0 j) []
   by_cases hjk : j = k
   · subst hjk;rw [qm,qm];exact qY _ _
   · rw [upd_ne _ _ hjk,upd_ne _ _ hjk];have hj1 : j < k + 1 := hj
     exact (h.ld j (by show j < k; omega)).moved t (by decide),
  n := h.n.move t (by decide),
  nm := h.nm,
  nd := fun x hx => (h.nd x hx).moved t (by decide),
  t := h.t.move t (by decide),
  d := h.d.move t (by decide),
  a := h.a.move t (by decide),
  am := h.am,
  ad := fun x hx => (h.ad x hx).moved t (by decide),
  q := h.q.move t (by decide),
  nodes := fun j hj => by
   show qaj _ lab2 (11 + j) (Sim.upd L.ps k p j) (Node.fresh j n 0 (-1) Node.noEnt [])
   by_cases hjk : j = k
   · subst hjk;rw [qm];exact hn.move t (by omega) (by omega)
   · rw [upd_ne _ _ hjk];have hj1 : j < k + 1 := hj
     exact (h.nodes j (by show j < k; omega)).move t (by omega) (by omega) }
end Go.Proofs.YtmiijlecfiddmaaGreat
