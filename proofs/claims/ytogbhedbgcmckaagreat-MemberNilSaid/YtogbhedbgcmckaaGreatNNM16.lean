/- The program's Save, by its contract. (Written by mkpl.py.) -/
import Derived.Test.YtogbhedbgcmckaaGreatNNM15
import Derived.Test.YtogbhedbgcmckaaGreatNNM14
set_option linter.unusedVariables false
set_option linter.unusedSimpArgs false
set_option maxRecDepth 100000
set_option maxHeartbeats 16000000
namespace Go.Proofs.YtogbhedbgcmckaaGreat
open Go.RowKit
theorem VDid.store {w w' : World} {v j d : Nat} {D : Dsk} {was : Hd} {n : Int} {Z : Nat -> Prop} (h : VDid w w' v j d D was n Z) (k : Hd) :
 VDid w ((w'.setCell ⟨v,2,none⟩ (.int .i64 k.t)).setCell ⟨v,3,none⟩ (.int .i64 k.v)) v j d D k n Z := by
 have far : ∀ k1,k1 ≠ v -> ((w'.setCell ⟨v,2,none⟩ (.int .i64 k.t)).setCell ⟨v,3,none⟩ (.int .i64 k.v)).heap[k1]? = w'.heap[k1]? := fun k1 hk => (Below.heap_setCell _ _ _ _ (by exact hk)).trans (Below.heap_setCell _ _ _ _ (by exact hk));refine ⟨⟨?_,⟨(far _ (fun e => h.1.ne e.symm)).trans h.1.lg.box,h.1.lg.dk.keep (by simp) fun k1 _ hz => far k1 (fun e => hz (e ▸ h.1.own)),h.1.lg.own⟩,h.1.own,h.1.ne⟩,(h.2.trans (qg _ _ _ (fun q => q.2.2 rfl))).trans (qg _ _ _ (fun q => q.2.2 rfl))⟩;have h1 := setCell_at w' ⟨v,2,none⟩ (.int .i64 k.t) _ _ _ rfl h.1.box;exact setCell_at _ ⟨v,3,none⟩ (.int .i64 k.v) _ _ _ rfl h1
def qbv (w w' : World) (v j d : Nat) (D : Dsk) (was h : Hd) (l : List Ent) (n : Int) (Z : Nat -> Prop) (e : Ending) : Prop :=
 e = .returned (.int .i64 (((D.saveV was h l).1.2 : Nat) : Int)) /\ ∃ n',0 <= n' /\ n' <= n + (l.length : Int) + 1 /\ VDid w w' v j d (D.saveV was h l).1.1 (D.saveV was h l).2 n' Z
theorem qiA (w : World) (v j d : Nat) (D : Dsk) (was : Hd) (n : Int) (Z : Nat -> Prop) (hV : Vt w v j d D was n Z) (h : Hd) (Y : Nat -> Prop) (A : Option Addr) (len cap : Nat) (l : List Ent) (hE : Ents w Y A len cap l) (hm : len <= 20000) (hn : 0 <= n /\ n <= 900000000) :
 Calls Tryz.prog 86 #[.pointer (some ⟨v,0,none⟩), .agg #[.int .i64 h.t, .int .i64 h.v], .slice A len cap] w fun e w' => qbv w w' v j d D was h l n Z e := by
 have hll := hE.1;have hb0 : Below w.heap.size w (w.alloc (.cells #[.int .i64 h.t, .int .i64 h.v] 54)) := (Below.refl _ _).alloc (Nat.le_refl _) _;have hr0 := heap_alloc_new w (.cells #[.int .i64 h.t, .int .i64 h.v] 54)
 have hRH := fun W => qcg h.t h.v W
 have hAR := fun W (hW : Below w.heap.size w W) => qfy Y A len cap l W (hE.below hW (Nat.le_refl _)) (by unfold maxLen; omega)
 have hq : hardB h.t h.v = rightH h := rfl;rw [hq] at hRH;obtain ⟨⟨x0,x1⟩,_⟩ := row2 hr0;obtain ⟨qh,hqh⟩ : ∃ q,Hid (rightH h = q) := ⟨_,⟨rfl⟩⟩;obtain ⟨ql,hql⟩ : ∃ q,Hid (l.all rightE = q) := ⟨_,⟨rfl⟩⟩;rw [hqh.out] at hRH;rw [hql.out] at hAR;have HV := Lib.hid hV;have HE := Lib.hid hE;have hvl := hV.lt;clear hq hV hE
 cases qh with
 | false =>
   have HB := Lib.hid (qeo (D := D) (was := was) (h := h) (l := l) (by rw [hqh.out,Bool.and_false]))
   go_enter Tryz.func86,Tryz.ntmps86
   go_wp2_with fail
   refine (hRH _).mono ?_;rintro e w1 ⟨rfl,hb1⟩;have hbw := hb0.trans (hb1.mono hb0.size);go_wp2;go_ret;unfold qbv;rw [HB.out];exact ⟨rfl,n,hn.1,by omega,Vt.below HV hbw,qb hbw (Nat.le_refl _)⟩
 | true =>
   cases ql with
   | false =>
     have HB := Lib.hid (qeo (D := D) (was := was) (h := h) (l := l) (by rw [hql.out,Bool.false_and]))
     go_enter Tryz.func86,Tryz.ntmps86
     go_wp2_with fail
     refine (hRH _).mono ?_;rintro e w1 ⟨rfl,hb1⟩;have hbw := hb0.trans (hb1.mono hb0.size);have hA1 := hAR w1 hbw
     go_wp2_with fail
     refine hA1.mono ?_;rintro e w2 ⟨rfl,hb2⟩;have hbw2 := hbw.trans (hb2.mono hbw.size);go_wp2;go_ret;unfold qbv;rw [HB.out];exact ⟨rfl,n,hn.1,by omega,Vt.below HV hbw2,qb hbw2 (Nat.le_refl _)⟩
   | true =>
     have hok : (l.all rightE && rightH h) = true := by rw [hql.out,hqh.out]; rfl
     have HB := Lib.hid (qjX (D := D) (was := was) (h := h) (l := l) hok);have hallr : ∀ x ∈ l,rightE x = true := List.all_eq_true.1 hql.out;have hfit : fit (saveRecs was h l) := qfw hallr
     have hER := fun W (hW : Below w.heap.size w W) => qbH Y A len cap l W ((show Ents w Y A len cap l from HE).below hW (Nat.le_refl _)) (by omega) hallr
     have hHR := fun W => qcc h hqh.out W
     have HLE := Lib.hid (show (l.map entRec).length = len by rw [List.length_map]; exact hll)
     have hcase : h = was \/ (h.t == was.t) = false \/ ((h.t == was.t) = true /\ (h.v == was.v) = false) := by
      by_cases e1 : h.t = was.t
      · by_cases e2 : h.v = was.v
        · left
          cases h; cases was; simp at e1 e2; rw [e1,e2]
        · exact .inr (.inr ⟨beq_iff_eq.2 e1,beq_eq_false_iff_ne.2 e2⟩)
      · exact .inr (.inl (beq_eq_false_iff_ne.2 e1))
     have HF := Lib.hid hfit;have HLL := Lib.hid hll;clear hok hallr hfit hll hql hqh
     go_enter Tryz.func86,Tryz.ntmps86
     go_wp2_with fail
     refine (hRH _).mono ?_;rintro e w1 ⟨rfl,hb1⟩;have hbw := hb0.trans (hb1.mono hb0.size);have hr1 := (hb1.block _ (hlt hr0)).trans hr0;have hA1 := hAR w1 hbw;clear hRH hAR hb0 hb1 hr0 x0 x1
     go_wp2_with fail
     refine hA1.mono ?_;rintro e w2 ⟨rfl,hb2⟩;have hbw2 := hbw.trans (hb2.mono hbw.size);have hr2 := (hb2.block _ (hlt hr1)).trans hr1;obtain ⟨⟨x0,x1⟩,_⟩ := row2 hr2;obtain ⟨_,v1,v2,v3⟩ := (Vt.below HV hbw2).cells;clear hA1 hb2 hr1 hbw;rcases hcase with hw | hw | ⟨hw,hw2⟩
     · obtain rfl : h = was := hw;go_wp2
       go_quiet (fail)
       have hB5 : Below w.heap.size w (w2.drewN nq) := qI hbw2 _;have hr5 : (w2.drewN nq).heap[w.heap.size]? = some (.cells #[.int .i64 h.t, .int .i64 h.v] 54) := hr2;clear hbw2 hr2;generalize w2.drewN nq = W5 at *;go_wp2;obtain ⟨W,hWW⟩ : ∃ W,W = W5 := ⟨_,rfl⟩
       have hBW : Below (w.heap.size + 1) W5 W := by rw [hWW]; exact Below.refl _ _
       have hrow : qn W (w.heap.size + 1) (.slice none 0 0) [] := qn.nil _ _;have hn0 : Hid (([] : List (List UInt8)).length = 0) := ⟨rfl⟩;have HLS : Hid (([] : List (List UInt8)) ++ l.map entRec = saveRecs h h l) := ⟨by unfold saveRecs; rw [if_pos rfl]⟩;rw [<- hWW];clear hWW;obtain ⟨M,hM⟩ : ∃ M,Hid (0 + len = M) := ⟨_,⟨rfl⟩⟩
       have hMle : M <= 20001 := by have := hM.out; omega
       have hs5 : w.heap.size + 1 <= W5.heap.size := by have := hlt hr5; omega
       have hst : ∀ W,Below (w.heap.size + 1) W5 W -> W.cell? ⟨v,1,none⟩ = some (jptr j) /\ W.cell? ⟨w.heap.size,0,none⟩ = some (.int .i64 h.t) /\ W.cell? ⟨w.heap.size,1,none⟩ = some (.int .i64 h.v) := fun W hW => by
        obtain ⟨_,q1,_,_⟩ := (Vt.below HV hB5).cells;obtain ⟨⟨q2,q3⟩,_⟩ := row2 hr5;exact ⟨(World.cell?_of_block (hW.block v (by omega))).trans q1,(World.cell?_of_block (hW.block w.heap.size (by omega))).trans q2,(World.cell?_of_block (hW.block w.heap.size (by omega))).trans q3⟩
       have hlow : ∀ W,Below (w.heap.size + 1) W5 W -> Below w.heap.size w W := fun W hW => hB5.trans (hW.mono (Nat.le_succ _))
       have hst2 : ∀ (W w' : World) (D' : Dsk) (n' : Int),Below (w.heap.size + 1) W5 W -> LDid W w' j d D' nWal n' (fun k => Z k \/ w.heap.size <= k /\ k < W.heap.size) -> w'.cell? ⟨v,1,none⟩ = some (jptr j) /\ w'.cell? ⟨w.heap.size,0,none⟩ = some (.int .i64 h.t) /\ w'.cell? ⟨w.heap.size,1,none⟩ = some (.int .i64 h.v) := fun W w' D' n' h1 h2 => by
        have hV' : Vt w v j d D h n Z := HV;have hs := h1.size;obtain ⟨q1,q2,q3⟩ := hst W h1;have k1 := h2.2.block v (by omega) ⟨.inl hV'.own,hV'.ne⟩;have k2 := h2.2.block w.heap.size (by omega) ⟨.inr ⟨Nat.le_refl _,by omega⟩,fun e => by have := hV'.lg.lt; omega⟩;exact ⟨(World.cell?_of_block k1).trans q1,(World.cell?_of_block k2).trans q2,(World.cell?_of_block k2).trans q3⟩
       have hAdd := fun W (hW : Below (w.heap.size + 1) W5 W) A1 c1 (hrow : qn W (w.heap.size + 1) (.slice A1 M c1) (saveRecs h h l)) => qd0 W j d D nWal n _ ((show Vt w v j d D h n Z from HV).wide (hlow W hW)).lg A1 M c1 (saveRecs h h l) (by
        have hl : (saveRecs h h l).length = M := by rw [<- HLS.out,List.length_append,show (l.map entRec).length = len from HLE,hn0.out,hM.out]
        have := hrow.recs.within.mono (Z' := fun k => Z k \/ w.heap.size <= k /\ k < W.heap.size) fun k hk => .inr ⟨by omega,hk.2⟩
        rw [hl] at this
        exact this) (by omega) HF (by omega)
       have hsl : Hid ((saveRecs h h l).length = M) := ⟨by rw [<- HLS.out,List.length_append,show (l.map entRec).length = len from HLE,hn0.out,hM.out]⟩;rw [hsl.out] at hAdd;obtain ⟨R,hR⟩ : ∃ R,Hid (D.added nWal (saveRecs h h l) = R) := ⟨_,⟨rfl⟩⟩;rw [hR.out] at hAdd;obtain ⟨D2,e2⟩ := R;dsimp only at hAdd;obtain ⟨N2,hN2⟩ : ∃ N2,Hid (cnt (D2,e2) n (n + (M : Int)) = N2) := ⟨_,⟨rfl⟩⟩;rw [hN2.out] at hAdd;have hlBW : Below (w.heap.size + 1) W5 W.drew := hBW.drew;obtain ⟨v1',x0',x1'⟩ := hst _ hBW
       have hrlt : ∀ k,(Value.slice none 0 0).ownBlock = some k -> w.heap.size + 1 <= k /\ k < W.heap.size := fun k hk => by
        obtain ⟨vs,ho,_⟩ := hrow;exact ho.lt k hk
       have hrowd : qn W.drew (w.heap.size + 1) (.slice none 0 0) [] := hrow.below (Below.refl _ _).drew;clear hr5 x0 x1 v1 v2 v3 hHR
       go_region_held3 (fun w' => w'.cell? ⟨v,1,none⟩ = some (jptr j) /\ w'.cell? ⟨w.heap.size,0,none⟩ = some (.int .i64 h.t) /\ w'.cell? ⟨w.heap.size,1,none⟩ = some (.int .i64 h.v))
        (first | exact hS10 | exact hS9 | exact hS8 | (exact ⟨v1',x0',x1'⟩) | (go_keep; done))
        (first
          | (go_at_call 113
             refine (hER _ (hlow _ hlBW)).mono ?_;rintro e w8 ⟨A8,c8,rfl,hrow8,hb8⟩;have hbw8 : Below (w.heap.size + 1) W5 w8 := hlBW.trans (hb8.mono (Nat.le_trans hs5 hlBW.size))
             have hS8 := hst _ hbw8)
          | (refine qam _ (by rfl) _ _ (by rfl) (w.heap.size + 1) _ [] A8 len c8 (l.map entRec) (by rfl) (by rfl) (Nat.le_trans hs5 hbw8.size) (hrowd.below hb8) ((by
              have := hrow8.recs.mono (Z' := fun g => w.heap.size + 1 <= g /\ (Value.slice none 0 0).ownBlock ≠ some g) fun k hk => ⟨Nat.le_trans hs5 (Nat.le_trans hlBW.size hk),fun er => by have h1 := (hrlt k er).2; have h2 : W.heap.size <= k := hk; omega⟩;rw [show (l.map entRec).length = len from HLE] at this
              exact this)) M (by exact hM.out) (by omega) ?_
             intro A9 c9 w9 hrow9' hg9
             have hrow9 : qn w9 (w.heap.size + 1) (.slice A9 M c9) (saveRecs h h l) := by rw [<- HLS.out]; exact hrow9'
             have hbw9 : Below (w.heap.size + 1) W5 w9 := hbw8.grown hg9 (Nat.le_trans hs5 hbw8.size) (fun q hq => (hrlt q hq).1)
             have hS9 := hst _ hbw9)
          | (go_at_call 129
             refine (hAdd _ hbw9 A9 c9 hrow9).mono ?_;rintro e w10 ⟨rfl,hd10⟩;have hS10 := hst2 _ _ _ _ hbw9 hd10
             have HD10 := Lib.hid (Vt.ldid HV (hlow _ hbw9) hd10)))
       obtain ⟨s1,s2,s3⟩ := hS10
       have HNB := Lib.hid (show 0 <= N2 /\ N2 <= n + (l.length : Int) + 1 by
        rw [<- hN2.out];have h1 := hM.out;have h2 : l.length = len := HLL;unfold cnt
        split <;> omega)
       have HR := Lib.hid (show D.saveV h h l = ((D2,e2),if e2 = 0 then h else h) by
        have e : D.saveV h h l = _ := HB
        rw [e,hR.out])
       clear hst hst2 hAdd hrow8 hrow9 hrow9' hg9 hbw8 hbw9 hb8 hd10 hrow hrowd hrlt hER hS8 hS9 v1' x0' x1' hlow
       by_cases he2 : e2 = 0
       · subst he2;obtain ⟨⟨q0,q1,q2,q3⟩,⟨f0,f1,f2,f3⟩⟩ := row4 (show VDid w w10 v j d D2 h N2 Z from HD10).1.box;go_wp2;go_ret;unfold qbv;rw [HR.out];exact ⟨rfl,N2,HNB.out.1,HNB.out.2,VDid.store HD10 h⟩
       · have k0 : ((e2 : Int) != 0) = true := by simp; omega
         have k0' : ((e2 : Int) = 0) = False := eq_false (by omega);have HR2 := Lib.hid (show D.saveV h h l = ((D2,e2),h) by rw [HR.out,if_neg he2]);clear he2;go_wp2;go_ret;unfold qbv;rw [HR2.out];exact ⟨rfl,N2,HNB.out.1,HNB.out.2,HD10⟩
     · have hne : ¬ h = was := fun e => by rw [e] at hw; simp at hw
       go_wp2
       go_quiet (fail)
       have hB0 : Below w.heap.size w (w2.drewN nq) := qI hbw2 _;have hr0 : (w2.drewN nq).heap[w.heap.size]? = some (.cells #[.int .i64 h.t, .int .i64 h.v] 54) := hr2;clear hbw2 hr2;generalize w2.drewN nq = W0 at *;clear x0 x1;obtain ⟨⟨x0,x1⟩,_⟩ := row2 hr0
       go_wp2_with fail
       refine (hHR _).mono ?_;rintro e W5 ⟨A6,c6,rfl,ho6,hb6⟩;have hs0 := hlt hr0
       have ho6w : Owns 5 W5 (w.heap.size + 1) (.slice A6 (qq h).length c6) (qq h) := ho6.rebase fun k hk => by have := (ho6.lt k hk).1; omega
       have hB5 := hB0.trans (hb6.mono hB0.size);have hr5 := (hb6.block _ (hlt hr0)).trans hr0;have hs5' := hlt hr5;have hRO := qn.one ho6w rfl (Below.refl W5.heap.size W5) (by omega);clear x0 x1 v1 v2 v3;obtain ⟨⟨x0,x1⟩,_⟩ := row2 hr5;obtain ⟨_,v1,v2,v3⟩ := (Vt.below HV hB5).cells;clear hB0 hr0 hb6 ho6
       go_wp2_with (first
        | (at_builtin
           refine qbm _ rfl _ _ rfl (w.heap.size + 1) (.slice none 0 0) [] (some ⟨W5.heap.size,0,none⟩) 1 1 [qq h] rfl rfl (by simp; omega) (qn.nil _ _) (hRO.recs.mono fun k hk => ⟨hk,fun e => by cases e⟩) 1 rfl (by omega) ?_
           intro A0 c0 W hrow' hg0)
        | fail)
       have hBW : Below (w.heap.size + 1) W5 W := ((Below.refl _ _).alloc (by omega) _).grown hg0 (by simp; omega) (fun q hq => by cases hq);have hrow : qn W (w.heap.size + 1) (.slice A0 1 c0) [qq h] := hrow';have hn0 : Hid ([qq h].length = 1) := ⟨rfl⟩;have HLS : Hid ([qq h] ++ l.map entRec = saveRecs was h l) := ⟨by unfold saveRecs; rw [if_neg hne]⟩;clear hRO hrow' hg0 ho6w;obtain ⟨M,hM⟩ : ∃ M,Hid (1 + len = M) := ⟨_,⟨rfl⟩⟩
       have hMle : M <= 20001 := by have := hM.out; omega
       have hs5 : w.heap.size + 1 <= W5.heap.size := by have := hlt hr5; omega
       have hst : ∀ W,Below (w.heap.size + 1) W5 W -> W.cell? ⟨v,1,none⟩ = some (jptr j) /\ W.cell? ⟨w.heap.size,0,none⟩ = some (.int .i64 h.t) /\ W.cell? ⟨w.heap.size,1,none⟩ = some (.int .i64 h.v) := fun W hW => by
        obtain ⟨_,q1,_,_⟩ := (Vt.below HV hB5).cells;obtain ⟨⟨q2,q3⟩,_⟩ := row2 hr5;exact ⟨(World.cell?_of_block (hW.block v (by omega))).trans q1,(World.cell?_of_block (hW.block w.heap.size (by omega))).trans q2,(World.cell?_of_block (hW.block w.heap.size (by omega))).trans q3⟩
       have hlow : ∀ W,Below (w.heap.size + 1) W5 W -> Below w.heap.size w W := fun W hW => hB5.trans (hW.mono (Nat.le_succ _))
       have hst2 : ∀ (W w' : World) (D' : Dsk) (n' : Int),Below (w.heap.size + 1) W5 W -> LDid W w' j d D' nWal n' (fun k => Z k \/ w.heap.size <= k /\ k < W.heap.size) -> w'.cell? ⟨v,1,none⟩ = some (jptr j) /\ w'.cell? ⟨w.heap.size,0,none⟩ = some (.int .i64 h.t) /\ w'.cell? ⟨w.heap.size,1,none⟩ = some (.int .i64 h.v) := fun W w' D' n' h1 h2 => by
        have hV' : Vt w v j d D was n Z := HV;have hs := h1.size;obtain ⟨q1,q2,q3⟩ := hst W h1;have k1 := h2.2.block v (by omega) ⟨.inl hV'.own,hV'.ne⟩;have k2 := h2.2.block w.heap.size (by omega) ⟨.inr ⟨Nat.le_refl _,by omega⟩,fun e => by have := hV'.lg.lt; omega⟩;exact ⟨(World.cell?_of_block k1).trans q1,(World.cell?_of_block k2).trans q2,(World.cell?_of_block k2).trans q3⟩
       have hAdd := fun W (hW : Below (w.heap.size + 1) W5 W) A1 c1 (hrow : qn W (w.heap.size + 1) (.slice A1 M c1) (saveRecs was h l)) => qd0 W j d D nWal n _ ((show Vt w v j d D was n Z from HV).wide (hlow W hW)).lg A1 M c1 (saveRecs was h l) (by
        have hl : (saveRecs was h l).length = M := by rw [<- HLS.out,List.length_append,show (l.map entRec).length = len from HLE,hn0.out,hM.out]
        have := hrow.recs.within.mono (Z' := fun k => Z k \/ w.heap.size <= k /\ k < W.heap.size) fun k hk => .inr ⟨by omega,hk.2⟩
        rw [hl] at this
        exact this) (by omega) HF (by omega)
       have hsl : Hid ((saveRecs was h l).length = M) := ⟨by rw [<- HLS.out,List.length_append,show (l.map entRec).length = len from HLE,hn0.out,hM.out]⟩;rw [hsl.out] at hAdd;obtain ⟨R,hR⟩ : ∃ R,Hid (D.added nWal (saveRecs was h l) = R) := ⟨_,⟨rfl⟩⟩;rw [hR.out] at hAdd;obtain ⟨D2,e2⟩ := R;dsimp only at hAdd;obtain ⟨N2,hN2⟩ : ∃ N2,Hid (cnt (D2,e2) n (n + (M : Int)) = N2) := ⟨_,⟨rfl⟩⟩;rw [hN2.out] at hAdd;have hlBW : Below (w.heap.size + 1) W5 W.drew := hBW.drew;obtain ⟨v1',x0',x1'⟩ := hst _ hBW
       have hrlt : ∀ k,(Value.slice A0 1 c0).ownBlock = some k -> w.heap.size + 1 <= k /\ k < W.heap.size := fun k hk => by
        obtain ⟨vs,ho,_⟩ := hrow;exact ho.lt k hk
       have hrowd : qn W.drew (w.heap.size + 1) (.slice A0 1 c0) [qq h] := hrow.below (Below.refl _ _).drew;clear hr5 x0 x1 v1 v2 v3 hHR
       go_region_held3 (fun w' => w'.cell? ⟨v,1,none⟩ = some (jptr j) /\ w'.cell? ⟨w.heap.size,0,none⟩ = some (.int .i64 h.t) /\ w'.cell? ⟨w.heap.size,1,none⟩ = some (.int .i64 h.v))
        (first | exact hS10 | exact hS9 | exact hS8 | (exact ⟨v1',x0',x1'⟩) | (go_keep; done))
        (first
          | (go_at_call 113
             refine (hER _ (hlow _ hlBW)).mono ?_;rintro e w8 ⟨A8,c8,rfl,hrow8,hb8⟩;have hbw8 : Below (w.heap.size + 1) W5 w8 := hlBW.trans (hb8.mono (Nat.le_trans hs5 hlBW.size))
             have hS8 := hst _ hbw8)
          | (refine qam _ (by rfl) _ _ (by rfl) (w.heap.size + 1) _ [qq h] A8 len c8 (l.map entRec) (by rfl) (by rfl) (Nat.le_trans hs5 hbw8.size) (hrowd.below hb8) ((by
              have := hrow8.recs.mono (Z' := fun g => w.heap.size + 1 <= g /\ (Value.slice A0 1 c0).ownBlock ≠ some g) fun k hk => ⟨Nat.le_trans hs5 (Nat.le_trans hlBW.size hk),fun er => by have h1 := (hrlt k er).2; have h2 : W.heap.size <= k := hk; omega⟩;rw [show (l.map entRec).length = len from HLE] at this
              exact this)) M (by exact hM.out) (by omega) ?_
             intro A9 c9 w9 hrow9' hg9
             have hrow9 : qn w9 (w.heap.size + 1) (.slice A9 M c9) (saveRecs was h l) := by rw [<- HLS.out]; exact hrow9'
             have hbw9 : Below (w.heap.size + 1) W5 w9 := hbw8.grown hg9 (Nat.le_trans hs5 hbw8.size) (fun q hq => (hrlt q hq).1)
             have hS9 := hst _ hbw9)
          | (go_at_call 129
             refine (hAdd _ hbw9 A9 c9 hrow9).mono ?_;rintro e w10 ⟨rfl,hd10⟩;have hS10 := hst2 _ _ _ _ hbw9 hd10
             have HD10 := Lib.hid (Vt.ldid HV (hlow _ hbw9) hd10)))
       obtain ⟨s1,s2,s3⟩ := hS10
       have HNB := Lib.hid (show 0 <= N2 /\ N2 <= n + (l.length : Int) + 1 by
        rw [<- hN2.out];have h1 := hM.out;have h2 : l.length = len := HLL;unfold cnt
        split <;> omega)
       have HR := Lib.hid (show D.saveV was h l = ((D2,e2),if e2 = 0 then h else was) by
        have e : D.saveV was h l = _ := HB
        rw [e,hR.out])
       clear hst hst2 hAdd hrow8 hrow9 hrow9' hg9 hbw8 hbw9 hb8 hd10 hrow hrowd hrlt hER hS8 hS9 v1' x0' x1' hlow
       by_cases he2 : e2 = 0
       · subst he2;obtain ⟨⟨q0,q1,q2,q3⟩,⟨f0,f1,f2,f3⟩⟩ := row4 (show VDid w w10 v j d D2 was N2 Z from HD10).1.box;go_wp2;go_ret;unfold qbv;rw [HR.out];exact ⟨rfl,N2,HNB.out.1,HNB.out.2,VDid.store HD10 h⟩
       · have k0 : ((e2 : Int) != 0) = true := by simp; omega
         have k0' : ((e2 : Int) = 0) = False := eq_false (by omega);have HR2 := Lib.hid (show D.saveV was h l = ((D2,e2),was) by rw [HR.out,if_neg he2]);clear he2;go_wp2;go_ret;unfold qbv;rw [HR2.out];exact ⟨rfl,N2,HNB.out.1,HNB.out.2,HD10⟩
     · have hne : ¬ h = was := fun e => by rw [e] at hw2; simp at hw2
       go_wp2
       go_quiet (fail)
       have hB0 : Below w.heap.size w (w2.drewN nq) := qI hbw2 _;have hr0 : (w2.drewN nq).heap[w.heap.size]? = some (.cells #[.int .i64 h.t, .int .i64 h.v] 54) := hr2;clear hbw2 hr2;generalize w2.drewN nq = W0 at *;clear x0 x1;obtain ⟨⟨x0,x1⟩,_⟩ := row2 hr0
       go_wp2_with fail
       refine (hHR _).mono ?_;rintro e W5 ⟨A6,c6,rfl,ho6,hb6⟩;have hs0 := hlt hr0
       have ho6w : Owns 5 W5 (w.heap.size + 1) (.slice A6 (qq h).length c6) (qq h) := ho6.rebase fun k hk => by have := (ho6.lt k hk).1; omega
       have hB5 := hB0.trans (hb6.mono hB0.size);have hr5 := (hb6.block _ (hlt hr0)).trans hr0;have hs5' := hlt hr5;have hRO := qn.one ho6w rfl (Below.refl W5.heap.size W5) (by omega);clear x0 x1 v1 v2 v3;obtain ⟨⟨x0,x1⟩,_⟩ := row2 hr5;obtain ⟨_,v1,v2,v3⟩ := (Vt.below HV hB5).cells;clear hB0 hr0 hb6 ho6
       go_wp2_with (first
        | (at_builtin
           refine qbm _ rfl _ _ rfl (w.heap.size + 1) (.slice none 0 0) [] (some ⟨W5.heap.size,0,none⟩) 1 1 [qq h] rfl rfl (by simp; omega) (qn.nil _ _) (hRO.recs.mono fun k hk => ⟨hk,fun e => by cases e⟩) 1 rfl (by omega) ?_
           intro A0 c0 W hrow' hg0)
        | fail)
       have hBW : Below (w.heap.size + 1) W5 W := ((Below.refl _ _).alloc (by omega) _).grown hg0 (by simp; omega) (fun q hq => by cases hq);have hrow : qn W (w.heap.size + 1) (.slice A0 1 c0) [qq h] := hrow';have hn0 : Hid ([qq h].length = 1) := ⟨rfl⟩;have HLS : Hid ([qq h] ++ l.map entRec = saveRecs was h l) := ⟨by unfold saveRecs; rw [if_neg hne]⟩;clear hRO hrow' hg0 ho6w;obtain ⟨M,hM⟩ : ∃ M,Hid (1 + len = M) := ⟨_,⟨rfl⟩⟩
       have hMle : M <= 20001 := by have := hM.out; omega
       have hs5 : w.heap.size + 1 <= W5.heap.size := by have := hlt hr5; omega
       have hst : ∀ W,Below (w.heap.size + 1) W5 W -> W.cell? ⟨v,1,none⟩ = some (jptr j) /\ W.cell? ⟨w.heap.size,0,none⟩ = some (.int .i64 h.t) /\ W.cell? ⟨w.heap.size,1,none⟩ = some (.int .i64 h.v) := fun W hW => by
        obtain ⟨_,q1,_,_⟩ := (Vt.below HV hB5).cells;obtain ⟨⟨q2,q3⟩,_⟩ := row2 hr5;exact ⟨(World.cell?_of_block (hW.block v (by omega))).trans q1,(World.cell?_of_block (hW.block w.heap.size (by omega))).trans q2,(World.cell?_of_block (hW.block w.heap.size (by omega))).trans q3⟩
       have hlow : ∀ W,Below (w.heap.size + 1) W5 W -> Below w.heap.size w W := fun W hW => hB5.trans (hW.mono (Nat.le_succ _))
       have hst2 : ∀ (W w' : World) (D' : Dsk) (n' : Int),Below (w.heap.size + 1) W5 W -> LDid W w' j d D' nWal n' (fun k => Z k \/ w.heap.size <= k /\ k < W.heap.size) -> w'.cell? ⟨v,1,none⟩ = some (jptr j) /\ w'.cell? ⟨w.heap.size,0,none⟩ = some (.int .i64 h.t) /\ w'.cell? ⟨w.heap.size,1,none⟩ = some (.int .i64 h.v) := fun W w' D' n' h1 h2 => by
        have hV' : Vt w v j d D was n Z := HV;have hs := h1.size;obtain ⟨q1,q2,q3⟩ := hst W h1;have k1 := h2.2.block v (by omega) ⟨.inl hV'.own,hV'.ne⟩;have k2 := h2.2.block w.heap.size (by omega) ⟨.inr ⟨Nat.le_refl _,by omega⟩,fun e => by have := hV'.lg.lt; omega⟩;exact ⟨(World.cell?_of_block k1).trans q1,(World.cell?_of_block k2).trans q2,(World.cell?_of_block k2).trans q3⟩
       have hAdd := fun W (hW : Below (w.heap.size + 1) W5 W) A1 c1 (hrow : qn W (w.heap.size + 1) (.slice A1 M c1) (saveRecs was h l)) => qd0 W j d D nWal n _ ((show Vt w v j d D was n Z from HV).wide (hlow W hW)).lg A1 M c1 (saveRecs was h l) (by
        have hl : (saveRecs was h l).length = M := by rw [<- HLS.out,List.length_append,show (l.map entRec).length = len from HLE,hn0.out,hM.out]
        have := hrow.recs.within.mono (Z' := fun k => Z k \/ w.heap.size <= k /\ k < W.heap.size) fun k hk => .inr ⟨by omega,hk.2⟩
        rw [hl] at this
        exact this) (by omega) HF (by omega)
       have hsl : Hid ((saveRecs was h l).length = M) := ⟨by rw [<- HLS.out,List.length_append,show (l.map entRec).length = len from HLE,hn0.out,hM.out]⟩;rw [hsl.out] at hAdd;obtain ⟨R,hR⟩ : ∃ R,Hid (D.added nWal (saveRecs was h l) = R) := ⟨_,⟨rfl⟩⟩;rw [hR.out] at hAdd;obtain ⟨D2,e2⟩ := R;dsimp only at hAdd;obtain ⟨N2,hN2⟩ : ∃ N2,Hid (cnt (D2,e2) n (n + (M : Int)) = N2) := ⟨_,⟨rfl⟩⟩;rw [hN2.out] at hAdd;have hlBW : Below (w.heap.size + 1) W5 W.drew := hBW.drew;obtain ⟨v1',x0',x1'⟩ := hst _ hBW
       have hrlt : ∀ k,(Value.slice A0 1 c0).ownBlock = some k -> w.heap.size + 1 <= k /\ k < W.heap.size := fun k hk => by
        obtain ⟨vs,ho,_⟩ := hrow;exact ho.lt k hk
       have hrowd : qn W.drew (w.heap.size + 1) (.slice A0 1 c0) [qq h] := hrow.below (Below.refl _ _).drew;clear hr5 x0 x1 v1 v2 v3 hHR
       go_region_held3 (fun w' => w'.cell? ⟨v,1,none⟩ = some (jptr j) /\ w'.cell? ⟨w.heap.size,0,none⟩ = some (.int .i64 h.t) /\ w'.cell? ⟨w.heap.size,1,none⟩ = some (.int .i64 h.v))
        (first | exact hS10 | exact hS9 | exact hS8 | (exact ⟨v1',x0',x1'⟩) | (go_keep; done))
        (first
          | (go_at_call 113
             refine (hER _ (hlow _ hlBW)).mono ?_;rintro e w8 ⟨A8,c8,rfl,hrow8,hb8⟩;have hbw8 : Below (w.heap.size + 1) W5 w8 := hlBW.trans (hb8.mono (Nat.le_trans hs5 hlBW.size))
             have hS8 := hst _ hbw8)
          | (refine qam _ (by rfl) _ _ (by rfl) (w.heap.size + 1) _ [qq h] A8 len c8 (l.map entRec) (by rfl) (by rfl) (Nat.le_trans hs5 hbw8.size) (hrowd.below hb8) ((by
              have := hrow8.recs.mono (Z' := fun g => w.heap.size + 1 <= g /\ (Value.slice A0 1 c0).ownBlock ≠ some g) fun k hk => ⟨Nat.le_trans hs5 (Nat.le_trans hlBW.size hk),fun er => by have h1 := (hrlt k er).2; have h2 : W.heap.size <= k := hk; omega⟩;rw [show (l.map entRec).length = len from HLE] at this
              exact this)) M (by exact hM.out) (by omega) ?_
             intro A9 c9 w9 hrow9' hg9
             have hrow9 : qn w9 (w.heap.size + 1) (.slice A9 M c9) (saveRecs was h l) := by rw [<- HLS.out]; exact hrow9'
             have hbw9 : Below (w.heap.size + 1) W5 w9 := hbw8.grown hg9 (Nat.le_trans hs5 hbw8.size) (fun q hq => (hrlt q hq).1)
             have hS9 := hst _ hbw9)
          | (go_at_call 129
             refine (hAdd _ hbw9 A9 c9 hrow9).mono ?_;rintro e w10 ⟨rfl,hd10⟩;have hS10 := hst2 _ _ _ _ hbw9 hd10
             have HD10 := Lib.hid (Vt.ldid HV (hlow _ hbw9) hd10)))
       obtain ⟨s1,s2,s3⟩ := hS10
       have HNB := Lib.hid (show 0 <= N2 /\ N2 <= n + (l.length : Int) + 1 by
        rw [<- hN2.out];have h1 := hM.out;have h2 : l.length = len := HLL;unfold cnt
        split <;> omega)
       have HR := Lib.hid (show D.saveV was h l = ((D2,e2),if e2 = 0 then h else was) by
        have e : D.saveV was h l = _ := HB
        rw [e,hR.out])
       clear hst hst2 hAdd hrow8 hrow9 hrow9' hg9 hbw8 hbw9 hb8 hd10 hrow hrowd hrlt hER hS8 hS9 v1' x0' x1' hlow
       by_cases he2 : e2 = 0
       · subst he2;obtain ⟨⟨q0,q1,q2,q3⟩,⟨f0,f1,f2,f3⟩⟩ := row4 (show VDid w w10 v j d D2 was N2 Z from HD10).1.box;go_wp2;go_ret;unfold qbv;rw [HR.out];exact ⟨rfl,N2,HNB.out.1,HNB.out.2,VDid.store HD10 h⟩
       · have k0 : ((e2 : Int) != 0) = true := by simp; omega
         have k0' : ((e2 : Int) = 0) = False := eq_false (by omega);have HR2 := Lib.hid (show D.saveV was h l = ((D2,e2),was) by rw [HR.out,if_neg he2]);clear he2;go_wp2;go_ret;unfold qbv;rw [HR2.out];exact ⟨rfl,N2,HNB.out.1,HNB.out.2,HD10⟩
end Go.Proofs.YtogbhedbgcmckaaGreat
set_option linter.unusedVariables false
set_option linter.unusedSimpArgs false
set_option maxRecDepth 100000
set_option maxHeartbeats 200000
namespace Go.Proofs.YtogbhedbgcmckaaGreat
open Go.RowKit
section
variable {w w1 w' : World} {v j d : Nat} {D : Dsk} {was : Hd} {n : Int} {Z : Nat → Prop}
end
end Go.Proofs.YtogbhedbgcmckaaGreat
set_option linter.unusedVariables false
set_option linter.unusedSimpArgs false
set_option maxRecDepth 100000
set_option maxHeartbeats 200000
namespace Go.Proofs.YtogbhedbgcmckaaGreat
open Go.RowKit
def qgN (w w' : World) (d : Nat) (D : Dsk) (name : ByteArray) (Z : Nat -> Prop) (e : Ending) : Prop :=
 ((D.openW name).2 = 0 /\ qdK w w' d (D.openW name).1 name Z e (D.told name).1) ∨
 ((D.openW name).2 ≠ 0 /\ e = .returned (.tuple #[.pointer none, .slice none 0 0, .int .i64 (((D.openW name).2 : Nat) : Int)]) /\ Did w w' d (D.openW name).1 Z)
theorem qiB (w : World) (d : Nat) (D : Dsk) (Z : Nat -> Prop) (h : Dk w d D Z) (name : ByteArray) (hn : name.size <= 11) :
 Calls Tryz.prog 57 #[dptr d, .string name] w fun e w' => qgN w w' d D name Z e := by
 by_cases hR : (D.read name).2 ≠ 0 /\ (D.read name).2 ≠ 6
 · have hA := qcj w d D Z h name
   have hW : D.openW name = (D,(D.read name).2) := by unfold Dsk.openW; rw [if_pos hR]
   have hn11 : ((11 : Int) < (name.size : Int)) = False := eq_false (by omega);have HD := Lib.hid h;have HW := Lib.hid hW;have HR := Lib.hid hR;generalize D.read name = r at *;obtain ⟨bb,er⟩ := r;dsimp only at *
   have e0 : ((er : Int) != 0) = true := by simp; omega
   have e0' : ((er : Int) = 0) = False := eq_false (by omega)
   have e6 : ((er : Int) != 6) = true := by simp; omega
   have e6' : ((er : Int) = 6) = False := eq_false (by omega);clear hW hR h hn
   go_enter Tryz.func57,Tryz.ntmps57
   go_wp2_with fail
   refine hA.mono ?_;rintro e w1 ⟨A1,cap1,rfl,hl1,hb1⟩;have HB := Lib.hid hb1;clear hA hl1 hb1;go_wp2;refine bodyPost_ret (results_tmp3 rfl _ _ _) rfl ?_;refine .inr ?_;rw [HW.out];exact ⟨(show er ≠ 0 /\ er ≠ 6 from HR).1,rfl,(show Dk w d D Z from HD).below HB.out,qb HB.out (Nat.le_refl _)⟩
 · have hR' : (D.read name).2 = 0 \/ (D.read name).2 = 6 := by omega
   by_cases hlt : (D.told name).2 < (D.read name).1.size
   · by_cases hC : (D.cut name ((D.told name).2 : Int)).2 = 0
     · have e1 : D.openW name = D.cut name ((D.told name).2 : Int) := by unfold Dsk.openW; rw [if_neg hR,if_pos hlt]
       refine (qfv w d D Z h name hn hR' (fun _ => hC)).mono fun e w' ho => .inl ⟨by rw [e1]; exact hC,?_⟩
       have e2 : D.trim name = (D.openW name).1 := by unfold Dsk.trim; rw [if_pos hlt,e1]
       rw [<- e2];exact ho
     · have hA := qcj w d D Z h name;have hn11 : ((11 : Int) < (name.size : Int)) = False := eq_false (by omega);have hsz := qeq h.good name;have hend := qcM (D.read name).1.data.toList;have hlen : (D.read name).1.data.toList.length = (D.read name).1.size := qem _
       have e1 : D.openW name = D.cut name ((D.told name).2 : Int) := by unfold Dsk.openW; rw [if_neg hR,if_pos hlt]
       have HW := Lib.hid e1;unfold Dsk.told at *
       have hcut := fun w2 (hw : Dk w2 d D (fun k => Z k \/ w.heap.size <= k /\ k < w2.heap.size)) => qgM w2 d D _ hw name ((qB (D.read name).1.data.toList).2 : Int) (by omega)
       generalize D.read name = r at *;obtain ⟨bb,er⟩ := r;dsimp only at *;generalize bb.data.toList = L at *
       have hScan := fun A cap w1 (hl : Lies w1 A bb.size cap L) => qdu A bb.size cap L w1 hl (by omega)
       unfold qcn at hScan;generalize qB L = sc at *;obtain ⟨ls,en⟩ := sc;dsimp only at *;have HD := Lib.hid h
       have her2 : ((er : Int) != 0 && (er : Int) != 6) = false := by rcases hR' with rfl | rfl <;> rfl
       have HC := Lib.hid hC;generalize D.cut name (en : Int) = rc at *;obtain ⟨Dc,ec⟩ := rc;dsimp only at *
       have hlt' : (en : Int) < (bb.size : Int) := by omega
       have e0 : ((ec : Int) != 0) = true := by simp; omega
       have e0' : ((ec : Int) = 0) = False := eq_false (by omega);clear hlen hend hC h hlt hsz hn hR e1;rcases hR' with rfl | rfl
       all_goals
        go_enter Tryz.func57,Tryz.ntmps57
        go_wp2_with fail
        refine hA.mono ?_;rintro e w1 ⟨A1,cap1,rfl,hl1,hb1⟩;have hS := hScan A1 cap1 w1 hl1;clear hA hl1
        go_wp2_with fail
        refine hS.mono ?_;rintro e w2 ⟨A2,cap2,rfl,_,hb2⟩;have hb12 : Below w.heap.size w w2 := hb1.trans (hb2.mono hb1.size);have hK := hcut w2 (Dk.wide HD hb12);clear hS hcut hScan hb2 hb1
        go_wp2_with fail
        refine hK.mono ?_;rintro e w3 ⟨rfl,hd3⟩;have HO := Lib.hid (show Did w w3 d Dc Z from ⟨(Did.mk' hd3).1,(qb hb12 (Nat.le_refl _)).trans (Did.mk' hd3).2⟩);clear hK hd3 hb12;go_wp2;refine bodyPost_ret (results_tmp3 rfl _ _ _) rfl ?_;refine .inr ?_;rw [HW.out];exact ⟨HC,rfl,HO⟩
   · refine (qfv w d D Z h name hn hR' (fun h => absurd h hlt)).mono fun e w' ho => .inl ?_
     have e1 : D.openW name = (D,0) := by unfold Dsk.openW; rw [if_neg hR,if_neg hlt]
     have e2 : D.trim name = (D.openW name).1 := by unfold Dsk.trim; rw [if_neg hlt,e1]
     refine ⟨by rw [e1],?_⟩;rw [<- e2];exact ho
end Go.Proofs.YtogbhedbgcmckaaGreat
