/- The program's vault in memory; its writeSnap, by its contract. -/
import Derived.Test.YtmeoooojmhhahaaGreatTVauP2
set_option linter.unusedVariables false
set_option linter.unusedSimpArgs false
set_option maxRecDepth 100000
set_option maxHeartbeats 16000000
namespace Go.Proofs.YtmeoooojmhhahaaGreat
open Go.RowKit
structure Vt (w : World) (v j d : Nat) (D : Dsk) (was : Hd) (n : Int) (Z : Nat -> Prop) : Prop where
 box : w.heap[v]? = some (.cells #[dptr d,jptr j, .int .i64 was.t, .int .i64 was.v] 106)
 lg : Lg w j d D nWal n Z
 own : Z v
 ne : v ≠ j
section
variable {w w' : World} {v j d : Nat} {D D' : Dsk} {was : Hd} {n : Int} {Z : Nat → Prop}
theorem Vt.lt (h : Vt w v j d D was n Z) : v < w.heap.size := hlt h.box
theorem Vt.did (h : Vt w v j d D was n Z) (hd : Did w w' d D' Z) : Vt w' v j d D' was n Z :=
 ⟨(hd.2.block v h.lt h.own).trans h.box,h.lg.did hd,h.own,h.ne⟩
theorem Vt.below (h : Vt w v j d D was n Z) (hb : Below w.heap.size w w') : Vt w' v j d D was n Z :=
 ⟨(hb.block v h.lt).trans h.box,h.lg.below hb,h.own,h.ne⟩
theorem Vt.wide (h : Vt w v j d D was n Z) (hb : Below w.heap.size w w') : Vt w' v j d D was n (fun k => Z k \/ w.heap.size <= k /\ k < w'.heap.size) :=
 ⟨(hb.block v h.lt).trans h.box,⟨(hb.block j h.lg.lt).trans h.lg.box,h.lg.dk.wide hb, .inl h.lg.own⟩, .inl h.own,h.ne⟩
theorem Vt.cells (h : Vt w v j d D was n Z) : w.cell? ⟨v,0,none⟩ = some (dptr d) /\ w.cell? ⟨v,1,none⟩ = some (jptr j) /\ w.cell? ⟨v,2,none⟩ = some (.int .i64 was.t) /\ w.cell? ⟨v,3,none⟩ = some (.int .i64 was.v) := (row4 h.box).1
theorem qln (h : Below w.heap.size w w') {w2 : World} (hd : Did w' w2 d D' (fun k => Z k \/ w.heap.size <= k /\ k < w'.heap.size)) : Did w w2 d D' Z :=
 ⟨(Did.mk' hd).1,(qe h nlq).trans (Did.mk' hd).2⟩
end
theorem qgL (w : World) (v j d : Nat) (D : Dsk) (was : Hd) (n : Int) (Z : Nat -> Prop) (h : Vt w v j d D was n Z) (s : Ent) (hs : snapB s.i s.t s.d.length = true) (B : Option Addr) (c : Nat) (hl : Lies w B s.d.length c s.d) :
 Calls Tryz.prog 59 #[.pointer (some ⟨v,0,none⟩),entV s.i s.t B s.d.length c] w fun e w' => e = .returned (.int .i64 (((D.snapped s).2 : Nat) : Int)) /\ Did w w' d (D.snapped s).1 Z := by
 have hsd := (qcd hs).2.2
 have hb0 : Below w.heap.size w (w.alloc (.cells #[.int .i64 s.i, .int .i64 s.t, .slice B s.d.length c] 35)) := blq.alloc nlq _
 obtain ⟨⟨a0,a1,a2⟩,_⟩ := row3 (heap_alloc_new w (.cells #[.int .i64 s.i, .int .i64 s.t, .slice B s.d.length c] 35))
 have hSR := qfR s hs B c _ (hl.below hb0 nlq)
 have hrl : (snapRec s).length <= 60000 := by unfold snapRec; rw [qa2]; omega
 obtain ⟨R,hR⟩ : ∃ R,Hid (D.snapped s = R) := ⟨_,⟨rfl⟩⟩
 have hst := qdE D s
 rw [hR.out] at hst ⊢
 have hFl : (frameL (snapRec s)).length = (snapRec s).length + 8 := qu _
 obtain ⟨F,hF⟩ : ∃ F,frameL (snapRec s) = F := ⟨_,rfl⟩
 have hfr := fun A cap w1 (hl1 : Lies w1 A (snapRec s).length cap (snapRec s)) (hc : cap <= maxLen) => qke A (snapRec s).length cap (snapRec s) w1 hl1 hc hrl
 rw [hF] at hst hFl hfr
 clear hF
 obtain ⟨N,hN⟩ : ∃ N,(snapRec s).length = N := ⟨_,rfl⟩
 rw [hN] at hfr hFl hrl hSR
 have HN := Lib.hid hN
 have HFL := Lib.hid hFl
 have HV := Lib.hid h
 clear hl hN h hFl
 go_enter Tryz.func59,Tryz.ntmps59
 go_wp2_with fail
 refine hSR.mono ?_
 rintro e w1 ⟨A1,cap1,rfl,ho1,hb1⟩
 obtain ⟨A1',cap1',he1,hl1,_⟩ := qq ho1
 have hc1 := qcx ho1
 have hN' : (snapRec s).length = N := HN
 rw [hN'] at he1 hl1
 injection he1 with q1 q2 q3
 subst q1 q3
 have hfr1 := hfr A1 cap1 w1 hl1 hc1
 clear hSR hfr ho1 hl1 hN'
 go_wp2_with fail
 refine hfr1.mono ?_
 rintro e w2 ⟨A2,cap2,rfl,ho2,hb2⟩
 have hbw2 : Below w.heap.size w w2 := (hb0.trans (hb1.mono hb0.size)).trans (hb2.mono (Nat.le_trans hb0.size hb1.size))
 have hs1 := Nat.le_trans hb0.size hb1.size
 obtain ⟨A2',cap2',he2,hl2,hq2⟩ := qq ho2
 have hof := ho2.lt
 have hFl : F.length = N + 8 := HFL
 rw [hFl] at he2 hl2
 injection he2 with q1 q2 q3
 subst q1 q3
 have hV2 : Vt w2 v j d D was n (fun k => Z k \/ w.heap.size <= k /\ k < w2.heap.size) := Vt.wide HV hbw2
 have hz2 : 0 < N + 8 -> ∀ g off,A2 = some ⟨g,off,none⟩ -> (fun k => Z k \/ w.heap.size <= k /\ k < w2.heap.size) g := fun _ g off e => .inr (by
  have := hof g (by rw [e]; rfl)
  omega)
 have hfin : ∀ w' D',Did w2 w' d D' (fun k => Z k \/ w.heap.size <= k /\ k < w2.heap.size) -> Did w w' d D' Z := fun w' D' hd => qln hbw2 hd
 have hfinH := Lib.hid hfin
 generalize (fun k => Z k \/ w.heap.size <= k /\ k < w2.heap.size) = Z2 at *
 have hA := qfr w2 d D Z2 hV2.lg.dk qr
 have hap := fun (D1 : Dsk) w3 (hd3 : Did w2 w3 d D1 Z2) => qfp w3 d D1 Z2 hd3.1 qr A2 cap2 F (by rw [hFl]; exact hl2.keeps hd3.2 hz2) (by rw [hFl]; omega)
 rw [hFl] at hap
 obtain ⟨b0,_⟩ := hV2.cells
 have HV2 := Lib.hid hV2
 generalize hbb : (⟨F.toArray⟩ : ByteArray) = bb at *
 clear hfr1 ho2 hl2 hof hq2 hb1 hb2 hbw2 hb0 hfin hz2 hV2 hbb hFl
 generalize D.remove qr = r1 at *
 obtain ⟨D1,e1⟩ := r1
 dsimp only at *
 by_cases hbad : e1 ≠ 0 /\ e1 ≠ 6
 · rw [if_pos hbad] at hst
   have HR := Lib.hid hst
   have k0 : ((e1 : Int) != 0) = true := by simp; omega
   have k0' : ((e1 : Int) = 0) = False := eq_false (by omega)
   have k6 : ((e1 : Int) != 6) = true := by simp; omega
   have k6' : ((e1 : Int) = 6) = False := eq_false (by omega)
   clear hst hbad hap
   go_wp2_with fail
   refine hA.mono ?_
   rintro e w3 ⟨rfl,hd3⟩
   have HD := Lib.hid hd3
   clear hA hd3 b0
   go_wp2
   go_ret
   rw [show R = _ from HR]
   exact ⟨rfl,hfinH.out _ _ HD⟩
 · rw [if_neg hbad] at hst
   have hg : ((e1 : Int) != 0 && (e1 : Int) != 6) = false := by
    have : e1 = 0 \/ e1 = 6 := by omega
    rcases this with rfl | rfl <;> rfl
   have hcase : e1 = 0 \/ e1 = 6 := by omega
   have hap1 := hap D1
   clear hap
   generalize D1.append qr bb = r2 at *
   obtain ⟨D2,e2⟩ := r2
   dsimp only at *
   have hsy := fun w4 (hd4 : Did w2 w4 d D2 Z2) => qhp w4 d D2 Z2 hd4.1 qr
   generalize D2.sync qr = r3 at *
   obtain ⟨D3,e3⟩ := r3
   dsimp only at *
   have hrn := fun w5 (hd5 : Did w2 w5 d D3 Z2) => qfq w5 d D3 Z2 hd5.1 qr qal
   generalize D3.rename qr qal = r4 at *
   obtain ⟨D4,e4⟩ := r4
   dsimp only at *
   have HST := Lib.hid hst
   clear hst hbad
   rcases hcase with rfl | rfl
   all_goals
    go_wp2_with fail
    refine hA.mono ?_
    rintro e w3 ⟨rfl,hd3⟩
    have hA3 := hap1 w3 hd3
    obtain ⟨c0,_⟩ := (Vt.did HV2 hd3).cells
    clear hA hap1 b0
    go_wp2_with fail
    refine hA3.mono ?_
    rintro e w4 ⟨rfl,hd4⟩
    have hd24 := hd3.trans hd4
    have hs4 := hsy w4 hd24
    clear hA3 hsy hd3 hd4 c0
    by_cases he2 : e2 = 0
    · subst he2
      obtain ⟨c0,_⟩ := (Vt.did HV2 hd24).cells
      have HD24 := Lib.hid hd24
      clear hd24
      go_wp2_with fail
      refine hs4.mono ?_
      rintro e w5 ⟨rfl,hd5⟩
      have hd25 := Did.trans HD24 hd5
      have hr5 := hrn w5 hd25
      clear hs4 hrn hd5 c0
      by_cases he3 : e3 = 0
      · subst he3
        obtain ⟨c0,_⟩ := (Vt.did HV2 hd25).cells
        have HD25 := Lib.hid hd25
        clear hd25
        go_wp2_with fail
        refine hr5.mono ?_
        rintro e w6 ⟨rfl,hd6⟩
        have HD26 := Lib.hid (Did.trans HD25 hd6)
        clear hr5 hd6 c0
        go_wp2
        go_ret
        have e : R = (D4,e4) := HST.out
        rw [e]
        exact ⟨rfl,hfinH.out _ _ HD26⟩
      · have k0 : ((e3 : Int) != 0) = true := by simp; omega
        have k0' : ((e3 : Int) = 0) = False := eq_false (by omega)
        have HR := Lib.hid (show R = (D3,e3) by
         have e := HST.out
         rw [if_neg (by simp),if_pos he3] at e
         exact e)
        have HD25 := Lib.hid hd25
        clear he3 hr5 hd25
        go_wp2
        go_ret
        rw [HR.out]
        exact ⟨rfl,hfinH.out _ _ HD25⟩
    · have k0 : ((e2 : Int) != 0) = true := by simp; omega
      have k0' : ((e2 : Int) = 0) = False := eq_false (by omega)
      have HR := Lib.hid (show R = (D2,e2) by
       have e := HST.out
       rw [if_pos he2] at e
       exact e)
      have HD24 := Lib.hid hd24
      clear he2 hs4 hd24
      go_wp2
      go_ret
      rw [HR.out]
      exact ⟨rfl,hfinH.out _ _ HD24⟩
end Go.Proofs.YtmeoooojmhhahaaGreat
namespace Go.Proofs.YtmeoooojmhhahaaGreat
open Go.RowKit
theorem Recs.cellsZ {w : World} {Z : Nat -> Prop} {A : Option Addr} {len cap : Nat} {ls : List (List UInt8)} (h : Recs w Z A len cap ls) : ∃ cs : List Value,cs.length = ls.length /\ (∀ j (hj : j < ls.length),∃ e,cs[j]? = some e /\ Rec1 w Z e ls[j]) /\ ∀ g off,A = some ⟨g,off,none⟩ -> ∀ j u,cs[j]? = some u -> w.cell? ⟨g,off + j,none⟩ = some u := by
 obtain ⟨V,hV⟩ := Classical.axiomOfChoice (r := fun (j : Nat) (v : Value) => ∀ hj : j < ls.length,(∀ g off,A = some ⟨g,off,none⟩ -> w.cell? ⟨g,off + j,none⟩ = some v) /\ Rec1 w Z v ls[j]) (fun j => by
  by_cases hj : j < ls.length
  · obtain ⟨g,off,e,hg,_,hc⟩ := h.2.2.2 (by rw [<- h.1]; omega)
    obtain ⟨v,hv,hr⟩ := hc j hj
    refine ⟨v,fun _ => ⟨fun g' off' e' => ?_,hr⟩⟩
    rw [e] at e'
    injection e' with e'
    injection e' with e1 e2
    subst e1 e2
    exact hv
  · exact ⟨.bool false,fun h => absurd h hj⟩)
 refine ⟨(List.range ls.length).map V,by simp,fun j hj => ⟨V j,by simp [hj],(hV j hj).2⟩,fun g off e j u hu => ?_⟩
 have hj : j < ls.length := by
  have := (List.getElem?_eq_some_iff.1 hu).1
  simpa using this
 have : u = V j := by simpa [hj] using hu.symm
 rw [this]
 exact (hV j hj).1 g off e
theorem qkk {w : World} {Z : Nat -> Prop} {v : Value} {l : List UInt8} (h : Rec1 w Z v l) : v.oneCell' = true := by
 obtain ⟨E,c,rfl,_⟩ := h
 rfl
/-- 'append(x,y...)',y records in memory,x a row of records of the call's own. -/
theorem qcV (w : World) (ty : TypeId) (B : Nat) (hB : B <= w.heap.size) (v : Value) (ts : List (List UInt8)) (h : qm w B v ts) (A : Option Addr) (len cap : Nat) (ls : List (List UInt8)) (hr : Recs w (fun g => B <= g /\ v.ownBlock ≠ some g) A len cap ls) (hf : ts.length + len <= 1000000) :
 ∃ A' cap' w',(Builtin.append_ #[97,97] ty #[v, .slice A len cap]).run Tryz.prog w = .ok (.slice A' (ts.length + len) cap') w' /\ qm w' B (.slice A' (ts.length + len) cap') (ts ++ ls) /\ w.grownBy w' v.ownBlock := by
 obtain ⟨i0,hi0,hz0,hz1,hz2⟩ := info_parts qdw
 obtain ⟨vs,ho,hvl,hvat⟩ := h
 obtain ⟨cs,hcl,hcat,hat⟩ := hr.cellsZ
 have hll : cs.length = len := by rw [hcl,hr.1]
 have hones : ∀ u ∈ cs,u.oneCell' = true := by
  intro u hu
  obtain ⟨j,hj,rfl⟩ := List.getElem_of_mem hu
  obtain ⟨e,he,hr1⟩ := hcat j (by omega)
  rw [List.getElem?_eq_getElem hj] at he
  injection he with he
  rw [he]
  exact qkk hr1
 have key : ∀ v' w',(Builtin.append_ #[97,97] ty #[v, .slice A len cap]).run Tryz.prog w = .ok v' w' -> w'.ownsRow B 33 1 v' (ts.length + len) (vs ++ cs) -> w.grownBy w' v.ownBlock -> (v'.ownBlock = v.ownBlock \/ v'.ownBlock = some w.heap.size) →
  ∃ A' cap' w',(Builtin.append_ #[97,97] ty #[v, .slice A len cap]).run Tryz.prog w = .ok (.slice A' (ts.length + len) cap') w' /\ qm w' B (.slice A' (ts.length + len) cap') (ts ++ ls) /\ w.grownBy w' v.ownBlock := by
  intro v' w' hrun h2 h3 h4
  have hlen : (ts ++ ls).length = ts.length + len := by rw [List.length_append,hr.1]
  have hne : ∀ {x : Value} {t : List UInt8},Rec1 w (fun g => B <= g /\ v.ownBlock ≠ some g) x t -> Rec1 w' (fun q => B <= q /\ v'.ownBlock ≠ some q) x t := by
   intro x t hx
   obtain ⟨E,c,ex,hc,hl,hz⟩ := hx
   refine ⟨E,c,ex,hc,hl.keep h3.size fun h0 q off eq hlt => h3.block q hlt fun er => (hz h0 q off eq).2 er.symm,fun h0 q off eq => ⟨(hz h0 q off eq).1,fun er => ?_⟩⟩
   obtain ⟨q',off',eq',hlt,_⟩ := hl.2.2.2 h0
   rw [eq] at eq'
   injection eq' with eq'
   injection eq' with e1 _
   subst e1
   rcases h4 with h4 | h4
   · exact (hz h0 q off eq).2 (by rw [<- h4]; exact er)
   · rw [h4] at er
     injection er with er
     omega
  have hrow : qm w' B v' (ts ++ ls) := by
   refine ⟨vs ++ cs,by rw [hlen]; exact h2,by rw [List.length_append,hvl,hcl,List.length_append],fun j hj => ?_⟩
   by_cases hjl : j < ts.length
   · obtain ⟨x,h5,h6⟩ := hvat j hjl
     refine ⟨x,by rw [List.getElem?_append_left (by omega)]; exact h5,?_⟩
     rw [List.getElem_append_left hjl]
     exact hne h6
   · rw [List.length_append] at hj
     obtain ⟨x,h5,h6⟩ := hcat (j - ts.length) (by omega)
     refine ⟨x,by rw [List.getElem?_append_right (by omega),hvl]; exact h5,?_⟩
     rw [List.getElem_append_right (by omega)]
     exact hne h6
  obtain ⟨A',cap',rfl⟩ := hrow.form
  rw [hlen] at hrun hrow
  exact ⟨A',cap',w',hrun,hrow,h3⟩
 cases A with
 | none =>
   have hc0 := hr.2.2.1 rfl
   have hl0 := hr.2.1
   obtain rfl : cap = 0 := hc0
   obtain rfl : len = 0 := by omega
   have hls : cs = [] := List.eq_nil_of_length_eq_zero hll
   subst hls
   exact key v w (run_append_owned_none (P := Tryz.prog) (w := w) B 97 ty 33 i0 1 Tryz.underlying97 hi0 v _ _ ho) (by simpa using ho) (World.grownBy.refl _ _) (.inl rfl)
 | some a =>
   have hcell : ∀ j u,cs[j]? = some u -> w.cell? (a.add j) = some u := fun j u hj => by
    have hjl : j < cs.length := (List.getElem?_eq_some_iff.1 hj).1
    obtain ⟨g,off,e,_,_,hc⟩ := hr.2.2.2 (by omega)
    injection e with e
    subst e
    rw [Addr.add_lit]
    exact hat g off rfl j u hj
   obtain ⟨v',w',hrun,p2,p3,_,p5⟩ := run_append_own_at (P := Tryz.prog) w B 97 ty 33 i0 (.slice none 0 0) 1 24 Tryz.underlying97 hi0 hz0 hz1 hz2 rfl (by omega) v ts.length vs ho a len cap cs (by rw [hll]; simp) hcell hones (by unfold maxLen; omega) (by omega) hB
   exact key v' w' hrun p2 p3 p5
theorem qaS (w : World) {ops : Array Oper} {o : Oper} {a : Act} {K : Act -> World -> Prop} {Q : Exit -> Act -> World -> Prop} {E : Prop} (hgd : o.guard = none) (sl x : Operand)
 (ho : o.op = .call { callee := .builtin .append,args := #[sl,x],argTypes := #[97,97] })
 (B : Nat) (v : Value) (ts : List (List UInt8)) (A : Option Addr) (len cap : Nat) (ls : List (List UInt8)) (hx : a.eval x = .slice A len cap) (hs : a.eval sl = v) (hB : B <= w.heap.size) (h : qm w B v ts) (hr : Recs w (fun g => B <= g /\ v.ownBlock ≠ some g) A len cap ls) (m : Nat) (hm : ts.length + len = m) (hf : m <= 1000000)
 (hK : ∀ A' cap' w',qm w' B (.slice A' m cap') (ts ++ ls) -> w.grownBy w' v.ownBlock -> K (a.put o.dst (.slice A' m cap')) w') :
 if Region.wanted o (yielded ops a.tmps) = true then Oper.wp Tryz.prog o a w K Q else E := by
 have hw : Region.wanted o (yielded ops a.tmps) = true := by simp [Region.wanted,hgd]
 rw [if_pos hw]
 subst hm
 obtain ⟨A',cap',w',hrun,h1,h2⟩ := qcV w o.type B hB v ts h A len cap ls hr hf
 unfold Oper.wp execOp
 simp only [ho,resolve,invoke,builtin,Sem.run_bind,Sem.run_pure,Result.andThen_ok,List.map_toArray,List.map_cons,List.map_nil,hs,hx,hrun]
 exact hK A' cap' w' h1 h2
theorem qb8 (w : World) {ops : Array Oper} {rest : List Oper} {o : Oper} {a : Act} {Q : Exit -> Act -> World -> Prop} (hgd : o.guard = none) (sl x : Operand)
 (ho : o.op = .call { callee := .builtin .append,args := #[sl,x],argTypes := #[97,97] })
 (B : Nat) (v : Value) (ts : List (List UInt8)) (A : Option Addr) (len cap : Nat) (ls : List (List UInt8)) (hx : a.eval x = .slice A len cap) (hs : a.eval sl = v) (hB : B <= w.heap.size) (h : qm w B v ts) (hr : Recs w (fun g => B <= g /\ v.ownBlock ≠ some g) A len cap ls) (m : Nat) (hm : ts.length + len = m) (hf : m <= 1000000)
 (hK : ∀ A' cap' w',qm w' B (.slice A' m cap') (ts ++ ls) -> w.grownBy w' v.ownBlock -> wpList Tryz.prog ops Q rest (a.put o.dst (.slice A' m cap')) w') : wpList Tryz.prog ops Q (o :: rest) a w := by
 refine wpList_plain hgd fun K hKK => ?_
 subst hm
 obtain ⟨A',cap',w',hrun,h1,h2⟩ := qcV w o.type B hB v ts h A len cap ls hr hf
 unfold Oper.wp execOp
 simp only [ho,resolve,invoke,builtin,Sem.run_bind,Sem.run_pure,Result.andThen_ok,List.map_toArray,List.map_cons,List.map_nil,hs,hx,hrun]
 exact hKK _ _ (hK A' cap' w' h1 h2)
theorem qm.one {w W : World} {B n c : Nat} {A : Option Addr} {r : List UInt8} (ho : Owns 5 w B (.slice A n c) r) (hn : r.length = n) (hb : Below w.heap.size w W) (hB : B <= w.heap.size) :
 qm (W.alloc (.cells #[.slice A n c] 33)) B (.slice (some ⟨W.heap.size,0,none⟩) 1 1) [r] := by
 subst hn
 have hs := hb.size
 obtain ⟨A',c',e,hl,hq⟩ := qq ho
 have hc := qcx ho
 injection e with e1 e2 e3
 subst e1 e3
 have hA : Below w.heap.size w (W.alloc (.cells #[.slice A r.length c] 33)) := hb.alloc hs _
 refine ⟨[.slice A r.length c],World.ownsRow_lit W #[.slice A r.length c] 1 (by omega) (by unfold maxLen; omega) rfl,rfl,fun j hj => ?_⟩
 obtain rfl : j = 0 := by simpa using hj
 refine ⟨_,rfl,A,c,rfl,hc,hl.below hA nlq,fun h0 g off e => ?_⟩
 have := ho.lt g (hq g off e)
 refine ⟨this.1,fun er => ?_⟩
 injection er with er
 have er : W.heap.size = g := er
 omega
theorem qlo {w7 w8 : World} {B n c7 m c8 : Nat} {A7 A8 : Option Addr} {r : List UInt8} {ts : List (List UInt8)} (ho : Owns 5 w7 B (.slice A7 n c7) r) (hn : r.length = n) (hB : B <= w7.heap.size)
 (hb : Below (w7.alloc (.cells #[.slice A7 n c7] 33)).heap.size (w7.alloc (.cells #[.slice A7 n c7] 33)) w8) (hrow : qm w8 (w7.alloc (.cells #[.slice A7 n c7] 33)).heap.size (.slice A8 m c8) ts) (hm : ts.length = m) :
 qm w8 B (.slice (some ⟨w7.heap.size,0,none⟩) 1 1) [r] /\ Recs w8 (fun g => B <= g /\ (Value.slice (some ⟨w7.heap.size,0,none⟩) 1 1).ownBlock ≠ some g) A8 m c8 ts := by
 subst hm
 refine ⟨(qm.one ho hn blq hB).below hb,hrow.recs.mono fun k hk => ?_⟩
 have hk' : w7.heap.size + 1 <= k := by simpa using hk
 refine ⟨by omega,fun er => ?_⟩
 injection er with er
 have er : w7.heap.size = k := er
 omega
theorem qlp {w7 w8 : World} {B n c7 m c8 : Nat} {A7 A8 : Option Addr} {r : List UInt8} {ts : List (List UInt8)} (ho : Owns 5 w7 B (.slice A7 n c7) r) (hn : r.length = n) (hB : B <= w7.heap.size)
 (hb : Below w7.heap.size w7 w8) (hrow : qm w8 w7.heap.size (.slice A8 m c8) ts) (hm : ts.length = m) :
 qm (w8.alloc (.cells #[.slice A7 n c7] 33)) B (.slice (some ⟨w8.heap.size,0,none⟩) 1 1) [r] /\ Recs (w8.alloc (.cells #[.slice A7 n c7] 33)) (fun g => B <= g /\ (Value.slice (some ⟨w8.heap.size,0,none⟩) 1 1).ownBlock ≠ some g) A8 m c8 ts := by
 subst hm
 refine ⟨qm.one ho hn hb hB,?_⟩
 have hw : Recs w8 (fun k => w7.heap.size <= k /\ k < w8.heap.size) A8 ts.length c8 ts := by
  have h := hrow.recs
  refine ⟨h.1,h.2.1,h.2.2.1,fun h0 => ?_⟩
  obtain ⟨g,off,e,hg,hz,hc⟩ := h.2.2.2 h0
  refine ⟨g,off,e,hg,⟨hz,hg⟩,fun j hj => ?_⟩
  obtain ⟨v,hv,E,c,ev,hc,hl,hz2⟩ := hc j hj
  refine ⟨v,hv,E,c,ev,hc,hl,fun h1 q o eq => ⟨hz2 h1 q o eq,?_⟩⟩
  obtain ⟨q',o',eq',hlt,_⟩ := hl.2.2.2 h1
  rw [eq] at eq'
  injection eq' with eq'
  injection eq' with e1 _
  omega
 refine (hw.below ((Below.refl w8.heap.size w8).alloc nlq _) nlq).mono fun k hk => ⟨by omega,fun er => ?_⟩
 injection er with er
 have er : w8.heap.size = k := er
 omega
end Go.Proofs.YtmeoooojmhhahaaGreat
namespace Go.Proofs.YtmeoooojmhhahaaGreat
open Go.RowKit
theorem Recs.within {w : World} {B : Nat} {A : Option Addr} {len cap : Nat} {ls : List (List UInt8)} (h : Recs w (B <= ·) A len cap ls) : Recs w (fun k => B <= k /\ k < w.heap.size) A len cap ls := by
 refine ⟨h.1,h.2.1,h.2.2.1,fun h0 => ?_⟩
 obtain ⟨g,off,e,hg,hz,hc⟩ := h.2.2.2 h0
 refine ⟨g,off,e,hg,⟨hz,hg⟩,fun j hj => ?_⟩
 obtain ⟨v,hv,E,c,ev,hc,hl,hz2⟩ := hc j hj
 refine ⟨v,hv,E,c,ev,hc,hl,fun h1 q o eq => ⟨hz2 h1 q o eq,?_⟩⟩
 obtain ⟨q',o',eq',hlt,_⟩ := hl.2.2.2 h1
 rw [eq] at eq'
 injection eq' with eq'
 injection eq' with e1 _
 omega
def VDid (w w' : World) (v j d : Nat) (D : Dsk) (was : Hd) (n : Int) (Z : Nat -> Prop) : Prop := Vt w' v j d D was n Z /\ qc (fun k => Z k /\ k ≠ j /\ k ≠ v) w w'
section
variable {w w1 w' : World} {v j d : Nat} {D D' : Dsk} {was was' : Hd} {n n' : Int} {Z : Nat → Prop}
theorem VDid.trans {w2 : World} {D2 : Dsk} {was2 : Hd} {n2 : Int} (h : VDid w w' v j d D was n Z) (k : VDid w' w2 v j d D2 was2 n2 Z) : VDid w w2 v j d D2 was2 n2 Z := ⟨k.1,h.2.trans k.2⟩
theorem VDid.of_did (h : Vt w v j d D was n Z) (hd : Did w w' d D' Z) : VDid w w' v j d D' was n Z := ⟨h.did hd,hd.2.mono fun k hk => hk.1⟩
theorem VDid.refl (h : Vt w v j d D was n Z) : VDid w w v j d D was n Z := ⟨h,qc.refl _ _⟩
theorem VDid.low (h : VDid w1 w' v j d D was n Z) (hb : Below w.heap.size w w1) : VDid w w' v j d D was n Z := ⟨h.1,(qe hb nlq).trans h.2⟩
theorem Vt.ldid (h : Vt w v j d D was n Z) (hb : Below w.heap.size w w1) (hd : LDid w1 w' j d D' nWal n' (fun k => Z k \/ w.heap.size <= k /\ k < w1.heap.size)) : VDid w w' v j d D' was n' Z := by
 have hk : qc (fun k => Z k /\ k ≠ j) w w' := (qe hb nlq).trans (hd.2.mono fun k hk => ⟨.inl hk.1,hk.2⟩)
 refine ⟨⟨(hk.block v h.lt ⟨h.own,h.ne⟩).trans h.box,⟨hd.1.box,hd.1.dk.less fun k hk => .inl hk,h.lg.own⟩,h.own,h.ne⟩,hk.mono fun k hk => ⟨hk.1,hk.2.1⟩⟩
end
theorem qfv (w : World) (v j d : Nat) (D : Dsk) (was : Hd) (n : Int) (Z : Nat -> Prop) (hV : Vt w v j d D was n Z) (h : Hd) (hh : rightH h = true) (Y : Nat -> Prop) (A : Option Addr) (len cap : Nat) (l : List Ent) (hE : Ents w Y A len cap l) (hm : len <= 20000) (hr : ∀ x ∈ l,rightE x = true) :
 Calls Tryz.prog 42 #[.pointer (some ⟨v,0,none⟩), .agg #[.int .i64 h.t, .int .i64 h.v], .slice A len cap] w fun e w' => e = .returned (.int .i64 (((D.reset nWal (allRecs h l)).2 : Nat) : Int)) /\ VDid w w' v j d (D.reset nWal (allRecs h l)).1 was (cnt (D.reset nWal (allRecs h l)) n ((len + 1 : Nat) : Int)) Z := by
 have hll := hE.1
 have hb0 : Below w.heap.size w (w.alloc (.cells #[.int .i64 h.t, .int .i64 h.v] 32)) := blq.alloc nlq _
 have hr0 := heap_alloc_new w (.cells #[.int .i64 h.t, .int .i64 h.v] 32)
 have hz0 : (w.alloc (.cells #[.int .i64 h.t, .int .i64 h.v] 32)).heap.size = w.heap.size + 1 := by simp
 have hHR := fun W => qdj h hh W
 have hER := fun W (hW : Below w.heap.size w W) => qcA Y A len cap l W (hE.below hW nlq) (by omega) hr
 have hRS := fun W (hW : Below w.heap.size w W) A1 c1 (hrow : qm W w.heap.size (.slice A1 ((allRecs h l).length) c1) (allRecs h l)) => qkf W j d D nWal n _ (hV.wide hW).lg A1 _ c1 (allRecs h l) ((hrow.recs.within).mono fun k hk => .inr hk) (by show (allRecs h l).length <= _; unfold allRecs; rw [List.length_cons,List.length_map]; omega) (qeu hr) (by show (3 : Nat) <= _; omega)
 have hal : (allRecs h l).length = 1 + len := by unfold allRecs; rw [List.length_cons,List.length_map]; omega
 rw [hal] at hRS
 unfold Dsk.reset
 generalize D.replaced nWal ⟨(framesL (allRecs h l)).toArray⟩ = R at *
 obtain ⟨_,v1,_,_⟩ := (hV.below hb0).cells
 obtain ⟨⟨x0,x1⟩,_⟩ := row2 hr0
 have hvl := hV.lt
 have HV := Lib.hid hV
 have hlen : (l.map entRec).length = len := by rw [List.length_map]; exact hll
 have HLE := Lib.hid hlen
 clear hE hr hV hr0 hll hal hlen
 go_enter Tryz.func42,Tryz.ntmps42
 go_wp2
 generalize w.alloc (.cells #[.int .i64 h.t, .int .i64 h.v] 32) = W0 at *
 have hst : ∀ W W',Below W0.heap.size W0 W -> Below W.heap.size W W' -> Below W0.heap.size W0 W' /\ W'.cell? ⟨v,1,none⟩ = some (jptr j) /\ W'.cell? ⟨w.heap.size,0,none⟩ = some (.int .i64 h.t) /\ W'.cell? ⟨w.heap.size,1,none⟩ = some (.int .i64 h.v) := fun W W' h1 h2 => by
  have h3 := h1.trans (h2.mono h1.size)
  exact ⟨h3,(h3.cell (p := ⟨v,1,none⟩) (by show v < _; omega)).trans v1,(h3.cell (p := ⟨w.heap.size,0,none⟩) (by show w.heap.size < _; omega)).trans x0,(h3.cell (p := ⟨w.heap.size,1,none⟩) (by show w.heap.size < _; omega)).trans x1⟩
 have hB0 := (Below.refl W0.heap.size W0).drew
 have hlow : ∀ W,Below W0.heap.size W0 W -> Below w.heap.size w W := fun W hW => hb0.trans (hW.mono hb0.size)
 have hst2 : ∀ (W w' : World) (D' : Dsk) (n' : Int),Below W0.heap.size W0 W -> LDid W w' j d D' nWal n' (fun k => Z k \/ w.heap.size <= k /\ k < W.heap.size) -> w'.cell? ⟨v,1,none⟩ = some (jptr j) /\ w'.cell? ⟨w.heap.size,0,none⟩ = some (.int .i64 h.t) /\ w'.cell? ⟨w.heap.size,1,none⟩ = some (.int .i64 h.v) := fun W w' D' n' h1 h2 => by
  have hV' : Vt w v j d D was n Z := HV
  have hs := h1.size
  obtain ⟨_,q1,q2,q3⟩ := hst W W h1 blq
  have k1 := h2.2.block v (by omega) ⟨.inl hV'.own,hV'.ne⟩
  have k2 := h2.2.block w.heap.size (by omega) ⟨.inr ⟨nlq,by omega⟩,fun e => by have := hV'.lg.lt; omega⟩
  exact ⟨(World.cell?_of_block k1).trans q1,(World.cell?_of_block k2).trans q2,(World.cell?_of_block k2).trans q3⟩
 go_region_held3 (fun w' => w'.cell? ⟨v,1,none⟩ = some (jptr j) /\ w'.cell? ⟨w.heap.size,0,none⟩ = some (.int .i64 h.t) /\ w'.cell? ⟨w.heap.size,1,none⟩ = some (.int .i64 h.v))
  (first | exact hS10 | exact hS9.2 | exact hS8.2 | exact hS7.2 | (exact ⟨v1,x0,x1⟩) | (exact (hst _ _ hS8.1 (blq.alloc nlq _)).2) | (exact (hst _ _ hS7.1 (blq.alloc nlq _)).2) | (go_keep; done))
  (first
    | (go_at_call 52
       refine (hHR _).mono ?_
       rintro e w7 ⟨A7,c7,rfl,ho7',hb7⟩
       have ho7 : Owns 5 w7 w.heap.size (.slice A7 (qy h).length c7) (qy h) := ho7'.rebase fun k hk => Nat.le_trans hb0.size (ho7'.lt k hk).1
       have hS7 := hst _ w7 hB0 hb7)
    | (go_at_call 54
       refine (hER _ (hlow _ (by first | exact hS7.1 | exact hS7.1.alloc hS7.1.size _))).mono ?_
       rintro e w8 ⟨A8,c8,rfl,hrow8,hb8⟩
       have hS8 := hst _ w8 (by first | exact hS7.1 | exact hS7.1.alloc hS7.1.size _) hb8)
    | (have hrr := qlo ho7 rfl (hlow _ hS7.1).size hb8 hrow8 HLE
       refine qaS _ (by rfl) _ _ (by rfl) w.heap.size _ [qy h] A8 len c8 (l.map entRec) (by rfl) (by rfl) (hlow _ hS8.1).size hrr.1 hrr.2 (1 + len) (by rfl) (by omega) ?_
       intro A9 c9 w9 hrow9 hg9
       have hb9 : Below W0.heap.size W0 w9 := hS8.1.grown hg9 hS8.1.size (fun q hq => by injection hq with hq; have e : w7.heap.size = q := hq; have := hS7.1.size; omega)
       have hS9 := hst _ _ hb9 blq)
    | (have hrr := qlp ho7 rfl (hlow _ hS7.1).size hb8 hrow8 HLE
       refine qaS _ (by rfl) _ _ (by rfl) w.heap.size _ [qy h] A8 len c8 (l.map entRec) (by rfl) (by rfl) (by simp; have := (hlow _ hS8.1).size; omega) hrr.1 hrr.2 (1 + len) (by rfl) (by omega) ?_
       intro A9 c9 w9 hrow9 hg9
       have hb9 : Below W0.heap.size W0 w9 := (hS8.1.alloc hS8.1.size _).grown hg9 (by simp; have := hS8.1.size; omega) (fun q hq => by injection hq with hq; have e : w8.heap.size = q := hq; have := hS8.1.size; omega)
       have hS9 := hst _ _ hb9 blq)
    | (go_at_call 94
       refine (hRS _ (hlow _ hS9.1) A9 c9 hrow9).mono ?_
       rintro e w10 ⟨rfl,hd10⟩
       have hS10 := hst2 _ _ _ _ hS9.1 hd10
       have HD10 := Lib.hid (Vt.ldid HV (hlow _ hS9.1) hd10)))
 all_goals
  go_wp2
  go_ret
  have hd : VDid w w10 v j d R.1 was (cnt R n ((1 + len : Nat) : Int)) Z := HD10
  rw [Nat.add_comm] at hd
  exact ⟨rfl,hd⟩
end Go.Proofs.YtmeoooojmhhahaaGreat
namespace Go.Proofs.YtmeoooojmhhahaaGreat
open Go.RowKit
theorem VDid.store {w w' : World} {v j d : Nat} {D : Dsk} {was : Hd} {n : Int} {Z : Nat -> Prop} (h : VDid w w' v j d D was n Z) (k : Hd) :
 VDid w ((w'.setCell ⟨v,2,none⟩ (.int .i64 k.t)).setCell ⟨v,3,none⟩ (.int .i64 k.v)) v j d D k n Z := by
 have far : ∀ k1,k1 ≠ v -> ((w'.setCell ⟨v,2,none⟩ (.int .i64 k.t)).setCell ⟨v,3,none⟩ (.int .i64 k.v)).heap[k1]? = w'.heap[k1]? := fun k1 hk => (Below.heap_setCell _ _ _ _ (by exact hk)).trans (Below.heap_setCell _ _ _ _ (by exact hk))
 refine ⟨⟨?_,⟨(far _ (fun e => h.1.ne e.symm)).trans h.1.lg.box,h.1.lg.dk.keep (by simp) fun k1 _ hz => far k1 (fun e => hz (e ▸ h.1.own)),h.1.lg.own⟩,h.1.own,h.1.ne⟩,(h.2.trans (qo _ _ _ (fun q => q.2.2 rfl))).trans (qo _ _ _ (fun q => q.2.2 rfl))⟩
 have h1 := setCell_at w' ⟨v,2,none⟩ (.int .i64 k.t) _ _ _ rfl h.1.box
 exact setCell_at _ ⟨v,3,none⟩ (.int .i64 k.v) _ _ _ rfl h1
def qbq (w w' : World) (v j d : Nat) (D : Dsk) (was h : Hd) (l : List Ent) (n : Int) (Z : Nat -> Prop) (e : Ending) : Prop :=
 e = .returned (.int .i64 (((D.saveV was h l).1.2 : Nat) : Int)) /\ ∃ n',0 <= n' /\ n' <= n + (l.length : Int) + 1 /\ VDid w w' v j d (D.saveV was h l).1.1 (D.saveV was h l).2 n' Z
theorem qd1 (w : World) (v j d : Nat) (D : Dsk) (was : Hd) (n : Int) (Z : Nat -> Prop) (hV : Vt w v j d D was n Z) (h : Hd) (Y : Nat -> Prop) (A : Option Addr) (len cap : Nat) (l : List Ent) (hE : Ents w Y A len cap l) (hm : len <= 20000) (hn : 0 <= n /\ n <= 900000000) :
 Calls Tryz.prog 15 #[.pointer (some ⟨v,0,none⟩), .agg #[.int .i64 h.t, .int .i64 h.v], .slice A len cap] w fun e w' => qbq w w' v j d D was h l n Z e := by
 have hll := hE.1
 have hb0 : Below w.heap.size w (w.alloc (.cells #[.int .i64 h.t, .int .i64 h.v] 32)) := blq.alloc nlq _
 have hr0 := heap_alloc_new w (.cells #[.int .i64 h.t, .int .i64 h.v] 32)
 have hRH := fun W => qdr h.t h.v W
 have hAR := fun W (hW : Below w.heap.size w W) => qhu Y A len cap l W (hE.below hW nlq) (by unfold maxLen; omega)
 have hq : hardB h.t h.v = rightH h := rfl
 rw [hq] at hRH
 obtain ⟨⟨x0,x1⟩,_⟩ := row2 hr0
 obtain ⟨qh,hqh⟩ : ∃ q,Hid (rightH h = q) := ⟨_,⟨rfl⟩⟩
 obtain ⟨ql,hql⟩ : ∃ q,Hid (l.all rightE = q) := ⟨_,⟨rfl⟩⟩
 rw [hqh.out] at hRH
 rw [hql.out] at hAR
 have HV := Lib.hid hV
 have HE := Lib.hid hE
 have hvl := hV.lt
 clear hq hV hE
 cases qh with
 | false =>
   have HB := Lib.hid (qgi (D := D) (was := was) (h := h) (l := l) (by rw [hqh.out,Bool.and_false]))
   go_enter Tryz.func15,Tryz.ntmps15
   go_wp2_with fail
   refine (hRH _).mono ?_
   rintro e w1 ⟨rfl,hb1⟩
   have hbw := hb0.trans (hb1.mono hb0.size)
   go_wp2
   go_ret
   unfold qbq
   rw [HB.out]
   exact ⟨rfl,n,hn.1,by omega,Vt.below HV hbw,qe hbw nlq⟩
 | true =>
   cases ql with
   | false =>
     have HB := Lib.hid (qgi (D := D) (was := was) (h := h) (l := l) (by rw [hql.out,Bool.false_and]))
     go_enter Tryz.func15,Tryz.ntmps15
     go_wp2_with fail
     refine (hRH _).mono ?_
     rintro e w1 ⟨rfl,hb1⟩
     have hbw := hb0.trans (hb1.mono hb0.size)
     have hA1 := hAR w1 hbw
     go_wp2_with fail
     refine hA1.mono ?_
     rintro e w2 ⟨rfl,hb2⟩
     have hbw2 := hbw.trans (hb2.mono hbw.size)
     go_wp2
     go_ret
     unfold qbq
     rw [HB.out]
     exact ⟨rfl,n,hn.1,by omega,Vt.below HV hbw2,qe hbw2 nlq⟩
   | true =>
     have hok : (l.all rightE && rightH h) = true := by rw [hql.out,hqh.out]; rfl
     have HB := Lib.hid (qlk (D := D) (was := was) (h := h) (l := l) hok)
     have hallr : ∀ x ∈ l,rightE x = true := List.all_eq_true.1 hql.out
     have hfit : fit (saveRecs was h l) := qdW hallr
     have hER := fun W (hW : Below w.heap.size w W) => qcA Y A len cap l W ((show Ents w Y A len cap l from HE).below hW nlq) (by omega) hallr
     have hHR := fun W => qdj h hqh.out W
     have HLE := Lib.hid (show (l.map entRec).length = len by rw [List.length_map]; exact hll)
     have hcase : h = was \/ (h.t == was.t) = false \/ ((h.t == was.t) = true /\ (h.v == was.v) = false) := by
      by_cases e1 : h.t = was.t
      · by_cases e2 : h.v = was.v
        · left
          cases h; cases was; simp at e1 e2; rw [e1,e2]
        · exact .inr (.inr ⟨beq_iff_eq.2 e1,beq_eq_false_iff_ne.2 e2⟩)
      · exact .inr (.inl (beq_eq_false_iff_ne.2 e1))
     have HF := Lib.hid hfit
     have HLL := Lib.hid hll
     clear hok hallr hfit hll hql hqh
     go_enter Tryz.func15,Tryz.ntmps15
     go_wp2_with fail
     refine (hRH _).mono ?_
     rintro e w1 ⟨rfl,hb1⟩
     have hbw := hb0.trans (hb1.mono hb0.size)
     have hr1 := (hb1.block _ (hlt hr0)).trans hr0
     have hA1 := hAR w1 hbw
     clear hRH hAR hb0 hb1 hr0 x0 x1
     go_wp2_with fail
     refine hA1.mono ?_
     rintro e w2 ⟨rfl,hb2⟩
     have hbw2 := hbw.trans (hb2.mono hbw.size)
     have hr2 := (hb2.block _ (hlt hr1)).trans hr1
     obtain ⟨⟨x0,x1⟩,_⟩ := row2 hr2
     obtain ⟨_,v1,v2,v3⟩ := (Vt.below HV hbw2).cells
     clear hA1 hb2 hr1 hbw
     rcases hcase with hw | hw | ⟨hw,hw2⟩
     · obtain rfl : h = was := hw
       go_wp2
       go_quiet (fail)
       have hB5 : Below w.heap.size w (w2.drewN nq) := qO hbw2 _
       have hr5 : (w2.drewN nq).heap[w.heap.size]? = some (.cells #[.int .i64 h.t, .int .i64 h.v] 32) := hr2
       clear hbw2 hr2
       generalize w2.drewN nq = W5 at *
       go_wp2
       obtain ⟨W,hWW⟩ : ∃ W,W = W5 := ⟨_,rfl⟩
       have hBW : Below (w.heap.size + 1) W5 W := by rw [hWW]; exact blq
       have hrow : qm W (w.heap.size + 1) (.slice none 0 0) [] := qm.nil _ _
       have hn0 : Hid (([] : List (List UInt8)).length = 0) := ⟨rfl⟩
       have HLS : Hid (([] : List (List UInt8)) ++ l.map entRec = saveRecs h h l) := ⟨by unfold saveRecs; rw [if_pos rfl]⟩
       rw [<- hWW]
       clear hWW
       obtain ⟨M,hM⟩ : ∃ M,Hid (0 + len = M) := ⟨_,⟨rfl⟩⟩
       have hMle : M <= 20001 := by have := hM.out; omega
       have hs5 : w.heap.size + 1 <= W5.heap.size := by have := hlt hr5; omega
       have hst : ∀ W,Below (w.heap.size + 1) W5 W -> W.cell? ⟨v,1,none⟩ = some (jptr j) /\ W.cell? ⟨w.heap.size,0,none⟩ = some (.int .i64 h.t) /\ W.cell? ⟨w.heap.size,1,none⟩ = some (.int .i64 h.v) := fun W hW => by
        obtain ⟨_,q1,_,_⟩ := (Vt.below HV hB5).cells
        obtain ⟨⟨q2,q3⟩,_⟩ := row2 hr5
        exact ⟨(World.cell?_of_block (hW.block v (by omega))).trans q1,(World.cell?_of_block (hW.block w.heap.size (by omega))).trans q2,(World.cell?_of_block (hW.block w.heap.size (by omega))).trans q3⟩
       have hlow : ∀ W,Below (w.heap.size + 1) W5 W -> Below w.heap.size w W := fun W hW => hB5.trans (hW.mono (Nat.le_succ _))
       have hst2 : ∀ (W w' : World) (D' : Dsk) (n' : Int),Below (w.heap.size + 1) W5 W -> LDid W w' j d D' nWal n' (fun k => Z k \/ w.heap.size <= k /\ k < W.heap.size) -> w'.cell? ⟨v,1,none⟩ = some (jptr j) /\ w'.cell? ⟨w.heap.size,0,none⟩ = some (.int .i64 h.t) /\ w'.cell? ⟨w.heap.size,1,none⟩ = some (.int .i64 h.v) := fun W w' D' n' h1 h2 => by
        have hV' : Vt w v j d D h n Z := HV
        have hs := h1.size
        obtain ⟨q1,q2,q3⟩ := hst W h1
        have k1 := h2.2.block v (by omega) ⟨.inl hV'.own,hV'.ne⟩
        have k2 := h2.2.block w.heap.size (by omega) ⟨.inr ⟨nlq,by omega⟩,fun e => by have := hV'.lg.lt; omega⟩
        exact ⟨(World.cell?_of_block k1).trans q1,(World.cell?_of_block k2).trans q2,(World.cell?_of_block k2).trans q3⟩
       have hAdd := fun W (hW : Below (w.heap.size + 1) W5 W) A1 c1 (hrow : qm W (w.heap.size + 1) (.slice A1 M c1) (saveRecs h h l)) => qfQ W j d D nWal n _ ((show Vt w v j d D h n Z from HV).wide (hlow W hW)).lg A1 M c1 (saveRecs h h l) (by
        have hl : (saveRecs h h l).length = M := by rw [<- HLS.out,List.length_append,show (l.map entRec).length = len from HLE,hn0.out,hM.out]
        have := hrow.recs.within.mono (Z' := fun k => Z k \/ w.heap.size <= k /\ k < W.heap.size) fun k hk => .inr ⟨by omega,hk.2⟩
        rw [hl] at this
        exact this) (by omega) HF (by omega)
       have hsl : Hid ((saveRecs h h l).length = M) := ⟨by rw [<- HLS.out,List.length_append,show (l.map entRec).length = len from HLE,hn0.out,hM.out]⟩
       rw [hsl.out] at hAdd
       obtain ⟨R,hR⟩ : ∃ R,Hid (D.added nWal (saveRecs h h l) = R) := ⟨_,⟨rfl⟩⟩
       rw [hR.out] at hAdd
       obtain ⟨D2,e2⟩ := R
       dsimp only at hAdd
       obtain ⟨N2,hN2⟩ : ∃ N2,Hid (cnt (D2,e2) n (n + (M : Int)) = N2) := ⟨_,⟨rfl⟩⟩
       rw [hN2.out] at hAdd
       have hlBW : Below (w.heap.size + 1) W5 W.drew := hBW.drew
       obtain ⟨v1',x0',x1'⟩ := hst _ hBW
       have hrlt : ∀ k,(Value.slice none 0 0).ownBlock = some k -> w.heap.size + 1 <= k /\ k < W.heap.size := fun k hk => by
        obtain ⟨vs,ho,_⟩ := hrow
        exact ho.lt k hk
       have hrowd : qm W.drew (w.heap.size + 1) (.slice none 0 0) [] := hrow.below blq.drew
       clear hr5 x0 x1 v1 v2 v3 hHR
       go_region_held3 (fun w' => w'.cell? ⟨v,1,none⟩ = some (jptr j) /\ w'.cell? ⟨w.heap.size,0,none⟩ = some (.int .i64 h.t) /\ w'.cell? ⟨w.heap.size,1,none⟩ = some (.int .i64 h.v))
        (first | exact hS10 | exact hS9 | exact hS8 | (exact ⟨v1',x0',x1'⟩) | (go_keep; done))
        (first
          | (go_at_call 54
             refine (hER _ (hlow _ hlBW)).mono ?_
             rintro e w8 ⟨A8,c8,rfl,hrow8,hb8⟩
             have hbw8 : Below (w.heap.size + 1) W5 w8 := hlBW.trans (hb8.mono (Nat.le_trans hs5 hlBW.size))
             have hS8 := hst _ hbw8)
          | (refine qaS _ (by rfl) _ _ (by rfl) (w.heap.size + 1) _ [] A8 len c8 (l.map entRec) (by rfl) (by rfl) (Nat.le_trans hs5 hbw8.size) (hrowd.below hb8) ((by
              have := hrow8.recs.mono (Z' := fun g => w.heap.size + 1 <= g /\ (Value.slice none 0 0).ownBlock ≠ some g) fun k hk => ⟨Nat.le_trans hs5 (Nat.le_trans hlBW.size hk),fun er => by have h1 := (hrlt k er).2; have h2 : W.heap.size <= k := hk; omega⟩
              rw [show (l.map entRec).length = len from HLE] at this
              exact this)) M (by exact hM.out) (by omega) ?_
             intro A9 c9 w9 hrow9' hg9
             have hrow9 : qm w9 (w.heap.size + 1) (.slice A9 M c9) (saveRecs h h l) := by rw [<- HLS.out]; exact hrow9'
             have hbw9 : Below (w.heap.size + 1) W5 w9 := hbw8.grown hg9 (Nat.le_trans hs5 hbw8.size) (fun q hq => (hrlt q hq).1)
             have hS9 := hst _ hbw9)
          | (go_at_call 53
             refine (hAdd _ hbw9 A9 c9 hrow9).mono ?_
             rintro e w10 ⟨rfl,hd10⟩
             have hS10 := hst2 _ _ _ _ hbw9 hd10
             have HD10 := Lib.hid (Vt.ldid HV (hlow _ hbw9) hd10)))
       obtain ⟨s1,s2,s3⟩ := hS10
       have HNB := Lib.hid (show 0 <= N2 /\ N2 <= n + (l.length : Int) + 1 by
        rw [<- hN2.out]
        have h1 := hM.out
        have h2 : l.length = len := HLL
        unfold cnt
        split <;> omega)
       have HR := Lib.hid (show D.saveV h h l = ((D2,e2),if e2 = 0 then h else h) by
        have e : D.saveV h h l = _ := HB
        rw [e,hR.out])
       clear hst hst2 hAdd hrow8 hrow9 hrow9' hg9 hbw8 hbw9 hb8 hd10 hrow hrowd hrlt hER hS8 hS9 v1' x0' x1' hlow
       by_cases he2 : e2 = 0
       · subst he2
         obtain ⟨⟨q0,q1,q2,q3⟩,⟨f0,f1,f2,f3⟩⟩ := row4 (show VDid w w10 v j d D2 h N2 Z from HD10).1.box
         go_wp2
         go_ret
         unfold qbq
         rw [HR.out]
         exact ⟨rfl,N2,HNB.out.1,HNB.out.2,VDid.store HD10 h⟩
       · have k0 : ((e2 : Int) != 0) = true := by simp; omega
         have k0' : ((e2 : Int) = 0) = False := eq_false (by omega)
         have HR2 := Lib.hid (show D.saveV h h l = ((D2,e2),h) by rw [HR.out,if_neg he2])
         clear he2
         go_wp2
         go_ret
         unfold qbq
         rw [HR2.out]
         exact ⟨rfl,N2,HNB.out.1,HNB.out.2,HD10⟩
     · have hne : ¬ h = was := fun e => by rw [e] at hw; simp at hw
       go_wp2
       go_quiet (fail)
       have hB0 : Below w.heap.size w (w2.drewN nq) := qO hbw2 _
       have hr0 : (w2.drewN nq).heap[w.heap.size]? = some (.cells #[.int .i64 h.t, .int .i64 h.v] 32) := hr2
       clear hbw2 hr2
       generalize w2.drewN nq = W0 at *
       clear x0 x1
       obtain ⟨⟨x0,x1⟩,_⟩ := row2 hr0
       go_wp2_with fail
       refine (hHR _).mono ?_
       rintro e W5 ⟨A6,c6,rfl,ho6,hb6⟩
       have hs0 := hlt hr0
       have ho6w : Owns 5 W5 (w.heap.size + 1) (.slice A6 (qy h).length c6) (qy h) := ho6.rebase fun k hk => by have := (ho6.lt k hk).1; omega
       have hB5 := hB0.trans (hb6.mono hB0.size)
       have hr5 := (hb6.block _ (hlt hr0)).trans hr0
       have hs5' := hlt hr5
       have hRO := qm.one ho6w rfl (Below.refl W5.heap.size W5) (by omega)
       clear x0 x1 v1 v2 v3
       obtain ⟨⟨x0,x1⟩,_⟩ := row2 hr5
       obtain ⟨_,v1,v2,v3⟩ := (Vt.below HV hB5).cells
       clear hB0 hr0 hb6 ho6
       go_wp2_with (first
        | (at_builtin
           refine qb8 _ rfl _ _ rfl (w.heap.size + 1) (.slice none 0 0) [] (some ⟨W5.heap.size,0,none⟩) 1 1 [qy h] rfl rfl (by simp; omega) (qm.nil _ _) (hRO.recs.mono fun k hk => ⟨hk,fun e => by cases e⟩) 1 rfl (by omega) ?_
           intro A0 c0 W hrow' hg0)
        | fail)
       have hBW : Below (w.heap.size + 1) W5 W := (blq.alloc (by omega) _).grown hg0 (by simp; omega) (fun q hq => by cases hq)
       have hrow : qm W (w.heap.size + 1) (.slice A0 1 c0) [qy h] := hrow'
       have hn0 : Hid ([qy h].length = 1) := ⟨rfl⟩
       have HLS : Hid ([qy h] ++ l.map entRec = saveRecs was h l) := ⟨by unfold saveRecs; rw [if_neg hne]⟩
       clear hRO hrow' hg0 ho6w
       obtain ⟨M,hM⟩ : ∃ M,Hid (1 + len = M) := ⟨_,⟨rfl⟩⟩
       have hMle : M <= 20001 := by have := hM.out; omega
       have hs5 : w.heap.size + 1 <= W5.heap.size := by have := hlt hr5; omega
       have hst : ∀ W,Below (w.heap.size + 1) W5 W -> W.cell? ⟨v,1,none⟩ = some (jptr j) /\ W.cell? ⟨w.heap.size,0,none⟩ = some (.int .i64 h.t) /\ W.cell? ⟨w.heap.size,1,none⟩ = some (.int .i64 h.v) := fun W hW => by
        obtain ⟨_,q1,_,_⟩ := (Vt.below HV hB5).cells
        obtain ⟨⟨q2,q3⟩,_⟩ := row2 hr5
        exact ⟨(World.cell?_of_block (hW.block v (by omega))).trans q1,(World.cell?_of_block (hW.block w.heap.size (by omega))).trans q2,(World.cell?_of_block (hW.block w.heap.size (by omega))).trans q3⟩
       have hlow : ∀ W,Below (w.heap.size + 1) W5 W -> Below w.heap.size w W := fun W hW => hB5.trans (hW.mono (Nat.le_succ _))
       have hst2 : ∀ (W w' : World) (D' : Dsk) (n' : Int),Below (w.heap.size + 1) W5 W -> LDid W w' j d D' nWal n' (fun k => Z k \/ w.heap.size <= k /\ k < W.heap.size) -> w'.cell? ⟨v,1,none⟩ = some (jptr j) /\ w'.cell? ⟨w.heap.size,0,none⟩ = some (.int .i64 h.t) /\ w'.cell? ⟨w.heap.size,1,none⟩ = some (.int .i64 h.v) := fun W w' D' n' h1 h2 => by
        have hV' : Vt w v j d D was n Z := HV
        have hs := h1.size
        obtain ⟨q1,q2,q3⟩ := hst W h1
        have k1 := h2.2.block v (by omega) ⟨.inl hV'.own,hV'.ne⟩
        have k2 := h2.2.block w.heap.size (by omega) ⟨.inr ⟨nlq,by omega⟩,fun e => by have := hV'.lg.lt; omega⟩
        exact ⟨(World.cell?_of_block k1).trans q1,(World.cell?_of_block k2).trans q2,(World.cell?_of_block k2).trans q3⟩
       have hAdd := fun W (hW : Below (w.heap.size + 1) W5 W) A1 c1 (hrow : qm W (w.heap.size + 1) (.slice A1 M c1) (saveRecs was h l)) => qfQ W j d D nWal n _ ((show Vt w v j d D was n Z from HV).wide (hlow W hW)).lg A1 M c1 (saveRecs was h l) (by
        have hl : (saveRecs was h l).length = M := by rw [<- HLS.out,List.length_append,show (l.map entRec).length = len from HLE,hn0.out,hM.out]
        have := hrow.recs.within.mono (Z' := fun k => Z k \/ w.heap.size <= k /\ k < W.heap.size) fun k hk => .inr ⟨by omega,hk.2⟩
        rw [hl] at this
        exact this) (by omega) HF (by omega)
       have hsl : Hid ((saveRecs was h l).length = M) := ⟨by rw [<- HLS.out,List.length_append,show (l.map entRec).length = len from HLE,hn0.out,hM.out]⟩
       rw [hsl.out] at hAdd
       obtain ⟨R,hR⟩ : ∃ R,Hid (D.added nWal (saveRecs was h l) = R) := ⟨_,⟨rfl⟩⟩
       rw [hR.out] at hAdd
       obtain ⟨D2,e2⟩ := R
       dsimp only at hAdd
       obtain ⟨N2,hN2⟩ : ∃ N2,Hid (cnt (D2,e2) n (n + (M : Int)) = N2) := ⟨_,⟨rfl⟩⟩
       rw [hN2.out] at hAdd
       have hlBW : Below (w.heap.size + 1) W5 W.drew := hBW.drew
       obtain ⟨v1',x0',x1'⟩ := hst _ hBW
       have hrlt : ∀ k,(Value.slice A0 1 c0).ownBlock = some k -> w.heap.size + 1 <= k /\ k < W.heap.size := fun k hk => by
        obtain ⟨vs,ho,_⟩ := hrow
        exact ho.lt k hk
       have hrowd : qm W.drew (w.heap.size + 1) (.slice A0 1 c0) [qy h] := hrow.below blq.drew
       clear hr5 x0 x1 v1 v2 v3 hHR
       go_region_held3 (fun w' => w'.cell? ⟨v,1,none⟩ = some (jptr j) /\ w'.cell? ⟨w.heap.size,0,none⟩ = some (.int .i64 h.t) /\ w'.cell? ⟨w.heap.size,1,none⟩ = some (.int .i64 h.v))
        (first | exact hS10 | exact hS9 | exact hS8 | (exact ⟨v1',x0',x1'⟩) | (go_keep; done))
        (first
          | (go_at_call 54
             refine (hER _ (hlow _ hlBW)).mono ?_
             rintro e w8 ⟨A8,c8,rfl,hrow8,hb8⟩
             have hbw8 : Below (w.heap.size + 1) W5 w8 := hlBW.trans (hb8.mono (Nat.le_trans hs5 hlBW.size))
             have hS8 := hst _ hbw8)
          | (refine qaS _ (by rfl) _ _ (by rfl) (w.heap.size + 1) _ [qy h] A8 len c8 (l.map entRec) (by rfl) (by rfl) (Nat.le_trans hs5 hbw8.size) (hrowd.below hb8) ((by
              have := hrow8.recs.mono (Z' := fun g => w.heap.size + 1 <= g /\ (Value.slice A0 1 c0).ownBlock ≠ some g) fun k hk => ⟨Nat.le_trans hs5 (Nat.le_trans hlBW.size hk),fun er => by have h1 := (hrlt k er).2; have h2 : W.heap.size <= k := hk; omega⟩
              rw [show (l.map entRec).length = len from HLE] at this
              exact this)) M (by exact hM.out) (by omega) ?_
             intro A9 c9 w9 hrow9' hg9
             have hrow9 : qm w9 (w.heap.size + 1) (.slice A9 M c9) (saveRecs was h l) := by rw [<- HLS.out]; exact hrow9'
             have hbw9 : Below (w.heap.size + 1) W5 w9 := hbw8.grown hg9 (Nat.le_trans hs5 hbw8.size) (fun q hq => (hrlt q hq).1)
             have hS9 := hst _ hbw9)
          | (go_at_call 53
             refine (hAdd _ hbw9 A9 c9 hrow9).mono ?_
             rintro e w10 ⟨rfl,hd10⟩
             have hS10 := hst2 _ _ _ _ hbw9 hd10
             have HD10 := Lib.hid (Vt.ldid HV (hlow _ hbw9) hd10)))
       obtain ⟨s1,s2,s3⟩ := hS10
       have HNB := Lib.hid (show 0 <= N2 /\ N2 <= n + (l.length : Int) + 1 by
        rw [<- hN2.out]
        have h1 := hM.out
        have h2 : l.length = len := HLL
        unfold cnt
        split <;> omega)
       have HR := Lib.hid (show D.saveV was h l = ((D2,e2),if e2 = 0 then h else was) by
        have e : D.saveV was h l = _ := HB
        rw [e,hR.out])
       clear hst hst2 hAdd hrow8 hrow9 hrow9' hg9 hbw8 hbw9 hb8 hd10 hrow hrowd hrlt hER hS8 hS9 v1' x0' x1' hlow
       by_cases he2 : e2 = 0
       · subst he2
         obtain ⟨⟨q0,q1,q2,q3⟩,⟨f0,f1,f2,f3⟩⟩ := row4 (show VDid w w10 v j d D2 was N2 Z from HD10).1.box
         go_wp2
         go_ret
         unfold qbq
         rw [HR.out]
         exact ⟨rfl,N2,HNB.out.1,HNB.out.2,VDid.store HD10 h⟩
       · have k0 : ((e2 : Int) != 0) = true := by simp; omega
         have k0' : ((e2 : Int) = 0) = False := eq_false (by omega)
         have HR2 := Lib.hid (show D.saveV was h l = ((D2,e2),was) by rw [HR.out,if_neg he2])
         clear he2
         go_wp2
         go_ret
         unfold qbq
         rw [HR2.out]
         exact ⟨rfl,N2,HNB.out.1,HNB.out.2,HD10⟩
     · have hne : ¬ h = was := fun e => by rw [e] at hw2; simp at hw2
       go_wp2
       go_quiet (fail)
       have hB0 : Below w.heap.size w (w2.drewN nq) := qO hbw2 _
       have hr0 : (w2.drewN nq).heap[w.heap.size]? = some (.cells #[.int .i64 h.t, .int .i64 h.v] 32) := hr2
       clear hbw2 hr2
       generalize w2.drewN nq = W0 at *
       clear x0 x1
       obtain ⟨⟨x0,x1⟩,_⟩ := row2 hr0
       go_wp2_with fail
       refine (hHR _).mono ?_
       rintro e W5 ⟨A6,c6,rfl,ho6,hb6⟩
       have hs0 := hlt hr0
       have ho6w : Owns 5 W5 (w.heap.size + 1) (.slice A6 (qy h).length c6) (qy h) := ho6.rebase fun k hk => by have := (ho6.lt k hk).1; omega
       have hB5 := hB0.trans (hb6.mono hB0.size)
       have hr5 := (hb6.block _ (hlt hr0)).trans hr0
       have hs5' := hlt hr5
       have hRO := qm.one ho6w rfl (Below.refl W5.heap.size W5) (by omega)
       clear x0 x1 v1 v2 v3
       obtain ⟨⟨x0,x1⟩,_⟩ := row2 hr5
       obtain ⟨_,v1,v2,v3⟩ := (Vt.below HV hB5).cells
       clear hB0 hr0 hb6 ho6
       go_wp2_with (first
        | (at_builtin
           refine qb8 _ rfl _ _ rfl (w.heap.size + 1) (.slice none 0 0) [] (some ⟨W5.heap.size,0,none⟩) 1 1 [qy h] rfl rfl (by simp; omega) (qm.nil _ _) (hRO.recs.mono fun k hk => ⟨hk,fun e => by cases e⟩) 1 rfl (by omega) ?_
           intro A0 c0 W hrow' hg0)
        | fail)
       have hBW : Below (w.heap.size + 1) W5 W := (blq.alloc (by omega) _).grown hg0 (by simp; omega) (fun q hq => by cases hq)
       have hrow : qm W (w.heap.size + 1) (.slice A0 1 c0) [qy h] := hrow'
       have hn0 : Hid ([qy h].length = 1) := ⟨rfl⟩
       have HLS : Hid ([qy h] ++ l.map entRec = saveRecs was h l) := ⟨by unfold saveRecs; rw [if_neg hne]⟩
       clear hRO hrow' hg0 ho6w
       obtain ⟨M,hM⟩ : ∃ M,Hid (1 + len = M) := ⟨_,⟨rfl⟩⟩
       have hMle : M <= 20001 := by have := hM.out; omega
       have hs5 : w.heap.size + 1 <= W5.heap.size := by have := hlt hr5; omega
       have hst : ∀ W,Below (w.heap.size + 1) W5 W -> W.cell? ⟨v,1,none⟩ = some (jptr j) /\ W.cell? ⟨w.heap.size,0,none⟩ = some (.int .i64 h.t) /\ W.cell? ⟨w.heap.size,1,none⟩ = some (.int .i64 h.v) := fun W hW => by
        obtain ⟨_,q1,_,_⟩ := (Vt.below HV hB5).cells
        obtain ⟨⟨q2,q3⟩,_⟩ := row2 hr5
        exact ⟨(World.cell?_of_block (hW.block v (by omega))).trans q1,(World.cell?_of_block (hW.block w.heap.size (by omega))).trans q2,(World.cell?_of_block (hW.block w.heap.size (by omega))).trans q3⟩
       have hlow : ∀ W,Below (w.heap.size + 1) W5 W -> Below w.heap.size w W := fun W hW => hB5.trans (hW.mono (Nat.le_succ _))
       have hst2 : ∀ (W w' : World) (D' : Dsk) (n' : Int),Below (w.heap.size + 1) W5 W -> LDid W w' j d D' nWal n' (fun k => Z k \/ w.heap.size <= k /\ k < W.heap.size) -> w'.cell? ⟨v,1,none⟩ = some (jptr j) /\ w'.cell? ⟨w.heap.size,0,none⟩ = some (.int .i64 h.t) /\ w'.cell? ⟨w.heap.size,1,none⟩ = some (.int .i64 h.v) := fun W w' D' n' h1 h2 => by
        have hV' : Vt w v j d D was n Z := HV
        have hs := h1.size
        obtain ⟨q1,q2,q3⟩ := hst W h1
        have k1 := h2.2.block v (by omega) ⟨.inl hV'.own,hV'.ne⟩
        have k2 := h2.2.block w.heap.size (by omega) ⟨.inr ⟨nlq,by omega⟩,fun e => by have := hV'.lg.lt; omega⟩
        exact ⟨(World.cell?_of_block k1).trans q1,(World.cell?_of_block k2).trans q2,(World.cell?_of_block k2).trans q3⟩
       have hAdd := fun W (hW : Below (w.heap.size + 1) W5 W) A1 c1 (hrow : qm W (w.heap.size + 1) (.slice A1 M c1) (saveRecs was h l)) => qfQ W j d D nWal n _ ((show Vt w v j d D was n Z from HV).wide (hlow W hW)).lg A1 M c1 (saveRecs was h l) (by
        have hl : (saveRecs was h l).length = M := by rw [<- HLS.out,List.length_append,show (l.map entRec).length = len from HLE,hn0.out,hM.out]
        have := hrow.recs.within.mono (Z' := fun k => Z k \/ w.heap.size <= k /\ k < W.heap.size) fun k hk => .inr ⟨by omega,hk.2⟩
        rw [hl] at this
        exact this) (by omega) HF (by omega)
       have hsl : Hid ((saveRecs was h l).length = M) := ⟨by rw [<- HLS.out,List.length_append,show (l.map entRec).length = len from HLE,hn0.out,hM.out]⟩
       rw [hsl.out] at hAdd
       obtain ⟨R,hR⟩ : ∃ R,Hid (D.added nWal (saveRecs was h l) = R) := ⟨_,⟨rfl⟩⟩
       rw [hR.out] at hAdd
       obtain ⟨D2,e2⟩ := R
       dsimp only at hAdd
       obtain ⟨N2,hN2⟩ : ∃ N2,Hid (cnt (D2,e2) n (n + (M : Int)) = N2) := ⟨_,⟨rfl⟩⟩
       rw [hN2.out] at hAdd
       have hlBW : Below (w.heap.size + 1) W5 W.drew := hBW.drew
       obtain ⟨v1',x0',x1'⟩ := hst _ hBW
       have hrlt : ∀ k,(Value.slice A0 1 c0).ownBlock = some k -> w.heap.size + 1 <= k /\ k < W.heap.size := fun k hk => by
        obtain ⟨vs,ho,_⟩ := hrow
        exact ho.lt k hk
       have hrowd : qm W.drew (w.heap.size + 1) (.slice A0 1 c0) [qy h] := hrow.below blq.drew
       clear hr5 x0 x1 v1 v2 v3 hHR
       go_region_held3 (fun w' => w'.cell? ⟨v,1,none⟩ = some (jptr j) /\ w'.cell? ⟨w.heap.size,0,none⟩ = some (.int .i64 h.t) /\ w'.cell? ⟨w.heap.size,1,none⟩ = some (.int .i64 h.v))
        (first | exact hS10 | exact hS9 | exact hS8 | (exact ⟨v1',x0',x1'⟩) | (go_keep; done))
        (first
          | (go_at_call 54
             refine (hER _ (hlow _ hlBW)).mono ?_
             rintro e w8 ⟨A8,c8,rfl,hrow8,hb8⟩
             have hbw8 : Below (w.heap.size + 1) W5 w8 := hlBW.trans (hb8.mono (Nat.le_trans hs5 hlBW.size))
             have hS8 := hst _ hbw8)
          | (refine qaS _ (by rfl) _ _ (by rfl) (w.heap.size + 1) _ [qy h] A8 len c8 (l.map entRec) (by rfl) (by rfl) (Nat.le_trans hs5 hbw8.size) (hrowd.below hb8) ((by
              have := hrow8.recs.mono (Z' := fun g => w.heap.size + 1 <= g /\ (Value.slice A0 1 c0).ownBlock ≠ some g) fun k hk => ⟨Nat.le_trans hs5 (Nat.le_trans hlBW.size hk),fun er => by have h1 := (hrlt k er).2; have h2 : W.heap.size <= k := hk; omega⟩
              rw [show (l.map entRec).length = len from HLE] at this
              exact this)) M (by exact hM.out) (by omega) ?_
             intro A9 c9 w9 hrow9' hg9
             have hrow9 : qm w9 (w.heap.size + 1) (.slice A9 M c9) (saveRecs was h l) := by rw [<- HLS.out]; exact hrow9'
             have hbw9 : Below (w.heap.size + 1) W5 w9 := hbw8.grown hg9 (Nat.le_trans hs5 hbw8.size) (fun q hq => (hrlt q hq).1)
             have hS9 := hst _ hbw9)
          | (go_at_call 53
             refine (hAdd _ hbw9 A9 c9 hrow9).mono ?_
             rintro e w10 ⟨rfl,hd10⟩
             have hS10 := hst2 _ _ _ _ hbw9 hd10
             have HD10 := Lib.hid (Vt.ldid HV (hlow _ hbw9) hd10)))
       obtain ⟨s1,s2,s3⟩ := hS10
       have HNB := Lib.hid (show 0 <= N2 /\ N2 <= n + (l.length : Int) + 1 by
        rw [<- hN2.out]
        have h1 := hM.out
        have h2 : l.length = len := HLL
        unfold cnt
        split <;> omega)
       have HR := Lib.hid (show D.saveV was h l = ((D2,e2),if e2 = 0 then h else was) by
        have e : D.saveV was h l = _ := HB
        rw [e,hR.out])
       clear hst hst2 hAdd hrow8 hrow9 hrow9' hg9 hbw8 hbw9 hb8 hd10 hrow hrowd hrlt hER hS8 hS9 v1' x0' x1' hlow
       by_cases he2 : e2 = 0
       · subst he2
         obtain ⟨⟨q0,q1,q2,q3⟩,⟨f0,f1,f2,f3⟩⟩ := row4 (show VDid w w10 v j d D2 was N2 Z from HD10).1.box
         go_wp2
         go_ret
         unfold qbq
         rw [HR.out]
         exact ⟨rfl,N2,HNB.out.1,HNB.out.2,VDid.store HD10 h⟩
       · have k0 : ((e2 : Int) != 0) = true := by simp; omega
         have k0' : ((e2 : Int) = 0) = False := eq_false (by omega)
         have HR2 := Lib.hid (show D.saveV was h l = ((D2,e2),was) by rw [HR.out,if_neg he2])
         clear he2
         go_wp2
         go_ret
         unfold qbq
         rw [HR2.out]
         exact ⟨rfl,N2,HNB.out.1,HNB.out.2,HD10⟩
end Go.Proofs.YtmeoooojmhhahaaGreat
namespace Go.Proofs.YtmeoooojmhhahaaGreat
open Go.RowKit
section
variable {w w1 w' : World} {v j d : Nat} {D : Dsk} {was : Hd} {n : Int} {Z : Nat → Prop}
theorem VDid.unwide (hV : Vt w v j d D was n Z) {D' : Dsk} {was' : Hd} {n' : Int} (hb : Below w.heap.size w w1) (h : VDid w1 w' v j d D' was' n' (fun k => Z k \/ w.heap.size <= k /\ k < w1.heap.size)) : VDid w w' v j d D' was' n' Z :=
 ⟨⟨h.1.box,⟨h.1.lg.box,h.1.lg.dk.less fun k hk => .inl hk,hV.lg.own⟩,hV.own,h.1.ne⟩,(qe hb nlq).trans (h.2.mono fun k hk => ⟨.inl hk.1,hk.2⟩)⟩
theorem VDid.mk_fst (h : VDid w w' v j d D was n Z) : Vt w' v j d D was n Z := h.1
end
def qdz (w w' : World) (v j d : Nat) (D : Dsk) (was h : Hd) (s : Ent) (l : List Ent) (n : Int) (Z : Nat -> Prop) (e : Ending) : Prop :=
 e = .returned (.int .i64 (((D.keepV was h s l).1.2 : Nat) : Int)) /\ ∃ n',0 <= n' /\ n' <= n + (l.length : Int) + 1 /\ VDid w w' v j d (D.keepV was h s l).1.1 (D.keepV was h s l).2 n' Z
theorem qkl (w : World) (v j d : Nat) (D : Dsk) (was : Hd) (n : Int) (Z : Nat -> Prop) (hV : Vt w v j d D was n Z) (h : Hd) (s : Ent) (B : Option Addr) (c : Nat) (hl : Lies w B s.d.length c s.d) (hlz : 0 < s.d.length -> ∀ g off,B = some ⟨g,off,none⟩ -> Z g /\ g ≠ j /\ g ≠ v)
 (A : Option Addr) (len cap : Nat) (l : List Ent) (hE : Ents w (fun k => Z k /\ k ≠ j /\ k ≠ v) A len cap l) (hm : len <= 20000) (hn : 0 <= n /\ n <= 800000000) :
 Calls Tryz.prog 17 #[.pointer (some ⟨v,0,none⟩), .agg #[.int .i64 h.t, .int .i64 h.v],entV s.i s.t B s.d.length c, .slice A len cap] w fun e w' => qdz w w' v j d D was h s l n Z e := by
 have hll := hE.1
 have hb0 : Below w.heap.size w ((w.alloc (.cells #[.int .i64 h.t, .int .i64 h.v] 32)).alloc (.cells #[.int .i64 s.i, .int .i64 s.t, .slice B s.d.length c] 35)) := (blq.alloc nlq _).alloc (by simp) _
 have hh0 : ((w.alloc (.cells #[.int .i64 h.t, .int .i64 h.v] 32)).alloc (.cells #[.int .i64 s.i, .int .i64 s.t, .slice B s.d.length c] 35)).heap[w.heap.size]? = some (.cells #[.int .i64 h.t, .int .i64 h.v] 32) := (Below.heap_alloc _ _ _ (by simp)).trans (heap_alloc_new _ _)
 have hs0 : ((w.alloc (.cells #[.int .i64 h.t, .int .i64 h.v] 32)).alloc (.cells #[.int .i64 s.i, .int .i64 s.t, .slice B s.d.length c] 35)).heap[w.heap.size + 1]? = some (.cells #[.int .i64 s.i, .int .i64 s.t, .slice B s.d.length c] 35) := heap_alloc2_new _ _ _
 have hSP := fun W => qeL s.i s.t B s.d.length c W
 have hIZ := fun W => qft s.i s.t B s.d.length c W
 have hRH := fun W => qdr h.t h.v W
 have hRN := fun W (hW : Below w.heap.size w W) => qeM _ A len cap l s.i s.t W (hE.below hW nlq) (by unfold maxLen; omega)
 have hok : qaw h s l = (snapB s.i s.t s.d.length && (decide (s.i ≠ 0) && (hardB h.t h.v && runB s.i s.t l))) := rfl
 obtain ⟨q1,h1⟩ : ∃ q,Hid (snapB s.i s.t s.d.length = q) := ⟨_,⟨rfl⟩⟩
 obtain ⟨q3,h3⟩ : ∃ q,Hid (hardB h.t h.v = q) := ⟨_,⟨rfl⟩⟩
 obtain ⟨q4,h4⟩ : ∃ q,Hid (runB s.i s.t l = q) := ⟨_,⟨rfl⟩⟩
 rw [h1.out,h3.out,h4.out] at hok
 rw [h1.out] at hSP
 rw [h3.out] at hRH
 rw [h4.out] at hRN
 have HV := Lib.hid hV
 have HE := Lib.hid hE
 have HL := Lib.hid hl
 have HLZ := Lib.hid hlz
 have HLL := Lib.hid hll
 have hfail : ∀ W,Below w.heap.size w W -> qaw h s l = false -> qdz w W v j d D was h s l n Z (.returned (.int .i64 1)) := fun W hW hk => by
  unfold qdz
  rw [qcz hk]
  exact ⟨rfl,n,hn.1,by omega,Vt.below HV hW,qe hW nlq⟩
 have HFAIL := Lib.hid hfail
 obtain ⟨⟨x0,x1⟩,_⟩ := row2 hh0
 obtain ⟨⟨y0,y1,y2⟩,_⟩ := row3 hs0
 clear hV hE hl hlz hll hfail
 cases q1 with
 | false =>
   have HK := Lib.hid (hok.trans (Bool.false_and _))
   go_enter Tryz.func17,Tryz.ntmps17
   go_wp2_with fail
   refine (hSP _).mono ?_
   rintro e w1 ⟨rfl,hb1⟩
   have hbw := hb0.trans (hb1.mono hb0.size)
   clear hok
   go_wp2
   go_ret
   exact HFAIL.out _ hbw HK
 | true =>
   rw [Bool.true_and] at hok
   by_cases h2 : s.i = 0
   · rw [decide_eq_true h2] at hIZ
     have HK := Lib.hid (show qaw h s l = false by rw [hok,decide_eq_false (fun e => e h2)]; rfl)
     clear hok h2
     go_enter Tryz.func17,Tryz.ntmps17
     go_wp2_with fail
     refine (hSP _).mono ?_
     rintro e w1 ⟨rfl,hb1⟩
     have hbw := hb0.trans (hb1.mono hb0.size)
     have hs1 := (hb1.block _ (hlt hs0)).trans hs0
     clear x0 x1 y0 y1 y2
     obtain ⟨⟨y0,y1,y2⟩,_⟩ := row3 hs1
     go_wp2_with fail
     refine (hIZ _).mono ?_
     rintro e w2 ⟨rfl,hb2⟩
     have hbw2 := hbw.trans (hb2.mono hbw.size)
     go_wp2
     go_ret
     exact HFAIL.out _ hbw2 HK
   · rw [decide_eq_false h2] at hIZ
     rw [decide_eq_true h2,Bool.true_and] at hok
     have HI := Lib.hid h2
     clear h2
     cases q3 with
     | false =>
       have HK := Lib.hid (show qaw h s l = false by rw [hok]; rfl)
       clear hok
       go_enter Tryz.func17,Tryz.ntmps17
       go_wp2_with fail
       refine (hSP _).mono ?_
       rintro e w1 ⟨rfl,hb1⟩
       have hbw := hb0.trans (hb1.mono hb0.size)
       have hs1 := (hb1.block _ (hlt hs0)).trans hs0
       have hh1 := (hb1.block _ (hlt hh0)).trans hh0
       clear x0 x1 y0 y1 y2
       obtain ⟨⟨y0,y1,y2⟩,_⟩ := row3 hs1
       go_wp2_with fail
       refine (hIZ _).mono ?_
       rintro e w2 ⟨rfl,hb2⟩
       have hbw2 := hbw.trans (hb2.mono hbw.size)
       have hh2 := (hb2.block _ (hlt hh1)).trans hh1
       clear y0 y1 y2
       obtain ⟨⟨x0,x1⟩,_⟩ := row2 hh2
       go_wp2_with fail
       refine (hRH _).mono ?_
       rintro e w3 ⟨rfl,hb3⟩
       have hbw3 := hbw2.trans (hb3.mono hbw2.size)
       go_wp2
       go_ret
       exact HFAIL.out _ hbw3 HK
     | true =>
       have HOK := Lib.hid hok
       clear hok
       go_enter Tryz.func17,Tryz.ntmps17
       go_wp2_with fail
       refine (hSP _).mono ?_
       rintro e w1 ⟨rfl,hb1⟩
       have hbw := hb0.trans (hb1.mono hb0.size)
       have hs1 := (hb1.block _ (hlt hs0)).trans hs0
       have hh1 := (hb1.block _ (hlt hh0)).trans hh0
       clear x0 x1 y0 y1 y2 hb1 hb0 hs0 hh0 hSP
       obtain ⟨⟨y0,y1,y2⟩,_⟩ := row3 hs1
       go_wp2_with fail
       refine (hIZ _).mono ?_
       rintro e w2 ⟨rfl,hb2⟩
       have hbw2 := hbw.trans (hb2.mono hbw.size)
       have hh2 := (hb2.block _ (hlt hh1)).trans hh1
       have hs2 := (hb2.block _ (hlt hs1)).trans hs1
       clear y0 y1 y2 hIZ hb2 hbw hh1 hs1
       obtain ⟨⟨x0,x1⟩,_⟩ := row2 hh2
       go_wp2_with fail
       refine (hRH _).mono ?_
       rintro e w3 ⟨rfl,hb3⟩
       have hbw3 := hbw2.trans (hb3.mono hbw2.size)
       have hh3 := (hb3.block _ (hlt hh2)).trans hh2
       have hs3 := (hb3.block _ (hlt hs2)).trans hs2
       have hR3 := hRN w3 hbw3
       clear x0 x1 hRH hb3 hbw2 hh2 hs2 hRN
       obtain ⟨⟨y0,y1,y2⟩,_⟩ := row3 hs3
       go_wp2_with fail
       refine hR3.mono ?_
       rintro e w4 ⟨rfl,hb4⟩
       have hbw4 := hbw3.trans (hb4.mono hbw3.size)
       have hh4 := (hb4.block _ (hlt hh3)).trans hh3
       have hs4 := (hb4.block _ (hlt hs3)).trans hs3
       clear y0 y1 y2 hR3 hb4 hbw3 hh3 hs3
       cases q4 with
       | false =>
         have HK := Lib.hid (show qaw h s l = false by rw [show qaw h s l = _ from HOK]; rfl)
         go_wp2
         go_ret
         exact HFAIL.out _ hbw4 HK
       | true =>
         have HK := Lib.hid (qht (D := D) (was := was) (show qaw h s l = true by rw [show qaw h s l = _ from HOK]; rfl))
         have hV4 : Vt w4 v j d D was n (fun k => Z k \/ w.heap.size <= k /\ k < w4.heap.size) := Vt.wide HV hbw4
         have hSv := qd1 w4 v j d D was n _ hV4 h (fun _ => False) none 0 0 [] ⟨rfl,nlq,fun _ => rfl,fun h0 => absurd h0 (by omega)⟩ (by omega) (by omega)
         unfold qbq at hSv
         generalize D.saveV was h [] = R1 at *
         obtain ⟨⟨D1,e1⟩,was1⟩ := R1
         dsimp only at *
         obtain ⟨⟨x0,x1⟩,_⟩ := row2 hh4
         go_wp2_with fail
         refine hSv.mono ?_
         rintro e w5 ⟨rfl,n1,hn1a,hn1b,hd5⟩
         have hn1 : n1 <= n + 1 := by simpa using hn1b
         have hsz4 := hlt hs4
         have hvne : ∀ k,w.heap.size <= k -> k ≠ j /\ k ≠ v := fun k hk => ⟨fun e => by have := Vt.lg HV; have := this.lt; omega,fun e => by have := Vt.lt HV; omega⟩
         have hh5 := (hd5.2.block w.heap.size (hlt hh4) ⟨.inr ⟨nlq,by omega⟩,hvne _ nlq⟩).trans hh4
         have hs5 := (hd5.2.block (w.heap.size + 1) (hlt hs4) ⟨.inr ⟨by omega,by omega⟩,hvne _ (by omega)⟩).trans hs4
         have hl5 : Lies w5 B s.d.length c s.d := ((show Lies w B s.d.length c s.d from HL).below hbw4 nlq).keeps hd5.2 fun h0 g off e => by
          have := HLZ.out h0 g off e
          exact ⟨.inl this.1,this.2⟩
         have hE5 : Ents w5 (fun k => Z k /\ k ≠ j /\ k ≠ v) A len cap l := ((show Ents w _ A len cap l from HE).below hbw4 nlq).keep hd5.2.size fun k hk hz => hd5.2.block k hk ⟨.inl hz.1,hz.2⟩
         clear hSv x0 x1 hh4 hs4 hn1b hV4
         by_cases he1 : e1 = 0
         · subst he1
           have hW := qgL w5 v j d D1 was1 n1 _ hd5.1 s h1.out B c hl5
           rw [qed (r := (D1,0)) rfl] at HK
           generalize D1.snapped s = R2 at *
           obtain ⟨D2,e2⟩ := R2
           dsimp only at *
           obtain ⟨⟨y0,y1,y2⟩,_⟩ := row3 hs5
           have HD5 := Lib.hid hd5
           clear hd5 hl5
           go_wp2_with fail
           refine hW.mono ?_
           rintro e w6 ⟨rfl,hd6⟩
           have hD6 := VDid.trans HD5 (VDid.of_did (VDid.mk_fst HD5) hd6)
           have hh6 := (hd6.2.block w.heap.size (hlt hh5) (.inr ⟨nlq,by omega⟩)).trans hh5
           have hE6 : Ents w6 (fun k => Z k /\ k ≠ j /\ k ≠ v) A len cap l := hE5.keep hd6.2.size fun k hk hz => hd6.2.block k hk (.inl hz.1)
           clear hW y0 y1 y2 hs5 hh5 hE5 hd6
           by_cases he2 : e2 = 0
           · subst he2
             have hr := fun x hx => qgg h4.out x hx
             have hRs := qfv w6 v j d D2 was1 n1 _ hD6.1 h h3.out _ A len cap l hE6 hm hr
             rw [qed (r := (D2,0)) rfl] at HK
             obtain ⟨N2,hN2⟩ : ∃ N2,Hid (cnt (D2.reset nWal (allRecs h l)) n1 ((len + 1 : Nat) : Int) = N2) := ⟨_,⟨rfl⟩⟩
             rw [hN2.out] at hRs
             have HNB := Lib.hid (show 0 <= N2 /\ N2 <= n + (l.length : Int) + 1 by
              rw [<- hN2.out]
              have h2 : l.length = len := HLL
              unfold cnt
              split <;> omega)
             clear hN2
             generalize D2.reset nWal (allRecs h l) = R3 at *
             obtain ⟨D3,e3⟩ := R3
             dsimp only at *
             obtain ⟨⟨x0,x1⟩,_⟩ := row2 hh6
             have HD6 := Lib.hid hD6
             clear hD6 hE6 hr
             go_wp2_with fail
             refine hRs.mono ?_
             rintro e w7 ⟨rfl,hd7⟩
             have HD7 := Lib.hid (VDid.unwide HV hbw4 (VDid.trans HD6 hd7))
             clear hRs hd7 x0 x1 hh6
             go_wp2
             go_ret
             unfold qdz
             rw [HK]
             exact ⟨rfl,N2,HNB.out.1,HNB.out.2,HD7⟩
           · rw [qbK (r := (D2,e2)) he2] at HK
             have k0 : ((e2 : Int) != 0) = true := by simp; omega
             have k0' : ((e2 : Int) = 0) = False := eq_false (by omega)
             have HD6 := Lib.hid (VDid.unwide HV hbw4 hD6)
             clear he2 hD6 hE6 hh6
             go_wp2
             go_ret
             unfold qdz
             rw [HK]
             exact ⟨rfl,n1,hn1a,by omega,HD6⟩
         · rw [qbK (r := (D1,e1)) he1,qbK (r := (D1,e1)) he1] at HK
           have k0 : ((e1 : Int) != 0) = true := by simp; omega
           have k0' : ((e1 : Int) = 0) = False := eq_false (by omega)
           have HD5 := Lib.hid (VDid.unwide HV hbw4 hd5)
           clear he1 hd5 hl5 hE5 hs5 hh5
           go_wp2
           go_ret
           unfold qdz
           rw [HK]
           exact ⟨rfl,n1,hn1a,by omega,HD5⟩
end Go.Proofs.YtmeoooojmhhahaaGreat
