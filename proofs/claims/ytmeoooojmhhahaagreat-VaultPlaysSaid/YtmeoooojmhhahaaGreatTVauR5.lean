/- Which entries stand behind a snap, the document's call, by its contract. (Written by mkrefk.py.) -/
import Derived.Test.YtmeoooojmhhahaaGreatTVauR4
set_option linter.unusedVariables false
set_option linter.unusedSimpArgs false
set_option maxRecDepth 100000
set_option maxHeartbeats 8000000
namespace Go.Proofs.YtmeoooojmhhahaaGreat
open Go.RowKit
def qaA (s : Ent) (xs : List Lay) (k : Nat) : Bool := (match xs with | [] => false | f :: _ => decide (f.e.i = s.i + 1)) || (xs.take k).any fun x => decide (x.e.i = s.i) && decide (x.e.t = s.t)
theorem qih {s : Ent} {xs : List Lay} {k : Nat} (hk : k < xs.length) : qaA s xs (k + 1) = (qaA s xs k || (decide (xs[k].e.i = s.i) && decide (xs[k].e.t = s.t))) := by
 unfold qaA
 rw [List.take_succ_eq_append_getElem hk,List.any_append,<- Bool.or_assoc]
 simp
theorem qfF (s : Ent) (xs : List Lay) : qaA s xs xs.length = qbZ s (xs.map (·.e)) := by
 unfold qaA qbZ
 rw [List.take_length,List.any_map]
 cases xs <;> rfl
theorem qii (s : Ent) (xs : List Lay) : qaA s xs 0 = (match xs with | [] => false | f :: _ => decide (f.e.i = s.i + 1)) := by
 unfold qaA
 rw [List.take_zero,List.any_nil,Bool.or_false]
theorem qhH (s : Ent) (l : List Ent) : qs s l = l.filter fun g => qbZ s l && decide (s.i < g.i) := by
 unfold qs
 cases qbZ s l with
 | true => rw [if_pos rfl]; congr 1
 | false => rw [if_neg (by simp)]; symm; rw [List.filter_eq_nil_iff]; intro x _; simp
def qgQ (w w' : World) (Z : Nat -> Prop) (s : Ent) (l : List Ent) (en : Ending) : Prop :=
 Below w.heap.size w w' /\ ∃ A c,en = .returned (.tuple #[.slice A (qs s l).length c, .bool (runB s.i s.t (qs s l))]) /\ Ents w' Z A (qs s l).length c (qs s l)
theorem qhI (Z : Nat -> Prop) (A : Option Addr) (len cap : Nat) (l : List Ent) (s : Ent) (B : Option Addr) (bn bc : Nat) (w : World) (h : Ents w Z A len cap l) (hZ : ∀ k,w.heap.size <= k -> Z k) (hm : len <= 100000) (hi : 0 <= s.i /\ s.i <= 4611686018427387904) :
 Calls Tryz.prog 46 #[entV s.i s.t B bn bc, .slice A len cap] w fun en w' => qgQ w w' Z s l en := by
 have hll := h.1
 have hb0 : Below w.heap.size w (w.alloc (.cells #[.int .i64 s.i, .int .i64 s.t, .slice B bn bc] 35)) := blq.alloc nlq _
 have hrow := heap_alloc_new w (.cells #[.int .i64 s.i, .int .i64 s.t, .slice B bn bc] 35)
 obtain ⟨⟨a0,a1,a2⟩,_⟩ := row3 hrow
 have hwi : wrap64 (s.i + 1) = s.i + 1 := IntWalk.wrap64_in _ (by omega)
 have hwi2 : IntKind.i64.wrap (s.i + 1) = s.i + 1 := IntWalk.i64_in _ (by omega)
 obtain ⟨xs,hxs,hxok,hcell⟩ := h.lays
 have hxl : xs.length = len := by rw [<- hll,<- hxs,List.length_map]
 have hg0 : 0 < len -> ∃ g0 off0,A = some ⟨g0,off0,none⟩ /\ g0 < w.heap.size := fun h0 => by
  obtain ⟨g0,off0,e,hg,_⟩ := h.2.2.2 h0
  exact ⟨g0,off0,e,hg⟩
 have HXS := Lib.hid hxs
 have hw0 := qii s xs
 clear hxs h
 rcases Nat.eq_zero_or_pos len with h0 | h0
 · have hd1 : decide ((len : Int) > 0) = false := by simp; omega
   have hd2 : ((0 : Int) < (len : Int)) = False := eq_false (by omega)
   have hW0 : qaA s xs 0 = false := by
    rw [hw0]
    obtain rfl : xs = [] := List.length_eq_zero_iff.1 (by omega)
    rfl
   clear hw0
   go_enter Tryz.func46,Tryz.ntmps46
   go_wp2
   go_quiet (fail)
   go_wp2
   have hb1 := below_drewN hb0 nq
   have hrow1 := hrow
   change ((w.alloc (.cells #[.int .i64 s.i, .int .i64 s.t, .slice B bn bc] 35)).drewN nq).heap[w.heap.size]? = _ at hrow1
   generalize (w.alloc (.cells #[.int .i64 s.i, .int .i64 s.t, .slice B bn bc] 35)).drewN nq = W0 at *
   clear hb0 hrow a0 a1 a2
   go_loopg [6,7,25] len (fun g v s7 kk wr => ∃ k : Nat,k + g = len /\ kk = .int .i64 (k : Int) /\ v = .bool (qaA s xs k) /\ Below w.heap.size w wr /\ wr.heap[w.heap.size]? = some (.cells #[.int .i64 s.i, .int .i64 s.t, .slice B bn bc] 35))
   case atStart => exact ⟨0,by omega,rfl,by rw [hW0],hb1,hrow1⟩
   case round =>
    clear hb1 hrow1
    obtain ⟨k,hk,rfl,rfl,hbr,hrr⟩ := hrel
    obtain ⟨⟨b0,b1,b2⟩,_⟩ := row3 hrr
    have HK := Lib.hid hk
    by_cases hkn : k < len
    · exact absurd hkn (by omega)
    · obtain rfl : len = k := by omega
      have hkk : ¬ ((len : Int) < (len : Int)) := by omega
      have hwB : qaA s xs len = qbZ s l := by rw [<- HXS.out,<- qfF,hxl]
      have HWB := Lib.hid hwB
      clear hW0 hwB
      generalize qaA s xs len = b at *
      go_wp2
      have hb1 := hbr
      have hrow1 := hrr
      go_loopg [8,9,52] len (fun g v s9 kk wr => ∃ k : Nat,k + g = len /\ kk = .int .i64 (k : Int) /\ wr.ownsRow (w.heap.size + 1) 69 3 v (picked (fun g => b && decide (s.i < g.i)) xs k).length (rowOf (picked (fun g => b && decide (s.i < g.i)) xs k)) /\ Below w.heap.size w wr /\ wr.heap[w.heap.size]? = some (.cells #[.int .i64 s.i, .int .i64 s.t, .slice B bn bc] 35))
      case atStart => exact ⟨0,by omega,rfl,World.ownsRow_nil _ _ _ _,hb1,hrow1⟩
      case round =>
       clear hb1 hrow1 hbr hrr b0 b1 b2
       obtain ⟨k,hk,rfl,ho,hbr,hrr⟩ := hrel
       obtain ⟨⟨b0,b1,b2⟩,_⟩ := row3 hrr
       obtain ⟨A',c',rfl⟩ := qbB ho
       have HK := Lib.hid hk
       by_cases hkn : k < len
       · exact absurd hkn (by omega)
       · obtain rfl : len = k := by omega
         have hkk2 : ¬ ((len : Int) < (len : Int)) := by omega
         have hmap : (picked (fun g => b && decide (s.i < g.i)) xs len).map (·.e) = qs s l := by
          rw [qhH,<- HWB.out,<- HXS.out,<- qch,hxl]
         obtain ⟨Ae,ce,ee,hE⟩ := Ents.ofAnyV ho (fun q hq => hZ q (by omega)) (fun y hy => (hxok y (qcg hy)).keep hbr.size fun q hq _ => hbr.block q hq)
         have hsl := qbi (fun g => b && decide (s.i < g.i)) xs len
         have hlen : (picked (fun g => b && decide (s.i < g.i)) xs len).length = (qs s l).length := by rw [<- hmap,List.length_map]
         rw [hmap,hlen] at hE
         rw [hlen] at ee hsl
         injection ee with e1 e2 e3
         subst e1 e3
         rw [hlen]
         have hRun := fun W (hW : Below wr.heap.size wr W) => qeK Z A' (qs s l).length c' (qs s l) s.i s.t W (hE.below hW nlq) (by unfold maxLen; omega)
         generalize hrb : runB s.i s.t (qs s l) = rb at hRun
         generalize hln : (qs s l).length = ln at *
         have HE := Lib.hid hE
         have HB := Lib.hid hbr
         have HRB := Lib.hid hrb
         have HLN := Lib.hid hln
         clear hcell hxok hmap hlen hE hbr ho hsl hrb hln
         go_wp2_with fail
         refine (hRun _ blq).mono ?_
         rintro e w3 ⟨rfl,hb3⟩
         clear hRun
         go_wp2
         refine bodyPost_ret (results_tmp2 rfl _ _ _) rfl ?_
         unfold qgQ
         rw [HLN.out,HRB.out]
         exact ⟨HB.out.trans (hb3.mono HB.out.size),A',c',rfl,HE.out.below hb3 nlq⟩
 · have hd1 : decide ((len : Int) > 0) = true := by simp; omega
   have hd2 : (0 : Int) < (len : Int) := by omega
   obtain ⟨g0,off0,hA0,hgb⟩ := hg0 h0
   obtain ⟨y0,_,_⟩ := qcn (hcell _ hA0) 0 (by omega)
   rw [Nat.zero_mul,Nat.add_zero] at y0
   have z0 := (hb0.cell (p := ⟨g0,off0,none⟩) hgb).trans y0
   have hW0 : qaA s xs 0 = ((xs[0]'(by omega)).e.i == s.i + 1) := by
    rw [hw0]
    cases xs with
    | nil => simp at hxl; omega
    | cons f t => rfl
   clear hw0
   generalize (xs[0]'(by omega)).e.i = fi at z0 hW0
   clear y0
   rw [hA0] at hcell ⊢
   clear hA0 hg0
   go_enter Tryz.func46,Tryz.ntmps46
   go_wp2
   go_quiet (fail)
   go_wp2
   have hb1 := below_drewN hb0 nq
   have hrow1 := hrow
   change ((w.alloc (.cells #[.int .i64 s.i, .int .i64 s.t, .slice B bn bc] 35)).drewN nq).heap[w.heap.size]? = _ at hrow1
   generalize (w.alloc (.cells #[.int .i64 s.i, .int .i64 s.t, .slice B bn bc] 35)).drewN nq = W0 at *
   clear hb0 hrow a0 a1 a2
   go_loopg [6,7,25] len (fun g v s7 kk wr => ∃ k : Nat,k + g = len /\ kk = .int .i64 (k : Int) /\ v = .bool (qaA s xs k) /\ Below w.heap.size w wr /\ wr.heap[w.heap.size]? = some (.cells #[.int .i64 s.i, .int .i64 s.t, .slice B bn bc] 35))
   case atStart => exact ⟨0,by omega,rfl,by rw [hW0],hb1,hrow1⟩
   case round =>
    clear hb1 hrow1
    obtain ⟨k,hk,rfl,rfl,hbr,hrr⟩ := hrel
    obtain ⟨⟨b0,b1,b2⟩,_⟩ := row3 hrr
    have HK := Lib.hid hk
    by_cases hkn : k < len
    · have hkn' : (k : Int) < (len : Int) := by omega
      obtain ⟨y0,y1,y2⟩ := qcn (hcell _ rfl) k (by omega)
      have y0 := (hbr.cell (p := ⟨g0,off0 + k * 3,none⟩) hgb).trans y0
      have y1 := (hbr.cell (p := ⟨g0,off0 + k * 3 + 1,none⟩) hgb).trans y1
      have hnx := qih (s := s) (xs := xs) (k := k) (by omega)
      have HB := Lib.hid hbr
      have HR := Lib.hid hrr
      generalize (xs[k]'(by omega)) = q at *
      generalize q.e.i = qi at *
      generalize q.e.t = qt at *
      generalize qaA s xs k = b at *
      clear hcell hxok hbr hrr hk
      cases b with
      | true =>
        have HN := Lib.hid hnx
        clear hnx
        go_wp2
        go_quiet (fail)
        go_wp2
        go_roundg (gk - 1)
        case measure => have : k + gk = len := HK.out; omega
        case rel => exact ⟨k + 1,by have : k + gk = len := HK.out; omega,by go_num,by rw [HN.out]; rfl,below_drewN HB.out _,HR.out⟩
      | false =>
        by_cases e1 : qi = s.i
        · have e1b : (qi == s.i) = true := beq_iff_eq.2 e1
          by_cases e2 : qt = s.t
          · have e2b : (qt == s.t) = true := beq_iff_eq.2 e2
            rw [decide_eq_true e1,decide_eq_true e2] at hnx
            have HN := Lib.hid hnx
            clear hnx e1 e2
            go_wp2
            go_quiet (fail)
            go_wp2
            go_roundg (gk - 1)
            case measure => have : k + gk = len := HK.out; omega
            case rel => exact ⟨k + 1,by have : k + gk = len := HK.out; omega,by go_num,by rw [HN.out]; rfl,below_drewN HB.out _,HR.out⟩
          · have e2b : (qt == s.t) = false := beq_eq_false_iff_ne.2 e2
            rw [decide_eq_true e1,decide_eq_false e2] at hnx
            have HN := Lib.hid hnx
            clear hnx e1 e2
            go_wp2
            go_quiet (fail)
            go_wp2
            go_roundg (gk - 1)
            case measure => have : k + gk = len := HK.out; omega
            case rel => exact ⟨k + 1,by have : k + gk = len := HK.out; omega,by go_num,by rw [HN.out]; rfl,below_drewN HB.out _,HR.out⟩
        · have e1b : (qi == s.i) = false := beq_eq_false_iff_ne.2 e1
          rw [decide_eq_false e1] at hnx
          have HN := Lib.hid hnx
          clear hnx e1
          go_wp2
          go_quiet (fail)
          go_wp2
          go_roundg (gk - 1)
          case measure => have : k + gk = len := HK.out; omega
          case rel => exact ⟨k + 1,by have : k + gk = len := HK.out; omega,by go_num,by rw [HN.out]; rfl,below_drewN HB.out _,HR.out⟩
    · obtain rfl : len = k := by omega
      have hkk : ¬ ((len : Int) < (len : Int)) := by omega
      have hwB : qaA s xs len = qbZ s l := by rw [<- HXS.out,<- qfF,hxl]
      have HWB := Lib.hid hwB
      clear hW0 hwB
      generalize qaA s xs len = b at *
      go_wp2
      have hb1 := hbr
      have hrow1 := hrr
      go_loopg [8,9,52] len (fun g v s9 kk wr => ∃ k : Nat,k + g = len /\ kk = .int .i64 (k : Int) /\ wr.ownsRow (w.heap.size + 1) 69 3 v (picked (fun g => b && decide (s.i < g.i)) xs k).length (rowOf (picked (fun g => b && decide (s.i < g.i)) xs k)) /\ Below w.heap.size w wr /\ wr.heap[w.heap.size]? = some (.cells #[.int .i64 s.i, .int .i64 s.t, .slice B bn bc] 35))
      case atStart => exact ⟨0,by omega,rfl,World.ownsRow_nil _ _ _ _,hb1,hrow1⟩
      case round =>
       clear hb1 hrow1 hbr hrr b0 b1 b2
       obtain ⟨k,hk,rfl,ho,hbr,hrr⟩ := hrel
       obtain ⟨⟨b0,b1,b2⟩,_⟩ := row3 hrr
       obtain ⟨A',c',rfl⟩ := qbB ho
       have HK := Lib.hid hk
       by_cases hkn : k < len
       · have hkn' : (k : Int) < (len : Int) := by omega
         obtain ⟨y0,y1,y2⟩ := qcn (hcell _ rfl) k (by omega)
         have y0 := (hbr.cell (p := ⟨g0,off0 + k * 3,none⟩) hgb).trans y0
         have y1 := (hbr.cell (p := ⟨g0,off0 + k * 3 + 1,none⟩) hgb).trans y1
         have y2 := (hbr.cell (p := ⟨g0,off0 + k * 3 + 2,none⟩) hgb).trans y2
         have hyes := qfE (p := fun g => b && decide (s.i < g.i)) (xs := xs) (k := k) (by omega)
         have hno := qgr (p := fun g => b && decide (s.i < g.i)) (xs := xs) (k := k) (by omega)
         have hsl := qbi (fun g => b && decide (s.i < g.i)) xs k
         have hone := fun n => qa1 (wr.drewN n) (xs[k]'(by omega)) 69
         generalize (xs[k]'(by omega)) = q at *
         generalize hSK : picked (fun g => b && decide (s.i < g.i)) xs k = ys at *
         generalize hyl : ys.length = yl at *
         have HYL := Lib.hid hyl
         have hfalse : (b && decide (s.i < q.e.i)) = false -> ∀ W : World,W.heap = wr.heap -> Below w.heap.size w W -> ∃ yl',W.ownsRow (w.heap.size + 1) 69 3 (.slice A' yl c') yl' (rowOf (picked (fun g => b && decide (s.i < g.i)) xs (k + 1))) /\ yl' = (picked (fun g => b && decide (s.i < g.i)) xs (k + 1)).length /\ Below w.heap.size w W /\ W.heap[w.heap.size]? = some (.cells #[.int .i64 s.i, .int .i64 s.t, .slice B bn bc] 35) := fun hp W hW hb => by
          rw [hno hp]
          exact ⟨yl,qaa ho (fun g _ => by rw [hW]),hyl.symm,hb,by rw [hW]; exact hrr⟩
         cases hpb : (b && decide (s.i < q.e.i)) with
         | true =>
           have HY := Lib.hid (hyes hpb)
           obtain ⟨rfl,hp⟩ : b = true /\ s.i < q.e.i := by simpa using hpb
           have hpd : decide (s.i < q.e.i) = true := decide_eq_true hp
           have hpd2 : decide (q.e.i > s.i) = true := decide_eq_true hp
           have hb1 : w.heap.size + 1 <= wr.heap.size := hlt hrr
           have hyb : yl + 1 <= 1000000 := by omega
           have hdg : ∀ q',(Value.slice A' yl c').ownBlock = some q' -> w.heap.size + 1 <= q' := fun q' e => (World.ownsRow.lt ho q' e).1
           clear hyes hno hk hsl hcell hxok hfalse hpb
           generalize hqd : q.e.d.length = qd at *
           go_wp2
           go_quiet (fail)
           have hbq : Below w.heap.size w (wr.drewN nq) := below_drewN hbr nq
           have hoq := qaa ho (w' := wr.drewN nq) (fun _ _ => rfl)
           have hrq : (wr.drewN nq).heap[w.heap.size]? = some (.cells #[.int .i64 s.i, .int .i64 s.t, .slice B bn bc] 35) := hrr
           have hone := hone nq
           replace hb1 : w.heap.size + 1 <= (wr.drewN nq).heap.size := hb1
           replace y0 : (wr.drewN nq).cell? ⟨g0,off0 + k * 3,none⟩ = some (.int .i64 q.e.i) := y0
           replace y1 : (wr.drewN nq).cell? ⟨g0,off0 + k * 3 + 1,none⟩ = some (.int .i64 q.e.t) := y1
           replace y2 : (wr.drewN nq).cell? ⟨g0,off0 + k * 3 + 2,none⟩ = some (.slice q.A qd q.c) := y2
           generalize wr.drewN nq = wq at *
           have hA2 := (Below.refl wq.heap.size wq).alloc nlq (.cells #[.int .i64 q.e.i, .int .i64 q.e.t, .slice q.A qd q.c] 69)
           have hrr2 := (hA2.block _ (hlt hrq)).trans hrq
           have hbr2 := hbq.trans (hA2.mono hbq.size)
           have ho2 := hoq.alloc (.cells #[.int .i64 q.e.i, .int .i64 q.e.t, .slice q.A qd q.c] 69)
           go_wp2_with (at_builtin; refine qad _ rfl _ _ rfl (w.heap.size + 1) (by rw [World.size_alloc]; omega) (.slice A' yl c') yl (rowOf ys) rfl ho2 ⟨wq.heap.size,0,none⟩ 1 1 [q] rfl rfl hone hyb ?_)
           intro v3 w3 ho3 hg3 hb3
           have hbr3 := hbr2.grown hg3 hbr2.size (fun q' e => Nat.le_of_lt (hdg q' e))
           have hrr3 := (hg3.block w.heap.size (hlt hrr2) (fun e => by have := hdg _ e.symm; omega)).trans hrr2
           rw [<- qb7] at ho3
           have HO3 := Lib.hid ho3
           have HB3 := Lib.hid hbr3
           have HR3 := Lib.hid hrr3
           obtain ⟨A3,c3,rfl⟩ := qbB ho3
           clear hb3 hg3 ho2 hrr2 hbr2 hA2 hbr hrr ho hone hb1 hyb hdg y0 y1 y2 ho3 hbr3 hrr3 hpd hpd2 hSK hyl hoq hbq hrq b0 b1 b2 hp
           go_wp2
           go_roundg (gk - 1)
           case measure => have : k + gk = len := HK.out; omega
           case rel =>
            have eY : picked (fun g => true && decide (s.i < g.i)) xs (k + 1) = ys ++ [q] := HY.out
            have eL : (ys ++ [q]).length = yl + 1 := by rw [List.length_append,show ys.length = yl from HYL.out]; rfl
            exact ⟨k + 1,by have : k + gk = len := HK.out; omega,by go_num,by rw [eY,eL]; exact HO3.out,HB3.out,HR3.out⟩
         | false =>
           have HF := Lib.hid (hfalse hpb)
           have HB := Lib.hid hbr
           have hp : b = false \/ (b = true /\ ¬ s.i < q.e.i) := by
            cases b with
            | false => exact .inl rfl
            | true => exact .inr ⟨rfl,by simpa using hpb⟩
           clear hyes hno hk hsl hcell hxok hSK hyl hone hbr hfalse hpb ho
           rcases hp with rfl | ⟨rfl,hp⟩
           · go_wp2
             go_quiet (fail)
             go_wp2
             go_roundg (gk - 1)
             case measure => have : k + gk = len := HK.out; omega
             case rel =>
              obtain ⟨yl',f1,f2,f3,f4⟩ := HF.out (wr.drewN nq) rfl (below_drewN HB.out nq)
              subst f2
              exact ⟨k + 1,by have : k + gk = len := HK.out; omega,by go_num,f1,f3,f4⟩
           · have hpd : decide (s.i < q.e.i) = false := decide_eq_false hp
             have hpd2 : decide (q.e.i > s.i) = false := decide_eq_false hp
             have hpe : (s.i < q.e.i) = False := eq_false hp
             go_wp2
             go_quiet (fail)
             go_wp2
             go_roundg (gk - 1)
             case measure => have : k + gk = len := HK.out; omega
             case rel =>
              obtain ⟨yl',f1,f2,f3,f4⟩ := HF.out (wr.drewN nq) rfl (below_drewN HB.out nq)
              subst f2
              exact ⟨k + 1,by have : k + gk = len := HK.out; omega,by go_num,f1,f3,f4⟩
       · obtain rfl : len = k := by omega
         have hkk2 : ¬ ((len : Int) < (len : Int)) := by omega
         have hmap : (picked (fun g => b && decide (s.i < g.i)) xs len).map (·.e) = qs s l := by
          rw [qhH,<- HWB.out,<- HXS.out,<- qch,hxl]
         obtain ⟨Ae,ce,ee,hE⟩ := Ents.ofAnyV ho (fun q hq => hZ q (by omega)) (fun y hy => (hxok y (qcg hy)).keep hbr.size fun q hq _ => hbr.block q hq)
         have hsl := qbi (fun g => b && decide (s.i < g.i)) xs len
         have hlen : (picked (fun g => b && decide (s.i < g.i)) xs len).length = (qs s l).length := by rw [<- hmap,List.length_map]
         rw [hmap,hlen] at hE
         rw [hlen] at ee hsl
         injection ee with e1 e2 e3
         subst e1 e3
         rw [hlen]
         have hRun := fun W (hW : Below wr.heap.size wr W) => qeK Z A' (qs s l).length c' (qs s l) s.i s.t W (hE.below hW nlq) (by unfold maxLen; omega)
         generalize hrb : runB s.i s.t (qs s l) = rb at hRun
         generalize hln : (qs s l).length = ln at *
         have HE := Lib.hid hE
         have HB := Lib.hid hbr
         have HRB := Lib.hid hrb
         have HLN := Lib.hid hln
         clear hcell hxok hmap hlen hE hbr ho hsl hrb hln
         go_wp2_with fail
         refine (hRun _ blq).mono ?_
         rintro e w3 ⟨rfl,hb3⟩
         clear hRun
         go_wp2
         refine bodyPost_ret (results_tmp2 rfl _ _ _) rfl ?_
         unfold qgQ
         rw [HLN.out,HRB.out]
         exact ⟨HB.out.trans (hb3.mono HB.out.size),A',c',rfl,HE.out.below hb3 nlq⟩
end Go.Proofs.YtmeoooojmhhahaaGreat
namespace Go.Proofs.YtmeoooojmhhahaaGreat
open Go.RowKit
def qfG (w w' : World) (D : Dsk) (en : Ending) : Prop :=
 ∃ B n c,en = .returned (.tuple #[entV D.snapV.1.i D.snapV.1.t B n c, .int .i64 ((D.snapV.2 : Nat) : Int)]) /\ Lies w' B n c D.snapV.1.d /\ c <= maxLen /\ (0 < n -> ∀ g off,B = some ⟨g,off,none⟩ -> w.heap.size <= g) /\ Below w.heap.size w w'
theorem qbj {w w' : World} {D : Dsk} {e : Nat} (h : D.snapV = (qaC,e)) (hb : Below w.heap.size w w') : qfG w w' D (.returned (.tuple #[entV 0 0 none 0 0, .int .i64 ((e : Nat) : Int)])) := by
 unfold qfG
 rw [h]
 exact ⟨none,0,0,rfl,Lies.nil _,Nat.zero_le _,fun h => absurd h (by omega),hb⟩
theorem qij {b : List UInt8} (h : (qv b).1.length ≠ 1) : snapOf b = none := by
 unfold snapOf
 split
 · rename_i r e; rw [e] at h; exact absurd rfl h
 · rfl
theorem qjp {b r : List UInt8} (h : (qv b).1 = [r]) : snapOf b = if (qv b).2 = b.length /\ (fromN snapB (some r) 50000).s = some [] /\ (fromN snapB (some r) 50000).i ≠ 0 then some ⟨(fromN snapB (some r) 50000).i,(fromN snapB (some r) 50000).t,(fromN snapB (some r) 50000).d⟩ else none := by
 unfold snapOf
 rw [h]
theorem qjq (A : Option Addr) (cap : Nat) (D : Dsk) (w : World) (h : RF w A cap D.l) (hG : Good D) (hroom : D.room <= 1000000) :
 Calls Tryz.prog 43 #[qD A cap D] w fun en w' => qfG w w' D en := by
 have hb0 : Below w.heap.size w ((w.alloc (.cells (dskC A cap D) 41)).alloc (.cells #[.int .i64 0, .int .i64 0, .slice none 0 0] 35)) := (blq.alloc nlq _).alloc (by simp) _
 have hm0 : ((w.alloc (.cells (dskC A cap D) 41)).alloc (.cells #[.int .i64 0, .int .i64 0, .slice none 0 0] 35)).heap[w.heap.size]? = _ := heap_alloc2_old _ _ _
 have hm1 : ((w.alloc (.cells (dskC A cap D) 41)).alloc (.cells #[.int .i64 0, .int .i64 0, .slice none 0 0] 35)).heap[w.heap.size + 1]? = _ := heap_alloc2_new _ _ _
 have hsW : ((w.alloc (.cells (dskC A cap D) 41)).alloc (.cells #[.int .i64 0, .int .i64 0, .slice none 0 0] 35)).heap.size = w.heap.size + 2 := by simp
 have hR := qdS A cap D qal _ (h.below hb0 nlq) (by have := hG.len; omega)
 have hsz : (D.read qal).1.size <= 1000000 := by
  have h1 := hG.used
  have h2 := qaF D.l qal
  have h3 := qaT D.l qal
  unfold Dsk.read
  split
  · exact Nat.zero_le _
  · split
    · exact Nat.zero_le _
    · dsimp only; omega
 have hV : Hid (D.snapV = qaU (D.read qal)) := ⟨rfl⟩
 generalize hW : (w.alloc (.cells (dskC A cap D) 41)).alloc (.cells #[.int .i64 0, .int .i64 0, .slice none 0 0] 35) = W at *
 have HW := Lib.hid hW
 generalize D.read qal = r at *
 obtain ⟨bb,er⟩ := r
 dsimp only at *
 clear hW hG hroom h
 obtain ⟨⟨a0,a1,a2,a3,a4⟩,_⟩ := row5 hm0
 go_enter Tryz.func43,Tryz.ntmps43
 go_wp2_with fail
 rw [HW.out]
 refine hR.mono ?_
 rintro e w1 ⟨rfl,hb1⟩
 have hbw := hb0.trans (hb1.mono hb0.size)
 have m1 := (hb1.block _ (by omega)).trans hm1
 have hz1 : w.heap.size + 1 < w1.heap.size := by have := hb1.size; omega
 clear hm0 hm1 hb0 hb1 hR HW hsW a0 a1 a2 a3 a4
 obtain ⟨_,⟨f0,f1,f2⟩⟩ := row3 m1
 by_cases h6 : er = 6
 · subst h6
   have HV := Lib.hid (show D.snapV = (qaC,0) from hV.out)
   have HB := Lib.hid hbw
   have HM := Lib.hid m1
   clear hV hbw m1
   go_wp2
   refine bodyPost_ret (qa (n := w.heap.size + 1) rfl rfl (qL _ _ _ _ _ _ _ _ _ HM.out) Tryz.underlying35 rfl (by kernel_rfl)) rfl ?_
   exact qbj HV.out (((HB.out.setCell (by show w.heap.size <= w.heap.size + 1; omega) _).setCell (by show w.heap.size <= w.heap.size + 1; omega) _).setCell (by show w.heap.size <= w.heap.size + 1; omega) _)
 · have h6b : ((er : Int) == 6) = false := by simp; omega
   by_cases he0 : er = 0
   · subst he0
     have hS := qgp bb hsz
     unfold qcf at hS
     have hV2 : Hid (D.snapV = match snapOf (btl bb) with | some s => (s,0) | none => (qaC,2)) := ⟨hV.out⟩
     have hn1 := qij (b := btl bb)
     have ho1 := fun r => qjp (b := btl bb) (r := r)
     have hfit := (qcp (btl bb)).2
     rw [qC] at ho1
     generalize qv (btl bb) = sc at *
     obtain ⟨ls,en⟩ := sc
     dsimp only at *
     clear hV
     go_wp2_with fail
     refine (hS _).mono ?_
     rintro e w2 ⟨v,ts,rfl,hrow,hts,hb2⟩
     obtain ⟨E,ecap,rfl,hst,hnew⟩ := qc8 hrow
     have hbw2 := hbw.trans (hb2.mono hbw.size)
     have m2 := (hb2.block _ hz1).trans m1
     have hz2 : w.heap.size + 1 < w2.heap.size := by have := hb2.size; omega
     clear hS hrow hb2 hbw m1 f0 f1 f2
     obtain ⟨_,⟨f0,f1,f2⟩⟩ := row3 m2
     have htl : ts.length = ls.length := by rw [<- hts,List.length_map]
     by_cases hc : ts.length = 1 /\ en = bb.size
     · obtain ⟨hc1,hc2⟩ := hc
       obtain ⟨s,rfl⟩ : ∃ s,ts = [s] := by
        cases ts with
        | nil => simp at hc1
        | cons s t => cases t with
          | nil => exact ⟨s,rfl⟩
          | cons _ _ => simp at hc1
       obtain rfl : ls = [btl s] := hts.symm
       have hss : s.size <= 60000 := by have := hfit (btl s) (by simp); rwa [qC] at this
       obtain ⟨g,off,rfl,hg,hcell⟩ := hst.2.2 (by simp)
       have x0 := hcell 0 (by simp)
       rw [Nat.add_zero] at x0
       change w2.cell? ⟨g,off,none⟩ = some (.string s) at x0
       have hone := ho1 (btl s) rfl
       subst hc2
       obtain ⟨c,W',hcv,hl,hbW,hsW⟩ := qbD w2 s
       have hRL : qp W' (some ⟨w2.heap.size,0,none⟩) c (some (btl s)) := by
        unfold qp
        show Lies W' _ (btl s).length c (btl s)
        rw [qC]
        exact hl
       have hF := qgN (some ⟨w2.heap.size,0,none⟩) c (some (btl s)) W' (by show (btl s).length <= _; rw [qC]; omega) hRL
       rw [show inv (some ⟨w2.heap.size,0,none⟩) c (some (btl s)) = .agg #[.slice (some ⟨w2.heap.size,0,none⟩) s.size c, .bool false] by show Value.agg #[.slice _ (btl s).length _, .bool false] = _; rw [qC]] at hF
       generalize fromN snapB (some (btl s)) 50000 = R at *
       obtain ⟨fi,ft,fd,s2⟩ := R
       dsimp only at *
       clear ho1 hn1 hts htl hst hnew hc1 hcell hfit
       go_wp2_with fail
       refine hF.mono ?_
       rintro e w3 ⟨Dd,n,dc,A2,c2,rfl,hl3,hn3,hr2,hb3,hc3⟩
       obtain rfl := hl3.1
       have hb23 := hbW.trans (hb3.mono hbW.size)
       have hbw3 := hbw2.trans (hb23.mono hbw2.size)
       have m3 := (hb23.block _ hz2).trans m2
       have hz3 : w.heap.size + 1 < w3.heap.size := by have := hb23.size; omega
       have hn3' : 0 < fd.length -> ∀ q o,Dd = some ⟨q,o,none⟩ -> w.heap.size + 2 <= q := fun h0 q o e => by have := hn3 h0 q o e; have := hbW.size; omega
       clear hF hRL hcv hl hbW hsW hn3 hb3 hb23 m2 hbw2 f0 f1 f2
       go_upto_region 10 with fail
       have hbX : Below w3.heap.size w3 ((w3.alloc (.cells #[.int .i64 fi, .int .i64 ft, .slice Dd fd.length dc] 35)).alloc (.cells #[.slice A2 (left s2) c2, .bool s2.isNone] 171)) := (blq.alloc nlq _).alloc (by simp) _
       have rS : ((w3.alloc (.cells #[.int .i64 fi, .int .i64 ft, .slice Dd fd.length dc] 35)).alloc (.cells #[.slice A2 (left s2) c2, .bool s2.isNone] 171)).heap[w3.heap.size]? = some (.cells #[.int .i64 fi, .int .i64 ft, .slice Dd fd.length dc] 35) := heap_alloc2_old _ _ _
       have rI : ((w3.alloc (.cells #[.int .i64 fi, .int .i64 ft, .slice Dd fd.length dc] 35)).alloc (.cells #[.slice A2 (left s2) c2, .bool s2.isNone] 171)).heap[w3.heap.size + 1]? = some (.cells #[.slice A2 (left s2) c2, .bool s2.isNone] 171) := heap_alloc2_new _ _ _
       generalize ((w3.alloc (.cells #[.int .i64 fi, .int .i64 ft, .slice Dd fd.length dc] 35)).alloc (.cells #[.slice A2 (left s2) c2, .bool s2.isNone] 171)) = X at *
       have hbwX := hbw3.trans (hbX.mono hbw3.size)
       have mX := (hbX.block _ hz3).trans m3
       have hlX := hl3.below hbX nlq
       have hzS := hlt rS
       have hzI := hlt rI
       obtain ⟨⟨y0,y1⟩,_⟩ := row2 rI
       clear m3 hbX hbw3 hl3 rI
       have hDn := fun W => qdI A2 c2 s2 W
       generalize hdd : decide (s2 = some []) = dd at hDn
       go_wp2_with fail
       refine (hDn _).mono ?_
       rintro e w5 ⟨rfl,hb5⟩
       have HB := Lib.hid (hbwX.trans (hb5.mono hbwX.size))
       have HM := Lib.hid ((hb5.block _ (by omega)).trans mX)
       have r5 := (hb5.block _ hzS).trans rS
       have HL := Lib.hid (hlX.below hb5 nlq)
       have hz5 : w.heap.size + 1 < w5.heap.size := by have := hb5.size; omega
       obtain ⟨_,⟨f0,f1,f2⟩⟩ := row3 HM.out
       obtain ⟨⟨x0,x1,x2⟩,_⟩ := row3 r5
       clear hDn hbwX mX rS hlX hb5 r5 y0 y1
       cases dd with
       | false =>
         have hd := of_decide_eq_false hdd
         rw [hone,if_neg fun h => hd h.2.1] at hV2
         have HV := Lib.hid hV2.out
         clear hV2 hone
         go_wp2
         refine bodyPost_ret (qa (n := w.heap.size + 1) rfl rfl (qL _ _ _ _ _ _ _ _ _ HM.out) Tryz.underlying35 rfl (by kernel_rfl)) rfl ?_
         exact qbj HV.out (((HB.out.setCell (by show w.heap.size <= w.heap.size + 1; omega) _).setCell (by show w.heap.size <= w.heap.size + 1; omega) _).setCell (by show w.heap.size <= w.heap.size + 1; omega) _)
       | true =>
         have hd := of_decide_eq_true hdd
         by_cases hf0 : fi = 0
         · rw [hone,if_neg fun h => h.2.2 hf0] at hV2
           have HV := Lib.hid hV2.out
           subst hf0
           clear hV2 hone
           go_wp2
           refine bodyPost_ret (qa (n := w.heap.size + 1) rfl rfl (qL _ _ _ _ _ _ _ _ _ HM.out) Tryz.underlying35 rfl (by kernel_rfl)) rfl ?_
           exact qbj HV.out (((HB.out.setCell (by show w.heap.size <= w.heap.size + 1; omega) _).setCell (by show w.heap.size <= w.heap.size + 1; omega) _).setCell (by show w.heap.size <= w.heap.size + 1; omega) _)
         · rw [hone,if_pos ⟨by simp,hd,hf0⟩] at hV2
           have HV := Lib.hid hV2.out
           have hf0b : (fi == 0) = false := beq_eq_false_iff_ne.2 hf0
           clear hV2 hone
           go_wp2
           refine bodyPost_ret (qa (n := w.heap.size + 1) rfl rfl (qL _ _ _ _ _ _ _ _ _ HM.out) Tryz.underlying35 rfl (by kernel_rfl)) rfl ?_
           unfold qfG
           rw [HV.out]
           refine ⟨Dd,fd.length,dc,rfl,?_,hc3,fun h0 q o e => by have := hn3' h0 q o e; omega,(((HB.out.setCell (by show w.heap.size <= w.heap.size + 1; omega) _).setCell (by show w.heap.size <= w.heap.size + 1; omega) _).setCell (by show w.heap.size <= w.heap.size + 1; omega) _)⟩
           exact HL.out.keep (by simp [World.setCell]) fun h0 q o e hq => (Below.heap_setCell _ _ _ _ (by show q ≠ w.heap.size + 1; have := hn3' h0 q o e; omega)).trans ((Below.heap_setCell _ _ _ _ (by show q ≠ w.heap.size + 1; have := hn3' h0 q o e; omega)).trans (Below.heap_setCell _ _ _ _ (by show q ≠ w.heap.size + 1; have := hn3' h0 q o e; omega)))
     · have hN : snapOf (btl bb) = none := by
        by_cases hl1 : ls.length = 1
        · obtain ⟨r,rfl⟩ : ∃ r,ls = [r] := by
           cases ls with
           | nil => simp at hl1
           | cons s t => cases t with
             | nil => exact ⟨s,rfl⟩
             | cons _ _ => simp at hl1
          rw [ho1 r rfl,if_neg]
          exact fun h => hc ⟨by omega,h.1⟩
        · exact hn1 hl1
       rw [hN] at hV2
       have HV := Lib.hid hV2.out
       have HB := Lib.hid hbw2
       have HM := Lib.hid m2
       generalize ts.length = tl at *
       clear hV2 hN ho1 hn1 hts htl hst hnew
       by_cases hl : tl = 1
       · subst hl
         have hen : ((en : Int) != (bb.size : Int)) = true := by simp; exact fun e => hc ⟨rfl,by omega⟩
         clear hc hbw2 m2
         go_wp2
         refine bodyPost_ret (qa (n := w.heap.size + 1) rfl rfl (qL _ _ _ _ _ _ _ _ _ HM.out) Tryz.underlying35 rfl (by kernel_rfl)) rfl ?_
         exact qbj HV.out (((HB.out.setCell (by show w.heap.size <= w.heap.size + 1; omega) _).setCell (by show w.heap.size <= w.heap.size + 1; omega) _).setCell (by show w.heap.size <= w.heap.size + 1; omega) _)
       · have htn : ((tl : Int) != 1) = true := by simp; omega
         clear hc hbw2 m2
         go_wp2
         refine bodyPost_ret (qa (n := w.heap.size + 1) rfl rfl (qL _ _ _ _ _ _ _ _ _ HM.out) Tryz.underlying35 rfl (by kernel_rfl)) rfl ?_
         exact qbj HV.out (((HB.out.setCell (by show w.heap.size <= w.heap.size + 1; omega) _).setCell (by show w.heap.size <= w.heap.size + 1; omega) _).setCell (by show w.heap.size <= w.heap.size + 1; omega) _)
   · have he0b : ((er : Int) != 0) = true := by simp; omega
     have HV := Lib.hid (show D.snapV = (qaC,er) by rw [hV.out]; unfold qaU; dsimp only; rw [if_neg h6,if_pos he0])
     have HB := Lib.hid hbw
     have HM := Lib.hid m1
     clear hV hbw m1
     go_wp2
     refine bodyPost_ret (qa (n := w.heap.size + 1) rfl rfl (qL _ _ _ _ _ _ _ _ _ HM.out) Tryz.underlying35 rfl (by kernel_rfl)) rfl ?_
     exact qbj HV.out (((HB.out.setCell (by show w.heap.size <= w.heap.size + 1; omega) _).setCell (by show w.heap.size <= w.heap.size + 1; omega) _).setCell (by show w.heap.size <= w.heap.size + 1; omega) _)
end Go.Proofs.YtmeoooojmhhahaaGreat
