/- The document's Open of a vault, by its contract. (Written by mkrefq.py.) -/
import Derived.Test.YtmeoooojmhhahaaGreatTVauRefP
import Derived.Test.YtmeoooojmhhahaaGreatTVauRefX
import Derived.Laws.CopyOwn
set_option linter.unusedVariables false
set_option linter.unusedSimpArgs false
set_option maxRecDepth 100000
set_option maxHeartbeats 16000000
namespace Go.Proofs.YtmeoooojmhhahaaGreat
open Go.RowKit
theorem qbW {X : World} {p8 p10 p6 pv ph : Nat} {l0 l1 l2 l3 l4 l5 l6 h0 h1 s0 s1 s2 a0 a1 a2 a3 a4 a5 a6 a7 a8 b0 b1 b2 b3 b4 b5 : Value} {T8 T10 T6 TV TH : TypeId}
 (r8 : X.heap[p8]? = some (.cells #[l0,l1,l2,l3,l4,l5,l6] T8)) (r10 : X.heap[p10]? = some (.cells #[h0,h1] T10)) (r6 : X.heap[p6]? = some (.cells #[s0,s1,s2] T6)) (rv : X.heap[pv]? = some (.cells #[a0,a1,a2,a3,a4,a5,a6,a7,a8] TV)) (rh : X.heap[ph]? = some (.cells #[b0,b1,b2,b3,b4,b5] TH)) :
 X.cell? ⟨p8,0,none⟩ = some (l0) /\ X.cell? ⟨p8,1,none⟩ = some (l1) /\ X.cell? ⟨p8,2,none⟩ = some (l2) /\ X.cell? ⟨p8,3,none⟩ = some (l3) /\ X.cell? ⟨p8,4,none⟩ = some (l4) /\ X.cell? ⟨p8,5,none⟩ = some (l5) /\ X.cell? ⟨p8,6,none⟩ = some (l6) /\ X.cell? ⟨p10,0,none⟩ = some (h0) /\ X.cell? ⟨p10,1,none⟩ = some (h1) /\ X.cell? ⟨p6,0,none⟩ = some (s0) /\ X.cell? ⟨p6,1,none⟩ = some (s1) /\ X.cell? ⟨p6,2,none⟩ = some (s2) /\ X.frozen? ⟨pv,0,none⟩ = false /\ X.frozen? ⟨pv,1,none⟩ = false /\ X.frozen? ⟨pv,2,none⟩ = false /\ X.frozen? ⟨pv,3,none⟩ = false /\ X.frozen? ⟨pv,4,none⟩ = false /\ X.frozen? ⟨pv,5,none⟩ = false /\ X.frozen? ⟨pv,6,none⟩ = false /\ X.frozen? ⟨pv,7,none⟩ = false /\ X.frozen? ⟨pv,8,none⟩ = false /\ X.frozen? ⟨ph,0,none⟩ = false /\ X.frozen? ⟨ph,1,none⟩ = false /\ X.frozen? ⟨ph,2,none⟩ = false /\ X.frozen? ⟨ph,3,none⟩ = false /\ X.frozen? ⟨ph,4,none⟩ = false /\ X.frozen? ⟨ph,5,none⟩ = false := by
 obtain ⟨⟨x0,x1,x2,x3,x4,x5,x6⟩,_⟩ := row7 r8
 obtain ⟨⟨y0,y1⟩,_⟩ := row2 r10
 obtain ⟨⟨z0,z1,z2⟩,_⟩ := row3 r6
 obtain ⟨_,⟨d0,d1,d2,d3,d4,d5,d6,d7,d8⟩⟩ := row9 rv
 obtain ⟨_,⟨g0,g1,g2,g3,g4,g5⟩⟩ := row6 rh
 exact ⟨x0,x1,x2,x3,x4,x5,x6,y0,y1,z0,z1,z2,d0,d1,d2,d3,d4,d5,d6,d7,d8,g0,g1,g2,g3,g4,g5⟩
structure RAt (w W X : World) (p B : Nat) (A : Option Addr) (cap : Nat) (l : List Fil) (A1 : Option Addr) (cap1 : Nat) (D1 : Dsk) (A2 : Option Addr) (cap2 : Nat) (D2 : Dsk) (nm : ByteArray) (n : Int) : Prop where
 lg : X.heap[p]? = some (.cells (logC A2 cap2 D2 nm n) 43)
 far : ∀ k,k ≠ p -> k < W.heap.size -> X.heap[k]? = W.heap[k]?
 sz : W.heap.size <= X.heap.size
 mv : X.heap[w.heap.size + 1]? = some (.cells zeroV 45)
 mh : X.heap[w.heap.size + 1 + 1]? = some (.cells qbQ 47)
 mn : X.heap[w.heap.size + 1 + 1 + 1]? = some (.cells (qcX A1 cap1 D1) 45)
 got : GotB w B A cap l X A2 cap2 D2.l
 lo : w.heap.size + 4 <= B
 hi : B <= X.heap.size
theorem NAt.reset {w W W4 w2 : World} {B : Nat} {A A1 A2 : Option Addr} {cap cap1 cap2 : Nat} {l : List Fil} {D1 D2 : Dsk} (v : NAt w W B A cap l A1 cap1 D1) (hb : Below W.heap.size W W4) (hg : Got W4 A1 cap1 D1.l w2 A2 cap2 D2.l) {p : Nat} (hp : B <= p) {c0 c1 c2 c3 c4 c5 c6 : Value} (hm : W.heap[p]? = some (.cells #[c0,c1,c2,c3,c4,c5,c6] 43)) (hA : 0 < D1.l.length -> ∀ a,A1 = some a -> a.block < p) (nm : ByteArray) (n : Int) :
 RAt w W (((((((w2.setCell ⟨p,0,none⟩ (.int .i64 D2.room)).setCell ⟨p,1,none⟩ (.slice A2 D2.l.length cap2)).setCell ⟨p,2,none⟩ (.bool D2.set)).setCell ⟨p,3,none⟩ (.int .i64 D2.n)).setCell ⟨p,4,none⟩ (.bool D2.lost)).setCell ⟨p,5,none⟩ (.string nm)).setCell ⟨p,6,none⟩ (.int .i64 n)) p B A cap l A1 cap1 D1 A2 cap2 D2 nm n := by
 have e1 := v.lo
 have e2 := v.hi
 have e3 := hb.size
 have e4 := hg.1.size
 have e5 := hlt hm
 have hold : ∀ k,k < W.heap.size -> w2.heap[k]? = W.heap[k]? := fun k hk => (hg.1.block _ (by omega)).trans (hb.block _ hk)
 have hfar := fun k (h1 : k ≠ p) (h2 : k < W.heap.size) => (qap w2 h1 (.int .i64 D2.room) (.slice A2 D2.l.length cap2) (.bool D2.set) (.int .i64 D2.n) (.bool D2.lost) (.string nm) (.int .i64 n)).trans (hold k h2)
 refine ⟨qaH _ _ _ _ _ _ _ _ _ _ _ _ _ _ _ _ _ ((hold p e5).trans hm),hfar,by simp [World.setCell]; omega,(hfar _ (by omega) (by omega)).trans v.mv,(hfar _ (by omega) (by omega)).trans v.mh,(hfar _ (by omega) (by omega)).trans v.mn,?_,e1,by simp [World.setCell]; omega⟩
 refine ((v.below hb).got.next hg (by omega)).far (p := p) (qbN blq (by omega) _ _ _ _ _ _ _) (fun k hk _ => qap _ hk _ _ _ _ _ _ _) ?_
 intro h0 a ha he
 rcases hg.2 with ⟨e6,_,e7⟩ | ⟨_,hn⟩
 · have := hA (by rw [<- e7]; exact h0) a (e6.symm.trans ha)
   omega
 · have := hn a ha
   omega
theorem RAt.wrap {w W X : World} {p B : Nat} {A A1 A2 : Option Addr} {cap cap1 cap2 : Nat} {l : List Fil} {D1 D2 : Dsk} {nm : ByteArray} {n : Int} (r : RAt w W X p B A cap l A1 cap1 D1 A2 cap2 D2 nm n) :
 NAt w (((((X.setCell ⟨w.heap.size + 1 + 1 + 1,0,none⟩ (.int .i64 D2.room)).setCell ⟨w.heap.size + 1 + 1 + 1,1,none⟩ (.slice A2 D2.l.length cap2)).setCell ⟨w.heap.size + 1 + 1 + 1,2,none⟩ (.bool D2.set)).setCell ⟨w.heap.size + 1 + 1 + 1,3,none⟩ (.int .i64 D2.n)).setCell ⟨w.heap.size + 1 + 1 + 1,4,none⟩ (.bool D2.lost)) B A cap l A2 cap2 D2 := by
 have e1 := r.lo
 have e2 := r.hi
 have m := r.mn
 refine ⟨(qf _ (by omega) _ _ _ _ _).trans r.mv,(qf _ (by omega) _ _ _ _ _).trans r.mh,?_,r.got.set5 (by omega) (by omega) _ _ _ _ _,e1,by simp [World.setCell]; omega⟩
 simp only [World.setCell,Array.getElem?_modify,if_true,m,Option.map_some]
 simp
theorem NAt.rows {w W : World} {B : Nat} {A A1 : Option Addr} {cap cap1 : Nat} {l : List Fil} {D1 : Dsk} (v : NAt w W B A cap l A1 cap1 D1) (cv ch : Array Value) :
 ((W.drew.setRow (w.heap.size + 1) cv).setRow (w.heap.size + 1 + 1) ch).heap[w.heap.size + 1]? = some (.cells cv 45) /\ ((W.drew.setRow (w.heap.size + 1) cv).setRow (w.heap.size + 1 + 1) ch).heap[w.heap.size + 1 + 1]? = some (.cells ch 47) ∧
 Got w A cap l ((W.drew.setRow (w.heap.size + 1) cv).setRow (w.heap.size + 1 + 1) ch) A1 cap1 D1.l /\ (∀ k,k ≠ w.heap.size + 1 -> k ≠ w.heap.size + 1 + 1 -> ((W.drew.setRow (w.heap.size + 1) cv).setRow (w.heap.size + 1 + 1) ch).heap[k]? = W.heap[k]?) /\ ((W.drew.setRow (w.heap.size + 1) cv).setRow (w.heap.size + 1 + 1) ch).heap.size = W.heap.size := by
 have e1 := v.lo
 have hk : ∀ k,k ≠ w.heap.size + 1 -> k ≠ w.heap.size + 1 + 1 -> ((W.drew.setRow (w.heap.size + 1) cv).setRow (w.heap.size + 1 + 1) ch).heap[k]? = W.heap[k]? := fun k h1 h2 => (setRow_other _ _ _ _ h2).trans (setRow_other _ _ _ _ h1)
 have hb : Below w.heap.size W ((W.drew.setRow (w.heap.size + 1) cv).setRow (w.heap.size + 1 + 1) ch) := below_setRow (below_setRow blq.drew (by omega) _) (by omega) _
 exact ⟨(setRow_other _ _ _ _ (by omega)).trans (setRow_heap W.drew _ _ _ _ _ v.mv),setRow_heap _ _ _ _ _ _ ((setRow_other _ _ _ _ (by omega)).trans v.mh),(v.got.keep hb fun g h1 _ => hk g (by omega) (by omega)).got (by omega),hk,by rw [setRow_size,setRow_size]; rfl⟩
theorem qlX (D : Dsk) : 0 <= D.snapV.1.i /\ D.snapV.1.i <= 4611686018427387904 := by
 unfold Dsk.snapV qaU
 split
 · exact ⟨Int.le_refl _,by show (0 : Int) <= _; omega⟩
 · split
   · exact ⟨Int.le_refl _,by show (0 : Int) <= _; omega⟩
   · cases ho : snapOf (D.read qal).1.data.toList with
     | none => exact ⟨Int.le_refl _,by show (0 : Int) <= _; omega⟩
     | some s =>
       obtain ⟨h1,h2⟩ := qdX ho
       dsimp only
       unfold snapB at h1
       split at h1
       · rename_i h0; exact absurd h0.1 h2
       · simp only [Bool.and_eq_true] at h1
         have := (qeI _).1 h1.1.1
         omega
theorem qky (D : Dsk) : D.openV = if D.snapV.2 ≠ 0 then ((D,D.snapV.2),qN) else if (D.openW nWal).2 ≠ 0 then (D.openW nWal,qN) else qaL (D.openW nWal) D.snapV.1 (D.told nWal).1 := rfl
theorem Got.step {W w1 w2 : World} {A A1 : Option Addr} {cap cap1 : Nat} {l l1 : List Fil} (hg : Got W A cap l w1 A1 cap1 l1) (hb : Below w1.heap.size w1 w2) : Got W A cap l w2 A1 cap1 l1 :=
 ⟨hg.1.trans (hb.mono hg.1.size),hg.2.imp id fun ⟨h1,h2⟩ => ⟨h1.below hb nlq,h2⟩⟩
theorem qd4 : ∀ (ls : List (List UInt8)),8 * ls.length <= (framesL ls).length
 | [] => Nat.zero_le _
 | r :: ls => by
   have := qd4 ls
   rw [qa7,List.length_append,qu,List.length_cons]
   omega
theorem qly {D : Dsk} (hG : Good D) (hroom : D.room <= 100000) (nm : ByteArray) : fit (D.told nm).1 /\ (D.told nm).1.length <= 12500 := by
 have hsz : (D.read nm).1.size <= 100000 := by
  have h1 := hG.used
  have h2 := qaF D.l nm
  have h3 := qaT D.l nm
  unfold Dsk.read
  split
  · exact Nat.zero_le _
  · split
    · exact Nat.zero_le _
    · dsimp only; omega
 obtain ⟨h1,h2⟩ := qcp (btl (D.read nm).1)
 refine ⟨h2,?_⟩
 have h3 := qd4 (qv (btl (D.read nm).1)).1
 have h4 : (framesL (qv (btl (D.read nm).1)).1).length <= (btl (D.read nm).1).length := by rw [<- h1,List.length_take]; exact Nat.min_le_right _ _
 rw [qC] at h4
 show (qv (btl (D.read nm).1)).1.length <= _
 omega
theorem qju {R : Dsk × Nat} {s : Ent} {ls : List (List UInt8)} (h : tells ls = none) : qaL R s ls = ((R.1,2),qN) := by
 unfold qaL
 rw [h]
theorem qjv {R : Dsk × Nat} {s : Ent} {ls : List (List UInt8)} {h : Hd} {all : List Ent} (ht : tells ls = some (h,all)) (hb : runB s.i s.t (qs s all) = false) : qaL R s ls = ((R.1,2),qN) := by
 unfold qaL qck
 rw [ht]
 dsimp only
 rw [hb,if_neg (by simp)]
theorem qjw {R : Dsk × Nat} {s : Ent} {ls : List (List UInt8)} {h : Hd} {all : List Ent} (ht : tells ls = some (h,all)) (hb : runB s.i s.t (qs s all) = true) (hl : (qs s all).length = all.length) : qaL R s ls = ((R.1,0),⟨h,s,qs s all⟩) := by
 unfold qaL qck
 rw [ht]
 dsimp only
 rw [hb,if_pos rfl]
 dsimp only
 rw [if_pos hl]
theorem qik {R : Dsk × Nat} {s : Ent} {ls : List (List UInt8)} {h : Hd} {all : List Ent} (ht : tells ls = some (h,all)) (hb : runB s.i s.t (qs s all) = true) (hl : (qs s all).length ≠ all.length) : qaL R s ls = (R.1.reset nWal (allRecs h (qs s all)),if (R.1.reset nWal (allRecs h (qs s all))).2 ≠ 0 then qN else ⟨h,s,qs s all⟩) := by
 unfold qaL qck
 rw [ht]
 dsimp only
 rw [hb,if_pos rfl]
 dsimp only
 rw [if_neg hl]
 split <;> rfl
theorem qjx {D : Dsk} (h : Good D) (nm : ByteArray) : Good (D.openW nm).1 := by
 unfold Dsk.openW
 split
 · exact h
 · split
   · exact h.cut _ _
   · exact h
theorem qfJ (A : Option Addr) (cap : Nat) (D : Dsk) (w : World) (hR : RF w A cap D.l) (hG : Good D) (hroom : D.room <= 100000) :
 Calls Tryz.prog 13 #[qD A cap D] w fun en w' => qdC w w' A cap D en := by
 have hb0 : Below w.heap.size w ((((w.alloc (.cells (dskC A cap D) 41)).alloc (.cells zeroV 45)).alloc (.cells qbQ 47)).alloc (.cells (qcX A cap D) 45)) := (((blq.alloc nlq _).alloc (by simp) _).alloc (by simp; omega) _).alloc (by simp; omega) _
 have K0 : NAt w ((((w.alloc (.cells (dskC A cap D) 41)).alloc (.cells zeroV 45)).alloc (.cells qbQ 47)).alloc (.cells (qcX A cap D) 45)) (w.heap.size + 4) A cap D.l A cap D := by
  have e3 := heap_alloc_new (((w.alloc (.cells (dskC A cap D) 41)).alloc (.cells zeroV 45)).alloc (.cells qbQ 47)) (.cells (qcX A cap D) 45)
  have e2 := heap_alloc_new ((w.alloc (.cells (dskC A cap D) 41)).alloc (.cells zeroV 45)) (.cells qbQ 47)
  have e1 := heap_alloc_new (w.alloc (.cells (dskC A cap D) 41)) (.cells zeroV 45)
  simp only [World.size_alloc] at e1 e2 e3
  exact ⟨(Below.heap_alloc _ _ _ (by simp)).trans ((Below.heap_alloc _ _ _ (by simp)).trans e1),(Below.heap_alloc _ _ _ (by simp)).trans e2,e3,⟨hb0, .inl ⟨rfl,rfl,rfl⟩⟩,nlq,by simp⟩
 have m0 : ((((w.alloc (.cells (dskC A cap D) 41)).alloc (.cells zeroV 45)).alloc (.cells qbQ 47)).alloc (.cells (qcX A cap D) 45)).heap[w.heap.size]? = some (.cells (dskC A cap D) 41) := (Below.heap_alloc _ _ _ (by simp; omega)).trans ((Below.heap_alloc _ _ _ (by simp; omega)).trans ((Below.heap_alloc _ _ _ (by simp)).trans (heap_alloc_new _ _)))
 have hSn := qjq A cap D _ (hR.below hb0 nlq) hG (by omega)
 unfold qfG at hSn
 have hV : Hid (D.openV = if D.snapV.2 ≠ 0 then ((D,D.snapV.2),qN) else if (D.openW nWal).2 ≠ 0 then (D.openW nWal,qN) else qaL (D.openW nWal) D.snapV.1 (D.told nWal).1) := ⟨qky D⟩
 have hsi := qlX D
 generalize D.snapV = sv at *
 obtain ⟨s,es⟩ := sv
 dsimp only at *
 generalize hW0 : ((((w.alloc (.cells (dskC A cap D) 41)).alloc (.cells zeroV 45)).alloc (.cells qbQ 47)).alloc (.cells (qcX A cap D) 45)) = W0 at *
 have HW := Lib.hid hW0
 clear hW0
 obtain ⟨⟨x0,x1,x2,x3,x4⟩,_⟩ := row5 m0
 go_enter Tryz.func13,Tryz.ntmps13
 go_wp2_with fail
 rw [HW.out]
 refine hSn.mono ?_
 rintro e w1 ⟨Bs,bn,bc,rfl,hl1,hc1,hnew1,hb1⟩
 obtain rfl := hl1.1
 have hbS : Below w1.heap.size w1 (w1.alloc (.cells #[.int .i64 s.i, .int .i64 s.t, .slice Bs s.d.length bc] 35)) := blq.alloc nlq _
 have rS : (w1.alloc (.cells #[.int .i64 s.i, .int .i64 s.t, .slice Bs s.d.length bc] 35)).heap[w1.heap.size]? = _ := heap_alloc_new w1 _
 have K1 := (K0.below hb1).below hbS
 have m1 := (hbS.block _ (by have := hlt m0; have := hb1.size; omega)).trans ((hb1.block _ (hlt m0)).trans m0)
 have hlS := hl1.below hbS nlq
 have hnS : 0 < s.d.length -> ∀ q o,Bs = some ⟨q,o,none⟩ -> w.heap.size + 4 <= q := fun h0 q o e => by have := hnew1 h0 q o e; have := K0.hi; omega
 have hBq : 0 < s.d.length -> ∀ q o,Bs = some ⟨q,o,none⟩ -> q < w1.heap.size := fun h0 q o e => by
  obtain ⟨g,off,e2,hg,_⟩ := hl1.2.2.2 h0
  rw [e] at e2
  cases e2
  exact hg
 have hqS : w.heap.size + 4 <= w1.heap.size := by have := K0.hi; have := hb1.size; omega
 clear K0 hb0 m0 hb1 hl1 hnew1 hbS HW hSn x0 x1 x2 x3 x4
 go_upto_region 3 with fail
 generalize (w1.alloc (.cells #[.int .i64 s.i, .int .i64 s.t, .slice Bs s.d.length bc] 35)) = X1 at *
 by_cases hes : es = 0
 · subst hes
   rw [if_neg (by simp)] at hV
   have hOp := qkt A cap D nWal X1 (K1.got.rf hR) hG (by omega) (by decide)
   unfold qcm at hOp
   have hGW := qjx hG nWal
   obtain ⟨hfit,hfew⟩ := qly hG hroom nWal
   generalize D.openW nWal = RW at *
   obtain ⟨D2,e2⟩ := RW
   generalize (D.told nWal).1 = ls at *
   dsimp only at *
   obtain ⟨⟨x0,x1,x2,x3,x4⟩,_⟩ := row5 m1
   go_wp2_with fail
   refine hOp.mono ?_
   rintro e w2 ⟨A2,cap2,nm2,n2,E,len,ecap,ts,rfl,hg2,hgood⟩
   have hbL : Below w2.heap.size w2 (w2.alloc (.cells (logC A2 cap2 D2 nm2 n2) 43)) := blq.alloc nlq _
   have rL := heap_alloc_new w2 (.cells (logC A2 cap2 D2 nm2 n2) 43)
   have hA2 : 0 < D2.l.length -> ∀ a,A2 = some a -> a.block < w2.heap.size := fun h0 a e => by
    obtain ⟨g,off,e2,hg,_⟩ := (hg2.rf (K1.got.rf hR)).2 h0
    rw [e] at e2
    cases e2
    exact hg
   have hgX := hg2.step hbL
   have hzL : w2.heap.size < (w2.alloc (.cells (logC A2 cap2 D2 nm2 n2) 43)).heap.size := by simp
   clear x0 x1 x2 x3 x4 m1 hOp
   go_upto_region 6 with fail
   generalize (w2.alloc (.cells (logC A2 cap2 D2 nm2 n2) 43)) = X2 at *
   have hq1 : w1.heap.size < X1.heap.size := hlt rS
   have hz2 : X1.heap.size <= w2.heap.size := hg2.1.size
   have hlo := K1.lo
   have hhi := K1.hi
   have K3 := K1.disk hgX
   obtain ⟨⟨x0,x1,x2,x3,x4,x5,x6⟩,_⟩ := row7 rL
   obtain ⟨_,⟨f0,f1,f2,f3,f4,f5,f6,f7,f8⟩⟩ := row9 ((hgX.1.block _ (hlt K1.mn)).trans K1.mn)
   have hzn : w.heap.size + 1 + 1 + 1 < X2.heap.size := by omega
   have rS2 := (hgX.1.block _ hq1).trans rS
   have hlS2 := hlS.below hgX.1 nlq
   have hfar : ∀ k,k ≠ w.heap.size + 1 + 1 + 1 -> (((((X2.setCell ⟨w.heap.size + 1 + 1 + 1,0,none⟩ (.int .i64 D2.room)).setCell ⟨w.heap.size + 1 + 1 + 1,1,none⟩ (.slice A2 D2.l.length cap2)).setCell ⟨w.heap.size + 1 + 1 + 1,2,none⟩ (.bool D2.set)).setCell ⟨w.heap.size + 1 + 1 + 1,3,none⟩ (.int .i64 D2.n)).setCell ⟨w.heap.size + 1 + 1 + 1,4,none⟩ (.bool D2.lost)).heap[k]? = X2.heap[k]? := fun k hk => qf _ hk _ _ _ _ _
   have hsz3 : (((((X2.setCell ⟨w.heap.size + 1 + 1 + 1,0,none⟩ (.int .i64 D2.room)).setCell ⟨w.heap.size + 1 + 1 + 1,1,none⟩ (.slice A2 D2.l.length cap2)).setCell ⟨w.heap.size + 1 + 1 + 1,2,none⟩ (.bool D2.set)).setCell ⟨w.heap.size + 1 + 1 + 1,3,none⟩ (.int .i64 D2.n)).setCell ⟨w.heap.size + 1 + 1 + 1,4,none⟩ (.bool D2.lost)).heap.size = X2.heap.size := by simp [World.setCell]
   clear K1 rS hlS
   go_upto_region 7 with fail
   clear f0 f1 f2 f3 f4 f5 f6 f7 f8 x0 x1 x2 x3 x4 x5 x6
   generalize (((((X2.setCell ⟨w.heap.size + 1 + 1 + 1,0,none⟩ (.int .i64 D2.room)).setCell ⟨w.heap.size + 1 + 1 + 1,1,none⟩ (.slice A2 D2.l.length cap2)).setCell ⟨w.heap.size + 1 + 1 + 1,2,none⟩ (.bool D2.set)).setCell ⟨w.heap.size + 1 + 1 + 1,3,none⟩ (.int .i64 D2.n)).setCell ⟨w.heap.size + 1 + 1 + 1,4,none⟩ (.bool D2.lost)) = X3 at *
   have rS3 := (hfar _ (by omega)).trans rS2
   have rL3 := (hfar _ (by omega)).trans rL
   have hlS3 := hlS2.keep (by rw [hsz3]; exact nlq) fun h0 q o e hq => hfar q (by have := hnS h0 q o e; omega)
   clear rS2 rL hlS2
   by_cases he2 : e2 = 0
   · subst he2
     rw [if_neg (by simp)] at hV
     obtain ⟨rfl,rfl,hStr,hts,hnewE⟩ := hgood rfl
     have hStr3 := (hStr.below hbL nlq).keepN hnewE (by rw [hsz3]; exact nlq) fun g h1 h2 => hfar g (by omega)
     have htl : ts.length = ls.length := by rw [<- hts,List.length_map]
     have htlen := hStr.1
     have hRec := qig E len ecap ts X3 hStr3 (by omega) (fun t ht => by
      have := hfit (btl t) (by rw [<- hts]; exact List.mem_map_of_mem ht)
      rwa [qC] at this)
     unfold qdB at hRec
     rw [hts] at hRec
     have hzS3 := hlt rS3
     have hzL3 := hlt rL3
     clear hStr hStr3 hgood hfit hbL hgX hg2 hfar
     cases ht : tells ls with
     | none =>
       rw [ht] at hRec
       dsimp only at hRec
       have HV := Lib.hid (show D.openV = ((D2,2),qN) by rw [hV.out,qju ht])
       go_wp2_with fail
       refine hRec.mono ?_
       rintro e w4 ⟨hb4,rfl⟩
       have K4 := (K3.below hb4).below ((Below.refl w4.heap.size w4).alloc nlq (.cells #[.int .i64 0, .int .i64 0] 32))
       clear K3 hRec hb4 hV rS3 rL3 hlS3
       go_upto_region 10 with fail
       generalize (w4.alloc (.cells #[.int .i64 0, .int .i64 0] 32)) = X4 at *
       have HL := Lib.hid K4
       obtain ⟨⟨a0,a1,a2,a3,a4,a5,a6,a7,a8⟩,_⟩ := row9 HL.out.mn
       obtain ⟨_,⟨d0,d1,d2,d3,d4,d5,d6,d7,d8⟩⟩ := row9 HL.out.mv
       obtain ⟨_,⟨g0,g1,g2,g3,g4,g5⟩⟩ := row6 HL.out.mh
       have hzv := hlt HL.out.mv
       have hzh := hlt HL.out.mh
       clear K4
       go_wp2
       refine bodyPost_ret (qX (n := w.heap.size + 1) (m := w.heap.size + 1 + 1) rfl rfl (HL.out.answer _ _ _ _ _ _ _ _ _ _ _ _ _ _ _).1 rfl (HL.out.answer _ _ _ _ _ _ _ _ _ _ _ _ _ _ _).2.1 Tryz.underlying45 Tryz.underlying47 rfl rfl (by kernel_rfl) (by kernel_rfl)) rfl ?_
       exact qbR (by simp) HV.out (HL.out.answer _ _ _ _ _ _ _ _ _ _ _ _ _ _ _).2.2.1
     | some q =>
       obtain ⟨hq,lq⟩ := q
       rw [ht] at hRec
       dsimp only at hRec
       go_wp2_with fail
       refine hRec.mono ?_
       rintro e w4 ⟨hb4,A4,c4,rfl,hE4,hl4⟩
       have hbH := (Below.refl w4.heap.size w4).alloc nlq (.cells #[.int .i64 hq.t, .int .i64 hq.v] 32)
       have rH := heap_alloc_new w4 (.cells #[.int .i64 hq.t, .int .i64 hq.v] 32)
       have hb34 := hb4.trans (hbH.mono hb4.size)
       have K4 := K3.below hb34
       have rS4 := (hb34.block _ hzS3).trans rS3
       have rL4 := (hb34.block _ hzL3).trans rL3
       have hlS4 := hlS3.below hb34 nlq
       have hEX := hE4.below hbH nlq
       have hz34 : X3.heap.size <= w4.heap.size := hb4.size
       clear K3 hRec hb4 hbH hb34 rS3 rL3 hlS3 hE4
       go_upto_region 10 with fail
       generalize (w4.alloc (.cells #[.int .i64 hq.t, .int .i64 hq.v] 32)) = X4 at *
       have hBh := qhI (X3.heap.size <= ·) A4 lq.length c4 lq s Bs s.d.length bc X4 hEX (fun k hk => by have := hlt rH; omega) (by omega) hsi
       unfold qgQ at hBh
       have hsame := fun h1 h2 => qjw (R := (D2,0)) ht (s := s) h1 h2
       have hreset := fun h1 h2 => qik (R := (D2,0)) ht (s := s) h1 h2
       have hleft := fun h1 => qjv (R := (D2,0)) ht (s := s) h1
       have hlle : (qs s lq).length <= lq.length := (qgj s lq).length_le
       have hrgt : ∀ x ∈ qs s lq,rightE x = true := fun x hx => (qc6 ht).2 x ((qgj s lq).subset hx)
       have hrh := (qc6 ht).1
       generalize qs s lq = out at *
       generalize hrb : runB s.i s.t out = rb at hBh
       obtain ⟨⟨s0,s1,s2⟩,_⟩ := row3 rS4
       go_wp2_with fail
       refine hBh.mono ?_
       rintro e w5 ⟨hb5,A5,c5,rfl,hE5⟩
       have K5 := K4.below hb5
       have rS5 := (hb5.block _ (hlt rS4)).trans rS4
       have rL5 := (hb5.block _ (hlt rL4)).trans rL4
       have rH5 := (hb5.block _ (hlt rH)).trans rH
       have hlS5 := hlS4.below hb5 nlq
       have hz45 : w4.heap.size < w5.heap.size := hlt rH5
       clear K4 rS4 rL4 rH hlS4 hBh hb5 s0 s1 s2 hEX
       cases rb with
       | false =>
         have HV := Lib.hid (show D.openV = ((D2,2),qN) by rw [hV.out,hleft hrb])
         have HL := Lib.hid K5
         obtain ⟨⟨a0,a1,a2,a3,a4,a5,a6,a7,a8⟩,_⟩ := row9 HL.out.mn
         obtain ⟨_,⟨d0,d1,d2,d3,d4,d5,d6,d7,d8⟩⟩ := row9 HL.out.mv
         obtain ⟨_,⟨g0,g1,g2,g3,g4,g5⟩⟩ := row6 HL.out.mh
         have hzv := hlt HL.out.mv
         have hzh := hlt HL.out.mh
         clear K5 hV rS5 rL5 rH5 hlS5 hE5 hsame hreset hleft
         go_wp2
         refine bodyPost_ret (qX (n := w.heap.size + 1) (m := w.heap.size + 1 + 1) rfl rfl (HL.out.answer _ _ _ _ _ _ _ _ _ _ _ _ _ _ _).1 rfl (HL.out.answer _ _ _ _ _ _ _ _ _ _ _ _ _ _ _).2.1 Tryz.underlying45 Tryz.underlying47 rfl rfl (by kernel_rfl) (by kernel_rfl)) rfl ?_
         exact qbR (by simp) HV.out (HL.out.answer _ _ _ _ _ _ _ _ _ _ _ _ _ _ _).2.2.1
       | true =>
         have hrun := hrb
         have hKn := K5
         by_cases hln : out.length = lq.length
         · have HV := Lib.hid (show D.openV = ((D2,0),⟨hq,s,out⟩) by rw [hV.out,hsame hrb hln])
           have hlnb : ((out.length : Int) != (lq.length : Int)) = false := by simp [hln]
           clear hsame hreset hleft hV hKn hln
           have bL := rL5
           have bH := rH5
           have bS := rS5
           have Kd := K5
           have nL1 : w2.heap.size ≠ w.heap.size + 1 := by omega
           have nL2 : w2.heap.size ≠ w.heap.size + 1 + 1 := by omega
           have nH1 : w4.heap.size ≠ w.heap.size + 1 := by omega
           have nH2 : w4.heap.size ≠ w.heap.size + 1 + 1 := by omega
           have nS1 : w1.heap.size ≠ w.heap.size + 1 := by omega
           have nS2 : w1.heap.size ≠ w.heap.size + 1 + 1 := by omega
           have hmv : w5.drew.heap[w.heap.size + 1]? = some (.cells zeroV 45) := Kd.mv
           have hmh : (w5.drew.setRow (w.heap.size + 1) #[.int .i64 D2.room, .slice A2 D2.l.length cap2, .bool D2.set, .int .i64 D2.n, .bool D2.lost, .string nWal, .int .i64 ((len : Nat) : Int), .int .i64 hq.t, .int .i64 hq.v]).heap[w.heap.size + 1 + 1]? = some (.cells qbQ 47) := (setRow_other _ _ _ _ (by omega)).trans Kd.mh
           have hS0 := qbW (X := w5.drew) bL bH bS Kd.mv Kd.mh
           have hSv := qbW (X := (w5.drew.setRow (w.heap.size + 1) #[.int .i64 D2.room, .slice A2 D2.l.length cap2, .bool D2.set, .int .i64 D2.n, .bool D2.lost, .string nWal, .int .i64 ((len : Nat) : Int), .int .i64 hq.t, .int .i64 hq.v])) ((setRow_other _ _ _ _ nL1).trans bL) ((setRow_other _ _ _ _ nH1).trans bH) ((setRow_other _ _ _ _ nS1).trans bS) (setRow_heap _ _ _ _ _ _ Kd.mv) hmh
           obtain ⟨z1,z2,z3,z4,z5⟩ := Kd.rows #[.int .i64 D2.room, .slice A2 D2.l.length cap2, .bool D2.set, .int .i64 D2.n, .bool D2.lost, .string nWal, .int .i64 ((len : Nat) : Int), .int .i64 hq.t, .int .i64 hq.v] #[.int .i64 hq.t, .int .i64 hq.v, .int .i64 s.i, .int .i64 s.t, .slice Bs s.d.length bc, .slice A5 out.length c5]
           have hSvh := qbW (X := ((w5.drew.setRow (w.heap.size + 1) #[.int .i64 D2.room, .slice A2 D2.l.length cap2, .bool D2.set, .int .i64 D2.n, .bool D2.lost, .string nWal, .int .i64 ((len : Nat) : Int), .int .i64 hq.t, .int .i64 hq.v]).setRow (w.heap.size + 1 + 1) #[.int .i64 hq.t, .int .i64 hq.v, .int .i64 s.i, .int .i64 s.t, .slice Bs s.d.length bc, .slice A5 out.length c5])) ((z4 _ nL1 nL2).trans bL) ((z4 _ nH1 nH2).trans bH) ((z4 _ nS1 nS2).trans bS) z1 z2
           have HMV := Lib.hid hmv
           have HMH := Lib.hid hmh
           have HSv := Lib.hid hSv
           have HSvh := Lib.hid hSvh
           have Z := Lib.hid (And.intro z1 (And.intro z2 (And.intro z3 (And.intro z4 z5))))
           have HLS := Lib.hid hlS5
           have HEE := Lib.hid hE5
           clear hmv hmh hSv hSvh z1 z2 z3 z4 z5 K5 hlS5 hE5 Kd bL bH bS
           go_upto_region 20 with fail
           refine wp_region_held_drew (S := (fun w' => w'.cell? ⟨w2.heap.size,0,none⟩ = some (.int .i64 D2.room) /\ w'.cell? ⟨w2.heap.size,1,none⟩ = some (.slice A2 D2.l.length cap2) /\ w'.cell? ⟨w2.heap.size,2,none⟩ = some (.bool D2.set) /\ w'.cell? ⟨w2.heap.size,3,none⟩ = some (.int .i64 D2.n) /\ w'.cell? ⟨w2.heap.size,4,none⟩ = some (.bool D2.lost) /\ w'.cell? ⟨w2.heap.size,5,none⟩ = some (.string nWal) /\ w'.cell? ⟨w2.heap.size,6,none⟩ = some (.int .i64 ((len : Nat) : Int)) /\ w'.cell? ⟨w4.heap.size,0,none⟩ = some (.int .i64 hq.t) /\ w'.cell? ⟨w4.heap.size,1,none⟩ = some (.int .i64 hq.v) /\ w'.cell? ⟨w1.heap.size,0,none⟩ = some (.int .i64 s.i) /\ w'.cell? ⟨w1.heap.size,1,none⟩ = some (.int .i64 s.t) /\ w'.cell? ⟨w1.heap.size,2,none⟩ = some (.slice Bs s.d.length bc) /\ w'.frozen? ⟨w.heap.size + 1,0,none⟩ = false /\ w'.frozen? ⟨w.heap.size + 1,1,none⟩ = false /\ w'.frozen? ⟨w.heap.size + 1,2,none⟩ = false /\ w'.frozen? ⟨w.heap.size + 1,3,none⟩ = false /\ w'.frozen? ⟨w.heap.size + 1,4,none⟩ = false /\ w'.frozen? ⟨w.heap.size + 1,5,none⟩ = false /\ w'.frozen? ⟨w.heap.size + 1,6,none⟩ = false /\ w'.frozen? ⟨w.heap.size + 1,7,none⟩ = false /\ w'.frozen? ⟨w.heap.size + 1,8,none⟩ = false /\ w'.frozen? ⟨w.heap.size + 1 + 1,0,none⟩ = false /\ w'.frozen? ⟨w.heap.size + 1 + 1,1,none⟩ = false /\ w'.frozen? ⟨w.heap.size + 1 + 1,2,none⟩ = false /\ w'.frozen? ⟨w.heap.size + 1 + 1,3,none⟩ = false /\ w'.frozen? ⟨w.heap.size + 1 + 1,4,none⟩ = false /\ w'.frozen? ⟨w.heap.size + 1 + 1,5,none⟩ = false)) (by kernel_rfl) hS0 (fun hHeld => ?_)
           change wpAnyH _ _ _ _ _ 10 #[false,false,false,false,false,false,false,false,false,false] _ _
           refine tkq 0 ⟨some 87, .load 43 (.tmp 8),43, "ref.go:131",#[],none⟩ ?_ ?_ ?_
           rotate_left
           · (intro w h; (try dsimp only at h); go_simp); (try with_reducible rfl)
           try simp only [lpq]
           refine tkq 1 ⟨some 88, .load 32 (.tmp 10),32, "ref.go:131",#[],none⟩ ?_ ?_ ?_
           rotate_left
           · (intro w h; (try dsimp only at h); go_simp); (try with_reducible rfl)
           try simp only [lpq]
           refine tkq 2 ⟨some 89, .build 45 #[(0, .tmp 87),(1, .tmp 88)],45, "ref.go:131",#[⟨0, .data⟩,⟨1, .data⟩],none⟩ ?_ ?_ ?_
           rotate_left
           · (intro w h; (try dsimp only at h); go_simp); (try with_reducible rfl)
           try simp only [lpq]
           refine tkq 3 ⟨some 90, .load 32 (.tmp 10),32, "ref.go:131",#[⟨7, .gcOnly .lateStores⟩],none⟩ ?_ ?_ ?_
           rotate_left
           · (intro w h; (try dsimp only at h); go_simp); (try with_reducible rfl)
           try simp only [lpq]
           refine tkq 4 ⟨some 91, .load 35 (.tmp 6),35, "ref.go:131",#[⟨7, .gcOnly .lateStores⟩],none⟩ ?_ ?_ ?_
           rotate_left
           · (intro w h; (try dsimp only at h); go_simp); (try with_reducible rfl)
           try simp only [lpq]
           refine tkq 5 ⟨some 92, .move (.tmp 13),36, "ref.go:131",#[⟨7, .gcOnly .lateStores⟩],none⟩ ?_ ?_ ?_
           rotate_left
           · (intro w h; (try dsimp only at h); go_simp); (try with_reducible rfl)
           try simp only [lpq]
           refine tkq 6 ⟨some 93, .build 47 #[(0, .tmp 90),(1, .tmp 91),(2, .tmp 92)],47, "ref.go:131",#[⟨3, .data⟩,⟨4, .data⟩,⟨5, .data⟩,⟨7, .gcOnly .lateStores⟩],none⟩ ?_ ?_ ?_
           rotate_left
           · (intro w h; (try dsimp only at h); go_simp); (try with_reducible rfl)
           try simp only [lpq]
           refine wpAnyH_ready (rs := [7]) (by kernel_rfl) (by simp) ?_
           refine AllReadyH.cons rfl (fun KK hK => ?_) AllReadyH.nil
           rw [if_pos (by rfl)]
           refine wp_store_row _ _ _ rfl (w.heap.size + 1) #[.int .i64 D2.room, .slice A2 D2.l.length cap2, .bool D2.set, .int .i64 D2.n, .bool D2.lost, .string nWal, .int .i64 ((len : Nat) : Int), .int .i64 hq.t, .int .i64 hq.v] (by rfl) (by rfl) _ _ HMV.out (by kernel_rfl) rfl (by first | rfl | kernel_rfl | simp [Value.oneCell']) ?_
           refine hK.out _ _ HSv.out (fun hHeld7 => ?_)
           clear hK KK hHeld hS0 HSv HMV
           try simp only [lpq]
           refine wpAnyH_ready (rs := [8]) (by kernel_rfl) (by simp) ?_
           refine AllReadyH.cons rfl (fun KK hK => ?_) AllReadyH.nil
           rw [if_pos (by rfl)]
           refine wp_store_row _ _ _ rfl (w.heap.size + 1 + 1) #[.int .i64 hq.t, .int .i64 hq.v, .int .i64 s.i, .int .i64 s.t, .slice Bs s.d.length bc, .slice A5 out.length c5] (by rfl) (by rfl) _ _ HMH.out (by kernel_rfl) rfl (by first | rfl | kernel_rfl | simp [Value.oneCell']) ?_
           refine hK.out _ _ HSvh.out (fun hHeld8 => ?_)
           clear hK KK hHeld7 HMH HSvh
           try simp only [lpq]
           refine tkq 9 ⟨some 4, .assign (.const (.int .i64 0)),3, "ref.go:131",#[⟨8, .chain⟩,⟨0, .phase⟩,⟨1, .phase⟩,⟨2, .phase⟩,⟨3, .phase⟩,⟨4, .phase⟩,⟨5, .phase⟩,⟨6, .phase⟩,⟨7, .phase⟩,⟨8, .phase⟩],none⟩ ?_ ?_ ?_
           rotate_left
           · (intro w h; (try dsimp only at h); go_simp); (try with_reducible rfl)
           try simp only [lpq]
           refine wpAnyH_done (by kernel_rfl) ?_ _
           clear hHeld8
           generalize ((w5.drew.setRow (w.heap.size + 1) #[.int .i64 D2.room, .slice A2 D2.l.length cap2, .bool D2.set, .int .i64 D2.n, .bool D2.lost, .string nWal, .int .i64 ((len : Nat) : Int), .int .i64 hq.t, .int .i64 hq.v]).setRow (w.heap.size + 1 + 1) #[.int .i64 hq.t, .int .i64 hq.v, .int .i64 s.i, .int .i64 s.t, .slice Bs s.d.length bc, .slice A5 out.length c5]) = XF at *
           all_goals
            go_wp2
            refine bodyPost_ret (qX (n := w.heap.size + 1) (m := w.heap.size + 1 + 1) rfl rfl Z.out.1 rfl Z.out.2.1 Tryz.underlying45 Tryz.underlying47 rfl rfl (by kernel_rfl) (by kernel_rfl)) rfl ?_
            unfold qdC
            rw [HV.out]
            obtain ⟨_,_,o1,o2,o3⟩ := Z.out
            exact ⟨A2,cap2,nWal,((len : Nat) : Int),hq,Bs,s.d.length,bc,A5,out.length,c5,rfl,o1,HLS.out.keep (Nat.le_of_eq o3.symm) (fun h0 q o e _ => o2 q (by have := hnS h0 q o e; omega) (by have := hnS h0 q o e; omega)),(HEE.out.keep (Nat.le_of_eq o3.symm) (fun q _ hz => o2 q (by have : X3.heap.size <= q := hz; omega) (by have : X3.heap.size <= q := hz; omega))).mono (fun q hz => by have : X3.heap.size <= q := hz; show w.heap.size <= q; omega),fun _ => ⟨rfl,rfl,by omega,by omega⟩⟩
         · have hlnb : ((out.length : Int) != (lq.length : Int)) = true := by simp; omega
           have hrs := hreset hrb hln
           try dsimp only at hrs
           clear hsame hreset hleft hKn
           go_upto_region 16 with fail
           obtain ⟨⟨a0,a1,a2,a3,a4,a5,a6⟩,_⟩ := row7 rL5
           obtain ⟨⟨y0,y1⟩,_⟩ := row2 rH5
           have hS17 := fun W => qd2 hq W
           have hEn := fun W (hW : Below w5.heap.size w5 W) => qbb (X3.heap.size <= ·) A5 out.length c5 out W (hE5.below hW nlq) (by omega) (fun e he => by have := ((qaB _ _ _).1 (hrgt e he)).2.2; omega)
           have hRs := fun W (hW : Below w5.heap.size w5 W) E' ecap' (hS : Strs W E' (1 + out.length) ecap' ([hardStr hq] ++ out.map qB)) => qfC A2 cap2 D2 nWal ((len : Nat) : Int) E' (1 + out.length) ecap' ([hardStr hq] ++ out.map qB) W ((K5.got.rf hR).below hW nlq) hGW hS (by omega) (by decide)
           rw [qhL hrh hrgt] at hRs
           have hcntb : ∀ r : Dsk × Nat,0 <= cnt r ((len : Nat) : Int) ((1 + out.length : Nat) : Int) /\ cnt r ((len : Nat) : Int) ((1 + out.length : Nat) : Int) <= 100000 := fun r => by unfold cnt; split <;> omega
           generalize D2.reset nWal (allRecs hq out) = R3 at *
           obtain ⟨D3,e3⟩ := R3
           dsimp only at *
           have HC := Lib.hid (hcntb (D3,e3))
           generalize cnt (D3,e3) ((len : Nat) : Int) ((1 + out.length : Nat) : Int) = N3 at *
           have HV0 := Lib.hid (hV.out.trans hrs)
           clear hcntb hV hrs
           go_cut [7] (fun v wx => v = .int .i64 ((e3 : Nat) : Int) /\ ∃ A3 cap3,RAt w w5 wx w2.heap.size (w.heap.size + 4) A cap D.l A2 cap2 D2 A3 cap3 D3 nWal N3)
           case first =>
            go_region_law (first
             | (go_simp
                go_at_call 48
                refine (hS17 _).mono ?_
                rintro e w12 ⟨rfl,hb12⟩
                have hb12' : Below w5.heap.size w5 w12 := by first | exact hb12 | exact blq.drew.trans hb12
                obtain ⟨⟨p0,p1,p2,p3,p4,p5,p6⟩,_⟩ := row7 ((hb12'.block _ (hlt rL5)).trans rL5)
                have hsz12 := hb12'.size
                have hbX12 := hb12'.alloc hb12'.size (.cells #[.string (hardStr hq)] 9)
                obtain ⟨⟨u90,u91,u92,u93,u94,u95,u96⟩,_⟩ := row7 ((hbX12.block _ (hlt rL5)).trans rL5))
             | (go_simp
                go_at_call 49
                refine (hEn (w12.alloc (.cells #[.string (hardStr hq)] 9)) (hb12'.alloc hb12'.size _)).mono ?_
                rintro e w13 ⟨v13,rfl,hst⟩
                obtain ⟨Ee,ce,rfl⟩ := hst.2.2
                obtain ⟨hnone2,hcell2⟩ := qbh.cells rfl hst
                have hb13 := (hb12'.alloc hb12'.size (.cells #[.string (hardStr hq)] 9)).trans (hst.2.1.mono (by simp; omega))
                have hown13 := qeh (base := w5.heap.size) ((hst.2.1.block w12.heap.size (by simp)).trans (heap_alloc_new w12 _)) hb12'.size
                obtain ⟨⟨q0,q1,q2,q3,q4,q5,q6⟩,_⟩ := row7 ((hb13.block _ (hlt rL5)).trans rL5)
                have hsz13 := hb13.size)
             | (go_simp
                go_at_call 49
                refine (hEn w12 hb12').mono ?_
                rintro e w13 ⟨v13,rfl,hst⟩
                obtain ⟨Ee,ce,rfl⟩ := hst.2.2
                obtain ⟨hnone2,hcell2⟩ := qbh.cells rfl hst
                have hb13 := hb12'.trans (hst.2.1.mono hb12'.size)
                obtain ⟨⟨q0,q1,q2,q3,q4,q5,q6⟩,_⟩ := row7 ((hb13.block _ (hlt rL5)).trans rL5)
                have hsz13 := hb13.size
                have hbX13 := hb13.alloc hb13.size (.cells #[.string (hardStr hq)] 9)
                obtain ⟨⟨u80,u81,u82,u83,u84,u85,u86⟩,_⟩ := row7 ((hbX13.block _ (hlt rL5)).trans rL5))
             | (refine qac _ (by rfl) _ _ (by rfl) w5.heap.size (by first | exact hsz13 | (simp; omega)) (.slice (some ⟨w12.heap.size,0,none⟩) 1 1) 1 (strs [hardStr hq]) (by rfl) hown13 Ee out.length ce (out.map qB) (by rfl) (by rw [List.length_map]) hnone2 (by first | exact hcell2 | exact fun b e j u hu => hcell2 b e j u hu) (by omega) ?_
                intro v14 w14 ho14 hg14 hq14
                have hb14 : Below w5.heap.size w5 w14 := Below.grown hb13 hg14 hsz13 (fun q hq => (hown13.lt q hq).1)
                rw [<- List.map_append] at ho14
                obtain ⟨E14,c14,rfl,hst14⟩ := qbV (by (simp only [List.length_append,List.length_map,List.length_singleton]) <;> omega) ho14
                obtain ⟨⟨t0,t1,t2,t3,t4,t5,t6⟩,_⟩ := row7 ((hb14.block _ (hlt rL5)).trans rL5))
             | (refine qac _ (by rfl) _ _ (by rfl) w5.heap.size (by simp; omega) (.slice (some ⟨w13.heap.size,0,none⟩) 1 1) 1 (strs [hardStr hq]) (by rfl) (qeh (heap_alloc_new w13 _) hsz13) Ee out.length ce (out.map qB) (by rfl) (by rw [List.length_map]) hnone2 (qfI _ hcell2) (by omega) ?_
                intro v14 w14 ho14 hg14 hq14
                have hb14 : Below w5.heap.size w5 w14 := Below.grown (hb13.alloc hb13.size _) hg14 (by simp; omega) (fun q hq => by simp [Value.ownBlock] at hq; omega)
                rw [<- List.map_append] at ho14
                obtain ⟨E14,c14,rfl,hst14⟩ := qbV (by (simp only [List.length_append,List.length_map,List.length_singleton]) <;> omega) ho14
                obtain ⟨⟨t0,t1,t2,t3,t4,t5,t6⟩,_⟩ := row7 ((hb14.block _ (hlt rL5)).trans rL5))
             | (go_simp
                go_at_call 47
                refine (hRs _ (by first | exact hb14 | exact hb14.drew) _ _ (by first | exact hst14 | exact hst14.below blq.drew nlq)).mono ?_
                rintro e w15 ⟨A3,cap3,rfl,hg15⟩
                have hg15' : Got w14 A2 cap2 D2.l w15 A3 cap3 D3.l := by first | exact hg15 | exact ⟨blq.drew.trans hg15.1,hg15.2⟩
                have hz15 : w2.heap.size < w15.heap.size := by have := hlt rL5; have := hb14.size; have := hg15'.1.size; omega
                obtain ⟨_,⟨f0,f1,f2,f3,f4,f5,f6⟩⟩ := row7 ((hg15'.1.block _ (Nat.lt_of_lt_of_le (hlt rL5) hb14.size)).trans ((hb14.block _ (hlt rL5)).trans rL5))))
            all_goals
             have Ky := Lib.hid (K5.reset hb14 hg15' (p := w2.heap.size) (by omega) rL5 hA2 nWal N3)
             clear hEn hRs hS17 hg15 hg15' hb14 hst14 ho14 hg14 hq14 hb13 hst hnone2 hcell2 hb12 hb12'
             go_wp2
             go_meet
             exact ⟨rfl,A3,cap3,Ky.out⟩
           case rest =>
            obtain ⟨rfl,A3,cap3,hR3⟩ := hcut
            clear hEn hRs hS17 a0 a1 a2 a3 a4 a5 a6 y0 y1
            obtain ⟨⟨x0,x1,x2,x3,x4,x5,x6⟩,_⟩ := row7 hR3.lg
            obtain ⟨_,⟨f0,f1,f2,f3,f4,f5,f6,f7,f8⟩⟩ := row9 hR3.mn
            have hzn3 := hlt hR3.mn
            have K6 := hR3.wrap
            have far6 : ∀ k,k ≠ w.heap.size + 1 + 1 + 1 -> (((((wc.setCell ⟨w.heap.size + 1 + 1 + 1,0,none⟩ (.int .i64 D3.room)).setCell ⟨w.heap.size + 1 + 1 + 1,1,none⟩ (.slice A3 D3.l.length cap3)).setCell ⟨w.heap.size + 1 + 1 + 1,2,none⟩ (.bool D3.set)).setCell ⟨w.heap.size + 1 + 1 + 1,3,none⟩ (.int .i64 D3.n)).setCell ⟨w.heap.size + 1 + 1 + 1,4,none⟩ (.bool D3.lost)).heap[k]? = wc.heap[k]? := fun k hk => qf _ hk _ _ _ _ _
            have sz6 : (((((wc.setCell ⟨w.heap.size + 1 + 1 + 1,0,none⟩ (.int .i64 D3.room)).setCell ⟨w.heap.size + 1 + 1 + 1,1,none⟩ (.slice A3 D3.l.length cap3)).setCell ⟨w.heap.size + 1 + 1 + 1,2,none⟩ (.bool D3.set)).setCell ⟨w.heap.size + 1 + 1 + 1,3,none⟩ (.int .i64 D3.n)).setCell ⟨w.heap.size + 1 + 1 + 1,4,none⟩ (.bool D3.lost)).heap.size = wc.heap.size := by simp [World.setCell]
            have rL6 := (far6 _ (by omega)).trans hR3.lg
            have rH6 := (far6 _ (by omega)).trans ((hR3.far w4.heap.size (by omega) (hlt rH5)).trans rH5)
            have rS6 := (far6 _ (by omega)).trans ((hR3.far w1.heap.size (by omega) (hlt rS5)).trans rS5)
            have hlS6 := hlS5.keep (by rw [sz6]; exact hR3.sz) fun h0 q o e hq => (far6 q (by have := hnS h0 q o e; omega)).trans (hR3.far q (by have := hBq h0 q o e; omega) hq)
            have hE6 := hE5.keep (by rw [sz6]; exact hR3.sz) fun q hq hz => (far6 q (by have : X3.heap.size <= q := hz; omega)).trans (hR3.far q (by have : X3.heap.size <= q := hz; omega) hq)
            clear K5 rL5 rH5 rS5 hlS5 hE5 hR3
            go_upto_region 18 with fail
            generalize (((((wc.setCell ⟨w.heap.size + 1 + 1 + 1,0,none⟩ (.int .i64 D3.room)).setCell ⟨w.heap.size + 1 + 1 + 1,1,none⟩ (.slice A3 D3.l.length cap3)).setCell ⟨w.heap.size + 1 + 1 + 1,2,none⟩ (.bool D3.set)).setCell ⟨w.heap.size + 1 + 1 + 1,3,none⟩ (.int .i64 D3.n)).setCell ⟨w.heap.size + 1 + 1 + 1,4,none⟩ (.bool D3.lost)) = X6 at *
            clear x0 x1 x2 x3 x4 x5 x6 f0 f1 f2 f3 f4 f5 f6 f7 f8 far6 sz6 hzn3
            by_cases he3 : e3 = 0
            · subst he3
              have HV := Lib.hid (show D.openV = ((D3,0),⟨hq,s,out⟩) by rw [HV0.out,if_neg (by simp)])
              clear HV0
              have bL := rL6
              have bH := rH6
              have bS := rS6
              have Kd := K6
              have nL1 : w2.heap.size ≠ w.heap.size + 1 := by omega
              have nL2 : w2.heap.size ≠ w.heap.size + 1 + 1 := by omega
              have nH1 : w4.heap.size ≠ w.heap.size + 1 := by omega
              have nH2 : w4.heap.size ≠ w.heap.size + 1 + 1 := by omega
              have nS1 : w1.heap.size ≠ w.heap.size + 1 := by omega
              have nS2 : w1.heap.size ≠ w.heap.size + 1 + 1 := by omega
              have hmv : X6.drew.heap[w.heap.size + 1]? = some (.cells zeroV 45) := Kd.mv
              have hmh : (X6.drew.setRow (w.heap.size + 1) #[.int .i64 D3.room, .slice A3 D3.l.length cap3, .bool D3.set, .int .i64 D3.n, .bool D3.lost, .string nWal, .int .i64 N3, .int .i64 hq.t, .int .i64 hq.v]).heap[w.heap.size + 1 + 1]? = some (.cells qbQ 47) := (setRow_other _ _ _ _ (by omega)).trans Kd.mh
              have hS0 := qbW (X := X6.drew) bL bH bS Kd.mv Kd.mh
              have hSv := qbW (X := (X6.drew.setRow (w.heap.size + 1) #[.int .i64 D3.room, .slice A3 D3.l.length cap3, .bool D3.set, .int .i64 D3.n, .bool D3.lost, .string nWal, .int .i64 N3, .int .i64 hq.t, .int .i64 hq.v])) ((setRow_other _ _ _ _ nL1).trans bL) ((setRow_other _ _ _ _ nH1).trans bH) ((setRow_other _ _ _ _ nS1).trans bS) (setRow_heap _ _ _ _ _ _ Kd.mv) hmh
              obtain ⟨z1,z2,z3,z4,z5⟩ := Kd.rows #[.int .i64 D3.room, .slice A3 D3.l.length cap3, .bool D3.set, .int .i64 D3.n, .bool D3.lost, .string nWal, .int .i64 N3, .int .i64 hq.t, .int .i64 hq.v] #[.int .i64 hq.t, .int .i64 hq.v, .int .i64 s.i, .int .i64 s.t, .slice Bs s.d.length bc, .slice A5 out.length c5]
              have hSvh := qbW (X := ((X6.drew.setRow (w.heap.size + 1) #[.int .i64 D3.room, .slice A3 D3.l.length cap3, .bool D3.set, .int .i64 D3.n, .bool D3.lost, .string nWal, .int .i64 N3, .int .i64 hq.t, .int .i64 hq.v]).setRow (w.heap.size + 1 + 1) #[.int .i64 hq.t, .int .i64 hq.v, .int .i64 s.i, .int .i64 s.t, .slice Bs s.d.length bc, .slice A5 out.length c5])) ((z4 _ nL1 nL2).trans bL) ((z4 _ nH1 nH2).trans bH) ((z4 _ nS1 nS2).trans bS) z1 z2
              have HMV := Lib.hid hmv
              have HMH := Lib.hid hmh
              have HSv := Lib.hid hSv
              have HSvh := Lib.hid hSvh
              have Z := Lib.hid (And.intro z1 (And.intro z2 (And.intro z3 (And.intro z4 z5))))
              have HLS := Lib.hid hlS6
              have HEE := Lib.hid hE6
              clear hmv hmh hSv hSvh z1 z2 z3 z4 z5 K6 hlS6 hE6 Kd bL bH bS
              go_upto_region 20 with fail
              refine wp_region_held_drew (S := (fun w' => w'.cell? ⟨w2.heap.size,0,none⟩ = some (.int .i64 D3.room) /\ w'.cell? ⟨w2.heap.size,1,none⟩ = some (.slice A3 D3.l.length cap3) /\ w'.cell? ⟨w2.heap.size,2,none⟩ = some (.bool D3.set) /\ w'.cell? ⟨w2.heap.size,3,none⟩ = some (.int .i64 D3.n) /\ w'.cell? ⟨w2.heap.size,4,none⟩ = some (.bool D3.lost) /\ w'.cell? ⟨w2.heap.size,5,none⟩ = some (.string nWal) /\ w'.cell? ⟨w2.heap.size,6,none⟩ = some (.int .i64 N3) /\ w'.cell? ⟨w4.heap.size,0,none⟩ = some (.int .i64 hq.t) /\ w'.cell? ⟨w4.heap.size,1,none⟩ = some (.int .i64 hq.v) /\ w'.cell? ⟨w1.heap.size,0,none⟩ = some (.int .i64 s.i) /\ w'.cell? ⟨w1.heap.size,1,none⟩ = some (.int .i64 s.t) /\ w'.cell? ⟨w1.heap.size,2,none⟩ = some (.slice Bs s.d.length bc) /\ w'.frozen? ⟨w.heap.size + 1,0,none⟩ = false /\ w'.frozen? ⟨w.heap.size + 1,1,none⟩ = false /\ w'.frozen? ⟨w.heap.size + 1,2,none⟩ = false /\ w'.frozen? ⟨w.heap.size + 1,3,none⟩ = false /\ w'.frozen? ⟨w.heap.size + 1,4,none⟩ = false /\ w'.frozen? ⟨w.heap.size + 1,5,none⟩ = false /\ w'.frozen? ⟨w.heap.size + 1,6,none⟩ = false /\ w'.frozen? ⟨w.heap.size + 1,7,none⟩ = false /\ w'.frozen? ⟨w.heap.size + 1,8,none⟩ = false /\ w'.frozen? ⟨w.heap.size + 1 + 1,0,none⟩ = false /\ w'.frozen? ⟨w.heap.size + 1 + 1,1,none⟩ = false /\ w'.frozen? ⟨w.heap.size + 1 + 1,2,none⟩ = false /\ w'.frozen? ⟨w.heap.size + 1 + 1,3,none⟩ = false /\ w'.frozen? ⟨w.heap.size + 1 + 1,4,none⟩ = false /\ w'.frozen? ⟨w.heap.size + 1 + 1,5,none⟩ = false)) (by kernel_rfl) hS0 (fun hHeld => ?_)
              change wpAnyH _ _ _ _ _ 10 #[false,false,false,false,false,false,false,false,false,false] _ _
              refine tkq 0 ⟨some 87, .load 43 (.tmp 8),43, "ref.go:131",#[],none⟩ ?_ ?_ ?_
              rotate_left
              · (intro w h; (try dsimp only at h); go_simp); (try with_reducible rfl)
              try simp only [lpq]
              refine tkq 1 ⟨some 88, .load 32 (.tmp 10),32, "ref.go:131",#[],none⟩ ?_ ?_ ?_
              rotate_left
              · (intro w h; (try dsimp only at h); go_simp); (try with_reducible rfl)
              try simp only [lpq]
              refine tkq 2 ⟨some 89, .build 45 #[(0, .tmp 87),(1, .tmp 88)],45, "ref.go:131",#[⟨0, .data⟩,⟨1, .data⟩],none⟩ ?_ ?_ ?_
              rotate_left
              · (intro w h; (try dsimp only at h); go_simp); (try with_reducible rfl)
              try simp only [lpq]
              refine tkq 3 ⟨some 90, .load 32 (.tmp 10),32, "ref.go:131",#[⟨7, .gcOnly .lateStores⟩],none⟩ ?_ ?_ ?_
              rotate_left
              · (intro w h; (try dsimp only at h); go_simp); (try with_reducible rfl)
              try simp only [lpq]
              refine tkq 4 ⟨some 91, .load 35 (.tmp 6),35, "ref.go:131",#[⟨7, .gcOnly .lateStores⟩],none⟩ ?_ ?_ ?_
              rotate_left
              · (intro w h; (try dsimp only at h); go_simp); (try with_reducible rfl)
              try simp only [lpq]
              refine tkq 5 ⟨some 92, .move (.tmp 13),36, "ref.go:131",#[⟨7, .gcOnly .lateStores⟩],none⟩ ?_ ?_ ?_
              rotate_left
              · (intro w h; (try dsimp only at h); go_simp); (try with_reducible rfl)
              try simp only [lpq]
              refine tkq 6 ⟨some 93, .build 47 #[(0, .tmp 90),(1, .tmp 91),(2, .tmp 92)],47, "ref.go:131",#[⟨3, .data⟩,⟨4, .data⟩,⟨5, .data⟩,⟨7, .gcOnly .lateStores⟩],none⟩ ?_ ?_ ?_
              rotate_left
              · (intro w h; (try dsimp only at h); go_simp); (try with_reducible rfl)
              try simp only [lpq]
              refine wpAnyH_ready (rs := [7]) (by kernel_rfl) (by simp) ?_
              refine AllReadyH.cons rfl (fun KK hK => ?_) AllReadyH.nil
              rw [if_pos (by rfl)]
              refine wp_store_row _ _ _ rfl (w.heap.size + 1) #[.int .i64 D3.room, .slice A3 D3.l.length cap3, .bool D3.set, .int .i64 D3.n, .bool D3.lost, .string nWal, .int .i64 N3, .int .i64 hq.t, .int .i64 hq.v] (by rfl) (by rfl) _ _ HMV.out (by kernel_rfl) rfl (by first | rfl | kernel_rfl | simp [Value.oneCell']) ?_
              refine hK.out _ _ HSv.out (fun hHeld7 => ?_)
              clear hK KK hHeld hS0 HSv HMV
              try simp only [lpq]
              refine wpAnyH_ready (rs := [8]) (by kernel_rfl) (by simp) ?_
              refine AllReadyH.cons rfl (fun KK hK => ?_) AllReadyH.nil
              rw [if_pos (by rfl)]
              refine wp_store_row _ _ _ rfl (w.heap.size + 1 + 1) #[.int .i64 hq.t, .int .i64 hq.v, .int .i64 s.i, .int .i64 s.t, .slice Bs s.d.length bc, .slice A5 out.length c5] (by rfl) (by rfl) _ _ HMH.out (by kernel_rfl) rfl (by first | rfl | kernel_rfl | simp [Value.oneCell']) ?_
              refine hK.out _ _ HSvh.out (fun hHeld8 => ?_)
              clear hK KK hHeld7 HMH HSvh
              try simp only [lpq]
              refine tkq 9 ⟨some 4, .assign (.const (.int .i64 0)),3, "ref.go:131",#[⟨8, .chain⟩,⟨0, .phase⟩,⟨1, .phase⟩,⟨2, .phase⟩,⟨3, .phase⟩,⟨4, .phase⟩,⟨5, .phase⟩,⟨6, .phase⟩,⟨7, .phase⟩,⟨8, .phase⟩],none⟩ ?_ ?_ ?_
              rotate_left
              · (intro w h; (try dsimp only at h); go_simp); (try with_reducible rfl)
              try simp only [lpq]
              refine wpAnyH_done (by kernel_rfl) ?_ _
              clear hHeld8
              generalize ((X6.drew.setRow (w.heap.size + 1) #[.int .i64 D3.room, .slice A3 D3.l.length cap3, .bool D3.set, .int .i64 D3.n, .bool D3.lost, .string nWal, .int .i64 N3, .int .i64 hq.t, .int .i64 hq.v]).setRow (w.heap.size + 1 + 1) #[.int .i64 hq.t, .int .i64 hq.v, .int .i64 s.i, .int .i64 s.t, .slice Bs s.d.length bc, .slice A5 out.length c5]) = XF at *
              all_goals
               go_wp2
               refine bodyPost_ret (qX (n := w.heap.size + 1) (m := w.heap.size + 1 + 1) rfl rfl Z.out.1 rfl Z.out.2.1 Tryz.underlying45 Tryz.underlying47 rfl rfl (by kernel_rfl) (by kernel_rfl)) rfl ?_
               unfold qdC
               rw [HV.out]
               obtain ⟨_,_,o1,o2,o3⟩ := Z.out
               exact ⟨A3,cap3,nWal,N3,hq,Bs,s.d.length,bc,A5,out.length,c5,rfl,o1,HLS.out.keep (Nat.le_of_eq o3.symm) (fun h0 q o e _ => o2 q (by have := hnS h0 q o e; omega) (by have := hnS h0 q o e; omega)),(HEE.out.keep (Nat.le_of_eq o3.symm) (fun q _ hz => o2 q (by have : X3.heap.size <= q := hz; omega) (by have : X3.heap.size <= q := hz; omega))).mono (fun q hz => by have : X3.heap.size <= q := hz; show w.heap.size <= q; omega),fun _ => ⟨rfl,rfl,HC.out.1,HC.out.2⟩⟩
            · have he3b : ((e3 : Int) != 0) = true := by simp; omega
              have HV := Lib.hid (show D.openV = ((D3,e3),qN) by rw [HV0.out,if_pos he3])
              have HL := Lib.hid K6
              obtain ⟨⟨a0,a1,a2,a3,a4,a5,a6,a7,a8⟩,_⟩ := row9 HL.out.mn
              obtain ⟨_,⟨d0,d1,d2,d3,d4,d5,d6,d7,d8⟩⟩ := row9 HL.out.mv
              obtain ⟨_,⟨g0,g1,g2,g3,g4,g5⟩⟩ := row6 HL.out.mh
              have hzv := hlt HL.out.mv
              have hzh := hlt HL.out.mh
              clear K6 HV0 rL6 rH6 rS6 hlS6 hE6
              go_wp2
              refine bodyPost_ret (qX (n := w.heap.size + 1) (m := w.heap.size + 1 + 1) rfl rfl (HL.out.answer _ _ _ _ _ _ _ _ _ _ _ _ _ _ _).1 rfl (HL.out.answer _ _ _ _ _ _ _ _ _ _ _ _ _ _ _).2.1 Tryz.underlying45 Tryz.underlying47 rfl rfl (by kernel_rfl) (by kernel_rfl)) rfl ?_
              exact qbR (by exact he3) HV.out (HL.out.answer _ _ _ _ _ _ _ _ _ _ _ _ _ _ _).2.2.1
   · have he2b : ((e2 : Int) != 0) = true := by simp; omega
     rw [if_pos he2] at hV
     have HV := Lib.hid hV.out
     have HL := Lib.hid K3
     obtain ⟨⟨a0,a1,a2,a3,a4,a5,a6,a7,a8⟩,_⟩ := row9 HL.out.mn
     obtain ⟨_,⟨d0,d1,d2,d3,d4,d5,d6,d7,d8⟩⟩ := row9 HL.out.mv
     obtain ⟨_,⟨g0,g1,g2,g3,g4,g5⟩⟩ := row6 HL.out.mh
     have hzv := hlt HL.out.mv
     have hzh := hlt HL.out.mh
     clear K3 hV rS3 rL3 hlS3 hgood hfar hgX hg2
     go_wp2
     refine bodyPost_ret (qX (n := w.heap.size + 1) (m := w.heap.size + 1 + 1) rfl rfl (HL.out.answer _ _ _ _ _ _ _ _ _ _ _ _ _ _ _).1 rfl (HL.out.answer _ _ _ _ _ _ _ _ _ _ _ _ _ _ _).2.1 Tryz.underlying45 Tryz.underlying47 rfl rfl (by kernel_rfl) (by kernel_rfl)) rfl ?_
     exact qbR (by exact he2) HV.out (HL.out.answer _ _ _ _ _ _ _ _ _ _ _ _ _ _ _).2.2.1
 · have hesb : ((es : Int) != 0) = true := by simp; omega
   rw [if_pos hes] at hV
   have HV := Lib.hid hV.out
   have HL := Lib.hid K1
   obtain ⟨⟨a0,a1,a2,a3,a4,a5,a6,a7,a8⟩,_⟩ := row9 HL.out.mn
   obtain ⟨_,⟨d0,d1,d2,d3,d4,d5,d6,d7,d8⟩⟩ := row9 HL.out.mv
   obtain ⟨_,⟨g0,g1,g2,g3,g4,g5⟩⟩ := row6 HL.out.mh
   have hzv := hlt HL.out.mv
   have hzh := hlt HL.out.mh
   clear K1 hV rS hlS m1
   go_wp2
   refine bodyPost_ret (qX (n := w.heap.size + 1) (m := w.heap.size + 1 + 1) rfl rfl (HL.out.answer _ _ _ _ _ _ _ _ _ _ _ _ _ _ _).1 rfl (HL.out.answer _ _ _ _ _ _ _ _ _ _ _ _ _ _ _).2.1 Tryz.underlying45 Tryz.underlying47 rfl rfl (by kernel_rfl) (by kernel_rfl)) rfl ?_
   exact qbR (by exact hes) HV.out (HL.out.answer _ _ _ _ _ _ _ _ _ _ _ _ _ _ _).2.2.1
end Go.Proofs.YtmeoooojmhhahaaGreat
