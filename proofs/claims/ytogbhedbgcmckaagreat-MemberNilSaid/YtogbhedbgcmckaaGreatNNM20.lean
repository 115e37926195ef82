/- The program's Open, by its contract. (Written by mkpo.py.) -/
import Derived.Test.YtogbhedbgcmckaaGreatNNM01
import Derived.Test.YtogbhedbgcmckaaGreatNNM19
import Derived.Laws.CopyOwn
set_option linter.unusedVariables false
set_option linter.unusedSimpArgs false
set_option maxRecDepth 100000
set_option maxHeartbeats 16000000
namespace Go.Proofs.YtogbhedbgcmckaaGreat
open Go.RowKit
structure OAt (w W : World) (d : Nat) (D : Dsk) (Z Z2 : Nat -> Prop) : Prop where
 r0 : W.heap[w.heap.size]? = some (.cells #[.int .i64 0, .int .i64 0] 54)
 r1 : W.heap[w.heap.size + 1]? = some (.cells #[.int .i64 0, .int .i64 0, .slice none 0 0] 25)
 dk : Dk W d D Z2
 kp : qa Z w W
 old : ∀ k,Z k -> k < w.heap.size
 z0 : Z2 w.heap.size
 z1 : Z2 (w.heap.size + 1)
 zz : ∀ k,Z k -> Z2 k
section
variable {w W X : World} {d : Nat} {D D' : Dsk} {Z Z2 Z3 : Nat → Prop}
theorem OAt.mk0 (h : Dk w d D Z) (hb : Below w.heap.size w W) (r0 : W.heap[w.heap.size]? = some (.cells #[.int .i64 0, .int .i64 0] 54)) (r1 : W.heap[w.heap.size + 1]? = some (.cells #[.int .i64 0, .int .i64 0, .slice none 0 0] 25)) :
 OAt w W d D Z (fun k => Z k \/ w.heap.size <= k /\ k < W.heap.size) :=
 ⟨r0,r1,h.wide hb,qb hb (Nat.le_refl _),h.old, .inr ⟨Nat.le_refl _,hlt r0⟩, .inr ⟨Nat.le_succ _,hlt r1⟩,fun k hk => .inl hk⟩
theorem OAt.below (o : OAt w W d D Z Z2) (hb : Below W.heap.size W X) : OAt w X d D Z Z2 :=
 ⟨(hb.block _ (hlt o.r0)).trans o.r0,(hb.block _ (hlt o.r1)).trans o.r1,o.dk.below hb,o.kp.trans (qb hb (Nat.le_refl _)),o.old,o.z0,o.z1,o.zz⟩
theorem OAt.did (o : OAt w W d D Z Z2) (hd : Did W X d D' Z2) : OAt w X d D' Z Z2 :=
 ⟨(hd.2.block _ (hlt o.r0) o.z0).trans o.r0,(hd.2.block _ (hlt o.r1) o.z1).trans o.r1,hd.1,o.kp.trans (hd.2.mono o.zz),o.old,o.z0,o.z1,o.zz⟩
theorem OAt.next (o : OAt w W d D Z Z2) (hk : qa Z2 W X) (hd : Dk X d D' Z3) (hz : ∀ k,Z2 k -> Z3 k) : OAt w X d D' Z Z3 :=
 ⟨(hk.block _ (hlt o.r0) o.z0).trans o.r0,(hk.block _ (hlt o.r1) o.z1).trans o.r1,hd,o.kp.trans (hk.mono o.zz),o.old,hz _ o.z0,hz _ o.z1,fun k h => hz k (o.zz k h)⟩
theorem OAt.two (o : OAt w W d D Z Z2) (u0 u1 v0 v1 v2 : Value) :
 qH W (((((W.setCell ⟨w.heap.size,0,none⟩ u0).setCell ⟨w.heap.size,1,none⟩ u1).setCell ⟨w.heap.size + 1,0,none⟩ v0).setCell ⟨w.heap.size + 1,1,none⟩ v1).setCell ⟨w.heap.size + 1,2,none⟩ v2) w.heap.size (w.heap.size + 1) #[u0,u1] #[v0,v1,v2] 54 25 :=
 qkt W (by omega) o.r0 o.r1 u0 u1 v0 v1 v2
theorem OAt.refuse (o : OAt w W d D Z Z2) {C1 C2 : Array Value} {T1 T2 : TypeId} (h : qH W X w.heap.size (w.heap.size + 1) C1 C2 T1 T2) : Did w X d D Z :=
 qhF (fun k hk => ⟨by have := o.old k hk; omega,by have := o.old k hk; omega⟩) o.dk o.z0 o.z1 o.zz o.kp h
end
theorem qdO (W : World) {a : Nat} {O0 O1 : Array Value} {T1 T2 : TypeId} (h0 : W.heap[a]? = some (.cells O0 T1)) (h1 : W.heap[a + 1]? = some (.cells O1 T2)) (c0 c1 : Array Value) : qH W ((W.drew.setRow a c0).setRow (a + 1) c1) a (a + 1) c0 c1 T1 T2 := by
 have hb : Below 0 W ((W.drew.setRow a c0).setRow (a + 1) c1) := below_setRow (below_setRow (Below.refl _ _).drew (Nat.zero_le _) _) (Nat.zero_le _) _;exact ⟨(setRow_other _ _ _ _ (by omega)).trans (setRow_heap W.drew _ _ _ _ _ h0),setRow_heap _ _ _ _ _ _ ((setRow_other _ _ _ _ (by omega)).trans h1),fun k k1 k2 => (setRow_other _ _ _ _ k2).trans (setRow_other _ _ _ _ k1),by rw [setRow_size,setRow_size]; rfl,hb.os,hb.tape,hb.output⟩
theorem qaX {X : World} {pt ps p0 p1 : Nat} {a0 a1 a2 b0 b1 b2 c0 c1 d0 d1 d2 : Value} {T1 T2 T3 T4 : TypeId}
 (rt : X.heap[pt]? = some (.cells #[a0,a1,a2] T1)) (rs : X.heap[ps]? = some (.cells #[b0,b1,b2] T2)) (r0 : X.heap[p0]? = some (.cells #[c0,c1] T3)) (r1 : X.heap[p1]? = some (.cells #[d0,d1,d2] T4)) :
 X.cell? ⟨pt,0,none⟩ = some a0 /\ X.cell? ⟨pt,1,none⟩ = some a1 /\ X.cell? ⟨ps,0,none⟩ = some b0 /\ X.cell? ⟨ps,1,none⟩ = some b1 /\ X.cell? ⟨ps,2,none⟩ = some b2 ∧
 X.frozen? ⟨p0,0,none⟩ = false /\ X.frozen? ⟨p0,1,none⟩ = false /\ X.frozen? ⟨p1,0,none⟩ = false /\ X.frozen? ⟨p1,1,none⟩ = false /\ X.frozen? ⟨p1,2,none⟩ = false := by
 obtain ⟨⟨x0,x1,x2⟩,_⟩ := row3 rt;obtain ⟨⟨y0,y1,y2⟩,_⟩ := row3 rs;obtain ⟨_,⟨f0,f1⟩⟩ := row2 r0;obtain ⟨_,⟨g0,g1,g2⟩⟩ := row3 r1;exact ⟨x0,x1,y0,y1,y2,f0,f1,g0,g1,g2⟩
structure FAt (w W : World) (d : Nat) (D : Dsk) (v j : Nat) (hq : Hd) (s : Ent) (n : Int) (Z Z7 : Nat -> Prop) (sb tb : Nat) (B : Option Addr) (bc : Nat) (A : Option Addr) (c : Nat) (out : List Ent) (x : Value) : Prop where
 o : OAt w W d D Z Z7
 vt : Vt W v j d D hq n Z7
 num : 0 <= n /\ n <= 20001
 nj : ∀ k,(Z k \/ k = w.heap.size \/ k = w.heap.size + 1) -> k ≠ j /\ k ≠ v
 rs : W.heap[sb]? = some (.cells #[.int .i64 s.i, .int .i64 s.t, .slice B s.d.length bc] 25)
 rt : W.heap[tb]? = some (.cells #[.int .i64 hq.t, .int .i64 hq.v,x] 131)
 hsb : w.heap.size + 2 <= sb
 htb : w.heap.size + 2 <= tb
 bs : Z7 sb /\ sb ≠ j /\ sb ≠ v
 bt : Z7 tb /\ tb ≠ j /\ tb ≠ v
 lies : Lies W B s.d.length bc s.d
 lz : 0 < s.d.length -> ∀ g off,B = some ⟨g,off,none⟩ -> Z7 g /\ g ≠ j /\ g ≠ v /\ w.heap.size + 2 <= g
 ents : qr W (fun k => Z7 k /\ k ≠ j /\ k ≠ v /\ w.heap.size + 2 <= k) A out.length c out
theorem FAt.fin {w W X : World} {d : Nat} {D : Dsk} {v j : Nat} {hq : Hd} {s : Ent} {n : Int} {Z Z7 : Nat -> Prop} {sb tb : Nat} {B : Option Addr} {bc : Nat} {A : Option Addr} {c : Nat} {out : List Ent} {x : Value} {C1 C2 : Array Value} {T1 T2 : TypeId}
 (f : FAt w W d D v j hq s n Z Z7 sb tb B bc A c out x) (h : qH W X w.heap.size (w.heap.size + 1) C1 C2 T1 T2) : Opd w X d D v j ⟨hq,s,out⟩ n Z Z7 B bc A c := by
 obtain ⟨j0,v0⟩ := f.nj _ (.inr (.inl rfl));obtain ⟨j1,v1⟩ := f.nj _ (.inr (.inr rfl))
 have hz : ∀ k,¬ Z7 k -> k ≠ w.heap.size /\ k ≠ w.heap.size + 1 := fun k hk => ⟨fun e => hk (e ▸ f.o.z0),fun e => hk (e ▸ f.o.z1)⟩
 refine ⟨⟨(h.far _ v0.symm v1.symm).trans f.vt.box,⟨(h.far _ j0.symm j1.symm).trans f.vt.lg.box,f.vt.lg.dk.keep (Nat.le_of_eq h.size.symm) fun k _ hk => h.far k (hz k hk).1 (hz k hk).2,f.vt.lg.own⟩,f.vt.own,f.vt.ne⟩,f.num,fun k hk => ⟨f.o.zz k hk,f.nj k (.inl hk)⟩,?_,?_,?_,?_⟩
 · exact f.lies.keep (Nat.le_of_eq h.size.symm) fun h0 q o e _ => by
    obtain ⟨_,_,_,q1⟩ := f.lz h0 q o e;exact h.far q (by omega) (by omega)
 · intro h0 g off e;obtain ⟨q1,q2,q3,q4⟩ := f.lz h0 g off e;exact ⟨q1,q2,q3,by omega⟩
 · refine (f.ents.keep (Nat.le_of_eq h.size.symm) fun k _ hk => ?_).mono fun k hk => ⟨hk.1,hk.2.1,hk.2.2.1,by omega⟩
   exact h.far k (by omega) (by omega)
 · exact f.o.kp.trans (h.keeps (fun hz => by have := f.o.old _ hz; omega) (fun hz => by have := f.o.old _ hz; omega))
theorem FAt.reset {w W X : World} {d : Nat} {D D' : Dsk} {v j : Nat} {hq : Hd} {s : Ent} {n n' : Int} {Z Z7 : Nat -> Prop} {sb tb : Nat} {B : Option Addr} {bc : Nat} {A : Option Addr} {c : Nat} {out : List Ent} {x : Value}
 (f : FAt w W d D v j hq s n Z Z7 sb tb B bc A c out x) (h : VDid W X v j d D' hq n' Z7) (hn : 0 <= n' /\ n' <= 20001) : FAt w X d D' v j hq s n' Z Z7 sb tb B bc A c out x := by
 refine ⟨⟨(h.2.block _ (hlt f.o.r0) ⟨f.o.z0,f.nj _ (.inr (.inl rfl))⟩).trans f.o.r0,(h.2.block _ (hlt f.o.r1) ⟨f.o.z1,f.nj _ (.inr (.inr rfl))⟩).trans f.o.r1,h.1.lg.dk,f.o.kp.trans (h.2.mono fun k hk => ⟨f.o.zz k hk,f.nj k (.inl hk)⟩),f.o.old,f.o.z0,f.o.z1,f.o.zz⟩,h.1,hn,f.nj,(h.2.block _ (hlt f.rs) f.bs).trans f.rs,(h.2.block _ (hlt f.rt) f.bt).trans f.rt,f.hsb,f.htb,f.bs,f.bt,f.lies.keeps h.2 (fun h0 g off e => ?_),f.lz,f.ents.keep h.2.size fun k hk hz => h.2.block k hk ⟨hz.1,hz.2.1,hz.2.2.1⟩⟩;obtain ⟨q1,q2,q3,_⟩ := f.lz h0 g off e;exact ⟨q1,q2,q3⟩
theorem qhG (s : Ent) (l : List Ent) : qdX s l = if runB s.i s.t (qT s l) = true then some (qT s l) else none := rfl
theorem qiF (s : Ent) (l : List Ent) : (qT s l).length <= l.length := by
 unfold qT
 split
 · exact List.length_filter_le _ _
 · exact Nat.zero_le _
theorem qiG (s : Ent) (l : List Ent) : ∀ x ∈ qT s l,x ∈ l := fun x hx => by
 unfold qT at hx
 split at hx
 · exact (List.mem_filter.1 hx).1
 · cases hx
theorem qiH (w : World) (d : Nat) (D : Dsk) (Z : Nat -> Prop) (h : Dk w d D Z) (hm : (D.told nWal).1.length <= 20000) :
 Calls Tryz.prog 26 #[dptr d] w fun e w' => qav w w' d D Z e := by
 have hb0 : Below w.heap.size w ((w.alloc (.cells #[.int .i64 0, .int .i64 0] 54)).alloc (.cells #[.int .i64 0, .int .i64 0, .slice none 0 0] 25)) := ((Below.refl _ _).alloc (Nat.le_refl _) _).alloc (by simp) _;have m0 : ((w.alloc (.cells #[.int .i64 0, .int .i64 0] 54)).alloc (.cells #[.int .i64 0, .int .i64 0, .slice none 0 0] 25)).heap[w.heap.size]? = some (.cells #[.int .i64 0, .int .i64 0] 54) := (Below.heap_alloc _ _ _ (by simp)).trans (heap_alloc_new _ _);have m1 : ((w.alloc (.cells #[.int .i64 0, .int .i64 0] 54)).alloc (.cells #[.int .i64 0, .int .i64 0, .slice none 0 0] 25)).heap[w.heap.size + 1]? = some (.cells #[.int .i64 0, .int .i64 0, .slice none 0 0] 25) := heap_alloc2_new _ _ _
 have hz0 : ((w.alloc (.cells #[.int .i64 0, .int .i64 0] 54)).alloc (.cells #[.int .i64 0, .int .i64 0, .slice none 0 0] 25)).heap.size = w.heap.size + 2 := by simp
 have O0 := OAt.mk0 h hb0 m0 m1;have hRS := qfA ((w.alloc (.cells #[.int .i64 0, .int .i64 0] 54)).alloc (.cells #[.int .i64 0, .int .i64 0, .slice none 0 0] 25)) d D _ O0.dk;have hbnd := qgv (D := D);have hV : Hid (D.openV = if D.snapV.2 ≠ 0 then ((D,D.snapV.2),qag) else if (D.openW nWal).2 ≠ 0 then (D.openW nWal,qag) else qc3 (D.openW nWal) D.snapV.1 (D.told nWal).1) := ⟨rfl⟩
 have hRf := fun c W => qdh c W
 have hfit : fit (D.told nWal).1 := by unfold Dsk.told; exact (qfm _).2
 unfold qaB at hRS;generalize D.snapV = sv at *;obtain ⟨s,es⟩ := sv;dsimp only at hRS hbnd hV
 by_cases hes : es = 0
 · subst hes;have hsi := hbnd rfl;have hV2 : Hid (D.openV = if (D.openW nWal).2 ≠ 0 then (D.openW nWal,qag) else qc3 (D.openW nWal) s (D.told nWal).1) := ⟨by rw [hV.out,if_neg (by simp)]⟩
   have hOP := fun W2 (hd : Dk W2 d D (fun k => Z k \/ w.heap.size <= k /\ k < W2.heap.size)) => qiB W2 d D _ hd nWal (by decide)
   unfold qgN at hOP;generalize D.openW nWal = Rw at *;obtain ⟨D1,e1⟩ := Rw;dsimp only at hOP hV2;generalize (D.told nWal).1 = ls at *
   have hk2 : ∀ w1 B bc,Below ((w.alloc (.cells #[.int .i64 0, .int .i64 0] 54)).alloc (.cells #[.int .i64 0, .int .i64 0, .slice none 0 0] 25)).heap.size ((w.alloc (.cells #[.int .i64 0, .int .i64 0] 54)).alloc (.cells #[.int .i64 0, .int .i64 0, .slice none 0 0] 25)) w1 -> Below w.heap.size w (w1.alloc (.cells #[.int .i64 s.i, .int .i64 s.t, .slice B s.d.length bc] 25)) /\ OAt w (w1.alloc (.cells #[.int .i64 s.i, .int .i64 s.t, .slice B s.d.length bc] 25)) d D Z (fun k => Z k \/ w.heap.size <= k /\ k < (w1.alloc (.cells #[.int .i64 s.i, .int .i64 s.t, .slice B s.d.length bc] 25)).heap.size) := fun w1 B bc hb1 => by
    have hb := (hb0.trans (hb1.mono hb0.size)).alloc (hb0.trans (hb1.mono hb0.size)).size (.cells #[.int .i64 s.i, .int .i64 s.t, .slice B s.d.length bc] 25);have ha : Below w1.heap.size w1 (w1.alloc (.cells #[.int .i64 s.i, .int .i64 s.t, .slice B s.d.length bc] 25)) := (Below.refl _ _).alloc (Nat.le_refl _) _;have e0 := (hb1.block _ (hlt m0)).trans m0;have e1 := (hb1.block _ (hlt m1)).trans m1;exact ⟨hb,OAt.mk0 h hb ((ha.block _ (hlt e0)).trans e0) ((ha.block _ (hlt e1)).trans e1)⟩
   have hz1 : ∀ w1,Below ((w.alloc (.cells #[.int .i64 0, .int .i64 0] 54)).alloc (.cells #[.int .i64 0, .int .i64 0, .slice none 0 0] 25)).heap.size ((w.alloc (.cells #[.int .i64 0, .int .i64 0] 54)).alloc (.cells #[.int .i64 0, .int .i64 0, .slice none 0 0] 25)) w1 -> w.heap.size + 2 <= w1.heap.size := fun w1 hb => by have := hb.size; omega
   have hn0 : ∀ q,((w.alloc (.cells #[.int .i64 0, .int .i64 0] 54)).alloc (.cells #[.int .i64 0, .int .i64 0, .slice none 0 0] 25)).heap.size <= q -> w.heap.size + 2 <= q := fun q hq => by omega
   clear hV hbnd hb0 m0 m1 O0 h hz0
   by_cases he1 : e1 = 0
   · subst he1;have hV3 : Hid (D.openV = qc3 (D1,0) s ls) := ⟨by rw [hV2.out,if_neg (by simp)]⟩;clear hV2
     go_enter Tryz.func26,Tryz.ntmps26
     go_wp2_with fail
     refine hRS.mono ?_;rintro e w1 ⟨B,bc,rfl,hl1,hn1,hb1⟩;obtain ⟨hbw2,O2⟩ := hk2 w1 B bc hb1;have hO2 := hOP _ O2.dk;have hs1 := hz1 w1 hb1;have ha1 : Below w1.heap.size w1 (w1.alloc (.cells #[.int .i64 s.i, .int .i64 s.t, .slice B s.d.length bc] 25)) := (Below.refl _ _).alloc (Nat.le_refl _) _;have rs2 := heap_alloc_new w1 (.cells #[.int .i64 s.i, .int .i64 s.t, .slice B s.d.length bc] 25);have hl2 := hl1.below ha1 (Nat.le_refl _);have hl2z : 0 < s.d.length -> ∀ g off,B = some ⟨g,off,none⟩ -> w.heap.size + 2 <= g /\ g < (w1.alloc (.cells #[.int .i64 s.i, .int .i64 s.t, .slice B s.d.length bc] 25)).heap.size := fun h0 g off e => ⟨hn0 _ (hn1 h0 g off e),hl2.lt h0 e⟩;clear hRS hOP hk2 hz1 hn0 hl1 hn1 hb1 ha1
     go_wp2_with fail
     refine hO2.mono ?_;rintro e w3 hop;rcases hop with ⟨_,j,R,rc,Z3,rfl,hL3,hR3,hz3,hj3,hk3⟩ | ⟨q,_⟩;rotate_left
     · exact absurd rfl q
     have O3 := O2.next hk3 hL3.dk hz3;have rs3 := (hk3.block _ (hlt rs2) (.inr ⟨by omega,hlt rs2⟩)).trans rs2
     have hl3 : Lies w3 B s.d.length bc s.d := hl2.keeps hk3 fun h0 g off e => .inr ⟨by have := (hl2z h0 g off e).1; omega,(hl2z h0 g off e).2⟩
     have hl3z : 0 < s.d.length -> ∀ g off,B = some ⟨g,off,none⟩ -> Z3 g /\ g ≠ j /\ w.heap.size + 2 <= g /\ g < w3.heap.size := fun h0 g off e => by
      obtain ⟨q1,q2⟩ := hl2z h0 g off e;have hz : Z g \/ w.heap.size <= g /\ g < (w1.alloc (.cells #[.int .i64 s.i, .int .i64 s.t, .slice B s.d.length bc] 25)).heap.size := .inr ⟨by omega,q2⟩;exact ⟨hz3 g hz,hj3 g hz,q1,Nat.lt_of_lt_of_le q2 hk3.size⟩
     have hnj3 : ∀ k,(Z k \/ k = w.heap.size \/ k = w.heap.size + 1) -> k ≠ j := fun k hk => by
      rcases hk with hk | rfl | rfl
      · exact hj3 k (O2.zz k hk)
      · exact hj3 _ O2.z0
      · exact hj3 _ O2.z1
     have hsbz : Z3 w1.heap.size /\ w1.heap.size ≠ j := ⟨hz3 _ (.inr ⟨by omega,hlt rs2⟩),hj3 _ (.inr ⟨by omega,hlt rs2⟩)⟩;have hRp := qhC w3 Z3 R ls.length rc ls hR3 (by omega) hfit;unfold qgP at hRp
     have hs3 : w.heap.size + 2 <= w3.heap.size := by have := hk3.size; have := hlt rs2; omega
     clear hO2 O2 hk3 hR3 hl2 hl2z rs2 hz3 hj3 hbw2
     cases ht : tells ls with
     | none =>
       have HE := Lib.hid (show D.openV = ((D1,2),qag) by rw [hV3.out]; unfold qc3; rw [ht]);rw [ht] at hRp;dsimp only at hRp;have O3 := Lib.hid O3;clear hV3 hl3 hl3z hnj3 hL3 hfit hm ht
       go_wp2_with fail
       refine hRp.mono ?_;rintro e w4 ⟨hb4,rfl⟩;have hb5 : Below w3.heap.size w3 (w4.alloc (.cells #[.int .i64 0, .int .i64 0, .slice none 0 0] 131)) := hb4.alloc hb4.size _;obtain ⟨⟨s0,s1,s2⟩,_⟩ := row3 ((hb5.block _ (hlt rs3)).trans rs3);have hBh := qdN (w4.alloc (.cells #[.int .i64 0, .int .i64 0, .slice none 0 0] 131)) (fun _ => False) s B s.d.length bc none 0 0 [] (qr.nil _ _) (by omega) trivial ⟨by omega,by omega⟩;unfold qd3 at hBh;clear hRp rs3 hsi
       go_wp2_with fail
       refine hBh.mono ?_;rintro e w6 ⟨A6,c6,rfl,_,hb6⟩;have O6 := Lib.hid (OAt.below O3 (hb5.trans (hb6.mono hb5.size)));clear hBh hb6 hb5 hb4 O3 s0 s1 s2
       go_wp2_with fail
       refine (hRf _ _).mono ?_;rintro e wR ⟨rfl,hbR⟩;have OR := Lib.hid (OAt.below O6 hbR);obtain ⟨⟨g0,g1⟩,⟨g2,g3⟩⟩ := row2 (OAt.r0 OR);obtain ⟨⟨g4,g5,g6⟩,⟨g7,g8,g9⟩⟩ := row3 (OAt.r1 OR);clear hbR ;go_wp2;refine bodyPost_ret (qal (n := w.heap.size) (m := w.heap.size + 1) rfl rfl (qH.one (OAt.two OR (.int .i64 0) (.int .i64 0) (.int .i64 0) (.int .i64 0) (.slice none 0 0))) rfl (qH.two (OAt.two OR (.int .i64 0) (.int .i64 0) (.int .i64 0) (.int .i64 0) (.slice none 0 0))) Tryz.underlying54 Tryz.underlying25 rfl rfl (by kernel_rfl) (by kernel_rfl)) rfl ?_;exact qav.no HE.out (by simp) (OAt.refuse OR (OAt.two OR (.int .i64 0) (.int .i64 0) (.int .i64 0) (.int .i64 0) (.slice none 0 0)))
     | some p =>
       obtain ⟨hq,all⟩ := p;rw [ht] at hRp;dsimp only at hRp;obtain ⟨rh,re⟩ := qgm ht;have hgo := qhw ht;have hbE := qhG s all;have hlen := qiF s all
       have hmem : ∀ x ∈ qT s all,rightE x = true := fun x hx => re x (qiG s all x hx)
       have hV4 : Hid (D.openV = match qdX s all with | none => ((D1,2),qag) | some out => if out.length = all.length then ((D1,0),⟨hq,s,out⟩) else if (D1.reset nWal (qy hq out)).2 ≠ 0 then (D1.reset nWal (qy hq out),qag) else (D1.reset nWal (qy hq out),⟨hq,s,out⟩)) := ⟨by rw [hV3.out]; unfold qc3; rw [ht]; rfl⟩;have HO3 := Lib.hid O3;have HL3 := Lib.hid hL3;have HL := Lib.hid hl3;have HLZ := Lib.hid hl3z;have HNJ := Lib.hid hnj3;clear hV3 hfit ht re O3 hL3 hl3 hl3z hnj3
       go_wp2_with fail
       refine hRp.mono ?_;rintro e w4 ⟨hb4,A4,c4,rfl,hrow4,hfew⟩;have hb5 : Below w3.heap.size w3 (w4.alloc (.cells #[.int .i64 hq.t, .int .i64 hq.v, .slice A4 all.length c4] 131)) := hb4.alloc hb4.size _;have ha4 : Below w4.heap.size w4 (w4.alloc (.cells #[.int .i64 hq.t, .int .i64 hq.v, .slice A4 all.length c4] 131)) := (Below.refl _ _).alloc (Nat.le_refl _) _;have rt5 := heap_alloc_new w4 (.cells #[.int .i64 hq.t, .int .i64 hq.v, .slice A4 all.length c4] 131);have hsp := hrow4.spot.below ha4;obtain ⟨⟨s0,s1,s2⟩,_⟩ := row3 ((hb5.block _ (hlt rs3)).trans rs3);obtain ⟨⟨t0,t1,t2⟩,_⟩ := row3 rt5;have hBh := qdN (w4.alloc (.cells #[.int .i64 hq.t, .int .i64 hq.v, .slice A4 all.length c4] 131)) _ s B s.d.length bc A4 all.length c4 all hsp (by omega) hgo ⟨by omega,by omega⟩;unfold qd3 at hBh;generalize qT s all = out at *;clear hRp hrow4 hgo hsp hsi ha4
       go_wp2_with fail
       refine hBh.mono ?_;rintro e w6 ⟨A6,c6,rfl,hsp6,hb6⟩;have hb36 := hb5.trans (hb6.mono hb5.size);have rs6 := (hb36.block _ (hlt rs3)).trans rs3;have rt6 := (hb6.block _ (hlt rt5)).trans rt5;clear s0 s1 s2 t0 t1 t2 hBh rt5 hb6 hb5;obtain ⟨⟨s0,s1,s2⟩,_⟩ := row3 rs6;have hRn := qdv _ A6 out.length c6 out s.i s.t w6 hsp6.ents (by unfold maxLen; omega)
       cases hq1 : runB s.i s.t out with
       | false =>
         rw [hq1] at hbE hRn;rw [if_neg (by simp)] at hbE;have HE := Lib.hid (show D.openV = ((D1,2),qag) by rw [hV4.out,hbE]);clear hV4 hbE
         go_wp2_with fail
         refine hRn.mono ?_;rintro e w7 ⟨rfl,hb7⟩;have O7 := Lib.hid (OAt.below HO3 (hb36.trans (hb7.mono hb36.size)));clear hRn hb7 hb36 hsp6 rs6 rt6 s0 s1 s2 rs3 HO3 HL3 hmem
         go_wp2_with fail
         refine (hRf _ _).mono ?_;rintro e wR ⟨rfl,hbR⟩;have OR := Lib.hid (OAt.below O7 hbR);obtain ⟨⟨g0,g1⟩,⟨g2,g3⟩⟩ := row2 (OAt.r0 OR);obtain ⟨⟨g4,g5,g6⟩,⟨g7,g8,g9⟩⟩ := row3 (OAt.r1 OR);clear hbR ;go_wp2;refine bodyPost_ret (qal (n := w.heap.size) (m := w.heap.size + 1) rfl rfl (qH.one (OAt.two OR (.int .i64 0) (.int .i64 0) (.int .i64 0) (.int .i64 0) (.slice none 0 0))) rfl (qH.two (OAt.two OR (.int .i64 0) (.int .i64 0) (.int .i64 0) (.int .i64 0) (.slice none 0 0))) Tryz.underlying54 Tryz.underlying25 rfl rfl (by kernel_rfl) (by kernel_rfl)) rfl ?_;exact qav.no HE.out (by simp) (OAt.refuse OR (OAt.two OR (.int .i64 0) (.int .i64 0) (.int .i64 0) (.int .i64 0) (.slice none 0 0)))
       | true =>
         rw [hq1] at hbE hRn;rw [if_pos rfl] at hbE;have HV5 : Hid (D.openV = if out.length = all.length then ((D1,0),⟨hq,s,out⟩) else if (D1.reset nWal (qy hq out)).2 ≠ 0 then (D1.reset nWal (qy hq out),qag) else (D1.reset nWal (qy hq out),⟨hq,s,out⟩)) := ⟨by rw [hV4.out,hbE]⟩;clear hV4 hbE
         go_wp2_with fail
         refine hRn.mono ?_;rintro e w7 ⟨rfl,hb7⟩;have hb37 := hb36.trans (hb7.mono hb36.size);have rs7 := (hb7.block _ (hlt rs6)).trans rs6;have rt7 := (hb7.block _ (hlt rt6)).trans rt6;have hsp7 := hsp6.below hb7;clear hRn s0 s1 s2 hb7 hb36 rs6 rt6 hsp6 rs3;obtain ⟨⟨t0,t1,t2⟩,_⟩ := row3 rt7;have hb38 : Below w3.heap.size w3 (w7.alloc (.cells #[dptr d,jptr j, .int .i64 hq.t, .int .i64 hq.v] 137)) := hb37.alloc hb37.size _;have ha7 : Below w7.heap.size w7 (w7.alloc (.cells #[dptr d,jptr j, .int .i64 hq.t, .int .i64 hq.v] 137)) := (Below.refl _ _).alloc (Nat.le_refl _) _;have hs7 := hb37.size
         have hV8 : Vt (w7.alloc (.cells #[dptr d,jptr j, .int .i64 hq.t, .int .i64 hq.v] 137)) w7.heap.size j d D1 hq (ls.length : Int) (fun k => Z3 k \/ w3.heap.size <= k /\ k < (w7.alloc (.cells #[dptr d,jptr j, .int .i64 hq.t, .int .i64 hq.v] 137)).heap.size) :=
          ⟨heap_alloc_new w7 (.cells #[dptr d,jptr j, .int .i64 hq.t, .int .i64 hq.v] 137),⟨(hb38.block _ (Lg.lt HL3)).trans HL3.out.box,HL3.out.dk.wide hb38, .inl HL3.out.own⟩, .inr ⟨hs7,hlt (heap_alloc_new w7 (.cells #[dptr d,jptr j, .int .i64 hq.t, .int .i64 hq.v] 137))⟩,fun e => by have := HL3.out.lt; omega⟩
         have rs8 := (ha7.block _ (hlt rs7)).trans rs7;have rt8 := (ha7.block _ (hlt rt7)).trans rt7
         have F8 : FAt w (w7.alloc (.cells #[dptr d,jptr j, .int .i64 hq.t, .int .i64 hq.v] 137)) d D1 w7.heap.size j hq s (ls.length : Int) Z (fun k => Z3 k \/ w3.heap.size <= k /\ k < (w7.alloc (.cells #[dptr d,jptr j, .int .i64 hq.t, .int .i64 hq.v] 137)).heap.size) w1.heap.size w4.heap.size B bc A6 c6 out (.slice A4 all.length c4) := by
          refine ⟨(HO3.out.next (qb hb38 (Nat.le_refl _)) (HL3.out.dk.wide hb38) fun k hk => .inl hk),hV8,⟨by omega,by omega⟩,fun k hk => ⟨HNJ.out k hk,fun e => ?_⟩,rs8,rt8,hs1,by have := hb4.size; omega,⟨.inl hsbz.1,hsbz.2,fun e => ?_⟩,⟨.inr ⟨hb4.size,hlt rt8⟩,fun e => ?_,fun e => ?_⟩,HL.out.below hb38 (Nat.le_refl _),fun h0 g off e => ?_,?_⟩
          · rcases hk with hk | hk | hk
            · have := HO3.out.old k hk; omega
            · omega
            · omega
          · have := hlt rs7; omega
          · have := HL3.out.lt; have := hb4.size; omega
          · have := hlt rt7; omega
          · obtain ⟨q1,q2,q3,q4⟩ := HLZ.out h0 g off e;exact ⟨.inl q1,q2,by omega,q3⟩
          · refine ((hsp7.within).below ha7).mono fun k hk => ?_;have h1 : w3.heap.size <= k := hk.1;have h2 : k < w7.heap.size := hk.2;have := HL3.out.lt;exact ⟨.inr ⟨h1,by have := ha7.size; omega⟩,by omega,by omega,by omega⟩
         by_cases hee : out.length = all.length
         · have HV6 : Hid (D.openV = ((D1,0),⟨hq,s,out⟩)) := ⟨by rw [HV5.out,if_pos hee]⟩;have hd1 : decide (out.length < all.length) = false := decide_eq_false (by omega);have hd2 : ((out.length : Int) < (all.length : Int)) = False := eq_false (by omega);obtain ⟨⟨u0,u1,u2⟩,_⟩ := row3 rt8;have HF := Lib.hid F8
           have nt0 : w4.heap.size ≠ w.heap.size := by have := HF.out.htb; omega
           have nt1 : w4.heap.size ≠ w.heap.size + 1 := by have := HF.out.htb; omega
           have ns0 : w1.heap.size ≠ w.heap.size := by have := HF.out.hsb; omega
           have ns1 : w1.heap.size ≠ w.heap.size + 1 := by have := HF.out.hsb; omega
           have hm0 : (w7.alloc (.cells #[dptr d,jptr j, .int .i64 hq.t, .int .i64 hq.v] 137)).drew.heap[w.heap.size]? = some (.cells #[.int .i64 0, .int .i64 0] 54) := HF.out.o.r0;have hm1 : ((w7.alloc (.cells #[dptr d,jptr j, .int .i64 hq.t, .int .i64 hq.v] 137)).drew.setRow w.heap.size #[.int .i64 hq.t, .int .i64 hq.v]).heap[w.heap.size + 1]? = some (.cells #[.int .i64 0, .int .i64 0, .slice none 0 0] 25) := (setRow_other _ _ _ _ (by omega)).trans HF.out.o.r1;have hS0 : (w7.alloc (.cells #[dptr d,jptr j, .int .i64 hq.t, .int .i64 hq.v] 137)).drew.cell? ⟨w4.heap.size,0,none⟩ = some (.int .i64 hq.t) /\ (w7.alloc (.cells #[dptr d,jptr j, .int .i64 hq.t, .int .i64 hq.v] 137)).drew.cell? ⟨w4.heap.size,1,none⟩ = some (.int .i64 hq.v) /\ (w7.alloc (.cells #[dptr d,jptr j, .int .i64 hq.t, .int .i64 hq.v] 137)).drew.cell? ⟨w1.heap.size,0,none⟩ = some (.int .i64 s.i) /\ (w7.alloc (.cells #[dptr d,jptr j, .int .i64 hq.t, .int .i64 hq.v] 137)).drew.cell? ⟨w1.heap.size,1,none⟩ = some (.int .i64 s.t) /\ (w7.alloc (.cells #[dptr d,jptr j, .int .i64 hq.t, .int .i64 hq.v] 137)).drew.cell? ⟨w1.heap.size,2,none⟩ = some (.slice B s.d.length bc) /\ (w7.alloc (.cells #[dptr d,jptr j, .int .i64 hq.t, .int .i64 hq.v] 137)).drew.frozen? ⟨w.heap.size,0,none⟩ = false /\ (w7.alloc (.cells #[dptr d,jptr j, .int .i64 hq.t, .int .i64 hq.v] 137)).drew.frozen? ⟨w.heap.size,1,none⟩ = false /\ (w7.alloc (.cells #[dptr d,jptr j, .int .i64 hq.t, .int .i64 hq.v] 137)).drew.frozen? ⟨w.heap.size + 1,0,none⟩ = false /\ (w7.alloc (.cells #[dptr d,jptr j, .int .i64 hq.t, .int .i64 hq.v] 137)).drew.frozen? ⟨w.heap.size + 1,1,none⟩ = false /\ (w7.alloc (.cells #[dptr d,jptr j, .int .i64 hq.t, .int .i64 hq.v] 137)).drew.frozen? ⟨w.heap.size + 1,2,none⟩ = false := qaX (X := (w7.alloc (.cells #[dptr d,jptr j, .int .i64 hq.t, .int .i64 hq.v] 137)).drew) HF.out.rt HF.out.rs HF.out.o.r0 HF.out.o.r1;have hSv : ((w7.alloc (.cells #[dptr d,jptr j, .int .i64 hq.t, .int .i64 hq.v] 137)).drew.setRow w.heap.size #[.int .i64 hq.t, .int .i64 hq.v]).cell? ⟨w4.heap.size,0,none⟩ = some (.int .i64 hq.t) /\ ((w7.alloc (.cells #[dptr d,jptr j, .int .i64 hq.t, .int .i64 hq.v] 137)).drew.setRow w.heap.size #[.int .i64 hq.t, .int .i64 hq.v]).cell? ⟨w4.heap.size,1,none⟩ = some (.int .i64 hq.v) /\ ((w7.alloc (.cells #[dptr d,jptr j, .int .i64 hq.t, .int .i64 hq.v] 137)).drew.setRow w.heap.size #[.int .i64 hq.t, .int .i64 hq.v]).cell? ⟨w1.heap.size,0,none⟩ = some (.int .i64 s.i) /\ ((w7.alloc (.cells #[dptr d,jptr j, .int .i64 hq.t, .int .i64 hq.v] 137)).drew.setRow w.heap.size #[.int .i64 hq.t, .int .i64 hq.v]).cell? ⟨w1.heap.size,1,none⟩ = some (.int .i64 s.t) /\ ((w7.alloc (.cells #[dptr d,jptr j, .int .i64 hq.t, .int .i64 hq.v] 137)).drew.setRow w.heap.size #[.int .i64 hq.t, .int .i64 hq.v]).cell? ⟨w1.heap.size,2,none⟩ = some (.slice B s.d.length bc) /\ ((w7.alloc (.cells #[dptr d,jptr j, .int .i64 hq.t, .int .i64 hq.v] 137)).drew.setRow w.heap.size #[.int .i64 hq.t, .int .i64 hq.v]).frozen? ⟨w.heap.size,0,none⟩ = false /\ ((w7.alloc (.cells #[dptr d,jptr j, .int .i64 hq.t, .int .i64 hq.v] 137)).drew.setRow w.heap.size #[.int .i64 hq.t, .int .i64 hq.v]).frozen? ⟨w.heap.size,1,none⟩ = false /\ ((w7.alloc (.cells #[dptr d,jptr j, .int .i64 hq.t, .int .i64 hq.v] 137)).drew.setRow w.heap.size #[.int .i64 hq.t, .int .i64 hq.v]).frozen? ⟨w.heap.size + 1,0,none⟩ = false /\ ((w7.alloc (.cells #[dptr d,jptr j, .int .i64 hq.t, .int .i64 hq.v] 137)).drew.setRow w.heap.size #[.int .i64 hq.t, .int .i64 hq.v]).frozen? ⟨w.heap.size + 1,1,none⟩ = false /\ ((w7.alloc (.cells #[dptr d,jptr j, .int .i64 hq.t, .int .i64 hq.v] 137)).drew.setRow w.heap.size #[.int .i64 hq.t, .int .i64 hq.v]).frozen? ⟨w.heap.size + 1,2,none⟩ = false := qaX (X := ((w7.alloc (.cells #[dptr d,jptr j, .int .i64 hq.t, .int .i64 hq.v] 137)).drew.setRow w.heap.size #[.int .i64 hq.t, .int .i64 hq.v])) ((setRow_other _ _ _ _ nt0).trans HF.out.rt) ((setRow_other _ _ _ _ ns0).trans HF.out.rs) (setRow_heap _ _ _ _ _ _ hm0) hm1;have hT := qdO (w7.alloc (.cells #[dptr d,jptr j, .int .i64 hq.t, .int .i64 hq.v] 137)) HF.out.o.r0 HF.out.o.r1 #[.int .i64 hq.t, .int .i64 hq.v] #[.int .i64 s.i, .int .i64 s.t, .slice B s.d.length bc];have hSvh : (((w7.alloc (.cells #[dptr d,jptr j, .int .i64 hq.t, .int .i64 hq.v] 137)).drew.setRow w.heap.size #[.int .i64 hq.t, .int .i64 hq.v]).setRow (w.heap.size + 1) #[.int .i64 s.i, .int .i64 s.t, .slice B s.d.length bc]).cell? ⟨w4.heap.size,0,none⟩ = some (.int .i64 hq.t) /\ (((w7.alloc (.cells #[dptr d,jptr j, .int .i64 hq.t, .int .i64 hq.v] 137)).drew.setRow w.heap.size #[.int .i64 hq.t, .int .i64 hq.v]).setRow (w.heap.size + 1) #[.int .i64 s.i, .int .i64 s.t, .slice B s.d.length bc]).cell? ⟨w4.heap.size,1,none⟩ = some (.int .i64 hq.v) /\ (((w7.alloc (.cells #[dptr d,jptr j, .int .i64 hq.t, .int .i64 hq.v] 137)).drew.setRow w.heap.size #[.int .i64 hq.t, .int .i64 hq.v]).setRow (w.heap.size + 1) #[.int .i64 s.i, .int .i64 s.t, .slice B s.d.length bc]).cell? ⟨w1.heap.size,0,none⟩ = some (.int .i64 s.i) /\ (((w7.alloc (.cells #[dptr d,jptr j, .int .i64 hq.t, .int .i64 hq.v] 137)).drew.setRow w.heap.size #[.int .i64 hq.t, .int .i64 hq.v]).setRow (w.heap.size + 1) #[.int .i64 s.i, .int .i64 s.t, .slice B s.d.length bc]).cell? ⟨w1.heap.size,1,none⟩ = some (.int .i64 s.t) /\ (((w7.alloc (.cells #[dptr d,jptr j, .int .i64 hq.t, .int .i64 hq.v] 137)).drew.setRow w.heap.size #[.int .i64 hq.t, .int .i64 hq.v]).setRow (w.heap.size + 1) #[.int .i64 s.i, .int .i64 s.t, .slice B s.d.length bc]).cell? ⟨w1.heap.size,2,none⟩ = some (.slice B s.d.length bc) /\ (((w7.alloc (.cells #[dptr d,jptr j, .int .i64 hq.t, .int .i64 hq.v] 137)).drew.setRow w.heap.size #[.int .i64 hq.t, .int .i64 hq.v]).setRow (w.heap.size + 1) #[.int .i64 s.i, .int .i64 s.t, .slice B s.d.length bc]).frozen? ⟨w.heap.size,0,none⟩ = false /\ (((w7.alloc (.cells #[dptr d,jptr j, .int .i64 hq.t, .int .i64 hq.v] 137)).drew.setRow w.heap.size #[.int .i64 hq.t, .int .i64 hq.v]).setRow (w.heap.size + 1) #[.int .i64 s.i, .int .i64 s.t, .slice B s.d.length bc]).frozen? ⟨w.heap.size,1,none⟩ = false /\ (((w7.alloc (.cells #[dptr d,jptr j, .int .i64 hq.t, .int .i64 hq.v] 137)).drew.setRow w.heap.size #[.int .i64 hq.t, .int .i64 hq.v]).setRow (w.heap.size + 1) #[.int .i64 s.i, .int .i64 s.t, .slice B s.d.length bc]).frozen? ⟨w.heap.size + 1,0,none⟩ = false /\ (((w7.alloc (.cells #[dptr d,jptr j, .int .i64 hq.t, .int .i64 hq.v] 137)).drew.setRow w.heap.size #[.int .i64 hq.t, .int .i64 hq.v]).setRow (w.heap.size + 1) #[.int .i64 s.i, .int .i64 s.t, .slice B s.d.length bc]).frozen? ⟨w.heap.size + 1,1,none⟩ = false /\ (((w7.alloc (.cells #[dptr d,jptr j, .int .i64 hq.t, .int .i64 hq.v] 137)).drew.setRow w.heap.size #[.int .i64 hq.t, .int .i64 hq.v]).setRow (w.heap.size + 1) #[.int .i64 s.i, .int .i64 s.t, .slice B s.d.length bc]).frozen? ⟨w.heap.size + 1,2,none⟩ = false := qaX (X := (((w7.alloc (.cells #[dptr d,jptr j, .int .i64 hq.t, .int .i64 hq.v] 137)).drew.setRow w.heap.size #[.int .i64 hq.t, .int .i64 hq.v]).setRow (w.heap.size + 1) #[.int .i64 s.i, .int .i64 s.t, .slice B s.d.length bc])) ((hT.far _ nt0 nt1).trans HF.out.rt) ((hT.far _ ns0 ns1).trans HF.out.rs) hT.one hT.two;have HM0 := Lib.hid hm0;have HM1 := Lib.hid hm1;have HSv := Lib.hid hSv;have HSvh := Lib.hid hSvh;have HT := Lib.hid hT;clear hm0 hm1 hSv hSvh hT F8 hV8 rs8 rt8 hb38 hb37 hsp7 rs7 rt7 hmem hee ha7 hsbz HV5
           go_upto_region 16 with fail
           refine wp_region_held_drew (S := (fun w' => w'.cell? ⟨w4.heap.size,0,none⟩ = some (.int .i64 hq.t) /\ w'.cell? ⟨w4.heap.size,1,none⟩ = some (.int .i64 hq.v) /\ w'.cell? ⟨w1.heap.size,0,none⟩ = some (.int .i64 s.i) /\ w'.cell? ⟨w1.heap.size,1,none⟩ = some (.int .i64 s.t) /\ w'.cell? ⟨w1.heap.size,2,none⟩ = some (.slice B s.d.length bc) /\ w'.frozen? ⟨w.heap.size,0,none⟩ = false /\ w'.frozen? ⟨w.heap.size,1,none⟩ = false /\ w'.frozen? ⟨w.heap.size + 1,0,none⟩ = false /\ w'.frozen? ⟨w.heap.size + 1,1,none⟩ = false /\ w'.frozen? ⟨w.heap.size + 1,2,none⟩ = false)) (by kernel_rfl) hS0 (fun hHeld => ?_);refine lsq 10 ?_;refine wpAnyH_take (i := 0) (oi := ⟨some 97, .move (.tmp 14),68, "vault.go:48",#[],none⟩) (v := ?_) rfl (by kernel_rfl) (by kernel_rfl) (by kernel_rfl) (fun _ _ _ h => h) (Or.inl ⟨by rfl,?_⟩) (by assumption) ?_;rotate_left
           · ((intro w hSw; (try dsimp only at hSw); go_simp); (try with_reducible rfl))
           try simp only [Act.put,List.setIfInBounds_toArray,List.set_cons_zero,List.set_cons_succ]
           refine wpAnyH_take (i := 1) (oi := ⟨some 98, .fieldAddr 131 (.tmp 11) 0,0, "vault.go:48",#[⟨5, .gcOnly .lateStores⟩],none⟩) (v := ?_) rfl (by kernel_rfl) (by kernel_rfl) (by kernel_rfl) (fun _ _ _ h => h) (Or.inl ⟨by rfl,?_⟩) (by assumption) ?_;rotate_left
           · ((intro w hSw; (try dsimp only at hSw); go_simp); (try with_reducible rfl))
           try simp only [Act.put,List.setIfInBounds_toArray,List.set_cons_zero,List.set_cons_succ]
           refine wpAnyH_take (i := 2) (oi := ⟨some 99, .load 54 (.tmp 98),54, "vault.go:48",#[⟨1, .data⟩,⟨5, .gcOnly .lateStores⟩],none⟩) (v := ?_) rfl (by kernel_rfl) (by kernel_rfl) (by kernel_rfl) (fun _ _ _ h => h) (Or.inl ⟨by rfl,?_⟩) (by assumption) ?_;rotate_left
           · ((intro w hSw; (try dsimp only at hSw); go_simp); (try with_reducible rfl))
           try simp only [Act.put,List.setIfInBounds_toArray,List.set_cons_zero,List.set_cons_succ]
           refine wpAnyH_take (i := 3) (oi := ⟨some 100, .load 25 (.tmp 7),25, "vault.go:48",#[⟨6, .gcOnly .lateStores⟩],none⟩) (v := ?_) rfl (by kernel_rfl) (by kernel_rfl) (by kernel_rfl) (fun _ _ _ h => h) (Or.inl ⟨by rfl,?_⟩) (by assumption) ?_;rotate_left
           · ((intro w hSw; (try dsimp only at hSw); go_simp); (try with_reducible rfl))
           try simp only [Act.put,List.setIfInBounds_toArray,List.set_cons_zero,List.set_cons_succ]
           refine wpAnyH_take (i := 4) (oi := ⟨some 101, .move (.tmp 13),22, "vault.go:48",#[⟨7, .gcOnly .lateStores⟩],none⟩) (v := ?_) rfl (by kernel_rfl) (by kernel_rfl) (by kernel_rfl) (fun _ _ _ h => h) (Or.inl ⟨by rfl,?_⟩) (by assumption) ?_;rotate_left
           · ((intro w hSw; (try dsimp only at hSw); go_simp); (try with_reducible rfl))
           try simp only [Act.put,List.setIfInBounds_toArray,List.set_cons_zero,List.set_cons_succ]
           refine wpAnyH_take (i := 5) (oi := ⟨some 2, .assign (.tmp 97),68, "vault.go:48",#[⟨0, .data⟩,⟨0, .phase⟩,⟨1, .textOnly .lateStores⟩,⟨2, .textOnly .lateStores⟩,⟨3, .textOnly .lateStores⟩,⟨4, .textOnly .lateStores⟩],none⟩) (v := ?_) rfl (by kernel_rfl) (by kernel_rfl) (by kernel_rfl) (fun _ _ _ h => h) (Or.inl ⟨by rfl,?_⟩) (by assumption) ?_;rotate_left
           · ((intro w hSw; (try dsimp only at hSw); go_simp); (try with_reducible rfl))
           try simp only [Act.put,List.setIfInBounds_toArray,List.set_cons_zero,List.set_cons_succ]
           refine wpAnyH_ready (rs := [6]) (by kernel_rfl) (by simp) ?_;refine AllReadyH.cons rfl (fun KK hK => ?_) AllReadyH.nil;rw [if_pos (by rfl)];refine wp_store_row _ _ _ rfl w.heap.size #[.int .i64 hq.t, .int .i64 hq.v] (by rfl) (by rfl) _ _ HM0.out (by kernel_rfl) rfl (by first | rfl | kernel_rfl | simp [Value.oneCell']) ?_;refine hK.out _ _ HSv.out (fun hHeld7 => ?_);clear hK KK hHeld hS0 HSv HM0
           try simp only [Act.put,List.setIfInBounds_toArray,List.set_cons_zero,List.set_cons_succ]
           refine wpAnyH_ready (rs := [7]) (by kernel_rfl) (by simp) ?_;refine AllReadyH.cons rfl (fun KK hK => ?_) AllReadyH.nil;rw [if_pos (by rfl)];refine wp_store_row _ _ _ rfl (w.heap.size + 1) #[.int .i64 s.i, .int .i64 s.t, .slice B s.d.length bc] (by rfl) (by rfl) _ _ HM1.out (by kernel_rfl) rfl (by first | rfl | kernel_rfl | simp [Value.oneCell']) ?_;refine hK.out _ _ HSvh.out (fun hHeld8 => ?_);clear hK KK hHeld7 HM1 HSvh
           try simp only [Act.put,List.setIfInBounds_toArray,List.set_cons_zero,List.set_cons_succ]
           refine wpAnyH_take (i := 8) (oi := ⟨some 5, .assign (.tmp 101),22, "vault.go:48",#[⟨4, .data⟩,⟨7, .chain⟩,⟨0, .phase⟩,⟨1, .phase⟩,⟨2, .phase⟩,⟨3, .phase⟩,⟨4, .phase⟩,⟨5, .phase⟩,⟨6, .phase⟩,⟨7, .phase⟩],none⟩) (v := ?_) rfl (by kernel_rfl) (by kernel_rfl) (by kernel_rfl) (fun _ _ _ h => h) (Or.inl ⟨by rfl,?_⟩) (by assumption) ?_;rotate_left
           · ((intro w hSw; (try dsimp only at hSw); go_simp); (try with_reducible rfl))
           try simp only [Act.put,List.setIfInBounds_toArray,List.set_cons_zero,List.set_cons_succ]
           refine wpAnyH_take (i := 9) (oi := ⟨some 6, .assign (.const (.int .i64 0)),39, "vault.go:48",#[⟨8, .chain⟩,⟨0, .phase⟩,⟨1, .phase⟩,⟨2, .phase⟩,⟨3, .phase⟩,⟨4, .phase⟩,⟨5, .phase⟩,⟨6, .phase⟩,⟨7, .phase⟩,⟨8, .phase⟩],none⟩) (v := ?_) rfl (by kernel_rfl) (by kernel_rfl) (by kernel_rfl) (fun _ _ _ h => h) (Or.inl ⟨by rfl,?_⟩) (by assumption) ?_;rotate_left
           · ((intro w hSw; (try dsimp only at hSw); go_simp); (try with_reducible rfl))
           try simp only [Act.put,List.setIfInBounds_toArray,List.set_cons_zero,List.set_cons_succ]
           refine dnq ?_;clear hHeld8;generalize (((w7.alloc (.cells #[dptr d,jptr j, .int .i64 hq.t, .int .i64 hq.v] 137)).drew.setRow w.heap.size #[.int .i64 hq.t, .int .i64 hq.v]).setRow (w.heap.size + 1) #[.int .i64 s.i, .int .i64 s.t, .slice B s.d.length bc]) = XF at *
           all_goals
            go_wp2;refine bodyPost_ret (qal (n := w.heap.size) (m := w.heap.size + 1) rfl rfl (qH.one HT.out) rfl (qH.two HT.out) Tryz.underlying54 Tryz.underlying25 rfl rfl (by kernel_rfl) (by kernel_rfl)) rfl ?_;unfold qav;rw [HV6.out];exact .inl ⟨rfl,w7.heap.size,j,(ls.length : Int),(fun k => Z3 k \/ w3.heap.size <= k /\ k < (w7.alloc (.cells #[dptr d,jptr j, .int .i64 hq.t, .int .i64 hq.v] 137)).heap.size),B,bc,A6,c6,rfl,HF.out.fin HT.out⟩
         · have hd1 : decide (out.length < all.length) = true := decide_eq_true (by omega);have hd2 : ((out.length : Int) < (all.length : Int)) = True := eq_true (by omega);obtain ⟨⟨u0,u1,u2⟩,_⟩ := row3 rt8;have HVn : Hid (D.openV = if (D1.reset nWal (qy hq out)).2 ≠ 0 then (D1.reset nWal (qy hq out),qag) else (D1.reset nWal (qy hq out),⟨hq,s,out⟩)) := ⟨by rw [HV5.out,if_neg hee]⟩;have hRt := qhv (w7.alloc (.cells #[dptr d,jptr j, .int .i64 hq.t, .int .i64 hq.v] 137)) w7.heap.size j d D1 hq (ls.length : Int) _ F8.vt hq rh _ A6 out.length c6 out F8.ents.ents (by omega) hmem
           have hcn : ∀ r : Dsk × Nat,0 <= cnt r (ls.length : Int) ((out.length + 1 : Nat) : Int) /\ cnt r (ls.length : Int) ((out.length + 1 : Nat) : Int) <= 20001 := fun r => by unfold cnt; split <;> omega
           clear HV5;generalize D1.reset nWal (qy hq out) = R9 at *;obtain ⟨D2,e9⟩ := R9;dsimp only at hRt HVn;have hcb := hcn (D2,e9);generalize cnt (D2,e9) (ls.length : Int) ((out.length + 1 : Nat) : Int) = N9 at *;have HF8 := Lib.hid F8;clear hcn F8 hV8 rs8 rt8 hb38 hb37 hsp7 rs7 rt7 hmem hee ha7 hsbz
           go_wp2_with fail
           refine hRt.mono ?_;rintro e w9 ⟨rfl,hd9⟩;have F9 := HF8.out.reset hd9 hcb;clear hRt hd9 HF8 u0 u1 u2 t0 t1 t2
           by_cases he9 : e9 = 0
           · subst he9;have HV6 : Hid (D.openV = ((D2,0),⟨hq,s,out⟩)) := ⟨by rw [HVn.out,if_neg (by simp)]⟩;clear HVn;have HF := Lib.hid F9
             have nt0 : w4.heap.size ≠ w.heap.size := by have := HF.out.htb; omega
             have nt1 : w4.heap.size ≠ w.heap.size + 1 := by have := HF.out.htb; omega
             have ns0 : w1.heap.size ≠ w.heap.size := by have := HF.out.hsb; omega
             have ns1 : w1.heap.size ≠ w.heap.size + 1 := by have := HF.out.hsb; omega
             have hm0 : w9.drew.heap[w.heap.size]? = some (.cells #[.int .i64 0, .int .i64 0] 54) := HF.out.o.r0;have hm1 : (w9.drew.setRow w.heap.size #[.int .i64 hq.t, .int .i64 hq.v]).heap[w.heap.size + 1]? = some (.cells #[.int .i64 0, .int .i64 0, .slice none 0 0] 25) := (setRow_other _ _ _ _ (by omega)).trans HF.out.o.r1;have hS0 : w9.drew.cell? ⟨w4.heap.size,0,none⟩ = some (.int .i64 hq.t) /\ w9.drew.cell? ⟨w4.heap.size,1,none⟩ = some (.int .i64 hq.v) /\ w9.drew.cell? ⟨w1.heap.size,0,none⟩ = some (.int .i64 s.i) /\ w9.drew.cell? ⟨w1.heap.size,1,none⟩ = some (.int .i64 s.t) /\ w9.drew.cell? ⟨w1.heap.size,2,none⟩ = some (.slice B s.d.length bc) /\ w9.drew.frozen? ⟨w.heap.size,0,none⟩ = false /\ w9.drew.frozen? ⟨w.heap.size,1,none⟩ = false /\ w9.drew.frozen? ⟨w.heap.size + 1,0,none⟩ = false /\ w9.drew.frozen? ⟨w.heap.size + 1,1,none⟩ = false /\ w9.drew.frozen? ⟨w.heap.size + 1,2,none⟩ = false := qaX (X := w9.drew) HF.out.rt HF.out.rs HF.out.o.r0 HF.out.o.r1;have hSv : (w9.drew.setRow w.heap.size #[.int .i64 hq.t, .int .i64 hq.v]).cell? ⟨w4.heap.size,0,none⟩ = some (.int .i64 hq.t) /\ (w9.drew.setRow w.heap.size #[.int .i64 hq.t, .int .i64 hq.v]).cell? ⟨w4.heap.size,1,none⟩ = some (.int .i64 hq.v) /\ (w9.drew.setRow w.heap.size #[.int .i64 hq.t, .int .i64 hq.v]).cell? ⟨w1.heap.size,0,none⟩ = some (.int .i64 s.i) /\ (w9.drew.setRow w.heap.size #[.int .i64 hq.t, .int .i64 hq.v]).cell? ⟨w1.heap.size,1,none⟩ = some (.int .i64 s.t) /\ (w9.drew.setRow w.heap.size #[.int .i64 hq.t, .int .i64 hq.v]).cell? ⟨w1.heap.size,2,none⟩ = some (.slice B s.d.length bc) /\ (w9.drew.setRow w.heap.size #[.int .i64 hq.t, .int .i64 hq.v]).frozen? ⟨w.heap.size,0,none⟩ = false /\ (w9.drew.setRow w.heap.size #[.int .i64 hq.t, .int .i64 hq.v]).frozen? ⟨w.heap.size,1,none⟩ = false /\ (w9.drew.setRow w.heap.size #[.int .i64 hq.t, .int .i64 hq.v]).frozen? ⟨w.heap.size + 1,0,none⟩ = false /\ (w9.drew.setRow w.heap.size #[.int .i64 hq.t, .int .i64 hq.v]).frozen? ⟨w.heap.size + 1,1,none⟩ = false /\ (w9.drew.setRow w.heap.size #[.int .i64 hq.t, .int .i64 hq.v]).frozen? ⟨w.heap.size + 1,2,none⟩ = false := qaX (X := (w9.drew.setRow w.heap.size #[.int .i64 hq.t, .int .i64 hq.v])) ((setRow_other _ _ _ _ nt0).trans HF.out.rt) ((setRow_other _ _ _ _ ns0).trans HF.out.rs) (setRow_heap _ _ _ _ _ _ hm0) hm1;have hT := qdO w9 HF.out.o.r0 HF.out.o.r1 #[.int .i64 hq.t, .int .i64 hq.v] #[.int .i64 s.i, .int .i64 s.t, .slice B s.d.length bc];have hSvh : ((w9.drew.setRow w.heap.size #[.int .i64 hq.t, .int .i64 hq.v]).setRow (w.heap.size + 1) #[.int .i64 s.i, .int .i64 s.t, .slice B s.d.length bc]).cell? ⟨w4.heap.size,0,none⟩ = some (.int .i64 hq.t) /\ ((w9.drew.setRow w.heap.size #[.int .i64 hq.t, .int .i64 hq.v]).setRow (w.heap.size + 1) #[.int .i64 s.i, .int .i64 s.t, .slice B s.d.length bc]).cell? ⟨w4.heap.size,1,none⟩ = some (.int .i64 hq.v) /\ ((w9.drew.setRow w.heap.size #[.int .i64 hq.t, .int .i64 hq.v]).setRow (w.heap.size + 1) #[.int .i64 s.i, .int .i64 s.t, .slice B s.d.length bc]).cell? ⟨w1.heap.size,0,none⟩ = some (.int .i64 s.i) /\ ((w9.drew.setRow w.heap.size #[.int .i64 hq.t, .int .i64 hq.v]).setRow (w.heap.size + 1) #[.int .i64 s.i, .int .i64 s.t, .slice B s.d.length bc]).cell? ⟨w1.heap.size,1,none⟩ = some (.int .i64 s.t) /\ ((w9.drew.setRow w.heap.size #[.int .i64 hq.t, .int .i64 hq.v]).setRow (w.heap.size + 1) #[.int .i64 s.i, .int .i64 s.t, .slice B s.d.length bc]).cell? ⟨w1.heap.size,2,none⟩ = some (.slice B s.d.length bc) /\ ((w9.drew.setRow w.heap.size #[.int .i64 hq.t, .int .i64 hq.v]).setRow (w.heap.size + 1) #[.int .i64 s.i, .int .i64 s.t, .slice B s.d.length bc]).frozen? ⟨w.heap.size,0,none⟩ = false /\ ((w9.drew.setRow w.heap.size #[.int .i64 hq.t, .int .i64 hq.v]).setRow (w.heap.size + 1) #[.int .i64 s.i, .int .i64 s.t, .slice B s.d.length bc]).frozen? ⟨w.heap.size,1,none⟩ = false /\ ((w9.drew.setRow w.heap.size #[.int .i64 hq.t, .int .i64 hq.v]).setRow (w.heap.size + 1) #[.int .i64 s.i, .int .i64 s.t, .slice B s.d.length bc]).frozen? ⟨w.heap.size + 1,0,none⟩ = false /\ ((w9.drew.setRow w.heap.size #[.int .i64 hq.t, .int .i64 hq.v]).setRow (w.heap.size + 1) #[.int .i64 s.i, .int .i64 s.t, .slice B s.d.length bc]).frozen? ⟨w.heap.size + 1,1,none⟩ = false /\ ((w9.drew.setRow w.heap.size #[.int .i64 hq.t, .int .i64 hq.v]).setRow (w.heap.size + 1) #[.int .i64 s.i, .int .i64 s.t, .slice B s.d.length bc]).frozen? ⟨w.heap.size + 1,2,none⟩ = false := qaX (X := ((w9.drew.setRow w.heap.size #[.int .i64 hq.t, .int .i64 hq.v]).setRow (w.heap.size + 1) #[.int .i64 s.i, .int .i64 s.t, .slice B s.d.length bc])) ((hT.far _ nt0 nt1).trans HF.out.rt) ((hT.far _ ns0 ns1).trans HF.out.rs) hT.one hT.two;have HM0 := Lib.hid hm0;have HM1 := Lib.hid hm1;have HSv := Lib.hid hSv;have HSvh := Lib.hid hSvh;have HT := Lib.hid hT;clear hm0 hm1 hSv hSvh hT F9 
             go_upto_region 16 with fail
             refine wp_region_held_drew (S := (fun w' => w'.cell? ⟨w4.heap.size,0,none⟩ = some (.int .i64 hq.t) /\ w'.cell? ⟨w4.heap.size,1,none⟩ = some (.int .i64 hq.v) /\ w'.cell? ⟨w1.heap.size,0,none⟩ = some (.int .i64 s.i) /\ w'.cell? ⟨w1.heap.size,1,none⟩ = some (.int .i64 s.t) /\ w'.cell? ⟨w1.heap.size,2,none⟩ = some (.slice B s.d.length bc) /\ w'.frozen? ⟨w.heap.size,0,none⟩ = false /\ w'.frozen? ⟨w.heap.size,1,none⟩ = false /\ w'.frozen? ⟨w.heap.size + 1,0,none⟩ = false /\ w'.frozen? ⟨w.heap.size + 1,1,none⟩ = false /\ w'.frozen? ⟨w.heap.size + 1,2,none⟩ = false)) (by kernel_rfl) hS0 (fun hHeld => ?_);refine lsq 10 ?_;refine wpAnyH_take (i := 0) (oi := ⟨some 97, .move (.tmp 14),68, "vault.go:48",#[],none⟩) (v := ?_) rfl (by kernel_rfl) (by kernel_rfl) (by kernel_rfl) (fun _ _ _ h => h) (Or.inl ⟨by rfl,?_⟩) (by assumption) ?_;rotate_left
             · ((intro w hSw; (try dsimp only at hSw); go_simp); (try with_reducible rfl))
             try simp only [Act.put,List.setIfInBounds_toArray,List.set_cons_zero,List.set_cons_succ]
             refine wpAnyH_take (i := 1) (oi := ⟨some 98, .fieldAddr 131 (.tmp 11) 0,0, "vault.go:48",#[⟨5, .gcOnly .lateStores⟩],none⟩) (v := ?_) rfl (by kernel_rfl) (by kernel_rfl) (by kernel_rfl) (fun _ _ _ h => h) (Or.inl ⟨by rfl,?_⟩) (by assumption) ?_;rotate_left
             · ((intro w hSw; (try dsimp only at hSw); go_simp); (try with_reducible rfl))
             try simp only [Act.put,List.setIfInBounds_toArray,List.set_cons_zero,List.set_cons_succ]
             refine wpAnyH_take (i := 2) (oi := ⟨some 99, .load 54 (.tmp 98),54, "vault.go:48",#[⟨1, .data⟩,⟨5, .gcOnly .lateStores⟩],none⟩) (v := ?_) rfl (by kernel_rfl) (by kernel_rfl) (by kernel_rfl) (fun _ _ _ h => h) (Or.inl ⟨by rfl,?_⟩) (by assumption) ?_;rotate_left
             · ((intro w hSw; (try dsimp only at hSw); go_simp); (try with_reducible rfl))
             try simp only [Act.put,List.setIfInBounds_toArray,List.set_cons_zero,List.set_cons_succ]
             refine wpAnyH_take (i := 3) (oi := ⟨some 100, .load 25 (.tmp 7),25, "vault.go:48",#[⟨6, .gcOnly .lateStores⟩],none⟩) (v := ?_) rfl (by kernel_rfl) (by kernel_rfl) (by kernel_rfl) (fun _ _ _ h => h) (Or.inl ⟨by rfl,?_⟩) (by assumption) ?_;rotate_left
             · ((intro w hSw; (try dsimp only at hSw); go_simp); (try with_reducible rfl))
             try simp only [Act.put,List.setIfInBounds_toArray,List.set_cons_zero,List.set_cons_succ]
             refine wpAnyH_take (i := 4) (oi := ⟨some 101, .move (.tmp 13),22, "vault.go:48",#[⟨7, .gcOnly .lateStores⟩],none⟩) (v := ?_) rfl (by kernel_rfl) (by kernel_rfl) (by kernel_rfl) (fun _ _ _ h => h) (Or.inl ⟨by rfl,?_⟩) (by assumption) ?_;rotate_left
             · ((intro w hSw; (try dsimp only at hSw); go_simp); (try with_reducible rfl))
             try simp only [Act.put,List.setIfInBounds_toArray,List.set_cons_zero,List.set_cons_succ]
             refine wpAnyH_take (i := 5) (oi := ⟨some 2, .assign (.tmp 97),68, "vault.go:48",#[⟨0, .data⟩,⟨0, .phase⟩,⟨1, .textOnly .lateStores⟩,⟨2, .textOnly .lateStores⟩,⟨3, .textOnly .lateStores⟩,⟨4, .textOnly .lateStores⟩],none⟩) (v := ?_) rfl (by kernel_rfl) (by kernel_rfl) (by kernel_rfl) (fun _ _ _ h => h) (Or.inl ⟨by rfl,?_⟩) (by assumption) ?_;rotate_left
             · ((intro w hSw; (try dsimp only at hSw); go_simp); (try with_reducible rfl))
             try simp only [Act.put,List.setIfInBounds_toArray,List.set_cons_zero,List.set_cons_succ]
             refine wpAnyH_ready (rs := [6]) (by kernel_rfl) (by simp) ?_;refine AllReadyH.cons rfl (fun KK hK => ?_) AllReadyH.nil;rw [if_pos (by rfl)];refine wp_store_row _ _ _ rfl w.heap.size #[.int .i64 hq.t, .int .i64 hq.v] (by rfl) (by rfl) _ _ HM0.out (by kernel_rfl) rfl (by first | rfl | kernel_rfl | simp [Value.oneCell']) ?_;refine hK.out _ _ HSv.out (fun hHeld7 => ?_);clear hK KK hHeld hS0 HSv HM0
             try simp only [Act.put,List.setIfInBounds_toArray,List.set_cons_zero,List.set_cons_succ]
             refine wpAnyH_ready (rs := [7]) (by kernel_rfl) (by simp) ?_;refine AllReadyH.cons rfl (fun KK hK => ?_) AllReadyH.nil;rw [if_pos (by rfl)];refine wp_store_row _ _ _ rfl (w.heap.size + 1) #[.int .i64 s.i, .int .i64 s.t, .slice B s.d.length bc] (by rfl) (by rfl) _ _ HM1.out (by kernel_rfl) rfl (by first | rfl | kernel_rfl | simp [Value.oneCell']) ?_;refine hK.out _ _ HSvh.out (fun hHeld8 => ?_);clear hK KK hHeld7 HM1 HSvh
             try simp only [Act.put,List.setIfInBounds_toArray,List.set_cons_zero,List.set_cons_succ]
             refine wpAnyH_take (i := 8) (oi := ⟨some 5, .assign (.tmp 101),22, "vault.go:48",#[⟨4, .data⟩,⟨7, .chain⟩,⟨0, .phase⟩,⟨1, .phase⟩,⟨2, .phase⟩,⟨3, .phase⟩,⟨4, .phase⟩,⟨5, .phase⟩,⟨6, .phase⟩,⟨7, .phase⟩],none⟩) (v := ?_) rfl (by kernel_rfl) (by kernel_rfl) (by kernel_rfl) (fun _ _ _ h => h) (Or.inl ⟨by rfl,?_⟩) (by assumption) ?_;rotate_left
             · ((intro w hSw; (try dsimp only at hSw); go_simp); (try with_reducible rfl))
             try simp only [Act.put,List.setIfInBounds_toArray,List.set_cons_zero,List.set_cons_succ]
             refine wpAnyH_take (i := 9) (oi := ⟨some 6, .assign (.const (.int .i64 0)),39, "vault.go:48",#[⟨8, .chain⟩,⟨0, .phase⟩,⟨1, .phase⟩,⟨2, .phase⟩,⟨3, .phase⟩,⟨4, .phase⟩,⟨5, .phase⟩,⟨6, .phase⟩,⟨7, .phase⟩,⟨8, .phase⟩],none⟩) (v := ?_) rfl (by kernel_rfl) (by kernel_rfl) (by kernel_rfl) (fun _ _ _ h => h) (Or.inl ⟨by rfl,?_⟩) (by assumption) ?_;rotate_left
             · ((intro w hSw; (try dsimp only at hSw); go_simp); (try with_reducible rfl))
             try simp only [Act.put,List.setIfInBounds_toArray,List.set_cons_zero,List.set_cons_succ]
             refine dnq ?_;clear hHeld8;generalize ((w9.drew.setRow w.heap.size #[.int .i64 hq.t, .int .i64 hq.v]).setRow (w.heap.size + 1) #[.int .i64 s.i, .int .i64 s.t, .slice B s.d.length bc]) = XF at *
             all_goals
              go_wp2;refine bodyPost_ret (qal (n := w.heap.size) (m := w.heap.size + 1) rfl rfl (qH.one HT.out) rfl (qH.two HT.out) Tryz.underlying54 Tryz.underlying25 rfl rfl (by kernel_rfl) (by kernel_rfl)) rfl ?_;unfold qav;rw [HV6.out];exact .inl ⟨rfl,w7.heap.size,j,N9,(fun k => Z3 k \/ w3.heap.size <= k /\ k < (w7.alloc (.cells #[dptr d,jptr j, .int .i64 hq.t, .int .i64 hq.v] 137)).heap.size),B,bc,A6,c6,rfl,HF.out.fin HT.out⟩
           · have HE := Lib.hid (show D.openV = ((D2,e9),qag) by rw [HVn.out,if_pos he9])
             have k0 : ((e9 : Int) != 0) = true := by simp; omega
             have k0' : ((e9 : Int) = 0) = False := eq_false (by omega);have O9 := Lib.hid F9.o;clear HVn F9
             go_wp2_with fail
             refine (hRf _ _).mono ?_;rintro e wR ⟨rfl,hbR⟩;have OR := Lib.hid (OAt.below O9 hbR);obtain ⟨⟨g0,g1⟩,⟨g2,g3⟩⟩ := row2 (OAt.r0 OR);obtain ⟨⟨g4,g5,g6⟩,⟨g7,g8,g9⟩⟩ := row3 (OAt.r1 OR);clear hbR ;go_wp2;refine bodyPost_ret (qal (n := w.heap.size) (m := w.heap.size + 1) rfl rfl (qH.one (OAt.two OR (.int .i64 0) (.int .i64 0) (.int .i64 0) (.int .i64 0) (.slice none 0 0))) rfl (qH.two (OAt.two OR (.int .i64 0) (.int .i64 0) (.int .i64 0) (.int .i64 0) (.slice none 0 0))) Tryz.underlying54 Tryz.underlying25 rfl rfl (by kernel_rfl) (by kernel_rfl)) rfl ?_;exact qav.no HE.out he9 (OAt.refuse OR (OAt.two OR (.int .i64 0) (.int .i64 0) (.int .i64 0) (.int .i64 0) (.slice none 0 0)))
   · have HE := Lib.hid (show D.openV = ((D1,e1),qag) by rw [hV2.out,if_pos he1])
     have e0 : ((e1 : Int) != 0) = true := by simp; omega
     have e0' : ((e1 : Int) = 0) = False := eq_false (by omega);clear hV2 hsi hm hfit
     go_enter Tryz.func26,Tryz.ntmps26
     go_wp2_with fail
     refine hRS.mono ?_;rintro e w1 ⟨B,bc,rfl,hl1,hn1,hb1⟩;obtain ⟨_,O2⟩ := hk2 w1 B bc hb1;have hO2 := hOP _ O2.dk;have O2 := Lib.hid O2;clear hRS hOP hk2 hz1 hn0 hl1 hn1 hb1
     go_wp2_with fail
     refine hO2.mono ?_;rintro e w3 hop;rcases hop with ⟨q,_⟩ | ⟨_,rfl,hd3⟩
     · exact absurd q he1
     have O3 := Lib.hid (OAt.did O2 hd3);clear hO2 hd3 O2
     go_wp2_with fail
     refine (hRf _ _).mono ?_;rintro e wR ⟨rfl,hbR⟩;have OR := Lib.hid (OAt.below O3 hbR);obtain ⟨⟨g0,g1⟩,⟨g2,g3⟩⟩ := row2 (OAt.r0 OR);obtain ⟨⟨g4,g5,g6⟩,⟨g7,g8,g9⟩⟩ := row3 (OAt.r1 OR);clear hbR ;go_wp2;refine bodyPost_ret (qal (n := w.heap.size) (m := w.heap.size + 1) rfl rfl (qH.one (OAt.two OR (.int .i64 0) (.int .i64 0) (.int .i64 0) (.int .i64 0) (.slice none 0 0))) rfl (qH.two (OAt.two OR (.int .i64 0) (.int .i64 0) (.int .i64 0) (.int .i64 0) (.slice none 0 0))) Tryz.underlying54 Tryz.underlying25 rfl rfl (by kernel_rfl) (by kernel_rfl)) rfl ?_;exact qav.no HE.out he1 (OAt.refuse OR (OAt.two OR (.int .i64 0) (.int .i64 0) (.int .i64 0) (.int .i64 0) (.slice none 0 0)))
 · have HE := Lib.hid (show D.openV = ((D,es),qag) by rw [hV.out,if_pos hes])
   have e0 : ((es : Int) != 0) = true := by simp; omega
   have e0' : ((es : Int) = 0) = False := eq_false (by omega);have O0' := Lib.hid O0;clear hV hbnd hm hfit m0 m1 hb0 O0 hz0
   go_enter Tryz.func26,Tryz.ntmps26
   go_wp2_with fail
   refine hRS.mono ?_;rintro e w1 ⟨B,bc,rfl,_,_,hb1⟩;have O2 := Lib.hid ((OAt.below O0' hb1).below ((Below.refl w1.heap.size w1).alloc (Nat.le_refl _) (.cells #[.int .i64 s.i, .int .i64 s.t, .slice B s.d.length bc] 25)));clear hRS O0' hb1
   go_wp2_with fail
   refine (hRf _ _).mono ?_;rintro e wR ⟨rfl,hbR⟩;have OR := Lib.hid (OAt.below O2 hbR);obtain ⟨⟨g0,g1⟩,⟨g2,g3⟩⟩ := row2 (OAt.r0 OR);obtain ⟨⟨g4,g5,g6⟩,⟨g7,g8,g9⟩⟩ := row3 (OAt.r1 OR);clear hbR ;go_wp2;refine bodyPost_ret (qal (n := w.heap.size) (m := w.heap.size + 1) rfl rfl (qH.one (OAt.two OR (.int .i64 0) (.int .i64 0) (.int .i64 0) (.int .i64 0) (.slice none 0 0))) rfl (qH.two (OAt.two OR (.int .i64 0) (.int .i64 0) (.int .i64 0) (.int .i64 0) (.slice none 0 0))) Tryz.underlying54 Tryz.underlying25 rfl rfl (by kernel_rfl) (by kernel_rfl)) rfl ?_;exact qav.no HE.out hes (OAt.refuse OR (OAt.two OR (.int .i64 0) (.int .i64 0) (.int .i64 0) (.int .i64 0) (.slice none 0 0)))
end Go.Proofs.YtogbhedbgcmckaaGreat
