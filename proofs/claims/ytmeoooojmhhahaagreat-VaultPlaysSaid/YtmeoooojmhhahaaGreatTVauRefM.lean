/- The document's Save, by its contract. -/
import Derived.Test.YtmeoooojmhhahaaGreatTVauR5
set_option linter.unusedVariables false
set_option linter.unusedSimpArgs false
set_option maxRecDepth 100000
set_option maxHeartbeats 8000000
namespace Go.Proofs.YtmeoooojmhhahaaGreat
open Go.RowKit
abbrev vauC (A : Option Addr) (cap : Nat) (D : Dsk) (n : Int) (h : Hd) : Array Value := #[.int .i64 D.room, .slice A D.l.length cap, .bool D.set, .int .i64 D.n, .bool D.lost, .string nWal, .int .i64 n, .int .i64 h.t, .int .i64 h.v]
abbrev vauV (A : Option Addr) (cap : Nat) (D : Dsk) (n : Int) (h : Hd) : Value := .agg (vauC A cap D n h)
abbrev zeroV : Array Value := #[.int .i64 0, .slice none 0 0, .bool false, .int .i64 0, .bool false, .string ⟨#[]⟩, .int .i64 0, .int .i64 0, .int .i64 0]
section
variable {w : World} {g : Nat} {v0 v1 v2 v3 v4 v5 v6 v7 v8 : Value} {T : TypeId}
theorem row9 (h : w.heap[g]? = some (.cells #[v0,v1,v2,v3,v4,v5,v6,v7,v8] T)) :
 (w.cell? ⟨g,0,none⟩ = some v0 /\ w.cell? ⟨g,1,none⟩ = some v1 /\ w.cell? ⟨g,2,none⟩ = some v2 /\ w.cell? ⟨g,3,none⟩ = some v3 /\ w.cell? ⟨g,4,none⟩ = some v4 /\ w.cell? ⟨g,5,none⟩ = some v5 /\ w.cell? ⟨g,6,none⟩ = some v6 /\ w.cell? ⟨g,7,none⟩ = some v7 /\ w.cell? ⟨g,8,none⟩ = some v8) ∧
 (w.frozen? ⟨g,0,none⟩ = false /\ w.frozen? ⟨g,1,none⟩ = false /\ w.frozen? ⟨g,2,none⟩ = false /\ w.frozen? ⟨g,3,none⟩ = false /\ w.frozen? ⟨g,4,none⟩ = false /\ w.frozen? ⟨g,5,none⟩ = false /\ w.frozen? ⟨g,6,none⟩ = false /\ w.frozen? ⟨g,7,none⟩ = false /\ w.frozen? ⟨g,8,none⟩ = false) := by
 simp [World.cell?,World.frozen?,h]
end
theorem qeg (X : World) (n : Nat) (a b c d e f g i j a0 b0 c0 d0 e0 f0 g0 i0 j0 : Value) (T : TypeId) (h : X.heap[n]? = some (.cells #[a0,b0,c0,d0,e0,f0,g0,i0,j0] T)) :
 (((((((((X.setCell ⟨n,0,none⟩ a).setCell ⟨n,1,none⟩ b).setCell ⟨n,2,none⟩ c).setCell ⟨n,3,none⟩ d).setCell ⟨n,4,none⟩ e).setCell ⟨n,5,none⟩ f).setCell ⟨n,6,none⟩ g).setCell ⟨n,7,none⟩ i).setCell ⟨n,8,none⟩ j).heap[n]? = some (.cells #[a,b,c,d,e,f,g,i,j] T) := by
 simp only [World.setCell,Array.getElem?_modify,if_true,h,Option.map_some]
 simp
structure VAt (w W : World) (B : Nat) (A : Option Addr) (cap : Nat) (l : List Fil) (A' : Option Addr) (cap' : Nat) (D' : Dsk) (n' : Int) (h h' : Hd) : Prop where
 m0 : W.heap[w.heap.size]? = some (.cells (vauC A' cap' D' n' h') 45)
 mh : W.heap[w.heap.size + 1]? = some (.cells #[.int .i64 h.t, .int .i64 h.v] 32)
 m2 : W.heap[w.heap.size + 1 + 1]? = some (.cells zeroV 45)
 got : GotB w B A cap l W A' cap' D'.l
 lo : w.heap.size + 3 <= B
 hi : B <= W.heap.size
section
variable {w W w2 : World} {B : Nat} {A A1 A2 : Option Addr} {cap cap1 cap2 : Nat} {l : List Fil} {D1 D2 : Dsk} {n1 : Int} {h h1 : Hd}
theorem VAt.below (v : VAt w W B A cap l A1 cap1 D1 n1 h h1) (hb : Below W.heap.size W w2) : VAt w w2 B A cap l A1 cap1 D1 n1 h h1 := by
 have e1 := v.lo
 have e2 := v.hi
 exact ⟨(hb.block _ (by omega)).trans v.m0,(hb.block _ (by omega)).trans v.mh,(hb.block _ (by omega)).trans v.m2,v.got.keep (hb.mono v.got.1.size) (fun g _ hg => hb.block g hg),e1,Nat.le_trans e2 hb.size⟩
theorem VAt.log (v : VAt w W B A cap l A1 cap1 D1 n1 h h1) (hg : Got W A1 cap1 D1.l w2 A2 cap2 D2.l) (n2 : Int) :
 VAt w (((((((w2.setCell ⟨w.heap.size,0,none⟩ (.int .i64 D2.room)).setCell ⟨w.heap.size,1,none⟩ (.slice A2 D2.l.length cap2)).setCell ⟨w.heap.size,2,none⟩ (.bool D2.set)).setCell ⟨w.heap.size,3,none⟩ (.int .i64 D2.n)).setCell ⟨w.heap.size,4,none⟩ (.bool D2.lost)).setCell ⟨w.heap.size,5,none⟩ (.string nWal)).setCell ⟨w.heap.size,6,none⟩ (.int .i64 n2)) B A cap l A2 cap2 D2 n2 h h1 := by
 have e1 := v.lo
 have e2 := v.hi
 have e3 := hg.1.size
 have m0 := (hg.1.block _ (by omega)).trans v.m0
 refine ⟨?_,(qap _ (by omega) _ _ _ _ _ _ _).trans ((hg.1.block _ (by omega)).trans v.mh),(qap _ (by omega) _ _ _ _ _ _ _).trans ((hg.1.block _ (by omega)).trans v.m2),(v.got.next hg e2).set7 nlq (by omega) _ _ _ _ _ _ _,e1,by simp [World.setCell]; omega⟩
 simp only [World.setCell,Array.getElem?_modify,if_true,m0,Option.map_some]
 simp
theorem VAt.hard (v : VAt w W B A cap l A1 cap1 D1 n1 h h1) (x y : Int) : VAt w ((W.setCell ⟨w.heap.size,7,none⟩ (.int .i64 x)).setCell ⟨w.heap.size,8,none⟩ (.int .i64 y)) B A cap l A1 cap1 D1 n1 h ⟨x,y⟩ := by
 have e1 := v.lo
 have e2 := v.hi
 have m0 := v.m0
 refine ⟨?_,((Below.heap_setCell _ _ _ _ (by show w.heap.size + 1 ≠ w.heap.size; omega)).trans (Below.heap_setCell _ _ _ _ (by show w.heap.size + 1 ≠ w.heap.size; omega))).trans v.mh,((Below.heap_setCell _ _ _ _ (by show w.heap.size + 1 + 1 ≠ w.heap.size; omega)).trans (Below.heap_setCell _ _ _ _ (by show w.heap.size + 1 + 1 ≠ w.heap.size; omega))).trans v.m2,(v.got.set1 nlq (by omega) _ _).set1 nlq (by omega) _ _,e1,by simp [World.setCell]; omega⟩
 simp only [World.setCell,Array.getElem?_modify,if_true,m0,Option.map_some]
 simp
theorem VAt.answer (v : VAt w W B A cap l A1 cap1 D1 n1 h h1) (a b c d e f g i j : Value) :
 (((((((((W.setCell ⟨w.heap.size + 1 + 1,0,none⟩ a).setCell ⟨w.heap.size + 1 + 1,1,none⟩ b).setCell ⟨w.heap.size + 1 + 1,2,none⟩ c).setCell ⟨w.heap.size + 1 + 1,3,none⟩ d).setCell ⟨w.heap.size + 1 + 1,4,none⟩ e).setCell ⟨w.heap.size + 1 + 1,5,none⟩ f).setCell ⟨w.heap.size + 1 + 1,6,none⟩ g).setCell ⟨w.heap.size + 1 + 1,7,none⟩ i).setCell ⟨w.heap.size + 1 + 1,8,none⟩ j).heap[w.heap.size + 1 + 1]? = some (.cells #[a,b,c,d,e,f,g,i,j] 45) /\ Got w A cap l (((((((((W.setCell ⟨w.heap.size + 1 + 1,0,none⟩ a).setCell ⟨w.heap.size + 1 + 1,1,none⟩ b).setCell ⟨w.heap.size + 1 + 1,2,none⟩ c).setCell ⟨w.heap.size + 1 + 1,3,none⟩ d).setCell ⟨w.heap.size + 1 + 1,4,none⟩ e).setCell ⟨w.heap.size + 1 + 1,5,none⟩ f).setCell ⟨w.heap.size + 1 + 1,6,none⟩ g).setCell ⟨w.heap.size + 1 + 1,7,none⟩ i).setCell ⟨w.heap.size + 1 + 1,8,none⟩ j) A1 cap1 D1.l := by
 have e1 := v.lo
 have e2 := v.hi
 exact ⟨qeg _ _ _ _ _ _ _ _ _ _ _ _ _ _ _ _ _ _ _ _ _ v.m2,(((v.got.set7 (by omega) (by omega) _ _ _ _ _ _ _).set1 (by omega) (by omega) _ _).set1 (by omega) (by omega) _ _).got (by omega)⟩
end
def qbP (w w' : World) (A : Option Addr) (cap : Nat) (D : Dsk) (n : Int) (was h : Hd) (l : List Ent) (en : Ending) : Prop :=
 ∃ A' cap' n',en = .returned (.tuple #[vauV A' cap' (D.saveV was h l).1.1 n' (D.saveV was h l).2, .int .i64 (((D.saveV was h l).1.2 : Nat) : Int)]) /\ Got w A cap D.l w' A' cap' (D.saveV was h l).1.1.l /\ 0 <= n' /\ n' <= n + (l.length : Int) + 1
theorem qhJ {D : Dsk} {was h : Hd} {l : List Ent} (hn : (l.all rightE && rightH h) = false) : D.saveV was h l = ((D,1),was) := by
 unfold Dsk.saveV
 rw [hn,if_neg (by simp)]
theorem qgt {l : List Ent} (hr : ∀ x ∈ l,rightE x = true) : (l.map qB).map btl = l.map entRec := by
 rw [List.map_map]
 exact List.map_congr_left fun x hx => qku (hr x hx)
theorem qeZ {D : Dsk} {was h : Hd} {l : List Ent} {ts0 : List ByteArray} (hh : rightH h = true) (hr : ∀ x ∈ l,rightE x = true) (e : saveRecs was h l = (ts0.map fun _ => qy h) ++ l.map entRec) (hts : ∀ t ∈ ts0,t = hardStr h := by simp) : D.addedS nWal (ts0 ++ l.map qB) = D.added nWal (saveRecs was h l) := by
 have e1 : (ts0 ++ l.map qB).map btl = saveRecs was h l := by
  rw [List.map_append,qgt hr,e]
  congr 1
  exact List.map_congr_left fun t ht => by rw [hts t ht,qfD hh]
 have hf : fitS (ts0 ++ l.map qB) = true := by
  refine List.all_eq_true.2 fun s hs => ?_
  have hb : (btl s).length <= 60000 := by
   have hm : btl s ∈ saveRecs was h l := by rw [<- e1]; exact List.mem_map_of_mem hs
   exact qdW hr _ hm
  rw [qC] at hb
  exact decide_eq_true hb
 unfold Dsk.addedS
 rw [if_pos hf,e1]
theorem qkx {w : World} {Z : Nat -> Prop} {E : Option Addr} {len ecap : Nat} {l : List Ent} (h : Ents w Z E len ecap l) (k : Nat) (hk : k < len) : ∃ g off F c,E = some ⟨g,off,none⟩ /\ g < w.heap.size /\ w.cell? ⟨g,off + k * 3,none⟩ = some (.int .i64 (l[k]'(by rw [h.1]; exact hk)).i) /\ w.cell? ⟨g,off + k * 3 + 1,none⟩ = some (.int .i64 (l[k]'(by rw [h.1]; exact hk)).t) /\ w.cell? ⟨g,off + k * 3 + 2,none⟩ = some (.slice F (l[k]'(by rw [h.1]; exact hk)).d.length c) := by
 obtain ⟨g,off,F,c,e,hg,c0,c1,c2,_⟩ := h.at_ k hk
 exact ⟨g,off,F,c,e,hg,c0,c1,c2⟩
theorem qfH (A : Option Addr) (cap : Nat) (D : Dsk) (n : Int) (was h : Hd) (Z : Nat -> Prop) (E : Option Addr) (len ecap : Nat) (l : List Ent) (w : World) (hR : RF w A cap D.l) (hG : Good D) (hE : Ents w Z E len ecap l) (hm : len <= 1000) (hn : 0 <= n /\ n <= 1000000000) :
 Calls Tryz.prog 16 #[vauV A cap D n was, .agg #[.int .i64 h.t, .int .i64 h.v], .slice E len ecap] w fun en w' => qbP w w' A cap D n was h l en := by
 have hll := hE.1
 have hb0 : Below w.heap.size w (((w.alloc (.cells (vauC A cap D n was) 45)).alloc (.cells #[.int .i64 h.t, .int .i64 h.v] 32)).alloc (.cells zeroV 45)) := ((blq.alloc nlq _).alloc (by simp) _).alloc (by simp; omega) _
 have h0 : VAt w (((w.alloc (.cells (vauC A cap D n was) 45)).alloc (.cells #[.int .i64 h.t, .int .i64 h.v] 32)).alloc (.cells zeroV 45)) (w.heap.size + 3) A cap D.l A cap D n h was :=
  ⟨(Below.heap_alloc _ _ _ (by simp; omega)).trans ((Below.heap_alloc _ _ _ (by simp)).trans (heap_alloc_new _ _)),(Below.heap_alloc _ _ _ (by simp)).trans (heap_alloc2_new _ _ _),by
    have := heap_alloc_new ((w.alloc (.cells (vauC A cap D n was) 45)).alloc (.cells #[.int .i64 h.t, .int .i64 h.v] 32)) (.cells zeroV 45)
    rwa [World.size_alloc,World.size_alloc] at this,⟨hb0, .inl ⟨rfl,rfl,rfl⟩⟩,nlq,by simp⟩
 go_enter Tryz.func16,Tryz.ntmps16
 go_wp2
 generalize (((w.alloc (.cells (vauC A cap D n was) 45)).alloc (.cells #[.int .i64 h.t, .int .i64 h.v] 32)).alloc (.cells zeroV 45)) = W0 at *
 clear hb0
 go_loopg [8,13] len (fun g x8 kk wr => ∃ k : Nat,k + g = len /\ kk = .int .i64 (k : Int) /\ VAt w wr (w.heap.size + 3) A cap D.l A cap D n h was /\ ∀ j (hj : j < l.length),j < k -> rightE l[j] = true)
 case atStart => exact ⟨0,by omega,rfl,h0,fun j _ h => absurd h (by omega)⟩
 case round =>
  clear h0
  obtain ⟨k,hk,rfl,hV,hall⟩ := hrel
  have HK := Lib.hid hk
  by_cases hkn : k < len
  · have hkn' : (k : Int) < (len : Int) := by omega
    obtain ⟨g,off,F,c,rfl,hg,c0,c1,c2⟩ := qkx (hE.below hV.got.1 nlq) k hkn
    have hal : rightE (l[k]'(by omega)) = true -> ∀ j (hj : j < l.length),j < k + 1 -> rightE l[j] = true := fun h j hj hjk => by
     by_cases e : j = k
     · subst e; exact h
     · exact hall j hj (by omega)
    have hno : rightE (l[k]'(by omega)) = false -> (l.all rightE && rightH h) = false := fun hf => by
     rw [Bool.and_eq_false_iff]
     refine .inl ?_
     cases ha : l.all rightE with
     | false => rfl
     | true =>
       have := List.all_eq_true.1 ha _ (List.getElem_mem (show k < l.length by omega))
       rw [hf] at this
       cases this
    have hrr := fun W => qcL (l[k]'(by omega)).i (l[k]'(by omega)).t F (l[k]'(by omega)).d.length c W
    change ∀ W,Calls _ _ _ W (fun e w' => e = .returned (.bool (rightE (l[k]'(by omega)))) /\ Below W.heap.size W w') at hrr
    generalize rightE (l[k]'(by omega)) = b at *
    generalize (l[k]'(by omega)).i = qi at *
    generalize (l[k]'(by omega)).t = qt at *
    generalize (l[k]'(by omega)).d.length = qn at *
    go_wp2_with fail
    refine (hrr _).mono ?_
    rintro e w1 ⟨rfl,hb1⟩
    have hV1 := hV.below hb1
    clear hV hb1 hrr c0 c1 c2
    cases b with
    | true =>
      have HA := Lib.hid (hal rfl)
      have HV := Lib.hid hV1
      clear hal hno hall hV1
      go_wp2
      go_roundg (gk - 1)
      case measure => have : k + gk = len := HK.out; omega
      case rel => exact ⟨k + 1,by have : k + gk = len := HK.out; omega,by go_num,HV.out,HA.out⟩
    | false =>
      have HN := Lib.hid (qhJ (D := D) (was := was) (hno rfl))
      have HL := Lib.hid hV1
      obtain ⟨⟨a0,a1,a2,a3,a4,a5,a6,a7,a8⟩,_⟩ := row9 hV1.m0
      obtain ⟨_,⟨d0,d1,d2,d3,d4,d5,d6,d7,d8⟩⟩ := row9 hV1.m2
      have hz : w.heap.size + 1 + 1 < w1.heap.size := hlt hV1.m2
      clear hal hno hall hV1
      go_wp2
      refine bodyPost_ret (qa (n := w.heap.size + 1 + 1) rfl rfl (HL.out.answer _ _ _ _ _ _ _ _ _).1 Tryz.underlying45 rfl (by kernel_rfl)) rfl ?_
      unfold qbP
      rw [HN.out]
      exact ⟨A,cap,n,rfl,(HL.out.answer _ _ _ _ _ _ _ _ _).2,hn.1,by omega⟩
  · obtain rfl : len = k := by omega
    have hkk : ¬ ((len : Int) < (len : Int)) := by omega
    have hallr : ∀ x ∈ l,rightE x = true := fun x hx => by
     obtain ⟨j,hj,rfl⟩ := List.getElem_of_mem hx
     exact hall j hj (by omega)
    have hH := fun W => qdn h.t h.v W
    change ∀ W,Calls _ _ _ W (fun e w' => e = .returned (.bool (rightH h)) /\ Below W.heap.size W w') at hH
    obtain ⟨⟨y0,y1⟩,_⟩ := row2 hV.mh
    have hnoH : rightH h = false -> (l.all rightE && rightH h) = false := fun e => by rw [e,Bool.and_false]
    generalize hrh : rightH h = b at hH
    go_wp2_with fail
    refine (hH _).mono ?_
    rintro e w1 ⟨rfl,hb1⟩
    have hV1 := hV.below hb1
    clear hV hb1 hH y0 y1 hall
    cases b with
    | false =>
      have HN := Lib.hid (qhJ (D := D) (was := was) (hnoH hrh))
      have HL := Lib.hid hV1
      obtain ⟨⟨a0,a1,a2,a3,a4,a5,a6,a7,a8⟩,_⟩ := row9 hV1.m0
      obtain ⟨_,⟨d0,d1,d2,d3,d4,d5,d6,d7,d8⟩⟩ := row9 hV1.m2
      have hz : w.heap.size + 1 + 1 < w1.heap.size := hlt hV1.m2
      clear hV1 hnoH hrh hallr
      go_wp2
      refine bodyPost_ret (qa (n := w.heap.size + 1 + 1) rfl rfl (HL.out.answer _ _ _ _ _ _ _ _ _).1 Tryz.underlying45 rfl (by kernel_rfl)) rfl ?_
      unfold qbP
      rw [HN.out]
      exact ⟨A,cap,n,rfl,(HL.out.answer _ _ _ _ _ _ _ _ _).2,hn.1,by omega⟩
    | true =>
      have hcase : h = was \/ (h.t == was.t) = false \/ ((h.t == was.t) = true /\ (h.v == was.v) = false) := by
       by_cases e1 : h.t = was.t
       · by_cases e2 : h.v = was.v
         · left
           cases h; cases was; simp at e1 e2; rw [e1,e2]
         · exact .inr (.inr ⟨beq_iff_eq.2 e1,beq_eq_false_iff_ne.2 e2⟩)
       · exact .inr (.inl (beq_eq_false_iff_ne.2 e1))
      have hS := fun W => qd2 h W
      have hdat : ∀ e ∈ l,e.d.length <= 50000 := fun e he => by have := ((qaB _ _ _).1 (hallr e he)).2.2; omega
      obtain ⟨i0,hi0,hz0,hz1,hz2⟩ := info_parts qdg
      rcases hcase with hw | hw | ⟨hw,hw2⟩
      · obtain rfl : h = was := hw
        obtain ⟨⟨a0,a1,a2,a3,a4,a5,a6,a7,a8⟩,_⟩ := row9 hV1.m0
        obtain ⟨⟨y0,y1⟩,_⟩ := row2 hV1.mh
        go_upto_region 13 with fail
        have hbX := Below.refl w1.heap.size w1
        obtain ⟨ts0,hts0⟩ : ∃ ts0 : List ByteArray,ts0 = [] := ⟨_,rfl⟩
        have hown : w1.ownsRow w1.heap.size 9 1 (.slice none 0 0) 0 (strs ts0) := by rw [hts0]; exact World.ownsRow_nil _ _ _ _
        have hna : ts0.length = 0 := by rw [hts0]; rfl
        have hres : D.addedS nWal (ts0 ++ l.map qB) = D.added nWal (saveRecs h h l) := by rw [hts0]; exact qeZ hrh hallr (by unfold saveRecs; rw [if_pos rfl]; rfl)
        clear hts0
        clear a0 a1 a2 a3 a4 a5 a6 a7 a8 y0 y1
        have hVX := hV1.below hbX
        obtain ⟨⟨a0,a1,a2,a3,a4,a5,a6,a7,a8⟩,_⟩ := row9 hVX.m0
        have hEX := hE.below hVX.got.1 nlq
        have hEn := fun W (hW : Below w1.heap.size w1 W) => qbb Z E len ecap l W (hEX.below hW nlq) (by omega) hdat
        have hAdd := fun W (hW : Below w1.heap.size w1 W) E' ecap' (hS : Strs W E' len ecap' (ts0 ++ l.map qB)) => qeY A cap D nWal n E' len ecap' (ts0 ++ l.map qB) W ((hV1.got.rf hR).below hW nlq) hG hS (by omega) (by omega)
        rw [hres] at hAdd
        have hcntb : ∀ r : Dsk × Nat,0 <= cnt r n (n + (len : Int)) /\ cnt r n (n + (len : Int)) <= n + (len : Int) + 1 := fun r => by unfold cnt; split <;> omega
        have hsv := qeX (D := D) (was := h) hrh hallr
        generalize D.added nWal (saveRecs h h l) = R at *
        obtain ⟨D2,e2⟩ := R
        dsimp only at *
        have HC := Lib.hid (hcntb (D2,e2))
        generalize cnt (D2,e2) n (n + (len : Int)) = N2 at *
        clear hEX hres hcntb
        go_region_law (first
         | (go_simp
            go_at_call 49
            refine (hEn _ (by first | exact blq | exact blq.drew)).mono ?_
            rintro e w2 ⟨v2,rfl,hst⟩
            have hbX2 : Below w1.heap.size w1 w2 := by first | exact hst.2.1 | exact blq.drew.trans hst.2.1
            obtain ⟨Ee,ce,rfl⟩ := hst.2.2
            obtain ⟨hnone2,hcell2⟩ := qbh.cells hll.symm hst
            have hb12 := hbX.trans (hbX2.mono hbX.size)
            have hown2 := qaa hown (fun g hg => hbX2.block g (hown.lt g hg).2)
            obtain ⟨⟨p0,p1,p2,p3,p4,p5,p6,p7,p8⟩,_⟩ := row9 (hV1.below hb12).m0
            have hsz2 := hb12.size)
         | (refine qac _ (by rfl) _ _ (by rfl) w1.heap.size (by first | exact hsz2 | (simp; omega)) (.slice none 0 0) 0 (strs ts0) (by rfl) (by first | exact hown2 | exact hown2.drew) Ee len ce (l.map qB) (by rfl) (by rw [List.length_map]; exact hll) hnone2 (by first | exact hcell2 | exact fun b e j u hu => hcell2 b e j u hu) (by omega) ?_
            intro v3 w3 ho3 hg3 hq3
            have hb3 : Below w1.heap.size w1 w3 := Below.grown (by first | exact hb12 | exact hb12.drew) hg3 (by first | exact hsz2 | (simp; omega)) (fun q hq => (hown2.lt q hq).1)
            rw [<- List.map_append,Nat.zero_add] at ho3
            obtain ⟨E3,c3,rfl,hst3⟩ := qbV (by simp only [List.length_append,List.length_map]; omega) ho3
            obtain ⟨⟨q0,q1,q2,q3,q4,q5,q6,q7,q8⟩,_⟩ := row9 (hV1.below hb3).m0)
         | (go_simp
            go_at_call 56
            refine (hAdd _ (by first | exact hb3 | exact hb3.drew) _ _ (by first | exact hst3 | exact hst3.below blq.drew nlq)).mono ?_
            rintro e w4 ⟨A2,cap2,rfl,hg4⟩
            have hg4' : Got w3 A cap D.l w4 A2 cap2 D2.l := by first | exact hg4 | exact ⟨blq.drew.trans hg4.1,hg4.2⟩
            have hz4 : w.heap.size < w4.heap.size := by have := (hV1.below hb3).hi; have := (hV1.below hb3).lo; have := hg4'.1.size; omega
            obtain ⟨_,⟨f0,f1,f2,f3,f4,f5,f6,f7,f8⟩⟩ := row9 ((hg4'.1.block _ (hlt (hV1.below hb3).m0)).trans (hV1.below hb3).m0)))
        all_goals
         have hV4 := (hV1.below hb3).log hg4' N2
         clear hg4 hg4' hb3 ho3 hg3 hq3 hst3 hst hnone2 hcell2 hown2 hb12 hbX2 hown hEn hAdd hVX hsz2 p0 p1 p2 p3 p4 p5 p6 p7 p8 q0 q1 q2 q3 q4 q5 q6 q7 q8 a0 a1 a2 a3 a4 a5 a6 a7 a8
         go_upto_region 14 with fail
         clear f0 f1 f2 f3 f4 f5 f6 f7 f8 hz4
         generalize (((((((w4.setCell ⟨w.heap.size,0,none⟩ (.int .i64 D2.room)).setCell ⟨w.heap.size,1,none⟩ (.slice A2 D2.l.length cap2)).setCell ⟨w.heap.size,2,none⟩ (.bool D2.set)).setCell ⟨w.heap.size,3,none⟩ (.int .i64 D2.n)).setCell ⟨w.heap.size,4,none⟩ (.bool D2.lost)).setCell ⟨w.heap.size,5,none⟩ (.string nWal)).setCell ⟨w.heap.size,6,none⟩ (.int .i64 N2)) = W4 at *
         obtain ⟨⟨a0,a1,a2,a3,a4,a5,a6,a7,a8⟩,⟨b0,b1,b2,b3,b4,b5,b6,b7,b8⟩⟩ := row9 hV4.m0
         obtain ⟨_,⟨d0,d1,d2,d3,d4,d5,d6,d7,d8⟩⟩ := row9 hV4.m2
         obtain ⟨⟨y0,y1⟩,_⟩ := row2 hV4.mh
         have hz0 : w.heap.size < W4.heap.size := hlt hV4.m0
         have hz2 : w.heap.size + 1 + 1 < W4.heap.size := hlt hV4.m2
         by_cases he2 : e2 = 0
         · subst he2
           rw [if_pos rfl] at hsv
           have HSV := Lib.hid hsv
           have HL := Lib.hid (hV4.hard h.t h.v)
           clear hV4 hsv
           go_wp2
           refine bodyPost_ret (qa (n := w.heap.size + 1 + 1) rfl rfl (HL.out.answer _ _ _ _ _ _ _ _ _).1 Tryz.underlying45 rfl (by kernel_rfl)) rfl ?_
           unfold qbP
           rw [HSV.out,hll]
           exact ⟨A2,cap2,N2,rfl,(HL.out.answer _ _ _ _ _ _ _ _ _).2,HC.out⟩
         · have he2b : ((e2 : Int) == 0) = false := by simp; omega
           rw [if_neg he2] at hsv
           have HSV := Lib.hid hsv
           have HL := Lib.hid hV4
           clear hV4 hsv
           go_wp2
           refine bodyPost_ret (qa (n := w.heap.size + 1 + 1) rfl rfl (HL.out.answer _ _ _ _ _ _ _ _ _).1 Tryz.underlying45 rfl (by kernel_rfl)) rfl ?_
           unfold qbP
           rw [HSV.out,hll]
           exact ⟨A2,cap2,N2,rfl,(HL.out.answer _ _ _ _ _ _ _ _ _).2,HC.out⟩
      · have hne : h ≠ was := fun e => by rw [e] at hw; simp at hw
        obtain ⟨⟨a0,a1,a2,a3,a4,a5,a6,a7,a8⟩,_⟩ := row9 hV1.m0
        obtain ⟨⟨y0,y1⟩,_⟩ := row2 hV1.mh
        go_upto_region 13 with (first
         | (go_at_call 48
            refine (hS _).mono ?_
            rintro e w2 ⟨rfl,hb2⟩
            have hsz := hb2.size)
         | (at_builtin
            refine wpList_append_lies _ rfl _ _ 109 rfl w1.heap.size 9 i0 _ 1 16 Tryz.underlying109 hi0 hz0 hz1 hz2 rfl (by omega) (.slice none 0 0) 0 [] rfl (World.ownsRow_nil _ _ _ _) ⟨w2.heap.size,0,none⟩ 1 1 [.string (hardStr h)] rfl rfl (World.news_of_block (heap_alloc_new w2 _)) (by simp [Value.oneCell']) (by omega) (by unfold maxLen; omega) (by omega) (by simp; omega) (w2.heap.size + 1) (by simp) ?_
            intro g2 cap2 w5 ho5 hgr5 hat5 hlt5)
         | fail)
        have hbX := (hb2.alloc hb2.size (.cells #[.string (hardStr h)] 9)).grown hgr5 (by simp; omega) (fun q hq => by cases hq)
        obtain ⟨ts0,hts0⟩ : ∃ ts0 : List ByteArray,ts0 = [hardStr h] := ⟨_,rfl⟩
        have hown : w5.ownsRow w1.heap.size 9 1 (.slice (some ⟨g2,0,none⟩) 1 cap2) 1 (strs ts0) := by rw [hts0]; exact ho5
        have hna : ts0.length = 1 := by rw [hts0]; rfl
        have hres : D.addedS nWal (ts0 ++ l.map qB) = D.added nWal (saveRecs was h l) := by rw [hts0]; exact qeZ hrh hallr (by unfold saveRecs; rw [if_neg hne]; rfl)
        clear hb2 ho5 hgr5 hat5 hlt5 hts0 hsz
        clear a0 a1 a2 a3 a4 a5 a6 a7 a8 y0 y1
        have hVX := hV1.below hbX
        obtain ⟨⟨a0,a1,a2,a3,a4,a5,a6,a7,a8⟩,_⟩ := row9 hVX.m0
        have hEX := hE.below hVX.got.1 nlq
        have hEn := fun W (hW : Below w5.heap.size w5 W) => qbb Z E len ecap l W (hEX.below hW nlq) (by omega) hdat
        have hAdd := fun W (hW : Below w1.heap.size w1 W) E' ecap' (hS : Strs W E' (1 + len) ecap' (ts0 ++ l.map qB)) => qeY A cap D nWal n E' (1 + len) ecap' (ts0 ++ l.map qB) W ((hV1.got.rf hR).below hW nlq) hG hS (by omega) (by omega)
        rw [hres] at hAdd
        have hcntb : ∀ r : Dsk × Nat,0 <= cnt r n (n + ((1 + len : Nat) : Int)) /\ cnt r n (n + ((1 + len : Nat) : Int)) <= n + (len : Int) + 1 := fun r => by unfold cnt; split <;> omega
        have hsv := qeX (D := D) (was := was) hrh hallr
        generalize D.added nWal (saveRecs was h l) = R at *
        obtain ⟨D2,e2⟩ := R
        dsimp only at *
        have HC := Lib.hid (hcntb (D2,e2))
        generalize cnt (D2,e2) n (n + ((1 + len : Nat) : Int)) = N2 at *
        clear hEX hres hcntb
        go_region_law (first
         | (go_simp
            go_at_call 49
            refine (hEn _ (by first | exact blq | exact blq.drew)).mono ?_
            rintro e w2 ⟨v2,rfl,hst⟩
            have hbX2 : Below w5.heap.size w5 w2 := by first | exact hst.2.1 | exact blq.drew.trans hst.2.1
            obtain ⟨Ee,ce,rfl⟩ := hst.2.2
            obtain ⟨hnone2,hcell2⟩ := qbh.cells hll.symm hst
            have hb12 := hbX.trans (hbX2.mono hbX.size)
            have hown2 := qaa hown (fun g hg => hbX2.block g (hown.lt g hg).2)
            obtain ⟨⟨p0,p1,p2,p3,p4,p5,p6,p7,p8⟩,_⟩ := row9 (hV1.below hb12).m0
            have hsz2 := hb12.size)
         | (refine qac _ (by rfl) _ _ (by rfl) w1.heap.size (by first | exact hsz2 | (simp; omega)) (.slice (some ⟨g2,0,none⟩) 1 cap2) 1 (strs ts0) (by rfl) (by first | exact hown2 | exact hown2.drew) Ee len ce (l.map qB) (by rfl) (by rw [List.length_map]; exact hll) hnone2 (by first | exact hcell2 | exact fun b e j u hu => hcell2 b e j u hu) (by omega) ?_
            intro v3 w3 ho3 hg3 hq3
            have hb3 : Below w1.heap.size w1 w3 := Below.grown (by first | exact hb12 | exact hb12.drew) hg3 (by first | exact hsz2 | (simp; omega)) (fun q hq => (hown2.lt q hq).1)
            rw [<- List.map_append] at ho3
            obtain ⟨E3,c3,rfl,hst3⟩ := qbV (by simp only [List.length_append,List.length_map]; omega) ho3
            obtain ⟨⟨q0,q1,q2,q3,q4,q5,q6,q7,q8⟩,_⟩ := row9 (hV1.below hb3).m0)
         | (go_simp
            go_at_call 56
            refine (hAdd _ (by first | exact hb3 | exact hb3.drew) _ _ (by first | exact hst3 | exact hst3.below blq.drew nlq)).mono ?_
            rintro e w4 ⟨A2,cap2,rfl,hg4⟩
            have hg4' : Got w3 A cap D.l w4 A2 cap2 D2.l := by first | exact hg4 | exact ⟨blq.drew.trans hg4.1,hg4.2⟩
            have hz4 : w.heap.size < w4.heap.size := by have := (hV1.below hb3).hi; have := (hV1.below hb3).lo; have := hg4'.1.size; omega
            obtain ⟨_,⟨f0,f1,f2,f3,f4,f5,f6,f7,f8⟩⟩ := row9 ((hg4'.1.block _ (hlt (hV1.below hb3).m0)).trans (hV1.below hb3).m0)))
        all_goals
         have hV4 := (hV1.below hb3).log hg4' N2
         clear hg4 hg4' hb3 ho3 hg3 hq3 hst3 hst hnone2 hcell2 hown2 hb12 hbX2 hown hEn hAdd hVX hsz2 p0 p1 p2 p3 p4 p5 p6 p7 p8 q0 q1 q2 q3 q4 q5 q6 q7 q8 a0 a1 a2 a3 a4 a5 a6 a7 a8
         go_upto_region 14 with fail
         clear f0 f1 f2 f3 f4 f5 f6 f7 f8 hz4
         generalize (((((((w4.setCell ⟨w.heap.size,0,none⟩ (.int .i64 D2.room)).setCell ⟨w.heap.size,1,none⟩ (.slice A2 D2.l.length cap2)).setCell ⟨w.heap.size,2,none⟩ (.bool D2.set)).setCell ⟨w.heap.size,3,none⟩ (.int .i64 D2.n)).setCell ⟨w.heap.size,4,none⟩ (.bool D2.lost)).setCell ⟨w.heap.size,5,none⟩ (.string nWal)).setCell ⟨w.heap.size,6,none⟩ (.int .i64 N2)) = W4 at *
         obtain ⟨⟨a0,a1,a2,a3,a4,a5,a6,a7,a8⟩,⟨b0,b1,b2,b3,b4,b5,b6,b7,b8⟩⟩ := row9 hV4.m0
         obtain ⟨_,⟨d0,d1,d2,d3,d4,d5,d6,d7,d8⟩⟩ := row9 hV4.m2
         obtain ⟨⟨y0,y1⟩,_⟩ := row2 hV4.mh
         have hz0 : w.heap.size < W4.heap.size := hlt hV4.m0
         have hz2 : w.heap.size + 1 + 1 < W4.heap.size := hlt hV4.m2
         by_cases he2 : e2 = 0
         · subst he2
           rw [if_pos rfl] at hsv
           have HSV := Lib.hid hsv
           have HL := Lib.hid (hV4.hard h.t h.v)
           clear hV4 hsv
           go_wp2
           refine bodyPost_ret (qa (n := w.heap.size + 1 + 1) rfl rfl (HL.out.answer _ _ _ _ _ _ _ _ _).1 Tryz.underlying45 rfl (by kernel_rfl)) rfl ?_
           unfold qbP
           rw [HSV.out,hll]
           exact ⟨A2,cap2,N2,rfl,(HL.out.answer _ _ _ _ _ _ _ _ _).2,HC.out⟩
         · have he2b : ((e2 : Int) == 0) = false := by simp; omega
           rw [if_neg he2] at hsv
           have HSV := Lib.hid hsv
           have HL := Lib.hid hV4
           clear hV4 hsv
           go_wp2
           refine bodyPost_ret (qa (n := w.heap.size + 1 + 1) rfl rfl (HL.out.answer _ _ _ _ _ _ _ _ _).1 Tryz.underlying45 rfl (by kernel_rfl)) rfl ?_
           unfold qbP
           rw [HSV.out,hll]
           exact ⟨A2,cap2,N2,rfl,(HL.out.answer _ _ _ _ _ _ _ _ _).2,HC.out⟩
      · have hne : h ≠ was := fun e => by rw [e] at hw2; simp at hw2
        obtain ⟨⟨a0,a1,a2,a3,a4,a5,a6,a7,a8⟩,_⟩ := row9 hV1.m0
        obtain ⟨⟨y0,y1⟩,_⟩ := row2 hV1.mh
        go_upto_region 13 with (first
         | (go_at_call 48
            refine (hS _).mono ?_
            rintro e w2 ⟨rfl,hb2⟩
            have hsz := hb2.size)
         | (at_builtin
            refine wpList_append_lies _ rfl _ _ 109 rfl w1.heap.size 9 i0 _ 1 16 Tryz.underlying109 hi0 hz0 hz1 hz2 rfl (by omega) (.slice none 0 0) 0 [] rfl (World.ownsRow_nil _ _ _ _) ⟨w2.heap.size,0,none⟩ 1 1 [.string (hardStr h)] rfl rfl (World.news_of_block (heap_alloc_new w2 _)) (by simp [Value.oneCell']) (by omega) (by unfold maxLen; omega) (by omega) (by simp; omega) (w2.heap.size + 1) (by simp) ?_
            intro g2 cap2 w5 ho5 hgr5 hat5 hlt5)
         | fail)
        have hbX := (hb2.alloc hb2.size (.cells #[.string (hardStr h)] 9)).grown hgr5 (by simp; omega) (fun q hq => by cases hq)
        obtain ⟨ts0,hts0⟩ : ∃ ts0 : List ByteArray,ts0 = [hardStr h] := ⟨_,rfl⟩
        have hown : w5.ownsRow w1.heap.size 9 1 (.slice (some ⟨g2,0,none⟩) 1 cap2) 1 (strs ts0) := by rw [hts0]; exact ho5
        have hna : ts0.length = 1 := by rw [hts0]; rfl
        have hres : D.addedS nWal (ts0 ++ l.map qB) = D.added nWal (saveRecs was h l) := by rw [hts0]; exact qeZ hrh hallr (by unfold saveRecs; rw [if_neg hne]; rfl)
        clear hb2 ho5 hgr5 hat5 hlt5 hts0 hsz
        clear a0 a1 a2 a3 a4 a5 a6 a7 a8 y0 y1
        have hVX := hV1.below hbX
        obtain ⟨⟨a0,a1,a2,a3,a4,a5,a6,a7,a8⟩,_⟩ := row9 hVX.m0
        have hEX := hE.below hVX.got.1 nlq
        have hEn := fun W (hW : Below w5.heap.size w5 W) => qbb Z E len ecap l W (hEX.below hW nlq) (by omega) hdat
        have hAdd := fun W (hW : Below w1.heap.size w1 W) E' ecap' (hS : Strs W E' (1 + len) ecap' (ts0 ++ l.map qB)) => qeY A cap D nWal n E' (1 + len) ecap' (ts0 ++ l.map qB) W ((hV1.got.rf hR).below hW nlq) hG hS (by omega) (by omega)
        rw [hres] at hAdd
        have hcntb : ∀ r : Dsk × Nat,0 <= cnt r n (n + ((1 + len : Nat) : Int)) /\ cnt r n (n + ((1 + len : Nat) : Int)) <= n + (len : Int) + 1 := fun r => by unfold cnt; split <;> omega
        have hsv := qeX (D := D) (was := was) hrh hallr
        generalize D.added nWal (saveRecs was h l) = R at *
        obtain ⟨D2,e2⟩ := R
        dsimp only at *
        have HC := Lib.hid (hcntb (D2,e2))
        generalize cnt (D2,e2) n (n + ((1 + len : Nat) : Int)) = N2 at *
        clear hEX hres hcntb
        go_region_law (first
         | (go_simp
            go_at_call 49
            refine (hEn _ (by first | exact blq | exact blq.drew)).mono ?_
            rintro e w2 ⟨v2,rfl,hst⟩
            have hbX2 : Below w5.heap.size w5 w2 := by first | exact hst.2.1 | exact blq.drew.trans hst.2.1
            obtain ⟨Ee,ce,rfl⟩ := hst.2.2
            obtain ⟨hnone2,hcell2⟩ := qbh.cells hll.symm hst
            have hb12 := hbX.trans (hbX2.mono hbX.size)
            have hown2 := qaa hown (fun g hg => hbX2.block g (hown.lt g hg).2)
            obtain ⟨⟨p0,p1,p2,p3,p4,p5,p6,p7,p8⟩,_⟩ := row9 (hV1.below hb12).m0
            have hsz2 := hb12.size)
         | (refine qac _ (by rfl) _ _ (by rfl) w1.heap.size (by first | exact hsz2 | (simp; omega)) (.slice (some ⟨g2,0,none⟩) 1 cap2) 1 (strs ts0) (by rfl) (by first | exact hown2 | exact hown2.drew) Ee len ce (l.map qB) (by rfl) (by rw [List.length_map]; exact hll) hnone2 (by first | exact hcell2 | exact fun b e j u hu => hcell2 b e j u hu) (by omega) ?_
            intro v3 w3 ho3 hg3 hq3
            have hb3 : Below w1.heap.size w1 w3 := Below.grown (by first | exact hb12 | exact hb12.drew) hg3 (by first | exact hsz2 | (simp; omega)) (fun q hq => (hown2.lt q hq).1)
            rw [<- List.map_append] at ho3
            obtain ⟨E3,c3,rfl,hst3⟩ := qbV (by simp only [List.length_append,List.length_map]; omega) ho3
            obtain ⟨⟨q0,q1,q2,q3,q4,q5,q6,q7,q8⟩,_⟩ := row9 (hV1.below hb3).m0)
         | (go_simp
            go_at_call 56
            refine (hAdd _ (by first | exact hb3 | exact hb3.drew) _ _ (by first | exact hst3 | exact hst3.below blq.drew nlq)).mono ?_
            rintro e w4 ⟨A2,cap2,rfl,hg4⟩
            have hg4' : Got w3 A cap D.l w4 A2 cap2 D2.l := by first | exact hg4 | exact ⟨blq.drew.trans hg4.1,hg4.2⟩
            have hz4 : w.heap.size < w4.heap.size := by have := (hV1.below hb3).hi; have := (hV1.below hb3).lo; have := hg4'.1.size; omega
            obtain ⟨_,⟨f0,f1,f2,f3,f4,f5,f6,f7,f8⟩⟩ := row9 ((hg4'.1.block _ (hlt (hV1.below hb3).m0)).trans (hV1.below hb3).m0)))
        all_goals
         have hV4 := (hV1.below hb3).log hg4' N2
         clear hg4 hg4' hb3 ho3 hg3 hq3 hst3 hst hnone2 hcell2 hown2 hb12 hbX2 hown hEn hAdd hVX hsz2 p0 p1 p2 p3 p4 p5 p6 p7 p8 q0 q1 q2 q3 q4 q5 q6 q7 q8 a0 a1 a2 a3 a4 a5 a6 a7 a8
         go_upto_region 14 with fail
         clear f0 f1 f2 f3 f4 f5 f6 f7 f8 hz4
         generalize (((((((w4.setCell ⟨w.heap.size,0,none⟩ (.int .i64 D2.room)).setCell ⟨w.heap.size,1,none⟩ (.slice A2 D2.l.length cap2)).setCell ⟨w.heap.size,2,none⟩ (.bool D2.set)).setCell ⟨w.heap.size,3,none⟩ (.int .i64 D2.n)).setCell ⟨w.heap.size,4,none⟩ (.bool D2.lost)).setCell ⟨w.heap.size,5,none⟩ (.string nWal)).setCell ⟨w.heap.size,6,none⟩ (.int .i64 N2)) = W4 at *
         obtain ⟨⟨a0,a1,a2,a3,a4,a5,a6,a7,a8⟩,⟨b0,b1,b2,b3,b4,b5,b6,b7,b8⟩⟩ := row9 hV4.m0
         obtain ⟨_,⟨d0,d1,d2,d3,d4,d5,d6,d7,d8⟩⟩ := row9 hV4.m2
         obtain ⟨⟨y0,y1⟩,_⟩ := row2 hV4.mh
         have hz0 : w.heap.size < W4.heap.size := hlt hV4.m0
         have hz2 : w.heap.size + 1 + 1 < W4.heap.size := hlt hV4.m2
         by_cases he2 : e2 = 0
         · subst he2
           rw [if_pos rfl] at hsv
           have HSV := Lib.hid hsv
           have HL := Lib.hid (hV4.hard h.t h.v)
           clear hV4 hsv
           go_wp2
           refine bodyPost_ret (qa (n := w.heap.size + 1 + 1) rfl rfl (HL.out.answer _ _ _ _ _ _ _ _ _).1 Tryz.underlying45 rfl (by kernel_rfl)) rfl ?_
           unfold qbP
           rw [HSV.out,hll]
           exact ⟨A2,cap2,N2,rfl,(HL.out.answer _ _ _ _ _ _ _ _ _).2,HC.out⟩
         · have he2b : ((e2 : Int) == 0) = false := by simp; omega
           rw [if_neg he2] at hsv
           have HSV := Lib.hid hsv
           have HL := Lib.hid hV4
           clear hV4 hsv
           go_wp2
           refine bodyPost_ret (qa (n := w.heap.size + 1 + 1) rfl rfl (HL.out.answer _ _ _ _ _ _ _ _ _).1 Tryz.underlying45 rfl (by kernel_rfl)) rfl ?_
           unfold qbP
           rw [HSV.out,hll]
           exact ⟨A2,cap2,N2,rfl,(HL.out.answer _ _ _ _ _ _ _ _ _).2,HC.out⟩
end Go.Proofs.YtmeoooojmhhahaaGreat
