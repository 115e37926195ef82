/- The program's place, by its contract. -/
import Derived.Test.YtogbhedbgcmckaaGreatNNM15
import Derived.Test.YtogbhedbgcmckaaGreatNNM13
import Derived.Test.YtogbhedbgcmckaaGreatNNM11
set_option linter.unusedVariables false
set_option linter.unusedSimpArgs false
set_option maxRecDepth 100000
set_option maxHeartbeats 3200000
namespace Go.Proofs.YtogbhedbgcmckaaGreat
open Go.RowKit
def qfC (w : World) (b B : Nat) (h : Hd) (l : List Ent) (x : Ent) (e : Ending) (w' : World) : Prop :=
 qa (· < B) w w' /\ match putE l x with
  | some m => e = .returned (.bool true) /\ ∃ A' c',Tld w' b B h A' c' m
  | none => e = .returned (.bool false)
structure PlAt (w wr : World) (b B : Nat) (h : Hd) (A : Option Addr) (c : Nat) (l : List Ent) (x : Ent) (E : Option Addr) (ec : Nat) : Prop where
 tld : Tld wr b B h A c l
 box : wr.heap[w.heap.size]? = some (.cells #[.int .i64 x.i, .int .i64 x.t, .slice E x.d.length ec] 117)
 below : Below w.heap.size w wr
theorem PlAt.next {w wr w2 : World} {b B : Nat} {h : Hd} {A : Option Addr} {c : Nat} {l : List Ent} {x : Ent} {E : Option Addr} {ec : Nat} (hP : PlAt w wr b B h A c l x E ec) (hb : Below wr.heap.size wr w2) : PlAt w w2 b B h A c l x E ec :=
 ⟨hP.tld.below hb,(hb.block _ (hlt hP.box)).trans hP.box,hP.below.trans (hb.mono hP.below.size)⟩
structure qc4 (W : World) (b B : Nat) (A : Option Addr) (m c : Nat) (lm : List Ent) (xs : List Lay) : Prop where
 own : W.ownsRow B 117 3 (.slice A m c) m (rowOf xs)
 yv : ∀ g,(Value.slice A m c).ownBlock = some g -> B <= g /\ g ≠ b
 map : xs.map (·.e) = lm
 ok : ∀ x ∈ xs,qs W (fun q => (B <= q /\ q ≠ b) /\ (Value.slice A m c).ownBlock ≠ some q) x
theorem qc4.below {w W : World} {b B : Nat} {A : Option Addr} {m c : Nat} {lm : List Ent} {xs : List Lay} (h : qc4 w b B A m c lm xs) (hb : Below w.heap.size w W) : qc4 W b B A m c lm xs :=
 ⟨qes h.own fun g hg => hb.block g (h.own.lt g hg).2,h.yv,h.map,fun x hx => (h.ok x hx).keep hb.size fun k hk _ => hb.block k hk⟩
theorem Tld.rowAt {w : World} {b B : Nat} {h : Hd} {A : Option Addr} {c : Nat} {l : List Ent} (hT : Tld w b B h A c l) (m : Nat) (hm : m <= l.length) : ∃ xs,qc4 w b B A m c (l.take m) xs := by
 obtain ⟨xs,ho,hyv,hxs,hok⟩ := hT.row.take m hm
 have hlm : (l.take m).length = m := by rw [List.length_take]; omega
 rw [hlm] at ho;exact ⟨xs,ho,hyv,hxs,hok⟩
theorem qet {w wr W w8 : World} {b B : Nat} {h : Hd} {A : Option Addr} {c : Nat} {l : List Ent} {x : Ent} {E : Option Addr} {ec m g cap : Nat} (hP : PlAt w wr b B h A c l x E ec) (hbw : b < w.heap.size) (hW : Below wr.heap.size wr W) (hm : m <= l.length) (hput : putE l x = some (l.take m ++ [x]))
 (hd : Lies w E x.d.length ec x.d) (hec : ec <= maxLen) (hdz : 0 < x.d.length -> ∀ q o,E = some ⟨q,o,none⟩ -> B <= q /\ (Value.slice A l.length c).ownBlock ≠ some q /\ q ≠ b)
 (xs : List Lay) (hra : qc4 W b B A m c (l.take m) xs)
 (ho : w8.ownsRow B 117 3 (.slice (some ⟨g,0,none⟩) (m + 1) cap) (m + 1) (rowOf xs ++ [.int .i64 x.i, .int .i64 x.t, .slice E x.d.length ec]))
 (hg : (W.alloc (.cells #[.int .i64 x.i, .int .i64 x.t, .slice E x.d.length ec] 117)).grownBy w8 (Value.slice A m c).ownBlock) (hq : (Value.slice A m c).ownBlock = some g \/ g = W.heap.size + 1) :
 qfC w b B h l x (.returned (.bool true)) (w8.setCell ⟨b,2,none⟩ (.slice (some ⟨g,0,none⟩) (m + 1) cap)) := by
 have hxs := hra.map;have hyv := hra.yv;have hok := hra.ok;have hs1 := hP.below.size;have hs2 := hW.size;have hlo := hP.tld.lo;have hbW : Below w.heap.size w W := hP.below.trans (hW.mono hs1);have hA : Below W.heap.size W (W.alloc (.cells #[.int .i64 x.i, .int .i64 x.t, .slice E x.d.length ec] 117)) := (Below.refl _ _).alloc (Nat.le_refl _) _
 have hsz : (W.alloc (.cells #[.int .i64 x.i, .int .i64 x.t, .slice E x.d.length ec] 117)).heap.size = W.heap.size + 1 := by simp
 have hlt' : ∀ q o,0 < x.d.length -> E = some ⟨q,o,none⟩ -> q < w.heap.size := fun q o h0 e => by
  obtain ⟨q',o',e',hq,_⟩ := hd.2.2.2 h0;rw [e] at e';injection e' with e';injection e' with e1 _;omega
 have hlm : (l.take m).length = m := by rw [List.length_take]; omega
 have hrow : qz w8 B (fun q => B <= q /\ q ≠ b) (.slice (some ⟨g,0,none⟩) ((l.take m).length + 1) cap) (l.take m ++ [x]) := by
  refine qz.more (w := W) (w1 := W.alloc (.cells #[.int .i64 x.i, .int .i64 x.t, .slice E x.d.length ec] 117)) (v := .slice A m c) (A := E) (c := ec) hA.size (fun k hk _ => hA.block k hk) ⟨Nat.le_refl _,hd.below (hbW.trans (hA.mono hbW.size)) (Nat.le_refl _),fun h0 q o e => ?_⟩ xs hxs hok hyv ⟨by rw [hsz]; omega,by rw [hsz]; omega⟩ (fun h0 q o e => by rw [hsz]; have := hlt' q o h0 e; omega) (by rw [hlm]; exact ho) hg (by rw [hsz]; exact hq);have h1 := hdz h0 q o e;exact ⟨⟨h1.1,h1.2.2⟩,fun er => h1.2.1 (by rw [<- er]; exact qcZ _ _ _ _ _)⟩
 have hbox8 : w8.heap[b]? = some (.cells #[.int .i64 h.t, .int .i64 h.v, .slice A l.length c] 131) := by
  rw [hg.block b (by rw [hsz]; omega) (fun e => (hyv b e.symm).2 rfl),hA.block b (by omega),hW.block b (by omega)];exact hP.tld.box
 unfold qfC;rw [hput];refine ⟨?_,rfl,some ⟨g,0,none⟩,cap,⟨?_,?_,hlo⟩⟩
 · have k1 : qa (· < B) w (W.alloc (.cells #[.int .i64 x.i, .int .i64 x.t, .slice E x.d.length ec] 117)) := qb (hbW.trans (hA.mono hbW.size)) (Nat.le_refl _)
   have k2 : qa (· < B) (W.alloc (.cells #[.int .i64 x.i, .int .i64 x.t, .slice E x.d.length ec] 117)) w8 := qb4 hg fun k hk => by have := (hyv k hk).1; show ¬ k < B; omega
   exact (k1.trans k2).trans (qg _ _ _ (by show ¬ b < B; omega))
 · have e : (l.take m ++ [x]).length = m + 1 := by rw [List.length_append,hlm,List.length_singleton]
   rw [e];exact setCell_at w8 ⟨b,2,none⟩ _ _ _ _ rfl hbox8
 · have e : (l.take m ++ [x]).length = m + 1 := by rw [List.length_append,hlm,List.length_singleton]
   rw [e];rw [hlm] at hrow;exact hrow.keep (by simp) fun k hk hy => Below.heap_setCell _ _ _ _ (by exact hy.2)
theorem qgO {w wr W w8 : World} {b B : Nat} {h : Hd} {A : Option Addr} {c : Nat} {l : List Ent} {x : Ent} {E : Option Addr} {ec m : Nat} {lm : List Ent} {xs : List Lay} {C : Obj} (hP : PlAt w wr b B h A c l x E ec) (hbw : b < w.heap.size) (hW : Below wr.heap.size wr W) (hra : qc4 W b B A m c lm xs) (hg : (W.alloc C).grownBy w8 (Value.slice A m c).ownBlock) :
 w8.heap[b]? = some (.cells #[.int .i64 h.t, .int .i64 h.v, .slice A l.length c] 131) := by
 have hs1 := hP.below.size;have hs2 := hW.size;have hA : Below W.heap.size W (W.alloc C) := (Below.refl _ _).alloc (Nat.le_refl _) _;rw [hg.block b (by simp; omega) (fun e => (hra.yv b e.symm).2 rfl),hA.block b (by omega),hW.block b (by omega)];exact hP.tld.box
theorem qiC (w : World) (b B : Nat) (h : Hd) (A : Option Addr) (c : Nat) (l : List Ent) (x : Ent) (E : Option Addr) (ec : Nat) (hT : Tld w b B h A c l) (hx : rightE x = true) (hg : qM l) (hlen : l.length <= 100000) (hd : Lies w E x.d.length ec x.d) (hec : ec <= maxLen)
 (hdz : 0 < x.d.length -> ∀ q o,E = some ⟨q,o,none⟩ -> B <= q /\ (Value.slice A l.length c).ownBlock ≠ some q /\ q ≠ b) :
 Calls Tryz.prog 151 #[.pointer (some ⟨b,0,none⟩),entV x.i x.t E x.d.length ec] w (qfC w b B h l x) := by
 have hb0 : Below w.heap.size w (w.alloc (.cells #[.int .i64 x.i, .int .i64 x.t, .slice E x.d.length ec] 117)) := (Below.refl _ _).alloc (Nat.le_refl _) _;have hP0 : PlAt w (w.alloc (.cells #[.int .i64 x.i, .int .i64 x.t, .slice E x.d.length ec] 117)) b B h A c l x E ec := ⟨hT.below hb0,heap_alloc_new _ _,hb0⟩;obtain ⟨⟨t0,t1,t2⟩,_⟩ := row3 hP0.tld.box;have hcap := hT.row.cap
 go_enter Tryz.func151,Tryz.ntmps151
 go_wp2;clear t0 t1 t2
 go_loopg [5] l.length (fun g v wr => ∃ m : Nat,m = g /\ m <= l.length /\ v = .slice A m c /\ Hid (∀ j (hj : j < l.length),m <= j -> x.i <= l[j].i) /\ PlAt w wr b B h A c l x E ec)
 case atStart => exact ⟨_,rfl,Nat.le_refl _,rfl,⟨fun j hj hm => absurd hj (by omega)⟩,hP0⟩
 case round =>
  clear hP0 hb0;obtain ⟨m,hmg,hm,rfl,HI,hP⟩ := hrel;have HM := Lib.hid hmg;clear hmg
  by_cases h0 : 0 < m
  · obtain ⟨k,hk⟩ : ∃ k,Hid (m = k + 1) := ⟨m - 1,⟨by omega⟩⟩
    have hkl : k < l.length := by have := hk.out; omega
    obtain ⟨g,off,F,fc,hA,hgl,c0,c1,c2,_⟩ := hP.tld.row.ents.at_ k hkl;subst hA;obtain ⟨⟨x0,x1,x2⟩,_⟩ := row3 hP.box
    have e1 : IntKind.i64.wrap ((m : Int) - 1) = (k : Int) := by rw [IntWalk.i64_in _ (by have := hk.out; omega)]; have := hk.out; omega
    have e2 : wrap64 ((m : Int) - 1) = (k : Int) := by have := e1; rw [IntWalk.i64_left] at this; exact this
    have hkm : k < m := by have := hk.out; omega
    have hd1 : decide (0 < m) = true := decide_eq_true h0;have hd2 : decide (k < m) = true := decide_eq_true hkm
    have hsl := fun W => qhz (some ⟨g,off,none⟩) m c k (by omega) W
    by_cases hge : x.i <= l[k].i
    · have HG := Lib.hid hge
      have HN := Lib.hid (show ∀ j (hj : j < l.length),k <= j -> x.i <= l[j].i from fun j hj hkj => by
       rcases Nat.eq_or_lt_of_le hkj with rfl | hlt
       · exact hge
       · exact HI.out j hj (by have := hk.out; omega))
      have HP := Lib.hid hP;generalize l[k] = y at *;obtain ⟨yi,yt,yd⟩ := y;dsimp only at *;clear HI hP c1 c2 hkl;have HMM := Lib.hid hm;clear hm;go_wp2
      go_quiet (fail)
      go_wp2
      go_roundg (gk - 1)
      case measure => have e : m = gk := HM; omega
      case rel => exact ⟨k,by have e : m = gk := HM; have := hk.out; omega,by have e : m <= l.length := HMM; omega,rfl,⟨HN.out⟩,PlAt.next HP (qI (Below.refl _ _) _)⟩
    · have hput := qd1 hg x m hm HI.out (fun h0 => by
       have e : m - 1 = k := by have := hk.out; omega
       have e2 : l[m - 1]'(by omega) = l[k] := by congr 1
       rw [e2]; omega)
      rw [dif_pos h0] at hput
      have e2 : l[m - 1]'(by omega) = l[k] := by congr 1; have := hk.out; omega
      rw [e2] at hput
      have hrun := fun i t => qkK (i := i) (t := t) hx
      obtain ⟨xs,hra⟩ := hP.tld.rowAt m hm;generalize l[k] = y at *;obtain ⟨yi,yt,yd⟩ := y;dsimp only at *;have hge' : (x.i <= yi) = False := eq_false hge;have hdge : decide (x.i <= yi) = false := decide_eq_false hge
      have hR := fun W (hW : Below w.heap.size w W) => qdv (fun _ => True) (some ⟨W.heap.size,0,none⟩) 1 1 [x] yi yt _ (qj4 (hd.below hW (Nat.le_refl _)) hec) (by unfold maxLen; omega)
      rw [hrun] at hR;obtain ⟨q,hq⟩ : ∃ q,Hid (decide (yi = x.i - 1 /\ yt <= x.t) = q) := ⟨_,⟨rfl⟩⟩;rw [hq.out] at hR;have HPut := Lib.hid hput;have HP := Lib.hid hP;have HMM := Lib.hid hm;have hbw := hP.below;clear hput hP hm hrun e2 c2 hge hsl;go_wp2
      go_quiet (fail)
      have hP5 := PlAt.next HP (qI (Below.refl _ _) nq);have c05 : (wr.drewN nq).cell? ⟨g,off + k * 3,none⟩ = some (.int .i64 yi) := c0;have c15 : (wr.drewN nq).cell? ⟨g,off + k * 3 + 1,none⟩ = some (.int .i64 yt) := c1;have hra5 := hra.below (qI (Below.refl _ _) nq);clear hra;have hB5 : Below wr.heap.size wr (wr.drewN nq) := qI (Below.refl _ _) nq;generalize wr.drewN nq = W5 at *;have hgl5 : g < W5.heap.size := Nat.lt_of_lt_of_le hgl hB5.size;have hbw5 := hP5.below;obtain ⟨⟨y0,y1,y2⟩,_⟩ := row3 hP5.box;have hbx := hlt hP5.box
      have hst : ∀ W W',Below W5.heap.size W5 W -> Below W.heap.size W W' -> Below W5.heap.size W5 W' /\ W'.cell? ⟨g,off + k * 3,none⟩ = some (.int .i64 yi) /\ W'.cell? ⟨g,off + k * 3 + 1,none⟩ = some (.int .i64 yt) /\ W'.cell? ⟨w.heap.size,0,none⟩ = some (.int .i64 x.i) /\ W'.cell? ⟨w.heap.size,1,none⟩ = some (.int .i64 x.t) /\ W'.cell? ⟨w.heap.size,2,none⟩ = some (.slice E x.d.length ec) := fun W W' h1 h2 => by
       have h3 := h1.trans (h2.mono h1.size);exact ⟨h3,(h3.cell (p := ⟨g,off + k * 3,none⟩) hgl5).trans c05,(h3.cell (p := ⟨g,off + k * 3 + 1,none⟩) hgl5).trans c15,(h3.cell (p := ⟨w.heap.size,0,none⟩) hbx).trans y0,(h3.cell (p := ⟨w.heap.size,1,none⟩) hbx).trans y1,(h3.cell (p := ⟨w.heap.size,2,none⟩) hbx).trans y2⟩
      have hB0 := (Below.refl W5.heap.size W5).drew
      have hR5 := fun W (hW : Below W5.heap.size W5 W) => hR W (hbw5.trans (hW.mono hbw5.size))
      have HP5 := Lib.hid hP5;clear hR c0 c1 x0 x1 x2 HP hP5;go_wp2
      go_region_held3 (fun w' => Below W5.heap.size W5 w' /\ w'.cell? ⟨g,off + k * 3,none⟩ = some (.int .i64 yi) /\ w'.cell? ⟨g,off + k * 3 + 1,none⟩ = some (.int .i64 yt) /\ w'.cell? ⟨w.heap.size,0,none⟩ = some (.int .i64 x.i) /\ w'.cell? ⟨w.heap.size,1,none⟩ = some (.int .i64 x.t) /\ w'.cell? ⟨w.heap.size,2,none⟩ = some (.slice E x.d.length ec))
       (first | exact hS7 | (exact ⟨hB0,c05,c15,y0,y1,y2⟩) | (exact hst _ _ hB0 ((Below.refl _ _).alloc (Nat.le_refl _) _)) | (go_keep; done))
       (first
         | (go_at_call 60
            refine (hR5 _ hB0).mono ?_;rintro e w7 ⟨rfl,hb7⟩
            have hS7 := hst _ w7 (hB0.alloc (Nat.le_refl _) _) hb7))
      have hra7 := hra5.below hS7.1;have ho7 := hra7.own;have HRA := Lib.hid hra7;have hlo := hT.lo;have hbW := hlt hT.box;have hs7 := hS7.1.size;have hbws := hbw5.size;obtain ⟨hB7,z0,z1,z2,z3,z4⟩ := hS7;clear hb7 hst hR5 hB0 c05 c15 y0 y1 y2 hra5;obtain ⟨i0,hi0,hz0,hz1,hz2⟩ := info_parts qa8
      cases q with
      | true =>
        have HPT := Lib.hid (show putE l x = some (l.take m ++ [x]) by
         have e : putE l x = _ := HPut
         rw [e,if_pos (of_decide_eq_true hq.out)])
        have hm' : m <= l.length := HMM;clear HPut hq
        go_wp2_with (first
         | (at_builtin; refine wpList_append_lies _ rfl _ _ 22 rfl B 117 i0 _ 3 40 Tryz.underlying22 hi0 hz0 hz1 hz2 rfl (by omega) (.slice (some ⟨g,off,none⟩) m c) m (rowOf xs) rfl (ho7.alloc _) ⟨w7.heap.size,0,none⟩ 1 1 [.int .i64 x.i, .int .i64 x.t, .slice E x.d.length ec] rfl rfl (World.news_of_block (heap_alloc_new w7 _)) (by simp [Value.oneCell']) (by omega) (by unfold maxLen; omega) (by omega) (by simp; omega) (w7.heap.size + 1) (by simp) ?_
            intro g2 cap3 w8 ho8 hgr8 hat8 hlt8;have hb8 := qgO HP5.out hbW hB7 HRA.out hgr8;obtain ⟨⟨p0,p1,p2⟩,⟨f0,f1,f2⟩⟩ := row3 hb8;have HO8 := Lib.hid ho8;have HG8 := Lib.hid hgr8;have HA8 := Lib.hid hat8
            clear hb8 ho8 hgr8 hat8 hlt8)
         | fail)
        go_ret;exact qet HP5.out hbW hB7 HMM.out HPT.out hd hec hdz xs HRA.out HO8.out HG8.out HA8.out
      | false =>
        have HPT := Lib.hid (show putE l x = none by
         have e : putE l x = _ := HPut
         rw [e,if_neg (of_decide_eq_false hq.out)])
        clear HPut hq;go_wp2;go_ret;refine ⟨?_,?_⟩
        · exact (qb (hbw5.trans (hB7.mono hbw5.size)) (Nat.le_refl _)).mono fun k hk => hk
        · rw [HPT.out]
          rfl
  · obtain rfl : m = 0 := by omega
    have hput := qd1 hg x 0 hm HI.out (fun h0 => absurd h0 (by omega));rw [dif_neg (by omega)] at hput;have HPT := Lib.hid (show putE l x = some (l.take 0 ++ [x]) by rw [hput]; rfl);obtain ⟨xs,hra⟩ := hP.tld.rowAt 0 hm;have HP := Lib.hid hP;have HMM := Lib.hid hm;have hlo := hT.lo;have hbW := hlt hT.box;have hbws := hP.below.size;have hbox := hP.box;clear hput hP hm HI HM h0;go_wp2
    go_quiet (fail)
    have hB5 : Below wr.heap.size wr (wr.drewN nq) := qI (Below.refl _ _) _;generalize wr.drewN nq = W5 at *;go_wp2
    go_quiet (fail)
    have hB7 : Below wr.heap.size wr (W5.drewN nq) := qI hB5 _;clear hB5;generalize W5.drewN nq = w7 at *;obtain ⟨⟨z0,z1,z2⟩,_⟩ := row3 ((hB7.block _ (hlt hbox)).trans hbox);have hra7 := hra.below hB7;have ho7 := hra7.own;have HRA := Lib.hid hra7;have hs7 := hB7.size;clear hra hbox hra7;obtain ⟨i0,hi0,hz0,hz1,hz2⟩ := info_parts qa8
    go_wp2_with (first
     | (at_builtin; refine wpList_append_lies _ rfl _ _ 22 rfl B 117 i0 _ 3 40 Tryz.underlying22 hi0 hz0 hz1 hz2 rfl (by omega) (.slice A 0 c) 0 (rowOf xs) rfl (ho7.alloc _) ⟨w7.heap.size,0,none⟩ 1 1 [.int .i64 x.i, .int .i64 x.t, .slice E x.d.length ec] rfl rfl (World.news_of_block (heap_alloc_new w7 _)) (by simp [Value.oneCell']) (by omega) (by unfold maxLen; omega) (by omega) (by simp; omega) (w7.heap.size + 1) (by simp) ?_
        intro g2 cap3 w8 ho8 hgr8 hat8 hlt8;have hb8 := qgO HP hbW hB7 HRA hgr8;obtain ⟨⟨p0,p1,p2⟩,⟨f0,f1,f2⟩⟩ := row3 hb8;have HO8 := Lib.hid ho8;have HG8 := Lib.hid hgr8;have HA8 := Lib.hid hat8
        clear hb8 ho8 hgr8 hat8 hlt8)
     | fail)
    go_ret;exact qet HP hbW hB7 HMM HPT.out hd hec hdz xs HRA HO8.out HG8.out HA8.out
end Go.Proofs.YtogbhedbgcmckaaGreat
set_option linter.unusedVariables false
set_option linter.unusedSimpArgs false
set_option maxRecDepth 100000
set_option maxHeartbeats 3200000
namespace Go.Proofs.YtogbhedbgcmckaaGreat
open Go.RowKit
theorem qhA (w : World) (i : Nat) (s : St) (Z : Nat -> Prop) (most : Int) (hm : -9223372036854775808 <= most /\ most <= 9223372036854775807) (h : In w i s Z) (hZ : ∀ k,w.heap.size <= k -> Z k) (hL : left s <= 140737488355328) :
 Calls Tryz.prog 179 #[.pointer (some ⟨i,0,none⟩), .int .i64 most] w fun e w' => ∃ D n c,e = .returned (entV (qQ s most).i (qQ s most).t D n c) /\ Lies w' D n c (qQ s most).d /\ (0 < n -> ∀ g off,D = some ⟨g,off,none⟩ -> w.heap.size <= g) /\ In w' i (qQ s most).s Z /\ qa Z w w' /\ c <= maxLen := by
 have h1 := h.below ((Below.refl w.heap.size w).alloc (Nat.le_refl _) (.cells #[.int .i64 0, .int .i64 0, .slice none 0 0] 117)) (Nat.le_refl _);have hr1 := heap_alloc_new w (.cells #[.int .i64 0, .int .i64 0, .slice none 0 0] 117);have hk1 : qa Z w (w.alloc (.cells #[.int .i64 0, .int .i64 0, .slice none 0 0] 117)) := qv _ _
 have hs1 : w.heap.size < (w.alloc (.cells #[.int .i64 0, .int .i64 0, .slice none 0 0] 117)).heap.size := by simp
 have hzb : Z w.heap.size := hZ _ (Nat.le_refl _);have hib : i ≠ w.heap.size := Nat.ne_of_lt h.lt
 have hN1 := fun W hW => qaV W i s Z hW
 have hL1 := qaJ s 8 hL;unfold qQ;generalize numberN s 8 = t1 at *;obtain ⟨n1,s1⟩ := t1;dsimp only at *
 have hN2 := fun W hW => qaV W i s1 Z hW
 have hL2 := qaJ s1 8 hL1;generalize numberN s1 8 = t2 at *;obtain ⟨n2,s2⟩ := t2;dsimp only at *
 have hT := fun W hW => qc9 most hm W i s2 Z hW hL2
 generalize qbc s2 most = t3 at *;obtain ⟨d,s3⟩ := t3;dsimp only at *;rw [IntWalk.i64_left,IntWalk.i64_left] at *;generalize wrap64 (n1 : Int) = z1 at *;generalize wrap64 (n2 : Int) = z2 at *;clear hL hL1 hL2 hm h
 go_enter Tryz.func179,Tryz.ntmps179
 go_wp2_with fail
 refine (hN1 _ h1).mono ?_;rintro e w1 ⟨rfl,h2,k2⟩;have hr2 := (k2.block w.heap.size hs1 hzb).trans hr1;clear h1 hN1
 go_wp2_with fail
 refine (hN2 _ h2).mono ?_;rintro e w2 ⟨rfl,h3,k3⟩;have hr3 := (k3.block w.heap.size (hlt hr2) hzb).trans hr2;clear h2 hN2
 go_wp2_with fail
 refine (hT _ h3).mono ?_;rintro e w3 ⟨D,n,c,rfl,hl4,ho4,h4,k4⟩;have hcm : c <= maxLen := qcl ho4;have hr4 := (k4.block w.heap.size (hlt hr3) hzb).trans hr3;obtain ⟨⟨a0,a1,a2⟩,⟨f0,f1,f2⟩⟩ := row3 hr4;have hkw : qa Z w w3 := ((hk1.trans k2).trans k3).trans k4;have hD2 : w.heap.size < w2.heap.size := hlt hr3
 have hDz : 0 < n -> ∀ g off,D = some ⟨g,off,none⟩ -> w.heap.size < g := fun h0 g off e => by
  subst e;exact Nat.lt_of_lt_of_le hD2 (ho4.lt g rfl).1
 have hfin := Set3.fin (.int .i64 z1) (.int .i64 z2) (.slice D n c) hib hr4 h4 hzb hl4 hDz;clear hT h3 k2 k3 k4 hk1 hr1 hr2 hr3 h4 hl4 ho4 hr4;go_wp2;generalize hX : ((w3.setCell ⟨w.heap.size,0,none⟩ (.int .i64 z1)).setCell ⟨w.heap.size,1,none⟩ (.int .i64 z2)).setCell ⟨w.heap.size,2,none⟩ (.slice D n c) = X at *;refine bodyPost_ret (qE (n := w.heap.size) rfl rfl hfin.row Tryz.underlying117 rfl (by kernel_rfl)) rfl ?_;exact ⟨D,n,c,rfl,hfin.lies,fun h0 g off e => Nat.le_of_lt (hDz h0 g off e),hfin.inn,hkw.own3 hfin.keeps,hcm⟩
theorem qiD (w : World) (i : Nat) (s : St) (Z : Nat -> Prop) (h : In w i s Z) (hZ : ∀ k,w.heap.size <= k -> Z k) (hL : left s <= 140737488355328) :
 Calls Tryz.prog 150 #[.pointer (some ⟨i,0,none⟩)] w fun e w' => ∃ D n c,e = .returned (entV (fromN rightB s 12000).i (fromN rightB s 12000).t D n c) /\ Lies w' D n c (fromN rightB s 12000).d /\ (0 < n -> ∀ g off,D = some ⟨g,off,none⟩ -> w.heap.size <= g) /\ In w' i (fromN rightB s 12000).s Z /\ qa Z w w' /\ c <= maxLen := by
 have h1 := h.below ((Below.refl w.heap.size w).alloc (Nat.le_refl _) (.cells #[.int .i64 0, .int .i64 0, .slice none 0 0] 117)) (Nat.le_refl _);have hr1 := heap_alloc_new w (.cells #[.int .i64 0, .int .i64 0, .slice none 0 0] 117);have hk1 : qa Z w (w.alloc (.cells #[.int .i64 0, .int .i64 0, .slice none 0 0] 117)) := qv _ _
 have hs1 : (w.alloc (.cells #[.int .i64 0, .int .i64 0, .slice none 0 0] 117)).heap.size = w.heap.size + 1 := by simp
 have hzb : Z w.heap.size := hZ _ (Nat.le_refl _);have hib : i ≠ w.heap.size := Nat.ne_of_lt h.lt
 have hT := fun W (hW : In W i s Z) (hZ : ∀ k,W.heap.size <= k -> Z k) => qhA W i s Z 12000 (by omega) hW hZ hL
 unfold fromN;generalize qQ s 12000 = T at *;obtain ⟨ti,tt,td,ts⟩ := T;dsimp only at *;obtain ⟨R,hR⟩ : ∃ R : FromL,R = if ts = none then ⟨0,0,[],none⟩ else if rightB ti tt td.length = true then ⟨ti,tt,td,ts⟩ else ⟨0,0,[],none⟩ := ⟨_,rfl⟩;rw [<- hR];clear hL h
 go_enter Tryz.func150,Tryz.ntmps150
 go_wp2_with fail
 refine (hT _ h1 (fun k hk => hZ k (by omega))).mono ?_;rintro e w1 ⟨D,n,c,rfl,hl1,hD1,h2,k2,hcm⟩;have hr2 := (k2.block w.heap.size (by omega) hzb).trans hr1;have hlb : w.heap.size < w1.heap.size := hlt hr2
 have hD0 : 0 < n -> ∀ g off,D = some ⟨g,off,none⟩ -> w.heap.size < g := fun h0 g off e => by have := hD1 h0 g off e; omega
 have hDz : 0 < n -> ∀ g off,D = some ⟨g,off,none⟩ -> Z g := fun h0 g off e => hZ g (Nat.le_of_lt (hD0 h0 g off e))
 have hkw1 : qa Z w w1 := hk1.trans k2;have hn := hl1.1;rw [hn] at hR;have hZ1 : Z w1.heap.size := hZ _ (Nat.le_of_lt hlb);clear hT h1 k2 hk1 hr1 hs1 hD1 hn
 -- the entry in a block of its own
 have hA1 := (Below.refl w1.heap.size w1).alloc (Nat.le_refl _) (.cells #[.int .i64 ti, .int .i64 tt, .slice D n c] 117);have h3 := h2.below hA1 (Nat.le_refl _);have hr3 := (hA1.block w.heap.size hlb).trans hr2;have hq3 := heap_alloc_new w1 (.cells #[.int .i64 ti, .int .i64 tt, .slice D n c] 117);have hl3 := hl1.below hA1 (Nat.le_refl _);have hkw3 : qa Z w (w1.alloc (.cells #[.int .i64 ti, .int .i64 tt, .slice D n c] 117)) := hkw1.trans (qv _ _);clear h2 hl1 hA1 hr2 hkw1
 have hP := fun W => qbf ti tt D n c W
 generalize rightB ti tt n = r at *;obtain ⟨⟨a0,a1,a2⟩,_⟩ := row3 hq3
 go_wp2_with fail
 refine (hP _).mono ?_;rintro e w2 ⟨rfl,hb2⟩;have h4 := h3.below hb2 (Nat.le_refl _);have hr4 := (hb2.block _ (hlt hr3)).trans hr3;have hq4 := (hb2.block _ (hlt hq3)).trans hq3;have hl4 := hl3.below hb2 (Nat.le_refl _);have hkw4 : qa Z w w2 := hkw3.trans (qb hb2 (Nat.le_refl _));clear h3 hr3 hq3 hl3 hkw3 hb2 a0 a1 a2 hP;have hS := qcG r w2 i ts Z h4
 go_wp2_with fail
 refine hS.mono ?_;rintro e w3 ⟨rfl,h5,k5⟩;have hr5 := (k5.block _ (hlt hr4) hzb).trans hr4;have hq5 := (k5.block _ (hlt hq4) hZ1).trans hq4;have hl5 := hl4.keeps k5 hDz;have hkw5 : qa Z w w3 := hkw4.trans k5;clear hS h4 hr4 hq4 hl4 hkw4 k5;obtain ⟨⟨a0,a1,a2⟩,⟨f0,f1,f2⟩⟩ := row3 hr5;obtain ⟨⟨b0,b1,b2⟩,_⟩ := row3 hq5
 by_cases hyes : r = true /\ ∃ sl,ts = some sl
 · obtain ⟨rfl,sl,rfl⟩ := hyes;rw [if_neg (by simp),if_pos rfl] at hR;rw [if_pos rfl] at h5;have hfin := Set3.fin (.int .i64 ti) (.int .i64 tt) (.slice D n c) hib hr5 h5 hzb hl5 hD0;have HR := Lib.hid hR;clear hR hr5 hq5 h5 hl5;simp only [Option.isSome,Bool.true_and] at *;go_wp2;generalize hX : ((w3.setCell ⟨w.heap.size,0,none⟩ (.int .i64 ti)).setCell ⟨w.heap.size,1,none⟩ (.int .i64 tt)).setCell ⟨w.heap.size,2,none⟩ (.slice D n c) = X at *;refine bodyPost_ret (qE (n := w.heap.size) rfl rfl hfin.row Tryz.underlying117 rfl (by kernel_rfl)) rfl ?_;have e : R = _ := HR;rw [e];exact ⟨D,n,c,rfl,hfin.lies,fun h0 g off e => Nat.le_of_lt (hD0 h0 g off e),hfin.inn,hkw5.own3 hfin.keeps,hcm⟩
 · have hno : (r && ts.isSome) = false := by
    cases r with
    | false => rfl
    | true =>
      cases ts with
      | none => rfl
      | some l => exact absurd ⟨rfl,l,rfl⟩ hyes
   have hRz : R = ⟨0,0,[],none⟩ := by
    rw [hR]
    cases r with
    | false => split <;> rfl
    | true =>
      cases ts with
      | none => rfl
      | some l => exact absurd ⟨rfl,l,rfl⟩ hyes
   have hsz : (if r = true then ts else none) = none := by
    cases r with
    | false => rfl
    | true =>
      cases ts with
      | none => rfl
      | some l => exact absurd ⟨rfl,l,rfl⟩ hyes
   rw [hsz] at h5;have hfin := Set3.fin (.int .i64 0) (.int .i64 0) (.slice none 0 0) hib hr5 h5 hzb (Lies.nil w3) (fun h0 => absurd h0 (by omega));have HR := Lib.hid hRz;clear hR hr5 hq5 h5 hl5 hyes hsz hRz;generalize (r && ts.isSome) = q at *;subst hno;go_wp2;generalize hX : ((w3.setCell ⟨w.heap.size,0,none⟩ (.int .i64 0)).setCell ⟨w.heap.size,1,none⟩ (.int .i64 0)).setCell ⟨w.heap.size,2,none⟩ (.slice none 0 0) = X at *;refine bodyPost_ret (qE (n := w.heap.size) rfl rfl hfin.row Tryz.underlying117 rfl (by kernel_rfl)) rfl ?_;have e : R = _ := HR;rw [e];exact ⟨none,0,0,rfl,hfin.lies,fun h0 => absurd h0 (by omega),hfin.inn,hkw5.own3 hfin.keeps,Nat.zero_le _⟩
end Go.Proofs.YtogbhedbgcmckaaGreat
