/- Sync, Cut, Remove, Rename of the program's disk, each by its contract. -/
import Derived.Test.YtogbhedbgcmckaaGreatNNM08
import Derived.Test.YtogbhedbgcmckaaGreatNNM01
import Derived.Test.YtogbhedbgcmckaaGreatNNM07
import Derived.Deep.QuietTactic
import Derived.Deep.Cut
import Derived.Deep.DeepCutAuto
import Derived.Deep.RegionWith
set_option linter.unusedVariables false
set_option linter.unusedSimpArgs false
set_option maxRecDepth 100000
set_option maxHeartbeats 2000000
namespace Go.Proofs.YtogbhedbgcmckaaGreat
open Go.RowKit
theorem qcK (l : List UInt8) (k : Nat) : (ByteArray.mk l.toArray).extract 0 k = ⟨(l.take k).toArray⟩ := by
 apply ByteArray.ext
 simp
theorem qhe (w : World) (d : Nat) (D : Dsk) (M Z : Nat -> Prop) (name : ByteArray) (h : DkG w d D M Z) (hg : Good D) (hM : ∀ k,M k -> k < w.heap.size) (hZ : ∀ k,Z k -> k < w.heap.size) :
 Calls Tryz.prog 160 #[.pointer (some ⟨d,0,none⟩), .string name] w fun e w' => e = .returned (.int .i64 (((D.remove name).2 : Nat) : Int)) /\ DkG w' d (D.remove name).1 M Z /\ qa (· ≠ d) w w' := by
 obtain ⟨t,h⟩ := h;have HD := Lib.hid h
 go_enter Tryz.func160,Tryz.ntmps160
 go_wp2_with fail
 refine (qbh w d D M Z noX t h name).mono ?_;clear h;rintro e w1 ⟨v,c,rfl,hF,hb1⟩;have hb : Below w.heap.size w (w1.alloc (.cells #[fvS v,fvN v] 93)) := hb1.alloc hb1.size _;have hD := HD.out.below hb;have hk := Lib.hid (qb (Z := (· ≠ d)) hb (Nat.le_refl _));rcases hF with ⟨hm,rfl,rfl⟩ | ⟨hm,hget,rfl,rfl⟩ | ⟨hm,hget2,rfl,hmem,hget⟩
 · have HS : Hid (D.remove name = (D,D.may name name)) := ⟨by simp [Dsk.remove,hm]⟩;have HX := Lib.hid hD;clear hD;generalize D.may name name = c at *
   have hm' : ¬ ((c : Int) = 0) := by omega
   go_wp2;go_ret;exact ⟨by rw [HS.out]; rfl,by rw [HS.out]; exact ⟨t,HX.out⟩,hk.out⟩
 · have HS : Hid (D.remove name = (D,6)) := ⟨by simp [Dsk.remove,hm,hget]⟩;have HX := Lib.hid hD;clear hD;go_wp2;go_ret;exact ⟨by rw [HS.out]; rfl,by rw [HS.out]; exact ⟨t,HX.out⟩,hk.out⟩
 · have hlost := (qaK (D := D) (a := name) (b := name) (fun e => e hm)).1
   have hs : D.remove name = D.done (qj (name,noFV)) name := by
    simp only [Dsk.remove,hm,hget]
    rfl
   have hd := HD.out.lt;have hbox : (w1.alloc (.cells #[fvS v,fvN v] 93)).heap[w1.heap.size]? = some (.cells #[fvS v,fvN v] 93) := heap_alloc_new _ _
   have hne : w1.heap.size ≠ d := by have := hb1.size; omega
   go_wp2_with fail
   refine (qbg _ d D M Z noX t hD hg hlost).mono ?_;rintro e w3 ⟨rfl,hD3,hk3⟩;have hbox3 := (hk3.block w1.heap.size (Go.Proofs.YtogbhedbgcmckaaGreat.hlt hbox) hne).trans hbox;obtain ⟨⟨k0,k1⟩,_⟩ := row2 hbox3;have hsz := hk3.size;have hkk := Lib.hid (hk.out.trans hk3);have hsw : w.heap.size <= w3.heap.size := hkk.out.size;clear hD hbox hk
   by_cases hbl : D.burn.lost = true
   · rw [if_pos hbl];have HS : Hid (D.remove name = (D.burn,5)) := ⟨by rw [hs,qc1 D _ name hbl]⟩;have HX := Lib.hid hD3;clear hD3;go_wp2;go_ret;exact ⟨by rw [HS.out]; rfl,by rw [HS.out]; exact ⟨t,HX.out⟩,hkk.out⟩
   · rw [if_neg hbl];have HS : Hid (D.remove name = ({ D.burn with l := putF D.burn.l (qj (name,noFV)) },0)) := ⟨by rw [hs,qdZ D _ name hbl rfl]⟩;have hSe := qdr w3 w3 d D.burn M Z t name v noFV hD3 (Below.refl _ _) hg.burn (fun k hk => Nat.lt_of_lt_of_le (hM k hk) hsw) (fun k hk => Nat.lt_of_lt_of_le (hZ k hk) hsw) hmem (Owns.nil _ _ _) (fun g e => by cases e) (by show 0 <= _; omega)
     have hvl : v.l.length <= 1048576 := by have := HD.out.len hmem; have := hg.usedN; omega
     clear hD3 hmem hget hbl hs
     go_wp2_with (first
      | (go_at_call 37
         refine hSe.mono ?_;rintro e w5 ⟨rfl,hD5,hk5⟩;have HD5 := Lib.hid hD5;have HK5 := Lib.hid (hkk.out.trans hk5)
         clear hD5 hk5 hSe)
      | fail)
     go_ret;exact ⟨by rw [HS.out]; rfl,by rw [HS.out]; exact HD5.out,HK5.out⟩
theorem qkE (w : World) (d : Nat) (D : Dsk) (M Z : Nat -> Prop) (name : ByteArray) (n : Int) (hn : -9223372036854775808 <= n /\ n <= 9223372036854775807) (h : DkG w d D M Z) (hg : Good D) (hM : ∀ k,M k -> k < w.heap.size) (hZ : ∀ k,Z k -> k < w.heap.size) :
 Calls Tryz.prog 109 #[.pointer (some ⟨d,0,none⟩), .string name, .int .i64 n] w fun e w' => e = .returned (.int .i64 (((D.cut name n).2 : Nat) : Int)) /\ DkG w' d (D.cut name n).1 M Z /\ qa (· ≠ d) w w' := by
 obtain ⟨t,h⟩ := h;have HD := Lib.hid h
 go_enter Tryz.func109,Tryz.ntmps109
 go_wp2_with fail
 refine (qbh w d D M Z noX t h name).mono ?_;clear h;rintro e w1 ⟨v,c,rfl,hF,hb1⟩;have hb : Below w.heap.size w (w1.alloc (.cells #[fvS v,fvN v] 93)) := hb1.alloc hb1.size _;have hD := HD.out.below hb;have hk := Lib.hid (qb (Z := (· ≠ d)) hb (Nat.le_refl _));rcases hF with ⟨hm,rfl,rfl⟩ | ⟨hm,hget,rfl,rfl⟩ | ⟨hm,hget2,rfl,hmem,hget⟩
 · have HS : Hid (D.cut name n = (D,D.may name name)) := ⟨by simp [Dsk.cut,hm]⟩;have HX := Lib.hid hD;clear hD;generalize D.may name name = c at *
   have hm' : ¬ ((c : Int) = 0) := by omega
   go_wp2;go_ret;exact ⟨by rw [HS.out]; rfl,by rw [HS.out]; exact ⟨t,HX.out⟩,hk.out⟩
 · have HS : Hid (D.cut name n = (D,6)) := ⟨by simp [Dsk.cut,hm,hget]⟩;have HX := Lib.hid hD;clear hD;go_wp2;go_ret;exact ⟨by rw [HS.out]; rfl,by rw [HS.out]; exact ⟨t,HX.out⟩,hk.out⟩
 · have hlost := (qaK (D := D) (a := name) (b := name) (fun e => e hm)).1;have hd := HD.out.lt
   have hvl : v.l.length <= 1048576 := by have := HD.out.len hmem; have := hg.usedN; omega
   by_cases hr : n < 0 \/ (v.l.length : Int) < n
   · have HS : Hid (D.cut name n = (D,1)) := ⟨by
      have : n < 0 \/ ((qj (name,v)).b.size : Int) < n := hr
      simp [Dsk.cut,hm,hget,this]⟩
     have HX := Lib.hid hD;clear hD
     have hr' : n < 0 \/ (0 <= n /\ (v.l.length : Int) < n) := by omega
     rcases hr' with h0 | ⟨h0,h1⟩
     all_goals
      go_wp2;go_ret;exact ⟨by rw [HS.out]; rfl,by rw [HS.out]; exact ⟨t,HX.out⟩,hk.out⟩
   obtain ⟨k,rfl⟩ : ∃ k : Nat,n = (k : Int) := ⟨n.toNat,by omega⟩
   have hkl : k <= v.l.length := by omega
   have hkl' : (k : Int) <= (v.l.length : Int) := by omega
   have h0 : (0 : Int) <= (k : Int) := by omega
   have hs : D.cut name k = D.done (qj (name,{ v with l := v.l.take k,safe := k })) name := by
    have hr2 : ¬ ((k : Int) < 0 \/ ((qj (name,v)).b.size : Int) < (k : Int)) := hr;simp only [Dsk.cut,hm,hget,hr2];simp only [qj,Int.toNat_natCast,ne_eq,not_true_eq_false,if_false];rw [qcK]
    rfl
   clear hr;have hbox : (w1.alloc (.cells #[fvS v,fvN v] 93)).heap[w1.heap.size]? = some (.cells #[fvS v,fvN v] 93) := heap_alloc_new _ _
   have hne : w1.heap.size ≠ d := by have := hb1.size; omega
   go_wp2_with fail
   refine (qbg _ d D M Z noX t hD hg hlost).mono ?_;rintro e w3 ⟨rfl,hD3,hk3⟩;have hbox3 := (hk3.block w1.heap.size (Go.Proofs.YtogbhedbgcmckaaGreat.hlt hbox) hne).trans hbox;obtain ⟨⟨k0,k1⟩,_⟩ := row2 hbox3;have hsz := hk3.size;have hkk := Lib.hid (hk.out.trans hk3);have hsw : w.heap.size <= w3.heap.size := hkk.out.size;clear hD hbox hk
   by_cases hbl : D.burn.lost = true
   · rw [if_pos hbl];have HS : Hid (D.cut name k = (D.burn,5)) := ⟨by rw [hs,qc1 D _ name hbl]⟩;have HX := Lib.hid hD3;clear hD3;go_wp2;go_ret;exact ⟨by rw [HS.out]; rfl,by rw [HS.out]; exact ⟨t,HX.out⟩,hkk.out⟩
   · rw [if_neg hbl];have HS : Hid (D.cut name k = ({ D.burn with l := putF D.burn.l (qj (name,{ v with l := v.l.take k,safe := k })) },0)) := ⟨by rw [hs,qdZ D _ name hbl rfl]⟩;have hFi := qdF w3 d D.burn M Z t name v k hD3 hg.burn hmem hkl
     have hSe := fun w4 v' hb hv hvb hl => qdr w3 w4 d D.burn M Z t name v v' hD3 hb hg.burn (fun k hk => Nat.lt_of_lt_of_le (hM k hk) hsw) (fun k hk => Nat.lt_of_lt_of_le (hZ k hk) hsw) hmem hv hvb hl
     clear hD3 hmem hget hbl hs
     go_wp2_with (first
      | (go_at_call 38
         refine hFi.mono ?_;rintro e w4 ⟨v',rfl,hl',hs',hv',hvb,hb4⟩
         have hfo : qj (name,v') = qj (name,{ v with l := v.l.take k,safe := k }) := by simp only [qj,hl',hs']
         have hSe' := hSe w4 v' hb4 hv' hvb (by rw [hl',List.length_take]; omega)
         rw [hfo] at hSe')
      | (go_at_call 37
         refine hSe'.mono ?_;rintro e w5 ⟨rfl,hD5,hk5⟩;have HD5 := Lib.hid hD5;have HK5 := Lib.hid (hkk.out.trans hk5)
         clear hD5 hk5 hSe' hSe hFi)
      | fail)
     go_ret;exact ⟨by rw [HS.out]; rfl,by rw [HS.out]; exact HD5.out,HK5.out⟩
end Go.Proofs.YtogbhedbgcmckaaGreat
set_option linter.unusedVariables false
set_option linter.unusedSimpArgs false
set_option maxRecDepth 100000
set_option maxHeartbeats 2000000
namespace Go.Proofs.YtogbhedbgcmckaaGreat
open Go.RowKit
theorem qjL {D : Dsk} {a b : ByteArray} (h : D.may a b = 0) : D.may a a = 0 := by
 obtain ⟨h1,h2,h3⟩ := qaK (D := D) (a := a) (b := b) (fun e => e h)
 simp [Dsk.may,h1,h2]
theorem qhf (w : World) (d : Nat) (D : Dsk) (M Z : Nat -> Prop) (a b : ByteArray) (h : DkG w d D M Z) (hg : Good D) (hM : ∀ k,M k -> k < w.heap.size) (hZ : ∀ k,Z k -> k < w.heap.size) :
 Calls Tryz.prog 163 #[.pointer (some ⟨d,0,none⟩), .string a, .string b] w fun e w' => e = .returned (.int .i64 (((D.rename a b).2 : Nat) : Int)) /\ DkG w' d (D.rename a b).1 M Z /\ qa (· ≠ d) w w' := by
 obtain ⟨t,h⟩ := h;have HD := Lib.hid h
 have hR : ∀ w' A,Below w.heap.size w w' -> RStr w' A [a,b] -> Calls Tryz.prog 33 #[.pointer (some ⟨d,0,none⟩), .slice A 2 2] w' fun e w'' => e = .returned (.int .i64 ((D.may a b : Nat) : Int)) /\ Below w'.heap.size w' w'' := fun w' A hb hA => by
  have := qbS w' d D M Z noX t (h.below hb) A 2 [a,b] hA (by simp)
  rwa [qhc] at this
 have hd := h.lt;clear h
 by_cases hm : D.may a b = 0
 · rw [hm] at hR
   go_enter Tryz.func163,Tryz.ntmps163
   go_wp2_with (first
    | (go_at_call 33
       refine (hR _ _ (by repeat (first | exact Below.refl _ _ | refine Below.alloc ?_ (by simp <;> omega) _)) (RStr.two _ _ _ _ _ _ (by simp))).mono ?_;rintro e w0 ⟨rfl,hb0⟩
       have hbz : Below w.heap.size w w0 := Tr.below_of hb0 (by repeat (first | exact Below.refl _ _ | refine Below.alloc ?_ (by simp <;> omega) _)))
    | fail)
   refine (qbh w0 d D M Z noX t (HD.out.below hbz) a).mono ?_;rintro e w1 ⟨v,c,rfl,hF,hb1⟩;have hb : Below w.heap.size w (w1.alloc (.cells #[fvS v,fvN v] 93)) := (hbz.trans (hb1.mono hbz.size)).alloc (Nat.le_trans hbz.size hb1.size) _;have hD := HD.out.below hb;have hk := Lib.hid (qb (Z := (· ≠ d)) hb (Nat.le_refl _));have hma := qjL hm;rcases hF with ⟨hm1,_,_⟩ | ⟨_,hget,rfl,rfl⟩ | ⟨_,hget2,rfl,hmem,hget⟩
   · exact absurd hma hm1
   · have HS : Hid (D.rename a b = (D,6)) := ⟨by simp [Dsk.rename,hm,hget]⟩;have HX := Lib.hid hD;clear hD;go_wp2;go_ret;exact ⟨by rw [HS.out]; rfl,by rw [HS.out]; exact ⟨t,HX.out⟩,hk.out⟩
   · have hlost := (qaK (D := D) (a := a) (b := b) (fun e => e hm)).1
     have hvl : v.l.length <= 1048576 := by have := HD.out.len hmem; have := hg.usedN; omega
     have hsafe : v.safe <= v.l.length := (hg.fils.each (qj (a,v)) (by rw [<- HD.out.fil]; exact List.mem_map_of_mem hmem)).2.1;have hbox : (w1.alloc (.cells #[fvS v,fvN v] 93)).heap[w1.heap.size]? = some (.cells #[fvS v,fvN v] 93) := heap_alloc_new _ _
     have hne : w1.heap.size ≠ d := by have := hb1.size; have := hbz.size; omega
     have hW := fun w' => qee v w' hsafe (by omega)
     by_cases hbusy : v.safe < v.l.length
     · have HS : Hid (D.rename a b = (D,7)) := ⟨by
        have : (qj (a,v)).safe < (qj (a,v)).b.size := hbusy
        simp [Dsk.rename,hm,hget,this]⟩
       have HX := Lib.hid (fun w' (hb' : Below (w1.alloc (.cells #[fvS v,fvN v] 93)).heap.size (w1.alloc (.cells #[fvS v,fvN v] 93)) w') => hD.below hb')
       have hq : (0 : Int) < (v.l.length : Int) - (v.safe : Int) := by omega
       clear hD
       go_wp2_with (first
        | (go_at_call 35
           refine (hW _).mono ?_
           rintro e w2 ⟨rfl,hb2⟩)
        | fail)
       go_ret;exact ⟨by rw [HS.out]; rfl,by rw [HS.out]; exact ⟨t,HX.out _ hb2⟩,hk.out.trans (qb hb2 (Nat.le_refl _))⟩
     · have hs : D.rename a b = D.done (qj (b,v)) a := by
        have : ¬ ((qj (a,v)).safe < (qj (a,v)).b.size) := hbusy;simp only [Dsk.rename,hm,hget,this]
        rfl
       have hq : ¬ ((0 : Int) < (v.l.length : Int) - (v.safe : Int)) := by omega
       go_wp2_with (first
        | (go_at_call 35
           refine (hW _).mono ?_;rintro e w2 ⟨rfl,hb2⟩;have hbox2 := (hb2.block w1.heap.size (Go.Proofs.YtogbhedbgcmckaaGreat.hlt hbox)).trans hbox
           have hD2 := hD.below hb2)
        | fail)
       refine (qbg _ d D M Z noX t hD2 hg hlost).mono ?_;rintro e w3 ⟨rfl,hD3,hk3⟩;have hbox3 := (hk3.block w1.heap.size (Go.Proofs.YtogbhedbgcmckaaGreat.hlt hbox2) hne).trans hbox2;obtain ⟨⟨k0,k1⟩,_⟩ := row2 hbox3;have hkk := Lib.hid ((hk.out.trans (qb hb2 (Nat.le_refl _))).trans hk3);have hsw : w.heap.size <= w3.heap.size := hkk.out.size;clear hD hD2 hbox hbox2 hk hW
       by_cases hbl : D.burn.lost = true
       · rw [if_pos hbl];have HS : Hid (D.rename a b = (D.burn,5)) := ⟨by rw [hs,qc1 D _ a hbl]⟩;have HX := Lib.hid hD3;clear hD3;go_wp2;go_ret;exact ⟨by rw [HS.out]; rfl,by rw [HS.out]; exact ⟨t,HX.out⟩,hkk.out⟩
       · rw [if_neg hbl];have HS : Hid (D.rename a b = ({ D.burn with l := putF (putF D.burn.l (qj (a,noFV))) (qj (b,v)) },0)) := ⟨by rw [hs,Dsk.done,if_neg hbl]; rfl⟩
         have hM3 : ∀ k,M k -> k < w3.heap.size := fun k hk => Nat.lt_of_lt_of_le (hM k hk) hsw
         have hrow := hD3.row _ hmem (fun h => h);have hlen := hg.len;have hsz := hD3.size;have hu := hg.usedN;have hbl2 := qip D;have hput1 := qeh D.burn.l (qj (a,noFV));have hu1 := hD3.used (qj (a,noFV));have hfb1 : (qj (a,noFV)).b.size = 0 := rfl;have hS1 := qb9 w3 d D.burn M Z t a noFV (hD3.weak _) hM3 (Owns.nil _ _ _) (fun g e => by cases e) (fun p hp hne g e => by cases e) (by rw [hbl2]; omega) (by show 0 <= _; omega) (by rw [hsz,hbl2]; omega)
         have hS2 := fun w4 t' (hD4 : Dt w4 d { D.burn with l := putF D.burn.l (qj (a,noFV)) } M Z noX t') (hin : ∀ p ∈ t'.list,p = (a,noFV) \/ (p ∈ t.list /\ p.1 ≠ a)) (hk4 : qa (· ≠ d) w3 w4) => qb9 w4 d { D.burn with l := putF D.burn.l (qj (a,noFV)) } M Z t' b v (hD4.weak _)
          (fun k hk => Nat.lt_of_lt_of_le (hM3 k hk) hk4.size)
          (by obtain ⟨u3,hbx3,_⟩ := hD3.box; exact hrow.own.keep fun g hg => hk4.block g (hrow.lt hg) (fun e => hrow.ne hbx3 (e ▸ hg)))
          hrow.out
          (fun p hp _ g hg => by
            rcases hin p hp with rfl | ⟨hp,hne⟩
            · exact fun e => by cases e
            · exact hD3.apart _ hmem p hp (fun e => hne e.symm) (fun h => h) (fun h => h) g hg)
          (by
            show qo (putF D.burn.l (qj (a,noFV))) <= _;have e : (qj (a,noFV)).name = a := rfl;rw [hbl2] at hu1 ⊢
            omega) (by omega) (by rw [hD4.size]; show (putF D.burn.l (qj (a,noFV))).length + 1 <= _; rw [hbl2] at hput1 ⊢; omega)
         clear hD3 hmem hget hbl hs hrow hput1 hu1
         go_wp2_with fail
         refine hS1.mono ?_;rintro e w4 ⟨rfl,t4,hD4,hin4,_,hk4⟩;have hSS := hS2 w4 t4 hD4 hin4 hk4;have HK4 := Lib.hid (hkk.out.trans hk4);have hbox4 := (hk4.block w1.heap.size (Go.Proofs.YtogbhedbgcmckaaGreat.hlt hbox3) hne).trans hbox3;obtain ⟨⟨q0,q1⟩,_⟩ := row2 hbox4;clear hS1 hS2 hD4 hin4 hk4 hbox3 k0 k1
         go_wp2_with fail
         refine hSS.mono ?_;rintro e w5 ⟨rfl,t5,hD5,_,_,hk5⟩;have HD5 := Lib.hid hD5;have HK5 := Lib.hid (HK4.out.trans hk5);clear hD5 hk5 hSS;go_wp2;go_ret;exact ⟨by rw [HS.out]; rfl,by rw [HS.out]; exact ⟨t5,HD5.out⟩,HK5.out⟩
 · have HS : Hid (D.rename a b = (D,D.may a b)) := ⟨by simp [Dsk.rename,hm]⟩;generalize D.may a b = c at *
   have hm' : ¬ ((c : Int) = 0) := by omega
   go_enter Tryz.func163,Tryz.ntmps163
   go_wp2_with (first
    | (go_at_call 33
       refine (hR _ _ (by repeat (first | exact Below.refl _ _ | refine Below.alloc ?_ (by simp <;> omega) _)) (RStr.two _ _ _ _ _ _ (by simp))).mono ?_;rintro e w0 ⟨rfl,hb0⟩
       have hbz : Below w.heap.size w w0 := Tr.below_of hb0 (by repeat (first | exact Below.refl _ _ | refine Below.alloc ?_ (by simp <;> omega) _)))
    | fail)
   go_ret;exact ⟨by rw [HS.out]; rfl,by rw [HS.out]; exact ⟨t,HD.out.below hbz⟩,qb hbz (Nat.le_refl _)⟩
end Go.Proofs.YtogbhedbgcmckaaGreat
set_option linter.unusedVariables false
set_option linter.unusedSimpArgs false
set_option maxRecDepth 100000
set_option maxHeartbeats 2000000
namespace Go.Proofs.YtogbhedbgcmckaaGreat
open Go.RowKit
theorem FRow.node {w : World} {base : Nat} {v : FV} (h : FRow w base v) (h0 : 0 < v.l.length) {b : Nat} {k : ByteArray} (hc : w.cell? ⟨b,0,none⟩ = some (.string k)) : blk v ≠ some b := by
 intro e;obtain ⟨g,he,_,_,h1,_⟩ := Owns.at_ h 0 h0
 have : g = b := by
  have e' : blk v = some g := by unfold blk fvS; rw [he]; rfl
  rw [e'] at e;injection e
 subst this;rw [hc] at h1;cases h1
theorem Dt.more {w w' : World} {d : Nat} {D : Dsk} {M Z : Nat -> Prop} {t : FT} {name : ByteArray} {v : FV} (h : Dt w d D M Z noX t) (hv : v = noFV \/ ((name,v) ∈ t.list /\ 0 < v.l.length)) (hg : w.grownBy w' (blk v)) :
 Dt w' d D M Z (· = name) t /\ qa Z w w' := by
 obtain ⟨u,hbx,hr⟩ := h.box;have hd := h.lt
 have hdn : some d ≠ blk v := by
  rcases hv with rfl | ⟨hm,_⟩
  · exact fun e => by cases e
  · exact fun e => (h.row _ hm (fun h => h)).ne hbx e.symm
 refine ⟨⟨⟨u,(hg.block d hd hdn).trans hbx,hr.carry (fun k hk => .inr hk) fun b hlt hP ⟨k,hc⟩ => ⟨hP.elim .inl (fun e => by omega),hg.block b hlt ?_⟩⟩,h.bst,h.fil,?_,fun a ha b hb hab _ _ => h.apart a ha b hb hab (fun h => h) (fun h => h),h.own⟩,qb4 hg ?_⟩
 · rcases hv with rfl | ⟨hm,h0⟩
   · exact fun e => by cases e
   · exact fun e => (h.row _ hm (fun h => h)).own.node h0 hc e.symm
 · intro p hp hne;have hrw := h.row p hp (fun h => h);refine ⟨hrw.own.keep fun g hg' => hg.block g (hrw.lt hg') fun e => ?_,hrw.out⟩;rcases hv with rfl | ⟨hm,_⟩
   · cases e
   · exact h.apart _ hm p hp (fun e => hne e.symm) (fun h => h) (fun h => h) g e.symm hg'
 · intro k e;rcases hv with rfl | ⟨hm,_⟩
   · cases e
   · exact ((h.row _ hm (fun h => h)).out k e).2
theorem qiq {w : World} {d g off : Nat} {r used fuse : Int} {u : Option Addr} {lost : Bool} {T : TypeId} {A : Option Addr} {len cap : Nat} {l : List UInt8} (h : Lies w A len cap l) (h0 : 0 < len) (e : A = some ⟨g,off,none⟩)
 (hbx : w.heap[d]? = some (.cells #[.int .i64 r, .int .i64 used, .pointer u, .int .i64 fuse, .bool lost] T)) : g ≠ d := by
 rintro rfl;obtain ⟨g',off',e',_,hc⟩ := h.cell 0 (by have := h.1; omega);rw [e] at e';injection e' with e';injection e' with e1 e2;subst e1 e2;rw [cell_of_row _ _ _ _ _ _ hbx] at hc
 have : off + 0 = 0 \/ off + 0 = 1 \/ off + 0 = 2 \/ off + 0 = 3 \/ off + 0 = 4 \/ 5 <= off + 0 := by omega
 rcases this with h | h | h | h | h | h
 · rw [h] at hc; cases hc
 · rw [h] at hc; cases hc
 · rw [h] at hc; cases hc
 · rw [h] at hc; cases hc
 · rw [h] at hc; cases hc
 · rw [Array.getElem?_eq_none (by simpa using h)] at hc; cases hc
theorem qir (a b : List UInt8) : (ByteArray.mk a.toArray) ++ (ByteArray.mk b.toArray) = ⟨(a ++ b).toArray⟩ := by
 apply ByteArray.ext
 simp
theorem qis (D : Dsk) (l : List Fil) : Dsk.burn { D with l := l } = { D.burn with l := l } := by
 unfold Dsk.burn;dsimp only
 split
 · rfl
 · split <;> rfl
theorem qhg (w : World) (d : Nat) (D : Dsk) (M Z : Nat -> Prop) (name : ByteArray) (A : Option Addr) (cap : Nat) (l : List UInt8) (h : DkG w d D M Z) (hg : Good D) (hM : ∀ k,M k -> k < w.heap.size) (hZ : ∀ k,Z k -> k < w.heap.size)
 (hA : Lies w A l.length cap l) (hl : l.length <= 2147483647) :
 Calls Tryz.prog 161 #[.pointer (some ⟨d,0,none⟩), .string name, .slice A l.length cap] w fun e w' => e = .returned (.int .i64 (((D.append name ⟨l.toArray⟩).2 : Nat) : Int)) /\ DkG w' d (D.append name ⟨l.toArray⟩).1 M Z /\ qa Z w w' := by
 obtain ⟨t,h⟩ := h;have HD := Lib.hid h
 have hR : ∀ w' A,Below w.heap.size w w' -> RStr w' A [name] -> Calls Tryz.prog 33 #[.pointer (some ⟨d,0,none⟩), .slice A 1 1] w' fun e w'' => e = .returned (.int .i64 ((D.may name name : Nat) : Int)) /\ Below w'.heap.size w' w'' := fun w' A hb hA => by
  have := qbS w' d D M Z noX t (h.below hb) A 1 [name] hA (by simp)
  rwa [qdE] at this
 have hd := h.lt;have hbz0 : (⟨l.toArray⟩ : ByteArray).size = l.length := rfl;obtain ⟨u0,hbx0,_⟩ := h.box;obtain ⟨⟨a0,a1,_,_,_⟩,_⟩ := row5 hbx0;have hroom := hg.room;have hused := hg.used;clear h
 by_cases hm : D.may name name = 0
 · rw [hm] at hR;have e1 : IntKind.i64.wrap (D.room - ((qo D.l : Nat) : Int)) = D.room - ((qo D.l : Nat) : Int) := IntWalk.i64_in _ (by omega)
   by_cases hfull : D.room < (qo D.l : Int) + (l.length : Int)
   · have HS : Hid (D.append name ⟨l.toArray⟩ = (D,4)) := ⟨by
      have : D.room < (qo D.l : Int) + ((⟨l.toArray⟩ : ByteArray).size : Int) := hfull
      simp [Dsk.append,hm,this]⟩
     have hq : D.room - ((qo D.l : Nat) : Int) < (l.length : Int) := by omega
     clear hbx0
     go_enter Tryz.func161,Tryz.ntmps161
     go_wp2_with (first
      | (go_at_call 33
         refine (hR _ _ (by repeat (first | exact Below.refl _ _ | refine Below.alloc ?_ (by simp <;> omega) _)) (RStr.one _ _ _ _ _ (by simp))).mono ?_;rintro e w0 ⟨rfl,hb0⟩;have hbz : Below w.heap.size w w0 := Tr.below_of hb0 (by repeat (first | exact Below.refl _ _ | refine Below.alloc ?_ (by simp <;> omega) _));have c0 := (hbz.cell (p := ⟨d,0,none⟩) hd).trans a0
         have c1 := (hbz.cell (p := ⟨d,1,none⟩) hd).trans a1)
      | fail)
     go_quiet (fail)
     go_wp2;go_ret;have hbq := below_drewN hbz nq;exact ⟨by rw [HS.out]; rfl,by rw [HS.out]; exact ⟨t,HD.out.below hbq⟩,qb hbq (Nat.le_refl _)⟩
   · have hq : ¬ (D.room - ((qo D.l : Nat) : Int) < (l.length : Int)) := by omega
     have hlost := (qaK (D := D) (a := name) (b := name) (fun e => e hm)).1
     go_enter Tryz.func161,Tryz.ntmps161
     go_wp2_with (first
      | (go_at_call 33
         refine (hR _ _ (by repeat (first | exact Below.refl _ _ | refine Below.alloc ?_ (by simp <;> omega) _)) (RStr.one _ _ _ _ _ (by simp))).mono ?_;rintro e w0 ⟨rfl,hb0⟩;have hbz : Below w.heap.size w w0 := Tr.below_of hb0 (by repeat (first | exact Below.refl _ _ | refine Below.alloc ?_ (by simp <;> omega) _));have c0 := (hbz.cell (p := ⟨d,0,none⟩) hd).trans a0
         have c1 := (hbz.cell (p := ⟨d,1,none⟩) hd).trans a1)
      | fail)
     go_quiet (fail)
     go_wp2_with fail
     have hbq := below_drewN hbz nq;refine (qbg _ d D M Z noX t (HD.out.below hbq) hg hlost).mono ?_;rintro e w3 ⟨rfl,hD3,hk3⟩;obtain ⟨c,hc⟩ : ∃ c : Nat,(if D.burn.lost = true then 5 else 0) = c := ⟨_,rfl⟩;rw [hc];have hkk := Lib.hid ((qb (Z := (· ≠ d)) hbq (Nat.le_refl _)).trans hk3);have hsw : w.heap.size <= w3.heap.size := hkk.out.size
     have hlA : Lies w3 A l.length cap l := hA.keep hsw fun h0 g off e hlt => hkk.out.block g hlt (qiq hA h0 e hbx0)
     obtain ⟨v0,ok,gs,gsafe,gok,gno,gq,hG⟩ := hD3.gets name;obtain ⟨u3,hbx3,hr3⟩ := hD3.box;obtain ⟨⟨_,_,b2,_,_⟩,_⟩ := row5 hbx3;have hd3 := hD3.lt;have hbl2 := qip D
     have hv : v0 = noFV \/ ((name,v0) ∈ t.list /\ 0 < v0.l.length) := by
      cases ok with
      | false => exact .inl (gno rfl)
      | true =>
        have hmem := gok rfl;exact .inr ⟨hmem,(hg.fils.each (qj (name,v0)) (by rw [<- hbl2,<- hD3.fil]; exact List.mem_map_of_mem hmem)).1⟩
     have hget : getF D.l name = (qj (name,v0),ok) := by
      rw [<- hbl2]
      cases ok with
      | false =>
        rw [gno rfl];rcases hD3.has name with ⟨v,_,_,_,hmem,hx⟩ | ⟨_,_,hx⟩
        · rw [hx] at gq; cases gq
        · rw [hx]; rfl
      | true => rw [hD3.get (gok rfl)]
     have hD' := hD3
     have HS : Hid (D.append name ⟨l.toArray⟩ = ({ D.burn with l := putF D.burn.l (qj (name,{ v0 with l := v0.l ++ l })) },c)) := ⟨by
      have hnf : ¬ D.room < (qo D.l : Int) + ((⟨l.toArray⟩ : ByteArray).size : Int) := by
       show ¬ D.room < (qo D.l : Int) + (l.length : Int);omega
      unfold Dsk.append;rw [hm,if_neg (by simp),if_neg hnf,hget];dsimp only;rw [qis,hbl2];have e : (qj (name,v0)).b ++ (⟨l.toArray⟩ : ByteArray) = ⟨(v0.l ++ l).toArray⟩ := qir _ _;rw [e];rw [<- hc]
      by_cases hbl : D.burn.lost = true
      · rw [if_pos hbl,if_pos hbl]; rfl
      · rw [if_neg hbl,if_neg hbl]; rfl⟩
     clear hc
     have hvl : v0.l.length <= qo D.l := by
      rcases hv with rfl | ⟨hmem,_⟩
      · exact Nat.zero_le _
      · have := hD3.len hmem; rwa [hbl2] at this
     have hrow0 : FRow w3 0 v0 := by
      rcases hv with rfl | ⟨hmem,_⟩
      · exact Owns.nil _ _ _
      · exact (hD3.row _ hmem (fun h => h)).own
     have hG3 := hG (Pn M w3) w3 u3 hr3
     have hM3 : ∀ k,M k -> k < w3.heap.size := fun k hk => Nat.lt_of_lt_of_le (hM k hk) hsw
     have hZ3 : ∀ k,Z k -> k < w3.heap.size := fun k hk => Nat.lt_of_lt_of_le (hZ k hk) hsw
     have hMo := fun w4 (hb4 : Below w3.heap.size w3 w4) => qjD v0 A l.length cap l w4 (hrow0.keep fun g hg => hb4.block g (hrow0.lt g hg).2) (hlA.below hb4 (Nat.le_refl _)) (by rw [List.length_append]; omega)
     have hSe := fun w4 w5 v' (hb4 : Below w3.heap.size w3 w4) (hgr : w4.grownBy w5 (blk v0)) (hv' : FRow w5 0 v') (hll : v'.l = v0.l ++ l) (hvb : blk v' = blk v0 \/ ∃ g,blk v' = some g /\ w4.heap.size <= g) =>
      qb9 w5 d D.burn M Z t name v' (Dt.more (hD3.below hb4) hv hgr).1 (fun k hk => Nat.lt_of_lt_of_le (hM3 k hk) (Nat.le_trans hb4.size hgr.size)) hv'
       (fun g hg' => by
         rcases hvb with e | ⟨g',e,hge⟩
         · rcases hv with rfl | ⟨hmem,_⟩
           · rw [e] at hg'; cases hg'
           · exact (hD3.row _ hmem (fun h => h)).out g (e ▸ hg')
         · rw [hg'] at e;injection e with e;subst e;have := hb4.size
           exact ⟨fun q => by have := hM3 g q; omega,fun q => by have := hZ3 g q; omega⟩)
       (fun p hp hne g hg' => by
         rcases hvb with e | ⟨g',e,hge⟩
         · rcases hv with rfl | ⟨hmem,_⟩
           · rw [e] at hg'; cases hg'
           · exact hD3.apart _ hmem p hp (fun q => hne q.symm) (fun h => h) (fun h => h) g (e ▸ hg')
         · rw [hg'] at e;injection e with e;subst e;intro q;have := (hD3.row p hp (fun h => h)).lt q;have := hb4.size
           omega)
       (by have := hg.usedN; rw [hbl2]; omega) (by rw [hll,List.length_append]; have := hg.usedN; omega) (by have := hg.len; rw [hD3.size,hbl2]; omega)
     have hKe := fun w4 w5 (hb4 : Below w3.heap.size w3 w4) (hgr : w4.grownBy w5 (blk v0)) => (Dt.more (hD3.below hb4) hv hgr).2
     have hZd := hD3.own.2;clear hD3 hD' hget hv gs gsafe gok gno gq hG hbx3 hr3 hrow0 hA hbx0 a0 a1 c0 c1 hk3 hbl2 hlA
     go_wp2_with (first
      | (go_at_call 74
         refine hG3.mono ?_;rintro e w4 ⟨rfl,hb4⟩
         have hb4' := hb4.alloc hb4.size (.cells #[fvS v0,fvN v0] 93))
      | (go_at_call 192
         refine (hMo _ hb4').mono ?_;rintro e w5 ⟨v',rfl,hll,hs',hv',hgr,hvb⟩;have hS5 := hSe _ w5 v' hb4' hgr hv' hll hvb
         have hfo : qj (name,v') = qj (name,{ v0 with l := v0.l ++ l }) := by simp only [qj,hll,hs']
         rw [hfo] at hS5
         have hK5 := Lib.hid (((hkk.out.mono (Z' := Z) (fun k hk e => hZd (e ▸ hk))).trans (qb hb4' (Nat.le_refl _))).trans (hKe _ w5 hb4' hgr)))
      | (go_at_call 37
         refine hS5.mono ?_;rintro e w6 ⟨rfl,t6,hD6,_,_,hk6⟩;have HD6 := Lib.hid hD6;have HK6 := Lib.hid (hK5.out.trans (hk6.mono (Z' := Z) (fun k hk e => hZd (e ▸ hk))))
         clear hD6 hk6 hS5)
      | fail)
     go_ret;exact ⟨by rw [HS.out]; rfl,by rw [HS.out]; exact ⟨t6,HD6.out⟩,HK6.out⟩
 · have HS : Hid (D.append name ⟨l.toArray⟩ = (D,D.may name name)) := ⟨by simp [Dsk.append,hm]⟩;generalize D.may name name = c at *
   have hm' : ¬ ((c : Int) = 0) := by omega
   go_enter Tryz.func161,Tryz.ntmps161
   go_wp2_with (first
    | (go_at_call 33
       refine (hR _ _ (by repeat (first | exact Below.refl _ _ | refine Below.alloc ?_ (by simp <;> omega) _)) (RStr.one _ _ _ _ _ (by simp))).mono ?_;rintro e w0 ⟨rfl,hb0⟩
       have hbz : Below w.heap.size w w0 := Tr.below_of hb0 (by repeat (first | exact Below.refl _ _ | refine Below.alloc ?_ (by simp <;> omega) _)))
    | fail)
   go_ret;exact ⟨by rw [HS.out]; rfl,by rw [HS.out]; exact ⟨t,HD.out.below hbz⟩,qb hbz (Nat.le_refl _)⟩
end Go.Proofs.YtogbhedbgcmckaaGreat
set_option linter.unusedVariables false
set_option linter.unusedSimpArgs false
set_option maxRecDepth 100000
set_option maxHeartbeats 1000000
namespace Go.Proofs.YtogbhedbgcmckaaGreat
open Go.RowKit
theorem qkF (room : Int) (w : World) (M Z : Nat -> Prop) (h0 : 0 <= room) (h1 : room <= 1048576) (hM : ∀ k,M k -> k < w.heap.size) (hZ : ∀ k,Z k -> k < w.heap.size) :
 Calls Tryz.prog 16 #[.int .i64 room] w fun e w' => ∃ d,e = .returned (.tuple #[.pointer (some ⟨d,0,none⟩), .int .i64 0]) /\ DkG w' d ⟨room,[],false,0,false⟩ M Z /\ Below w.heap.size w w' := by
 have h0' : ¬ (room < 0) := by omega
 have h1' : ¬ (1048576 < room) := by omega
 have HX : Hid (DkG (w.alloc (.cells #[.int .i64 room, .int .i64 0, .pointer none, .int .i64 (-1), .bool false] 88)) w.heap.size ⟨room,[],false,0,false⟩ M Z) := ⟨.nil,⟨⟨none,heap_alloc_new _ _,rfl,fun k hk => .inr hk⟩,List.Pairwise.nil,rfl,(fun p hp => by cases hp),(fun a ha => by cases ha),⟨fun e => by have := hM _ e; omega,fun e => by have := hZ _ e; omega⟩⟩⟩;clear hM hZ
 go_enter Tryz.func16,Tryz.ntmps16
 go_wp2
 go_ret2
 exact ⟨_,rfl,HX.out,(Below.refl _ _).alloc (Nat.le_refl _) _⟩
theorem qjM (w : World) (d : Nat) (D : Dsk) (M Z : Nat -> Prop) (n : Int) (h : DkG w d D M Z) :
 Calls Tryz.prog 17 #[.pointer (some ⟨d,0,none⟩), .int .i64 n] w fun e w' => e = .returned (.int .i64 (((D.fuse n).2 : Nat) : Int)) /\ DkG w' d (D.fuse n).1 M Z /\ qa (· ≠ d) w w' := by
 obtain ⟨t,h⟩ := h;have HD := Lib.hid h;have hR := qbS w d D M Z noX t h none 0 [] (fun h => absurd h (by simp)) (by simp);rw [qgg] at hR;have hd := h.lt;obtain ⟨u,hbx,_⟩ := h.box;obtain ⟨_,⟨f0,f1,f2,f3,f4⟩⟩ := row5 hbx;obtain ⟨⟨a0,a1,a2,a3,a4⟩,_⟩ := row5 hbx;clear h
 cases hl : D.lost with
 | true =>
   rw [hl,if_pos rfl] at hR;have HS : Hid (D.fuse n = (D,5)) := ⟨by simp [Dsk.fuse,hl]⟩;clear hl a0 a1 a2 a3 a4 f0 f1 f2 f3 f4 hbx
   go_enter Tryz.func17,Tryz.ntmps17
   go_wp2_with (first | (go_at_call 33; refine hR.mono ?_; rintro e w1 ⟨rfl,hb1⟩) | fail)
   go_ret;exact ⟨by rw [HS.out]; rfl,by rw [HS.out]; exact ⟨t,HD.out.below hb1⟩,qb hb1 (Nat.le_refl _)⟩
 | false =>
   rw [hl,if_neg (by decide)] at hR
   by_cases hn : n < 0
   · have HS : Hid (D.fuse n = (D,1)) := ⟨by simp [Dsk.fuse,hl,hn]⟩;clear hl a0 a1 a2 a3 a4 f0 f1 f2 f3 f4 hbx
     go_enter Tryz.func17,Tryz.ntmps17
     go_wp2_with (first | (go_at_call 33; refine hR.mono ?_; rintro e w1 ⟨rfl,hb1⟩) | fail)
     go_ret;exact ⟨by rw [HS.out]; rfl,by rw [HS.out]; exact ⟨t,HD.out.below hb1⟩,qb hb1 (Nat.le_refl _)⟩
   · have HS : Hid (D.fuse n = ({ D with set := true,n := n },0)) := ⟨by simp [Dsk.fuse,hl,hn]⟩
     have HX : ∀ w1,Below w.heap.size w w1 -> Hid (Dt (w1.setCell ⟨d,3,none⟩ (.int .i64 n)) d { D with set := true,n := n } M Z noX t) := fun w1 hb1 => ⟨by
      have h1 := HD.out.below hb1;have hbx1 := (hb1.block d hd).trans hbx;refine h1.turn (qx _) (u := u) (by rw [setCell_at w1 ⟨d,3,none⟩ _ _ _ _ rfl hbx1]; rfl) (fun cs hc => ?_) rfl;rw [hbx1] at hc;injection hc with hc;injection hc with hc;subst hc
      rfl⟩
     clear hbx
     go_enter Tryz.func17,Tryz.ntmps17
     go_wp2_with (first
      | (go_at_call 33; refine hR.mono ?_; rintro e w1 ⟨rfl,hb1⟩
         have b3 := (hb1.cell (p := ⟨d,3,none⟩) hd).trans a3
         have q3 := (hb1.frozen (p := ⟨d,3,none⟩) hd).trans f3)
      | fail)
     go_ret;exact ⟨by rw [HS.out]; rfl,by rw [HS.out]; exact ⟨t,(HX w1 hb1).out⟩,(qb hb1 (Nat.le_refl _)).trans (qx _)⟩
theorem qjN (x : FV) (w : World) : (Instr.field 93 (fvV x) 0).run Tryz.prog w = .ok (fvS x) w := by kernel_rfl
theorem qjO (w : World) (d : Nat) (D : Dsk) (M Z : Nat -> Prop) (name : ByteArray) (h : DkG w d D M Z) (hg : Good D) :
 Calls Tryz.prog 106 #[.pointer (some ⟨d,0,none⟩), .string name] w fun e w' => ∃ A cap,e = .returned (.tuple #[.slice A (D.read name).1.size cap, .int .i64 (((D.read name).2 : Nat) : Int)]) ∧
  Lies w' A (D.read name).1.size cap (D.read name).1.data.toList /\ (∀ a,A = some a -> w.heap.size <= a.block) /\ Below w.heap.size w w' /\ (∀ g off j,A = some ⟨g,off,none⟩ -> w'.frozen? ⟨g,j,none⟩ = false) := by
 obtain ⟨t,h⟩ := h;have HD := Lib.hid h
 go_enter Tryz.func106,Tryz.ntmps106
 go_wp2_with fail
 refine (qbh w d D M Z noX t h name).mono ?_;clear h;rintro e w1 ⟨v,c,rfl,hF,hb1⟩;have hb : Below w.heap.size w (w1.alloc (.cells #[fvS v,fvN v] 93)) := hb1.alloc hb1.size _;rcases hF with ⟨hm,rfl,rfl⟩ | ⟨hm,hget,rfl,rfl⟩ | ⟨hm,hget2,rfl,hmem,hget⟩
 · have HS : Hid (D.read name = (ByteArray.empty,D.may name name)) := ⟨by simp [Dsk.read,hm]⟩;generalize D.may name name = c at *
   have hm' : ¬ ((c : Int) = 0) := by omega
   go_wp2
   go_ret2
   rw [HS.out];exact ⟨none,0,rfl,Lies.nil _,fun a e => (by cases e),hb,fun g off j e => (by cases e)⟩
 · have HS : Hid (D.read name = (ByteArray.empty,6)) := ⟨by simp [Dsk.read,hm,hget]⟩;go_wp2
   go_ret2
   rw [HS.out];exact ⟨none,0,rfl,Lies.nil _,fun a e => (by cases e),hb,fun g off j e => (by cases e)⟩
 · have HS : Hid (D.read name = (⟨v.l.toArray⟩,0)) := ⟨by simp only [Dsk.read,hm,hget]; rfl⟩
   have hvl : v.l.length <= 1048576 := by have := HD.out.len hmem; have := hg.usedN; omega
   have hrow := ((HD.out.below hb).row _ hmem (fun h => h)).own;have hC := qjC v _ hrow (by omega);clear hrow hmem hget hvl
   go_wp2_with (first
    | (go_at_call 142
       refine hC.mono ?_;rintro e w2 ⟨v',rfl,hl',hs',hv',hb2⟩;obtain ⟨A',c',l',s'⟩ := v';dsimp only at hl' hs';subst hl' hs'
       have hfd := qjN ⟨A',c',v.l,v.safe⟩)
    | fail)
   go_ret2
   rw [HS.out];refine ⟨A',c',rfl,hv'.lies,fun a e => ?_,hb.trans (hb2.mono hb.size),fun g off j e => ?_⟩
   · subst e;have hx := (hv'.lt a.block rfl).1;exact Nat.le_trans hb.size hx
   · subst e;rcases hv'.2 with ⟨e1,_⟩ | ⟨g',cap',cur,e1,_,hg,_⟩
     · cases e1
     · injection e1 with e1;injection e1 with e1;injection e1 with e1;subst e1
       simp [World.frozen?,hg]
end Go.Proofs.YtogbhedbgcmckaaGreat
set_option linter.unusedVariables false
set_option linter.unusedSimpArgs false
set_option maxRecDepth 100000
set_option maxHeartbeats 200000
namespace Go.Proofs.YtogbhedbgcmckaaGreat
open Go.RowKit
def RP (w : World) (A : Option Addr) (l : List (ByteArray × FV)) : Prop :=
 0 < l.length -> ∃ g,A = some ⟨g,0,none⟩ /\ g < w.heap.size /\ ∀ j (hj : j < l.length),
  w.cell? ⟨g,j * 3,none⟩ = some (.string l[j].1) /\ w.cell? ⟨g,j * 3 + 1,none⟩ = some (fvS l[j].2) /\ w.cell? ⟨g,j * 3 + 2,none⟩ = some (fvN l[j].2)
theorem qit (l : List (ByteArray × FV)) : ∀ j (hj : j < l.length),(MapFl.cellsL l)[j * 3]? = some (.string l[j].1) /\ (MapFl.cellsL l)[j * 3 + 1]? = some (fvS l[j].2) /\ (MapFl.cellsL l)[j * 3 + 2]? = some (fvN l[j].2) := by
 induction l with
 | nil => intro j hj; simp at hj
 | cons f l ih =>
   intro j hj
   cases j with
   | zero => simp [MapFl.cellsL,List.flatMap_cons]
   | succ j =>
     have := ih j (by simpa using hj)
     have e : ∀ i,(MapFl.cellsL (f :: l))[(j + 1) * 3 + i]? = (MapFl.cellsL l)[j * 3 + i]? := fun i => by
      rw [show (j + 1) * 3 + i = (j * 3 + i) + 3 by omega]
      simp [MapFl.cellsL,List.flatMap_cons]
     refine ⟨?_,?_,?_⟩
     · rw [show (j + 1) * 3 = (j + 1) * 3 + 0 from rfl,e]; simpa using this.1
     · rw [e]; simpa using this.2.1
     · rw [e]; simpa using this.2.2
theorem RP.of_own {w : World} {base : Nat} {T : TypeId} {A : Option Addr} {cap : Nat} {l : List (ByteArray × FV)} (h : w.ownsRow base T 3 (.slice A l.length cap) l.length (MapFl.cellsL l)) : RP w A l /\ ∀ g,A = some ⟨g,0,none⟩ -> base <= g := by
 rcases h.2 with ⟨e,h0⟩ | ⟨g,cap',cur,e,hb,hg,hc,hm,hs,ht⟩
 · injection e with e1 e2 e3;subst e1;exact ⟨fun h1 => by omega,fun g e => by cases e⟩
 · injection e with e1 e2 e3;subst e1 e3;refine ⟨fun _ => ⟨g,rfl,hlt hg,fun j hj => ?_⟩,fun g' e => by injection e with e; injection e with e; rw [<- e]; exact hb⟩;obtain ⟨q0,q1,q2⟩ := qit l j hj
   have hx : ∀ i v,i < l.length * 3 -> (MapFl.cellsL l)[i]? = some v -> w.cell? ⟨g,i,none⟩ = some v := fun i v hi hv => by
    rw [cell_of_row w g i cur _ (0,0) hg];have := congrArg (fun q => q[i]?) ht;simp only [List.getElem?_take,if_pos hi] at this;rw [<- hv,<- this];simp
   exact ⟨hx _ _ (by omega) q0,hx _ _ (by omega) q1,hx _ _ (by omega) q2⟩
theorem RP.keep {w w' : World} {A : Option Addr} {l : List (ByteArray × FV)} (h : RP w A l) (hs : w.heap.size <= w'.heap.size) (hk : ∀ g,A = some ⟨g,0,none⟩ -> g < w.heap.size -> w'.heap[g]? = w.heap[g]?) : RP w' A l := fun h0 => by
 obtain ⟨g,e,hg,hc⟩ := h h0
 have hx : ∀ o,w'.cell? ⟨g,o,none⟩ = w.cell? ⟨g,o,none⟩ := fun o => World.cell?_of_block (hk g e hg)
 exact ⟨g,e,Nat.lt_of_lt_of_le hg hs,fun j hj => ⟨(hx _).trans (hc j hj).1,(hx _).trans (hc j hj).2.1,(hx _).trans (hc j hj).2.2⟩⟩
theorem RP.below {w w' : World} {A : Option Addr} {l : List (ByteArray × FV)} {B : Nat} (h : RP w A l) (hb : Below B w w') (hB : w.heap.size <= B) : RP w' A l :=
 h.keep hb.size fun g _ hg => hb.block g (Nat.lt_of_lt_of_le hg hB)
end Go.Proofs.YtogbhedbgcmckaaGreat
set_option linter.unusedVariables false
set_option linter.unusedSimpArgs false
set_option maxRecDepth 100000
set_option maxHeartbeats 200000
namespace Go.Proofs.YtogbhedbgcmckaaGreat
open Go.RowKit
theorem below_drewN {B : Nat} {a w : World} (h : Below B a w) (n : Nat) : Below B a (w.drewN n) := ⟨h.os,h.tape,h.output,h.size,h.block⟩
theorem bbq {B : Nat} {w W : World} (h : Below B w W := by repeat (first | exact blq | apply Below.drew | apply below_drewN | refine Below.alloc ?_ (by simp) _)) : Below B w W := h
def Gath (W : World) (T : TypeId) (l pre : List Fil) (P : Fil -> Bool) (i : Nat) (v : Value) (wr : World) : Prop :=
 ∃ A m c,v = .slice A m c /\ (pre ++ (l.take i).filter P).length = m /\ wr.ownsRow W.heap.size T 3 (.slice A m c) m (qli (pre ++ (l.take i).filter P)) /\ Below W.heap.size W wr
end Go.Proofs.YtogbhedbgcmckaaGreat
set_option linter.unusedVariables false
set_option linter.unusedSimpArgs false
set_option maxRecDepth 100000
set_option maxHeartbeats 200000
namespace Go.Proofs.YtogbhedbgcmckaaGreat
open Go.RowKit
end Go.Proofs.YtogbhedbgcmckaaGreat
set_option linter.unusedVariables false
set_option linter.unusedSimpArgs false
set_option maxRecDepth 100000
set_option maxHeartbeats 200000
namespace Go.Proofs.YtogbhedbgcmckaaGreat
open Go.RowKit
end Go.Proofs.YtogbhedbgcmckaaGreat
