/- Sync, Cut, Remove of the program's disk, each by its contract. -/
import Derived.Test.YtmeoooojmhhahaaGreatTDsk1
set_option linter.unusedVariables false
set_option linter.unusedSimpArgs false
set_option maxRecDepth 100000
set_option maxHeartbeats 4000000
namespace Go.Proofs.YtmeoooojmhhahaaGreat
open Go.RowKit
theorem Dt.weak {w : World} {d : Nat} {D : Dsk} {M Z : Nat -> Prop} {t : FT} (h : Dt w d D M Z noX t) (X : ByteArray -> Prop) : Dt w d D M Z X t :=
 ⟨h.box,h.bst,h.fil,fun p hp _ => h.row p hp (fun h => h),fun a ha b hb hab _ _ => h.apart a ha b hb hab (fun h => h) (fun h => h),h.own⟩
theorem FRow.capMax {w : World} {base : Nat} {v : FV} (h : FRow w base v) : v.cap <= maxLen := by
 rcases h.2 with ⟨e,h0⟩ | ⟨g,cap,cur,e,hb,hg,hc,hm,_⟩
 · injection e with _ _ e3
   rw [e3]; exact Nat.zero_le _
 · injection e with _ _ e3
   rw [e3]; exact hm
theorem Dt.len {w : World} {d : Nat} {D : Dsk} {M Z : Nat -> Prop} {X : ByteArray -> Prop} {t : FT} (h : Dt w d D M Z X t) {name : ByteArray} {v : FV} (hm : (name,v) ∈ t.list) : v.l.length <= qg D.l := by
 have := h.used ⟨name,ByteArray.empty,0⟩
 rw [h.get hm] at this
 have e : (qj (name,v)).b.size = v.l.length := rfl
 dsimp only at this
 rw [e] at this
 have : (ByteArray.empty).size = 0 := rfl
 omega
theorem qi4 (l : List Fil) (f g : Fil) (hn : g.name = f.name) (hg : g.b.size = 0) : putF (putF l g) f = putF l f := by
 have h1 : ∀ l : List Fil,(l.filter (fun x => ltS x.name f.name)).filter (fun x => ltS x.name f.name) = l.filter (fun x => ltS x.name f.name) := fun l => by simp
 have h2 : ∀ l : List Fil,(l.filter (fun x => ltS f.name x.name)).filter (fun x => ltS f.name x.name) = l.filter (fun x => ltS f.name x.name) := fun l => by simp
 have h3 : ∀ l : List Fil,(l.filter (fun x => ltS f.name x.name)).filter (fun x => ltS x.name f.name) = [] := fun l => List.filter_eq_nil_iff.2 fun x hx => by
  rw [qaE (List.mem_filter.1 hx).2]; decide
 have h4 : ∀ l : List Fil,(l.filter (fun x => ltS x.name f.name)).filter (fun x => ltS f.name x.name) = [] := fun l => List.filter_eq_nil_iff.2 fun x hx => by
  rw [qaE (List.mem_filter.1 hx).2]; decide
 unfold putF
 rw [hn,if_neg (by omega)]
 simp only [List.nil_append,List.filter_append,h1,h2,h3,h4,List.append_nil]
theorem qfO (D : Dsk) (f : Fil) (name : ByteArray) (h : ¬ D.burn.lost = true) (hn : f.name = name) : D.done f name = ({ D.burn with l := putF D.burn.l f },0) := by
 rw [Dsk.done,if_neg h,qi4 _ f ⟨name,ByteArray.empty,0⟩ hn.symm rfl]
theorem qec (D : Dsk) (f : Fil) (name : ByteArray) (h : D.burn.lost = true) : D.done f name = (D.burn,5) := by simp [Dsk.done,h]
theorem Dt.pre {w w1 : World} {d : Nat} {D : Dsk} {M Z : Nat -> Prop} {t : FT} (h : Dt w d D M Z noX t) (hM : ∀ k,M k -> k < w.heap.size) (hZ : ∀ k,Z k -> k < w.heap.size) {name : ByteArray} {v v' : FV} (hm : (name,v) ∈ t.list)
 (hvb : ∀ g,blk v' = some g -> blk v = some g \/ w.heap.size <= g) : (∀ g,blk v' = some g -> ¬ M g /\ ¬ Z g) /\ (∀ p ∈ t.list,p.1 ≠ name -> ∀ g,blk v' = some g -> blk p.2 ≠ some g) := by
 refine ⟨fun g hg => ?_,fun p hp hne g hg e => ?_⟩
 · rcases hvb g hg with hg | hg
   · exact (h.row _ hm (fun h => h)).out g hg
   · exact ⟨fun e => by have := hM g e; omega,fun e => by have := hZ g e; omega⟩
 · rcases hvb g hg with hg | hg
   · exact h.apart _ hm p hp (fun e => hne e.symm) (fun h => h) (fun h => h) g hg e
   · have := (h.row p hp (fun h => h)).lt e
     omega
def DkG (w : World) (d : Nat) (D : Dsk) (M Z : Nat -> Prop) : Prop := ∃ t,Dt w d D M Z noX t
theorem DkG.below {w w' : World} {d : Nat} {D : Dsk} {M Z : Nat -> Prop} (h : DkG w d D M Z) (hb : Below w.heap.size w w') : DkG w' d D M Z := by
 obtain ⟨t,h⟩ := h
 exact ⟨t,h.below hb⟩
theorem qeT (w w1 : World) (d : Nat) (D : Dsk) (M Z : Nat -> Prop) (t : FT) (name : ByteArray) (v v' : FV) (h : Dt w d D M Z noX t) (hb : Below w.heap.size w w1) (hg : Good D) (hM : ∀ k,M k -> k < w.heap.size) (hZ : ∀ k,Z k -> k < w.heap.size)
 (hm : (name,v) ∈ t.list) (hv : FRow w1 0 v') (hvb : ∀ g,blk v' = some g -> blk v = some g \/ w.heap.size <= g) (hvl : v'.l.length <= 2000000000) :
 Calls Tryz.prog 81 #[.pointer (some ⟨d,0,none⟩), .string name,fvV v'] w1 fun e w' => e = .returned (.tuple #[]) /\ DkG w' d { D with l := putF D.l (qj (name,v')) } M Z /\ qc (· ≠ d) w w' := by
 obtain ⟨h1,h2⟩ := h.pre (w1 := w1) hM hZ hm hvb
 have hlen := hg.len
 have hsz := h.size
 have hu := hg.usedN
 refine (qdf w1 d D M Z t name v' ((h.below hb).weak _) (fun k hk => Nat.lt_of_lt_of_le (hM k hk) hb.size) hv h1 h2 (by omega) hvl (by omega)).mono ?_
 rintro e w' ⟨rfl,t',hD,_,_,hk⟩
 exact ⟨rfl,⟨t',hD⟩,(qe hb nlq).trans hk⟩
theorem qfj (w : World) (d : Nat) (D : Dsk) (M Z : Nat -> Prop) (t : FT) (name : ByteArray) (v : FV) (n : Nat) (h : Dt w d D M Z noX t) (hg : Good D) (hm : (name,v) ∈ t.list) (hn : n <= v.l.length) :
 Calls Tryz.prog 82 #[fvV v, .int .i64 (n : Int)] w fun e w' => ∃ v',e = .returned (fvV v') /\ v'.l = v.l.take n /\ v'.safe = n /\ FRow w' 0 v' ∧
  (∀ g,blk v' = some g -> blk v = some g \/ w.heap.size <= g) /\ Below w.heap.size w w' := by
 have hr := h.row _ hm (fun h => h)
 have := h.len hm
 have := hg.usedN
 exact qgd v n w hr.own hn (by omega) hr.own.capMax
theorem qhh (w : World) (d : Nat) (D : Dsk) (M Z : Nat -> Prop) (name : ByteArray) (h : DkG w d D M Z) (hg : Good D) (hM : ∀ k,M k -> k < w.heap.size) (hZ : ∀ k,Z k -> k < w.heap.size) :
 Calls Tryz.prog 34 #[.pointer (some ⟨d,0,none⟩), .string name] w fun e w' => e = .returned (.int .i64 (((D.sync name).2 : Nat) : Int)) /\ DkG w' d (D.sync name).1 M Z /\ qc (· ≠ d) w w' := by
 obtain ⟨t,h⟩ := h
 have HD := Lib.hid h
 go_enter Tryz.func34,Tryz.ntmps34
 go_wp2_with fail
 refine (qb3 w d D M Z noX t h name).mono ?_
 clear h
 rintro e w1 ⟨v,c,rfl,hF,hb1⟩
 have hb : Below w.heap.size w (w1.alloc (.cells #[fvS v,fvN v] 147)) := hb1.alloc hb1.size _
 have hD := HD.out.below hb
 have hk := Lib.hid (qe (Z := (· ≠ d)) hb nlq)
 rcases hF with ⟨hm,rfl,rfl⟩ | ⟨hm,hget,rfl,rfl⟩ | ⟨hm,hget2,rfl,hmem,hget⟩
 · have HS : Hid (D.sync name = (D,D.may name name)) := ⟨by simp [Dsk.sync,hm]⟩
   have HX := Lib.hid hD
   clear hD
   generalize D.may name name = c at *
   have hm' : ¬ ((c : Int) = 0) := by omega
   go_wp2
   go_ret
   exact ⟨by rw [HS.out]; rfl,by rw [HS.out]; exact ⟨t,HX.out⟩,hk.out⟩
 · have HS : Hid (D.sync name = (D,6)) := ⟨by simp [Dsk.sync,hm,hget]⟩
   have HX := Lib.hid hD
   clear hD
   go_wp2
   go_ret
   exact ⟨by rw [HS.out]; rfl,by rw [HS.out]; exact ⟨t,HX.out⟩,hk.out⟩
 · have hlost := (qbm (D := D) (a := name) (b := name) (fun e => e hm)).1
   have hs : D.sync name = D.done (qj (name,{ v with safe := v.l.length })) name := by
    simp only [Dsk.sync,hm,hget]
    rfl
   have hd := HD.out.lt
   have hbox : (w1.alloc (.cells #[fvS v,fvN v] 147)).heap[w1.heap.size]? = some (.cells #[fvS v,fvN v] 147) := heap_alloc_new _ _
   have hne : w1.heap.size ≠ d := by have := hb1.size; omega
   go_wp2_with fail
   refine (qb2 _ d D M Z noX t hD hg hlost).mono ?_
   rintro e w3 ⟨rfl,hD3,hk3⟩
   have hbox3 := (hk3.block w1.heap.size (hlq hbox) hne).trans hbox
   obtain ⟨⟨k0,k1⟩,_⟩ := row2 hbox3
   have hsz := hk3.size
   have hkk := Lib.hid (hk.out.trans hk3)
   have hsw : w.heap.size <= w3.heap.size := hkk.out.size
   clear hD hbox hk
   by_cases hbl : D.burn.lost = true
   · rw [if_pos hbl]
     have HS : Hid (D.sync name = (D.burn,5)) := ⟨by rw [hs,qec D _ name hbl]⟩
     have HX := Lib.hid hD3
     clear hD3
     go_wp2
     go_ret
     exact ⟨by rw [HS.out]; rfl,by rw [HS.out]; exact ⟨t,HX.out⟩,hkk.out⟩
   · rw [if_neg hbl]
     have HS : Hid (D.sync name = ({ D.burn with l := putF D.burn.l (qj (name,{ v with safe := v.l.length })) },0)) := ⟨by rw [hs,qfO D _ name hbl rfl]⟩
     have hFi := qfj w3 d D.burn M Z t name v v.l.length hD3 hg.burn hmem nlq
     have hSe := fun w4 v' hb hv hvb hl => qeT w3 w4 d D.burn M Z t name v v' hD3 hb hg.burn (fun k hk => Nat.lt_of_lt_of_le (hM k hk) hsw) (fun k hk => Nat.lt_of_lt_of_le (hZ k hk) hsw) hmem hv hvb hl
     have hvl : v.l.length <= 1048576 := by have := HD.out.len hmem; have := hg.usedN; omega
     clear hD3 hmem hget hbl hs
     go_wp2_with (first
      | (go_at_call 82
         refine hFi.mono ?_
         rintro e w4 ⟨v',rfl,hl',hs',hv',hvb,hb4⟩
         rw [List.take_length] at hl'
         have hfo : qj (name,v') = qj (name,{ v with safe := v.l.length }) := by simp only [qj,hl',hs']
         have hSe' := hSe w4 v' hb4 hv' hvb (by rw [hl']; omega)
         rw [hfo] at hSe')
      | (go_at_call 81
         refine hSe'.mono ?_
         rintro e w5 ⟨rfl,hD5,hk5⟩
         have HD5 := Lib.hid hD5
         have HK5 := Lib.hid (hkk.out.trans hk5)
         clear hD5 hk5 hSe' hSe hFi)
      | fail)
     go_ret
     exact ⟨by rw [HS.out]; rfl,by rw [HS.out]; exact HD5.out,HK5.out⟩
end Go.Proofs.YtmeoooojmhhahaaGreat
namespace Go.Proofs.YtmeoooojmhhahaaGreat
open Go.RowKit
theorem qdT (l : List UInt8) (k : Nat) : (ByteArray.mk l.toArray).extract 0 k = ⟨(l.take k).toArray⟩ := by
 apply ByteArray.ext
 simp
theorem qfk (w : World) (d : Nat) (D : Dsk) (M Z : Nat -> Prop) (name : ByteArray) (h : DkG w d D M Z) (hg : Good D) (hM : ∀ k,M k -> k < w.heap.size) (hZ : ∀ k,Z k -> k < w.heap.size) :
 Calls Tryz.prog 32 #[.pointer (some ⟨d,0,none⟩), .string name] w fun e w' => e = .returned (.int .i64 (((D.remove name).2 : Nat) : Int)) /\ DkG w' d (D.remove name).1 M Z /\ qc (· ≠ d) w w' := by
 obtain ⟨t,h⟩ := h
 have HD := Lib.hid h
 go_enter Tryz.func32,Tryz.ntmps32
 go_wp2_with fail
 refine (qb3 w d D M Z noX t h name).mono ?_
 clear h
 rintro e w1 ⟨v,c,rfl,hF,hb1⟩
 have hb : Below w.heap.size w (w1.alloc (.cells #[fvS v,fvN v] 147)) := hb1.alloc hb1.size _
 have hD := HD.out.below hb
 have hk := Lib.hid (qe (Z := (· ≠ d)) hb nlq)
 rcases hF with ⟨hm,rfl,rfl⟩ | ⟨hm,hget,rfl,rfl⟩ | ⟨hm,hget2,rfl,hmem,hget⟩
 · have HS : Hid (D.remove name = (D,D.may name name)) := ⟨by simp [Dsk.remove,hm]⟩
   have HX := Lib.hid hD
   clear hD
   generalize D.may name name = c at *
   have hm' : ¬ ((c : Int) = 0) := by omega
   go_wp2
   go_ret
   exact ⟨by rw [HS.out]; rfl,by rw [HS.out]; exact ⟨t,HX.out⟩,hk.out⟩
 · have HS : Hid (D.remove name = (D,6)) := ⟨by simp [Dsk.remove,hm,hget]⟩
   have HX := Lib.hid hD
   clear hD
   go_wp2
   go_ret
   exact ⟨by rw [HS.out]; rfl,by rw [HS.out]; exact ⟨t,HX.out⟩,hk.out⟩
 · have hlost := (qbm (D := D) (a := name) (b := name) (fun e => e hm)).1
   have hs : D.remove name = D.done (qj (name,noFV)) name := by
    simp only [Dsk.remove,hm,hget]
    rfl
   have hd := HD.out.lt
   have hbox : (w1.alloc (.cells #[fvS v,fvN v] 147)).heap[w1.heap.size]? = some (.cells #[fvS v,fvN v] 147) := heap_alloc_new _ _
   have hne : w1.heap.size ≠ d := by have := hb1.size; omega
   go_wp2_with fail
   refine (qb2 _ d D M Z noX t hD hg hlost).mono ?_
   rintro e w3 ⟨rfl,hD3,hk3⟩
   have hbox3 := (hk3.block w1.heap.size (hlq hbox) hne).trans hbox
   obtain ⟨⟨k0,k1⟩,_⟩ := row2 hbox3
   have hsz := hk3.size
   have hkk := Lib.hid (hk.out.trans hk3)
   have hsw : w.heap.size <= w3.heap.size := hkk.out.size
   clear hD hbox hk
   by_cases hbl : D.burn.lost = true
   · rw [if_pos hbl]
     have HS : Hid (D.remove name = (D.burn,5)) := ⟨by rw [hs,qec D _ name hbl]⟩
     have HX := Lib.hid hD3
     clear hD3
     go_wp2
     go_ret
     exact ⟨by rw [HS.out]; rfl,by rw [HS.out]; exact ⟨t,HX.out⟩,hkk.out⟩
   · rw [if_neg hbl]
     have HS : Hid (D.remove name = ({ D.burn with l := putF D.burn.l (qj (name,noFV)) },0)) := ⟨by rw [hs,qfO D _ name hbl rfl]⟩
     have hSe := qeT w3 w3 d D.burn M Z t name v noFV hD3 blq hg.burn (fun k hk => Nat.lt_of_lt_of_le (hM k hk) hsw) (fun k hk => Nat.lt_of_lt_of_le (hZ k hk) hsw) hmem (Owns.nil _ _ _) (fun g e => by cases e) (by show 0 <= _; omega)
     have hvl : v.l.length <= 1048576 := by have := HD.out.len hmem; have := hg.usedN; omega
     clear hD3 hmem hget hbl hs
     go_wp2_with (first
      | (go_at_call 81
         refine hSe.mono ?_
         rintro e w5 ⟨rfl,hD5,hk5⟩
         have HD5 := Lib.hid hD5
         have HK5 := Lib.hid (hkk.out.trans hk5)
         clear hD5 hk5 hSe)
      | fail)
     go_ret
     exact ⟨by rw [HS.out]; rfl,by rw [HS.out]; exact HD5.out,HK5.out⟩
theorem qit (w : World) (d : Nat) (D : Dsk) (M Z : Nat -> Prop) (name : ByteArray) (n : Int) (hn : -9223372036854775808 <= n /\ n <= 9223372036854775807) (h : DkG w d D M Z) (hg : Good D) (hM : ∀ k,M k -> k < w.heap.size) (hZ : ∀ k,Z k -> k < w.heap.size) :
 Calls Tryz.prog 66 #[.pointer (some ⟨d,0,none⟩), .string name, .int .i64 n] w fun e w' => e = .returned (.int .i64 (((D.cut name n).2 : Nat) : Int)) /\ DkG w' d (D.cut name n).1 M Z /\ qc (· ≠ d) w w' := by
 obtain ⟨t,h⟩ := h
 have HD := Lib.hid h
 go_enter Tryz.func66,Tryz.ntmps66
 go_wp2_with fail
 refine (qb3 w d D M Z noX t h name).mono ?_
 clear h
 rintro e w1 ⟨v,c,rfl,hF,hb1⟩
 have hb : Below w.heap.size w (w1.alloc (.cells #[fvS v,fvN v] 147)) := hb1.alloc hb1.size _
 have hD := HD.out.below hb
 have hk := Lib.hid (qe (Z := (· ≠ d)) hb nlq)
 rcases hF with ⟨hm,rfl,rfl⟩ | ⟨hm,hget,rfl,rfl⟩ | ⟨hm,hget2,rfl,hmem,hget⟩
 · have HS : Hid (D.cut name n = (D,D.may name name)) := ⟨by simp [Dsk.cut,hm]⟩
   have HX := Lib.hid hD
   clear hD
   generalize D.may name name = c at *
   have hm' : ¬ ((c : Int) = 0) := by omega
   go_wp2
   go_ret
   exact ⟨by rw [HS.out]; rfl,by rw [HS.out]; exact ⟨t,HX.out⟩,hk.out⟩
 · have HS : Hid (D.cut name n = (D,6)) := ⟨by simp [Dsk.cut,hm,hget]⟩
   have HX := Lib.hid hD
   clear hD
   go_wp2
   go_ret
   exact ⟨by rw [HS.out]; rfl,by rw [HS.out]; exact ⟨t,HX.out⟩,hk.out⟩
 · have hlost := (qbm (D := D) (a := name) (b := name) (fun e => e hm)).1
   have hd := HD.out.lt
   have hvl : v.l.length <= 1048576 := by have := HD.out.len hmem; have := hg.usedN; omega
   by_cases hr : n < 0 \/ (v.l.length : Int) < n
   · have HS : Hid (D.cut name n = (D,1)) := ⟨by
      have : n < 0 \/ ((qj (name,v)).b.size : Int) < n := hr
      simp [Dsk.cut,hm,hget,this]⟩
     have HX := Lib.hid hD
     clear hD
     have hr' : n < 0 \/ (0 <= n /\ (v.l.length : Int) < n) := by omega
     rcases hr' with h0 | ⟨h0,h1⟩
     all_goals
      go_wp2
      go_ret
      exact ⟨by rw [HS.out]; rfl,by rw [HS.out]; exact ⟨t,HX.out⟩,hk.out⟩
   obtain ⟨k,rfl⟩ : ∃ k : Nat,n = (k : Int) := ⟨n.toNat,by omega⟩
   have hkl : k <= v.l.length := by omega
   have hkl' : (k : Int) <= (v.l.length : Int) := by omega
   have h0 : (0 : Int) <= (k : Int) := by omega
   have hs : D.cut name k = D.done (qj (name,{ v with l := v.l.take k,safe := k })) name := by
    have hr2 : ¬ ((k : Int) < 0 \/ ((qj (name,v)).b.size : Int) < (k : Int)) := hr
    simp only [Dsk.cut,hm,hget,hr2]
    simp only [qj,Int.toNat_natCast,ne_eq,not_true_eq_false,if_false]
    rw [qdT]
    rfl
   clear hr
   have hbox : (w1.alloc (.cells #[fvS v,fvN v] 147)).heap[w1.heap.size]? = some (.cells #[fvS v,fvN v] 147) := heap_alloc_new _ _
   have hne : w1.heap.size ≠ d := by have := hb1.size; omega
   go_wp2_with fail
   refine (qb2 _ d D M Z noX t hD hg hlost).mono ?_
   rintro e w3 ⟨rfl,hD3,hk3⟩
   have hbox3 := (hk3.block w1.heap.size (hlq hbox) hne).trans hbox
   obtain ⟨⟨k0,k1⟩,_⟩ := row2 hbox3
   have hsz := hk3.size
   have hkk := Lib.hid (hk.out.trans hk3)
   have hsw : w.heap.size <= w3.heap.size := hkk.out.size
   clear hD hbox hk
   by_cases hbl : D.burn.lost = true
   · rw [if_pos hbl]
     have HS : Hid (D.cut name k = (D.burn,5)) := ⟨by rw [hs,qec D _ name hbl]⟩
     have HX := Lib.hid hD3
     clear hD3
     go_wp2
     go_ret
     exact ⟨by rw [HS.out]; rfl,by rw [HS.out]; exact ⟨t,HX.out⟩,hkk.out⟩
   · rw [if_neg hbl]
     have HS : Hid (D.cut name k = ({ D.burn with l := putF D.burn.l (qj (name,{ v with l := v.l.take k,safe := k })) },0)) := ⟨by rw [hs,qfO D _ name hbl rfl]⟩
     have hFi := qfj w3 d D.burn M Z t name v k hD3 hg.burn hmem hkl
     have hSe := fun w4 v' hb hv hvb hl => qeT w3 w4 d D.burn M Z t name v v' hD3 hb hg.burn (fun k hk => Nat.lt_of_lt_of_le (hM k hk) hsw) (fun k hk => Nat.lt_of_lt_of_le (hZ k hk) hsw) hmem hv hvb hl
     clear hD3 hmem hget hbl hs
     go_wp2_with (first
      | (go_at_call 82
         refine hFi.mono ?_
         rintro e w4 ⟨v',rfl,hl',hs',hv',hvb,hb4⟩
         have hfo : qj (name,v') = qj (name,{ v with l := v.l.take k,safe := k }) := by simp only [qj,hl',hs']
         have hSe' := hSe w4 v' hb4 hv' hvb (by rw [hl',List.length_take]; omega)
         rw [hfo] at hSe')
      | (go_at_call 81
         refine hSe'.mono ?_
         rintro e w5 ⟨rfl,hD5,hk5⟩
         have HD5 := Lib.hid hD5
         have HK5 := Lib.hid (hkk.out.trans hk5)
         clear hD5 hk5 hSe' hSe hFi)
      | fail)
     go_ret
     exact ⟨by rw [HS.out]; rfl,by rw [HS.out]; exact HD5.out,HK5.out⟩
end Go.Proofs.YtmeoooojmhhahaaGreat
namespace Go.Proofs.YtmeoooojmhhahaaGreat
open Go.RowKit
theorem qla {D : Dsk} {a b : ByteArray} (h : D.may a b = 0) : D.may a a = 0 := by
 obtain ⟨h1,h2,h3⟩ := qbm (D := D) (a := a) (b := b) (fun e => e h)
 simp [Dsk.may,h1,h2]
theorem qfl (w : World) (d : Nat) (D : Dsk) (M Z : Nat -> Prop) (a b : ByteArray) (h : DkG w d D M Z) (hg : Good D) (hM : ∀ k,M k -> k < w.heap.size) (hZ : ∀ k,Z k -> k < w.heap.size) :
 Calls Tryz.prog 68 #[.pointer (some ⟨d,0,none⟩), .string a, .string b] w fun e w' => e = .returned (.int .i64 (((D.rename a b).2 : Nat) : Int)) /\ DkG w' d (D.rename a b).1 M Z /\ qc (· ≠ d) w w' := by
 obtain ⟨t,h⟩ := h
 have HD := Lib.hid h
 have hR : ∀ w' A,Below w.heap.size w w' -> RStr w' A [a,b] -> Calls Tryz.prog 77 #[.pointer (some ⟨d,0,none⟩), .slice A 2 2] w' fun e w'' => e = .returned (.int .i64 ((D.may a b : Nat) : Int)) /\ Below w'.heap.size w' w'' := fun w' A hb hA => by
  have := qcU w' d D M Z noX t (h.below hb) A 2 [a,b] hA (by simp)
  rwa [qi3] at this
 have hd := h.lt
 clear h
 by_cases hm : D.may a b = 0
 · rw [hm] at hR
   go_enter Tryz.func68,Tryz.ntmps68
   go_wp2_with (first
    | (go_at_call 77
       refine (hR _ _ (by repeat (first | exact blq | refine Below.alloc ?_ (by simp <;> omega) _)) (RStr.two _ _ _ _ _ _ (by simp))).mono ?_
       rintro e w0 ⟨rfl,hb0⟩
       have hbz : Below w.heap.size w w0 := Tr.below_of hb0 (by repeat (first | exact blq | refine Below.alloc ?_ (by simp <;> omega) _)))
    | fail)
   refine (qb3 w0 d D M Z noX t (HD.out.below hbz) a).mono ?_
   rintro e w1 ⟨v,c,rfl,hF,hb1⟩
   have hb : Below w.heap.size w (w1.alloc (.cells #[fvS v,fvN v] 147)) := (hbz.trans (hb1.mono hbz.size)).alloc (Nat.le_trans hbz.size hb1.size) _
   have hD := HD.out.below hb
   have hk := Lib.hid (qe (Z := (· ≠ d)) hb nlq)
   have hma := qla hm
   rcases hF with ⟨hm1,_,_⟩ | ⟨_,hget,rfl,rfl⟩ | ⟨_,hget2,rfl,hmem,hget⟩
   · exact absurd hma hm1
   · have HS : Hid (D.rename a b = (D,6)) := ⟨by simp [Dsk.rename,hm,hget]⟩
     have HX := Lib.hid hD
     clear hD
     go_wp2
     go_ret
     exact ⟨by rw [HS.out]; rfl,by rw [HS.out]; exact ⟨t,HX.out⟩,hk.out⟩
   · have hlost := (qbm (D := D) (a := a) (b := b) (fun e => e hm)).1
     have hvl : v.l.length <= 1048576 := by have := HD.out.len hmem; have := hg.usedN; omega
     have hsafe : v.safe <= v.l.length := (hg.fils.each (qj (a,v)) (by rw [<- HD.out.fil]; exact List.mem_map_of_mem hmem)).2.1
     have hbox : (w1.alloc (.cells #[fvS v,fvN v] 147)).heap[w1.heap.size]? = some (.cells #[fvS v,fvN v] 147) := heap_alloc_new _ _
     have hne : w1.heap.size ≠ d := by have := hb1.size; have := hbz.size; omega
     have hW := fun w' => qgc v w' hsafe (by omega)
     by_cases hbusy : v.safe < v.l.length
     · have HS : Hid (D.rename a b = (D,7)) := ⟨by
        have : (qj (a,v)).safe < (qj (a,v)).b.size := hbusy
        simp [Dsk.rename,hm,hget,this]⟩
       have HX := Lib.hid (fun w' (hb' : Below (w1.alloc (.cells #[fvS v,fvN v] 147)).heap.size (w1.alloc (.cells #[fvS v,fvN v] 147)) w') => hD.below hb')
       have hq : (0 : Int) < (v.l.length : Int) - (v.safe : Int) := by omega
       clear hD
       go_wp2_with (first
        | (go_at_call 79
           refine (hW _).mono ?_
           rintro e w2 ⟨rfl,hb2⟩)
        | fail)
       go_ret
       exact ⟨by rw [HS.out]; rfl,by rw [HS.out]; exact ⟨t,HX.out _ hb2⟩,hk.out.trans (qe hb2 nlq)⟩
     · have hs : D.rename a b = D.done (qj (b,v)) a := by
        have : ¬ ((qj (a,v)).safe < (qj (a,v)).b.size) := hbusy
        simp only [Dsk.rename,hm,hget,this]
        rfl
       have hq : ¬ ((0 : Int) < (v.l.length : Int) - (v.safe : Int)) := by omega
       go_wp2_with (first
        | (go_at_call 79
           refine (hW _).mono ?_
           rintro e w2 ⟨rfl,hb2⟩
           have hbox2 := (hb2.block w1.heap.size (hlq hbox)).trans hbox
           have hD2 := hD.below hb2)
        | fail)
       refine (qb2 _ d D M Z noX t hD2 hg hlost).mono ?_
       rintro e w3 ⟨rfl,hD3,hk3⟩
       have hbox3 := (hk3.block w1.heap.size (hlq hbox2) hne).trans hbox2
       obtain ⟨⟨k0,k1⟩,_⟩ := row2 hbox3
       have hkk := Lib.hid ((hk.out.trans (qe hb2 nlq)).trans hk3)
       have hsw : w.heap.size <= w3.heap.size := hkk.out.size
       clear hD hD2 hbox hbox2 hk hW
       by_cases hbl : D.burn.lost = true
       · rw [if_pos hbl]
         have HS : Hid (D.rename a b = (D.burn,5)) := ⟨by rw [hs,qec D _ a hbl]⟩
         have HX := Lib.hid hD3
         clear hD3
         go_wp2
         go_ret
         exact ⟨by rw [HS.out]; rfl,by rw [HS.out]; exact ⟨t,HX.out⟩,hkk.out⟩
       · rw [if_neg hbl]
         have HS : Hid (D.rename a b = ({ D.burn with l := putF (putF D.burn.l (qj (a,noFV))) (qj (b,v)) },0)) := ⟨by rw [hs,Dsk.done,if_neg hbl]; rfl⟩
         have hM3 : ∀ k,M k -> k < w3.heap.size := fun k hk => Nat.lt_of_lt_of_le (hM k hk) hsw
         have hrow := hD3.row _ hmem (fun h => h)
         have hlen := hg.len
         have hsz := hD3.size
         have hu := hg.usedN
         have hbl2 := qfg D
         have hput1 := qf5 D.burn.l (qj (a,noFV))
         have hu1 := hD3.used (qj (a,noFV))
         have hfb1 : (qj (a,noFV)).b.size = 0 := rfl
         have hS1 := qdf w3 d D.burn M Z t a noFV (hD3.weak _) hM3 (Owns.nil _ _ _) (fun g e => by cases e) (fun p hp hne g e => by cases e) (by rw [hbl2]; omega) (by show 0 <= _; omega) (by rw [hsz,hbl2]; omega)
         have hS2 := fun w4 t' (hD4 : Dt w4 d { D.burn with l := putF D.burn.l (qj (a,noFV)) } M Z noX t') (hin : ∀ p ∈ t'.list,p = (a,noFV) \/ (p ∈ t.list /\ p.1 ≠ a)) (hk4 : qc (· ≠ d) w3 w4) => qdf w4 d { D.burn with l := putF D.burn.l (qj (a,noFV)) } M Z t' b v (hD4.weak _)
          (fun k hk => Nat.lt_of_lt_of_le (hM3 k hk) hk4.size)
          (by obtain ⟨u3,hbx3,_⟩ := hD3.box; exact hrow.own.keep fun g hg => hk4.block g (hrow.lt hg) (fun e => hrow.ne hbx3 (e ▸ hg)))
          hrow.out
          (fun p hp _ g hg => by
            rcases hin p hp with rfl | ⟨hp,hne⟩
            · exact fun e => by cases e
            · exact hD3.apart _ hmem p hp (fun e => hne e.symm) (fun h => h) (fun h => h) g hg)
          (by
            show qg (putF D.burn.l (qj (a,noFV))) <= _
            have e : (qj (a,noFV)).name = a := rfl
            rw [hbl2] at hu1 ⊢
            omega) (by omega) (by rw [hD4.size]; show (putF D.burn.l (qj (a,noFV))).length + 1 <= _; rw [hbl2] at hput1 ⊢; omega)
         clear hD3 hmem hget hbl hs hrow hput1 hu1
         go_wp2_with fail
         refine hS1.mono ?_
         rintro e w4 ⟨rfl,t4,hD4,hin4,_,hk4⟩
         have hSS := hS2 w4 t4 hD4 hin4 hk4
         have HK4 := Lib.hid (hkk.out.trans hk4)
         have hbox4 := (hk4.block w1.heap.size (hlq hbox3) hne).trans hbox3
         obtain ⟨⟨q0,q1⟩,_⟩ := row2 hbox4
         clear hS1 hS2 hD4 hin4 hk4 hbox3 k0 k1
         go_wp2_with fail
         refine hSS.mono ?_
         rintro e w5 ⟨rfl,t5,hD5,_,_,hk5⟩
         have HD5 := Lib.hid hD5
         have HK5 := Lib.hid (HK4.out.trans hk5)
         clear hD5 hk5 hSS
         go_wp2
         go_ret
         exact ⟨by rw [HS.out]; rfl,by rw [HS.out]; exact ⟨t5,HD5.out⟩,HK5.out⟩
 · have HS : Hid (D.rename a b = (D,D.may a b)) := ⟨by simp [Dsk.rename,hm]⟩
   generalize D.may a b = c at *
   have hm' : ¬ ((c : Int) = 0) := by omega
   go_enter Tryz.func68,Tryz.ntmps68
   go_wp2_with (first
    | (go_at_call 77
       refine (hR _ _ (by repeat (first | exact blq | refine Below.alloc ?_ (by simp <;> omega) _)) (RStr.two _ _ _ _ _ _ (by simp))).mono ?_
       rintro e w0 ⟨rfl,hb0⟩
       have hbz : Below w.heap.size w w0 := Tr.below_of hb0 (by repeat (first | exact blq | refine Below.alloc ?_ (by simp <;> omega) _)))
    | fail)
   go_ret
   exact ⟨by rw [HS.out]; rfl,by rw [HS.out]; exact ⟨t,HD.out.below hbz⟩,qe hbz nlq⟩
end Go.Proofs.YtmeoooojmhhahaaGreat
namespace Go.Proofs.YtmeoooojmhhahaaGreat
open Go.RowKit
theorem FRow.node {w : World} {base : Nat} {v : FV} (h : FRow w base v) (h0 : 0 < v.l.length) {b : Nat} {k : ByteArray} (hc : w.cell? ⟨b,0,none⟩ = some (.string k)) : blk v ≠ some b := by
 intro e
 obtain ⟨g,he,_,_,h1,_⟩ := Owns.at_ h 0 h0
 have : g = b := by
  have e' : blk v = some g := by unfold blk fvS; rw [he]; rfl
  rw [e'] at e
  injection e
 subst this
 rw [hc] at h1
 cases h1
theorem Dt.more {w w' : World} {d : Nat} {D : Dsk} {M Z : Nat -> Prop} {t : FT} {name : ByteArray} {v : FV} (h : Dt w d D M Z noX t) (hv : v = noFV \/ ((name,v) ∈ t.list /\ 0 < v.l.length)) (hg : w.grownBy w' (blk v)) :
 Dt w' d D M Z (· = name) t /\ qc Z w w' := by
 obtain ⟨u,hbx,hr⟩ := h.box
 have hd := h.lt
 have hdn : some d ≠ blk v := by
  rcases hv with rfl | ⟨hm,_⟩
  · exact fun e => by cases e
  · exact fun e => (h.row _ hm (fun h => h)).ne hbx e.symm
 refine ⟨⟨⟨u,(hg.block d hd hdn).trans hbx,hr.carry (fun k hk => .inr hk) fun b hlt hP ⟨k,hc⟩ => ⟨hP.elim .inl (fun e => by omega),hg.block b hlt ?_⟩⟩,h.bst,h.fil,?_,fun a ha b hb hab _ _ => h.apart a ha b hb hab (fun h => h) (fun h => h),h.own⟩,qc1 hg ?_⟩
 · rcases hv with rfl | ⟨hm,h0⟩
   · exact fun e => by cases e
   · exact fun e => (h.row _ hm (fun h => h)).own.node h0 hc e.symm
 · intro p hp hne
   have hrw := h.row p hp (fun h => h)
   refine ⟨hrw.own.keep fun g hg' => hg.block g (hrw.lt hg') fun e => ?_,hrw.out⟩
   rcases hv with rfl | ⟨hm,_⟩
   · cases e
   · exact h.apart _ hm p hp (fun e => hne e.symm) (fun h => h) (fun h => h) g e.symm hg'
 · intro k e
   rcases hv with rfl | ⟨hm,_⟩
   · cases e
   · exact ((h.row _ hm (fun h => h)).out k e).2
theorem qj7 {w : World} {d g off : Nat} {r used fuse : Int} {u : Option Addr} {lost : Bool} {T : TypeId} {A : Option Addr} {len cap : Nat} {l : List UInt8} (h : Lies w A len cap l) (h0 : 0 < len) (e : A = some ⟨g,off,none⟩)
 (hbx : w.heap[d]? = some (.cells #[.int .i64 r, .int .i64 used, .pointer u, .int .i64 fuse, .bool lost] T)) : g ≠ d := by
 rintro rfl
 obtain ⟨g',off',e',_,hc⟩ := h.cell 0 (by have := h.1; omega)
 rw [e] at e'
 injection e' with e'
 injection e' with e1 e2
 subst e1 e2
 rw [cell_of_row _ _ _ _ _ _ hbx] at hc
 have : off + 0 = 0 \/ off + 0 = 1 \/ off + 0 = 2 \/ off + 0 = 3 \/ off + 0 = 4 \/ 5 <= off + 0 := by omega
 rcases this with h | h | h | h | h | h
 · rw [h] at hc; cases hc
 · rw [h] at hc; cases hc
 · rw [h] at hc; cases hc
 · rw [h] at hc; cases hc
 · rw [h] at hc; cases hc
 · rw [Array.getElem?_eq_none (by simpa using h)] at hc; cases hc
theorem qj8 (a b : List UInt8) : (ByteArray.mk a.toArray) ++ (ByteArray.mk b.toArray) = ⟨(a ++ b).toArray⟩ := by
 apply ByteArray.ext
 simp
theorem qj9 (D : Dsk) (l : List Fil) : Dsk.burn { D with l := l } = { D.burn with l := l } := by
 unfold Dsk.burn
 dsimp only
 split
 · rfl
 · split <;> rfl
theorem qfm (w : World) (d : Nat) (D : Dsk) (M Z : Nat -> Prop) (name : ByteArray) (A : Option Addr) (cap : Nat) (l : List UInt8) (h : DkG w d D M Z) (hg : Good D) (hM : ∀ k,M k -> k < w.heap.size) (hZ : ∀ k,Z k -> k < w.heap.size)
 (hA : Lies w A l.length cap l) (hl : l.length <= 2147483647) :
 Calls Tryz.prog 33 #[.pointer (some ⟨d,0,none⟩), .string name, .slice A l.length cap] w fun e w' => e = .returned (.int .i64 (((D.append name ⟨l.toArray⟩).2 : Nat) : Int)) /\ DkG w' d (D.append name ⟨l.toArray⟩).1 M Z /\ qc Z w w' := by
 obtain ⟨t,h⟩ := h
 have HD := Lib.hid h
 have hR : ∀ w' A,Below w.heap.size w w' -> RStr w' A [name] -> Calls Tryz.prog 77 #[.pointer (some ⟨d,0,none⟩), .slice A 1 1] w' fun e w'' => e = .returned (.int .i64 ((D.may name name : Nat) : Int)) /\ Below w'.heap.size w' w'' := fun w' A hb hA => by
  have := qcU w' d D M Z noX t (h.below hb) A 1 [name] hA (by simp)
  rwa [qfi] at this
 have hd := h.lt
 have hbz0 : (⟨l.toArray⟩ : ByteArray).size = l.length := rfl
 obtain ⟨u0,hbx0,_⟩ := h.box
 obtain ⟨⟨a0,a1,_,_,_⟩,_⟩ := row5 hbx0
 have hroom := hg.room
 have hused := hg.used
 clear h
 by_cases hm : D.may name name = 0
 · rw [hm] at hR
   have e1 : IntKind.i64.wrap (D.room - ((qg D.l : Nat) : Int)) = D.room - ((qg D.l : Nat) : Int) := IntWalk.i64_in _ (by omega)
   by_cases hfull : D.room < (qg D.l : Int) + (l.length : Int)
   · have HS : Hid (D.append name ⟨l.toArray⟩ = (D,4)) := ⟨by
      have : D.room < (qg D.l : Int) + ((⟨l.toArray⟩ : ByteArray).size : Int) := hfull
      simp [Dsk.append,hm,this]⟩
     have hq : D.room - ((qg D.l : Nat) : Int) < (l.length : Int) := by omega
     clear hbx0
     go_enter Tryz.func33,Tryz.ntmps33
     go_wp2_with (first
      | (go_at_call 77
         refine (hR _ _ (by repeat (first | exact blq | refine Below.alloc ?_ (by simp <;> omega) _)) (RStr.one _ _ _ _ _ (by simp))).mono ?_
         rintro e w0 ⟨rfl,hb0⟩
         have hbz : Below w.heap.size w w0 := Tr.below_of hb0 (by repeat (first | exact blq | refine Below.alloc ?_ (by simp <;> omega) _))
         have c0 := (hbz.cell (p := ⟨d,0,none⟩) hd).trans a0
         have c1 := (hbz.cell (p := ⟨d,1,none⟩) hd).trans a1)
      | fail)
     go_quiet (fail)
     go_wp2
     go_ret
     have hbq := below_drewN hbz nq
     exact ⟨by rw [HS.out]; rfl,by rw [HS.out]; exact ⟨t,HD.out.below hbq⟩,qe hbq nlq⟩
   · have hq : ¬ (D.room - ((qg D.l : Nat) : Int) < (l.length : Int)) := by omega
     have hlost := (qbm (D := D) (a := name) (b := name) (fun e => e hm)).1
     go_enter Tryz.func33,Tryz.ntmps33
     go_wp2_with (first
      | (go_at_call 77
         refine (hR _ _ (by repeat (first | exact blq | refine Below.alloc ?_ (by simp <;> omega) _)) (RStr.one _ _ _ _ _ (by simp))).mono ?_
         rintro e w0 ⟨rfl,hb0⟩
         have hbz : Below w.heap.size w w0 := Tr.below_of hb0 (by repeat (first | exact blq | refine Below.alloc ?_ (by simp <;> omega) _))
         have c0 := (hbz.cell (p := ⟨d,0,none⟩) hd).trans a0
         have c1 := (hbz.cell (p := ⟨d,1,none⟩) hd).trans a1)
      | fail)
     go_quiet (fail)
     go_wp2_with fail
     have hbq := below_drewN hbz nq
     refine (qb2 _ d D M Z noX t (HD.out.below hbq) hg hlost).mono ?_
     rintro e w3 ⟨rfl,hD3,hk3⟩
     obtain ⟨c,hc⟩ : ∃ c : Nat,(if D.burn.lost = true then 5 else 0) = c := ⟨_,rfl⟩
     rw [hc]
     have hkk := Lib.hid ((qe (Z := (· ≠ d)) hbq nlq).trans hk3)
     have hsw : w.heap.size <= w3.heap.size := hkk.out.size
     have hlA : Lies w3 A l.length cap l := hA.keep hsw fun h0 g off e hlt => hkk.out.block g hlt (qj7 hA h0 e hbx0)
     obtain ⟨v0,ok,gs,gsafe,gok,gno,gq,hG⟩ := hD3.gets name
     obtain ⟨u3,hbx3,hr3⟩ := hD3.box
     obtain ⟨⟨_,_,b2,_,_⟩,_⟩ := row5 hbx3
     have hd3 := hD3.lt
     have hbl2 := qfg D
     have hv : v0 = noFV \/ ((name,v0) ∈ t.list /\ 0 < v0.l.length) := by
      cases ok with
      | false => exact .inl (gno rfl)
      | true =>
        have hmem := gok rfl
        exact .inr ⟨hmem,(hg.fils.each (qj (name,v0)) (by rw [<- hbl2,<- hD3.fil]; exact List.mem_map_of_mem hmem)).1⟩
     have hget : getF D.l name = (qj (name,v0),ok) := by
      rw [<- hbl2]
      cases ok with
      | false =>
        rw [gno rfl]
        rcases hD3.has name with ⟨v,_,_,_,hmem,hx⟩ | ⟨_,_,hx⟩
        · rw [hx] at gq; cases gq
        · rw [hx]; rfl
      | true => rw [hD3.get (gok rfl)]
     have hD' := hD3
     have HS : Hid (D.append name ⟨l.toArray⟩ = ({ D.burn with l := putF D.burn.l (qj (name,{ v0 with l := v0.l ++ l })) },c)) := ⟨by
      have hnf : ¬ D.room < (qg D.l : Int) + ((⟨l.toArray⟩ : ByteArray).size : Int) := by
       show ¬ D.room < (qg D.l : Int) + (l.length : Int)
       omega
      unfold Dsk.append
      rw [hm,if_neg (by simp),if_neg hnf,hget]
      dsimp only
      rw [qj9,hbl2]
      have e : (qj (name,v0)).b ++ (⟨l.toArray⟩ : ByteArray) = ⟨(v0.l ++ l).toArray⟩ := qj8 _ _
      rw [e]
      rw [<- hc]
      by_cases hbl : D.burn.lost = true
      · rw [if_pos hbl,if_pos hbl]; rfl
      · rw [if_neg hbl,if_neg hbl]; rfl⟩
     clear hc
     have hvl : v0.l.length <= qg D.l := by
      rcases hv with rfl | ⟨hmem,_⟩
      · exact Nat.zero_le _
      · have := hD3.len hmem; rwa [hbl2] at this
     have hrow0 : FRow w3 0 v0 := by
      rcases hv with rfl | ⟨hmem,_⟩
      · exact Owns.nil _ _ _
      · exact (hD3.row _ hmem (fun h => h)).own
     have hG3 := hG (Pn M w3) w3 u3 hr3
     have hM3 : ∀ k,M k -> k < w3.heap.size := fun k hk => Nat.lt_of_lt_of_le (hM k hk) hsw
     have hZ3 : ∀ k,Z k -> k < w3.heap.size := fun k hk => Nat.lt_of_lt_of_le (hZ k hk) hsw
     have hMo := fun w4 (hb4 : Below w3.heap.size w3 w4) => qk7 v0 A l.length cap l w4 (hrow0.keep fun g hg => hb4.block g (hrow0.lt g hg).2) (hlA.below hb4 nlq) (by rw [List.length_append]; omega)
     have hSe := fun w4 w5 v' (hb4 : Below w3.heap.size w3 w4) (hgr : w4.grownBy w5 (blk v0)) (hv' : FRow w5 0 v') (hll : v'.l = v0.l ++ l) (hvb : blk v' = blk v0 \/ ∃ g,blk v' = some g /\ w4.heap.size <= g) =>
      qdf w5 d D.burn M Z t name v' (Dt.more (hD3.below hb4) hv hgr).1 (fun k hk => Nat.lt_of_lt_of_le (hM3 k hk) (Nat.le_trans hb4.size hgr.size)) hv'
       (fun g hg' => by
         rcases hvb with e | ⟨g',e,hge⟩
         · rcases hv with rfl | ⟨hmem,_⟩
           · rw [e] at hg'; cases hg'
           · exact (hD3.row _ hmem (fun h => h)).out g (e ▸ hg')
         · rw [hg'] at e
           injection e with e
           subst e
           have := hb4.size
           exact ⟨fun q => by have := hM3 g q; omega,fun q => by have := hZ3 g q; omega⟩)
       (fun p hp hne g hg' => by
         rcases hvb with e | ⟨g',e,hge⟩
         · rcases hv with rfl | ⟨hmem,_⟩
           · rw [e] at hg'; cases hg'
           · exact hD3.apart _ hmem p hp (fun q => hne q.symm) (fun h => h) (fun h => h) g (e ▸ hg')
         · rw [hg'] at e
           injection e with e
           subst e
           intro q
           have := (hD3.row p hp (fun h => h)).lt q
           have := hb4.size
           omega)
       (by have := hg.usedN; rw [hbl2]; omega) (by rw [hll,List.length_append]; have := hg.usedN; omega) (by have := hg.len; rw [hD3.size,hbl2]; omega)
     have hKe := fun w4 w5 (hb4 : Below w3.heap.size w3 w4) (hgr : w4.grownBy w5 (blk v0)) => (Dt.more (hD3.below hb4) hv hgr).2
     have hZd := hD3.own.2
     clear hD3 hD' hget hv gs gsafe gok gno gq hG hbx3 hr3 hrow0 hA hbx0 a0 a1 c0 c1 hk3 hbl2 hlA
     go_wp2_with (first
      | (go_at_call 88
         refine hG3.mono ?_
         rintro e w4 ⟨rfl,hb4⟩
         have hb4' := hb4.alloc hb4.size (.cells #[fvS v0,fvN v0] 147))
      | (go_at_call 89
         refine (hMo _ hb4').mono ?_
         rintro e w5 ⟨v',rfl,hll,hs',hv',hgr,hvb⟩
         have hS5 := hSe _ w5 v' hb4' hgr hv' hll hvb
         have hfo : qj (name,v') = qj (name,{ v0 with l := v0.l ++ l }) := by simp only [qj,hll,hs']
         rw [hfo] at hS5
         have hK5 := Lib.hid (((hkk.out.mono (Z' := Z) (fun k hk e => hZd (e ▸ hk))).trans (qe hb4' nlq)).trans (hKe _ w5 hb4' hgr)))
      | (go_at_call 81
         refine hS5.mono ?_
         rintro e w6 ⟨rfl,t6,hD6,_,_,hk6⟩
         have HD6 := Lib.hid hD6
         have HK6 := Lib.hid (hK5.out.trans (hk6.mono (Z' := Z) (fun k hk e => hZd (e ▸ hk))))
         clear hD6 hk6 hS5)
      | fail)
     go_ret
     exact ⟨by rw [HS.out]; rfl,by rw [HS.out]; exact ⟨t6,HD6.out⟩,HK6.out⟩
 · have HS : Hid (D.append name ⟨l.toArray⟩ = (D,D.may name name)) := ⟨by simp [Dsk.append,hm]⟩
   generalize D.may name name = c at *
   have hm' : ¬ ((c : Int) = 0) := by omega
   go_enter Tryz.func33,Tryz.ntmps33
   go_wp2_with (first
    | (go_at_call 77
       refine (hR _ _ (by repeat (first | exact blq | refine Below.alloc ?_ (by simp <;> omega) _)) (RStr.one _ _ _ _ _ (by simp))).mono ?_
       rintro e w0 ⟨rfl,hb0⟩
       have hbz : Below w.heap.size w w0 := Tr.below_of hb0 (by repeat (first | exact blq | refine Below.alloc ?_ (by simp <;> omega) _)))
    | fail)
   go_ret
   exact ⟨by rw [HS.out]; rfl,by rw [HS.out]; exact ⟨t,HD.out.below hbz⟩,qe hbz nlq⟩
end Go.Proofs.YtmeoooojmhhahaaGreat
namespace Go.Proofs.YtmeoooojmhhahaaGreat
open Go.RowKit
theorem qiu (room : Int) (w : World) (M Z : Nat -> Prop) (h0 : 0 <= room) (h1 : room <= 1048576) (hM : ∀ k,M k -> k < w.heap.size) (hZ : ∀ k,Z k -> k < w.heap.size) :
 Calls Tryz.prog 11 #[.int .i64 room] w fun e w' => ∃ d,e = .returned (.tuple #[.pointer (some ⟨d,0,none⟩), .int .i64 0]) /\ DkG w' d ⟨room,[],false,0,false⟩ M Z /\ Below w.heap.size w w' := by
 have h0' : ¬ (room < 0) := by omega
 have h1' : ¬ (1048576 < room) := by omega
 have HX : Hid (DkG (w.alloc (.cells #[.int .i64 room, .int .i64 0, .pointer none, .int .i64 (-1), .bool false] 92)) w.heap.size ⟨room,[],false,0,false⟩ M Z) := ⟨.nil,⟨⟨none,heap_alloc_new _ _,rfl,fun k hk => .inr hk⟩,List.Pairwise.nil,rfl,(fun p hp => by cases hp),(fun a ha => by cases ha),⟨fun e => by have := hM _ e; omega,fun e => by have := hZ _ e; omega⟩⟩⟩
 clear hM hZ
 go_enter Tryz.func11,Tryz.ntmps11
 go_wp2
 go_ret2
 exact ⟨_,rfl,HX.out,blq.alloc nlq _⟩
theorem new_bad (room : Int) (w : World) (h : room < 0 \/ 1048576 < room) : Calls Tryz.prog 11 #[.int .i64 room] w fun e w' => e = .returned (.tuple #[.pointer none, .int .i64 1]) /\ w = w' := by
 have h' : room < 0 \/ (0 <= room /\ 1048576 < room) := by omega
 clear h
 rcases h' with h0 | ⟨h0,h1⟩
 all_goals
  go_enter Tryz.func11,Tryz.ntmps11
  go_wp2
  go_ret2
  exact ⟨rfl,rfl⟩
theorem qlb (w : World) (d : Nat) (D : Dsk) (M Z : Nat -> Prop) (h : DkG w d D M Z) : Calls Tryz.prog 30 #[.pointer (some ⟨d,0,none⟩)] w fun e w' => e = .returned (.int .i64 ((qg D.l : Nat) : Int)) /\ w = w' := by
 obtain ⟨t,h⟩ := h
 obtain ⟨u,hbx,_⟩ := h.box
 obtain ⟨⟨a0,a1,a2,a3,a4⟩,_⟩ := row5 hbx
 clear h hbx
 go_enter Tryz.func30,Tryz.ntmps30
 go_wp2
 go_ret
 exact ⟨rfl,rfl⟩
theorem qlc (w : World) (d : Nat) (D : Dsk) (M Z : Nat -> Prop) (n : Int) (h : DkG w d D M Z) :
 Calls Tryz.prog 25 #[.pointer (some ⟨d,0,none⟩), .int .i64 n] w fun e w' => e = .returned (.int .i64 (((D.fuse n).2 : Nat) : Int)) /\ DkG w' d (D.fuse n).1 M Z /\ qc (· ≠ d) w w' := by
 obtain ⟨t,h⟩ := h
 have HD := Lib.hid h
 have hR := qcU w d D M Z noX t h none 0 [] (fun h => absurd h (by simp)) (by simp)
 rw [qh1] at hR
 have hd := h.lt
 obtain ⟨u,hbx,_⟩ := h.box
 obtain ⟨_,⟨f0,f1,f2,f3,f4⟩⟩ := row5 hbx
 obtain ⟨⟨a0,a1,a2,a3,a4⟩,_⟩ := row5 hbx
 clear h
 cases hl : D.lost with
 | true =>
   rw [hl,if_pos rfl] at hR
   have HS : Hid (D.fuse n = (D,5)) := ⟨by simp [Dsk.fuse,hl]⟩
   clear hl a0 a1 a2 a3 a4 f0 f1 f2 f3 f4 hbx
   go_enter Tryz.func25,Tryz.ntmps25
   go_wp2_with (first | (go_at_call 77; refine hR.mono ?_; rintro e w1 ⟨rfl,hb1⟩) | fail)
   go_ret
   exact ⟨by rw [HS.out]; rfl,by rw [HS.out]; exact ⟨t,HD.out.below hb1⟩,qe hb1 nlq⟩
 | false =>
   rw [hl,if_neg (by decide)] at hR
   by_cases hn : n < 0
   · have HS : Hid (D.fuse n = (D,1)) := ⟨by simp [Dsk.fuse,hl,hn]⟩
     clear hl a0 a1 a2 a3 a4 f0 f1 f2 f3 f4 hbx
     go_enter Tryz.func25,Tryz.ntmps25
     go_wp2_with (first | (go_at_call 77; refine hR.mono ?_; rintro e w1 ⟨rfl,hb1⟩) | fail)
     go_ret
     exact ⟨by rw [HS.out]; rfl,by rw [HS.out]; exact ⟨t,HD.out.below hb1⟩,qe hb1 nlq⟩
   · have HS : Hid (D.fuse n = ({ D with set := true,n := n },0)) := ⟨by simp [Dsk.fuse,hl,hn]⟩
     have HX : ∀ w1,Below w.heap.size w w1 -> Hid (Dt (w1.setCell ⟨d,3,none⟩ (.int .i64 n)) d { D with set := true,n := n } M Z noX t) := fun w1 hb1 => ⟨by
      have h1 := HD.out.below hb1
      have hbx1 := (hb1.block d hd).trans hbx
      refine h1.turn (qE _) (u := u) (by rw [setCell_at w1 ⟨d,3,none⟩ _ _ _ _ rfl hbx1]; rfl) (fun cs hc => ?_) rfl
      rw [hbx1] at hc
      injection hc with hc
      injection hc with hc
      subst hc
      rfl⟩
     clear hbx
     go_enter Tryz.func25,Tryz.ntmps25
     go_wp2_with (first
      | (go_at_call 77; refine hR.mono ?_; rintro e w1 ⟨rfl,hb1⟩
         have b3 := (hb1.cell (p := ⟨d,3,none⟩) hd).trans a3
         have q3 := (hb1.frozen (p := ⟨d,3,none⟩) hd).trans f3)
      | fail)
     go_ret
     exact ⟨by rw [HS.out]; rfl,by rw [HS.out]; exact ⟨t,(HX w1 hb1).out⟩,(qe hb1 nlq).trans (qE _)⟩
theorem qld (w : World) (d : Nat) (D : Dsk) (M Z : Nat -> Prop) (name : ByteArray) (h : DkG w d D M Z) :
 Calls Tryz.prog 76 #[.pointer (some ⟨d,0,none⟩), .string name] w fun e w' => e = .returned (.int .i64 ((getF D.l name).1.safe : Int)) /\ Below w.heap.size w w' := by
 obtain ⟨t,h⟩ := h
 obtain ⟨v,ok,_,gs,_,_,_,hG⟩ := h.gets name
 obtain ⟨u,hbx,hr⟩ := h.box
 obtain ⟨⟨a0,a1,a2,a3,a4⟩,_⟩ := row5 hbx
 have hG1 := hG _ w u hr
 rw [gs]
 clear h hbx hr hG gs
 go_enter Tryz.func76,Tryz.ntmps76
 go_wp2_with (first
  | (go_at_call 88; refine hG1.mono ?_; rintro e w1 ⟨rfl,hb1⟩)
  | fail)
 go_ret
 exact ⟨rfl,hb1.alloc hb1.size _⟩
theorem qle (x : FV) (w : World) : (Instr.field 147 (fvV x) 0).run Tryz.prog w = .ok (fvS x) w := by kernel_rfl
theorem qhi (w : World) (d : Nat) (D : Dsk) (M Z : Nat -> Prop) (name : ByteArray) (h : DkG w d D M Z) (hg : Good D) :
 Calls Tryz.prog 31 #[.pointer (some ⟨d,0,none⟩), .string name] w fun e w' => ∃ A cap,e = .returned (.tuple #[.slice A (D.read name).1.size cap, .int .i64 (((D.read name).2 : Nat) : Int)]) ∧
  Lies w' A (D.read name).1.size cap (D.read name).1.data.toList /\ (∀ a,A = some a -> w.heap.size <= a.block) /\ Below w.heap.size w w' /\ (∀ g off j,A = some ⟨g,off,none⟩ -> w'.frozen? ⟨g,j,none⟩ = false) := by
 obtain ⟨t,h⟩ := h
 have HD := Lib.hid h
 go_enter Tryz.func31,Tryz.ntmps31
 go_wp2_with fail
 refine (qb3 w d D M Z noX t h name).mono ?_
 clear h
 rintro e w1 ⟨v,c,rfl,hF,hb1⟩
 have hb : Below w.heap.size w (w1.alloc (.cells #[fvS v,fvN v] 147)) := hb1.alloc hb1.size _
 rcases hF with ⟨hm,rfl,rfl⟩ | ⟨hm,hget,rfl,rfl⟩ | ⟨hm,hget2,rfl,hmem,hget⟩
 · have HS : Hid (D.read name = (ByteArray.empty,D.may name name)) := ⟨by simp [Dsk.read,hm]⟩
   generalize D.may name name = c at *
   have hm' : ¬ ((c : Int) = 0) := by omega
   go_wp2
   go_ret2
   rw [HS.out]
   exact ⟨none,0,rfl,Lies.nil _,fun a e => (by cases e),hb,fun g off j e => (by cases e)⟩
 · have HS : Hid (D.read name = (ByteArray.empty,6)) := ⟨by simp [Dsk.read,hm,hget]⟩
   go_wp2
   go_ret2
   rw [HS.out]
   exact ⟨none,0,rfl,Lies.nil _,fun a e => (by cases e),hb,fun g off j e => (by cases e)⟩
 · have HS : Hid (D.read name = (⟨v.l.toArray⟩,0)) := ⟨by simp only [Dsk.read,hm,hget]; rfl⟩
   have hvl : v.l.length <= 1048576 := by have := HD.out.len hmem; have := hg.usedN; omega
   have hrow := ((HD.out.below hb).row _ hmem (fun h => h)).own
   have hC := qk6 v _ hrow (by omega)
   clear hrow hmem hget hvl
   go_wp2_with (first
    | (go_at_call 86
       refine hC.mono ?_
       rintro e w2 ⟨v',rfl,hl',hs',hv',hb2⟩
       obtain ⟨A',c',l',s'⟩ := v'
       dsimp only at hl' hs'
       subst hl' hs'
       have hfd := qle ⟨A',c',v.l,v.safe⟩)
    | fail)
   go_ret2
   rw [HS.out]
   refine ⟨A',c',rfl,hv'.lies,fun a e => ?_,hb.trans (hb2.mono hb.size),fun g off j e => ?_⟩
   · subst e
     have hx := (hv'.lt a.block rfl).1
     exact Nat.le_trans hb.size hx
   · subst e
     rcases hv'.2 with ⟨e1,_⟩ | ⟨g',cap',cur,e1,_,hg,_⟩
     · cases e1
     · injection e1 with e1
       injection e1 with e1
       injection e1 with e1
       subst e1
       simp [World.frozen?,hg]
end Go.Proofs.YtmeoooojmhhahaaGreat
namespace Go.Proofs.YtmeoooojmhhahaaGreat
open Go.RowKit
def RP (w : World) (A : Option Addr) (l : List (ByteArray × FV)) : Prop :=
 0 < l.length -> ∃ g,A = some ⟨g,0,none⟩ /\ g < w.heap.size /\ ∀ j (hj : j < l.length),
  w.cell? ⟨g,j * 3,none⟩ = some (.string l[j].1) /\ w.cell? ⟨g,j * 3 + 1,none⟩ = some (fvS l[j].2) /\ w.cell? ⟨g,j * 3 + 2,none⟩ = some (fvN l[j].2)
theorem qka (l : List (ByteArray × FV)) : ∀ j (hj : j < l.length),(MapFl.cellsL l)[j * 3]? = some (.string l[j].1) /\ (MapFl.cellsL l)[j * 3 + 1]? = some (fvS l[j].2) /\ (MapFl.cellsL l)[j * 3 + 2]? = some (fvN l[j].2) := by
 induction l with
 | nil => intro j hj; simp at hj
 | cons f l ih =>
   intro j hj
   cases j with
   | zero => simp [MapFl.cellsL,List.flatMap_cons]
   | succ j =>
     have := ih j (by simpa using hj)
     have e : ∀ i,(MapFl.cellsL (f :: l))[(j + 1) * 3 + i]? = (MapFl.cellsL l)[j * 3 + i]? := fun i => by
      rw [show (j + 1) * 3 + i = (j * 3 + i) + 3 by omega]
      simp [MapFl.cellsL,List.flatMap_cons]
     refine ⟨?_,?_,?_⟩
     · rw [show (j + 1) * 3 = (j + 1) * 3 + 0 from rfl,e]; simpa using this.1
     · rw [e]; simpa using this.2.1
     · rw [e]; simpa using this.2.2
theorem RP.of_own {w : World} {base : Nat} {T : TypeId} {A : Option Addr} {cap : Nat} {l : List (ByteArray × FV)} (h : w.ownsRow base T 3 (.slice A l.length cap) l.length (MapFl.cellsL l)) : RP w A l /\ ∀ g,A = some ⟨g,0,none⟩ -> base <= g := by
 rcases h.2 with ⟨e,h0⟩ | ⟨g,cap',cur,e,hb,hg,hc,hm,hs,ht⟩
 · injection e with e1 e2 e3
   subst e1
   exact ⟨fun h1 => by omega,fun g e => by cases e⟩
 · injection e with e1 e2 e3
   subst e1 e3
   refine ⟨fun _ => ⟨g,rfl,hlt hg,fun j hj => ?_⟩,fun g' e => by injection e with e; injection e with e; rw [<- e]; exact hb⟩
   obtain ⟨q0,q1,q2⟩ := qka l j hj
   have hx : ∀ i v,i < l.length * 3 -> (MapFl.cellsL l)[i]? = some v -> w.cell? ⟨g,i,none⟩ = some v := fun i v hi hv => by
    rw [cell_of_row w g i cur _ (0,0) hg]
    have := congrArg (fun q => q[i]?) ht
    simp only [List.getElem?_take,if_pos hi] at this
    rw [<- hv,<- this]
    simp
   exact ⟨hx _ _ (by omega) q0,hx _ _ (by omega) q1,hx _ _ (by omega) q2⟩
theorem RP.keep {w w' : World} {A : Option Addr} {l : List (ByteArray × FV)} (h : RP w A l) (hs : w.heap.size <= w'.heap.size) (hk : ∀ g,A = some ⟨g,0,none⟩ -> g < w.heap.size -> w'.heap[g]? = w.heap[g]?) : RP w' A l := fun h0 => by
 obtain ⟨g,e,hg,hc⟩ := h h0
 have hx : ∀ o,w'.cell? ⟨g,o,none⟩ = w.cell? ⟨g,o,none⟩ := fun o => World.cell?_of_block (hk g e hg)
 exact ⟨g,e,Nat.lt_of_lt_of_le hg hs,fun j hj => ⟨(hx _).trans (hc j hj).1,(hx _).trans (hc j hj).2.1,(hx _).trans (hc j hj).2.2⟩⟩
theorem RP.below {w w' : World} {A : Option Addr} {l : List (ByteArray × FV)} {B : Nat} (h : RP w A l) (hb : Below B w w') (hB : w.heap.size <= B) : RP w' A l :=
 h.keep hb.size fun g _ hg => hb.block g (Nat.lt_of_lt_of_le hg hB)
theorem qdg : (Tryz.prog.info? 9).map (fun i => (i.zero,i.size,i.bytes)) = some (some (.string ⟨#[]⟩),1,16) := by kernel_rfl
theorem qlf {w w' : World} {base : Nat} {e : TypeId} {size n : Nat} {v : Value} {xs : List Value} (h : w.ownsRow base e size v n xs) (hk : ∀ g,v.ownBlock = some g -> w'.heap[g]? = w.heap[g]?) : w'.ownsRow base e size v n xs := by
 rcases h.2 with ⟨e,h0⟩ | ⟨g,cap,cur,e,hb,hg,r⟩
 · exact ⟨h.1, .inl ⟨e,h0⟩⟩
 · exact ⟨h.1, .inr ⟨g,cap,cur,e,hb,(hk g (by rw [e]; rfl)).trans hg,r⟩⟩
structure qfP (w wr : World) (A : Option Addr) (l : List (ByteArray × FV)) (k : Nat) (v : Value) : Prop where
 row : RP wr A l
 own : wr.ownsRow w.heap.size 9 1 v k ((l.take k).map fun p => .string p.1)
 off : ∀ g,A = some ⟨g,0,none⟩ -> g < wr.heap.size /\ v.ownBlock ≠ some g
 below : Below w.heap.size w wr
 form : ∃ g cap,v = .slice (some ⟨g,0,none⟩) k cap
theorem qlg {w : World} {base : Nat} {T : TypeId} {g cap : Nat} {l : List ByteArray} (h : w.ownsRow base T 1 (.slice (some ⟨g,0,none⟩) l.length cap) l.length (l.map fun p => .string p)) : RStr w (some ⟨g,0,none⟩) l /\ base <= g := by
 rcases h.2 with ⟨e,h0⟩ | ⟨g',cap',cur,e,hb,hg,hc,hm,hs,ht⟩
 · cases e
 · injection e with e1 e2 e3
   injection e1 with e1
   injection e1 with e1
   subst e1 e3
   refine ⟨fun _ => ⟨g,0,rfl,hlt hg,fun j hj => ?_⟩,hb⟩
   rw [cell_of_row w g _ cur _ (0,0) hg,Nat.zero_add]
   have := congrArg (fun q => q[j]?) ht
   simp only [List.getElem?_take,List.getElem?_map,List.getElem?_eq_getElem hj,Option.map_some] at this
   rw [if_pos (by omega)] at this
   simpa using this
theorem qkb (w : World) (d : Nat) (D : Dsk) (M Z : Nat -> Prop) (h : DkG w d D M Z) (hg : Good D) :
 Calls Tryz.prog 73 #[.pointer (some ⟨d,0,none⟩)] w fun e w' => ∃ A cap,e = .returned (.slice A D.l.length cap) /\ RStr w' A (D.l.map Fil.name) /\ (∀ a,A = some a -> w.heap.size <= a.block) /\ Below w.heap.size w w' := by
 obtain ⟨t,h⟩ := h
 obtain ⟨u,hbx,hr⟩ := h.box
 have hd := h.lt
 obtain ⟨⟨a0,a1,a2,a3,a4⟩,_⟩ := row5 hbx
 have hsz := h.size
 have hlen := hg.len
 have hname : D.l.map Fil.name = t.list.map fun p => p.1 := by
  rw [<- h.fil,List.map_map]; rfl
 have hl1 : t.list.length = D.l.length := by rw [Tr.length_list,hsz]
 obtain ⟨i0,hi0,hz0,hz1,hz2⟩ := info_parts qdg
 have hmk : ∀ w1 : World,(Instr.makeSlice 109 (.int .i64 0) (.int .i64 (t.size : Int))).run Tryz.prog w1 = .ok (.slice (some ⟨w1.heap.size,0,none⟩) 0 t.size) (w1.alloc (.cells (madeCells #[.string ⟨#[]⟩] (t.size * 1)) 9)) := fun w1 => by
  have := run_make (P := Tryz.prog) w1 109 9 i0 _ Tryz.underlying109 hi0 hz0 .i64 .i64 0 (t.size : Int) (Int.le_refl _) (by omega) (by rw [hz2]; omega) (by omega)
  rw [hz1] at this
  exact this
 have hL := MapFl.len_map t u w hr
 have hAll := fun w' (hb : Below w.heap.size w w') => MapFl.all_map t u w' (hr.below hb nlq) (by omega)
 generalize t.list = l at *
 have hls : l.length = t.size := by rw [hl1,hsz]
 generalize t.size = n at *
 rw [hname,<- hsz]
 have hn : n <= 1048576 := by omega
 clear h hbx hr hg a0 a1 a3 a4 hname hl1 hsz
 clear hlen hi0 hz0 hz1 hz2
 have hn' : (n : Int) <= 1048576 := by omega
 go_enter Tryz.func73,Tryz.ntmps73
 go_wp2_with (first
  | (go_at_call 126
     refine hL.mono ?_
     rintro e w1 ⟨rfl,hb1⟩
     have b2 := (hb1.cell (p := ⟨d,2,none⟩) hd).trans a2
     have hd1 : d < w1.heap.size := Nat.lt_of_lt_of_le hd hb1.size)
  | (go_at_call 78
     refine (hAll _ (hb1.alloc hb1.size _)).mono ?_
     rintro e w2 ⟨A,c,rfl,ho2,hb2⟩)
  | fail)
 have hrp := RP.of_own ho2
 have hN0 : qfP w w2 A l 0 (.slice (some ⟨w1.heap.size,0,none⟩) 0 n) := by
  have hown := World.ownsRow_made (base := w.heap.size) (e := 9) (size := 1) w1 (madeCells #[.string ⟨#[]⟩] n) n hb1.size (by unfold maxLen; omega) (by rw [Nat.mul_one]; exact size_madeCells _ _)
  refine ⟨hrp.1,qlf hown fun g hg => hb2.block g (hown.lt g hg).2,fun g e => ?_,(hb1.alloc hb1.size _).trans (hb2.mono (by have := hb1.size; simp; omega)),⟨_,_,rfl⟩⟩
  have h1 := hrp.2 g e
  rcases ho2.2 with ⟨e1,_⟩ | ⟨g',cap',cur,e1,_,hg,_⟩
  · injection e1 with e1; rw [e1] at e; cases e
  · injection e1 with e1
    rw [e1] at e
    injection e with e
    injection e with e
    subst e
    refine ⟨hlt hg,fun q => ?_⟩
    injection q with q
    have q : w1.heap.size = g' := q
    simp at h1
    omega
 clear ho2 hrp hb2 hb1 b2 a2 hmk hAll hL hd1
 go_wp2
 go_loopg [3,20] n (fun g v i wr => ∃ k : Nat,k + g = n /\ i = .int .i64 (k : Int) /\ qfP w wr A l k v)
 case atStart => exact ⟨0,by omega,rfl,hN0⟩
 case round =>
  clear hN0
  obtain ⟨k,hk,rfl,hN⟩ := hrel
  by_cases hlt : k < n
  · have hlt' : (k : Int) < (n : Int) := by omega
    obtain ⟨g1,cap1,rfl⟩ := hN.form
    obtain ⟨gA,rfl,hgA,hc⟩ := hN.row (by omega)
    obtain ⟨c0,c1,c2⟩ := hc k (by omega)
    have hown := hN.own
    have hoff := (hN.off gA rfl).2
    have hbl := hN.below
    have hsw := hN.below.size
    obtain ⟨i0,hi0,hz0,hz1,hz2⟩ := info_parts qdg
    clear hc
    go_wp2_with (first
     | (at_builtin; refine wpList_append_lies _ rfl _ _ 109 rfl w.heap.size 9 i0 _ 1 16 Tryz.underlying109 hi0 hz0 hz1 hz2 rfl (by omega) (.slice (some ⟨g1,0,none⟩) k cap1) k _ rfl ((hown.alloc _).alloc _) ⟨wr.heap.size + 1,0,none⟩ 1 1 [.string l[k].1] rfl rfl (World.news_of_block (by simpa using heap_alloc2_new wr _ _)) (by simp [Value.oneCell']) (by omega) (by unfold maxLen; omega) (by omega) (by simp; omega) (wr.heap.size + 2) (by simp) ?_
        intro g2 cap2 w2 ho2 hgr2 hat2 hlt2)
     | fail)
    have hblk : ∀ q,q < wr.heap.size -> some q ≠ (Value.slice (some ⟨g1,0,none⟩) k cap1).ownBlock -> w2.heap[q]? = wr.heap[q]? := fun q hq hne =>
     (hgr2.block q (by simp; omega) hne).trans ((Below.heap_alloc _ _ q (by simp; omega)).trans (Below.heap_alloc _ _ q hq))
    have hN2 : qfP w w2 (some ⟨gA,0,none⟩) l (k + 1) (.slice (some ⟨g2,0,none⟩) (k + 1) cap2) := by
     refine ⟨hN.row.keep (by have := hgr2.size; simp at this; omega) fun g e hg => hblk g hg (fun q => (hN.off g e).2 q.symm),?_,fun g e => ?_,?_,⟨_,_,rfl⟩⟩
     · rw [List.take_succ_eq_append_getElem (by omega),List.map_append]
       exact ho2
     · injection e with e
       injection e with e
       subst e
       refine ⟨by have := hgr2.size; simp at this; omega,fun q => ?_⟩
       injection q with q
       have q : g2 = gA := q
       subst q
       rcases hat2 with q | q
       · exact hoff q
       · omega
     · exact ((hbl.alloc hbl.size _).alloc (by simp; omega) _).grown hgr2 (by simp; omega) (fun q hq => (hown.lt q hq).1)
    have HN2 := Lib.hid hN2
    clear hN2 hN hown ho2 hgr2 hat2 hblk hoff hbl c0 c1 c2
    go_wp2
    go_roundg (gk - 1)
    case measure => omega
    case rel => exact ⟨k + 1,by omega,by go_num,HN2.out⟩
  · obtain rfl : k = n := by omega
    have hdec : decide ((k : Int) < (k : Int)) = false := decide_eq_false (by omega)
    obtain ⟨g1,cap1,rfl⟩ := hN.form
    have hfin := hN.own
    rw [List.take_of_length_le (by omega)] at hfin
    have hb := hN.below
    clear hN
    go_wp2
    go_ret
    have hlm : (l.map fun p => p.1).length = k := by simp [hls]
    have := qlg (l := l.map fun p => p.1) (by rw [hlm,List.map_map]; exact hfin)
    exact ⟨_,_,rfl,this.1,fun a e => by injection e with e; subst e; exact this.2,hb⟩
end Go.Proofs.YtmeoooojmhhahaaGreat
namespace Go.Proofs.YtmeoooojmhhahaaGreat
open Go.RowKit
theorem qi5 (k m : Int) (hk : -9223372036854775808 <= k /\ k <= 9223372036854775807) (h1 : 1 <= m) (h2 : m <= 1099511627777) (w : World) :
 Calls Tryz.prog 80 #[.int .i64 k, .int .i64 m] w fun e w' => e = .returned (.int .i64 (k % m)) /\ w = w' := by
 have hback := qf6 k m (by omega)
 have hy1 := Int.lt_tmod_of_pos k (show 0 < m by omega)
 have hy2 := Int.tmod_lt_of_pos k (show 0 < m by omega)
 have hmz : (m == 0) = false := by simp; omega
 obtain ⟨y,hy⟩ : ∃ y,k.tmod m = y := ⟨_,rfl⟩
 rw [hy] at hback hy1 hy2
 have hym : 0 <= y + m := by omega
 have hback2 : (y + m).tmod m = k % m := by rw [Int.tmod_eq_emod_of_nonneg hym]; exact hback
 have hyw : IntKind.i64.wrap (y + m) = y + m := IntWalk.i64_in _ (by omega)
 have hr1 := Int.emod_nonneg k (show m ≠ 0 by omega)
 have hr2 := Int.emod_lt_of_pos k (show 0 < m by omega)
 generalize k % m = r at *
 have hyw2 : IntKind.i64.wrap r = r := IntWalk.i64_in _ (by omega)
 have hyw3 : IntKind.i64.wrap y = y := IntWalk.i64_in _ (by omega)
 clear hback
 go_enter Tryz.func80,Tryz.ntmps80
 go_wp2
 go_ret
 exact ⟨rfl,rfl⟩
theorem RI.rest {w : World} {K : Option Addr} {klen kcap : Nat} {Y : Nat -> Int} (h : RI w K klen Y) (h0 : 0 < klen) (hc : klen <= kcap) : RI w (qK K kcap 1) (klen - 1) (fun j => Y (1 + j)) := by
 refine ⟨fun j hj => h.1 (1 + j) (by omega),fun h1 => ?_⟩
 obtain ⟨b,off,rfl,hb,hcell⟩ := h.2 h0
 refine ⟨b,off + 1,qca _ _ _ _ (by omega),hb,fun j hj => ?_⟩
 rw [Nat.add_assoc]
 exact hcell (1 + j) (by omega)
theorem qi6 (w : World) : (Go.sizeOf 3).run Tryz.prog w = .ok 1 w := by
 have : (Tryz.prog.info? 3).map (fun i => (i.zero,i.size,i.bytes)) = some (some (.int .i64 0),1,8) := by kernel_rfl
 obtain ⟨i,hi,_,hs,_⟩ := info_parts this
 simp [Go.sizeOf,typeInfo,hi,hs]
structure qbI (w : World) (d : Nat) (D : Dsk) (M Z : Nat -> Prop) (l : List (ByteArray × FV)) (A : Option Addr) (Y : Nat -> Int) (klen : Nat) (k : Nat) (K' : Option Addr) (n' c' : Nat) (wr : World) : Prop where
 dk : ∃ t',Dt wr d { D with l := (backSt Y klen D.l k).2 } M Z noX t' /\ ∀ p ∈ l.drop k,p ∈ t'.list
 row : RP wr A l
 ra : ∀ g,A = some ⟨g,0,none⟩ -> w.heap.size <= g
 keep : RI wr K' n' (fun j => Y ((backSt Y klen D.l k).1 + j))
 kd : 0 < n' -> ∀ a,K' = some a -> a.block ≠ d
 kl : n' = klen - (backSt Y klen D.l k).1
 kc : n' <= c'
 used : qg (backSt Y klen D.l k).2 <= qg D.l
 kp : qc (· ≠ d) w wr
theorem qbI.next {w : World} {d : Nat} {D : Dsk} {M Z : Nat -> Prop} {l : List (ByteArray × FV)} {A : Option Addr} {Y : Nat -> Int} {klen k : Nat} {K' : Option Addr} {n' c' : Nat} {wr w2 : World} (h : qbI w d D M Z l A Y klen k K' n' c' wr)
 (hno : backSt Y klen D.l (k + 1) = backSt Y klen D.l k) (hb : Below wr.heap.size wr w2) : qbI w d D M Z l A Y klen (k + 1) K' n' c' w2 := by
 obtain ⟨t',hD,hin⟩ := h.dk
 refine ⟨⟨t',by rw [hno]; exact hD.below hb,fun p hp => hin p ?_⟩,h.row.below hb nlq,h.ra,by rw [hno]; exact h.keep.below hb,h.kd,by rw [hno]; exact h.kl,h.kc,by rw [hno]; exact h.used,h.kp.trans (qe hb nlq)⟩
 rw [<- List.drop_drop] at hp
 exact List.mem_of_mem_drop hp
theorem RI.off {w w' : World} {K : Option Addr} {klen d : Nat} {Y : Nat -> Int} (h : RI w K klen Y) (hd : 0 < klen -> ∀ a,K = some a -> a.block ≠ d) (hk : qc (· ≠ d) w w') : RI w' K klen Y := by
 refine ⟨h.1,fun h0 => ?_⟩
 obtain ⟨b,off,e,hb,hc⟩ := h.2 h0
 exact ⟨b,off,e,Nat.lt_of_lt_of_le hb hk.size,fun j hj => (World.cell?_of_block (hk.block b hb (hd h0 _ e))).trans (hc j hj)⟩
theorem qbI.put {w : World} {d : Nat} {D : Dsk} {M Z : Nat -> Prop} {l : List (ByteArray × FV)} {A : Option Addr} {Y : Nat -> Int} {klen k : Nat} {K' K2 : Option Addr} {n' c' n2 c2 : Nat} {wr w5 : World} {t' t5 : FT} (h : qbI w d D M Z l A Y klen k K' n' c' wr) (hk : k < l.length)
 (hl : l.map qj = D.l) (hsort : l.Pairwise fun a b => ltS a.1 b.1 = true) (hwd : d < w.heap.size) (hne : l[k].2.safe ≠ l[k].2.l.length) (hD : Dt wr d { D with l := (backSt Y klen D.l k).2 } M Z noX t') (hin : ∀ p ∈ l.drop k,p ∈ t'.list) (v' : FV)
 (hl' : v'.l = l[k].2.l.take v'.safe) (hs' : v'.safe = qbH Y klen (backSt Y klen D.l k).1 (qj l[k]))
 (hD5 : Dt w5 d { D with l := putF (backSt Y klen D.l k).2 (qj (l[k].1,v')) } M Z noX t5) (hin5 : ∀ p ∈ t'.list,p.1 ≠ l[k].1 -> p ∈ t5.list) (hkk : qc (· ≠ d) wr w5)
 (hri : RI wr K2 n2 (fun j => Y ((backSt Y klen D.l k).1 + 1 + j))) (hkd : 0 < n2 -> ∀ a,K2 = some a -> a.block ≠ d) (hkl : n2 = klen - ((backSt Y klen D.l k).1 + 1)) (hkc : n2 <= c2) : qbI w d D M Z l A Y klen (k + 1) K2 n2 c2 w5 := by
 have hkD : k < D.l.length := by rw [<- hl,List.length_map]; exact hk
 have hDk : D.l[k] = qj l[k] := by simp [<- hl]
 have hback : back1 Y klen (backSt Y klen D.l k).1 D.l[k] = qj (l[k].1,v') := by
  rw [hDk]
  unfold back1
  rw [<- hs']
  simp only [qj,hl',qdT]
 have hyes : backSt Y klen D.l (k + 1) = ((backSt Y klen D.l k).1 + 1,putF (backSt Y klen D.l k).2 (qj (l[k].1,v'))) := by
  rw [qdt Y klen D.l k hkD (by rw [hDk]; exact hne),hback]
 have hu := hD.used (qj (l[k].1,v'))
 have hget : getF (backSt Y klen D.l k).2 l[k].1 = (qj (l[k].1,l[k].2),true) := hD.get (name := l[k].1) (v := l[k].2) (hin l[k] (by rw [List.drop_eq_getElem_cons hk]; exact List.mem_cons_self))
 have hfn : (qj (l[k].1,v')).name = l[k].1 := rfl
 have e1 : (qj (l[k].1,l[k].2)).b.size = l[k].2.l.length := rfl
 have e2 : (qj (l[k].1,v')).b.size = v'.l.length := rfl
 dsimp only at hu
 rw [hfn,hget] at hu
 dsimp only at hu
 rw [e1,e2,hl',List.length_take] at hu
 have hu0 := h.used
 refine ⟨⟨t5,by rw [hyes]; exact hD5,fun p hp => ?_⟩,h.row.keep hkk.size fun g e hg => hkk.block g hg (by have := h.ra g e; omega),h.ra,by rw [hyes]; exact hri.off hkd hkk,hkd,by rw [hyes]; exact hkl,hkc,by rw [hyes]; dsimp only; omega,h.kp.trans hkk⟩
 have hd1 : l.drop k = l[k] :: l.drop (k + 1) := List.drop_eq_getElem_cons hk
 refine hin5 p (hin p (by rw [hd1]; exact List.mem_cons_of_mem _ hp)) fun e => ?_
 have hs2 := hsort
 rw [<- List.take_append_drop k l,List.pairwise_append,hd1,List.pairwise_cons] at hs2
 have := hs2.2.1.1 p hp
 rw [e,qaN] at this
 cases this
theorem qh2 (w : World) (d : Nat) (D : Dsk) (M Z : Nat -> Prop) (K : Option Addr) (klen kcap : Nat) (Y : Nat -> Int) (h : DkG w d D M Z) (hg : Good D) (hM : ∀ k,M k -> k < w.heap.size) (hZ : ∀ k,Z k -> k < w.heap.size)
 (hK : RI w K klen Y) (hkl : klen <= 2147483647) (hkc : klen <= kcap) (hkd : 0 < klen -> ∀ a,K = some a -> a.block ≠ d) :
 Calls Tryz.prog 26 #[.pointer (some ⟨d,0,none⟩), .slice K klen kcap] w fun e w' => e = .returned (.tuple #[]) /\ DkG w' d (D.restart Y klen) M Z /\ qc (· ≠ d) w w' := by
 obtain ⟨t,h⟩ := h
 obtain ⟨u,hbx,hr⟩ := h.box
 have hd := h.lt
 obtain ⟨⟨a0,a1,a2,a3,a4⟩,_⟩ := row5 hbx
 have hsz := h.size
 have hlen := hg.len
 have hus := hg.usedN
 have hfil := Lib.hid h.fil
 have hsort := Lib.hid (show t.list.Pairwise (fun a b => ltS a.1 b.1 = true) from h.bst)
 have hl1 : t.list.length = t.size := Tr.length_list t
 have hAll := MapFl.all_map t u w hr (by omega)
 have hsafe : ∀ k (hk : k < t.list.length),t.list[k].2.safe <= t.list[k].2.l.length /\ t.list[k].2.l.length <= 1048576 := fun k hk => by
  have hm : t.list[k] ∈ t.list := List.getElem_mem hk
  have h1 := (hg.fils.each (qj t.list[k]) (by rw [<- h.fil]; exact List.mem_map_of_mem hm)).2.1
  have h2 := h.len (name := t.list[k].1) (v := t.list[k].2) hm
  exact ⟨h1,by omega⟩
 have hst := qfd Y klen D.l
 have hS0 : ∀ w2 A,Below w.heap.size w w2 -> RP w2 A t.list -> (∀ g,A = some ⟨g,0,none⟩ -> w.heap.size <= g) -> qbI w d D M Z t.list A Y klen 0 K klen kcap w2 := fun w2 A hb hrp hra =>
  ⟨⟨t,h.below hb,fun p hp => by simpa using hp⟩,hrp,hra,by simpa [backSt] using hK.below hb,hkd,by simp [backSt],hkc,by simp [backSt],qe hb nlq⟩
 generalize t.list = l at *
 generalize t.size = n at *
 have hlD : D.l.length = n := by omega
 have hn' : (n : Int) <= 1048576 := by omega
 have HX := Lib.hid hbx
 clear h hbx hr hlen a0 a1 a3 a4 hg hK hsz
 go_enter Tryz.func26,Tryz.ntmps26
 go_wp2_with (first
  | (go_at_call 78
     refine hAll.mono ?_
     rintro e w2 ⟨A,c,rfl,ho2,hb2⟩)
  | fail)
 have hrp := RP.of_own ho2
 have hS := hS0 w2 A hb2 hrp.1 hrp.2
 clear ho2 hrp hb2 hS0 hAll a2
 go_wp2
 go_loopg [1,16] n (fun g K1 i wr => ∃ (k : Nat) (K' : Option Addr) (n' c' : Nat),i = .int .i64 (k : Int) /\ k + g = n /\ K1 = .slice K' n' c' /\ qbI w d D M Z l A Y klen k K' n' c' wr)
 case atStart => exact ⟨0,K,klen,kcap,rfl,by omega,rfl,hS⟩
 case round =>
  clear hS
  obtain ⟨k,K',n',c',rfl,hk,rfl,hS⟩ := hrel
  by_cases hlt : k < n
  · have hlt' : (k : Int) < (n : Int) := by omega
    obtain ⟨gA,rfl,hgA,hc⟩ := hS.row (by omega)
    obtain ⟨c0,c1,c2⟩ := hc k (by omega)
    obtain ⟨hs1,hs2⟩ := hsafe k (by omega)
    clear hc
    have hWt := fun w' => qgc l[k].2 w' hs1 (by omega)
    have hbw : Below wr.heap.size wr (wr.alloc (.cells #[.string l[k].1,fvS l[k].2,fvN l[k].2] 149)) := blq.alloc nlq _
    by_cases hfe : l[k].2.safe = l[k].2.l.length
    · have hq : (((l[k].2.l.length : Nat) : Int) - ((l[k].2.safe : Nat) : Int) == 0) = true := by simp; omega
      have hno := qdO Y klen D.l k (by omega) (by
       have : D.l[k]'(by omega) = qj l[k] := by simp [<- hfil.out]
       rw [this]; exact hfe)
      have HN := Lib.hid (fun w2 (hb : Below wr.heap.size wr w2) => hS.next hno hb)
      clear hno hfe
      go_wp2_with (first
       | (go_at_call 79
          refine (hWt _).mono ?_
          rintro e w1 ⟨rfl,hb1⟩
          have hb := hbw.trans (hb1.mono hbw.size))
       | fail)
      go_roundg (gk - 1)
      case measure => omega
      case rel => exact ⟨k + 1,K',n',c',by go_num,by omega,rfl,HN.out _ hb⟩
    · obtain ⟨t',hD,hin⟩ := hS.dk
      have hq : (((l[k].2.l.length : Nat) : Int) - ((l[k].2.safe : Nat) : Int) == 0) = false := by simp; omega
      have e1 : IntKind.i64.wrap (((l[k].2.l.length : Nat) : Int) - ((l[k].2.safe : Nat) : Int) + 1) = ((l[k].2.l.length : Nat) : Int) - ((l[k].2.safe : Nat) : Int) + 1 := IntWalk.i64_in _ (by omega)
      have hm1 : 1 <= ((l[k].2.l.length : Nat) : Int) - ((l[k].2.safe : Nat) : Int) + 1 := by omega
      have hm2 : ((l[k].2.l.length : Nat) : Int) - ((l[k].2.safe : Nat) : Int) + 1 <= 1099511627777 := by omega
      have hlt1 := qeO Y klen (backSt Y klen D.l k).1 (((l[k].2.l.length : Nat) : Int) - ((l[k].2.safe : Nat) : Int) + 1) (by omega)
      have hleft : qbH Y klen (backSt Y klen D.l k).1 (qj l[k]) = l[k].2.safe + stays Y klen (backSt Y klen D.l k).1 (((l[k].2.l.length : Nat) : Int) - ((l[k].2.safe : Nat) : Int) + 1) := rfl
      have hstd : stays Y klen (backSt Y klen D.l k).1 (((l[k].2.l.length : Nat) : Int) - ((l[k].2.safe : Nat) : Int) + 1) = if (backSt Y klen D.l k).1 < klen then (Y (backSt Y klen D.l k).1 % (((l[k].2.l.length : Nat) : Int) - ((l[k].2.safe : Nat) : Int) + 1)).toNat else 0 := rfl
      generalize stays Y klen (backSt Y klen D.l k).1 (((l[k].2.l.length : Nat) : Int) - ((l[k].2.safe : Nat) : Int) + 1) = st at hlt1 hleft hstd
      obtain ⟨sf,hsf⟩ : ∃ sf,l[k].2.safe + st = sf := ⟨_,rfl⟩
      have hsfl : sf <= l[k].2.l.length := by omega
      have e2 : IntKind.i64.wrap (((l[k].2.safe : Nat) : Int) + (st : Int)) = (sf : Int) := by rw [IntWalk.i64_in _ (by omega)]; omega
      have hmem : (l[k].1,l[k].2) ∈ t'.list := hin l[k] (by rw [List.drop_eq_getElem_cons (by omega)]; exact List.mem_cons_self)
      have hrow := hD.row _ hmem (fun h => h)
      have hswr : w.heap.size <= wr.heap.size := hS.kp.size
      have hM1 : ∀ k,M k -> k < wr.heap.size := fun k hk => Nat.lt_of_lt_of_le (hM k hk) hswr
      have hZ1 : ∀ k,Z k -> k < wr.heap.size := fun k hk => Nat.lt_of_lt_of_le (hZ k hk) hswr
      have hFi := fun w' (hb : Below wr.heap.size wr w') => qgd l[k].2 sf w' (hrow.own.keep fun g hg => hb.block g (hrow.lt hg)) hsfl (by omega) hrow.own.capMax
      have hSe := fun w' (v' : FV) (hb : Below wr.heap.size wr w') (hv : FRow w' 0 v') (hvb : ∀ g,blk v' = some g -> blk l[k].2 = some g \/ wr.heap.size <= g) (hvl : v'.l.length <= 2000000000) =>
       qdf w' d { D with l := (backSt Y klen D.l k).2 } M Z t' l[k].1 v' ((hD.below hb).weak _) (fun k hk => Nat.lt_of_lt_of_le (hM1 k hk) hb.size) hv (hD.pre (w1 := w') hM1 hZ1 hmem hvb).1 (hD.pre (w1 := w') hM1 hZ1 hmem hvb).2
        (by have := hS.used; dsimp only; omega) hvl (by rw [hD.size]; have := (hst k).1; dsimp only; omega)
      have hkll : k < l.length := by omega
      have HP := Lib.hid (fun (w5 : World) (v' : FV) (t5 : FT) (K2 : Option Addr) (n2 c2 : Nat) (hl' : v'.l = l[k].2.l.take sf) (hs' : v'.safe = sf) (hD5 : Dt w5 d { D with l := putF (backSt Y klen D.l k).2 (qj (l[k].1,v')) } M Z noX t5) (hin5 : ∀ p ∈ t'.list,p.1 ≠ l[k].1 -> p ∈ t5.list) (hkk : qc (· ≠ d) wr w5) hri hkd2 hkl2 hkc2 =>
       qbI.put (w5 := w5) (t5 := t5) (K2 := K2) (n2 := n2) (c2 := c2) hS hkll hfil.out hsort.out hd hfe hD hin v' (by rw [hs']; exact hl') (by rw [hs',hleft,hsf]) hD5 hin5 hkk hri hkd2 hkl2 hkc2)
      have hkeep := hS.keep
      have hkd1 := hS.kd
      have hkl1 := hS.kl
      have hkc1 := hS.kc
      have hkn : n' <= 2147483647 := by omega
      have hneD : wr.heap.size ≠ d := by omega
      clear hrow hmem hin hD hS hM1 hZ1 hleft hfe hsafe hst
      generalize (backSt Y klen D.l k).1 = cc at *
      have HKL := Lib.hid hkl1
      by_cases hn0 : 0 < n'
      · have hn0' : (0 : Int) < (n' : Int) := by omega
        have hri := hkeep.rest hn0 hkc1
        obtain ⟨b,off,rfl,hbb,hcz⟩ := hkeep.2 hn0
        have hcz0 := hcz 0 hn0
        have hYr := hkeep.1 0 hn0
        dsimp only at hcz0 hYr
        rw [Nat.add_zero] at hcz0 hYr
        have hst0 : Y cc % (((l[k].2.l.length : Nat) : Int) - ((l[k].2.safe : Nat) : Int) + 1) = (st : Int) := by
         rw [if_pos (by omega)] at hstd
         have := Int.emod_nonneg (Y cc) (show ((l[k].2.l.length : Nat) : Int) - ((l[k].2.safe : Nat) : Int) + 1 ≠ 0 by omega)
         omega
        have hMo := qi5 (Y cc) (((l[k].2.l.length : Nat) : Int) - ((l[k].2.safe : Nat) : Int) + 1) hYr hm1 hm2
        rw [hst0] at hMo
        have hSl : ∀ W,(Instr.slice 51 (.slice (some ⟨b,off,none⟩) n' c') (some (.int .i64 1)) none none).run Tryz.prog W = .ok (.slice (qK (some ⟨b,off,none⟩) c' 1) (n' - 1) (c' - 1)) W := fun W => qcq (P := Tryz.prog) Tryz.underlying51 qi6 (some ⟨b,off,none⟩) n' c' 1 (by omega) hkc1 W
        have hne2 : b ≠ d := hkd1 hn0 _ rfl
        have hR2 : 0 < n' - 1 -> ∀ a,qK (some ⟨b,off,none⟩) c' 1 = some a -> a.block ≠ d := fun h0 a e q => by
         rw [qca _ _ _ _ (by omega)] at e
         injection e with e
         subst e
         exact hne2 q
        generalize qK (some ⟨b,off,none⟩) c' 1 = R at *
        clear hcz hkeep hst0 hstd hkl1
        generalize Y cc = y at *
        go_wp2_with (first
         | (go_at_call 79
            refine (hWt _).mono ?_
            rintro e w1 ⟨rfl,hb1⟩
            have hb := hbw.trans (hb1.mono hbw.size)
            have hrr := (hb1.block wr.heap.size (by simp)).trans (heap_alloc_new _ _)
            obtain ⟨⟨j0,j1,j2⟩,_⟩ := row3 hrr
            have hz1 : wr.heap.size < w1.heap.size := hlq hrr
            have z0 := (hb.cell (p := ⟨b,off,none⟩) hbb).trans hcz0)
         | fail)
        go_quiet ((go_at_call 80; exact Calls.quiet_of_same ((hMo _).mono fun e w' h => ⟨h.1,h.2.symm⟩)))
        go_wp2_with fail
        have hbq := below_drewN hb nq
        have i0 : (w1.drewN nq).cell? ⟨wr.heap.size,0,none⟩ = some (.string l[k].1) := j0
        have i1 : (w1.drewN nq).cell? ⟨wr.heap.size,1,none⟩ = some (fvS l[k].2) := j1
        have i2 : (w1.drewN nq).cell? ⟨wr.heap.size,2,none⟩ = some (fvN l[k].2) := j2
        have hz2 : wr.heap.size < (w1.drewN nq).heap.size := hz1
        clear j0 j1 j2 hz1 hb hb1 hrr z0 hMo hWt
        generalize w1.drewN nq = W9 at *
        go_region_held3 (fun w' => w'.cell? ⟨wr.heap.size,0,none⟩ = some (.string l[k].1) /\ w'.cell? ⟨wr.heap.size,1,none⟩ = some (fvS l[k].2) /\ w'.cell? ⟨wr.heap.size,2,none⟩ = some (fvN l[k].2))
         (first | (go_keep; done) | exact ⟨i0,i1,i2⟩ | exact ⟨r0,r1,r2⟩ | exact ⟨q0,q1,q2⟩)
         (first
         | (go_at_call 82
            refine (hFi _ (by repeat (first | exact hbq | apply Below.drew | apply below_drewN))).mono ?_
            rintro e w3 ⟨v',rfl,hl',hs',hv',hvb,hb3⟩
            have r0 := (hb3.cell (p := ⟨wr.heap.size,0,none⟩) hz2).trans i0
            have r1 := (hb3.cell (p := ⟨wr.heap.size,1,none⟩) hz2).trans i1
            have r2 := (hb3.cell (p := ⟨wr.heap.size,2,none⟩) hz2).trans i2
            have hb03 : Below wr.heap.size wr w3 := Tr.below_of hb3 (by repeat (first | exact hbq | apply Below.drew | apply below_drewN))
            have hz3 : wr.heap.size < w3.heap.size := Nat.lt_of_lt_of_le hz2 hb3.size)
         | (go_at_call 81
            refine (hSe _ v' hb03 hv' (fun g hg => (hvb g hg).imp id (fun h => Nat.le_trans hbq.size h)) (by rw [hl',List.length_take]; omega)).mono ?_
            rintro e w5 ⟨rfl,t5,hD5,_,hin5,hk5⟩
            have hx : ∀ o,w5.cell? ⟨wr.heap.size,o,none⟩ = w3.cell? ⟨wr.heap.size,o,none⟩ := fun o => World.cell?_of_block (hk5.block wr.heap.size hz3 hneD)
            have q0 := (hx 0).trans r0
            have q1 := (hx 1).trans r1
            have q2 := (hx 2).trans r2
            clear hx
            have HB := Lib.hid (HP.out w5 v' t5 R (n' - 1) (c' - 1) hl' hs' hD5 hin5 ((qe hb03 nlq).trans hk5) (by
             have := hri
             simp only [<- Nat.add_assoc] at this
             exact this) hR2 (by have := HKL.out; omega) (by omega))
            clear hD5 hin5 hk5))
        go_wp2
        go_roundg (gk - 1)
        case measure => omega
        case rel => exact ⟨k + 1,_,_,_,by go_num,by omega,rfl,HB.out⟩
      · have hn0' : ¬ ((0 : Int) < (n' : Int)) := by omega
        have hst0 : st = 0 := by
         rw [if_neg (by omega)] at hstd
         exact hstd
        subst hst0
        rw [Int.natCast_zero,Int.add_zero] at e2
        clear hstd hkeep hkl1
        go_wp2_with (first
         | (go_at_call 79
            refine (hWt _).mono ?_
            rintro e w1 ⟨rfl,hb1⟩
            have hb := hbw.trans (hb1.mono hbw.size)
            have hrr := (hb1.block wr.heap.size (by simp)).trans (heap_alloc_new _ _)
            obtain ⟨⟨j0,j1,j2⟩,_⟩ := row3 hrr
            have hz1 : wr.heap.size < w1.heap.size := hlq hrr)
         | fail)
        go_region_held3 (fun w' => w'.cell? ⟨wr.heap.size,0,none⟩ = some (.string l[k].1) /\ w'.cell? ⟨wr.heap.size,1,none⟩ = some (fvS l[k].2) /\ w'.cell? ⟨wr.heap.size,2,none⟩ = some (fvN l[k].2))
         (first | (go_keep; done) | exact ⟨j0,j1,j2⟩ | exact ⟨r0,r1,r2⟩ | exact ⟨q0,q1,q2⟩)
         (first
         | (go_at_call 82
            refine (hFi _ (by repeat (first | exact hb | apply Below.drew | apply below_drewN))).mono ?_
            rintro e w3 ⟨v',rfl,hl',hs',hv',hvb,hb3⟩
            have r0 := (hb3.cell (p := ⟨wr.heap.size,0,none⟩) hz1).trans j0
            have r1 := (hb3.cell (p := ⟨wr.heap.size,1,none⟩) hz1).trans j1
            have r2 := (hb3.cell (p := ⟨wr.heap.size,2,none⟩) hz1).trans j2
            have hb03 : Below wr.heap.size wr w3 := Tr.below_of hb3 (by repeat (first | exact hb | apply Below.drew | apply below_drewN))
            have hz3 : wr.heap.size < w3.heap.size := Nat.lt_of_lt_of_le hz1 hb3.size)
         | (go_at_call 81
            refine (hSe _ v' hb03 hv' (fun g hg => (hvb g hg).imp id (fun h => Nat.le_trans hb.size h)) (by rw [hl',List.length_take]; omega)).mono ?_
            rintro e w5 ⟨rfl,t5,hD5,_,hin5,hk5⟩
            have hx : ∀ o,w5.cell? ⟨wr.heap.size,o,none⟩ = w3.cell? ⟨wr.heap.size,o,none⟩ := fun o => World.cell?_of_block (hk5.block wr.heap.size hz3 hneD)
            have q0 := (hx 0).trans r0
            have q1 := (hx 1).trans r1
            have q2 := (hx 2).trans r2
            clear hx
            have HB := Lib.hid (HP.out w5 v' t5 K' n' c' hl' hs' hD5 hin5 ((qe hb03 nlq).trans hk5) ⟨fun j hj => absurd hj (by omega),fun h0 => absurd h0 (by omega)⟩ (fun h0 => absurd h0 (by omega)) (by have := HKL.out; omega) hkc1)
            clear hD5 hin5 hk5))
        go_wp2
        go_roundg (gk - 1)
        case measure => omega
        case rel => exact ⟨k + 1,_,_,_,by go_num,by omega,rfl,HB.out⟩
  · obtain rfl : k = n := by omega
    have hdec : decide ((k : Int) < (k : Int)) = false := decide_eq_false (by omega)
    obtain ⟨t',hD,_⟩ := hS.dk
    obtain ⟨u',hbx',_⟩ := hD.box
    obtain ⟨⟨a0,a1,a2,a3,a4⟩,⟨f0,f1,f2,f3,f4⟩⟩ := row5 hbx'
    have hres : D.restart Y klen = { D with l := (backSt Y klen D.l k).2,set := false,n := 0,lost := false } := by unfold Dsk.restart; rw [hlD]
    have HK := Lib.hid (hS.kp.trans ((qE (i := 3) (.int .i64 (-1))).trans (qE (i := 4) (.bool false))))
    have HF : Hid (Dt ((wr.setCell ⟨d,3,none⟩ (.int .i64 (-1))).setCell ⟨d,4,none⟩ (.bool false)) d (D.restart Y klen) M Z noX t') := ⟨by
     rw [hres]
     refine hD.turn ((qE _).trans (qE _)) (u := u') ?_ (fun cs hc => ?_) rfl
     · rw [setCell_at (wr.setCell ⟨d,3,none⟩ (.int .i64 (-1))) ⟨d,4,none⟩ _ _ _ _ rfl (setCell_at wr ⟨d,3,none⟩ _ _ _ _ rfl hbx')]
       rfl
     · rw [hbx'] at hc
       injection hc with hc
       injection hc with hc
       subst hc
       rfl⟩
    clear hS hD hbx' hres hst hsafe
    go_wp2
    refine bodyPost_end (results_none rfl _ _ _) rfl ?_
    exact ⟨rfl,⟨t',HF.out⟩,HK.out⟩
end Go.Proofs.YtmeoooojmhhahaaGreat
