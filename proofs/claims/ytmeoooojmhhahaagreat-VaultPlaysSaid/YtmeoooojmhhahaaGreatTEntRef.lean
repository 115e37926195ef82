/- Entries, what is hard, snaps: which are right, and what bytes they are. Plain mathematics. -/
import Derived.Lib.Hide
import Derived.Test.YtmeoooojmhhahaaGreatTOct
set_option linter.unusedVariables false
set_option linter.unusedSimpArgs false
set_option maxRecDepth 100000
set_option maxHeartbeats 3200000
namespace Go.Proofs.YtmeoooojmhhahaaGreat
def numB (n : Int) : Bool := decide (1 <= n) && decide (n <= 1099511627776)
def rightB (i t : Int) (d : Nat) : Bool := numB i && numB t && decide (d <= 12000)
def hardB (t v : Int) : Bool := decide (0 <= t) && (decide (t <= 1099511627776) && (decide (-1 <= v) && decide (v <= 2)))
def snapB (i t : Int) (d : Nat) : Bool := if i = 0 /\ t = 0 then decide (d = 0) else numB i && numB t && decide (d <= 50000)
structure Ent where
 i : Int
 t : Int
 d : List UInt8
def qa5 (i : Int) (l : List Ent) (k : Nat) : Int := if k = 0 then i else (l[k - 1]?.map Ent.i).getD 0
def qbg (t : Int) (l : List Ent) (k : Nat) : Int := if k = 0 then t else (l[k - 1]?.map Ent.t).getD 0
def qbE (i t : Int) (l : List Ent) (k : Nat) : Bool :=
 match l[k]? with
 | none => false
 | some e => rightB e.i e.t e.d.length && (decide (qbg t l k <= e.t) && decide (e.i = qa5 i l k + 1))
def runB (i t : Int) (l : List Ent) : Bool := (List.range l.length).all (qbE i t l)
theorem qbS {i t : Int} {l : List Ent} (k : Nat) (hk : k < l.length) (h : qbE i t l k = false) : runB i t l = false := by
 cases hr : runB i t l with
 | false => rfl
 | true =>
   have := List.all_eq_true.1 hr k (List.mem_range.2 hk)
   rw [h] at this
   cases this
theorem qgW {i t : Int} {l : List Ent} (h : ∀ k,k < l.length -> qbE i t l k = true) : runB i t l = true :=
 List.all_eq_true.2 fun k hk => h k (List.mem_range.1 hk)
theorem qct (i t : Int) (l : List Ent) (k : Nat) (hk : k < l.length) : qbE i t l k = (rightB l[k].i l[k].t l[k].d.length && (decide (qbg t l k <= l[k].t) && decide (l[k].i = qa5 i l k + 1))) := by
 unfold qbE
 rw [List.getElem?_eq_getElem hk]
theorem qdJ (i t : Int) (l : List Ent) (k : Nat) (hk : k < l.length) : qa5 i l (k + 1) = l[k].i /\ qbg t l (k + 1) = l[k].t := by
 simp [qa5,qbg,List.getElem?_eq_getElem hk]
theorem qeI (n : Int) : numB n = true ↔ 1 <= n /\ n <= 1099511627776 := by simp [numB]
theorem qaB (i t : Int) (d : Nat) : rightB i t d = true ↔ (1 <= i /\ i <= 1099511627776) /\ (1 <= t /\ t <= 1099511627776) /\ d <= 12000 := by
 simp [rightB,numB,and_assoc]
end Go.Proofs.YtmeoooojmhhahaaGreat
namespace Go.Proofs.YtmeoooojmhhahaaGreat
open Go.RowKit
abbrev entV (i t : Int) (A : Option Addr) (n c : Nat) : Value := .agg #[.int .i64 i, .int .i64 t, .slice A n c]
theorem qe6 (n m : Nat) (z : Int) (h : z = (m : Int)) : decide ((n : Int) <= z) = decide (n <= m) := by
 subst h
 apply Bool.eq_iff_iff.2
 simp
theorem qiq (n : Nat) : ((n : Int) == 0) = decide (n = 0) := by
 apply Bool.eq_iff_iff.2
 simp
theorem qd9 (n : Int) (w : World) : Calls Tryz.prog 84 #[.int .i64 n] w fun e w' => e = .returned (.bool (numB n)) /\ w = w' := by
 unfold numB
 by_cases h1 : 1 <= n
 · have e1 : decide (1 <= n) = true := decide_eq_true h1
   rw [e1,Bool.true_and]
   go_enter Tryz.func84,Tryz.ntmps84
   go_wp2
   go_ret
   exact ⟨rfl,rfl⟩
 · have e1 : decide (1 <= n) = false := decide_eq_false h1
   have e2 : (1 <= n) = False := eq_false h1
   rw [e1,Bool.false_and]
   clear h1
   go_enter Tryz.func84,Tryz.ntmps84
   go_wp2
   go_ret
   exact ⟨rfl,rfl⟩
theorem qcL (i t : Int) (A : Option Addr) (n c : Nat) (w : World) : Calls Tryz.prog 55 #[entV i t A n c] w fun e w' => e = .returned (.bool (rightB i t n)) /\ Below w.heap.size w w' := by
 have hi := fun W => qd9 i W
 have ht := fun W => qd9 t W
 have hb : Below w.heap.size w (w.alloc (.cells #[.int .i64 i, .int .i64 t, .slice A n c] 69)) := blq.alloc nlq _
 unfold rightB
 generalize numB i = bi at *
 generalize numB t = bt at *
 cases bi with
 | false =>
   go_enter Tryz.func55,Tryz.ntmps55
   go_wp2_with fail
   refine (hi _).mono ?_
   rintro e w1 ⟨rfl,rfl⟩
   go_wp2
   go_ret
   exact ⟨rfl,hb⟩
 | true =>
   cases bt with
   | false =>
     go_enter Tryz.func55,Tryz.ntmps55
     go_wp2_with fail
     refine (hi _).mono ?_
     rintro e w1 ⟨rfl,rfl⟩
     go_wp2_with fail
     refine (ht _).mono ?_
     rintro e w1 ⟨rfl,rfl⟩
     go_wp2
     go_ret
     exact ⟨rfl,hb⟩
   | true =>
     go_enter Tryz.func55,Tryz.ntmps55
     go_wp2_with fail
     refine (hi _).mono ?_
     rintro e w1 ⟨rfl,rfl⟩
     go_wp2_with fail
     refine (ht _).mono ?_
     rintro e w1 ⟨rfl,rfl⟩
     go_wp2
     go_ret
     refine ⟨?_,hb⟩
     show Ending.returned (.bool (decide ((n : Int) <= 12000))) = _
     rw [qe6 n 12000 12000 rfl]
     rfl
theorem qdn (t v : Int) (w : World) : Calls Tryz.prog 22 #[.agg #[.int .i64 t, .int .i64 v]] w fun e w' => e = .returned (.bool (hardB t v)) /\ Below w.heap.size w w' := by
 have hb : Below w.heap.size w (w.alloc (.cells #[.int .i64 t, .int .i64 v] 32)) := blq.alloc nlq _
 unfold hardB
 by_cases h1 : 0 <= t
 · rw [decide_eq_true h1,Bool.true_and]
   by_cases h2 : t <= 1099511627776
   · rw [decide_eq_true h2,Bool.true_and]
     by_cases h3 : -1 <= v
     · rw [decide_eq_true h3,Bool.true_and]
       go_enter Tryz.func22,Tryz.ntmps22
       go_wp2
       go_ret
       exact ⟨rfl,hb⟩
     · have e1 : decide (-1 <= v) = false := decide_eq_false h3
       have e2 : (-1 <= v) = False := eq_false h3
       rw [e1,Bool.false_and]
       clear h3
       go_enter Tryz.func22,Tryz.ntmps22
       go_wp2
       go_ret
       exact ⟨rfl,hb⟩
   · have e1 : decide (t <= 1099511627776) = false := decide_eq_false h2
     have e2 : (t <= 1099511627776) = False := eq_false h2
     rw [e1,Bool.false_and]
     clear h2
     go_enter Tryz.func22,Tryz.ntmps22
     go_wp2
     go_ret
     exact ⟨rfl,hb⟩
 · have e1 : decide (0 <= t) = false := decide_eq_false h1
   have e2 : (0 <= t) = False := eq_false h1
   rw [e1,Bool.false_and]
   clear h1
   go_enter Tryz.func22,Tryz.ntmps22
   go_wp2
   go_ret
   exact ⟨rfl,hb⟩
theorem qeJ (i t : Int) (A : Option Addr) (n c : Nat) (w : World) : Calls Tryz.prog 29 #[entV i t A n c] w fun e w' => e = .returned (.bool (snapB i t n)) /\ Below w.heap.size w w' := by
 have hi := fun W => qd9 i W
 have ht := fun W => qd9 t W
 have hb : Below w.heap.size w (w.alloc (.cells #[.int .i64 i, .int .i64 t, .slice A n c] 35)) := blq.alloc nlq _
 unfold snapB
 by_cases h0 : i = 0 /\ t = 0
 · rw [if_pos h0]
   obtain ⟨rfl,rfl⟩ := h0
   clear hi ht
   go_enter Tryz.func29,Tryz.ntmps29
   go_wp2
   go_ret
   refine ⟨?_,hb⟩
   show Ending.returned (.bool ((n : Int) == 0)) = _
   rw [qiq]
 · rw [if_neg h0]
   generalize numB i = bi at *
   generalize numB t = bt at *
   have hif : (i == 0) = false \/ (i = 0 /\ (t == 0) = false /\ (t = 0) = False) := by
    by_cases h : i = 0
    · refine .inr ⟨h,?_,eq_false fun e => h0 ⟨h,e⟩⟩
      exact beq_eq_false_iff_ne.2 fun e => h0 ⟨h,e⟩
    · exact .inl (beq_eq_false_iff_ne.2 h)
   clear h0
   rcases hif with hif | ⟨rfl,htf,htf2⟩
   all_goals
    cases bi
    · go_enter Tryz.func29,Tryz.ntmps29
      go_wp2_with fail
      refine (hi _).mono ?_
      rintro e w1 ⟨rfl,rfl⟩
      go_wp2
      go_ret
      exact ⟨rfl,hb⟩
    · cases bt
      · go_enter Tryz.func29,Tryz.ntmps29
        go_wp2_with fail
        refine (hi _).mono ?_
        rintro e w1 ⟨rfl,rfl⟩
        go_wp2_with fail
        refine (ht _).mono ?_
        rintro e w1 ⟨rfl,rfl⟩
        go_wp2
        go_ret
        exact ⟨rfl,hb⟩
      · go_enter Tryz.func29,Tryz.ntmps29
        go_wp2_with fail
        refine (hi _).mono ?_
        rintro e w1 ⟨rfl,rfl⟩
        go_wp2_with fail
        refine (ht _).mono ?_
        rintro e w1 ⟨rfl,rfl⟩
        go_wp2
        go_ret
        refine ⟨?_,hb⟩
        show Ending.returned (.bool (decide ((n : Int) <= 50000))) = _
        rw [qe6 n 50000 50000 rfl]
        rfl
end Go.Proofs.YtmeoooojmhhahaaGreat
namespace Go.Proofs.YtmeoooojmhhahaaGreat
open Go.RowKit
def oneB (i t : Int) (d : List UInt8) (i' t' : Int) (d' : List UInt8) : Bool := decide (i = i') && (decide (t = t') && decide (d = d'))
theorem qgX (a b : List UInt8) : decide (a = b) = ((⟨a.toArray⟩ : ByteArray).toList == (⟨b.toArray⟩ : ByteArray).toList) := by
 rw [ByteArray.toList_eq,ByteArray.toList_eq]
 apply Bool.eq_iff_iff.2
 simp
theorem qkP (i t : Int) (A : Option Addr) (n c : Nat) (d : List UInt8) (i' t' : Int) (A' : Option Addr) (n' c' : Nat) (d' : List UInt8) (w : World) (h : Lies w A n c d) (h' : Lies w A' n' c' d') :
 Calls Tryz.prog 83 #[entV i t A n c,entV i' t' A' n' c'] w fun e w' => e = .returned (.bool (oneB i t d i' t' d')) /\ Below w.heap.size w w' := by
 have hb : Below w.heap.size w ((w.alloc (.cells #[.int .i64 i, .int .i64 t, .slice A n c] 69)).alloc (.cells #[.int .i64 i', .int .i64 t', .slice A' n' c'] 69)) := (blq.alloc nlq _).alloc (by simp) _
 have c1 := (h.below hb nlq).text Tryz.underlying33 Tryz.underlying5 Tryz.underlying9
 have c2 := (h'.below hb nlq).text Tryz.underlying33 Tryz.underlying5 Tryz.underlying9
 have hd : decide (d = d') = ((⟨d.toArray⟩ : ByteArray).toList == (⟨d'.toArray⟩ : ByteArray).toList) := qgX d d'
 generalize (⟨d.toArray⟩ : ByteArray) = S at *
 generalize (⟨d'.toArray⟩ : ByteArray) = S' at *
 unfold oneB
 rw [hd]
 clear h h' hd
 by_cases h1 : i = i'
 · subst h1
   rw [decide_eq_true rfl,Bool.true_and]
   by_cases h2 : t = t'
   · subst h2
     rw [decide_eq_true rfl,Bool.true_and]
     go_enter Tryz.func83,Tryz.ntmps83
     go_wp2
     go_ret
     exact ⟨rfl,hb⟩
   · have e1 : (t == t') = false := beq_eq_false_iff_ne.2 h2
     have e2 : (t = t') = False := eq_false h2
     rw [decide_eq_false h2,Bool.false_and]
     clear h2
     go_enter Tryz.func83,Tryz.ntmps83
     go_wp2
     go_ret
     exact ⟨rfl,hb⟩
 · have e1 : (i == i') = false := beq_eq_false_iff_ne.2 h1
   have e2 : (i = i') = False := eq_false h1
   rw [decide_eq_false h1,Bool.false_and]
   clear h1
   go_enter Tryz.func83,Tryz.ntmps83
   go_wp2
   go_ret
   exact ⟨rfl,hb⟩
theorem qgB (i t : Int) (A : Option Addr) (n c : Nat) (d : List UInt8) (i' t' : Int) (A' : Option Addr) (n' c' : Nat) (d' : List UInt8) (w : World) (h : Lies w A n c d) (h' : Lies w A' n' c' d') :
 Calls Tryz.prog 27 #[entV i t A n c,entV i' t' A' n' c'] w fun e w' => e = .returned (.bool (oneB i t d i' t' d')) /\ Below w.heap.size w w' := by
 have hb : Below w.heap.size w ((w.alloc (.cells #[.int .i64 i, .int .i64 t, .slice A n c] 35)).alloc (.cells #[.int .i64 i', .int .i64 t', .slice A' n' c'] 35)) := (blq.alloc nlq _).alloc (by simp) _
 have c1 := (h.below hb nlq).text Tryz.underlying33 Tryz.underlying5 Tryz.underlying9
 have c2 := (h'.below hb nlq).text Tryz.underlying33 Tryz.underlying5 Tryz.underlying9
 have hd : decide (d = d') = ((⟨d.toArray⟩ : ByteArray).toList == (⟨d'.toArray⟩ : ByteArray).toList) := qgX d d'
 generalize (⟨d.toArray⟩ : ByteArray) = S at *
 generalize (⟨d'.toArray⟩ : ByteArray) = S' at *
 unfold oneB
 rw [hd]
 clear h h' hd
 by_cases h1 : i = i'
 · subst h1
   rw [decide_eq_true rfl,Bool.true_and]
   by_cases h2 : t = t'
   · subst h2
     rw [decide_eq_true rfl,Bool.true_and]
     go_enter Tryz.func27,Tryz.ntmps27
     go_wp2
     go_ret
     exact ⟨rfl,hb⟩
   · have e1 : (t == t') = false := beq_eq_false_iff_ne.2 h2
     have e2 : (t = t') = False := eq_false h2
     rw [decide_eq_false h2,Bool.false_and]
     clear h2
     go_enter Tryz.func27,Tryz.ntmps27
     go_wp2
     go_ret
     exact ⟨rfl,hb⟩
 · have e1 : (i == i') = false := beq_eq_false_iff_ne.2 h1
   have e2 : (i = i') = False := eq_false h1
   rw [decide_eq_false h1,Bool.false_and]
   clear h1
   go_enter Tryz.func27,Tryz.ntmps27
   go_wp2
   go_ret
   exact ⟨rfl,hb⟩
end Go.Proofs.YtmeoooojmhhahaaGreat
namespace Go.Proofs.YtmeoooojmhhahaaGreat
open Go.RowKit
def num8 (n : Int) : List UInt8 := wide (IntKind.u64.wrap n).toNat 8
def qH (i t : Int) (d : List UInt8) : List UInt8 := num8 i ++ (num8 t ++ textOf d)
theorem qdo (n : Int) (w : World) : Calls Tryz.prog 144 #[.int .i64 n] w fun e w' => ∃ A cap,e = .returned (.slice A 8 cap) /\ Owns 5 w' w.heap.size (.slice A 8 cap) (num8 n) /\ Below w.heap.size w w' :=
 qkO n _ (Int.toNat_of_nonneg (qeH n).1).symm w
theorem qa8 {w : World} {base n cap : Nat} {A : Option Addr} {l : List UInt8} (h : Owns 5 w base (.slice A n cap) l) : Lies w A n cap l := by
 obtain ⟨A',cap',e,hl,_⟩ := qq h
 injection e with e1 e2 e3
 subst e1 e2 e3
 exact hl
theorem qe7 (i t : Int) (A : Option Addr) (n c : Nat) (d : List UInt8) (w : World) (h : Lies w A n c d) (hn : n <= 50000) :
 Calls Tryz.prog 124 #[.int .i64 i, .int .i64 t, .slice A n c] w fun e w' => ∃ A' c',e = .returned (.slice A' (qH i t d).length c') /\ Owns 5 w' w.heap.size (.slice A' (qH i t d).length c') (qH i t d) /\ Below w.heap.size w w' := by
 obtain ⟨i0,hi0,hz0,hz1,hz2⟩ := info_parts qaM
 have hcv : ∀ W,Below w.heap.size w W -> (convert 33 9 (.slice A n c)).run Tryz.prog W = .ok (.string ⟨d.toArray⟩) W := fun W hb => (h.below hb nlq).text Tryz.underlying33 Tryz.underlying5 Tryz.underlying9
 have hds : (⟨d.toArray⟩ : ByteArray).size = n := h.1
 have hT := fun W => qjI ⟨d.toArray⟩ (by omega) W
 have hdl : (⟨d.toArray⟩ : ByteArray).data.toList = d := rfl
 rw [hdl,hds] at hT
 generalize (⟨d.toArray⟩ : ByteArray) = S at hcv hT
 have hlT : (textOf d).length <= 60000 := by have := h.1; simp [textOf]; omega
 clear h hds hdl
 go_enter Tryz.func124,Tryz.ntmps124
 have hI := fun W => qdo i W
 have hJ := fun W => qdo t W
 have hlI : (num8 i).length = 8 := by simp [num8]
 have hlJ : (num8 t).length = 8 := by simp [num8]
 have HF := Lib.hid (show qH i t d = num8 i ++ num8 t ++ textOf d by unfold qH; rw [List.append_assoc])
 generalize qH i t d = R at *
 generalize num8 i = ni at *
 generalize num8 t = nt at *
 have c0 := hcv w blq
 have c1 := hcv w.drew blq.drew
 go_wp2
 go_region_law (first
  | (go_simp; go_at_call 144
     refine (hI _).mono ?_
     rintro e w1 ⟨A1,k1,rfl,ho1,hb1⟩
     have hbw1 : Below w.heap.size w w1 := Below.trans (by first | exact blq | exact blq.drew) (hb1.mono (by simp))
     have ho1' : Owns 5 w1 w.heap.size (.slice A1 8 k1) ni := ho1
     have c2 := hcv w1 hbw1
     clear hI)
  | (go_simp; go_at_call 144
     refine (hJ _).mono ?_
     rintro e w2 ⟨A2,k2,rfl,ho2,hb2⟩
     have hbw2 : Below w.heap.size w w2 := hbw1.trans (hb2.mono hbw1.size)
     have ho12 : Owns 5 w2 w.heap.size (.slice A1 8 k1) ni := ho1'.keep (fun g hg => hb2.block g (ho1'.lt g hg).2)
     have hl2 := qa8 ho2
     have c3 := hcv w2 hbw2
     clear hJ)
  | (refine qaz _ (by rfl) _ _ 33 (by rfl) 5 i0 Tryz.underlying33 hi0 hz0 hz1 hz2 w.heap.size (by first | exact hbw2.size | exact hbwt.size) (.slice A1 8 k1) ni (by rfl) (by first | exact ho12 | exact ho1t) A2 8 k2 nt (by rfl) (by first | exact hl2 | exact hl2t) (by rw [List.length_append]; omega) ?_
     intro va wa hoa hga hqa
     have hbwa : Below w.heap.size w wa := by first | exact hbw2.grown hga hbw2.size (fun q hq => (ho12.lt q hq).1) | exact hbwt.grown hga hbwt.size (fun q hq => (ho1t.lt q hq).1)
     have c4 := hcv wa hbwa
     first | (have hlta : Lies wa A3 (4 + n) k3 (textOf d) := hlt3.grown hga fun q hq h0 g off e hgq => by
               subst hgq
               have h1 := (hoT.lt g (by rw [e]; rfl)).1
               have h2 := (ho12.lt g hq).2
               omega) | skip)
  | (go_simp; go_at_call 153
     refine (hT _).mono ?_
     rintro e wt ⟨A3,k3,rfl,hoT,hbT⟩
     have hlt3 := qa8 hoT
     first
      | (have hbwt : Below w.heap.size w wt := hbwa.trans (hbT.mono hbwa.size)
         have hoat := Owns.keep hoa (fun g hg => hbT.block g (hoa.lt g hg).2))
      | (have hbwt : Below w.heap.size w wt := hbw2.trans (hbT.mono hbw2.size)
         have ho1t : Owns 5 wt w.heap.size (.slice A1 8 k1) ni := ho12.keep (fun g hg => hbT.block g (ho12.lt g hg).2)
         have hl2t := hl2.below hbT nlq))
  | (refine qaz _ (by rfl) _ _ 33 (by rfl) 5 i0 Tryz.underlying33 hi0 hz0 hz1 hz2 w.heap.size (by first | exact hbwt.size | exact hbwa.size) va (ni ++ nt) (by rfl) (by first | exact hoat | exact hoa) A3 (4 + n) k3 (textOf d) (by rfl) (by first | exact hlt3 | exact hlta) (by rw [List.length_append,List.length_append]; omega) ?_
     intro vf wf hof hgf hqf
     have hbwf : Below w.heap.size w wf := by first | exact hbwt.grown hgf hbwt.size (fun q hq => (hoat.lt q hq).1) | exact hbwa.grown hgf hbwa.size (fun q hq => (hoa.lt q hq).1)))
 all_goals
  have hoF : Owns 5 wf w.heap.size vf R := by rw [HF]; exact hof
  obtain ⟨Af,cf,rfl,_,_⟩ := qq hoF
  have HO := Lib.hid hoF
  have HB := Lib.hid hbwf
  clear hof hoF
  go_wp2
  go_ret
  exact ⟨Af,cf,rfl,HO,HB⟩
end Go.Proofs.YtmeoooojmhhahaaGreat
namespace Go.Proofs.YtmeoooojmhhahaaGreat
open Go.RowKit
def qab (i t : Int) (d : List UInt8) : List UInt8 := if rightB i t d.length = true then qH i t d else List.replicate 20 0
def qaO (i t : Int) (d : List UInt8) : List UInt8 := if snapB i t d.length = true then qH i t d else List.replicate 20 0
theorem qiH {i t : Int} {n : Nat} (h : rightB i t n = true) : n <= 50000 := by
 have := (qaB i t n).1 h
 omega
theorem qjK {i t : Int} {n : Nat} (h : snapB i t n = true) : n <= 50000 := by
 unfold snapB at h
 split at h
 · have := of_decide_eq_true h
   omega
 · simp only [Bool.and_eq_true,decide_eq_true_eq] at h
   exact h.2
theorem qiI (i t : Int) (A : Option Addr) (n c : Nat) (d : List UInt8) (w : World) (h : Lies w A n c d) :
 Calls Tryz.prog 106 #[entV i t A n c] w fun e w' => ∃ A' c',e = .returned (.slice A' (qab i t d).length c') /\ Owns 5 w' w.heap.size (.slice A' (qab i t d).length c') (qab i t d) /\ Below w.heap.size w w' := by
 have hb : Below w.heap.size w (w.alloc (.cells #[.int .i64 i, .int .i64 t, .slice A n c] 69)) := blq.alloc nlq _
 have hR := fun W => qcL i t A n c W
 have hd := h.1
 have hN : qab i t d = if rightB i t n = true then qH i t d else List.replicate 20 0 := by unfold qab; rw [hd]
 have hle : rightB i t n = true -> n <= 50000 := fun hq => qiH hq
 have hT := fun W (hW : Below w.heap.size w W) hq => qe7 i t A n c d W (h.below hW nlq) hq
 rw [hN]
 generalize rightB i t n = b at *
 clear hN hd h
 cases b with
 | true =>
   have hq := hle rfl
   rw [if_pos rfl]
   generalize qH i t d = R at *
   go_enter Tryz.func106,Tryz.ntmps106
   go_wp2_with fail
   refine (hR _).mono ?_
   rintro e w1 ⟨rfl,hb1⟩
   have hbw1 := hb.trans (hb1.mono hb.size)
   obtain ⟨⟨a0,a1,a2⟩,_⟩ := row3 ((hb1.block _ (by simp)).trans (heap_alloc_new w _))
   have hT1 := hT w1 hbw1 hq
   clear hT hR
   go_wp2_with fail
   refine hT1.mono ?_
   rintro e w2 ⟨A2,c2,rfl,ho2,hb2⟩
   go_wp2
   go_ret
   exact ⟨A2,c2,rfl,ho2.rebase fun k hk => Nat.le_trans hbw1.size (ho2.lt k hk).1,hbw1.trans (hb2.mono hbw1.size)⟩
 | false =>
   rw [if_neg (by simp)]
   obtain ⟨i0,hi0,hz0,hz1,hz2⟩ := info_parts qaM
   clear hT hle
   go_enter Tryz.func106,Tryz.ntmps106
   go_wp2_with fail
   refine (hR _).mono ?_
   rintro e w1 ⟨rfl,hb1⟩
   have hbw1 := hb.trans (hb1.mono hb.size)
   clear hR
   go_wp2_with (at_make; refine wpList_make_full _ rfl _ _ 33 rfl w1.heap.size 5 i0 _ 1 Tryz.underlying33 hi0 hz0 hz1 _ _ _ _ 20 rfl rfl rfl rfl (by rw [hz2]; omega) (by unfold maxLen; omega) nlq ?_)
   intro w2 ho hg
   have ho1 : Owns 5 w2 w1.heap.size (.slice (some ⟨w1.heap.size,0,none⟩) 20 20) (List.replicate 20 0) := by
    unfold Owns
    have e : cellsOf (List.replicate 20 0) = (madeCells #[.int .u8 0] 20).toList := by rw [toList_madeCells_one]; simp [cellsOf]
    rw [e,List.length_replicate]
    simpa using ho
   have hb2 := (Below.refl w1.heap.size w1).grown hg nlq (fun k e => by cases e)
   clear ho hg
   go_wp2
   go_ret
   exact ⟨_,_,rfl,ho1.rebase fun k hk => Nat.le_trans hbw1.size (ho1.lt k hk).1,hbw1.trans (hb2.mono hbw1.size)⟩
theorem qiJ (i t : Int) (A : Option Addr) (n c : Nat) (d : List UInt8) (w : World) (h : Lies w A n c d) :
 Calls Tryz.prog 63 #[entV i t A n c] w fun e w' => ∃ A' c',e = .returned (.slice A' (qaO i t d).length c') /\ Owns 5 w' w.heap.size (.slice A' (qaO i t d).length c') (qaO i t d) /\ Below w.heap.size w w' := by
 have hb : Below w.heap.size w (w.alloc (.cells #[.int .i64 i, .int .i64 t, .slice A n c] 35)) := blq.alloc nlq _
 have hR := fun W => qeJ i t A n c W
 have hd := h.1
 have hN : qaO i t d = if snapB i t n = true then qH i t d else List.replicate 20 0 := by unfold qaO; rw [hd]
 have hle : snapB i t n = true -> n <= 50000 := fun hq => qjK hq
 have hT := fun W (hW : Below w.heap.size w W) hq => qe7 i t A n c d W (h.below hW nlq) hq
 rw [hN]
 generalize snapB i t n = b at *
 clear hN hd h
 cases b with
 | true =>
   have hq := hle rfl
   rw [if_pos rfl]
   generalize qH i t d = R at *
   go_enter Tryz.func63,Tryz.ntmps63
   go_wp2_with fail
   refine (hR _).mono ?_
   rintro e w1 ⟨rfl,hb1⟩
   have hbw1 := hb.trans (hb1.mono hb.size)
   obtain ⟨⟨a0,a1,a2⟩,_⟩ := row3 ((hb1.block _ (by simp)).trans (heap_alloc_new w _))
   have hT1 := hT w1 hbw1 hq
   clear hT hR
   go_wp2_with fail
   refine hT1.mono ?_
   rintro e w2 ⟨A2,c2,rfl,ho2,hb2⟩
   go_wp2
   go_ret
   exact ⟨A2,c2,rfl,ho2.rebase fun k hk => Nat.le_trans hbw1.size (ho2.lt k hk).1,hbw1.trans (hb2.mono hbw1.size)⟩
 | false =>
   rw [if_neg (by simp)]
   obtain ⟨i0,hi0,hz0,hz1,hz2⟩ := info_parts qaM
   clear hT hle
   go_enter Tryz.func63,Tryz.ntmps63
   go_wp2_with fail
   refine (hR _).mono ?_
   rintro e w1 ⟨rfl,hb1⟩
   have hbw1 := hb.trans (hb1.mono hb.size)
   clear hR
   go_wp2_with (at_make; refine wpList_make_full _ rfl _ _ 33 rfl w1.heap.size 5 i0 _ 1 Tryz.underlying33 hi0 hz0 hz1 _ _ _ _ 20 rfl rfl rfl rfl (by rw [hz2]; omega) (by unfold maxLen; omega) nlq ?_)
   intro w2 ho hg
   have ho1 : Owns 5 w2 w1.heap.size (.slice (some ⟨w1.heap.size,0,none⟩) 20 20) (List.replicate 20 0) := by
    unfold Owns
    have e : cellsOf (List.replicate 20 0) = (madeCells #[.int .u8 0] 20).toList := by rw [toList_madeCells_one]; simp [cellsOf]
    rw [e,List.length_replicate]
    simpa using ho
   have hb2 := (Below.refl w1.heap.size w1).grown hg nlq (fun k e => by cases e)
   clear ho hg
   go_wp2
   go_ret
   exact ⟨_,_,rfl,ho1.rebase fun k hk => Nat.le_trans hbw1.size (ho1.lt k hk).1,hbw1.trans (hb2.mono hbw1.size)⟩
end Go.Proofs.YtmeoooojmhhahaaGreat
namespace Go.Proofs.YtmeoooojmhhahaaGreat
open Go.RowKit
def qaP (t v : Int) : List UInt8 := if hardB t v = true then num8 t ++ num8 v else List.replicate 16 0
theorem qiK (t v : Int) (w : World) :
 Calls Tryz.prog 105 #[.agg #[.int .i64 t, .int .i64 v]] w fun e w' => ∃ A' c',e = .returned (.slice A' 16 c') /\ Owns 5 w' w.heap.size (.slice A' 16 c') (qaP t v) /\ Below w.heap.size w w' := by
 have hb : Below w.heap.size w (w.alloc (.cells #[.int .i64 t, .int .i64 v] 32)) := blq.alloc nlq _
 have hR := fun W => qdn t v W
 have hI := fun W => qdo t W
 have hJ := fun W => qdo v W
 have hlI : (num8 t).length = 8 := by simp [num8]
 have hlJ : (num8 v).length = 8 := by simp [num8]
 unfold qaP
 generalize hardB t v = b at *
 generalize num8 t = ni at *
 generalize num8 v = nt at *
 obtain ⟨i0,hi0,hz0,hz1,hz2⟩ := info_parts qaM
 cases b with
 | true =>
   rw [if_pos rfl]
   have hln : (ni ++ nt).length = 16 := by rw [List.length_append,hlI,hlJ]
   go_enter Tryz.func105,Tryz.ntmps105
   go_wp2_with fail
   refine (hR _).mono ?_
   rintro e w1 ⟨rfl,hb1⟩
   have hbw1 := hb.trans (hb1.mono hb.size)
   have hz : w.heap.size < w1.heap.size := by have := hb1.size; simp at this; omega
   have hrow := (hb1.block w.heap.size (by simp)).trans (heap_alloc_new w _)
   obtain ⟨⟨a0,a1⟩,_⟩ := row2 hrow
   clear hR
   go_wp2
   go_region_law (first
    | (go_simp; go_at_call 144
       refine (hI _).mono ?_
       rintro e w2 ⟨A1,k1,rfl,ho1,hb2⟩
       have hbw2 : Below w.heap.size w w2 := Below.trans (by first | exact hbw1 | exact hbw1.drew) (hb2.mono hbw1.size)
       have ho1' : Owns 5 w2 w1.heap.size (.slice A1 8 k1) ni := ho1
       obtain ⟨⟨b0,b1⟩,_⟩ := row2 ((hb2.block w.heap.size hz).trans hrow)
       clear hI)
    | (go_simp; go_at_call 144
       refine (hJ _).mono ?_
       rintro e w3 ⟨A2,k2,rfl,ho2,hb3⟩
       have hbw3 : Below w.heap.size w w3 := hbw2.trans (hb3.mono hbw2.size)
       have ho12 : Owns 5 w3 w1.heap.size (.slice A1 8 k1) ni := ho1'.keep (fun g hg => hb3.block g (ho1'.lt g hg).2)
       have hl2 := qa8 ho2
       clear hJ)
    | (refine qaz _ (by rfl) _ _ 33 (by rfl) 5 i0 Tryz.underlying33 hi0 hz0 hz1 hz2 w.heap.size hbw3.size (.slice A1 8 k1) ni (by rfl) (ho12.rebase fun k hk => Nat.le_trans hbw1.size (ho12.lt k hk).1) A2 8 k2 nt (by rfl) hl2 (by rw [List.length_append]; omega) ?_
       intro va wa hoa hga hqa
       have hbwa : Below w.heap.size w wa := hbw3.grown hga hbw3.size (fun q hq => Nat.le_trans hbw1.size (ho12.lt q hq).1)))
   all_goals
    obtain ⟨Af,cf,rfl,_,_⟩ := qq hoa
    rw [hln] at hoa ⊢
    have HO := Lib.hid hoa
    have HB := Lib.hid hbwa
    clear hoa
    go_wp2
    go_ret
    exact ⟨Af,cf,rfl,HO,HB⟩
 | false =>
   rw [if_neg (by simp)]
   clear hI hJ hlI hlJ
   go_enter Tryz.func105,Tryz.ntmps105
   go_wp2_with fail
   refine (hR _).mono ?_
   rintro e w1 ⟨rfl,hb1⟩
   have hbw1 := hb.trans (hb1.mono hb.size)
   clear hR
   go_wp2_with (at_make; refine wpList_make_full _ rfl _ _ 33 rfl w1.heap.size 5 i0 _ 1 Tryz.underlying33 hi0 hz0 hz1 _ _ _ _ 16 rfl rfl rfl rfl (by rw [hz2]; omega) (by unfold maxLen; omega) nlq ?_)
   intro w2 ho hg
   have ho1 : Owns 5 w2 w1.heap.size (.slice (some ⟨w1.heap.size,0,none⟩) 16 16) (List.replicate 16 0) := by
    unfold Owns
    have e : cellsOf (List.replicate 16 0) = (madeCells #[.int .u8 0] 16).toList := by rw [toList_madeCells_one]; simp [cellsOf]
    rw [e,List.length_replicate]
    simpa using ho
   have hb2 := (Below.refl w1.heap.size w1).grown hg nlq (fun k e => by cases e)
   clear ho hg
   go_wp2
   go_ret
   exact ⟨_,_,rfl,ho1.rebase fun k hk => Nat.le_trans hbw1.size (ho1.lt k hk).1,hbw1.trans (hb2.mono hbw1.size)⟩
end Go.Proofs.YtmeoooojmhhahaaGreat
namespace Go.Proofs.YtmeoooojmhhahaaGreat
open Go.RowKit
structure ql7 where
 i : Int
 t : Int
 d : List UInt8
 s : St
def qI (s : St) (most : Int) : ql7 :=
 ⟨IntKind.i64.wrap ((numberN s 8).1 : Int),IntKind.i64.wrap ((numberN (numberN s 8).2 8).1 : Int),(qaY (numberN (numberN s 8).2 8).2 most).1,(qaY (numberN (numberN s 8).2 8).2 most).2⟩
theorem qej {fn : Func} {a b c p : Tmp} {ty : TypeId} (h : fn.results = #[.tmp a, .tmp b, .tmp c, .cell p ty]) (tmps : Array Value) (P : Program) (w : World) :
 (results fn tmps).run P w =
   ((asAddr (tmps.getD p undef)).run P w).andThen fun q w₁ => ((loadVar ty q).run P w₁).andThen fun v w₂ => .ok (.tuple #[tmps.getD a undef,tmps.getD b undef,tmps.getD c undef,v]) w₂ := by
 simp only [results,h]
 simp [Sem.run_bind,Result.andThen]
theorem qgC {fn : Func} {a b c p : Tmp} (h : fn.results = #[.tmp a, .tmp b, .tmp c, .cell p 171]) (tmps : Array Value) (W : World) (n : Nat) (x y : Value) (fr : Nat × Nat) (h1 : tmps.getD p undef = .pointer (some ⟨n,0,none⟩))
 (hW : W.heap[n]? = some (.cells #[x,y] 171 fr)) : (results fn tmps).run Tryz.prog W = .ok (.tuple #[tmps.getD a undef,tmps.getD b undef,tmps.getD c undef, .agg #[x,y]]) W := by
 rw [qej h,h1]
 simp [asAddr,run_loadVar_row W n 171 171 #[x,y] fr _ hW Tryz.underlying171 rfl (by kernel_rfl)]
abbrev inO (A : Option Addr) (cap : Nat) (s : St) : Obj := .cells #[.slice A (left s) cap, .bool s.isNone] 171
structure Two2 (w W : World) (b : Nat) (C0 C1 : Array Value) : Prop where
 r0 : W.heap[b]? = some (.cells C0 171)
 r1 : W.heap[b + 1]? = some (.cells C1 171)
 below : Below w.heap.size w W
 le : w.heap.size <= b
theorem Two2.step {w W w' : World} {b : Nat} {C0 C1 : Array Value} (h : Two2 w W b C0 C1) (hb : Below W.heap.size W w') : Two2 w w' b C0 C1 :=
 ⟨(hb.block _ (hlt h.r0)).trans h.r0,(hb.block _ (hlt h.r1)).trans h.r1,h.below.trans (hb.mono h.below.size),h.le⟩
theorem Two2.store {w W : World} {b : Nat} {u0 u1 : Value} {C1 : Array Value} (h : Two2 w W b #[u0,u1] C1) (x y : Value) : Two2 w ((W.setCell ⟨b,0,none⟩ x).setCell ⟨b,1,none⟩ y) b #[x,y] C1 :=
 ⟨qax _ _ _ _ _ _ _ h.r0,((Below.heap_setCell _ _ _ _ (by show b + 1 ≠ b; omega)).trans (Below.heap_setCell _ _ _ _ (by show b + 1 ≠ b; omega))).trans h.r1,(h.below.setCell h.le _).setCell h.le _,h.le⟩
theorem qe8 (A : Option Addr) (cap : Nat) (s : St) (w : World) (most : Int) (hm : -9223372036854775808 <= most /\ most <= 9223372036854775807) (hL : left s <= 140737488355328) (h : qp w A cap s) :
 Calls Tryz.prog 142 #[inv A cap s, .int .i64 most] w fun e w' => ∃ A' cap',e = .returned (.tuple #[.int .i64 (qI s most).i, .int .i64 (qI s most).t, .string ⟨(qI s most).d.toArray⟩,inv A' cap' (qI s most).s]) /\ (∀ w0,qp w0 A cap s -> qp w0 A' cap' (qI s most).s) /\ Below w.heap.size w w' := by
 have h2 : Two2 w ((w.alloc (inO A cap s)).alloc (.cells #[.slice none 0 0, .bool false] 171)) w.heap.size #[.slice A (left s) cap, .bool s.isNone] #[.slice none 0 0, .bool false] :=
  ⟨(Below.heap_alloc _ _ _ (by simp)).trans (heap_alloc_new _ _),heap_alloc2_new _ _ _,(blq.alloc nlq _).alloc (by simp) _,nlq⟩
 have hN1 := fun W (hW : Below w.heap.size w W) => qcK A cap s W (h.below hW nlq)
 have hL1 := qar s 8 hL
 unfold qI
 generalize numberN s 8 = t1 at *
 obtain ⟨n1,s1⟩ := t1
 dsimp only at *
 have hN2 := fun A1 c1 W (hr : qp W A1 c1 s1) => qcK A1 c1 s1 W hr
 have hL2 := qar s1 8 hL1
 generalize numberN s1 8 = t2 at *
 obtain ⟨n2,s2⟩ := t2
 dsimp only at *
 have hT := fun A1 c1 W (hr : qp W A1 c1 s2) => qiG A1 c1 s2 W most hm hL2 hr
 generalize qaY s2 most = t3 at *
 obtain ⟨d,s3⟩ := t3
 dsimp only at *
 simp only [inv] at *
 clear hL hL1 hL2 hm
 go_enter Tryz.func142,Tryz.ntmps142
 go_wp2_with fail
 refine (hN1 _ h2.below).mono ?_
 rintro e w1 ⟨A1,c1,rfl,hr1,hb1⟩
 have h3 := h2.step hb1
 obtain ⟨⟨a0,a1⟩,⟨f0,f1⟩⟩ := row2 h3.r0
 clear h2 hb1 hN1
 have h4 := h3.store (.slice A1 (left s1) c1) (.bool s1.isNone)
 have hl4 := hr1 _ (h.below h4.below nlq)
 go_wp2_with fail
 refine (hN2 A1 c1 _ hl4).mono ?_
 rintro e w2 ⟨A2,c2,rfl,hr2,hb2⟩
 have h5 := h4.step hb2
 obtain ⟨⟨a2,a3⟩,⟨f2,f3⟩⟩ := row2 h5.r0
 clear h3 h4 hb2 hN2 a0 a1 f0 f1 hl4
 have h6 := h5.store (.slice A2 (left s2) c2) (.bool s2.isNone)
 have hl6 := hr2 _ (hr1 _ (h.below h6.below nlq))
 go_wp2_with fail
 refine (hT A2 c2 _ hl6).mono ?_
 rintro e w3 ⟨A3,c3,rfl,hr3,hb3⟩
 have h7 := h6.step hb3
 obtain ⟨⟨a4,a5⟩,⟨f4,f5⟩⟩ := row2 h7.r0
 clear h5 h6 hb3 hT a2 a3 f2 f3 hl6
 have h8 := h7.store (.slice A3 (left s3) c3) (.bool s3.isNone)
 obtain ⟨⟨a6,a7⟩,⟨f6,f7⟩⟩ := row2 h8.r0
 obtain ⟨⟨a8,a9⟩,⟨f8,f9⟩⟩ := row2 h8.r1
 go_wp2
 go_region
 all_goals
  go_wp2
  refine bodyPost_ret (qgC rfl _ _ (w.heap.size + 1) _ _ _ rfl (qax _ _ _ _ _ _ _ h8.r1)) rfl ?_
  exact ⟨A3,c3,by rw [IntWalk.i64_left,IntWalk.i64_left]; rfl,fun w0 h0 => hr3 _ (hr2 _ (hr1 _ h0)),((h8.below.setCell (by simp) _).setCell (by simp) _).drew⟩
end Go.Proofs.YtmeoooojmhhahaaGreat
namespace Go.Proofs.YtmeoooojmhhahaaGreat
open Go.RowKit
theorem qgD {fn : Func} {p q : Tmp} {T U : TypeId} (h : fn.results = #[.cell p T, .cell q U]) (tmps : Array Value) (P : Program) (w : World) :
 (results fn tmps).run P w =
   ((asAddr (tmps.getD p undef)).run P w).andThen fun a w₁ => ((loadVar T a).run P w₁).andThen fun v w₂ => ((asAddr (tmps.getD q undef)).run P w₂).andThen fun b w₃ => ((loadVar U b).run P w₃).andThen fun u w₄ => .ok (.tuple #[v,u]) w₄ := by
 simp only [results,h]
 simp [Sem.run_bind,Result.andThen]
theorem qaQ {P : Program} {fn : Func} {p q : Tmp} {T U : TypeId} (h : fn.results = #[.cell p T, .cell q U]) (tmps : Array Value) (W : World) (n m : Nat) (cs ds : Array Value) (fr gr : Nat × Nat) (d1 d2 : TypeDesc) (h1 : tmps.getD p undef = .pointer (some ⟨n,0,none⟩)) (h2 : tmps.getD q undef = .pointer (some ⟨m,0,none⟩))
 (hW : W.heap[n]? = some (.cells cs T fr)) (hV : W.heap[m]? = some (.cells ds U gr)) (hu : P.underlying T = some d1) (hv : P.underlying U = some d2)
 (hd1 : (match d1 with | .struct _ | .array _ _ => true | _ => false) = true) (hd2 : (match d2 with | .struct _ | .array _ _ => true | _ => false) = true) (hi : (P.info? T).map (·.size) = some cs.size) (hj : (P.info? U).map (·.size) = some ds.size) :
 (results fn tmps).run P W = .ok (.tuple #[.agg cs, .agg ds]) W := by
 rw [qgD h,h1,h2]
 simp [asAddr,run_loadVar_row W n T T cs fr d1 hW hu hd1 hi,run_loadVar_row W m U U ds gr d2 hV hv hd2 hj]
structure FromL where
 i : Int
 t : Int
 d : List UInt8
 s : St
def fromN (ok : Int -> Int -> Nat -> Bool) (s : St) (most : Int) : FromL :=
 if (qI s most).s = none then ⟨0,0,[],none⟩ else
 if ok (qI s most).i (qI s most).t (qI s most).d.length = true then ⟨(qI s most).i,(qI s most).t,(qI s most).d,(qI s most).s⟩ else ⟨0,0,[],none⟩
structure qaJ (T : TypeId) (w W : World) (b : Nat) (C0 C1 C2 : Array Value) : Prop where
 r0 : W.heap[b]? = some (.cells C0 171)
 r1 : W.heap[b + 1]? = some (.cells C1 T)
 r2 : W.heap[b + 1 + 1]? = some (.cells C2 171)
 below : Below w.heap.size w W
 le : w.heap.size <= b
theorem qaJ.step {T : TypeId} {w W w' : World} {b : Nat} {C0 C1 C2 : Array Value} (h : qaJ T w W b C0 C1 C2) (hb : Below W.heap.size W w') : qaJ T w w' b C0 C1 C2 :=
 ⟨(hb.block _ (hlt h.r0)).trans h.r0,(hb.block _ (hlt h.r1)).trans h.r1,(hb.block _ (hlt h.r2)).trans h.r2,h.below.trans (hb.mono h.below.size),h.le⟩
theorem qaJ.store {T : TypeId} {w W : World} {b : Nat} {u0 u1 : Value} {C1 C2 : Array Value} (h : qaJ T w W b #[u0,u1] C1 C2) (x y : Value) : qaJ T w ((W.setCell ⟨b,0,none⟩ x).setCell ⟨b,1,none⟩ y) b #[x,y] C1 C2 :=
 ⟨qax _ _ _ _ _ _ _ h.r0,((Below.heap_setCell _ _ _ _ (by show b + 1 ≠ b; omega)).trans (Below.heap_setCell _ _ _ _ (by show b + 1 ≠ b; omega))).trans h.r1,((Below.heap_setCell _ _ _ _ (by show b + 1 + 1 ≠ b; omega)).trans (Below.heap_setCell _ _ _ _ (by show b + 1 + 1 ≠ b; omega))).trans h.r2,(h.below.setCell h.le _).setCell h.le _,h.le⟩
theorem qaJ.fin {T : TypeId} {w W : World} {b : Nat} {x0 x1 x2 y0 y1 : Value} {C0 : Array Value} (h : qaJ T w W b C0 #[x0,x1,x2] #[y0,y1]) (a0 a1 a2 c0 c1 : Value) :
 qaJ T w (((((W.setCell ⟨b + 1,0,none⟩ a0).setCell ⟨b + 1,1,none⟩ a1).setCell ⟨b + 1,2,none⟩ a2).setCell ⟨b + 1 + 1,0,none⟩ c0).setCell ⟨b + 1 + 1,1,none⟩ c1) b C0 #[a0,a1,a2] #[c0,c1] := by
 have e1 := qL W (b + 1) a0 a1 a2 x0 x1 x2 T h.r1
 have hle := h.le
 refine ⟨?_,?_,?_,?_,h.le⟩
 · exact (Below.heap_setCell _ _ _ _ (by show b ≠ b + 1 + 1; omega)).trans ((Below.heap_setCell _ _ _ _ (by show b ≠ b + 1 + 1; omega)).trans ((Below.heap_setCell _ _ _ _ (by show b ≠ b + 1; omega)).trans ((Below.heap_setCell _ _ _ _ (by show b ≠ b + 1; omega)).trans ((Below.heap_setCell _ _ _ _ (by show b ≠ b + 1; omega)).trans h.r0))))
 · exact (Below.heap_setCell _ _ _ _ (by show b + 1 ≠ b + 1 + 1; omega)).trans ((Below.heap_setCell _ _ _ _ (by show b + 1 ≠ b + 1 + 1; omega)).trans e1)
 · exact qax _ _ _ _ _ _ _ ((Below.heap_setCell _ _ _ _ (by show b + 1 + 1 ≠ b + 1; omega)).trans ((Below.heap_setCell _ _ _ _ (by show b + 1 + 1 ≠ b + 1; omega)).trans ((Below.heap_setCell _ _ _ _ (by show b + 1 + 1 ≠ b + 1; omega)).trans h.r2)))
 · exact ((((h.below.setCell (by show _ <= b + 1; omega) _).setCell (by show _ <= b + 1; omega) _).setCell (by show _ <= b + 1; omega) _).setCell (by show _ <= b + 1 + 1; omega) _).setCell (by show _ <= b + 1 + 1; omega) _
theorem qjL {W : World} {b g : Nat} (hg : b + 1 + 1 < g) (a0 a1 a2 c0 c1 : Value) :
 (((((W.setCell ⟨b + 1,0,none⟩ a0).setCell ⟨b + 1,1,none⟩ a1).setCell ⟨b + 1,2,none⟩ a2).setCell ⟨b + 1 + 1,0,none⟩ c0).setCell ⟨b + 1 + 1,1,none⟩ c1).heap[g]? = W.heap[g]? :=
 (Below.heap_setCell _ _ _ _ (by show g ≠ b + 1 + 1; omega)).trans ((Below.heap_setCell _ _ _ _ (by show g ≠ b + 1 + 1; omega)).trans ((Below.heap_setCell _ _ _ _ (by show g ≠ b + 1; omega)).trans ((Below.heap_setCell _ _ _ _ (by show g ≠ b + 1; omega)).trans (Below.heap_setCell _ _ _ _ (by show g ≠ b + 1; omega)))))
theorem Lies.at_heap {W W' : World} {g n c : Nat} {d : List UInt8} (h : Lies W (some ⟨g,0,none⟩) n c d) (hs : W'.heap.size = W.heap.size) (hh : W'.heap[g]? = W.heap[g]?) : Lies W' (some ⟨g,0,none⟩) n c d :=
 h.keep (Nat.le_of_eq hs.symm) fun h0 q off e hq => by
  injection e with e
  injection e with e
  subst e
  exact hh
theorem Lies.fin5 {W : World} {b g n c : Nat} {d : List UInt8} (h : Lies W (some ⟨g,0,none⟩) n c d) (hg : b + 1 + 1 < g) (a0 a1 a2 c0 c1 : Value) :
 Lies (((((W.setCell ⟨b + 1,0,none⟩ a0).setCell ⟨b + 1,1,none⟩ a1).setCell ⟨b + 1,2,none⟩ a2).setCell ⟨b + 1 + 1,0,none⟩ c0).setCell ⟨b + 1 + 1,1,none⟩ c1) (some ⟨g,0,none⟩) n c d :=
 h.at_heap (by simp) (qjL hg _ _ _ _ _)
end Go.Proofs.YtmeoooojmhhahaaGreat
namespace Go.Proofs.YtmeoooojmhhahaaGreat
open Go.RowKit
end Go.Proofs.YtmeoooojmhhahaaGreat
namespace Go.Proofs.YtmeoooojmhhahaaGreat
open Go.RowKit
structure HardL where
 t : Int
 v : Int
 s : St
def hardFromN (s : St) : HardL :=
 if (numberN (numberN s 8).2 8).2 = none then ⟨0,0,none⟩ else
 if hardB (IntKind.i64.wrap ((numberN s 8).1 : Int)) (IntKind.i64.wrap ((numberN (numberN s 8).2 8).1 : Int)) = true then ⟨IntKind.i64.wrap ((numberN s 8).1 : Int),IntKind.i64.wrap ((numberN (numberN s 8).2 8).1 : Int),(numberN (numberN s 8).2 8).2⟩ else ⟨0,0,none⟩
theorem qaJ.fin2 {T : TypeId} {w W : World} {b : Nat} {x0 x1 y0 y1 : Value} {C0 : Array Value} (h : qaJ T w W b C0 #[x0,x1] #[y0,y1]) (a0 a1 c0 c1 : Value) :
 qaJ T w ((((W.setCell ⟨b + 1,0,none⟩ a0).setCell ⟨b + 1,1,none⟩ a1).setCell ⟨b + 1 + 1,0,none⟩ c0).setCell ⟨b + 1 + 1,1,none⟩ c1) b C0 #[a0,a1] #[c0,c1] := by
 have e1 := qR W (b + 1) a0 a1 x0 x1 T h.r1
 have hle := h.le
 refine ⟨?_,?_,?_,?_,h.le⟩
 · exact (Below.heap_setCell _ _ _ _ (by show b ≠ b + 1 + 1; omega)).trans ((Below.heap_setCell _ _ _ _ (by show b ≠ b + 1 + 1; omega)).trans ((Below.heap_setCell _ _ _ _ (by show b ≠ b + 1; omega)).trans ((Below.heap_setCell _ _ _ _ (by show b ≠ b + 1; omega)).trans h.r0)))
 · exact (Below.heap_setCell _ _ _ _ (by show b + 1 ≠ b + 1 + 1; omega)).trans ((Below.heap_setCell _ _ _ _ (by show b + 1 ≠ b + 1 + 1; omega)).trans e1)
 · exact qax _ _ _ _ _ _ _ ((Below.heap_setCell _ _ _ _ (by show b + 1 + 1 ≠ b + 1; omega)).trans ((Below.heap_setCell _ _ _ _ (by show b + 1 + 1 ≠ b + 1; omega)).trans h.r2))
 · exact (((h.below.setCell (by show _ <= b + 1; omega) _).setCell (by show _ <= b + 1; omega) _).setCell (by show _ <= b + 1 + 1; omega) _).setCell (by show _ <= b + 1 + 1; omega) _
theorem qgE (A : Option Addr) (cap : Nat) (s : St) (w : World) (h : qp w A cap s) :
 Calls Tryz.prog 99 #[inv A cap s] w fun e w' => ∃ A' cap',e = .returned (.tuple #[.agg #[.int .i64 (hardFromN s).t, .int .i64 (hardFromN s).v],inv A' cap' (hardFromN s).s]) /\ (∀ w0,qp w0 A cap s -> qp w0 A' cap' (hardFromN s).s) /\ Below w.heap.size w w' := by
 have h2 : qaJ 32 w (((w.alloc (.cells #[.slice A (left s) cap, .bool s.isNone] 171)).alloc (.cells #[.int .i64 0, .int .i64 0] 32)).alloc (.cells #[.slice none 0 0, .bool false] 171)) w.heap.size #[.slice A (left s) cap, .bool s.isNone] #[.int .i64 0, .int .i64 0] #[.slice none 0 0, .bool false] :=
  ⟨(Below.heap_alloc _ _ _ (by simp; omega)).trans ((Below.heap_alloc _ _ _ (by simp)).trans (heap_alloc_new _ _)),(Below.heap_alloc _ _ _ (by simp)).trans (heap_alloc2_new _ _ _),by
    have := heap_alloc_new ((w.alloc (.cells #[.slice A (left s) cap, .bool s.isNone] 171)).alloc (.cells #[.int .i64 0, .int .i64 0] 32)) (.cells #[.slice none 0 0, .bool false] 171)
    rwa [World.size_alloc,World.size_alloc] at this,((blq.alloc nlq _).alloc (by simp) _).alloc (by simp; omega) _,nlq⟩
 have hN1 := fun W (hW : Below w.heap.size w W) => qcK A cap s W (h.below hW nlq)
 have hlow : ∀ W,Below w.heap.size w W -> qp W A cap s := fun W hW => h.below hW nlq
 unfold hardFromN
 generalize numberN s 8 = t1 at *
 obtain ⟨n1,s1⟩ := t1
 dsimp only at *
 have hN2 := fun A1 c1 W (hr : qp W A1 c1 s1) => qcK A1 c1 s1 W hr
 generalize numberN s1 8 = t2 at *
 obtain ⟨n2,s2⟩ := t2
 dsimp only at *
 simp only [inv] at *
 rw [IntWalk.i64_left,IntWalk.i64_left] at *
 obtain ⟨R,hR⟩ : ∃ R : HardL,R = if s2 = none then ⟨0,0,none⟩ else if hardB (wrap64 (n1 : Int)) (wrap64 (n2 : Int)) = true then ⟨wrap64 (n1 : Int),wrap64 (n2 : Int),s2⟩ else ⟨0,0,none⟩ := ⟨_,rfl⟩
 rw [<- hR]
 generalize wrap64 (n1 : Int) = z1 at *
 generalize wrap64 (n2 : Int) = z2 at *
 clear h
 generalize left s = nS at *
 generalize s.isNone = bS at *
 go_enter Tryz.func99,Tryz.ntmps99
 go_wp2_with fail
 refine (hN1 _ h2.below).mono ?_
 rintro e w1 ⟨A1,c1,rfl,hr1,hb1⟩
 have h3 := h2.step hb1
 obtain ⟨⟨a0,a1⟩,⟨f0,f1⟩⟩ := row2 h3.r0
 clear h2 hb1 hN1
 have h4 := h3.store (.slice A1 (left s1) c1) (.bool s1.isNone)
 have hl4 := hr1 _ (hlow _ h4.below)
 go_wp2_with fail
 refine (hN2 A1 c1 _ hl4).mono ?_
 rintro e w2 ⟨A2,c2,rfl,hr2,hb2⟩
 have h5 := h4.step hb2
 obtain ⟨⟨a2,a3⟩,⟨f2,f3⟩⟩ := row2 h5.r0
 have y0 := hlt h5.r0
 have y1 := hlt h5.r1
 have y2 := hlt h5.r2
 clear h3 h4 hb2 hN2 a0 a1 f0 f1 hl4
 have h6 := h5.store (.slice A2 (left s2) c2) (.bool s2.isNone)
 obtain ⟨⟨b2,b3⟩,⟨g2,g3⟩⟩ := row2 h5.r1
 obtain ⟨⟨b5,b6⟩,⟨g5,g6⟩⟩ := row2 h5.r2
 generalize left s1 = nS1 at *
 generalize s1.isNone = bS1 at *
 cases s2 with
 | none =>
   rw [if_pos rfl] at hR
   have HR := Lib.hid hR
   clear hR
   simp only [left,Option.isNone] at *
   have h7 := (h6.fin2 (.int .i64 0) (.int .i64 0) (.slice none 0 0) (.bool true)).step (blq.alloc nlq (.cells #[.int .i64 z1, .int .i64 z2] 32))
   go_wp2
   refine bodyPost_ret (qaQ rfl _ _ (w.heap.size + 1) (w.heap.size + 1 + 1) _ _ _ _ _ _ rfl rfl h7.r1 h7.r2 Tryz.underlying32 Tryz.underlying171 rfl rfl (by kernel_rfl) (by kernel_rfl)) rfl ?_
   have e : R = _ := HR
   rw [e]
   exact ⟨none,0,rfl,fun w0 _ => qp.bad w0,h7.below⟩
 | some sl =>
   rw [if_neg (by simp)] at hR
   have hRt := fun W => qdn z1 z2 W
   have h8 := h6.step (blq.alloc nlq (.cells #[.int .i64 z1, .int .i64 z2] 32))
   have hr8 := heap_alloc_new ((w2.setCell ⟨w.heap.size,0,none⟩ (.slice A2 (left (some sl)) c2)).setCell ⟨w.heap.size,1,none⟩ (.bool (some sl).isNone)) (.cells #[.int .i64 z1, .int .i64 z2] 32)
   have hsz : ((w2.setCell ⟨w.heap.size,0,none⟩ (.slice A2 (left (some sl)) c2)).setCell ⟨w.heap.size,1,none⟩ (.bool (some sl).isNone)).heap.size = w2.heap.size := by simp
   rw [hsz] at hr8
   have z8 : w2.heap.size < (((w2.setCell ⟨w.heap.size,0,none⟩ (.slice A2 (left (some sl)) c2)).setCell ⟨w.heap.size,1,none⟩ (.bool (some sl).isNone)).alloc (.cells #[.int .i64 z1, .int .i64 z2] 32)).heap.size := by simp
   clear hsz
   generalize hardB z1 z2 = b at *
   cases b with
   | false =>
     rw [if_neg (by simp)] at hR
     have HR := Lib.hid hR
     clear hR
     simp only [Option.isNone] at *
     go_wp2_with fail
     refine (hRt _).mono ?_
     rintro e w6 ⟨rfl,hb6⟩
     have h9 := h8.step hb6
     obtain ⟨⟨d2,d3⟩,⟨e2,e3⟩⟩ := row2 h9.r1
     obtain ⟨⟨d5,d6⟩,⟨e5,e6⟩⟩ := row2 h9.r2
     have h7 := h9.fin2 (.int .i64 0) (.int .i64 0) (.slice none 0 0) (.bool true)
     clear hRt
     go_wp2
     refine bodyPost_ret (qaQ rfl _ _ (w.heap.size + 1) (w.heap.size + 1 + 1) _ _ _ _ _ _ rfl rfl h7.r1 h7.r2 Tryz.underlying32 Tryz.underlying171 rfl rfl (by kernel_rfl) (by kernel_rfl)) rfl ?_
     have e : R = _ := HR
     rw [e]
     exact ⟨none,0,rfl,fun w0 _ => qp.bad w0,h7.below⟩
   | true =>
     rw [if_pos rfl] at hR
     have HR := Lib.hid hR
     clear hR
     simp only [Option.isNone] at *
     go_wp2_with fail
     refine (hRt _).mono ?_
     rintro e w6 ⟨rfl,hb6⟩
     have h9 := h8.step hb6
     obtain ⟨⟨d0,d1⟩,⟨e0,e1⟩⟩ := row2 h9.r0
     obtain ⟨⟨d2,d3⟩,⟨e2,e3⟩⟩ := row2 h9.r1
     obtain ⟨⟨d5,d6⟩,⟨e5,e6⟩⟩ := row2 h9.r2
     obtain ⟨⟨d7,d8⟩,_⟩ := row2 ((hb6.block _ z8).trans hr8)
     have h7 := h9.fin2 (.int .i64 z1) (.int .i64 z2) (.slice A2 (left (some sl)) c2) (.bool false)
     clear hRt
     go_wp2
     go_region
     all_goals
      go_wp2
      refine bodyPost_ret (qaQ rfl _ _ (w.heap.size + 1) (w.heap.size + 1 + 1) _ _ _ _ _ _ rfl rfl h7.r1 h7.r2 Tryz.underlying32 Tryz.underlying171 rfl rfl (by kernel_rfl) (by kernel_rfl)) rfl ?_
      have e : R = _ := HR
      rw [e]
      exact ⟨A2,c2,rfl,fun w0 h0 => hr2 _ (hr1 _ h0),h7.below.drew⟩
end Go.Proofs.YtmeoooojmhhahaaGreat
