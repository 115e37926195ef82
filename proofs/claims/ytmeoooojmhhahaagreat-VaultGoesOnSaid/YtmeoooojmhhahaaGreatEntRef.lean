/- Entries, what is hard, snaps: which are right, and what bytes they are. Plain mathematics. -/
import Derived.Test.YtmeoooojmhhahaaGreatWalPure
import Derived.Test.YtmeoooojmhhahaaGreatCmn
import Derived.BigQuiet
import Derived.Lib.Hide
import Derived.Test.YtmeoooojmhhahaaGreatOct
import Derived.Deep.RegionLaw
namespace Go.Proofs.YtmeoooojmhhahaaGreat
set_option linter.unusedVariables false

def numB (n : Int) : Bool := decide (1 ≤ n) && decide (n ≤ 1099511627776)
def rightB (i t : Int) (d : Nat) : Bool := numB i && numB t && decide (d ≤ 12000)
def hardB (t v : Int) : Bool := decide (0 ≤ t) && (decide (t ≤ 1099511627776) && (decide (-1 ≤ v) && decide (v ≤ 2)))
def snapB (i t : Int) (d : Nat) : Bool := if i = 0 ∧ t = 0 then decide (d = 0) else numB i && numB t && decide (d ≤ 50000)

/-- An entry, or a snap: its index, its term, its bytes. -/
structure Ent where
  i : Int
  t : Int
  d : List UInt8

/-- What stands ahead of the k-th: its index, its term. -/
def prevI (i : Int) (l : List Ent) (k : Nat) : Int := if k = 0 then i else (l[k - 1]?.map Ent.i).getD 0
def prevT (t : Int) (l : List Ent) (k : Nat) : Int := if k = 0 then t else (l[k - 1]?.map Ent.t).getD 0

/-- Does the k-th go on behind what stands ahead of it? -/
def stepB (i t : Int) (l : List Ent) (k : Nat) : Bool :=
  match l[k]? with
  | none => false
  | some e => rightB e.i e.t e.d.length && (decide (prevT t l k ≤ e.t) && decide (e.i = prevI i l k + 1))

/-- Are entries a run behind an index and a term? -/
def runB (i t : Int) (l : List Ent) : Bool := (List.range l.length).all (stepB i t l)

theorem runB_no {i t : Int} {l : List Ent} (k : Nat) (hk : k < l.length) (h : stepB i t l k = false) : runB i t l = false := by
  cases hr : runB i t l with
  | false => rfl
  | true =>
    have := List.all_eq_true.1 hr k (List.mem_range.2 hk)
    rw [h] at this
    cases this

theorem runB_yes {i t : Int} {l : List Ent} (h : ∀ k, k < l.length → stepB i t l k = true) : runB i t l = true :=
  List.all_eq_true.2 fun k hk => h k (List.mem_range.1 hk)

theorem stepB_at (i t : Int) (l : List Ent) (k : Nat) (hk : k < l.length) : stepB i t l k = (rightB l[k].i l[k].t l[k].d.length && (decide (prevT t l k ≤ l[k].t) && decide (l[k].i = prevI i l k + 1))) := by
  unfold stepB
  rw [List.getElem?_eq_getElem hk]

theorem prev_next (i t : Int) (l : List Ent) (k : Nat) (hk : k < l.length) : prevI i l (k + 1) = l[k].i ∧ prevT t l (k + 1) = l[k].t := by
  simp [prevI, prevT, List.getElem?_eq_getElem hk]

theorem prev_zero (i t : Int) (l : List Ent) : prevI i l 0 = i ∧ prevT t l 0 = t := ⟨rfl, rfl⟩

theorem numB_iff (n : Int) : numB n = true ↔ 1 ≤ n ∧ n ≤ 1099511627776 := by simp [numB]

theorem rightB_iff (i t : Int) (d : Nat) : rightB i t d = true ↔ (1 ≤ i ∧ i ≤ 1099511627776) ∧ (1 ≤ t ∧ t ≤ 1099511627776) ∧ d ≤ 12000 := by
  simp [rightB, numB, and_assoc]

end Go.Proofs.YtmeoooojmhhahaaGreat

namespace Go.Proofs.YtmeoooojmhhahaaGreat
open Go.RowKit
set_option linter.unusedVariables false
set_option linter.unusedSimpArgs false

abbrev entV (i t : Int) (A : Option Addr) (n c : Nat) : Value := .agg #[.int .i64 i, .int .i64 t, .slice A n c]

theorem le_lit (n m : Nat) (z : Int) (h : z = (m : Int)) : decide ((n : Int) ≤ z) = decide (n ≤ m) := by
  subst h
  apply Bool.eq_iff_iff.2
  simp

theorem eq_zero (n : Nat) : ((n : Int) == 0) = decide (n = 0) := by
  apply Bool.eq_iff_iff.2
  simp

theorem numR_is (n : Int) (w : World) : Calls Tryz.prog 84 #[.int .i64 n] w fun e w' => e = .returned (.bool (numB n)) ∧ w = w' := by
  unfold numB
  by_cases h1 : 1 ≤ n
  · have e1 : decide (1 ≤ n) = true := decide_eq_true h1
    rw [e1, Bool.true_and]
    go_enter Tryz.func84, Tryz.ntmps84
    go_wp2
    go_ret
    exact ⟨rfl, rfl⟩
  · have e1 : decide (1 ≤ n) = false := decide_eq_false h1
    have e2 : (1 ≤ n) = False := eq_false h1
    rw [e1, Bool.false_and]
    clear h1
    go_enter Tryz.func84, Tryz.ntmps84
    go_wp2
    go_ret
    exact ⟨rfl, rfl⟩

theorem rightR_is (i t : Int) (A : Option Addr) (n c : Nat) (w : World) : Calls Tryz.prog 55 #[entV i t A n c] w fun e w' => e = .returned (.bool (rightB i t n)) ∧ Below w.heap.size w w' := by
  have hi := fun W => numR_is i W
  have ht := fun W => numR_is t W
  have hb : Below w.heap.size w (w.alloc (.cells #[.int .i64 i, .int .i64 t, .slice A n c] 69)) := (Below.refl _ _).alloc (Nat.le_refl _) _
  unfold rightB
  generalize numB i = bi at *
  generalize numB t = bt at *
  cases bi with
  | false =>
    go_enter Tryz.func55, Tryz.ntmps55
    go_wp2_with fail
    refine (hi _).mono ?_
    rintro e w1 ⟨rfl, rfl⟩
    go_wp2
    go_ret
    exact ⟨rfl, hb⟩
  | true =>
    cases bt with
    | false =>
      go_enter Tryz.func55, Tryz.ntmps55
      go_wp2_with fail
      refine (hi _).mono ?_
      rintro e w1 ⟨rfl, rfl⟩
      go_wp2_with fail
      refine (ht _).mono ?_
      rintro e w1 ⟨rfl, rfl⟩
      go_wp2
      go_ret
      exact ⟨rfl, hb⟩
    | true =>
      go_enter Tryz.func55, Tryz.ntmps55
      go_wp2_with fail
      refine (hi _).mono ?_
      rintro e w1 ⟨rfl, rfl⟩
      go_wp2_with fail
      refine (ht _).mono ?_
      rintro e w1 ⟨rfl, rfl⟩
      go_wp2
      go_ret
      refine ⟨?_, hb⟩
      show Ending.returned (.bool (decide ((n : Int) ≤ 12000))) = _
      rw [le_lit n 12000 12000 rfl]
      rfl

theorem hardR_is (t v : Int) (w : World) : Calls Tryz.prog 22 #[.agg #[.int .i64 t, .int .i64 v]] w fun e w' => e = .returned (.bool (hardB t v)) ∧ Below w.heap.size w w' := by
  have hb : Below w.heap.size w (w.alloc (.cells #[.int .i64 t, .int .i64 v] 32)) := (Below.refl _ _).alloc (Nat.le_refl _) _
  unfold hardB
  by_cases h1 : 0 ≤ t
  · rw [decide_eq_true h1, Bool.true_and]
    by_cases h2 : t ≤ 1099511627776
    · rw [decide_eq_true h2, Bool.true_and]
      by_cases h3 : -1 ≤ v
      · rw [decide_eq_true h3, Bool.true_and]
        go_enter Tryz.func22, Tryz.ntmps22
        go_wp2
        go_ret
        exact ⟨rfl, hb⟩
      · have e1 : decide (-1 ≤ v) = false := decide_eq_false h3
        have e2 : (-1 ≤ v) = False := eq_false h3
        rw [e1, Bool.false_and]
        clear h3
        go_enter Tryz.func22, Tryz.ntmps22
        go_wp2
        go_ret
        exact ⟨rfl, hb⟩
    · have e1 : decide (t ≤ 1099511627776) = false := decide_eq_false h2
      have e2 : (t ≤ 1099511627776) = False := eq_false h2
      rw [e1, Bool.false_and]
      clear h2
      go_enter Tryz.func22, Tryz.ntmps22
      go_wp2
      go_ret
      exact ⟨rfl, hb⟩
  · have e1 : decide (0 ≤ t) = false := decide_eq_false h1
    have e2 : (0 ≤ t) = False := eq_false h1
    rw [e1, Bool.false_and]
    clear h1
    go_enter Tryz.func22, Tryz.ntmps22
    go_wp2
    go_ret
    exact ⟨rfl, hb⟩

theorem snapR_is (i t : Int) (A : Option Addr) (n c : Nat) (w : World) : Calls Tryz.prog 29 #[entV i t A n c] w fun e w' => e = .returned (.bool (snapB i t n)) ∧ Below w.heap.size w w' := by
  have hi := fun W => numR_is i W
  have ht := fun W => numR_is t W
  have hb : Below w.heap.size w (w.alloc (.cells #[.int .i64 i, .int .i64 t, .slice A n c] 35)) := (Below.refl _ _).alloc (Nat.le_refl _) _
  unfold snapB
  by_cases h0 : i = 0 ∧ t = 0
  · rw [if_pos h0]
    obtain ⟨rfl, rfl⟩ := h0
    clear hi ht
    go_enter Tryz.func29, Tryz.ntmps29
    go_wp2
    go_ret
    refine ⟨?_, hb⟩
    show Ending.returned (.bool ((n : Int) == 0)) = _
    rw [eq_zero]
  · rw [if_neg h0]
    generalize numB i = bi at *
    generalize numB t = bt at *
    have hif : (i == 0) = false ∨ (i = 0 ∧ (t == 0) = false ∧ (t = 0) = False) := by
      by_cases h : i = 0
      · refine .inr ⟨h, ?_, eq_false fun e => h0 ⟨h, e⟩⟩
        exact beq_eq_false_iff_ne.2 fun e => h0 ⟨h, e⟩
      · exact .inl (beq_eq_false_iff_ne.2 h)
    clear h0
    rcases hif with hif | ⟨rfl, htf, htf2⟩
    all_goals
      cases bi
      · go_enter Tryz.func29, Tryz.ntmps29
        go_wp2_with fail
        refine (hi _).mono ?_
        rintro e w1 ⟨rfl, rfl⟩
        go_wp2
        go_ret
        exact ⟨rfl, hb⟩
      · cases bt
        · go_enter Tryz.func29, Tryz.ntmps29
          go_wp2_with fail
          refine (hi _).mono ?_
          rintro e w1 ⟨rfl, rfl⟩
          go_wp2_with fail
          refine (ht _).mono ?_
          rintro e w1 ⟨rfl, rfl⟩
          go_wp2
          go_ret
          exact ⟨rfl, hb⟩
        · go_enter Tryz.func29, Tryz.ntmps29
          go_wp2_with fail
          refine (hi _).mono ?_
          rintro e w1 ⟨rfl, rfl⟩
          go_wp2_with fail
          refine (ht _).mono ?_
          rintro e w1 ⟨rfl, rfl⟩
          go_wp2
          go_ret
          refine ⟨?_, hb⟩
          show Ending.returned (.bool (decide ((n : Int) ≤ 50000))) = _
          rw [le_lit n 50000 50000 rfl]
          rfl

end Go.Proofs.YtmeoooojmhhahaaGreat

namespace Go.Proofs.YtmeoooojmhhahaaGreat
open Go.RowKit
set_option linter.unusedVariables false
set_option linter.unusedSimpArgs false

def oneB (i t : Int) (d : List UInt8) (i' t' : Int) (d' : List UInt8) : Bool := decide (i = i') && (decide (t = t') && decide (d = d'))

theorem text_eqb (a b : List UInt8) : decide (a = b) = ((⟨a.toArray⟩ : ByteArray).toList == (⟨b.toArray⟩ : ByteArray).toList) := by
  rw [ByteArray.toList_eq, ByteArray.toList_eq]
  apply Bool.eq_iff_iff.2
  simp

set_option maxHeartbeats 1000000 in
theorem oneR_any (i t : Int) (A : Option Addr) (n c : Nat) (d : List UInt8) (i' t' : Int) (A' : Option Addr) (n' c' : Nat) (d' : List UInt8) (w : World) (h : Lies w A n c d) (h' : Lies w A' n' c' d') :
    Calls Tryz.prog 83 #[entV i t A n c, entV i' t' A' n' c'] w fun e w' => e = .returned (.bool (oneB i t d i' t' d')) ∧ Below w.heap.size w w' := by
  have hb : Below w.heap.size w ((w.alloc (.cells #[.int .i64 i, .int .i64 t, .slice A n c] 69)).alloc (.cells #[.int .i64 i', .int .i64 t', .slice A' n' c'] 69)) := ((Below.refl _ _).alloc (Nat.le_refl _) _).alloc (by simp) _
  have c1 := (h.below hb (Nat.le_refl _)).text Tryz.underlying33 Tryz.underlying5 Tryz.underlying9
  have c2 := (h'.below hb (Nat.le_refl _)).text Tryz.underlying33 Tryz.underlying5 Tryz.underlying9
  have hd : decide (d = d') = ((⟨d.toArray⟩ : ByteArray).toList == (⟨d'.toArray⟩ : ByteArray).toList) := text_eqb d d'
  generalize (⟨d.toArray⟩ : ByteArray) = S at *
  generalize (⟨d'.toArray⟩ : ByteArray) = S' at *
  unfold oneB
  rw [hd]
  clear h h' hd
  by_cases h1 : i = i'
  · subst h1
    rw [decide_eq_true rfl, Bool.true_and]
    by_cases h2 : t = t'
    · subst h2
      rw [decide_eq_true rfl, Bool.true_and]
      go_enter Tryz.func83, Tryz.ntmps83
      go_wp2
      go_ret
      exact ⟨rfl, hb⟩
    · have e1 : (t == t') = false := beq_eq_false_iff_ne.2 h2
      have e2 : (t = t') = False := eq_false h2
      rw [decide_eq_false h2, Bool.false_and]
      clear h2
      go_enter Tryz.func83, Tryz.ntmps83
      go_wp2
      go_ret
      exact ⟨rfl, hb⟩
  · have e1 : (i == i') = false := beq_eq_false_iff_ne.2 h1
    have e2 : (i = i') = False := eq_false h1
    rw [decide_eq_false h1, Bool.false_and]
    clear h1
    go_enter Tryz.func83, Tryz.ntmps83
    go_wp2
    go_ret
    exact ⟨rfl, hb⟩

set_option maxHeartbeats 1000000 in
theorem sameSnapR_any (i t : Int) (A : Option Addr) (n c : Nat) (d : List UInt8) (i' t' : Int) (A' : Option Addr) (n' c' : Nat) (d' : List UInt8) (w : World) (h : Lies w A n c d) (h' : Lies w A' n' c' d') :
    Calls Tryz.prog 27 #[entV i t A n c, entV i' t' A' n' c'] w fun e w' => e = .returned (.bool (oneB i t d i' t' d')) ∧ Below w.heap.size w w' := by
  have hb : Below w.heap.size w ((w.alloc (.cells #[.int .i64 i, .int .i64 t, .slice A n c] 35)).alloc (.cells #[.int .i64 i', .int .i64 t', .slice A' n' c'] 35)) := ((Below.refl _ _).alloc (Nat.le_refl _) _).alloc (by simp) _
  have c1 := (h.below hb (Nat.le_refl _)).text Tryz.underlying33 Tryz.underlying5 Tryz.underlying9
  have c2 := (h'.below hb (Nat.le_refl _)).text Tryz.underlying33 Tryz.underlying5 Tryz.underlying9
  have hd : decide (d = d') = ((⟨d.toArray⟩ : ByteArray).toList == (⟨d'.toArray⟩ : ByteArray).toList) := text_eqb d d'
  generalize (⟨d.toArray⟩ : ByteArray) = S at *
  generalize (⟨d'.toArray⟩ : ByteArray) = S' at *
  unfold oneB
  rw [hd]
  clear h h' hd
  by_cases h1 : i = i'
  · subst h1
    rw [decide_eq_true rfl, Bool.true_and]
    by_cases h2 : t = t'
    · subst h2
      rw [decide_eq_true rfl, Bool.true_and]
      go_enter Tryz.func27, Tryz.ntmps27
      go_wp2
      go_ret
      exact ⟨rfl, hb⟩
    · have e1 : (t == t') = false := beq_eq_false_iff_ne.2 h2
      have e2 : (t = t') = False := eq_false h2
      rw [decide_eq_false h2, Bool.false_and]
      clear h2
      go_enter Tryz.func27, Tryz.ntmps27
      go_wp2
      go_ret
      exact ⟨rfl, hb⟩
  · have e1 : (i == i') = false := beq_eq_false_iff_ne.2 h1
    have e2 : (i = i') = False := eq_false h1
    rw [decide_eq_false h1, Bool.false_and]
    clear h1
    go_enter Tryz.func27, Tryz.ntmps27
    go_wp2
    go_ret
    exact ⟨rfl, hb⟩

end Go.Proofs.YtmeoooojmhhahaaGreat

namespace Go.Proofs.YtmeoooojmhhahaaGreat
open Go.RowKit
set_option linter.unusedVariables false
set_option linter.unusedSimpArgs false

/-- A number as 8 bytes. -/
def num8 (n : Int) : List UInt8 := wide (IntKind.u64.wrap n).toNat 8
def threeL (i t : Int) (d : List UInt8) : List UInt8 := num8 i ++ (num8 t ++ textOf d)

theorem num8_any (n : Int) (w : World) : Calls Tryz.prog 144 #[.int .i64 n] w fun e w' => ∃ A cap, e = .returned (.slice A 8 cap) ∧ Owns 5 w' w.heap.size (.slice A 8 cap) (num8 n) ∧ Below w.heap.size w w' :=
  numR_any n _ (Int.toNat_of_nonneg (u64_wrap n).1).symm w

theorem owns_lies {w : World} {base n cap : Nat} {A : Option Addr} {l : List UInt8} (h : Owns 5 w base (.slice A n cap) l) : Lies w A n cap l := by
  obtain ⟨A', cap', e, hl, _⟩ := lies_of_owns h
  injection e with e1 e2 e3
  subst e1 e2 e3
  exact hl

set_option maxRecDepth 100000 in
set_option maxHeartbeats 3200000 in
theorem threeR_any (i t : Int) (A : Option Addr) (n c : Nat) (d : List UInt8) (w : World) (h : Lies w A n c d) (hn : n ≤ 50000) :
    Calls Tryz.prog 124 #[.int .i64 i, .int .i64 t, .slice A n c] w fun e w' => ∃ A' c', e = .returned (.slice A' (threeL i t d).length c') ∧ Owns 5 w' w.heap.size (.slice A' (threeL i t d).length c') (threeL i t d) ∧ Below w.heap.size w w' := by
  obtain ⟨i0, hi0, hz0, hz1, hz2⟩ := info_parts info_u8
  have hcv : ∀ W, Below w.heap.size w W → (convert 33 9 (.slice A n c)).run Tryz.prog W = .ok (.string ⟨d.toArray⟩) W := fun W hb => (h.below hb (Nat.le_refl _)).text Tryz.underlying33 Tryz.underlying5 Tryz.underlying9
  have hds : (⟨d.toArray⟩ : ByteArray).size = n := h.1
  have hT := fun W => textR_any ⟨d.toArray⟩ (by omega) W
  have hdl : (⟨d.toArray⟩ : ByteArray).data.toList = d := rfl
  rw [hdl, hds] at hT
  generalize (⟨d.toArray⟩ : ByteArray) = S at hcv hT
  have hlT : (textOf d).length ≤ 60000 := by have := h.1; simp [textOf]; omega
  clear h hds hdl
  go_enter Tryz.func124, Tryz.ntmps124
  have hI := fun W => num8_any i W
  have hJ := fun W => num8_any t W
  have hlI : (num8 i).length = 8 := by simp [num8]
  have hlJ : (num8 t).length = 8 := by simp [num8]
  have HF := Lib.hid (show threeL i t d = num8 i ++ num8 t ++ textOf d by unfold threeL; rw [List.append_assoc])
  generalize threeL i t d = R at *
  generalize num8 i = ni at *
  generalize num8 t = nt at *
  have c0 := hcv w (Below.refl _ _)
  have c1 := hcv w.drew (Below.refl _ _).drew
  go_wp2
  go_region_law (first
    | (go_simp; go_at_call 144
       refine (hI _).mono ?_
       rintro e w1 ⟨A1, k1, rfl, ho1, hb1⟩
       have hbw1 : Below w.heap.size w w1 := Below.trans (by first | exact Below.refl _ _ | exact (Below.refl _ _).drew) (hb1.mono (by simp))
       have ho1' : Owns 5 w1 w.heap.size (.slice A1 8 k1) ni := ho1
       have c2 := hcv w1 hbw1
       clear hI)
    | (go_simp; go_at_call 144
       refine (hJ _).mono ?_
       rintro e w2 ⟨A2, k2, rfl, ho2, hb2⟩
       have hbw2 : Below w.heap.size w w2 := hbw1.trans (hb2.mono hbw1.size)
       have ho12 : Owns 5 w2 w.heap.size (.slice A1 8 k1) ni := ho1'.keep (fun g hg => hb2.block g (ho1'.lt g hg).2)
       have hl2 := owns_lies ho2
       have c3 := hcv w2 hbw2
       clear hJ)
    | (refine step_append_bytes _ (by rfl) _ _ 33 (by rfl) 5 i0 Tryz.underlying33 hi0 hz0 hz1 hz2 w.heap.size (by first | exact hbw2.size | exact hbwt.size) (.slice A1 8 k1) ni (by rfl) (by first | exact ho12 | exact ho1t) A2 8 k2 nt (by rfl) (by first | exact hl2 | exact hl2t) (by rw [List.length_append]; omega) ?_
       intro va wa hoa hga hqa
       have hbwa : Below w.heap.size w wa := by first | exact hbw2.grown hga hbw2.size (fun q hq => (ho12.lt q hq).1) | exact hbwt.grown hga hbwt.size (fun q hq => (ho1t.lt q hq).1)
       have c4 := hcv wa hbwa
       first | (have hlta : Lies wa A3 (4 + n) k3 (textOf d) := hlt3.grown hga fun q hq h0 g off e hgq => by
                  subst hgq
                  have h1 := (hoT.lt g (by rw [e]; rfl)).1
                  have h2 := (ho12.lt g hq).2
                  omega) | skip)
    | (go_simp; go_at_call 153
       refine (hT _).mono ?_
       rintro e wt ⟨A3, k3, rfl, hoT, hbT⟩
       have hlt3 := owns_lies hoT
       first
         | (have hbwt : Below w.heap.size w wt := hbwa.trans (hbT.mono hbwa.size)
            have hoat := Owns.keep hoa (fun g hg => hbT.block g (hoa.lt g hg).2))
         | (have hbwt : Below w.heap.size w wt := hbw2.trans (hbT.mono hbw2.size)
            have ho1t : Owns 5 wt w.heap.size (.slice A1 8 k1) ni := ho12.keep (fun g hg => hbT.block g (ho12.lt g hg).2)
            have hl2t := hl2.below hbT (Nat.le_refl _)))
    | (refine step_append_bytes _ (by rfl) _ _ 33 (by rfl) 5 i0 Tryz.underlying33 hi0 hz0 hz1 hz2 w.heap.size (by first | exact hbwt.size | exact hbwa.size) va (ni ++ nt) (by rfl) (by first | exact hoat | exact hoa) A3 (4 + n) k3 (textOf d) (by rfl) (by first | exact hlt3 | exact hlta) (by rw [List.length_append, List.length_append]; omega) ?_
       intro vf wf hof hgf hqf
       have hbwf : Below w.heap.size w wf := by first | exact hbwt.grown hgf hbwt.size (fun q hq => (hoat.lt q hq).1) | exact hbwa.grown hgf hbwa.size (fun q hq => (hoa.lt q hq).1)))
  all_goals
    have hoF : Owns 5 wf w.heap.size vf R := by rw [HF]; exact hof
    obtain ⟨Af, cf, rfl, _, _⟩ := lies_of_owns hoF
    have HO := Lib.hid hoF
    have HB := Lib.hid hbwf
    clear hof hoF
    go_wp2
    go_ret
    exact ⟨Af, cf, rfl, HO, HB⟩

end Go.Proofs.YtmeoooojmhhahaaGreat

namespace Go.Proofs.YtmeoooojmhhahaaGreat
open Go.RowKit
set_option linter.unusedVariables false
set_option linter.unusedSimpArgs false

/-- An entry's bytes; a snap's. -/
def entBytes (i t : Int) (d : List UInt8) : List UInt8 := if rightB i t d.length = true then threeL i t d else List.replicate 20 0
def snapBytes (i t : Int) (d : List UInt8) : List UInt8 := if snapB i t d.length = true then threeL i t d else List.replicate 20 0

theorem rightB_len {i t : Int} {n : Nat} (h : rightB i t n = true) : n ≤ 50000 := by
  have := (rightB_iff i t n).1 h
  omega

theorem snapB_len {i t : Int} {n : Nat} (h : snapB i t n = true) : n ≤ 50000 := by
  unfold snapB at h
  split at h
  · have := of_decide_eq_true h
    omega
  · simp only [Bool.and_eq_true, decide_eq_true_eq] at h
    exact h.2

theorem bytesE_any (i t : Int) (A : Option Addr) (n c : Nat) (d : List UInt8) (w : World) (h : Lies w A n c d) :
    Calls Tryz.prog 106 #[entV i t A n c] w fun e w' => ∃ A' c', e = .returned (.slice A' (entBytes i t d).length c') ∧ Owns 5 w' w.heap.size (.slice A' (entBytes i t d).length c') (entBytes i t d) ∧ Below w.heap.size w w' := by
  have hb : Below w.heap.size w (w.alloc (.cells #[.int .i64 i, .int .i64 t, .slice A n c] 69)) := (Below.refl _ _).alloc (Nat.le_refl _) _
  have hR := fun W => rightR_is i t A n c W
  have hd := h.1
  have hN : entBytes i t d = if rightB i t n = true then threeL i t d else List.replicate 20 0 := by unfold entBytes; rw [hd]
  have hle : rightB i t n = true → n ≤ 50000 := fun hq => rightB_len hq
  have hT := fun W (hW : Below w.heap.size w W) hq => threeR_any i t A n c d W (h.below hW (Nat.le_refl _)) hq
  rw [hN]
  generalize rightB i t n = b at *
  clear hN hd h
  cases b with
  | true =>
    have hq := hle rfl
    rw [if_pos rfl]
    generalize threeL i t d = R at *
    go_enter Tryz.func106, Tryz.ntmps106
    go_wp2_with fail
    refine (hR _).mono ?_
    rintro e w1 ⟨rfl, hb1⟩
    have hbw1 := hb.trans (hb1.mono hb.size)
    obtain ⟨⟨a0, a1, a2⟩, _⟩ := row3 ((hb1.block _ (by simp)).trans (heap_alloc_new w _))
    have hT1 := hT w1 hbw1 hq
    clear hT hR
    go_wp2_with fail
    refine hT1.mono ?_
    rintro e w2 ⟨A2, c2, rfl, ho2, hb2⟩
    go_wp2
    go_ret
    exact ⟨A2, c2, rfl, ho2.rebase fun k hk => Nat.le_trans hbw1.size (ho2.lt k hk).1, hbw1.trans (hb2.mono hbw1.size)⟩
  | false =>
    rw [if_neg (by simp)]
    obtain ⟨i0, hi0, hz0, hz1, hz2⟩ := info_parts info_u8
    clear hT hle
    go_enter Tryz.func106, Tryz.ntmps106
    go_wp2_with fail
    refine (hR _).mono ?_
    rintro e w1 ⟨rfl, hb1⟩
    have hbw1 := hb.trans (hb1.mono hb.size)
    clear hR
    go_wp2_with (at_make; refine wpList_make_full _ rfl _ _ 33 rfl w1.heap.size 5 i0 _ 1 Tryz.underlying33 hi0 hz0 hz1 _ _ _ _ 20 rfl rfl rfl rfl (by rw [hz2]; omega) (by unfold maxLen; omega) (Nat.le_refl _) ?_)
    intro w2 ho hg
    have ho1 : Owns 5 w2 w1.heap.size (.slice (some ⟨w1.heap.size, 0, none⟩) 20 20) (List.replicate 20 0) := by
      unfold Owns
      have e : cellsOf (List.replicate 20 0) = (madeCells #[.int .u8 0] 20).toList := by rw [toList_madeCells_one]; simp [cellsOf]
      rw [e, List.length_replicate]
      simpa using ho
    have hb2 := (Below.refl w1.heap.size w1).grown hg (Nat.le_refl _) (fun k e => by cases e)
    clear ho hg
    go_wp2
    go_ret
    exact ⟨_, _, rfl, ho1.rebase fun k hk => Nat.le_trans hbw1.size (ho1.lt k hk).1, hbw1.trans (hb2.mono hbw1.size)⟩

theorem bytesS_any (i t : Int) (A : Option Addr) (n c : Nat) (d : List UInt8) (w : World) (h : Lies w A n c d) :
    Calls Tryz.prog 63 #[entV i t A n c] w fun e w' => ∃ A' c', e = .returned (.slice A' (snapBytes i t d).length c') ∧ Owns 5 w' w.heap.size (.slice A' (snapBytes i t d).length c') (snapBytes i t d) ∧ Below w.heap.size w w' := by
  have hb : Below w.heap.size w (w.alloc (.cells #[.int .i64 i, .int .i64 t, .slice A n c] 35)) := (Below.refl _ _).alloc (Nat.le_refl _) _
  have hR := fun W => snapR_is i t A n c W
  have hd := h.1
  have hN : snapBytes i t d = if snapB i t n = true then threeL i t d else List.replicate 20 0 := by unfold snapBytes; rw [hd]
  have hle : snapB i t n = true → n ≤ 50000 := fun hq => snapB_len hq
  have hT := fun W (hW : Below w.heap.size w W) hq => threeR_any i t A n c d W (h.below hW (Nat.le_refl _)) hq
  rw [hN]
  generalize snapB i t n = b at *
  clear hN hd h
  cases b with
  | true =>
    have hq := hle rfl
    rw [if_pos rfl]
    generalize threeL i t d = R at *
    go_enter Tryz.func63, Tryz.ntmps63
    go_wp2_with fail
    refine (hR _).mono ?_
    rintro e w1 ⟨rfl, hb1⟩
    have hbw1 := hb.trans (hb1.mono hb.size)
    obtain ⟨⟨a0, a1, a2⟩, _⟩ := row3 ((hb1.block _ (by simp)).trans (heap_alloc_new w _))
    have hT1 := hT w1 hbw1 hq
    clear hT hR
    go_wp2_with fail
    refine hT1.mono ?_
    rintro e w2 ⟨A2, c2, rfl, ho2, hb2⟩
    go_wp2
    go_ret
    exact ⟨A2, c2, rfl, ho2.rebase fun k hk => Nat.le_trans hbw1.size (ho2.lt k hk).1, hbw1.trans (hb2.mono hbw1.size)⟩
  | false =>
    rw [if_neg (by simp)]
    obtain ⟨i0, hi0, hz0, hz1, hz2⟩ := info_parts info_u8
    clear hT hle
    go_enter Tryz.func63, Tryz.ntmps63
    go_wp2_with fail
    refine (hR _).mono ?_
    rintro e w1 ⟨rfl, hb1⟩
    have hbw1 := hb.trans (hb1.mono hb.size)
    clear hR
    go_wp2_with (at_make; refine wpList_make_full _ rfl _ _ 33 rfl w1.heap.size 5 i0 _ 1 Tryz.underlying33 hi0 hz0 hz1 _ _ _ _ 20 rfl rfl rfl rfl (by rw [hz2]; omega) (by unfold maxLen; omega) (Nat.le_refl _) ?_)
    intro w2 ho hg
    have ho1 : Owns 5 w2 w1.heap.size (.slice (some ⟨w1.heap.size, 0, none⟩) 20 20) (List.replicate 20 0) := by
      unfold Owns
      have e : cellsOf (List.replicate 20 0) = (madeCells #[.int .u8 0] 20).toList := by rw [toList_madeCells_one]; simp [cellsOf]
      rw [e, List.length_replicate]
      simpa using ho
    have hb2 := (Below.refl w1.heap.size w1).grown hg (Nat.le_refl _) (fun k e => by cases e)
    clear ho hg
    go_wp2
    go_ret
    exact ⟨_, _, rfl, ho1.rebase fun k hk => Nat.le_trans hbw1.size (ho1.lt k hk).1, hbw1.trans (hb2.mono hbw1.size)⟩

end Go.Proofs.YtmeoooojmhhahaaGreat

namespace Go.Proofs.YtmeoooojmhhahaaGreat
open Go.RowKit
set_option linter.unusedVariables false
set_option linter.unusedSimpArgs false

/-- What is hard, as bytes. -/
def hardBytes (t v : Int) : List UInt8 := if hardB t v = true then num8 t ++ num8 v else List.replicate 16 0

set_option maxRecDepth 100000 in
set_option maxHeartbeats 3200000 in
theorem bytesH_any (t v : Int) (w : World) :
    Calls Tryz.prog 105 #[.agg #[.int .i64 t, .int .i64 v]] w fun e w' => ∃ A' c', e = .returned (.slice A' 16 c') ∧ Owns 5 w' w.heap.size (.slice A' 16 c') (hardBytes t v) ∧ Below w.heap.size w w' := by
  have hb : Below w.heap.size w (w.alloc (.cells #[.int .i64 t, .int .i64 v] 32)) := (Below.refl _ _).alloc (Nat.le_refl _) _
  have hR := fun W => hardR_is t v W
  have hI := fun W => num8_any t W
  have hJ := fun W => num8_any v W
  have hlI : (num8 t).length = 8 := by simp [num8]
  have hlJ : (num8 v).length = 8 := by simp [num8]
  unfold hardBytes
  generalize hardB t v = b at *
  generalize num8 t = ni at *
  generalize num8 v = nt at *
  obtain ⟨i0, hi0, hz0, hz1, hz2⟩ := info_parts info_u8
  cases b with
  | true =>
    rw [if_pos rfl]
    have hln : (ni ++ nt).length = 16 := by rw [List.length_append, hlI, hlJ]
    go_enter Tryz.func105, Tryz.ntmps105
    go_wp2_with fail
    refine (hR _).mono ?_
    rintro e w1 ⟨rfl, hb1⟩
    have hbw1 := hb.trans (hb1.mono hb.size)
    have hz : w.heap.size < w1.heap.size := by have := hb1.size; simp at this; omega
    have hrow := (hb1.block w.heap.size (by simp)).trans (heap_alloc_new w _)
    obtain ⟨⟨a0, a1⟩, _⟩ := row2 hrow
    clear hR
    go_wp2
    go_region_law (first
      | (go_simp; go_at_call 144
         refine (hI _).mono ?_
         rintro e w2 ⟨A1, k1, rfl, ho1, hb2⟩
         have hbw2 : Below w.heap.size w w2 := Below.trans (by first | exact hbw1 | exact hbw1.drew) (hb2.mono hbw1.size)
         have ho1' : Owns 5 w2 w1.heap.size (.slice A1 8 k1) ni := ho1
         obtain ⟨⟨b0, b1⟩, _⟩ := row2 ((hb2.block w.heap.size hz).trans hrow)
         clear hI)
      | (go_simp; go_at_call 144
         refine (hJ _).mono ?_
         rintro e w3 ⟨A2, k2, rfl, ho2, hb3⟩
         have hbw3 : Below w.heap.size w w3 := hbw2.trans (hb3.mono hbw2.size)
         have ho12 : Owns 5 w3 w1.heap.size (.slice A1 8 k1) ni := ho1'.keep (fun g hg => hb3.block g (ho1'.lt g hg).2)
         have hl2 := owns_lies ho2
         clear hJ)
      | (refine step_append_bytes _ (by rfl) _ _ 33 (by rfl) 5 i0 Tryz.underlying33 hi0 hz0 hz1 hz2 w.heap.size hbw3.size (.slice A1 8 k1) ni (by rfl) (ho12.rebase fun k hk => Nat.le_trans hbw1.size (ho12.lt k hk).1) A2 8 k2 nt (by rfl) hl2 (by rw [List.length_append]; omega) ?_
         intro va wa hoa hga hqa
         have hbwa : Below w.heap.size w wa := hbw3.grown hga hbw3.size (fun q hq => Nat.le_trans hbw1.size (ho12.lt q hq).1)))
    all_goals
      obtain ⟨Af, cf, rfl, _, _⟩ := lies_of_owns hoa
      rw [hln] at hoa ⊢
      have HO := Lib.hid hoa
      have HB := Lib.hid hbwa
      clear hoa
      go_wp2
      go_ret
      exact ⟨Af, cf, rfl, HO, HB⟩
  | false =>
    rw [if_neg (by simp)]
    clear hI hJ hlI hlJ
    go_enter Tryz.func105, Tryz.ntmps105
    go_wp2_with fail
    refine (hR _).mono ?_
    rintro e w1 ⟨rfl, hb1⟩
    have hbw1 := hb.trans (hb1.mono hb.size)
    clear hR
    go_wp2_with (at_make; refine wpList_make_full _ rfl _ _ 33 rfl w1.heap.size 5 i0 _ 1 Tryz.underlying33 hi0 hz0 hz1 _ _ _ _ 16 rfl rfl rfl rfl (by rw [hz2]; omega) (by unfold maxLen; omega) (Nat.le_refl _) ?_)
    intro w2 ho hg
    have ho1 : Owns 5 w2 w1.heap.size (.slice (some ⟨w1.heap.size, 0, none⟩) 16 16) (List.replicate 16 0) := by
      unfold Owns
      have e : cellsOf (List.replicate 16 0) = (madeCells #[.int .u8 0] 16).toList := by rw [toList_madeCells_one]; simp [cellsOf]
      rw [e, List.length_replicate]
      simpa using ho
    have hb2 := (Below.refl w1.heap.size w1).grown hg (Nat.le_refl _) (fun k e => by cases e)
    clear ho hg
    go_wp2
    go_ret
    exact ⟨_, _, rfl, ho1.rebase fun k hk => Nat.le_trans hbw1.size (ho1.lt k hk).1, hbw1.trans (hb2.mono hbw1.size)⟩

end Go.Proofs.YtmeoooojmhhahaaGreat

namespace Go.Proofs.YtmeoooojmhhahaaGreat
open Go.RowKit
set_option linter.unusedVariables false
set_option linter.unusedSimpArgs false

/-- An index, a term and bytes are taken. -/
structure TakenL where
  i : Int
  t : Int
  d : List UInt8
  s : St
def takenN (s : St) (most : Int) : TakenL :=
  ⟨IntKind.i64.wrap ((numberN s 8).1 : Int), IntKind.i64.wrap ((numberN (numberN s 8).2 8).1 : Int), (textN (numberN (numberN s 8).2 8).2 most).1, (textN (numberN (numberN s 8).2 8).2 most).2⟩

theorem results_tmp3_cell {fn : Func} {a b c p : Tmp} {ty : TypeId} (h : fn.results = #[.tmp a, .tmp b, .tmp c, .cell p ty]) (tmps : Array Value) (P : Program) (w : World) :
    (results fn tmps).run P w =
      ((asAddr (tmps.getD p undef)).run P w).andThen fun q w₁ => ((loadVar ty q).run P w₁).andThen fun v w₂ => .ok (.tuple #[tmps.getD a undef, tmps.getD b undef, tmps.getD c undef, v]) w₂ := by
  simp only [results, h]
  simp [Sem.run_bind, Result.andThen]

theorem res_tmp3_cell {fn : Func} {a b c p : Tmp} (h : fn.results = #[.tmp a, .tmp b, .tmp c, .cell p 171]) (tmps : Array Value) (W : World) (n : Nat) (x y : Value) (fr : Nat × Nat) (h1 : tmps.getD p undef = .pointer (some ⟨n, 0, none⟩))
    (hW : W.heap[n]? = some (.cells #[x, y] 171 fr)) : (results fn tmps).run Tryz.prog W = .ok (.tuple #[tmps.getD a undef, tmps.getD b undef, tmps.getD c undef, .agg #[x, y]]) W := by
  rw [results_tmp3_cell h, h1]
  simp [asAddr, run_loadVar_row W n 171 171 #[x, y] fr _ hW Tryz.underlying171 rfl (by kernel_rfl)]

abbrev inO (A : Option Addr) (cap : Nat) (s : St) : Obj := .cells #[.slice A (left s) cap, .bool s.isNone] 171

/-- Two Ins of a call's own, one behind the other: what stands in them, and that all that was there is as it was. -/
structure Two2 (w W : World) (b : Nat) (C0 C1 : Array Value) : Prop where
  r0 : W.heap[b]? = some (.cells C0 171)
  r1 : W.heap[b + 1]? = some (.cells C1 171)
  below : Below w.heap.size w W
  le : w.heap.size ≤ b

theorem Two2.step {w W w' : World} {b : Nat} {C0 C1 : Array Value} (h : Two2 w W b C0 C1) (hb : Below W.heap.size W w') : Two2 w w' b C0 C1 :=
  ⟨(hb.block _ (hlt h.r0)).trans h.r0, (hb.block _ (hlt h.r1)).trans h.r1, h.below.trans (hb.mono h.below.size), h.le⟩

theorem Two2.store {w W : World} {b : Nat} {u0 u1 : Value} {C1 : Array Value} (h : Two2 w W b #[u0, u1] C1) (x y : Value) : Two2 w ((W.setCell ⟨b, 0, none⟩ x).setCell ⟨b, 1, none⟩ y) b #[x, y] C1 :=
  ⟨two_set _ _ _ _ _ _ _ h.r0, ((Below.heap_setCell _ _ _ _ (by show b + 1 ≠ b; omega)).trans (Below.heap_setCell _ _ _ _ (by show b + 1 ≠ b; omega))).trans h.r1, (h.below.setCell h.le _).setCell h.le _, h.le⟩

set_option maxRecDepth 100000 in
set_option maxHeartbeats 3200000 in
theorem takenR_any (A : Option Addr) (cap : Nat) (s : St) (w : World) (most : Int) (hm : -9223372036854775808 ≤ most ∧ most ≤ 9223372036854775807) (hL : left s ≤ 140737488355328) (h : RLies w A cap s) :
    Calls Tryz.prog 142 #[inv A cap s, .int .i64 most] w fun e w' => ∃ A' cap', e = .returned (.tuple #[.int .i64 (takenN s most).i, .int .i64 (takenN s most).t, .string ⟨(takenN s most).d.toArray⟩, inv A' cap' (takenN s most).s]) ∧ (∀ w0, RLies w0 A cap s → RLies w0 A' cap' (takenN s most).s) ∧ Below w.heap.size w w' := by
  have h2 : Two2 w ((w.alloc (inO A cap s)).alloc (.cells #[.slice none 0 0, .bool false] 171)) w.heap.size #[.slice A (left s) cap, .bool s.isNone] #[.slice none 0 0, .bool false] :=
    ⟨(Below.heap_alloc _ _ _ (by simp)).trans (heap_alloc_new _ _), heap_alloc2_new _ _ _, ((Below.refl _ _).alloc (Nat.le_refl _) _).alloc (by simp) _, Nat.le_refl _⟩
  have hN1 := fun W (hW : Below w.heap.size w W) => numR2_any A cap s W (h.below hW (Nat.le_refl _))
  have hL1 := left_number s 8 hL
  unfold takenN
  generalize numberN s 8 = t1 at *
  obtain ⟨n1, s1⟩ := t1
  dsimp only at *
  have hN2 := fun A1 c1 W (hr : RLies W A1 c1 s1) => numR2_any A1 c1 s1 W hr
  have hL2 := left_number s1 8 hL1
  generalize numberN s1 8 = t2 at *
  obtain ⟨n2, s2⟩ := t2
  dsimp only at *
  have hT := fun A1 c1 W (hr : RLies W A1 c1 s2) => textR2_any A1 c1 s2 W most hm hL2 hr
  generalize textN s2 most = t3 at *
  obtain ⟨d, s3⟩ := t3
  dsimp only at *
  simp only [inv] at *
  clear hL hL1 hL2 hm
  go_enter Tryz.func142, Tryz.ntmps142
  go_wp2_with fail
  refine (hN1 _ h2.below).mono ?_
  rintro e w1 ⟨A1, c1, rfl, hr1, hb1⟩
  have h3 := h2.step hb1
  obtain ⟨⟨a0, a1⟩, ⟨f0, f1⟩⟩ := row2 h3.r0
  clear h2 hb1 hN1
  have h4 := h3.store (.slice A1 (left s1) c1) (.bool s1.isNone)
  have hl4 := hr1 _ (h.below h4.below (Nat.le_refl _))
  go_wp2_with fail
  refine (hN2 A1 c1 _ hl4).mono ?_
  rintro e w2 ⟨A2, c2, rfl, hr2, hb2⟩
  have h5 := h4.step hb2
  obtain ⟨⟨a2, a3⟩, ⟨f2, f3⟩⟩ := row2 h5.r0
  clear h3 h4 hb2 hN2 a0 a1 f0 f1 hl4
  have h6 := h5.store (.slice A2 (left s2) c2) (.bool s2.isNone)
  have hl6 := hr2 _ (hr1 _ (h.below h6.below (Nat.le_refl _)))
  go_wp2_with fail
  refine (hT A2 c2 _ hl6).mono ?_
  rintro e w3 ⟨A3, c3, rfl, hr3, hb3⟩
  have h7 := h6.step hb3
  obtain ⟨⟨a4, a5⟩, ⟨f4, f5⟩⟩ := row2 h7.r0
  clear h5 h6 hb3 hT a2 a3 f2 f3 hl6
  have h8 := h7.store (.slice A3 (left s3) c3) (.bool s3.isNone)
  obtain ⟨⟨a6, a7⟩, ⟨f6, f7⟩⟩ := row2 h8.r0
  obtain ⟨⟨a8, a9⟩, ⟨f8, f9⟩⟩ := row2 h8.r1
  go_wp2
  go_region
  all_goals
    go_wp2
    refine bodyPost_ret (res_tmp3_cell rfl _ _ (w.heap.size + 1) _ _ _ rfl (two_set _ _ _ _ _ _ _ h8.r1)) rfl ?_
    exact ⟨A3, c3, by rw [IntWalk.i64_left, IntWalk.i64_left]; rfl, fun w0 h0 => hr3 _ (hr2 _ (hr1 _ h0)), ((h8.below.setCell (by simp) _).setCell (by simp) _).drew⟩

end Go.Proofs.YtmeoooojmhhahaaGreat

namespace Go.Proofs.YtmeoooojmhhahaaGreat
open Go.RowKit
set_option linter.unusedVariables false
set_option linter.unusedSimpArgs false

theorem results_cell2 {fn : Func} {p q : Tmp} {T U : TypeId} (h : fn.results = #[.cell p T, .cell q U]) (tmps : Array Value) (P : Program) (w : World) :
    (results fn tmps).run P w =
      ((asAddr (tmps.getD p undef)).run P w).andThen fun a w₁ => ((loadVar T a).run P w₁).andThen fun v w₂ => ((asAddr (tmps.getD q undef)).run P w₂).andThen fun b w₃ => ((loadVar U b).run P w₃).andThen fun u w₄ => .ok (.tuple #[v, u]) w₄ := by
  simp only [results, h]
  simp [Sem.run_bind, Result.andThen]

theorem res_cell2 {P : Program} {fn : Func} {p q : Tmp} {T U : TypeId} (h : fn.results = #[.cell p T, .cell q U]) (tmps : Array Value) (W : World) (n m : Nat) (cs ds : Array Value) (fr gr : Nat × Nat) (d1 d2 : TypeDesc) (h1 : tmps.getD p undef = .pointer (some ⟨n, 0, none⟩)) (h2 : tmps.getD q undef = .pointer (some ⟨m, 0, none⟩))
    (hW : W.heap[n]? = some (.cells cs T fr)) (hV : W.heap[m]? = some (.cells ds U gr)) (hu : P.underlying T = some d1) (hv : P.underlying U = some d2)
    (hd1 : (match d1 with | .struct _ | .array _ _ => true | _ => false) = true) (hd2 : (match d2 with | .struct _ | .array _ _ => true | _ => false) = true) (hi : (P.info? T).map (·.size) = some cs.size) (hj : (P.info? U).map (·.size) = some ds.size) :
    (results fn tmps).run P W = .ok (.tuple #[.agg cs, .agg ds]) W := by
  rw [results_cell2 h, h1, h2]
  simp [asAddr, run_loadVar_row W n T T cs fr d1 hW hu hd1 hi, run_loadVar_row W m U U ds gr d2 hV hv hd2 hj]

/-- What a From answers. -/
structure FromL where
  i : Int
  t : Int
  d : List UInt8
  s : St
def fromN (ok : Int → Int → Nat → Bool) (s : St) (most : Int) : FromL :=
  if (takenN s most).s = none then ⟨0, 0, [], none⟩ else
  if ok (takenN s most).i (takenN s most).t (takenN s most).d.length = true then ⟨(takenN s most).i, (takenN s most).t, (takenN s most).d, (takenN s most).s⟩ else ⟨0, 0, [], none⟩

/-- Three blocks of a call's own. -/
structure Three3 (T : TypeId) (w W : World) (b : Nat) (C0 C1 C2 : Array Value) : Prop where
  r0 : W.heap[b]? = some (.cells C0 171)
  r1 : W.heap[b + 1]? = some (.cells C1 T)
  r2 : W.heap[b + 1 + 1]? = some (.cells C2 171)
  below : Below w.heap.size w W
  le : w.heap.size ≤ b

theorem Three3.step {T : TypeId} {w W w' : World} {b : Nat} {C0 C1 C2 : Array Value} (h : Three3 T w W b C0 C1 C2) (hb : Below W.heap.size W w') : Three3 T w w' b C0 C1 C2 :=
  ⟨(hb.block _ (hlt h.r0)).trans h.r0, (hb.block _ (hlt h.r1)).trans h.r1, (hb.block _ (hlt h.r2)).trans h.r2, h.below.trans (hb.mono h.below.size), h.le⟩

theorem Three3.store {T : TypeId} {w W : World} {b : Nat} {u0 u1 : Value} {C1 C2 : Array Value} (h : Three3 T w W b #[u0, u1] C1 C2) (x y : Value) : Three3 T w ((W.setCell ⟨b, 0, none⟩ x).setCell ⟨b, 1, none⟩ y) b #[x, y] C1 C2 :=
  ⟨two_set _ _ _ _ _ _ _ h.r0, ((Below.heap_setCell _ _ _ _ (by show b + 1 ≠ b; omega)).trans (Below.heap_setCell _ _ _ _ (by show b + 1 ≠ b; omega))).trans h.r1, ((Below.heap_setCell _ _ _ _ (by show b + 1 + 1 ≠ b; omega)).trans (Below.heap_setCell _ _ _ _ (by show b + 1 + 1 ≠ b; omega))).trans h.r2, (h.below.setCell h.le _).setCell h.le _, h.le⟩

/-- The answer stored. -/
theorem Three3.fin {T : TypeId} {w W : World} {b : Nat} {x0 x1 x2 y0 y1 : Value} {C0 : Array Value} (h : Three3 T w W b C0 #[x0, x1, x2] #[y0, y1]) (a0 a1 a2 c0 c1 : Value) :
    Three3 T w (((((W.setCell ⟨b + 1, 0, none⟩ a0).setCell ⟨b + 1, 1, none⟩ a1).setCell ⟨b + 1, 2, none⟩ a2).setCell ⟨b + 1 + 1, 0, none⟩ c0).setCell ⟨b + 1 + 1, 1, none⟩ c1) b C0 #[a0, a1, a2] #[c0, c1] := by
  have e1 := set3_at W (b + 1) a0 a1 a2 x0 x1 x2 T h.r1
  have hle := h.le
  refine ⟨?_, ?_, ?_, ?_, h.le⟩
  · exact (Below.heap_setCell _ _ _ _ (by show b ≠ b + 1 + 1; omega)).trans ((Below.heap_setCell _ _ _ _ (by show b ≠ b + 1 + 1; omega)).trans ((Below.heap_setCell _ _ _ _ (by show b ≠ b + 1; omega)).trans ((Below.heap_setCell _ _ _ _ (by show b ≠ b + 1; omega)).trans ((Below.heap_setCell _ _ _ _ (by show b ≠ b + 1; omega)).trans h.r0))))
  · exact (Below.heap_setCell _ _ _ _ (by show b + 1 ≠ b + 1 + 1; omega)).trans ((Below.heap_setCell _ _ _ _ (by show b + 1 ≠ b + 1 + 1; omega)).trans e1)
  · exact two_set _ _ _ _ _ _ _ ((Below.heap_setCell _ _ _ _ (by show b + 1 + 1 ≠ b + 1; omega)).trans ((Below.heap_setCell _ _ _ _ (by show b + 1 + 1 ≠ b + 1; omega)).trans ((Below.heap_setCell _ _ _ _ (by show b + 1 + 1 ≠ b + 1; omega)).trans h.r2)))
  · exact ((((h.below.setCell (by show _ ≤ b + 1; omega) _).setCell (by show _ ≤ b + 1; omega) _).setCell (by show _ ≤ b + 1; omega) _).setCell (by show _ ≤ b + 1 + 1; omega) _).setCell (by show _ ≤ b + 1 + 1; omega) _

theorem heap_fin5 {W : World} {b g : Nat} (hg : b + 1 + 1 < g) (a0 a1 a2 c0 c1 : Value) :
    (((((W.setCell ⟨b + 1, 0, none⟩ a0).setCell ⟨b + 1, 1, none⟩ a1).setCell ⟨b + 1, 2, none⟩ a2).setCell ⟨b + 1 + 1, 0, none⟩ c0).setCell ⟨b + 1 + 1, 1, none⟩ c1).heap[g]? = W.heap[g]? :=
  (Below.heap_setCell _ _ _ _ (by show g ≠ b + 1 + 1; omega)).trans ((Below.heap_setCell _ _ _ _ (by show g ≠ b + 1 + 1; omega)).trans ((Below.heap_setCell _ _ _ _ (by show g ≠ b + 1; omega)).trans ((Below.heap_setCell _ _ _ _ (by show g ≠ b + 1; omega)).trans (Below.heap_setCell _ _ _ _ (by show g ≠ b + 1; omega)))))

theorem Lies.at_heap {W W' : World} {g n c : Nat} {d : List UInt8} (h : Lies W (some ⟨g, 0, none⟩) n c d) (hs : W'.heap.size = W.heap.size) (hh : W'.heap[g]? = W.heap[g]?) : Lies W' (some ⟨g, 0, none⟩) n c d :=
  h.keep (Nat.le_of_eq hs.symm) fun h0 q off e hq => by
    injection e with e
    injection e with e
    subst e
    exact hh

theorem Lies.fin5 {W : World} {b g n c : Nat} {d : List UInt8} (h : Lies W (some ⟨g, 0, none⟩) n c d) (hg : b + 1 + 1 < g) (a0 a1 a2 c0 c1 : Value) :
    Lies (((((W.setCell ⟨b + 1, 0, none⟩ a0).setCell ⟨b + 1, 1, none⟩ a1).setCell ⟨b + 1, 2, none⟩ a2).setCell ⟨b + 1 + 1, 0, none⟩ c0).setCell ⟨b + 1 + 1, 1, none⟩ c1) (some ⟨g, 0, none⟩) n c d :=
  h.at_heap (by simp) (heap_fin5 hg _ _ _ _ _)

set_option maxRecDepth 100000 in
set_option maxHeartbeats 3200000 in
theorem fromR_any (A : Option Addr) (cap : Nat) (s : St) (w : World) (hL : left s ≤ 140737488355328) (h : RLies w A cap s) :
    Calls Tryz.prog 100 #[inv A cap s] w fun e w' => ∃ D n c A' cap', e = .returned (.tuple #[entV (fromN rightB s 12000).i (fromN rightB s 12000).t D n c, inv A' cap' (fromN rightB s 12000).s]) ∧ Lies w' D n c (fromN rightB s 12000).d ∧ (0 < n → ∀ g off, D = some ⟨g, off, none⟩ → w.heap.size ≤ g) ∧ (∀ w0, RLies w0 A cap s → RLies w0 A' cap' (fromN rightB s 12000).s) ∧ Below w.heap.size w w' := by
  have h2 : Three3 69 w (((w.alloc (.cells #[.slice A (left s) cap, .bool s.isNone] 171)).alloc (.cells #[.int .i64 0, .int .i64 0, .slice none 0 0] 69)).alloc (.cells #[.slice none 0 0, .bool false] 171)) w.heap.size #[.slice A (left s) cap, .bool s.isNone] #[.int .i64 0, .int .i64 0, .slice none 0 0] #[.slice none 0 0, .bool false] :=
    ⟨(Below.heap_alloc _ _ _ (by simp; omega)).trans ((Below.heap_alloc _ _ _ (by simp)).trans (heap_alloc_new _ _)), (Below.heap_alloc _ _ _ (by simp)).trans (heap_alloc2_new _ _ _), by
      have := heap_alloc_new ((w.alloc (.cells #[.slice A (left s) cap, .bool s.isNone] 171)).alloc (.cells #[.int .i64 0, .int .i64 0, .slice none 0 0] 69)) (.cells #[.slice none 0 0, .bool false] 171)
      rwa [World.size_alloc, World.size_alloc] at this, (((Below.refl _ _).alloc (Nat.le_refl _) _).alloc (by simp) _).alloc (by simp; omega) _, Nat.le_refl _⟩
  have hT := fun W (hW : Below w.heap.size w W) => takenR_any A cap s W 12000 (by omega) hL (h.below hW (Nat.le_refl _))
  unfold fromN
  generalize takenN s 12000 = T at *
  obtain ⟨ti, tt, td, ts⟩ := T
  dsimp only at *
  obtain ⟨R, hR⟩ : ∃ R : FromL, R = if ts = none then ⟨0, 0, [], none⟩ else if rightB ti tt td.length = true then ⟨ti, tt, td, ts⟩ else ⟨0, 0, [], none⟩ := ⟨_, rfl⟩
  rw [← hR]
  simp only [inv] at *
  clear hL
  have HH := Lib.hid h
  have hleft : ∀ W, Below w.heap.size w W → RLies W A cap s := fun W hW => h.below hW (Nat.le_refl _)
  clear h
  generalize left s = nS at *
  generalize s.isNone = bS at *
  go_enter Tryz.func100, Tryz.ntmps100
  go_wp2_with fail
  refine (hT _ h2.below).mono ?_
  rintro e w1 ⟨A1, c1, rfl, hr1, hb1⟩
  have h3 := h2.step hb1
  have z9 := hlt h3.r2
  obtain ⟨⟨a0, a1⟩, ⟨f0, f1⟩⟩ := row2 h3.r0
  clear h2 hb1 hT
  have h4 := h3.store (.slice A1 (left ts) c1) (.bool ts.isNone)
  obtain ⟨c4, W4, hcv, hl4, hb4, hs4⟩ := conv_bytes ((w1.setCell ⟨w.heap.size, 0, none⟩ (.slice A1 (left ts) c1)).setCell ⟨w.heap.size, 1, none⟩ (.bool ts.isNone)) ⟨td.toArray⟩
  have h5 := h4.step hb4
  have hz4 : (⟨td.toArray⟩ : ByteArray).size = td.length := rfl
  have hd4 : (⟨td.toArray⟩ : ByteArray).data.toList = td := rfl
  rw [hz4] at hcv hl4
  have hsz : ((w1.setCell ⟨w.heap.size, 0, none⟩ (.slice A1 (left ts) c1)).setCell ⟨w.heap.size, 1, none⟩ (.bool ts.isNone)).heap.size = w1.heap.size := by simp
  rw [hsz] at hl4
  clear hsz
  rw [hd4] at hl4
  obtain ⟨⟨b0, b1⟩, ⟨g0, g1⟩⟩ := row2 h5.r0
  obtain ⟨⟨b2, b3, b4⟩, ⟨g2, g3, g4⟩⟩ := row3 h5.r1
  obtain ⟨⟨b5, b6⟩, ⟨g5, g6⟩⟩ := row2 h5.r2
  have z0 := hlt h5.r0
  have z1 := hlt h5.r1
  have z2 := hlt h5.r2
  cases ts with
  | none =>
    rw [if_pos rfl] at hR
    have HR := Lib.hid hR
    clear hR
    simp only [left, Option.isNone] at *
    have hA4 : Below W4.heap.size W4 (W4.alloc (.cells #[.int .i64 ti, .int .i64 tt, .slice (some ⟨w1.heap.size, 0, none⟩) td.length c4] 69)) := (Below.refl W4.heap.size W4).alloc (Nat.le_refl _) _
    have h7 := (h5.fin (.int .i64 0) (.int .i64 0) (.slice none 0 0) (.slice none 0 0) (.bool true)).step ((Below.refl _ _).alloc (Nat.le_refl _) (.cells #[.int .i64 ti, .int .i64 tt, .slice (some ⟨w1.heap.size, 0, none⟩) td.length c4] 69))
    go_wp2
    refine bodyPost_ret (res_cell2 rfl _ _ (w.heap.size + 1) (w.heap.size + 1 + 1) _ _ _ _ _ _ rfl rfl h7.r1 h7.r2 Tryz.underlying69 Tryz.underlying171 rfl rfl (by kernel_rfl) (by kernel_rfl)) rfl ?_
    have e : R = _ := HR
    rw [e]
    exact ⟨none, 0, 0, none, 0, rfl, Lies.nil _, fun h0 => absurd h0 (by omega), fun w0 _ => RLies.bad w0, h7.below⟩
  | some sl =>
    rw [if_neg (by simp)] at hR
    have hRt := fun W => rightR_is ti tt (some ⟨w1.heap.size, 0, none⟩) td.length c4 W
    have h8 := h5.step ((Below.refl W4.heap.size W4).alloc (Nat.le_refl _) (.cells #[.int .i64 ti, .int .i64 tt, .slice (some ⟨w1.heap.size, 0, none⟩) td.length c4] 69))
    have hr8 := heap_alloc_new W4 (.cells #[.int .i64 ti, .int .i64 tt, .slice (some ⟨w1.heap.size, 0, none⟩) td.length c4] 69)
    have hl8 := hl4.below ((Below.refl W4.heap.size W4).alloc (Nat.le_refl _) (.cells #[.int .i64 ti, .int .i64 tt, .slice (some ⟨w1.heap.size, 0, none⟩) td.length c4] 69)) (Nat.le_refl _)
    have z8 : W4.heap.size < (W4.alloc (.cells #[.int .i64 ti, .int .i64 tt, .slice (some ⟨w1.heap.size, 0, none⟩) td.length c4] 69)).heap.size := by simp
    generalize rightB ti tt td.length = b at *
    cases b with
    | false =>
      rw [if_neg (by simp)] at hR
      have HR := Lib.hid hR
      clear hR
      simp only [Option.isNone] at *
      go_wp2_with fail
      refine (hRt _).mono ?_
      rintro e w6 ⟨rfl, hb6⟩
      have h9 := h8.step hb6
      obtain ⟨⟨d0, d1⟩, ⟨e0, e1⟩⟩ := row2 h9.r0
      obtain ⟨⟨d2, d3, d4⟩, ⟨e2, e3, e4⟩⟩ := row3 h9.r1
      obtain ⟨⟨d5, d6⟩, ⟨e5, e6⟩⟩ := row2 h9.r2
      have h7 := h9.fin (.int .i64 0) (.int .i64 0) (.slice none 0 0) (.slice none 0 0) (.bool true)
      clear hRt hcv
      go_wp2
      refine bodyPost_ret (res_cell2 rfl _ _ (w.heap.size + 1) (w.heap.size + 1 + 1) _ _ _ _ _ _ rfl rfl h7.r1 h7.r2 Tryz.underlying69 Tryz.underlying171 rfl rfl (by kernel_rfl) (by kernel_rfl)) rfl ?_
      have e : R = _ := HR
      rw [e]
      exact ⟨none, 0, 0, none, 0, rfl, Lies.nil _, fun h0 => absurd h0 (by omega), fun w0 _ => RLies.bad w0, h7.below⟩
    | true =>
      rw [if_pos rfl] at hR
      have HR := Lib.hid hR
      clear hR
      simp only [Option.isNone] at *
      go_wp2_with fail
      refine (hRt _).mono ?_
      rintro e w6 ⟨rfl, hb6⟩
      have h9 := h8.step hb6
      obtain ⟨⟨d0, d1⟩, ⟨e0, e1⟩⟩ := row2 h9.r0
      obtain ⟨⟨d2, d3, d4⟩, ⟨e2, e3, e4⟩⟩ := row3 h9.r1
      obtain ⟨⟨d5, d6⟩, ⟨e5, e6⟩⟩ := row2 h9.r2
      obtain ⟨⟨d7, d8, d9⟩, _⟩ := row3 ((hb6.block _ z8).trans hr8)
      have hl9 := hl8.below hb6 (Nat.le_refl _)
      have h7 := h9.fin (.int .i64 ti) (.int .i64 tt) (.slice (some ⟨w1.heap.size, 0, none⟩) td.length c4) (.slice A1 (left (some sl)) c1) (.bool false)
      clear hRt hcv
      go_wp2
      go_region
      all_goals
        go_wp2
        refine bodyPost_ret (res_cell2 rfl _ _ (w.heap.size + 1) (w.heap.size + 1 + 1) _ _ _ _ _ _ rfl rfl h7.r1 h7.r2 Tryz.underlying69 Tryz.underlying171 rfl rfl (by kernel_rfl) (by kernel_rfl)) rfl ?_
        have e : R = _ := HR
        rw [e]
        exact ⟨some ⟨w1.heap.size, 0, none⟩, td.length, c4, A1, c1, rfl, (hl9.fin5 z9 _ _ _ _ _).drew, fun _ g off eg => by injection eg with eg; injection eg with eg; subst eg; omega, fun w0 h0 => hr1 w0 h0, h7.below.drew⟩

end Go.Proofs.YtmeoooojmhhahaaGreat

namespace Go.Proofs.YtmeoooojmhhahaaGreat
open Go.RowKit
set_option linter.unusedVariables false
set_option linter.unusedSimpArgs false

set_option maxRecDepth 100000 in
set_option maxHeartbeats 3200000 in
theorem snapFromR_any (A : Option Addr) (cap : Nat) (s : St) (w : World) (hL : left s ≤ 140737488355328) (h : RLies w A cap s) :
    Calls Tryz.prog 96 #[inv A cap s] w fun e w' => ∃ D n c A' cap', e = .returned (.tuple #[entV (fromN snapB s 50000).i (fromN snapB s 50000).t D n c, inv A' cap' (fromN snapB s 50000).s]) ∧ Lies w' D n c (fromN snapB s 50000).d ∧ (0 < n → ∀ g off, D = some ⟨g, off, none⟩ → w.heap.size ≤ g) ∧ (∀ w0, RLies w0 A cap s → RLies w0 A' cap' (fromN snapB s 50000).s) ∧ Below w.heap.size w w' := by
  have h2 : Three3 35 w (((w.alloc (.cells #[.slice A (left s) cap, .bool s.isNone] 171)).alloc (.cells #[.int .i64 0, .int .i64 0, .slice none 0 0] 35)).alloc (.cells #[.slice none 0 0, .bool false] 171)) w.heap.size #[.slice A (left s) cap, .bool s.isNone] #[.int .i64 0, .int .i64 0, .slice none 0 0] #[.slice none 0 0, .bool false] :=
    ⟨(Below.heap_alloc _ _ _ (by simp; omega)).trans ((Below.heap_alloc _ _ _ (by simp)).trans (heap_alloc_new _ _)), (Below.heap_alloc _ _ _ (by simp)).trans (heap_alloc2_new _ _ _), by
      have := heap_alloc_new ((w.alloc (.cells #[.slice A (left s) cap, .bool s.isNone] 171)).alloc (.cells #[.int .i64 0, .int .i64 0, .slice none 0 0] 35)) (.cells #[.slice none 0 0, .bool false] 171)
      rwa [World.size_alloc, World.size_alloc] at this, (((Below.refl _ _).alloc (Nat.le_refl _) _).alloc (by simp) _).alloc (by simp; omega) _, Nat.le_refl _⟩
  have hT := fun W (hW : Below w.heap.size w W) => takenR_any A cap s W 50000 (by omega) hL (h.below hW (Nat.le_refl _))
  unfold fromN
  generalize takenN s 50000 = T at *
  obtain ⟨ti, tt, td, ts⟩ := T
  dsimp only at *
  obtain ⟨R, hR⟩ : ∃ R : FromL, R = if ts = none then ⟨0, 0, [], none⟩ else if snapB ti tt td.length = true then ⟨ti, tt, td, ts⟩ else ⟨0, 0, [], none⟩ := ⟨_, rfl⟩
  rw [← hR]
  simp only [inv] at *
  clear hL
  have HH := Lib.hid h
  have hleft : ∀ W, Below w.heap.size w W → RLies W A cap s := fun W hW => h.below hW (Nat.le_refl _)
  clear h
  generalize left s = nS at *
  generalize s.isNone = bS at *
  go_enter Tryz.func96, Tryz.ntmps96
  go_wp2_with fail
  refine (hT _ h2.below).mono ?_
  rintro e w1 ⟨A1, c1, rfl, hr1, hb1⟩
  have h3 := h2.step hb1
  have z9 := hlt h3.r2
  obtain ⟨⟨a0, a1⟩, ⟨f0, f1⟩⟩ := row2 h3.r0
  clear h2 hb1 hT
  have h4 := h3.store (.slice A1 (left ts) c1) (.bool ts.isNone)
  obtain ⟨c4, W4, hcv, hl4, hb4, hs4⟩ := conv_bytes ((w1.setCell ⟨w.heap.size, 0, none⟩ (.slice A1 (left ts) c1)).setCell ⟨w.heap.size, 1, none⟩ (.bool ts.isNone)) ⟨td.toArray⟩
  have h5 := h4.step hb4
  have hz4 : (⟨td.toArray⟩ : ByteArray).size = td.length := rfl
  have hd4 : (⟨td.toArray⟩ : ByteArray).data.toList = td := rfl
  rw [hz4] at hcv hl4
  have hsz : ((w1.setCell ⟨w.heap.size, 0, none⟩ (.slice A1 (left ts) c1)).setCell ⟨w.heap.size, 1, none⟩ (.bool ts.isNone)).heap.size = w1.heap.size := by simp
  rw [hsz] at hl4
  clear hsz
  rw [hd4] at hl4
  obtain ⟨⟨b0, b1⟩, ⟨g0, g1⟩⟩ := row2 h5.r0
  obtain ⟨⟨b2, b3, b4⟩, ⟨g2, g3, g4⟩⟩ := row3 h5.r1
  obtain ⟨⟨b5, b6⟩, ⟨g5, g6⟩⟩ := row2 h5.r2
  have z0 := hlt h5.r0
  have z1 := hlt h5.r1
  have z2 := hlt h5.r2
  cases ts with
  | none =>
    rw [if_pos rfl] at hR
    have HR := Lib.hid hR
    clear hR
    simp only [left, Option.isNone] at *
    have hA4 : Below W4.heap.size W4 (W4.alloc (.cells #[.int .i64 ti, .int .i64 tt, .slice (some ⟨w1.heap.size, 0, none⟩) td.length c4] 35)) := (Below.refl W4.heap.size W4).alloc (Nat.le_refl _) _
    have h7 := (h5.fin (.int .i64 0) (.int .i64 0) (.slice none 0 0) (.slice none 0 0) (.bool true)).step ((Below.refl _ _).alloc (Nat.le_refl _) (.cells #[.int .i64 ti, .int .i64 tt, .slice (some ⟨w1.heap.size, 0, none⟩) td.length c4] 35))
    go_wp2
    refine bodyPost_ret (res_cell2 rfl _ _ (w.heap.size + 1) (w.heap.size + 1 + 1) _ _ _ _ _ _ rfl rfl h7.r1 h7.r2 Tryz.underlying35 Tryz.underlying171 rfl rfl (by kernel_rfl) (by kernel_rfl)) rfl ?_
    have e : R = _ := HR
    rw [e]
    exact ⟨none, 0, 0, none, 0, rfl, Lies.nil _, fun h0 => absurd h0 (by omega), fun w0 _ => RLies.bad w0, h7.below⟩
  | some sl =>
    rw [if_neg (by simp)] at hR
    have hRt := fun W => snapR_is ti tt (some ⟨w1.heap.size, 0, none⟩) td.length c4 W
    have h8 := h5.step ((Below.refl W4.heap.size W4).alloc (Nat.le_refl _) (.cells #[.int .i64 ti, .int .i64 tt, .slice (some ⟨w1.heap.size, 0, none⟩) td.length c4] 35))
    have hr8 := heap_alloc_new W4 (.cells #[.int .i64 ti, .int .i64 tt, .slice (some ⟨w1.heap.size, 0, none⟩) td.length c4] 35)
    have hl8 := hl4.below ((Below.refl W4.heap.size W4).alloc (Nat.le_refl _) (.cells #[.int .i64 ti, .int .i64 tt, .slice (some ⟨w1.heap.size, 0, none⟩) td.length c4] 35)) (Nat.le_refl _)
    have z8 : W4.heap.size < (W4.alloc (.cells #[.int .i64 ti, .int .i64 tt, .slice (some ⟨w1.heap.size, 0, none⟩) td.length c4] 35)).heap.size := by simp
    generalize snapB ti tt td.length = b at *
    cases b with
    | false =>
      rw [if_neg (by simp)] at hR
      have HR := Lib.hid hR
      clear hR
      simp only [Option.isNone] at *
      go_wp2_with fail
      refine (hRt _).mono ?_
      rintro e w6 ⟨rfl, hb6⟩
      have h9 := h8.step hb6
      obtain ⟨⟨d0, d1⟩, ⟨e0, e1⟩⟩ := row2 h9.r0
      obtain ⟨⟨d2, d3, d4⟩, ⟨e2, e3, e4⟩⟩ := row3 h9.r1
      obtain ⟨⟨d5, d6⟩, ⟨e5, e6⟩⟩ := row2 h9.r2
      have h7 := h9.fin (.int .i64 0) (.int .i64 0) (.slice none 0 0) (.slice none 0 0) (.bool true)
      clear hRt hcv
      go_wp2
      refine bodyPost_ret (res_cell2 rfl _ _ (w.heap.size + 1) (w.heap.size + 1 + 1) _ _ _ _ _ _ rfl rfl h7.r1 h7.r2 Tryz.underlying35 Tryz.underlying171 rfl rfl (by kernel_rfl) (by kernel_rfl)) rfl ?_
      have e : R = _ := HR
      rw [e]
      exact ⟨none, 0, 0, none, 0, rfl, Lies.nil _, fun h0 => absurd h0 (by omega), fun w0 _ => RLies.bad w0, h7.below⟩
    | true =>
      rw [if_pos rfl] at hR
      have HR := Lib.hid hR
      clear hR
      simp only [Option.isNone] at *
      go_wp2_with fail
      refine (hRt _).mono ?_
      rintro e w6 ⟨rfl, hb6⟩
      have h9 := h8.step hb6
      obtain ⟨⟨d0, d1⟩, ⟨e0, e1⟩⟩ := row2 h9.r0
      obtain ⟨⟨d2, d3, d4⟩, ⟨e2, e3, e4⟩⟩ := row3 h9.r1
      obtain ⟨⟨d5, d6⟩, ⟨e5, e6⟩⟩ := row2 h9.r2
      obtain ⟨⟨d7, d8, d9⟩, _⟩ := row3 ((hb6.block _ z8).trans hr8)
      have hl9 := hl8.below hb6 (Nat.le_refl _)
      have h7 := h9.fin (.int .i64 ti) (.int .i64 tt) (.slice (some ⟨w1.heap.size, 0, none⟩) td.length c4) (.slice A1 (left (some sl)) c1) (.bool false)
      clear hRt hcv
      go_wp2
      go_region
      all_goals
        go_wp2
        refine bodyPost_ret (res_cell2 rfl _ _ (w.heap.size + 1) (w.heap.size + 1 + 1) _ _ _ _ _ _ rfl rfl h7.r1 h7.r2 Tryz.underlying35 Tryz.underlying171 rfl rfl (by kernel_rfl) (by kernel_rfl)) rfl ?_
        have e : R = _ := HR
        rw [e]
        exact ⟨some ⟨w1.heap.size, 0, none⟩, td.length, c4, A1, c1, rfl, (hl9.fin5 z9 _ _ _ _ _).drew, fun _ g off eg => by injection eg with eg; injection eg with eg; subst eg; omega, fun w0 h0 => hr1 w0 h0, h7.below.drew⟩

end Go.Proofs.YtmeoooojmhhahaaGreat

namespace Go.Proofs.YtmeoooojmhhahaaGreat
open Go.RowKit
set_option linter.unusedVariables false
set_option linter.unusedSimpArgs false

/-- What a HardFrom answers. -/
structure HardL where
  t : Int
  v : Int
  s : St
def hardFromN (s : St) : HardL :=
  if (numberN (numberN s 8).2 8).2 = none then ⟨0, 0, none⟩ else
  if hardB (IntKind.i64.wrap ((numberN s 8).1 : Int)) (IntKind.i64.wrap ((numberN (numberN s 8).2 8).1 : Int)) = true then ⟨IntKind.i64.wrap ((numberN s 8).1 : Int), IntKind.i64.wrap ((numberN (numberN s 8).2 8).1 : Int), (numberN (numberN s 8).2 8).2⟩ else ⟨0, 0, none⟩

/-- The answer stored. -/
theorem Three3.fin2 {T : TypeId} {w W : World} {b : Nat} {x0 x1 y0 y1 : Value} {C0 : Array Value} (h : Three3 T w W b C0 #[x0, x1] #[y0, y1]) (a0 a1 c0 c1 : Value) :
    Three3 T w ((((W.setCell ⟨b + 1, 0, none⟩ a0).setCell ⟨b + 1, 1, none⟩ a1).setCell ⟨b + 1 + 1, 0, none⟩ c0).setCell ⟨b + 1 + 1, 1, none⟩ c1) b C0 #[a0, a1] #[c0, c1] := by
  have e1 := set2_at W (b + 1) a0 a1 x0 x1 T h.r1
  have hle := h.le
  refine ⟨?_, ?_, ?_, ?_, h.le⟩
  · exact (Below.heap_setCell _ _ _ _ (by show b ≠ b + 1 + 1; omega)).trans ((Below.heap_setCell _ _ _ _ (by show b ≠ b + 1 + 1; omega)).trans ((Below.heap_setCell _ _ _ _ (by show b ≠ b + 1; omega)).trans ((Below.heap_setCell _ _ _ _ (by show b ≠ b + 1; omega)).trans h.r0)))
  · exact (Below.heap_setCell _ _ _ _ (by show b + 1 ≠ b + 1 + 1; omega)).trans ((Below.heap_setCell _ _ _ _ (by show b + 1 ≠ b + 1 + 1; omega)).trans e1)
  · exact two_set _ _ _ _ _ _ _ ((Below.heap_setCell _ _ _ _ (by show b + 1 + 1 ≠ b + 1; omega)).trans ((Below.heap_setCell _ _ _ _ (by show b + 1 + 1 ≠ b + 1; omega)).trans h.r2))
  · exact (((h.below.setCell (by show _ ≤ b + 1; omega) _).setCell (by show _ ≤ b + 1; omega) _).setCell (by show _ ≤ b + 1 + 1; omega) _).setCell (by show _ ≤ b + 1 + 1; omega) _

set_option maxRecDepth 100000 in
set_option maxHeartbeats 3200000 in
theorem hardFromR_any (A : Option Addr) (cap : Nat) (s : St) (w : World) (h : RLies w A cap s) :
    Calls Tryz.prog 99 #[inv A cap s] w fun e w' => ∃ A' cap', e = .returned (.tuple #[.agg #[.int .i64 (hardFromN s).t, .int .i64 (hardFromN s).v], inv A' cap' (hardFromN s).s]) ∧ (∀ w0, RLies w0 A cap s → RLies w0 A' cap' (hardFromN s).s) ∧ Below w.heap.size w w' := by
  have h2 : Three3 32 w (((w.alloc (.cells #[.slice A (left s) cap, .bool s.isNone] 171)).alloc (.cells #[.int .i64 0, .int .i64 0] 32)).alloc (.cells #[.slice none 0 0, .bool false] 171)) w.heap.size #[.slice A (left s) cap, .bool s.isNone] #[.int .i64 0, .int .i64 0] #[.slice none 0 0, .bool false] :=
    ⟨(Below.heap_alloc _ _ _ (by simp; omega)).trans ((Below.heap_alloc _ _ _ (by simp)).trans (heap_alloc_new _ _)), (Below.heap_alloc _ _ _ (by simp)).trans (heap_alloc2_new _ _ _), by
      have := heap_alloc_new ((w.alloc (.cells #[.slice A (left s) cap, .bool s.isNone] 171)).alloc (.cells #[.int .i64 0, .int .i64 0] 32)) (.cells #[.slice none 0 0, .bool false] 171)
      rwa [World.size_alloc, World.size_alloc] at this, (((Below.refl _ _).alloc (Nat.le_refl _) _).alloc (by simp) _).alloc (by simp; omega) _, Nat.le_refl _⟩
  have hN1 := fun W (hW : Below w.heap.size w W) => numR2_any A cap s W (h.below hW (Nat.le_refl _))
  have hlow : ∀ W, Below w.heap.size w W → RLies W A cap s := fun W hW => h.below hW (Nat.le_refl _)
  unfold hardFromN
  generalize numberN s 8 = t1 at *
  obtain ⟨n1, s1⟩ := t1
  dsimp only at *
  have hN2 := fun A1 c1 W (hr : RLies W A1 c1 s1) => numR2_any A1 c1 s1 W hr
  generalize numberN s1 8 = t2 at *
  obtain ⟨n2, s2⟩ := t2
  dsimp only at *
  simp only [inv] at *
  rw [IntWalk.i64_left, IntWalk.i64_left] at *
  obtain ⟨R, hR⟩ : ∃ R : HardL, R = if s2 = none then ⟨0, 0, none⟩ else if hardB (wrap64 (n1 : Int)) (wrap64 (n2 : Int)) = true then ⟨wrap64 (n1 : Int), wrap64 (n2 : Int), s2⟩ else ⟨0, 0, none⟩ := ⟨_, rfl⟩
  rw [← hR]
  generalize wrap64 (n1 : Int) = z1 at *
  generalize wrap64 (n2 : Int) = z2 at *
  clear h
  generalize left s = nS at *
  generalize s.isNone = bS at *
  go_enter Tryz.func99, Tryz.ntmps99
  go_wp2_with fail
  refine (hN1 _ h2.below).mono ?_
  rintro e w1 ⟨A1, c1, rfl, hr1, hb1⟩
  have h3 := h2.step hb1
  obtain ⟨⟨a0, a1⟩, ⟨f0, f1⟩⟩ := row2 h3.r0
  clear h2 hb1 hN1
  have h4 := h3.store (.slice A1 (left s1) c1) (.bool s1.isNone)
  have hl4 := hr1 _ (hlow _ h4.below)
  go_wp2_with fail
  refine (hN2 A1 c1 _ hl4).mono ?_
  rintro e w2 ⟨A2, c2, rfl, hr2, hb2⟩
  have h5 := h4.step hb2
  obtain ⟨⟨a2, a3⟩, ⟨f2, f3⟩⟩ := row2 h5.r0
  have y0 := hlt h5.r0
  have y1 := hlt h5.r1
  have y2 := hlt h5.r2
  clear h3 h4 hb2 hN2 a0 a1 f0 f1 hl4
  have h6 := h5.store (.slice A2 (left s2) c2) (.bool s2.isNone)
  obtain ⟨⟨b2, b3⟩, ⟨g2, g3⟩⟩ := row2 h5.r1
  obtain ⟨⟨b5, b6⟩, ⟨g5, g6⟩⟩ := row2 h5.r2
  generalize left s1 = nS1 at *
  generalize s1.isNone = bS1 at *
  cases s2 with
  | none =>
    rw [if_pos rfl] at hR
    have HR := Lib.hid hR
    clear hR
    simp only [left, Option.isNone] at *
    have h7 := (h6.fin2 (.int .i64 0) (.int .i64 0) (.slice none 0 0) (.bool true)).step ((Below.refl _ _).alloc (Nat.le_refl _) (.cells #[.int .i64 z1, .int .i64 z2] 32))
    go_wp2
    refine bodyPost_ret (res_cell2 rfl _ _ (w.heap.size + 1) (w.heap.size + 1 + 1) _ _ _ _ _ _ rfl rfl h7.r1 h7.r2 Tryz.underlying32 Tryz.underlying171 rfl rfl (by kernel_rfl) (by kernel_rfl)) rfl ?_
    have e : R = _ := HR
    rw [e]
    exact ⟨none, 0, rfl, fun w0 _ => RLies.bad w0, h7.below⟩
  | some sl =>
    rw [if_neg (by simp)] at hR
    have hRt := fun W => hardR_is z1 z2 W
    have h8 := h6.step ((Below.refl _ _).alloc (Nat.le_refl _) (.cells #[.int .i64 z1, .int .i64 z2] 32))
    have hr8 := heap_alloc_new ((w2.setCell ⟨w.heap.size, 0, none⟩ (.slice A2 (left (some sl)) c2)).setCell ⟨w.heap.size, 1, none⟩ (.bool (some sl).isNone)) (.cells #[.int .i64 z1, .int .i64 z2] 32)
    have hsz : ((w2.setCell ⟨w.heap.size, 0, none⟩ (.slice A2 (left (some sl)) c2)).setCell ⟨w.heap.size, 1, none⟩ (.bool (some sl).isNone)).heap.size = w2.heap.size := by simp
    rw [hsz] at hr8
    have z8 : w2.heap.size < (((w2.setCell ⟨w.heap.size, 0, none⟩ (.slice A2 (left (some sl)) c2)).setCell ⟨w.heap.size, 1, none⟩ (.bool (some sl).isNone)).alloc (.cells #[.int .i64 z1, .int .i64 z2] 32)).heap.size := by simp
    clear hsz
    generalize hardB z1 z2 = b at *
    cases b with
    | false =>
      rw [if_neg (by simp)] at hR
      have HR := Lib.hid hR
      clear hR
      simp only [Option.isNone] at *
      go_wp2_with fail
      refine (hRt _).mono ?_
      rintro e w6 ⟨rfl, hb6⟩
      have h9 := h8.step hb6
      obtain ⟨⟨d2, d3⟩, ⟨e2, e3⟩⟩ := row2 h9.r1
      obtain ⟨⟨d5, d6⟩, ⟨e5, e6⟩⟩ := row2 h9.r2
      have h7 := h9.fin2 (.int .i64 0) (.int .i64 0) (.slice none 0 0) (.bool true)
      clear hRt
      go_wp2
      refine bodyPost_ret (res_cell2 rfl _ _ (w.heap.size + 1) (w.heap.size + 1 + 1) _ _ _ _ _ _ rfl rfl h7.r1 h7.r2 Tryz.underlying32 Tryz.underlying171 rfl rfl (by kernel_rfl) (by kernel_rfl)) rfl ?_
      have e : R = _ := HR
      rw [e]
      exact ⟨none, 0, rfl, fun w0 _ => RLies.bad w0, h7.below⟩
    | true =>
      rw [if_pos rfl] at hR
      have HR := Lib.hid hR
      clear hR
      simp only [Option.isNone] at *
      go_wp2_with fail
      refine (hRt _).mono ?_
      rintro e w6 ⟨rfl, hb6⟩
      have h9 := h8.step hb6
      obtain ⟨⟨d0, d1⟩, ⟨e0, e1⟩⟩ := row2 h9.r0
      obtain ⟨⟨d2, d3⟩, ⟨e2, e3⟩⟩ := row2 h9.r1
      obtain ⟨⟨d5, d6⟩, ⟨e5, e6⟩⟩ := row2 h9.r2
      obtain ⟨⟨d7, d8⟩, _⟩ := row2 ((hb6.block _ z8).trans hr8)
      have h7 := h9.fin2 (.int .i64 z1) (.int .i64 z2) (.slice A2 (left (some sl)) c2) (.bool false)
      clear hRt
      go_wp2
      go_region
      all_goals
        go_wp2
        refine bodyPost_ret (res_cell2 rfl _ _ (w.heap.size + 1) (w.heap.size + 1 + 1) _ _ _ _ _ _ rfl rfl h7.r1 h7.r2 Tryz.underlying32 Tryz.underlying171 rfl rfl (by kernel_rfl) (by kernel_rfl)) rfl ?_
        have e : R = _ := HR
        rw [e]
        exact ⟨A2, c2, rfl, fun w0 h0 => hr2 _ (hr1 _ h0), h7.below.drew⟩

end Go.Proofs.YtmeoooojmhhahaaGreat
