/- The document's bytes of an entry, of what is hard, of a snap, each by its contract. -/
import Derived.Test.YtlojjodgoeclfaaEntR1
import Derived.Test.YtlojjodgoeclfaaOctR
import Derived.Deep.RegionLaw
import Derived.Lib.Hide
import Derived.Test.YtlojjodgoeclfaaCmn
namespace Go.Proofs.Ytlojjodgoeclfaa
open Go.RowKit
set_option linter.unusedVariables false
set_option linter.unusedSimpArgs false

/-- A number as 8 bytes. -/
def num8 (n : Int) : List UInt8 := wide (IntKind.u64.wrap n).toNat 8
def threeL (i t : Int) (d : List UInt8) : List UInt8 := num8 i ++ (num8 t ++ textOf d)

theorem num8_any (n : Int) (w : World) : Calls Try.prog 44 #[.int .i64 n] w fun e w' => ∃ A cap, e = .returned (.slice A 8 cap) ∧ Owns 5 w' w.heap.size (.slice A 8 cap) (num8 n) ∧ Below w.heap.size w w' :=
  numR_any n _ (Int.toNat_of_nonneg (u64_wrap n).1).symm w

theorem owns_lies {w : World} {base n cap : Nat} {A : Option Addr} {l : List UInt8} (h : Owns 5 w base (.slice A n cap) l) : Lies w A n cap l := by
  obtain ⟨A', cap', e, hl, _⟩ := lies_of_owns h
  injection e with e1 e2 e3
  subst e1 e2 e3
  exact hl

set_option maxRecDepth 100000 in
set_option maxHeartbeats 3200000 in
theorem threeR_any (i t : Int) (A : Option Addr) (n c : Nat) (d : List UInt8) (w : World) (h : Lies w A n c d) (hn : n ≤ 50000) :
    Calls Try.prog 70 #[.int .i64 i, .int .i64 t, .slice A n c] w fun e w' => ∃ A' c', e = .returned (.slice A' (threeL i t d).length c') ∧ Owns 5 w' w.heap.size (.slice A' (threeL i t d).length c') (threeL i t d) ∧ Below w.heap.size w w' := by
  obtain ⟨i0, hi0, hz0, hz1, hz2⟩ := info_parts info_u8
  have hcv : ∀ W, Below w.heap.size w W → (convert 23 9 (.slice A n c)).run Try.prog W = .ok (.string ⟨d.toArray⟩) W := fun W hb => (h.below hb (Nat.le_refl _)).text Try.underlying23 Try.underlying5 Try.underlying9
  have hds : (⟨d.toArray⟩ : ByteArray).size = n := h.1
  have hT := fun W => textR_any ⟨d.toArray⟩ (by omega) W
  have hdl : (⟨d.toArray⟩ : ByteArray).data.toList = d := rfl
  rw [hdl, hds] at hT
  generalize (⟨d.toArray⟩ : ByteArray) = S at hcv hT
  have hlT : (textOf d).length ≤ 60000 := by have := h.1; simp [textOf]; omega
  clear h hds hdl
  go_enter Try.func70, Try.ntmps70
  have hI := fun W => num8_any i W
  have hJ := fun W => num8_any t W
  have hlI : (num8 i).length = 8 := by simp [num8]
  have hlJ : (num8 t).length = 8 := by simp [num8]
  have HF := Lib.hid (show threeL i t d = num8 i ++ num8 t ++ textOf d by unfold threeL; rw [List.append_assoc])
  generalize threeL i t d = R at *
  generalize num8 i = ni at *
  generalize num8 t = nt at *
  have c0 := hcv w (Below.refl _ _)
  have c1 := hcv w.drew (Below.refl _ _).drew
  go_wp2
  go_region_law (first
    | (go_simp; go_at_call 44
       refine (hI _).mono ?_
       rintro e w1 ⟨A1, k1, rfl, ho1, hb1⟩
       have hbw1 : Below w.heap.size w w1 := Below.trans (by first | exact Below.refl _ _ | exact (Below.refl _ _).drew) (hb1.mono (by simp))
       have ho1' : Owns 5 w1 w.heap.size (.slice A1 8 k1) ni := ho1
       have c2 := hcv w1 hbw1
       clear hI)
    | (go_simp; go_at_call 44
       refine (hJ _).mono ?_
       rintro e w2 ⟨A2, k2, rfl, ho2, hb2⟩
       have hbw2 : Below w.heap.size w w2 := hbw1.trans (hb2.mono hbw1.size)
       have ho12 : Owns 5 w2 w.heap.size (.slice A1 8 k1) ni := ho1'.keep (fun g hg => hb2.block g (ho1'.lt g hg).2)
       have hl2 := owns_lies ho2
       have c3 := hcv w2 hbw2
       clear hJ)
    | (refine step_append_bytes _ (by rfl) _ _ 23 (by rfl) 5 i0 Try.underlying23 hi0 hz0 hz1 hz2 w.heap.size (by first | exact hbw2.size | exact hbwt.size) (.slice A1 8 k1) ni (by rfl) (by first | exact ho12 | exact ho1t) A2 8 k2 nt (by rfl) (by first | exact hl2 | exact hl2t) (by rw [List.length_append]; omega) ?_
       intro va wa hoa hga hqa
       have hbwa : Below w.heap.size w wa := by first | exact hbw2.grown hga hbw2.size (fun q hq => (ho12.lt q hq).1) | exact hbwt.grown hga hbwt.size (fun q hq => (ho1t.lt q hq).1)
       have c4 := hcv wa hbwa
       first | (have hlta : Lies wa A3 (4 + n) k3 (textOf d) := hlt3.grown hga fun q hq h0 g off e hgq => by
                  subst hgq
                  have h1 := (hoT.lt g (by rw [e]; rfl)).1
                  have h2 := (ho12.lt g hq).2
                  omega) | skip)
    | (go_simp; go_at_call 83
       refine (hT _).mono ?_
       rintro e wt ⟨A3, k3, rfl, hoT, hbT⟩
       have hlt3 := owns_lies hoT
       first
         | (have hbwt : Below w.heap.size w wt := hbwa.trans (hbT.mono hbwa.size)
            have hoat := Owns.keep hoa (fun g hg => hbT.block g (hoa.lt g hg).2))
         | (have hbwt : Below w.heap.size w wt := hbw2.trans (hbT.mono hbw2.size)
            have ho1t : Owns 5 wt w.heap.size (.slice A1 8 k1) ni := ho12.keep (fun g hg => hbT.block g (ho12.lt g hg).2)
            have hl2t := hl2.below hbT (Nat.le_refl _)))
    | (refine step_append_bytes _ (by rfl) _ _ 23 (by rfl) 5 i0 Try.underlying23 hi0 hz0 hz1 hz2 w.heap.size (by first | exact hbwt.size | exact hbwa.size) va (ni ++ nt) (by rfl) (by first | exact hoat | exact hoa) A3 (4 + n) k3 (textOf d) (by rfl) (by first | exact hlt3 | exact hlta) (by rw [List.length_append, List.length_append]; omega) ?_
       intro vf wf hof hgf hqf
       have hbwf : Below w.heap.size w wf := by first | exact hbwt.grown hgf hbwt.size (fun q hq => (hoat.lt q hq).1) | exact hbwa.grown hgf hbwa.size (fun q hq => (hoa.lt q hq).1)))
  all_goals
    have hoF : Owns 5 wf w.heap.size vf R := by rw [HF]; exact hof
    obtain ⟨Af, cf, rfl, _, _⟩ := lies_of_owns hoF
    have HO := Lib.hid hoF
    have HB := Lib.hid hbwf
    clear hof hoF
    go_wp2
    go_ret
    exact ⟨Af, cf, rfl, HO, HB⟩

end Go.Proofs.Ytlojjodgoeclfaa

namespace Go.Proofs.Ytlojjodgoeclfaa
open Go.RowKit
set_option linter.unusedVariables false
set_option linter.unusedSimpArgs false

/-- An entry's bytes; a snap's. -/
def entBytes (i t : Int) (d : List UInt8) : List UInt8 := if rightB i t d.length = true then threeL i t d else List.replicate 20 0
def snapBytes (i t : Int) (d : List UInt8) : List UInt8 := if snapB i t d.length = true then threeL i t d else List.replicate 20 0

theorem rightB_len {i t : Int} {n : Nat} (h : rightB i t n = true) : n ≤ 50000 := by
  have := (rightB_iff i t n).1 h
  omega

theorem snapB_len {i t : Int} {n : Nat} (h : snapB i t n = true) : n ≤ 50000 := by
  unfold snapB at h
  split at h
  · have := of_decide_eq_true h
    omega
  · simp only [Bool.and_eq_true, decide_eq_true_eq] at h
    exact h.2

theorem bytesE_any (i t : Int) (A : Option Addr) (n c : Nat) (d : List UInt8) (w : World) (h : Lies w A n c d) :
    Calls Try.prog 47 #[entV i t A n c] w fun e w' => ∃ A' c', e = .returned (.slice A' (entBytes i t d).length c') ∧ Owns 5 w' w.heap.size (.slice A' (entBytes i t d).length c') (entBytes i t d) ∧ Below w.heap.size w w' := by
  have hb : Below w.heap.size w (w.alloc (.cells #[.int .i64 i, .int .i64 t, .slice A n c] 58)) := (Below.refl _ _).alloc (Nat.le_refl _) _
  have hR := fun W => rightR_is i t A n c W
  have hd := h.1
  have hN : entBytes i t d = if rightB i t n = true then threeL i t d else List.replicate 20 0 := by unfold entBytes; rw [hd]
  have hle : rightB i t n = true → n ≤ 50000 := fun hq => rightB_len hq
  have hT := fun W (hW : Below w.heap.size w W) hq => threeR_any i t A n c d W (h.below hW (Nat.le_refl _)) hq
  rw [hN]
  generalize rightB i t n = b at *
  clear hN hd h
  cases b with
  | true =>
    have hq := hle rfl
    rw [if_pos rfl]
    generalize threeL i t d = R at *
    go_enter Try.func47, Try.ntmps47
    go_wp2_with fail
    refine (hR _).mono ?_
    rintro e w1 ⟨rfl, hb1⟩
    have hbw1 := hb.trans (hb1.mono hb.size)
    obtain ⟨⟨a0, a1, a2⟩, _⟩ := row3 ((hb1.block _ (by simp)).trans (heap_alloc_new w _))
    have hT1 := hT w1 hbw1 hq
    clear hT hR
    go_wp2_with fail
    refine hT1.mono ?_
    rintro e w2 ⟨A2, c2, rfl, ho2, hb2⟩
    go_wp2
    go_ret
    exact ⟨A2, c2, rfl, ho2.rebase fun k hk => Nat.le_trans hbw1.size (ho2.lt k hk).1, hbw1.trans (hb2.mono hbw1.size)⟩
  | false =>
    rw [if_neg (by simp)]
    obtain ⟨i0, hi0, hz0, hz1, hz2⟩ := info_parts info_u8
    clear hT hle
    go_enter Try.func47, Try.ntmps47
    go_wp2_with fail
    refine (hR _).mono ?_
    rintro e w1 ⟨rfl, hb1⟩
    have hbw1 := hb.trans (hb1.mono hb.size)
    clear hR
    go_wp2_with (at_make; refine wpList_make_full _ rfl _ _ 23 rfl w1.heap.size 5 i0 _ 1 Try.underlying23 hi0 hz0 hz1 _ _ _ _ 20 rfl rfl rfl rfl (by rw [hz2]; omega) (by unfold maxLen; omega) (Nat.le_refl _) ?_)
    intro w2 ho hg
    have ho1 : Owns 5 w2 w1.heap.size (.slice (some ⟨w1.heap.size, 0, none⟩) 20 20) (List.replicate 20 0) := by
      unfold Owns
      have e : cellsOf (List.replicate 20 0) = (madeCells #[.int .u8 0] 20).toList := by rw [toList_madeCells_one]; simp [cellsOf]
      rw [e, List.length_replicate]
      simpa using ho
    have hb2 := (Below.refl w1.heap.size w1).grown hg (Nat.le_refl _) (fun k e => by cases e)
    clear ho hg
    go_wp2
    go_ret
    exact ⟨_, _, rfl, ho1.rebase fun k hk => Nat.le_trans hbw1.size (ho1.lt k hk).1, hbw1.trans (hb2.mono hbw1.size)⟩

theorem bytesS_any (i t : Int) (A : Option Addr) (n c : Nat) (d : List UInt8) (w : World) (h : Lies w A n c d) :
    Calls Try.prog 48 #[entV i t A n c] w fun e w' => ∃ A' c', e = .returned (.slice A' (snapBytes i t d).length c') ∧ Owns 5 w' w.heap.size (.slice A' (snapBytes i t d).length c') (snapBytes i t d) ∧ Below w.heap.size w w' := by
  have hb : Below w.heap.size w (w.alloc (.cells #[.int .i64 i, .int .i64 t, .slice A n c] 25)) := (Below.refl _ _).alloc (Nat.le_refl _) _
  have hR := fun W => snapR_is i t A n c W
  have hd := h.1
  have hN : snapBytes i t d = if snapB i t n = true then threeL i t d else List.replicate 20 0 := by unfold snapBytes; rw [hd]
  have hle : snapB i t n = true → n ≤ 50000 := fun hq => snapB_len hq
  have hT := fun W (hW : Below w.heap.size w W) hq => threeR_any i t A n c d W (h.below hW (Nat.le_refl _)) hq
  rw [hN]
  generalize snapB i t n = b at *
  clear hN hd h
  cases b with
  | true =>
    have hq := hle rfl
    rw [if_pos rfl]
    generalize threeL i t d = R at *
    go_enter Try.func48, Try.ntmps48
    go_wp2_with fail
    refine (hR _).mono ?_
    rintro e w1 ⟨rfl, hb1⟩
    have hbw1 := hb.trans (hb1.mono hb.size)
    obtain ⟨⟨a0, a1, a2⟩, _⟩ := row3 ((hb1.block _ (by simp)).trans (heap_alloc_new w _))
    have hT1 := hT w1 hbw1 hq
    clear hT hR
    go_wp2_with fail
    refine hT1.mono ?_
    rintro e w2 ⟨A2, c2, rfl, ho2, hb2⟩
    go_wp2
    go_ret
    exact ⟨A2, c2, rfl, ho2.rebase fun k hk => Nat.le_trans hbw1.size (ho2.lt k hk).1, hbw1.trans (hb2.mono hbw1.size)⟩
  | false =>
    rw [if_neg (by simp)]
    obtain ⟨i0, hi0, hz0, hz1, hz2⟩ := info_parts info_u8
    clear hT hle
    go_enter Try.func48, Try.ntmps48
    go_wp2_with fail
    refine (hR _).mono ?_
    rintro e w1 ⟨rfl, hb1⟩
    have hbw1 := hb.trans (hb1.mono hb.size)
    clear hR
    go_wp2_with (at_make; refine wpList_make_full _ rfl _ _ 23 rfl w1.heap.size 5 i0 _ 1 Try.underlying23 hi0 hz0 hz1 _ _ _ _ 20 rfl rfl rfl rfl (by rw [hz2]; omega) (by unfold maxLen; omega) (Nat.le_refl _) ?_)
    intro w2 ho hg
    have ho1 : Owns 5 w2 w1.heap.size (.slice (some ⟨w1.heap.size, 0, none⟩) 20 20) (List.replicate 20 0) := by
      unfold Owns
      have e : cellsOf (List.replicate 20 0) = (madeCells #[.int .u8 0] 20).toList := by rw [toList_madeCells_one]; simp [cellsOf]
      rw [e, List.length_replicate]
      simpa using ho
    have hb2 := (Below.refl w1.heap.size w1).grown hg (Nat.le_refl _) (fun k e => by cases e)
    clear ho hg
    go_wp2
    go_ret
    exact ⟨_, _, rfl, ho1.rebase fun k hk => Nat.le_trans hbw1.size (ho1.lt k hk).1, hbw1.trans (hb2.mono hbw1.size)⟩

end Go.Proofs.Ytlojjodgoeclfaa

namespace Go.Proofs.Ytlojjodgoeclfaa
open Go.RowKit
set_option linter.unusedVariables false
set_option linter.unusedSimpArgs false

/-- What is hard, as bytes. -/
def hardBytes (t v : Int) : List UInt8 := if hardB t v = true then num8 t ++ num8 v else List.replicate 16 0

end Go.Proofs.Ytlojjodgoeclfaa
