/- The document's HardBytes; taken, each by its contract. -/
import Derived.Test.YtipggjmndlaehaaEntRefD
import Derived.Test.YtipggjmndlaehaaOctRefC
namespace Go.Proofs.Ytipggjmndlaehaa
open Go.RowKit
set_option linter.unusedVariables false
set_option linter.unusedSimpArgs false

/-- What is hard, as bytes. -/
def hardBytes (t v : Int) : List UInt8 := if hardB t v = true then num8 t ++ num8 v else List.replicate 16 0

set_option maxRecDepth 100000 in
set_option maxHeartbeats 3200000 in
theorem bytesH_any (t v : Int) (w : World) :
    Calls Try.prog 22 #[.agg #[.int .i64 t, .int .i64 v]] w fun e w' => ∃ A' c', e = .returned (.slice A' 16 c') ∧ Owns 5 w' w.heap.size (.slice A' 16 c') (hardBytes t v) ∧ Below w.heap.size w w' := by
  have hb : Below w.heap.size w (w.alloc (.cells #[.int .i64 t, .int .i64 v] 24)) := (Below.refl _ _).alloc (Nat.le_refl _) _
  have hR := fun W => hardR_is t v W
  have hI := fun W => num8_any t W
  have hJ := fun W => num8_any v W
  have hlI : (num8 t).length = 8 := by simp [num8]
  have hlJ : (num8 v).length = 8 := by simp [num8]
  unfold hardBytes
  generalize hardB t v = b at *
  generalize num8 t = ni at *
  generalize num8 v = nt at *
  obtain ⟨i0, hi0, hz0, hz1, hz2⟩ := info_parts info_u8
  cases b with
  | true =>
    rw [if_pos rfl]
    have hln : (ni ++ nt).length = 16 := by rw [List.length_append, hlI, hlJ]
    go_enter Try.func22, Try.ntmps22
    go_wp2_with fail
    refine (hR _).mono ?_
    rintro e w1 ⟨rfl, hb1⟩
    have hbw1 := hb.trans (hb1.mono hb.size)
    have hz : w.heap.size < w1.heap.size := by have := hb1.size; simp at this; omega
    have hrow := (hb1.block w.heap.size (by simp)).trans (heap_alloc_new w _)
    obtain ⟨⟨a0, a1⟩, _⟩ := row2 hrow
    clear hR
    go_wp2
    go_region_law (first
      | (go_simp; go_at_call 44
         refine (hI _).mono ?_
         rintro e w2 ⟨A1, k1, rfl, ho1, hb2⟩
         have hbw2 : Below w.heap.size w w2 := Below.trans (by first | exact hbw1 | exact hbw1.drew) (hb2.mono hbw1.size)
         have ho1' : Owns 5 w2 w1.heap.size (.slice A1 8 k1) ni := ho1
         obtain ⟨⟨b0, b1⟩, _⟩ := row2 ((hb2.block w.heap.size hz).trans hrow)
         clear hI)
      | (go_simp; go_at_call 44
         refine (hJ _).mono ?_
         rintro e w3 ⟨A2, k2, rfl, ho2, hb3⟩
         have hbw3 : Below w.heap.size w w3 := hbw2.trans (hb3.mono hbw2.size)
         have ho12 : Owns 5 w3 w1.heap.size (.slice A1 8 k1) ni := ho1'.keep (fun g hg => hb3.block g (ho1'.lt g hg).2)
         have hl2 := owns_lies ho2
         clear hJ)
      | (refine step_append_bytes _ (by rfl) _ _ 25 (by rfl) 5 i0 Try.underlying25 hi0 hz0 hz1 hz2 w.heap.size hbw3.size (.slice A1 8 k1) ni (by rfl) (ho12.rebase fun k hk => Nat.le_trans hbw1.size (ho12.lt k hk).1) A2 8 k2 nt (by rfl) hl2 (by rw [List.length_append]; omega) ?_
         intro va wa hoa hga hqa
         have hbwa : Below w.heap.size w wa := hbw3.grown hga hbw3.size (fun q hq => Nat.le_trans hbw1.size (ho12.lt q hq).1)))
    all_goals
      obtain ⟨Af, cf, rfl, _, _⟩ := lies_of_owns hoa
      rw [hln] at hoa ⊢
      have HO := Lib.hid hoa
      have HB := Lib.hid hbwa
      clear hoa
      go_wp2
      go_ret
      exact ⟨Af, cf, rfl, HO, HB⟩
  | false =>
    rw [if_neg (by simp)]
    clear hI hJ hlI hlJ
    go_enter Try.func22, Try.ntmps22
    go_wp2_with fail
    refine (hR _).mono ?_
    rintro e w1 ⟨rfl, hb1⟩
    have hbw1 := hb.trans (hb1.mono hb.size)
    clear hR
    go_wp2_with (at_make; refine wpList_make_full _ rfl _ _ 25 rfl w1.heap.size 5 i0 _ 1 Try.underlying25 hi0 hz0 hz1 _ _ _ _ 16 rfl rfl rfl rfl (by rw [hz2]; omega) (by unfold maxLen; omega) (Nat.le_refl _) ?_)
    intro w2 ho hg
    have ho1 : Owns 5 w2 w1.heap.size (.slice (some ⟨w1.heap.size, 0, none⟩) 16 16) (List.replicate 16 0) := by
      unfold Owns
      have e : cellsOf (List.replicate 16 0) = (madeCells #[.int .u8 0] 16).toList := by rw [toList_madeCells_one]; simp [cellsOf]
      rw [e, List.length_replicate]
      simpa using ho
    have hb2 := (Below.refl w1.heap.size w1).grown hg (Nat.le_refl _) (fun k e => by cases e)
    clear ho hg
    go_wp2
    go_ret
    exact ⟨_, _, rfl, ho1.rebase fun k hk => Nat.le_trans hbw1.size (ho1.lt k hk).1, hbw1.trans (hb2.mono hbw1.size)⟩

end Go.Proofs.Ytipggjmndlaehaa
