/- The document's frame of a record, by its contract. -/
import Derived.Test.YtnkfdnehkihbeaaWalRefB
import Derived.Test.YtnkfdnehkihbeaaWalRefS
import Derived.Test.YtnkfdnehkihbeaaWalPure
import Derived.Deep.RegionWith
namespace Go.Proofs.Ytnkfdnehkihbeaa
open Go.RowKit
set_option linter.unusedVariables false
set_option linter.unusedSimpArgs false

/-- '[]byte(s)'. -/
theorem conv_bytes (W : World) (s : ByteArray) : ∃ c W', (convert 9 22 (.string s)).run Try.prog W = .ok (.slice (some ⟨W.heap.size, 0, none⟩) s.size c) W' ∧ Lies W' (some ⟨W.heap.size, 0, none⟩) s.size c s.data.toList ∧ Below W.heap.size W W' ∧ W.heap.size < W'.heap.size := by
  refine ⟨_, _, run_bytes_of_string W _ _ _ s Try.underlying9 Try.underlying22 Try.underlying5, ⟨by simp, grownCap_ge _ _ _ _, (fun h => by cases h), fun _ => ⟨_, _, rfl, by simp, fun j hj => ?_⟩⟩, (Below.refl _ _).drew.alloc (Nat.le_refl _) _, by simp⟩
  have hj' : j < s.size := by simpa using hj
  have := World.cell?_alloc_mark W.drew (bytesRow s (grownCap W s.size 0 5)) 5 ((bytesRow s (grownCap W s.size 0 5)).size, (bytesRow s (grownCap W s.size 0 5)).size + 1) j
  rw [Nat.zero_add]
  refine this.trans ?_
  have hj2 : j < s.data.size := hj'
  simp only [bytesRow, Array.getElem?_append, Array.size_map, Array.getElem?_map]
  rw [if_pos hj2, Array.getElem?_eq_getElem hj2]
  rfl


/-- A text's bytes. -/
abbrev btl (s : ByteArray) : List UInt8 := s.data.toList

theorem btl_app (a b : ByteArray) : btl (a ++ b) = btl a ++ btl b := by
  simp [btl, ByteArray.toList_data_append]

theorem btl_of (l : List UInt8) : ∃ t : ByteArray, (⟨l.toArray⟩ : ByteArray) = t ∧ btl t = l ∧ t.size = l.length := ⟨_, rfl, rfl, rfl⟩

set_option maxRecDepth 100000 in
set_option maxHeartbeats 3200000 in
theorem frameR_any (s : ByteArray) (hs : s.size ≤ 1000000) (w : World) :
    Calls Try.prog 11 #[.string s] w fun e w' => ∃ t, e = .returned (.string t) ∧ btl t = frameL (btl s) ∧ Below w.heap.size w w' := by
  have hW := wideR_any s.size (by omega) 4 (by omega) w
  have hsl : (btl s).length = s.size := by simp [btl]
  have hlit : IntKind.u64.wrap (s.size : Int) = (s.size : Int) := IntWalk.u64_in _ (by omega)
  have hO := fun (A : Option Addr) (cap : Nat) (w : World) (h : Lies w A 4 cap (wide s.size 4)) => ofR_any A 4 cap (wide s.size 4) w h (by unfold maxLen; omega)
  have hF : Hid (frameL (btl s) = wide s.size 4 ++ (wide (moreN (moreN 0 (wide s.size 4)) (btl s)) 4 ++ btl s)) := ⟨by unfold frameL sumL; rw [hsl]⟩
  have hlt1 := moreN_lt 0 (wide s.size 4) (by omega)
  generalize moreN 0 (wide s.size 4) = q at hO hF hlt1
  have hM := fun (A : Option Addr) (cap : Nat) (w : World) (h : Lies w A s.size cap (btl s)) => moreR_any q A s.size cap (btl s) w hlt1 h (by unfold maxLen; omega)
  have hlt2 := moreN_lt q (btl s) hlt1
  generalize moreN q (btl s) = q2 at hM hF hlt2
  have hW2 := fun w => wideR_any q2 (by omega) 4 (by omega) w
  have hlit2 : IntKind.u64.wrap (q2 : Int) = (q2 : Int) := IntWalk.u64_in _ (by omega)
  obtain ⟨t1, et1, bt1, st1⟩ := btl_of (wide s.size 4)
  obtain ⟨t2, et2, bt2, st2⟩ := btl_of (wide q2 4)
  rw [wide_length] at st1 st2
  have hn1 : ¬ ((9223372036854775807 : Nat) < t1.size + t2.size) := by omega
  have hn2 : ¬ ((9223372036854775807 : Nat) < t1.size + t2.size + s.size) := by omega
  have hn3 : ¬ ((9223372036854775807 : Nat) < (t1 ++ t2).size + s.size) := by rw [ByteArray.size_append]; omega
  go_enter Try.func11, Try.ntmps11
  go_wp2_with (go_at_call 26
               refine hW.mono ?_
               rintro e w1 ⟨A, cap, rfl, ho, hb⟩)
  obtain ⟨A', cap', he', hl1, _⟩ := lies_of_owns ho
  rw [wide_length] at he' hl1
  injection he' with e1 e2 e3
  subst e1 e3
  clear e2 ho hW
  have hTx : ∀ w', Below w1.heap.size w1 w' → (convert 22 9 (.slice A 4 cap)).run Try.prog w' = .ok (.string t1) w' := fun w' h => et1 ▸ (hl1.below h (Nat.le_refl _)).text Try.underlying22 Try.underlying5 Try.underlying9
  obtain ⟨c, W', hcv, hl2, hbW, hsW⟩ := conv_bytes w1.drew s
  have hq0 : Below w1.heap.size w1 w1.drew := (Below.refl _ _).drew
  have hq1 : Below w1.heap.size w1 W' := hq0.trans hbW
  change (convert 9 22 (.string s)).run Try.prog w1.drew = .ok (.slice (some ⟨w1.heap.size, 0, none⟩) s.size c) W' at hcv
  change Lies W' (some ⟨w1.heap.size, 0, none⟩) s.size c (btl s) at hl2
  have ht1 := hTx _ hq0
  have ht2 := hTx _ hq1
  go_region_with (first
    | (go_at_call 28; refine (hO _ _ _ (by first | exact hl1.below hq0 (Nat.le_refl _) | exact hl1.below hq1 (Nat.le_refl _))).mono ?_; rintro e wx ⟨rfl, rfl⟩)
    | (go_at_call 27; refine (hM _ _ _ hl2).mono ?_; rintro e wx ⟨rfl, rfl⟩)
    | (go_at_call 26
       refine (hW2 _).mono ?_
       rintro e w3 ⟨A3, cap3, rfl, ho3, hb3⟩
       have hq2 : Below w1.heap.size w1 w3 := hq1.trans (hb3.mono hq1.size)
       obtain ⟨A3', cap3', he', hl3, _⟩ := lies_of_owns ho3
       rw [wide_length] at he' hl3
       injection he' with e1 e2 e3
       subst e1 e3
       have ht3 := hl3.text Try.underlying22 Try.underlying5 Try.underlying9
       rw [et2] at ht3
       have ht4 := hTx _ hq2))
  all_goals
    go_wp2
    go_ret
    refine ⟨_, rfl, ?_, hb.trans (hq2.mono hb.size)⟩
    rw [hF.out, btl_app, btl_app, bt1, bt2, List.append_assoc]

end Go.Proofs.Ytnkfdnehkihbeaa
