/- The laws' own first question. -/
import Derived.Test.YtipggjmndlaehaaEntRunP
import Derived.Test.YtipggjmndlaehaaEntProgB
import Derived.Lib.SlBytesConst
namespace Go.Proofs.Ytipggjmndlaehaa
open Go.RowKit
set_option linter.unusedVariables false
set_option linter.unusedSimpArgs false

theorem lies_row (w : World) (l : List UInt8) (C : Array Value) (T : TypeId) (fr : Nat × Nat) (n : Nat) (hn : l.length = n) (h : ∀ j (hj : j < l.length), C[j]? = some (u8 l[j])) : Lies (w.alloc (.cells C T fr)) (some ⟨w.heap.size, 0, none⟩) n n l := by
  refine ⟨hn, Nat.le_refl _, (fun h => by cases h), fun _ => ⟨w.heap.size, 0, rfl, by simp, fun j hj => ?_⟩⟩
  rw [cell_of_row _ _ _ _ _ _ (heap_alloc_new w _), Nat.zero_add]
  exact h j hj

theorem Ents.one {w : World} {Z : Nat → Prop} (i t : Int) (E : Option Addr) (n c : Nat) (d : List UInt8) (T : TypeId) (hl : Lies w E n c d) (hc : c ≤ maxLen) (hz : ∀ k, Z k) :
    Ents (w.alloc (.cells #[.int .i64 i, .int .i64 t, .slice E n c] T)) Z (some ⟨w.heap.size, 0, none⟩) 1 1 [⟨i, t, d⟩] := by
  have hb := (Below.refl w.heap.size w).alloc (Nat.le_refl _) (.cells #[.int .i64 i, .int .i64 t, .slice E n c] T)
  obtain ⟨⟨a0, a1, a2⟩, _⟩ := row3 (heap_alloc_new w (.cells #[.int .i64 i, .int .i64 t, .slice E n c] T))
  have hd := hl.1
  subst hd
  refine ⟨rfl, Nat.le_refl _, (fun e => by cases e), fun _ => ⟨w.heap.size, 0, rfl, by simp, hz _, fun j hj => ?_⟩⟩
  obtain rfl : j = 0 := by simpa using hj
  exact ⟨E, c, a0, a1, a2, hc, hl.below hb (Nat.le_refl _), fun _ _ _ _ => hz _⟩

theorem awake_bytes : (entBytes 1 1 [97]).length = 21 := by decide +kernel
theorem awake_right : rightB 1 1 1 = true := by decide +kernel
theorem awake_run : runB 0 0 [⟨1, 1, [97]⟩] = true := by decide +kernel

set_option maxRecDepth 100000 in
set_option maxHeartbeats 1600000 in
theorem awake_any (w : World) : Calls Try.prog 7 #[] w fun e w' => e = .returned (.bool true) ∧ Below w.heap.size w w' := by
  have ho0 := out_new w (· < w.heap.size) (fun k hk => hk)
  have hb1 := (Below.refl w.heap.size w).alloc (Nat.le_refl _) (.cells #[.slice none 0 0, .bool false] 37)
  have kc := Lib.run_convert_bytes_const (P := Try.prog) (w.alloc (.cells #[.slice none 0 0, .bool false] 37)) 25 5 #[.int .u8 97] 1 1 Try.underlying25 Try.underlying5
  have hl := lies_row (w.alloc (.cells #[.slice none 0 0, .bool false] 37)) [97] #[.int .u8 97] 5 (1, 2) 1 rfl (by
    intro j hj
    match j, hj with
    | 0, _ => rfl)
  have hbB := (Below.refl (w.alloc (.cells #[.slice none 0 0, .bool false] 37)).heap.size (w.alloc (.cells #[.slice none 0 0, .bool false] 37))).alloc (Nat.le_refl _) (.cells #[.int .u8 97] 5 (1, 2))
  have hs1 : (w.alloc (.cells #[.slice none 0 0, .bool false] 37)).heap.size = w.heap.size + 1 := by simp
  have ho1 : Out (w.alloc (.cells #[.slice none 0 0, .bool false] 37)) w.heap.size [] (fun k => k ≠ w.heap.size ∧ k < w.heap.size + 1 + 1 + 1) := ho0.out fun k hk => by
    rcases Nat.lt_or_ge k w.heap.size with h | h
    · exact .inl h
    · right; rw [hs1]; have := hk.1; omega
  have ho2 := ho1.below hbB (Nat.le_refl _)
  have hbw2 := hb1.trans (hbB.mono hb1.size)
  rw [hs1] at hl kc
  change _ = Result.ok _ ((w.alloc (.cells #[.slice none 0 0, .bool false] 37)).alloc (.cells #[.int .u8 97] 5 (1, 2))) at kc
  have hs2 : ((w.alloc (.cells #[.slice none 0 0, .bool false] 37)).alloc (.cells #[.int .u8 97] 5 (1, 2))).heap.size = w.heap.size + 1 + 1 := by simp
  clear ho0 ho1 hb1 hbB
  -- the entry in a block of its own
  have hbE := (Below.refl ((w.alloc (.cells #[.slice none 0 0, .bool false] 37)).alloc (.cells #[.int .u8 97] 5 (1, 2))).heap.size _).alloc (Nat.le_refl _) (.cells #[.int .i64 1, .int .i64 1, .slice (some ⟨w.heap.size + 1, 0, none⟩) 1 1] 31)
  have hrE := heap_alloc_new ((w.alloc (.cells #[.slice none 0 0, .bool false] 37)).alloc (.cells #[.int .u8 97] 5 (1, 2))) (.cells #[.int .i64 1, .int .i64 1, .slice (some ⟨w.heap.size + 1, 0, none⟩) 1 1] 31)
  rw [hs2] at hrE
  have ho3 := ho2.below hbE (Nat.le_refl _)
  have hl3 := hl.below hbE (Nat.le_refl _)
  have hbw3 := hbw2.trans (hbE.mono hbw2.size)
  have hsz3 : (((w.alloc (.cells #[.slice none 0 0, .bool false] 37)).alloc (.cells #[.int .u8 97] 5 (1, 2))).alloc (.cells #[.int .i64 1, .int .i64 1, .slice (some ⟨w.heap.size + 1, 0, none⟩) 1 1] 31)).heap.size = w.heap.size + 1 + 1 + 1 := by simp
  have hP := putE_any 1 1 (some ⟨w.heap.size + 1, 0, none⟩) 1 1 [97] _ w.heap.size [] _ ho3 (fun k hk => by rw [hsz3]; exact hk.2) (by omega) hl3 (fun _ g off e => by injection e with e; injection e with e; subst e; exact ⟨by omega, by omega⟩)
  obtain ⟨⟨a0, a1, a2⟩, _⟩ := row3 hrE
  clear ho2 ho3 hbE hbw2 hl
  rw [List.nil_append] at hP
  have HL := Lib.hid awake_bytes
  generalize entBytes 1 1 [97] = EB at *
  go_enter Try.func7, Try.ntmps7
  go_wp2_with fail
  refine hP.mono ?_
  rintro e w4 ⟨rfl, h4, k4⟩
  have hr4 := (k4.block (w.heap.size + 1 + 1) (by rw [hsz3]; omega) ⟨by omega, by omega⟩).trans hrE
  have hl4 := hl3.keeps k4 (fun _ g off e => by injection e with e; injection e with e; subst e; exact ⟨by omega, by omega⟩)
  have hbw4 : Below w.heap.size w w4 := below_keeps hbw3 k4 (fun i hi => ⟨by omega, by omega⟩) hbw3.size
  have hE := end_fits w4 w.heap.size EB _ h4 (by have := HL.out; omega)
  rw [HL.out] at hE
  clear hP hl3 hbw3 a0 a1 a2 hrE k4 h4 kc hs1 hs2 hsz3
  go_wp2_with fail
  refine hE.mono ?_
  rintro e w5 ⟨A5, cap5, rfl, _, _, hb5⟩
  have hr5 := (hb5.block _ (hlt hr4)).trans hr4
  have hl5 := hl4.below hb5 (Nat.le_refl _)
  have hbw5 := hbw4.trans (hb5.mono hbw4.size)
  obtain ⟨⟨b0, b1, b2⟩, _⟩ := row3 hr5
  clear hE hl4 hr4 hb5 hbw4
  have hR := rightP_is 1 1 (some ⟨w.heap.size + 1, 0, none⟩) 1 1 w5
  rw [awake_right] at hR
  go_wp2_with fail
  refine hR.mono ?_
  rintro e w6 ⟨rfl, hb6⟩
  have hr6 := (hb6.block _ (hlt hr5)).trans hr5
  have hl6 := hl5.below hb6 (Nat.le_refl _)
  have hbw6 := hbw5.trans (hb6.mono hbw5.size)
  obtain ⟨⟨c0, c1, c2⟩, _⟩ := row3 hr6
  clear hR hl5 hr5 hb6 hbw5 b0 b1 b2
  have hEn := Ents.one (Z := fun _ => True) 1 1 (some ⟨w.heap.size + 1, 0, none⟩) 1 1 [97] 31 hl6 (by unfold maxLen; omega) (fun _ => trivial)
  have hQ := runP_any _ _ 1 1 _ 0 0 _ hEn (by unfold maxLen; omega)
  rw [awake_run] at hQ
  have hbw7 := hbw6.alloc hbw6.size (.cells #[.int .i64 1, .int .i64 1, .slice (some ⟨w.heap.size + 1, 0, none⟩) 1 1] 31)
  clear hEn hl6
  go_wp2_with fail
  refine hQ.mono ?_
  rintro e w7 ⟨rfl, hb7⟩
  go_wp2
  go_ret
  exact ⟨rfl, hbw7.trans (hb7.mono hbw7.size)⟩

end Go.Proofs.Ytipggjmndlaehaa
