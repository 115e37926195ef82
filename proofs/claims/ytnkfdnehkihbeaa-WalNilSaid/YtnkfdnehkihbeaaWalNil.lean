/- WalNil's walk. -/
import Derived.Test.YtnkfdnehkihbeaaWalCtx
import Derived.Test.YtnkfdnehkihbeaaWalLong
import Derived.Deep.RegionLaw
import Derived.BigRegion
import Derived.Deep.Cut
import Derived.Deep.DeepCutAuto
namespace Go.Proofs.Ytnkfdnehkihbeaa.walNil
open Go.ChangeShapes Go.WideShapes Go.ChangeAt Go.RowKit Go.Proofs.Ytnkfdnehkihbeaa
set_option linter.unusedVariables false
set_option linter.unusedSimpArgs false

set_option maxRecDepth 100000 in
set_option maxHeartbeats 3200000 in
theorem walk_yes (A : Option Addr) (len cap : Nat) (ls : List (List UInt8)) (name : ByteArray) (W : World)
    (h : Recs W (· < W.heap.size) A len cap ls) (hy1 : smallB ls = true) (hn20 : name.size ≤ 20) :
    Calls Try.prog 8 #[.slice A len cap, .string name] W fun e w' => e = .returned (.bool true) ∧ Below W.heap.size W w' := by
  have hf1 := (small_len hy1).1
  have hF1 := (small_len hy1).2
  have hn1 := (smallB_fit hy1).1
  rw [h.1] at hn1
  have hs1 := fun w1 (hb : Below W.heap.size W w1) => small_any _ A len cap ls w1 (h.below hb (Nat.le_refl _)) (by unfold maxLen; omega)
  rw [hy1] at hs1
  have hfirst := first_add ls hy1
  have h20 : ((20 : Int) < (name.size : Int)) = False := eq_false (by omega)
  clear hy1
  go_enter Try.func8, Try.ntmps8
  go_wp2_with fail
  refine (awake_any _).mono ?_
  rintro e w1 ⟨rfl, hb1⟩
  have hS := hs1 w1 hb1
  clear hs1
  go_wp2_with fail
  refine hS.mono ?_
  rintro e w2 ⟨rfl, rfl⟩
  clear hS
  go_wp2_with fail
  refine (open_none w1 name).mono ?_
  rintro e w2 ⟨rfl, rfl⟩
  have hN := dsk_new w1 (· < W.heap.size) 1048576 (fun k hk => Nat.lt_of_lt_of_le hk hb1.size) (by omega) (by omega)
  go_wp2_with fail
  refine hN.mono ?_
  rintro e w2 ⟨d, rfl, hD2, hb2⟩
  rw [← dk0] at hD2
  have hbw2 : Below W.heap.size W w2 := hb1.trans (hb2.mono hb1.size)
  have hO := open_two w2 d x0 _ hD2
  rw [scan0] at hO
  clear hN hb2 hD2 hb1
  go_wp2_with fail
  refine hO.mono ?_
  rintro e w3 ⟨D', ⟨j, Aj, capj, Z, rfl, hL3, _, hZ3, hj3, hk3⟩, hD'⟩
  obtain rfl := hD' rfl
  have hC3 : Ctx W w3 j d (dk x0 none false) 0 Z := ctx_open hL3 hZ3 hj3 hbw2 hk3
  have hA3 := add_any w3 j d _ nmA 0 Z hC3.lg A len cap ls (hC3.recs h) (by omega) hf1 (by omega)
  rw [hfirst] at hA3
  clear hO hL3 hk3 hD' hZ3 hj3 hbw2 hfirst
  go_wp2_with fail
  refine hA3.mono ?_
  rintro e w4 ⟨rfl, hd4⟩
  have hC4 := hC3.ldid hd4
  have e4 : cnt (dk (xF (framesL ls)) none false, 0) 0 (0 + (ls.length : Int)) = (len : Int) := by rw [h.1]; simp [cnt]
  rw [e4] at hC4
  generalize dk (xF (framesL ls)) none false = D at hC4
  clear hA3 hd4 hC3 e4
  have hrw : ∀ w', Below w4.heap.size w4 w' → Recs w' (· < W.heap.size) A len cap ls := fun w' hb => h.below (hC4.low.trans (hb.mono hC4.low.size)) (Nat.le_refl _)
  obtain ⟨i0, hi0, hz0, hz1, hz2⟩ := info_parts info_u8
  obtain ⟨MC, hmk⟩ : ∃ MC : Array Value, ∀ w1 : World, (Instr.makeSlice 22 (.int .i64 60001) (.int .i64 60001)).run Try.prog w1 = .ok (.slice (some ⟨w1.heap.size, 0, none⟩) 60001 60001) (w1.alloc (.cells MC 5)) := ⟨madeCells #[.int .u8 0] (60001 * 1), fun w1 => by
    have := run_make (P := Try.prog) w1 22 5 i0 _ Try.underlying22 hi0 hz0 .i64 .i64 60001 60001 (by omega) (by omega) (by rw [hz2]; omega) (by omega)
    rw [hz1] at this
    exact this⟩
  clear hi0 hz0 hz1 hz2 i0
  go_upto_region 9 with fail
  go_cut [14] (fun v wx => LongAt w4 wx (ls.map List.length) v)
  case first =>
    go_region_law (first
      | (refine step_append_recs _ (by rfl) _ _ (by rfl) w4.heap.size _ 0 [] _ A len cap ls (by rfl) (by rfl) (by simp <;> omega) (own_empty (by (simp only [heap_drew0, heap_push, World.size_alloc, if_true]; repeat (first | rw [if_pos (by omega)] | rw [if_neg (by omega)]))) (by omega)) (hrw _ (by repeat (first | exact Below.refl _ _ | apply Below.drew | refine Below.alloc ?_ (by simp <;> omega) _))) (by omega) ?_
         intro v1 wA cs hcs ho1 hg1 hq1
         have hbA : Below w4.heap.size w4 wA := Below.grown (by repeat (first | exact Below.refl _ _ | apply Below.drew | refine Below.alloc ?_ (by simp <;> omega) _)) hg1 (by simp <;> omega) (fun q hq => by simp [Value.ownBlock] at hq; omega))
      | (refine step_append_long _ (by rfl) _ _ (by rfl) w4.heap.size v1 (0 + len) ([] ++ cs) _ (by rfl) (by rfl) (by have := hbA.size; simp <;> omega) (by repeat (first | exact ho1 | apply World.ownsRow.drew | refine World.ownsRow.alloc ?_ _)) (by first | ((simp only [heap_drew0, heap_push, World.size_alloc, if_true]; repeat (first | rw [if_pos (by omega)] | rw [if_neg (by omega)])); exact ⟨_, rfl⟩) | ((try simp only [heap_drew0]); rw [hg1.block _ (by simp <;> omega) (by simp [Value.ownBlock] <;> omega)]; (simp only [heap_drew0, heap_push, World.size_alloc, if_true]; repeat (first | rw [if_pos (by omega)] | rw [if_neg (by omega)])); exact ⟨_, rfl⟩)) (by omega) ?_
         intro F v2 w2 ho2 hg2
         have HLG : LongAt w4 w2 (ls.map List.length) v2 := LongAt.of (rcells_lens hcs) (by simpa [h.1] using ho2) (Below.grown (by repeat (first | exact hbA | apply Below.drew | refine Below.alloc ?_ (by have := hbA.size; simp <;> omega) _)) hg2 (by have := hbA.size; simp <;> omega) (fun q hq => (ho1.lt q hq).1))))
    all_goals
      go_wp2_with fail
      go_meet
      exact HLG
  case rest =>
    obtain ⟨⟨A5, cap5, rfl, hlens⟩, hb5⟩ := hcut
    have hC5 := hC4.below hb5
    have hns : (ls.map List.length).length = len := by rw [List.length_map, h.1]
    have hnl : (ls.map List.length ++ [60001]).length = len + 1 := by rw [List.length_append, hns]; rfl
    have hbad : ¬ ∀ n ∈ ls.map List.length ++ [60001], n ≤ 60000 := fun hq => by
      have := hq 60001 (by simp)
      omega
    rw [hns]
    have hU := dsk_used wc d D Z hC5.lg.dk
    have hAl := add_long wc j A5 (len + 1) cap5 _ hlens hnl (by omega) hbad
    have hRl := reset_long wc j A5 (len + 1) cap5 _ hlens hnl (by omega) hbad
    have hLn := loglen_any wc j d D nmA (len : Int) Z hC5.lg
    have hlow := hC5.low
    generalize usedF D.l = U at hU
    clear hC4 hC5 hlens hns hnl hbad hrw hmk h hf1 hF1
    go_wp2_with fail
    refine hU.mono ?_
    rintro e w6 ⟨rfl, rfl⟩
    go_wp2_with fail
    refine (add_nil _ A len cap).mono ?_
    rintro e w6 ⟨rfl, rfl⟩
    go_wp2_with fail
    refine (reset_nil _ A len cap).mono ?_
    rintro e w6 ⟨rfl, rfl⟩
    go_wp2_with fail
    refine (len_nil _).mono ?_
    rintro e w6 ⟨rfl, rfl⟩
    go_wp2_with fail
    refine hAl.mono ?_
    rintro e w6 ⟨rfl, rfl⟩
    go_wp2_with fail
    refine hRl.mono ?_
    rintro e w6 ⟨rfl, rfl⟩
    go_wp2_with fail
    refine hU.mono ?_
    rintro e w6 ⟨rfl, rfl⟩
    go_wp2_with fail
    refine hLn.mono ?_
    rintro e w6 ⟨rfl, rfl⟩
    go_wp2
    go_ret
    exact ⟨rfl, hlow⟩

set_option maxRecDepth 100000 in
set_option maxHeartbeats 3200000 in
theorem walk_no (A : Option Addr) (len cap : Nat) (ls : List (List UInt8)) (name : ByteArray) (w : World)
    (h : Recs w (· < w.heap.size) A len cap ls) (hm : cap ≤ maxLen) (hno : smallB ls = false ∨ 20 < name.size) :
    Calls Try.prog 8 #[.slice A len cap, .string name] w fun e w' => e = .returned (.bool true) ∧ Below w.heap.size w w' := by
  have hs1 := fun w1 (hb : Below w.heap.size w w1) => small_any _ A len cap ls w1 (h.below hb (Nat.le_refl _)) (Nat.le_trans h.2.1 hm)
  generalize smallB ls = s1 at *
  clear h hm
  cases s1 with
  | false =>
    clear hno
    go_enter Try.func8, Try.ntmps8
    go_wp2_with fail
    refine (awake_any _).mono ?_
    rintro e w1 ⟨rfl, hb1⟩
    have hS := hs1 w1 hb1
    go_wp2_with fail
    refine hS.mono ?_
    rintro e w2 ⟨rfl, rfl⟩
    go_wp2_with fail
    refine (awake_any _).mono ?_
    rintro e w3 ⟨rfl, hb3⟩
    go_wp2
    go_ret
    exact ⟨rfl, hb1.trans (hb3.mono hb1.size)⟩
  | true =>
    have h9 : 20 < name.size := by simpa using hno
    have h9' : (20 : Int) < (name.size : Int) := by omega
    clear hno h9
    go_enter Try.func8, Try.ntmps8
    go_wp2_with fail
    refine (awake_any _).mono ?_
    rintro e w1 ⟨rfl, hb1⟩
    have hS := hs1 w1 hb1
    go_wp2_with fail
    refine hS.mono ?_
    rintro e w2 ⟨rfl, rfl⟩
    go_wp2_with fail
    refine (awake_any _).mono ?_
    rintro e w3 ⟨rfl, hb3⟩
    go_wp2
    go_ret
    exact ⟨rfl, hb1.trans (hb3.mono hb1.size)⟩

theorem walk (A : Option Addr) (len cap : Nat) (ls : List (List UInt8)) (name : ByteArray) (W : World)
    (h : Recs W (· < W.heap.size) A len cap ls) (hm : cap ≤ maxLen) :
    Calls Try.prog 8 #[.slice A len cap, .string name] W fun e w' => e = .returned (.bool true) ∧ Below W.heap.size W w' := by
  by_cases h1 : smallB ls = true
  · by_cases h2 : 20 < name.size
    · exact walk_no A len cap ls name W h hm (.inr h2)
    · exact walk_yes A len cap ls name W h h1 (by omega)
  · exact walk_no A len cap ls name W h hm (.inl (by simpa using h1))

end Go.Proofs.Ytnkfdnehkihbeaa.walNil
