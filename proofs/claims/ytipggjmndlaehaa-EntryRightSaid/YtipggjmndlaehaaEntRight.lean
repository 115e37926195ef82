/- EntryRight's walk. -/
import Derived.Test.YtipggjmndlaehaaEntAwake
import Derived.Deep.RegionHeld3
import Derived.Deep.RegionWith
namespace Go.Proofs.Ytipggjmndlaehaa.entryRight
open Go.ChangeShapes Go.WideShapes Go.ChangeAt Go.RowKit Go.Proofs.Ytipggjmndlaehaa
set_option linter.unusedVariables false
set_option linter.unusedSimpArgs false

theorem few_le {ls : List Ent} {m : Nat} (h : fewE ls m = true) : ls.length ≤ m := by
  unfold fewE at h
  simp only [Bool.and_eq_true, decide_eq_true_eq] at h
  exact h.1

set_option maxRecDepth 100000 in
set_option maxHeartbeats 1600000 in
theorem walk_out (A : Option Addr) (len cap : Nat) (ls : List Ent) (i t : Int) (th vh : Int) (si st : Int) (E : Option Addr) (n c : Nat) (w : World) (h : Ents w (· < w.heap.size) A len cap ls) (hm : len ≤ maxLen) (hd : ∀ e ∈ ls, e.d.length ≤ 140737488355328) (hn : n ≤ maxLen)
    (hno : fewE ls 40 = false ∨ 60000 < n) :
    Calls Try.prog 3 #[.slice A len cap, .int .i64 i, .int .i64 t, .agg #[.int .i64 th, .int .i64 vh], entV si st E n c] w fun e w' => e = .returned (.bool true) ∧ Below w.heap.size w w' := by
  have hb0 := ((Below.refl w.heap.size w).alloc (Nat.le_refl _) (.cells #[.int .i64 th, .int .i64 vh] 24)).alloc (by simp) (.cells #[.int .i64 si, .int .i64 st, .slice E n c] 27)
  have hr0 := heap_alloc_new (w.alloc (.cells #[.int .i64 th, .int .i64 vh] 24)) (.cells #[.int .i64 si, .int .i64 st, .slice E n c] 27)
  have hs0 : (w.alloc (.cells #[.int .i64 th, .int .i64 vh] 24)).heap.size = w.heap.size + 1 := by simp
  rw [hs0] at hr0
  have hF := fun W (hW : Below w.heap.size w W) => fewR_any _ A len cap ls 40 W (h.below hW (Nat.le_refl _)) hm (by omega) hd
  unfold maxLen at hn hm
  clear h hd
  generalize fewE ls 40 = q at *
  go_enter Try.func3, Try.ntmps3
  go_wp2_with fail
  refine (awake_any _).mono ?_
  rintro e w1 ⟨rfl, hb1⟩
  have hbw1 := hb0.trans (hb1.mono hb0.size)
  have hr1 := (hb1.block _ (hlt hr0)).trans hr0
  have hF1 := hF w1 hbw1
  clear hF hb0 hb1 hr0
  go_wp2_with fail
  refine hF1.mono ?_
  rintro e w2 ⟨rfl, rfl⟩
  obtain ⟨⟨a0, a1, a2⟩, _⟩ := row3 hr1
  have hA := awake_any w1
  clear hF1 hs0
  cases q with
  | false =>
    clear hno
    go_wp2_with fail
    refine hA.mono ?_
    rintro e w3 ⟨rfl, hb3⟩
    go_wp2
    go_ret
    exact ⟨rfl, hbw1.trans (hb3.mono hbw1.size)⟩
  | true =>
    have hn6 : (60000 : Int) < (n : Int) := by
      rcases hno with h | h
      · cases h
      · omega
    clear hno
    go_wp2_with fail
    refine hA.mono ?_
    rintro e w3 ⟨rfl, hb3⟩
    go_wp2
    go_ret
    exact ⟨rfl, hbw1.trans (hb3.mono hbw1.size)⟩

set_option maxRecDepth 100000 in
set_option maxHeartbeats 6400000 in
theorem walk_in (A : Option Addr) (len cap : Nat) (ls : List Ent) (i t : Int) (th vh : Int) (si st : Int) (E : Option Addr) (n c : Nat) (w : World) (h : Ents w (· < w.heap.size) A len cap ls) (hm : len ≤ maxLen) (hd : ∀ e ∈ ls, e.d.length ≤ 140737488355328) (hn : n ≤ maxLen)
    (hf : fewE ls 40 = true) (h6 : n ≤ 60000) :
    Calls Try.prog 3 #[.slice A len cap, .int .i64 i, .int .i64 t, .agg #[.int .i64 th, .int .i64 vh], entV si st E n c] w fun e w' => e = .returned (.bool true) ∧ Below w.heap.size w w' := by
  have hb0 := ((Below.refl w.heap.size w).alloc (Nat.le_refl _) (.cells #[.int .i64 th, .int .i64 vh] 24)).alloc (by simp) (.cells #[.int .i64 si, .int .i64 st, .slice E n c] 27)
  have hr0 := heap_alloc_new (w.alloc (.cells #[.int .i64 th, .int .i64 vh] 24)) (.cells #[.int .i64 si, .int .i64 st, .slice E n c] 27)
  have hs0 : (w.alloc (.cells #[.int .i64 th, .int .i64 vh] 24)).heap.size = w.heap.size + 1 := by simp
  have hr00 : ((w.alloc (.cells #[.int .i64 th, .int .i64 vh] 24)).alloc (.cells #[.int .i64 si, .int .i64 st, .slice E n c] 27)).heap[w.heap.size]? = some (.cells #[.int .i64 th, .int .i64 vh] 24) := (Below.heap_alloc _ _ _ (by simp)).trans (heap_alloc_new _ _)
  rw [hs0] at hr0
  have hF := fun W (hW : Below w.heap.size w W) => fewR_any _ A len cap ls 40 W (h.below hW (Nat.le_refl _)) hm (by omega) hd
  have hlen := few_le hf
  rw [hf] at hF
  have hR1 := fun W (hW : Below w.heap.size w W) => runP_any _ A len cap ls i t W (h.below hW (Nat.le_refl _)) hm
  have hR2 := fun W (hW : Below w.heap.size w W) => runR_any _ A len cap ls i t W (h.below hW (Nat.le_refl _)) hm
  have hll := h.1
  unfold maxLen at hn hm
  clear hd hf
  have h6' : ((60000 : Int) < (n : Int)) = False := eq_false (by omega)
  go_enter Try.func3, Try.ntmps3
  go_wp2_with fail
  refine (awake_any _).mono ?_
  rintro e w1 ⟨rfl, hb1⟩
  have hbw1 := hb0.trans (hb1.mono hb0.size)
  have hr1 := (hb1.block _ (hlt hr0)).trans hr0
  have hr01 := (hb1.block _ (hlt hr00)).trans hr00
  have hF1 := hF w1 hbw1
  clear hF hb0 hb1 hr0 hr00
  go_wp2_with fail
  refine hF1.mono ?_
  rintro e w2 ⟨rfl, rfl⟩
  obtain ⟨⟨a0, a1, a2⟩, _⟩ := row3 hr1
  obtain ⟨⟨b0, b1⟩, _⟩ := row2 hr01
  have hs1 : w.heap.size + 1 < w1.heap.size := hlt hr1
  clear hF1 hs0
  go_wp2
  go_loopg [28] len (fun g x wr => ∃ k : Nat, k + g = len ∧ x = .int .i64 (k : Int) ∧ Below w1.heap.size w1 wr)
  case atStart => exact ⟨0, by omega, rfl, Below.refl _ _⟩
  case round =>
    obtain ⟨k, hk, rfl, hb⟩ := hrel
    by_cases hlt : k < len
    · have hlt' : (k : Int) < (len : Int) := by omega
      have hbw := hbw1.trans (hb.mono hbw1.size)
      obtain ⟨g, off, F, cc, rfl, hg, x0, x1, x2, hl⟩ := (h.below hbw (Nat.le_refl _)).at_ k hlt
      have hP := fun W => rightP_is (ls[k]'(by omega)).i (ls[k]'(by omega)).t F (ls[k]'(by omega)).d.length cc W
      have hQ := fun W => rightR_is (ls[k]'(by omega)).i (ls[k]'(by omega)).t F (ls[k]'(by omega)).d.length cc W
      generalize rightB (ls[k]'(by omega)).i (ls[k]'(by omega)).t (ls[k]'(by omega)).d.length = q at *
      generalize (ls[k]'(by omega)).d.length = ed at *
      generalize (ls[k]'(by omega)).i = ei at *
      generalize (ls[k]'(by omega)).t = et at *
      have hst : ∀ W W', Below wr.heap.size wr W → Below W.heap.size W W' → Below wr.heap.size wr W' ∧ W'.cell? ⟨g, off + k * 3, none⟩ = some (.int .i64 ei) ∧ W'.cell? ⟨g, off + k * 3 + 1, none⟩ = some (.int .i64 et) ∧ W'.cell? ⟨g, off + k * 3 + 2, none⟩ = some (.slice F ed cc) := fun W W' h1 h2 => by
        have h3 := h1.trans (h2.mono h1.size)
        exact ⟨h3, (h3.cell (p := ⟨g, off + k * 3, none⟩) hg).trans x0, (h3.cell (p := ⟨g, off + k * 3 + 1, none⟩) hg).trans x1, (h3.cell (p := ⟨g, off + k * 3 + 2, none⟩) hg).trans x2⟩
      have hB0 := (Below.refl wr.heap.size wr).drew
      have HB := Lib.hid hb
      have HK := Lib.hid hk
      clear hl h hR1 hR2 hbw hb hk a0 a1 a2 b0 b1
      go_wp2
      go_region_held3 (fun w' => Below wr.heap.size wr w' ∧ w'.cell? ⟨g, off + k * 3, none⟩ = some (.int .i64 ei) ∧ w'.cell? ⟨g, off + k * 3 + 1, none⟩ = some (.int .i64 et) ∧ w'.cell? ⟨g, off + k * 3 + 2, none⟩ = some (.slice F ed cc))
        (first | exact hS7 | (exact ⟨hB0, x0, x1, x2⟩) | (go_keep; done))
        (first
          | (go_at_call 9
             refine (hP _).mono ?_
             rintro e w7 ⟨rfl, hb7⟩
             have hS7 := hst _ w7 (by first | exact hS7.1 | exact hB0) hb7)
          | (go_at_call 10
             refine (hQ _).mono ?_
             rintro e w7 ⟨rfl, hb7⟩
             have hS7 := hst _ w7 (by first | exact hS7.1 | exact hB0) hb7))
      go_wp2
      go_roundg (gk - 1)
      case measure => have : k + gk = len := HK; omega
      case rel => exact ⟨k + 1, by have : k + gk = len := HK; omega, by go_num, Below.trans HB (hS7.1.mono (show Below w1.heap.size w1 wr from HB).size)⟩
    · obtain rfl : k = len := by omega
      have hdec : decide ((k : Int) < (k : Int)) = false := decide_eq_false (by omega)
      have hbw := hbw1.trans (hb.mono hbw1.size)
      have hRP := fun W (hW : Below wr.heap.size wr W) => hR1 W (hbw.trans (hW.mono hbw.size))
      have hRR := fun W (hW : Below wr.heap.size wr W) => hR2 W (hbw.trans (hW.mono hbw.size))
      have hHP := fun W => hardP_is th vh W
      have hHR := fun W => hardR_is th vh W
      have hSP := fun W => snapP_is si st E n c W
      have hSR := fun W => snapR_is si st E n c W
      generalize runB i t ls = q1 at *
      generalize hardB th vh = q2 at *
      generalize snapB si st n = q3 at *
      have b0' := (hb.cell (p := ⟨w.heap.size, 0, none⟩) (by show w.heap.size < _; omega)).trans b0
      have b1' := (hb.cell (p := ⟨w.heap.size, 1, none⟩) (by show w.heap.size < _; omega)).trans b1
      have a0' := (hb.cell (p := ⟨w.heap.size + 1, 0, none⟩) hs1).trans a0
      have a1' := (hb.cell (p := ⟨w.heap.size + 1, 1, none⟩) hs1).trans a1
      have a2' := (hb.cell (p := ⟨w.heap.size + 1, 2, none⟩) hs1).trans a2
      have hszr : w.heap.size + 1 < wr.heap.size := Nat.lt_of_lt_of_le hs1 hb.size
      have hst : ∀ W W', Below wr.heap.size wr W → Below W.heap.size W W' → Below wr.heap.size wr W' ∧ W'.cell? ⟨w.heap.size, 0, none⟩ = some (.int .i64 th) ∧ W'.cell? ⟨w.heap.size, 1, none⟩ = some (.int .i64 vh) ∧ W'.cell? ⟨w.heap.size + 1, 0, none⟩ = some (.int .i64 si) ∧ W'.cell? ⟨w.heap.size + 1, 1, none⟩ = some (.int .i64 st) ∧ W'.cell? ⟨w.heap.size + 1, 2, none⟩ = some (.slice E n c) := fun W W' h1 h2 => by
        have h3 := h1.trans (h2.mono h1.size)
        exact ⟨h3, (h3.cell (p := ⟨w.heap.size, 0, none⟩) (by show w.heap.size < _; omega)).trans b0', (h3.cell (p := ⟨w.heap.size, 1, none⟩) (by show w.heap.size < _; omega)).trans b1', (h3.cell (p := ⟨w.heap.size + 1, 0, none⟩) hszr).trans a0', (h3.cell (p := ⟨w.heap.size + 1, 1, none⟩) hszr).trans a1', (h3.cell (p := ⟨w.heap.size + 1, 2, none⟩) hszr).trans a2'⟩
      have hB0 := (Below.refl wr.heap.size wr).drew
      have HBW := Lib.hid hbw
      clear h hR1 hR2 hbw hb a0 a1 a2 b0 b1 hr1 hr01 hbw1 hs1 hll hk hm
      go_wp2
      go_region_held3 (fun w' => Below wr.heap.size wr w' ∧ w'.cell? ⟨w.heap.size, 0, none⟩ = some (.int .i64 th) ∧ w'.cell? ⟨w.heap.size, 1, none⟩ = some (.int .i64 vh) ∧ w'.cell? ⟨w.heap.size + 1, 0, none⟩ = some (.int .i64 si) ∧ w'.cell? ⟨w.heap.size + 1, 1, none⟩ = some (.int .i64 st) ∧ w'.cell? ⟨w.heap.size + 1, 2, none⟩ = some (.slice E n c))
        (first | exact hS7 | (exact ⟨hB0, b0', b1', a0', a1', a2'⟩) | (go_keep; done))
        (first
          | (go_at_call 11
             refine (hRP _ (by first | exact hS7.1 | exact hB0)).mono ?_
             rintro e w7 ⟨rfl, hb7⟩
             have hS7 := hst _ w7 (by first | exact hS7.1 | exact hB0) hb7)
          | (go_at_call 12
             refine (hRR _ (by first | exact hS7.1 | exact hB0)).mono ?_
             rintro e w7 ⟨rfl, hb7⟩
             have hS7 := hst _ w7 (by first | exact hS7.1 | exact hB0) hb7)
          | (go_at_call 13
             refine (hHP _).mono ?_
             rintro e w7 ⟨rfl, hb7⟩
             have hS7 := hst _ w7 (by first | exact hS7.1 | exact hB0) hb7)
          | (go_at_call 14
             refine (hHR _).mono ?_
             rintro e w7 ⟨rfl, hb7⟩
             have hS7 := hst _ w7 (by first | exact hS7.1 | exact hB0) hb7)
          | (go_at_call 15
             refine (hSP _).mono ?_
             rintro e w7 ⟨rfl, hb7⟩
             have hS7 := hst _ w7 (by first | exact hS7.1 | exact hB0) hb7)
          | (go_at_call 16
             refine (hSR _).mono ?_
             rintro e w7 ⟨rfl, hb7⟩
             have hS7 := hst _ w7 (by first | exact hS7.1 | exact hB0) hb7))
      go_wp2
      go_ret
      exact ⟨rfl, Below.trans HBW (hS7.1.mono (show Below w.heap.size w wr from HBW).size)⟩

theorem walk (A : Option Addr) (len cap : Nat) (ls : List Ent) (i t : Int) (th vh : Int) (si st : Int) (E : Option Addr) (n c : Nat) (w : World) (h : Ents w (· < w.heap.size) A len cap ls) (hm : len ≤ maxLen) (hd : ∀ e ∈ ls, e.d.length ≤ 140737488355328) (hn : n ≤ maxLen) :
    Calls Try.prog 3 #[.slice A len cap, .int .i64 i, .int .i64 t, .agg #[.int .i64 th, .int .i64 vh], entV si st E n c] w fun e w' => e = .returned (.bool true) ∧ Below w.heap.size w w' := by
  by_cases hno : fewE ls 40 = false ∨ 60000 < n
  · exact walk_out A len cap ls i t th vh si st E n c w h hm hd hn hno
  · refine walk_in A len cap ls i t th vh si st E n c w h hm hd hn ?_ (by omega)
    cases hq : fewE ls 40 with
    | true => rfl
    | false => exact absurd (.inl hq) hno

end Go.Proofs.Ytipggjmndlaehaa.entryRight
