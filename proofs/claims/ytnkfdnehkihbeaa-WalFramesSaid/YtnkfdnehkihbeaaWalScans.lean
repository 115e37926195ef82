/- WalScans' walk. -/
import Derived.Test.YtnkfdnehkihbeaaWalRefT
import Derived.Test.YtnkfdnehkihbeaaWalAwake
import Derived.Test.YtnkfdnehkihbeaaWalHelpB
namespace Go.Proofs.Ytnkfdnehkihbeaa.walScans
open Go.ChangeShapes Go.WideShapes Go.ChangeAt Go.RowKit Go.Proofs.Ytnkfdnehkihbeaa
set_option linter.unusedVariables false
set_option linter.unusedSimpArgs false

theorem texts_of {w : World} {base : Nat} {v : Value} {ts : List ByteArray} (h : w.ownsRow base 9 1 v ts.length (ts.map fun p => .string p)) : ∃ A cap, v = .slice A ts.length cap ∧ STexts w A (ts.map btl) := by
  have e : (ts.map fun p => Value.string p) = (ts.map btl).map txt := by
    rw [List.map_map]
    congr 1
  rw [e] at h
  rcases h.2 with ⟨rfl, h0⟩ | ⟨g, cap, cur, rfl, _⟩
  · exact ⟨none, 0, by rw [h0], fun h1 => by rw [List.length_map] at h1; omega⟩
  · refine ⟨_, _, rfl, (STexts.of_row (ts := ts.map btl) (by rw [List.length_map]; exact h)).1⟩

set_option maxRecDepth 100000 in
set_option maxHeartbeats 1600000 in
theorem walk (A : Option Addr) (len cap : Nat) (l : List UInt8) (w : World) (h : Lies w A len cap l) (hm : cap ≤ maxLen) :
    Calls Try.prog 4 #[.slice A len cap] w fun e w' => e = .returned (.bool true) ∧ Below w.heap.size w w' := by
  have hlm : len ≤ maxLen := Nat.le_trans h.2.1 hm
  unfold maxLen at hlm
  clear hm
  have hll := h.1
  by_cases h5 : 5000 < len
  · have h5' : (5000 : Int) < (len : Int) := by omega
    clear h hlm hll h5
    go_enter Try.func4, Try.ntmps4
    go_wp2_with fail
    refine (awake_any _).mono ?_
    rintro e w1 ⟨rfl, hb1⟩
    go_wp2_with fail
    refine (awake_any _).mono ?_
    rintro e w2 ⟨rfl, hb2⟩
    go_wp2
    go_ret
    exact ⟨rfl, hb1.trans (hb2.mono hb1.size)⟩
  · have h5' : ((5000 : Int) < (len : Int)) = False := eq_false (by omega)
    obtain ⟨s, es, bs, ss⟩ := btl_of l
    have hR := fun w1 => scanR_any s (by omega) w1
    unfold Scans at hR
    rw [bs] at hR
    have hcv : ∀ W, Below w.heap.size w W → (convert 22 9 (.slice A len cap)).run Try.prog W = .ok (.string s) W := fun W hb => es ▸ (h.below hb (Nat.le_refl _)).text Try.underlying22 Try.underlying5 Try.underlying9
    go_enter Try.func4, Try.ntmps4
    go_wp2_with fail
    refine (awake_any _).mono ?_
    rintro e w1 ⟨rfl, hb1⟩
    have hS := scan_any A len cap l w1 (h.below hb1 (Nat.le_refl _)) (by omega)
    unfold ScanP at hS
    have hmany : (scanL l).1.length ≤ 5000 := by
      obtain ⟨h1, h2⟩ := scanL_is l
      have := scanL_end l
      have h3 := congrArg List.length h1
      rw [List.length_take] at h3
      have h4 : (scanL l).1.length ≤ (framesL (scanL l).1).length := by
        generalize (scanL l).1 = q
        induction q with
        | nil => simp
        | cons r q ih => rw [framesL_cons, List.length_append, frameL_length, List.length_cons]; omega
      omega
    generalize scanL l = sc at *
    obtain ⟨ls, en⟩ := sc
    dsimp only at *
    have hR1 := fun w2 (hb : Below w.heap.size w w2) => hR w2
    have HH := Lib.hid h
    clear h hR hll hlm h5
    go_wp2_with fail
    refine hS.mono ?_
    rintro e w2 ⟨A2, cap2, rfl, hr2, hb2⟩
    have hbw2 : Below w.heap.size w w2 := hb1.trans (hb2.mono hb1.size)
    have hcv2 := hcv w2 hbw2
    clear hS hb2 hb1 hcv
    go_wp2_with fail
    refine (hR1 w2 hbw2).mono ?_
    rintro e w3 ⟨v, ts, rfl, ho3, hts, hb3⟩
    have hbw3 : Below w.heap.size w w3 := hbw2.trans (hb3.mono hbw2.size)
    obtain ⟨A3, cap3, rfl, hst⟩ := texts_of ho3
    rw [hts] at hst
    have htl : ts.length = ls.length := by rw [← hts, List.length_map]
    have hAl := alike_any _ A2 ls.length cap2 ls A3 ts.length cap3 ls w3 (hr2.below hb3 (Nat.le_refl _)) hst htl.symm (by unfold maxLen; omega)
    rw [decide_eq_true rfl] at hAl
    rw [htl] at hAl ⊢
    clear hR1 hcv2 hr2 hb3 ho3 hts hst htl hmany
    go_wp2_with fail
    refine hAl.mono ?_
    rintro e w4 ⟨rfl, hb4⟩
    go_wp2
    go_ret
    exact ⟨rfl, hbw3.trans (hb4.mono hbw3.size)⟩

end Go.Proofs.Ytnkfdnehkihbeaa.walScans
