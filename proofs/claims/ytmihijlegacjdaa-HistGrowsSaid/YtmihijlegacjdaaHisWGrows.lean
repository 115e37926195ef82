/- HistGrows's walk. (Written by mkwalk.py.) -/
import Derived.Test.YtmihijlegacjdaaHisMade
namespace Go.Proofs.Ytmihijlegacjdaa
open Go.RowKit
set_option linter.unusedVariables false
set_option linter.unusedSimpArgs false
attribute [local go_sem] Oper.semAt_some

set_option maxRecDepth 100000 in
set_option maxHeartbeats 6400000 in
theorem histGrows_walk (A : Option Addr) (len cap : Nat) (K : Nat → HAct) (w : World) (hA : HActs w A len K) (hm : len ≤ maxLen) (hs : ∀ j, j < len → HActWf (K j)) :
    Calls Try.prog 4 #[.slice A len cap] w fun e w' => e = .returned (.bool true) ∧ Below w.heap.size w w' := by
  have HV := Lib.hid (And.intro hA hs)
  clear hA hs
  go_enter Try.func4, Try.ntmps4
  go_wp2_with fail
  refine (awake14_any _).mono ?_
  rintro e w1 ⟨rfl, hb1⟩
  have hF := fewActs_any A len cap K w1 (HV.out.1.below hb1) hm HV.out.2
  have HB := Lib.hid hb1
  clear hb1
  go_wp2_with fail
  refine hF.mono ?_
  rintro e w1' ⟨b, rfl, hb40, rfl⟩
  cases b with
  | false =>
    go_wp2_with fail
    refine (awake14_any _).mono ?_
    rintro e w8 ⟨rfl, hb8⟩
    have hbz := HB.out.trans (hb8.mono HB.out.size)
    go_wp2
    go_ret
    exact ⟨rfl, hbz⟩
  | true =>
    have h40 := hb40 rfl
    clear hF hb40
    go_wp2_with fail
    go_loopw [3, 4, 16] (fun v3 v4 v16 wr => ∃ k : Nat, k ≤ len ∧ v16 = .int .i64 (k : Int) ∧ v4 = .bool true ∧ ∃ R n c, v3 = .slice R n c ∧ MadeH w wr K k R n c) (fun _ _ v16 _ => len - (intOf v16).toNat)
    case atStart => exact ⟨0, Nat.zero_le _, rfl, rfl, none, 0, 0, rfl, MadeH.start K HB.out⟩
    case round =>
      obtain ⟨k, hk, rfl, rfl, R, n, c, rfl, hM⟩ := hrel
      by_cases hlt : k < len
      · have l1 : decide ((k : Int) < (len : Int)) = true := decide_eq_true (by omega)
        have k4 : (k : Int) < (len : Int) := by omega
        obtain ⟨g, off, rfl, c0, c1, c2, c3, c4, c5, c6, c7, c8, c9, c10, c11⟩ := (HV.out.1.below hM.b).cells hlt
        have hD := hM.do_ (by omega)
        dsimp only [hactV] at hD
        clear hM
        go_wp2_with fail
        refine hD.mono ?_
        rintro e w2 ⟨R2, n2, c2', rfl, hM2⟩
        have HM := Lib.hid hM2
        clear hM2 hD c0 c1 c2 c3 c4 c5 c6 c7 c8 c9 c10 c11
        go_wp2
        go_roundw
        case rel => exact ⟨k + 1, by omega, by go_num, rfl, R2, n2, c2', rfl, HM.out⟩
        case measure =>
          simp [intOf]
          omega
      · obtain rfl : k = len := by omega
        have l1 : decide ((k : Int) < (k : Int)) = false := decide_eq_false (by omega)
        have hn := hM.len
        have HM := Lib.hid hM
        have HR := Lib.hid (His.run_right K k)
        obtain ⟨l, hl⟩ : ∃ l, His.runL K k = l := ⟨_, rfl⟩
        have HM := Lib.hid (show Vers wr R n l ∧ n ≤ c ∧ Below w.heap.size w wr from ⟨by rw [← hl]; exact hM.v, hM.c, hM.b⟩)
        have HR := Lib.hid (show His.Right l by rw [← hl]; exact His.run_right K k)
        clear hM hl
        have hRt := rightP_any R n c l wr HM.out.1 HM.out.2.1 (by omega)
        rw [(His.right_iff l).2 HR.out] at hRt
        go_wp2_with fail
        refine hRt.mono ?_
        rintro e w3 ⟨rfl, hb3⟩
        have hbz := HM.out.2.2.trans (hb3.mono HM.out.2.2.size)
        go_wp2
        go_ret
        exact ⟨rfl, hbz⟩


end Go.Proofs.Ytmihijlegacjdaa
