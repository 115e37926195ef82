/- The program's number and rightVer, by their contracts. (Written by mkpa.py.) -/
import Derived.Test.YtmihijlegacjdaaHisBeh
import Derived.Test.YtmihijlegacjdaaHisSame
namespace Go.Proofs.Ytmihijlegacjdaa
open Go.RowKit
set_option linter.unusedVariables false
set_option linter.unusedSimpArgs false
attribute [local go_sem] Oper.semAt_some

def His.numB (n : Int) : Bool := decide (1 ≤ n ∧ n ≤ 1099511627776)

theorem numP_any (n : Int) (w : World) : Calls Try.prog 34 #[.int .i64 n] w fun e w' => e = .returned (.bool (His.numB n)) ∧ w = w' := by
  unfold His.numB
  by_cases h1 : 1 ≤ n
  · have e1 : decide (1 ≤ n) = true := decide_eq_true h1
    by_cases h2 : n ≤ 1099511627776
    · have e2 : decide (n ≤ 1099511627776) = true := decide_eq_true h2
      rw [decide_eq_true (show 1 ≤ n ∧ n ≤ 1099511627776 from ⟨h1, h2⟩)]
      clear h1 h2
      go_enter Try.func34, Try.ntmps34
      go_wp2
      go_ret
      exact ⟨rfl, rfl⟩
    · have e2 : decide (n ≤ 1099511627776) = false := decide_eq_false h2
      rw [decide_eq_false (show ¬ (1 ≤ n ∧ n ≤ 1099511627776) from fun h => h2 h.2)]
      clear h1 h2
      go_enter Try.func34, Try.ntmps34
      go_wp2
      go_ret
      exact ⟨rfl, rfl⟩
  · have e1 : decide (1 ≤ n) = false := decide_eq_false h1
    rw [decide_eq_false (show ¬ (1 ≤ n ∧ n ≤ 1099511627776) from fun h => h1 h.1)]
    clear h1
    go_enter Try.func34, Try.ntmps34
    go_wp2
    go_ret
    exact ⟨rfl, rfl⟩

namespace His
theorem verB_r {x : Ver} (h : numB x.r = false) : verB x = false := by
  unfold numB at h
  have h := of_decide_eq_false h
  unfold verB top
  rw [if_pos (by omega)]

theorem verB_m {x : Ver} (h : numB x.m = false) : verB x = false := by
  unfold numB at h
  have h := of_decide_eq_false h
  unfold verB top
  rw [if_pos (by omega)]

theorem verB_g {x : Ver} (h1 : numB x.r = true) (h2 : numB x.m = true) (hg : x.g = true) : verB x = decide (x = goneV x.r x.m) := by
  unfold numB at h1 h2
  have h1 := of_decide_eq_true h1
  have h2 := of_decide_eq_true h2
  unfold verB top
  rw [if_neg (by omega), if_pos hg, decide_eq_decide]
  obtain ⟨r, k, m, v, s, l, g⟩ := x
  obtain rfl : g = true := hg
  unfold goneV
  constructor
  · rintro ⟨h3, h4, h5, h6⟩
    obtain rfl : k = 0 := h3
    obtain rfl : v = 0 := h4
    obtain rfl : l = 0 := h5
    have h6 : s.size = 0 := h6
    obtain rfl : s = ⟨#[]⟩ := by
      obtain ⟨⟨d⟩⟩ := s
      cases d with
      | nil => rfl
      | cons b d => exact absurd h6 (by simp [ByteArray.size])
    rfl
  · intro e
    injection e with e1 e2 e3 e4 e5 e6 e7
    subst e2 e4 e5 e6
    exact ⟨rfl, rfl, rfl, rfl⟩

theorem verB_l {x : Ver} (h1 : numB x.r = true) (h2 : numB x.m = true) (hg : x.g = false) : verB x = (decide (1 ≤ x.k) && (decide (x.k ≤ x.m) && (numB x.v && (decide ((x.s.size : Int) ≤ 40) && (decide (-1099511627776 ≤ x.l) && decide (x.l ≤ 1099511627776)))))) := by
  unfold numB at h1 h2 ⊢
  have h1 := of_decide_eq_true h1
  have h2 := of_decide_eq_true h2
  unfold verB top
  rw [if_neg (by omega), if_neg (by rw [hg]; decide)]
  rw [Bool.eq_iff_iff]
  simp only [Bool.and_eq_true, decide_eq_true_eq]
  omega
end His

set_option maxRecDepth 100000 in
set_option maxHeartbeats 3200000 in
theorem verP_any (x : Ver) (w : World) : Calls Try.prog 25 #[verV x] w fun e w' => e = .returned (.bool (His.verB x)) ∧ Below w.heap.size w w' := by
  have hb : Below w.heap.size w (w.alloc (.cells #[.int .i64 x.r, .int .i64 x.k, .int .i64 x.m, .int .i64 x.v, .string x.s, .int .i64 x.l, .bool x.g] 26)) := (Below.refl _ _).alloc (Nat.le_refl _) _
  have hr := His.verB_r (x := x)
  have hm := His.verB_m (x := x)
  have hg := His.verB_g (x := x)
  have hl := His.verB_l (x := x)
  have hnr := fun W => numP_any x.r W
  have hnm := fun W => numP_any x.m W
  have hnv := fun W => numP_any x.v W
  have f1 := fun W => ver_eql x (His.goneV x.r x.m) W
  have f2 := ver_guard
  obtain ⟨VB, hVB⟩ : ∃ VB, His.verB x = VB := ⟨_, rfl⟩
  rw [hVB] at hr hm hg hl ⊢
  clear hVB
  have e0 : decide (x = His.goneV x.r x.m) = true ∨ decide (x = His.goneV x.r x.m) = false := by cases decide (x = His.goneV x.r x.m) <;> simp
  generalize decide (x = His.goneV x.r x.m) = eqg at *
  generalize His.numB x.r = nr at *
  generalize His.numB x.m = nm at *
  generalize His.numB x.v = nv at *
  clear e0
  dsimp only [verV, His.goneV] at f1 ⊢
  obtain ⟨r, k, m, v, s, l, g⟩ := x
  dsimp only at *
  cases nr with
  | false =>
    obtain rfl := hr rfl
    clear hr hm hg hl f1 f2 hnm hnv
    go_enter Try.func25, Try.ntmps25
    go_wp2_with fail
    refine (hnr _).mono ?_
    rintro e w1 ⟨rfl, rfl⟩
    go_wp2
    go_ret
    exact ⟨rfl, hb⟩
  | true =>
    cases nm with
    | false =>
      obtain rfl := hm rfl
      clear hr hm hg hl f1 f2 hnv
      go_enter Try.func25, Try.ntmps25
      go_wp2_with fail
      refine (hnr _).mono ?_
      rintro e w1 ⟨rfl, rfl⟩
      go_wp2_with fail
      refine (hnm _).mono ?_
      rintro e w1 ⟨rfl, rfl⟩
      go_wp2
      go_ret
      exact ⟨rfl, hb⟩
    | true =>
      cases g with
      | true =>
        obtain rfl := hg rfl rfl rfl
        clear hr hm hg hl hnv
        go_enter Try.func25, Try.ntmps25
        go_wp2_with fail
        refine (hnr _).mono ?_
        rintro e w1 ⟨rfl, rfl⟩
        go_wp2_with fail
        refine (hnm _).mono ?_
        rintro e w1 ⟨rfl, rfl⟩
        go_wp2
        go_ret
        exact ⟨rfl, hb⟩
      | false =>
        replace hl := hl rfl rfl rfl
        clear hr hm hg f1 f2
        by_cases h0 : 1 ≤ k
        case neg =>
          have e0 : decide (1 ≤ k) = false := decide_eq_false h0
          obtain rfl : VB = false := by rw [hl, e0]; simp
          clear hl
          clear h0
          go_enter Try.func25, Try.ntmps25
          go_wp2_with fail
          refine (hnr _).mono ?_
          rintro e w1 ⟨rfl, rfl⟩
          go_wp2_with fail
          refine (hnm _).mono ?_
          rintro e w1 ⟨rfl, rfl⟩
          go_wp2
          go_ret
          exact ⟨rfl, hb⟩
        have e0 : decide (1 ≤ k) = true := decide_eq_true h0
        by_cases h1 : k ≤ m
        case neg =>
          have e1 : decide (k ≤ m) = false := decide_eq_false h1
          obtain rfl : VB = false := by rw [hl, e1]; simp
          clear hl
          clear h0 h1
          go_enter Try.func25, Try.ntmps25
          go_wp2_with fail
          refine (hnr _).mono ?_
          rintro e w1 ⟨rfl, rfl⟩
          go_wp2_with fail
          refine (hnm _).mono ?_
          rintro e w1 ⟨rfl, rfl⟩
          go_wp2
          go_ret
          exact ⟨rfl, hb⟩
        have e1 : decide (k ≤ m) = true := decide_eq_true h1
        cases nv with
        | false =>
          obtain rfl : VB = false := by rw [hl]; simp
          clear hl
          go_enter Try.func25, Try.ntmps25
          go_wp2_with fail
          refine (hnr _).mono ?_
          rintro e w1 ⟨rfl, rfl⟩
          go_wp2_with fail
          refine (hnm _).mono ?_
          rintro e w1 ⟨rfl, rfl⟩
          go_wp2_with fail
          refine (hnv _).mono ?_
          rintro e w1 ⟨rfl, rfl⟩
          go_wp2
          go_ret
          exact ⟨rfl, hb⟩
        | true =>
          skip
          by_cases h3 : (s.size : Int) ≤ 40
          case neg =>
            have e3 : decide ((s.size : Int) ≤ 40) = false := decide_eq_false h3
            obtain rfl : VB = false := by rw [hl, e3]; simp
            clear hl
            clear h0 h1 h3
            go_enter Try.func25, Try.ntmps25
            go_wp2_with fail
            refine (hnr _).mono ?_
            rintro e w1 ⟨rfl, rfl⟩
            go_wp2_with fail
            refine (hnm _).mono ?_
            rintro e w1 ⟨rfl, rfl⟩
            go_wp2_with fail
            refine (hnv _).mono ?_
            rintro e w1 ⟨rfl, rfl⟩
            go_wp2
            go_ret
            exact ⟨rfl, hb⟩
          have e3 : decide ((s.size : Int) ≤ 40) = true := decide_eq_true h3
          by_cases h4 : -1099511627776 ≤ l
          case neg =>
            have e4 : decide (-1099511627776 ≤ l) = false := decide_eq_false h4
            obtain rfl : VB = false := by rw [hl, e4]; simp
            clear hl
            clear h0 h1 h3 h4
            go_enter Try.func25, Try.ntmps25
            go_wp2_with fail
            refine (hnr _).mono ?_
            rintro e w1 ⟨rfl, rfl⟩
            go_wp2_with fail
            refine (hnm _).mono ?_
            rintro e w1 ⟨rfl, rfl⟩
            go_wp2_with fail
            refine (hnv _).mono ?_
            rintro e w1 ⟨rfl, rfl⟩
            go_wp2
            go_ret
            exact ⟨rfl, hb⟩
          have e4 : decide (-1099511627776 ≤ l) = true := decide_eq_true h4
          by_cases h5 : l ≤ 1099511627776
          case neg =>
            have e5 : decide (l ≤ 1099511627776) = false := decide_eq_false h5
            obtain rfl : VB = false := by rw [hl, e5]; simp
            clear hl
            clear h0 h1 h3 h4 h5
            go_enter Try.func25, Try.ntmps25
            go_wp2_with fail
            refine (hnr _).mono ?_
            rintro e w1 ⟨rfl, rfl⟩
            go_wp2_with fail
            refine (hnm _).mono ?_
            rintro e w1 ⟨rfl, rfl⟩
            go_wp2_with fail
            refine (hnv _).mono ?_
            rintro e w1 ⟨rfl, rfl⟩
            go_wp2
            go_ret
            exact ⟨rfl, hb⟩
          have e5 : decide (l ≤ 1099511627776) = true := decide_eq_true h5
          obtain rfl : VB = true := by rw [hl, e0, e1, e3, e4, e5]; rfl
          clear hl
          clear h0 h1 h3 h4 h5
          go_enter Try.func25, Try.ntmps25
          go_wp2_with fail
          refine (hnr _).mono ?_
          rintro e w1 ⟨rfl, rfl⟩
          go_wp2_with fail
          refine (hnm _).mono ?_
          rintro e w1 ⟨rfl, rfl⟩
          go_wp2_with fail
          refine (hnv _).mono ?_
          rintro e w1 ⟨rfl, rfl⟩
          go_wp2
          go_ret
          exact ⟨rfl, hb⟩

end Go.Proofs.Ytmihijlegacjdaa
