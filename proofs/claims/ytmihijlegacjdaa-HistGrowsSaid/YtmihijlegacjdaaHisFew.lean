/- A law's acts: are there few? -/
import Derived.Test.YtmihijlegacjdaaHisArgs
namespace Go.Proofs.Ytmihijlegacjdaa
open Go.RowKit
set_option linter.unusedVariables false
set_option linter.unusedSimpArgs false
attribute [local go_sem] Oper.semAt_some

set_option maxRecDepth 100000 in
set_option maxHeartbeats 3200000 in
theorem fewActs_any (A : Option Addr) (len cap : Nat) (K : Nat → HAct) (w : World) (h : HActs w A len K) (hm : len ≤ maxLen) (hs : ∀ j, j < len → HActWf (K j)) :
    Calls Try.prog 17 #[.slice A len cap] w fun e w' => ∃ b, e = .returned (.bool b) ∧ (b = true → len ≤ 40) ∧ w = w' := by
  unfold maxLen at hm
  have HV := Lib.hid (And.intro h hs)
  clear h hs
  go_enter Try.func17, Try.ntmps17
  go_wp2_with fail
  go_loopw [6] (fun v6 wr => ∃ k : Nat, k ≤ len ∧ v6 = .int .i64 (k : Int) ∧ wr = w ∧ k ≤ 40) (fun v6 _ => len - (intOf v6).toNat)
  case atStart => exact ⟨0, Nat.zero_le _, rfl, rfl, Nat.zero_le _⟩
  case round =>
    obtain ⟨k, hk, rfl, rfl, h40⟩ := hrel
    by_cases hlt : k < len
    · have l1 : decide ((k : Int) < (len : Int)) = true := decide_eq_true (by omega)
      by_cases h4 : 40 ≤ k
      · have l2 : decide ((40 : Int) ≤ (k : Int)) = true := decide_eq_true (by omega)
        go_wp2
        go_ret
        exact ⟨false, rfl, (fun e => by cases e), rfl⟩
      · have l2 : decide ((40 : Int) ≤ (k : Int)) = false := decide_eq_false (by omega)
        obtain ⟨g, off, rfl, hg, hc⟩ := HV.out.1 (by omega)
        have c3 := hc k hlt 3 _ rfl
        have c9 := hc k hlt 9 _ rfl
        have hz1 := (HV.out.2 k hlt).s
        have hz2 := (HV.out.2 k hlt).x.s
        obtain ⟨s, hs⟩ : ∃ s, (K k).s = s := ⟨_, rfl⟩
        obtain ⟨u, hu⟩ : ∃ u, (K k).x.s = u := ⟨_, rfl⟩
        rw [hs] at c3 hz1
        rw [hu] at c9 hz2
        unfold maxLen at hz1 hz2
        clear hc hs hu
        by_cases h1 : 100 < s.size
        · have l3 : decide ((100 : Int) < (s.size : Int)) = true := decide_eq_true (by omega)
          go_wp2
          go_ret
          exact ⟨false, rfl, (fun e => by cases e), rfl⟩
        · have l3 : decide ((100 : Int) < (s.size : Int)) = false := decide_eq_false (by omega)
          by_cases h2 : 100 < u.size
          · have l4 : decide ((100 : Int) < (u.size : Int)) = true := decide_eq_true (by omega)
            go_wp2
            go_ret
            exact ⟨false, rfl, (fun e => by cases e), rfl⟩
          · have l4 : decide ((100 : Int) < (u.size : Int)) = false := decide_eq_false (by omega)
            go_wp2
            go_roundw
            case rel => exact ⟨k + 1, hlt, by go_num, by first | rfl | trivial, by omega⟩
            case measure =>
              simp [intOf]
              omega
    · obtain rfl : k = len := by omega
      have l1 : decide ((k : Int) < (k : Int)) = false := decide_eq_false (by omega)
      go_wp2
      go_ret
      exact ⟨true, rfl, fun _ => h40, rfl⟩

end Go.Proofs.Ytmihijlegacjdaa
