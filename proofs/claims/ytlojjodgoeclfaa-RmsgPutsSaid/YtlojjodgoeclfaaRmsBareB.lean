/- The document's bare, by its contract, kind by kind. -/
import Derived.Test.YtlojjodgoeclfaaRmsRow
import Derived.BigQuiet
namespace Go.Proofs.Ytlojjodgoeclfaa
open Go.RowKit
set_option linter.unusedVariables false
set_option linter.unusedSimpArgs false

set_option maxRecDepth 100000 in
set_option maxHeartbeats 6400000 in
theorem bareR_2 (f o t i l c x : Int) (b : Bool) (A : Option Addr) (n cA : Nat) (si st : Int) (E : Option Addr) (sn cE : Nat) (w : World) :
    Calls Try.prog 31 #[.agg (mC 2 f o t i l c x b A n cA si st E sn cE)] w fun e w' => e = .returned (.bool (bareB 2 i l c x b n si st sn)) ∧ Below w.heap.size w w' := by
  have hb : Below w.heap.size w (w.alloc (.cells (mC 2 f o t i l c x b A n cA si st E sn cE) 27)) := (Below.refl _ _).alloc (Nat.le_refl _) _
  have hq : bareB 2 i l c x b n si st sn = (decide (i = 0) && (decide (l = 0) && (decide (c = 0) && (decide (n = 0) && (decide (x = 0) && (decide (si = 0) && (decide (st = 0) && (decide (sn = 0))))))))) := by unfold bareB; simp [Bool.and_assoc]
  rw [hq]
  clear hq
  by_cases h_i : i = 0
  case neg =>
    have e1 : (i == 0) = false := beq_eq_false_iff_ne.2 h_i
    have e2 : (i = 0) = False := eq_false h_i
    rw [decide_eq_false h_i, Bool.false_and]
    clear h_i
    go_enter Try.func31, Try.ntmps31
    dsimp only [List.append]
    go_wp2
    go_big_quiet (fail)
    go_wp2
    go_ret
    exact ⟨rfl, below_drewN hb _⟩
  subst h_i
  rw [decide_eq_true rfl, Bool.true_and]
  by_cases h_l : l = 0
  case neg =>
    have e1 : (l == 0) = false := beq_eq_false_iff_ne.2 h_l
    have e2 : (l = 0) = False := eq_false h_l
    rw [decide_eq_false h_l, Bool.false_and]
    clear h_l
    go_enter Try.func31, Try.ntmps31
    dsimp only [List.append]
    go_wp2
    go_big_quiet (fail)
    go_wp2
    go_ret
    exact ⟨rfl, below_drewN hb _⟩
  subst h_l
  rw [decide_eq_true rfl, Bool.true_and]
  by_cases h_c : c = 0
  case neg =>
    have e1 : (c == 0) = false := beq_eq_false_iff_ne.2 h_c
    have e2 : (c = 0) = False := eq_false h_c
    rw [decide_eq_false h_c, Bool.false_and]
    clear h_c
    go_enter Try.func31, Try.ntmps31
    dsimp only [List.append]
    go_wp2
    go_big_quiet (fail)
    go_wp2
    go_ret
    exact ⟨rfl, below_drewN hb _⟩
  subst h_c
  rw [decide_eq_true rfl, Bool.true_and]
  by_cases h_n : n = 0
  case neg =>
    have e1 : ((n : Int) == 0) = false := beq_eq_false_iff_ne.2 (by omega)
    have e2 : ((n : Int) = 0) = False := eq_false (by omega)
    have e3 : (n = 0) = False := eq_false h_n
    rw [decide_eq_false h_n, Bool.false_and]
    clear h_n
    go_enter Try.func31, Try.ntmps31
    dsimp only [List.append]
    go_wp2
    go_big_quiet (fail)
    go_wp2
    go_ret
    exact ⟨rfl, below_drewN hb _⟩
  subst h_n
  rw [decide_eq_true rfl, Bool.true_and]
  by_cases h_x : x = 0
  case neg =>
    have e1 : (x == 0) = false := beq_eq_false_iff_ne.2 h_x
    have e2 : (x = 0) = False := eq_false h_x
    rw [decide_eq_false h_x, Bool.false_and]
    clear h_x
    go_enter Try.func31, Try.ntmps31
    dsimp only [List.append]
    go_wp2
    go_big_quiet (fail)
    go_wp2
    go_ret
    exact ⟨rfl, below_drewN hb _⟩
  subst h_x
  rw [decide_eq_true rfl, Bool.true_and]
  by_cases h_si : si = 0
  case neg =>
    have e1 : (si == 0) = false := beq_eq_false_iff_ne.2 h_si
    have e2 : (si = 0) = False := eq_false h_si
    rw [decide_eq_false h_si, Bool.false_and]
    clear h_si
    go_enter Try.func31, Try.ntmps31
    dsimp only [List.append]
    go_wp2
    go_big_quiet (fail)
    go_wp2
    go_ret
    exact ⟨rfl, below_drewN hb _⟩
  subst h_si
  rw [decide_eq_true rfl, Bool.true_and]
  by_cases h_st : st = 0
  case neg =>
    have e1 : (st == 0) = false := beq_eq_false_iff_ne.2 h_st
    have e2 : (st = 0) = False := eq_false h_st
    rw [decide_eq_false h_st, Bool.false_and]
    clear h_st
    go_enter Try.func31, Try.ntmps31
    dsimp only [List.append]
    go_wp2
    go_big_quiet (fail)
    go_wp2
    go_ret
    exact ⟨rfl, below_drewN hb _⟩
  subst h_st
  rw [decide_eq_true rfl, Bool.true_and]
  by_cases h_sn : sn = 0
  case neg =>
    have e1 : ((sn : Int) == 0) = false := beq_eq_false_iff_ne.2 (by omega)
    have e2 : ((sn : Int) = 0) = False := eq_false (by omega)
    have e3 : (sn = 0) = False := eq_false h_sn
    rw [decide_eq_false h_sn]
    clear h_sn
    go_enter Try.func31, Try.ntmps31
    dsimp only [List.append]
    go_wp2
    go_big_quiet (fail)
    go_wp2
    go_ret
    exact ⟨rfl, below_drewN hb _⟩
  subst h_sn
  rw [decide_eq_true rfl]
  go_enter Try.func31, Try.ntmps31
  dsimp only [List.append]
  go_wp2
  go_big_quiet (fail)
  go_wp2
  go_ret
  exact ⟨rfl, below_drewN hb _⟩

set_option maxRecDepth 100000 in
set_option maxHeartbeats 6400000 in
theorem bareR_4 (f o t i l c x : Int) (b : Bool) (A : Option Addr) (n cA : Nat) (si st : Int) (E : Option Addr) (sn cE : Nat) (w : World) :
    Calls Try.prog 31 #[.agg (mC 4 f o t i l c x b A n cA si st E sn cE)] w fun e w' => e = .returned (.bool (bareB 4 i l c x b n si st sn)) ∧ Below w.heap.size w w' := by
  have hb : Below w.heap.size w (w.alloc (.cells (mC 4 f o t i l c x b A n cA si st E sn cE) 27)) := (Below.refl _ _).alloc (Nat.le_refl _) _
  have hq : bareB 4 i l c x b n si st sn = (decide (i = 0) && (decide (l = 0) && (decide (c = 0) && (decide (n = 0) && (decide (x = 0) && (decide (si = 0) && (decide (st = 0) && (decide (sn = 0))))))))) := by unfold bareB; simp [Bool.and_assoc]
  rw [hq]
  clear hq
  by_cases h_i : i = 0
  case neg =>
    have e1 : (i == 0) = false := beq_eq_false_iff_ne.2 h_i
    have e2 : (i = 0) = False := eq_false h_i
    rw [decide_eq_false h_i, Bool.false_and]
    clear h_i
    go_enter Try.func31, Try.ntmps31
    dsimp only [List.append]
    go_wp2
    go_big_quiet (fail)
    go_wp2
    go_ret
    exact ⟨rfl, below_drewN hb _⟩
  subst h_i
  rw [decide_eq_true rfl, Bool.true_and]
  by_cases h_l : l = 0
  case neg =>
    have e1 : (l == 0) = false := beq_eq_false_iff_ne.2 h_l
    have e2 : (l = 0) = False := eq_false h_l
    rw [decide_eq_false h_l, Bool.false_and]
    clear h_l
    go_enter Try.func31, Try.ntmps31
    dsimp only [List.append]
    go_wp2
    go_big_quiet (fail)
    go_wp2
    go_ret
    exact ⟨rfl, below_drewN hb _⟩
  subst h_l
  rw [decide_eq_true rfl, Bool.true_and]
  by_cases h_c : c = 0
  case neg =>
    have e1 : (c == 0) = false := beq_eq_false_iff_ne.2 h_c
    have e2 : (c = 0) = False := eq_false h_c
    rw [decide_eq_false h_c, Bool.false_and]
    clear h_c
    go_enter Try.func31, Try.ntmps31
    dsimp only [List.append]
    go_wp2
    go_big_quiet (fail)
    go_wp2
    go_ret
    exact ⟨rfl, below_drewN hb _⟩
  subst h_c
  rw [decide_eq_true rfl, Bool.true_and]
  by_cases h_n : n = 0
  case neg =>
    have e1 : ((n : Int) == 0) = false := beq_eq_false_iff_ne.2 (by omega)
    have e2 : ((n : Int) = 0) = False := eq_false (by omega)
    have e3 : (n = 0) = False := eq_false h_n
    rw [decide_eq_false h_n, Bool.false_and]
    clear h_n
    go_enter Try.func31, Try.ntmps31
    dsimp only [List.append]
    go_wp2
    go_big_quiet (fail)
    go_wp2
    go_ret
    exact ⟨rfl, below_drewN hb _⟩
  subst h_n
  rw [decide_eq_true rfl, Bool.true_and]
  by_cases h_x : x = 0
  case neg =>
    have e1 : (x == 0) = false := beq_eq_false_iff_ne.2 h_x
    have e2 : (x = 0) = False := eq_false h_x
    rw [decide_eq_false h_x, Bool.false_and]
    clear h_x
    go_enter Try.func31, Try.ntmps31
    dsimp only [List.append]
    go_wp2
    go_big_quiet (fail)
    go_wp2
    go_ret
    exact ⟨rfl, below_drewN hb _⟩
  subst h_x
  rw [decide_eq_true rfl, Bool.true_and]
  by_cases h_si : si = 0
  case neg =>
    have e1 : (si == 0) = false := beq_eq_false_iff_ne.2 h_si
    have e2 : (si = 0) = False := eq_false h_si
    rw [decide_eq_false h_si, Bool.false_and]
    clear h_si
    go_enter Try.func31, Try.ntmps31
    dsimp only [List.append]
    go_wp2
    go_big_quiet (fail)
    go_wp2
    go_ret
    exact ⟨rfl, below_drewN hb _⟩
  subst h_si
  rw [decide_eq_true rfl, Bool.true_and]
  by_cases h_st : st = 0
  case neg =>
    have e1 : (st == 0) = false := beq_eq_false_iff_ne.2 h_st
    have e2 : (st = 0) = False := eq_false h_st
    rw [decide_eq_false h_st, Bool.false_and]
    clear h_st
    go_enter Try.func31, Try.ntmps31
    dsimp only [List.append]
    go_wp2
    go_big_quiet (fail)
    go_wp2
    go_ret
    exact ⟨rfl, below_drewN hb _⟩
  subst h_st
  rw [decide_eq_true rfl, Bool.true_and]
  by_cases h_sn : sn = 0
  case neg =>
    have e1 : ((sn : Int) == 0) = false := beq_eq_false_iff_ne.2 (by omega)
    have e2 : ((sn : Int) = 0) = False := eq_false (by omega)
    have e3 : (sn = 0) = False := eq_false h_sn
    rw [decide_eq_false h_sn]
    clear h_sn
    go_enter Try.func31, Try.ntmps31
    dsimp only [List.append]
    go_wp2
    go_big_quiet (fail)
    go_wp2
    go_ret
    exact ⟨rfl, below_drewN hb _⟩
  subst h_sn
  rw [decide_eq_true rfl]
  go_enter Try.func31, Try.ntmps31
  dsimp only [List.append]
  go_wp2
  go_big_quiet (fail)
  go_wp2
  go_ret
  exact ⟨rfl, below_drewN hb _⟩

end Go.Proofs.Ytlojjodgoeclfaa
