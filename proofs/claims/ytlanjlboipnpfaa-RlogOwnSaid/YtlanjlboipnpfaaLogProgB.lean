/- The program's place, Term, Newer, retry, each by its contract. -/
import Derived.Test.YtlanjlboipnpfaaLogProgA
namespace Go.Proofs.Ytlanjlboipnpfaa
open Go.RowKit
set_option linter.unusedVariables false
set_option linter.unusedSimpArgs false

/-- What place answers. -/
abbrev plcV (o : Option Nat) : Value := .tuple #[.int .i64 ((o.getD 0 : Nat) : Int), .bool o.isSome]

set_option maxHeartbeats 1600000 in
theorem placeP_any {w : World} {p : Nat} {r : RL} {s : Nat} {A : Option Addr} {n c : Nat} (h : Rd w p r s A n c) (hm : n ≤ 1000000) (hg : Good r) (x : Int) :
    Calls Try.prog 40 #[ptrV p, .int .i64 x] w fun e w' => e = .returned (plcV (r.place x)) ∧ Below w.heap.size w w' := by
  have hL := lastP_any h hm
  have hlim := hg.lim
  have hli := hg.lastI
  rw [h.ents.1] at hlim hli
  have hpl : r.place x = if r.i < x ∧ x ≤ r.lastI then some (x - r.i - 1).toNat else none := by
    unfold RL.place
    rw [h.ents.1, hli]
  rw [hpl]
  have h2 := fun w1 (hb : Below w.heap.size w w1) => (h.below hb).cells
  generalize r.lastI = li at *
  generalize r.lastT = lt at *
  clear hpl h hg
  by_cases h1 : r.i < x
  · have q1 : (x ≤ r.i) = False := eq_false (by omega)
    have q1d : decide (x ≤ r.i) = false := decide_eq_false (by omega)
    by_cases h3 : x ≤ li
    · rw [if_pos ⟨h1, h3⟩]
      have q2 : (li < x) = False := eq_false (by omega)
      have q2d : decide (li < x) = false := decide_eq_false (by omega)
      obtain ⟨k, hk⟩ : ∃ k, k = (x - r.i - 1).toNat := ⟨_, rfl⟩
      obtain ⟨J, hJ⟩ : ∃ J, J = x - r.i := ⟨_, rfl⟩
      have y1 : wrap64 (x - r.i) = J := by rw [hJ, ← IntWalk.i64_left, IntWalk.i64_in _ (by omega)]
      have y2 : wrap64 (J - 1) = (k : Int) := by rw [← IntWalk.i64_left, IntWalk.i64_in _ (by omega)]; omega
      rw [← hk]
      clear hk hJ h1 h3 hlim hli hm
      go_enter Try.func40, Try.ntmps40
      go_wp2_with fail
      refine hL.mono ?_
      rintro e w1 ⟨rfl, hb1⟩
      obtain ⟨c0, c1, c2, c3⟩ := h2 w1 hb1
      go_wp2
      go_ret2
      refine ⟨?_, hb1⟩
      show Ending.returned (.tuple #[.int .i64 (wrap64 (J - 1)), .bool true]) = _
      rw [y2]
      rfl
    · rw [if_neg (fun e => h3 e.2)]
      have q2 : li < x := by omega
      clear h1 h3 hlim hli hm
      go_enter Try.func40, Try.ntmps40
      go_wp2_with fail
      refine hL.mono ?_
      rintro e w1 ⟨rfl, hb1⟩
      obtain ⟨c0, c1, c2, c3⟩ := h2 w1 hb1
      go_wp2
      go_ret2
      exact ⟨rfl, hb1⟩
  · rw [if_neg (fun e => h1 e.1)]
    have q1 : x ≤ r.i := by omega
    clear h1 hlim hli hm
    go_enter Try.func40, Try.ntmps40
    go_wp2_with fail
    refine hL.mono ?_
    rintro e w1 ⟨rfl, hb1⟩
    obtain ⟨c0, c1, c2, c3⟩ := h2 w1 hb1
    go_wp2
    go_ret2
    exact ⟨rfl, hb1⟩

theorem termP_nil (x : Int) (w : World) : Calls Try.prog 15 #[.pointer none, .int .i64 x] w fun e w' => e = .returned (.tuple #[.int .i64 0, .bool false]) ∧ w = w' := by
  go_enter Try.func15, Try.ntmps15
  go_wp2
  go_ret2
  exact ⟨rfl, rfl⟩

set_option maxHeartbeats 1600000 in
theorem termP_any {w : World} {p : Nat} {r : RL} {s : Nat} {A : Option Addr} {n c : Nat} (h : Rd w p r s A n c) (hm : n ≤ 1000000) (hg : Good r) (x : Int) :
    Calls Try.prog 15 #[ptrV p, .int .i64 x] w fun e w' => e = .returned (atV (r.at_ x)) ∧ Below w.heap.size w w' := by
  obtain ⟨c0, c1, c2, c3⟩ := h.cells
  rw [hg.at_]
  by_cases hx : x = r.i
  · rw [if_pos hx]
    subst hx
    clear h hg hm
    go_enter Try.func15, Try.ntmps15
    go_wp2
    go_ret2
    exact ⟨rfl, Below.refl _ _⟩
  · rw [if_neg hx]
    have q1 : (x == r.i) = false := beq_eq_false_iff_ne.2 hx
    have q2 : (x = r.i) = False := eq_false hx
    have hP := placeP_any h hm hg x
    have h2 := fun w1 (hb : Below w.heap.size w w1) => h.below hb
    have hpk : ∀ k, r.place x = some k → k < n := fun k e => by
      unfold RL.place at e
      have := h.ents.1
      split at e
      · injection e with e
        omega
      · cases e
    cases hp : r.place x with
    | none =>
      rw [hp] at hP
      clear h hg hm hx hpk hp
      go_enter Try.func15, Try.ntmps15
      go_wp2_with fail
      refine hP.mono ?_
      rintro e w1 ⟨rfl, hb1⟩
      clear h2
      go_wp2
      go_ret2
      exact ⟨rfl, hb1⟩
    | some k =>
      rw [hp] at hP
      have hk := hpk k hp
      have hll := h.ents.1
      have e1 : (Option.bind (some k) fun k => r.l[k]?.map Ent.t) = some (r.l[k]'(by omega)).t := by
        simp only [Option.bind_some, List.getElem?_eq_getElem (show k < r.l.length by omega), Option.map_some]
      rw [e1]
      have hk2 : (k : Int) < (n : Int) := by omega
      obtain ⟨a, ha⟩ : ∃ a, r.l[k]'(by omega) = a := ⟨_, rfl⟩
      have h3 : ∀ w1, Below w.heap.size w w1 → ∃ g off E cc, A = some ⟨g, off, none⟩ ∧ g < w1.heap.size ∧ w1.cell? ⟨g, off + k * 3, none⟩ = some (.int .i64 a.i) ∧ w1.cell? ⟨g, off + k * 3 + 1, none⟩ = some (.int .i64 a.t) ∧ w1.cell? ⟨g, off + k * 3 + 2, none⟩ = some (.slice E a.d.length cc) := fun w1 hb => by
        obtain ⟨g, off, E, cc, e, hg, x0, x1, x2, _⟩ := (h2 w1 hb).ents.at_ k hk
        rw [ha] at x0 x1
        simp only [ha] at x2
        exact ⟨g, off, E, cc, e, hg, x0, x1, x2⟩
      have h4 := fun w1 (hb : Below w.heap.size w w1) => (h2 w1 hb).cells
      rw [ha]
      clear h hg hm hx hpk hp e1 h2 hll ha
      go_enter Try.func15, Try.ntmps15
      go_wp2_with fail
      refine hP.mono ?_
      rintro e w1 ⟨rfl, hb1⟩
      obtain ⟨g, off, E, cc, rfl, hg, x0, x1, x2⟩ := h3 w1 hb1
      obtain ⟨d0, d1, d2, d3⟩ := h4 w1 hb1
      clear hP h3 h4
      go_wp2
      go_ret2
      exact ⟨rfl, hb1⟩

theorem newerP_nil (i t : Int) (w : World) : Calls Try.prog 24 #[.pointer none, .int .i64 i, .int .i64 t] w fun e w' => e = .returned (.bool false) ∧ w = w' := by
  go_enter Try.func24, Try.ntmps24
  go_wp2
  go_ret
  exact ⟨rfl, rfl⟩

theorem newerP_any {w : World} {p : Nat} {r : RL} {s : Nat} {A : Option Addr} {n c : Nat} (h : Rd w p r s A n c) (hm : n ≤ 1000000) (i t : Int) :
    Calls Try.prog 24 #[ptrV p, .int .i64 i, .int .i64 t] w fun e w' => e = .returned (.bool (r.newer i t)) ∧ Below w.heap.size w w' := by
  have hL := lastP_any h hm
  unfold RL.newer
  clear h hm
  generalize r.lastI = li at *
  generalize r.lastT = lt at *
  by_cases h1 : lt < t
  · rw [decide_eq_true h1, Bool.true_or]
    go_enter Try.func24, Try.ntmps24
    go_wp2_with fail
    refine hL.mono ?_
    rintro e w1 ⟨rfl, hb1⟩
    have hd : decide (lt < t) = true := decide_eq_true h1
    go_wp2
    go_ret
    exact ⟨rfl, hb1⟩
  · rw [decide_eq_false h1, Bool.false_or]
    have h1' : (lt < t) = False := eq_false h1
    have h1d : decide (lt < t) = false := decide_eq_false h1
    by_cases h2 : t = lt
    · subst h2
      rw [decide_eq_true rfl, Bool.true_and]
      clear h1
      go_enter Try.func24, Try.ntmps24
      go_wp2_with fail
      refine hL.mono ?_
      rintro e w1 ⟨rfl, hb1⟩
      go_wp2
      go_ret
      exact ⟨rfl, hb1⟩
    · rw [decide_eq_false h2, Bool.false_and]
      have h2' : (t == lt) = false := beq_eq_false_iff_ne.2 h2
      have h2'' : (t = lt) = False := eq_false h2
      clear h1 h2
      go_enter Try.func24, Try.ntmps24
      go_wp2_with fail
      refine hL.mono ?_
      rintro e w1 ⟨rfl, hb1⟩
      go_wp2
      go_ret
      exact ⟨rfl, hb1⟩

set_option maxHeartbeats 1600000 in
theorem retryP_any {w : World} {p : Nat} {r : RL} {s : Nat} {A : Option Addr} {n c : Nat} (h : Rd w p r s A n c) (hm : n ≤ 1000000) (hg : Good r) (x : Int) (hx2 : x ≤ 9223372036854775807) :
    Calls Try.prog 43 #[ptrV p, .int .i64 x] w fun e w' => e = .returned (.int .i64 (r.retry x)) ∧ Below w.heap.size w w' := by
  have hL := lastP_any h hm
  have hlim := hg.lim
  have h2 := fun w1 (hb : Below w.heap.size w w1) => (h.below hb).cells
  unfold RL.retry
  generalize r.lastI = li at *
  generalize r.lastT = lt at *
  clear h hg
  by_cases h1 : x ≤ r.i
  · rw [if_pos h1]
    clear hlim hm hx2
    go_enter Try.func43, Try.ntmps43
    go_wp2_with fail
    refine hL.mono ?_
    rintro e w1 ⟨rfl, hb1⟩
    obtain ⟨c0, c1, c2, c3⟩ := h2 w1 hb1
    go_wp2
    go_ret
    exact ⟨rfl, hb1⟩
  · rw [if_neg h1]
    have q1 : (x ≤ r.i) = False := eq_false h1
    obtain ⟨J, hJ⟩ : ∃ J, J = x - 1 := ⟨_, rfl⟩
    have y1 : wrap64 (x - 1) = J := by rw [hJ, ← IntWalk.i64_left, IntWalk.i64_in _ (by omega)]
    rw [← hJ]
    clear hlim hm hx2 hJ h1
    by_cases h3 : J ≤ li
    · have e1 : min J li = J := by omega
      rw [e1]
      clear e1
      go_enter Try.func43, Try.ntmps43
      go_wp2_with fail
      refine hL.mono ?_
      rintro e w1 ⟨rfl, hb1⟩
      obtain ⟨c0, c1, c2, c3⟩ := h2 w1 hb1
      go_wp2
      go_ret
      exact ⟨by first | rfl | (congr 2; (repeat split) <;> omega), hb1⟩
    · have e1 : min J li = li := by omega
      rw [e1]
      clear e1
      go_enter Try.func43, Try.ntmps43
      go_wp2_with fail
      refine hL.mono ?_
      rintro e w1 ⟨rfl, hb1⟩
      obtain ⟨c0, c1, c2, c3⟩ := h2 w1 hb1
      go_wp2
      go_ret
      exact ⟨by first | rfl | (congr 2; (repeat split) <;> omega), hb1⟩

end Go.Proofs.Ytlanjlboipnpfaa
