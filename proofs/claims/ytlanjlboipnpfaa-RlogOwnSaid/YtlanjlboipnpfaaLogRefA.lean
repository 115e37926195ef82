/- The document's Base, Last, At, Newer, mark, each by its contract. -/
import Derived.Test.YtlanjlboipnpfaaLogMath
import Derived.Test.YtlanjlboipnpfaaEntRun
import Derived.Test.YtlanjlboipnpfaaRes
import Derived.Deep.LoopGhost
import Derived.BigQuiet
import Derived.Lib.Hide
namespace Go.Proofs.Ytlanjlboipnpfaa
open Go.RowKit
set_option linter.unusedVariables false
set_option linter.unusedSimpArgs false

abbrev lgC (r : RL) (A : Option Addr) (n c : Nat) : Array Value := #[.int .i64 r.i, .int .i64 r.t, .slice A n c, .int .i64 r.f]
abbrev lgV (r : RL) (A : Option Addr) (n c : Nat) : Value := .agg #[.int .i64 r.i, .int .i64 r.t, .slice A n c, .int .i64 r.f]

theorem baseR_is (i t : Int) (w : World) : Calls Try.prog 28 #[.int .i64 i, .int .i64 t] w fun e w' => e = .returned (.bool (RL.base i t)) ∧ w = w' := by
  unfold RL.base
  by_cases h1 : 0 ≤ i
  · rw [decide_eq_true h1, Bool.true_and]
    by_cases h2 : i ≤ 1099511627776
    · rw [decide_eq_true h2, Bool.true_and]
      by_cases h3 : 0 ≤ t
      · rw [decide_eq_true h3, Bool.true_and]
        go_enter Try.func28, Try.ntmps28
        go_wp2
        go_ret
        exact ⟨rfl, rfl⟩
      · have e1 : decide (0 ≤ t) = false := decide_eq_false h3
        have e2 : (0 ≤ t) = False := eq_false h3
        rw [e1, Bool.false_and]
        clear h3
        go_enter Try.func28, Try.ntmps28
        go_wp2
        go_ret
        exact ⟨rfl, rfl⟩
    · have e1 : decide (i ≤ 1099511627776) = false := decide_eq_false h2
      have e2 : (i ≤ 1099511627776) = False := eq_false h2
      rw [e1, Bool.false_and]
      clear h2
      go_enter Try.func28, Try.ntmps28
      go_wp2
      go_ret
      exact ⟨rfl, rfl⟩
  · have e1 : decide (0 ≤ i) = false := decide_eq_false h1
    have e2 : (0 ≤ i) = False := eq_false h1
    rw [e1, Bool.false_and]
    clear h1
    go_enter Try.func28, Try.ntmps28
    go_wp2
    go_ret
    exact ⟨rfl, rfl⟩

set_option maxRecDepth 100000 in
set_option maxHeartbeats 1600000 in
theorem lastR_any (r : RL) (Z : Nat → Prop) (A : Option Addr) (n c : Nat) (w : World) (h : Ents w Z A n c r.l) (hm : n ≤ maxLen) :
    Calls Try.prog 31 #[lgV r A n c] w fun e w' => e = .returned (.tuple #[.int .i64 r.lastI, .int .i64 r.lastT]) ∧ Below w.heap.size w w' := by
  have hb : Below w.heap.size w (w.alloc (.cells (lgC r A n c) 32)) := (Below.refl _ _).alloc (Nat.le_refl _) _
  have hll := h.1
  unfold maxLen at hm
  by_cases h0 : n = 0
  · subst h0
    obtain ⟨e1, e2⟩ := last_none (r := r) (List.eq_nil_of_length_eq_zero hll)
    rw [e1, e2]
    clear h hll e1 e2
    go_enter Try.func31, Try.ntmps31
    go_wp2
    go_big_quiet (fail)
    go_wp2
    go_ret2
    exact ⟨rfl, below_drewN hb _⟩
  · obtain ⟨e1, e2⟩ := last_some (r := r) (by omega)
    rw [e1, e2]
    obtain ⟨g, off, E, k, rfl, hg, x0, x1, x2, _⟩ := h.at_ (n - 1) (by omega)
    have hne : ((n : Int) == 0) = false := beq_eq_false_iff_ne.2 (by omega)
    have hne2 : ((n : Int) = 0) = False := eq_false (by omega)
    have hw : wrap64 ((n : Int) - 1) = ((n - 1 : Nat) : Int) := by rw [← IntWalk.i64_left, IntWalk.i64_in _ (by omega)]; omega
    have hlt : ((n - 1 : Nat) : Int) < (n : Int) := by omega
    have hl2 : r.l.length - 1 = n - 1 := by omega
    simp only [hl2] at *
    generalize (r.l[n - 1]'(by omega)) = a at *
    obtain ⟨ai, at_, ad⟩ := a
    dsimp only at *
    have hb2 : Below w.heap.size w ((w.alloc (.cells (lgC r (some ⟨g, off, none⟩) n c) 32)).alloc (.cells #[.int .i64 ai, .int .i64 at_, .slice E ad.length k] 43)) := hb.alloc hb.size _
    clear h hm h0 hll e1 e2 hb hl2
    go_enter Try.func31, Try.ntmps31
    go_wp2
    go_big_quiet (fail)
    go_wp2
    go_ret2
    exact ⟨rfl, below_drewN hb2 _⟩

/-- What At answers. -/
abbrev atV (o : Option Int) : Value := .tuple #[.int .i64 (o.getD 0), .bool o.isSome]

set_option maxRecDepth 100000 in
set_option maxHeartbeats 1600000 in
theorem atR_any (r : RL) (x : Int) (Z : Nat → Prop) (A : Option Addr) (n c : Nat) (w : World) (h : Ents w Z A n c r.l) (hm : n ≤ maxLen) :
    Calls Try.prog 32 #[lgV r A n c, .int .i64 x] w fun e w' => e = .returned (atV (r.at_ x)) ∧ Below w.heap.size w w' := by
  have hb : Below w.heap.size w (w.alloc (.cells (lgC r A n c) 32)) := (Below.refl _ _).alloc (Nat.le_refl _) _
  have hll := h.1
  unfold maxLen at hm
  by_cases hx : x = r.i
  · have e1 : r.at_ x = some r.t := by unfold RL.at_; rw [if_pos hx]
    rw [e1]
    subst hx
    clear h hm hll e1
    go_enter Try.func32, Try.ntmps32
    go_wp2
    go_ret2
    exact ⟨rfl, hb⟩
  · have e0 : r.at_ x = (r.l.find? fun e => decide (e.i = x)).map Ent.t := by unfold RL.at_; rw [if_neg hx]
    rw [e0]
    have hx1 : (x == r.i) = false := beq_eq_false_iff_ne.2 hx
    have hx2 : (x = r.i) = False := eq_false hx
    obtain ⟨⟨_, _, y2, _⟩, _⟩ := row4 (heap_alloc_new w (.cells (lgC r A n c) 32))
    obtain ⟨R, hR⟩ : ∃ R, R = (r.l.find? fun e => decide (e.i = x)).map Ent.t := ⟨_, rfl⟩
    rw [← hR]
    have HR := Lib.hid hR
    clear e0 hx hR
    go_enter Try.func32, Try.ntmps32
    go_wp2
    go_loop [6, 16] (fun z k' => ∃ k : Nat, k ≤ n ∧ k' = .int .i64 (k : Int) ∧ ∀ j (hj : j < r.l.length), j < k → r.l[j].i ≠ x) (fun _ k' => n - (intOf k').toNat)
    case atStart => exact ⟨0, by omega, rfl, fun j _ hj => absurd hj (by omega)⟩
    case round =>
      obtain ⟨k, hk, rfl, hall⟩ := hrel
      by_cases hkn : k < n
      · have hkn' : (k : Int) < (n : Int) := by omega
        obtain ⟨g, off, E, c', rfl, hg, x0, x1, x2, _⟩ := (h.below hb (Nat.le_refl _)).at_ k hkn
        have hkl : k < r.l.length := by omega
        have hfs := fun (he : r.l[k].i = x) => find_step (l := r.l) (x := x) (k := k) hkl hall he
        have hst : (r.l[k]'(by omega)).i ≠ x → ∀ j (hj : j < r.l.length), j < k + 1 → r.l[j].i ≠ x := fun hne j hj hj2 => by
          rcases Nat.lt_or_ge j k with h1 | h1
          · exact hall j hj h1
          · have e : j = k := by omega
            subst e
            exact hne
        by_cases he : (r.l[k]'(by omega)).i = x
        · have hfound := hfs he
          have HF := Lib.hid hfound
          generalize (r.l[k]'(by omega)) = a at *
          obtain ⟨ai, at_, ad⟩ := a
          dsimp only at *
          subst he
          clear hall hst hfs hfound h
          go_wp2
          go_ret2
          have e1 : R = some at_ := by rw [show R = _ from HR, show _ = some _ from HF]; rfl
          rw [e1]
          exact ⟨rfl, hb⟩
        · have hnext := Lib.hid (hst he)
          have he1 : ((r.l[k]'(by omega)).i == x) = false := beq_eq_false_iff_ne.2 he
          have he2 : ((r.l[k]'(by omega)).i = x) = False := eq_false he
          generalize (r.l[k]'(by omega)) = a at *
          obtain ⟨ai, at_, ad⟩ := a
          dsimp only at *
          clear hall hst hfs h he
          go_wp2
          go_round
          case rel => exact ⟨k + 1, by omega, by go_num, hnext.out⟩
          case measure => simp [intOf]; omega
      · obtain rfl : k = n := by omega
        have e1 : R = none := by rw [show R = _ from HR, find_none fun j hj => hall j hj (by omega)]; rfl
        have HE := Lib.hid e1
        have hdec : decide ((k : Int) < (k : Int)) = false := decide_eq_false (by omega)
        clear h hall hm e1 HR
        go_wp2
        go_ret2
        rw [show R = none from HE]
        exact ⟨rfl, hb⟩

theorem newerR_any (r : RL) (i t : Int) (Z : Nat → Prop) (A : Option Addr) (n c : Nat) (w : World) (h : Ents w Z A n c r.l) (hm : n ≤ maxLen) :
    Calls Try.prog 33 #[lgV r A n c, .int .i64 i, .int .i64 t] w fun e w' => e = .returned (.bool (r.newer i t)) ∧ Below w.heap.size w w' := by
  have hb : Below w.heap.size w (w.alloc (.cells (lgC r A n c) 32)) := (Below.refl _ _).alloc (Nat.le_refl _) _
  have hL := lastR_any r Z A n c _ (h.below hb (Nat.le_refl _)) hm
  unfold RL.newer
  clear h hm
  generalize r.lastI = li at *
  generalize r.lastT = lt at *
  by_cases h1 : lt < t
  · rw [decide_eq_true h1, Bool.true_or]
    go_enter Try.func33, Try.ntmps33
    go_wp2_with fail
    refine hL.mono ?_
    rintro e w1 ⟨rfl, hb1⟩
    have hd : decide (lt < t) = true := decide_eq_true h1
    go_wp2
    go_ret
    exact ⟨rfl, hb.trans (hb1.mono hb.size)⟩
  · rw [decide_eq_false h1, Bool.false_or]
    have h1' : (lt < t) = False := eq_false h1
    have h1d : decide (lt < t) = false := decide_eq_false h1
    by_cases h2 : t = lt
    · subst h2
      rw [decide_eq_true rfl, Bool.true_and]
      clear h1
      go_enter Try.func33, Try.ntmps33
      go_wp2_with fail
      refine hL.mono ?_
      rintro e w1 ⟨rfl, hb1⟩
      go_wp2
      go_ret
      exact ⟨rfl, hb.trans (hb1.mono hb.size)⟩
    · rw [decide_eq_false h2, Bool.false_and]
      have h2' : (t == lt) = false := beq_eq_false_iff_ne.2 h2
      have h2'' : (t = lt) = False := eq_false h2
      clear h1 h2
      go_enter Try.func33, Try.ntmps33
      go_wp2_with fail
      refine hL.mono ?_
      rintro e w1 ⟨rfl, hb1⟩
      go_wp2
      go_ret
      exact ⟨rfl, hb.trans (hb1.mono hb.size)⟩

end Go.Proofs.Ytlanjlboipnpfaa
