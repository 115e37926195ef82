/- May a version be? By the document and by the program. (Written by mkver.py.) -/
import Derived.Test.YtcoddkbbgmjckaaBn04
import Derived.BigQuiet
import Derived.Test.YtcoddkbbgmjckaaBn03
namespace Go.Proofs.Ytcoddkbbgmjckaa
open Go.RowKit
set_option linter.unusedVariables false
set_option linter.unusedSimpArgs false
attribute [local go_sem] Oper.semAt_some

set_option maxRecDepth 100000 in
set_option maxHeartbeats 1600000 in
theorem verR_any (x : Ver) (w : World) : Calls Try.prog 75 #[verV x] w fun e w' => e = .returned (.bool (His.verB x)) ∧ Below w.heap.size w w' := by
  obtain ⟨r, k, m, v, s, l, g⟩ := x
  dsimp only [verV]
  have hb : Below w.heap.size w (w.alloc (.cells #[.int .i64 r, .int .i64 k, .int .i64 m, .int .i64 v, .string s, .int .i64 l, .bool g] 37)) := (Below.refl _ _).alloc (Nat.le_refl _) _
  have hV : His.verB ⟨r, k, m, v, s, l, g⟩ = if r < 1 ∨ 1099511627776 < r ∨ m < 1 ∨ 1099511627776 < m then false else if g = true then decide (k = 0 ∧ v = 0 ∧ l = 0 ∧ s.size = 0) else decide (1 ≤ k ∧ k ≤ m ∧ 1 ≤ v ∧ v ≤ 1099511627776 ∧ s.size ≤ 40 ∧ -1099511627776 ≤ l ∧ l ≤ 1099511627776) := rfl
  rw [hV]
  clear hV
  by_cases h0 : r < 1
  · have e0 : decide (r < 1) = true := decide_eq_true h0
    rw [if_pos (by omega)]
    clear h0
    go_enter Try.func75, Try.ntmps75
    go_wp2
    go_ret
    exact ⟨rfl, hb⟩
  have e0 : decide (r < 1) = false := decide_eq_false h0
  by_cases h1 : 1099511627776 < r
  · have e1 : decide (1099511627776 < r) = true := decide_eq_true h1
    rw [if_pos (by omega)]
    clear h0 h1
    go_enter Try.func75, Try.ntmps75
    go_wp2
    go_ret
    exact ⟨rfl, hb⟩
  have e1 : decide (1099511627776 < r) = false := decide_eq_false h1
  by_cases h2 : m < 1
  · have e2 : decide (m < 1) = true := decide_eq_true h2
    rw [if_pos (by omega)]
    clear h0 h1 h2
    go_enter Try.func75, Try.ntmps75
    go_wp2
    go_ret
    exact ⟨rfl, hb⟩
  have e2 : decide (m < 1) = false := decide_eq_false h2
  by_cases h3 : 1099511627776 < m
  · have e3 : decide (1099511627776 < m) = true := decide_eq_true h3
    rw [if_pos (by omega)]
    clear h0 h1 h2 h3
    go_enter Try.func75, Try.ntmps75
    go_wp2
    go_ret
    exact ⟨rfl, hb⟩
  have e3 : decide (1099511627776 < m) = false := decide_eq_false h3
  rw [if_neg (by omega)]
  cases g with
  | true =>
    rw [if_pos rfl]
    by_cases h4 : k = 0
    case neg =>
      have e4 : (k == 0) = false := by simpa using h4
      rw [decide_eq_false (by omega)]
      clear h0 h1 h2 h3 h4
      go_enter Try.func75, Try.ntmps75
      go_wp2
      go_ret
      exact ⟨rfl, hb⟩
    have e4 : (k == 0) = true := by simp [h4]
    by_cases h5 : v = 0
    case neg =>
      have e5 : (v == 0) = false := by simpa using h5
      rw [decide_eq_false (by omega)]
      clear h0 h1 h2 h3 h4 h5
      go_enter Try.func75, Try.ntmps75
      go_wp2
      go_ret
      exact ⟨rfl, hb⟩
    have e5 : (v == 0) = true := by simp [h5]
    by_cases h6 : l = 0
    case neg =>
      have e6 : (l == 0) = false := by simpa using h6
      rw [decide_eq_false (by omega)]
      clear h0 h1 h2 h3 h4 h5 h6
      go_enter Try.func75, Try.ntmps75
      go_wp2
      go_ret
      exact ⟨rfl, hb⟩
    have e6 : (l == 0) = true := by simp [h6]
    by_cases h7 : s.size = 0
    case neg =>
      have e7 : ((s.size : Int) == 0) = false := beq_eq_false_iff_ne.2 (by omega)
      rw [decide_eq_false (by omega)]
      clear h0 h1 h2 h3 h4 h5 h6 h7
      go_enter Try.func75, Try.ntmps75
      go_wp2
      go_ret
      exact ⟨rfl, hb⟩
    have e7 : ((s.size : Int) == 0) = true := by simp [h7]
    rw [decide_eq_true (by omega)]
    clear h0 h1 h2 h3 h4 h5 h6 h7
    go_enter Try.func75, Try.ntmps75
    go_wp2
    go_ret
    exact ⟨rfl, hb⟩
  | false =>
    rw [if_neg (by decide)]
    by_cases h4 : 1 ≤ k
    case neg =>
      have e4 : decide (1 ≤ k) = false := decide_eq_false (by omega)
      rw [decide_eq_false (by omega)]
      clear h0 h1 h2 h3 h4
      go_enter Try.func75, Try.ntmps75
      go_wp2
      go_ret
      exact ⟨rfl, hb⟩
    have e4 : decide (1 ≤ k) = true := decide_eq_true (by omega)
    by_cases h5 : k ≤ m
    case neg =>
      have e5 : decide (k ≤ m) = false := decide_eq_false (by omega)
      rw [decide_eq_false (by omega)]
      clear h0 h1 h2 h3 h4 h5
      go_enter Try.func75, Try.ntmps75
      go_wp2
      go_ret
      exact ⟨rfl, hb⟩
    have e5 : decide (k ≤ m) = true := decide_eq_true (by omega)
    by_cases h6 : 1 ≤ v
    case neg =>
      have e6 : decide (1 ≤ v) = false := decide_eq_false (by omega)
      rw [decide_eq_false (by omega)]
      clear h0 h1 h2 h3 h4 h5 h6
      go_enter Try.func75, Try.ntmps75
      go_wp2
      go_ret
      exact ⟨rfl, hb⟩
    have e6 : decide (1 ≤ v) = true := decide_eq_true (by omega)
    by_cases h7 : v ≤ 1099511627776
    case neg =>
      have e7 : decide (v ≤ 1099511627776) = false := decide_eq_false (by omega)
      rw [decide_eq_false (by omega)]
      clear h0 h1 h2 h3 h4 h5 h6 h7
      go_enter Try.func75, Try.ntmps75
      go_wp2
      go_ret
      exact ⟨rfl, hb⟩
    have e7 : decide (v ≤ 1099511627776) = true := decide_eq_true (by omega)
    by_cases h8 : s.size ≤ 40
    case neg =>
      have e8 : decide ((s.size : Int) ≤ 40) = false := decide_eq_false (by omega)
      rw [decide_eq_false (by omega)]
      clear h0 h1 h2 h3 h4 h5 h6 h7 h8
      go_enter Try.func75, Try.ntmps75
      go_wp2
      go_ret
      exact ⟨rfl, hb⟩
    have e8 : decide ((s.size : Int) ≤ 40) = true := decide_eq_true (by omega)
    by_cases h9 : -1099511627776 ≤ l
    case neg =>
      have e9 : decide (-1099511627776 ≤ l) = false := decide_eq_false (by omega)
      rw [decide_eq_false (by omega)]
      clear h0 h1 h2 h3 h4 h5 h6 h7 h8 h9
      go_enter Try.func75, Try.ntmps75
      go_wp2
      go_ret
      exact ⟨rfl, hb⟩
    have e9 : decide (-1099511627776 ≤ l) = true := decide_eq_true (by omega)
    by_cases h10 : l ≤ 1099511627776
    case neg =>
      have e10 : decide (l ≤ 1099511627776) = false := decide_eq_false (by omega)
      rw [decide_eq_false (by omega)]
      clear h0 h1 h2 h3 h4 h5 h6 h7 h8 h9 h10
      go_enter Try.func75, Try.ntmps75
      go_wp2
      go_ret
      exact ⟨rfl, hb⟩
    have e10 : decide (l ≤ 1099511627776) = true := decide_eq_true (by omega)
    rw [decide_eq_true (by omega)]
    clear h0 h1 h2 h3 h4 h5 h6 h7 h8 h9 h10
    go_enter Try.func75, Try.ntmps75
    go_wp2
    go_ret
    exact ⟨rfl, hb⟩

end Go.Proofs.Ytcoddkbbgmjckaa

namespace Go.Proofs.Ytcoddkbbgmjckaa
open Go.RowKit
set_option linter.unusedVariables false
set_option linter.unusedSimpArgs false
attribute [local go_sem] Oper.semAt_some

set_option maxRecDepth 100000 in
set_option maxHeartbeats 3200000 in
theorem rightR_any (A : Option Addr) (len cap : Nat) (l : List Ver) (w : World) (h : Vers w A len l) (hm : len ≤ maxLen) :
    Calls Try.prog 40 #[.slice A len cap] w fun e w' => e = .returned (.bool (His.rightL l)) ∧ Below w.heap.size w w' := by
  unfold maxLen at hm
  have hll := h.1
  have HV := Lib.hid h
  clear h
  go_enter Try.func40, Try.ntmps40
  go_wp2_with fail
  go_loopw [6] (fun v6 wr => ∃ k : Nat, k ≤ len ∧ v6 = .int .i64 (k : Int) ∧ Below w.heap.size w wr ∧ ∀ i, i < k → His.stepH l i = true) (fun v6 _ => len - (intOf v6).toNat)
  case atStart => exact ⟨0, Nat.zero_le _, rfl, Below.refl _ _, fun i hi => absurd hi (by omega)⟩
  case round =>
    obtain ⟨k, hk, rfl, hb, hall⟩ := hrel
    have HALL := Lib.hid hall
    have HB := Lib.hid hb
    have hbel := HV.out.below hb
    clear hall hb
    by_cases hlt : k < len
    · have l1 : decide ((k : Int) < (len : Int)) = true := decide_eq_true (by omega)
      obtain ⟨g, off, rfl, hg, hc⟩ := hbel.2 (by omega)
      obtain ⟨c0, c1, c2, c3, c4, c5, c6⟩ := hc k (by omega)
      have hst0 := His.step_zero l
      have hstk := His.step_at l k (by omega)
      have hpr : 0 < k → wr.cell? ⟨g, off + (k - 1) * 7, none⟩ = some (.int .i64 (l[k - 1]'(by omega)).r) ∧ wr.cell? ⟨g, off + (k - 1) * 7 + 2, none⟩ = some (.int .i64 (l[k - 1]'(by omega)).m) := fun h0 => ⟨(hc (k - 1) (by omega)).1, (hc (k - 1) (by omega)).2.2.1⟩
      obtain ⟨x, hx⟩ : ∃ x, l[k]'(by omega) = x := ⟨_, rfl⟩
      rw [hx] at c0 c1 c2 c3 c4 c5 c6 hstk
      have hV := fun W => verR_any x W
      have HX := Lib.hid hx
      clear hc hbel hx
      cases hvb : His.verB x with
      | false =>
        rw [hvb] at hV
        have HF := Lib.hid (His.right_no (l := l) k (by omega) (by
          by_cases h0 : k = 0
          · subst h0
            rw [hst0 (by omega), HX.out, hvb]
          · rw [hstk h0, hvb, Bool.false_and]))
        clear hst0 hstk hpr hvb
        go_wp2_with fail
        refine (hV _).mono ?_
        rintro e w1 ⟨rfl, hb1⟩
        have hbw := HB.out.trans (hb1.mono HB.out.size)
        go_wp2
        go_ret
        exact ⟨by rw [HF.out]; rfl, hbw⟩
      | true =>
        rw [hvb] at hV
        rw [hvb] at hstk
        have HVB := Lib.hid hvb
        clear hvb
        go_wp2_with fail
        refine (hV _).mono ?_
        rintro e w1 ⟨rfl, hb1⟩
        have hbw := HB.out.trans (hb1.mono HB.out.size)
        have hcx : ∀ o, w1.cell? ⟨g, o, none⟩ = wr.cell? ⟨g, o, none⟩ := fun o => World.cell?_of_block (hb1.block g hg)
        rw [← hcx] at c0 c2
        rw [← hcx, ← hcx] at hpr
        clear c1 c3 c4 c5 c6 hcx hV hb1
        by_cases h0 : k = 0
        · have HST := Lib.hid (show His.stepH l k = true by subst h0; rw [hst0 (by omega), HX.out, HVB.out])
          subst h0
          clear hst0 hstk hpr
          go_wp2
          go_big_quiet (fail)
          go_wp2
          go_roundw
          case rel => exact ⟨0 + 1, by omega, by go_num, below_drewN hbw _, fun i hi => by
            rcases Nat.lt_or_ge i 0 with h1 | h1
            · exact HALL.out i h1
            · obtain rfl : i = 0 := by omega
              exact HST.out⟩
          case measure =>
            simp [intOf]
            omega
        · have k1 : decide ((0 : Int) < (k : Int)) = true := decide_eq_true (by omega)
          have k6 : 0 < k := by omega
          have k7 : decide (0 < k) = true := decide_eq_true k6
          have k8 : (0 : Int) < (k : Int) := by omega
          have k3 : IntKind.i64.wrap ((k : Int) - 1) = ((k - 1 : Nat) : Int) := by rw [IntWalk.i64_in _ (by omega)]; omega
          have k4 : ((k - 1 : Nat) : Int) < (len : Int) := by omega
          obtain ⟨p0, p2⟩ := hpr (by omega)
          have hs := hstk h0
          rw [Bool.true_and] at hs
          obtain ⟨y, hy⟩ : ∃ y, l[k - 1]'(by omega) = y := ⟨_, rfl⟩
          rw [hy] at p0 p2 hs
          have hR : His.Rises y x ↔ y.r < x.r ∧ y.m < x.m := Iff.rfl
          clear hy hpr hstk hst0
          generalize k - 1 = k' at *
          by_cases h1 : y.r < x.r
          · have e1 : decide (x.r ≤ y.r) = false := decide_eq_false (by omega)
            by_cases h2 : y.m < x.m
            · have e2 : decide (x.m ≤ y.m) = false := decide_eq_false (by omega)
              have HST := Lib.hid (hs.trans (decide_eq_true (hR.2 ⟨h1, h2⟩)))
              clear hs hR h1 h2
              go_wp2
              go_big_quiet (fail)
              go_wp2
              go_roundw
              case rel => exact ⟨k + 1, by omega, by go_num, below_drewN hbw _, fun i hi => by
                rcases Nat.lt_or_ge i k with h1 | h1
                · exact HALL.out i h1
                · obtain rfl : i = k := by omega
                  exact HST.out⟩
              case measure =>
                simp [intOf]
                omega
            · have e2 : decide (x.m ≤ y.m) = true := decide_eq_true (by omega)
              have HF := Lib.hid (His.right_no (l := l) k (by omega) (hs.trans (decide_eq_false fun q => h2 (hR.1 q).2)))
              clear hs hR h1 h2
              go_wp2
              go_big_quiet (fail)
              go_wp2
              go_ret
              exact ⟨by rw [HF.out]; rfl, below_drewN hbw _⟩
          · have e1 : decide (x.r ≤ y.r) = true := decide_eq_true (by omega)
            have HF := Lib.hid (His.right_no (l := l) k (by omega) (hs.trans (decide_eq_false fun q => h1 (hR.1 q).1)))
            clear hs hR h1
            go_wp2
            go_big_quiet (fail)
            go_wp2
            go_ret
            exact ⟨by rw [HF.out]; rfl, below_drewN hbw _⟩
    · obtain rfl : k = len := by omega
      have l1 : decide ((k : Int) < (k : Int)) = false := decide_eq_false (by omega)
      have HT := Lib.hid (His.right_yes (l := l) fun j hj => HALL.out j (by omega))
      clear hbel
      go_wp2
      go_ret
      exact ⟨by rw [HT.out]; rfl, HB.out⟩

end Go.Proofs.Ytcoddkbbgmjckaa

namespace Go.Proofs.Ytcoddkbbgmjckaa
open Go.RowKit
set_option linter.unusedVariables false

theorem lpq : (∀ (a : Go.Act) (t : Tmp) (v : Value), a.put (some t) v = { a with tmps := a.tmps.setIfInBounds t v }) ∧ (∀ (a : Go.Act) (v : Value), a.put none v = a) ∧ (∀ (α : Type) (l : List α) (i : Nat) (x : α), l.toArray.setIfInBounds i x = (l.set i x).toArray) ∧ (∀ (α : Type) (a b : α) (l : List α), (a :: l).set 0 b = b :: l) ∧ (∀ (α : Type) (a b : α) (l : List α) (n : Nat), (a :: l).set (n + 1) b = a :: l.set n b) :=
  ⟨fun _ _ _ => rfl, fun _ _ => rfl, fun _ _ _ _ => List.setIfInBounds_toArray .., fun _ _ _ _ => rfl, fun _ _ _ _ _ => rfl⟩
theorem hlq {w : World} {k : Nat} {o : Obj} (h : w.heap[k]? = some o) : k < w.heap.size := (Array.getElem?_eq_some_iff.1 h).1
theorem nlq {n : Nat} : n ≤ n := Nat.le_refl n
theorem blq {B : Nat} {w : World} : Below B w w := Below.refl B w
theorem opq {ops : Array Oper} {i : Nat} {oi : Oper} (h : (ops.toList.drop i).head? = some oi) : ops[i]? = some oi := by
  rw [List.head?_drop] at h
  simpa using h
theorem bpq {P : Program} {fn : Func} {R : Ending → World → Prop} {a : Go.Act} {w : World} {x : Exit} (h : R (.returned (.tuple #[])) w) (hx : x = .ret ∨ x = .normal := by first | exact .inl rfl | exact .inr rfl) (hf : fn.results = #[] := by rfl) (hd : a.defers = [] := by rfl) : bodyPost P fn R x a w := by
  rcases hx with rfl | rfl
  · exact bodyPost_ret (results_none hf _ _ _) hd h
  · exact bodyPost_end (results_none hf _ _ _) hd h
theorem exq {α : Sort _} (a : α) : ∃ b, a = b := ⟨a, rfl⟩
theorem tkq {P : Program} {ops : Array Oper} {Q : Exit → Go.Act → World → Prop} {md : Region.Mode} {S : World → Prop} {fuel : Nat} {listed L : Array Bool} {a b : Go.Act} {w : World} {oi : Oper} {v : Value} (i : Nat) (h : wpAnyH P md ops Q S fuel L b w)
    (hi : (ops.toList.drop i).head? = some oi := by rfl) (hs : Region.noSelect ops = true := by kernel_rfl) (hf : Region.free md ops listed i = true := by kernel_rfl) (hr : (Region.ready md ops listed).contains i = true := by kernel_rfl) (hw : Region.wanted oi (yielded ops a.tmps) = true := by rfl) (hy : ∀ w, S w → (execOp a.eval oi).run P w = .ok (.value v) w := by (intro w h; (try dsimp only at h); go_simp); (try with_reducible rfl)) (ha : a.put oi.dst v = b := by first | (simp only [lpq]; rfl) | (simp only [lpq]; done) | rfl) (hL : listed.setIfInBounds i true = L := by first | (simp only [lpq]; rfl) | (simp only [lpq]; done) | rfl) (hS : S w := by assumption) (hQ : ∀ c a w, Q (.panic c) (a.put oi.dst v) w → Q (.panic c) a w := by exact fun _ _ _ h => h) : wpAnyH P md ops Q S (fuel + 1) listed a w :=
  wpAnyH_take (opq hi) hs hf hr hQ (Or.inl ⟨hw, hy⟩) hS (by rw [ha, hL]; exact h)
theorem tuq {P : Program} {ops : Array Oper} {Q : Exit → Go.Act → World → Prop} {md : Region.Mode} {S : World → Prop} {fuel : Nat} {listed L : Array Bool} {a b : Go.Act} {w : World} {oi : Oper} (i : Nat) (h : wpAnyH P md ops Q S fuel L b w)
    (hi : (ops.toList.drop i).head? = some oi := by rfl) (hs : Region.noSelect ops = true := by kernel_rfl) (hf : Region.free md ops listed i = true := by kernel_rfl) (hr : (Region.ready md ops listed).contains i = true := by kernel_rfl) (hw : Region.wanted oi (yielded ops a.tmps) = false := by rfl) (ha : a.put oi.dst undef = b := by first | (simp only [lpq]; rfl) | (simp only [lpq]; done) | rfl) (hL : listed.setIfInBounds i true = L := by first | (simp only [lpq]; rfl) | (simp only [lpq]; done) | rfl) (hS : S w := by assumption) (hQ : ∀ c a w, Q (.panic c) (a.put oi.dst undef) w → Q (.panic c) a w := by exact fun _ _ _ h => h) : wpAnyH P md ops Q S (fuel + 1) listed a w :=
  wpAnyH_take (opq hi) hs hf hr hQ (Or.inr ⟨hw, rfl⟩) hS (by rw [ha, hL]; exact h)
theorem rdq1 {P : Program} {ops : Array Oper} {Q : Exit → Go.Act → World → Prop} {md : Region.Mode} {S : World → Prop} {fuel : Nat} {listed L : Array Bool} {a : Go.Act} {w : World} {oi : Oper} (i : Nat) (hi : (∀ K : Go.Act → World → Prop, Go.Shut (∀ a w, S w → (S w → wpAnyH P md ops Q S fuel L a w) → K a w) → if Region.wanted oi (yielded ops a.tmps) = true then Oper.wp P oi a w K Q else K (a.put oi.dst undef) w))
    (ui : (ops.toList.drop i).head? = some oi := by rfl) (hr : Region.ready md ops listed = [i] := by kernel_rfl) (li : listed.setIfInBounds i true = L := by first | (simp only [lpq]; rfl) | (simp only [lpq]; done) | rfl) : wpAnyH P md ops Q S (fuel + 1) listed a w :=
  wpAnyH_ready hr (by simp) (AllReadyH.cons (opq ui) (fun K hK => hi K (by rw [← li]; exact hK)) (AllReadyH.nil))
theorem rdq2 {P : Program} {ops : Array Oper} {Q : Exit → Go.Act → World → Prop} {md : Region.Mode} {S : World → Prop} {fuel : Nat} {listed L L2 : Array Bool} {a : Go.Act} {w : World} {oi oj : Oper} (i j : Nat) (hi : (∀ K : Go.Act → World → Prop, Go.Shut (∀ a w, S w → (S w → wpAnyH P md ops Q S fuel L a w) → K a w) → if Region.wanted oi (yielded ops a.tmps) = true then Oper.wp P oi a w K Q else K (a.put oi.dst undef) w)) (hj : (∀ K : Go.Act → World → Prop, Go.Shut (∀ a w, S w → (S w → wpAnyH P md ops Q S fuel L2 a w) → K a w) → if Region.wanted oj (yielded ops a.tmps) = true then Oper.wp P oj a w K Q else K (a.put oj.dst undef) w))
    (ui : (ops.toList.drop i).head? = some oi := by rfl) (uj : (ops.toList.drop j).head? = some oj := by rfl) (hr : Region.ready md ops listed = [i, j] := by kernel_rfl) (li : listed.setIfInBounds i true = L := by first | (simp only [lpq]; rfl) | (simp only [lpq]; done) | rfl) (lj : listed.setIfInBounds j true = L2 := by first | (simp only [lpq]; rfl) | (simp only [lpq]; done) | rfl) : wpAnyH P md ops Q S (fuel + 1) listed a w :=
  wpAnyH_ready hr (by simp) (AllReadyH.cons (opq ui) (fun K hK => hi K (by rw [← li]; exact hK)) (AllReadyH.cons (opq uj) (fun K hK => hj K (by rw [← lj]; exact hK)) (AllReadyH.nil)))
theorem dnq {P : Program} {ops : Array Oper} {Q : Exit → Go.Act → World → Prop} {md : Region.Mode} {S : World → Prop} {n : Nat} {listed : Array Bool} {a : Go.Act} {w : World} (h : Q .normal a w) (hr : Region.ready md ops listed = [] := by kernel_rfl) : wpAnyH P md ops Q S n listed a w := wpAnyH_done hr h n
theorem rpq (ops : Array Oper) : Array.replicate ops.size false = (List.replicate ops.toList.length false).toArray := by cases ops; simp
theorem lsq {P : Program} {ops : Array Oper} {Q : Exit → Go.Act → World → Prop} {md : Region.Mode} {S : World → Prop} {m : Nat} {M L : Array Bool} {a : Go.Act} {w : World} (n : Nat) (h : wpAnyH P md ops Q S n L a w) (hn : m = n := by rfl) (hL : M = L := by first | (simp only [rpq, List.replicate]; rfl) | rfl) : wpAnyH P md ops Q S m M a w := by subst hn hL; exact h
theorem bbr {B : Nat} {w W : World} (h : Below B w W := by repeat (first | exact blq | apply Below.drew | refine Below.alloc ?_ (by simp) _)) : Below B w W := h
theorem hdq2 {p0 p1 : Prop} (h0 : p0) (h1 : p1) : Go.RowKit.Hid (p0 ∧ p1) := Lib.hid ⟨h0, h1⟩
theorem hdq3 {p0 p1 p2 : Prop} (h0 : p0) (h1 : p1) (h2 : p2) : Go.RowKit.Hid (p0 ∧ p1 ∧ p2) := Lib.hid ⟨h0, h1, h2⟩
theorem hdq4 {p0 p1 p2 p3 : Prop} (h0 : p0) (h1 : p1) (h2 : p2) (h3 : p3) : Go.RowKit.Hid (p0 ∧ p1 ∧ p2 ∧ p3) := Lib.hid ⟨h0, h1, h2, h3⟩
theorem hdq5 {p0 p1 p2 p3 p4 : Prop} (h0 : p0) (h1 : p1) (h2 : p2) (h3 : p3) (h4 : p4) : Go.RowKit.Hid (p0 ∧ p1 ∧ p2 ∧ p3 ∧ p4) := Lib.hid ⟨h0, h1, h2, h3, h4⟩
theorem hdq6 {p0 p1 p2 p3 p4 p5 : Prop} (h0 : p0) (h1 : p1) (h2 : p2) (h3 : p3) (h4 : p4) (h5 : p5) : Go.RowKit.Hid (p0 ∧ p1 ∧ p2 ∧ p3 ∧ p4 ∧ p5) := Lib.hid ⟨h0, h1, h2, h3, h4, h5⟩
theorem hdq7 {p0 p1 p2 p3 p4 p5 p6 : Prop} (h0 : p0) (h1 : p1) (h2 : p2) (h3 : p3) (h4 : p4) (h5 : p5) (h6 : p6) : Go.RowKit.Hid (p0 ∧ p1 ∧ p2 ∧ p3 ∧ p4 ∧ p5 ∧ p6) := Lib.hid ⟨h0, h1, h2, h3, h4, h5, h6⟩
theorem hdq8 {p0 p1 p2 p3 p4 p5 p6 p7 : Prop} (h0 : p0) (h1 : p1) (h2 : p2) (h3 : p3) (h4 : p4) (h5 : p5) (h6 : p6) (h7 : p7) : Go.RowKit.Hid (p0 ∧ p1 ∧ p2 ∧ p3 ∧ p4 ∧ p5 ∧ p6 ∧ p7) := Lib.hid ⟨h0, h1, h2, h3, h4, h5, h6, h7⟩
theorem hdq9 {p0 p1 p2 p3 p4 p5 p6 p7 p8 : Prop} (h0 : p0) (h1 : p1) (h2 : p2) (h3 : p3) (h4 : p4) (h5 : p5) (h6 : p6) (h7 : p7) (h8 : p8) : Go.RowKit.Hid (p0 ∧ p1 ∧ p2 ∧ p3 ∧ p4 ∧ p5 ∧ p6 ∧ p7 ∧ p8) := Lib.hid ⟨h0, h1, h2, h3, h4, h5, h6, h7, h8⟩
theorem hdq10 {p0 p1 p2 p3 p4 p5 p6 p7 p8 p9 : Prop} (h0 : p0) (h1 : p1) (h2 : p2) (h3 : p3) (h4 : p4) (h5 : p5) (h6 : p6) (h7 : p7) (h8 : p8) (h9 : p9) : Go.RowKit.Hid (p0 ∧ p1 ∧ p2 ∧ p3 ∧ p4 ∧ p5 ∧ p6 ∧ p7 ∧ p8 ∧ p9) := Lib.hid ⟨h0, h1, h2, h3, h4, h5, h6, h7, h8, h9⟩
theorem hdq11 {p0 p1 p2 p3 p4 p5 p6 p7 p8 p9 p10 : Prop} (h0 : p0) (h1 : p1) (h2 : p2) (h3 : p3) (h4 : p4) (h5 : p5) (h6 : p6) (h7 : p7) (h8 : p8) (h9 : p9) (h10 : p10) : Go.RowKit.Hid (p0 ∧ p1 ∧ p2 ∧ p3 ∧ p4 ∧ p5 ∧ p6 ∧ p7 ∧ p8 ∧ p9 ∧ p10) := Lib.hid ⟨h0, h1, h2, h3, h4, h5, h6, h7, h8, h9, h10⟩
theorem hdq12 {p0 p1 p2 p3 p4 p5 p6 p7 p8 p9 p10 p11 : Prop} (h0 : p0) (h1 : p1) (h2 : p2) (h3 : p3) (h4 : p4) (h5 : p5) (h6 : p6) (h7 : p7) (h8 : p8) (h9 : p9) (h10 : p10) (h11 : p11) : Go.RowKit.Hid (p0 ∧ p1 ∧ p2 ∧ p3 ∧ p4 ∧ p5 ∧ p6 ∧ p7 ∧ p8 ∧ p9 ∧ p10 ∧ p11) := Lib.hid ⟨h0, h1, h2, h3, h4, h5, h6, h7, h8, h9, h10, h11⟩
end Go.Proofs.Ytcoddkbbgmjckaa
