/- The program's Take, by its contract. -/
import Derived.Test.YtlanjlboipnpfaaLogProgK
import Derived.Test.YtlanjlboipnpfaaEntRunP
import Derived.Outline
namespace Go.Proofs.Ytlanjlboipnpfaa
open Go.RowKit
set_option linter.unusedVariables false
set_option linter.unusedSimpArgs false

theorem Ents.back {w : World} {Z : Nat → Prop} {A : Option Addr} {n cap : Nat} {ls : List Ent} (h : Ents w Z A n cap ls) {k : Nat} (hk : k ≤ n) : Ents w Z (tailAt A cap k) (n - k) (cap - k) (ls.drop k) := by
  have hl := h.1
  have hc := h.2.1
  refine ⟨by rw [List.length_drop]; omega, by omega, fun e => ?_, fun h0 => ?_⟩
  · unfold tailAt at e
    split at e
    · omega
    · cases A with
      | none => have := h.2.2.1 rfl; omega
      | some a => cases e
  · obtain ⟨g, off, e, hg, hz, hcell⟩ := h.2.2.2 (by omega)
    subst e
    refine ⟨g, off + k * 3, by unfold tailAt; rw [if_neg (by omega), Option.map_some, Addr.add_lit], hg, hz, fun j hj => ?_⟩
    have hj' : k + j < ls.length := by rw [List.length_drop] at hj; omega
    obtain ⟨E, c, c0, c1, c2, r⟩ := hcell (k + j) hj'
    simp only [List.getElem_drop]
    exact ⟨E, c, by rw [show off + k * 3 + j * 3 = off + (k + j) * 3 by omega]; exact c0, by rw [show off + k * 3 + j * 3 + 1 = off + (k + j) * 3 + 1 by omega]; exact c1, by rw [show off + k * 3 + j * 3 + 2 = off + (k + j) * 3 + 2 by omega]; exact c2, r⟩

theorem takeP_nil (x t : Int) (B : Option Addr) (m cB : Nat) (w : World) :
    Calls Try.prog 21 #[.pointer none, .int .i64 x, .int .i64 t, .slice B m cB] w fun e w' => e = .returned (.tuple #[.int .i64 0, .bool false]) ∧ w = w' := by
  go_enter Try.func21, Try.ntmps21
  go_wp2
  go_ret2
  exact ⟨rfl, rfl⟩

/-- What Take does to a log, and what it answers. -/
def Taken (w : World) (p : Nat) (r : RL) (s : Nat) (x t : Int) (ms : List Ent) (Z : Nat → Prop) (e : Ending) (w' : World) : Prop :=
  e = .returned (.tuple #[.int .i64 (r.take x t ms).2.1, .bool (r.take x t ms).2.2]) ∧ (∃ s', Lg w' p (r.take x t ms).1 s' Z ∧ (frel r s → frel (r.take x t ms).1 s')) ∧ Keeps Z w w'

set_option maxRecDepth 100000 in
set_option maxHeartbeats 3200000 in
theorem takeP_any {w : World} {p : Nat} {r : RL} {s : Nat} {Z : Nat → Prop} (h : Lg w p r s Z) (hZ : ∀ q, Z q → q < w.heap.size) (hg : Good r) (x t : Int) (hx2 : x ≤ 9223372036854775807) (B : Option Addr) (m cB : Nat) (ms : List Ent) (hB : Ents w Z B m cB ms) (hmm : r.l.length + m ≤ 1000000) :
    Calls Try.prog 21 #[ptrV p, .int .i64 x, .int .i64 t, .slice B m cB] w (Taken w p r s x t ms Z) := by
  have hR := runP_any Z B m cB ms x t w hB (by unfold maxLen; omega)
  have hsame : ∀ w', Below w.heap.size w w' → Lg w' p r s Z := fun w' hb => h.below hb
  have hkb : ∀ w', Below w.heap.size w w' → Keeps Z w w' := fun w' hb => keeps_below hb (Nat.le_refl _)
  by_cases hr : runB x t ms = true
  · rw [hr] at hR
    obtain ⟨A, c, hrd⟩ := h.rd
    have hT := fun w1 (hb : Below w.heap.size w w1) => termP_any (hrd.below hb) (by omega) hg x
    by_cases ha : r.at_ x = some t
    · have e1 : r.take x t ms = (r.swap (ms.drop (r.known ms)), x + ms.length, true) := by unfold RL.take; rw [if_pos hr, if_pos ha]
      rw [ha] at hT
      have hK := fun w1 (hb : Below w.heap.size w w1) => knownP_any (hrd.below hb) (by omega) hg Z B m cB ms (hB.below hb (Nat.le_refl _)) (by omega)
      have hml := hB.1
      have hkn := known_le r ms
      obtain ⟨a1, a2, _, _⟩ := hg.at_some ha
      have hlim := hg.lim
      have hw1 : wrap64 (x + (m : Int)) = x + (m : Int) := by rw [← IntWalk.i64_left, IntWalk.i64_in _ (by omega)]
      have q1 : (t != t) = false := by simp
      by_cases hk : r.known ms < m
      · have hj := hg.joins hr ha (by omega)
        have hP := fun w1 (hb : Below w.heap.size w w1) => replaceP_any (h.below hb) (fun q hq => Nat.lt_of_lt_of_le (hZ q hq) hb.size) hg (tailAt B cB (r.known ms)) (m - r.known ms) (cB - r.known ms) (ms.drop (r.known ms)) ((hB.below hb (Nat.le_refl _)).back (by omega)) (by omega) hj
        have hsl := fun W => slice_back (A := B) (n := m) (cap := cB) (k := r.known ms) (by omega) hB.2.1 W
        have hfr : frel r s → frel (r.swap (ms.drop (r.known ms))) (min s (r.keep (ms.drop (r.known ms)))) := fun hs => frel_swap hg hj hs
        unfold Taken
        rw [e1]
        dsimp only
        have HE := Lib.hid (show x + (ms.length : Int) = x + (m : Int) by rw [hml])
        generalize r.swap (ms.drop (r.known ms)) = r' at *
        generalize min s (r.keep (ms.drop (r.known ms))) = s' at *
        generalize hkk : r.known ms = k at *
        have HFR := Lib.hid hfr
        have hk2 : (k : Int) < (m : Int) := by omega
        have hk3 : (k : Int) ≤ (m : Int) := by omega
        clear hj hB h hg hr ha hrd hsame e1 hfr hkk hml hlim hkn a1 a2
        go_enter Try.func21, Try.ntmps21
        go_wp2_with fail
        refine hR.mono ?_
        rintro e w1 ⟨rfl, hb1⟩
        have hT := hT w1 hb1
        go_wp2_with fail
        refine hT.mono ?_
        rintro e w2 ⟨rfl, hb2⟩
        have hbw2 := hb1.trans (hb2.mono hb1.size)
        have hK := hK w2 hbw2
        clear hT hR
        go_wp2_with fail
        refine hK.mono ?_
        rintro e w3 ⟨rfl, hb3⟩
        have hbw3 := hbw2.trans (hb3.mono hbw2.size)
        have hP := hP w3 hbw3
        have hkb := hkb w3 hbw3
        clear hK
        go_wp2_with fail
        refine hP.mono ?_
        rintro e w4 ⟨rfl, hl4, hk4⟩
        go_wp2
        go_ret2
        refine ⟨?_, ⟨s', hl4, HFR.out⟩, hkb.trans hk4⟩
        rw [HE.out]
        show Ending.returned (.tuple #[.int .i64 (wrap64 (x + (m : Int))), .bool true]) = _
        rw [hw1]
      · have hsw : r.swap (ms.drop (r.known ms)) = r := by rw [List.drop_of_length_le (by omega)]; rfl
        unfold Taken
        rw [e1, hsw]
        dsimp only
        have HE := Lib.hid (show x + (ms.length : Int) = x + (m : Int) by rw [hml])
        have hkm : r.known ms = m := by omega
        rw [hkm] at hK
        clear hsw e1 hB h hg hr ha hrd hkm hml hlim hkn a1 a2 hk
        go_enter Try.func21, Try.ntmps21
        go_wp2_with fail
        refine hR.mono ?_
        rintro e w1 ⟨rfl, hb1⟩
        have hT := hT w1 hb1
        go_wp2_with fail
        refine hT.mono ?_
        rintro e w2 ⟨rfl, hb2⟩
        have hbw2 := hb1.trans (hb2.mono hb1.size)
        have hK := hK w2 hbw2
        have hdec : decide ((m : Int) < (m : Int)) = false := decide_eq_false (by omega)
        clear hT hR
        go_wp2_with fail
        refine hK.mono ?_
        rintro e w3 ⟨rfl, hb3⟩
        have hbw3 := hbw2.trans (hb3.mono hbw2.size)
        clear hK
        go_wp2
        go_ret2
        refine ⟨?_, ⟨s, hsame _ hbw3, fun hs => hs⟩, hkb _ hbw3⟩
        rw [HE.out]
        show Ending.returned (.tuple #[.int .i64 (wrap64 (x + (m : Int))), .bool true]) = _
        rw [hw1]
    · have e1 : r.take x t ms = (r, r.retry x, false) := by unfold RL.take; rw [if_pos hr, if_neg ha]
      have hY := fun w1 (hb : Below w.heap.size w w1) => retryP_any (hrd.below hb) (by omega) hg x hx2
      unfold Taken
      rw [e1]
      dsimp only
      clear hB h hg hr hrd e1
      generalize r.retry x = y at *
      cases ho : r.at_ x with
      | none =>
        rw [ho] at hT
        clear ha ho
        go_enter Try.func21, Try.ntmps21
        go_wp2_with fail
        refine hR.mono ?_
        rintro e w1 ⟨rfl, hb1⟩
        have hT := hT w1 hb1
        go_wp2_with fail
        refine hT.mono ?_
        rintro e w2 ⟨rfl, hb2⟩
        have hbw2 := hb1.trans (hb2.mono hb1.size)
        have hY := hY w2 hbw2
        clear hT hR
        go_wp2_with fail
        refine hY.mono ?_
        rintro e w3 ⟨rfl, hb3⟩
        have hbw3 := hbw2.trans (hb3.mono hbw2.size)
        go_wp2
        go_ret2
        exact ⟨rfl, ⟨s, hsame _ hbw3, fun hs => hs⟩, hkb _ hbw3⟩
      | some v =>
        rw [ho] at hT
        have hv : v ≠ t := fun e => ha (by rw [ho, e])
        have q1 : (v != t) = true := by simp [hv]
        have q2 : (v = t) = False := eq_false hv
        clear ha ho hv
        go_enter Try.func21, Try.ntmps21
        go_wp2_with fail
        refine hR.mono ?_
        rintro e w1 ⟨rfl, hb1⟩
        have hT := hT w1 hb1
        go_wp2_with fail
        refine hT.mono ?_
        rintro e w2 ⟨rfl, hb2⟩
        have hbw2 := hb1.trans (hb2.mono hb1.size)
        have hY := hY w2 hbw2
        clear hT hR
        go_wp2_with fail
        refine hY.mono ?_
        rintro e w3 ⟨rfl, hb3⟩
        have hbw3 := hbw2.trans (hb3.mono hbw2.size)
        go_wp2
        go_ret2
        exact ⟨rfl, ⟨s, hsame _ hbw3, fun hs => hs⟩, hkb _ hbw3⟩
  · have e1 : r.take x t ms = (r, 0, false) := by unfold RL.take; rw [if_neg hr]
    have hf : runB x t ms = false := by simpa using hr
    rw [hf] at hR
    unfold Taken
    rw [e1]
    dsimp only
    clear hB h hg hr hf e1
    go_enter Try.func21, Try.ntmps21
    go_wp2_with fail
    refine hR.mono ?_
    rintro e w1 ⟨rfl, hb1⟩
    go_wp2
    go_ret2
    exact ⟨rfl, ⟨s, hsame _ hb1, fun hs => hs⟩, hkb _ hb1⟩

end Go.Proofs.Ytlanjlboipnpfaa
