/- The program's known, replace, each by its contract. -/
import Derived.Test.YtlanjlboipnpfaaLogProgI
import Derived.Test.YtlanjlboipnpfaaLogRefG
import Derived.Outline
namespace Go.Proofs.Ytlanjlboipnpfaa
open Go.RowKit
set_option linter.unusedVariables false
set_option linter.unusedSimpArgs false

set_option maxRecDepth 100000 in
set_option maxHeartbeats 3200000 in
theorem knownP_any {w : World} {p : Nat} {r : RL} {s : Nat} {A : Option Addr} {n c : Nat} (h : Rd w p r s A n c) (hm : n ≤ 1000000) (hg : Good r) (Y : Nat → Prop) (B : Option Addr) (m cB : Nat) (ms : List Ent) (hB : Ents w Y B m cB ms) (hmm : m ≤ 1000000) :
    Calls Try.prog 44 #[ptrV p, .slice B m cB] w fun e w' => e = .returned (.int .i64 ((r.known ms : Nat) : Int)) ∧ Below w.heap.size w w' := by
  have hll := hB.1
  have hT := fun W (hW : Below w.heap.size w W) x => termP_any (h.below hW) hm hg x
  obtain ⟨F, hF⟩ : ∃ F, F = r.known ms := ⟨_, rfl⟩
  rw [← hF]
  have HF := Lib.hid hF
  clear h hm hg hF
  go_enter Try.func44, Try.ntmps44
  go_wp2
  go_loopg [5, 6, 7, 8, 11] m (fun g s5 s6 s7 s8 kk wr => ∃ k : Nat, k + g = m ∧ kk = .int .i64 (k : Int) ∧ (∀ j (hj : j < ms.length), j < k → r.has ms[j] = true) ∧ Below w.heap.size w wr)
  case atStart => exact ⟨0, by omega, rfl, fun j hj hjk => absurd hjk (by omega), Below.refl _ _⟩
  case round =>
    obtain ⟨k, hk, rfl, hall, hbr⟩ := hrel
    have HK := Lib.hid hk
    have HALL := Lib.hid hall
    by_cases hkm : k < m
    · have hkm' : (k : Int) < (m : Int) := by omega
      obtain ⟨g, off, E, ce, rfl, hgb, x0, x1, x2, _⟩ := (hB.below hbr (Nat.le_refl _)).at_ k hkm
      have hhas : ∀ b, r.has (ms[k]'(by omega)) = b → RowKit.Hid (∀ (hj : k < ms.length), r.has ms[k] = b) := fun b e => Lib.hid fun _ => e
      have hkl : k < ms.length := by omega
      have hdef : r.has (ms[k]'(by omega)) = decide (r.at_ (ms[k]'(by omega)).i = some (ms[k]'(by omega)).t) := rfl
      have hbs := hbr.size
      have hb2 : ∀ O : Obj, Below w.heap.size w (wr.alloc O) := fun O => hbr.alloc hbs O
      have hT2 := fun O x => hT (wr.alloc O) (hb2 O) x
      generalize (ms[k]'(by omega)) = a at *
      obtain ⟨ai, at_, ad⟩ := a
      dsimp only at *
      have hT3 := hT2 (.cells #[.int .i64 ai, .int .i64 at_, .slice E ad.length ce] 43) ai
      have hbx := hb2 (.cells #[.int .i64 ai, .int .i64 at_, .slice E ad.length ce] 43)
      have hrow := heap_alloc_new wr (.cells #[.int .i64 ai, .int .i64 at_, .slice E ad.length ce] 43)
      clear hT2 hb2 hB hall hk
      cases ho : r.at_ ai with
      | none =>
        rw [ho] at hT3 hdef
        have HN := hhas false (by rw [hdef]; simp)
        clear hhas hdef ho
        go_wp2_with fail
        refine hT3.mono ?_
        rintro e w2 ⟨rfl, hb2⟩
        go_wp2
        go_ret
        refine ⟨?_, hbx.trans (hb2.mono hbx.size)⟩
        have e1 : r.known ms = k := known_is r (by omega) HALL.out HN.out
        rw [show F = r.known ms from HF.out, e1]
        rfl
      | some v =>
        rw [ho] at hT3 hdef
        by_cases hv : v = at_
        · subst hv
          have HN := hhas true (by rw [hdef]; simp)
          have q1 : (v != v) = false := by simp
          clear hhas hdef ho
          go_wp2_with fail
          refine hT3.mono ?_
          rintro e w2 ⟨rfl, hb2⟩
          obtain ⟨⟨y0, y1, y2⟩, _⟩ := row3 ((hb2.block _ (hlt hrow)).trans hrow)
          have hbw := hbx.trans (hb2.mono hbx.size)
          clear hT3 hb2 hbx hrow
          go_wp2
          go_roundg (gk - 1)
          case measure => have : k + gk = m := HK.out; omega
          case rel => exact ⟨k + 1, by have : k + gk = m := HK.out; omega, by go_num, fun j hj hjk => by
            rcases Nat.lt_or_ge j k with h1 | h1
            · exact HALL.out j hj h1
            · obtain rfl : j = k := by omega
              exact HN.out hj, hbw⟩
        · have HN := hhas false (by rw [hdef]; simp [hv])
          have q1 : (v != at_) = true := by simp [hv]
          have q2 : (v = at_) = False := eq_false hv
          clear hhas hdef ho hv
          go_wp2_with fail
          refine hT3.mono ?_
          rintro e w2 ⟨rfl, hb2⟩
          obtain ⟨⟨y0, y1, y2⟩, _⟩ := row3 ((hb2.block _ (hlt hrow)).trans hrow)
          have hbw := hbx.trans (hb2.mono hbx.size)
          clear hT3 hb2 hbx hrow
          go_wp2
          go_ret
          refine ⟨?_, hbw⟩
          have e1 : r.known ms = k := known_is r (by omega) HALL.out HN.out
          rw [show F = r.known ms from HF.out, e1]
          rfl
    · obtain rfl : k = m := by omega
      have hdec : decide ((k : Int) < (k : Int)) = false := decide_eq_false (by omega)
      have e1 : r.known ms = k := known_is r (by omega) hall (fun hj => absurd hj (by omega))
      have HE := Lib.hid (show (F : Int) = (k : Int) by rw [show F = r.known ms from HF.out, e1])
      clear hB hall hk hmm hT e1
      go_wp2
      go_ret
      exact ⟨by rw [HE.out]; rfl, hbr⟩

end Go.Proofs.Ytlanjlboipnpfaa
