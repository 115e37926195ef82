/- Alike of the laws leaves all as it was. -/
import Derived.Test.YtnkfdnehkihbeaaWalHelpB
namespace Go.Proofs.Ytnkfdnehkihbeaa
open Go.RowKit
set_option linter.unusedVariables false
set_option linter.unusedSimpArgs false

theorem quiet_below {w wr : World} (h : ∃ q, wr = w.drewN q) : Below w.heap.size w wr := by
  obtain ⟨q, rfl⟩ := h
  exact below_drewN (Below.refl _ _) q

theorem quiet_more {w wr : World} (h : ∃ q, wr = w.drewN q) (n : Nat) : ∃ q, wr.drewN n = w.drewN q := by
  obtain ⟨q, rfl⟩ := h
  exact ⟨q + n, World.drewN_drewN ..⟩

set_option maxRecDepth 100000 in
set_option maxHeartbeats 1000000 in
theorem alike_quiet (Z : Nat → Prop) (A : Option Addr) (len cap : Nat) (ls : List (List UInt8)) (B : Option Addr) (n capB : Nat) (ts : List (List UInt8)) (w : World) (h : Recs w Z A len cap ls) (hB : STexts w B ts) (hn : ts.length = n) (hm : len ≤ maxLen) :
    Calls Try.prog 14 #[.slice A len cap, .slice B n capB] w fun e w' => e = .returned (.bool (decide (ls = ts))) ∧ ∃ q, w' = w.drewN q := by
  unfold maxLen at hm
  have hll := h.1
  by_cases hlen : len = n
  · subst hlen
    go_enter Try.func14, Try.ntmps14
    go_wp2
    go_loopg [5, 13] len (fun g r i wr => ∃ k : Nat, k + g = len ∧ i = .int .i64 (k : Int) ∧ ls.take k = ts.take k ∧ ∃ q, wr = w.drewN q)
    case atStart => exact ⟨0, by omega, rfl, by simp, 0, rfl⟩
    case round =>
      obtain ⟨k, hk, rfl, htk, hq⟩ := hrel
      have hb := quiet_below hq
      have HB := Lib.hid hq
      clear hq
      by_cases hlt : k < len
      · have hlt' : (k : Int) < (len : Int) := by omega
        obtain ⟨g, off, E, c, rfl, hg, _, hcell0, hc, hl0⟩ := h.at_ k hlt
        have hcell := (World.cell?_of_block (w := w) (a := ⟨g, off + k, none⟩) (hb.block g hg)).trans hcell0
        have hl := hl0.below hb (Nat.le_refl _)
        obtain ⟨gb, offb, rfl, hgb, hcb⟩ := hB (by omega)
        have hcellb := (World.cell?_of_block (w := w) (a := ⟨gb, offb + k, none⟩) (hb.block gb hgb)).trans (hcb k (by omega))
        have hcv : ∀ W : World, W.heap = wr.heap → (convert 22 9 (.slice E (ls[k]'(by omega)).length c)).run Try.prog W = .ok (.string ⟨(ls[k]'(by omega)).toArray⟩) W := fun W hW => by
          have : Lies W E (ls[k]'(by omega)).length c (ls[k]'(by omega)) := hl.keep (by rw [hW]; exact Nat.le_refl _) fun _ g off _ _ => by rw [hW]
          exact this.text Try.underlying22 Try.underlying5 Try.underlying9
        have hE : decide (ls = ts) = true → (ls[k]'(by omega)) = (ts[k]'(by omega)) := fun e => by
          have e := of_decide_eq_true e
          subst e; rfl
        have HN := Lib.hid (show (ls[k]'(by omega)) = (ts[k]'(by omega)) → ls.take (k + 1) = ts.take (k + 1) from fun e => by
          rw [List.take_succ_eq_append_getElem (by omega), List.take_succ_eq_append_getElem (by omega), htk, e])
        have hcv0 := fun n => hcv (wr.drewN n) rfl
        clear hcv
        generalize (ls[k]'(by omega)) = r at *
        generalize (ts[k]'(by omega)) = s at *
        have e3 : IntKind.i64.wrap ((k : Int) + 1) = ((k + 1 : Nat) : Int) := by rw [IntWalk.i64_in _ (by omega)]; omega
        obtain ⟨m, hm2⟩ : ∃ m, r.length = m := ⟨_, rfl⟩
        rw [hm2] at hcell
        rw [hm2] at hcv0
        obtain ⟨R, hR⟩ : ∃ R : ByteArray, (⟨r.toArray⟩ : ByteArray) = R := ⟨_, rfl⟩
        obtain ⟨S, hS⟩ : ∃ S : ByteArray, (⟨s.toArray⟩ : ByteArray) = S := ⟨_, rfl⟩
        rw [hR] at hcv0
        rw [hS] at hcellb
        have HK := Lib.hid hk
        by_cases hrs : r = s
        · have hRS : R = S := by rw [← hR, ← hS, hrs]
          have HT := Lib.hid (HN hrs)
          subst hRS
          clear hE HN hcb hl hl0 hcell0 htk hR hS hrs h hB hk hlt hb hm
          go_wp2
          go_quiet (fail)
          go_wp2
          go_roundg (gk - 1)
          case measure => have : k + gk = len := HK; omega
          case rel => exact ⟨k + 1, by have : k + gk = len := HK; omega, by go_num, HT, quiet_more HB _⟩
        · have hF := Lib.hid (show decide (ls = ts) = false by
            cases hq : decide (ls = ts) with
            | false => rfl
            | true => exact absurd (hE hq) hrs)
          have hRS := str_ne (R := R) (S := S) fun e => hrs (txt_inj (by rw [hR, hS]; exact e))
          clear hE HN hcb hl hl0 hcell0 htk hR hS hrs h hB hk hlt hb hm
          go_wp2
          go_quiet (fail)
          go_wp2
          go_ret
          exact ⟨by have e : decide (ls = ts) = false := hF; rw [e]; rfl, quiet_more HB _⟩
      · obtain rfl : k = len := by omega
        have hT := Lib.hid (show decide (ls = ts) = true by
          rw [List.take_of_length_le (by omega), List.take_of_length_le (by omega)] at htk
          exact decide_eq_true htk)
        have hdec : decide ((k : Int) < (k : Int)) = false := decide_eq_false (by omega)
        clear h hB hk htk hm
        go_wp2
        go_ret
        exact ⟨by have e : decide (ls = ts) = true := hT; rw [e]; rfl, HB⟩
  · have hF := Lib.hid (show decide (ls = ts) = false from decide_eq_false fun e => hlen (by rw [← hll, ← hn, e]))
    have hne : ((len : Int) != (n : Int)) = true := by simp; omega
    have hne2 : ((len : Int) = (n : Int)) = False := eq_false (by omega)
    clear h hB hlen hll hn hm
    go_enter Try.func14, Try.ntmps14
    go_wp2
    go_ret
    exact ⟨by have e : decide (ls = ts) = false := hF; rw [e]; rfl, 0, rfl⟩

end Go.Proofs.Ytnkfdnehkihbeaa
