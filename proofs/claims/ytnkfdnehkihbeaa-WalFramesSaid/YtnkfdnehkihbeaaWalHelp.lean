/- small, Alike, Texts of the laws, each by its contract. -/
import Derived.Test.YtnkfdnehkihbeaaWalRecs
import Derived.BigQuiet
import Derived.Lib.Hide
import Derived.Deep.LoopGhost
import Derived.Deep.AppendLies
namespace Go.Proofs.Ytnkfdnehkihbeaa
open Go.RowKit
set_option linter.unusedVariables false
set_option linter.unusedSimpArgs false

def smallB (ls : List (List UInt8)) : Bool := decide (ls.length ≤ 12) && ls.all fun r => decide (r.length ≤ 400)

theorem smallB_fit {ls : List (List UInt8)} (h : smallB ls = true) : ls.length ≤ 12 ∧ ∀ r ∈ ls, r.length ≤ 400 := by
  unfold smallB at h
  simp only [Bool.and_eq_true, decide_eq_true_eq, List.all_eq_true] at h
  exact h

theorem smallB_many {ls : List (List UInt8)} (h : 12 < ls.length) : smallB ls = false := by
  unfold smallB
  rw [decide_eq_false (by omega), Bool.false_and]

theorem smallB_long {ls : List (List UInt8)} (k : Nat) (hk : k < ls.length) (h : 400 < ls[k].length) : smallB ls = false := by
  cases hs : smallB ls with
  | false => rfl
  | true =>
    have := (smallB_fit hs).2 _ (List.getElem_mem hk)
    omega

theorem smallB_yes {ls : List (List UInt8)} (h : ls.length ≤ 12) (h2 : ∀ r ∈ ls, r.length ≤ 400) : smallB ls = true := by
  unfold smallB
  simp only [Bool.and_eq_true, decide_eq_true_eq, List.all_eq_true]
  exact ⟨h, h2⟩

set_option maxHeartbeats 1000000 in
theorem small_any (Z : Nat → Prop) (A : Option Addr) (len cap : Nat) (ls : List (List UInt8)) (w : World) (h : Recs w Z A len cap ls) (hm : len ≤ maxLen) :
    Calls Try.prog 15 #[.slice A len cap] w fun e w' => e = .returned (.bool (smallB ls)) ∧ w = w' := by
  unfold maxLen at hm
  have hll := h.1
  go_enter Try.func15, Try.ntmps15
  go_wp2
  go_loop [3, 6] (fun r i => ∃ k : Nat, k ≤ len ∧ k ≤ 12 ∧ i = .int .i64 (k : Int) ∧ ∀ x ∈ ls.take k, x.length ≤ 400) (fun _ i => len - (intOf i).toNat)
  case atStart => exact ⟨0, by omega, by omega, rfl, fun x hx => by simp at hx⟩
  case round =>
    obtain ⟨k, hk, hk12, rfl, hall⟩ := hrel
    by_cases hlt : k < len
    · have hlt' : (k : Int) < (len : Int) := by omega
      obtain ⟨g, off, E, c, rfl, hg, _, hcell, hc, hl⟩ := h.at_ k hlt
      have hnext : ∀ x ∈ ls.take (k + 1), x.length ≤ 400 ∨ x = ls[k]'(by omega) := fun x hx => by
        rw [List.take_succ_eq_append_getElem (by omega)] at hx
        rcases List.mem_append.1 hx with hx | hx
        · exact .inl (hall x hx)
        · exact .inr (by simpa using hx)
      have HN := Lib.hid hnext
      by_cases h12 : 12 ≤ k
      · have HE := Lib.hid (smallB_many (ls := ls) (by omega))
        have h12' : (12 : Int) ≤ (k : Int) := by omega
        clear HN hl hnext hcell h hall hc hll hk hlt hk12 h12 hm
        go_wp2
        go_ret
        exact ⟨by have e : smallB ls = false := HE; rw [e]; rfl, rfl⟩
      · have h12' : ((12 : Int) ≤ (k : Int)) = False := eq_false (by omega)
        obtain ⟨n, hn⟩ : ∃ n, (ls[k]'(by omega)).length = n := ⟨_, rfl⟩
        rw [hn] at hcell
        by_cases hlong : 400 < n
        · have HE := Lib.hid (smallB_long (ls := ls) k (by omega) (by omega))
          have hlong' : (400 : Int) < (n : Int) := by omega
          clear hl hnext h hall hc hll hk hk12 h12 hm hn hlong HN
          go_wp2
          go_ret
          exact ⟨by have e : smallB ls = false := HE; rw [e]; rfl, rfl⟩
        · have hlong' : ((400 : Int) < (n : Int)) = False := eq_false (by omega)
          have e3 : IntKind.i64.wrap ((k : Int) + 1) = ((k + 1 : Nat) : Int) := by rw [IntWalk.i64_in _ (by omega)]; omega
          have Hn := Lib.hid hn
          have hnn : Hid (n ≤ 400 ∧ k + 1 ≤ 12 ∧ k < len) := ⟨by omega, by omega, by omega⟩
          clear hl hnext h hall hc hk12 h12 hm hn hlong
          go_wp2
          go_round
          case rel => exact ⟨k + 1, by have := hnn.out; omega, hnn.out.2.1, by go_num, fun x hx => (HN x hx).elim id fun e => by rw [e]; have e2 : (ls[k]'_).length = n := Hn; rw [e2]; exact hnn.out.1⟩
          case measure => have := hnn.out; simp [intOf]; omega
    · obtain rfl : k = len := by omega
      have HE := Lib.hid (smallB_yes (ls := ls) (by omega) (fun x hx => hall x (by rw [List.take_of_length_le (by omega)]; exact hx)))
      clear h hall hll hk12 hm
      go_wp2
      go_ret
      exact ⟨by have e : smallB ls = true := HE; rw [e]; rfl, rfl⟩

/-- A slice of texts that reads as these. -/
def STexts (w : World) (A : Option Addr) (ts : List (List UInt8)) : Prop :=
  0 < ts.length → ∃ g off, A = some ⟨g, off, none⟩ ∧ g < w.heap.size ∧ ∀ j (hj : j < ts.length), w.cell? ⟨g, off + j, none⟩ = some (.string ⟨ts[j].toArray⟩)

theorem STexts.below {w w' : World} {A : Option Addr} {ts : List (List UInt8)} (h : STexts w A ts) (hb : Below w.heap.size w w') : STexts w' A ts := fun h0 => by
  obtain ⟨g, off, e, hg, hc⟩ := h h0
  exact ⟨g, off, e, Nat.lt_of_lt_of_le hg hb.size, fun j hj => (World.cell?_of_block (w := w) (hb.block g hg)).trans (hc j hj)⟩

abbrev txt (l : List UInt8) : Value := .string ⟨l.toArray⟩

theorem STexts.of_row {w : World} {base n cap : Nat} {T : TypeId} {A : Option Addr} {ts : List (List UInt8)} (h : w.ownsRow base T 1 (.slice A n cap) ts.length (ts.map txt)) : STexts w A ts ∧ n = ts.length := by
  rcases h.2 with ⟨e, h0⟩ | ⟨g, cap', cur, e, hb, hg, hc, hm, hs, ht⟩
  · injection e with e1 e2 e3
    exact ⟨fun h1 => by omega, by omega⟩
  · injection e with e1 e2 e3
    subst e1 e3
    refine ⟨fun _ => ⟨g, 0, rfl, hlt hg, fun j hj => ?_⟩, e2⟩
    rw [cell_of_row w g _ cur _ (0, 0) hg, Nat.zero_add]
    have := congrArg (fun q => q[j]?) ht
    simp only [List.getElem?_take, List.getElem?_map, List.getElem?_eq_getElem hj, Option.map_some] at this
    rw [if_pos (by omega)] at this
    simpa using this

end Go.Proofs.Ytnkfdnehkihbeaa
