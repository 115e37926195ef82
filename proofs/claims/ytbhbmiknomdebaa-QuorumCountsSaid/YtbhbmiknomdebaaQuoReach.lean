/- The program's Reached; what the laws want of the program. -/
import Derived.Test.YtbhbmiknomdebaaQuoProg
import Derived.Test.YtbhbmiknomdebaaQuoShelf
import Derived.Sort.OwnSortedInts
namespace Go.Proofs.Ytbhbmiknomdebaa
open Go.RowKit Go.Sort
set_option linter.unusedVariables false
set_option linter.unusedSimpArgs false

/-- In order, and of the same numbers. -/
def rising (l : List Int) : List Int := l.mergeSort fun x y => decide (x ≤ y)

theorem rising_perm (l : List Int) : (rising l).Perm l := List.mergeSort_perm _ _
theorem rising_len (l : List Int) : (rising l).length = l.length := (rising_perm l).length_eq
theorem rising_order (l : List Int) : (rising l).Pairwise fun a b => a ≤ b := by
  have h := List.pairwise_mergeSort (le := fun x y : Int => decide (x ≤ y)) (fun a b c h1 h2 => by simp only [decide_eq_true_eq] at *; omega) (fun a b => by simp only [Bool.or_eq_true, decide_eq_true_eq]; omega) l
  exact h.imp fun h => by simpa using h

theorem reach_rising {l : List Int} (h : 0 < l.length) {m : Nat} (hm : m = (l.length - 1) / 2) : (rising l).getD m 0 = reach l := by
  have hml : m < (rising l).length := by rw [rising_len]; omega
  rw [reach_sorted (rising_perm l) (rising_order l) h hm hml]
  simp [List.getD, List.getElem?_eq_getElem hml]

theorem reach_none {l : List Int} (h : l.length = 0) : reach l = 0 := by
  rw [List.eq_nil_of_length_eq_zero h]; rfl

/-- A row of the call's own behind the sort: as it was but for that block. -/
theorem below_sorted {B g n : Nat} {w0 w : World} (os : Array Obj) (d : Array Int) (hb : Below B w0 w) (hB : B ≤ w.heap.size) (hg : B ≤ g) :
    Below B w0 (grow (putRow (Value.int .i64) (Sort.ahead w n) g 0 d) os) :=
  hb.grown (grownBy_sortedI d) hB (fun k e => by injection e with e; omega)

theorem reachedP_is (w : World) (A : Option Addr) (len cap : Nat) (l : List Int) (h : Nums w A len l) (hlc : len ≤ cap) (hno : A = none → cap = 0) (h100 : len ≤ 100) (hin : ∀ x ∈ l, In64 x) :
    Calls Try.prog 7 #[.slice A len cap] w fun e w' => e = .returned (.int .i64 (reach l)) ∧ Below w.heap.size w w' := by
  rcases Nat.eq_zero_or_pos len with h0 | h0
  · subst h0
    rw [reach_none h.1]
    go_enter Try.func7, Try.ntmps7
    go_wp2
    go_ret
    exact ⟨rfl, Below.refl _ _⟩
  · obtain ⟨g, off, hA, hg, hc⟩ := h.2 h0
    have hlen := h.1
    subst hA
    have hcl := clone_nums g off len cap l w (by omega) (by omega) (fun j hj => by rw [hc j hj]; simp [List.getD, List.getElem?_eq_getElem hj])
    rw [List.take_of_length_le (by omega)] at hcl
    have hpos : 0 < l.length := by omega
    have hne : (len : Int) ≠ 0 := by omega
    have hr := fun m hm => reach_rising (l := l) hpos (m := m) hm
    generalize reach l = R at *
    clear hc hin hno
    go_enter Try.func7, Try.ntmps7
    go_wp2_with fail
    refine hcl.mono ?_
    clear hcl
    rintro e w1 ⟨v1, rfl, hown, hnn, hb1⟩
    rcases hown.2 with ⟨e0, _⟩ | ⟨g1, cap1, cur, rfl, hg1, hb, hn1, hcap1, hcs, hct⟩
    · exact absurd e0 hnn
    · rw [Nat.mul_one] at hct
      have hH : Holds (Value.int .i64) w1 g1 0 l.toArray := holds_of_blockI hb (by rw [hlen]; exact hct)
      have hlt1 : g1 < w1.heap.size := (Array.getElem?_eq_some_iff.1 hb).1
      have hs := sort_nums g1 0 cap1 l w1 hH hlt1 (by omega)
      rw [hlen] at hs
      go_wp2_with fail
      refine hs.mono ?_
      clear hs
      rintro e w2 ⟨rfl, n2, os, hw2⟩
      have hb2 : Below w.heap.size w w2 := hw2 ▸ below_sorted os _ hb1 hb1.size hg1
      have hcell : w2.cell? ⟨g1, (len - 1) / 2, none⟩ = some (.int .i64 R) := by
        have hm : (len - 1) / 2 < len := by omega
        have ho := ownsRow_sortedI (w := w1) (n := n2) (os := os) (ss := l) (ts := rising l) (base := w.heap.size) (cap := cap1) (rising_len l) hg1 hb (by omega) hcap1 hcs
        have hc := ho.cellAt ((len - 1) / 2) (by rw [hlen]; omega)
        rw [hw2, ← hr ((len - 1) / 2) (by rw [hlen])]
        refine hc.trans ?_
        have hm' : (len - 1) / 2 < (rising l).length := by rw [rising_len]; omega
        simp [List.getD, List.getElem?_eq_getElem hm']
      clear hw2 hH hown hb hct hcs hr
      go_wp2
      go_ret
      exact ⟨rfl, hb2⟩

theorem quoOps : QuoOps := {
  reached := fun w A len cap l h hlc hno h100 hin => reachedP_is w A len cap l h hlc hno h100 hin
  won := fun k n w hk hn => (won_is k n hn.2 w).mono fun e w' ⟨he, hw⟩ => ⟨he, hw ▸ Below.refl _ _⟩
  lost := fun k n w hk hn => (lost_is k n hn.2 w).mono fun e w' ⟨he, hw⟩ => ⟨he, hw ▸ Below.refl _ _⟩ }

end Go.Proofs.Ytbhbmiknomdebaa
