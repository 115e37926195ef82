/- The program's alike and Same, each by its contract. -/
import Derived.Test.YtlojjodgoeclfaaEntSame
namespace Go.Proofs.Ytlojjodgoeclfaa
open Go.RowKit
set_option linter.unusedVariables false
set_option linter.unusedSimpArgs false

theorem equal_any (A : Option Addr) (n c : Nat) (d : List UInt8) (A' : Option Addr) (n' c' : Nat) (d' : List UInt8) (w : World) (h : Lies w A n c d) (h' : Lies w A' n' c' d') :
    Calls Try.prog 80 #[.slice A n c, .slice A' n' c'] w fun e w' => e = .returned (.bool (decide (d = d'))) ∧ w = w' := by
  have c1 := h.text Try.underlying23 Try.underlying5 Try.underlying9
  have c2 := h'.text Try.underlying23 Try.underlying5 Try.underlying9
  rw [text_eqb]
  generalize (⟨d.toArray⟩ : ByteArray) = S at *
  generalize (⟨d'.toArray⟩ : ByteArray) = S' at *
  clear h h'
  go_enter Try.func80, Try.ntmps80
  go_wp2
  go_ret
  exact ⟨rfl, rfl⟩

set_option maxHeartbeats 1000000 in
theorem alike_any (i t : Int) (A : Option Addr) (n c : Nat) (d : List UInt8) (i' t' : Int) (A' : Option Addr) (n' c' : Nat) (d' : List UInt8) (w : World) (h : Lies w A n c d) (h' : Lies w A' n' c' d') :
    Calls Try.prog 64 #[entV i t A n c, entV i' t' A' n' c'] w fun e w' => e = .returned (.bool (oneB i t d i' t' d')) ∧ Below w.heap.size w w' := by
  have hb : Below w.heap.size w ((w.alloc (.cells #[.int .i64 i, .int .i64 t, .slice A n c] 58)).alloc (.cells #[.int .i64 i', .int .i64 t', .slice A' n' c'] 58)) := ((Below.refl _ _).alloc (Nat.le_refl _) _).alloc (by simp) _
  have hE := equal_any A n c d A' n' c' d' _ (h.below hb (Nat.le_refl _)) (h'.below hb (Nat.le_refl _))
  unfold oneB
  generalize decide (d = d') = q at *
  clear h h'
  by_cases h1 : i = i'
  · subst h1
    rw [decide_eq_true rfl, Bool.true_and]
    by_cases h2 : t = t'
    · subst h2
      rw [decide_eq_true rfl, Bool.true_and]
      go_enter Try.func64, Try.ntmps64
      go_wp2_with fail
      refine hE.mono ?_
      rintro e w1 ⟨rfl, rfl⟩
      go_wp2
      go_ret
      exact ⟨rfl, hb⟩
    · have e1 : (t == t') = false := beq_eq_false_iff_ne.2 h2
      have e2 : (t = t') = False := eq_false h2
      rw [decide_eq_false h2, Bool.false_and]
      clear h2 hE
      go_enter Try.func64, Try.ntmps64
      go_wp2
      go_ret
      exact ⟨rfl, hb⟩
  · have e1 : (i == i') = false := beq_eq_false_iff_ne.2 h1
    have e2 : (i = i') = False := eq_false h1
    rw [decide_eq_false h1, Bool.false_and]
    clear h1 hE
    go_enter Try.func64, Try.ntmps64
    go_wp2
    go_ret
    exact ⟨rfl, hb⟩

abbrev fnAlike : Value := .func (.func 64) #[] #[]

set_option maxRecDepth 100000 in
set_option maxHeartbeats 2000000 in
theorem eachP_any (Z Y : Nat → Prop) (A : Option Addr) (len cap : Nat) (ls : List Ent) (B : Option Addr) (n capB : Nat) (ts : List Ent) (w : World) (h : Ents w Z A len cap ls) (h' : Ents w Y B n capB ts) (hm : len ≤ maxLen) :
    Calls Try.prog 63 #[.slice A len cap, .slice B n capB, fnAlike] w fun e w' => e = .returned (.bool (sameE ls ts)) ∧ Below w.heap.size w w' := by
  unfold maxLen at hm
  have hll := h.1
  have hln := h'.1
  by_cases hlen : len = n
  · subst hlen
    go_enter Try.func63, Try.ntmps63
    go_wp2
    go_loopg [6, 7, 8, 9, 17] len (fun g r s7 s8 s9 i wr => ∃ k : Nat, k + g = len ∧ i = .int .i64 (k : Int) ∧ (∀ j, j < k → oneAt ls ts j = true) ∧ Below w.heap.size w wr)
    case atStart => exact ⟨0, by omega, rfl, fun j hj => absurd hj (by omega), Below.refl _ _⟩
    case round =>
      obtain ⟨k, hk, rfl, hall, hb⟩ := hrel
      by_cases hlt : k < len
      · have hlt' : (k : Int) < (len : Int) := by omega
        obtain ⟨g, off, E, c, rfl, hg, x0, x1, x2, hl⟩ := (h.below hb (Nat.le_refl _)).at_ k hlt
        obtain ⟨g', off', E', c', rfl, hg', y0, y1, y2, hl'⟩ := (h'.below hb (Nat.le_refl _)).at_ k hlt
        have hone := oneAt_at ls ts k (by omega) (by omega)
        generalize (ls[k]'(by omega)) = a at *
        generalize (ts[k]'(by omega)) = b at *
        obtain ⟨ai, at_, ad⟩ := a
        obtain ⟨bi, bt, bd⟩ := b
        dsimp only at *
        have hO := fun W (hW : Below wr.heap.size wr W) => alike_any ai at_ E ad.length c ad bi bt E' bd.length c' bd W (hl.below hW (Nat.le_refl _)) (hl'.below hW (Nat.le_refl _))
        rw [← hone] at hO
        have hA1 := (Below.refl wr.heap.size wr).alloc (Nat.le_refl _) (.cells #[.int .i64 ai, .int .i64 at_, .slice E ad.length c] 58)
        have hA2 := hA1.alloc hA1.size (.cells #[.int .i64 bi, .int .i64 bt, .slice E' bd.length c'] 58)
        have hO := hO _ hA2
        have HALL := Lib.hid hall
        have HB := Lib.hid (hb.trans (hA2.mono hb.size))
        have HK := Lib.hid hk
        cases hv : oneAt ls ts k with
        | true =>
          rw [hv] at hO
          have HT := Lib.hid hv
          clear hone hall hv hl hl' hk hA1 hA2
          generalize ad.length = n1 at *
          generalize bd.length = n2 at *
          go_wp2_with fail
          refine hO.mono ?_
          rintro e w1 ⟨rfl, hb1⟩
          have hbw := Below.trans HB (hb1.mono (show Below w.heap.size w _ from HB).size)
          go_wp2
          go_roundg (gk - 1)
          case measure => have : k + gk = len := HK; omega
          case rel => exact ⟨k + 1, by have : k + gk = len := HK; omega, by go_num, fun j hj => by
            rcases Nat.lt_or_ge j k with h1 | h1
            · exact (HALL : ∀ j, j < k → oneAt ls ts j = true) j h1
            · have e : j = k := by omega
              rw [e]; exact HT, hbw⟩
        | false =>
          rw [hv] at hO
          have HF := Lib.hid (sameE_no (a := ls) (b := ts) k (by omega) hv)
          clear hone hall hv hl hl' hk hA1 hA2
          generalize ad.length = n1 at *
          generalize bd.length = n2 at *
          go_wp2_with fail
          refine hO.mono ?_
          rintro e w1 ⟨rfl, hb1⟩
          have hbw := Below.trans HB (hb1.mono (show Below w.heap.size w _ from HB).size)
          go_wp2
          go_ret
          exact ⟨by have e : sameE ls ts = false := HF; rw [e]; rfl, hbw⟩
      · obtain rfl : k = len := by omega
        have hdec : decide ((k : Int) < (k : Int)) = false := decide_eq_false (by omega)
        have HT := Lib.hid (sameE_yes (a := ls) (b := ts) (by omega) (fun j hj => hall j (by omega)))
        clear h h' hall hk hm
        go_wp2
        go_ret
        exact ⟨by have e : sameE ls ts = true := HT; rw [e]; rfl, hb⟩
  · have hF := Lib.hid (show sameE ls ts = false by unfold sameE; rw [decide_eq_false (by omega), Bool.false_and])
    have hne : ((len : Int) != (n : Int)) = true := by simp; omega
    have hne2 : ((len : Int) = (n : Int)) = False := eq_false (by omega)
    clear h h' hlen hll hln hm
    go_enter Try.func63, Try.ntmps63
    go_wp2
    go_ret
    exact ⟨by have e : sameE ls ts = false := hF; rw [e]; rfl, Below.refl _ _⟩

theorem sameP_any (Z Y : Nat → Prop) (A : Option Addr) (len cap : Nat) (ls : List Ent) (B : Option Addr) (n capB : Nat) (ts : List Ent) (w : World) (h : Ents w Z A len cap ls) (h' : Ents w Y B n capB ts) (hm : len ≤ maxLen) :
    Calls Try.prog 34 #[.slice A len cap, .slice B n capB] w fun e w' => e = .returned (.bool (sameE ls ts)) ∧ Below w.heap.size w w' := by
  have hE := eachP_any Z Y A len cap ls B n capB ts w h h' hm
  generalize sameE ls ts = q at *
  clear h h' hm
  go_enter Try.func34, Try.ntmps34
  go_wp2_with fail
  refine hE.mono ?_
  rintro e w1 ⟨rfl, hb1⟩
  go_wp2
  go_ret
  exact ⟨rfl, hb1⟩

end Go.Proofs.Ytlojjodgoeclfaa
