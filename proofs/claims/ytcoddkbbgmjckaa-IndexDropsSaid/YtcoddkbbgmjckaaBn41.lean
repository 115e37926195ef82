/- Exchanging stretches of items; the comparison by revisions. (Written by mksor.py.) -/
import Derived.Test.YtcoddkbbgmjckaaBn40
import Derived.Laws.Cover1
namespace Go.Proofs.Ytcoddkbbgmjckaa
open Go.RowKit
set_option linter.unusedVariables false
set_option linter.unusedSimpArgs false
attribute [local go_sem] Oper.semAt_some

theorem isNaN64_any (a : Int) (w : World) : Calls Try.prog 105 #[.int .i64 a] w fun e w' => e = .returned (.bool false) ∧ w' = w := by
  go_enter Try.func105, Try.ntmps105
  go_wp2
  go_ret
  exact ⟨rfl, rfl⟩

set_option maxRecDepth 100000 in
set_option maxHeartbeats 3200000 in
theorem compare64_any (a b : Int) (w : World) : Calls Try.prog 96 #[.int .i64 a, .int .i64 b] w fun e w' => ∃ c : Int, e = .returned (.int .i64 c) ∧ (c < 0 ↔ a < b) ∧ w' = w := by
  go_enter Try.func96, Try.ntmps96
  go_wp2_with fail
  refine (isNaN64_any a _).mono ?_
  rintro e w1 ⟨rfl, rfl⟩
  go_wp2_with fail
  refine (isNaN64_any b _).mono ?_
  rintro e w1 ⟨rfl, rfl⟩
  by_cases h1 : a < b
  · have e1 : decide (a < b) = true := decide_eq_true h1
    go_wp2
    go_ret
    exact ⟨_, rfl, by omega, rfl⟩
  · have e1 : decide (a < b) = false := decide_eq_false h1
    by_cases h2 : b < a
    · have e2 : decide (b < a) = true := decide_eq_true h2
      go_wp2
      go_ret
      exact ⟨_, rfl, by omega, rfl⟩
    · have e2 : decide (b < a) = false := decide_eq_false h2
      go_wp2
      go_ret
      exact ⟨_, rfl, by omega, rfl⟩

set_option maxRecDepth 100000 in
set_option maxHeartbeats 3200000 in
theorem cmpF_any (p q : KV) (w : World) : Calls Try.prog 95 #[itV p, itV q] w fun e w' => ∃ c : Int, e = .returned (.int .i64 c) ∧ (c < 0 ↔ p.2.r < q.2.r) ∧ Below w.heap.size w w' := by
  obtain ⟨pk, p⟩ := p
  obtain ⟨qk, q⟩ := q
  show Calls Try.prog 95 #[.agg #[.string pk, .int .i64 p.r, .int .i64 p.k, .int .i64 p.m, .int .i64 p.v, .string p.s, .int .i64 p.l, .bool p.g], .agg #[.string qk, .int .i64 q.r, .int .i64 q.k, .int .i64 q.m, .int .i64 q.v, .string q.s, .int .i64 q.l, .bool q.g]] w _
  go_enter Try.func95, Try.ntmps95
  go_wp2_with fail
  refine (compare64_any p.r q.r _).mono ?_
  rintro e w1 ⟨c, rfl, hc, rfl⟩
  go_wp2
  go_ret
  exact ⟨c, rfl, hc, by repeat (first | exact Below.refl _ _ | apply Below.drew | apply below_drewN | refine Below.alloc ?_ (by simp) _)⟩

set_option maxRecDepth 100000 in
set_option maxHeartbeats 3200000 in
theorem swapRange_any (g off n cap : Nat) (ls : List KV) (a b k : Nat) (F : Value) (w : World) (h : RowW w g off n cap ls) (hab : a + k ≤ b) (hb : b + k ≤ n) (hn : n ≤ 900000) :
    Calls Try.prog 116 #[.slice (some ⟨g, off, none⟩) n cap, .int .i64 (a : Int), .int .i64 (b : Int), .int .i64 (k : Int), F] w fun e w' => e = .returned (.tuple #[]) ∧ ∃ ls', Sor.Swr a b k k ls ls' ∧ Turn w w' g off n cap ls ls' := by
  have HR := Lib.hid h
  clear h
  go_enter Try.func116, Try.ntmps116
  go_wp2_with fail
  go_loopw [10] (fun v10 wr => ∃ t : Nat, t ≤ k ∧ v10 = .int .i64 (t : Int) ∧ ∃ l2, Sor.Swr a b k t ls l2 ∧ Turn w wr g off n cap ls l2) (fun v10 _ => k - (intOf v10).toNat)
  case atStart => exact ⟨0, Nat.zero_le _, rfl, ls, Sor.Swr.start a b k ls, Turn.refl HR.out⟩
  case round =>
    obtain ⟨t, ht, rfl, l2, hs, hT⟩ := hrel
    by_cases hlt : t < k
    · have l1 : decide ((t : Int) < (k : Int)) = true := decide_eq_true (by omega)
      obtain ⟨i1, hi1⟩ : ∃ i1, a + t = i1 := ⟨_, rfl⟩
      obtain ⟨i2, hi2⟩ : ∃ i2, b + t = i2 := ⟨_, rfl⟩
      have k1 : IntKind.i64.wrap ((a : Int) + (t : Int)) = (i1 : Int) := by rw [IntWalk.i64_in _ (by omega)]; omega
      have k2 : IntKind.i64.wrap ((b : Int) + (t : Int)) = (i2 : Int) := by rw [IntWalk.i64_in _ (by omega)]; omega
      have h1 : i1 < n := by omega
      have h2 : i2 < n := by omega
      have z1 : (i1 : Int) < (n : Int) := by omega
      have z2 : (i2 : Int) < (n : Int) := by omega
      have HI := Lib.hid (And.intro hi1 hi2)
      have HT := Lib.hid hT
      have HS := Lib.hid hs
      clear hi1 hi2 hT hs
      go_upto_region 3 with fail
      have hRd : RowW wr.drew g off n cap l2 := (HT.out.row).below (Below.refl _ _).drew
      obtain ⟨x1, hx1⟩ : ∃ x, l2[i1]'(by rw [hRd.len]; exact h1) = x := ⟨_, rfl⟩
      obtain ⟨x2, hx2⟩ : ∃ x, l2[i2]'(by rw [hRd.len]; exact h2) = x := ⟨_, rfl⟩
      have hc1 : ItAt wr.drew g (off + i1 * 8) x1 := by rw [← hx1]; exact hRd.cell i1 h1
      have hc2 : ItAt wr.drew g (off + i2 * 8) x2 := by rw [← hx2]; exact hRd.cell i2 h2
      have HRd := Lib.hid hRd
      obtain ⟨l3, hsw, hT3⟩ := hRd.swap i1 i2 h1 h2
      rw [hx1, hx2] at hT3
      have HW := Lib.hid (And.intro hsw hT3)
      clear hRd hsw hT3 hx1 hx2
      refine RegW.wp_region_held_drew ⟨fun w' => ItAt w' g (off + i1 * 8) x1 ∧ ItAt w' g (off + i2 * 8) x2, [21, 23]⟩ (by kernel_rfl) ⟨hc1, hc2⟩ (fun hHeld => ?_)
      clear hc1 hc2
      refine RegW.lsw 24 ?_
      refine RegW.tpw 0 ?_
      refine RegW.tpw 1 ?_
      refine RegW.tpw 2 ?_
      refine RegW.tpw 3 ?_
      refine RegW.tpw 4 ?_
      refine RegW.tpw 5 ?_
      refine RegW.tpw 6 ?_
      refine RegW.tpw 7 ?_
      refine RegW.tpw 8 ?_
      refine RegW.tpw 9 ?_
      refine RegW.tpw 10 ?_
      refine RegW.tpw 11 ?_
      refine RegW.tpw 12 ?_
      refine RegW.trw 13 ?_ (hy := fun w h => by exact ld_item _ rfl rfl h.2)
      refine RegW.tpw 14 ?_
      refine RegW.tpw 15 ?_
      refine RegW.tpw 16 ?_
      refine RegW.tpw 17 ?_
      refine RegW.tpw 18 ?_
      refine RegW.trw 19 ?_ (hy := fun w h => by exact ld_item _ rfl rfl h.1)
      refine RegW.tpw 20 ?_
      refine RegW.ltw 21 (fun KK hK => ?_)
      refine st_item HRd.out i1 h1 x2 _ _ rfl (by rfl) (by rfl) ?_
      refine hK.out _ _ ?_
      clear hK KK
      try simp only [lpq]
      obtain ⟨w5, hw5⟩ : ∃ w5, wr.drew.setCells g (off + i1 * 8) (itemC x2) = w5 := ⟨_, rfl⟩
      have hR5 : RowW w5 g off n cap (l2.set i1 x2) := by rw [← hw5]; exact HRd.out.set i1 h1 x2
      rw [hw5] at HW
      rw [hw5]
      clear hw5 hHeld HRd
      refine RegW.tlw 22 ?_
      refine RegW.ltw 23 (fun KK hK => ?_)
      refine st_item hR5 i2 h2 x1 _ _ rfl (by rfl) (by rfl) ?_
      refine hK.out _ _ ?_
      clear hK KK
      try simp only [lpq]
      refine RegW.dnw ?_ _
      obtain ⟨w9, hw9⟩ : ∃ w9, w5.setCells g (off + i2 * 8) (itemC x1) = w9 := ⟨_, rfl⟩
      rw [hw9] at HW
      rw [hw9]
      clear hw9 hR5
      have hsw := HW.out.1
      have hT3 := HW.out.2
      clear HW
      have HE := Lib.hid (And.intro (HS.out.step (by rw [HI.out.1, HI.out.2]; exact hsw) hlt hab) ((HT.out.below (Below.refl _ _).drew).trans hT3))
      clear hsw hT3 HS HT
      go_wp2
      go_roundw
      case rel => exact ⟨t + 1, by omega, by go_num, l3, HE.out⟩
      case measure =>
        simp [intOf]
        omega
    · obtain rfl : t = k := by omega
      have l1 : decide ((t : Int) < (t : Int)) = false := decide_eq_false (by omega)
      have HE := Lib.hid (And.intro hs hT)
      clear hs hT
      go_wp2
      go_end0
      exact ⟨rfl, l2, HE.out⟩

set_option maxRecDepth 100000 in
set_option maxHeartbeats 3200000 in
theorem rotate_any (g off n cap : Nat) (ls : List KV) (a m b : Nat) (F : Value) (w : World) (h : RowW w g off n cap ls) (hab : a < m) (hb : m < b) (hbn : b ≤ n) (hn : n ≤ 900000) :
    Calls Try.prog 115 #[.slice (some ⟨g, off, none⟩) n cap, .int .i64 (a : Int), .int .i64 (m : Int), .int .i64 (b : Int), F] w fun e w' => e = .returned (.tuple #[]) ∧ ∃ ls', Sor.Rot a m b ls ls' ∧ Turn w w' g off n cap ls ls' := by
  have HR := Lib.hid h
  clear h
  have k1 : IntKind.i64.wrap ((m : Int) - (a : Int)) = ((m - a : Nat) : Int) := by rw [IntWalk.i64_in _ (by omega)]; omega
  have k2 : IntKind.i64.wrap ((b : Int) - (m : Int)) = ((b - m : Nat) : Int) := by rw [IntWalk.i64_in _ (by omega)]; omega
  obtain ⟨i0, hi0⟩ : ∃ i0, m - a = i0 := ⟨_, rfl⟩
  obtain ⟨j0, hj0⟩ : ∃ j0, b - m = j0 := ⟨_, rfl⟩
  rw [hi0] at k1
  rw [hj0] at k2
  have HS := Lib.hid (show Sor.Rtg a m b i0 j0 ls ls by rw [← hi0, ← hj0]; exact Sor.Rtg.start ls hab hb)
  clear hi0 hj0
  go_enter Try.func115, Try.ntmps115
  go_wp2_with fail
  go_loopw [10, 11] (fun v10 v11 wr => ∃ i j : Nat, v10 = .int .i64 (i : Int) ∧ v11 = .int .i64 (j : Int) ∧ ∃ l2, Sor.Rtg a m b i j ls l2 ∧ Turn w wr g off n cap ls l2) (fun v10 v11 _ => (intOf v10).toNat + (intOf v11).toNat)
  case atStart => exact ⟨i0, j0, rfl, rfl, ls, HS.out, Turn.refl HR.out⟩
  case round =>
    obtain ⟨i, j, rfl, rfl, l2, hs, hT⟩ := hrel
    have HT := Lib.hid hT
    have hip := hs.ip
    have hjp := hs.jp
    have hai := hs.ai
    have hjb := hs.jb
    have HG := Lib.hid hs
    obtain ⟨p, hp⟩ : ∃ p, m - i = p := ⟨_, rfl⟩
    have k3 : IntKind.i64.wrap ((m : Int) - (i : Int)) = (p : Int) := by rw [IntWalk.i64_in _ (by omega)]; omega
    clear hT hs k1 k2
    by_cases hij : i = j
    · subst hij
      have l1 : decide ((i : Int) = (i : Int)) = true := decide_eq_true rfl
      subst hp
      go_wp2_with fail
      refine (swapRange_any g off n cap l2 (m - i) m i _ wr HT.out.row (by omega) (by omega) hn).mono ?_
      rintro e w3 ⟨rfl, l3, hsw, hT3⟩
      have HW := Lib.hid (And.intro hsw (HT.out.trans hT3))
      clear hsw hT3
      go_wp2
      go_end0
      exact ⟨rfl, l3, HG.out.done HW.out.1, HW.out.2⟩
    · have l1 : decide ((i : Int) = (j : Int)) = false := decide_eq_false (by omega)
      have n1 : ¬ ((i : Int) = (j : Int)) := by omega
      by_cases hlt : j < i
      · have l2' : decide ((j : Int) < (i : Int)) = true := decide_eq_true (by omega)
        have k4 : IntKind.i64.wrap ((i : Int) - (j : Int)) = ((i - j : Nat) : Int) := by rw [IntWalk.i64_in _ (by omega)]; omega
        obtain ⟨q, hq⟩ : ∃ q, i - j = q := ⟨_, rfl⟩
        rw [hq] at k4
        have HQ := Lib.hid (And.intro hp hq)
        clear hp
        go_wp2_with fail
        refine (swapRange_any g off n cap l2 p m j _ wr HT.out.row (by have := HQ.out.1; omega) (by omega) hn).mono ?_
        rintro e w3 ⟨rfl, l3, hsw, hT3⟩
        have HW := Lib.hid (And.intro hsw (HT.out.trans hT3))
        clear hsw hT3
        go_wp2
        go_roundw
        case rel => exact ⟨q, j, by go_num, by go_num, l3, by rw [← HQ.out.2]; exact HG.out.left (by rw [HQ.out.1]; exact HW.out.1) hlt, HW.out.2⟩
        case measure =>
          have := HQ.out.2
          simp [intOf]
          omega
      · have l2' : decide ((j : Int) < (i : Int)) = false := decide_eq_false (by omega)
        have k4 : IntKind.i64.wrap ((j : Int) - (i : Int)) = ((j - i : Nat) : Int) := by rw [IntWalk.i64_in _ (by omega)]; omega
        have k5 : IntKind.i64.wrap ((m : Int) + (j : Int)) = ((m + j : Nat) : Int) := by rw [IntWalk.i64_in _ (by omega)]; omega
        obtain ⟨q, hq⟩ : ∃ q, j - i = q := ⟨_, rfl⟩
        rw [hq] at k4
        obtain ⟨mj, hmj⟩ : ∃ mj, m + j = mj := ⟨_, rfl⟩
        rw [hmj] at k5
        obtain ⟨x, hx⟩ : ∃ x, mj - i = x := ⟨_, rfl⟩
        have k6 : IntKind.i64.wrap ((mj : Int) - (i : Int)) = (x : Int) := by rw [IntWalk.i64_in _ (by omega)]; omega
        have HQ := Lib.hid (And.intro hp (And.intro hq (show m + j - i = x by omega)))
        have x1 : p + i ≤ x := by omega
        have x2 : x + i ≤ n := by omega
        clear hp hx hmj
        go_wp2_with fail
        refine (swapRange_any g off n cap l2 p x i _ wr HT.out.row x1 x2 hn).mono ?_
        rintro e w3 ⟨rfl, l3, hsw, hT3⟩
        have HW := Lib.hid (And.intro hsw (HT.out.trans hT3))
        clear hsw hT3
        go_wp2
        go_roundw
        case rel => exact ⟨i, q, by go_num, by go_num, l3, by rw [← HQ.out.2.1]; exact HG.out.right (by rw [HQ.out.1, HQ.out.2.2]; exact HW.out.1) (by omega), HW.out.2⟩
        case measure =>
          have := HQ.out.2.1
          simp [intOf]
          omega

end Go.Proofs.Ytcoddkbbgmjckaa

namespace Go.Proofs.Ytcoddkbbgmjckaa
open Go.RowKit
set_option linter.unusedVariables false
set_option linter.unusedSimpArgs false
attribute [local go_sem] Oper.semAt_some

def kR (p : KV) : Int := p.2.r

set_option maxRecDepth 100000 in
set_option maxHeartbeats 3200000 in
theorem insertion_any (g off n cap : Nat) (ls : List KV) (a b : Nat) (w : World) (h : RowW w g off n cap ls) (hab : a ≤ b) (hbn : b ≤ n) (hn : n ≤ 900000) :
    Calls Try.prog 110 #[.slice (some ⟨g, off, none⟩) n cap, .int .i64 (a : Int), .int .i64 (b : Int), (.func (.func 95) #[] #[])] w fun e w' => e = .returned (.tuple #[]) ∧ ∃ ls', Sor.Mrg kR a b ls ls' ∧ Turn w w' g off n cap ls ls' := by
  have HR := Lib.hid h
  clear h
  have k1 : IntKind.i64.wrap ((a : Int) + 1) = ((a + 1 : Nat) : Int) := by rw [IntWalk.i64_in _ (by omega)]; omega
  obtain ⟨a1, ha1⟩ : ∃ a1, a + 1 = a1 := ⟨_, rfl⟩
  rw [ha1] at k1
  have HA := Lib.hid ha1
  clear ha1
  go_enter Try.func110, Try.ntmps110
  go_wp2_with fail
  go_loopw [8] (fun v8 wr => ∃ i : Nat, v8 = .int .i64 (i : Int) ∧ a < i ∧ (i ≤ b ∨ i = a1) ∧ ∃ l2, Sor.Off a b ls l2 ∧ Sor.St kR ls l2 ∧ Sor.UpIn kR l2 a i ∧ Turn w wr g off n cap ls l2) (fun v8 _ => b - (intOf v8).toNat)
  case atStart => exact ⟨a1, rfl, by have := HA.out; omega, .inr rfl, ls, Sor.Off.refl _ _ _, Sor.St.refl _, Sor.UpIn.one _ (by have := HA.out; omega), Turn.refl HR.out⟩
  case round =>
    obtain ⟨i, rfl, hai, hib, l0, ho, hst, hup, hT⟩ := hrel
    by_cases hlt : i < b
    · have l1 : decide ((i : Int) < (b : Int)) = true := decide_eq_true (by omega)
      have HT := Lib.hid hT
      have HO := Lib.hid (And.intro ho (And.intro hst hup))
      clear ho hst hup hT hib k1
      go_wp2_with fail
      go_loopw [9] (fun v9 wr2 => ∃ j : Nat, v9 = .int .i64 (j : Int) ∧ ∃ l2, Sor.Ins kR a i j l0 l2 ∧ Turn w wr2 g off n cap ls l2) (fun v9 _ => (intOf v9).toNat)
      case atStart => exact ⟨i, rfl, l0, Sor.Ins.start HO.out.2.2 (by omega), HT.out⟩
      case round =>
        obtain ⟨j, rfl, l2, hi, hT2⟩ := hrel
        have hji := hi.hi
        have haj := hi.lo
        have HI := Lib.hid hi
        have HT2 := Lib.hid hT2
        have OUT := Lib.hid (show ∀ w5, Turn w w5 g off n cap ls l2 → (j = a ∨ Sor.kA kR l2 (j - 1) ≤ Sor.kA kR l2 j) → ∃ l9, Sor.Off a b ls l9 ∧ Sor.St kR ls l9 ∧ Sor.UpIn kR l9 a (i + 1) ∧ Turn w w5 g off n cap ls l9 from fun w5 h5 hd => ⟨l2, HO.out.1.trans (hi.off.wide (Nat.le_refl _) (by omega)), HO.out.2.1.trans hi.st, hi.done hd, h5⟩)
        clear hi hT2
        by_cases hja : a < j
        · have l2' : decide ((a : Int) < (j : Int)) = true := decide_eq_true (by omega)
          obtain ⟨jp, hjp⟩ : ∃ jp, j - 1 = jp := ⟨_, rfl⟩
          have k2 : IntKind.i64.wrap ((j : Int) - 1) = (jp : Int) := by rw [IntWalk.i64_in _ (by omega)]; omega
          have h1 : j < n := by omega
          have h2 : jp < n := by omega
          have z1 : (j : Int) < (n : Int) := by omega
          have z2 : (jp : Int) < (n : Int) := by omega
          have HJ := Lib.hid hjp
          clear hjp
          go_upto_region 4 with fail
          have hRd : RowW wr.drew g off n cap l2 := (HT2.out.row).below (Below.refl _ _).drew
          obtain ⟨x1, hx1⟩ : ∃ x, l2[j]'(by rw [hRd.len]; exact h1) = x := ⟨_, rfl⟩
          obtain ⟨x2, hx2⟩ : ∃ x, l2[jp]'(by rw [hRd.len]; exact h2) = x := ⟨_, rfl⟩
          have hc : ∀ W, Below wr.drew.heap.size wr.drew W → ItAt W g (off + j * 8) x1 ∧ ItAt W g (off + jp * 8) x2 := fun W hW => ⟨by rw [← hx1]; exact (hRd.below hW).cell j h1, by rw [← hx2]; exact (hRd.below hW).cell jp h2⟩
          have HX := Lib.hid (show Sor.kA kR l2 j = x1.2.r ∧ Sor.kA kR l2 jp = x2.2.r from ⟨by rw [Sor.kA_get (by rw [hRd.len]; exact h1), hx1]; rfl, by rw [Sor.kA_get (by rw [hRd.len]; exact h2), hx2]; rfl⟩)
          have HC := Lib.hid hc
          clear hc hx1 hx2 hRd
          refine wp_region_held_drew (S := fun w' => ItAt w' g (off + j * 8) x1 ∧ ItAt w' g (off + jp * 8) x2) (by kernel_rfl) (HC.out _ (Below.refl _ _)) (fun hHeld => ?_)
          refine lsq 17 ?_
          refine tkq 0 ?_
          refine tkq 1 ?_
          refine tkq 2 ?_
          refine tkq 3 ?_
          refine tkq 4 ?_
          refine tkq 5 ?_
          refine tkq 6 ?_
          refine tkq 7 ?_
          refine tkq 8 ?_ (hy := fun w h => by exact ld_item _ rfl rfl h.1)
          refine tkq 9 ?_
          refine tkq 10 ?_
          refine tkq 11 ?_
          refine tkq 12 ?_
          refine tkq 13 ?_ (hy := fun w h => by exact ld_item _ rfl rfl h.2)
          refine rdq1 14 fun KK hK => ?_
          go_simp
          refine (cmpF_any x1 x2 _).mono ?_
          rintro e wc ⟨c, rfl, hcc, hbc⟩
          refine hK.out _ _ (HC.out _ hbc) ?_
          clear hK KK hHeld
          intro hHeld
          try simp only [lpq]
          have HB := Lib.hid (show Below wr.heap.size wr wc from (Below.refl _ _).drew.trans hbc)
          clear hbc
          by_cases hxy : x1.2.r < x2.2.r
          · have ec : decide (c < 0) = true := decide_eq_true (hcc.2 hxy)
            have ec2 : c < 0 := hcc.2 hxy
            refine tkq 15 ?_
            refine tkq 16 ?_
            refine dnq ?_
            have HK := Lib.hid (show Sor.kA kR l2 j < Sor.kA kR l2 jp by rw [HX.out.1, HX.out.2]; exact hxy)
            have HTc := Lib.hid (HT2.out.below HB.out)
            clear HX HC hHeld hxy hcc ec ec2 HB
            go_upto_region 6 with fail
            have hRd : RowW wc.drew g off n cap l2 := (HTc.out.row).below (Below.refl _ _).drew
            obtain ⟨x1, hx1⟩ : ∃ x, l2[j]'(by rw [hRd.len]; exact h1) = x := ⟨_, rfl⟩
            obtain ⟨x2, hx2⟩ : ∃ x, l2[jp]'(by rw [hRd.len]; exact h2) = x := ⟨_, rfl⟩
            have hc1 : ItAt wc.drew g (off + j * 8) x1 := by rw [← hx1]; exact hRd.cell j h1
            have hc2 : ItAt wc.drew g (off + jp * 8) x2 := by rw [← hx2]; exact hRd.cell jp h2
            have HRd := Lib.hid hRd
            obtain ⟨l3, hsw, hT3⟩ := hRd.swap j jp h1 h2
            rw [hx1, hx2] at hT3
            have HW := Lib.hid (And.intro hsw hT3)
            clear hRd hsw hT3 hx1 hx2
            refine RegW.wp_region_held_drew ⟨fun w' => ItAt w' g (off + j * 8) x1 ∧ ItAt w' g (off + jp * 8) x2, [15, 17]⟩ (by kernel_rfl) ⟨hc1, hc2⟩ (fun hHeld => ?_)
            clear hc1 hc2
            refine RegW.lsw 18 ?_
            refine RegW.tpw 0 ?_
            refine RegW.tpw 1 ?_
            refine RegW.tpw 2 ?_
            refine RegW.tpw 3 ?_
            refine RegW.tpw 4 ?_
            refine RegW.tpw 5 ?_
            refine RegW.tpw 6 ?_
            refine RegW.tpw 7 ?_
            refine RegW.tpw 8 ?_
            refine RegW.trw 9 ?_ (hy := fun w h => by exact ld_item _ rfl rfl h.2)
            refine RegW.tpw 10 ?_
            refine RegW.tpw 11 ?_
            refine RegW.tpw 12 ?_
            refine RegW.trw 13 ?_ (hy := fun w h => by exact ld_item _ rfl rfl h.1)
            refine RegW.tpw 14 ?_
            refine RegW.ltw 15 (fun KK hK => ?_)
            refine st_item HRd.out j h1 x2 _ _ rfl (by rfl) (by rfl) ?_
            refine hK.out _ _ ?_
            clear hK KK
            try simp only [lpq]
            obtain ⟨w5, hw5⟩ : ∃ w5, wc.drew.setCells g (off + j * 8) (itemC x2) = w5 := ⟨_, rfl⟩
            have hR5 : RowW w5 g off n cap (l2.set j x2) := by rw [← hw5]; exact HRd.out.set j h1 x2
            rw [hw5] at HW
            rw [hw5]
            clear hw5 hHeld HRd
            refine RegW.tlw 16 ?_
            refine RegW.ltw 17 (fun KK hK => ?_)
            refine st_item hR5 jp h2 x1 _ _ rfl (by rfl) (by rfl) ?_
            refine hK.out _ _ ?_
            clear hK KK
            try simp only [lpq]
            refine RegW.dnw ?_ _
            obtain ⟨w9, hw9⟩ : ∃ w9, w5.setCells g (off + jp * 8) (itemC x1) = w9 := ⟨_, rfl⟩
            rw [hw9] at HW
            rw [hw9]
            clear hw9 hR5
            have hsw := HW.out.1
            have hT3 := HW.out.2
            clear HW
            have HE := Lib.hid (And.intro (show Sor.Ins kR a i jp l0 l3 from by
              have e : j = jp + 1 := by have := HJ.out; omega
              have h0 := HI.out
              have hk := HK.out
              rw [e] at h0 hk hsw
              exact h0.step hsw.symm (by omega) (by have := HTc.out.row.len; omega) hk) ((HTc.out.below (Below.refl _ _).drew).trans hT3))
            clear hsw hT3
            go_wp2
            go_roundw
            case rel => exact ⟨jp, by go_num, l3, HE.out⟩
            case measure =>
              have := HJ.out
              simp [intOf]
              omega
          · have ec : decide (c < 0) = false := decide_eq_false (fun e => hxy (hcc.1 e))
            have ec2 : ¬ c < 0 := fun e => hxy (hcc.1 e)
            refine tkq 15 ?_
            refine tkq 16 ?_
            refine dnq ?_
            have HE := Lib.hid (OUT.out wc (HT2.out.below HB.out) (.inr (by rw [HJ.out, HX.out.1, HX.out.2]; omega)))
            clear hHeld
            go_wp2
            go_roundw
            case rel => exact ⟨i + 1, by go_num, by omega, .inl (by omega), HE.out⟩
            case measure =>
              simp [intOf]
              omega
        · have l2' : decide ((a : Int) < (j : Int)) = false := decide_eq_false (by omega)
          have HE := Lib.hid (OUT.out _ (HT2.out.below (Below.refl _ _).drew) (.inl (by omega)))
          go_upto_region 4 with fail
          refine wp_region_held_drew (S := fun _ => True) (by kernel_rfl) trivial (fun hHeld => ?_)
          refine lsq 17 ?_
          refine tkq 0 ?_
          refine tkq 1 ?_
          refine tkq 2 ?_
          refine tkq 3 ?_
          refine tuq 4 ?_
          refine tuq 5 ?_
          refine tuq 6 ?_
          refine tuq 7 ?_
          refine tuq 8 ?_
          refine tuq 9 ?_
          refine tuq 10 ?_
          refine tuq 11 ?_
          refine tuq 12 ?_
          refine tuq 13 ?_
          refine tuq 14 ?_
          refine tuq 15 ?_
          refine tkq 16 ?_
          refine dnq ?_
          clear hHeld
          go_wp2
          go_roundw
          case rel => exact ⟨i + 1, by go_num, by omega, .inl (by omega), HE.out⟩
          case measure =>
            simp [intOf]
            omega
    · have l1 : decide ((i : Int) < (b : Int)) = false := decide_eq_false (by omega)
      have HE := Lib.hid (show Sor.Mrg kR a b ls l0 ∧ Turn w wr g off n cap ls l0 from ⟨⟨ho, hst, hup.sub (Nat.le_refl _) (by omega)⟩, hT⟩)
      clear ho hst hup hT
      go_wp2
      go_end0
      exact ⟨rfl, l0, HE.out⟩

end Go.Proofs.Ytcoddkbbgmjckaa
