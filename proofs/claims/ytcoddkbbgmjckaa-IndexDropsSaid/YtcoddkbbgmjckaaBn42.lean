/- Merging: one item ahead of others. (Written by mksor.py.) -/
import Derived.Test.YtcoddkbbgmjckaaBn41
namespace Go.Proofs.Ytcoddkbbgmjckaa
open Go.RowKit
set_option linter.unusedVariables false
set_option linter.unusedSimpArgs false
attribute [local go_sem] Oper.semAt_some

set_option maxRecDepth 100000 in
set_option maxHeartbeats 3200000 in
theorem symOne_any (g off n cap : Nat) (ls : List KV) (a m b : Nat) (w : World) (h : RowW w g off n cap ls) (ham : a < m) (hmb : m < b) (hbn : b ≤ n) (hn : n ≤ 900000) (hux : Sor.UpIn kR ls a m) (huy : Sor.UpIn kR ls m b) (e1 : m - a = 1) :
    Calls Try.prog 111 #[.slice (some ⟨g, off, none⟩) n cap, .int .i64 (a : Int), .int .i64 (m : Int), .int .i64 (b : Int), (.func (.func 95) #[] #[])] w fun e w' => e = .returned (.tuple #[]) ∧ ∃ ls', Sor.Mrg kR a b ls ls' ∧ Turn w w' g off n cap ls ls' := by
  have HR := Lib.hid h
  have HU := Lib.hid (show Sor.UpIn kR ls (a + 1) b by rw [show a + 1 = m by omega]; exact huy)
  clear h hux huy
  have k1 : IntKind.i64.wrap ((m : Int) - (a : Int)) = 1 := by rw [IntWalk.i64_in _ (by omega)]; omega
  have ha1 : a < n := by omega
  have za1 : (a : Int) < (n : Int) := by omega
  go_enter Try.func111, Try.ntmps111
  go_wp2_with fail
  go_loopw [10, 11] (fun v10 v11 wr => ∃ i j : Nat, v10 = .int .i64 (i : Int) ∧ v11 = .int .i64 (j : Int) ∧ m ≤ i ∧ i ≤ j ∧ j ≤ b ∧ (∀ q, a < q → q < i → Sor.kA kR ls q < Sor.kA kR ls a) ∧ (∀ q, j ≤ q → q < b → Sor.kA kR ls a ≤ Sor.kA kR ls q) ∧ Turn w wr g off n cap ls ls) (fun v10 v11 _ => (intOf v11).toNat - (intOf v10).toNat)
  case atStart => exact ⟨m, b, rfl, rfl, Nat.le_refl _, by omega, Nat.le_refl _, fun q h1 h2 => by omega, fun q h1 h2 => by omega, Turn.refl HR.out⟩
  case round =>
    obtain ⟨i, j, rfl, rfl, hmi, hij, hjb, hlt1, hge1, hT⟩ := hrel
    have HT := Lib.hid hT
    have HL := Lib.hid (And.intro hlt1 hge1)
    clear hT hlt1 hge1
    by_cases hlt : i < j
    · have l1 : decide ((i : Int) < (j : Int)) = true := decide_eq_true (by omega)
      obtain ⟨s, hs⟩ : ∃ s, i + j = s := ⟨_, rfl⟩
      have k2 : IntKind.i64.wrap ((i : Int) + (j : Int)) = (s : Int) := by rw [IntWalk.i64_in _ (by omega)]; omega
      obtain ⟨c0, hc0⟩ : ∃ c0, s / 2 = c0 := ⟨_, rfl⟩
      have k3 : (s : Int) / 2 = (c0 : Int) := by omega
      have hlo : i ≤ c0 := by omega
      have hhi : c0 < j := by omega
      clear hs hc0
      have h1 : c0 < n := by omega
      have z1 : (c0 : Int) < (n : Int) := by omega
      go_upto_region 5 with fail
      have hRd : RowW wr.drew g off n cap ls := (HT.out.row).below (Below.refl _ _).drew
      obtain ⟨x1, hx1⟩ : ∃ x, ls[c0]'(by rw [hRd.len]; exact h1) = x := ⟨_, rfl⟩
      obtain ⟨x2, hx2⟩ : ∃ x, ls[a]'(by rw [hRd.len]; exact ha1) = x := ⟨_, rfl⟩
      have hc : ∀ W, Below wr.drew.heap.size wr.drew W → ItAt W g (off + c0 * 8) x1 ∧ ItAt W g (off + a * 8) x2 := fun W hW => ⟨by rw [← hx1]; exact (hRd.below hW).cell c0 h1, by rw [← hx2]; exact (hRd.below hW).cell a ha1⟩
      have HX := Lib.hid (show Sor.kA kR ls c0 = x1.2.r ∧ Sor.kA kR ls a = x2.2.r from ⟨by rw [Sor.kA_get (by rw [hRd.len]; exact h1), hx1]; rfl, by rw [Sor.kA_get (by rw [hRd.len]; exact ha1), hx2]; rfl⟩)
      have HC := Lib.hid hc
      clear hc hx1 hx2 hRd
      refine wp_region_held_drew (S := fun w' => ItAt w' g (off + c0 * 8) x1 ∧ ItAt w' g (off + a * 8) x2) (by kernel_rfl) (HC.out _ (Below.refl _ _)) (fun hHeld => ?_)
      refine lsq 11 ?_
      refine tkq 0 ?_
      refine tkq 1 ?_
      refine tkq 2 ?_
      refine tkq 3 ?_
      refine tkq 4 ?_ (hy := fun w h => by exact ld_item _ rfl rfl h.1)
      refine tkq 5 ?_
      refine tkq 6 ?_
      refine tkq 7 ?_
      refine tkq 8 ?_ (hy := fun w h => by exact ld_item _ rfl rfl h.2)
      refine rdq1 9 fun KK hK => ?_
      go_simp
      refine (cmpF_any x1 x2 _).mono ?_
      rintro e wc ⟨c, rfl, hcc, hbc⟩
      refine hK.out _ _ (HC.out _ hbc) ?_
      clear hK KK hHeld
      intro hHeld
      try simp only [lpq]
      have HB := Lib.hid (show Below wr.heap.size wr wc from (Below.refl _ _).drew.trans hbc)
      clear hbc
      by_cases hxy : x1.2.r < x2.2.r
      · have ec : decide (c < 0) = true := decide_eq_true (hcc.2 hxy)
        have ec2 : c < 0 := hcc.2 hxy
        refine tkq 10 ?_
        refine dnq ?_
        have HK := Lib.hid (show Sor.kA kR ls c0 < Sor.kA kR ls a by rw [HX.out.1, HX.out.2]; exact hxy)
        have HE := Lib.hid (And.intro (show ∀ q, a < q → q < c0 + 1 → Sor.kA kR ls q < Sor.kA kR ls a from fun q q1 q2 => Int.lt_of_le_of_lt (HU.out q c0 (by omega) (by omega) (by omega)) HK.out) (HT.out.below HB.out))
        clear hHeld
        go_wp2
        go_roundw
        case rel => exact ⟨c0 + 1, j, by go_num, rfl, by omega, by omega, hjb, HE.out.1, HL.out.2, HE.out.2⟩
        case measure =>
          simp [intOf]
          omega
      · have ec : decide (c < 0) = false := decide_eq_false (fun e => hxy (hcc.1 e))
        have ec2 : ¬ c < 0 := fun e => hxy (hcc.1 e)
        refine tkq 10 ?_
        refine dnq ?_
        have HK := Lib.hid (show Sor.kA kR ls a ≤ Sor.kA kR ls c0 by rw [HX.out.1, HX.out.2]; omega)
        have HE := Lib.hid (And.intro (show ∀ q, c0 ≤ q → q < b → Sor.kA kR ls a ≤ Sor.kA kR ls q from fun q q1 q2 => Int.le_trans HK.out (HU.out c0 q (by omega) q1 q2)) (HT.out.below HB.out))
        clear hHeld
        go_wp2
        go_roundw
        case rel => exact ⟨i, c0, rfl, rfl, hmi, by omega, by omega, HL.out.1, HE.out.1, HE.out.2⟩
        case measure =>
          simp [intOf]
          omega
    · obtain rfl : i = j := by omega
      have l1 : decide ((i : Int) < (i : Int)) = false := decide_eq_false (by omega)
      obtain ⟨i0, hi0⟩ : ∃ i0, i - 1 = i0 := ⟨_, rfl⟩
      have k4 : IntKind.i64.wrap ((i : Int) - 1) = (i0 : Int) := by rw [IntWalk.i64_in _ (by omega)]; omega
      have hai0 : a ≤ i0 := by omega
      have HI := Lib.hid hi0
      have hii : i = i0 + 1 := by omega
      clear hi0
      go_wp2_with fail
      go_loopw [13] (fun v13 wr => ∃ k : Nat, v13 = .int .i64 (k : Int) ∧ a ≤ k ∧ k ≤ i0 ∧ ∃ l2, Sor.UpW kR a k ls l2 ∧ Turn w wr g off n cap ls l2) (fun v13 _ => i0 - (intOf v13).toNat)
      case atStart => exact ⟨a, rfl, Nat.le_refl _, hai0, ls, Sor.UpW.start ls a, HT.out⟩
      case round =>
        obtain ⟨k, rfl, hak, hki, l2, hup, hT2⟩ := hrel
        have HT2 := Lib.hid hT2
        have HUp := Lib.hid hup
        clear hT2 hup
        by_cases hkl : k < i0
        · have l2' : decide ((k : Int) < (i0 : Int)) = true := decide_eq_true (by omega)
          obtain ⟨kn, hkn⟩ : ∃ kn, k + 1 = kn := ⟨_, rfl⟩
          have k5 : IntKind.i64.wrap ((k : Int) + 1) = (kn : Int) := by rw [IntWalk.i64_in _ (by omega)]; omega
          have h1 : k < n := by omega
          have h2 : kn < n := by omega
          have z1 : (k : Int) < (n : Int) := by omega
          have z2 : (kn : Int) < (n : Int) := by omega
          have HN := Lib.hid hkn
          clear hkn
          go_upto_region 11 with fail
          have hRd : RowW wr.drew g off n cap l2 := (HT2.out.row).below (Below.refl _ _).drew
          obtain ⟨x1, hx1⟩ : ∃ x, l2[k]'(by rw [hRd.len]; exact h1) = x := ⟨_, rfl⟩
          obtain ⟨x2, hx2⟩ : ∃ x, l2[kn]'(by rw [hRd.len]; exact h2) = x := ⟨_, rfl⟩
          have hc1 : ItAt wr.drew g (off + k * 8) x1 := by rw [← hx1]; exact hRd.cell k h1
          have hc2 : ItAt wr.drew g (off + kn * 8) x2 := by rw [← hx2]; exact hRd.cell kn h2
          have HRd := Lib.hid hRd
          obtain ⟨l3, hsw, hT3⟩ := hRd.swap k kn h1 h2
          rw [hx1, hx2] at hT3
          have HW := Lib.hid (And.intro hsw hT3)
          clear hRd hsw hT3 hx1 hx2
          refine RegW.wp_region_held_drew ⟨fun w' => ItAt w' g (off + k * 8) x1 ∧ ItAt w' g (off + kn * 8) x2, [15, 17]⟩ (by kernel_rfl) ⟨hc1, hc2⟩ (fun hHeld => ?_)
          clear hc1 hc2
          refine RegW.lsw 18 ?_
          refine RegW.tpw 0 ?_
          refine RegW.tpw 1 ?_
          refine RegW.tpw 2 ?_
          refine RegW.tpw 3 ?_
          refine RegW.tpw 4 ?_
          refine RegW.tpw 5 ?_
          refine RegW.tpw 6 ?_
          refine RegW.tpw 7 ?_
          refine RegW.tpw 8 ?_
          refine RegW.trw 9 ?_ (hy := fun w h => by exact ld_item _ rfl rfl h.2)
          refine RegW.tpw 10 ?_
          refine RegW.tpw 11 ?_
          refine RegW.tpw 12 ?_
          refine RegW.trw 13 ?_ (hy := fun w h => by exact ld_item _ rfl rfl h.1)
          refine RegW.tpw 14 ?_
          refine RegW.ltw 15 (fun KK hK => ?_)
          refine st_item HRd.out k h1 x2 _ _ rfl (by rfl) (by rfl) ?_
          refine hK.out _ _ ?_
          clear hK KK
          try simp only [lpq]
          obtain ⟨w5, hw5⟩ : ∃ w5, wr.drew.setCells g (off + k * 8) (itemC x2) = w5 := ⟨_, rfl⟩
          have hR5 : RowW w5 g off n cap (l2.set k x2) := by rw [← hw5]; exact HRd.out.set k h1 x2
          rw [hw5] at HW
          rw [hw5]
          clear hw5 hHeld HRd
          refine RegW.tlw 16 ?_
          refine RegW.ltw 17 (fun KK hK => ?_)
          refine st_item hR5 kn h2 x1 _ _ rfl (by rfl) (by rfl) ?_
          refine hK.out _ _ ?_
          clear hK KK
          try simp only [lpq]
          refine RegW.dnw ?_ _
          obtain ⟨w9, hw9⟩ : ∃ w9, w5.setCells g (off + kn * 8) (itemC x1) = w9 := ⟨_, rfl⟩
          rw [hw9] at HW
          rw [hw9]
          clear hw9 hR5
          have hsw := HW.out.1
          have hT3 := HW.out.2
          clear HW
          have HE := Lib.hid (And.intro (show Sor.UpW kR a (k + 1) ls l3 from HUp.out.step (by rw [HN.out]; exact hsw) hak (by have := HR.out.len; omega) (HL.out.1 (k + 1) (by omega) (by omega))) ((HT2.out.below (Below.refl _ _).drew).trans hT3))
          clear hsw hT3
          go_wp2
          go_roundw
          case rel => exact ⟨k + 1, by have := HN.out; go_num, by omega, by omega, l3, HE.out⟩
          case measure =>
            have := HN.out
            simp [intOf]
            omega
        · obtain rfl : k = i0 := by omega
          have l2' : decide ((k : Int) < (k : Int)) = false := decide_eq_false (by omega)
          have HE := Lib.hid (show Sor.Mrg kR a b ls l2 from (show Sor.UpW kR a (i - 1) ls l2 by rw [HI.out]; exact HUp.out).done HU.out (by omega) (by omega) HL.out.1 HL.out.2)
          go_wp2
          exact bpq ⟨rfl, l2, HE.out, HT2.out⟩

end Go.Proofs.Ytcoddkbbgmjckaa

namespace Go.Proofs.Ytcoddkbbgmjckaa
open Go.RowKit
set_option linter.unusedVariables false
set_option linter.unusedSimpArgs false
attribute [local go_sem] Oper.semAt_some

set_option maxRecDepth 100000 in
set_option maxHeartbeats 3200000 in
theorem symLast_any (g off n cap : Nat) (ls : List KV) (a m b : Nat) (w : World) (h : RowW w g off n cap ls) (ham : a < m) (hmb : m < b) (hbn : b ≤ n) (hn : n ≤ 900000) (hux : Sor.UpIn kR ls a m) (huy : Sor.UpIn kR ls m b) (e1 : ¬ m - a = 1) (e2 : b - m = 1) :
    Calls Try.prog 111 #[.slice (some ⟨g, off, none⟩) n cap, .int .i64 (a : Int), .int .i64 (m : Int), .int .i64 (b : Int), (.func (.func 95) #[] #[])] w fun e w' => e = .returned (.tuple #[]) ∧ ∃ ls', Sor.Mrg kR a b ls ls' ∧ Turn w w' g off n cap ls ls' := by
  have HR := Lib.hid h
  have HU := Lib.hid hux
  obtain rfl : b = m + 1 := by omega
  clear h hux huy
  obtain ⟨x, hx⟩ : ∃ x, m - a = x := ⟨_, rfl⟩
  have k1 : IntKind.i64.wrap ((m : Int) - (a : Int)) = (x : Int) := by rw [IntWalk.i64_in _ (by omega)]; omega
  have n1 : ¬ (x : Int) = 1 := by omega
  have n2 : ¬ x = 1 := by omega
  have n0 : ((x : Int) == 1) = false := beq_eq_false_iff_ne.2 n1
  obtain ⟨b, hb⟩ : ∃ b, m + 1 = b := ⟨_, rfl⟩
  rw [hb]
  have k2' : IntKind.i64.wrap ((b : Int) - (m : Int)) = 1 := by rw [IntWalk.i64_in _ (by omega)]; omega
  have hm1 : m < n := by omega
  have zm1 : (m : Int) < (n : Int) := by omega
  have HB1 := Lib.hid hb
  clear hb hx e1 e2
  go_enter Try.func111, Try.ntmps111
  go_wp2_with fail
  go_loopw [14, 15] (fun v14 v15 wr => ∃ i j : Nat, v14 = .int .i64 (i : Int) ∧ v15 = .int .i64 (j : Int) ∧ a ≤ i ∧ i ≤ j ∧ j ≤ m ∧ (∀ q, a ≤ q → q < i → Sor.kA kR ls q ≤ Sor.kA kR ls m) ∧ (∀ q, j ≤ q → q < m → Sor.kA kR ls m < Sor.kA kR ls q) ∧ Turn w wr g off n cap ls ls) (fun v14 v15 _ => (intOf v15).toNat - (intOf v14).toNat)
  case atStart => exact ⟨a, m, rfl, rfl, Nat.le_refl _, by omega, Nat.le_refl _, fun q h1 h2 => by omega, fun q h1 h2 => by omega, Turn.refl HR.out⟩
  case round =>
    obtain ⟨i, j, rfl, rfl, hai, hij, hjm, hlt1, hge1, hT⟩ := hrel
    have HT := Lib.hid hT
    have HL := Lib.hid (And.intro hlt1 hge1)
    clear hT hlt1 hge1
    by_cases hlt : i < j
    · have l1 : decide ((i : Int) < (j : Int)) = true := decide_eq_true (by omega)
      obtain ⟨s, hs⟩ : ∃ s, i + j = s := ⟨_, rfl⟩
      have k2 : IntKind.i64.wrap ((i : Int) + (j : Int)) = (s : Int) := by rw [IntWalk.i64_in _ (by omega)]; omega
      obtain ⟨c0, hc0⟩ : ∃ c0, s / 2 = c0 := ⟨_, rfl⟩
      have k3 : (s : Int) / 2 = (c0 : Int) := by omega
      have hlo : i ≤ c0 := by omega
      have hhi : c0 < j := by omega
      clear hs hc0
      have h1 : c0 < n := by omega
      have z1 : (c0 : Int) < (n : Int) := by omega
      go_upto_region 17 with fail
      have hRd : RowW wr.drew g off n cap ls := (HT.out.row).below (Below.refl _ _).drew
      obtain ⟨x1, hx1⟩ : ∃ x, ls[m]'(by rw [hRd.len]; exact hm1) = x := ⟨_, rfl⟩
      obtain ⟨x2, hx2⟩ : ∃ x, ls[c0]'(by rw [hRd.len]; exact h1) = x := ⟨_, rfl⟩
      have hc : ∀ W, Below wr.drew.heap.size wr.drew W → ItAt W g (off + m * 8) x1 ∧ ItAt W g (off + c0 * 8) x2 := fun W hW => ⟨by rw [← hx1]; exact (hRd.below hW).cell m hm1, by rw [← hx2]; exact (hRd.below hW).cell c0 h1⟩
      have HX := Lib.hid (show Sor.kA kR ls m = x1.2.r ∧ Sor.kA kR ls c0 = x2.2.r from ⟨by rw [Sor.kA_get (by rw [hRd.len]; exact hm1), hx1]; rfl, by rw [Sor.kA_get (by rw [hRd.len]; exact h1), hx2]; rfl⟩)
      have HC := Lib.hid hc
      clear hc hx1 hx2 hRd
      refine wp_region_held_drew (S := fun w' => ItAt w' g (off + m * 8) x1 ∧ ItAt w' g (off + c0 * 8) x2) (by kernel_rfl) (HC.out _ (Below.refl _ _)) (fun hHeld => ?_)
      refine lsq 12 ?_
      refine tkq 0 ?_
      refine tkq 1 ?_
      refine tkq 2 ?_
      refine tkq 3 ?_
      refine tkq 4 ?_ (hy := fun w h => by exact ld_item _ rfl rfl h.1)
      refine tkq 5 ?_
      refine tkq 6 ?_
      refine tkq 7 ?_
      refine tkq 8 ?_ (hy := fun w h => by exact ld_item _ rfl rfl h.2)
      refine rdq1 9 fun KK hK => ?_
      go_simp
      refine (cmpF_any x1 x2 _).mono ?_
      rintro e wc ⟨c, rfl, hcc, hbc⟩
      refine hK.out _ _ (HC.out _ hbc) ?_
      clear hK KK hHeld
      intro hHeld
      try simp only [lpq]
      have HB := Lib.hid (show Below wr.heap.size wr wc from (Below.refl _ _).drew.trans hbc)
      clear hbc
      by_cases hxy : x1.2.r < x2.2.r
      · have ec : decide (c < 0) = true := decide_eq_true (hcc.2 hxy)
        have ec2 : c < 0 := hcc.2 hxy
        refine tkq 10 ?_
        refine tkq 11 ?_
        refine dnq ?_
        have HK := Lib.hid (show Sor.kA kR ls m < Sor.kA kR ls c0 by rw [HX.out.1, HX.out.2]; exact hxy)
        have HE := Lib.hid (And.intro (show ∀ q, c0 ≤ q → q < m → Sor.kA kR ls m < Sor.kA kR ls q from fun q q1 q2 => Int.lt_of_lt_of_le HK.out (HU.out c0 q (by omega) q1 q2)) (HT.out.below HB.out))
        clear hHeld
        go_wp2
        go_roundw
        case rel => exact ⟨i, c0, rfl, rfl, hai, by omega, by omega, HL.out.1, HE.out.1, HE.out.2⟩
        case measure =>
          simp [intOf]
          omega
      · have ec : decide (c < 0) = false := decide_eq_false (fun e => hxy (hcc.1 e))
        have ec2 : ¬ c < 0 := fun e => hxy (hcc.1 e)
        refine tkq 10 ?_
        refine tkq 11 ?_
        refine dnq ?_
        have HK := Lib.hid (show Sor.kA kR ls c0 ≤ Sor.kA kR ls m by rw [HX.out.1, HX.out.2]; omega)
        have HE := Lib.hid (And.intro (show ∀ q, a ≤ q → q < c0 + 1 → Sor.kA kR ls q ≤ Sor.kA kR ls m from fun q q1 q2 => Int.le_trans (HU.out q c0 q1 (by omega) (by omega)) HK.out) (HT.out.below HB.out))
        clear hHeld
        go_wp2
        go_roundw
        case rel => exact ⟨c0 + 1, j, by go_num, rfl, by omega, by omega, hjm, HE.out.1, HL.out.2, HE.out.2⟩
        case measure =>
          simp [intOf]
          omega
    · obtain rfl : i = j := by omega
      have l1 : decide ((i : Int) < (i : Int)) = false := decide_eq_false (by omega)
      go_wp2_with fail
      go_loopw [17] (fun v17 wr => ∃ k : Nat, v17 = .int .i64 (k : Int) ∧ i ≤ k ∧ k ≤ m ∧ ∃ l2, Sor.DnW kR m k ls l2 ∧ Turn w wr g off n cap ls l2) (fun v17 _ => (intOf v17).toNat - i)
      case atStart => exact ⟨m, rfl, hjm, Nat.le_refl _, ls, Sor.DnW.start ls m, HT.out⟩
      case round =>
        obtain ⟨k, rfl, hik, hkm, l2, hdn, hT2⟩ := hrel
        have HT2 := Lib.hid hT2
        have HDn := Lib.hid hdn
        clear hT2 hdn
        by_cases hkl : i < k
        · have l2' : decide ((i : Int) < (k : Int)) = true := decide_eq_true (by omega)
          obtain ⟨kp, hkp⟩ : ∃ kp, k - 1 = kp := ⟨_, rfl⟩
          have k5 : IntKind.i64.wrap ((k : Int) - 1) = (kp : Int) := by rw [IntWalk.i64_in _ (by omega)]; omega
          have h1 : k < n := by omega
          have h2 : kp < n := by omega
          have z1 : (k : Int) < (n : Int) := by omega
          have z2 : (kp : Int) < (n : Int) := by omega
          have HN := Lib.hid (show k = kp + 1 by omega)
          clear hkp
          go_upto_region 23 with fail
          have hRd : RowW wr.drew g off n cap l2 := (HT2.out.row).below (Below.refl _ _).drew
          obtain ⟨x1, hx1⟩ : ∃ x, l2[k]'(by rw [hRd.len]; exact h1) = x := ⟨_, rfl⟩
          obtain ⟨x2, hx2⟩ : ∃ x, l2[kp]'(by rw [hRd.len]; exact h2) = x := ⟨_, rfl⟩
          have hc1 : ItAt wr.drew g (off + k * 8) x1 := by rw [← hx1]; exact hRd.cell k h1
          have hc2 : ItAt wr.drew g (off + kp * 8) x2 := by rw [← hx2]; exact hRd.cell kp h2
          have HRd := Lib.hid hRd
          obtain ⟨l3, hsw, hT3⟩ := hRd.swap k kp h1 h2
          rw [hx1, hx2] at hT3
          have HW := Lib.hid (And.intro hsw hT3)
          clear hRd hsw hT3 hx1 hx2
          refine RegW.wp_region_held_drew ⟨fun w' => ItAt w' g (off + k * 8) x1 ∧ ItAt w' g (off + kp * 8) x2, [15, 17]⟩ (by kernel_rfl) ⟨hc1, hc2⟩ (fun hHeld => ?_)
          clear hc1 hc2
          refine RegW.lsw 18 ?_
          refine RegW.tpw 0 ?_
          refine RegW.tpw 1 ?_
          refine RegW.tpw 2 ?_
          refine RegW.tpw 3 ?_
          refine RegW.tpw 4 ?_
          refine RegW.tpw 5 ?_
          refine RegW.tpw 6 ?_
          refine RegW.tpw 7 ?_
          refine RegW.tpw 8 ?_
          refine RegW.trw 9 ?_ (hy := fun w h => by exact ld_item _ rfl rfl h.2)
          refine RegW.tpw 10 ?_
          refine RegW.tpw 11 ?_
          refine RegW.tpw 12 ?_
          refine RegW.trw 13 ?_ (hy := fun w h => by exact ld_item _ rfl rfl h.1)
          refine RegW.tpw 14 ?_
          refine RegW.ltw 15 (fun KK hK => ?_)
          refine st_item HRd.out k h1 x2 _ _ rfl (by rfl) (by rfl) ?_
          refine hK.out _ _ ?_
          clear hK KK
          try simp only [lpq]
          obtain ⟨w5, hw5⟩ : ∃ w5, wr.drew.setCells g (off + k * 8) (itemC x2) = w5 := ⟨_, rfl⟩
          have hR5 : RowW w5 g off n cap (l2.set k x2) := by rw [← hw5]; exact HRd.out.set k h1 x2
          rw [hw5] at HW
          rw [hw5]
          clear hw5 hHeld HRd
          refine RegW.tlw 16 ?_
          refine RegW.ltw 17 (fun KK hK => ?_)
          refine st_item hR5 kp h2 x1 _ _ rfl (by rfl) (by rfl) ?_
          refine hK.out _ _ ?_
          clear hK KK
          try simp only [lpq]
          refine RegW.dnw ?_ _
          obtain ⟨w9, hw9⟩ : ∃ w9, w5.setCells g (off + kp * 8) (itemC x1) = w9 := ⟨_, rfl⟩
          rw [hw9] at HW
          rw [hw9]
          clear hw9 hR5
          have hsw := HW.out.1
          have hT3 := HW.out.2
          clear HW
          have HE := Lib.hid (And.intro (show Sor.DnW kR m kp ls l3 from by
            have e := HN.out
            have h0 := HDn.out
            rw [e] at h0 hsw
            exact h0.step hsw.symm (by have := HR.out.len; omega) (HL.out.2 kp (by omega) (by omega))) ((HT2.out.below (Below.refl _ _).drew).trans hT3))
          clear hsw hT3
          go_wp2
          go_roundw
          case rel => exact ⟨kp, by go_num, by have := HN.out; omega, by have := HN.out; omega, l3, HE.out⟩
          case measure =>
            have := HN.out
            simp [intOf]
            omega
        · obtain rfl : k = i := by omega
          have l2' : decide ((k : Int) < (k : Int)) = false := decide_eq_false (by omega)
          have HE := Lib.hid (show Sor.Mrg kR a b ls l2 by rw [← HB1.out]; exact HDn.out.done HU.out hai HL.out.1 HL.out.2)
          go_wp2
          exact bpq ⟨rfl, l2, HE.out, HT2.out⟩

end Go.Proofs.Ytcoddkbbgmjckaa
