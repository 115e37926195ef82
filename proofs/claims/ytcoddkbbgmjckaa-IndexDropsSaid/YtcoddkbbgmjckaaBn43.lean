/- Merging by halves, and all of it. (Written by mksor.py.) -/
import Derived.Test.YtcoddkbbgmjckaaBn42
namespace Go.Proofs.Ytcoddkbbgmjckaa
open Go.RowKit
set_option linter.unusedVariables false
set_option linter.unusedSimpArgs false
attribute [local go_sem] Oper.semAt_some

theorem Sor.sym_done {α : Type} {key : α → Int} {a m b md s e : Nat} {l l1 l2 l3 : List α} (hh : Sor.Half key a m b md s e l) (hx : Sor.UpIn key l a m) (hy : Sor.UpIn key l m b) (hr : Sor.Rot s m e l l1) (h1 : Sor.Mrg key a md l1 l2) (h2 : Sor.Mrg key md b l2 l3) (hb : b ≤ l.length) : Sor.Mrg key a b l l3 := by
  have d1 := hh.lo
  have d2 := hh.sd
  have d3 := hh.dm
  have d4 := hh.eb
  refine ⟨(hr.off.wide d1 d4).trans ((h1.off.wide (Nat.le_refl _) (by omega)).trans (h2.off.wide (by omega) (Nat.le_refl _))), (hh.st hx hy hr hb).trans (h1.st.trans h2.st), ?_⟩
  exact (hh.four hx hy hr).done h1.off h1.st h1.up h2.off h2.st h2.up (by rw [hr.1]; exact hb) (by omega) (by omega)

/-- What is looked for: from s0 on, below r0. -/
structure SymR (a m b md nn s0 r0 : Nat) : Prop where
  sum : nn = md + m
  as0 : a ≤ s0
  sr : s0 ≤ r0
  rm : r0 ≤ m
  rd : r0 ≤ md
  lo : nn ≤ s0 + b
  top : r0 = md ∨ r0 = m
  bot : s0 + b = nn ∨ s0 = a
theorem SymR.half {a m b md nn s0 r0 s : Nat} {l : List KV} (h : SymR a m b md nn s0 r0) (h1 : s0 ≤ s) (h2 : s ≤ r0) (hl : s0 < s → Sor.kA kR l (s - 1) ≤ Sor.kA kR l (nn - s)) (hr : s < r0 → Sor.kA kR l (nn - 1 - s) < Sor.kA kR l s) : Sor.Half kR a m b md s (nn - s) l := by
  obtain ⟨d0, d1, d2, d3, d4, d5, d6, d7⟩ := h
  subst d0
  refine ⟨by omega, by omega, by omega, by omega, by omega, by omega, by omega, fun g1 g2 => ?_, fun g1 g2 => hl (by omega)⟩
  have := hr (by omega)
  rw [show md + m - 1 - s = md + m - s - 1 by omega] at this
  exact this

def SymOk (g off n cap N : Nat) : Prop := ∀ (ls : List KV) (a m b : Nat) (w : World), RowW w g off n cap ls → a < m → m < b → b ≤ n → b - a ≤ N → Sor.UpIn kR ls a m → Sor.UpIn kR ls m b →
    Calls Try.prog 111 #[.slice (some ⟨g, off, none⟩) n cap, .int .i64 (a : Int), .int .i64 (m : Int), .int .i64 (b : Int), (.func (.func 95) #[] #[])] w fun e w' => e = .returned (.tuple #[]) ∧ ∃ ls', Sor.Mrg kR a b ls ls' ∧ Turn w w' g off n cap ls ls'

set_option maxRecDepth 100000 in
set_option maxHeartbeats 3200000 in
theorem symMany_any (g off n cap N : Nat) (hI : SymOk g off n cap N) (ls : List KV) (a m b : Nat) (w : World) (h : RowW w g off n cap ls) (ham : a < m) (hmb : m < b) (hbn : b ≤ n) (hN : b - a ≤ N + 1) (hn : n ≤ 900000) (hux : Sor.UpIn kR ls a m) (huy : Sor.UpIn kR ls m b) (e1 : ¬ m - a = 1) (e2 : ¬ b - m = 1) :
    Calls Try.prog 111 #[.slice (some ⟨g, off, none⟩) n cap, .int .i64 (a : Int), .int .i64 (m : Int), .int .i64 (b : Int), (.func (.func 95) #[] #[])] w fun e w' => e = .returned (.tuple #[]) ∧ ∃ ls', Sor.Mrg kR a b ls ls' ∧ Turn w w' g off n cap ls ls' := by
  have HR := Lib.hid h
  have HU := Lib.hid (And.intro hux huy)
  have IH := Lib.hid (show SymOk g off n cap N from hI)
  unfold SymOk at IH
  clear h hux huy hI
  obtain ⟨x, hx⟩ : ∃ x, m - a = x := ⟨_, rfl⟩
  have k1 : IntKind.i64.wrap ((m : Int) - (a : Int)) = (x : Int) := by rw [IntWalk.i64_in _ (by omega)]; omega
  have n1 : ¬ (x : Int) = 1 := by omega
  have n2 : ¬ x = 1 := by omega
  have n0 : ((x : Int) == 1) = false := beq_eq_false_iff_ne.2 n1
  obtain ⟨y, hy⟩ : ∃ y, b - m = y := ⟨_, rfl⟩
  have k2 : IntKind.i64.wrap ((b : Int) - (m : Int)) = (y : Int) := by rw [IntWalk.i64_in _ (by omega)]; omega
  have n4 : ¬ (y : Int) = 1 := by omega
  have n5 : ¬ y = 1 := by omega
  have n6 : ((y : Int) == 1) = false := beq_eq_false_iff_ne.2 n4
  obtain ⟨s2, hs2⟩ : ∃ s2, a + b = s2 := ⟨_, rfl⟩
  have k3 : IntKind.i64.wrap ((a : Int) + (b : Int)) = (s2 : Int) := by rw [IntWalk.i64_in _ (by omega)]; omega
  obtain ⟨md, hmd⟩ : ∃ md, s2 / 2 = md := ⟨_, rfl⟩
  have k4 : (s2 : Int) / 2 = (md : Int) := by omega
  obtain ⟨nn, hnn⟩ : ∃ nn, md + m = nn := ⟨_, rfl⟩
  have k5 : IntKind.i64.wrap ((md : Int) + (m : Int)) = (nn : Int) := by rw [IntWalk.i64_in _ (by omega)]; omega
  obtain ⟨p, hp⟩ : ∃ p, nn - 1 = p := ⟨_, rfl⟩
  have k6 : IntKind.i64.wrap ((nn : Int) - 1) = (p : Int) := by rw [IntWalk.i64_in _ (by omega)]; omega
  have hSd : a < md ∧ md < b := by omega
  by_cases hc : md < m
  · have f0 : decide ((md : Int) < (m : Int)) = true := decide_eq_true (by omega)
    obtain ⟨s0, hs00⟩ : ∃ s0, nn - b = s0 := ⟨_, rfl⟩
    have kb : IntKind.i64.wrap ((nn : Int) - (b : Int)) = (s0 : Int) := by rw [IntWalk.i64_in _ (by omega)]; omega
    obtain ⟨r0, hr00⟩ : ∃ r0, md = r0 := ⟨_, rfl⟩
    have hSR : SymR a m b md nn s0 r0 := ⟨by omega, by omega, by omega, by omega, by omega, by omega, by omega, by omega⟩
    clear hs00
    subst hr00
    have HSR := Lib.hid (And.intro (show SymR a m b md nn s0 md from hSR) (show a < md ∧ md < b ∧ b - a ≤ N + 1 from ⟨hSd.1, hSd.2, hN⟩))
    have HP := Lib.hid (And.intro hp hnn)
    have as0 := hSR.as0
    have sr0 := hSR.sr
    have rm0 := hSR.rm
    have rd0 := hSR.rd
    have lo0 := hSR.lo
    clear hSR hx hy hs2 hmd hnn hp e1 e2
    go_enter Try.func111, Try.ntmps111
    go_wp2_with fail
    go_loopw [20, 21] (fun v20 v21 wr => ∃ s r : Nat, v20 = .int .i64 (s : Int) ∧ v21 = .int .i64 (r : Int) ∧ s0 ≤ s ∧ s ≤ r ∧ r ≤ md ∧ (s0 < s → Sor.kA kR ls (s - 1) ≤ Sor.kA kR ls (nn - s)) ∧ (r < md → Sor.kA kR ls (nn - 1 - r) < Sor.kA kR ls r) ∧ Turn w wr g off n cap ls ls) (fun v20 v21 _ => (intOf v21).toNat - (intOf v20).toNat)
    case atStart => exact ⟨s0, md, rfl, rfl, Nat.le_refl _, sr0, Nat.le_refl _, fun h => absurd h (Nat.lt_irrefl _), fun h => absurd h (Nat.lt_irrefl _), Turn.refl HR.out⟩
    case round =>
      obtain ⟨s, r, rfl, rfl, hs0, hsr, hr0, hl1, hl2, hT⟩ := hrel
      have HT := Lib.hid hT
      have HL := Lib.hid (And.intro hl1 hl2)
      clear hT hl1 hl2
      by_cases hlt : s < r
      · have l1 : decide ((s : Int) < (r : Int)) = true := decide_eq_true (by omega)
        obtain ⟨t, ht⟩ : ∃ t, s + r = t := ⟨_, rfl⟩
        have k7 : IntKind.i64.wrap ((s : Int) + (r : Int)) = (t : Int) := by rw [IntWalk.i64_in _ (by omega)]; omega
        obtain ⟨c0, hc0⟩ : ∃ c0, t / 2 = c0 := ⟨_, rfl⟩
        have k8 : (t : Int) / 2 = (c0 : Int) := by omega
        have hsc : s ≤ c0 := by omega
        have hcr : c0 < r := by omega
        obtain ⟨d, hd⟩ : ∃ d, p - c0 = d := ⟨_, rfl⟩
        have hpc : c0 ≤ p := by have := HP.out; omega
        have k9 : IntKind.i64.wrap ((p : Int) - (c0 : Int)) = (d : Int) := by rw [IntWalk.i64_in _ (by have := HP.out; omega)]; omega
        have h1 : d < n := by have := HP.out; omega
        have h2 : c0 < n := by omega
        have z1 : (d : Int) < (n : Int) := by omega
        have z2 : (c0 : Int) < (n : Int) := by omega
        have HD := Lib.hid (show nn - 1 - c0 = d ∧ nn - (c0 + 1) = d by have := HP.out; omega)
        clear ht hc0 hd
        go_upto_region 35 with fail
        have hRd : RowW wr.drew g off n cap ls := (HT.out.row).below (Below.refl _ _).drew
        obtain ⟨x1, hx1⟩ : ∃ x, ls[d]'(by rw [hRd.len]; exact h1) = x := ⟨_, rfl⟩
        obtain ⟨x2, hx2⟩ : ∃ x, ls[c0]'(by rw [hRd.len]; exact h2) = x := ⟨_, rfl⟩
        have hc : ∀ W, Below wr.drew.heap.size wr.drew W → ItAt W g (off + d * 8) x1 ∧ ItAt W g (off + c0 * 8) x2 := fun W hW => ⟨by rw [← hx1]; exact (hRd.below hW).cell d h1, by rw [← hx2]; exact (hRd.below hW).cell c0 h2⟩
        have HX := Lib.hid (show Sor.kA kR ls d = x1.2.r ∧ Sor.kA kR ls c0 = x2.2.r from ⟨by rw [Sor.kA_get (by rw [hRd.len]; exact h1), hx1]; rfl, by rw [Sor.kA_get (by rw [hRd.len]; exact h2), hx2]; rfl⟩)
        have HC := Lib.hid hc
        clear hc hx1 hx2 hRd
        refine wp_region_held_drew (S := fun w' => ItAt w' g (off + d * 8) x1 ∧ ItAt w' g (off + c0 * 8) x2) (by kernel_rfl) (HC.out _ (Below.refl _ _)) (fun hHeld => ?_)
        refine lsq 14 ?_
        refine tkq 0 ?_
        refine tkq 1 ?_
        refine tkq 2 ?_
        refine tkq 3 ?_
        refine tkq 4 ?_
        refine tkq 5 ?_
        refine tkq 6 ?_ (hy := fun w h => by exact ld_item _ rfl rfl h.1)
        refine tkq 7 ?_
        refine tkq 8 ?_
        refine tkq 9 ?_
        refine tkq 10 ?_ (hy := fun w h => by exact ld_item _ rfl rfl h.2)
        refine rdq1 11 fun KK hK => ?_
        go_simp
        refine (cmpF_any x1 x2 _).mono ?_
        rintro e wc ⟨c, rfl, hcc, hbc⟩
        refine hK.out _ _ (HC.out _ hbc) ?_
        clear hK KK hHeld
        intro hHeld
        try simp only [lpq]
        have HB := Lib.hid (show Below wr.heap.size wr wc from (Below.refl _ _).drew.trans hbc)
        clear hbc
        by_cases hxy : x1.2.r < x2.2.r
        · have ec : decide (c < 0) = true := decide_eq_true (hcc.2 hxy)
          have ec2 : c < 0 := hcc.2 hxy
          refine tkq 12 ?_
          refine tkq 13 ?_
          refine dnq ?_
          have HK := Lib.hid (show Sor.kA kR ls (nn - 1 - c0) < Sor.kA kR ls c0 by rw [HD.out.1, HX.out.1, HX.out.2]; exact hxy)
          have HE := Lib.hid (HT.out.below HB.out)
          clear hHeld
          go_wp2
          go_roundw
          case rel => exact ⟨s, c0, rfl, rfl, hs0, hsc, by omega, HL.out.1, fun _ => HK.out, HE.out⟩
          case measure =>
            simp [intOf]
            omega
        · have ec : decide (c < 0) = false := decide_eq_false (fun e => hxy (hcc.1 e))
          have ec2 : ¬ c < 0 := fun e => hxy (hcc.1 e)
          refine tkq 12 ?_
          refine tkq 13 ?_
          refine dnq ?_
          have HK := Lib.hid (show Sor.kA kR ls (c0 + 1 - 1) ≤ Sor.kA kR ls (nn - (c0 + 1)) by rw [HD.out.2, Nat.add_sub_cancel, HX.out.1, HX.out.2]; omega)
          have HE := Lib.hid (HT.out.below HB.out)
          clear hHeld
          go_wp2
          go_roundw
          case rel => exact ⟨c0 + 1, r, by go_num, rfl, by omega, by omega, hr0, fun _ => HK.out, HL.out.2, HE.out⟩
          case measure =>
            simp [intOf]
            omega
      · obtain rfl : s = r := by omega
        have l1 : decide ((s : Int) < (s : Int)) = false := decide_eq_false (by omega)
        have hh := HSR.out.1.half (l := ls) hs0 hr0 HL.out.1 HL.out.2
        obtain ⟨en, hen⟩ : ∃ en, nn - s = en := ⟨_, rfl⟩
        have k7 : IntKind.i64.wrap ((nn : Int) - (s : Int)) = (en : Int) := by rw [IntWalk.i64_in _ (by have := HP.out; omega)]; have := HP.out; omega
        rw [hen] at hh
        have HH := Lib.hid hh
        clear hh hen
        by_cases q5 : s < m ∧ m < en
        · have f1 : decide ((s : Int) < (m : Int)) = true := decide_eq_true (by omega)
          have f2 : decide ((m : Int) < (en : Int)) = true := decide_eq_true (by omega)
          go_wp2_with fail
          refine (rotate_any g off n cap ls s m en _ _ HT.out.row q5.1 q5.2 (by have := HH.out.eb; omega) hn).mono ?_
          rintro e w1 ⟨rfl, l1, hro, hT1⟩
          have HRot := Lib.hid hro
          have HF := Lib.hid (HH.out.four HU.out.1 HU.out.2 hro)
          have HT1 := Lib.hid (HT.out.trans hT1)
          clear hro hT1
          by_cases q1 : a < s ∧ s < md
          · have f3 : decide ((a : Int) < (s : Int)) = true := decide_eq_true (by omega)
            have f4 : decide ((s : Int) < (md : Int)) = true := decide_eq_true (by omega)
            go_wp2_with fail
            refine (IH.out l1 a s md _ HT1.out.row q1.1 q1.2 (by have := HSR.out.2; omega) (by have := HSR.out.2; omega) HF.out.u1 HF.out.u2).mono ?_
            rintro e w2 ⟨rfl, l2, hM, hT2⟩
            have HM1 := Lib.hid hM
            have HT2 := Lib.hid (HT1.out.trans hT2)
            clear hM hT2
            have HU2 := Lib.hid (And.intro (HF.out.u3.off HM1.out.off (.inr (Nat.le_refl _))) (HF.out.u4.off HM1.out.off (.inr HH.out.dm)))
            by_cases q3 : md < en ∧ en < b
            · have f5 : decide ((md : Int) < (en : Int)) = true := decide_eq_true (by omega)
              have f6 : decide ((en : Int) < (b : Int)) = true := decide_eq_true (by omega)
              go_wp2_with fail
              all_goals
                refine (IH.out l2 md en b _ HT2.out.row q3.1 q3.2 hbn (by have := HSR.out.2; omega) HU2.out.1 HU2.out.2).mono ?_
                rintro e w3 ⟨rfl, l3, hM, hT3⟩
                have HE := Lib.hid (And.intro (Sor.sym_done HH.out HU.out.1 HU.out.2 HRot.out HM1.out hM (by rw [HR.out.len]; exact hbn)) (HT2.out.trans hT3))
                clear hM hT3
                go_wp2
                all_goals exact bpq ⟨rfl, l3, HE.out⟩
            · by_cases q4 : md < en
              · have f5 : decide ((md : Int) < (en : Int)) = true := decide_eq_true (by omega)
                have f6 : decide ((en : Int) < (b : Int)) = false := decide_eq_false (by omega)
                have HE := Lib.hid (And.intro (Sor.sym_done HH.out HU.out.1 HU.out.2 HRot.out HM1.out ⟨Sor.Off.refl _ _ _, Sor.St.refl _, (by rcases Nat.lt_or_ge md en with d | d; (have d8 : en = b := by have := HH.out.eb; omega); (rw [d8] at HU2; exact HU2.out.1); (have d8 : en = md := by have := HH.out.dm; omega); (rw [d8] at HU2; exact HU2.out.2))⟩ (by rw [HR.out.len]; exact hbn)) HT2.out)
                go_wp2
                all_goals exact bpq ⟨rfl, l2, HE.out⟩
              · have f5 : decide ((md : Int) < (en : Int)) = false := decide_eq_false (by omega)
                have HE := Lib.hid (And.intro (Sor.sym_done HH.out HU.out.1 HU.out.2 HRot.out HM1.out ⟨Sor.Off.refl _ _ _, Sor.St.refl _, (by rcases Nat.lt_or_ge md en with d | d; (have d8 : en = b := by have := HH.out.eb; omega); (rw [d8] at HU2; exact HU2.out.1); (have d8 : en = md := by have := HH.out.dm; omega); (rw [d8] at HU2; exact HU2.out.2))⟩ (by rw [HR.out.len]; exact hbn)) HT2.out)
                go_wp2
                all_goals exact bpq ⟨rfl, l2, HE.out⟩
          · by_cases q2 : a < s
            · have f3 : decide ((a : Int) < (s : Int)) = true := decide_eq_true (by omega)
              have f4 : decide ((s : Int) < (md : Int)) = false := decide_eq_false (by omega)
              have HM1 := Lib.hid (show Sor.Mrg kR a md l1 l1 from ⟨Sor.Off.refl _ _ _, Sor.St.refl _, (by rcases Nat.lt_or_ge a s with d | d; (have d8 : s = md := by have := HH.out.sd; omega); (have d9 := HF.out.u1; rw [d8] at d9; exact d9); (have d8 : s = a := by have := HH.out.lo; omega); (have d9 := HF.out.u2; rw [d8] at d9; exact d9))⟩)
              obtain ⟨l2, hl2⟩ : ∃ l2, l1 = l2 := ⟨_, rfl⟩
              have HT2 := Lib.hid HT1.out
              rw [hl2] at HT2
              rw [show Sor.Mrg kR a md l1 l1 = Sor.Mrg kR a md l1 l2 by rw [hl2]] at HM1
              clear hl2
              have HU2 := Lib.hid (And.intro (HF.out.u3.off HM1.out.off (.inr (Nat.le_refl _))) (HF.out.u4.off HM1.out.off (.inr HH.out.dm)))
              by_cases q3 : md < en ∧ en < b
              · have f5 : decide ((md : Int) < (en : Int)) = true := decide_eq_true (by omega)
                have f6 : decide ((en : Int) < (b : Int)) = true := decide_eq_true (by omega)
                go_wp2_with fail
                all_goals
                  refine (IH.out l2 md en b _ HT2.out.row q3.1 q3.2 hbn (by have := HSR.out.2; omega) HU2.out.1 HU2.out.2).mono ?_
                  rintro e w3 ⟨rfl, l3, hM, hT3⟩
                  have HE := Lib.hid (And.intro (Sor.sym_done HH.out HU.out.1 HU.out.2 HRot.out HM1.out hM (by rw [HR.out.len]; exact hbn)) (HT2.out.trans hT3))
                  clear hM hT3
                  go_wp2
                  all_goals exact bpq ⟨rfl, l3, HE.out⟩
              · by_cases q4 : md < en
                · have f5 : decide ((md : Int) < (en : Int)) = true := decide_eq_true (by omega)
                  have f6 : decide ((en : Int) < (b : Int)) = false := decide_eq_false (by omega)
                  have HE := Lib.hid (And.intro (Sor.sym_done HH.out HU.out.1 HU.out.2 HRot.out HM1.out ⟨Sor.Off.refl _ _ _, Sor.St.refl _, (by rcases Nat.lt_or_ge md en with d | d; (have d8 : en = b := by have := HH.out.eb; omega); (rw [d8] at HU2; exact HU2.out.1); (have d8 : en = md := by have := HH.out.dm; omega); (rw [d8] at HU2; exact HU2.out.2))⟩ (by rw [HR.out.len]; exact hbn)) HT2.out)
                  go_wp2
                  all_goals exact bpq ⟨rfl, l2, HE.out⟩
                · have f5 : decide ((md : Int) < (en : Int)) = false := decide_eq_false (by omega)
                  have HE := Lib.hid (And.intro (Sor.sym_done HH.out HU.out.1 HU.out.2 HRot.out HM1.out ⟨Sor.Off.refl _ _ _, Sor.St.refl _, (by rcases Nat.lt_or_ge md en with d | d; (have d8 : en = b := by have := HH.out.eb; omega); (rw [d8] at HU2; exact HU2.out.1); (have d8 : en = md := by have := HH.out.dm; omega); (rw [d8] at HU2; exact HU2.out.2))⟩ (by rw [HR.out.len]; exact hbn)) HT2.out)
                  go_wp2
                  all_goals exact bpq ⟨rfl, l2, HE.out⟩
            · have f3 : decide ((a : Int) < (s : Int)) = false := decide_eq_false (by omega)
              have HM1 := Lib.hid (show Sor.Mrg kR a md l1 l1 from ⟨Sor.Off.refl _ _ _, Sor.St.refl _, (by rcases Nat.lt_or_ge a s with d | d; (have d8 : s = md := by have := HH.out.sd; omega); (have d9 := HF.out.u1; rw [d8] at d9; exact d9); (have d8 : s = a := by have := HH.out.lo; omega); (have d9 := HF.out.u2; rw [d8] at d9; exact d9))⟩)
              obtain ⟨l2, hl2⟩ : ∃ l2, l1 = l2 := ⟨_, rfl⟩
              have HT2 := Lib.hid HT1.out
              rw [hl2] at HT2
              rw [show Sor.Mrg kR a md l1 l1 = Sor.Mrg kR a md l1 l2 by rw [hl2]] at HM1
              clear hl2
              have HU2 := Lib.hid (And.intro (HF.out.u3.off HM1.out.off (.inr (Nat.le_refl _))) (HF.out.u4.off HM1.out.off (.inr HH.out.dm)))
              by_cases q3 : md < en ∧ en < b
              · have f5 : decide ((md : Int) < (en : Int)) = true := decide_eq_true (by omega)
                have f6 : decide ((en : Int) < (b : Int)) = true := decide_eq_true (by omega)
                go_wp2_with fail
                all_goals
                  refine (IH.out l2 md en b _ HT2.out.row q3.1 q3.2 hbn (by have := HSR.out.2; omega) HU2.out.1 HU2.out.2).mono ?_
                  rintro e w3 ⟨rfl, l3, hM, hT3⟩
                  have HE := Lib.hid (And.intro (Sor.sym_done HH.out HU.out.1 HU.out.2 HRot.out HM1.out hM (by rw [HR.out.len]; exact hbn)) (HT2.out.trans hT3))
                  clear hM hT3
                  go_wp2
                  all_goals exact bpq ⟨rfl, l3, HE.out⟩
              · by_cases q4 : md < en
                · have f5 : decide ((md : Int) < (en : Int)) = true := decide_eq_true (by omega)
                  have f6 : decide ((en : Int) < (b : Int)) = false := decide_eq_false (by omega)
                  have HE := Lib.hid (And.intro (Sor.sym_done HH.out HU.out.1 HU.out.2 HRot.out HM1.out ⟨Sor.Off.refl _ _ _, Sor.St.refl _, (by rcases Nat.lt_or_ge md en with d | d; (have d8 : en = b := by have := HH.out.eb; omega); (rw [d8] at HU2; exact HU2.out.1); (have d8 : en = md := by have := HH.out.dm; omega); (rw [d8] at HU2; exact HU2.out.2))⟩ (by rw [HR.out.len]; exact hbn)) HT2.out)
                  go_wp2
                  all_goals exact bpq ⟨rfl, l2, HE.out⟩
                · have f5 : decide ((md : Int) < (en : Int)) = false := decide_eq_false (by omega)
                  have HE := Lib.hid (And.intro (Sor.sym_done HH.out HU.out.1 HU.out.2 HRot.out HM1.out ⟨Sor.Off.refl _ _ _, Sor.St.refl _, (by rcases Nat.lt_or_ge md en with d | d; (have d8 : en = b := by have := HH.out.eb; omega); (rw [d8] at HU2; exact HU2.out.1); (have d8 : en = md := by have := HH.out.dm; omega); (rw [d8] at HU2; exact HU2.out.2))⟩ (by rw [HR.out.len]; exact hbn)) HT2.out)
                  go_wp2
                  all_goals exact bpq ⟨rfl, l2, HE.out⟩
        · by_cases q6 : s < m
          · have f1 : decide ((s : Int) < (m : Int)) = true := decide_eq_true (by omega)
            have f2 : decide ((m : Int) < (en : Int)) = false := decide_eq_false (by omega)
            have HRot := Lib.hid (Sor.Rot.none ls q5 HH.out.sm HH.out.me)
            have HF := Lib.hid (HH.out.four HU.out.1 HU.out.2 HRot.out)
            have HT1 := Lib.hid HT.out
            obtain ⟨l1, hl1⟩ : ∃ l1, ls = l1 := ⟨_, rfl⟩
            rw [show Sor.Rot s m en ls ls = Sor.Rot s m en ls l1 by rw [hl1]] at HRot
            rw [show Sor.Four kR a b md s en ls = Sor.Four kR a b md s en l1 by rw [hl1]] at HF
            rw [show Turn w wr g off n cap ls ls = Turn w wr g off n cap ls l1 by rw [hl1]] at HT1
            clear hl1
            by_cases q1 : a < s ∧ s < md
            · have f3 : decide ((a : Int) < (s : Int)) = true := decide_eq_true (by omega)
              have f4 : decide ((s : Int) < (md : Int)) = true := decide_eq_true (by omega)
              go_wp2_with fail
              refine (IH.out l1 a s md _ HT1.out.row q1.1 q1.2 (by have := HSR.out.2; omega) (by have := HSR.out.2; omega) HF.out.u1 HF.out.u2).mono ?_
              rintro e w2 ⟨rfl, l2, hM, hT2⟩
              have HM1 := Lib.hid hM
              have HT2 := Lib.hid (HT1.out.trans hT2)
              clear hM hT2
              have HU2 := Lib.hid (And.intro (HF.out.u3.off HM1.out.off (.inr (Nat.le_refl _))) (HF.out.u4.off HM1.out.off (.inr HH.out.dm)))
              by_cases q3 : md < en ∧ en < b
              · have f5 : decide ((md : Int) < (en : Int)) = true := decide_eq_true (by omega)
                have f6 : decide ((en : Int) < (b : Int)) = true := decide_eq_true (by omega)
                go_wp2_with fail
                all_goals
                  refine (IH.out l2 md en b _ HT2.out.row q3.1 q3.2 hbn (by have := HSR.out.2; omega) HU2.out.1 HU2.out.2).mono ?_
                  rintro e w3 ⟨rfl, l3, hM, hT3⟩
                  have HE := Lib.hid (And.intro (Sor.sym_done HH.out HU.out.1 HU.out.2 HRot.out HM1.out hM (by rw [HR.out.len]; exact hbn)) (HT2.out.trans hT3))
                  clear hM hT3
                  go_wp2
                  all_goals exact bpq ⟨rfl, l3, HE.out⟩
              · by_cases q4 : md < en
                · have f5 : decide ((md : Int) < (en : Int)) = true := decide_eq_true (by omega)
                  have f6 : decide ((en : Int) < (b : Int)) = false := decide_eq_false (by omega)
                  have HE := Lib.hid (And.intro (Sor.sym_done HH.out HU.out.1 HU.out.2 HRot.out HM1.out ⟨Sor.Off.refl _ _ _, Sor.St.refl _, (by rcases Nat.lt_or_ge md en with d | d; (have d8 : en = b := by have := HH.out.eb; omega); (rw [d8] at HU2; exact HU2.out.1); (have d8 : en = md := by have := HH.out.dm; omega); (rw [d8] at HU2; exact HU2.out.2))⟩ (by rw [HR.out.len]; exact hbn)) HT2.out)
                  go_wp2
                  all_goals exact bpq ⟨rfl, l2, HE.out⟩
                · have f5 : decide ((md : Int) < (en : Int)) = false := decide_eq_false (by omega)
                  have HE := Lib.hid (And.intro (Sor.sym_done HH.out HU.out.1 HU.out.2 HRot.out HM1.out ⟨Sor.Off.refl _ _ _, Sor.St.refl _, (by rcases Nat.lt_or_ge md en with d | d; (have d8 : en = b := by have := HH.out.eb; omega); (rw [d8] at HU2; exact HU2.out.1); (have d8 : en = md := by have := HH.out.dm; omega); (rw [d8] at HU2; exact HU2.out.2))⟩ (by rw [HR.out.len]; exact hbn)) HT2.out)
                  go_wp2
                  all_goals exact bpq ⟨rfl, l2, HE.out⟩
            · by_cases q2 : a < s
              · have f3 : decide ((a : Int) < (s : Int)) = true := decide_eq_true (by omega)
                have f4 : decide ((s : Int) < (md : Int)) = false := decide_eq_false (by omega)
                have HM1 := Lib.hid (show Sor.Mrg kR a md l1 l1 from ⟨Sor.Off.refl _ _ _, Sor.St.refl _, (by rcases Nat.lt_or_ge a s with d | d; (have d8 : s = md := by have := HH.out.sd; omega); (have d9 := HF.out.u1; rw [d8] at d9; exact d9); (have d8 : s = a := by have := HH.out.lo; omega); (have d9 := HF.out.u2; rw [d8] at d9; exact d9))⟩)
                obtain ⟨l2, hl2⟩ : ∃ l2, l1 = l2 := ⟨_, rfl⟩
                have HT2 := Lib.hid HT1.out
                rw [hl2] at HT2
                rw [show Sor.Mrg kR a md l1 l1 = Sor.Mrg kR a md l1 l2 by rw [hl2]] at HM1
                clear hl2
                have HU2 := Lib.hid (And.intro (HF.out.u3.off HM1.out.off (.inr (Nat.le_refl _))) (HF.out.u4.off HM1.out.off (.inr HH.out.dm)))
                by_cases q3 : md < en ∧ en < b
                · have f5 : decide ((md : Int) < (en : Int)) = true := decide_eq_true (by omega)
                  have f6 : decide ((en : Int) < (b : Int)) = true := decide_eq_true (by omega)
                  go_wp2_with fail
                  all_goals
                    refine (IH.out l2 md en b _ HT2.out.row q3.1 q3.2 hbn (by have := HSR.out.2; omega) HU2.out.1 HU2.out.2).mono ?_
                    rintro e w3 ⟨rfl, l3, hM, hT3⟩
                    have HE := Lib.hid (And.intro (Sor.sym_done HH.out HU.out.1 HU.out.2 HRot.out HM1.out hM (by rw [HR.out.len]; exact hbn)) (HT2.out.trans hT3))
                    clear hM hT3
                    go_wp2
                    all_goals exact bpq ⟨rfl, l3, HE.out⟩
                · by_cases q4 : md < en
                  · have f5 : decide ((md : Int) < (en : Int)) = true := decide_eq_true (by omega)
                    have f6 : decide ((en : Int) < (b : Int)) = false := decide_eq_false (by omega)
                    have HE := Lib.hid (And.intro (Sor.sym_done HH.out HU.out.1 HU.out.2 HRot.out HM1.out ⟨Sor.Off.refl _ _ _, Sor.St.refl _, (by rcases Nat.lt_or_ge md en with d | d; (have d8 : en = b := by have := HH.out.eb; omega); (rw [d8] at HU2; exact HU2.out.1); (have d8 : en = md := by have := HH.out.dm; omega); (rw [d8] at HU2; exact HU2.out.2))⟩ (by rw [HR.out.len]; exact hbn)) HT2.out)
                    go_wp2
                    all_goals exact bpq ⟨rfl, l2, HE.out⟩
                  · have f5 : decide ((md : Int) < (en : Int)) = false := decide_eq_false (by omega)
                    have HE := Lib.hid (And.intro (Sor.sym_done HH.out HU.out.1 HU.out.2 HRot.out HM1.out ⟨Sor.Off.refl _ _ _, Sor.St.refl _, (by rcases Nat.lt_or_ge md en with d | d; (have d8 : en = b := by have := HH.out.eb; omega); (rw [d8] at HU2; exact HU2.out.1); (have d8 : en = md := by have := HH.out.dm; omega); (rw [d8] at HU2; exact HU2.out.2))⟩ (by rw [HR.out.len]; exact hbn)) HT2.out)
                    go_wp2
                    all_goals exact bpq ⟨rfl, l2, HE.out⟩
              · have f3 : decide ((a : Int) < (s : Int)) = false := decide_eq_false (by omega)
                have HM1 := Lib.hid (show Sor.Mrg kR a md l1 l1 from ⟨Sor.Off.refl _ _ _, Sor.St.refl _, (by rcases Nat.lt_or_ge a s with d | d; (have d8 : s = md := by have := HH.out.sd; omega); (have d9 := HF.out.u1; rw [d8] at d9; exact d9); (have d8 : s = a := by have := HH.out.lo; omega); (have d9 := HF.out.u2; rw [d8] at d9; exact d9))⟩)
                obtain ⟨l2, hl2⟩ : ∃ l2, l1 = l2 := ⟨_, rfl⟩
                have HT2 := Lib.hid HT1.out
                rw [hl2] at HT2
                rw [show Sor.Mrg kR a md l1 l1 = Sor.Mrg kR a md l1 l2 by rw [hl2]] at HM1
                clear hl2
                have HU2 := Lib.hid (And.intro (HF.out.u3.off HM1.out.off (.inr (Nat.le_refl _))) (HF.out.u4.off HM1.out.off (.inr HH.out.dm)))
                by_cases q3 : md < en ∧ en < b
                · have f5 : decide ((md : Int) < (en : Int)) = true := decide_eq_true (by omega)
                  have f6 : decide ((en : Int) < (b : Int)) = true := decide_eq_true (by omega)
                  go_wp2_with fail
                  all_goals
                    refine (IH.out l2 md en b _ HT2.out.row q3.1 q3.2 hbn (by have := HSR.out.2; omega) HU2.out.1 HU2.out.2).mono ?_
                    rintro e w3 ⟨rfl, l3, hM, hT3⟩
                    have HE := Lib.hid (And.intro (Sor.sym_done HH.out HU.out.1 HU.out.2 HRot.out HM1.out hM (by rw [HR.out.len]; exact hbn)) (HT2.out.trans hT3))
                    clear hM hT3
                    go_wp2
                    all_goals exact bpq ⟨rfl, l3, HE.out⟩
                · by_cases q4 : md < en
                  · have f5 : decide ((md : Int) < (en : Int)) = true := decide_eq_true (by omega)
                    have f6 : decide ((en : Int) < (b : Int)) = false := decide_eq_false (by omega)
                    have HE := Lib.hid (And.intro (Sor.sym_done HH.out HU.out.1 HU.out.2 HRot.out HM1.out ⟨Sor.Off.refl _ _ _, Sor.St.refl _, (by rcases Nat.lt_or_ge md en with d | d; (have d8 : en = b := by have := HH.out.eb; omega); (rw [d8] at HU2; exact HU2.out.1); (have d8 : en = md := by have := HH.out.dm; omega); (rw [d8] at HU2; exact HU2.out.2))⟩ (by rw [HR.out.len]; exact hbn)) HT2.out)
                    go_wp2
                    all_goals exact bpq ⟨rfl, l2, HE.out⟩
                  · have f5 : decide ((md : Int) < (en : Int)) = false := decide_eq_false (by omega)
                    have HE := Lib.hid (And.intro (Sor.sym_done HH.out HU.out.1 HU.out.2 HRot.out HM1.out ⟨Sor.Off.refl _ _ _, Sor.St.refl _, (by rcases Nat.lt_or_ge md en with d | d; (have d8 : en = b := by have := HH.out.eb; omega); (rw [d8] at HU2; exact HU2.out.1); (have d8 : en = md := by have := HH.out.dm; omega); (rw [d8] at HU2; exact HU2.out.2))⟩ (by rw [HR.out.len]; exact hbn)) HT2.out)
                    go_wp2
                    all_goals exact bpq ⟨rfl, l2, HE.out⟩
          · have f1 : decide ((s : Int) < (m : Int)) = false := decide_eq_false (by omega)
            have HRot := Lib.hid (Sor.Rot.none ls q5 HH.out.sm HH.out.me)
            have HF := Lib.hid (HH.out.four HU.out.1 HU.out.2 HRot.out)
            have HT1 := Lib.hid HT.out
            obtain ⟨l1, hl1⟩ : ∃ l1, ls = l1 := ⟨_, rfl⟩
            rw [show Sor.Rot s m en ls ls = Sor.Rot s m en ls l1 by rw [hl1]] at HRot
            rw [show Sor.Four kR a b md s en ls = Sor.Four kR a b md s en l1 by rw [hl1]] at HF
            rw [show Turn w wr g off n cap ls ls = Turn w wr g off n cap ls l1 by rw [hl1]] at HT1
            clear hl1
            by_cases q1 : a < s ∧ s < md
            · have f3 : decide ((a : Int) < (s : Int)) = true := decide_eq_true (by omega)
              have f4 : decide ((s : Int) < (md : Int)) = true := decide_eq_true (by omega)
              go_wp2_with fail
              refine (IH.out l1 a s md _ HT1.out.row q1.1 q1.2 (by have := HSR.out.2; omega) (by have := HSR.out.2; omega) HF.out.u1 HF.out.u2).mono ?_
              rintro e w2 ⟨rfl, l2, hM, hT2⟩
              have HM1 := Lib.hid hM
              have HT2 := Lib.hid (HT1.out.trans hT2)
              clear hM hT2
              have HU2 := Lib.hid (And.intro (HF.out.u3.off HM1.out.off (.inr (Nat.le_refl _))) (HF.out.u4.off HM1.out.off (.inr HH.out.dm)))
              by_cases q3 : md < en ∧ en < b
              · have f5 : decide ((md : Int) < (en : Int)) = true := decide_eq_true (by omega)
                have f6 : decide ((en : Int) < (b : Int)) = true := decide_eq_true (by omega)
                go_wp2_with fail
                all_goals
                  refine (IH.out l2 md en b _ HT2.out.row q3.1 q3.2 hbn (by have := HSR.out.2; omega) HU2.out.1 HU2.out.2).mono ?_
                  rintro e w3 ⟨rfl, l3, hM, hT3⟩
                  have HE := Lib.hid (And.intro (Sor.sym_done HH.out HU.out.1 HU.out.2 HRot.out HM1.out hM (by rw [HR.out.len]; exact hbn)) (HT2.out.trans hT3))
                  clear hM hT3
                  go_wp2
                  all_goals exact bpq ⟨rfl, l3, HE.out⟩
              · by_cases q4 : md < en
                · have f5 : decide ((md : Int) < (en : Int)) = true := decide_eq_true (by omega)
                  have f6 : decide ((en : Int) < (b : Int)) = false := decide_eq_false (by omega)
                  have HE := Lib.hid (And.intro (Sor.sym_done HH.out HU.out.1 HU.out.2 HRot.out HM1.out ⟨Sor.Off.refl _ _ _, Sor.St.refl _, (by rcases Nat.lt_or_ge md en with d | d; (have d8 : en = b := by have := HH.out.eb; omega); (rw [d8] at HU2; exact HU2.out.1); (have d8 : en = md := by have := HH.out.dm; omega); (rw [d8] at HU2; exact HU2.out.2))⟩ (by rw [HR.out.len]; exact hbn)) HT2.out)
                  go_wp2
                  all_goals exact bpq ⟨rfl, l2, HE.out⟩
                · have f5 : decide ((md : Int) < (en : Int)) = false := decide_eq_false (by omega)
                  have HE := Lib.hid (And.intro (Sor.sym_done HH.out HU.out.1 HU.out.2 HRot.out HM1.out ⟨Sor.Off.refl _ _ _, Sor.St.refl _, (by rcases Nat.lt_or_ge md en with d | d; (have d8 : en = b := by have := HH.out.eb; omega); (rw [d8] at HU2; exact HU2.out.1); (have d8 : en = md := by have := HH.out.dm; omega); (rw [d8] at HU2; exact HU2.out.2))⟩ (by rw [HR.out.len]; exact hbn)) HT2.out)
                  go_wp2
                  all_goals exact bpq ⟨rfl, l2, HE.out⟩
            · by_cases q2 : a < s
              · have f3 : decide ((a : Int) < (s : Int)) = true := decide_eq_true (by omega)
                have f4 : decide ((s : Int) < (md : Int)) = false := decide_eq_false (by omega)
                have HM1 := Lib.hid (show Sor.Mrg kR a md l1 l1 from ⟨Sor.Off.refl _ _ _, Sor.St.refl _, (by rcases Nat.lt_or_ge a s with d | d; (have d8 : s = md := by have := HH.out.sd; omega); (have d9 := HF.out.u1; rw [d8] at d9; exact d9); (have d8 : s = a := by have := HH.out.lo; omega); (have d9 := HF.out.u2; rw [d8] at d9; exact d9))⟩)
                obtain ⟨l2, hl2⟩ : ∃ l2, l1 = l2 := ⟨_, rfl⟩
                have HT2 := Lib.hid HT1.out
                rw [hl2] at HT2
                rw [show Sor.Mrg kR a md l1 l1 = Sor.Mrg kR a md l1 l2 by rw [hl2]] at HM1
                clear hl2
                have HU2 := Lib.hid (And.intro (HF.out.u3.off HM1.out.off (.inr (Nat.le_refl _))) (HF.out.u4.off HM1.out.off (.inr HH.out.dm)))
                by_cases q3 : md < en ∧ en < b
                · have f5 : decide ((md : Int) < (en : Int)) = true := decide_eq_true (by omega)
                  have f6 : decide ((en : Int) < (b : Int)) = true := decide_eq_true (by omega)
                  go_wp2_with fail
                  all_goals
                    refine (IH.out l2 md en b _ HT2.out.row q3.1 q3.2 hbn (by have := HSR.out.2; omega) HU2.out.1 HU2.out.2).mono ?_
                    rintro e w3 ⟨rfl, l3, hM, hT3⟩
                    have HE := Lib.hid (And.intro (Sor.sym_done HH.out HU.out.1 HU.out.2 HRot.out HM1.out hM (by rw [HR.out.len]; exact hbn)) (HT2.out.trans hT3))
                    clear hM hT3
                    go_wp2
                    all_goals exact bpq ⟨rfl, l3, HE.out⟩
                · by_cases q4 : md < en
                  · have f5 : decide ((md : Int) < (en : Int)) = true := decide_eq_true (by omega)
                    have f6 : decide ((en : Int) < (b : Int)) = false := decide_eq_false (by omega)
                    have HE := Lib.hid (And.intro (Sor.sym_done HH.out HU.out.1 HU.out.2 HRot.out HM1.out ⟨Sor.Off.refl _ _ _, Sor.St.refl _, (by rcases Nat.lt_or_ge md en with d | d; (have d8 : en = b := by have := HH.out.eb; omega); (rw [d8] at HU2; exact HU2.out.1); (have d8 : en = md := by have := HH.out.dm; omega); (rw [d8] at HU2; exact HU2.out.2))⟩ (by rw [HR.out.len]; exact hbn)) HT2.out)
                    go_wp2
                    all_goals exact bpq ⟨rfl, l2, HE.out⟩
                  · have f5 : decide ((md : Int) < (en : Int)) = false := decide_eq_false (by omega)
                    have HE := Lib.hid (And.intro (Sor.sym_done HH.out HU.out.1 HU.out.2 HRot.out HM1.out ⟨Sor.Off.refl _ _ _, Sor.St.refl _, (by rcases Nat.lt_or_ge md en with d | d; (have d8 : en = b := by have := HH.out.eb; omega); (rw [d8] at HU2; exact HU2.out.1); (have d8 : en = md := by have := HH.out.dm; omega); (rw [d8] at HU2; exact HU2.out.2))⟩ (by rw [HR.out.len]; exact hbn)) HT2.out)
                    go_wp2
                    all_goals exact bpq ⟨rfl, l2, HE.out⟩
              · have f3 : decide ((a : Int) < (s : Int)) = false := decide_eq_false (by omega)
                have HM1 := Lib.hid (show Sor.Mrg kR a md l1 l1 from ⟨Sor.Off.refl _ _ _, Sor.St.refl _, (by rcases Nat.lt_or_ge a s with d | d; (have d8 : s = md := by have := HH.out.sd; omega); (have d9 := HF.out.u1; rw [d8] at d9; exact d9); (have d8 : s = a := by have := HH.out.lo; omega); (have d9 := HF.out.u2; rw [d8] at d9; exact d9))⟩)
                obtain ⟨l2, hl2⟩ : ∃ l2, l1 = l2 := ⟨_, rfl⟩
                have HT2 := Lib.hid HT1.out
                rw [hl2] at HT2
                rw [show Sor.Mrg kR a md l1 l1 = Sor.Mrg kR a md l1 l2 by rw [hl2]] at HM1
                clear hl2
                have HU2 := Lib.hid (And.intro (HF.out.u3.off HM1.out.off (.inr (Nat.le_refl _))) (HF.out.u4.off HM1.out.off (.inr HH.out.dm)))
                by_cases q3 : md < en ∧ en < b
                · have f5 : decide ((md : Int) < (en : Int)) = true := decide_eq_true (by omega)
                  have f6 : decide ((en : Int) < (b : Int)) = true := decide_eq_true (by omega)
                  go_wp2_with fail
                  all_goals
                    refine (IH.out l2 md en b _ HT2.out.row q3.1 q3.2 hbn (by have := HSR.out.2; omega) HU2.out.1 HU2.out.2).mono ?_
                    rintro e w3 ⟨rfl, l3, hM, hT3⟩
                    have HE := Lib.hid (And.intro (Sor.sym_done HH.out HU.out.1 HU.out.2 HRot.out HM1.out hM (by rw [HR.out.len]; exact hbn)) (HT2.out.trans hT3))
                    clear hM hT3
                    go_wp2
                    all_goals exact bpq ⟨rfl, l3, HE.out⟩
                · by_cases q4 : md < en
                  · have f5 : decide ((md : Int) < (en : Int)) = true := decide_eq_true (by omega)
                    have f6 : decide ((en : Int) < (b : Int)) = false := decide_eq_false (by omega)
                    have HE := Lib.hid (And.intro (Sor.sym_done HH.out HU.out.1 HU.out.2 HRot.out HM1.out ⟨Sor.Off.refl _ _ _, Sor.St.refl _, (by rcases Nat.lt_or_ge md en with d | d; (have d8 : en = b := by have := HH.out.eb; omega); (rw [d8] at HU2; exact HU2.out.1); (have d8 : en = md := by have := HH.out.dm; omega); (rw [d8] at HU2; exact HU2.out.2))⟩ (by rw [HR.out.len]; exact hbn)) HT2.out)
                    go_wp2
                    all_goals exact bpq ⟨rfl, l2, HE.out⟩
                  · have f5 : decide ((md : Int) < (en : Int)) = false := decide_eq_false (by omega)
                    have HE := Lib.hid (And.intro (Sor.sym_done HH.out HU.out.1 HU.out.2 HRot.out HM1.out ⟨Sor.Off.refl _ _ _, Sor.St.refl _, (by rcases Nat.lt_or_ge md en with d | d; (have d8 : en = b := by have := HH.out.eb; omega); (rw [d8] at HU2; exact HU2.out.1); (have d8 : en = md := by have := HH.out.dm; omega); (rw [d8] at HU2; exact HU2.out.2))⟩ (by rw [HR.out.len]; exact hbn)) HT2.out)
                    go_wp2
                    all_goals exact bpq ⟨rfl, l2, HE.out⟩
  · have f0 : decide ((md : Int) < (m : Int)) = false := decide_eq_false (by omega)
    have hSR : SymR a m b md nn a m := ⟨by omega, by omega, by omega, by omega, by omega, by omega, by omega, by omega⟩
    have HSR := Lib.hid (And.intro (show SymR a m b md nn a m from hSR) (show a < md ∧ md < b ∧ b - a ≤ N + 1 from ⟨hSd.1, hSd.2, hN⟩))
    have HP := Lib.hid (And.intro hp hnn)
    have as0 := hSR.as0
    have sr0 := hSR.sr
    have rm0 := hSR.rm
    have rd0 := hSR.rd
    have lo0 := hSR.lo
    clear hSR hx hy hs2 hmd hnn hp e1 e2
    go_enter Try.func111, Try.ntmps111
    go_wp2_with fail
    go_loopw [20, 21] (fun v20 v21 wr => ∃ s r : Nat, v20 = .int .i64 (s : Int) ∧ v21 = .int .i64 (r : Int) ∧ a ≤ s ∧ s ≤ r ∧ r ≤ m ∧ (a < s → Sor.kA kR ls (s - 1) ≤ Sor.kA kR ls (nn - s)) ∧ (r < m → Sor.kA kR ls (nn - 1 - r) < Sor.kA kR ls r) ∧ Turn w wr g off n cap ls ls) (fun v20 v21 _ => (intOf v21).toNat - (intOf v20).toNat)
    case atStart => exact ⟨a, m, rfl, rfl, Nat.le_refl _, sr0, Nat.le_refl _, fun h => absurd h (Nat.lt_irrefl _), fun h => absurd h (Nat.lt_irrefl _), Turn.refl HR.out⟩
    case round =>
      obtain ⟨s, r, rfl, rfl, hs0, hsr, hr0, hl1, hl2, hT⟩ := hrel
      have HT := Lib.hid hT
      have HL := Lib.hid (And.intro hl1 hl2)
      clear hT hl1 hl2
      by_cases hlt : s < r
      · have l1 : decide ((s : Int) < (r : Int)) = true := decide_eq_true (by omega)
        obtain ⟨t, ht⟩ : ∃ t, s + r = t := ⟨_, rfl⟩
        have k7 : IntKind.i64.wrap ((s : Int) + (r : Int)) = (t : Int) := by rw [IntWalk.i64_in _ (by omega)]; omega
        obtain ⟨c0, hc0⟩ : ∃ c0, t / 2 = c0 := ⟨_, rfl⟩
        have k8 : (t : Int) / 2 = (c0 : Int) := by omega
        have hsc : s ≤ c0 := by omega
        have hcr : c0 < r := by omega
        obtain ⟨d, hd⟩ : ∃ d, p - c0 = d := ⟨_, rfl⟩
        have hpc : c0 ≤ p := by have := HP.out; omega
        have k9 : IntKind.i64.wrap ((p : Int) - (c0 : Int)) = (d : Int) := by rw [IntWalk.i64_in _ (by have := HP.out; omega)]; omega
        have h1 : d < n := by have := HP.out; omega
        have h2 : c0 < n := by omega
        have z1 : (d : Int) < (n : Int) := by omega
        have z2 : (c0 : Int) < (n : Int) := by omega
        have HD := Lib.hid (show nn - 1 - c0 = d ∧ nn - (c0 + 1) = d by have := HP.out; omega)
        clear ht hc0 hd
        go_upto_region 35 with fail
        have hRd : RowW wr.drew g off n cap ls := (HT.out.row).below (Below.refl _ _).drew
        obtain ⟨x1, hx1⟩ : ∃ x, ls[d]'(by rw [hRd.len]; exact h1) = x := ⟨_, rfl⟩
        obtain ⟨x2, hx2⟩ : ∃ x, ls[c0]'(by rw [hRd.len]; exact h2) = x := ⟨_, rfl⟩
        have hc : ∀ W, Below wr.drew.heap.size wr.drew W → ItAt W g (off + d * 8) x1 ∧ ItAt W g (off + c0 * 8) x2 := fun W hW => ⟨by rw [← hx1]; exact (hRd.below hW).cell d h1, by rw [← hx2]; exact (hRd.below hW).cell c0 h2⟩
        have HX := Lib.hid (show Sor.kA kR ls d = x1.2.r ∧ Sor.kA kR ls c0 = x2.2.r from ⟨by rw [Sor.kA_get (by rw [hRd.len]; exact h1), hx1]; rfl, by rw [Sor.kA_get (by rw [hRd.len]; exact h2), hx2]; rfl⟩)
        have HC := Lib.hid hc
        clear hc hx1 hx2 hRd
        refine wp_region_held_drew (S := fun w' => ItAt w' g (off + d * 8) x1 ∧ ItAt w' g (off + c0 * 8) x2) (by kernel_rfl) (HC.out _ (Below.refl _ _)) (fun hHeld => ?_)
        refine lsq 14 ?_
        refine tkq 0 ?_
        refine tkq 1 ?_
        refine tkq 2 ?_
        refine tkq 3 ?_
        refine tkq 4 ?_
        refine tkq 5 ?_
        refine tkq 6 ?_ (hy := fun w h => by exact ld_item _ rfl rfl h.1)
        refine tkq 7 ?_
        refine tkq 8 ?_
        refine tkq 9 ?_
        refine tkq 10 ?_ (hy := fun w h => by exact ld_item _ rfl rfl h.2)
        refine rdq1 11 fun KK hK => ?_
        go_simp
        refine (cmpF_any x1 x2 _).mono ?_
        rintro e wc ⟨c, rfl, hcc, hbc⟩
        refine hK.out _ _ (HC.out _ hbc) ?_
        clear hK KK hHeld
        intro hHeld
        try simp only [lpq]
        have HB := Lib.hid (show Below wr.heap.size wr wc from (Below.refl _ _).drew.trans hbc)
        clear hbc
        by_cases hxy : x1.2.r < x2.2.r
        · have ec : decide (c < 0) = true := decide_eq_true (hcc.2 hxy)
          have ec2 : c < 0 := hcc.2 hxy
          refine tkq 12 ?_
          refine tkq 13 ?_
          refine dnq ?_
          have HK := Lib.hid (show Sor.kA kR ls (nn - 1 - c0) < Sor.kA kR ls c0 by rw [HD.out.1, HX.out.1, HX.out.2]; exact hxy)
          have HE := Lib.hid (HT.out.below HB.out)
          clear hHeld
          go_wp2
          go_roundw
          case rel => exact ⟨s, c0, rfl, rfl, hs0, hsc, by omega, HL.out.1, fun _ => HK.out, HE.out⟩
          case measure =>
            simp [intOf]
            omega
        · have ec : decide (c < 0) = false := decide_eq_false (fun e => hxy (hcc.1 e))
          have ec2 : ¬ c < 0 := fun e => hxy (hcc.1 e)
          refine tkq 12 ?_
          refine tkq 13 ?_
          refine dnq ?_
          have HK := Lib.hid (show Sor.kA kR ls (c0 + 1 - 1) ≤ Sor.kA kR ls (nn - (c0 + 1)) by rw [HD.out.2, Nat.add_sub_cancel, HX.out.1, HX.out.2]; omega)
          have HE := Lib.hid (HT.out.below HB.out)
          clear hHeld
          go_wp2
          go_roundw
          case rel => exact ⟨c0 + 1, r, by go_num, rfl, by omega, by omega, hr0, fun _ => HK.out, HL.out.2, HE.out⟩
          case measure =>
            simp [intOf]
            omega
      · obtain rfl : s = r := by omega
        have l1 : decide ((s : Int) < (s : Int)) = false := decide_eq_false (by omega)
        have hh := HSR.out.1.half (l := ls) hs0 hr0 HL.out.1 HL.out.2
        obtain ⟨en, hen⟩ : ∃ en, nn - s = en := ⟨_, rfl⟩
        have k7 : IntKind.i64.wrap ((nn : Int) - (s : Int)) = (en : Int) := by rw [IntWalk.i64_in _ (by have := HP.out; omega)]; have := HP.out; omega
        rw [hen] at hh
        have HH := Lib.hid hh
        clear hh hen
        by_cases q5 : s < m ∧ m < en
        · have f1 : decide ((s : Int) < (m : Int)) = true := decide_eq_true (by omega)
          have f2 : decide ((m : Int) < (en : Int)) = true := decide_eq_true (by omega)
          go_wp2_with fail
          refine (rotate_any g off n cap ls s m en _ _ HT.out.row q5.1 q5.2 (by have := HH.out.eb; omega) hn).mono ?_
          rintro e w1 ⟨rfl, l1, hro, hT1⟩
          have HRot := Lib.hid hro
          have HF := Lib.hid (HH.out.four HU.out.1 HU.out.2 hro)
          have HT1 := Lib.hid (HT.out.trans hT1)
          clear hro hT1
          by_cases q1 : a < s ∧ s < md
          · have f3 : decide ((a : Int) < (s : Int)) = true := decide_eq_true (by omega)
            have f4 : decide ((s : Int) < (md : Int)) = true := decide_eq_true (by omega)
            go_wp2_with fail
            refine (IH.out l1 a s md _ HT1.out.row q1.1 q1.2 (by have := HSR.out.2; omega) (by have := HSR.out.2; omega) HF.out.u1 HF.out.u2).mono ?_
            rintro e w2 ⟨rfl, l2, hM, hT2⟩
            have HM1 := Lib.hid hM
            have HT2 := Lib.hid (HT1.out.trans hT2)
            clear hM hT2
            have HU2 := Lib.hid (And.intro (HF.out.u3.off HM1.out.off (.inr (Nat.le_refl _))) (HF.out.u4.off HM1.out.off (.inr HH.out.dm)))
            by_cases q3 : md < en ∧ en < b
            · have f5 : decide ((md : Int) < (en : Int)) = true := decide_eq_true (by omega)
              have f6 : decide ((en : Int) < (b : Int)) = true := decide_eq_true (by omega)
              go_wp2_with fail
              all_goals
                refine (IH.out l2 md en b _ HT2.out.row q3.1 q3.2 hbn (by have := HSR.out.2; omega) HU2.out.1 HU2.out.2).mono ?_
                rintro e w3 ⟨rfl, l3, hM, hT3⟩
                have HE := Lib.hid (And.intro (Sor.sym_done HH.out HU.out.1 HU.out.2 HRot.out HM1.out hM (by rw [HR.out.len]; exact hbn)) (HT2.out.trans hT3))
                clear hM hT3
                go_wp2
                all_goals exact bpq ⟨rfl, l3, HE.out⟩
            · by_cases q4 : md < en
              · have f5 : decide ((md : Int) < (en : Int)) = true := decide_eq_true (by omega)
                have f6 : decide ((en : Int) < (b : Int)) = false := decide_eq_false (by omega)
                have HE := Lib.hid (And.intro (Sor.sym_done HH.out HU.out.1 HU.out.2 HRot.out HM1.out ⟨Sor.Off.refl _ _ _, Sor.St.refl _, (by rcases Nat.lt_or_ge md en with d | d; (have d8 : en = b := by have := HH.out.eb; omega); (rw [d8] at HU2; exact HU2.out.1); (have d8 : en = md := by have := HH.out.dm; omega); (rw [d8] at HU2; exact HU2.out.2))⟩ (by rw [HR.out.len]; exact hbn)) HT2.out)
                go_wp2
                all_goals exact bpq ⟨rfl, l2, HE.out⟩
              · have f5 : decide ((md : Int) < (en : Int)) = false := decide_eq_false (by omega)
                have HE := Lib.hid (And.intro (Sor.sym_done HH.out HU.out.1 HU.out.2 HRot.out HM1.out ⟨Sor.Off.refl _ _ _, Sor.St.refl _, (by rcases Nat.lt_or_ge md en with d | d; (have d8 : en = b := by have := HH.out.eb; omega); (rw [d8] at HU2; exact HU2.out.1); (have d8 : en = md := by have := HH.out.dm; omega); (rw [d8] at HU2; exact HU2.out.2))⟩ (by rw [HR.out.len]; exact hbn)) HT2.out)
                go_wp2
                all_goals exact bpq ⟨rfl, l2, HE.out⟩
          · by_cases q2 : a < s
            · have f3 : decide ((a : Int) < (s : Int)) = true := decide_eq_true (by omega)
              have f4 : decide ((s : Int) < (md : Int)) = false := decide_eq_false (by omega)
              have HM1 := Lib.hid (show Sor.Mrg kR a md l1 l1 from ⟨Sor.Off.refl _ _ _, Sor.St.refl _, (by rcases Nat.lt_or_ge a s with d | d; (have d8 : s = md := by have := HH.out.sd; omega); (have d9 := HF.out.u1; rw [d8] at d9; exact d9); (have d8 : s = a := by have := HH.out.lo; omega); (have d9 := HF.out.u2; rw [d8] at d9; exact d9))⟩)
              obtain ⟨l2, hl2⟩ : ∃ l2, l1 = l2 := ⟨_, rfl⟩
              have HT2 := Lib.hid HT1.out
              rw [hl2] at HT2
              rw [show Sor.Mrg kR a md l1 l1 = Sor.Mrg kR a md l1 l2 by rw [hl2]] at HM1
              clear hl2
              have HU2 := Lib.hid (And.intro (HF.out.u3.off HM1.out.off (.inr (Nat.le_refl _))) (HF.out.u4.off HM1.out.off (.inr HH.out.dm)))
              by_cases q3 : md < en ∧ en < b
              · have f5 : decide ((md : Int) < (en : Int)) = true := decide_eq_true (by omega)
                have f6 : decide ((en : Int) < (b : Int)) = true := decide_eq_true (by omega)
                go_wp2_with fail
                all_goals
                  refine (IH.out l2 md en b _ HT2.out.row q3.1 q3.2 hbn (by have := HSR.out.2; omega) HU2.out.1 HU2.out.2).mono ?_
                  rintro e w3 ⟨rfl, l3, hM, hT3⟩
                  have HE := Lib.hid (And.intro (Sor.sym_done HH.out HU.out.1 HU.out.2 HRot.out HM1.out hM (by rw [HR.out.len]; exact hbn)) (HT2.out.trans hT3))
                  clear hM hT3
                  go_wp2
                  all_goals exact bpq ⟨rfl, l3, HE.out⟩
              · by_cases q4 : md < en
                · have f5 : decide ((md : Int) < (en : Int)) = true := decide_eq_true (by omega)
                  have f6 : decide ((en : Int) < (b : Int)) = false := decide_eq_false (by omega)
                  have HE := Lib.hid (And.intro (Sor.sym_done HH.out HU.out.1 HU.out.2 HRot.out HM1.out ⟨Sor.Off.refl _ _ _, Sor.St.refl _, (by rcases Nat.lt_or_ge md en with d | d; (have d8 : en = b := by have := HH.out.eb; omega); (rw [d8] at HU2; exact HU2.out.1); (have d8 : en = md := by have := HH.out.dm; omega); (rw [d8] at HU2; exact HU2.out.2))⟩ (by rw [HR.out.len]; exact hbn)) HT2.out)
                  go_wp2
                  all_goals exact bpq ⟨rfl, l2, HE.out⟩
                · have f5 : decide ((md : Int) < (en : Int)) = false := decide_eq_false (by omega)
                  have HE := Lib.hid (And.intro (Sor.sym_done HH.out HU.out.1 HU.out.2 HRot.out HM1.out ⟨Sor.Off.refl _ _ _, Sor.St.refl _, (by rcases Nat.lt_or_ge md en with d | d; (have d8 : en = b := by have := HH.out.eb; omega); (rw [d8] at HU2; exact HU2.out.1); (have d8 : en = md := by have := HH.out.dm; omega); (rw [d8] at HU2; exact HU2.out.2))⟩ (by rw [HR.out.len]; exact hbn)) HT2.out)
                  go_wp2
                  all_goals exact bpq ⟨rfl, l2, HE.out⟩
            · have f3 : decide ((a : Int) < (s : Int)) = false := decide_eq_false (by omega)
              have HM1 := Lib.hid (show Sor.Mrg kR a md l1 l1 from ⟨Sor.Off.refl _ _ _, Sor.St.refl _, (by rcases Nat.lt_or_ge a s with d | d; (have d8 : s = md := by have := HH.out.sd; omega); (have d9 := HF.out.u1; rw [d8] at d9; exact d9); (have d8 : s = a := by have := HH.out.lo; omega); (have d9 := HF.out.u2; rw [d8] at d9; exact d9))⟩)
              obtain ⟨l2, hl2⟩ : ∃ l2, l1 = l2 := ⟨_, rfl⟩
              have HT2 := Lib.hid HT1.out
              rw [hl2] at HT2
              rw [show Sor.Mrg kR a md l1 l1 = Sor.Mrg kR a md l1 l2 by rw [hl2]] at HM1
              clear hl2
              have HU2 := Lib.hid (And.intro (HF.out.u3.off HM1.out.off (.inr (Nat.le_refl _))) (HF.out.u4.off HM1.out.off (.inr HH.out.dm)))
              by_cases q3 : md < en ∧ en < b
              · have f5 : decide ((md : Int) < (en : Int)) = true := decide_eq_true (by omega)
                have f6 : decide ((en : Int) < (b : Int)) = true := decide_eq_true (by omega)
                go_wp2_with fail
                all_goals
                  refine (IH.out l2 md en b _ HT2.out.row q3.1 q3.2 hbn (by have := HSR.out.2; omega) HU2.out.1 HU2.out.2).mono ?_
                  rintro e w3 ⟨rfl, l3, hM, hT3⟩
                  have HE := Lib.hid (And.intro (Sor.sym_done HH.out HU.out.1 HU.out.2 HRot.out HM1.out hM (by rw [HR.out.len]; exact hbn)) (HT2.out.trans hT3))
                  clear hM hT3
                  go_wp2
                  all_goals exact bpq ⟨rfl, l3, HE.out⟩
              · by_cases q4 : md < en
                · have f5 : decide ((md : Int) < (en : Int)) = true := decide_eq_true (by omega)
                  have f6 : decide ((en : Int) < (b : Int)) = false := decide_eq_false (by omega)
                  have HE := Lib.hid (And.intro (Sor.sym_done HH.out HU.out.1 HU.out.2 HRot.out HM1.out ⟨Sor.Off.refl _ _ _, Sor.St.refl _, (by rcases Nat.lt_or_ge md en with d | d; (have d8 : en = b := by have := HH.out.eb; omega); (rw [d8] at HU2; exact HU2.out.1); (have d8 : en = md := by have := HH.out.dm; omega); (rw [d8] at HU2; exact HU2.out.2))⟩ (by rw [HR.out.len]; exact hbn)) HT2.out)
                  go_wp2
                  all_goals exact bpq ⟨rfl, l2, HE.out⟩
                · have f5 : decide ((md : Int) < (en : Int)) = false := decide_eq_false (by omega)
                  have HE := Lib.hid (And.intro (Sor.sym_done HH.out HU.out.1 HU.out.2 HRot.out HM1.out ⟨Sor.Off.refl _ _ _, Sor.St.refl _, (by rcases Nat.lt_or_ge md en with d | d; (have d8 : en = b := by have := HH.out.eb; omega); (rw [d8] at HU2; exact HU2.out.1); (have d8 : en = md := by have := HH.out.dm; omega); (rw [d8] at HU2; exact HU2.out.2))⟩ (by rw [HR.out.len]; exact hbn)) HT2.out)
                  go_wp2
                  all_goals exact bpq ⟨rfl, l2, HE.out⟩
        · by_cases q6 : s < m
          · have f1 : decide ((s : Int) < (m : Int)) = true := decide_eq_true (by omega)
            have f2 : decide ((m : Int) < (en : Int)) = false := decide_eq_false (by omega)
            have HRot := Lib.hid (Sor.Rot.none ls q5 HH.out.sm HH.out.me)
            have HF := Lib.hid (HH.out.four HU.out.1 HU.out.2 HRot.out)
            have HT1 := Lib.hid HT.out
            obtain ⟨l1, hl1⟩ : ∃ l1, ls = l1 := ⟨_, rfl⟩
            rw [show Sor.Rot s m en ls ls = Sor.Rot s m en ls l1 by rw [hl1]] at HRot
            rw [show Sor.Four kR a b md s en ls = Sor.Four kR a b md s en l1 by rw [hl1]] at HF
            rw [show Turn w wr g off n cap ls ls = Turn w wr g off n cap ls l1 by rw [hl1]] at HT1
            clear hl1
            by_cases q1 : a < s ∧ s < md
            · have f3 : decide ((a : Int) < (s : Int)) = true := decide_eq_true (by omega)
              have f4 : decide ((s : Int) < (md : Int)) = true := decide_eq_true (by omega)
              go_wp2_with fail
              refine (IH.out l1 a s md _ HT1.out.row q1.1 q1.2 (by have := HSR.out.2; omega) (by have := HSR.out.2; omega) HF.out.u1 HF.out.u2).mono ?_
              rintro e w2 ⟨rfl, l2, hM, hT2⟩
              have HM1 := Lib.hid hM
              have HT2 := Lib.hid (HT1.out.trans hT2)
              clear hM hT2
              have HU2 := Lib.hid (And.intro (HF.out.u3.off HM1.out.off (.inr (Nat.le_refl _))) (HF.out.u4.off HM1.out.off (.inr HH.out.dm)))
              by_cases q3 : md < en ∧ en < b
              · have f5 : decide ((md : Int) < (en : Int)) = true := decide_eq_true (by omega)
                have f6 : decide ((en : Int) < (b : Int)) = true := decide_eq_true (by omega)
                go_wp2_with fail
                all_goals
                  refine (IH.out l2 md en b _ HT2.out.row q3.1 q3.2 hbn (by have := HSR.out.2; omega) HU2.out.1 HU2.out.2).mono ?_
                  rintro e w3 ⟨rfl, l3, hM, hT3⟩
                  have HE := Lib.hid (And.intro (Sor.sym_done HH.out HU.out.1 HU.out.2 HRot.out HM1.out hM (by rw [HR.out.len]; exact hbn)) (HT2.out.trans hT3))
                  clear hM hT3
                  go_wp2
                  all_goals exact bpq ⟨rfl, l3, HE.out⟩
              · by_cases q4 : md < en
                · have f5 : decide ((md : Int) < (en : Int)) = true := decide_eq_true (by omega)
                  have f6 : decide ((en : Int) < (b : Int)) = false := decide_eq_false (by omega)
                  have HE := Lib.hid (And.intro (Sor.sym_done HH.out HU.out.1 HU.out.2 HRot.out HM1.out ⟨Sor.Off.refl _ _ _, Sor.St.refl _, (by rcases Nat.lt_or_ge md en with d | d; (have d8 : en = b := by have := HH.out.eb; omega); (rw [d8] at HU2; exact HU2.out.1); (have d8 : en = md := by have := HH.out.dm; omega); (rw [d8] at HU2; exact HU2.out.2))⟩ (by rw [HR.out.len]; exact hbn)) HT2.out)
                  go_wp2
                  all_goals exact bpq ⟨rfl, l2, HE.out⟩
                · have f5 : decide ((md : Int) < (en : Int)) = false := decide_eq_false (by omega)
                  have HE := Lib.hid (And.intro (Sor.sym_done HH.out HU.out.1 HU.out.2 HRot.out HM1.out ⟨Sor.Off.refl _ _ _, Sor.St.refl _, (by rcases Nat.lt_or_ge md en with d | d; (have d8 : en = b := by have := HH.out.eb; omega); (rw [d8] at HU2; exact HU2.out.1); (have d8 : en = md := by have := HH.out.dm; omega); (rw [d8] at HU2; exact HU2.out.2))⟩ (by rw [HR.out.len]; exact hbn)) HT2.out)
                  go_wp2
                  all_goals exact bpq ⟨rfl, l2, HE.out⟩
            · by_cases q2 : a < s
              · have f3 : decide ((a : Int) < (s : Int)) = true := decide_eq_true (by omega)
                have f4 : decide ((s : Int) < (md : Int)) = false := decide_eq_false (by omega)
                have HM1 := Lib.hid (show Sor.Mrg kR a md l1 l1 from ⟨Sor.Off.refl _ _ _, Sor.St.refl _, (by rcases Nat.lt_or_ge a s with d | d; (have d8 : s = md := by have := HH.out.sd; omega); (have d9 := HF.out.u1; rw [d8] at d9; exact d9); (have d8 : s = a := by have := HH.out.lo; omega); (have d9 := HF.out.u2; rw [d8] at d9; exact d9))⟩)
                obtain ⟨l2, hl2⟩ : ∃ l2, l1 = l2 := ⟨_, rfl⟩
                have HT2 := Lib.hid HT1.out
                rw [hl2] at HT2
                rw [show Sor.Mrg kR a md l1 l1 = Sor.Mrg kR a md l1 l2 by rw [hl2]] at HM1
                clear hl2
                have HU2 := Lib.hid (And.intro (HF.out.u3.off HM1.out.off (.inr (Nat.le_refl _))) (HF.out.u4.off HM1.out.off (.inr HH.out.dm)))
                by_cases q3 : md < en ∧ en < b
                · have f5 : decide ((md : Int) < (en : Int)) = true := decide_eq_true (by omega)
                  have f6 : decide ((en : Int) < (b : Int)) = true := decide_eq_true (by omega)
                  go_wp2_with fail
                  all_goals
                    refine (IH.out l2 md en b _ HT2.out.row q3.1 q3.2 hbn (by have := HSR.out.2; omega) HU2.out.1 HU2.out.2).mono ?_
                    rintro e w3 ⟨rfl, l3, hM, hT3⟩
                    have HE := Lib.hid (And.intro (Sor.sym_done HH.out HU.out.1 HU.out.2 HRot.out HM1.out hM (by rw [HR.out.len]; exact hbn)) (HT2.out.trans hT3))
                    clear hM hT3
                    go_wp2
                    all_goals exact bpq ⟨rfl, l3, HE.out⟩
                · by_cases q4 : md < en
                  · have f5 : decide ((md : Int) < (en : Int)) = true := decide_eq_true (by omega)
                    have f6 : decide ((en : Int) < (b : Int)) = false := decide_eq_false (by omega)
                    have HE := Lib.hid (And.intro (Sor.sym_done HH.out HU.out.1 HU.out.2 HRot.out HM1.out ⟨Sor.Off.refl _ _ _, Sor.St.refl _, (by rcases Nat.lt_or_ge md en with d | d; (have d8 : en = b := by have := HH.out.eb; omega); (rw [d8] at HU2; exact HU2.out.1); (have d8 : en = md := by have := HH.out.dm; omega); (rw [d8] at HU2; exact HU2.out.2))⟩ (by rw [HR.out.len]; exact hbn)) HT2.out)
                    go_wp2
                    all_goals exact bpq ⟨rfl, l2, HE.out⟩
                  · have f5 : decide ((md : Int) < (en : Int)) = false := decide_eq_false (by omega)
                    have HE := Lib.hid (And.intro (Sor.sym_done HH.out HU.out.1 HU.out.2 HRot.out HM1.out ⟨Sor.Off.refl _ _ _, Sor.St.refl _, (by rcases Nat.lt_or_ge md en with d | d; (have d8 : en = b := by have := HH.out.eb; omega); (rw [d8] at HU2; exact HU2.out.1); (have d8 : en = md := by have := HH.out.dm; omega); (rw [d8] at HU2; exact HU2.out.2))⟩ (by rw [HR.out.len]; exact hbn)) HT2.out)
                    go_wp2
                    all_goals exact bpq ⟨rfl, l2, HE.out⟩
              · have f3 : decide ((a : Int) < (s : Int)) = false := decide_eq_false (by omega)
                have HM1 := Lib.hid (show Sor.Mrg kR a md l1 l1 from ⟨Sor.Off.refl _ _ _, Sor.St.refl _, (by rcases Nat.lt_or_ge a s with d | d; (have d8 : s = md := by have := HH.out.sd; omega); (have d9 := HF.out.u1; rw [d8] at d9; exact d9); (have d8 : s = a := by have := HH.out.lo; omega); (have d9 := HF.out.u2; rw [d8] at d9; exact d9))⟩)
                obtain ⟨l2, hl2⟩ : ∃ l2, l1 = l2 := ⟨_, rfl⟩
                have HT2 := Lib.hid HT1.out
                rw [hl2] at HT2
                rw [show Sor.Mrg kR a md l1 l1 = Sor.Mrg kR a md l1 l2 by rw [hl2]] at HM1
                clear hl2
                have HU2 := Lib.hid (And.intro (HF.out.u3.off HM1.out.off (.inr (Nat.le_refl _))) (HF.out.u4.off HM1.out.off (.inr HH.out.dm)))
                by_cases q3 : md < en ∧ en < b
                · have f5 : decide ((md : Int) < (en : Int)) = true := decide_eq_true (by omega)
                  have f6 : decide ((en : Int) < (b : Int)) = true := decide_eq_true (by omega)
                  go_wp2_with fail
                  all_goals
                    refine (IH.out l2 md en b _ HT2.out.row q3.1 q3.2 hbn (by have := HSR.out.2; omega) HU2.out.1 HU2.out.2).mono ?_
                    rintro e w3 ⟨rfl, l3, hM, hT3⟩
                    have HE := Lib.hid (And.intro (Sor.sym_done HH.out HU.out.1 HU.out.2 HRot.out HM1.out hM (by rw [HR.out.len]; exact hbn)) (HT2.out.trans hT3))
                    clear hM hT3
                    go_wp2
                    all_goals exact bpq ⟨rfl, l3, HE.out⟩
                · by_cases q4 : md < en
                  · have f5 : decide ((md : Int) < (en : Int)) = true := decide_eq_true (by omega)
                    have f6 : decide ((en : Int) < (b : Int)) = false := decide_eq_false (by omega)
                    have HE := Lib.hid (And.intro (Sor.sym_done HH.out HU.out.1 HU.out.2 HRot.out HM1.out ⟨Sor.Off.refl _ _ _, Sor.St.refl _, (by rcases Nat.lt_or_ge md en with d | d; (have d8 : en = b := by have := HH.out.eb; omega); (rw [d8] at HU2; exact HU2.out.1); (have d8 : en = md := by have := HH.out.dm; omega); (rw [d8] at HU2; exact HU2.out.2))⟩ (by rw [HR.out.len]; exact hbn)) HT2.out)
                    go_wp2
                    all_goals exact bpq ⟨rfl, l2, HE.out⟩
                  · have f5 : decide ((md : Int) < (en : Int)) = false := decide_eq_false (by omega)
                    have HE := Lib.hid (And.intro (Sor.sym_done HH.out HU.out.1 HU.out.2 HRot.out HM1.out ⟨Sor.Off.refl _ _ _, Sor.St.refl _, (by rcases Nat.lt_or_ge md en with d | d; (have d8 : en = b := by have := HH.out.eb; omega); (rw [d8] at HU2; exact HU2.out.1); (have d8 : en = md := by have := HH.out.dm; omega); (rw [d8] at HU2; exact HU2.out.2))⟩ (by rw [HR.out.len]; exact hbn)) HT2.out)
                    go_wp2
                    all_goals exact bpq ⟨rfl, l2, HE.out⟩
          · have f1 : decide ((s : Int) < (m : Int)) = false := decide_eq_false (by omega)
            have HRot := Lib.hid (Sor.Rot.none ls q5 HH.out.sm HH.out.me)
            have HF := Lib.hid (HH.out.four HU.out.1 HU.out.2 HRot.out)
            have HT1 := Lib.hid HT.out
            obtain ⟨l1, hl1⟩ : ∃ l1, ls = l1 := ⟨_, rfl⟩
            rw [show Sor.Rot s m en ls ls = Sor.Rot s m en ls l1 by rw [hl1]] at HRot
            rw [show Sor.Four kR a b md s en ls = Sor.Four kR a b md s en l1 by rw [hl1]] at HF
            rw [show Turn w wr g off n cap ls ls = Turn w wr g off n cap ls l1 by rw [hl1]] at HT1
            clear hl1
            by_cases q1 : a < s ∧ s < md
            · have f3 : decide ((a : Int) < (s : Int)) = true := decide_eq_true (by omega)
              have f4 : decide ((s : Int) < (md : Int)) = true := decide_eq_true (by omega)
              go_wp2_with fail
              refine (IH.out l1 a s md _ HT1.out.row q1.1 q1.2 (by have := HSR.out.2; omega) (by have := HSR.out.2; omega) HF.out.u1 HF.out.u2).mono ?_
              rintro e w2 ⟨rfl, l2, hM, hT2⟩
              have HM1 := Lib.hid hM
              have HT2 := Lib.hid (HT1.out.trans hT2)
              clear hM hT2
              have HU2 := Lib.hid (And.intro (HF.out.u3.off HM1.out.off (.inr (Nat.le_refl _))) (HF.out.u4.off HM1.out.off (.inr HH.out.dm)))
              by_cases q3 : md < en ∧ en < b
              · have f5 : decide ((md : Int) < (en : Int)) = true := decide_eq_true (by omega)
                have f6 : decide ((en : Int) < (b : Int)) = true := decide_eq_true (by omega)
                go_wp2_with fail
                all_goals
                  refine (IH.out l2 md en b _ HT2.out.row q3.1 q3.2 hbn (by have := HSR.out.2; omega) HU2.out.1 HU2.out.2).mono ?_
                  rintro e w3 ⟨rfl, l3, hM, hT3⟩
                  have HE := Lib.hid (And.intro (Sor.sym_done HH.out HU.out.1 HU.out.2 HRot.out HM1.out hM (by rw [HR.out.len]; exact hbn)) (HT2.out.trans hT3))
                  clear hM hT3
                  go_wp2
                  all_goals exact bpq ⟨rfl, l3, HE.out⟩
              · by_cases q4 : md < en
                · have f5 : decide ((md : Int) < (en : Int)) = true := decide_eq_true (by omega)
                  have f6 : decide ((en : Int) < (b : Int)) = false := decide_eq_false (by omega)
                  have HE := Lib.hid (And.intro (Sor.sym_done HH.out HU.out.1 HU.out.2 HRot.out HM1.out ⟨Sor.Off.refl _ _ _, Sor.St.refl _, (by rcases Nat.lt_or_ge md en with d | d; (have d8 : en = b := by have := HH.out.eb; omega); (rw [d8] at HU2; exact HU2.out.1); (have d8 : en = md := by have := HH.out.dm; omega); (rw [d8] at HU2; exact HU2.out.2))⟩ (by rw [HR.out.len]; exact hbn)) HT2.out)
                  go_wp2
                  all_goals exact bpq ⟨rfl, l2, HE.out⟩
                · have f5 : decide ((md : Int) < (en : Int)) = false := decide_eq_false (by omega)
                  have HE := Lib.hid (And.intro (Sor.sym_done HH.out HU.out.1 HU.out.2 HRot.out HM1.out ⟨Sor.Off.refl _ _ _, Sor.St.refl _, (by rcases Nat.lt_or_ge md en with d | d; (have d8 : en = b := by have := HH.out.eb; omega); (rw [d8] at HU2; exact HU2.out.1); (have d8 : en = md := by have := HH.out.dm; omega); (rw [d8] at HU2; exact HU2.out.2))⟩ (by rw [HR.out.len]; exact hbn)) HT2.out)
                  go_wp2
                  all_goals exact bpq ⟨rfl, l2, HE.out⟩
            · by_cases q2 : a < s
              · have f3 : decide ((a : Int) < (s : Int)) = true := decide_eq_true (by omega)
                have f4 : decide ((s : Int) < (md : Int)) = false := decide_eq_false (by omega)
                have HM1 := Lib.hid (show Sor.Mrg kR a md l1 l1 from ⟨Sor.Off.refl _ _ _, Sor.St.refl _, (by rcases Nat.lt_or_ge a s with d | d; (have d8 : s = md := by have := HH.out.sd; omega); (have d9 := HF.out.u1; rw [d8] at d9; exact d9); (have d8 : s = a := by have := HH.out.lo; omega); (have d9 := HF.out.u2; rw [d8] at d9; exact d9))⟩)
                obtain ⟨l2, hl2⟩ : ∃ l2, l1 = l2 := ⟨_, rfl⟩
                have HT2 := Lib.hid HT1.out
                rw [hl2] at HT2
                rw [show Sor.Mrg kR a md l1 l1 = Sor.Mrg kR a md l1 l2 by rw [hl2]] at HM1
                clear hl2
                have HU2 := Lib.hid (And.intro (HF.out.u3.off HM1.out.off (.inr (Nat.le_refl _))) (HF.out.u4.off HM1.out.off (.inr HH.out.dm)))
                by_cases q3 : md < en ∧ en < b
                · have f5 : decide ((md : Int) < (en : Int)) = true := decide_eq_true (by omega)
                  have f6 : decide ((en : Int) < (b : Int)) = true := decide_eq_true (by omega)
                  go_wp2_with fail
                  all_goals
                    refine (IH.out l2 md en b _ HT2.out.row q3.1 q3.2 hbn (by have := HSR.out.2; omega) HU2.out.1 HU2.out.2).mono ?_
                    rintro e w3 ⟨rfl, l3, hM, hT3⟩
                    have HE := Lib.hid (And.intro (Sor.sym_done HH.out HU.out.1 HU.out.2 HRot.out HM1.out hM (by rw [HR.out.len]; exact hbn)) (HT2.out.trans hT3))
                    clear hM hT3
                    go_wp2
                    all_goals exact bpq ⟨rfl, l3, HE.out⟩
                · by_cases q4 : md < en
                  · have f5 : decide ((md : Int) < (en : Int)) = true := decide_eq_true (by omega)
                    have f6 : decide ((en : Int) < (b : Int)) = false := decide_eq_false (by omega)
                    have HE := Lib.hid (And.intro (Sor.sym_done HH.out HU.out.1 HU.out.2 HRot.out HM1.out ⟨Sor.Off.refl _ _ _, Sor.St.refl _, (by rcases Nat.lt_or_ge md en with d | d; (have d8 : en = b := by have := HH.out.eb; omega); (rw [d8] at HU2; exact HU2.out.1); (have d8 : en = md := by have := HH.out.dm; omega); (rw [d8] at HU2; exact HU2.out.2))⟩ (by rw [HR.out.len]; exact hbn)) HT2.out)
                    go_wp2
                    all_goals exact bpq ⟨rfl, l2, HE.out⟩
                  · have f5 : decide ((md : Int) < (en : Int)) = false := decide_eq_false (by omega)
                    have HE := Lib.hid (And.intro (Sor.sym_done HH.out HU.out.1 HU.out.2 HRot.out HM1.out ⟨Sor.Off.refl _ _ _, Sor.St.refl _, (by rcases Nat.lt_or_ge md en with d | d; (have d8 : en = b := by have := HH.out.eb; omega); (rw [d8] at HU2; exact HU2.out.1); (have d8 : en = md := by have := HH.out.dm; omega); (rw [d8] at HU2; exact HU2.out.2))⟩ (by rw [HR.out.len]; exact hbn)) HT2.out)
                    go_wp2
                    all_goals exact bpq ⟨rfl, l2, HE.out⟩
              · have f3 : decide ((a : Int) < (s : Int)) = false := decide_eq_false (by omega)
                have HM1 := Lib.hid (show Sor.Mrg kR a md l1 l1 from ⟨Sor.Off.refl _ _ _, Sor.St.refl _, (by rcases Nat.lt_or_ge a s with d | d; (have d8 : s = md := by have := HH.out.sd; omega); (have d9 := HF.out.u1; rw [d8] at d9; exact d9); (have d8 : s = a := by have := HH.out.lo; omega); (have d9 := HF.out.u2; rw [d8] at d9; exact d9))⟩)
                obtain ⟨l2, hl2⟩ : ∃ l2, l1 = l2 := ⟨_, rfl⟩
                have HT2 := Lib.hid HT1.out
                rw [hl2] at HT2
                rw [show Sor.Mrg kR a md l1 l1 = Sor.Mrg kR a md l1 l2 by rw [hl2]] at HM1
                clear hl2
                have HU2 := Lib.hid (And.intro (HF.out.u3.off HM1.out.off (.inr (Nat.le_refl _))) (HF.out.u4.off HM1.out.off (.inr HH.out.dm)))
                by_cases q3 : md < en ∧ en < b
                · have f5 : decide ((md : Int) < (en : Int)) = true := decide_eq_true (by omega)
                  have f6 : decide ((en : Int) < (b : Int)) = true := decide_eq_true (by omega)
                  go_wp2_with fail
                  all_goals
                    refine (IH.out l2 md en b _ HT2.out.row q3.1 q3.2 hbn (by have := HSR.out.2; omega) HU2.out.1 HU2.out.2).mono ?_
                    rintro e w3 ⟨rfl, l3, hM, hT3⟩
                    have HE := Lib.hid (And.intro (Sor.sym_done HH.out HU.out.1 HU.out.2 HRot.out HM1.out hM (by rw [HR.out.len]; exact hbn)) (HT2.out.trans hT3))
                    clear hM hT3
                    go_wp2
                    all_goals exact bpq ⟨rfl, l3, HE.out⟩
                · by_cases q4 : md < en
                  · have f5 : decide ((md : Int) < (en : Int)) = true := decide_eq_true (by omega)
                    have f6 : decide ((en : Int) < (b : Int)) = false := decide_eq_false (by omega)
                    have HE := Lib.hid (And.intro (Sor.sym_done HH.out HU.out.1 HU.out.2 HRot.out HM1.out ⟨Sor.Off.refl _ _ _, Sor.St.refl _, (by rcases Nat.lt_or_ge md en with d | d; (have d8 : en = b := by have := HH.out.eb; omega); (rw [d8] at HU2; exact HU2.out.1); (have d8 : en = md := by have := HH.out.dm; omega); (rw [d8] at HU2; exact HU2.out.2))⟩ (by rw [HR.out.len]; exact hbn)) HT2.out)
                    go_wp2
                    all_goals exact bpq ⟨rfl, l2, HE.out⟩
                  · have f5 : decide ((md : Int) < (en : Int)) = false := decide_eq_false (by omega)
                    have HE := Lib.hid (And.intro (Sor.sym_done HH.out HU.out.1 HU.out.2 HRot.out HM1.out ⟨Sor.Off.refl _ _ _, Sor.St.refl _, (by rcases Nat.lt_or_ge md en with d | d; (have d8 : en = b := by have := HH.out.eb; omega); (rw [d8] at HU2; exact HU2.out.1); (have d8 : en = md := by have := HH.out.dm; omega); (rw [d8] at HU2; exact HU2.out.2))⟩ (by rw [HR.out.len]; exact hbn)) HT2.out)
                    go_wp2
                    all_goals exact bpq ⟨rfl, l2, HE.out⟩

theorem symOk (g off n cap : Nat) (hn : n ≤ 900000) : ∀ N, SymOk g off n cap N
  | 0 => fun ls a m b w h h1 h2 h3 h4 => by omega
  | N + 1 => fun ls a m b w h h1 h2 h3 h4 h5 h6 => by
    by_cases e1 : m - a = 1
    · exact symOne_any g off n cap ls a m b w h h1 h2 h3 hn h5 h6 e1
    · by_cases e2 : b - m = 1
      · exact symLast_any g off n cap ls a m b w h h1 h2 h3 hn h5 h6 e1 e2
      · exact symMany_any g off n cap N (symOk g off n cap hn N) ls a m b w h h1 h2 h3 h4 hn h5 h6 e1 e2
theorem symMerge_any (g off n cap : Nat) (ls : List KV) (a m b : Nat) (w : World) (h : RowW w g off n cap ls) (ham : a < m) (hmb : m < b) (hbn : b ≤ n) (hn : n ≤ 900000) (hux : Sor.UpIn kR ls a m) (huy : Sor.UpIn kR ls m b) :
    Calls Try.prog 111 #[.slice (some ⟨g, off, none⟩) n cap, .int .i64 (a : Int), .int .i64 (m : Int), .int .i64 (b : Int), (.func (.func 95) #[] #[])] w fun e w' => e = .returned (.tuple #[]) ∧ ∃ ls', Sor.Mrg kR a b ls ls' ∧ Turn w w' g off n cap ls ls' :=
  symOk g off n cap hn (b - a) ls a m b w h ham hmb hbn (Nat.le_refl _) hux huy

end Go.Proofs.Ytcoddkbbgmjckaa
