/- WalFrames' walk. -/
import Derived.Test.YtnkfdnehkihbeaaWalScans
import Derived.Test.YtnkfdnehkihbeaaWalQuiet
import Derived.Test.YtnkfdnehkihbeaaWalProgD
import Derived.BigQuiet
import Derived.Deep.RegionWith
import Derived.Deep.QuietTactic
import Derived.Deep.Cut
import Derived.Deep.DeepCutAuto
namespace Go.Proofs.Ytnkfdnehkihbeaa.walFrames
open Go.ChangeShapes Go.WideShapes Go.ChangeAt Go.RowKit Go.Proofs.Ytnkfdnehkihbeaa
set_option linter.unusedVariables false
set_option linter.unusedSimpArgs false

set_option maxRecDepth 100000 in
set_option maxHeartbeats 1600000 in
theorem walk_long (A : Option Addr) (len cap : Nat) (l : List UInt8) (z : Int) (w : World) (h : Lies w A len cap l) (hm : cap ≤ maxLen) (h6 : 60000 < len) :
    Calls Try.prog 3 #[.slice A len cap, .int .u16 z] w fun e w' => e = .returned (.bool true) ∧ Below w.heap.size w w' := by
  have h6' : (60000 : Int) < (len : Int) := by omega
  have hF := fun w1 (hb : Below w.heap.size w w1) => frame_long A len cap l w1 (h.below hb (Nat.le_refl _)) hm h6
  clear h hm h6
  go_enter Try.func3, Try.ntmps3
  go_wp2_with fail
  refine (awake_any _).mono ?_
  rintro e w1 ⟨rfl, hb1⟩
  have hF1 := hF w1 hb1
  clear hF
  go_wp2_with fail
  refine hF1.mono ?_
  rintro e w2 ⟨rfl, hb2⟩
  clear hF1
  go_wp2
  go_ret
  exact ⟨rfl, hb1.trans (hb2.mono hb1.size)⟩

set_option maxRecDepth 100000 in
set_option maxHeartbeats 3200000 in
theorem walk_short (A : Option Addr) (len cap : Nat) (l : List UInt8) (m : Nat) (w : World) (h : Lies w A len cap l) (hm : cap ≤ maxLen) (h6 : len ≤ 60000) (hm16 : m ≤ 65535) :
    Calls Try.prog 3 #[.slice A len cap, .int .u16 (m : Int)] w fun e w' => e = .returned (.bool true) ∧ Below w.heap.size w w' := by
  have hll := h.1
  have h6' : ((60000 : Int) < (len : Int)) = False := eq_false (by omega)
  have hF := fun w1 (hb : Below w.heap.size w w1) => frame_any A len cap l w1 (h.below hb (Nat.le_refl _)) hm h6
  rw [hll] at hF
  obtain ⟨k, hk⟩ := Int.eq_ofNat_of_zero_le (show 0 ≤ (m : Int) % ((len : Int) + 8) from Int.emod_nonneg _ (by omega))
  have hkl : k < len + 8 := by have := Int.emod_lt_of_pos (m : Int) (show (0 : Int) < (len : Int) + 8 by omega); omega
  have hk' : (m : Int) % ((len : Int) + 8) = (k : Int) := hk
  clear hk hm
  obtain ⟨s, es, bs, ss⟩ := btl_of l
  obtain ⟨T, hT, hRF⟩ := frameR_one s (by omega)
  rw [bs] at hT
  have hsT : T.size = len + 8 := by rw [← btl_size, hT, frameL_length, hll]
  obtain ⟨P, eP, bP, sP⟩ := btl_of ((frameL l).take k)
  have hPl : ((frameL l).take k).length = k := by rw [List.length_take, frameL_length, hll]; omega
  rw [hPl] at sP
  have hcut : scanL ((frameL l).take k) = ([], 0) := scanL_none (scan1_cut l k (by rw [hll]; exact hkl) (by omega))
  have hRP := fun w1 => scanR_any P (by omega) w1
  unfold Scans at hRP
  rw [bP, hcut] at hRP
  have hone : scanL (frameL l) = ([l], len + 8) := by
    have := scanL_all [l] (fun r hr => by rw [List.mem_singleton.1 hr]; omega)
    have e : framesL [l] = frameL l := by simp [framesL]
    rw [e, frameL_length, hll] at this
    exact this
  have hcb : ∀ W, Below w.heap.size w W → (convert 22 9 (.slice A len cap)).run Try.prog W = .ok (.string s) W := fun W hb => es ▸ (h.below hb (Nat.le_refl _)).text Try.underlying22 Try.underlying5 Try.underlying9
  have eT : (⟨(frameL l).toArray⟩ : ByteArray) = T := by rw [← hT]
  go_enter Try.func3, Try.ntmps3
  go_wp2_with fail
  refine (awake_any _).mono ?_
  rintro e w1 ⟨rfl, hb1⟩
  have hF1 := hF w1 hb1
  clear hF
  go_wp2_with fail
  refine hF1.mono ?_
  rintro e w2 ⟨A1, cap1, rfl, ho2, hb2⟩
  have hl2 := frame_lies ho2
  have hbw2 : Below w.heap.size w w2 := hb1.trans (hb2.mono hb1.size)
  have hc1 : len + 8 ≤ cap1 := hl2.2.1
  have hcf : ∀ W, Below w2.heap.size w2 W → (convert 22 9 (.slice A1 (len + 8) cap1)).run Try.prog W = .ok (.string T) W := fun W hb => eT ▸ (hl2.below hb (Nat.le_refl _)).text Try.underlying22 Try.underlying5 Try.underlying9
  have hcb2 : ∀ W, Below w2.heap.size w2 W → (convert 22 9 (.slice A len cap)).run Try.prog W = .ok (.string s) W := fun W hb => hcb W (hbw2.trans (hb.mono hbw2.size))
  have hS2 := fun W (hb : Below w2.heap.size w2 W) => scan_any A1 (len + 8) cap1 _ W (hl2.below hb (Nat.le_refl _)) (by omega)
  have hS3 := fun W (hb : Below w2.heap.size w2 W) => scan_any A1 k cap1 _ W ((hl2.below hb (Nat.le_refl _)).take k (by omega)) (by omega)
  unfold ScanP at hS2 hS3
  rw [hone] at hS2
  rw [hcut] at hS3
  have hcP : ∀ W, Below w2.heap.size w2 W → (convert 22 9 (.slice A1 k cap1)).run Try.prog W = .ok (.string P) W := fun W hb => eP ▸ ((hl2.below hb (Nat.le_refl _)).take k (by omega)).text Try.underlying22 Try.underlying5 Try.underlying9
  have hsl := fun W => run_frontk (P := Try.prog) Try.underlying22 sizeOf_u8 .i64 A1 (len + 8) cap1 k (by omega) W
  dsimp only at hS2 hS3
  have es2 := Lib.hid es
  have HLL := Lib.hid hll
  clear hF1 hb1 hb2 ho2 hcb hone hcut hPl h hl2 hkl hc1 es eT eP bs bP hT hll
  go_upto_region 6 with fail
  go_cut [39] (fun v wx => v = .bool false ∧ Below w2.heap.size w2 wx)
  case first =>
    have c1 := hcf w2 (Below.refl _ _)
    have c2 := hcb2 w2 (Below.refl _ _)
    have c3 := hcf w2.drew (Below.refl _ _).drew
    have c4 := hcb2 w2.drew (Below.refl _ _).drew
    go_region_with (go_at_call 11
                    refine (hRF _).mono ?_
                    rintro e w3 ⟨rfl, hb3⟩
                    have hb3' : Below w2.heap.size w2 w3 := Below.trans (by first | exact Below.refl _ _ | exact (Below.refl _ _).drew) (hb3.mono (by simp))
                    have c5 := hcf w3 hb3')
    all_goals
      go_wp2_with fail
      go_meet
      first | exact ⟨rfl, hb3'⟩ | exact ⟨rfl, hb3'.drew⟩
  case rest =>
    obtain ⟨rfl, hb3⟩ := hcut
    have hS := hS2 wc hb3
    clear hS2 hRF hsT
    go_wp2_with fail
    refine hS.mono ?_
    rintro e w4 ⟨A4, cap4, rfl, hr4, hb4⟩
    have hb24 : Below w2.heap.size w2 w4 := hb3.trans (hb4.mono hb3.size)
    have hS := hS3 w4 hb24
    clear hS3 hb4 hb3
    go_wp2_with fail
    refine hS.mono ?_
    rintro e w5 ⟨A5, cap5, rfl, hr5, hb5⟩
    have hb25 : Below w2.heap.size w2 w5 := hb24.trans (hb5.mono hb24.size)
    have hr45 := hr4.below hb5 (Nat.le_refl _)
    have c5 := hcP w5 hb25
    clear hS hr4 hb24 hcP
    go_wp2_with fail
    refine (hRP w5).mono ?_
    rintro e w6 ⟨v6, ts, rfl, ho6, hts, hb6⟩
    obtain rfl : ts = [] := by
      cases ts with
      | nil => rfl
      | cons a t => cases hts
    have hb26 : Below w2.heap.size w2 w6 := hb25.trans (hb6.mono hb25.size)
    have hr46 := hr45.below hb6 (by have := hb5.size; exact Nat.le_refl _)
    have hr56 := hr5.below hb6 (Nat.le_refl _)
    obtain ⟨A6, cap6, rfl, hst6⟩ := walScans.texts_of (ts := []) ho6
    obtain ⟨g, off, E, c, rfl, hg, _, hcell, _, hlE⟩ := hr46.at_ 0 (Nat.lt_of_lt_of_le (Nat.zero_lt_one) (Nat.le_refl _))
    change w6.cell? ⟨g, off, none⟩ = some (.slice E l.length c) at hcell
    change Lies w6 E l.length c l at hlE
    have hcE : ∀ n, (convert 22 9 (.slice E l.length c)).run Try.prog (w6.drewN n) = .ok (.string s) (w6.drewN n) := fun n => (show (⟨l.toArray⟩ : ByteArray) = s from es2) ▸ (hlE.below (below_drewN (Below.refl w6.heap.size w6) n) (Nat.le_refl _)).text Try.underlying22 Try.underlying5 Try.underlying9
    have hcB : ∀ n, (convert 22 9 (.slice A len cap)).run Try.prog (w6.drewN n) = .ok (.string s) (w6.drewN n) := fun n => hcb2 _ (below_drewN hb26 n)
    have hAl : ∀ n, Calls Try.prog 14 #[.slice A5 0 cap5, .slice A6 0 cap6] (w6.drewN n) fun e w' => e = .returned (.bool true) ∧ ∃ q, w' = (w6.drewN n).drewN q := fun n => by
      have := alike_quiet _ A5 0 cap5 [] A6 0 cap6 [] (w6.drewN n) (hr56.below (below_drewN (Below.refl w6.heap.size w6) n) (Nat.le_refl _)) (hst6.below (below_drewN (Below.refl w6.heap.size w6) n)) rfl (by unfold maxLen; omega)
      rwa [decide_eq_true rfl] at this
    have hlow : Below w.heap.size w w6 := hbw2.trans (hb26.mono hbw2.size)
    have hll2 : l.length = len := HLL
    rw [hll2] at hcell hcE
    clear hll2
    clear hr46 hr56 hr45 hr5 hst6 ho6 hts hlE hb6 hb5 hb26 hb25 hcb2 hcf c5 hsl hRP hg
    by_cases h8 : 8 < k
    · have h8' : (8 : Int) < (k : Int) := by omega
      clear h8
      go_wp2
      go_quiet ((go_at_call 14; exact Calls.quiet_of (hAl _)))
      go_wp2
      go_ret
      exact ⟨rfl, below_drewN hlow _⟩
    · have h8' : ((8 : Int) < (k : Int)) = False := eq_false (by omega)
      have h8d : decide ((8 : Int) < (k : Int)) = false := decide_eq_false (by omega)
      clear h8
      go_wp2
      go_quiet ((go_at_call 14; exact Calls.quiet_of (hAl _)))
      go_wp2
      go_ret
      exact ⟨rfl, below_drewN hlow _⟩

theorem walk (A : Option Addr) (len cap : Nat) (l : List UInt8) (z : Int) (w : World) (h : Lies w A len cap l) (hm : cap ≤ maxLen) (hz : (Lit.int .u16 z).wf = true) :
    Calls Try.prog 3 #[.slice A len cap, .int .u16 z] w fun e w' => e = .returned (.bool true) ∧ Below w.heap.size w w' := by
  have r : 0 ≤ z ∧ z ≤ 65535 := by simpa [Lit.wf, IntKind.min, IntKind.max, IntKind.bits, IntKind.signed] using hz
  obtain ⟨m, rfl⟩ := Int.eq_ofNat_of_zero_le r.1
  by_cases h6 : 60000 < len
  · exact walk_long A len cap l _ w h hm h6
  · exact walk_short A len cap l m w h hm (by omega) (by omega)

end Go.Proofs.Ytnkfdnehkihbeaa.walFrames
