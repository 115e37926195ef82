/- OctetsTakes: from any bytes whatever is asked for is what the document says, or it is bad, and nothing is left. For every input. -/
import Derived.Test.YtjmcbnoofonanaaOctAwake
import Derived.Test.YtjmcbnoofonanaaOctAlike
import Derived.Test.YtjmcbnoofonanaaOctArgs
import Derived.Test.YtjmcbnoofonanaaLawEnd
import Derived.Test.YtjmcbnoofonanaaArgs
import Derived.ChangeMaps5
import Derived.Deep.LoopGhost
import Derived.Deep.RegionHeld3
import Derived.BigQuiet
import Derived.Deep.Cut
import Derived.Deep.DeepCutAuto
import Derived.SizedLaws
namespace Go.Proofs.Ytjmcbnoofonanaa.octetsTakes
open Go.ChangeShapes Go.WideShapes Go.ChangeAt Go.RowKit Go.Proofs.Ytjmcbnoofonanaa
set_option linter.unusedVariables false
set_option linter.unusedSimpArgs false

set_option maxRecDepth 100000 in
set_option maxHeartbeats 6400000 in
theorem walk (A0 : Option Addr) (len0 cap0 : Nat) (L : List UInt8) (A1 : Option Addr) (len1 cap1 : Nat) (K M : Nat → Int) (w : World) (hb : Lies w A0 len0 cap0 L) (hm0 : cap0 ≤ maxLen) (h1 : Takes w A1 len1 K M) (hlc : len1 ≤ cap1) (hm1 : cap1 ≤ maxLen) (hbig : len0 ≤ 140737488355328) :
    Calls Try.prog 4 #[.slice A0 len0 cap0, .slice A1 len1 cap1] w fun e w' => e = .returned (.bool true) ∧ Below w.heap.size w w' := by
  clear hm0 hm1
  obtain rfl : L.length = len0 := hb.1
  by_cases hl : len1 ≤ 100
  · have hl' : ¬ ((100 : Int) < (len1 : Int)) := by omega
    have lb : (len1 : Int) ≤ 100 := by omega
    obtain ⟨hwf, h1⟩ := h1
    go_enter Try.func4, Try.ntmps4
    go_wp2_with (first
      | (go_at_call 8; refine (awake_any _).mono ?_; rintro e w1 ⟨rfl, hb1⟩)
      | (go_at_call 12; refine (newIn_any _ _ cap0 L _ (· < w.heap.size) (fun k hk => Nat.lt_of_lt_of_le hk hb1.size) (hb.below hb1 (Nat.le_refl _)) hbig).mono ?_; rintro e w2 ⟨i, rfl, h2, hb2⟩))
    have hb02 : Below w.heap.size w w2 := hb1.trans (hb2.mono hb1.size)
    have hbX := hb02.alloc hb02.size (.cells #[.slice A0 L.length cap0, .bool false] 40)
    have hiX := (h2.out (Z' := fun q => q < w.heap.size ∨ q = w2.heap.size) (fun q hq => hq.imp id (fun e => Nat.le_of_eq e.symm))).below ((Below.refl w2.heap.size w2).alloc (Nat.le_refl _) (.cells #[.slice A0 L.length cap0, .bool false] 40)) (Nat.le_refl _)
    have hwX : (w2.alloc (.cells #[.slice A0 L.length cap0, .bool false] 40)).heap[w2.heap.size]? = some (.cells #[.slice A0 L.length cap0, .bool false] 40) := heap_alloc_new _ _
    have hqw := hb02.size
    generalize (w2.alloc (.cells #[.slice A0 L.length cap0, .bool false] 40)) = X at hbX hiX hwX ⊢
    generalize w2.heap.size = qw at hqw hiX hwX ⊢
    clear hb1 hb2 hb02 h2
    have hr0 : RLies w A0 cap0 (some L) := hb
    go_loopg [24] len1 (fun g x wr => ∃ (j : Nat) (s : St) (A : Option Addr) (cap : Nat), x = .int .i64 (j : Int) ∧ j + g = len1 ∧ In wr i s (fun q => q < w.heap.size ∨ q = qw) ∧ wr.heap[qw]? = some (.cells #[.slice A (left s) cap, .bool s.isNone] 40) ∧ RLies w A cap s ∧ left s ≤ 140737488355328 ∧ Below w.heap.size w wr)
    case atStart => exact ⟨0, some L, A0, cap0, rfl, by omega, hiX, hwX, hr0, hbig, hbX⟩
    case round =>
      clear hiX hwX hr0 hbX hb
      obtain ⟨j, s, A, cap, rfl, hj, hi, hw, hr, hL, hbr⟩ := hrel
      by_cases hlt' : j < len1
      · have hlt2 : (j : Int) < (len1 : Int) := by omega
        obtain ⟨b, off, rfl, hbl, hc⟩ := h1 (by omega)
        obtain ⟨c0, c1⟩ := hc j hlt'
        have hm := hwf j hlt'
        have f0 : wr.cell? ⟨b, off + j * 2, none⟩ = some (.int .u8 (K j)) := (hbr.cell (p := ⟨b, off + j * 2, none⟩) hbl).trans c0
        have f1 : wr.cell? ⟨b, off + j * 2 + 1, none⟩ = some (.int .i64 (M j)) := (hbr.cell (p := ⟨b, off + j * 2 + 1, none⟩) hbl).trans c1
        have g0 : wr.cell? ⟨qw, 0, none⟩ = some (.slice A (left s) cap) := by simp [World.cell?, hw]
        have g1 : wr.cell? ⟨qw, 1, none⟩ = some (.bool s.isNone) := by simp [World.cell?, hw]
        have hA := fun W Z h1 h2 hZ => alike_any A cap s W i Z (K j) (M j) h1 h2 hZ hL hm
        have hL2 := left_next (K j) (M j) s hL
        clear h1 hc hwf
        generalize nextOf (K j) (M j) s = s' at hA hL2
        generalize K j = kk at *
        generalize M j = mm at *
        go_upto_region 8 with fail
        go_cut [8, 9] (fun p ok wx => ∃ (nx : Nat) (A' : Option Addr) (cap' : Nat), p = .pointer (some ⟨nx, 0, none⟩) ∧ ok = .bool true ∧ w.heap.size ≤ nx ∧ nx ≠ qw ∧ wx.heap[nx]? = some (.cells #[.slice A' (left s') cap', .bool s'.isNone] 40) ∧ wx.heap[qw]? = some (.cells #[.slice A (left s) cap, .bool s.isNone] 40) ∧ In wx i s' (fun q => q < w.heap.size ∨ q = qw ∨ q = nx) ∧ RLies w A' cap' s' ∧ Below w.heap.size w wx)
        case first =>
          have hqwl := hlt hw
          have hbw : b < wr.heap.size := Nat.lt_of_lt_of_le hbl hbr.size
          go_region_with (first
            | (go_at_call 13
               refine (hA _ (fun q => q < w.heap.size ∨ q = qw) (hi.below ((Below.refl wr.heap.size wr).drew) (Nat.le_refl _)) (hr.below hbr.drew (Nat.le_refl _)) (fun q hq => hq.elim (fun h => Nat.lt_of_lt_of_le h hbr.size) (fun h => h ▸ hqwl))).mono ?_
               rintro e w7 ⟨A', cap', rfl, hr7, h7, k7⟩
               have p0 : w7.cell? ⟨qw, 0, none⟩ = some (.slice A (left s) cap) := k7.cell (w := wr.drew) g0 (.inr rfl)
               have p1 : w7.cell? ⟨qw, 1, none⟩ = some (.bool s.isNone) := k7.cell (w := wr.drew) g1 (.inr rfl)
               have p2 : w7.cell? ⟨b, off + j * 2, none⟩ = some (.int .u8 kk) := k7.cell (w := wr.drew) f0 (.inl hbl)
               have p3 : w7.cell? ⟨b, off + j * 2 + 1, none⟩ = some (.int .i64 mm) := k7.cell (w := wr.drew) f1 (.inl hbl)
               have hqw7 : w7.heap[qw]? = some (.cells #[.slice A (left s) cap, .bool s.isNone] 40) := (k7.block qw hqwl (.inr rfl)).trans hw
               have hb7 := below_keeps hbr.drew k7 (fun q hq => .inl hq) hbr.size
               have hsz7 := hb7.size)
            | (go_at_call 13
               refine (hA _ (fun q => q < w.heap.size ∨ q = qw ∨ q = wr.heap.size) ((hi.out (fun q hq => by rcases hq with h | h | h; exact .inl (.inl h); exact .inl (.inr h); exact .inr (Nat.le_of_eq h.symm))).below (((Below.refl wr.heap.size wr).alloc (Nat.le_refl _) (.cells #[.slice none 0 0, .bool false] 40)).drew) (Nat.le_refl _)) (hr.below (hbr.alloc hbr.size _).drew (Nat.le_refl _)) (fun q hq => by show q < (wr.alloc _).heap.size; rw [World.size_alloc]; have := hbr.size; rcases hq with h | h | h <;> omega)).mono ?_
               rintro e w7 ⟨A', cap', rfl, hr7, h7, k7⟩
               have hnw : w7.heap[wr.heap.size]? = some (.cells #[.slice none 0 0, .bool false] 40) := (k7.block wr.heap.size (by show wr.heap.size < (wr.alloc _).heap.size; rw [World.size_alloc]; omega) (.inr (.inr rfl))).trans (heap_alloc_new wr _)
               have hqw7 : w7.heap[qw]? = some (.cells #[.slice A (left s) cap, .bool s.isNone] 40) := (k7.block qw (by show qw < (wr.alloc _).heap.size; rw [World.size_alloc]; omega) (.inr (.inl rfl))).trans ((Below.heap_alloc wr _ _ hqwl).trans hw)
               have hb7 : Below w.heap.size w w7 := below_keeps (hbr.alloc hbr.size _).drew k7 (fun q hq => .inl hq) (by show w.heap.size ≤ (wr.alloc _).heap.size; rw [World.size_alloc]; have := hbr.size; omega)
               have p0 : w7.cell? ⟨qw, 0, none⟩ = some (.slice A (left s) cap) := by simp [World.cell?, hqw7]
               have p1 : w7.cell? ⟨qw, 1, none⟩ = some (.bool s.isNone) := by simp [World.cell?, hqw7]
               have p2 : w7.cell? ⟨b, off + j * 2, none⟩ = some (.int .u8 kk) := (hb7.cell (p := ⟨b, off + j * 2, none⟩) hbl).trans ((hbr.cell (p := ⟨b, off + j * 2, none⟩) hbl).symm.trans f0)
               have p3 : w7.cell? ⟨b, off + j * 2 + 1, none⟩ = some (.int .i64 mm) := (hb7.cell (p := ⟨b, off + j * 2 + 1, none⟩) hbl).trans ((hbr.cell (p := ⟨b, off + j * 2 + 1, none⟩) hbl).symm.trans f1)
               have o0 : w7.cell? ⟨wr.heap.size, 0, none⟩ = some (.slice none 0 0) := by simp [World.cell?, hnw]
               have o1 : w7.cell? ⟨wr.heap.size, 1, none⟩ = some (.bool false) := by simp [World.cell?, hnw]
               have o2 : w7.frozen? ⟨wr.heap.size, 0, none⟩ = false := by simp [World.frozen?, hnw]
               have o3 : w7.frozen? ⟨wr.heap.size, 1, none⟩ = false := by simp [World.frozen?, hnw]))
          all_goals
            go_wp2_with fail
            go_meet
          all_goals
            first
              | exact ⟨wr.heap.size, A', cap', rfl, rfl, hbr.size, by omega, two_set _ _ _ _ _ _ _ hnw, (Below.heap_setCell _ _ _ _ (show qw ≠ wr.heap.size by omega)).trans ((Below.heap_setCell _ _ _ _ (show qw ≠ wr.heap.size by omega)).trans hqw7), (h7.store _ _ (.inr (.inr rfl))).store _ _ (.inr (.inr rfl)), hr7 w hr, (hb7.setCell hbr.size _).setCell hbr.size _⟩
              | exact ⟨w7.heap.size, A', cap', rfl, rfl, hsz7, by have := hlt hqw7; omega, heap_alloc_new _ _, (Below.heap_alloc _ _ _ (hlt hqw7)).trans hqw7, (h7.out (fun q hq => by rcases hq with h | h | h; exact .inl (.inl h); exact .inl (.inr h); exact .inr (Nat.le_of_eq h.symm))).below ((Below.refl w7.heap.size w7).alloc (Nat.le_refl _) _) (Nat.le_refl _), hr7 w hr, hb7.alloc hsz7 _⟩
        case rest =>
          clear hA hi hw hr hbr f0 f1 g0 g1 hbl
          clear hL
          obtain ⟨nx, A2, cap2, rfl, rfl, hnx1, hnx2, hn, hw2, hi2, hr2, hb2⟩ := hcut
          have q0 : wc.cell? ⟨nx, 0, none⟩ = some (.slice A2 (left s') cap2) := by simp [World.cell?, hn]
          have q1 : wc.cell? ⟨nx, 1, none⟩ = some (.bool s'.isNone) := by simp [World.cell?, hn]
          have hi3 := hi2.below ((Below.refl wc.heap.size wc).drew) (Nat.le_refl _)
          go_wp2
          go_region_held3 (fun w' => w'.cell? ⟨nx, 0, none⟩ = some (.slice A2 (left s') cap2) ∧ w'.cell? ⟨nx, 1, none⟩ = some (.bool s'.isNone))
            (first | (go_keep; done) | exact ⟨q2, q3⟩)
            (first
              | (go_at_call 14; refine (bad_any _ i s' _ (by first | exact hi3 | exact hi4)).mono ?_; rintro e w8 ⟨rfl, rfl⟩)
              | (go_at_call 15; refine (left_any _ i s' _ (by first | exact hi3 | exact hi4)).mono ?_; rintro e w8 ⟨rfl, rfl⟩)
              | (go_at_call 16; refine (done_any _ i s' _ (by first | exact hi3 | exact hi4)).mono ?_; rintro e w8 ⟨rfl, rfl⟩)
              | (go_at_call 17
                 refine (doneR_any A2 cap2 s' _).mono ?_
                 rintro e w9 ⟨rfl, hb9⟩
                 have hi4 := hi3.below hb9 (Nat.le_refl _)
                 have hn9 : w9.heap[nx]? = some (.cells #[.slice A2 (left s') cap2, .bool s'.isNone] 40) := (hb9.block nx (hlt (w := wc) hn)).trans hn
                 have hw9 : w9.heap[qw]? = wc.heap[qw]? := hb9.block qw (hlt (w := wc) hw2)
                 have hbw9 : Below w.heap.size w w9 := hb2.drew.trans (hb9.mono hb2.size)
                 have q2 : w9.cell? ⟨nx, 0, none⟩ = some (.slice A2 (left s') cap2) := by simp [World.cell?, hn9]
                 have q3 : w9.cell? ⟨nx, 1, none⟩ = some (.bool s'.isNone) := by simp [World.cell?, hn9]))
          have hw9' := hw9.trans hw2
          have e0 : w9.cell? ⟨qw, 0, none⟩ = some (.slice A (left s) cap) := by simp [World.cell?, hw9']
          have e1 : w9.cell? ⟨qw, 1, none⟩ = some (.bool s.isNone) := by simp [World.cell?, hw9']
          have e2 : w9.frozen? ⟨qw, 0, none⟩ = false := by simp [World.frozen?, hw9']
          have e3 : w9.frozen? ⟨qw, 1, none⟩ = false := by simp [World.frozen?, hw9']
          go_wp2
          go_roundg (gk - 1)
          case measure => omega
          case rel => exact ⟨j + 1, s', A2, cap2, by go_num, by omega, ((hi4.out (fun q hq => .inl (hq.imp id .inl))).store _ _ (.inr rfl)).store _ _ (.inr rfl), two_set _ _ _ _ _ _ _ hw9', hr2, hL2, (hbw9.setCell hqw _).setCell hqw _⟩
      · obtain rfl : j = len1 := by omega
        have hdec : decide ((j : Int) < (j : Int)) = false := decide_eq_false (by omega)
        clear h1 hwf
        go_wp2
        go_ret
        exact ⟨rfl, hbr⟩
  · have hl' : ((100 : Int) < (len1 : Int)) := by omega
    clear h1 hb
    go_enter Try.func4, Try.ntmps4
    go_wp2_with fail
    refine (awake_any _).mono ?_
    rintro e w1 ⟨rfl, hb1⟩
    go_wp2_with fail
    refine (awake_any _).mono ?_
    rintro e w2 ⟨rfl, hb2⟩
    go_wp2
    go_ret
    exact ⟨rfl, hb1.trans (hb2.mono hb1.size)⟩

theorem own : ownKnob Try.prog.godebug = none := by kernel_rfl

set_option maxRecDepth 100000 in
theorem lifted (os : Os) (started : os.Started) (H : Type) (enc : TypeId × Value → H) :
    ReturnsInHanded {} Try.checked os 4 .any (Rows.octetsTakesSpec.pre6 enc Try.prog Try.f4 Rows.octetsTakesRow.domain false) (Rows.octetsTakesSpec.post enc Try.prog Try.f4 false true false false) := by
  refine returnsInHanded_of_change_sized (C := Try.checked) own started (by kernel_rfl) Try.func4
    (ChangeSpec.witness6 (enc := enc) (C := Try.checked) false ⟨#[], #[.slice none 0 0, .slice none 0 0], []⟩ 8 (by kernel_rfl) (by kernel_rfl) (by kernel_rfl) (by kernel_rfl)) ?_
  intro W base args ds gs before hval0 hW hcnd hsz0 _
  have hsz : (DataW.weightsEach Try.prog (Try.f4.params.toList ++ Rows.octetsTakesSpec.plain.varTypes Try.prog) (ds ++ gs)).all (· ≤ reachBytes) = true := hsz0
  have hval : ∀ (j : Nat) t v, Try.f4.params[j]? = some t → args[j]? = some v → Value.okWide Try.prog W .any base t v := hval0
  have hW' := hW
  obtain ⟨p, q, hA0, hV, rfl, hfz, hnd⟩ := hW
  have hA : DataW.TrodAll enc Try.prog W 0 (fun _ => true) true Try.f4.params.toList args.toList ds p := hA0
  rw [Try.params4] at hA hval hsz
  obtain ⟨v0, vs0, d0, ds0, p0, q0, hargs, rfl, rfl, h0, r0⟩ := trodAll_cons hA
  obtain ⟨v1, vs1, d1, ds1, p1, q1, rfl, rfl, rfl, h1, r1⟩ := trodAll_cons r0
  obtain ⟨rfl, rfl, rfl⟩ := trodAll_nil r1
  obtain rfl : args = #[v0, v1] := by cases args; simp_all
  obtain ⟨rfl, rfl⟩ := trodVars_none hV
  obtain ⟨A0, len0, cap0, L0, rfl, hlc0, hm0, hbl0⟩ := arg_bytes (hval 0 24 v0 rfl rfl) h0 (fun x hx => hW'.lt x (by simp [hx]))
  obtain ⟨A1, len1, cap1, K1, M1, rfl, hlc1, hm1, hrow1⟩ := arg_takes (hval 1 36 v1 rfl rfl) h1 (fun x hx => hW'.lt x (by simp [hx]))
  have fin : ∀ W', Below W.heap.size W W' → Rows.octetsTakesSpec.post enc Try.prog Try.f4 false true false false W #[.slice A0 len0 cap0, .slice A1 len1 cap1] (.bool true) W' :=
    fun W' hb => law_end (by kernel_rfl) (by decide +kernel) rfl rfl Try.underlying4 hW' rfl rfl rfl hb
  have hbig : len0 ≤ 140737488355328 := by
    rcases arg_bytes_len h0 with h | ⟨el, sp, rfl, hel⟩
    · omega
    · have := sized_slice hsz (j := 0) (t := 24) (e := 5) rfl rfl Try.underlying24
      rw [show Try.prog.bytesOf 5 = 1 by kernel_rfl] at this
      simp only [reachBytes] at this
      omega
  exact (walk A0 len0 cap0 L0 A1 len1 cap1 K1 M1 W ⟨hbl0.1, hlc0, hbl0.2⟩ hm0 hrow1 hlc1 hm1 hbig).mono fun e W' ⟨he, hb⟩ => ⟨_, he, fin W' hb⟩

theorem over : Rows.octetsTakesRow.holds Try.pinned (OpenSpec.ofChange Rows.octetsTakesSpec) :=
  OpenClaim.holds_of_wide 4 Try.f4 rfl rfl rfl rfl rfl rfl rfl ⟨rfl, rfl, rfl, rfl, rfl⟩ rfl rfl rfl rfl rfl (by kernel_rfl) Try.func4 (by kernel_rfl)
    (of_decide_eq_true (by kernel_rfl)) (by unfold Func.isWrapper; first | (rw [if_pos (by decide +kernel)]; kernel_rfl) | (rw [if_neg (by decide +kernel)]; exact ⟨rfl, rfl⟩))
    (fun os started H enc _ => lifted os started H enc)

theorem proved : Rows.OctetsTakesSaid := over


end Go.Proofs.Ytjmcbnoofonanaa.octetsTakes
