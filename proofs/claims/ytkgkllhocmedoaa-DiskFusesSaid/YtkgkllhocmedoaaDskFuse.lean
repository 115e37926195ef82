/- DiskFuses' walk, over the program's contracts. -/
import Derived.Test.YtkgkllhocmedoaaDskPlays
import Derived.Test.YtkgkllhocmedoaaDskFuseM
namespace Go.Proofs.Ytkgkllhocmedoaa
open Go.RowKit
set_option linter.unusedVariables false
set_option linter.unusedSimpArgs false

abbrev nmA : ByteArray := ⟨#[97]⟩
abbrev nmB : ByteArray := ⟨#[98]⟩

/-- The state of a law with a disk of its own: nothing of what there was is touched. -/
structure Burning (O : DiskOps) (w0 wr : World) (d : Nat) (D : Dsk) : Prop where
  dk : O.Dk wr d D (· < w0.heap.size)
  good : Good D
  below : Below w0.heap.size w0 wr

namespace Burning
theorem lt {O : DiskOps} {w0 wr : World} {d : Nat} {D : Dsk} (h : Burning O w0 wr d D) : ∀ k, k < w0.heap.size → k < wr.heap.size := fun k hk => Nat.lt_of_lt_of_le hk h.below.size
theorem next {O : DiskOps} {w0 wr w5 : World} {d : Nat} {D D' : Dsk} (h : Burning O w0 wr d D) (hk : Keeps (· < w0.heap.size) wr w5) (hd : O.Dk w5 d D' (· < w0.heap.size)) (hg : Good D') : Burning O w0 w5 d D' :=
  ⟨hd, hg, below_keeps h.below hk (fun k hk => hk) h.below.size⟩
theorem step {O : DiskOps} {w0 wr w5 : World} {d : Nat} {D : Dsk} (h : Burning O w0 wr d D) (hb : Below wr.heap.size wr w5) : Burning O w0 w5 d D :=
  h.next ((keeps_below hb (Nat.le_refl _)).mono fun k hk => Nat.lt_of_lt_of_le hk h.below.size) (O.keep h.dk hb.size fun k hk _ => hb.block k hk) h.good
theorem drew {O : DiskOps} {w0 wr : World} {d : Nat} {D : Dsk} (h : Burning O w0 wr d D) : Burning O w0 wr.drew d D := h.step (Below.refl _ _).drew
theorem drewN {O : DiskOps} {w0 wr : World} {d : Nat} {D : Dsk} (h : Burning O w0 wr d D) (p : Nat) : Burning O w0 (wr.drewN p) d D := h.step (below_drewN (Below.refl _ _) p)
theorem alloc {O : DiskOps} {w0 wr : World} {d : Nat} {D : Dsk} (h : Burning O w0 wr d D) (C : Array Value) (T : TypeId) (fr : Nat × Nat) : Burning O w0 (wr.alloc (.cells C T fr)) d D := h.step ((Below.refl _ _).alloc (Nat.le_refl _) _)
end Burning


theorem fuse_start {n : Nat} : (Dsk.fuse ⟨65536, [], false, 0, false⟩ (n : Int)) = (⟨65536, [], true, (n : Int), false⟩, 0) := by
  have h : ¬ ((n : Int) < 0) := by omega
  simp [Dsk.fuse, h]

set_option maxRecDepth 100000 in
set_option maxHeartbeats 3000000 in
theorem walk_fuses (O : DiskOps) (n many : Nat) (hn : n < 256) (hmany : many < 256) (w : World) :
    Calls Try.prog 5 #[.int .u8 (n : Int), .int .u8 (many : Int)] w fun e w' => e = .returned (.bool true) ∧ Below w.heap.size w w' := by
  have hN := fun w hl => O.new_ok 65536 w (fun k => k < w.heap.size) (by omega) (by omega) hl
  have hr : rightS nmA = true := by decide
  have hsa : nmA.size ≤ 2147483647 := by decide
  have hsb : nmB.size ≤ 2147483647 := by decide
  go_enter Try.func5, Try.ntmps5
  go_wp2_with fail
  refine (awake_any O _).mono ?_
  rintro e w1 ⟨rfl, hb1⟩
  go_wp2_with fail
  refine (O.new_ok 65536 w1 (fun k => k < w.heap.size) (by omega) (by omega) (fun k hk => Nat.lt_of_lt_of_le hk hb1.size)).mono ?_
  rintro e w2 ⟨d, rfl, hd2, k2⟩
  have hB2 : Burning O w w2 d ⟨65536, [], false, 0, false⟩ := ⟨hd2, good_new 65536 (by omega) (by omega), below_keeps hb1 k2 (fun k hk => hk) hb1.size⟩
  have hF : ∀ w', Burning O w w' d ⟨65536, [], false, 0, false⟩ → Calls Try.prog 19 #[dptr d, .int .i64 (n : Int)] w' fun e w'' => e = .returned (.int .i64 0) ∧ Burning O w w'' d (fuseAt nmA n 0) := fun w' h => by
    have := O.fuse w' d _ _ (n : Int) h.dk h.lt (by omega)
    have hg := h.good.fuse (n : Int) (by omega)
    rw [fuse_start] at this hg
    refine this.mono ?_
    rintro e w'' ⟨rfl, hd, hk⟩
    exact ⟨rfl, h.next hk hd hg⟩
  have hApp : ∀ w' k A cap, k < 256 → Burning O w w' d (fuseAt nmA n k) → Lies w' A 1 cap [UInt8.ofNat k] → cap ≤ maxLen → Calls Try.prog 20 #[dptr d, .string nmA, .slice A 1 cap] w' fun e w'' => e = .returned (.int .i64 (((if k < n then 0 else 5 : Nat)) : Int)) ∧ Burning O w w'' d (fuseAt nmA n (k + 1)) := fun w' k A cap hk h hl hc => by
    have := O.append w' d _ _ nmA A cap [UInt8.ofNat k] h.dk h.good h.lt hl (by simp) hc hsa
    have hg := h.good.append nmA ⟨#[UInt8.ofNat k]⟩
    have e1 : (⟨[UInt8.ofNat k].toArray⟩ : ByteArray) = ⟨#[UInt8.ofNat k]⟩ := rfl
    rw [e1, fuseAt_says hr n (by omega) k (by omega)] at this
    refine this.mono ?_
    rintro e w'' ⟨rfl, hd, hkp⟩
    exact ⟨rfl, h.next hkp hd hg⟩
  clear hN hd2 k2 hb1
  have hr1 : (n : Int) < 256 := by omega
  have hr2 : (many : Int) < 256 := by omega
  go_wp2_with fail
  refine (hF _ (by (repeat (first | assumption | apply Burning.drew | apply Burning.drewN | apply Burning.alloc)))).mono ?_
  rintro e w3 ⟨rfl, hB3⟩
  clear hF hB2
  go_wp2
  go_loopg [26] many (fun g i wr => ∃ k : Nat, i = .int .i64 (k : Int) ∧ k + g = many ∧ Burning O w wr d (fuseAt nmA n k))
  case atStart => exact ⟨0, rfl, by omega, hB3⟩
  case round =>
    clear hB3
    obtain ⟨k, rfl, hk, hS⟩ := hrel
    by_cases hlt : k < many
    · have hlt' : (k : Int) < (many : Int) := by omega
      have hk256 : (k : Int) < 256 := by omega
      have hA := hApp (wr.alloc (.cells #[.int .u8 (k : Int)] 5)) k (some ⟨wr.heap.size, 0, none⟩) 1 (by omega) (hS.alloc _ _ _) (lies_row wr [UInt8.ofNat k] _ _ _ 1 rfl (by
        intro j hj
        match j, hj with
        | 0, _ => simp; omega)) (by unfold maxLen; omega)
      clear hApp hS
      go_wp2_with fail
      refine hA.mono ?_
      rintro e w5 ⟨rfl, hB5⟩
      clear hA
      by_cases hkn : k < n
      · rw [if_pos hkn]
        have hkn' : (k : Int) < (n : Int) := by omega
        have hkn2 : ¬ ((n : Int) ≤ (k : Int)) := by omega
        go_wp2
        go_roundg (gk - 1)
        case measure => omega
        case rel => exact ⟨k + 1, by go_num, by omega, by (repeat (first | assumption | apply Burning.drew | apply Burning.drewN | apply Burning.alloc))⟩
      · rw [if_neg hkn]
        have hkn' : ¬ ((k : Int) < (n : Int)) := by omega
        have hkn2 : (n : Int) ≤ (k : Int) := by omega
        go_wp2
        go_roundg (gk - 1)
        case measure => omega
        case rel => exact ⟨k + 1, by go_num, by omega, by (repeat (first | assumption | apply Burning.drew | apply Burning.drewN | apply Burning.alloc))⟩
    · obtain rfl : k = many := by omega
      have hdec : decide ((k : Int) < (k : Int)) = false := decide_eq_false (by omega)
      clear hApp
      by_cases hle : k ≤ n
      · have hle' : (k : Int) ≤ (n : Int) := by omega
        obtain ⟨s, hs, e0⟩ := (fuseAt_is hr n (by omega) k (by omega)).1 hle
        rw [e0] at hS
        have hL : ∀ w', Burning O w w' d ⟨65536, oneF nmA s, true, (n : Int) - (k : Int), false⟩ → Calls Try.prog 17 #[dptr d] w' fun e w'' => e = .returned (.bool false) ∧ w' = w'' := fun w' h => O.lost w' d _ _ h.dk
        have hU : ∀ w', Burning O w w' d ⟨65536, oneF nmA s, true, (n : Int) - (k : Int), false⟩ → Calls Try.prog 13 #[dptr d] w' fun e w'' => e = .returned (.int .i64 (k : Int)) ∧ Below w.heap.size w w'' := fun w' h => by
          have := O.used w' d _ _ h.dk h.good h.lt
          rw [oneF_used, hs] at this
          refine this.mono ?_
          rintro e w'' ⟨rfl, hd, hk⟩
          exact ⟨rfl, (h.next hk hd h.good).below⟩
        clear e0
        go_wp2_with fail
        refine (hL _ (by (repeat (first | assumption | apply Burning.drew | apply Burning.drewN | apply Burning.alloc)))).mono ?_
        rintro e w5 ⟨rfl, rfl⟩
        go_wp2_with fail
        refine (hU _ (by (repeat (first | assumption | apply Burning.drew | apply Burning.drewN | apply Burning.alloc)))).mono ?_
        rintro e w6 ⟨rfl, hB6⟩
        go_wp2
        go_ret
        exact ⟨rfl, hB6⟩
      · have hle' : ¬ ((k : Int) ≤ (n : Int)) := by omega
        obtain ⟨s, hs, e0⟩ := (fuseAt_is hr n (by omega) k (by omega)).2 (by omega)
        rw [e0] at hS
        clear e0
        have hback := oneF_restart hr n hs (by omega) (fun _ => (n : Int) + 1) rfl ⟨#[1]⟩ (by decide)
        have hus := oneF_used nmA s
        rw [hs] at hus
        obtain ⟨L, hLd, hLu⟩ : ∃ L : Dsk, L.lost = true ∧ L = ⟨65536, oneF nmA s, true, 0, true⟩ := ⟨_, rfl, rfl⟩
        have hLus : usedF L.l = n + 1 := by rw [hLu]; exact hus
        rw [← hLu] at hS hback
        clear hLu hus hs
        obtain ⟨M, hM⟩ : ∃ M, L.restart (fun _ => (n : Int) + 1) 1 = M := ⟨_, rfl⟩
        rw [hM] at hback
        obtain ⟨hM1, hM2, hM3⟩ := hback
        have cL : ∀ w', Burning O w w' d L → Calls Try.prog 17 #[dptr d] w' fun e w'' => e = .returned (.bool true) ∧ w' = w'' := fun w' h => by
          have := O.lost w' d _ _ h.dk
          rw [hLd] at this
          exact this
        have cU : ∀ w', Burning O w w' d L → Calls Try.prog 13 #[dptr d] w' fun e w'' => e = .returned (.int .i64 ((n : Int) + 1)) ∧ Burning O w w'' d L := fun w' h => by
          have := O.used w' d _ _ h.dk h.good h.lt
          rw [hLus] at this
          refine this.mono ?_
          rintro e w'' ⟨rfl, hd, hk⟩
          exact ⟨by rw [show ((n + 1 : Nat) : Int) = (n : Int) + 1 by omega], h.next hk hd h.good⟩
        have cR : ∀ w', Burning O w w' d L → Calls Try.prog 15 #[dptr d, .string nmA] w' fun e w'' => ∃ A cap, e = .returned (.tuple #[.slice A 0 cap, .int .i64 5]) ∧ Burning O w w'' d L := fun w' h => by
          have := O.read w' d _ _ nmA h.dk h.good h.lt hsa
          rw [lost_read hLd] at this
          refine this.mono ?_
          rintro e w'' ⟨A, cap, rfl, _, _, hd, hk⟩
          exact ⟨A, cap, rfl, h.next hk (O.out hd fun k hk => .inl (.inl hk)) h.good⟩
        have cS : ∀ w', Burning O w w' d L → Calls Try.prog 21 #[dptr d, .string nmA] w' fun e w'' => e = .returned (.int .i64 5) ∧ Burning O w w'' d L := fun w' h => by
          have := O.sync w' d _ _ nmA h.dk h.good h.lt hsa
          rw [lost_sync hLd] at this
          refine this.mono ?_
          rintro e w'' ⟨rfl, hd, hk⟩
          exact ⟨rfl, h.next hk hd h.good⟩
        have cF : ∀ w', Burning O w w' d L → Calls Try.prog 19 #[dptr d, .int .i64 0] w' fun e w'' => e = .returned (.int .i64 5) ∧ Burning O w w'' d L := fun w' h => by
          have := O.fuse w' d _ _ 0 h.dk h.lt (by omega)
          rw [lost_fuse hLd] at this
          refine this.mono ?_
          rintro e w'' ⟨rfl, hd, hk⟩
          exact ⟨rfl, h.next hk hd h.good⟩
        have cV : ∀ w', Burning O w w' d L → Calls Try.prog 22 #[dptr d, .string nmA] w' fun e w'' => e = .returned (.int .i64 5) ∧ Burning O w w'' d L := fun w' h => by
          have := O.remove w' d _ _ nmA h.dk h.good h.lt hsa
          rw [lost_remove hLd] at this
          refine this.mono ?_
          rintro e w'' ⟨rfl, hd, hk⟩
          exact ⟨rfl, h.next hk hd h.good⟩
        have cC : ∀ w', Burning O w w' d L → Calls Try.prog 23 #[dptr d, .string nmA, .int .i64 0] w' fun e w'' => e = .returned (.int .i64 5) ∧ Burning O w w'' d L := fun w' h => by
          have := O.cut w' d _ _ nmA 0 h.dk h.good h.lt hsa (by omega)
          rw [lost_cut hLd] at this
          refine this.mono ?_
          rintro e w'' ⟨rfl, hd, hk⟩
          exact ⟨rfl, h.next hk hd h.good⟩
        have cN : ∀ w', Burning O w w' d L → Calls Try.prog 24 #[dptr d, .string nmA, .string nmB] w' fun e w'' => e = .returned (.int .i64 5) ∧ Burning O w w'' d L := fun w' h => by
          have := O.rename w' d _ _ nmA nmB h.dk h.good h.lt hsa hsb
          rw [lost_rename hLd] at this
          refine this.mono ?_
          rintro e w'' ⟨rfl, hd, hk⟩
          exact ⟨rfl, h.next hk hd h.good⟩
        have cT : ∀ w' K kcap, Burning O w w' d L → RI w' K 1 (fun _ => (n : Int) + 1) → 1 ≤ kcap → (∀ a, K = some a → a.block ≠ d) → Calls Try.prog 14 #[dptr d, .slice K 1 kcap] w' fun e w'' => e = .returned (.tuple #[]) ∧ Burning O w w'' d M := fun w' K kcap h hK hkc hkd => by
          have := O.restart w' d _ _ K 1 kcap _ h.dk h.good h.lt hK (by omega) hkc (fun _ => hkd)
          rw [hM] at this
          refine this.mono ?_
          rintro e w'' ⟨rfl, hd, hk⟩
          exact ⟨rfl, h.next hk hd (by rw [← hM]; exact h.good.restart _ _)⟩
        have cQ : ∀ w', Burning O w w' d M → Calls Try.prog 15 #[dptr d, .string nmA] w' fun e w'' => ∃ A cap, e = .returned (.tuple #[.slice A (n + 1) cap, .int .i64 0]) ∧ Burning O w w'' d M := fun w' h => by
          have := O.read w' d _ _ nmA h.dk h.good h.lt hsa
          rw [hM1, hM2] at this
          refine this.mono ?_
          rintro e w'' ⟨A, cap, rfl, _, _, hd, hk⟩
          exact ⟨A, cap, rfl, h.next hk (O.out hd fun k hk => .inl (.inl hk)) h.good⟩
        have cA : ∀ w' A cap, Burning O w w' d M → Lies w' A 1 cap [1] → cap ≤ maxLen → Calls Try.prog 20 #[dptr d, .string nmA, .slice A 1 cap] w' fun e w'' => e = .returned (.int .i64 0) ∧ Below w.heap.size w w'' := fun w' A cap h hl hc => by
          have := O.append w' d _ _ nmA A cap [1] h.dk h.good h.lt hl (by simp) hc hsa
          have e1 : (⟨[1].toArray⟩ : ByteArray) = ⟨#[1]⟩ := rfl
          rw [e1, hM3] at this
          refine this.mono ?_
          rintro e w'' ⟨rfl, hd, hk⟩
          exact ⟨rfl, (h.next hk hd (h.good.append _ _)).below⟩
        clear hM1 hM2 hM3 hM hLd hLus hr
        go_wp2_with fail
        refine (cR _ (by (repeat (first | assumption | apply Burning.drew | apply Burning.drewN | apply Burning.alloc)))).mono ?_
        rintro e w5 ⟨A5, cap5, rfl, hB5⟩
        clear hS
        go_wp2_with fail
        refine (cL _ (by (repeat (first | assumption | apply Burning.drew | apply Burning.drewN | apply Burning.alloc)))).mono ?_
        rintro e w6 ⟨rfl, rfl⟩
        go_wp2_with fail
        refine (cU _ (by (repeat (first | assumption | apply Burning.drew | apply Burning.drewN | apply Burning.alloc)))).mono ?_
        rintro e w7 ⟨rfl, hB7⟩
        go_wp2_with fail
        refine (cS _ (by (repeat (first | assumption | apply Burning.drew | apply Burning.drewN | apply Burning.alloc)))).mono ?_
        rintro e w8 ⟨rfl, hB8⟩
        go_wp2_with fail
        refine (cF _ (by (repeat (first | assumption | apply Burning.drew | apply Burning.drewN | apply Burning.alloc)))).mono ?_
        rintro e w9 ⟨rfl, hB9⟩
        go_wp2_with fail
        refine (cV _ (by (repeat (first | assumption | apply Burning.drew | apply Burning.drewN | apply Burning.alloc)))).mono ?_
        rintro e w10 ⟨rfl, hB10⟩
        go_wp2_with fail
        refine (cC _ (by (repeat (first | assumption | apply Burning.drew | apply Burning.drewN | apply Burning.alloc)))).mono ?_
        rintro e w11 ⟨rfl, hB11⟩
        go_wp2_with fail
        refine (cN _ (by (repeat (first | assumption | apply Burning.drew | apply Burning.drewN | apply Burning.alloc)))).mono ?_
        rintro e w12 ⟨rfl, hB12⟩
        clear cR cL cU cS cF cV cC cN
        go_wp2_with fail
        refine (cT _ _ _ (by (repeat (first | assumption | apply Burning.drew | apply Burning.drewN | apply Burning.alloc))) ⟨fun j _ => by show -9223372036854775808 ≤ (n : Int) + 1 ∧ (n : Int) + 1 ≤ 9223372036854775807; omega, fun _ => ⟨_, 0, rfl, by simp, fun j hj => ?_⟩⟩ (by first | exact Nat.le_refl _ | omega) (fun a e => by injection e with e; subst e; have := (O.own hB12.dk).2; show w12.heap.size ≠ d; omega)).mono ?_
        · obtain rfl : j = 0 := by omega
          exact cell_of_row _ _ _ _ _ _ (heap_alloc_new _ _)
        rintro e w13 ⟨rfl, hB13⟩
        go_wp2_with fail
        refine (cQ _ (by (repeat (first | assumption | apply Burning.drew | apply Burning.drewN | apply Burning.alloc)))).mono ?_
        rintro e w14 ⟨A14, cap14, rfl, hB14⟩
        go_wp2_with fail
        refine (cA _ _ _ (by (repeat (first | assumption | apply Burning.drew | apply Burning.drewN | apply Burning.alloc))) (lies_row _ [1] _ _ _ 1 rfl (by
          intro j hj
          match j, hj with
          | 0, _ => rfl)) (by unfold maxLen; omega)).mono ?_
        rintro e w15 ⟨rfl, hB15⟩
        go_wp2
        go_ret
        exact ⟨rfl, hB15⟩

end Go.Proofs.Ytkgkllhocmedoaa
