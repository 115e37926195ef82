/- The laws' own first question. -/
import Derived.Test.YtkgkllhocmedoaaDskOps
import Derived.Lib.SlBytesConst
namespace Go.Proofs.Ytkgkllhocmedoaa
open Go.RowKit
set_option linter.unusedVariables false
set_option linter.unusedSimpArgs false

theorem good_new (room : Int) (h0 : 0 ≤ room) (h1 : room ≤ 1048576) : Good ⟨room, [], false, 0, false⟩ :=
  ⟨⟨h0, h1⟩, ⟨List.Pairwise.nil, fun f hf => by cases hf⟩, by show ((0 : Nat) : Int) ≤ room; omega, by show (0 : Int) ≤ 0 ∧ (0 : Int) ≤ _; omega⟩

def fXy : Fil := ⟨⟨#[97]⟩, ⟨#[120, 121]⟩, 0⟩
def d9 : Dsk := ⟨9, [fXy], false, 0, false⟩

theorem right_a : rightS ⟨#[97]⟩ = true := by decide
theorem right_b : rightS ⟨#[98]⟩ = true := by decide

theorem app_xy : (Dsk.append ⟨9, [], false, 0, false⟩ ⟨#[97]⟩ ⟨#[120, 121]⟩) = (d9, 0) := by
  have hm : Dsk.may ⟨9, [], false, 0, false⟩ ⟨#[97]⟩ ⟨#[97]⟩ = 0 := by simp [Dsk.may, right_a]
  unfold Dsk.append
  rw [hm]
  rfl

theorem read_xy : d9.read ⟨#[97]⟩ = (⟨#[120, 121]⟩, 0) := by
  have hm : d9.may ⟨#[97]⟩ ⟨#[97]⟩ = 0 := by simp [Dsk.may, right_a, d9]
  have hg : getF d9.l ⟨#[97]⟩ = (fXy, true) := getF_mem (f := fXy) (List.pairwise_singleton _ _) (by simp [d9])
  unfold Dsk.read
  rw [hm, hg]
  rfl

theorem sync_b : (d9.sync ⟨#[98]⟩).2 = 6 := by
  have hm : d9.may ⟨#[98]⟩ ⟨#[98]⟩ = 0 := by simp [Dsk.may, right_b, d9]
  have hg : getF d9.l ⟨#[98]⟩ = (⟨⟨#[98]⟩, ByteArray.empty, 0⟩, false) := getF_none fun g hgm => by
    obtain rfl : g = fXy := by simpa [d9] using hgm
    decide
  unfold Dsk.sync
  rw [hm, hg]
  rfl

theorem good9 : Good d9 := by
  have := (good_new 9 (by omega) (by omega)).append ⟨#[97]⟩ ⟨#[120, 121]⟩
  rw [app_xy] at this
  exact this

theorem below_of_keeps {w w' : World} (h : Keeps (· < w.heap.size) w w') : Below w.heap.size w w' := ⟨h.os, h.tape, h.output, h.size, fun k hk => h.block k hk hk⟩

theorem lies_row (w : World) (l : List UInt8) (C : Array Value) (T : TypeId) (fr : Nat × Nat) (n : Nat) (hn : l.length = n) (h : ∀ j (hj : j < l.length), C[j]? = some (u8 l[j])) : Lies (w.alloc (.cells C T fr)) (some ⟨w.heap.size, 0, none⟩) n n l := by
  refine ⟨hn, Nat.le_refl _, (fun h => by cases h), fun _ => ⟨w.heap.size, 0, rfl, by simp, fun j hj => ?_⟩⟩
  rw [cell_of_row _ _ _ _ _ _ (heap_alloc_new w _), Nat.zero_add]
  exact h j hj

set_option maxRecDepth 100000 in
set_option maxHeartbeats 1000000 in
theorem awake_any (O : DiskOps) (w : World) : Calls Try.prog 8 #[] w fun e w' => e = .returned (.bool true) ∧ Below w.heap.size w w' := by
  have kc := fun (w : World) (C : Array Value) (n c : Nat) => Lib.run_convert_bytes_const (P := Try.prog) w 34 5 C n c Try.underlying34 Try.underlying5
  go_enter Try.func8, Try.ntmps8
  go_wp2_with fail
  refine (O.new_ok 9 w (· < w.heap.size) (by omega) (by omega) (fun k hk => hk)).mono ?_
  rintro e w1 ⟨d, rfl, hd1, k1⟩
  have hb2 : Below w1.heap.size w1 (w1.alloc (.cells #[.int .u8 120, .int .u8 121] 5 (2, 3))) := (Below.refl _ _).alloc (Nat.le_refl _) _
  have hl2 := lies_row w1 [120, 121] #[.int .u8 120, .int .u8 121] 5 (2, 3) 2 rfl (by
    intro j hj
    match j, hj with
    | 0, _ | 1, _ => rfl)
  have hd2 := O.keep hd1 hb2.size (fun k hk _ => hb2.block k hk)
  have hA := O.append _ d _ _ ⟨#[97]⟩ _ 2 [120, 121] hd2 (good_new 9 (by omega) (by omega)) (fun k hk => Nat.lt_of_lt_of_le hk (Nat.le_trans k1.size hb2.size)) hl2 (by simp) (by unfold maxLen; omega) (by decide)
  have e0 : (⟨[120, 121].toArray⟩ : ByteArray) = ⟨#[120, 121]⟩ := rfl
  rw [e0, app_xy] at hA
  have k2 : Keeps (· < w.heap.size) w _ := k1.trans (keeps_below hb2 (Nat.le_refl _))
  clear hl2 hd1 hd2 hb2 e0
  go_wp2_with fail
  refine hA.mono ?_
  rintro e w2 ⟨rfl, hd2, k3⟩
  have k4 := k2.trans k3
  have hR := O.read w2 d _ _ ⟨#[97]⟩ hd2 good9 (fun k hk => Nat.lt_of_lt_of_le hk k4.size) (by decide)
  rw [read_xy] at hR
  clear hA k2 k3 kc
  go_wp2_with fail
  refine hR.mono ?_
  rintro e w3 ⟨A3, cap3, rfl, hl3, _, hd3, k5⟩
  have k6 := k4.trans k5
  have hcv : (convert 34 9 (.slice A3 2 cap3)).run Try.prog w3 = .ok (.string ⟨#[120, 121]⟩) w3 := hl3.text Try.underlying34 Try.underlying5 Try.underlying9
  have hS := O.sync w3 d _ _ ⟨#[98]⟩ (O.out hd3 (Z' := (· < w.heap.size)) (fun k hk => .inl (.inl hk))) good9 (fun k hk => Nat.lt_of_lt_of_le hk k6.size) (by decide)
  rw [sync_b] at hS
  clear hR hl3 hd3
  go_wp2_with fail
  refine hS.mono ?_
  rintro e w4 ⟨rfl, _, k7⟩
  have k8 := k6.trans k7
  go_wp2
  go_ret
  exact ⟨rfl, below_of_keeps k8⟩

end Go.Proofs.Ytkgkllhocmedoaa
