/- The law's own first question, and how many digits a number has. -/
import Derived.Test.YtjccjbnbjcbagaaOrdFS
import Derived.Test.YtjccjbnbjcbagaaOrdAvl
namespace Go.Proofs.Ytjccjbnbjcbagaa.OrdS
open Go.RowKit Go.Proofs.Ytjccjbnbjcbagaa

theorem ltS_ab : ltS ⟨#[97]⟩ ⟨#[98]⟩ = true := by
  unfold ltS
  rw [show (ByteArray.mk #[97]).toList = [97] from ByteArray.toList_mk [97], show (ByteArray.mk #[98]).toList = [98] from ByteArray.toList_mk [98]]
  rfl

theorem find_b : ∃ l r, Tr.find ltS ⟨#[98]⟩ (Tr.put ltS ⟨#[97]⟩ (1 : Int) (Tr.put ltS ⟨#[98]⟩ 2 .nil)) = .node ⟨#[98]⟩ 2 l r := by
  have h1 := ltS_ab
  have h2 := ltS_irr ⟨#[98]⟩
  refine ⟨.node ⟨#[97]⟩ 1 .nil .nil, .nil, ?_⟩
  have e : Tr.put ltS ⟨#[97]⟩ (1 : Int) (Tr.put ltS ⟨#[98]⟩ 2 .nil) = .node ⟨#[98]⟩ 2 (.node ⟨#[97]⟩ 1 .nil .nil) .nil := by
    rw [Tr.put, Tr.put, if_pos h1]
    rfl
  rw [e, Tr.find, h2]
  rfl

theorem size_ab : (Tr.put ltS ⟨#[97]⟩ (1 : Int) (Tr.put ltS ⟨#[98]⟩ 2 .nil)).size = 2 := by
  have h1 := ltS_ab
  rw [Tr.put, Tr.put, if_pos h1]
  rfl

set_option maxHeartbeats 1600000 in
theorem awake_any (w : World) : Calls Try.prog 9 #[] w fun e w' => e = .returned (.bool true) ∧ Below w.heap.size w w' := by
  obtain ⟨l, r, hf⟩ := find_b
  have hs := size_ab
  have G := fun u w h => get_yes (Tr.put ltS ⟨#[97]⟩ (1 : Int) (Tr.put ltS ⟨#[98]⟩ 2 .nil)) u ⟨#[98]⟩ _ _ _ _ w h hf
  have L2 := fun u w h => len_map (Tr.put ltS ⟨#[97]⟩ (1 : Int) (Tr.put ltS ⟨#[98]⟩ 2 .nil)) u w h
  have L0 := fun w => len_map (.nil : T) none w rfl
  have P1 := fun w => put_map (.nil : T) none ⟨#[98]⟩ 2 w rfl (by simp only [Tr.size_nil]; omega)
  have P2 := fun u w h => put_map (Tr.put ltS ⟨#[98]⟩ (2 : Int) .nil : T) u ⟨#[97]⟩ 1 w h (Nat.le_trans (Nat.succ_le_succ (Tr.size_put ltS ⟨#[98]⟩ (2 : Int) .nil)) (by simp only [Tr.size_nil]; omega))
  rw [hs] at L2
  clear hs hf
  generalize Tr.put ltS ⟨#[97]⟩ (1 : Int) (Tr.put ltS ⟨#[98]⟩ 2 .nil) = t2 at *
  generalize Tr.put ltS ⟨#[98]⟩ (2 : Int) .nil = t1 at *
  go_enter Try.func9, Try.ntmps9
  go_wp2_with (first
    | (go_at_call_of 22 (Value.string ⟨#[98]⟩); refine (P1 _).mono ?_; rintro e w1 ⟨u1, rfl, hr1, hb1⟩)
    | (go_at_call_of 22 (Value.string ⟨#[97]⟩); refine (P2 _ _ hr1).mono ?_; rintro e w2 ⟨u2, rfl, hr2, hb2⟩; replace hb1 := hb1.trans (hb2.mono hb1.size))
    | (go_at_call 12; refine (G _ _ (hr2.alloc _)).mono ?_; rintro e w3 ⟨rfl, hb3⟩
       have f3 : w3.cell? ⟨w2.heap.size, 0, none⟩ = some (.pointer u2) := (hb3.cell (by simp)).trans (by simp [go_sem])
       replace hb1 := (hb1.alloc hb1.size _).trans (hb3.mono (by have := hb1.size; simp at this ⊢; omega)))
    | (go_at_call_of 14 (Value.agg #[.pointer u2]); refine (L2 _ _ ((hr2.alloc _).below hb3 (Nat.le_refl _))).mono ?_; rintro e w4 ⟨rfl, hb4⟩
       replace hb1 := hb1.trans (hb4.mono hb1.size)
       have f4 : w4.cell? ⟨w.heap.size, 0, none⟩ = some (.pointer none) := (hb1.cell (by simp)).trans (by simp [go_sem]))
    | (go_at_call 14; refine (L0 _).mono ?_; rintro e w5 ⟨rfl, hb5⟩
       replace hb1 := hb1.trans (hb5.mono hb1.size)))
  go_ret
  exact ⟨rfl, Tr.below_of hb1 (by repeat (first | exact Below.refl _ _ | apply Below.drew | refine Below.alloc ?_ (by simp) _))⟩

theorem digits_any (n : Nat) (w : World) (hn : n ≤ 1000000) : Calls Try.prog 26 #[.int .i64 n] w fun e w' => e = .returned (.int .i64 (digits n n : Int)) ∧ w = w' := by
  obtain ⟨F, hF⟩ : ∃ F, digits n n = F := ⟨_, rfl⟩
  rw [hF]
  have HF : Hid (digits n n = F) := hF
  clear hF
  go_enter Try.func26, Try.ntmps26
  go_wp2
  go_loopg [0, 3] n (fun g x d wr => w = wr ∧ ∃ m j : Nat, x = .int .i64 (m : Int) ∧ d = .int .i64 (j : Int) ∧ m ≤ g ∧ g ≤ 1000000 ∧ j + m ≤ 1000000 ∧ Hid (digits g m + j = F))
  case atStart => exact ⟨rfl, n, 0, rfl, rfl, Nat.le_refl _, hn, by omega, HF⟩
  case round =>
    obtain ⟨rfl, m, j, rfl, rfl, hm, hg, hj, HG⟩ := hrel
    clear HF
    cases gk with
    | zero =>
      obtain rfl : m = 0 := by omega
      have HJ : Hid (F = j) := by have := HG.out; simp only [digits] at this; show _ = _; omega
      go_wp2
      go_ret
      exact ⟨by rw [HJ.out]; rfl, rfl⟩
    | succ g =>
      by_cases h0 : m = 0
      · subst h0
        have HJ : Hid (F = j) := by have := HG.out; simp only [digits] at this; show _ = _; simp at this; omega
        go_wp2
        go_ret
        exact ⟨by rw [HJ.out]; rfl, rfl⟩
      · have HJ : Hid (digits g (m / 2) + (j + 1) = F) := by have := HG.out; simp only [digits] at this; rw [if_neg h0] at this; show _ = _; omega
        have hm0 : (0 : Int) < (m : Int) := by omega
        have hj0 : (j : Int) ≤ 1000000 := by omega
        clear h0 HG
        go_wp2
        go_roundg g
        case measure => omega
        case rel => exact ⟨rfl, m / 2, j + 1, by rw [show ((m / 2 : Nat) : Int) = (m : Int) / 2 by omega], by go_num, by omega, by omega, by omega, HJ⟩

end Go.Proofs.Ytjccjbnbjcbagaa.OrdS
