/- QuorumMeets' walk. -/
import Derived.Test.YtbhbmiknomdebaaQuoOps
import Derived.Outline
import Derived.Deep.Cut
import Derived.Deep.DeepCutAuto
namespace Go.Proofs.Ytbhbmiknomdebaa.quorumMeets
open Go.RowKit Go.Proofs.Ytbhbmiknomdebaa
set_option linter.unusedVariables false
set_option linter.unusedSimpArgs false

set_option maxRecDepth 100000 in
set_option maxHeartbeats 1600000 in
theorem walk (O : QuoOps) (a b n : Int) (ha : 0 ≤ a ∧ a < 4294967296) (hb0 : 0 ≤ b ∧ b < 4294967296) (hn : 0 ≤ n ∧ n < 256) (w : World) :
    Calls Try.prog 5 #[.int .u32 a, .int .u32 b, .int .u8 n] w fun e w' => e = .returned (.bool true) ∧ Below w.heap.size w w' := by
  have hA := fun W => awake9_any O W
  obtain ⟨an, rfl⟩ := Int.eq_ofNat_of_zero_le hn.1
  obtain ⟨K, hK⟩ : ∃ K, K = 1 + an % 30 := ⟨_, rfl⟩
  have hK1 : 1 ≤ K := by omega
  have hK30 : K ≤ 30 := by omega
  go_enter Try.func5, Try.ntmps5
  go_wp2_with fail
  refine (hA _).mono ?_
  rintro e w1 ⟨rfl, hb⟩
  clear hA
  go_wp2
  go_loopg [8, 9, 10, 11, 12, 13, 21] K (fun g v8 v9 v10 s11 s12 s13 kk wr => ∃ k x y z : Nat, k + g = K ∧ kk = .int .i64 (k : Int) ∧ v8 = .int .i64 (x : Int) ∧ v9 = .int .i64 (y : Int) ∧ v10 = .int .i64 (z : Int) ∧ x + y ≤ k + z ∧ x ≤ k ∧ y ≤ k ∧ z ≤ k ∧ wr = w1)
  case atStart => exact ⟨0, 0, 0, 0, by omega, rfl, rfl, rfl, rfl, by omega, by omega, by omega, by omega, rfl⟩
  case round =>
    obtain ⟨k, x, y, z, hk, rfl, rfl, rfl, rfl, h1, h2, h3, h4, rfl⟩ := hrel
    by_cases hkl : k < K
    · have hkl' : (k : Int) < (K : Int) := by omega
      have HK := Lib.hid (And.intro hk (And.intro h1 (And.intro h2 (And.intro h3 h4))))
      have hx : x < 40 := by omega
      have hy : y < 40 := by omega
      have hz : z < 40 := by omega
      have hkk : k < 40 := by omega
      go_upto_region 9 with fail
      generalize (bits BinOp.and IntKind.u32 (a / 2 ^ k) 1 == 1) = p at *
      generalize (bits BinOp.and IntKind.u32 (b / 2 ^ k) 1 == 1) = q at *
      clear hk h1 h2 h3 h4
      cases p with
      | false =>
        cases q with
        | false =>
          go_wp2
          go_roundg (gk - 1)
          case measure => have := HK.out.1; omega
          case rel =>
            obtain ⟨a1, a2, a3, a4, a5⟩ := HK.out
            exact ⟨k + 1, x, y, z, by omega, by go_num, rfl, rfl, rfl, by omega, by omega, by omega, by omega, rfl⟩
        | true =>
          go_wp2
          go_roundg (gk - 1)
          case measure => have := HK.out.1; omega
          case rel =>
            obtain ⟨a1, a2, a3, a4, a5⟩ := HK.out
            exact ⟨k + 1, x, y + 1, z, by omega, by go_num, rfl, by go_num, rfl, by omega, by omega, by omega, by omega, rfl⟩
      | true =>
        cases q with
        | false =>
          go_wp2
          go_roundg (gk - 1)
          case measure => have := HK.out.1; omega
          case rel =>
            obtain ⟨a1, a2, a3, a4, a5⟩ := HK.out
            exact ⟨k + 1, x + 1, y, z, by omega, by go_num, by go_num, rfl, rfl, by omega, by omega, by omega, by omega, rfl⟩
        | true =>
          go_wp2
          go_roundg (gk - 1)
          case measure => have := HK.out.1; omega
          case rel =>
            obtain ⟨a1, a2, a3, a4, a5⟩ := HK.out
            exact ⟨k + 1, x + 1, y + 1, z + 1, by omega, by go_num, by go_num, by go_num, by go_num, by omega, by omega, by omega, by omega, rfl⟩
    · obtain rfl : k = K := by omega
      have hdec : decide ((k : Int) < 1 + (an : Int) % 30) = false := decide_eq_false (by omega)
      have hdec2 : ((k : Int) < 1 + (an : Int) % 30) = False := eq_false (by omega)
      have hW1 := fun W => O.won x (1 + (an : Int) % 30) W (by omega) (by omega)
      have hW2 := fun W => O.won y (1 + (an : Int) % 30) W (by omega) (by omega)
      have hz : wonB x (1 + (an : Int) % 30) = true → wonB y (1 + (an : Int) % 30) = true → 0 < z := fun e1 e2 => by
        simp only [wonB, Bool.and_eq_true, decide_eq_true_eq] at e1 e2
        omega
      generalize wonB x (1 + (an : Int) % 30) = p at *
      generalize wonB y (1 + (an : Int) % 30) = q at *
      have HZ := Lib.hid hz
      clear h1 h2 h3 h4 hk hK hK1 hK30 hz
      go_wp2_with fail
      refine (hW1 _).mono ?_
      rintro e w2 ⟨rfl, hb2⟩
      replace hb := hb.trans (hb2.mono hb.size)
      clear hW1 hb2
      cases p with
      | false =>
        go_wp2
        go_ret
        exact ⟨rfl, hb⟩
      | true =>
        go_wp2_with fail
        refine (hW2 _).mono ?_
        rintro e w3 ⟨rfl, hb3⟩
        replace hb := hb.trans (hb3.mono hb.size)
        clear hW2 hb3
        cases q with
        | false =>
          go_wp2
          go_ret
          exact ⟨rfl, hb⟩
        | true =>
          have hz0 := HZ.out (by simp) (by simp)
          have hz1 : (0 : Int) < (z : Int) := by omega
          go_wp2
          go_ret
          exact ⟨rfl, hb⟩

end Go.Proofs.Ytbhbmiknomdebaa.quorumMeets
