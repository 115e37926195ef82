/- VaultSaves' walk, whole. -/
import Derived.Test.YtmeoooojmhhahaaGreatVauSav
namespace Go.Proofs.YtmeoooojmhhahaaGreat.vauSaves
open Go.ChangeShapes Go.WideShapes Go.ChangeAt Go.RowKit Go.Proofs.YtmeoooojmhhahaaGreat
set_option linter.unusedVariables false
set_option linter.unusedSimpArgs false

theorem walk (h : Hd) (s : Ent) (B : Option Addr) (c : Nat) (A : Option Addr) (len cap : Nat) (l : List Ent) (nx : Hd) (A2 : Option Addr) (len2 cap2 : Nat) (more : List Ent) (fz : Int) (kp : Int) (W : World)
    (hl : Lies W B s.d.length c s.d) (hE : Ents W (· < W.heap.size) A len cap l) (hE2 : Ents W (· < W.heap.size) A2 len2 cap2 more) (hm1 : len ≤ maxLen) (hm2 : len2 ≤ maxLen) (hd1 : ∀ e ∈ l, e.d.length ≤ 140737488355328) (hd2 : ∀ e ∈ more, e.d.length ≤ 140737488355328) (hz : 0 ≤ fz ∧ fz < 256) (hkp : -9223372036854775808 ≤ kp ∧ kp ≤ 9223372036854775807) :
    Calls Tryz.prog 4 #[.agg #[.int .i64 h.t, .int .i64 h.v], entV s.i s.t B s.d.length c, .slice A len cap, .agg #[.int .i64 nx.t, .int .i64 nx.v], .slice A2 len2 cap2, .int .u8 fz, .int .i64 kp] W fun e w' => e = .returned (.bool true) ∧ Below W.heap.size W w' := by
  obtain rfl := hE.1
  obtain rfl := hE2.1
  obtain ⟨n, rfl⟩ := Int.eq_ofNat_of_zero_le hz.1
  have no := walk_no h s B c A cap l nx A2 cap2 more n kp W hl hE hE2 hm1 hm2 hd1 hd2
  cases h1 : fewE l 10 with
  | false => exact no (.inl h1)
  | true =>
    cases h2 : fewE more 10 with
    | false => exact no (.inr (.inl ⟨h1, h2⟩))
    | true =>
      by_cases hs : s.d.length ≤ 2000
      · cases h4 : hardB h.t h.v with
        | false => exact no (.inr (.inr (.inr (.inl ⟨h1, h2, hs, h4⟩))))
        | true =>
          cases h5 : hardB nx.t nx.v with
          | false => exact no (.inr (.inr (.inr (.inr ⟨h1, h2, hs, h4, h5⟩))))
          | true => exact walk_yes h s B c A cap l nx A2 cap2 more n kp W hl hE hE2 h1 h2 hs h4 h5 (by omega) hkp
      · exact no (.inr (.inr (.inl ⟨h1, h2, by omega⟩)))
end Go.Proofs.YtmeoooojmhhahaaGreat.vauSaves
