/- VaultGoesOn's walk, whole. -/
import Derived.Test.YtmeoooojmhhahaaGreatVauGo
import Derived.Test.YtmeoooojmhhahaaGreatVauGoN
namespace Go.Proofs.YtmeoooojmhhahaaGreat.vauGoesOn
open Go.ChangeShapes Go.WideShapes Go.ChangeAt Go.RowKit Go.Proofs.YtmeoooojmhhahaaGreat
set_option linter.unusedVariables false
set_option linter.unusedSimpArgs false

theorem walk (h : Hd) (A : Option Addr) (len cap : Nat) (l : List Ent) (nx : Hd) (si st : Int) (sd : List UInt8) (B : Option Addr) (c : Nat) (fz : Int) (A3 : Option Addr) (len3 cap3 : Nat) (Yk : Nat → Int) (term my : Int) (W : World)
    (hl : Lies W B sd.length c sd) (hE : Ents W (· < W.heap.size) A len cap l) (hm1 : len ≤ maxLen) (hd1 : ∀ e ∈ l, e.d.length ≤ 140737488355328) (hz : 0 ≤ fz ∧ fz < 256) (hy : 0 ≤ my ∧ my < 256) (hte : -9223372036854775808 ≤ term ∧ term ≤ 9223372036854775807) (hKR : RI W A3 len3 Yk) (hlc3 : len3 ≤ cap3) :
    Calls Tryz.prog 8 #[.agg #[.int .i64 h.t, .int .i64 h.v], .slice A len cap, .agg #[.int .i64 nx.t, .int .i64 nx.v], entV si st B sd.length c, .int .u8 fz, .slice A3 len3 cap3, .int .i64 term, .int .u8 my] W fun e w' => e = .returned (.bool true) ∧ Below W.heap.size W w' := by
  obtain rfl := hE.1
  obtain ⟨n, rfl⟩ := Int.eq_ofNat_of_zero_le hz.1
  obtain ⟨m, rfl⟩ := Int.eq_ofNat_of_zero_le hy.1
  have no := walk_no h A cap l nx si st sd B c n A3 len3 cap3 term m W hl hE hm1 hd1
  cases h1 : fewE l 10 with
  | false => exact no (.inl h1)
  | true =>
    by_cases hs : sd.length ≤ 2000
    · by_cases h9 : len3 ≤ 9
      · cases h4 : hardB h.t h.v with
        | false => exact no (.inr (.inr (.inr (.inl ⟨h1, hs, h9, h4⟩))))
        | true =>
          cases h5 : hardB nx.t nx.v with
          | false => exact no (.inr (.inr (.inr (.inr (.inl ⟨h1, hs, h9, h4, h5⟩)))))
          | true =>
            cases h6 : snapB si st sd.length with
            | false => exact no (.inr (.inr (.inr (.inr (.inr (.inl ⟨h1, hs, h9, h4, h5, h6⟩))))))
            | true =>
              by_cases h7 : si = 0
              · exact no (.inr (.inr (.inr (.inr (.inr (.inr (.inl ⟨h1, hs, h9, h4, h5, h6, h7⟩)))))))
              · by_cases h8 : si ≤ 549755813888
                · exact walk_yes h A cap l nx si st sd B c n A3 len3 cap3 term m W Yk hl hE h1 hs h4 h5 h6 h7 h8 (by omega) (by omega) hte hKR hlc3 h9
                · exact no (.inr (.inr (.inr (.inr (.inr (.inr (.inr ⟨h1, hs, h9, h4, h5, h6, h7, by omega⟩)))))))
      · exact no (.inr (.inr (.inl ⟨h1, hs, by omega⟩)))
    · exact no (.inr (.inl ⟨h1, by omega⟩))
end Go.Proofs.YtmeoooojmhhahaaGreat.vauGoesOn
