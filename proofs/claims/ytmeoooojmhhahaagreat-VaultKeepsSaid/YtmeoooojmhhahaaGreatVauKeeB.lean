/- VaultKeeps' walk, whole. -/
import Derived.Test.YtmeoooojmhhahaaGreatVauKee
import Derived.Test.YtmeoooojmhhahaaGreatVauKeeN
namespace Go.Proofs.YtmeoooojmhhahaaGreat.vauKeeps
open Go.ChangeShapes Go.WideShapes Go.ChangeAt Go.RowKit Go.Proofs.YtmeoooojmhhahaaGreat
set_option linter.unusedVariables false
set_option linter.unusedSimpArgs false

theorem walk (h : Hd) (A : Option Addr) (len cap : Nat) (l : List Ent) (nx : Hd) (si st : Int) (sd : List UInt8) (B : Option Addr) (c : Nat) (A2 : Option Addr) (len2 cap2 : Nat) (more : List Ent) (fz : Int) (A3 : Option Addr) (len3 cap3 : Nat) (Yk : Nat → Int) (W : World)
    (hl : Lies W B sd.length c sd) (hE : Ents W (· < W.heap.size) A len cap l) (hE2 : Ents W (· < W.heap.size) A2 len2 cap2 more) (hm1 : len ≤ maxLen) (hm2 : len2 ≤ maxLen) (hd1 : ∀ e ∈ l, e.d.length ≤ 140737488355328) (hd2 : ∀ e ∈ more, e.d.length ≤ 140737488355328) (hz : 0 ≤ fz ∧ fz < 256) (hKR : RI W A3 len3 Yk) (hlc3 : len3 ≤ cap3) :
    Calls Tryz.prog 5 #[.agg #[.int .i64 h.t, .int .i64 h.v], .slice A len cap, .agg #[.int .i64 nx.t, .int .i64 nx.v], entV si st B sd.length c, .slice A2 len2 cap2, .int .u8 fz, .slice A3 len3 cap3] W fun e w' => e = .returned (.bool true) ∧ Below W.heap.size W w' := by
  obtain rfl := hE.1
  obtain rfl := hE2.1
  obtain ⟨n, rfl⟩ := Int.eq_ofNat_of_zero_le hz.1
  have no := walk_no h A cap l nx si st sd B c A2 cap2 more n A3 len3 cap3 W hl hE hE2 hm1 hm2 hd1 hd2
  cases h1 : fewE l 10 with
  | false => exact no (.inl h1)
  | true =>
    cases h2 : fewE more 10 with
    | false => exact no (.inr (.inl ⟨h1, h2⟩))
    | true =>
      by_cases hs : sd.length ≤ 2000
      · by_cases h9 : len3 ≤ 9
        · cases h5 : hardB h.t h.v with
          | false => exact no (.inr (.inr (.inr (.inr (.inl ⟨h1, h2, hs, h9, h5⟩)))))
          | true =>
            cases h6 : hardB nx.t nx.v with
            | false => exact no (.inr (.inr (.inr (.inr (.inr (.inl ⟨h1, h2, hs, h9, h5, h6⟩))))))
            | true =>
              cases h7 : snapB si st sd.length with
              | false => exact no (.inr (.inr (.inr (.inr (.inr (.inr (.inl ⟨h1, h2, hs, h9, h5, h6, h7⟩)))))))
              | true =>
                by_cases h8 : si = 0
                · exact no (.inr (.inr (.inr (.inr (.inr (.inr (.inr (.inl ⟨h1, h2, hs, h9, h5, h6, h7, h8⟩))))))))
                · cases h10 : runB si st more with
                  | false => exact no (.inr (.inr (.inr (.inr (.inr (.inr (.inr (.inr ⟨h1, h2, hs, h9, h5, h6, h7, h8, h10⟩))))))))
                  | true => exact walk_yes h A cap l nx si st sd B c A2 cap2 more n A3 len3 cap3 W Yk hl hE hE2 h1 h2 hs h5 h6 h7 h8 h10 (by omega) hKR hlc3 h9
        · exact no (.inr (.inr (.inr (.inl ⟨h1, h2, hs, by omega⟩))))
      · exact no (.inr (.inr (.inl ⟨h1, h2, by omega⟩)))
end Go.Proofs.YtmeoooojmhhahaaGreat.vauKeeps
