/- The laws' own first question. -/
import Derived.Test.YthjbieocffklfaaQueCS
import Derived.Deep.QuietTactic
import Derived.BigQuiet
import Derived.Deep.RegionWith
namespace Go.Proofs.Ythjbieocffklfaa.QueS
open Go.RowKit Go.Conc Go.Proofs.Ythjbieocffklfaa
set_option linter.unusedVariables false

set_option maxRecDepth 100000 in
theorem awake_any (w : World) : Calls Try.prog 7 #[] w fun e w' => e = .returned (.bool true) ∧ Below w.heap.size w w' := by
  go_enter Try.func7, Try.ntmps7
  go_wp2_with (first
    | (go_at_call 8; refine (new_good 2 (by omega) (by omega) _).mono ?_; rintro e w1 ⟨q, c, rfl, hq1, hb1⟩; have hc1 : w.heap.size ≤ c := Nat.le_of_not_lt hq1.nc; replace hq1 := hq1.out (fun _ => False) (fun k hk => hk.elim))
    | (go_at_call_of 10 (Value.string ⟨#[97]⟩); refine (put_room ⟨#[97]⟩ _ q c _ _ _ hq1 (by simp) (fun k hk => hk.elim)).mono ?_; rintro e w2 ⟨rfl, hq2, hg2⟩; have hb2 := hb1.grown hg2 hb1.size (fun k e => by injection e with e; omega))
    | (go_at_call_of 10 (Value.string ⟨#[98]⟩); refine (put_room ⟨#[98]⟩ _ q c _ _ _ hq2 (by simp) (fun k hk => hk.elim)).mono ?_; rintro e w3 ⟨rfl, hq3, hg3⟩; have hb3 := hb2.grown hg3 hb2.size (fun k e => by injection e with e; omega))
    | (go_at_call 9; refine (take_some ⟨#[97]⟩ _ q c _ _ _ hq3).mono ?_; rintro e w4 ⟨rfl, hq4, hg4⟩; have hb4 := hb3.grown hg4 hb3.size (fun k e => by injection e with e; omega))
    | (go_at_call 11; refine (len_any _ q c _ _ _ hq4).mono ?_; rintro e w5 ⟨rfl, rfl⟩))
  go_ret
  exact ⟨rfl, hb4⟩

end Go.Proofs.Ythjbieocffklfaa.QueS
