/- VaultPlays' walk, whole. -/
import Derived.Test.YtmeoooojmhhahaaGreatTVauPlw
set_option linter.unusedVariables false
set_option linter.unusedSimpArgs false
set_option maxRecDepth 100000
set_option maxHeartbeats 200000
namespace Go.Proofs.YtmeoooojmhhahaaGreat.vauPlays
open Go.ChangeShapes Go.WideShapes Go.ChangeAt Go.RowKit Go.Proofs.YtmeoooojmhhahaaGreat
theorem walk (room : Int) (hroom : 0 <= room /\ room <= 65535) (A0 : Option Addr) (len0 cap0 : Nat) (a : Nat -> VAct) (W : World) (h1 : qbC W A0 len0 a) (hm : len0 <= maxLen) (hd : ∀ j,j < len0 -> ∀ e ∈ (a j).l,e.d.length <= 140737488355328) :
 Calls Tryz.prog 3 #[.int .u16 room, .slice A0 len0 cap0] W fun e w' => e = .returned (.bool true) /\ Below W.heap.size W w' := by
 obtain ⟨n,rfl⟩ := Int.eq_ofNat_of_zero_le hroom.1
 cases hf : few10B a len0 40 with
 | false => exact ql6 n (by omega) A0 len0 cap0 a W h1 hm hd hf
 | true => exact qlC n (by omega) A0 len0 cap0 a W h1 hm hd hf
end Go.Proofs.YtmeoooojmhhahaaGreat.vauPlays
