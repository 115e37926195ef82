/-
  No cell of these rows narrows 'for every input' (looked for: loops, veiled, ifaces, maps, wideKeys, modest, calm, conditions, laid).
  DERIVED. THE GIVEN ROWS OF THIS SEAT. 6 by the template 'for every input the law returns true; each argument reads behind the call as it read before'; 0 by the template 'total and deterministic' (their statements: YtmeoooojmhhahaaGreatTotals.lean).
  GIVEN WITH THE SEED: the statements are not yours to turn. If you find one false, say at which input.
  Laid BY PROGRAM, IN A SANDBOX (cutbox-rows.mjs): the forced cells as the released guide's own fill.sh prints them over the translation f8f5d9c6a9787714… (all of the seat's roots in one cut). By AI agents, Wed Nov 11 2026. No macro, syntax, notation, axiom, sorry.
-/
import Derived.Test.YtmeoooojmhhahaaGreatChecked
import GoSem.Claim
import GoSem.ClaimJoined
import GoSem.ClaimMapViews
import Derived.JoinedTies
import Derived.KernelRfl
namespace Go.Proofs.YtmeoooojmhhahaaGreat
/- THE CELL 'sum', in the pinned program and in every row, IS THE sha256 OF THE DUMP (.gsa) THAT YtmeoooojmhhahaaGreatProg.lean LOADS. Nothing in Lean hashes anything: it is a label: what it is worth is what the hold of that sum in a sandbox is worth. -/
noncomputable def Tryz.pinned : Pinned := { name := "ytmeoooojmhhahaagreat", sum := "f8f5d9c6a978771480653322d36829b6d609f81c0d96fe16dfeea61041582c92", checked := Tryz.checked }
namespace Rows
def none {H : Type} : Left H := { results := [], args := [] }

/-- 'decamplaw10.VaultPlays': WHATEVER THE INPUT: true; the input reads as it did. -/
def vaultPlaysSpec : ChangeSpec := { name := "vaultPlays", fn := fun _ => fun
  | [d1, d2] => { results := [.lit (.bool true)], args := [d1, d2] }
  | _ => none }
def vaultPlaysRow : OpenClaim := { program := "ytmeoooojmhhahaagreat", sum := "f8f5d9c6a978771480653322d36829b6d609f81c0d96fe16dfeea61041582c92", func := "decamp/decamplaw10.VaultPlays", spec := "vaultPlays", recurses := true, apart := false }
def VaultPlaysSaid : Prop := vaultPlaysRow.holds Tryz.pinned (OpenSpec.ofChange vaultPlaysSpec)

/-- ITS FALSE NEIGHBOUR: 'it returns false'. Refute it at one input. -/
def vaultPlaysWrong : ChangeSpec := { name := "vaultPlays", fn := fun _ => fun
  | [d1, d2] => { results := [.lit (.bool false)], args := [d1, d2] }
  | _ => none }
def VaultPlaysWrongFalsely : Prop := vaultPlaysRow.holds Tryz.pinned (OpenSpec.ofChange vaultPlaysWrong)

/-- 'decamplaw10.VaultSaves': WHATEVER THE INPUT: true; the input reads as it did. -/
def vaultSavesSpec : ChangeSpec := { name := "vaultSaves", fn := fun _ => fun
  | [d1, d2, d3, d4, d5, d6, d7] => { results := [.lit (.bool true)], args := [d1, d2, d3, d4, d5, d6, d7] }
  | _ => none }
def vaultSavesRow : OpenClaim := { program := "ytmeoooojmhhahaagreat", sum := "f8f5d9c6a978771480653322d36829b6d609f81c0d96fe16dfeea61041582c92", func := "decamp/decamplaw10.VaultSaves", spec := "vaultSaves", recurses := true, apart := false }
def VaultSavesSaid : Prop := vaultSavesRow.holds Tryz.pinned (OpenSpec.ofChange vaultSavesSpec)

/-- ITS FALSE NEIGHBOUR: 'it returns false'. Refute it at one input. -/
def vaultSavesWrong : ChangeSpec := { name := "vaultSaves", fn := fun _ => fun
  | [d1, d2, d3, d4, d5, d6, d7] => { results := [.lit (.bool false)], args := [d1, d2, d3, d4, d5, d6, d7] }
  | _ => none }
def VaultSavesWrongFalsely : Prop := vaultSavesRow.holds Tryz.pinned (OpenSpec.ofChange vaultSavesWrong)

/-- 'decamplaw10.VaultKeeps': WHATEVER THE INPUT: true; the input reads as it did. -/
def vaultKeepsSpec : ChangeSpec := { name := "vaultKeeps", fn := fun _ => fun
  | [d1, d2, d3, d4, d5, d6, d7] => { results := [.lit (.bool true)], args := [d1, d2, d3, d4, d5, d6, d7] }
  | _ => none }
def vaultKeepsRow : OpenClaim := { program := "ytmeoooojmhhahaagreat", sum := "f8f5d9c6a978771480653322d36829b6d609f81c0d96fe16dfeea61041582c92", func := "decamp/decamplaw10.VaultKeeps", spec := "vaultKeeps", recurses := true, apart := false }
def VaultKeepsSaid : Prop := vaultKeepsRow.holds Tryz.pinned (OpenSpec.ofChange vaultKeepsSpec)

/-- ITS FALSE NEIGHBOUR: 'it returns false'. Refute it at one input. -/
def vaultKeepsWrong : ChangeSpec := { name := "vaultKeeps", fn := fun _ => fun
  | [d1, d2, d3, d4, d5, d6, d7] => { results := [.lit (.bool false)], args := [d1, d2, d3, d4, d5, d6, d7] }
  | _ => none }
def VaultKeepsWrongFalsely : Prop := vaultKeepsRow.holds Tryz.pinned (OpenSpec.ofChange vaultKeepsWrong)

/-- 'decamplaw10.VaultNil': WHATEVER THE INPUT: true; the input reads as it did. -/
def vaultNilSpec : ChangeSpec := { name := "vaultNil", fn := fun _ => fun
  | [d1, d2, d3] => { results := [.lit (.bool true)], args := [d1, d2, d3] }
  | _ => none }
def vaultNilRow : OpenClaim := { program := "ytmeoooojmhhahaagreat", sum := "f8f5d9c6a978771480653322d36829b6d609f81c0d96fe16dfeea61041582c92", func := "decamp/decamplaw10.VaultNil", spec := "vaultNil", recurses := true, apart := false }
def VaultNilSaid : Prop := vaultNilRow.holds Tryz.pinned (OpenSpec.ofChange vaultNilSpec)

/-- ITS FALSE NEIGHBOUR: 'it returns false'. Refute it at one input. -/
def vaultNilWrong : ChangeSpec := { name := "vaultNil", fn := fun _ => fun
  | [d1, d2, d3] => { results := [.lit (.bool false)], args := [d1, d2, d3] }
  | _ => none }
def VaultNilWrongFalsely : Prop := vaultNilRow.holds Tryz.pinned (OpenSpec.ofChange vaultNilWrong)

/-- 'decamplaw10.VaultTurned': WHATEVER THE INPUT: true; the input reads as it did. -/
def vaultTurnedSpec : ChangeSpec := { name := "vaultTurned", fn := fun _ => fun
  | [d1, d2, d3, d4] => { results := [.lit (.bool true)], args := [d1, d2, d3, d4] }
  | _ => none }
def vaultTurnedRow : OpenClaim := { program := "ytmeoooojmhhahaagreat", sum := "f8f5d9c6a978771480653322d36829b6d609f81c0d96fe16dfeea61041582c92", func := "decamp/decamplaw10.VaultTurned", spec := "vaultTurned", recurses := true, apart := false }
def VaultTurnedSaid : Prop := vaultTurnedRow.holds Tryz.pinned (OpenSpec.ofChange vaultTurnedSpec)

/-- ITS FALSE NEIGHBOUR: 'it returns false'. Refute it at one input. -/
def vaultTurnedWrong : ChangeSpec := { name := "vaultTurned", fn := fun _ => fun
  | [d1, d2, d3, d4] => { results := [.lit (.bool false)], args := [d1, d2, d3, d4] }
  | _ => none }
def VaultTurnedWrongFalsely : Prop := vaultTurnedRow.holds Tryz.pinned (OpenSpec.ofChange vaultTurnedWrong)

/-- 'decamplaw10.VaultGoesOn': WHATEVER THE INPUT: true; the input reads as it did. -/
def vaultGoesOnSpec : ChangeSpec := { name := "vaultGoesOn", fn := fun _ => fun
  | [d1, d2, d3, d4, d5, d6, d7, d8] => { results := [.lit (.bool true)], args := [d1, d2, d3, d4, d5, d6, d7, d8] }
  | _ => none }
def vaultGoesOnRow : OpenClaim := { program := "ytmeoooojmhhahaagreat", sum := "f8f5d9c6a978771480653322d36829b6d609f81c0d96fe16dfeea61041582c92", func := "decamp/decamplaw10.VaultGoesOn", spec := "vaultGoesOn", recurses := true, apart := false }
def VaultGoesOnSaid : Prop := vaultGoesOnRow.holds Tryz.pinned (OpenSpec.ofChange vaultGoesOnSpec)

/-- ITS FALSE NEIGHBOUR: 'it returns false'. Refute it at one input. -/
def vaultGoesOnWrong : ChangeSpec := { name := "vaultGoesOn", fn := fun _ => fun
  | [d1, d2, d3, d4, d5, d6, d7, d8] => { results := [.lit (.bool false)], args := [d1, d2, d3, d4, d5, d6, d7, d8] }
  | _ => none }
def VaultGoesOnWrongFalsely : Prop := vaultGoesOnRow.holds Tryz.pinned (OpenSpec.ofChange vaultGoesOnWrong)

/- THE SECOND FORM. 'bulk': how many values and letters a reading holds, each counted each time it is reached (what is shared counts as often as it is met; a slice's spare places count too). A statement '..UptoSaid' is the law's where the arguments, and the package variables that the reading takes, are together of bulk at most 1048576: NARROWER than '..Said'. Prove '..Said' where nothing that the law and all that it calls make is longer than what came in: it says more and counts as full. Else prove '..UptoSaid'. A law counts once. -/
mutual
def uptoBulk {H : Type} : DataW H → Nat
  | .lit (.string bytes) => bytes.length + 1
  | .lit _ => 1
  | .nil => 1
  | .ptr d => uptoBulk d + 1
  | .slice elems spare => uptoBulkAll elems + uptoBulkAll spare + 1
  | .agg parts => uptoBulkAll parts + 1
  | .iface _ d => uptoBulk d + 1
  | .map entries => uptoBulkEntries entries + 1
  | .held _ => 1
def uptoBulkAll {H : Type} : List (DataW H) → Nat
  | [] => 0
  | d :: r => uptoBulk d + uptoBulkAll r
def uptoBulkEntries {H : Type} : List (Lit × DataW H) → Nat
  | [] => 0
  | x :: r => uptoBulkEntry x + uptoBulkEntries r
def uptoBulkEntry {H : Type} : Lit × DataW H → Nat
  | (.string bytes, d) => bytes.length + uptoBulk d + 1
  | (_, d) => uptoBulk d + 1
 end
def uptoSmall : (H : Type) → List (DataW H) → Bool := fun _ ds => decide (uptoBulkAll ds ≤ 1048576)
def OpenSpec.upto (s : _root_.Go.ChangeSpec) : _root_.Go.OpenSpec := { _root_.Go.OpenSpec.ofChange s with cond := some uptoSmall }

/-- 'decamplaw10.VaultPlays', WHERE WHAT IT READS IS OF BULK AT MOST 1048576: true; the input reads as it did. -/
def vaultPlaysUptoRow : OpenClaim := { program := "ytmeoooojmhhahaagreat", sum := "f8f5d9c6a978771480653322d36829b6d609f81c0d96fe16dfeea61041582c92", func := "decamp/decamplaw10.VaultPlays", spec := "vaultPlays", recurses := true, apart := false, narrowed := true }
def VaultPlaysUptoSaid : Prop := vaultPlaysUptoRow.holds Tryz.pinned (OpenSpec.upto vaultPlaysSpec)

/-- 'decamplaw10.VaultSaves', WHERE WHAT IT READS IS OF BULK AT MOST 1048576: true; the input reads as it did. -/
def vaultSavesUptoRow : OpenClaim := { program := "ytmeoooojmhhahaagreat", sum := "f8f5d9c6a978771480653322d36829b6d609f81c0d96fe16dfeea61041582c92", func := "decamp/decamplaw10.VaultSaves", spec := "vaultSaves", recurses := true, apart := false, narrowed := true }
def VaultSavesUptoSaid : Prop := vaultSavesUptoRow.holds Tryz.pinned (OpenSpec.upto vaultSavesSpec)

/-- 'decamplaw10.VaultKeeps', WHERE WHAT IT READS IS OF BULK AT MOST 1048576: true; the input reads as it did. -/
def vaultKeepsUptoRow : OpenClaim := { program := "ytmeoooojmhhahaagreat", sum := "f8f5d9c6a978771480653322d36829b6d609f81c0d96fe16dfeea61041582c92", func := "decamp/decamplaw10.VaultKeeps", spec := "vaultKeeps", recurses := true, apart := false, narrowed := true }
def VaultKeepsUptoSaid : Prop := vaultKeepsUptoRow.holds Tryz.pinned (OpenSpec.upto vaultKeepsSpec)

/-- 'decamplaw10.VaultNil', WHERE WHAT IT READS IS OF BULK AT MOST 1048576: true; the input reads as it did. -/
def vaultNilUptoRow : OpenClaim := { program := "ytmeoooojmhhahaagreat", sum := "f8f5d9c6a978771480653322d36829b6d609f81c0d96fe16dfeea61041582c92", func := "decamp/decamplaw10.VaultNil", spec := "vaultNil", recurses := true, apart := false, narrowed := true }
def VaultNilUptoSaid : Prop := vaultNilUptoRow.holds Tryz.pinned (OpenSpec.upto vaultNilSpec)

/-- 'decamplaw10.VaultTurned', WHERE WHAT IT READS IS OF BULK AT MOST 1048576: true; the input reads as it did. -/
def vaultTurnedUptoRow : OpenClaim := { program := "ytmeoooojmhhahaagreat", sum := "f8f5d9c6a978771480653322d36829b6d609f81c0d96fe16dfeea61041582c92", func := "decamp/decamplaw10.VaultTurned", spec := "vaultTurned", recurses := true, apart := false, narrowed := true }
def VaultTurnedUptoSaid : Prop := vaultTurnedUptoRow.holds Tryz.pinned (OpenSpec.upto vaultTurnedSpec)

/-- 'decamplaw10.VaultGoesOn', WHERE WHAT IT READS IS OF BULK AT MOST 1048576: true; the input reads as it did. -/
def vaultGoesOnUptoRow : OpenClaim := { program := "ytmeoooojmhhahaagreat", sum := "f8f5d9c6a978771480653322d36829b6d609f81c0d96fe16dfeea61041582c92", func := "decamp/decamplaw10.VaultGoesOn", spec := "vaultGoesOn", recurses := true, apart := false, narrowed := true }
def VaultGoesOnUptoSaid : Prop := vaultGoesOnUptoRow.holds Tryz.pinned (OpenSpec.upto vaultGoesOnSpec)

end Rows
end Go.Proofs.YtmeoooojmhhahaaGreat
