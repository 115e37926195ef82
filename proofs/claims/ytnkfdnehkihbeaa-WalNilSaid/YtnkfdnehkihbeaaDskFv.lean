/- What a map of files has of each: where its bytes lie, and what they are. -/
import Derived.Test.YtnkfdnehkihbeaaByt
namespace Go.Proofs.Ytnkfdnehkihbeaa
open Go.RowKit

/-- A file's slice, its bytes, and how many are safe. -/
structure FV where
  A : Option Addr
  cap : Nat
  l : List UInt8
  safe : Nat

abbrev fvS (v : FV) : Value := .slice v.A v.l.length v.cap
abbrev fvN (v : FV) : Value := .int .i64 ((v.safe : Nat) : Int)
abbrev fvV (v : FV) : Value := .agg #[fvS v, fvN v]

end Go.Proofs.Ytnkfdnehkihbeaa
