/- Bytes in memory: slices, an Out, an In; numbers as bytes. -/
import Derived.Test.YtlojjodgoeclfaaCmn
import Derived.Test.YtlojjodgoeclfaaWide
import Derived.WalkKit
import Derived.Laws.AppendOwn
import Derived.Deep.AppendLies
import Derived.OwnWalk
import Derived.Lib.AppendStr
import Derived.Maps.AppendAt
namespace Go.Proofs.Ytlojjodgoeclfaa
open Go.RowKit
set_option linter.unusedVariables false
set_option linter.unusedSimpArgs false

/- numbers -/

/- what is taken: none is bad -/

/- frames -/

section
variable {Z Z' : Nat → Prop} {w w' w'' : World}

end

/- slices of bytes -/

section
set_option linter.unusedSectionVars false
variable {w w' : World} {A : Option Addr} {len cap : Nat} {l : List UInt8} {Z : Nat → Prop}

end

end Go.Proofs.Ytlojjodgoeclfaa
