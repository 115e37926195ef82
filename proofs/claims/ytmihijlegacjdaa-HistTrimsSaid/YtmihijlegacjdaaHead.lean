/- What layer 12's walks import of the library. -/
import Derived.WalkKit
import Derived.Outline
import Derived.Deep.Cut
import Derived.Deep.DeepCutAuto
import Derived.Deep.RegionLaw
import Derived.Deep.RegionHeld3
import Derived.BigQuiet
import Derived.StillTailTactics
import Derived.RegionTactic
import Derived.Laws.Tables
import Derived.Lib.Hide
namespace Go.Proofs.Ytmihijlegacjdaa
end Go.Proofs.Ytmihijlegacjdaa
