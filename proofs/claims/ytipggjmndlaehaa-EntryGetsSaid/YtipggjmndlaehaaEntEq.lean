/- What is hard, compared; entries compared with themselves. -/
import Derived.Test.YtipggjmndlaehaaEntAwake
import Derived.Test.YtipggjmndlaehaaEntBack
import Derived.Test.YtipggjmndlaehaaEntProgF
import Derived.Laws.StructEq
import Derived.Laws.Tables
import Derived.Laws.Cover2
import Derived.Deep.RegionHeld3
import Derived.Deep.RegionWith
import Derived.Deep.RegionLaw
import Derived.Deep.Cut
import Derived.Deep.DeepCutAuto
namespace Go.Proofs.Ytipggjmndlaehaa
open Go.ChangeShapes Go.WideShapes Go.ChangeAt Go.RowKit
set_option linter.unusedVariables false
set_option linter.unusedSimpArgs false

theorem eqin_hard (a b : Int) (w : World) : (Op.equalIn 10000 24 (.agg #[.int .i64 a, .int .i64 b]) (.agg #[.int .i64 a, .int .i64 b])).run Try.prog w = .ok true w := by
  have u3 := Try.underlying2
  have a3 := Try.isAgg2
  have z3 := Try.sizeOf2
  have u4 := Try.underlying3
  have a4 := Try.isAgg3
  have z4 := Try.sizeOf3
  rw [show (10000 : Nat) = 9999 + 1 from rfl, run_equalIn_struct w 9999 24 _ _ (by kernel_rfl) (by kernel_rfl)]
  rw [show (Try.prog.fieldsOf 24).toList = _ from by unfold Program.fieldsOf; rw [Try.underlying24]]
  simp only [Op.eqFields]
  go_simp

theorem eq_hard (a b : Int) (w : World) : (binOp .eql 24 (.agg #[.int .i64 a, .int .i64 b]) (.agg #[.int .i64 a, .int .i64 b])).run Try.prog w = .ok (.bool true) w := by
  rw [run_eql_struct, eqin_hard]
  rfl

theorem oneB_self (i t : Int) (d : List UInt8) : oneB i t d i t d = true := by simp [oneB]

end Go.Proofs.Ytipggjmndlaehaa
