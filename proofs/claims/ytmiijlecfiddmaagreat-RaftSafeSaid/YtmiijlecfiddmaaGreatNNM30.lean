/- A region of made: in whatever order four rows grow. (Written by mkmade.py.) -/
import Derived.Test.YtmiijlecfiddmaaGreatNNM01
import Derived.Test.YtmiijlecfiddmaaGreatNNM29
set_option linter.unusedVariables false
set_option linter.unusedSimpArgs false
set_option maxRecDepth 100000
set_option maxHeartbeats 200000
namespace Go.Proofs.YtmiijlecfiddmaaGreat
open Go.RowKit Go.Shelf
attribute [local go_sem] Oper.semAt_some
def qdX : Array Oper := #[⟨some 23, .move (.tmp 3), 59, "sim.go:45", #[], none⟩,⟨some 24, .move (.tmp 3), 59, "sim.go:45", #[⟨33, .gcOnly .lateStores⟩], none⟩,⟨some 25, .move (.tmp 3), 59, "sim.go:45", #[⟨36, .gcOnly .lateStores⟩], none⟩,⟨some 26, .move (.tmp 3), 59, "sim.go:45", #[⟨39, .gcOnly .lateStores⟩], none⟩,⟨some 27, .move (.tmp 3), 59, "sim.go:45", #[], none⟩,⟨some 28, .nilCheck (.tmp 27), 0, "sim.go:45", #[⟨4, .data⟩], none⟩,⟨some 29, .fieldAddr 73 (.tmp 28) 0, 0, "sim.go:45", #[⟨5, .data⟩], none⟩,⟨some 30, .load 66 (.tmp 29), 66, "sim.go:45", #[⟨6, .data⟩], none⟩,⟨some 31, .move (.tmp 5), 33, "sim.go:45", #[], none⟩,⟨some 32, .buildSlice 66 1 #[(0,.tmp 31)], 66, "sim.go:45", #[⟨8, .data⟩], none⟩,⟨some 33, .call ⟨.builtin .append, #[.tmp 30,.tmp 32], #[66,66]⟩, 66, "sim.go:45", #[⟨7, .data⟩,⟨9, .data⟩], none⟩,⟨some 34, .move (.tmp 3), 59, "sim.go:45", #[], none⟩,⟨some 35, .nilCheck (.tmp 34), 0, "sim.go:45", #[⟨11, .data⟩], none⟩,⟨some 36, .fieldAddr 73 (.tmp 35) 1, 0, "sim.go:45", #[⟨12, .data⟩], none⟩,⟨some 37, .load 67 (.tmp 36), 67, "sim.go:45", #[⟨13, .data⟩], none⟩,⟨some 38, .build 40 #[(1,.const (.int .i64 (-1)))], 40, "sim.go:45", #[], none⟩,⟨some 39, .buildSlice 67 1 #[(0,.tmp 38)], 67, "sim.go:45", #[⟨15, .data⟩], none⟩,⟨some 40, .call ⟨.builtin .append, #[.tmp 37,.tmp 39], #[67,67]⟩, 67, "sim.go:45", #[⟨14, .data⟩,⟨16, .data⟩,⟨10, .chain⟩], none⟩,⟨some 41, .move (.tmp 3), 59, "sim.go:45", #[], none⟩,⟨some 42, .nilCheck (.tmp 41), 0, "sim.go:45", #[⟨18, .data⟩], none⟩,⟨some 43, .fieldAddr 73 (.tmp 42) 2, 0, "sim.go:45", #[⟨19, .data⟩], none⟩,⟨some 44, .load 68 (.tmp 43), 68, "sim.go:45", #[⟨20, .data⟩], none⟩,⟨some 45, .build 25 #[], 25, "sim.go:45", #[], none⟩,⟨some 46, .buildSlice 68 1 #[(0,.tmp 45)], 68, "sim.go:45", #[⟨22, .data⟩], none⟩,⟨some 47, .call ⟨.builtin .append, #[.tmp 44,.tmp 46], #[68,68]⟩, 68, "sim.go:45", #[⟨21, .data⟩,⟨23, .data⟩,⟨17, .chain⟩], none⟩,⟨some 48, .move (.tmp 3), 59, "sim.go:45", #[], none⟩,⟨some 49, .nilCheck (.tmp 48), 0, "sim.go:45", #[⟨25, .data⟩], none⟩,⟨some 50, .fieldAddr 73 (.tmp 49) 3, 0, "sim.go:45", #[⟨26, .data⟩], none⟩,⟨some 51, .load 69 (.tmp 50), 69, "sim.go:45", #[⟨27, .data⟩], none⟩,⟨some 52, .buildSlice 69 1 #[(0,.const (.slice none 0 0))], 69, "sim.go:45", #[], none⟩,⟨some 53, .call ⟨.builtin .append, #[.tmp 51,.tmp 52], #[69,69]⟩, 69, "sim.go:45", #[⟨28, .data⟩,⟨29, .data⟩,⟨24, .chain⟩], none⟩,⟨some 54, .nilCheck (.tmp 23), 0, "sim.go:45", #[⟨0, .data⟩,⟨0, .phase⟩,⟨1, .textOnly .lateStores⟩,⟨2, .textOnly .lateStores⟩,⟨3, .textOnly .lateStores⟩,⟨4, .phase⟩,⟨5, .phase⟩,⟨6, .phase⟩,⟨7, .phase⟩,⟨8, .phase⟩,⟨9, .phase⟩,⟨10, .phase⟩,⟨11, .textOnly .lateStores⟩,⟨12, .textOnly .lateStoresUnsure⟩,⟨13, .textOnly .lateStoresUnsure⟩,⟨14, .phase⟩,⟨15, .textOnly .lateStoresUnsure⟩,⟨16, .textOnly .lateStoresUnsure⟩,⟨17, .phase⟩,⟨18, .textOnly .lateStores⟩,⟨19, .textOnly .lateStoresUnsure⟩,⟨20, .textOnly .lateStoresUnsure⟩,⟨21, .phase⟩,⟨22, .textOnly .lateStoresUnsure⟩,⟨23, .textOnly .lateStoresUnsure⟩,⟨24, .phase⟩,⟨25, .textOnly .lateStores⟩,⟨26, .textOnly .lateStoresUnsure⟩,⟨27, .textOnly .lateStoresUnsure⟩,⟨28, .phase⟩,⟨29, .textOnly .lateStoresUnsure⟩,⟨30, .phase⟩], none⟩,⟨some 55, .fieldAddr 73 (.tmp 54) 0, 0, "sim.go:45", #[⟨31, .data⟩,⟨0, .phase⟩,⟨1, .textOnly .lateStores⟩,⟨2, .textOnly .lateStores⟩,⟨3, .textOnly .lateStores⟩,⟨4, .phase⟩,⟨5, .phase⟩,⟨6, .phase⟩,⟨7, .phase⟩,⟨8, .phase⟩,⟨9, .phase⟩,⟨10, .phase⟩,⟨11, .textOnly .lateStores⟩,⟨12, .textOnly .lateStoresUnsure⟩,⟨13, .textOnly .lateStoresUnsure⟩,⟨14, .phase⟩,⟨15, .textOnly .lateStoresUnsure⟩,⟨16, .textOnly .lateStoresUnsure⟩,⟨17, .phase⟩,⟨18, .textOnly .lateStores⟩,⟨19, .textOnly .lateStoresUnsure⟩,⟨20, .textOnly .lateStoresUnsure⟩,⟨21, .phase⟩,⟨22, .textOnly .lateStoresUnsure⟩,⟨23, .textOnly .lateStoresUnsure⟩,⟨24, .phase⟩,⟨25, .textOnly .lateStores⟩,⟨26, .textOnly .lateStoresUnsure⟩,⟨27, .textOnly .lateStoresUnsure⟩,⟨28, .phase⟩,⟨29, .textOnly .lateStoresUnsure⟩,⟨30, .phase⟩], none⟩,⟨none, .store 66 (.tmp 55) (.tmp 33), 0, "sim.go:45", #[⟨32, .data⟩,⟨10, .data⟩,⟨30, .chain⟩,⟨0, .phase⟩,⟨1, .textOnly .lateStores⟩,⟨2, .textOnly .lateStores⟩,⟨3, .textOnly .lateStores⟩,⟨4, .phase⟩,⟨5, .phase⟩,⟨6, .phase⟩,⟨7, .phase⟩,⟨8, .phase⟩,⟨9, .phase⟩,⟨10, .phase⟩,⟨11, .textOnly .lateStores⟩,⟨12, .textOnly .lateStoresUnsure⟩,⟨13, .textOnly .lateStoresUnsure⟩,⟨14, .phase⟩,⟨15, .textOnly .lateStoresUnsure⟩,⟨16, .textOnly .lateStoresUnsure⟩,⟨17, .phase⟩,⟨18, .textOnly .lateStores⟩,⟨19, .textOnly .lateStoresUnsure⟩,⟨20, .textOnly .lateStoresUnsure⟩,⟨21, .phase⟩,⟨22, .textOnly .lateStoresUnsure⟩,⟨23, .textOnly .lateStoresUnsure⟩,⟨24, .phase⟩,⟨25, .textOnly .lateStores⟩,⟨26, .textOnly .lateStoresUnsure⟩,⟨27, .textOnly .lateStoresUnsure⟩,⟨28, .phase⟩,⟨29, .textOnly .lateStoresUnsure⟩,⟨30, .phase⟩], none⟩,⟨some 56, .nilCheck (.tmp 24), 0, "sim.go:45", #[⟨1, .data⟩,⟨0, .phase⟩,⟨1, .phase⟩,⟨2, .textOnly .lateStores⟩,⟨3, .textOnly .lateStores⟩,⟨4, .phase⟩,⟨5, .phase⟩,⟨6, .phase⟩,⟨7, .phase⟩,⟨8, .phase⟩,⟨9, .phase⟩,⟨10, .phase⟩,⟨11, .phase⟩,⟨12, .phase⟩,⟨13, .phase⟩,⟨14, .phase⟩,⟨15, .phase⟩,⟨16, .phase⟩,⟨17, .phase⟩,⟨18, .textOnly .lateStores⟩,⟨19, .textOnly .lateStoresUnsure⟩,⟨20, .textOnly .lateStoresUnsure⟩,⟨21, .phase⟩,⟨22, .textOnly .lateStoresUnsure⟩,⟨23, .textOnly .lateStoresUnsure⟩,⟨24, .phase⟩,⟨25, .textOnly .lateStores⟩,⟨26, .textOnly .lateStoresUnsure⟩,⟨27, .textOnly .lateStoresUnsure⟩,⟨28, .phase⟩,⟨29, .textOnly .lateStoresUnsure⟩,⟨30, .phase⟩,⟨31, .phase⟩,⟨32, .phase⟩,⟨33, .phase⟩], none⟩,⟨some 57, .fieldAddr 73 (.tmp 56) 1, 0, "sim.go:45", #[⟨34, .data⟩,⟨0, .phase⟩,⟨1, .phase⟩,⟨2, .textOnly .lateStores⟩,⟨3, .textOnly .lateStores⟩,⟨4, .phase⟩,⟨5, .phase⟩,⟨6, .phase⟩,⟨7, .phase⟩,⟨8, .phase⟩,⟨9, .phase⟩,⟨10, .phase⟩,⟨11, .phase⟩,⟨12, .phase⟩,⟨13, .phase⟩,⟨14, .phase⟩,⟨15, .phase⟩,⟨16, .phase⟩,⟨17, .phase⟩,⟨18, .textOnly .lateStores⟩,⟨19, .textOnly .lateStoresUnsure⟩,⟨20, .textOnly .lateStoresUnsure⟩,⟨21, .phase⟩,⟨22, .textOnly .lateStoresUnsure⟩,⟨23, .textOnly .lateStoresUnsure⟩,⟨24, .phase⟩,⟨25, .textOnly .lateStores⟩,⟨26, .textOnly .lateStoresUnsure⟩,⟨27, .textOnly .lateStoresUnsure⟩,⟨28, .phase⟩,⟨29, .textOnly .lateStoresUnsure⟩,⟨30, .phase⟩,⟨31, .phase⟩,⟨32, .phase⟩,⟨33, .phase⟩], none⟩,⟨none, .store 67 (.tmp 57) (.tmp 40), 0, "sim.go:45", #[⟨35, .data⟩,⟨17, .data⟩,⟨33, .chain⟩,⟨0, .phase⟩,⟨1, .phase⟩,⟨2, .textOnly .lateStores⟩,⟨3, .textOnly .lateStores⟩,⟨4, .phase⟩,⟨5, .phase⟩,⟨6, .phase⟩,⟨7, .phase⟩,⟨8, .phase⟩,⟨9, .phase⟩,⟨10, .phase⟩,⟨11, .phase⟩,⟨12, .phase⟩,⟨13, .phase⟩,⟨14, .phase⟩,⟨15, .phase⟩,⟨16, .phase⟩,⟨17, .phase⟩,⟨18, .textOnly .lateStores⟩,⟨19, .textOnly .lateStoresUnsure⟩,⟨20, .textOnly .lateStoresUnsure⟩,⟨21, .phase⟩,⟨22, .textOnly .lateStoresUnsure⟩,⟨23, .textOnly .lateStoresUnsure⟩,⟨24, .phase⟩,⟨25, .textOnly .lateStores⟩,⟨26, .textOnly .lateStoresUnsure⟩,⟨27, .textOnly .lateStoresUnsure⟩,⟨28, .phase⟩,⟨29, .textOnly .lateStoresUnsure⟩,⟨30, .phase⟩,⟨31, .phase⟩,⟨32, .phase⟩,⟨33, .phase⟩], none⟩,⟨some 58, .nilCheck (.tmp 25), 0, "sim.go:45", #[⟨2, .data⟩,⟨0, .phase⟩,⟨1, .phase⟩,⟨2, .phase⟩,⟨3, .textOnly .lateStores⟩,⟨4, .phase⟩,⟨5, .phase⟩,⟨6, .phase⟩,⟨7, .phase⟩,⟨8, .phase⟩,⟨9, .phase⟩,⟨10, .phase⟩,⟨11, .phase⟩,⟨12, .phase⟩,⟨13, .phase⟩,⟨14, .phase⟩,⟨15, .phase⟩,⟨16, .phase⟩,⟨17, .phase⟩,⟨18, .phase⟩,⟨19, .phase⟩,⟨20, .phase⟩,⟨21, .phase⟩,⟨22, .phase⟩,⟨23, .phase⟩,⟨24, .phase⟩,⟨25, .textOnly .lateStores⟩,⟨26, .textOnly .lateStoresUnsure⟩,⟨27, .textOnly .lateStoresUnsure⟩,⟨28, .phase⟩,⟨29, .textOnly .lateStoresUnsure⟩,⟨30, .phase⟩,⟨31, .phase⟩,⟨32, .phase⟩,⟨33, .phase⟩,⟨34, .phase⟩,⟨35, .phase⟩,⟨36, .phase⟩], none⟩,⟨some 59, .fieldAddr 73 (.tmp 58) 2, 0, "sim.go:45", #[⟨37, .data⟩,⟨0, .phase⟩,⟨1, .phase⟩,⟨2, .phase⟩,⟨3, .textOnly .lateStores⟩,⟨4, .phase⟩,⟨5, .phase⟩,⟨6, .phase⟩,⟨7, .phase⟩,⟨8, .phase⟩,⟨9, .phase⟩,⟨10, .phase⟩,⟨11, .phase⟩,⟨12, .phase⟩,⟨13, .phase⟩,⟨14, .phase⟩,⟨15, .phase⟩,⟨16, .phase⟩,⟨17, .phase⟩,⟨18, .phase⟩,⟨19, .phase⟩,⟨20, .phase⟩,⟨21, .phase⟩,⟨22, .phase⟩,⟨23, .phase⟩,⟨24, .phase⟩,⟨25, .textOnly .lateStores⟩,⟨26, .textOnly .lateStoresUnsure⟩,⟨27, .textOnly .lateStoresUnsure⟩,⟨28, .phase⟩,⟨29, .textOnly .lateStoresUnsure⟩,⟨30, .phase⟩,⟨31, .phase⟩,⟨32, .phase⟩,⟨33, .phase⟩,⟨34, .phase⟩,⟨35, .phase⟩,⟨36, .phase⟩], none⟩,⟨none, .store 68 (.tmp 59) (.tmp 47), 0, "sim.go:45", #[⟨38, .data⟩,⟨24, .data⟩,⟨36, .chain⟩,⟨0, .phase⟩,⟨1, .phase⟩,⟨2, .phase⟩,⟨3, .textOnly .lateStores⟩,⟨4, .phase⟩,⟨5, .phase⟩,⟨6, .phase⟩,⟨7, .phase⟩,⟨8, .phase⟩,⟨9, .phase⟩,⟨10, .phase⟩,⟨11, .phase⟩,⟨12, .phase⟩,⟨13, .phase⟩,⟨14, .phase⟩,⟨15, .phase⟩,⟨16, .phase⟩,⟨17, .phase⟩,⟨18, .phase⟩,⟨19, .phase⟩,⟨20, .phase⟩,⟨21, .phase⟩,⟨22, .phase⟩,⟨23, .phase⟩,⟨24, .phase⟩,⟨25, .textOnly .lateStores⟩,⟨26, .textOnly .lateStoresUnsure⟩,⟨27, .textOnly .lateStoresUnsure⟩,⟨28, .phase⟩,⟨29, .textOnly .lateStoresUnsure⟩,⟨30, .phase⟩,⟨31, .phase⟩,⟨32, .phase⟩,⟨33, .phase⟩,⟨34, .phase⟩,⟨35, .phase⟩,⟨36, .phase⟩], none⟩,⟨some 60, .nilCheck (.tmp 26), 0, "sim.go:45", #[⟨3, .data⟩,⟨0, .phase⟩,⟨1, .phase⟩,⟨2, .phase⟩,⟨3, .phase⟩,⟨4, .phase⟩,⟨5, .phase⟩,⟨6, .phase⟩,⟨7, .phase⟩,⟨8, .phase⟩,⟨9, .phase⟩,⟨10, .phase⟩,⟨11, .phase⟩,⟨12, .phase⟩,⟨13, .phase⟩,⟨14, .phase⟩,⟨15, .phase⟩,⟨16, .phase⟩,⟨17, .phase⟩,⟨18, .phase⟩,⟨19, .phase⟩,⟨20, .phase⟩,⟨21, .phase⟩,⟨22, .phase⟩,⟨23, .phase⟩,⟨24, .phase⟩,⟨25, .phase⟩,⟨26, .phase⟩,⟨27, .phase⟩,⟨28, .phase⟩,⟨29, .phase⟩,⟨30, .phase⟩,⟨31, .phase⟩,⟨32, .phase⟩,⟨33, .phase⟩,⟨34, .phase⟩,⟨35, .phase⟩,⟨36, .phase⟩,⟨37, .phase⟩,⟨38, .phase⟩,⟨39, .phase⟩], none⟩,⟨some 61, .fieldAddr 73 (.tmp 60) 3, 0, "sim.go:45", #[⟨40, .data⟩,⟨0, .phase⟩,⟨1, .phase⟩,⟨2, .phase⟩,⟨3, .phase⟩,⟨4, .phase⟩,⟨5, .phase⟩,⟨6, .phase⟩,⟨7, .phase⟩,⟨8, .phase⟩,⟨9, .phase⟩,⟨10, .phase⟩,⟨11, .phase⟩,⟨12, .phase⟩,⟨13, .phase⟩,⟨14, .phase⟩,⟨15, .phase⟩,⟨16, .phase⟩,⟨17, .phase⟩,⟨18, .phase⟩,⟨19, .phase⟩,⟨20, .phase⟩,⟨21, .phase⟩,⟨22, .phase⟩,⟨23, .phase⟩,⟨24, .phase⟩,⟨25, .phase⟩,⟨26, .phase⟩,⟨27, .phase⟩,⟨28, .phase⟩,⟨29, .phase⟩,⟨30, .phase⟩,⟨31, .phase⟩,⟨32, .phase⟩,⟨33, .phase⟩,⟨34, .phase⟩,⟨35, .phase⟩,⟨36, .phase⟩,⟨37, .phase⟩,⟨38, .phase⟩,⟨39, .phase⟩], none⟩,⟨none, .store 69 (.tmp 61) (.tmp 53), 0, "sim.go:45", #[⟨41, .data⟩,⟨30, .data⟩,⟨39, .chain⟩,⟨0, .phase⟩,⟨1, .phase⟩,⟨2, .phase⟩,⟨3, .phase⟩,⟨4, .phase⟩,⟨5, .phase⟩,⟨6, .phase⟩,⟨7, .phase⟩,⟨8, .phase⟩,⟨9, .phase⟩,⟨10, .phase⟩,⟨11, .phase⟩,⟨12, .phase⟩,⟨13, .phase⟩,⟨14, .phase⟩,⟨15, .phase⟩,⟨16, .phase⟩,⟨17, .phase⟩,⟨18, .phase⟩,⟨19, .phase⟩,⟨20, .phase⟩,⟨21, .phase⟩,⟨22, .phase⟩,⟨23, .phase⟩,⟨24, .phase⟩,⟨25, .phase⟩,⟨26, .phase⟩,⟨27, .phase⟩,⟨28, .phase⟩,⟨29, .phase⟩,⟨30, .phase⟩,⟨31, .phase⟩,⟨32, .phase⟩,⟨33, .phase⟩,⟨34, .phase⟩,⟨35, .phase⟩,⟨36, .phase⟩,⟨37, .phase⟩,⟨38, .phase⟩,⟨39, .phase⟩], none⟩]
namespace RegW
structure MdG where
 Q : Exit -> Act -> World -> Prop
 S : World -> Prop
 X0 : World
 lab0 : Nat -> Nat
 p : Nat
 k : Nat
 D : List Deferred
 A0 : Option Addr
 A1 : Option Addr
 A2 : Option Addr
 A3 : Option Addr
 c0 : Nat
 c1 : Nat
 c2 : Nat
 c3 : Nat
 v0 : List Value
 v1 : List Value
 v2 : List Value
 v3 : List Value
 X : Nat -> Value
def mdW (G : MdG) (W : World) (f : Nat) (p0 q0 p1 q1 p2 q2 p3 q3 : Bool) (y0 z0 y1 z1 y2 z2 y3 z3 : Value) : Prop :=
 wpAnyH Tryz.prog .any qdX G.Q ⟨G.S,[33,36,39,42]⟩ f #[true,true,true,true,true,true,true,true,true,p0,q0,true,true,true,true,true,p1,q1,true,true,true,true,true,p2,q2,true,true,true,true,p3,q3,false,false,false,false,false,false,false,false,false,false,false,false] ⟨#[G.X 0,G.X 1,G.X 2,G.X 3,G.X 4,G.X 5,G.X 6,G.X 7,G.X 8,G.X 9,G.X 10,G.X 11,G.X 12,G.X 13,G.X 14,G.X 15,G.X 16,G.X 17,G.X 18,G.X 19,G.X 20,G.X 21,G.X 22,G.X 23,G.X 24,G.X 25,G.X 26,G.X 27,G.X 28,G.X 29, .slice G.A0 G.k G.c0,ptrV G.p,y0,z0,G.X 34,G.X 35,G.X 36, .slice G.A1 G.k G.c1, .agg #[.int .i64 0, .int .i64 (-1)],y1,z1,G.X 41,G.X 42,G.X 43, .slice G.A2 G.k G.c2, .agg #[.int .i64 0, .int .i64 0, .slice none 0 0],y2,z2,G.X 48,G.X 49,G.X 50, .slice G.A3 G.k G.c3,y3,z3,G.X 54,G.X 55,G.X 56,G.X 57,G.X 58,G.X 59,G.X 60,G.X 61,G.X 62,G.X 63],G.D⟩ W
def mdM (G : MdG) (W : World) (r0 r1 r2 r3 : RS) (o0 o1 o2 o3 : Option Nat) : Prop := Mid4 G.X0 G.lab0 G.p W (q4 r0 r1 r2 r3) (q4 o0 o1 o2 o3)
def bxV (b : Nat) : Value := .slice (some ⟨b,0,none⟩) 1 1
def rS0 (G : MdG) : RS := ⟨G.A0,G.k,G.c0,G.v0⟩
def rE0 (G : MdG) (A : Option Addr) (c : Nat) : RS := ⟨A,G.k + 1,c,G.v0 ++ [ptrV G.p]⟩
def rS1 (G : MdG) : RS := ⟨G.A1,G.k,G.c1,G.v1⟩
def rE1 (G : MdG) (A : Option Addr) (c : Nat) : RS := ⟨A,G.k + 1,c,G.v1 ++ [.int .i64 0, .int .i64 (-1)]⟩
def rS2 (G : MdG) : RS := ⟨G.A2,G.k,G.c2,G.v2⟩
def rE2 (G : MdG) (A : Option Addr) (c : Nat) : RS := ⟨A,G.k + 1,c,G.v2 ++ [.int .i64 0, .int .i64 0, .slice none 0 0]⟩
def rS3 (G : MdG) : RS := ⟨G.A3,G.k,G.c3,G.v3⟩
def rE3 (G : MdG) (A : Option Addr) (c : Nat) : RS := ⟨A,G.k + 1,c,G.v3 ++ [.slice none 0 0]⟩
def qli (G : MdG) : Prop :=
 ∀ (W : World) (E0 E1 E2 E3 : Option Addr) (d0 d1 d2 d3 b0 b1 b2 b3 : Nat),mdM G W (rE0 G E0 d0) (rE1 G E1 d1) (rE2 G E2 d2) (rE3 G E3 d3) none none none none →
  mdW G W 12 true true true true true true true true (bxV b0) (.slice E0 (G.k + 1) d0) (bxV b1) (.slice E1 (G.k + 1) d1) (bxV b2) (.slice E2 (G.k + 1) d2) (bxV b3) (.slice E3 (G.k + 1) d3)
structure MdS (G : MdG) : Prop where
 s : ∀ W r o,Mid4 G.X0 G.lab0 G.p W r o -> G.S W
 k : G.k <= 3
 e : qli G
section
variable {G : MdG} {W : World} {E0 E1 E2 E3 : Option Addr} {d0 d1 d2 d3 b0 b1 b2 b3 : Nat} {y0 z0 y1 z1 y2 z2 y3 z3 : Value}
theorem apR0 {r1 r2 r3 : RS} {o1 o2 o3 : Option Nat} {b : Nat} {ops : Array Oper} {o : Oper} {a : Act} {K : Act -> World -> Prop} {Q : Exit -> Act -> World -> Prop} {E : Prop} (hS : MdS G) (M : mdM G W (rS0 G) r1 r2 r3 (some b) o1 o2 o3) (hgd : o.guard = none) (sl x : Operand)
 (ho : o.op = .call { callee := .builtin .append,args := #[sl,x],argTypes := #[66,66] }) (hs : a.eval sl = .slice G.A0 G.k G.c0) (hx : a.eval x = bxV b)
 (h : ∀ A c W',G.S W' -> mdM G W' (rE0 G A c) r1 r2 r3 none o1 o2 o3 -> K (a.put o.dst (.slice A (G.k + 1) c)) W') : if Region.wanted o (yielded ops a.tmps) = true then Oper.wp Tryz.prog o a W K Q else E := by
 have M1 : Mid4 G.X0 G.lab0 G.p W (q4 (rS0 G) r1 r2 r3) (q4 (some b) o1 o2 o3) := M;have hk := hS.k;refine ql qjn _ hgd _ _ ho G.A0 G.k G.c0 G.v0 hs M1.sp0 _ 1 1 [ptrV G.p] hx (fun e => by cases e) (by rfl) (by intro u hu; simp at hu; first | (rcases hu with rfl | rfl | rfl <;> rfl) | (rcases hu with rfl | rfl <;> rfl) | (subst hu; rfl)) (fun b e => by cases e; exact cells_lit (C := [ptrV G.p]) M1.box0) (by omega) ?_;intro A5 n5 w5 hsp5 hA5 hg5;have M2 := M1.grow0 hg5 hsp5 hA5;exact h _ _ _ (hS.s _ _ _ M2) M2
theorem apR1 {r0 r2 r3 : RS} {o0 o2 o3 : Option Nat} {b : Nat} {ops : Array Oper} {o : Oper} {a : Act} {K : Act -> World -> Prop} {Q : Exit -> Act -> World -> Prop} {E : Prop} (hS : MdS G) (M : mdM G W r0 (rS1 G) r2 r3 o0 (some b) o2 o3) (hgd : o.guard = none) (sl x : Operand)
 (ho : o.op = .call { callee := .builtin .append,args := #[sl,x],argTypes := #[67,67] }) (hs : a.eval sl = .slice G.A1 G.k G.c1) (hx : a.eval x = bxV b)
 (h : ∀ A c W',G.S W' -> mdM G W' r0 (rE1 G A c) r2 r3 o0 none o2 o3 -> K (a.put o.dst (.slice A (G.k + 1) c)) W') : if Region.wanted o (yielded ops a.tmps) = true then Oper.wp Tryz.prog o a W K Q else E := by
 have M1 : Mid4 G.X0 G.lab0 G.p W (q4 r0 (rS1 G) r2 r3) (q4 o0 (some b) o2 o3) := M;have hk := hS.k;refine ql qhR _ hgd _ _ ho G.A1 G.k G.c1 G.v1 hs M1.sp1 _ 1 1 [.int .i64 0, .int .i64 (-1)] hx (fun e => by cases e) (by rfl) (by intro u hu; simp at hu; first | (rcases hu with rfl | rfl | rfl <;> rfl) | (rcases hu with rfl | rfl <;> rfl) | (subst hu; rfl)) (fun b e => by cases e; exact cells_lit (C := [.int .i64 0, .int .i64 (-1)]) M1.box1) (by omega) ?_;intro A5 n5 w5 hsp5 hA5 hg5;have M2 := M1.grow1 hg5 hsp5 hA5;exact h _ _ _ (hS.s _ _ _ M2) M2
theorem apR2 {r0 r1 r3 : RS} {o0 o1 o3 : Option Nat} {b : Nat} {ops : Array Oper} {o : Oper} {a : Act} {K : Act -> World -> Prop} {Q : Exit -> Act -> World -> Prop} {E : Prop} (hS : MdS G) (M : mdM G W r0 r1 (rS2 G) r3 o0 o1 (some b) o3) (hgd : o.guard = none) (sl x : Operand)
 (ho : o.op = .call { callee := .builtin .append,args := #[sl,x],argTypes := #[68,68] }) (hs : a.eval sl = .slice G.A2 G.k G.c2) (hx : a.eval x = bxV b)
 (h : ∀ A c W',G.S W' -> mdM G W' r0 r1 (rE2 G A c) r3 o0 o1 none o3 -> K (a.put o.dst (.slice A (G.k + 1) c)) W') : if Region.wanted o (yielded ops a.tmps) = true then Oper.wp Tryz.prog o a W K Q else E := by
 have M1 : Mid4 G.X0 G.lab0 G.p W (q4 r0 r1 (rS2 G) r3) (q4 o0 o1 (some b) o3) := M;have hk := hS.k;refine ql qhS _ hgd _ _ ho G.A2 G.k G.c2 G.v2 hs M1.sp2 _ 1 1 [.int .i64 0, .int .i64 0, .slice none 0 0] hx (fun e => by cases e) (by rfl) (by intro u hu; simp at hu; first | (rcases hu with rfl | rfl | rfl <;> rfl) | (rcases hu with rfl | rfl <;> rfl) | (subst hu; rfl)) (fun b e => by cases e; exact cells_lit (C := [.int .i64 0, .int .i64 0, .slice none 0 0]) M1.box2) (by omega) ?_;intro A5 n5 w5 hsp5 hA5 hg5;have M2 := M1.grow2 hg5 hsp5 hA5;exact h _ _ _ (hS.s _ _ _ M2) M2
theorem apR3 {r0 r1 r2 : RS} {o0 o1 o2 : Option Nat} {b : Nat} {ops : Array Oper} {o : Oper} {a : Act} {K : Act -> World -> Prop} {Q : Exit -> Act -> World -> Prop} {E : Prop} (hS : MdS G) (M : mdM G W r0 r1 r2 (rS3 G) o0 o1 o2 (some b)) (hgd : o.guard = none) (sl x : Operand)
 (ho : o.op = .call { callee := .builtin .append,args := #[sl,x],argTypes := #[69,69] }) (hs : a.eval sl = .slice G.A3 G.k G.c3) (hx : a.eval x = bxV b)
 (h : ∀ A c W',G.S W' -> mdM G W' r0 r1 r2 (rE3 G A c) o0 o1 o2 none -> K (a.put o.dst (.slice A (G.k + 1) c)) W') : if Region.wanted o (yielded ops a.tmps) = true then Oper.wp Tryz.prog o a W K Q else E := by
 have M1 : Mid4 G.X0 G.lab0 G.p W (q4 r0 r1 r2 (rS3 G)) (q4 o0 o1 o2 (some b)) := M;have hk := hS.k;refine ql qjo _ hgd _ _ ho G.A3 G.k G.c3 G.v3 hs M1.sp3 _ 1 1 [.slice none 0 0] hx (fun e => by cases e) (by rfl) (by intro u hu; simp at hu; first | (rcases hu with rfl | rfl | rfl <;> rfl) | (rcases hu with rfl | rfl <;> rfl) | (subst hu; rfl)) (fun b e => by cases e; exact cells_lit (C := [.slice none 0 0]) M1.box3) (by omega) ?_;intro A5 n5 w5 hsp5 hA5 hg5;have M2 := M1.grow3 hg5 hsp5 hA5;exact h _ _ _ (hS.s _ _ _ M2) M2
theorem md4 (hS : MdS G) (M : mdM G W (rE0 G E0 d0) (rE1 G E1 d1) (rE2 G E2 d2) (rE3 G E3 d3) none none none none) : mdW G W 12 true true true true true true true true (bxV b0) (.slice E0 (G.k + 1) d0) (bxV b1) (.slice E1 (G.k + 1) d1) (bxV b2) (.slice E2 (G.k + 1) d2) (bxV b3) (.slice E3 (G.k + 1) d3) :=
 hS.e W E0 E1 E2 E3 d0 d1 d2 d3 b0 b1 b2 b3 M
theorem md33 (hS : MdS G) (M : mdM G W (rE0 G E0 d0) (rE1 G E1 d1) (rE2 G E2 d2) (rS3 G) none none none (some b3)) : mdW G W 13 true true true true true true true false (bxV b0) (.slice E0 (G.k + 1) d0) (bxV b1) (.slice E1 (G.k + 1) d1) (bxV b2) (.slice E2 (G.k + 1) d2) (bxV b3) z3 := by
 unfold mdW;refine rdq1 30 fun KK hK => ?_
 · refine apR3 hS M (by rfl) _ _ (by rfl) (by rfl) (by rfl) fun A c W2 hs M2 => ?_;refine hK.out _ _ hs (fun _ => ?_)
   try simp only [lpq]
   exact md4 hS M2
theorem md3 (hS : MdS G) (M : mdM G W (rE0 G E0 d0) (rE1 G E1 d1) (rE2 G E2 d2) (rS3 G) none none none none) : mdW G W 14 true true true true true true false false (bxV b0) (.slice E0 (G.k + 1) d0) (bxV b1) (.slice E1 (G.k + 1) d1) (bxV b2) (.slice E2 (G.k + 1) d2) y3 z3 := by
 unfold mdW;refine rdq1 29 fun KK hK => ?_
 · have M2 := M.alloc3;go_simp;refine hK.out _ _ (hS.s _ _ _ M2) (fun _ => ?_)
   try simp only [lpq]
   exact md33 hS M2
theorem qg7 (hS : MdS G) (M : mdM G W (rE0 G E0 d0) (rE1 G E1 d1) (rS2 G) (rS3 G) none none (some b2) (some b3)) : mdW G W 14 true true true true true false true false (bxV b0) (.slice E0 (G.k + 1) d0) (bxV b1) (.slice E1 (G.k + 1) d1) (bxV b2) z2 (bxV b3) z3 := by
 unfold mdW;refine rdq1 24 fun KK hK => ?_
 · refine apR2 hS M (by rfl) _ _ (by rfl) (by rfl) (by rfl) fun A c W2 hs M2 => ?_;refine hK.out _ _ hs (fun _ => ?_)
   try simp only [lpq]
   exact md33 hS M2
theorem md22 (hS : MdS G) (M : mdM G W (rE0 G E0 d0) (rE1 G E1 d1) (rS2 G) (rS3 G) none none (some b2) none) : mdW G W 15 true true true true true false false false (bxV b0) (.slice E0 (G.k + 1) d0) (bxV b1) (.slice E1 (G.k + 1) d1) (bxV b2) z2 y3 z3 := by
 unfold mdW;refine rdq2 24 29 (fun KK hK => ?_) (fun KK hK => ?_)
 · refine apR2 hS M (by rfl) _ _ (by rfl) (by rfl) (by rfl) fun A c W2 hs M2 => ?_;refine hK.out _ _ hs (fun _ => ?_)
   try simp only [lpq]
   exact md3 hS M2
 · have M2 := M.alloc3;go_simp;refine hK.out _ _ (hS.s _ _ _ M2) (fun _ => ?_)
   try simp only [lpq]
   exact qg7 hS M2
theorem md23 (hS : MdS G) (M : mdM G W (rE0 G E0 d0) (rE1 G E1 d1) (rS2 G) (rS3 G) none none none (some b3)) : mdW G W 15 true true true true false false true false (bxV b0) (.slice E0 (G.k + 1) d0) (bxV b1) (.slice E1 (G.k + 1) d1) y2 z2 (bxV b3) z3 := by
 unfold mdW;refine rdq1 23 fun KK hK => ?_
 · have M2 := M.alloc2;go_simp;refine hK.out _ _ (hS.s _ _ _ M2) (fun _ => ?_)
   try simp only [lpq]
   exact qg7 hS M2
theorem md2 (hS : MdS G) (M : mdM G W (rE0 G E0 d0) (rE1 G E1 d1) (rS2 G) (rS3 G) none none none none) : mdW G W 16 true true true true false false false false (bxV b0) (.slice E0 (G.k + 1) d0) (bxV b1) (.slice E1 (G.k + 1) d1) y2 z2 y3 z3 := by
 unfold mdW;refine rdq2 23 29 (fun KK hK => ?_) (fun KK hK => ?_)
 · have M2 := M.alloc2;go_simp;refine hK.out _ _ (hS.s _ _ _ M2) (fun _ => ?_)
   try simp only [lpq]
   exact md22 hS M2
 · have M2 := M.alloc3;go_simp;refine hK.out _ _ (hS.s _ _ _ M2) (fun _ => ?_)
   try simp only [lpq]
   exact md23 hS M2
theorem qdD (hS : MdS G) (M : mdM G W (rE0 G E0 d0) (rS1 G) (rS2 G) (rS3 G) none (some b1) (some b2) (some b3)) : mdW G W 15 true true true false true false true false (bxV b0) (.slice E0 (G.k + 1) d0) (bxV b1) z1 (bxV b2) z2 (bxV b3) z3 := by
 unfold mdW;refine rdq1 17 fun KK hK => ?_
 · refine apR1 hS M (by rfl) _ _ (by rfl) (by rfl) (by rfl) fun A c W2 hs M2 => ?_;refine hK.out _ _ hs (fun _ => ?_)
   try simp only [lpq]
   exact qg7 hS M2
theorem qg8 (hS : MdS G) (M : mdM G W (rE0 G E0 d0) (rS1 G) (rS2 G) (rS3 G) none (some b1) (some b2) none) : mdW G W 16 true true true false true false false false (bxV b0) (.slice E0 (G.k + 1) d0) (bxV b1) z1 (bxV b2) z2 y3 z3 := by
 unfold mdW;refine rdq2 17 29 (fun KK hK => ?_) (fun KK hK => ?_)
 · refine apR1 hS M (by rfl) _ _ (by rfl) (by rfl) (by rfl) fun A c W2 hs M2 => ?_;refine hK.out _ _ hs (fun _ => ?_)
   try simp only [lpq]
   exact md22 hS M2
 · have M2 := M.alloc3;go_simp;refine hK.out _ _ (hS.s _ _ _ M2) (fun _ => ?_)
   try simp only [lpq]
   exact qdD hS M2
theorem qg9 (hS : MdS G) (M : mdM G W (rE0 G E0 d0) (rS1 G) (rS2 G) (rS3 G) none (some b1) none (some b3)) : mdW G W 16 true true true false false false true false (bxV b0) (.slice E0 (G.k + 1) d0) (bxV b1) z1 y2 z2 (bxV b3) z3 := by
 unfold mdW;refine rdq2 17 23 (fun KK hK => ?_) (fun KK hK => ?_)
 · refine apR1 hS M (by rfl) _ _ (by rfl) (by rfl) (by rfl) fun A c W2 hs M2 => ?_;refine hK.out _ _ hs (fun _ => ?_)
   try simp only [lpq]
   exact md23 hS M2
 · have M2 := M.alloc2;go_simp;refine hK.out _ _ (hS.s _ _ _ M2) (fun _ => ?_)
   try simp only [lpq]
   exact qdD hS M2
theorem qha (hS : MdS G) (M : mdM G W (rE0 G E0 d0) (rS1 G) (rS2 G) (rS3 G) none none (some b2) (some b3)) : mdW G W 16 true true false false true false true false (bxV b0) (.slice E0 (G.k + 1) d0) y1 z1 (bxV b2) z2 (bxV b3) z3 := by
 unfold mdW;refine rdq1 16 fun KK hK => ?_
 · have M2 := M.alloc1;go_simp;refine hK.out _ _ (hS.s _ _ _ M2) (fun _ => ?_)
   try simp only [lpq]
   exact qdD hS M2
theorem md11 (hS : MdS G) (M : mdM G W (rE0 G E0 d0) (rS1 G) (rS2 G) (rS3 G) none (some b1) none none) : mdW G W 17 true true true false false false false false (bxV b0) (.slice E0 (G.k + 1) d0) (bxV b1) z1 y2 z2 y3 z3 := by
 unfold mdW;refine rdq3 17 23 29 (fun KK hK => ?_) (fun KK hK => ?_) (fun KK hK => ?_)
 · refine apR1 hS M (by rfl) _ _ (by rfl) (by rfl) (by rfl) fun A c W2 hs M2 => ?_;refine hK.out _ _ hs (fun _ => ?_)
   try simp only [lpq]
   exact md2 hS M2
 · have M2 := M.alloc2;go_simp;refine hK.out _ _ (hS.s _ _ _ M2) (fun _ => ?_)
   try simp only [lpq]
   exact qg8 hS M2
 · have M2 := M.alloc3;go_simp;refine hK.out _ _ (hS.s _ _ _ M2) (fun _ => ?_)
   try simp only [lpq]
   exact qg9 hS M2
theorem md12 (hS : MdS G) (M : mdM G W (rE0 G E0 d0) (rS1 G) (rS2 G) (rS3 G) none none (some b2) none) : mdW G W 17 true true false false true false false false (bxV b0) (.slice E0 (G.k + 1) d0) y1 z1 (bxV b2) z2 y3 z3 := by
 unfold mdW;refine rdq2 16 29 (fun KK hK => ?_) (fun KK hK => ?_)
 · have M2 := M.alloc1;go_simp;refine hK.out _ _ (hS.s _ _ _ M2) (fun _ => ?_)
   try simp only [lpq]
   exact qg8 hS M2
 · have M2 := M.alloc3;go_simp;refine hK.out _ _ (hS.s _ _ _ M2) (fun _ => ?_)
   try simp only [lpq]
   exact qha hS M2
theorem md13 (hS : MdS G) (M : mdM G W (rE0 G E0 d0) (rS1 G) (rS2 G) (rS3 G) none none none (some b3)) : mdW G W 17 true true false false false false true false (bxV b0) (.slice E0 (G.k + 1) d0) y1 z1 y2 z2 (bxV b3) z3 := by
 unfold mdW;refine rdq2 16 23 (fun KK hK => ?_) (fun KK hK => ?_)
 · have M2 := M.alloc1;go_simp;refine hK.out _ _ (hS.s _ _ _ M2) (fun _ => ?_)
   try simp only [lpq]
   exact qg9 hS M2
 · have M2 := M.alloc2;go_simp;refine hK.out _ _ (hS.s _ _ _ M2) (fun _ => ?_)
   try simp only [lpq]
   exact qha hS M2
theorem md1 (hS : MdS G) (M : mdM G W (rE0 G E0 d0) (rS1 G) (rS2 G) (rS3 G) none none none none) : mdW G W 18 true true false false false false false false (bxV b0) (.slice E0 (G.k + 1) d0) y1 z1 y2 z2 y3 z3 := by
 unfold mdW;refine rdq3 16 23 29 (fun KK hK => ?_) (fun KK hK => ?_) (fun KK hK => ?_)
 · have M2 := M.alloc1;go_simp;refine hK.out _ _ (hS.s _ _ _ M2) (fun _ => ?_)
   try simp only [lpq]
   exact md11 hS M2
 · have M2 := M.alloc2;go_simp;refine hK.out _ _ (hS.s _ _ _ M2) (fun _ => ?_)
   try simp only [lpq]
   exact md12 hS M2
 · have M2 := M.alloc3;go_simp;refine hK.out _ _ (hS.s _ _ _ M2) (fun _ => ?_)
   try simp only [lpq]
   exact md13 hS M2
theorem qcT (hS : MdS G) (M : mdM G W (rS0 G) (rS1 G) (rS2 G) (rS3 G) (some b0) (some b1) (some b2) (some b3)) : mdW G W 16 true false true false true false true false (bxV b0) z0 (bxV b1) z1 (bxV b2) z2 (bxV b3) z3 := by
 unfold mdW;refine rdq1 10 fun KK hK => ?_
 · refine apR0 hS M (by rfl) _ _ (by rfl) (by rfl) (by rfl) fun A c W2 hs M2 => ?_;refine hK.out _ _ hs (fun _ => ?_)
   try simp only [lpq]
   exact qdD hS M2
theorem qfK (hS : MdS G) (M : mdM G W (rS0 G) (rS1 G) (rS2 G) (rS3 G) (some b0) (some b1) (some b2) none) : mdW G W 17 true false true false true false false false (bxV b0) z0 (bxV b1) z1 (bxV b2) z2 y3 z3 := by
 unfold mdW;refine rdq2 10 29 (fun KK hK => ?_) (fun KK hK => ?_)
 · refine apR0 hS M (by rfl) _ _ (by rfl) (by rfl) (by rfl) fun A c W2 hs M2 => ?_;refine hK.out _ _ hs (fun _ => ?_)
   try simp only [lpq]
   exact qg8 hS M2
 · have M2 := M.alloc3;go_simp;refine hK.out _ _ (hS.s _ _ _ M2) (fun _ => ?_)
   try simp only [lpq]
   exact qcT hS M2
theorem qfL (hS : MdS G) (M : mdM G W (rS0 G) (rS1 G) (rS2 G) (rS3 G) (some b0) (some b1) none (some b3)) : mdW G W 17 true false true false false false true false (bxV b0) z0 (bxV b1) z1 y2 z2 (bxV b3) z3 := by
 unfold mdW;refine rdq2 10 23 (fun KK hK => ?_) (fun KK hK => ?_)
 · refine apR0 hS M (by rfl) _ _ (by rfl) (by rfl) (by rfl) fun A c W2 hs M2 => ?_;refine hK.out _ _ hs (fun _ => ?_)
   try simp only [lpq]
   exact qg9 hS M2
 · have M2 := M.alloc2;go_simp;refine hK.out _ _ (hS.s _ _ _ M2) (fun _ => ?_)
   try simp only [lpq]
   exact qcT hS M2
theorem qfM (hS : MdS G) (M : mdM G W (rS0 G) (rS1 G) (rS2 G) (rS3 G) (some b0) none (some b2) (some b3)) : mdW G W 17 true false false false true false true false (bxV b0) z0 y1 z1 (bxV b2) z2 (bxV b3) z3 := by
 unfold mdW;refine rdq2 10 16 (fun KK hK => ?_) (fun KK hK => ?_)
 · refine apR0 hS M (by rfl) _ _ (by rfl) (by rfl) (by rfl) fun A c W2 hs M2 => ?_;refine hK.out _ _ hs (fun _ => ?_)
   try simp only [lpq]
   exact qha hS M2
 · have M2 := M.alloc1;go_simp;refine hK.out _ _ (hS.s _ _ _ M2) (fun _ => ?_)
   try simp only [lpq]
   exact qcT hS M2
theorem qfN (hS : MdS G) (M : mdM G W (rS0 G) (rS1 G) (rS2 G) (rS3 G) none (some b1) (some b2) (some b3)) : mdW G W 17 false false true false true false true false y0 z0 (bxV b1) z1 (bxV b2) z2 (bxV b3) z3 := by
 unfold mdW;refine rdq1 9 fun KK hK => ?_
 · have M2 := M.alloc0;go_simp;refine hK.out _ _ (hS.s _ _ _ M2) (fun _ => ?_)
   try simp only [lpq]
   exact qcT hS M2
theorem qj6 (hS : MdS G) (M : mdM G W (rS0 G) (rS1 G) (rS2 G) (rS3 G) (some b0) (some b1) none none) : mdW G W 18 true false true false false false false false (bxV b0) z0 (bxV b1) z1 y2 z2 y3 z3 := by
 unfold mdW;refine rdq3 10 23 29 (fun KK hK => ?_) (fun KK hK => ?_) (fun KK hK => ?_)
 · refine apR0 hS M (by rfl) _ _ (by rfl) (by rfl) (by rfl) fun A c W2 hs M2 => ?_;refine hK.out _ _ hs (fun _ => ?_)
   try simp only [lpq]
   exact md11 hS M2
 · have M2 := M.alloc2;go_simp;refine hK.out _ _ (hS.s _ _ _ M2) (fun _ => ?_)
   try simp only [lpq]
   exact qfK hS M2
 · have M2 := M.alloc3;go_simp;refine hK.out _ _ (hS.s _ _ _ M2) (fun _ => ?_)
   try simp only [lpq]
   exact qfL hS M2
theorem qj7 (hS : MdS G) (M : mdM G W (rS0 G) (rS1 G) (rS2 G) (rS3 G) (some b0) none (some b2) none) : mdW G W 18 true false false false true false false false (bxV b0) z0 y1 z1 (bxV b2) z2 y3 z3 := by
 unfold mdW;refine rdq3 10 16 29 (fun KK hK => ?_) (fun KK hK => ?_) (fun KK hK => ?_)
 · refine apR0 hS M (by rfl) _ _ (by rfl) (by rfl) (by rfl) fun A c W2 hs M2 => ?_;refine hK.out _ _ hs (fun _ => ?_)
   try simp only [lpq]
   exact md12 hS M2
 · have M2 := M.alloc1;go_simp;refine hK.out _ _ (hS.s _ _ _ M2) (fun _ => ?_)
   try simp only [lpq]
   exact qfK hS M2
 · have M2 := M.alloc3;go_simp;refine hK.out _ _ (hS.s _ _ _ M2) (fun _ => ?_)
   try simp only [lpq]
   exact qfM hS M2
theorem qj8 (hS : MdS G) (M : mdM G W (rS0 G) (rS1 G) (rS2 G) (rS3 G) (some b0) none none (some b3)) : mdW G W 18 true false false false false false true false (bxV b0) z0 y1 z1 y2 z2 (bxV b3) z3 := by
 unfold mdW;refine rdq3 10 16 23 (fun KK hK => ?_) (fun KK hK => ?_) (fun KK hK => ?_)
 · refine apR0 hS M (by rfl) _ _ (by rfl) (by rfl) (by rfl) fun A c W2 hs M2 => ?_;refine hK.out _ _ hs (fun _ => ?_)
   try simp only [lpq]
   exact md13 hS M2
 · have M2 := M.alloc1;go_simp;refine hK.out _ _ (hS.s _ _ _ M2) (fun _ => ?_)
   try simp only [lpq]
   exact qfL hS M2
 · have M2 := M.alloc2;go_simp;refine hK.out _ _ (hS.s _ _ _ M2) (fun _ => ?_)
   try simp only [lpq]
   exact qfM hS M2
theorem qj9 (hS : MdS G) (M : mdM G W (rS0 G) (rS1 G) (rS2 G) (rS3 G) none (some b1) (some b2) none) : mdW G W 18 false false true false true false false false y0 z0 (bxV b1) z1 (bxV b2) z2 y3 z3 := by
 unfold mdW;refine rdq2 9 29 (fun KK hK => ?_) (fun KK hK => ?_)
 · have M2 := M.alloc0;go_simp;refine hK.out _ _ (hS.s _ _ _ M2) (fun _ => ?_)
   try simp only [lpq]
   exact qfK hS M2
 · have M2 := M.alloc3;go_simp;refine hK.out _ _ (hS.s _ _ _ M2) (fun _ => ?_)
   try simp only [lpq]
   exact qfN hS M2
theorem qka (hS : MdS G) (M : mdM G W (rS0 G) (rS1 G) (rS2 G) (rS3 G) none (some b1) none (some b3)) : mdW G W 18 false false true false false false true false y0 z0 (bxV b1) z1 y2 z2 (bxV b3) z3 := by
 unfold mdW;refine rdq2 9 23 (fun KK hK => ?_) (fun KK hK => ?_)
 · have M2 := M.alloc0;go_simp;refine hK.out _ _ (hS.s _ _ _ M2) (fun _ => ?_)
   try simp only [lpq]
   exact qfL hS M2
 · have M2 := M.alloc2;go_simp;refine hK.out _ _ (hS.s _ _ _ M2) (fun _ => ?_)
   try simp only [lpq]
   exact qfN hS M2
theorem qkb (hS : MdS G) (M : mdM G W (rS0 G) (rS1 G) (rS2 G) (rS3 G) none none (some b2) (some b3)) : mdW G W 18 false false false false true false true false y0 z0 y1 z1 (bxV b2) z2 (bxV b3) z3 := by
 unfold mdW;refine rdq2 9 16 (fun KK hK => ?_) (fun KK hK => ?_)
 · have M2 := M.alloc0;go_simp;refine hK.out _ _ (hS.s _ _ _ M2) (fun _ => ?_)
   try simp only [lpq]
   exact qfM hS M2
 · have M2 := M.alloc1;go_simp;refine hK.out _ _ (hS.s _ _ _ M2) (fun _ => ?_)
   try simp only [lpq]
   exact qfN hS M2
theorem md00 (hS : MdS G) (M : mdM G W (rS0 G) (rS1 G) (rS2 G) (rS3 G) (some b0) none none none) : mdW G W 19 true false false false false false false false (bxV b0) z0 y1 z1 y2 z2 y3 z3 := by
 unfold mdW;refine rdq4 10 16 23 29 (fun KK hK => ?_) (fun KK hK => ?_) (fun KK hK => ?_) (fun KK hK => ?_)
 · refine apR0 hS M (by rfl) _ _ (by rfl) (by rfl) (by rfl) fun A c W2 hs M2 => ?_;refine hK.out _ _ hs (fun _ => ?_)
   try simp only [lpq]
   exact md1 hS M2
 · have M2 := M.alloc1;go_simp;refine hK.out _ _ (hS.s _ _ _ M2) (fun _ => ?_)
   try simp only [lpq]
   exact qj6 hS M2
 · have M2 := M.alloc2;go_simp;refine hK.out _ _ (hS.s _ _ _ M2) (fun _ => ?_)
   try simp only [lpq]
   exact qj7 hS M2
 · have M2 := M.alloc3;go_simp;refine hK.out _ _ (hS.s _ _ _ M2) (fun _ => ?_)
   try simp only [lpq]
   exact qj8 hS M2
theorem md01 (hS : MdS G) (M : mdM G W (rS0 G) (rS1 G) (rS2 G) (rS3 G) none (some b1) none none) : mdW G W 19 false false true false false false false false y0 z0 (bxV b1) z1 y2 z2 y3 z3 := by
 unfold mdW;refine rdq3 9 23 29 (fun KK hK => ?_) (fun KK hK => ?_) (fun KK hK => ?_)
 · have M2 := M.alloc0;go_simp;refine hK.out _ _ (hS.s _ _ _ M2) (fun _ => ?_)
   try simp only [lpq]
   exact qj6 hS M2
 · have M2 := M.alloc2;go_simp;refine hK.out _ _ (hS.s _ _ _ M2) (fun _ => ?_)
   try simp only [lpq]
   exact qj9 hS M2
 · have M2 := M.alloc3;go_simp;refine hK.out _ _ (hS.s _ _ _ M2) (fun _ => ?_)
   try simp only [lpq]
   exact qka hS M2
theorem md02 (hS : MdS G) (M : mdM G W (rS0 G) (rS1 G) (rS2 G) (rS3 G) none none (some b2) none) : mdW G W 19 false false false false true false false false y0 z0 y1 z1 (bxV b2) z2 y3 z3 := by
 unfold mdW;refine rdq3 9 16 29 (fun KK hK => ?_) (fun KK hK => ?_) (fun KK hK => ?_)
 · have M2 := M.alloc0;go_simp;refine hK.out _ _ (hS.s _ _ _ M2) (fun _ => ?_)
   try simp only [lpq]
   exact qj7 hS M2
 · have M2 := M.alloc1;go_simp;refine hK.out _ _ (hS.s _ _ _ M2) (fun _ => ?_)
   try simp only [lpq]
   exact qj9 hS M2
 · have M2 := M.alloc3;go_simp;refine hK.out _ _ (hS.s _ _ _ M2) (fun _ => ?_)
   try simp only [lpq]
   exact qkb hS M2
theorem md03 (hS : MdS G) (M : mdM G W (rS0 G) (rS1 G) (rS2 G) (rS3 G) none none none (some b3)) : mdW G W 19 false false false false false false true false y0 z0 y1 z1 y2 z2 (bxV b3) z3 := by
 unfold mdW;refine rdq3 9 16 23 (fun KK hK => ?_) (fun KK hK => ?_) (fun KK hK => ?_)
 · have M2 := M.alloc0;go_simp;refine hK.out _ _ (hS.s _ _ _ M2) (fun _ => ?_)
   try simp only [lpq]
   exact qj8 hS M2
 · have M2 := M.alloc1;go_simp;refine hK.out _ _ (hS.s _ _ _ M2) (fun _ => ?_)
   try simp only [lpq]
   exact qka hS M2
 · have M2 := M.alloc2;go_simp;refine hK.out _ _ (hS.s _ _ _ M2) (fun _ => ?_)
   try simp only [lpq]
   exact qkb hS M2
theorem md0 (hS : MdS G) (M : mdM G W (rS0 G) (rS1 G) (rS2 G) (rS3 G) none none none none) : mdW G W 20 false false false false false false false false y0 z0 y1 z1 y2 z2 y3 z3 := by
 unfold mdW;refine rdq4 9 16 23 29 (fun KK hK => ?_) (fun KK hK => ?_) (fun KK hK => ?_) (fun KK hK => ?_)
 · have M2 := M.alloc0;go_simp;refine hK.out _ _ (hS.s _ _ _ M2) (fun _ => ?_)
   try simp only [lpq]
   exact md00 hS M2
 · have M2 := M.alloc1;go_simp;refine hK.out _ _ (hS.s _ _ _ M2) (fun _ => ?_)
   try simp only [lpq]
   exact md01 hS M2
 · have M2 := M.alloc2;go_simp;refine hK.out _ _ (hS.s _ _ _ M2) (fun _ => ?_)
   try simp only [lpq]
   exact md02 hS M2
 · have M2 := M.alloc3;go_simp;refine hK.out _ _ (hS.s _ _ _ M2) (fun _ => ?_)
   try simp only [lpq]
   exact md03 hS M2
end
theorem qlj {Q : Exit -> Act -> World -> Prop} {S : World -> Prop} {X0 W : World} {lab0 : Nat -> Nat} {p k : Nat} {D : List Deferred} {A0 A1 A2 A3 : Option Addr} {c0 c1 c2 c3 : Nat} {v0 v1 v2 v3 : List Value} {x0 x1 x2 x3 x4 x5 x6 x7 x8 x9 x10 x11 x12 x13 x14 x15 x16 x17 x18 x19 x20 x21 x22 x23 x24 x25 x26 x27 x28 x29 x32 x33 x34 x35 x36 x39 x40 x41 x42 x43 x46 x47 x48 x49 x50 x52 x53 x54 x55 x56 x57 x58 x59 x60 x61 x62 x63 : Value}
 (hS : ∀ W r o,Mid4 X0 lab0 p W r o -> S W) (hk : k <= 3) (M : Mid4 X0 lab0 p W (q4 ⟨A0,k,c0,v0⟩ ⟨A1,k,c1,v1⟩ ⟨A2,k,c2,v2⟩ ⟨A3,k,c3,v3⟩) (q4 none none none none))
 (hend : ∀ (W : World) (E0 E1 E2 E3 : Option Addr) (d0 d1 d2 d3 b0 b1 b2 b3 : Nat),Mid4 X0 lab0 p W (q4 ⟨E0,k + 1,d0,v0 ++ [ptrV p]⟩ ⟨E1,k + 1,d1,v1 ++ [.int .i64 0, .int .i64 (-1)]⟩ ⟨E2,k + 1,d2,v2 ++ [.int .i64 0, .int .i64 0, .slice none 0 0]⟩ ⟨E3,k + 1,d3,v3 ++ [.slice none 0 0]⟩) (q4 none none none none) -> wpAnyH Tryz.prog .any qdX Q ⟨S,[33,36,39,42]⟩ 12 #[true,true,true,true,true,true,true,true,true,true,true,true,true,true,true,true,true,true,true,true,true,true,true,true,true,true,true,true,true,true,true,false,false,false,false,false,false,false,false,false,false,false,false] ⟨#[x0,x1,x2,x3,x4,x5,x6,x7,x8,x9,x10,x11,x12,x13,x14,x15,x16,x17,x18,x19,x20,x21,x22,x23,x24,x25,x26,x27,x28,x29, .slice A0 k c0,ptrV p,bxV b0, .slice E0 (k + 1) d0,x34,x35,x36, .slice A1 k c1, .agg #[.int .i64 0, .int .i64 (-1)],bxV b1, .slice E1 (k + 1) d1,x41,x42,x43, .slice A2 k c2, .agg #[.int .i64 0, .int .i64 0, .slice none 0 0],bxV b2, .slice E2 (k + 1) d2,x48,x49,x50, .slice A3 k c3,bxV b3, .slice E3 (k + 1) d3,x54,x55,x56,x57,x58,x59,x60,x61,x62,x63],D⟩ W) :
 wpAnyH Tryz.prog .any qdX Q ⟨S,[33,36,39,42]⟩ 20 #[true,true,true,true,true,true,true,true,true,false,false,true,true,true,true,true,false,false,true,true,true,true,true,false,false,true,true,true,true,false,false,false,false,false,false,false,false,false,false,false,false,false,false] ⟨#[x0,x1,x2,x3,x4,x5,x6,x7,x8,x9,x10,x11,x12,x13,x14,x15,x16,x17,x18,x19,x20,x21,x22,x23,x24,x25,x26,x27,x28,x29, .slice A0 k c0,ptrV p,x32,x33,x34,x35,x36, .slice A1 k c1, .agg #[.int .i64 0, .int .i64 (-1)],x39,x40,x41,x42,x43, .slice A2 k c2, .agg #[.int .i64 0, .int .i64 0, .slice none 0 0],x46,x47,x48,x49,x50, .slice A3 k c3,x52,x53,x54,x55,x56,x57,x58,x59,x60,x61,x62,x63],D⟩ W :=
 md0 (G := ⟨Q,S,X0,lab0,p,k,D,A0,A1,A2,A3,c0,c1,c2,c3,v0,v1,v2,v3,fun i => [x0,x1,x2,x3,x4,x5,x6,x7,x8,x9,x10,x11,x12,x13,x14,x15,x16,x17,x18,x19,x20,x21,x22,x23,x24,x25,x26,x27,x28,x29,undef,undef,undef,undef,x34,x35,x36,undef,undef,undef,undef,x41,x42,x43,undef,undef,undef,undef,x48,x49,x50,undef,undef,undef,x54,x55,x56,x57,x58,x59,x60,x61,x62,x63].getD i undef⟩) ⟨hS,hk,hend⟩ M
end RegW
end Go.Proofs.YtmiijlecfiddmaaGreat
