/- slices.Clone and slices.Sort at int64, as the library's contracts say of them (numbers of the seat of ffe80060: written anew for another one, see NOTES). -/
import Derived.Ground.SlgnProg
import Derived.Shelf.SlicesG.Clone
import Derived.Shelf.SortG.Plain
import Derived.Test.YtbhbmiknomdebaaProg
namespace Go.Proofs.Ytbhbmiknomdebaa
open Go.Shelf
def renClone : Go.Shelf.Ren := ⟨fun | 41 => 13 | n => n, fun | 22 => 22 | 23 => 2 | 4 => 4 | n => n, fun | n => n⟩
theorem laysClone : Go.Proofs.SlLaysN.n41 Try.prog renClone := {
  mixed := by kernel_rfl
  f41 := ⟨Try.f13.name, by decide, Try.func13.trans (congrArg some (by kernel_rfl))⟩
  t4 := Try.underlying4
  a4 := Try.isAgg4
  z4 := Try.sizeOf4
  v4 := Try.zeroValue4
  t22 := Try.underlying22
  a22 := Try.isAgg22
  z22 := Try.sizeOf22
  v22 := Try.zeroValue22
  t23 := Try.underlying2
  a23 := Try.isAgg2
  z23 := Try.sizeOf2
  v23 := Try.zeroValue2
  i23 := by kernel_rfl }
open Go.RowKit Go.Lib in
theorem clone_nums (b off n c : Nat) (zs : List Int) (w : World) (hz : n ≤ zs.length) (hbig : n * 8 ≤ 140737488355328) (hc : ∀ j, j < zs.length → w.cell? ⟨b, off + j, none⟩ = some (.int .i64 (zs.getD j 0))) :
    Calls Try.prog 13 #[.slice (some ⟨b, off, none⟩) n c] w fun e w' => ∃ v', e = .returned v' ∧ w'.ownsRow w.heap.size 2 1 v' n ((zs.take n).map (Value.int .i64)) ∧ v' ≠ .slice none 0 0 ∧ Below w.heap.size w w' := AnyG.slices_Clone_int laysClone b off n c zs w hz hbig hc
open Go.RowKit Go.Lib in
theorem clone_nil (n c : Nat) (w : World) :
    Calls Try.prog 13 #[.slice none n c] w fun e w' => e = .returned (.slice none 0 0) ∧ w' = w := AnyG.slices_Clone_int_nil laysClone n c w
open Go.RowKit Go.Lib in
theorem clone_zero (a : Addr) (c : Nat) (w : World) :
    Calls Try.prog 13 #[.slice (some a) 0 c] w fun e w' => ∃ v', e = .returned v' ∧ w'.ownsRow w.heap.size 2 1 v' 0 [] ∧ v' ≠ .slice none 0 0 ∧ Below w.heap.size w w' := AnyG.slices_Clone_int_zero laysClone a c w
def renSort : Go.Shelf.Ren := ⟨fun | 53 => 14 | 64 => 17 | 63 => 16 | 78 => 27 | 79 => 28 | 70 => 18 | 71 => 19 | 72 => 20 | 73 => 21 | 74 => 22 | 75 => 23 | 59 => 24 | 76 => 25 | 77 => 26 | 88 => 29 | 89 => 30 | 90 => 31 | 91 => 32 | 92 => 33 | 68 => 34 | 96 => 35 | n => n, fun | 22 => 22 | 23 => 2 | 3 => 3 | 51 => 30 | 0 => 0 | 67 => 29 | 69 => 47 | 4 => 4 | 61 => 38 | 60 => 37 | 44 => 43 | 5 => 5 | 9 => 9 | 75 => 48 | 79 => 52 | 83 => 55 | 84 => 56 | n => n, fun | n => n⟩
theorem laysSort : Go.Proofs.SlLaysN.n53 Try.prog renSort := {
  mixed := by kernel_rfl
  f53 := ⟨Try.f14.name, by decide, Try.func14.trans (congrArg some (by kernel_rfl))⟩
  f59 := ⟨Try.f24.name, by decide, Try.func24.trans (congrArg some (by kernel_rfl))⟩
  f63 := ⟨Try.f16.name, by decide, Try.func16.trans (congrArg some (by kernel_rfl))⟩
  f64 := Try.func17.trans (congrArg some (by kernel_rfl))
  f68 := ⟨Try.f34.name, by decide, Try.func34.trans (congrArg some (by kernel_rfl))⟩
  f70 := ⟨Try.f18.name, by decide, Try.func18.trans (congrArg some (by kernel_rfl))⟩
  f71 := ⟨Try.f19.name, by decide, Try.func19.trans (congrArg some (by kernel_rfl))⟩
  f72 := ⟨Try.f20.name, by decide, Try.func20.trans (congrArg some (by kernel_rfl))⟩
  f73 := ⟨Try.f21.name, by decide, Try.func21.trans (congrArg some (by kernel_rfl))⟩
  f74 := ⟨Try.f22.name, by decide, Try.func22.trans (congrArg some (by kernel_rfl))⟩
  f75 := ⟨Try.f23.name, by decide, Try.func23.trans (congrArg some (by kernel_rfl))⟩
  f76 := ⟨Try.f25.name, by decide, Try.func25.trans (congrArg some (by kernel_rfl))⟩
  f77 := ⟨Try.f26.name, by decide, Try.func26.trans (congrArg some (by kernel_rfl))⟩
  f78 := Try.func27.trans (congrArg some (by kernel_rfl))
  f79 := Try.func28.trans (congrArg some (by kernel_rfl))
  f88 := ⟨Try.f29.name, by decide, Try.func29.trans (congrArg some (by kernel_rfl))⟩
  f89 := Try.func30.trans (congrArg some (by kernel_rfl))
  f90 := Try.func31.trans (congrArg some (by kernel_rfl))
  f91 := ⟨Try.f32.name, by decide, Try.func32.trans (congrArg some (by kernel_rfl))⟩
  f92 := ⟨Try.f33.name, by decide, Try.func33.trans (congrArg some (by kernel_rfl))⟩
  f96 := ⟨Try.f35.name, by decide, Try.func35.trans (congrArg some (by kernel_rfl))⟩
  t0 := Try.underlying0
  a0 := Try.isAgg0
  z0 := Try.sizeOf0
  v0 := Try.zeroValue0
  t3 := Try.underlying3
  a3 := Try.isAgg3
  z3 := Try.sizeOf3
  v3 := Try.zeroValue3
  t4 := Try.underlying4
  a4 := Try.isAgg4
  z4 := Try.sizeOf4
  v4 := Try.zeroValue4
  t5 := Try.underlying5
  a5 := Try.isAgg5
  z5 := Try.sizeOf5
  v5 := Try.zeroValue5
  t9 := Try.underlying9
  a9 := Try.isAgg9
  z9 := Try.sizeOf9
  v9 := Try.zeroValue9
  t22 := Try.underlying22
  a22 := Try.isAgg22
  z22 := Try.sizeOf22
  v22 := Try.zeroValue22
  t23 := Try.underlying2
  a23 := Try.isAgg2
  z23 := Try.sizeOf2
  v23 := Try.zeroValue2
  t44 := Try.underlying43
  a44 := Try.isAgg43
  z44 := Try.sizeOf43
  v44 := Try.zeroValue43
  t51 := Try.underlying30
  a51 := Try.isAgg30
  z51 := Try.sizeOf30
  v51 := Try.zeroValue30
  t60 := Try.underlying37
  a60 := Try.isAgg37
  z60 := Try.sizeOf37
  v60 := Try.zeroValue37
  t61 := Try.underlying38
  a61 := Try.isAgg38
  z61 := Try.sizeOf38
  v61 := Try.zeroValue38
  t67 := Try.underlying29
  a67 := Try.isAgg29
  z67 := Try.sizeOf29
  v67 := Try.zeroValue29
  t69 := Try.underlying47
  a69 := Try.isAgg47
  z69 := Try.sizeOf47
  v69 := Try.zeroValue47
  t75 := Try.underlying48
  a75 := Try.isAgg48
  z75 := Try.sizeOf48
  v75 := Try.zeroValue48
  t79 := Try.underlying52
  a79 := Try.isAgg52
  z79 := Try.sizeOf52
  v79 := Try.zeroValue52
  t83 := Try.underlying55
  a83 := Try.isAgg55
  z83 := Try.sizeOf55
  v83 := Try.zeroValue55
  t84 := Try.underlying56
  a84 := Try.isAgg56
  z84 := Try.sizeOf56
  v84 := Try.zeroValue56 }
open Go.RowKit Go.Lib Go.Sort in
theorem sort_nums (blk off cap : Nat) (zs : List Int) (w : World) (hH : Holds (Value.int .i64) w blk off zs.toArray) (hblk : blk < w.heap.size) (hsz : zs.length < 4611686018427387904) :
    Calls Try.prog 14 #[.slice (some ⟨blk, off, none⟩) zs.length cap] w fun e w' => e = .returned (.tuple #[]) ∧ ∃ n os, w' = grow (putRow (Value.int .i64) (Sort.ahead w n) blk off (zs.mergeSort fun x y => decide (x ≤ y)).toArray) os := AnyG.slices_Sort_int laysSort blk off cap zs w hH hblk hsz
end Go.Proofs.Ytbhbmiknomdebaa
