/- What the laws want of the program's disk: how it stands in memory, and each call's contract. 'Z': blocks that it is none of. -/
import Derived.Test.YtkgkllhocmedoaaDskGood
import Derived.Test.YtkgkllhocmedoaaDskRefF
import Derived.Test.YtkgkllhocmedoaaBytArgs
namespace Go.Proofs.Ytkgkllhocmedoaa
open Go.RowKit
set_option linter.unusedVariables false

/-- A slice that reads as these names. -/
def RNames (w : World) (A : Option Addr) (l : List Fil) : Prop :=
  0 < l.length → ∃ g off, A = some ⟨g, off, none⟩ ∧ g < w.heap.size ∧ ∀ j (hj : j < l.length), w.cell? ⟨g, off + j, none⟩ = some (.string l[j].name)

abbrev dptr (d : Nat) : Value := .pointer (some ⟨d, 0, none⟩)

/-- What has so many elements there lies in Z. -/
def InZ (Z : Nat → Prop) (A : Option Addr) (n : Nat) : Prop := 0 < n → ∀ a, A = some a → Z a.block

structure DiskOps where
  Dk : World → Nat → Dsk → (Nat → Prop) → Prop
  keep : ∀ {w w' : World} {d : Nat} {D : Dsk} {Z : Nat → Prop}, Dk w d D Z → w.heap.size ≤ w'.heap.size → (∀ k, k < w.heap.size → ¬ Z k → w'.heap[k]? = w.heap[k]?) → Dk w' d D Z
  out : ∀ {w : World} {d : Nat} {D : Dsk} {Z Z' : Nat → Prop}, Dk w d D Z → (∀ k, Z' k → Z k ∨ w.heap.size ≤ k) → Dk w d D Z'
  own : ∀ {w : World} {d : Nat} {D : Dsk} {Z : Nat → Prop}, Dk w d D Z → ¬ Z d ∧ d < w.heap.size
  new_ok : ∀ (room : Int) (w : World) (Z : Nat → Prop), 0 ≤ room → room ≤ 1048576 → (∀ k, Z k → k < w.heap.size) →
    Calls Try.prog 10 #[.int .i64 room] w fun e w' => ∃ d, e = .returned (.tuple #[dptr d, .int .i64 0]) ∧ Dk w' d ⟨room, [], false, 0, false⟩ Z ∧ Keeps Z w w'
  new_bad : ∀ (room : Int) (w : World), room < 0 ∨ 1048576 < room → Calls Try.prog 10 #[.int .i64 room] w fun e w' => e = .returned (.tuple #[.pointer none, .int .i64 1]) ∧ Below w.heap.size w w'
  append : ∀ (w : World) (d : Nat) (D : Dsk) (Z : Nat → Prop) (name : ByteArray) (A : Option Addr) (cap : Nat) (l : List UInt8), Dk w d D Z → Good D → (∀ k, Z k → k < w.heap.size) → Lies w A l.length cap l → l.length ≤ 2147483647 → cap ≤ maxLen → name.size ≤ 2147483647 →
    Calls Try.prog 20 #[dptr d, .string name, .slice A l.length cap] w fun e w' => e = .returned (.int .i64 (((D.append name ⟨l.toArray⟩).2 : Nat) : Int)) ∧ Dk w' d (D.append name ⟨l.toArray⟩).1 Z ∧ Keeps Z w w'
  sync : ∀ (w : World) (d : Nat) (D : Dsk) (Z : Nat → Prop) (name : ByteArray), Dk w d D Z → Good D → (∀ k, Z k → k < w.heap.size) → name.size ≤ 2147483647 →
    Calls Try.prog 21 #[dptr d, .string name] w fun e w' => e = .returned (.int .i64 (((D.sync name).2 : Nat) : Int)) ∧ Dk w' d (D.sync name).1 Z ∧ Keeps Z w w'
  cut : ∀ (w : World) (d : Nat) (D : Dsk) (Z : Nat → Prop) (name : ByteArray) (n : Int), Dk w d D Z → Good D → (∀ k, Z k → k < w.heap.size) → name.size ≤ 2147483647 → -9223372036854775808 ≤ n ∧ n ≤ 9223372036854775807 →
    Calls Try.prog 23 #[dptr d, .string name, .int .i64 n] w fun e w' => e = .returned (.int .i64 (((D.cut name n).2 : Nat) : Int)) ∧ Dk w' d (D.cut name n).1 Z ∧ Keeps Z w w'
  rename : ∀ (w : World) (d : Nat) (D : Dsk) (Z : Nat → Prop) (a b : ByteArray), Dk w d D Z → Good D → (∀ k, Z k → k < w.heap.size) → a.size ≤ 2147483647 → b.size ≤ 2147483647 →
    Calls Try.prog 24 #[dptr d, .string a, .string b] w fun e w' => e = .returned (.int .i64 (((D.rename a b).2 : Nat) : Int)) ∧ Dk w' d (D.rename a b).1 Z ∧ Keeps Z w w'
  remove : ∀ (w : World) (d : Nat) (D : Dsk) (Z : Nat → Prop) (name : ByteArray), Dk w d D Z → Good D → (∀ k, Z k → k < w.heap.size) → name.size ≤ 2147483647 →
    Calls Try.prog 22 #[dptr d, .string name] w fun e w' => e = .returned (.int .i64 (((D.remove name).2 : Nat) : Int)) ∧ Dk w' d (D.remove name).1 Z ∧ Keeps Z w w'
  read : ∀ (w : World) (d : Nat) (D : Dsk) (Z : Nat → Prop) (name : ByteArray), Dk w d D Z → Good D → (∀ k, Z k → k < w.heap.size) → name.size ≤ 2147483647 →
    Calls Try.prog 15 #[dptr d, .string name] w fun e w' => ∃ A cap, e = .returned (.tuple #[.slice A (D.read name).1.size cap, .int .i64 (((D.read name).2 : Nat) : Int)]) ∧ Lies w' A (D.read name).1.size cap (D.read name).1.data.toList ∧ (0 < (D.read name).1.size → New w.heap.size A) ∧ Dk w' d D (fun k => Z k ∨ w.heap.size ≤ k) ∧ Keeps Z w w'
  names : ∀ (w : World) (d : Nat) (D : Dsk) (Z : Nat → Prop), Dk w d D Z → Good D → (∀ k, Z k → k < w.heap.size) →
    Calls Try.prog 18 #[dptr d] w fun e w' => ∃ A cap, e = .returned (.slice A D.l.length cap) ∧ RNames w' A D.l ∧ (0 < D.l.length → New w.heap.size A) ∧ Dk w' d D (fun k => Z k ∨ w.heap.size ≤ k) ∧ Keeps Z w w'
  safe : ∀ (w : World) (d : Nat) (D : Dsk) (Z : Nat → Prop) (name : ByteArray), Dk w d D Z → Good D → (∀ k, Z k → k < w.heap.size) → name.size ≤ 2147483647 →
    Calls Try.prog 16 #[dptr d, .string name] w fun e w' => e = .returned (.int .i64 ((getF D.l name).1.safe : Int)) ∧ Below w.heap.size w w'
  used : ∀ (w : World) (d : Nat) (D : Dsk) (Z : Nat → Prop), Dk w d D Z → Good D → (∀ k, Z k → k < w.heap.size) →
    Calls Try.prog 13 #[dptr d] w fun e w' => e = .returned (.int .i64 ((usedF D.l : Nat) : Int)) ∧ Dk w' d D Z ∧ Keeps Z w w'
  lost : ∀ (w : World) (d : Nat) (D : Dsk) (Z : Nat → Prop), Dk w d D Z →
    Calls Try.prog 17 #[dptr d] w fun e w' => e = .returned (.bool D.lost) ∧ w = w'
  fuse : ∀ (w : World) (d : Nat) (D : Dsk) (Z : Nat → Prop) (n : Int), Dk w d D Z → (∀ k, Z k → k < w.heap.size) → -9223372036854775808 ≤ n ∧ n ≤ 9223372036854775807 →
    Calls Try.prog 19 #[dptr d, .int .i64 n] w fun e w' => e = .returned (.int .i64 (((D.fuse n).2 : Nat) : Int)) ∧ Dk w' d (D.fuse n).1 Z ∧ Keeps Z w w'
  restart : ∀ (w : World) (d : Nat) (D : Dsk) (Z : Nat → Prop) (K : Option Addr) (klen kcap : Nat) (Y : Nat → Int), Dk w d D Z → Good D → (∀ k, Z k → k < w.heap.size) → RI w K klen Y → klen ≤ 2147483647 → klen ≤ kcap → (0 < klen → ∀ a, K = some a → a.block ≠ d) →
    Calls Try.prog 14 #[dptr d, .slice K klen kcap] w fun e w' => e = .returned (.tuple #[]) ∧ Dk w' d (D.restart Y klen) Z ∧ Keeps Z w w'
  clone : ∀ (w : World) (d : Nat) (D : Dsk) (Z : Nat → Prop), Dk w d D Z → Good D → (∀ k, Z k → k < w.heap.size) →
    Calls Try.prog 25 #[dptr d] w fun e w' => ∃ d', e = .returned (dptr d') ∧ Dk w' d' D Z ∧ Keeps Z w w'

/-- Something that is done. -/
structure Act where
  kind : Nat
  name : ByteArray
  to_ : ByteArray
  bA : Option Addr
  bcap : Nat
  bL : List UInt8
  n : Int
  kA : Option Addr
  klen : Nat
  kcap : Nat
  kY : Nat → Int

abbrev actC (a : Act) : Array Value := #[.int .u8 (a.kind : Int), .string a.name, .string a.to_, .slice a.bA a.bL.length a.bcap, .int .i64 a.n, .slice a.kA a.klen a.kcap]
abbrev actV (a : Act) : Value := .agg (actC a)

/-- What it leads to lies in Z. -/
structure ActIn (w : World) (Z : Nat → Prop) (a : Act) : Prop where
  b : Lies w a.bA a.bL.length a.bcap a.bL
  bz : InZ Z a.bA a.bL.length
  k : RI w a.kA a.klen a.kY
  kz : InZ Z a.kA a.klen
  n : -9223372036854775808 ≤ a.n ∧ a.n ≤ 9223372036854775807
  kind : a.kind < 256
  bcap : a.bcap ≤ maxLen
  kc : a.klen ≤ a.kcap

theorem Keeps.rf {w w' : World} {Z : Nat → Prop} {A : Option Addr} {cap : Nat} {l : List Fil} (hk : Keeps Z w w') (h : RF w A cap l) (hz : InZ Z A l.length) : RF w' A cap l := by
  refine ⟨h.1, fun h0 => ?_⟩
  obtain ⟨g, off, e, hg, hc⟩ := h.2 h0
  refine ⟨g, off, e, Nat.lt_of_lt_of_le hg hk.size, fun j hj => ?_⟩
  obtain ⟨c0, c1, c2⟩ := hc j hj
  have hx : ∀ o, w'.cell? ⟨g, o, none⟩ = w.cell? ⟨g, o, none⟩ := fun o => World.cell?_of_block (hk.block g hg (hz h0 _ e))
  exact ⟨(hx _).trans c0, (hx _).trans c1, (hx _).trans c2⟩

theorem Keeps.ri {w w' : World} {Z : Nat → Prop} {K : Option Addr} {klen : Nat} {Y : Nat → Int} (hk : Keeps Z w w') (h : RI w K klen Y) (hz : InZ Z K klen) : RI w' K klen Y := by
  refine ⟨h.1, fun h0 => ?_⟩
  obtain ⟨b, off, e, hg, hc⟩ := h.2 h0
  exact ⟨b, off, e, Nat.lt_of_lt_of_le hg hk.size, fun j hj => (World.cell?_of_block (hk.block b hg (hz h0 _ e))).trans (hc j hj)⟩

theorem Keeps.lies {w w' : World} {Z : Nat → Prop} {A : Option Addr} {len cap : Nat} {l : List UInt8} (hk : Keeps Z w w') (h : Lies w A len cap l) (hz : InZ Z A len) : Lies w' A len cap l :=
  h.keeps hk fun h0 g off e => hz h0 _ e

theorem ActIn.keeps {w w' : World} {Z : Nat → Prop} {a : Act} (h : ActIn w Z a) (hk : Keeps Z w w') : ActIn w' Z a :=
  ⟨hk.lies h.b h.bz, h.bz, hk.ri h.k h.kz, h.kz, h.n, h.kind, h.bcap, h.kc⟩

theorem ActIn.mono {w : World} {Z Z' : Nat → Prop} {a : Act} (h : ActIn w Z a) (hz : ∀ k, Z k → Z' k) : ActIn w Z' a :=
  ⟨h.b, fun h0 x e => hz _ (h.bz h0 x e), h.k, fun h0 x e => hz _ (h.kz h0 x e), h.n, h.kind, h.bcap, h.kc⟩

/-- What a disk is behind it. -/
def Act.on (a : Act) (D : Dsk) : Dsk :=
  if a.kind = 0 then (D.append a.name ⟨a.bL.toArray⟩).1 else
  if a.kind = 1 then (D.sync a.name).1 else
  if a.kind = 2 then (D.cut a.name a.n).1 else
  if a.kind = 3 then (D.rename a.name a.to_).1 else
  if a.kind = 4 then (D.remove a.name).1 else
  if a.kind = 5 then D else
  if a.kind = 6 then (D.fuse a.n).1 else
  if a.kind = 7 then D.restart a.kY a.klen else D

theorem Act.good (a : Act) {D : Dsk} (h : Good D) (hn : a.n ≤ 9223372036854775807) : Good (a.on D) := by
  unfold Act.on
  split
  · exact h.append _ _
  split
  · exact h.sync _
  split
  · exact h.cut _ _
  split
  · exact h.rename _ _
  split
  · exact h.remove _
  split
  · exact h
  split
  · exact h.fuse _ hn
  split
  · exact h.restart _ _
  · exact h

end Go.Proofs.Ytkgkllhocmedoaa
