/- What the logs want of the program's disk: how it stands in memory, and each call's contract. 'Z': blocks that it is none of. -/
import Derived.Test.YtnkfdnehkihbeaaDskBack
namespace Go.Proofs.Ytnkfdnehkihbeaa
open Go.RowKit
set_option linter.unusedVariables false

abbrev dptr (d : Nat) : Value := .pointer (some ⟨d, 0, none⟩)

/-- The disk; it is none of Z, and what lies in Z was there. -/
structure Dk (w : World) (d : Nat) (D : Dsk) (Z : Nat → Prop) : Prop where
  dk : DkG w d D Z Z
  good : Good D
  old : ∀ k, Z k → k < w.heap.size

theorem DkG.carry {w w' : World} {d : Nat} {D : Dsk} {M M' Z Z' : Nat → Prop} (h : DkG w d D M Z) (hs : w.heap.size ≤ w'.heap.size) (hM : ∀ k, M' k → M k ∨ w.heap.size ≤ k) (hZ : ∀ k, Z' k → Z k ∨ w.heap.size ≤ k) (hb : ∀ k, k < w.heap.size → ¬ M k → w'.heap[k]? = w.heap[k]?) : DkG w' d D M' Z' := by
  obtain ⟨t, h⟩ := h
  exact ⟨t, h.carry hs hM hZ hb⟩

theorem DkG.own {w : World} {d : Nat} {D : Dsk} {M Z : Nat → Prop} (h : DkG w d D M Z) : ¬ Z d ∧ d < w.heap.size := by
  obtain ⟨t, h⟩ := h
  exact ⟨h.own.2, h.lt⟩

theorem keeps_own {w w' w0 : World} {d : Nat} {D : Dsk} {Z : Nat → Prop} (h : DkG w0 d D Z Z) (hk : Keeps (· ≠ d) w w') : Keeps Z w w' := hk.mono fun k hz e => h.own.1 (e ▸ hz)

theorem Keeps.old {w w' : World} {Z Y : Nat → Prop} (hk : Keeps Y w w') (h : ∀ k, Z k → k < w.heap.size) : ∀ k, Z k → k < w'.heap.size := fun k hz => Nat.lt_of_lt_of_le (h k hz) hk.size

/-- Others wrote to Z, or made what is new: the disk is as it was. -/
theorem Dk.keep {w w' : World} {d : Nat} {D : Dsk} {Z : Nat → Prop} (h : Dk w d D Z) (hs : w.heap.size ≤ w'.heap.size) (hb : ∀ k, k < w.heap.size → ¬ Z k → w'.heap[k]? = w.heap[k]?) : Dk w' d D Z :=
  ⟨h.dk.carry hs (fun k hk => .inl hk) (fun k hk => .inl hk) hb, h.good, fun k hk => Nat.lt_of_lt_of_le (h.old k hk) hs⟩

theorem Dk.below {w w' : World} {d : Nat} {D : Dsk} {Z : Nat → Prop} (h : Dk w d D Z) (hb : Below w.heap.size w w') : Dk w' d D Z := h.keep hb.size fun k hk _ => hb.block k hk

/-- The same, and what is new is none of it. -/
theorem Dk.wide {w w' : World} {d : Nat} {D : Dsk} {Z : Nat → Prop} (h : Dk w d D Z) (hb : Below w.heap.size w w') : Dk w' d D (fun k => Z k ∨ w.heap.size ≤ k ∧ k < w'.heap.size) :=
  ⟨h.dk.carry hb.size (fun k hk => hk.elim .inl fun q => .inr q.1) (fun k hk => hk.elim .inl fun q => .inr q.1) fun k hk _ => hb.block k hk, h.good, fun k hk => hk.elim (fun q => Nat.lt_of_lt_of_le (h.old k q) hb.size) fun q => q.2⟩

theorem Dk.less {w : World} {d : Nat} {D : Dsk} {Z Z' : Nat → Prop} (h : Dk w d D Z) (hz : ∀ k, Z' k → Z k) : Dk w d D Z' :=
  ⟨h.dk.carry (Nat.le_refl _) (fun k hk => .inl (hz k hk)) (fun k hk => .inl (hz k hk)) fun _ _ _ => rfl, h.good, fun k hk => h.old k (hz k hk)⟩

theorem good_new (room : Int) (h0 : 0 ≤ room) (h1 : room ≤ 1048576) : Good ⟨room, [], false, 0, false⟩ :=
  ⟨⟨h0, h1⟩, ⟨List.Pairwise.nil, fun f hf => by cases hf⟩, by show ((0 : Nat) : Int) ≤ room; omega, by show (0 : Int) ≤ 0 ∧ (0 : Int) ≤ _; omega⟩

/-- What a deed leaves. -/
def Did (w w' : World) (d : Nat) (D : Dsk) (Z : Nat → Prop) : Prop := Dk w' d D Z ∧ Keeps Z w w'

section
variable (w : World) (d : Nat) (D : Dsk) (Z : Nat → Prop) (h : Dk w d D Z) (name : ByteArray)

theorem dsk_new (room : Int) (hZ : ∀ k, Z k → k < w.heap.size) (h0 : 0 ≤ room) (h1 : room ≤ 1048576) : Calls Try.prog 16 #[.int .i64 room] w fun e w' => ∃ d, e = .returned (.tuple #[dptr d, .int .i64 0]) ∧ Dk w' d ⟨room, [], false, 0, false⟩ Z ∧ Below w.heap.size w w' :=
  (new_any room w Z Z h0 h1 hZ hZ).mono fun e w' ⟨d, he, hD, hb⟩ => ⟨d, he, ⟨hD, good_new room h0 h1, fun k hk => Nat.lt_of_lt_of_le (hZ k hk) hb.size⟩, hb⟩

include h

theorem dsk_append (A : Option Addr) (cap : Nat) (l : List UInt8) (hl : Lies w A l.length cap l) (hb : l.length ≤ 2147483647) : Calls Try.prog 49 #[dptr d, .string name, .slice A l.length cap] w fun e w' => e = .returned (.int .i64 (((D.append name ⟨l.toArray⟩).2 : Nat) : Int)) ∧ Did w w' d (D.append name ⟨l.toArray⟩).1 Z :=
  (append_any w d D Z Z name A cap l h.dk h.good h.old h.old hl hb).mono fun e w' ⟨he, hD, hk⟩ => ⟨he, ⟨hD, h.good.append _ _, hk.old h.old⟩, hk⟩

theorem dsk_sync : Calls Try.prog 50 #[dptr d, .string name] w fun e w' => e = .returned (.int .i64 (((D.sync name).2 : Nat) : Int)) ∧ Did w w' d (D.sync name).1 Z :=
  (sync_any w d D Z Z name h.dk h.good h.old h.old).mono fun e w' ⟨he, hD, hk⟩ => ⟨he, ⟨hD, h.good.sync _, hk.old h.old⟩, keeps_own h.dk hk⟩

theorem dsk_cut (n : Int) (hn : -9223372036854775808 ≤ n ∧ n ≤ 9223372036854775807) : Calls Try.prog 33 #[dptr d, .string name, .int .i64 n] w fun e w' => e = .returned (.int .i64 (((D.cut name n).2 : Nat) : Int)) ∧ Did w w' d (D.cut name n).1 Z :=
  (cut_any w d D Z Z name n hn h.dk h.good h.old h.old).mono fun e w' ⟨he, hD, hk⟩ => ⟨he, ⟨hD, h.good.cut _ _, hk.old h.old⟩, keeps_own h.dk hk⟩

theorem dsk_rename (b : ByteArray) : Calls Try.prog 58 #[dptr d, .string name, .string b] w fun e w' => e = .returned (.int .i64 (((D.rename name b).2 : Nat) : Int)) ∧ Did w w' d (D.rename name b).1 Z :=
  (rename_any w d D Z Z name b h.dk h.good h.old h.old).mono fun e w' ⟨he, hD, hk⟩ => ⟨he, ⟨hD, h.good.rename _ _, hk.old h.old⟩, keeps_own h.dk hk⟩

theorem dsk_remove : Calls Try.prog 67 #[dptr d, .string name] w fun e w' => e = .returned (.int .i64 (((D.remove name).2 : Nat) : Int)) ∧ Did w w' d (D.remove name).1 Z :=
  (remove_any w d D Z Z name h.dk h.good h.old h.old).mono fun e w' ⟨he, hD, hk⟩ => ⟨he, ⟨hD, h.good.remove _, hk.old h.old⟩, keeps_own h.dk hk⟩

theorem dsk_read : Calls Try.prog 32 #[dptr d, .string name] w fun e w' => ∃ A cap, e = .returned (.tuple #[.slice A (D.read name).1.size cap, .int .i64 (((D.read name).2 : Nat) : Int)]) ∧ Lies w' A (D.read name).1.size cap (D.read name).1.data.toList ∧ Below w.heap.size w w' :=
  (read_any w d D Z Z name h.dk h.good).mono fun e w' ⟨A, cap, he, hl, hn, hb, _⟩ => ⟨A, cap, he, hl, hb⟩

theorem dsk_used : Calls Try.prog 24 #[dptr d] w fun e w' => e = .returned (.int .i64 ((usedF D.l : Nat) : Int)) ∧ w = w' :=
  used_any w d D Z Z h.dk

theorem dsk_fuse (n : Int) (hn : n ≤ 9223372036854775807) : Calls Try.prog 19 #[dptr d, .int .i64 n] w fun e w' => e = .returned (.int .i64 (((D.fuse n).2 : Nat) : Int)) ∧ Did w w' d (D.fuse n).1 Z :=
  (fuse_any w d D Z Z n h.dk).mono fun e w' ⟨he, hD, hk⟩ => ⟨he, ⟨hD, h.good.fuse _ hn, (keeps_own h.dk hk).old h.old⟩, keeps_own h.dk hk⟩

theorem dsk_restart (K : Option Addr) (klen kcap : Nat) (Y : Nat → Int) (hK : RI w K klen Y) (hl : klen ≤ 2147483647) (hc : klen ≤ kcap) (hd : 0 < klen → ∀ a, K = some a → a.block ≠ d) : Calls Try.prog 20 #[dptr d, .slice K klen kcap] w fun e w' => e = .returned (.tuple #[]) ∧ Did w w' d (D.restart Y klen) Z :=
  (restart_any w d D Z Z K klen kcap Y h.dk h.good h.old h.old hK hl hc hd).mono fun e w' ⟨he, hD, hk⟩ => ⟨he, ⟨hD, h.good.restart _ _, (keeps_own h.dk hk).old h.old⟩, keeps_own h.dk hk⟩
end

end Go.Proofs.Ytnkfdnehkihbeaa
