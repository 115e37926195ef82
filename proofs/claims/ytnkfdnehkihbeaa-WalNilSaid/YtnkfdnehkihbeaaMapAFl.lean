/- The calls count, depth, Compare and join of a tree's node, each by its contract. -/
import Derived.Test.YtnkfdnehkihbeaaRows
import Derived.Test.YtnkfdnehkihbeaaMapRFl
import Derived.WalkKit
import Derived.WalkSpells
import Derived.WalkLawsBesides
import Derived.StillTailTactics
import Derived.Deep.RegionHeld3
import Derived.Lib.Hide
import Derived.Deep.QuietTactic
import Derived.BigQuiet
import Derived.IntWalk
namespace Go.Proofs.Ytnkfdnehkihbeaa.MapFl
open Go.RowKit Go.Proofs.Ytnkfdnehkihbeaa
set_option linter.unusedVariables false
variable {P : Nat → Prop}

theorem count_any (t : T) (u : Option Addr) (w : World) (h : Rp P w u t) : Calls Try.prog 63 #[.pointer u] w fun e w' => e = .returned (.int .i64 (t.size : Int)) ∧ w = w' := by
  cases t with
  | nil =>
    have h0 := h
    obtain ⟨rfl, hE⟩ := h
    go_enter Try.func63, Try.ntmps63
    go_wp2
    go_ret
    exact ⟨rfl, rfl⟩
  | node k v l r =>
    obtain ⟨b, ul, ur, rfl, hPb, c0, c1, c1b, c2, c3, c4, c5, hl, hr⟩ := h
    rw [Tr.size_node]
    generalize l.size + 1 + r.size = n at c4 ⊢
    go_enter Try.func63, Try.ntmps63
    go_wp2
    go_ret
    exact ⟨rfl, rfl⟩

theorem depth_any (t : T) (u : Option Addr) (w : World) (h : Rp P w u t) : Calls Try.prog 74 #[.pointer u] w fun e w' => e = .returned (.int .i64 (t.deep : Int)) ∧ w = w' := by
  cases t with
  | nil =>
    have h0 := h
    obtain ⟨rfl, hE⟩ := h
    go_enter Try.func74, Try.ntmps74
    go_wp2
    go_ret
    exact ⟨rfl, rfl⟩
  | node k v l r =>
    obtain ⟨b, ul, ur, rfl, hPb, c0, c1, c1b, c2, c3, c4, c5, hl, hr⟩ := h
    rw [Tr.deep_node]
    generalize Nat.max l.deep r.deep + 1 = n at c5 ⊢
    go_enter Try.func74, Try.ntmps74
    go_wp2
    go_ret
    exact ⟨rfl, rfl⟩


theorem nan_any (a : ByteArray) (w : World) : Calls Try.prog 73 #[Value.string a] w fun e w' => e = .returned (.bool false) ∧ w = w' := by
  go_enter Try.func73, Try.ntmps73
  go_wp2
  go_ret
  exact ⟨by simp, rfl⟩

theorem cmp_lt (a b : ByteArray) (h : ltS a b = true) (w : World) : Calls Try.prog 69 #[Value.string a, Value.string b] w fun e w' => e = .returned (.int .i64 (-1)) ∧ w = w' := by
  have h1 : Op.bytesLess a.toList b.toList = true := h
  go_enter Try.func69, Try.ntmps69
  go_wp2_with (go_at_call 73; refine (nan_any _ _).mono ?_; rintro e w' ⟨rfl, rfl⟩)
  go_ret
  exact ⟨rfl, rfl⟩

theorem cmp_gt (a b : ByteArray) (h : ltS b a = true) (w : World) : Calls Try.prog 69 #[Value.string a, Value.string b] w fun e w' => e = .returned (.int .i64 1) ∧ w = w' := by
  have h1 : Op.bytesLess a.toList b.toList = false := ltS_asymm h
  have h2 : (a.toList == b.toList) = false := ltS_ne h
  go_enter Try.func69, Try.ntmps69
  go_wp2_with (go_at_call 73; refine (nan_any _ _).mono ?_; rintro e w' ⟨rfl, rfl⟩)
  go_ret
  exact ⟨rfl, rfl⟩

theorem cmp_eq (a : ByteArray) (w : World) : Calls Try.prog 69 #[Value.string a, Value.string a] w fun e w' => e = .returned (.int .i64 0) ∧ w = w' := by
  have h1 : Op.bytesLess a.toList a.toList = false := ltS_irr a
  go_enter Try.func69, Try.ntmps69
  go_wp2_with (go_at_call 73; refine (nan_any _ _).mono ?_; rintro e w' ⟨rfl, rfl⟩)
  go_ret
  exact ⟨rfl, rfl⟩

/-- A node made of two sides. -/
theorem join_any (l r : T) (ul ur : Option Addr) (k : ByteArray) (v : FV) (w : World) (hl : Rp P w ul l) (hr : Rp P w ur r) (hs : l.size + 1 + r.size ≤ 4000000) :
    Calls Try.prog 72 #[.pointer ul, .agg #[Value.string k, fvS v, fvN v], .pointer ur] w fun e w' => ∃ u, e = .returned (.pointer u) ∧ Rp P w' u (.node k v l r) ∧ Below w.heap.size w w' := by
  have dl := l.deep_le
  have dr := r.deep_le
  have e1 : IntKind.i64.wrap ((l.size : Int) + 1) = (l.size : Int) + 1 := IntWalk.i64_in _ (by omega)
  have e2 : IntKind.i64.wrap ((l.size : Int) + 1 + (r.size : Int)) = (l.size : Int) + 1 + (r.size : Int) := IntWalk.i64_in _ (by omega)
  have e3 : IntKind.i64.wrap ((l.deep : Int) + 1) = (l.deep : Int) + 1 := IntWalk.i64_in _ (by omega)
  have e4 : IntKind.i64.wrap ((r.deep : Int) + 1) = (r.deep : Int) + 1 := IntWalk.i64_in _ (by omega)
  by_cases hlt : l.deep < r.deep
  all_goals
    go_enter Try.func72, Try.ntmps72
    go_wp2
    go_region_held3 (fun w' => w'.cell? ⟨w.heap.size, 0, none⟩ = some (Value.string k) ∧ w'.cell? ⟨w.heap.size, 1, none⟩ = some (fvS v) ∧ w'.cell? ⟨w.heap.size, 2, none⟩ = some (fvN v)) (go_keep)
      (first
        | (go_at_call_of 63 (Value.pointer ul); refine (count_any (P := P) l ul _ ?_).mono ?_; (repeat (first | with_reducible exact hl | refine Rp.alloc _ ?_ | refine Rp.drew ?_)); rintro e w' ⟨rfl, rfl⟩)
        | (go_at_call_of 63 (Value.pointer ur); refine (count_any (P := P) r ur _ ?_).mono ?_; (repeat (first | with_reducible exact hr | refine Rp.alloc _ ?_ | refine Rp.drew ?_)); rintro e w' ⟨rfl, rfl⟩)
        | (go_at_call_of 74 (Value.pointer ul); refine (depth_any (P := P) l ul _ ?_).mono ?_; (repeat (first | with_reducible exact hl | refine Rp.alloc _ ?_ | refine Rp.drew ?_)); rintro e w' ⟨rfl, rfl⟩)
        | (go_at_call_of 74 (Value.pointer ur); refine (depth_any (P := P) r ur _ ?_).mono ?_; (repeat (first | with_reducible exact hr | refine Rp.alloc _ ?_ | refine Rp.drew ?_)); rintro e w' ⟨rfl, rfl⟩))
    go_wp2
    go_ret
  · refine ⟨some ⟨w.heap.size + 1, 0, none⟩, rfl, Rp.made hl hr _ _ ?_ ?_, (((Below.refl _ _).alloc (Nat.le_refl _) _).alloc (by simp) _).drew⟩
    · push_cast; rfl
    · rw [show Nat.max l.deep r.deep = r.deep from Nat.max_eq_right (Nat.le_of_lt hlt)]; push_cast; rfl
  · refine ⟨some ⟨w.heap.size + 1, 0, none⟩, rfl, Rp.made hl hr _ _ ?_ ?_, (((Below.refl _ _).alloc (Nat.le_refl _) _).alloc (by simp) _).drew⟩
    · push_cast; rfl
    · rw [show Nat.max l.deep r.deep = l.deep from Nat.max_eq_left (Nat.not_lt.1 hlt)]; push_cast; rfl

end Go.Proofs.Ytnkfdnehkihbeaa.MapFl
