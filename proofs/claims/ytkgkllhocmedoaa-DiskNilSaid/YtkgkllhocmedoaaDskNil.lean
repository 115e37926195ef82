/- DiskNil's walk, over what the program answers of no disk. -/
import Derived.Test.YtkgkllhocmedoaaDskPlays
namespace Go.Proofs.Ytkgkllhocmedoaa
open Go.RowKit
set_option linter.unusedVariables false
set_option linter.unusedSimpArgs false

/-- What is answered where there is no disk. -/
structure NilOps : Prop where
  append : ∀ (w : World) (name : ByteArray) (A : Option Addr) (len cap : Nat), Calls Try.prog 20 #[.pointer none, .string name, .slice A len cap] w fun e w' => e = .returned (.int .i64 1) ∧ Below w.heap.size w w'
  sync : ∀ (w : World) (name : ByteArray), Calls Try.prog 21 #[.pointer none, .string name] w fun e w' => e = .returned (.int .i64 1) ∧ Below w.heap.size w w'
  cut : ∀ (w : World) (name : ByteArray) (n : Int), Calls Try.prog 23 #[.pointer none, .string name, .int .i64 n] w fun e w' => e = .returned (.int .i64 1) ∧ Below w.heap.size w w'
  rename : ∀ (w : World) (a b : ByteArray), Calls Try.prog 24 #[.pointer none, .string a, .string b] w fun e w' => e = .returned (.int .i64 1) ∧ Below w.heap.size w w'
  remove : ∀ (w : World) (name : ByteArray), Calls Try.prog 22 #[.pointer none, .string name] w fun e w' => e = .returned (.int .i64 1) ∧ Below w.heap.size w w'
  fuse : ∀ (w : World) (n : Int), Calls Try.prog 19 #[.pointer none, .int .i64 n] w fun e w' => e = .returned (.int .i64 1) ∧ Below w.heap.size w w'
  read : ∀ (w : World) (name : ByteArray), Calls Try.prog 15 #[.pointer none, .string name] w fun e w' => ∃ A cap, e = .returned (.tuple #[.slice A 0 cap, .int .i64 1]) ∧ Below w.heap.size w w'
  names : ∀ (w : World), Calls Try.prog 18 #[.pointer none] w fun e w' => ∃ A cap, e = .returned (.slice A 0 cap) ∧ Below w.heap.size w w'
  safe : ∀ (w : World) (name : ByteArray), Calls Try.prog 16 #[.pointer none, .string name] w fun e w' => e = .returned (.int .i64 0) ∧ Below w.heap.size w w'
  used : ∀ (w : World), Calls Try.prog 13 #[.pointer none] w fun e w' => e = .returned (.int .i64 0) ∧ Below w.heap.size w w'
  lost : ∀ (w : World), Calls Try.prog 17 #[.pointer none] w fun e w' => e = .returned (.bool false) ∧ Below w.heap.size w w'
  restart : ∀ (w : World) (K : Option Addr) (klen kcap : Nat), Calls Try.prog 14 #[.pointer none, .slice K klen kcap] w fun e w' => e = .returned (.tuple #[]) ∧ Below w.heap.size w w'
  clone : ∀ (w : World), Calls Try.prog 25 #[.pointer none] w fun e w' => e = .returned (.pointer none) ∧ Below w.heap.size w w'

/-- The act lies in block G; nothing of what there was is touched. -/
structure Asking (w0 wr : World) (G : Nat) (a : Act) : Prop where
  box : wr.heap[G]? = some (.cells (actC a) 37)
  g : w0.heap.size ≤ G
  below : Below w0.heap.size w0 wr

namespace Asking
theorem step {w0 wr w5 : World} {G : Nat} {a : Act} (h : Asking w0 wr G a) (hb : Below wr.heap.size wr w5) : Asking w0 w5 G a :=
  ⟨(hb.block G (hlt h.box)).trans h.box, h.g, h.below.trans (hb.mono h.below.size)⟩
theorem drew {w0 wr : World} {G : Nat} {a : Act} (h : Asking w0 wr G a) : Asking w0 wr.drew G a := h.step (Below.refl _ _).drew
theorem drewN {w0 wr : World} {G : Nat} {a : Act} (h : Asking w0 wr G a) (p : Nat) : Asking w0 (wr.drewN p) G a := h.step (below_drewN (Below.refl _ _) p)
theorem alloc {w0 wr : World} {G : Nat} {a : Act} (h : Asking w0 wr G a) (C : Array Value) (T : TypeId) (fr : Nat × Nat) : Asking w0 (wr.alloc (.cells C T fr)) G a := h.step ((Below.refl _ _).alloc (Nat.le_refl _) _)
end Asking


set_option maxRecDepth 100000 in
set_option maxHeartbeats 3000000 in
theorem walk_nil (O : DiskOps) (N : NilOps) (a : Act) (room : Int) (w : World) (h : ActIn w (· < w.heap.size) a) (hn1 : a.name.size ≤ maxLen) (hn2 : a.to_.size ≤ maxLen) (hn3 : a.klen ≤ maxLen) (hrm : -9223372036854775808 ≤ room ∧ room ≤ 9223372036854775807) :
    Calls Try.prog 7 #[actV a, .int .i64 room] w fun e w' => e = .returned (.bool true) ∧ Below w.heap.size w w' := by
  have hAct : ∀ (w1 : World) (G : Nat) (T : TypeId) (fr : Nat × Nat), Asking w w1 G a → ActsIn (w1.alloc (.cells (actC a) T fr)) (some ⟨w1.heap.size, 0, none⟩) 1 (fun _ => a) := fun w1 G T fr hA => by
    have hb : Below w.heap.size w (w1.alloc (.cells (actC a) T fr)) := hA.below.alloc hA.below.size _
    refine ⟨fun j hj => ⟨(h.keeps (keeps_below hb (Nat.le_refl _))).mono fun k hk => Nat.lt_of_lt_of_le hk hb.size, hn1, hn2, hn3⟩, fun _ => ⟨_, 0, rfl, by simp, fun j hj => ?_⟩⟩
    obtain rfl : j = 0 := by omega
    have hx := fun o => cell_of_row (w1.alloc (.cells (actC a) T fr)) w1.heap.size o (actC a) T fr (heap_alloc_new w1 _)
    refine ⟨hx _, hx _, hx _, hx _, hx _, hx _⟩
  have hFew : ∀ (w1 : World) (A : Option Addr) (cap : Nat), ActsIn w1 A 1 (fun _ => a) → Calls Try.prog 9 #[.slice A 1 cap, .int .i64 1] w1 fun e w' => e = .returned (.bool (fewB (fun _ => a) 1 1)) ∧ w1 = w' :=
    fun w1 A cap hA => few_any A 1 cap (fun _ => a) 1 w1 hA (by unfold maxLen; omega) (by omega)
  have hB0 : Asking w (w.alloc (.cells (actC a) 37)) w.heap.size a := ⟨heap_alloc_new _ _, Nat.le_refl _, (Below.refl _ _).alloc (Nat.le_refl _) _⟩
  obtain ⟨F, hF⟩ : ∃ F, fewB (fun _ => a) 1 1 = F := ⟨_, rfl⟩
  rw [hF] at hFew
  clear hF
  have HAct := Lib.hid hAct
  clear h hAct
  obtain ⟨kind, name, to_, bA, bcap, bL, n, kA, klen, kcap, kY⟩ := a
  dsimp only at *
  go_enter Try.func7, Try.ntmps7
  go_wp2_with fail
  refine (awake_any O _).mono ?_
  rintro e w1 ⟨rfl, hb1⟩
  have hB1 := hB0.step hb1
  clear hb1
  generalize w.heap.size = G at hB0 hB1 ⊢
  clear hB0
  obtain ⟨⟨a0, a1, a2, a3, a4, a5⟩, _⟩ := row6 hB1.box
  go_wp2_with fail
  refine (hFew _ _ _ (HAct.out _ _ _ _ hB1)).mono ?_
  rintro e w2 ⟨rfl, hw2⟩
  have hB2 : Asking w w2 G ⟨kind, name, to_, bA, bcap, bL, n, kA, klen, kcap, kY⟩ := by rw [← hw2]; exact hB1.alloc _ _ _
  clear hw2 hFew HAct a0 a1 a2 a3 a4 a5 hB1
  cases F with
  | false =>
    go_wp2_with fail
    refine (awake_any O _).mono ?_
    rintro e w3 ⟨rfl, hb3⟩
    go_wp2
    go_ret
    exact ⟨rfl, (hB2.step hb3).below⟩
  | true =>
    obtain ⟨⟨a0, a1, a2, a3, a4, a5⟩, _⟩ := row6 hB2.box
    go_wp2_with fail
    refine (N.restart _ kA klen kcap).mono ?_
    rintro e w3 ⟨rfl, hb⟩
    have hB3 := Asking.step (by (repeat (first | assumption | apply Asking.drew | apply Asking.drewN | apply Asking.alloc))) hb
    clear a0 a1 a2 a3 a4 a5 hb
    obtain ⟨⟨a0, a1, a2, a3, a4, a5⟩, _⟩ := row6 hB3.box
    go_wp2_with fail
    refine (N.read _ name).mono ?_
    rintro e w4 ⟨A4, cap4, rfl, hb⟩
    have hB4 := Asking.step (by (repeat (first | assumption | apply Asking.drew | apply Asking.drewN | apply Asking.alloc))) hb
    clear a0 a1 a2 a3 a4 a5 hb hB2 hB3
    obtain ⟨⟨a0, a1, a2, a3, a4, a5⟩, _⟩ := row6 hB4.box
    by_cases hlo : room < 0
    · have q1 : ¬ (0 ≤ room) := by omega
      go_wp2_with fail
      refine (O.new_bad room _ (.inl hlo)).mono ?_
      rintro e w5 ⟨rfl, hb⟩
      have hB5 := Asking.step (by (repeat (first | assumption | apply Asking.drew | apply Asking.drewN | apply Asking.alloc))) hb
      clear a0 a1 a2 a3 a4 a5 hb hB4
      obtain ⟨⟨a0, a1, a2, a3, a4, a5⟩, _⟩ := row6 hB5.box
      go_wp2_with fail
      refine (N.append _ name bA _ bcap).mono ?_
      rintro e w6 ⟨rfl, hb⟩
      have hB6 := Asking.step (by (repeat (first | assumption | apply Asking.drew | apply Asking.drewN | apply Asking.alloc))) hb
      clear a0 a1 a2 a3 a4 a5 hb hB5
      obtain ⟨⟨a0, a1, a2, a3, a4, a5⟩, _⟩ := row6 hB6.box
      go_wp2_with fail
      refine (N.sync _ name).mono ?_
      rintro e w7 ⟨rfl, hb⟩
      have hB7 := Asking.step (by (repeat (first | assumption | apply Asking.drew | apply Asking.drewN | apply Asking.alloc))) hb
      clear a0 a1 a2 a3 a4 a5 hb hB6
      obtain ⟨⟨a0, a1, a2, a3, a4, a5⟩, _⟩ := row6 hB7.box
      go_wp2_with fail
      refine (N.cut _ name n).mono ?_
      rintro e w8 ⟨rfl, hb⟩
      have hB8 := Asking.step (by (repeat (first | assumption | apply Asking.drew | apply Asking.drewN | apply Asking.alloc))) hb
      clear a0 a1 a2 a3 a4 a5 hb hB7
      obtain ⟨⟨a0, a1, a2, a3, a4, a5⟩, _⟩ := row6 hB8.box
      go_wp2_with fail
      refine (N.rename _ name to_).mono ?_
      rintro e w9 ⟨rfl, hb⟩
      have hB9 := Asking.step (by (repeat (first | assumption | apply Asking.drew | apply Asking.drewN | apply Asking.alloc))) hb
      clear a0 a1 a2 a3 a4 a5 hb hB8
      obtain ⟨⟨a0, a1, a2, a3, a4, a5⟩, _⟩ := row6 hB9.box
      go_wp2_with fail
      refine (N.remove _ name).mono ?_
      rintro e w10 ⟨rfl, hb⟩
      have hB10 := Asking.step (by (repeat (first | assumption | apply Asking.drew | apply Asking.drewN | apply Asking.alloc))) hb
      clear a0 a1 a2 a3 a4 a5 hb hB9
      obtain ⟨⟨a0, a1, a2, a3, a4, a5⟩, _⟩ := row6 hB10.box
      go_wp2_with fail
      refine (N.fuse _ n).mono ?_
      rintro e w11 ⟨rfl, hb⟩
      have hB11 := Asking.step (by (repeat (first | assumption | apply Asking.drew | apply Asking.drewN | apply Asking.alloc))) hb
      clear a0 a1 a2 a3 a4 a5 hb hB10
      obtain ⟨⟨a0, a1, a2, a3, a4, a5⟩, _⟩ := row6 hB11.box
      go_wp2_with fail
      refine (N.lost _ ).mono ?_
      rintro e w12 ⟨rfl, hb⟩
      have hB12 := Asking.step (by (repeat (first | assumption | apply Asking.drew | apply Asking.drewN | apply Asking.alloc))) hb
      clear a0 a1 a2 a3 a4 a5 hb hB11
      obtain ⟨⟨a0, a1, a2, a3, a4, a5⟩, _⟩ := row6 hB12.box
      go_wp2_with fail
      refine (N.used _ ).mono ?_
      rintro e w13 ⟨rfl, hb⟩
      have hB13 := Asking.step (by (repeat (first | assumption | apply Asking.drew | apply Asking.drewN | apply Asking.alloc))) hb
      clear a0 a1 a2 a3 a4 a5 hb hB12
      obtain ⟨⟨a0, a1, a2, a3, a4, a5⟩, _⟩ := row6 hB13.box
      go_wp2_with fail
      refine (N.safe _ name).mono ?_
      rintro e w14 ⟨rfl, hb⟩
      have hB14 := Asking.step (by (repeat (first | assumption | apply Asking.drew | apply Asking.drewN | apply Asking.alloc))) hb
      clear a0 a1 a2 a3 a4 a5 hb hB13
      obtain ⟨⟨a0, a1, a2, a3, a4, a5⟩, _⟩ := row6 hB14.box
      go_wp2_with fail
      refine (N.names _ ).mono ?_
      rintro e w15 ⟨A15, cap15, rfl, hb⟩
      have hB15 := Asking.step (by (repeat (first | assumption | apply Asking.drew | apply Asking.drewN | apply Asking.alloc))) hb
      clear a0 a1 a2 a3 a4 a5 hb hB14
      obtain ⟨⟨a0, a1, a2, a3, a4, a5⟩, _⟩ := row6 hB15.box
      go_wp2_with fail
      refine (N.clone _ ).mono ?_
      rintro e w16 ⟨rfl, hb⟩
      have hB16 := Asking.step (by (repeat (first | assumption | apply Asking.drew | apply Asking.drewN | apply Asking.alloc))) hb
      clear a0 a1 a2 a3 a4 a5 hb hB15
      obtain ⟨⟨a0, a1, a2, a3, a4, a5⟩, _⟩ := row6 hB16.box
      go_wp2
      go_ret
      exact ⟨rfl, hB16.below⟩
    · have q1 : 0 ≤ room := by omega
      by_cases hhi : 1048576 < room
      · have q2 : ¬ (room ≤ 1048576) := by omega
        go_wp2_with fail
        refine (O.new_bad room _ (.inr hhi)).mono ?_
        rintro e w5 ⟨rfl, hb⟩
        have hB5 := Asking.step (by (repeat (first | assumption | apply Asking.drew | apply Asking.drewN | apply Asking.alloc))) hb
        clear a0 a1 a2 a3 a4 a5 hb hB4
        obtain ⟨⟨a0, a1, a2, a3, a4, a5⟩, _⟩ := row6 hB5.box
        go_wp2_with fail
        refine (N.append _ name bA _ bcap).mono ?_
        rintro e w6 ⟨rfl, hb⟩
        have hB6 := Asking.step (by (repeat (first | assumption | apply Asking.drew | apply Asking.drewN | apply Asking.alloc))) hb
        clear a0 a1 a2 a3 a4 a5 hb hB5
        obtain ⟨⟨a0, a1, a2, a3, a4, a5⟩, _⟩ := row6 hB6.box
        go_wp2_with fail
        refine (N.sync _ name).mono ?_
        rintro e w7 ⟨rfl, hb⟩
        have hB7 := Asking.step (by (repeat (first | assumption | apply Asking.drew | apply Asking.drewN | apply Asking.alloc))) hb
        clear a0 a1 a2 a3 a4 a5 hb hB6
        obtain ⟨⟨a0, a1, a2, a3, a4, a5⟩, _⟩ := row6 hB7.box
        go_wp2_with fail
        refine (N.cut _ name n).mono ?_
        rintro e w8 ⟨rfl, hb⟩
        have hB8 := Asking.step (by (repeat (first | assumption | apply Asking.drew | apply Asking.drewN | apply Asking.alloc))) hb
        clear a0 a1 a2 a3 a4 a5 hb hB7
        obtain ⟨⟨a0, a1, a2, a3, a4, a5⟩, _⟩ := row6 hB8.box
        go_wp2_with fail
        refine (N.rename _ name to_).mono ?_
        rintro e w9 ⟨rfl, hb⟩
        have hB9 := Asking.step (by (repeat (first | assumption | apply Asking.drew | apply Asking.drewN | apply Asking.alloc))) hb
        clear a0 a1 a2 a3 a4 a5 hb hB8
        obtain ⟨⟨a0, a1, a2, a3, a4, a5⟩, _⟩ := row6 hB9.box
        go_wp2_with fail
        refine (N.remove _ name).mono ?_
        rintro e w10 ⟨rfl, hb⟩
        have hB10 := Asking.step (by (repeat (first | assumption | apply Asking.drew | apply Asking.drewN | apply Asking.alloc))) hb
        clear a0 a1 a2 a3 a4 a5 hb hB9
        obtain ⟨⟨a0, a1, a2, a3, a4, a5⟩, _⟩ := row6 hB10.box
        go_wp2_with fail
        refine (N.fuse _ n).mono ?_
        rintro e w11 ⟨rfl, hb⟩
        have hB11 := Asking.step (by (repeat (first | assumption | apply Asking.drew | apply Asking.drewN | apply Asking.alloc))) hb
        clear a0 a1 a2 a3 a4 a5 hb hB10
        obtain ⟨⟨a0, a1, a2, a3, a4, a5⟩, _⟩ := row6 hB11.box
        go_wp2_with fail
        refine (N.lost _ ).mono ?_
        rintro e w12 ⟨rfl, hb⟩
        have hB12 := Asking.step (by (repeat (first | assumption | apply Asking.drew | apply Asking.drewN | apply Asking.alloc))) hb
        clear a0 a1 a2 a3 a4 a5 hb hB11
        obtain ⟨⟨a0, a1, a2, a3, a4, a5⟩, _⟩ := row6 hB12.box
        go_wp2_with fail
        refine (N.used _ ).mono ?_
        rintro e w13 ⟨rfl, hb⟩
        have hB13 := Asking.step (by (repeat (first | assumption | apply Asking.drew | apply Asking.drewN | apply Asking.alloc))) hb
        clear a0 a1 a2 a3 a4 a5 hb hB12
        obtain ⟨⟨a0, a1, a2, a3, a4, a5⟩, _⟩ := row6 hB13.box
        go_wp2_with fail
        refine (N.safe _ name).mono ?_
        rintro e w14 ⟨rfl, hb⟩
        have hB14 := Asking.step (by (repeat (first | assumption | apply Asking.drew | apply Asking.drewN | apply Asking.alloc))) hb
        clear a0 a1 a2 a3 a4 a5 hb hB13
        obtain ⟨⟨a0, a1, a2, a3, a4, a5⟩, _⟩ := row6 hB14.box
        go_wp2_with fail
        refine (N.names _ ).mono ?_
        rintro e w15 ⟨A15, cap15, rfl, hb⟩
        have hB15 := Asking.step (by (repeat (first | assumption | apply Asking.drew | apply Asking.drewN | apply Asking.alloc))) hb
        clear a0 a1 a2 a3 a4 a5 hb hB14
        obtain ⟨⟨a0, a1, a2, a3, a4, a5⟩, _⟩ := row6 hB15.box
        go_wp2_with fail
        refine (N.clone _ ).mono ?_
        rintro e w16 ⟨rfl, hb⟩
        have hB16 := Asking.step (by (repeat (first | assumption | apply Asking.drew | apply Asking.drewN | apply Asking.alloc))) hb
        clear a0 a1 a2 a3 a4 a5 hb hB15
        obtain ⟨⟨a0, a1, a2, a3, a4, a5⟩, _⟩ := row6 hB16.box
        go_wp2
        go_ret
        refine ⟨?_, hB16.below⟩
        show Ending.returned (.bool (!decide (room ≤ 1048576))) = _
        have q3 : decide (room ≤ 1048576) = false := by simp; omega
        rw [q3]
        rfl
      · have q2 : room ≤ 1048576 := by omega
        go_wp2_with fail
        refine (O.new_ok room _ (· < w4.heap.size) q1 q2 (fun k hk => hk)).mono ?_
        rintro e w5 ⟨d, rfl, _, hk⟩
        have hb := below_of_keeps hk
        have hB5 := Asking.step (by (repeat (first | assumption | apply Asking.drew | apply Asking.drewN | apply Asking.alloc))) hb
        clear a0 a1 a2 a3 a4 a5 hb hB4
        obtain ⟨⟨a0, a1, a2, a3, a4, a5⟩, _⟩ := row6 hB5.box
        go_wp2_with fail
        refine (N.append _ name bA _ bcap).mono ?_
        rintro e w6 ⟨rfl, hb⟩
        have hB6 := Asking.step (by (repeat (first | assumption | apply Asking.drew | apply Asking.drewN | apply Asking.alloc))) hb
        clear a0 a1 a2 a3 a4 a5 hb hB5
        obtain ⟨⟨a0, a1, a2, a3, a4, a5⟩, _⟩ := row6 hB6.box
        go_wp2_with fail
        refine (N.sync _ name).mono ?_
        rintro e w7 ⟨rfl, hb⟩
        have hB7 := Asking.step (by (repeat (first | assumption | apply Asking.drew | apply Asking.drewN | apply Asking.alloc))) hb
        clear a0 a1 a2 a3 a4 a5 hb hB6
        obtain ⟨⟨a0, a1, a2, a3, a4, a5⟩, _⟩ := row6 hB7.box
        go_wp2_with fail
        refine (N.cut _ name n).mono ?_
        rintro e w8 ⟨rfl, hb⟩
        have hB8 := Asking.step (by (repeat (first | assumption | apply Asking.drew | apply Asking.drewN | apply Asking.alloc))) hb
        clear a0 a1 a2 a3 a4 a5 hb hB7
        obtain ⟨⟨a0, a1, a2, a3, a4, a5⟩, _⟩ := row6 hB8.box
        go_wp2_with fail
        refine (N.rename _ name to_).mono ?_
        rintro e w9 ⟨rfl, hb⟩
        have hB9 := Asking.step (by (repeat (first | assumption | apply Asking.drew | apply Asking.drewN | apply Asking.alloc))) hb
        clear a0 a1 a2 a3 a4 a5 hb hB8
        obtain ⟨⟨a0, a1, a2, a3, a4, a5⟩, _⟩ := row6 hB9.box
        go_wp2_with fail
        refine (N.remove _ name).mono ?_
        rintro e w10 ⟨rfl, hb⟩
        have hB10 := Asking.step (by (repeat (first | assumption | apply Asking.drew | apply Asking.drewN | apply Asking.alloc))) hb
        clear a0 a1 a2 a3 a4 a5 hb hB9
        obtain ⟨⟨a0, a1, a2, a3, a4, a5⟩, _⟩ := row6 hB10.box
        go_wp2_with fail
        refine (N.fuse _ n).mono ?_
        rintro e w11 ⟨rfl, hb⟩
        have hB11 := Asking.step (by (repeat (first | assumption | apply Asking.drew | apply Asking.drewN | apply Asking.alloc))) hb
        clear a0 a1 a2 a3 a4 a5 hb hB10
        obtain ⟨⟨a0, a1, a2, a3, a4, a5⟩, _⟩ := row6 hB11.box
        go_wp2_with fail
        refine (N.lost _ ).mono ?_
        rintro e w12 ⟨rfl, hb⟩
        have hB12 := Asking.step (by (repeat (first | assumption | apply Asking.drew | apply Asking.drewN | apply Asking.alloc))) hb
        clear a0 a1 a2 a3 a4 a5 hb hB11
        obtain ⟨⟨a0, a1, a2, a3, a4, a5⟩, _⟩ := row6 hB12.box
        go_wp2_with fail
        refine (N.used _ ).mono ?_
        rintro e w13 ⟨rfl, hb⟩
        have hB13 := Asking.step (by (repeat (first | assumption | apply Asking.drew | apply Asking.drewN | apply Asking.alloc))) hb
        clear a0 a1 a2 a3 a4 a5 hb hB12
        obtain ⟨⟨a0, a1, a2, a3, a4, a5⟩, _⟩ := row6 hB13.box
        go_wp2_with fail
        refine (N.safe _ name).mono ?_
        rintro e w14 ⟨rfl, hb⟩
        have hB14 := Asking.step (by (repeat (first | assumption | apply Asking.drew | apply Asking.drewN | apply Asking.alloc))) hb
        clear a0 a1 a2 a3 a4 a5 hb hB13
        obtain ⟨⟨a0, a1, a2, a3, a4, a5⟩, _⟩ := row6 hB14.box
        go_wp2_with fail
        refine (N.names _ ).mono ?_
        rintro e w15 ⟨A15, cap15, rfl, hb⟩
        have hB15 := Asking.step (by (repeat (first | assumption | apply Asking.drew | apply Asking.drewN | apply Asking.alloc))) hb
        clear a0 a1 a2 a3 a4 a5 hb hB14
        obtain ⟨⟨a0, a1, a2, a3, a4, a5⟩, _⟩ := row6 hB15.box
        go_wp2_with fail
        refine (N.clone _ ).mono ?_
        rintro e w16 ⟨rfl, hb⟩
        have hB16 := Asking.step (by (repeat (first | assumption | apply Asking.drew | apply Asking.drewN | apply Asking.alloc))) hb
        clear a0 a1 a2 a3 a4 a5 hb hB15
        obtain ⟨⟨a0, a1, a2, a3, a4, a5⟩, _⟩ := row6 hB16.box
        go_wp2
        go_ret
        exact ⟨rfl, hB16.below⟩

end Go.Proofs.Ytkgkllhocmedoaa
