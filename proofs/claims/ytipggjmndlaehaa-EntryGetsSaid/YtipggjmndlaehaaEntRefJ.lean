/- The document's HardFrom, by its contract. -/
import Derived.Test.YtipggjmndlaehaaEntRefH
namespace Go.Proofs.Ytipggjmndlaehaa
open Go.RowKit
set_option linter.unusedVariables false
set_option linter.unusedSimpArgs false

/-- What a HardFrom answers. -/
structure HardL where
  t : Int
  v : Int
  s : St
def hardFromN (s : St) : HardL :=
  if (numberN (numberN s 8).2 8).2 = none then ⟨0, 0, none⟩ else
  if hardB (IntKind.i64.wrap ((numberN s 8).1 : Int)) (IntKind.i64.wrap ((numberN (numberN s 8).2 8).1 : Int)) = true then ⟨IntKind.i64.wrap ((numberN s 8).1 : Int), IntKind.i64.wrap ((numberN (numberN s 8).2 8).1 : Int), (numberN (numberN s 8).2 8).2⟩ else ⟨0, 0, none⟩

/-- The answer stored. -/
theorem Three3.fin2 {T : TypeId} {w W : World} {b : Nat} {x0 x1 y0 y1 : Value} {C0 : Array Value} (h : Three3 T w W b C0 #[x0, x1] #[y0, y1]) (a0 a1 c0 c1 : Value) :
    Three3 T w ((((W.setCell ⟨b + 1, 0, none⟩ a0).setCell ⟨b + 1, 1, none⟩ a1).setCell ⟨b + 1 + 1, 0, none⟩ c0).setCell ⟨b + 1 + 1, 1, none⟩ c1) b C0 #[a0, a1] #[c0, c1] := by
  have e1 := set2_at W (b + 1) a0 a1 x0 x1 T h.r1
  have hle := h.le
  refine ⟨?_, ?_, ?_, ?_, h.le⟩
  · exact (Below.heap_setCell _ _ _ _ (by show b ≠ b + 1 + 1; omega)).trans ((Below.heap_setCell _ _ _ _ (by show b ≠ b + 1 + 1; omega)).trans ((Below.heap_setCell _ _ _ _ (by show b ≠ b + 1; omega)).trans ((Below.heap_setCell _ _ _ _ (by show b ≠ b + 1; omega)).trans h.r0)))
  · exact (Below.heap_setCell _ _ _ _ (by show b + 1 ≠ b + 1 + 1; omega)).trans ((Below.heap_setCell _ _ _ _ (by show b + 1 ≠ b + 1 + 1; omega)).trans e1)
  · exact two_set _ _ _ _ _ _ _ ((Below.heap_setCell _ _ _ _ (by show b + 1 + 1 ≠ b + 1; omega)).trans ((Below.heap_setCell _ _ _ _ (by show b + 1 + 1 ≠ b + 1; omega)).trans h.r2))
  · exact (((h.below.setCell (by show _ ≤ b + 1; omega) _).setCell (by show _ ≤ b + 1; omega) _).setCell (by show _ ≤ b + 1 + 1; omega) _).setCell (by show _ ≤ b + 1 + 1; omega) _

set_option maxRecDepth 100000 in
set_option maxHeartbeats 3200000 in
theorem hardFromR_any (A : Option Addr) (cap : Nat) (s : St) (w : World) (h : RLies w A cap s) :
    Calls Try.prog 32 #[inv A cap s] w fun e w' => ∃ A' cap', e = .returned (.tuple #[.agg #[.int .i64 (hardFromN s).t, .int .i64 (hardFromN s).v], inv A' cap' (hardFromN s).s]) ∧ (∀ w0, RLies w0 A cap s → RLies w0 A' cap' (hardFromN s).s) ∧ Below w.heap.size w w' := by
  have h2 : Three3 24 w (((w.alloc (.cells #[.slice A (left s) cap, .bool s.isNone] 57)).alloc (.cells #[.int .i64 0, .int .i64 0] 24)).alloc (.cells #[.slice none 0 0, .bool false] 57)) w.heap.size #[.slice A (left s) cap, .bool s.isNone] #[.int .i64 0, .int .i64 0] #[.slice none 0 0, .bool false] :=
    ⟨(Below.heap_alloc _ _ _ (by simp; omega)).trans ((Below.heap_alloc _ _ _ (by simp)).trans (heap_alloc_new _ _)), (Below.heap_alloc _ _ _ (by simp)).trans (heap_alloc2_new _ _ _), by
      have := heap_alloc_new ((w.alloc (.cells #[.slice A (left s) cap, .bool s.isNone] 57)).alloc (.cells #[.int .i64 0, .int .i64 0] 24)) (.cells #[.slice none 0 0, .bool false] 57)
      rwa [World.size_alloc, World.size_alloc] at this, (((Below.refl _ _).alloc (Nat.le_refl _) _).alloc (by simp) _).alloc (by simp; omega) _, Nat.le_refl _⟩
  have hN1 := fun W (hW : Below w.heap.size w W) => numR2_any A cap s W (h.below hW (Nat.le_refl _))
  have hlow : ∀ W, Below w.heap.size w W → RLies W A cap s := fun W hW => h.below hW (Nat.le_refl _)
  unfold hardFromN
  generalize numberN s 8 = t1 at *
  obtain ⟨n1, s1⟩ := t1
  dsimp only at *
  have hN2 := fun A1 c1 W (hr : RLies W A1 c1 s1) => numR2_any A1 c1 s1 W hr
  generalize numberN s1 8 = t2 at *
  obtain ⟨n2, s2⟩ := t2
  dsimp only at *
  simp only [inv] at *
  rw [IntWalk.i64_left, IntWalk.i64_left] at *
  obtain ⟨R, hR⟩ : ∃ R : HardL, R = if s2 = none then ⟨0, 0, none⟩ else if hardB (wrap64 (n1 : Int)) (wrap64 (n2 : Int)) = true then ⟨wrap64 (n1 : Int), wrap64 (n2 : Int), s2⟩ else ⟨0, 0, none⟩ := ⟨_, rfl⟩
  rw [← hR]
  generalize wrap64 (n1 : Int) = z1 at *
  generalize wrap64 (n2 : Int) = z2 at *
  clear h
  generalize left s = nS at *
  generalize s.isNone = bS at *
  go_enter Try.func32, Try.ntmps32
  go_wp2_with fail
  refine (hN1 _ h2.below).mono ?_
  rintro e w1 ⟨A1, c1, rfl, hr1, hb1⟩
  have h3 := h2.step hb1
  obtain ⟨⟨a0, a1⟩, ⟨f0, f1⟩⟩ := row2 h3.r0
  clear h2 hb1 hN1
  have h4 := h3.store (.slice A1 (left s1) c1) (.bool s1.isNone)
  have hl4 := hr1 _ (hlow _ h4.below)
  go_wp2_with fail
  refine (hN2 A1 c1 _ hl4).mono ?_
  rintro e w2 ⟨A2, c2, rfl, hr2, hb2⟩
  have h5 := h4.step hb2
  obtain ⟨⟨a2, a3⟩, ⟨f2, f3⟩⟩ := row2 h5.r0
  have y0 := hlt h5.r0
  have y1 := hlt h5.r1
  have y2 := hlt h5.r2
  clear h3 h4 hb2 hN2 a0 a1 f0 f1 hl4
  have h6 := h5.store (.slice A2 (left s2) c2) (.bool s2.isNone)
  obtain ⟨⟨b2, b3⟩, ⟨g2, g3⟩⟩ := row2 h5.r1
  obtain ⟨⟨b5, b6⟩, ⟨g5, g6⟩⟩ := row2 h5.r2
  generalize left s1 = nS1 at *
  generalize s1.isNone = bS1 at *
  cases s2 with
  | none =>
    rw [if_pos rfl] at hR
    have HR := Lib.hid hR
    clear hR
    simp only [left, Option.isNone] at *
    have h7 := (h6.fin2 (.int .i64 0) (.int .i64 0) (.slice none 0 0) (.bool true)).step ((Below.refl _ _).alloc (Nat.le_refl _) (.cells #[.int .i64 z1, .int .i64 z2] 24))
    go_wp2
    refine bodyPost_ret (res_cell2 rfl _ _ (w.heap.size + 1) (w.heap.size + 1 + 1) _ _ _ _ _ _ rfl rfl h7.r1 h7.r2 Try.underlying24 Try.underlying57 rfl rfl (by kernel_rfl) (by kernel_rfl)) rfl ?_
    have e : R = _ := HR
    rw [e]
    exact ⟨none, 0, rfl, fun w0 _ => RLies.bad w0, h7.below⟩
  | some sl =>
    rw [if_neg (by simp)] at hR
    have hRt := fun W => hardR_is z1 z2 W
    have h8 := h6.step ((Below.refl _ _).alloc (Nat.le_refl _) (.cells #[.int .i64 z1, .int .i64 z2] 24))
    have hr8 := heap_alloc_new ((w2.setCell ⟨w.heap.size, 0, none⟩ (.slice A2 (left (some sl)) c2)).setCell ⟨w.heap.size, 1, none⟩ (.bool (some sl).isNone)) (.cells #[.int .i64 z1, .int .i64 z2] 24)
    have hsz : ((w2.setCell ⟨w.heap.size, 0, none⟩ (.slice A2 (left (some sl)) c2)).setCell ⟨w.heap.size, 1, none⟩ (.bool (some sl).isNone)).heap.size = w2.heap.size := by simp
    rw [hsz] at hr8
    have z8 : w2.heap.size < (((w2.setCell ⟨w.heap.size, 0, none⟩ (.slice A2 (left (some sl)) c2)).setCell ⟨w.heap.size, 1, none⟩ (.bool (some sl).isNone)).alloc (.cells #[.int .i64 z1, .int .i64 z2] 24)).heap.size := by simp
    clear hsz
    generalize hardB z1 z2 = b at *
    cases b with
    | false =>
      rw [if_neg (by simp)] at hR
      have HR := Lib.hid hR
      clear hR
      simp only [Option.isNone] at *
      go_wp2_with fail
      refine (hRt _).mono ?_
      rintro e w6 ⟨rfl, hb6⟩
      have h9 := h8.step hb6
      obtain ⟨⟨d2, d3⟩, ⟨e2, e3⟩⟩ := row2 h9.r1
      obtain ⟨⟨d5, d6⟩, ⟨e5, e6⟩⟩ := row2 h9.r2
      have h7 := h9.fin2 (.int .i64 0) (.int .i64 0) (.slice none 0 0) (.bool true)
      clear hRt
      go_wp2
      refine bodyPost_ret (res_cell2 rfl _ _ (w.heap.size + 1) (w.heap.size + 1 + 1) _ _ _ _ _ _ rfl rfl h7.r1 h7.r2 Try.underlying24 Try.underlying57 rfl rfl (by kernel_rfl) (by kernel_rfl)) rfl ?_
      have e : R = _ := HR
      rw [e]
      exact ⟨none, 0, rfl, fun w0 _ => RLies.bad w0, h7.below⟩
    | true =>
      rw [if_pos rfl] at hR
      have HR := Lib.hid hR
      clear hR
      simp only [Option.isNone] at *
      go_wp2_with fail
      refine (hRt _).mono ?_
      rintro e w6 ⟨rfl, hb6⟩
      have h9 := h8.step hb6
      obtain ⟨⟨d0, d1⟩, ⟨e0, e1⟩⟩ := row2 h9.r0
      obtain ⟨⟨d2, d3⟩, ⟨e2, e3⟩⟩ := row2 h9.r1
      obtain ⟨⟨d5, d6⟩, ⟨e5, e6⟩⟩ := row2 h9.r2
      obtain ⟨⟨d7, d8⟩, _⟩ := row2 ((hb6.block _ z8).trans hr8)
      have h7 := h9.fin2 (.int .i64 z1) (.int .i64 z2) (.slice A2 (left (some sl)) c2) (.bool false)
      clear hRt
      go_wp2
      go_region
      all_goals
        go_wp2
        refine bodyPost_ret (res_cell2 rfl _ _ (w.heap.size + 1) (w.heap.size + 1 + 1) _ _ _ _ _ _ rfl rfl h7.r1 h7.r2 Try.underlying24 Try.underlying57 rfl rfl (by kernel_rfl) (by kernel_rfl)) rfl ?_
        have e : R = _ := HR
        rw [e]
        exact ⟨A2, c2, rfl, fun w0 h0 => hr2 _ (hr1 _ h0), h7.below.drew⟩

end Go.Proofs.Ytipggjmndlaehaa
