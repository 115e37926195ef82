/- A message in memory: its cells; what the smallest calls answer. -/
import Derived.Test.YtlojjodgoeclfaaRmsMath
import Derived.Test.YtlojjodgoeclfaaEntBack
import Derived.Test.YtlojjodgoeclfaaEntSameP
import Derived.Test.YtlojjodgoeclfaaEntRunP
import Derived.Laws.Tables
namespace Go.Proofs.Ytlojjodgoeclfaa
open Go.RowKit
set_option linter.unusedVariables false
set_option linter.unusedSimpArgs false

abbrev mC (k f o t i l c x : Int) (b : Bool) (A : Option Addr) (n cA : Nat) (si st : Int) (E : Option Addr) (sn cE : Nat) : Array Value :=
  #[.int .i64 k, .int .i64 f, .int .i64 o, .int .i64 t, .int .i64 i, .int .i64 l, .int .i64 c, .int .i64 x, .bool b, .slice A n cA, .int .i64 si, .int .i64 st, .slice E sn cE]

/-- A message as a value. -/
abbrev msgV (m : Msg) (A : Option Addr) (cA : Nat) (E : Option Addr) (cE : Nat) : Value :=
  .agg #[.int .i64 m.k, .int .i64 m.f, .int .i64 m.o, .int .i64 m.t, .int .i64 m.i, .int .i64 m.l, .int .i64 m.c, .int .i64 m.x, .bool m.b, .slice A m.es.length cA, .int .i64 m.s.i, .int .i64 m.s.t, .slice E m.s.d.length cE]

theorem row13 {w : World} {g : Nat} {v0 v1 v2 v3 v4 v5 v6 v7 v8 v9 v10 v11 v12 : Value} {T : TypeId} (h : w.heap[g]? = some (.cells #[v0, v1, v2, v3, v4, v5, v6, v7, v8, v9, v10, v11, v12] T)) : (w.cell? ⟨g, 0, none⟩ = some v0 ∧ w.cell? ⟨g, 1, none⟩ = some v1 ∧ w.cell? ⟨g, 2, none⟩ = some v2 ∧ w.cell? ⟨g, 3, none⟩ = some v3 ∧ w.cell? ⟨g, 4, none⟩ = some v4 ∧ w.cell? ⟨g, 5, none⟩ = some v5 ∧ w.cell? ⟨g, 6, none⟩ = some v6 ∧ w.cell? ⟨g, 7, none⟩ = some v7 ∧ w.cell? ⟨g, 8, none⟩ = some v8 ∧ w.cell? ⟨g, 9, none⟩ = some v9 ∧ w.cell? ⟨g, 10, none⟩ = some v10 ∧ w.cell? ⟨g, 11, none⟩ = some v11 ∧ w.cell? ⟨g, 12, none⟩ = some v12) ∧ (w.frozen? ⟨g, 0, none⟩ = false ∧ w.frozen? ⟨g, 1, none⟩ = false ∧ w.frozen? ⟨g, 2, none⟩ = false ∧ w.frozen? ⟨g, 3, none⟩ = false ∧ w.frozen? ⟨g, 4, none⟩ = false ∧ w.frozen? ⟨g, 5, none⟩ = false ∧ w.frozen? ⟨g, 6, none⟩ = false ∧ w.frozen? ⟨g, 7, none⟩ = false ∧ w.frozen? ⟨g, 8, none⟩ = false ∧ w.frozen? ⟨g, 9, none⟩ = false ∧ w.frozen? ⟨g, 10, none⟩ = false ∧ w.frozen? ⟨g, 11, none⟩ = false ∧ w.frozen? ⟨g, 12, none⟩ = false) := by
  refine ⟨⟨?_, ?_, ?_, ?_, ?_, ?_, ?_, ?_, ?_, ?_, ?_, ?_, ?_⟩, ⟨?_, ?_, ?_, ?_, ?_, ?_, ?_, ?_, ?_, ?_, ?_, ?_, ?_⟩⟩ <;> simp [World.cell?, World.frozen?, h]

/-- Where a message's entries and its snap's bytes lie: all of it in Z. -/
structure MsgIn (w : World) (Z : Nat → Prop) (m : Msg) (A : Option Addr) (cA : Nat) (E : Option Addr) (cE : Nat) : Prop where
  ents : Ents w Z A m.es.length cA m.es
  hm : cA ≤ maxLen
  lies : Lies w E m.s.d.length cE m.s.d
  hz : 0 < m.s.d.length → ∀ g off, E = some ⟨g, off, none⟩ → Z g

section
variable {w w' : World} {Z Z' : Nat → Prop} {m : Msg} {A E : Option Addr} {cA cE : Nat}

theorem MsgIn.len (h : MsgIn w Z m A cA E cE) : m.es.length ≤ maxLen := Nat.le_trans h.ents.2.1 h.hm

theorem MsgIn.keep (h : MsgIn w Z m A cA E cE) (hs : w.heap.size ≤ w'.heap.size) (hk : ∀ k, k < w.heap.size → Z k → w'.heap[k]? = w.heap[k]?) : MsgIn w' Z m A cA E cE :=
  ⟨h.ents.keep hs hk, h.hm, h.lies.keep hs fun h0 g off e hg => hk g hg (h.hz h0 g off e), h.hz⟩

theorem MsgIn.keeps (h : MsgIn w Z m A cA E cE) (hk : Keeps Z w w') : MsgIn w' Z m A cA E cE := h.keep hk.size fun k h1 h2 => hk.block k h1 h2

theorem MsgIn.below (h : MsgIn w Z m A cA E cE) {B : Nat} (hb : Below B w w') (hB : w.heap.size ≤ B) : MsgIn w' Z m A cA E cE :=
  h.keep hb.size fun k hk _ => hb.block k (Nat.lt_of_lt_of_le hk hB)

theorem MsgIn.mono (h : MsgIn w Z m A cA E cE) (hz : ∀ k, Z k → Z' k) : MsgIn w Z' m A cA E cE :=
  ⟨h.ents.mono hz, h.hm, h.lies, fun h0 g off e => hz _ (h.hz h0 g off e)⟩

theorem ents_nil (w : World) (Z : Nat → Prop) : Ents w Z none 0 0 [] := ⟨rfl, Nat.le_refl _, fun _ => rfl, fun h => absurd h (by omega)⟩

theorem MsgIn.zero (w : World) (Z : Nat → Prop) : MsgIn w Z Msg.zero none 0 none 0 :=
  ⟨ents_nil w Z, Nat.zero_le _, Lies.nil w, fun h => absurd h (by simp [Msg.zero])⟩

/-- The same entries and snap, whatever the numbers are. -/
theorem MsgIn.of {m' : Msg} (h : MsgIn w Z m A cA E cE) (he : m'.es = m.es) (hs : m'.s.d = m.s.d) : MsgIn w Z m' A cA E cE := by
  obtain ⟨h1, h2, h3, h5⟩ := h
  refine ⟨by rw [he]; exact h1, h2, by rw [hs]; exact h3, by rw [hs]; exact h5⟩
end

def nodeB (n : Int) : Bool := decide (0 ≤ n) && decide (n < 3)

theorem numberM_is (n : Int) (w : World) : Calls Try.prog 30 #[.int .i64 n] w fun e w' => e = .returned (.bool (numZ n)) ∧ w = w' := by
  unfold numZ
  by_cases h1 : 0 ≤ n
  · rw [decide_eq_true h1, Bool.true_and]
    go_enter Try.func30, Try.ntmps30
    go_wp2
    go_ret
    exact ⟨rfl, rfl⟩
  · have e1 : decide (0 ≤ n) = false := decide_eq_false h1
    have e2 : (0 ≤ n) = False := eq_false h1
    rw [e1, Bool.false_and]
    clear h1
    go_enter Try.func30, Try.ntmps30
    go_wp2
    go_ret
    exact ⟨rfl, rfl⟩

theorem numberP_is (n : Int) (w : World) : Calls Try.prog 58 #[.int .i64 n] w fun e w' => e = .returned (.bool (numZ n)) ∧ w = w' := by
  unfold numZ
  by_cases h1 : 0 ≤ n
  · rw [decide_eq_true h1, Bool.true_and]
    go_enter Try.func58, Try.ntmps58
    go_wp2
    go_ret
    exact ⟨rfl, rfl⟩
  · have e1 : decide (0 ≤ n) = false := decide_eq_false h1
    have e2 : (0 ≤ n) = False := eq_false h1
    rw [e1, Bool.false_and]
    clear h1
    go_enter Try.func58, Try.ntmps58
    go_wp2
    go_ret
    exact ⟨rfl, rfl⟩

theorem nodeP_is (n : Int) (w : World) : Calls Try.prog 57 #[.int .i64 n] w fun e w' => e = .returned (.bool (nodeB n)) ∧ w = w' := by
  unfold nodeB
  by_cases h1 : 0 ≤ n
  · rw [decide_eq_true h1, Bool.true_and]
    go_enter Try.func57, Try.ntmps57
    go_wp2
    go_ret
    exact ⟨rfl, rfl⟩
  · have e1 : decide (0 ≤ n) = false := decide_eq_false h1
    have e2 : (0 ≤ n) = False := eq_false h1
    rw [e1, Bool.false_and]
    clear h1
    go_enter Try.func57, Try.ntmps57
    go_wp2
    go_ret
    exact ⟨rfl, rfl⟩

theorem to_is (k f o t i l c x : Int) (b : Bool) (A : Option Addr) (n cA : Nat) (si st : Int) (E : Option Addr) (sn cE : Nat) (w : World) :
    Calls Try.prog 9 #[.agg (mC k f o t i l c x b A n cA si st E sn cE)] w fun e w' => e = .returned (.agg (mC k f o t i l c x b A n cA si st E sn cE)) ∧ Below w.heap.size w w' := by
  have hb := ((Below.refl w.heap.size w).alloc (Nat.le_refl _) (.cells (mC k f o t i l c x b A n cA si st E sn cE) 27)).alloc (by simp) (.cells (mC k f o t i l c x b A n cA si st E sn cE) 30)
  go_enter Try.func9, Try.ntmps9
  go_wp2
  refine bodyPost_ret (res_cell (n := w.heap.size + 1) rfl rfl (heap_alloc2_new _ _ _) Try.underlying30 rfl (by kernel_rfl)) rfl ?_
  exact ⟨rfl, hb⟩

theorem of_is (k f o t i l c x : Int) (b : Bool) (A : Option Addr) (n cA : Nat) (si st : Int) (E : Option Addr) (sn cE : Nat) (w : World) :
    Calls Try.prog 21 #[.agg (mC k f o t i l c x b A n cA si st E sn cE)] w fun e w' => e = .returned (.agg (mC k f o t i l c x b A n cA si st E sn cE)) ∧ Below w.heap.size w w' := by
  have hb := ((Below.refl w.heap.size w).alloc (Nat.le_refl _) (.cells (mC k f o t i l c x b A n cA si st E sn cE) 30)).alloc (by simp) (.cells (mC k f o t i l c x b A n cA si st E sn cE) 27)
  go_enter Try.func21, Try.ntmps21
  go_wp2
  refine bodyPost_ret (res_cell (n := w.heap.size + 1) rfl rfl (heap_alloc2_new _ _ _) Try.underlying27 rfl (by kernel_rfl)) rfl ?_
  exact ⟨rfl, hb⟩

end Go.Proofs.Ytlojjodgoeclfaa
