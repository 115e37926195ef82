/- What an act does to a log: the frame of it. -/
import Derived.Test.YtlanjlboipnpfaaLogProgL
import Derived.Test.YtlanjlboipnpfaaLogRefU
namespace Go.Proofs.Ytlanjlboipnpfaa
open Go.RowKit
set_option linter.unusedVariables false
set_option linter.unusedSimpArgs false

abbrev actC (k i t : Int) (D : Option Addr) (dn dc : Nat) (B : Option Addr) (m cB : Nat) : Array Value := #[.int .u8 k, .int .i64 i, .int .i64 t, .slice D dn dc, .slice B m cB]

theorem Ents.old {w : World} {Z : Nat → Prop} {A : Option Addr} {n c : Nat} {ls : List Ent} (h : Ents w Z A n c ls) : Ents w (fun q => Z q ∧ q < w.heap.size) A n c ls := by
  refine ⟨h.1, h.2.1, h.2.2.1, fun h0 => ?_⟩
  obtain ⟨g, off, e, hg, hz, hc⟩ := h.2.2.2 h0
  refine ⟨g, off, e, hg, ⟨hz, hg⟩, fun j hj => ?_⟩
  obtain ⟨E, cc, c0, c1, c2, hm, hl, hzE⟩ := hc j hj
  refine ⟨E, cc, c0, c1, c2, hm, hl, fun h1 q o eq => ⟨hzE h1 q o eq, ?_⟩⟩
  obtain ⟨g2, o2, e2, hg2, _⟩ := hl.2.2.2 h1
  rw [eq] at e2
  injection e2 with e2
  injection e2 with e2
  rw [e2]
  exact hg2

/-- The three boxes of an act: the log as a value, the act, the answer. -/
structure Boxes (w W : World) (B C D : Array Value) : Prop where
  box : W.heap[w.heap.size]? = some (.cells B 32)
  act : W.heap[w.heap.size + 1]? = some (.cells C 39)
  ans : W.heap[w.heap.size + 2]? = some (.cells D 32)

abbrev boxed (w : World) (B C : Array Value) : World := ((w.alloc (.cells B 32)).alloc (.cells C 39)).alloc (.cells zL 32)

theorem boxed_size (w : World) (B C : Array Value) : (boxed w B C).heap.size = w.heap.size + 3 := by simp [boxed]
theorem boxed_below (w : World) (B C : Array Value) : Below w.heap.size w (boxed w B C) := (((Below.refl _ _).alloc (Nat.le_refl _) _).alloc (by simp) _).alloc (by simp; omega) _
theorem Boxes.start (w : World) (B C : Array Value) : Boxes w (boxed w B C) B C zL :=
  ⟨(Below.heap_alloc _ _ _ (by simp; omega)).trans ((Below.heap_alloc _ _ _ (by simp)).trans (heap_alloc_new _ _)), (Below.heap_alloc _ _ _ (by simp)).trans (heap_alloc2_new _ _ _), by
    have h := heap_alloc_new ((w.alloc (.cells B 32)).alloc (.cells C 39)) (.cells zL 32)
    simpa using h⟩

theorem Boxes.keeps {w W X : World} {B C D : Array Value} {Z : Nat → Prop} (h : Boxes w W B C D) (hk : Keeps Z W X) (hz : ∀ q, w.heap.size ≤ q → q < w.heap.size + 3 → Z q) : Boxes w X B C D :=
  ⟨(hk.block _ (hlt h.box) (hz _ (by omega) (by omega))).trans h.box, (hk.block _ (hlt h.act) (hz _ (by omega) (by omega))).trans h.act, (hk.block _ (hlt h.ans) (hz _ (by omega) (by omega))).trans h.ans⟩
theorem Boxes.step {w W X : World} {B C D : Array Value} (h : Boxes w W B C D) (hb : Below W.heap.size W X) : Boxes w X B C D :=
  ⟨(hb.block _ (hlt h.box)).trans h.box, (hb.block _ (hlt h.act)).trans h.act, (hb.block _ (hlt h.ans)).trans h.ans⟩

/-- What an act leaves. -/
def DoPost (w : World) (p : Nat) (r : RL) (ZL ZE : Nat → Prop) (e : Ending) (w' : World) : Prop :=
  ∃ r' s' A' n' c' ZL' ZE', e = .returned (.tuple #[lgV r' A' n' c', .bool true]) ∧ Lg w' p r' s' ZL' ∧ Good r' ∧ frel r' s' ∧ Ents w' ZE' A' n' c' r'.l ∧ (∀ q, ZL q → ZL' q) ∧ (∀ q, ZL' q → q < w'.heap.size) ∧ (∀ q, ZE' q → ZL' q) ∧ (∀ q, ZE' q → ZE q ∨ w.heap.size ≤ q) ∧ Keeps ZL w w' ∧ r'.l.length ≤ r.l.length + 12

/-- What the program's call may not turn: what is given, and the boxes. -/
def keptZ (w u : World) (ZL : Nat → Prop) (q : Nat) : Prop := ZL q ∨ (w.heap.size ≤ q ∧ q < u.heap.size)

theorem do_end {w u w1 w2 w' : World} {p : Nat} {r r' : RL} {s' : Nat} {ZL ZE : Nat → Prop} {A' : Option Addr} {n' c' : Nat} (hu : Below w.heap.size w u) (hsz : u.heap.size = w.heap.size + 3) (hZ : ∀ q, ZL q → q < w.heap.size) (hZE : ∀ q, ZE q → ZL q)
    (hk : Keeps (keptZ w u ZL) u w1) (hL : Lg w1 p r' s' (keptZ w u ZL)) (hg : Good r') (hs : frel r' s') (hb : Below w1.heap.size w1 w2) (hE : Ents w2 (fun q => ZE q ∨ w1.heap.size ≤ q) A' n' c' r'.l)
    (hf : Keeps (fun q => ¬ (w.heap.size ≤ q ∧ q < w.heap.size + 3)) w2 w') (hlen : r'.l.length ≤ r.l.length + 12) (e : Ending) (he : e = .returned (.tuple #[lgV r' A' n' c', .bool true])) : DoPost w p r ZL ZE e w' := by
  have h1 := hu.size
  have h2 := hk.size
  have h3 := hb.size
  have h4 := hf.size
  refine ⟨r', s', A', n', c', fun q => (keptZ w u ZL q ∨ w1.heap.size ≤ q) ∧ q < w'.heap.size, fun q => (ZE q ∨ w1.heap.size ≤ q) ∧ q < w'.heap.size, he, ?_, hg, hs, ?_, ?_, fun q hq => hq.2, ?_, ?_, ?_, hlen⟩
  · exact ((hL.grow.below hb).keep hf.size fun q hq hz => hf.block q hq fun hb => hz (.inl (.inr (by omega)))).mono fun q hq => hq.1
  · exact (hE.keep hf.size fun q hq hz => hf.block q hq fun hb => by
      rcases hz with hz | hz
      · have := hZ q (hZE q hz); omega
      · omega).old
  · intro q hq
    have := hZ q hq
    exact ⟨.inl (.inl hq), by omega⟩
  · rintro q ⟨hq | hq, h⟩
    · exact ⟨.inl (.inl (hZE q hq)), h⟩
    · exact ⟨.inr hq, h⟩
  · rintro q ⟨hq | hq, h⟩
    · exact .inl hq
    · exact .inr (by omega)
  · exact (((keeps_below hu (Nat.le_refl _)).trans (hk.mono fun q hq => .inl hq)).trans (keeps_below hb (Nat.le_refl _))).trans (hf.mono fun q hq => by have := hZ q hq; omega)

theorem keptZ_lt {w u : World} {ZL : Nat → Prop} (hu : Below w.heap.size w u) (hZ : ∀ q, ZL q → q < w.heap.size) : ∀ q, keptZ w u ZL q → q < u.heap.size := fun q hq => by
  rcases hq with h | h
  · have := hZ q h; have := hu.size; omega
  · exact h.2

theorem lg_boxed {w u : World} {p : Nat} {r : RL} {s : Nat} {ZL : Nat → Prop} (h : Lg w p r s ZL) (hu : Below w.heap.size w u) : Lg u p r s (keptZ w u ZL) :=
  (h.grow.below hu).mono fun q hq => hq.elim .inl fun e => .inr e.1

theorem keeps_ans {w W : World} (v : Value) (k b : Nat) (h1 : w.heap.size ≤ b) (h2 : b < w.heap.size + 3) : Keeps (fun q => ¬ (w.heap.size ≤ q ∧ q < w.heap.size + 3)) W (W.setCell ⟨b, k, none⟩ v) := keeps_setCell W ⟨b, k, none⟩ v (fun h => h ⟨h1, h2⟩)

/-- The answer's box is filled. -/
theorem keeps_fill {w W : World} (a b c d : Value) : Keeps (fun q => ¬ (w.heap.size ≤ q ∧ q < w.heap.size + 3)) W ((((W.setCell ⟨w.heap.size + 2, 0, none⟩ a).setCell ⟨w.heap.size + 2, 1, none⟩ b).setCell ⟨w.heap.size + 2, 2, none⟩ c).setCell ⟨w.heap.size + 2, 3, none⟩ d) :=
  (((keeps_ans a 0 _ (by omega) (by omega)).trans (keeps_ans b 1 _ (by omega) (by omega))).trans (keeps_ans c 2 _ (by omega) (by omega))).trans (keeps_ans d 3 _ (by omega) (by omega))

end Go.Proofs.Ytlanjlboipnpfaa
