/- A queue in memory: a channel of pointers, each to a box that holds a thing. -/
import Derived.Test.YthjbieocffklfaaRows
import Derived.WalkKit
import Derived.Laws.AppendOwn
import Derived.Conc.LoneSelect
import Derived.Conc.LoneSelectN
import Derived.Conc.SmallLaws
namespace Go.Proofs.Ythjbieocffklfaa
open Go.RowKit Go.Conc

/-- A pair of numbers. -/
abbrev pairV (x : Int × Int) : Value := .agg #[.int .i64 x.1, .int .i64 x.2]

/-- The queue at q, its channel at c, for so many, holds the things l; neither it nor its boxes are among Z. -/
structure Que {V : Type} (TS TE : TypeId) (cs : V → Array Value) (w : World) (q c cap : Nat) (l : List V) (Z : Nat → Prop) : Prop where
  head : w.heap[q]? = some (.cells #[.chan (some c)] TS)
  nq : ¬ Z q
  nc : ¬ Z c
  here : ∃ (buf : Array Value) (s r : Nat), w.heap[c]? = some (.chan cap buf false s r false) ∧ buf.size = l.length ∧ ∀ (i : Nat) (x : V), l[i]? = some x → ∃ a, buf[i]? = some (.pointer (some ⟨a, 0, none⟩)) ∧ w.heap[a]? = some (.cells (cs x) TE) ∧ ¬ Z a
  fits : l.length ≤ cap

section
variable {V : Type} {TS TE : TypeId} {cs : V → Array Value} {w w' : World} {q c cap : Nat} {l : List V} {Z : Nat → Prop}

theorem blt {w : World} {k : Nat} {o : Obj} (h : w.heap[k]? = some o) : k < w.heap.size := (Array.getElem?_eq_some_iff.1 h).1

theorem Que.qlt (h : Que TS TE cs w q c cap l Z) : q < w.heap.size := blt h.head
theorem Que.clt (h : Que TS TE cs w q c cap l Z) : c < w.heap.size := by obtain ⟨buf, s, r, h1, _⟩ := h.here; exact blt h1
theorem Que.ne (h : Que TS TE cs w q c cap l Z) : q ≠ c := by
  rintro rfl
  obtain ⟨buf, s, r, h1, _⟩ := h.here
  rw [h.head] at h1
  cases h1

/-- Where nothing of it turns, it stays. -/
theorem Que.keep (h : Que TS TE cs w q c cap l Z) (hk : ∀ k, k < w.heap.size → ¬ Z k → w'.heap[k]? = w.heap[k]?) : Que TS TE cs w' q c cap l Z := by
  obtain ⟨buf, s, r, h1, h2, h3⟩ := h.here
  refine ⟨(hk q h.qlt h.nq).trans h.head, h.nq, h.nc, ⟨buf, s, r, (hk c (blt h1) h.nc).trans h1, h2, fun i x hx => ?_⟩, h.fits⟩
  obtain ⟨a, ha, hb, hz⟩ := h3 i x hx
  exact ⟨a, ha, (hk a (blt hb) hz).trans hb, hz⟩

theorem Que.below (h : Que TS TE cs w q c cap l Z) (hb : Below w.heap.size w w') : Que TS TE cs w' q c cap l Z := h.keep fun k hk _ => hb.block k hk

theorem Que.alloc (h : Que TS TE cs w q c cap l Z) (o : Obj) : Que TS TE cs (w.alloc o) q c cap l Z := h.below ((Below.refl _ _).alloc (Nat.le_refl _) _)

theorem Que.drew (h : Que TS TE cs w q c cap l Z) : Que TS TE cs w.drew q c cap l Z := h.below (Below.refl _ _).drew

/-- What is not there yet is none of it. -/
theorem Que.out (h : Que TS TE cs w q c cap l Z) (Z' : Nat → Prop) (hZ : ∀ k, Z' k → Z k ∨ w.heap.size ≤ k) : Que TS TE cs w q c cap l Z' := by
  obtain ⟨buf, s, r, h1, h2, h3⟩ := h.here
  have nz : ∀ k, k < w.heap.size → ¬ Z k → ¬ Z' k := fun k hk hz hz' => by
    rcases hZ k hz' with h | h
    · exact hz h
    · omega
  refine ⟨h.head, nz q h.qlt h.nq, nz c (blt h1) h.nc, ⟨buf, s, r, h1, h2, fun i x hx => ?_⟩, h.fits⟩
  obtain ⟨a, ha, hb, hz⟩ := h3 i x hx
  exact ⟨a, ha, hb, nz a (blt hb) hz⟩

theorem Que.grown (h : Que TS TE cs w q c cap l Z) {row : Option Nat} (hg : w.grownBy w' row) (hr : ∀ k, row = some k → Z k) : Que TS TE cs w' q c cap l Z :=
  h.keep fun k hk hz => hg.block k hk fun e => hz (hr k e.symm)

/-- Where nothing waits, two blocks are all that it is. -/
theorem Que.nil_keep (h : Que TS TE cs w q c cap [] Z) (h1 : w'.heap[q]? = w.heap[q]?) (h2 : w'.heap[c]? = w.heap[c]?) : Que TS TE cs w' q c cap [] Z := by
  obtain ⟨buf, s, r, k1, k2, k3⟩ := h.here
  exact ⟨h1.trans h.head, h.nq, h.nc, ⟨buf, s, r, h2.trans k1, k2, fun i x hx => by simp at hx⟩, h.fits⟩

theorem setChan_ne (w : World) {c c' : Nat} (cap : Nat) (buf : Array Value) (cl : Bool) (s r : Nat) (tm : Bool) (h : c ≠ c') : (w.setChan c cap buf cl s r tm).heap[c']? = w.heap[c']? := by
  simp [World.setChan, Array.getElem?_setIfInBounds_ne h]

theorem grown_setChan (w : World) (c cap : Nat) (buf : Array Value) (cl : Bool) (s r : Nat) (tm : Bool) : w.grownBy (w.setChan c cap buf cl s r tm) (some c) :=
  ⟨rfl, rfl, rfl, by simp [World.setChan], fun k _ hk => setChan_ne w cap buf cl s r tm (fun e => hk (by rw [e]))⟩

theorem grown_below {row : Option Nat} (h : Below w.heap.size w w') : w.grownBy w' row := ⟨h.os, h.tape, h.output, h.size, fun k hk _ => h.block k hk⟩

theorem grown_trans {w₁ w₂ w₃ : World} {row : Option Nat} (h : w₁.grownBy w₂ row) (k : w₂.grownBy w₃ row) : w₁.grownBy w₃ row :=
  ⟨k.os.trans h.os, k.tape.trans h.tape, k.output.trans h.output, Nat.le_trans h.size k.size, fun i hi hr => (k.block i (Nat.lt_of_lt_of_le hi h.size) hr).trans (h.block i hi hr)⟩

/-- One more. -/
theorem Que.more (h : Que TS TE cs w q c cap l Z) (x : V) {a : Nat} (ha : w.heap[a]? = some (.cells (cs x) TE)) (hz : ¬ Z a) (hr : l.length < cap) {buf : Array Value} {s r : Nat} (hc : w.heap[c]? = some (.chan cap buf false s r false)) (s' r' : Nat) :
    Que TS TE cs (w.setChan c cap (buf.push (.pointer (some ⟨a, 0, none⟩))) false s' r' false) q c cap (l ++ [x]) Z := by
  obtain ⟨buf', s0, r0, h1, h2, h3⟩ := h.here
  rw [h1] at hc
  injection hc with hc
  injection hc with _ e2 _ _ _ _
  subst e2
  refine ⟨(setChan_ne w _ _ _ _ _ _ h.ne.symm).trans h.head, h.nq, h.nc, ⟨_, s', r', Conc.heap_setChan _ _ _ _ _ _ _ _ (blt h1), by simp [h2], fun i y hy => ?_⟩, by simp; omega⟩
  have hne : ∀ b o, w.heap[b]? = some (.cells o TE) → c ≠ b := by
    rintro b o hb rfl
    rw [h1] at hb
    cases hb
  rcases Nat.lt_trichotomy i l.length with hi | hi | hi
  · rw [List.getElem?_append_left hi] at hy
    obtain ⟨b, hb, hw, hbz⟩ := h3 i y hy
    refine ⟨b, ?_, (setChan_ne w _ _ _ _ _ _ (hne _ _ hw)).trans hw, hbz⟩
    rw [Array.getElem?_push, if_neg (by omega)]
    exact hb
  · subst hi
    simp at hy
    subst hy
    refine ⟨a, ?_, (setChan_ne w _ _ _ _ _ _ (hne _ _ ha)).trans ha, hz⟩
    rw [Array.getElem?_push, if_pos h2.symm]
  · rw [List.getElem?_eq_none (by simp; omega)] at hy
    cases hy

/-- One less. -/
theorem Que.less {x : V} (h : Que TS TE cs w q c cap (x :: l) Z) {buf : Array Value} {s r : Nat} (hc : w.heap[c]? = some (.chan cap buf false s r false)) (s' r' : Nat) :
    Que TS TE cs (w.setChan c cap (buf.extract 1 buf.size) false s' r' false) q c cap l Z := by
  obtain ⟨buf', s0, r0, h1, h2, h3⟩ := h.here
  rw [h1] at hc
  injection hc with hc
  injection hc with _ e2 _ _ _ _
  subst e2
  have hf := h.fits
  simp only [List.length_cons] at h2 hf
  refine ⟨(setChan_ne w _ _ _ _ _ _ h.ne.symm).trans h.head, h.nq, h.nc, ⟨_, s', r', Conc.heap_setChan _ _ _ _ _ _ _ _ (blt h1), by simp [h2], fun i y hy => ?_⟩, by omega⟩
  obtain ⟨b, hb, hw, hbz⟩ := h3 (i + 1) y (by simpa using hy)
  have hne : c ≠ b := by
    rintro rfl
    rw [h1] at hw
    cases hw
  refine ⟨b, ?_, (setChan_ne w _ _ _ _ _ _ hne).trans hw, hbz⟩
  have hi : i + 1 < buf'.size := (Array.getElem?_eq_some_iff.1 hb).1
  rw [Array.getElem?_extract, if_pos (by omega), Nat.add_comm]
  exact hb

theorem Que.first {x : V} (h : Que TS TE cs w q c cap (x :: l) Z) : ∃ (buf : Array Value) (s r a : Nat), w.heap[c]? = some (.chan cap buf false s r false) ∧ buf.size = l.length + 1 ∧ buf.getD 0 undef = .pointer (some ⟨a, 0, none⟩) ∧ c ≠ a ∧ w.heap[a]? = some (.cells (cs x) TE) := by
  obtain ⟨buf, s, r, h1, h2, h3⟩ := h.here
  obtain ⟨a, ha, hw, _⟩ := h3 0 x rfl
  refine ⟨buf, s, r, a, h1, h2, by rw [Array.getD_eq_getD_getElem?, ha]; rfl, ?_, hw⟩
  rintro rfl
  rw [h1] at hw
  cases hw
end

end Go.Proofs.Ythjbieocffklfaa
