/- The document's disk in memory; Right, Used, Get, each by its contract. -/
import Derived.Test.YtnkfdnehkihbeaaDskPure
import Derived.Test.YtnkfdnehkihbeaaRes
import Derived.Test.YtnkfdnehkihbeaaRows
import Derived.WalkSpells
import Derived.WalkLawsBesides
import Derived.KernelRfl
import Derived.IntWalk
import Derived.Outline
import Derived.Lib.Hide
import Derived.BigQuiet
import Derived.Deep.LoopGhost
import Derived.Deep.QuietTactic
import Derived.Deep.AppendLies
import Derived.Deep.Cut
import Derived.Deep.DeepCutAuto
import Derived.OwnWalk
import Derived.Deep.RegionWith
import Derived.Deep.RegionHeld3
namespace Go.Proofs.Ytnkfdnehkihbeaa
open Go.RowKit
set_option linter.unusedVariables false
set_option linter.unusedSimpArgs false

/-- A slice that reads as these files. -/
def RF (w : World) (A : Option Addr) (cap : Nat) (l : List Fil) : Prop :=
  l.length ≤ cap ∧ (0 < l.length → ∃ g off, A = some ⟨g, off, none⟩ ∧ g < w.heap.size ∧ ∀ j (hj : j < l.length),
    w.cell? ⟨g, off + j * 3, none⟩ = some (.string l[j].name) ∧ w.cell? ⟨g, off + j * 3 + 1, none⟩ = some (.string l[j].b) ∧ w.cell? ⟨g, off + j * 3 + 2, none⟩ = some (.int .i64 (l[j].safe : Int)))

abbrev diskV (A : Option Addr) (cap : Nat) (D : Dsk) : Value := .agg #[.int .i64 D.room, .slice A D.l.length cap, .bool D.set, .int .i64 D.n, .bool D.lost]
abbrev diskC (A : Option Addr) (cap : Nat) (D : Dsk) : Array Value := #[.int .i64 D.room, .slice A D.l.length cap, .bool D.set, .int .i64 D.n, .bool D.lost]
abbrev filV (f : Fil) : Value := .agg #[.string f.name, .string f.b, .int .i64 (f.safe : Int)]
abbrev filC (f : Fil) : Array Value := #[.string f.name, .string f.b, .int .i64 (f.safe : Int)]
def filL (f : Fil) : List Value := [.string f.name, .string f.b, .int .i64 (f.safe : Int)]
def filsL (l : List Fil) : List Value := l.flatMap filL

section
variable {w w' : World} {A : Option Addr} {cap : Nat} {l : List Fil}

theorem filsL_length (l : List Fil) : (filsL l).length = l.length * 3 := by
  induction l with
  | nil => rfl
  | cons f l ih => simp [filsL, filL, List.flatMap_cons] at ih ⊢; omega

theorem filsL_app (a b : List Fil) : filsL (a ++ b) = filsL a ++ filsL b := List.flatMap_append
theorem filsL_one (f : Fil) : filsL [f] = filL f := by simp [filsL]

theorem filsL_at (l : List Fil) : ∀ j (hj : j < l.length), (filsL l)[j * 3]? = some (.string l[j].name) ∧ (filsL l)[j * 3 + 1]? = some (.string l[j].b) ∧ (filsL l)[j * 3 + 2]? = some (.int .i64 (l[j].safe : Int)) := by
  induction l with
  | nil => intro j hj; simp at hj
  | cons f l ih =>
    intro j hj
    cases j with
    | zero => simp [filsL, filL]
    | succ j =>
      have := ih j (by simpa using hj)
      have e : ∀ i, (filsL (f :: l))[(j + 1) * 3 + i]? = (filsL l)[j * 3 + i]? := fun i => by
        rw [show (j + 1) * 3 + i = (j * 3 + i) + 3 by omega]
        simp [filsL, filL, List.flatMap_cons]
      refine ⟨?_, ?_, ?_⟩
      · rw [show (j + 1) * 3 = (j + 1) * 3 + 0 from rfl, e]; simpa using this.1
      · rw [e]; simpa using this.2.1
      · rw [e]; simpa using this.2.2

theorem RF.nil (w : World) : RF w none 0 [] := ⟨Nat.le_refl _, fun h => absurd h (by simp)⟩

theorem RF.keep (h : RF w A cap l) (hs : w.heap.size ≤ w'.heap.size) (hk : ∀ g, g < w.heap.size → w'.heap[g]? = w.heap[g]?) : RF w' A cap l := by
  refine ⟨h.1, fun h0 => ?_⟩
  obtain ⟨g, off, e, hg, hc⟩ := h.2 h0
  refine ⟨g, off, e, Nat.lt_of_lt_of_le hg hs, fun j hj => ?_⟩
  obtain ⟨c0, c1, c2⟩ := hc j hj
  have hx : ∀ o, w'.cell? ⟨g, o, none⟩ = w.cell? ⟨g, o, none⟩ := fun o => World.cell?_of_block (hk g hg)
  exact ⟨(hx _).trans c0, (hx _).trans c1, (hx _).trans c2⟩

theorem RF.below (h : RF w A cap l) {B : Nat} (hb : Below B w w') (hB : w.heap.size ≤ B) : RF w' A cap l :=
  h.keep hb.size fun g hg => hb.block g (Nat.lt_of_lt_of_le hg hB)

theorem RF.drew (h : RF w A cap l) : RF w.drew A cap l := h

/-- It lies in blocks from B on. -/
def New (B : Nat) (A : Option Addr) : Prop := ∀ a, A = some a → B ≤ a.block

theorem New.mono {B B' : Nat} (h : New B A) (hB : B' ≤ B) : New B' A := fun a e => Nat.le_trans hB (h a e)
theorem New.of_own {base : Nat} {T : TypeId} {size n c : Nat} {xs : List Value} (h : w.ownsRow base T size (.slice A n c) n xs) : New base A := fun a e => by
  subst e
  exact (h.lt a.block rfl).1

theorem RF.keepN (h : RF w A cap l) {B : Nat} (hn : New B A) (hs : w.heap.size ≤ w'.heap.size) (hk : ∀ g, B ≤ g → g < w.heap.size → w'.heap[g]? = w.heap[g]?) : RF w' A cap l := by
  refine ⟨h.1, fun h0 => ?_⟩
  obtain ⟨g, off, e, hg, hc⟩ := h.2 h0
  refine ⟨g, off, e, Nat.lt_of_lt_of_le hg hs, fun j hj => ?_⟩
  obtain ⟨c0, c1, c2⟩ := hc j hj
  have hx : ∀ o, w'.cell? ⟨g, o, none⟩ = w.cell? ⟨g, o, none⟩ := fun o => World.cell?_of_block (hk g (hn _ e) hg)
  exact ⟨(hx _).trans c0, (hx _).trans c1, (hx _).trans c2⟩

/-- What came of a list: it is still that one, or another one in new memory; nothing old has turned. -/
def Got (w : World) (A : Option Addr) (cap : Nat) (l : List Fil) (w' : World) (A' : Option Addr) (cap' : Nat) (l' : List Fil) : Prop :=
  Below w.heap.size w w' ∧ ((A' = A ∧ cap' = cap ∧ l' = l) ∨ (RF w' A' cap' l' ∧ New w.heap.size A'))

theorem Got.rf {A' : Option Addr} {cap' : Nat} {l' : List Fil} (h : Got w A cap l w' A' cap' l') (h0 : RF w A cap l) : RF w' A' cap' l' := by
  rcases h.2 with ⟨rfl, rfl, rfl⟩ | ⟨h1, _⟩
  · exact h0.below h.1 (Nat.le_refl _)
  · exact h1

theorem Got.same (hb : Below w.heap.size w w') : Got w A cap l w' A cap l := ⟨hb, .inl ⟨rfl, rfl, rfl⟩⟩

/-- A call within a call, and stores into blocks that the outer one has made ahead of it. -/
theorem Got.wrap {w1 w2 w3 : World} {A' : Option Addr} {cap' : Nat} {l' : List Fil} (hb : Below w.heap.size w w1) (hg : Got w1 A cap l w2 A' cap' l') (hb3 : Below w.heap.size w2 w3) (hk : ∀ g, w1.heap.size ≤ g → g < w2.heap.size → w3.heap[g]? = w2.heap[g]?) :
    Got w A cap l w3 A' cap' l' := by
  refine ⟨(hb.trans (hg.1.mono hb.size)).trans hb3, ?_⟩
  rcases hg.2 with h | ⟨h1, h2⟩
  · exact .inl h
  · exact .inr ⟨h1.keepN h2 hb3.size hk, h2.mono hb.size⟩

/-- What lies in a row of the call's own. -/
theorem RF.of_own {base : Nat} {T : TypeId} {n : Nat} (h : w.ownsRow base T 3 (.slice A n cap) n (filsL l)) (hn : l.length = n) : RF w A cap l := by
  subst hn
  rcases h.2 with ⟨e, h0⟩ | ⟨g, cap', cur, e, hb, hg, hc, hm, hs, ht⟩
  · exact ⟨by omega, fun h1 => by omega⟩
  · injection e with e1 e2 e3
    subst e1 e3
    refine ⟨hc, fun _ => ⟨g, 0, rfl, hlt hg, fun j hj => ?_⟩⟩
    obtain ⟨q0, q1, q2⟩ := filsL_at l j hj
    have hx : ∀ i v, i < l.length * 3 → (filsL l)[i]? = some v → w.cell? ⟨g, i, none⟩ = some v := fun i v hi hv => by
      rw [cell_of_row w g i cur _ (0, 0) hg]
      have := congrArg (fun q => q[i]?) ht
      simp only [List.getElem?_take, if_pos hi] at this
      rw [← hv, ← this]
      simp
    exact ⟨by simpa using hx _ _ (by omega) q0, by simpa using hx _ _ (by omega) q1, by simpa using hx _ _ (by omega) q2⟩
end

/- Right -/

theorem rightL_snoc (l : List UInt8) (b : UInt8) : rightL (l ++ [b]) = (rightL l && !(decide (b.toNat < 33) || decide (126 < b.toNat))) := by simp [rightL]

theorem rightL_take (s : ByteArray) (k : Nat) (h : k < s.size) : rightL (s.data.toList.take (k + 1)) = (rightL (s.data.toList.take k) && !(decide ((s[k]).toNat < 33) || decide (126 < (s[k]).toNat))) := by
  rw [List.take_succ_eq_append_getElem (by simpa using h), rightL_snoc]; rfl

theorem rightL_no (l : List UInt8) (k : Nat) (h : rightL (l.take k) = false) : rightL l = false := by
  rw [← List.take_append_drop k l]
  simp only [rightL, List.all_append] at h ⊢
  rw [h]; rfl

theorem rightS_no (s : ByteArray) (k : Nat) (h : rightL (s.data.toList.take k) = false) : rightS s = false := by
  unfold rightS; rw [rightL_no _ _ h, Bool.and_false]

/- Used -/

theorem usedF_take (l : List Fil) (k : Nat) (h : k < l.length) : usedF (l.take (k + 1)) = usedF (l.take k) + l[k].b.size := by
  rw [List.take_succ_eq_append_getElem h]; simp only [usedF, List.map_append, List.sum_append, List.map_cons, List.map_nil, List.sum_cons, List.sum_nil, Nat.add_zero]

theorem usedF_le (l : List Fil) (k : Nat) : usedF (l.take k) ≤ usedF l := by
  have : usedF l = usedF (l.take k) + usedF (l.drop k) := by
    rw [show usedF (l.take k) + usedF (l.drop k) = usedF (l.take k ++ l.drop k) by simp only [usedF, List.map_append, List.sum_append], List.take_append_drop]
  omega

/- Get -/

theorem getF_yes (l : List Fil) (name : ByteArray) (k : Nat) (hk : k < l.length) (hno : ∀ i (hi : i < l.length), i < k → isN name l[i] = false) (h : isN name l[k] = true) : getF l name = (l[k], true) := by
  have : l.find? (isN name) = some l[k] := by
    rw [List.find?_eq_some_iff_getElem]
    exact ⟨h, k, hk, rfl, fun j hj => by simp [hno j (by omega) hj]⟩
  simp [getF, this]

theorem getF_no (l : List Fil) (name : ByteArray) (hno : ∀ i (hi : i < l.length), i < l.length → isN name l[i] = false) : getF l name = (⟨name, ByteArray.empty, 0⟩, false) := by
  have : l.find? (isN name) = none := by
    rw [List.find?_eq_none]
    intro x hx
    obtain ⟨i, hi, rfl⟩ := List.getElem_of_mem hx
    simp [hno i hi hi]
  simp [getF, this]

end Go.Proofs.Ytnkfdnehkihbeaa

namespace Go.Proofs.Ytnkfdnehkihbeaa
open Go.RowKit
set_option linter.unusedVariables false
set_option linter.unusedSimpArgs false

theorem below_drewN {B : Nat} {a w : World} (h : Below B a w) (n : Nat) : Below B a (w.drewN n) := ⟨h.os, h.tape, h.output, h.size, h.block⟩

theorem filL_one (f : Fil) : ∀ u ∈ filL f, u.oneCell' = true := by
  intro u hu
  simp only [filL, List.mem_cons, List.not_mem_nil, or_false] at hu
  rcases hu with rfl | rfl | rfl <;> rfl

theorem take_filter {α : Type} (P : α → Bool) {l : List α} {i : Nat} (hi : i < l.length) : (l.take (i + 1)).filter P = (l.take i).filter P ++ (if P l[i] = true then [l[i]] else []) := by
  rw [List.take_succ_eq_append_getElem hi, List.filter_append, List.filter_cons]
  rfl

/-- What a loop of Put has gathered: what stood there, and of the first i files those that P takes. -/
def Gath (W : World) (T : TypeId) (l pre : List Fil) (P : Fil → Bool) (i : Nat) (v : Value) (wr : World) : Prop :=
  ∃ A m c, v = .slice A m c ∧ (pre ++ (l.take i).filter P).length = m ∧ wr.ownsRow W.heap.size T 3 (.slice A m c) m (filsL (pre ++ (l.take i).filter P)) ∧ Below W.heap.size W wr

theorem gath_len (l pre : List Fil) (P : Fil → Bool) (i : Nat) : (pre ++ (l.take i).filter P).length ≤ pre.length + l.length := by
  have h1 := List.length_filter_le P (l.take i)
  have h2 := List.length_take_le i l
  simp
  simp at h1
  omega

/-- A file is gathered. -/
theorem gath_yes {W : World} {T : TypeId} {l pre : List Fil} {P : Fil → Bool} {i : Nat} (hi : i < l.length) (hp : P l[i] = true) {n : Nat} (hn : (pre ++ (l.take i).filter P).length = n) {g c : Nat} {w2 : World}
    (ho : w2.ownsRow W.heap.size T 3 (.slice (some ⟨g, 0, none⟩) (n + 1) c) (n + 1) (filsL (pre ++ (l.take i).filter P) ++ filL l[i])) (hb : Below W.heap.size W w2) :
    Gath W T l pre P (i + 1) (.slice (some ⟨g, 0, none⟩) (n + 1) c) w2 := by
  have e : pre ++ (l.take (i + 1)).filter P = (pre ++ (l.take i).filter P) ++ [l[i]] := by
    rw [take_filter P hi, if_pos hp, List.append_assoc]
  have hl : (pre ++ (l.take (i + 1)).filter P).length = n + 1 := by rw [e, List.length_append, hn]; rfl
  refine ⟨some ⟨g, 0, none⟩, n + 1, c, rfl, hl, ?_, hb⟩
  rw [e, filsL_app, filsL_one]
  exact ho

theorem gath_no {W : World} {T : TypeId} {l pre : List Fil} {P : Fil → Bool} {i : Nat} (hi : i < l.length) (hp : P l[i] = false) {v : Value} {w2 : World} (h : Gath W T l pre P i v w2) : Gath W T l pre P (i + 1) v w2 := by
  have e : (l.take (i + 1)).filter P = (l.take i).filter P := by
    rw [take_filter P hi, if_neg (by rw [hp]; decide), List.append_nil]
  unfold Gath
  rw [e]
  exact h

/-- Done with one loop: what it has gathered stands ahead of the next. -/
theorem gath_turn {W : World} {T : TypeId} {l pre : List Fil} {P Q : Fil → Bool} {i : Nat} (hi : l.length ≤ i) {v : Value} {w2 : World} (h : Gath W T l pre P i v w2) : Gath W T l (pre ++ l.filter P) Q 0 v w2 := by
  have e : (pre ++ l.filter P) ++ (l.take 0).filter Q = pre ++ (l.take i).filter P := by simp [List.take_of_length_le hi]
  unfold Gath
  rw [e]
  exact h

/-- One file more, behind a loop. -/
theorem gath_one {W : World} {T : TypeId} {l pre : List Fil} {P Q : Fil → Bool} {i : Nat} (hi : l.length ≤ i) (f : Fil) {n : Nat} (hn : (pre ++ (l.take i).filter P).length = n) {g c : Nat} {w2 : World}
    (ho : w2.ownsRow W.heap.size T 3 (.slice (some ⟨g, 0, none⟩) (n + 1) c) (n + 1) (filsL (pre ++ (l.take i).filter P) ++ filL f)) (hb : Below W.heap.size W w2) :
    Gath W T l (pre ++ l.filter P ++ [f]) Q 0 (.slice (some ⟨g, 0, none⟩) (n + 1) c) w2 := by
  have e : (pre ++ l.filter P ++ [f]) ++ (l.take 0).filter Q = (pre ++ (l.take i).filter P) ++ [f] := by simp [List.take_of_length_le hi]
  refine ⟨some ⟨g, 0, none⟩, n + 1, c, rfl, by rw [e, List.length_append, hn]; rfl, ?_, hb⟩
  rw [e, filsL_app, filsL_one]
  exact ho

theorem gath_start (W : World) (T : TypeId) (l : List Fil) (P : Fil → Bool) : Gath W T l [] P 0 (.slice none 0 0) W :=
  ⟨none, 0, 0, rfl, by simp, World.ownsRow_nil W W.heap.size T 3, Below.refl _ _⟩

theorem gath_drew {W : World} {T : TypeId} {l pre : List Fil} {P : Fil → Bool} {i : Nat} {v : Value} {w2 : World} (h : Gath W T l pre P i v w2) (n : Nat) : Gath W T l pre P i v (w2.drewN n) := by
  obtain ⟨A, m, c, e, hl, ho, hb⟩ := h
  exact ⟨A, m, c, e, hl, ho, below_drewN hb n⟩

theorem own_out {w : World} {base : Nat} {e : TypeId} {size n : Nat} {v : Value} {xs : List Value} (h : w.ownsRow base e size v n xs) {o : Obj} : (w.alloc o).ownsRow base e size v n xs := h.alloc o

end Go.Proofs.Ytnkfdnehkihbeaa

namespace Go.Proofs.Ytnkfdnehkihbeaa
open Go.RowKit
set_option linter.unusedVariables false
set_option linter.unusedSimpArgs false

theorem burn_room (D : Dsk) : D.burn.room = D.room := by
  unfold Dsk.burn; split
  · rfl
  · split <;> rfl

theorem putF_len (l : List Fil) (f : Fil) : (putF l f).length ≤ 2 * l.length + 1 := by
  have h1 := List.length_filter_le (fun g : Fil => ltS g.name f.name) l
  have h2 := List.length_filter_le (fun g : Fil => ltS f.name g.name) l
  unfold putF
  rw [List.length_append, List.length_append]
  split <;> simp <;> omega

end Go.Proofs.Ytnkfdnehkihbeaa

namespace Go.Proofs.Ytnkfdnehkihbeaa
open Go.RowKit
set_option linter.unusedVariables false
set_option linter.unusedSimpArgs false

abbrev zeroC : Array Value := #[.int .i64 0, .slice none 0 0, .bool false, .int .i64 0, .bool false]

/-- Where a method with a disk in it begins: the disk, and what is to be its answer. -/
theorem begin2 (w : World) (C : Array Value) (T : TypeId) :
    Below w.heap.size w ((w.alloc (.cells C T)).alloc (.cells zeroC T)) ∧ ((w.alloc (.cells C T)).alloc (.cells zeroC T)).heap[w.heap.size]? = some (.cells C T) ∧
    ((w.alloc (.cells C T)).alloc (.cells zeroC T)).heap[w.heap.size + 1]? = some (.cells zeroC T) ∧ ((w.alloc (.cells C T)).alloc (.cells zeroC T)).heap.size = w.heap.size + 2 :=
  ⟨((Below.refl _ _).alloc (Nat.le_refl _) _).alloc (by simp) _, heap_alloc2_old _ _ _, heap_alloc2_new _ _ _, by simp⟩

theorem below_set5 {B : Nat} {w w1 : World} {n : Nat} (h : Below B w w1) (hn : B ≤ n) (a b c d e : Value) :
    Below B w (((((w1.setCell ⟨n, 0, none⟩ a).setCell ⟨n, 1, none⟩ b).setCell ⟨n, 2, none⟩ c).setCell ⟨n, 3, none⟩ d).setCell ⟨n, 4, none⟩ e) := by
  repeat (refine Below.setCell ?_ (by show B ≤ n; exact hn) _)
  exact h

theorem far_set5 (w1 : World) {n k : Nat} (hk : k ≠ n) (a b c d e : Value) :
    (((((w1.setCell ⟨n, 0, none⟩ a).setCell ⟨n, 1, none⟩ b).setCell ⟨n, 2, none⟩ c).setCell ⟨n, 3, none⟩ d).setCell ⟨n, 4, none⟩ e).heap[k]? = w1.heap[k]? := by
  repeat (refine (Below.heap_setCell _ _ _ _ (by show k ≠ n; exact hk)).trans ?_)
  rfl

/-- The answer is another call's. -/
theorem Got.wrap5 {w w1 w2 : World} {A A' : Option Addr} {cap cap' n : Nat} {l l' : List Fil} (hb : Below w.heap.size w w1) (hg : Got w1 A cap l w2 A' cap' l') (hn : w.heap.size ≤ n) (hn2 : n < w1.heap.size) (a b c d e : Value) :
    Got w A cap l (((((w2.setCell ⟨n, 0, none⟩ a).setCell ⟨n, 1, none⟩ b).setCell ⟨n, 2, none⟩ c).setCell ⟨n, 3, none⟩ d).setCell ⟨n, 4, none⟩ e) A' cap' l' :=
  Got.wrap hb hg (by
    repeat (refine Below.setCell ?_ (by show w.heap.size ≤ n; exact hn) _)
    exact Below.refl _ _) (fun g h1 h2 => far_set5 w2 (by omega) a b c d e)

end Go.Proofs.Ytnkfdnehkihbeaa

namespace Go.Proofs.Ytnkfdnehkihbeaa
open Go.RowKit
set_option linter.unusedVariables false
set_option linter.unusedSimpArgs false

theorem usedF_mem {l : List Fil} {f : Fil} (h : f ∈ l) : f.b.size ≤ usedF l := by
  induction l with
  | nil => cases h
  | cons g l ih =>
    have e : usedF (g :: l) = g.b.size + usedF l := by simp [usedF]
    rw [e]
    rcases List.mem_cons.1 h with rfl | h
    · omega
    · have := ih h; omega

theorem getF_size (l : List Fil) (name : ByteArray) : (getF l name).1.b.size ≤ usedF l := by
  unfold getF
  cases hq : l.find? (isN name) with
  | none => simp
  | some f => exact usedF_mem (List.mem_of_find?_eq_some hq)

end Go.Proofs.Ytnkfdnehkihbeaa

namespace Go.Proofs.Ytnkfdnehkihbeaa
open Go.RowKit
set_option linter.unusedVariables false
set_option linter.unusedSimpArgs false

/-- A slice that reads as these numbers. -/
def RI (w : World) (K : Option Addr) (klen : Nat) (Z : Nat → Int) : Prop :=
  (∀ j, j < klen → -9223372036854775808 ≤ Z j ∧ Z j ≤ 9223372036854775807) ∧ (0 < klen → ∃ b off, K = some ⟨b, off, none⟩ ∧ b < w.heap.size ∧ ∀ j, j < klen → w.cell? ⟨b, off + j, none⟩ = some (.int .i64 (Z j)))

theorem RI.below {w w' : World} {K : Option Addr} {klen : Nat} {Z : Nat → Int} (h : RI w K klen Z) (hb : Below w.heap.size w w') : RI w' K klen Z := by
  refine ⟨h.1, fun h0 => ?_⟩
  obtain ⟨b, off, e, hg, hc⟩ := h.2 h0
  exact ⟨b, off, e, Nat.lt_of_lt_of_le hg hb.size, fun j hj => (hb.cell (p := ⟨b, off + j, none⟩) hg).trans (hc j hj)⟩

end Go.Proofs.Ytnkfdnehkihbeaa
