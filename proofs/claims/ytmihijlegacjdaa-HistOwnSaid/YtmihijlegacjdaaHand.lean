/- Drawn regions by hand, in short rows: an operation is read off the list, a take is one row; what is many hidden facts. (Made of thin3.py's own words.) -/
import Derived.Test.YtmihijlegacjdaaHead
namespace Go.Proofs.Ytmihijlegacjdaa
open Go.RowKit
set_option linter.unusedVariables false

theorem lpq : (∀ (a : Go.Act) (t : Tmp) (v : Value), a.put (some t) v = { a with tmps := a.tmps.setIfInBounds t v }) ∧ (∀ (a : Go.Act) (v : Value), a.put none v = a) ∧ (∀ (α : Type) (l : List α) (i : Nat) (x : α), l.toArray.setIfInBounds i x = (l.set i x).toArray) ∧ (∀ (α : Type) (a b : α) (l : List α), (a :: l).set 0 b = b :: l) ∧ (∀ (α : Type) (a b : α) (l : List α) (n : Nat), (a :: l).set (n + 1) b = a :: l.set n b) :=
  ⟨fun _ _ _ => rfl, fun _ _ => rfl, fun _ _ _ _ => List.setIfInBounds_toArray .., fun _ _ _ _ => rfl, fun _ _ _ _ _ => rfl⟩
theorem hlq {w : World} {k : Nat} {o : Obj} (h : w.heap[k]? = some o) : k < w.heap.size := (Array.getElem?_eq_some_iff.1 h).1
theorem nlq {n : Nat} : n ≤ n := Nat.le_refl n
theorem blq {B : Nat} {w : World} : Below B w w := Below.refl B w
theorem opq {ops : Array Oper} {i : Nat} {oi : Oper} (h : (ops.toList.drop i).head? = some oi) : ops[i]? = some oi := by
  rw [List.head?_drop] at h
  simpa using h
theorem bpq {P : Program} {fn : Func} {R : Ending → World → Prop} {a : Go.Act} {w : World} {x : Exit} (h : R (.returned (.tuple #[])) w) (hx : x = .ret ∨ x = .normal := by first | exact .inl rfl | exact .inr rfl) (hf : fn.results = #[] := by rfl) (hd : a.defers = [] := by rfl) : bodyPost P fn R x a w := by
  rcases hx with rfl | rfl
  · exact bodyPost_ret (results_none hf _ _ _) hd h
  · exact bodyPost_end (results_none hf _ _ _) hd h
theorem exq {α : Sort _} (a : α) : ∃ b, a = b := ⟨a, rfl⟩
theorem tkq {P : Program} {ops : Array Oper} {Q : Exit → Go.Act → World → Prop} {md : Region.Mode} {S : World → Prop} {fuel : Nat} {listed L : Array Bool} {a b : Go.Act} {w : World} {oi : Oper} {v : Value} (i : Nat) (h : wpAnyH P md ops Q S fuel L b w)
    (hi : (ops.toList.drop i).head? = some oi := by rfl) (hs : Region.noSelect ops = true := by kernel_rfl) (hf : Region.free md ops listed i = true := by kernel_rfl) (hr : (Region.ready md ops listed).contains i = true := by kernel_rfl) (hw : Region.wanted oi (yielded ops a.tmps) = true := by rfl) (hy : ∀ w, S w → (execOp a.eval oi).run P w = .ok (.value v) w := by (intro w h; (try dsimp only at h); go_simp); (try with_reducible rfl)) (ha : a.put oi.dst v = b := by first | (simp only [lpq]; rfl) | (simp only [lpq]; done) | rfl) (hL : listed.setIfInBounds i true = L := by first | (simp only [lpq]; rfl) | (simp only [lpq]; done) | rfl) (hS : S w := by assumption) (hQ : ∀ c a w, Q (.panic c) (a.put oi.dst v) w → Q (.panic c) a w := by exact fun _ _ _ h => h) : wpAnyH P md ops Q S (fuel + 1) listed a w :=
  wpAnyH_take (opq hi) hs hf hr hQ (Or.inl ⟨hw, hy⟩) hS (by rw [ha, hL]; exact h)
theorem tuq {P : Program} {ops : Array Oper} {Q : Exit → Go.Act → World → Prop} {md : Region.Mode} {S : World → Prop} {fuel : Nat} {listed L : Array Bool} {a b : Go.Act} {w : World} {oi : Oper} (i : Nat) (h : wpAnyH P md ops Q S fuel L b w)
    (hi : (ops.toList.drop i).head? = some oi := by rfl) (hs : Region.noSelect ops = true := by kernel_rfl) (hf : Region.free md ops listed i = true := by kernel_rfl) (hr : (Region.ready md ops listed).contains i = true := by kernel_rfl) (hw : Region.wanted oi (yielded ops a.tmps) = false := by rfl) (ha : a.put oi.dst undef = b := by first | (simp only [lpq]; rfl) | (simp only [lpq]; done) | rfl) (hL : listed.setIfInBounds i true = L := by first | (simp only [lpq]; rfl) | (simp only [lpq]; done) | rfl) (hS : S w := by assumption) (hQ : ∀ c a w, Q (.panic c) (a.put oi.dst undef) w → Q (.panic c) a w := by exact fun _ _ _ h => h) : wpAnyH P md ops Q S (fuel + 1) listed a w :=
  wpAnyH_take (opq hi) hs hf hr hQ (Or.inr ⟨hw, rfl⟩) hS (by rw [ha, hL]; exact h)
theorem rdq1 {P : Program} {ops : Array Oper} {Q : Exit → Go.Act → World → Prop} {md : Region.Mode} {S : World → Prop} {fuel : Nat} {listed L : Array Bool} {a : Go.Act} {w : World} {oi : Oper} (i : Nat) (hi : (∀ K : Go.Act → World → Prop, Go.Shut (∀ a w, S w → (S w → wpAnyH P md ops Q S fuel L a w) → K a w) → if Region.wanted oi (yielded ops a.tmps) = true then Oper.wp P oi a w K Q else K (a.put oi.dst undef) w))
    (ui : (ops.toList.drop i).head? = some oi := by rfl) (hr : Region.ready md ops listed = [i] := by kernel_rfl) (li : listed.setIfInBounds i true = L := by first | (simp only [lpq]; rfl) | (simp only [lpq]; done) | rfl) : wpAnyH P md ops Q S (fuel + 1) listed a w :=
  wpAnyH_ready hr (by simp) (AllReadyH.cons (opq ui) (fun K hK => hi K (by rw [← li]; exact hK)) (AllReadyH.nil))
theorem rdq2 {P : Program} {ops : Array Oper} {Q : Exit → Go.Act → World → Prop} {md : Region.Mode} {S : World → Prop} {fuel : Nat} {listed L L2 : Array Bool} {a : Go.Act} {w : World} {oi oj : Oper} (i j : Nat) (hi : (∀ K : Go.Act → World → Prop, Go.Shut (∀ a w, S w → (S w → wpAnyH P md ops Q S fuel L a w) → K a w) → if Region.wanted oi (yielded ops a.tmps) = true then Oper.wp P oi a w K Q else K (a.put oi.dst undef) w)) (hj : (∀ K : Go.Act → World → Prop, Go.Shut (∀ a w, S w → (S w → wpAnyH P md ops Q S fuel L2 a w) → K a w) → if Region.wanted oj (yielded ops a.tmps) = true then Oper.wp P oj a w K Q else K (a.put oj.dst undef) w))
    (ui : (ops.toList.drop i).head? = some oi := by rfl) (uj : (ops.toList.drop j).head? = some oj := by rfl) (hr : Region.ready md ops listed = [i, j] := by kernel_rfl) (li : listed.setIfInBounds i true = L := by first | (simp only [lpq]; rfl) | (simp only [lpq]; done) | rfl) (lj : listed.setIfInBounds j true = L2 := by first | (simp only [lpq]; rfl) | (simp only [lpq]; done) | rfl) : wpAnyH P md ops Q S (fuel + 1) listed a w :=
  wpAnyH_ready hr (by simp) (AllReadyH.cons (opq ui) (fun K hK => hi K (by rw [← li]; exact hK)) (AllReadyH.cons (opq uj) (fun K hK => hj K (by rw [← lj]; exact hK)) (AllReadyH.nil)))
theorem dnq {P : Program} {ops : Array Oper} {Q : Exit → Go.Act → World → Prop} {md : Region.Mode} {S : World → Prop} {n : Nat} {listed : Array Bool} {a : Go.Act} {w : World} (h : Q .normal a w) (hr : Region.ready md ops listed = [] := by kernel_rfl) : wpAnyH P md ops Q S n listed a w := wpAnyH_done hr h n
theorem rpq (ops : Array Oper) : Array.replicate ops.size false = (List.replicate ops.toList.length false).toArray := by cases ops; simp
theorem lsq {P : Program} {ops : Array Oper} {Q : Exit → Go.Act → World → Prop} {md : Region.Mode} {S : World → Prop} {m : Nat} {M L : Array Bool} {a : Go.Act} {w : World} (n : Nat) (h : wpAnyH P md ops Q S n L a w) (hn : m = n := by rfl) (hL : M = L := by first | (simp only [rpq, List.replicate]; rfl) | rfl) : wpAnyH P md ops Q S m M a w := by subst hn hL; exact h
theorem bbr {B : Nat} {w W : World} (h : Below B w W := by repeat (first | exact blq | apply Below.drew | refine Below.alloc ?_ (by simp) _)) : Below B w W := h
theorem hdq2 {p0 p1 : Prop} (h0 : p0) (h1 : p1) : Go.RowKit.Hid (p0 ∧ p1) := Lib.hid ⟨h0, h1⟩
theorem hdq3 {p0 p1 p2 : Prop} (h0 : p0) (h1 : p1) (h2 : p2) : Go.RowKit.Hid (p0 ∧ p1 ∧ p2) := Lib.hid ⟨h0, h1, h2⟩
theorem hdq4 {p0 p1 p2 p3 : Prop} (h0 : p0) (h1 : p1) (h2 : p2) (h3 : p3) : Go.RowKit.Hid (p0 ∧ p1 ∧ p2 ∧ p3) := Lib.hid ⟨h0, h1, h2, h3⟩
theorem hdq5 {p0 p1 p2 p3 p4 : Prop} (h0 : p0) (h1 : p1) (h2 : p2) (h3 : p3) (h4 : p4) : Go.RowKit.Hid (p0 ∧ p1 ∧ p2 ∧ p3 ∧ p4) := Lib.hid ⟨h0, h1, h2, h3, h4⟩
theorem hdq6 {p0 p1 p2 p3 p4 p5 : Prop} (h0 : p0) (h1 : p1) (h2 : p2) (h3 : p3) (h4 : p4) (h5 : p5) : Go.RowKit.Hid (p0 ∧ p1 ∧ p2 ∧ p3 ∧ p4 ∧ p5) := Lib.hid ⟨h0, h1, h2, h3, h4, h5⟩
theorem hdq7 {p0 p1 p2 p3 p4 p5 p6 : Prop} (h0 : p0) (h1 : p1) (h2 : p2) (h3 : p3) (h4 : p4) (h5 : p5) (h6 : p6) : Go.RowKit.Hid (p0 ∧ p1 ∧ p2 ∧ p3 ∧ p4 ∧ p5 ∧ p6) := Lib.hid ⟨h0, h1, h2, h3, h4, h5, h6⟩
theorem hdq8 {p0 p1 p2 p3 p4 p5 p6 p7 : Prop} (h0 : p0) (h1 : p1) (h2 : p2) (h3 : p3) (h4 : p4) (h5 : p5) (h6 : p6) (h7 : p7) : Go.RowKit.Hid (p0 ∧ p1 ∧ p2 ∧ p3 ∧ p4 ∧ p5 ∧ p6 ∧ p7) := Lib.hid ⟨h0, h1, h2, h3, h4, h5, h6, h7⟩
theorem hdq9 {p0 p1 p2 p3 p4 p5 p6 p7 p8 : Prop} (h0 : p0) (h1 : p1) (h2 : p2) (h3 : p3) (h4 : p4) (h5 : p5) (h6 : p6) (h7 : p7) (h8 : p8) : Go.RowKit.Hid (p0 ∧ p1 ∧ p2 ∧ p3 ∧ p4 ∧ p5 ∧ p6 ∧ p7 ∧ p8) := Lib.hid ⟨h0, h1, h2, h3, h4, h5, h6, h7, h8⟩
theorem hdq10 {p0 p1 p2 p3 p4 p5 p6 p7 p8 p9 : Prop} (h0 : p0) (h1 : p1) (h2 : p2) (h3 : p3) (h4 : p4) (h5 : p5) (h6 : p6) (h7 : p7) (h8 : p8) (h9 : p9) : Go.RowKit.Hid (p0 ∧ p1 ∧ p2 ∧ p3 ∧ p4 ∧ p5 ∧ p6 ∧ p7 ∧ p8 ∧ p9) := Lib.hid ⟨h0, h1, h2, h3, h4, h5, h6, h7, h8, h9⟩
theorem hdq11 {p0 p1 p2 p3 p4 p5 p6 p7 p8 p9 p10 : Prop} (h0 : p0) (h1 : p1) (h2 : p2) (h3 : p3) (h4 : p4) (h5 : p5) (h6 : p6) (h7 : p7) (h8 : p8) (h9 : p9) (h10 : p10) : Go.RowKit.Hid (p0 ∧ p1 ∧ p2 ∧ p3 ∧ p4 ∧ p5 ∧ p6 ∧ p7 ∧ p8 ∧ p9 ∧ p10) := Lib.hid ⟨h0, h1, h2, h3, h4, h5, h6, h7, h8, h9, h10⟩
theorem hdq12 {p0 p1 p2 p3 p4 p5 p6 p7 p8 p9 p10 p11 : Prop} (h0 : p0) (h1 : p1) (h2 : p2) (h3 : p3) (h4 : p4) (h5 : p5) (h6 : p6) (h7 : p7) (h8 : p8) (h9 : p9) (h10 : p10) (h11 : p11) : Go.RowKit.Hid (p0 ∧ p1 ∧ p2 ∧ p3 ∧ p4 ∧ p5 ∧ p6 ∧ p7 ∧ p8 ∧ p9 ∧ p10 ∧ p11) := Lib.hid ⟨h0, h1, h2, h3, h4, h5, h6, h7, h8, h9, h10, h11⟩
end Go.Proofs.Ytmihijlegacjdaa
