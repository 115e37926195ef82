/- What layer 12's walks import of the library. -/
import Derived.WalkKit
import Derived.Outline
import Derived.Deep.Cut
import Derived.Deep.DeepCutAuto
import Derived.Deep.RegionLaw
import Derived.Deep.RegionHeld3
import Derived.BigQuiet
import Derived.StillTailTactics
import Derived.RegionTactic
import Derived.Laws.Tables
import Derived.Lib.Hide
set_option linter.unusedVariables false
set_option linter.unusedSimpArgs false
set_option maxRecDepth 100000
set_option maxHeartbeats 200000
namespace Go.Proofs.YtmiijlecfiddmaaGreat
end Go.Proofs.YtmiijlecfiddmaaGreat
namespace Go.Proofs.YtmiijlecfiddmaaGreat
open Go.RowKit
theorem lpq : (∀ (a : Go.Act) (t : Tmp) (v : Value), a.put (some t) v = { a with tmps := a.tmps.setIfInBounds t v }) ∧ (∀ (a : Go.Act) (v : Value), a.put none v = a) ∧ (∀ (α : Type) (l : List α) (i : Nat) (x : α), l.toArray.setIfInBounds i x = (l.set i x).toArray) ∧ (∀ (α : Type) (a b : α) (l : List α), (a :: l).set 0 b = b :: l) ∧ (∀ (α : Type) (a b : α) (l : List α) (n : Nat), (a :: l).set (n + 1) b = a :: l.set n b) :=
  ⟨fun _ _ _ => rfl, fun _ _ => rfl, fun _ _ _ _ => List.setIfInBounds_toArray .., fun _ _ _ _ => rfl, fun _ _ _ _ _ => rfl⟩
theorem opq {ops : Array Oper} {i : Nat} {oi : Oper} (h : (ops.toList.drop i).head? = some oi) : ops[i]? = some oi := by
  rw [List.head?_drop] at h
  simpa using h
theorem bpq {P : Program} {fn : Func} {R : Ending → World → Prop} {a : Go.Act} {w : World} {x : Exit} (h : R (.returned (.tuple #[])) w) (hx : x = .ret ∨ x = .normal := by first | exact .inl rfl | exact .inr rfl) (hf : fn.results = #[] := by rfl) (hd : a.defers = [] := by rfl) : bodyPost P fn R x a w := by
  rcases hx with rfl | rfl
  · exact bodyPost_ret (results_none hf _ _ _) hd h
  · exact bodyPost_end (results_none hf _ _ _) hd h
theorem exq {α : Sort _} (a : α) : ∃ b, a = b := ⟨a, rfl⟩
theorem tkq {P : Program} {ops : Array Oper} {Q : Exit → Go.Act → World → Prop} {md : Region.Mode} {S : World → Prop} {fuel : Nat} {listed L : Array Bool} {a b : Go.Act} {w : World} {oi : Oper} {v : Value} (i : Nat) (h : wpAnyH P md ops Q S fuel L b w)
    (hi : (ops.toList.drop i).head? = some oi := by rfl) (hs : Region.noSelect ops = true := by kernel_rfl) (hf : Region.free md ops listed i = true := by kernel_rfl) (hr : (Region.ready md ops listed).contains i = true := by kernel_rfl) (hw : Region.wanted oi (yielded ops a.tmps) = true := by rfl) (hy : ∀ w, S w → (execOp a.eval oi).run P w = .ok (.value v) w := by (intro w h; (try dsimp only at h); go_simp); (try with_reducible rfl)) (ha : a.put oi.dst v = b := by first | (simp only [lpq]; rfl) | (simp only [lpq]; done) | rfl) (hL : listed.setIfInBounds i true = L := by first | (simp only [lpq]; rfl) | (simp only [lpq]; done) | rfl) (hS : S w := by assumption) (hQ : ∀ c a w, Q (.panic c) (a.put oi.dst v) w → Q (.panic c) a w := by exact fun _ _ _ h => h) : wpAnyH P md ops Q S (fuel + 1) listed a w :=
  wpAnyH_take (opq hi) hs hf hr hQ (Or.inl ⟨hw, hy⟩) hS (by rw [ha, hL]; exact h)
theorem tuq {P : Program} {ops : Array Oper} {Q : Exit → Go.Act → World → Prop} {md : Region.Mode} {S : World → Prop} {fuel : Nat} {listed L : Array Bool} {a b : Go.Act} {w : World} {oi : Oper} (i : Nat) (h : wpAnyH P md ops Q S fuel L b w)
    (hi : (ops.toList.drop i).head? = some oi := by rfl) (hs : Region.noSelect ops = true := by kernel_rfl) (hf : Region.free md ops listed i = true := by kernel_rfl) (hr : (Region.ready md ops listed).contains i = true := by kernel_rfl) (hw : Region.wanted oi (yielded ops a.tmps) = false := by rfl) (ha : a.put oi.dst undef = b := by first | (simp only [lpq]; rfl) | (simp only [lpq]; done) | rfl) (hL : listed.setIfInBounds i true = L := by first | (simp only [lpq]; rfl) | (simp only [lpq]; done) | rfl) (hS : S w := by assumption) (hQ : ∀ c a w, Q (.panic c) (a.put oi.dst undef) w → Q (.panic c) a w := by exact fun _ _ _ h => h) : wpAnyH P md ops Q S (fuel + 1) listed a w :=
  wpAnyH_take (opq hi) hs hf hr hQ (Or.inr ⟨hw, rfl⟩) hS (by rw [ha, hL]; exact h)
theorem rdq1 {P : Program} {ops : Array Oper} {Q : Exit → Go.Act → World → Prop} {md : Region.Mode} {S : World → Prop} {fuel : Nat} {listed L : Array Bool} {a : Go.Act} {w : World} {oi : Oper} (i : Nat) (hi : (∀ K : Go.Act → World → Prop, Go.Shut (∀ a w, S w → (S w → wpAnyH P md ops Q S fuel L a w) → K a w) → if Region.wanted oi (yielded ops a.tmps) = true then Oper.wp P oi a w K Q else K (a.put oi.dst undef) w))
    (ui : (ops.toList.drop i).head? = some oi := by rfl) (hr : Region.ready md ops listed = [i] := by kernel_rfl) (li : listed.setIfInBounds i true = L := by first | (simp only [lpq]; rfl) | (simp only [lpq]; done) | rfl) : wpAnyH P md ops Q S (fuel + 1) listed a w :=
  wpAnyH_ready hr (by simp) (AllReadyH.cons (opq ui) (fun K hK => hi K (by rw [← li]; exact hK)) (AllReadyH.nil))
theorem rdq2 {P : Program} {ops : Array Oper} {Q : Exit → Go.Act → World → Prop} {md : Region.Mode} {S : World → Prop} {fuel : Nat} {listed L L2 : Array Bool} {a : Go.Act} {w : World} {oi oj : Oper} (i j : Nat) (hi : (∀ K : Go.Act → World → Prop, Go.Shut (∀ a w, S w → (S w → wpAnyH P md ops Q S fuel L a w) → K a w) → if Region.wanted oi (yielded ops a.tmps) = true then Oper.wp P oi a w K Q else K (a.put oi.dst undef) w)) (hj : (∀ K : Go.Act → World → Prop, Go.Shut (∀ a w, S w → (S w → wpAnyH P md ops Q S fuel L2 a w) → K a w) → if Region.wanted oj (yielded ops a.tmps) = true then Oper.wp P oj a w K Q else K (a.put oj.dst undef) w))
    (ui : (ops.toList.drop i).head? = some oi := by rfl) (uj : (ops.toList.drop j).head? = some oj := by rfl) (hr : Region.ready md ops listed = [i, j] := by kernel_rfl) (li : listed.setIfInBounds i true = L := by first | (simp only [lpq]; rfl) | (simp only [lpq]; done) | rfl) (lj : listed.setIfInBounds j true = L2 := by first | (simp only [lpq]; rfl) | (simp only [lpq]; done) | rfl) : wpAnyH P md ops Q S (fuel + 1) listed a w :=
  wpAnyH_ready hr (by simp) (AllReadyH.cons (opq ui) (fun K hK => hi K (by rw [← li]; exact hK)) (AllReadyH.cons (opq uj) (fun K hK => hj K (by rw [← lj]; exact hK)) (AllReadyH.nil)))
theorem dnq {P : Program} {ops : Array Oper} {Q : Exit → Go.Act → World → Prop} {md : Region.Mode} {S : World → Prop} {n : Nat} {listed : Array Bool} {a : Go.Act} {w : World} (h : Q .normal a w) (hr : Region.ready md ops listed = [] := by kernel_rfl) : wpAnyH P md ops Q S n listed a w := wpAnyH_done hr h n
theorem rpq (ops : Array Oper) : Array.replicate ops.size false = (List.replicate ops.toList.length false).toArray := by cases ops; simp
theorem lsq {P : Program} {ops : Array Oper} {Q : Exit → Go.Act → World → Prop} {md : Region.Mode} {S : World → Prop} {m : Nat} {M L : Array Bool} {a : Go.Act} {w : World} (n : Nat) (h : wpAnyH P md ops Q S n L a w) (hn : m = n := by rfl) (hL : M = L := by first | (simp only [rpq, List.replicate]; rfl) | rfl) : wpAnyH P md ops Q S m M a w := by subst hn hL; exact h
theorem hdq2 {p0 p1 : Prop} (h0 : p0) (h1 : p1) : Go.RowKit.Hid (p0 ∧ p1) := Lib.hid ⟨h0, h1⟩
theorem hdq3 {p0 p1 p2 : Prop} (h0 : p0) (h1 : p1) (h2 : p2) : Go.RowKit.Hid (p0 ∧ p1 ∧ p2) := Lib.hid ⟨h0, h1, h2⟩
theorem hdq4 {p0 p1 p2 p3 : Prop} (h0 : p0) (h1 : p1) (h2 : p2) (h3 : p3) : Go.RowKit.Hid (p0 ∧ p1 ∧ p2 ∧ p3) := Lib.hid ⟨h0, h1, h2, h3⟩
theorem hdq5 {p0 p1 p2 p3 p4 : Prop} (h0 : p0) (h1 : p1) (h2 : p2) (h3 : p3) (h4 : p4) : Go.RowKit.Hid (p0 ∧ p1 ∧ p2 ∧ p3 ∧ p4) := Lib.hid ⟨h0, h1, h2, h3, h4⟩
theorem hdq6 {p0 p1 p2 p3 p4 p5 : Prop} (h0 : p0) (h1 : p1) (h2 : p2) (h3 : p3) (h4 : p4) (h5 : p5) : Go.RowKit.Hid (p0 ∧ p1 ∧ p2 ∧ p3 ∧ p4 ∧ p5) := Lib.hid ⟨h0, h1, h2, h3, h4, h5⟩
theorem hdq7 {p0 p1 p2 p3 p4 p5 p6 : Prop} (h0 : p0) (h1 : p1) (h2 : p2) (h3 : p3) (h4 : p4) (h5 : p5) (h6 : p6) : Go.RowKit.Hid (p0 ∧ p1 ∧ p2 ∧ p3 ∧ p4 ∧ p5 ∧ p6) := Lib.hid ⟨h0, h1, h2, h3, h4, h5, h6⟩
theorem hdq8 {p0 p1 p2 p3 p4 p5 p6 p7 : Prop} (h0 : p0) (h1 : p1) (h2 : p2) (h3 : p3) (h4 : p4) (h5 : p5) (h6 : p6) (h7 : p7) : Go.RowKit.Hid (p0 ∧ p1 ∧ p2 ∧ p3 ∧ p4 ∧ p5 ∧ p6 ∧ p7) := Lib.hid ⟨h0, h1, h2, h3, h4, h5, h6, h7⟩
theorem hdq9 {p0 p1 p2 p3 p4 p5 p6 p7 p8 : Prop} (h0 : p0) (h1 : p1) (h2 : p2) (h3 : p3) (h4 : p4) (h5 : p5) (h6 : p6) (h7 : p7) (h8 : p8) : Go.RowKit.Hid (p0 ∧ p1 ∧ p2 ∧ p3 ∧ p4 ∧ p5 ∧ p6 ∧ p7 ∧ p8) := Lib.hid ⟨h0, h1, h2, h3, h4, h5, h6, h7, h8⟩
theorem hdq10 {p0 p1 p2 p3 p4 p5 p6 p7 p8 p9 : Prop} (h0 : p0) (h1 : p1) (h2 : p2) (h3 : p3) (h4 : p4) (h5 : p5) (h6 : p6) (h7 : p7) (h8 : p8) (h9 : p9) : Go.RowKit.Hid (p0 ∧ p1 ∧ p2 ∧ p3 ∧ p4 ∧ p5 ∧ p6 ∧ p7 ∧ p8 ∧ p9) := Lib.hid ⟨h0, h1, h2, h3, h4, h5, h6, h7, h8, h9⟩
theorem hdq11 {p0 p1 p2 p3 p4 p5 p6 p7 p8 p9 p10 : Prop} (h0 : p0) (h1 : p1) (h2 : p2) (h3 : p3) (h4 : p4) (h5 : p5) (h6 : p6) (h7 : p7) (h8 : p8) (h9 : p9) (h10 : p10) : Go.RowKit.Hid (p0 ∧ p1 ∧ p2 ∧ p3 ∧ p4 ∧ p5 ∧ p6 ∧ p7 ∧ p8 ∧ p9 ∧ p10) := Lib.hid ⟨h0, h1, h2, h3, h4, h5, h6, h7, h8, h9, h10⟩
theorem hdq12 {p0 p1 p2 p3 p4 p5 p6 p7 p8 p9 p10 p11 : Prop} (h0 : p0) (h1 : p1) (h2 : p2) (h3 : p3) (h4 : p4) (h5 : p5) (h6 : p6) (h7 : p7) (h8 : p8) (h9 : p9) (h10 : p10) (h11 : p11) : Go.RowKit.Hid (p0 ∧ p1 ∧ p2 ∧ p3 ∧ p4 ∧ p5 ∧ p6 ∧ p7 ∧ p8 ∧ p9 ∧ p10 ∧ p11) := Lib.hid ⟨h0, h1, h2, h3, h4, h5, h6, h7, h8, h9, h10, h11⟩
theorem hlq {w : World} {k : Nat} {o : Obj} (h : w.heap[k]? = some o) : k < w.heap.size := (Array.getElem?_eq_some_iff.1 h).1
theorem nlq {n : Nat} : n ≤ n := Nat.le_refl n
theorem blq {B : Nat} {w : World} : Below B w w := Below.refl B w
theorem bbr {B : Nat} {w W : World} (h : Below B w W := by repeat (first | exact blq | apply Below.drew | refine Below.alloc ?_ (by simp) _)) : Below B w W := h
end Go.Proofs.YtmiijlecfiddmaaGreat
set_option linter.unusedVariables false
set_option linter.unusedSimpArgs false
set_option maxRecDepth 100000
set_option maxHeartbeats 200000
namespace Go.Proofs.YtmiijlecfiddmaaGreat
end Go.Proofs.YtmiijlecfiddmaaGreat
set_option linter.unusedVariables false
set_option linter.unusedSimpArgs false
set_option maxRecDepth 100000
set_option maxHeartbeats 200000
namespace Go.Proofs.YtmiijlecfiddmaaGreat
def numB (n : Int) : Bool := decide (1 <= n) && decide (n <= 1099511627776)
def qat (i t : Int) (d : Nat) : Bool := numB i && numB t && decide (d <= 12000)
def qcO (t v : Int) : Bool := decide (0 <= t) && (decide (t <= 1099511627776) && (decide (-1 <= v) && decide (v <= 2)))
def qak (i t : Int) (d : Nat) : Bool := if i = 0 /\ t = 0 then decide (d = 0) else numB i && numB t && decide (d <= 50000)
structure Ent where
 i : Int
 t : Int
 d : List UInt8
def qbD (i : Int) (l : List Ent) (k : Nat) : Int := if k = 0 then i else (l[k - 1]?.map Ent.i).getD 0
def qbE (t : Int) (l : List Ent) (k : Nat) : Int := if k = 0 then t else (l[k - 1]?.map Ent.t).getD 0
def qaT (i t : Int) (l : List Ent) (k : Nat) : Bool :=
 match l[k]? with
 | none => false
 | some e => qat e.i e.t e.d.length && (decide (qbE t l k <= e.t) && decide (e.i = qbD i l k + 1))
def runB (i t : Int) (l : List Ent) : Bool := (List.range l.length).all (qaT i t l)
theorem qdN {i t : Int} {l : List Ent} (k : Nat) (hk : k < l.length) (h : qaT i t l k = false) : runB i t l = false := by
 cases hr : runB i t l with
 | false => rfl
 | true =>
   have := List.all_eq_true.1 hr k (List.mem_range.2 hk);rw [h] at this;cases this
theorem qjc {i t : Int} {l : List Ent} (h : ∀ k,k < l.length -> qaT i t l k = true) : runB i t l = true :=
 List.all_eq_true.2 fun k hk => h k (List.mem_range.1 hk)
theorem qeS (i t : Int) (l : List Ent) (k : Nat) (hk : k < l.length) : qaT i t l k = (qat l[k].i l[k].t l[k].d.length && (decide (qbE t l k <= l[k].t) && decide (l[k].i = qbD i l k + 1))) := by
 unfold qaT;rw [List.getElem?_eq_getElem hk]
theorem qd4 (i t : Int) (l : List Ent) (k : Nat) (hk : k < l.length) : qbD i l (k + 1) = l[k].i /\ qbE t l (k + 1) = l[k].t := by
 simp [qbD,qbE,List.getElem?_eq_getElem hk]
theorem qy (i t : Int) (d : Nat) : qat i t d = true ↔ (1 <= i /\ i <= 1099511627776) /\ (1 <= t /\ t <= 1099511627776) /\ d <= 12000 := by
 simp [qat,numB,and_assoc]
end Go.Proofs.YtmiijlecfiddmaaGreat
set_option linter.unusedVariables false
set_option linter.unusedSimpArgs false
set_option maxRecDepth 100000
set_option maxHeartbeats 200000
namespace Go.Proofs.YtmiijlecfiddmaaGreat
structure RL where
 i : Int
 t : Int
 l : List Ent
 f : Int
namespace RL
def base (i t : Int) : Bool := decide (0 <= i) && (decide (i <= 1099511627776) && (decide (0 <= t) && decide (t <= 1099511627776)))
def lastI (r : RL) : Int := match r.l.getLast? with | none => r.i | some e => e.i
def lastT (r : RL) : Int := match r.l.getLast? with | none => r.t | some e => e.t
def at_ (r : RL) (x : Int) : Option Int := if x = r.i then some r.t else (r.l.find? fun e => decide (e.i = x)).map Ent.t
def newer (r : RL) (i t : Int) : Bool := decide (r.lastT < t) || (decide (t = r.lastT) && decide (r.lastI <= i))
def fromL (r : RL) (x many : Int) : List Ent := if r.at_ x = none \/ x = r.i then [] else (r.l.filter fun e => decide (x <= e.i)).take many.toNat
def changed (r : RL) : List Ent := r.l.filter fun e => decide (0 < r.f) && decide (r.f <= e.i)
def mark (r : RL) (x : Int) : RL := if r.f = 0 \/ x < r.f then { r with f := x } else r
def add (r : RL) (t : Int) (d : List UInt8) : Option RL :=
 if runB r.lastI r.lastT [⟨r.lastI + 1,t,d⟩] = true then some (({ r with l := r.l ++ [⟨r.lastI + 1,t,d⟩] } : RL).mark (r.lastI + 1)) else none
def compact (r : RL) (x : Int) : Option RL := (r.at_ x).map fun t => ⟨x,t,r.l.filter fun e => decide (x < e.i),r.f⟩
end RL
theorem qhu {r : RL} (h : r.l = []) : r.lastI = r.i /\ r.lastT = r.t := by simp [RL.lastI,RL.lastT,h]
theorem qhv {r : RL} (h : 0 < r.l.length) : r.lastI = (r.l[r.l.length - 1]'(by omega)).i /\ r.lastT = (r.l[r.l.length - 1]'(by omega)).t := by
 have e : r.l.getLast? = some (r.l[r.l.length - 1]'(by omega)) := by rw [List.getLast?_eq_getElem?,List.getElem?_eq_getElem]
 simp [RL.lastI,RL.lastT,e]
theorem qhw {l : List Ent} {x : Int} {k : Nat} (hk : k < l.length) (h : ∀ j (hj : j < l.length),j < k -> l[j].i ≠ x) (he : l[k].i = x) : (l.find? fun e => decide (e.i = x)) = some l[k] := by
 have hs : l = l.take k ++ l[k] :: l.drop (k + 1) := by rw [<- List.drop_eq_getElem_cons hk,List.take_append_drop]
 have hn : ((l.take k).find? fun e => decide (e.i = x)) = none := by
  rw [List.find?_eq_none];intro e hmem;obtain ⟨j,hj,rfl⟩ := List.getElem_of_mem hmem
  have hjk : j < k := by simp at hj; omega
  have := h j (by omega) hjk
  simpa [List.getElem_take] using this
 have hf : ((l.take k ++ l[k] :: l.drop (k + 1)).find? fun e => decide (e.i = x)) = some l[k] := by
  rw [List.find?_append,hn,List.find?_cons_of_pos (by simpa using he)]
  rfl
 rwa [<- hs] at hf
theorem qhx {l : List Ent} {x : Int} (h : ∀ j (hj : j < l.length),l[j].i ≠ x) : (l.find? fun e => decide (e.i = x)) = none := by
 rw [List.find?_eq_none];intro e hmem;obtain ⟨j,hj,rfl⟩ := List.getElem_of_mem hmem
 simpa using h j hj
end Go.Proofs.YtmiijlecfiddmaaGreat
set_option linter.unusedVariables false
set_option linter.unusedSimpArgs false
set_option maxRecDepth 100000
set_option maxHeartbeats 200000
namespace Go.Proofs.YtmiijlecfiddmaaGreat
theorem qgJ (i t : Int) (e : Ent) (l : List Ent) (k : Nat) : qaT i t (e :: l) (k + 1) = qaT e.i e.t l k := by
 unfold qaT qbE qbD;rw [List.getElem?_cons_succ]
 cases l[k]? with
 | none => rfl
 | some x =>
   cases k with
   | zero => simp
   | succ k => simp
theorem qaL (i t : Int) (e : Ent) (l : List Ent) : runB i t (e :: l) = ((qat e.i e.t e.d.length && (decide (t <= e.t) && decide (e.i = i + 1))) && runB e.i e.t l) := by
 unfold runB;rw [List.length_cons,List.range_succ_eq_map,List.all_cons,List.all_map]
 congr 1
 apply congrArg
 funext k
 exact qgJ i t e l k
theorem qc6 (i t : Int) : runB i t [] = true := rfl
theorem qc7 {i t : Int} {e : Ent} {l : List Ent} (h : runB i t (e :: l) = true) : qat e.i e.t e.d.length = true /\ t <= e.t /\ e.i = i + 1 /\ runB e.i e.t l = true := by
 rw [qaL] at h;simp only [Bool.and_eq_true,decide_eq_true_eq] at h;exact ⟨h.1.1,h.1.2.1,h.1.2.2,h.2⟩
def endI (i : Int) (l : List Ent) : Int := match l.getLast? with | none => i | some e => e.i
def endT (t : Int) (l : List Ent) : Int := match l.getLast? with | none => t | some e => e.t
theorem qd5 (i : Int) (e : Ent) (l : List Ent) : endI i (e :: l) = endI e.i l := by
 unfold endI;rw [List.getLast?_cons]
 cases l.getLast? <;> rfl
theorem qbF (t : Int) (e : Ent) (l : List Ent) : endT t (e :: l) = endT e.t l := by
 unfold endT;rw [List.getLast?_cons]
 cases l.getLast? <;> rfl
theorem qhy (r : RL) : r.lastT = endT r.t r.l := rfl
theorem qbR (a : List Ent) : ∀ (i t : Int) (b : List Ent),runB i t (a ++ b) = (runB i t a && runB (endI i a) (endT t a) b) := by
 induction a with
 | nil => intro i t b; rfl
 | cons e a ih =>
   intro i t b;rw [List.cons_append,qaL,qaL,ih,qd5,qbF,Bool.and_assoc (_ && _)]
theorem qae {i t : Int} {l : List Ent} (h : runB i t l = true) (k : Nat) : runB i t (l.take k) = true /\ runB (endI i (l.take k)) (endT t (l.take k)) (l.drop k) = true := by
 rw [<- List.take_append_drop k l,qbR,Bool.and_eq_true] at h;exact h
theorem qbn {l : List Ent} : ∀ {i t : Int},runB i t l = true -> ∀ (k : Nat) (hk : k < l.length),l[k].i = i + 1 + k := by
 induction l with
 | nil => intro i t _ k hk; simp at hk
 | cons e l ih =>
   intro i t h k hk;obtain ⟨_,_,h3,h4⟩ := qc7 h
   cases k with
   | zero => simpa using h3
   | succ k =>
     have := ih h4 k (by simpa using hk);simp only [List.getElem_cons_succ];omega
theorem qR {l : List Ent} : ∀ {i t : Int},runB i t l = true -> ∀ e ∈ l,qat e.i e.t e.d.length = true := by
 induction l with
 | nil => intro i t _ e he; simp at he
 | cons x l ih =>
   intro i t h e he;obtain ⟨h1,_,_,h4⟩ := qc7 h;rcases List.mem_cons.1 he with rfl | he
   · exact h1
   · exact ih h4 e he
theorem run_end {l : List Ent} : ∀ {i t : Int},runB i t l = true -> endI i l = i + l.length /\ t <= endT t l := by
 induction l with
 | nil => intro i t _; simp [endI,endT]
 | cons e l ih =>
   intro i t h;obtain ⟨_,h2,h3,h4⟩ := qc7 h;obtain ⟨a,b⟩ := ih h4;rw [qd5,qbF,List.length_cons]
   constructor <;> omega
theorem qgp {i t : Int} {l : List Ent} (h : runB i t l = true) (h0 : 0 < l.length) : 0 <= i /\ i + l.length <= 1099511627776 := by
 have a := qbn h 0 h0;have b := qbn h (l.length - 1) (by omega);have c := (qy _ _ _).1 (qR h _ (List.getElem_mem h0));have d := (qy _ _ _).1 (qR h _ (List.getElem_mem (show l.length - 1 < l.length by omega)));omega
theorem qb3 (i t : Int) : RL.base i t = true ↔ (0 <= i /\ i <= 1099511627776) /\ 0 <= t /\ t <= 1099511627776 := by
 simp [RL.base,and_assoc]
def qX (i : Int) (l : List Ent) : Prop := ∀ (k : Nat) (hk : k < l.length),l[k].i = i + 1 + k
theorem qeT {i : Int} {e : Ent} {l : List Ent} (h : qX i (e :: l)) : e.i = i + 1 /\ qX (i + 1) l :=
 ⟨by have h0 : e.i = i + 1 + ((0 : Nat) : Int) := h 0 (by simp); omega,fun k hk => by have h0 : l[k].i = i + 1 + ((k + 1 : Nat) : Int) := h (k + 1) (by simpa using hk); omega⟩
theorem qbG {l : List Ent} : ∀ {i : Int},qX i l -> ∀ x : Int,(l.filter fun e => decide (x <= e.i)) = l.drop (x - i - 1).toNat := by
 induction l with
 | nil => intro i _ x; simp
 | cons e l ih =>
   intro i h x;obtain ⟨h1,h2⟩ := qeT h;have := ih h2 x
   by_cases hx : x <= e.i
   · rw [List.filter_cons_of_pos (by simpa using hx),this,show (x - (i + 1) - 1).toNat = 0 by omega,show (x - i - 1).toNat = 0 by omega]
     rfl
   · rw [List.filter_cons_of_neg (by simpa using hx),this,show (x - i - 1).toNat = (x - (i + 1) - 1).toNat + 1 by omega]
     rfl
theorem qhz {l : List Ent} {i : Int} (h : qX i l) (x : Int) : (l.filter fun e => decide (x < e.i)) = l.drop (x - i).toNat := by
 have := qbG h (x + 1);rw [show x + 1 - i - 1 = x - i by omega] at this;rw [<- this]
 apply congrArg (fun p => List.filter p l)
 funext e
 apply decide_eq_decide.2
 omega
theorem filter_lt {l : List Ent} : ∀ {i : Int},qX i l -> ∀ x : Int,(l.filter fun e => decide (e.i < x)) = l.take (x - i - 1).toNat := by
 induction l with
 | nil => intro i _ x; simp
 | cons e l ih =>
   intro i h x;obtain ⟨h1,h2⟩ := qeT h;have := ih h2 x
   by_cases hx : e.i < x
   · rw [List.filter_cons_of_pos (by simpa using hx),this,show (x - i - 1).toNat = (x - (i + 1) - 1).toNat + 1 by omega]
     rfl
   · rw [List.filter_cons_of_neg (by simpa using hx),this,show (x - (i + 1) - 1).toNat = 0 by omega,show (x - i - 1).toNat = 0 by omega]
     rfl
structure Good (r : RL) : Prop where
 base : RL.base r.i r.t = true
 run : runB r.i r.t r.l = true
section
variable {r : RL}
theorem Good.one (h : Good r) : qX r.i r.l := fun k hk => qbn h.run k hk
theorem Good.lim (h : Good r) : 0 <= r.i /\ r.i + r.l.length <= 1099511627776 := by
 have hb := (qb3 _ _).1 h.base;rcases Nat.eq_zero_or_pos r.l.length with h0 | h0
 · rw [h0]; omega
 · have := qgp h.run h0;omega
theorem Good.lastI (h : Good r) : r.lastI = r.i + r.l.length := (run_end h.run).1
def RL.place (r : RL) (x : Int) : Option Nat := if r.i < x /\ x <= r.i + r.l.length then some (x - r.i - 1).toNat else none
theorem Good.at_ (h : Good r) (x : Int) : r.at_ x = if x = r.i then some r.t else (r.place x).bind fun k => r.l[k]?.map Ent.t := by
 unfold RL.at_
 by_cases hx : x = r.i
 · rw [if_pos hx,if_pos hx]
 · rw [if_neg hx,if_neg hx];unfold RL.place
   by_cases hp : r.i < x /\ x <= r.i + r.l.length
   · rw [if_pos hp]
     have hk : (x - r.i - 1).toNat < r.l.length := by omega
     have hf := qhw (l := r.l) (x := x) (k := (x - r.i - 1).toNat) hk (fun j hj hjk => by rw [h.one j hj]; omega) (by rw [h.one _ hk]; omega);rw [hf];simp only [Option.bind_some,List.getElem?_eq_getElem hk,Option.map_some]
   · rw [if_neg hp];have hf := qhx (l := r.l) (x := x) (fun j hj => by rw [h.one j hj]; omega);rw [hf]
     rfl
theorem Good.at_some (h : Good r) {x t : Int} (hs : r.at_ x = some t) : r.i <= x /\ x <= r.i + r.l.length /\ endI r.i (r.l.take (x - r.i).toNat) = x /\ endT r.t (r.l.take (x - r.i).toNat) = t := by
 rw [h.at_] at hs
 by_cases hx : x = r.i
 · rw [if_pos hx] at hs;injection hs with hs;subst hx
   have e : (r.i - r.i).toNat = 0 := by omega
   rw [e,List.take_zero];exact ⟨by omega,by omega,rfl,hs⟩
 · rw [if_neg hx] at hs;unfold RL.place at hs
   by_cases hp : r.i < x /\ x <= r.i + r.l.length
   · rw [if_pos hp] at hs
     have hk : (x - r.i - 1).toNat < r.l.length := by omega
     have e : (x - r.i).toNat = (x - r.i - 1).toNat + 1 := by omega
     have hl : (r.l.take (x - r.i).toNat).getLast? = some r.l[(x - r.i - 1).toNat] := by
      rw [e,List.take_succ_eq_append_getElem hk,List.getLast?_append]
      rfl
     simp only [Option.bind_some,List.getElem?_eq_getElem hk,Option.map_some,Option.some.injEq] at hs;refine ⟨by omega,hp.2,?_,?_⟩
     · unfold endI;rw [hl];show r.l[(x - r.i - 1).toNat].i = x;rw [h.one _ hk];omega
     · unfold endT;rw [hl];exact hs
   · rw [if_neg hp] at hs;cases hs
def RL.sub (r : RL) (x : Int) (m : Nat) : List Ent := match r.place x with | none => [] | some k => (r.l.drop k).take m
theorem sub_zero (r : RL) (x : Int) : r.sub x 0 = [] := by
 unfold RL.sub
 cases r.place x <;> simp
theorem qjd {x : Int} {m : Nat} (h : r.place x = none) : r.sub x m = [] := by
 unfold RL.sub;rw [h]
theorem qje {x : Int} {m k : Nat} (h : r.place x = some k) : r.sub x m = (r.l.drop k).take m := by
 unfold RL.sub;rw [h]
theorem Good.from_ (h : Good r) (x many : Int) : r.fromL x many = r.sub x many.toNat := by
 unfold RL.fromL RL.sub;have ha := h.at_ x
 by_cases hx : x = r.i
 · rw [if_pos (.inr hx)];unfold RL.place;rw [if_neg (by omega)]
 · rw [if_neg hx] at ha;unfold RL.place at ha ⊢
   by_cases hp : r.i < x /\ x <= r.i + r.l.length
   · rw [if_pos hp] at ha ⊢
     have hk : (x - r.i - 1).toNat < r.l.length := by omega
     simp only [Option.bind_some,List.getElem?_eq_getElem hk,Option.map_some] at ha;rw [if_neg (by rw [ha]; simp [hx]),qbG h.one]
   · rw [if_neg hp] at ha ⊢;rw [if_pos (.inl ha)]
def frel (r : RL) (s : Nat) : Prop := (r.f = 0 /\ s = r.l.length) \/ (1 <= r.f /\ r.f <= r.i + r.l.length /\ s = (r.f - r.i - 1).toNat)
theorem qgq {s : Nat} (h : frel r s) (hg : Good r) : s <= r.l.length := by
 have := hg.lim
 rcases h with h | h <;> omega
theorem Good.changed (h : Good r) {s : Nat} (hs : frel r s) : r.changed = r.l.drop s := by
 unfold RL.changed;rcases hs with ⟨h1,h2⟩ | ⟨h1,h2,h3⟩
 · rw [h1,h2,List.drop_length];simp
 · rw [h3,<- qbG h.one]
   apply congrArg (fun p => List.filter p r.l)
   funext e
   rw [decide_eq_true (by omega : 0 < r.f),Bool.true_and]
theorem qbr (r : RL) (x : Int) : (r.mark x).l = r.l /\ (r.mark x).i = r.i /\ (r.mark x).t = r.t := by
 unfold RL.mark
 split <;> exact ⟨rfl,rfl,rfl⟩
theorem Good.mark (h : Good r) (x : Int) : Good (r.mark x) := by
 obtain ⟨a,b,c⟩ := qbr r x;exact ⟨by rw [b,c]; exact h.base,by rw [a,b,c]; exact h.run⟩
def RL.more (r : RL) (e : Ent) : RL := (⟨r.i,r.t,r.l ++ [e],r.f⟩ : RL).mark (r.lastI + 1)
theorem Good.more (h : Good r) {e : Ent} (hr : runB r.lastI r.lastT [e] = true) : Good (r.more e) :=
 Good.mark (r := ⟨r.i,r.t,r.l ++ [e],r.f⟩) ⟨h.base,by
  show runB r.i r.t (r.l ++ [e]) = true;rw [qbR,h.run,Bool.true_and]
  exact hr⟩ _
theorem qd6 (h : Good r) {s : Nat} (hs : frel r s) (e : Ent) : frel (r.more e) s := by
 have hl := h.lastI;have hlim := h.lim;unfold RL.more RL.mark;rcases hs with ⟨h1,h2⟩ | ⟨h1,h2,h3⟩
 · rw [if_pos (.inl h1)];refine .inr ⟨?_,?_,?_⟩
   · show 1 <= r.lastI + 1;omega
   · show r.lastI + 1 <= r.i + ((r.l ++ [e]).length : Nat);rw [List.length_append];simp only [List.length_singleton];omega
   · show s = (r.lastI + 1 - r.i - 1).toNat
     omega
 · rw [if_neg (by show ¬ (r.f = 0 \/ r.lastI + 1 < r.f); omega)];refine .inr ⟨h1,?_,h3⟩;show r.f <= r.i + ((r.l ++ [e]).length : Nat);rw [List.length_append];simp only [List.length_singleton];omega
def RL.cut (r : RL) (x t : Int) : RL := ⟨x,t,r.l.drop (x - r.i).toNat,r.f⟩
theorem Good.compact (h : Good r) {x t : Int} (hs : r.at_ x = some t) : r.compact x = some (r.cut x t) := by
 unfold RL.compact RL.cut;rw [hs,qhz h.one]
 rfl
theorem qjf (h : Good r) {s : Nat} (hs : frel r s) {x t : Int} (ha : r.at_ x = some t) : frel (r.cut x t) (s - (x - r.i).toNat) := by
 obtain ⟨h1,h2,_,_⟩ := h.at_some ha;unfold RL.cut;rcases hs with ⟨e1,e2⟩ | ⟨e1,e2,e3⟩
 · exact .inl ⟨e1,by rw [List.length_drop,e2]⟩
 · refine .inr ⟨e1,?_,?_⟩
   · show r.f <= x + ((r.l.drop (x - r.i).toNat).length : Nat);rw [List.length_drop];omega
   · show s - (x - r.i).toNat = (r.f - x - 1).toNat
     omega
end
def RL.has (r : RL) (e : Ent) : Bool := decide (r.at_ e.i = some e.t)
def RL.known (r : RL) (more : List Ent) : Nat := (more.takeWhile r.has).length
theorem qeU (r : RL) (more : List Ent) : r.known more <= more.length := by
 unfold RL.known;have h := List.takeWhile_append_dropWhile (p := r.has) (l := more);have := congrArg List.length h;rw [List.length_append] at this;omega
theorem qc8 (r : RL) {more : List Ent} {k : Nat} (hk : k <= more.length) (h1 : ∀ j (hj : j < more.length),j < k -> r.has more[j] = true) (h2 : ∀ (hj : k < more.length),r.has more[k] = false) : r.known more = k := by
 unfold RL.known
 induction more generalizing k with
 | nil => simp at hk; subst hk; rfl
 | cons e l ih =>
   cases k with
   | zero =>
     have := h2 (by simp);simp only [List.getElem_cons_zero] at this;rw [List.takeWhile_cons_of_neg (by rw [this]; simp)]
     rfl
   | succ k =>
     have h0 := h1 0 (by simp) (by omega);simp only [List.getElem_cons_zero] at h0;rw [List.takeWhile_cons_of_pos h0,List.length_cons]
     rw [ih (k := k) (by simpa using hk) (fun j hj hjk => by
      have := h1 (j + 1) (by simpa using hj) (by omega)
      simpa using this) (fun hj => by
      have := h2 (by simpa using hj)
      simpa using this)]
theorem qd7 (r : RL) {more : List Ent} : ∀ j (hj : j < more.length),j < r.known more -> r.has more[j] = true := by
 unfold RL.known
 induction more with
 | nil => intro j hj; simp at hj
 | cons e l ih =>
   intro j hj hjk
   cases hh : r.has e with
   | false => rw [List.takeWhile_cons_of_neg (by rw [hh]; simp)] at hjk; simp at hjk
   | true =>
     rw [List.takeWhile_cons_of_pos hh,List.length_cons] at hjk
     cases j with
     | zero => simpa using hh
     | succ j =>
       have := ih j (by simpa using hj) (by omega)
       simpa using this
theorem qhA (r : RL) {more : List Ent} (hk : r.known more < more.length) : r.has (more[r.known more]'hk) = false := by
 unfold RL.known at *
 induction more with
 | nil => simp at hk
 | cons e l ih =>
   cases hh : r.has e with
   | false =>
     simp only [List.takeWhile_cons_of_neg (p := r.has) (a := e) (l := l) (by rw [hh]; simp),List.length_nil,List.getElem_cons_zero];exact hh
   | true =>
     simp only [List.takeWhile_cons_of_pos (p := r.has) (a := e) (l := l) hh,List.length_cons] at hk ⊢
     simpa using ih (by omega)
def RL.retry (r : RL) (x : Int) : Int := if x <= r.i then r.i else min (x - 1) r.lastI
def RL.swap (r : RL) (more : List Ent) : RL :=
 match more with
 | [] => r
 | e :: l => (⟨r.i,r.t,(r.l.filter fun y => decide (y.i < e.i)) ++ e :: l,r.f⟩ : RL).mark e.i
def RL.take (r : RL) (x t : Int) (more : List Ent) : RL × Int × Bool :=
 if runB x t more = true then
  (if r.at_ x = some t then (r.swap (more.drop (r.known more)),x + more.length,true) else (r,r.retry x,false))
 else (r,0,false)
def RL.keep (r : RL) (more : List Ent) : Nat := match more with | [] => r.l.length | e :: _ => (e.i - r.i - 1).toNat
structure Joins (r : RL) (more : List Ent) : Prop where
 h0 : 0 < more.length
 lo : r.i < more[0].i
 hi : more[0].i <= r.i + r.l.length + 1
 run : runB (endI r.i (r.l.take (more[0].i - r.i - 1).toNat)) (endT r.t (r.l.take (more[0].i - r.i - 1).toNat)) more = true
theorem qeV (i t : Int) {l : List Ent} {k : Nat} (hk : k < l.length) : endI i (l.take (k + 1)) = l[k].i /\ endT t (l.take (k + 1)) = l[k].t := by
 have hl : (l.take (k + 1)).getLast? = some l[k] := by
  rw [List.take_succ_eq_append_getElem hk,List.getLast?_append]
  rfl
 unfold endI endT;rw [hl];exact ⟨rfl,rfl⟩
theorem Good.joins {r : RL} (h : Good r) {x t : Int} {more : List Ent} (hr : runB x t more = true) (ha : r.at_ x = some t) (hk : r.known more < more.length) : Joins r (more.drop (r.known more)) := by
 obtain ⟨a1,a2,a3,a4⟩ := h.at_some ha;have hidx := qbn hr;have hl : (more.drop (r.known more)).length = more.length - r.known more := List.length_drop
 have h0 : 0 < (more.drop (r.known more)).length := by omega
 have he : (more.drop (r.known more))[0] = more[r.known more] := by simp
 have hi := hidx _ hk;have hsp := (qae hr (r.known more)).2
 have hen : endI x (more.take (r.known more)) = x + r.known more := by
  have := (run_end (qae hr (r.known more)).1).1;rw [this,List.length_take];omega
 by_cases hz : r.known more = 0
 · refine ⟨h0,by rw [he]; omega,by rw [he]; omega,?_⟩;simp only [he];rw [show more[r.known more].i - r.i - 1 = x - r.i by omega,a3,a4,show more.drop (r.known more) = more by rw [hz]; rfl];exact hr
 · have hh := qd7 r (more := more) (r.known more - 1) (by omega) (by omega);unfold RL.has at hh;have hh := of_decide_eq_true hh;obtain ⟨b1,b2,b3,b4⟩ := h.at_some hh;have hj := hidx (r.known more - 1) (by omega)
   have he2 : endT t (more.take (r.known more)) = more[r.known more - 1].t := by
    have e := (qeV 0 t (l := more) (k := r.known more - 1) (by omega)).2;rw [show r.known more - 1 + 1 = r.known more by omega] at e;exact e
   refine ⟨h0,by rw [he]; omega,by rw [he]; omega,?_⟩;simp only [he];rw [show more[r.known more].i - r.i - 1 = more[r.known more - 1].i - r.i by omega,b3,b4,hj];rw [hen,he2] at hsp;rw [show x + 1 + ((r.known more - 1 : Nat) : Int) = x + r.known more by omega];exact hsp
theorem qeW {r : RL} (h : Good r) {more : List Ent} (j : Joins r more) : (r.swap more).l = r.l.take (r.keep more) ++ more /\ (r.swap more).i = r.i /\ (r.swap more).t = r.t := by
 match more,j with
 | [],j => exact absurd j.h0 (by simp)
 | e :: l,j =>
   unfold RL.swap RL.keep;obtain ⟨a,b,c⟩ := qbr (⟨r.i,r.t,(r.l.filter fun y => decide (y.i < e.i)) ++ e :: l,r.f⟩ : RL) e.i;refine ⟨?_,b,c⟩;rw [a];show (r.l.filter fun y => decide (y.i < e.i)) ++ e :: l = _;rw [filter_lt h.one]
theorem qcP {r : RL} {more : List Ent} (j : Joins r more) : r.keep more <= r.l.length /\ ((r.keep more : Nat) : Int) = (more[0]'j.h0).i - r.i - 1 := by
 match more,j with
 | [],j => exact absurd j.h0 (by simp)
 | e :: l,j =>
   have h1 := j.lo;have h2 := j.hi;unfold RL.keep;simp only [List.getElem_cons_zero] at *;omega
theorem qhB {r : RL} (h : Good r) {more : List Ent} (j : Joins r more) {s : Nat} (hs : frel r s) : frel (r.swap more) (min s (r.keep more)) := by
 obtain ⟨a,b,c⟩ := qeW h j;obtain ⟨k1,k2⟩ := qcP j;have hlo := j.lo;have hhi := j.hi;have hlim := h.lim
 have hlen : (r.swap more).l.length = r.keep more + more.length := by
  rw [a,List.length_append,List.length_take];omega
 have h0 := j.h0
 have hf : (r.swap more).f = if r.f = 0 \/ more[0].i < r.f then more[0].i else r.f := by
  match more,j with
  | [],j => exact absurd j.h0 (by simp)
  | e :: l,j =>
    unfold RL.swap RL.mark;simp only [List.getElem_cons_zero]
    split <;> rfl
 unfold frel;rw [hlen,b,hf];rcases hs with ⟨e1,e2⟩ | ⟨e1,e2,e3⟩
 · rw [if_pos (.inl e1)]
   right
   omega
 · by_cases hm : r.f = 0 \/ more[0].i < r.f
   · rw [if_pos hm]
     right
     omega
   · rw [if_neg hm]
     right
     omega
end Go.Proofs.YtmiijlecfiddmaaGreat
