/- What layer 12's walks import of the library. -/
import Derived.WalkKit
import Derived.Outline
import Derived.Deep.Cut
import Derived.Deep.DeepCutAuto
import Derived.Deep.RegionLaw
import Derived.Deep.RegionHeld3
import Derived.BigQuiet
import Derived.StillTailTactics
import Derived.RegionTactic
import Derived.Laws.Tables
import Derived.Lib.Hide
import Derived.Laws.AppendOwn
import Derived.Deep.AppendLies
import Derived.OwnWalk
import Derived.Lib.AppendStr
import Derived.Maps.AppendAt
import Derived.ProofKit
import Derived.OpenShut
import Derived.Deep.Slices
import Derived.ChangeArms
import Derived.Deep.Fields
import Derived.Test.YtogbhedbgcmckaaGreatRows
import Derived.WalkSpells
import Derived.WalkLawsBesides
import Derived.KernelRfl
import Derived.IntWalk
import Derived.ChangeMaps5
set_option linter.unusedVariables false
set_option linter.unusedSimpArgs false
set_option maxRecDepth 100000
set_option maxHeartbeats 200000
namespace Go.Proofs.YtogbhedbgcmckaaGreat
end Go.Proofs.YtogbhedbgcmckaaGreat
namespace Go.Proofs.YtogbhedbgcmckaaGreat
open Go.RowKit
theorem lpq : (∀ (a : Go.Act) (t : Tmp) (v : Value), a.put (some t) v = { a with tmps := a.tmps.setIfInBounds t v }) ∧ (∀ (a : Go.Act) (v : Value), a.put none v = a) ∧ (∀ (α : Type) (l : List α) (i : Nat) (x : α), l.toArray.setIfInBounds i x = (l.set i x).toArray) ∧ (∀ (α : Type) (a b : α) (l : List α), (a :: l).set 0 b = b :: l) ∧ (∀ (α : Type) (a b : α) (l : List α) (n : Nat), (a :: l).set (n + 1) b = a :: l.set n b) :=
  ⟨fun _ _ _ => rfl, fun _ _ => rfl, fun _ _ _ _ => List.setIfInBounds_toArray .., fun _ _ _ _ => rfl, fun _ _ _ _ _ => rfl⟩
theorem opq {ops : Array Oper} {i : Nat} {oi : Oper} (h : (ops.toList.drop i).head? = some oi) : ops[i]? = some oi := by
  rw [List.head?_drop] at h
  simpa using h
theorem bpq {P : Program} {fn : Func} {R : Ending → World → Prop} {a : Go.Act} {w : World} {x : Exit} (h : R (.returned (.tuple #[])) w) (hx : x = .ret ∨ x = .normal := by first | exact .inl rfl | exact .inr rfl) (hf : fn.results = #[] := by rfl) (hd : a.defers = [] := by rfl) : bodyPost P fn R x a w := by
  rcases hx with rfl | rfl
  · exact bodyPost_ret (results_none hf _ _ _) hd h
  · exact bodyPost_end (results_none hf _ _ _) hd h
theorem exq {α : Sort _} (a : α) : ∃ b, a = b := ⟨a, rfl⟩
theorem tkq {P : Program} {ops : Array Oper} {Q : Exit → Go.Act → World → Prop} {md : Region.Mode} {S : World → Prop} {fuel : Nat} {listed L : Array Bool} {a b : Go.Act} {w : World} {oi : Oper} {v : Value} (i : Nat) (h : wpAnyH P md ops Q S fuel L b w)
    (hi : (ops.toList.drop i).head? = some oi := by rfl) (hs : Region.noSelect ops = true := by kernel_rfl) (hf : Region.free md ops listed i = true := by kernel_rfl) (hr : (Region.ready md ops listed).contains i = true := by kernel_rfl) (hw : Region.wanted oi (yielded ops a.tmps) = true := by rfl) (hy : ∀ w, S w → (execOp a.eval oi).run P w = .ok (.value v) w := by (intro w h; (try dsimp only at h); go_simp); (try with_reducible rfl)) (ha : a.put oi.dst v = b := by first | (simp only [lpq]; rfl) | (simp only [lpq]; done) | rfl) (hL : listed.setIfInBounds i true = L := by first | (simp only [lpq]; rfl) | (simp only [lpq]; done) | rfl) (hS : S w := by assumption) (hQ : ∀ c a w, Q (.panic c) (a.put oi.dst v) w → Q (.panic c) a w := by exact fun _ _ _ h => h) : wpAnyH P md ops Q S (fuel + 1) listed a w :=
  wpAnyH_take (opq hi) hs hf hr hQ (Or.inl ⟨hw, hy⟩) hS (by rw [ha, hL]; exact h)
theorem tuq {P : Program} {ops : Array Oper} {Q : Exit → Go.Act → World → Prop} {md : Region.Mode} {S : World → Prop} {fuel : Nat} {listed L : Array Bool} {a b : Go.Act} {w : World} {oi : Oper} (i : Nat) (h : wpAnyH P md ops Q S fuel L b w)
    (hi : (ops.toList.drop i).head? = some oi := by rfl) (hs : Region.noSelect ops = true := by kernel_rfl) (hf : Region.free md ops listed i = true := by kernel_rfl) (hr : (Region.ready md ops listed).contains i = true := by kernel_rfl) (hw : Region.wanted oi (yielded ops a.tmps) = false := by rfl) (ha : a.put oi.dst undef = b := by first | (simp only [lpq]; rfl) | (simp only [lpq]; done) | rfl) (hL : listed.setIfInBounds i true = L := by first | (simp only [lpq]; rfl) | (simp only [lpq]; done) | rfl) (hS : S w := by assumption) (hQ : ∀ c a w, Q (.panic c) (a.put oi.dst undef) w → Q (.panic c) a w := by exact fun _ _ _ h => h) : wpAnyH P md ops Q S (fuel + 1) listed a w :=
  wpAnyH_take (opq hi) hs hf hr hQ (Or.inr ⟨hw, rfl⟩) hS (by rw [ha, hL]; exact h)
theorem rdq1 {P : Program} {ops : Array Oper} {Q : Exit → Go.Act → World → Prop} {md : Region.Mode} {S : World → Prop} {fuel : Nat} {listed L : Array Bool} {a : Go.Act} {w : World} {oi : Oper} (i : Nat) (hi : (∀ K : Go.Act → World → Prop, Go.Shut (∀ a w, S w → (S w → wpAnyH P md ops Q S fuel L a w) → K a w) → if Region.wanted oi (yielded ops a.tmps) = true then Oper.wp P oi a w K Q else K (a.put oi.dst undef) w))
    (ui : (ops.toList.drop i).head? = some oi := by rfl) (hr : Region.ready md ops listed = [i] := by kernel_rfl) (li : listed.setIfInBounds i true = L := by first | (simp only [lpq]; rfl) | (simp only [lpq]; done) | rfl) : wpAnyH P md ops Q S (fuel + 1) listed a w :=
  wpAnyH_ready hr (by simp) (AllReadyH.cons (opq ui) (fun K hK => hi K (by rw [← li]; exact hK)) (AllReadyH.nil))
theorem rdq2 {P : Program} {ops : Array Oper} {Q : Exit → Go.Act → World → Prop} {md : Region.Mode} {S : World → Prop} {fuel : Nat} {listed L L2 : Array Bool} {a : Go.Act} {w : World} {oi oj : Oper} (i j : Nat) (hi : (∀ K : Go.Act → World → Prop, Go.Shut (∀ a w, S w → (S w → wpAnyH P md ops Q S fuel L a w) → K a w) → if Region.wanted oi (yielded ops a.tmps) = true then Oper.wp P oi a w K Q else K (a.put oi.dst undef) w)) (hj : (∀ K : Go.Act → World → Prop, Go.Shut (∀ a w, S w → (S w → wpAnyH P md ops Q S fuel L2 a w) → K a w) → if Region.wanted oj (yielded ops a.tmps) = true then Oper.wp P oj a w K Q else K (a.put oj.dst undef) w))
    (ui : (ops.toList.drop i).head? = some oi := by rfl) (uj : (ops.toList.drop j).head? = some oj := by rfl) (hr : Region.ready md ops listed = [i, j] := by kernel_rfl) (li : listed.setIfInBounds i true = L := by first | (simp only [lpq]; rfl) | (simp only [lpq]; done) | rfl) (lj : listed.setIfInBounds j true = L2 := by first | (simp only [lpq]; rfl) | (simp only [lpq]; done) | rfl) : wpAnyH P md ops Q S (fuel + 1) listed a w :=
  wpAnyH_ready hr (by simp) (AllReadyH.cons (opq ui) (fun K hK => hi K (by rw [← li]; exact hK)) (AllReadyH.cons (opq uj) (fun K hK => hj K (by rw [← lj]; exact hK)) (AllReadyH.nil)))
theorem dnq {P : Program} {ops : Array Oper} {Q : Exit → Go.Act → World → Prop} {md : Region.Mode} {S : World → Prop} {n : Nat} {listed : Array Bool} {a : Go.Act} {w : World} (h : Q .normal a w) (hr : Region.ready md ops listed = [] := by kernel_rfl) : wpAnyH P md ops Q S n listed a w := wpAnyH_done hr h n
theorem rpq (ops : Array Oper) : Array.replicate ops.size false = (List.replicate ops.toList.length false).toArray := by cases ops; simp
theorem lsq {P : Program} {ops : Array Oper} {Q : Exit → Go.Act → World → Prop} {md : Region.Mode} {S : World → Prop} {m : Nat} {M L : Array Bool} {a : Go.Act} {w : World} (n : Nat) (h : wpAnyH P md ops Q S n L a w) (hn : m = n := by rfl) (hL : M = L := by first | (simp only [rpq, List.replicate]; rfl) | rfl) : wpAnyH P md ops Q S m M a w := by subst hn hL; exact h
theorem hdq2 {p0 p1 : Prop} (h0 : p0) (h1 : p1) : Go.RowKit.Hid (p0 ∧ p1) := Lib.hid ⟨h0, h1⟩
theorem hdq3 {p0 p1 p2 : Prop} (h0 : p0) (h1 : p1) (h2 : p2) : Go.RowKit.Hid (p0 ∧ p1 ∧ p2) := Lib.hid ⟨h0, h1, h2⟩
theorem hdq4 {p0 p1 p2 p3 : Prop} (h0 : p0) (h1 : p1) (h2 : p2) (h3 : p3) : Go.RowKit.Hid (p0 ∧ p1 ∧ p2 ∧ p3) := Lib.hid ⟨h0, h1, h2, h3⟩
theorem hdq5 {p0 p1 p2 p3 p4 : Prop} (h0 : p0) (h1 : p1) (h2 : p2) (h3 : p3) (h4 : p4) : Go.RowKit.Hid (p0 ∧ p1 ∧ p2 ∧ p3 ∧ p4) := Lib.hid ⟨h0, h1, h2, h3, h4⟩
theorem hdq6 {p0 p1 p2 p3 p4 p5 : Prop} (h0 : p0) (h1 : p1) (h2 : p2) (h3 : p3) (h4 : p4) (h5 : p5) : Go.RowKit.Hid (p0 ∧ p1 ∧ p2 ∧ p3 ∧ p4 ∧ p5) := Lib.hid ⟨h0, h1, h2, h3, h4, h5⟩
theorem hdq7 {p0 p1 p2 p3 p4 p5 p6 : Prop} (h0 : p0) (h1 : p1) (h2 : p2) (h3 : p3) (h4 : p4) (h5 : p5) (h6 : p6) : Go.RowKit.Hid (p0 ∧ p1 ∧ p2 ∧ p3 ∧ p4 ∧ p5 ∧ p6) := Lib.hid ⟨h0, h1, h2, h3, h4, h5, h6⟩
theorem hdq8 {p0 p1 p2 p3 p4 p5 p6 p7 : Prop} (h0 : p0) (h1 : p1) (h2 : p2) (h3 : p3) (h4 : p4) (h5 : p5) (h6 : p6) (h7 : p7) : Go.RowKit.Hid (p0 ∧ p1 ∧ p2 ∧ p3 ∧ p4 ∧ p5 ∧ p6 ∧ p7) := Lib.hid ⟨h0, h1, h2, h3, h4, h5, h6, h7⟩
theorem hdq9 {p0 p1 p2 p3 p4 p5 p6 p7 p8 : Prop} (h0 : p0) (h1 : p1) (h2 : p2) (h3 : p3) (h4 : p4) (h5 : p5) (h6 : p6) (h7 : p7) (h8 : p8) : Go.RowKit.Hid (p0 ∧ p1 ∧ p2 ∧ p3 ∧ p4 ∧ p5 ∧ p6 ∧ p7 ∧ p8) := Lib.hid ⟨h0, h1, h2, h3, h4, h5, h6, h7, h8⟩
theorem hdq10 {p0 p1 p2 p3 p4 p5 p6 p7 p8 p9 : Prop} (h0 : p0) (h1 : p1) (h2 : p2) (h3 : p3) (h4 : p4) (h5 : p5) (h6 : p6) (h7 : p7) (h8 : p8) (h9 : p9) : Go.RowKit.Hid (p0 ∧ p1 ∧ p2 ∧ p3 ∧ p4 ∧ p5 ∧ p6 ∧ p7 ∧ p8 ∧ p9) := Lib.hid ⟨h0, h1, h2, h3, h4, h5, h6, h7, h8, h9⟩
theorem hdq11 {p0 p1 p2 p3 p4 p5 p6 p7 p8 p9 p10 : Prop} (h0 : p0) (h1 : p1) (h2 : p2) (h3 : p3) (h4 : p4) (h5 : p5) (h6 : p6) (h7 : p7) (h8 : p8) (h9 : p9) (h10 : p10) : Go.RowKit.Hid (p0 ∧ p1 ∧ p2 ∧ p3 ∧ p4 ∧ p5 ∧ p6 ∧ p7 ∧ p8 ∧ p9 ∧ p10) := Lib.hid ⟨h0, h1, h2, h3, h4, h5, h6, h7, h8, h9, h10⟩
theorem hdq12 {p0 p1 p2 p3 p4 p5 p6 p7 p8 p9 p10 p11 : Prop} (h0 : p0) (h1 : p1) (h2 : p2) (h3 : p3) (h4 : p4) (h5 : p5) (h6 : p6) (h7 : p7) (h8 : p8) (h9 : p9) (h10 : p10) (h11 : p11) : Go.RowKit.Hid (p0 ∧ p1 ∧ p2 ∧ p3 ∧ p4 ∧ p5 ∧ p6 ∧ p7 ∧ p8 ∧ p9 ∧ p10 ∧ p11) := Lib.hid ⟨h0, h1, h2, h3, h4, h5, h6, h7, h8, h9, h10, h11⟩
theorem hlq {w : World} {k : Nat} {o : Obj} (h : w.heap[k]? = some o) : k < w.heap.size := (Array.getElem?_eq_some_iff.1 h).1
theorem nlq {n : Nat} : n ≤ n := Nat.le_refl n
theorem blq {B : Nat} {w : World} : Below B w w := Below.refl B w
theorem bbr {B : Nat} {w W : World} (h : Below B w W := by repeat (first | exact blq | apply Below.drew | refine Below.alloc ?_ (by simp) _)) : Below B w W := h
end Go.Proofs.YtogbhedbgcmckaaGreat
set_option linter.unusedVariables false
set_option linter.unusedSimpArgs false
set_option maxRecDepth 100000
set_option maxHeartbeats 200000
namespace Go.Proofs.YtogbhedbgcmckaaGreat
def wide (v : Nat) : Nat -> List UInt8
 | 0 => []
 | n + 1 => UInt8.ofNat (v / 256 ^ n) :: wide v n
@[simp] theorem qlh (v n : Nat) : (wide v n).length = n := by
 induction n with
 | zero => rfl
 | succ n ih => simp [wide,ih]
def num (l : List UInt8) : Nat := l.foldl (fun v b => v * 256 + b.toNat) 0
theorem qgV (v n : Nat) : ∀ a,(wide v n).foldl (fun v b => v * 256 + b.toNat) a = a * 256 ^ n + v % 256 ^ n := by
 induction n with
 | zero => intro a; simp [wide,Nat.mod_one]
 | succ n ih =>
   intro a;rw [wide,List.foldl_cons,ih,Nat.pow_succ,Nat.mod_mul]
   have h : (UInt8.ofNat (v / 256 ^ n)).toNat = v / 256 ^ n % 256 := by simp
   rw [h,Nat.add_mul,Nat.mul_assoc,Nat.mul_comm 256 (256 ^ n),Nat.mul_comm (v / 256 ^ n % 256)];omega
theorem qjr (v n : Nat) : num (wide v n) = v % 256 ^ n := by
 rw [num,qgV]; simp
theorem qeX (l : List UInt8) (b : UInt8) : num (l ++ [b]) = num l * 256 + b.toNat := by simp [num]
theorem qjs (l : List UInt8) : ∀ a,l.foldl (fun v b => v * 256 + b.toNat) a < (a + 1) * 256 ^ l.length := by
 induction l with
 | nil => intro a; simp
 | cons b l ih =>
   intro a;have := ih (a * 256 + b.toNat);have hb : b.toNat < 256 := b.toNat_lt;rw [List.foldl_cons,List.length_cons,Nat.pow_succ];refine Nat.lt_of_lt_of_le this ?_;rw [Nat.mul_comm (256 ^ l.length),<- Nat.mul_assoc];exact Nat.mul_le_mul_right _ (by omega)
theorem qdB (l : List UInt8) : num l < 256 ^ l.length := by
 have := qjs l 0
 rwa [Nat.zero_add,Nat.one_mul] at this
abbrev St := Option (List UInt8)
def left (s : St) : Nat := match s with | none => 0 | some l => l.length
def takeN (s : St) (n : Nat) : List UInt8 × St :=
 match s with
 | none => ([],none)
 | some l => if n <= l.length then (l.take n,some (l.drop n)) else ([],none)
theorem qcC (s : St) (n : Nat) : (takeN s n).1.length <= n := by
 unfold takeN
 split
 · simp
 · split <;> simp <;> omega
def numberN (s : St) (n : Nat) : Nat × St := (num (takeN s n).1,(takeN s n).2)
theorem qbn (s : St) (n : Nat) : (numberN s n).1 < 256 ^ n :=
 Nat.lt_of_lt_of_le (qdB _) (Nat.pow_le_pow_right (by omega) (qcC s n))
def qaI (s : St) (most : Int) : Nat × St := if most < 0 \/ most < ((numberN s 4).1 : Int) \/ left (numberN s 4).2 < (numberN s 4).1 then (0,none) else numberN s 4
def qbc (s : St) (most : Int) : List UInt8 × St := takeN (qaI s most).2 (qaI s most).1
end Go.Proofs.YtogbhedbgcmckaaGreat
set_option linter.unusedVariables false
set_option linter.unusedSimpArgs false
set_option maxRecDepth 100000
set_option maxHeartbeats 200000
namespace Go.Proofs.YtogbhedbgcmckaaGreat
def numB (n : Int) : Bool := decide (1 <= n) && decide (n <= 1099511627776)
def rightB (i t : Int) (d : Nat) : Bool := numB i && numB t && decide (d <= 12000)
def hardB (t v : Int) : Bool := decide (0 <= t) && (decide (t <= 1099511627776) && (decide (-1 <= v) && decide (v <= 2)))
def snapB (i t : Int) (d : Nat) : Bool := if i = 0 /\ t = 0 then decide (d = 0) else numB i && numB t && decide (d <= 50000)
structure Ent where
 i : Int
 t : Int
 d : List UInt8
def qbo (i : Int) (l : List Ent) (k : Nat) : Int := if k = 0 then i else (l[k - 1]?.map Ent.i).getD 0
def qbp (t : Int) (l : List Ent) (k : Nat) : Int := if k = 0 then t else (l[k - 1]?.map Ent.t).getD 0
def qa0 (i t : Int) (l : List Ent) (k : Nat) : Bool :=
 match l[k]? with
 | none => false
 | some e => rightB e.i e.t e.d.length && (decide (qbp t l k <= e.t) && decide (e.i = qbo i l k + 1))
def runB (i t : Int) (l : List Ent) : Bool := (List.range l.length).all (qa0 i t l)
theorem qdV {i t : Int} {l : List Ent} (k : Nat) (hk : k < l.length) (h : qa0 i t l k = false) : runB i t l = false := by
 cases hr : runB i t l with
 | false => rfl
 | true =>
   have := List.all_eq_true.1 hr k (List.mem_range.2 hk);rw [h] at this;cases this
theorem qjt {i t : Int} {l : List Ent} (h : ∀ k,k < l.length -> qa0 i t l k = true) : runB i t l = true :=
 List.all_eq_true.2 fun k hk => h k (List.mem_range.1 hk)
theorem qeY (i t : Int) (l : List Ent) (k : Nat) (hk : k < l.length) : qa0 i t l k = (rightB l[k].i l[k].t l[k].d.length && (decide (qbp t l k <= l[k].t) && decide (l[k].i = qbo i l k + 1))) := by
 unfold qa0;rw [List.getElem?_eq_getElem hk]
theorem qh3 (i t : Int) (l : List Ent) (k : Nat) (hk : k < l.length) : qbo i l (k + 1) = l[k].i /\ qbp t l (k + 1) = l[k].t := by
 simp [qbo,qbp,List.getElem?_eq_getElem hk]
theorem qaj (i t : Int) (d : Nat) : rightB i t d = true ↔ (1 <= i /\ i <= 1099511627776) /\ (1 <= t /\ t <= 1099511627776) /\ d <= 12000 := by
 simp [rightB,numB,and_assoc]
end Go.Proofs.YtogbhedbgcmckaaGreat
set_option linter.unusedVariables false
set_option linter.unusedSimpArgs false
set_option maxRecDepth 100000
set_option maxHeartbeats 200000
namespace Go.Proofs.YtogbhedbgcmckaaGreat
open Go.RowKit
structure Hid (p : Prop) : Prop where
 out : p
abbrev u8 (b : UInt8) : Value := .int .u8 (b.toNat : Int)
abbrev cellsOf (l : List UInt8) : List Value := l.map u8
theorem qf6 (l : List UInt8) : ∀ u ∈ cellsOf l,u.oneCell' = true := by
 intro u hu;obtain ⟨b,_,rfl⟩ := List.mem_map.1 hu
 rfl
structure qa (Z : Nat -> Prop) (w w' : World) : Prop where
 os : w'.os = w.os
 tape : w'.tape = w.tape
 output : w'.output = w.output
 size : w.heap.size <= w'.heap.size
 block : ∀ k,k < w.heap.size -> Z k -> w'.heap[k]? = w.heap[k]?
section
variable {Z Z' : Nat → Prop} {w w' w'' : World}
theorem qa.refl (Z : Nat -> Prop) (w : World) : qa Z w w := ⟨rfl,rfl,rfl,Nat.le_refl _,fun _ _ _ => rfl⟩
theorem qa.trans (h : qa Z w w') (k : qa Z w' w'') : qa Z w w'' :=
 ⟨k.os.trans h.os,k.tape.trans h.tape,k.output.trans h.output,Nat.le_trans h.size k.size,fun i hi hz => (k.block i (Nat.lt_of_lt_of_le hi h.size) hz).trans (h.block i hi hz)⟩
theorem qa.drew (h : qa Z w w') : qa Z w w'.drew := ⟨h.os,h.tape,h.output,h.size,h.block⟩
theorem qa.mono (h : qa Z w w') (hz : ∀ k,Z' k -> Z k) : qa Z' w w' := ⟨h.os,h.tape,h.output,h.size,fun k hk k2 => h.block k hk (hz k k2)⟩
theorem qb {B : Nat} (h : Below B w w') (hB : w.heap.size <= B) : qa Z w w' := ⟨h.os,h.tape,h.output,h.size,fun k hk _ => h.block k (Nat.lt_of_lt_of_le hk hB)⟩
theorem qb4 {row : Option Nat} (h : w.grownBy w' row) (hr : ∀ k,row = some k -> ¬ Z k) : qa Z w w' :=
 ⟨h.os,h.tape,h.output,h.size,fun k hk hz => h.block k hk fun e => hr k e.symm hz⟩
theorem qg (w : World) (a : Addr) (u : Value) (h : ¬ Z a.block) : qa Z w (w.setCell a u) :=
 ⟨rfl,rfl,rfl,by simp,fun k _ hz => Below.heap_setCell _ _ _ _ (fun e => h (e ▸ hz))⟩
theorem qv (w : World) (o : Obj) : qa Z w (w.alloc o) := qb ((Below.refl _ _).alloc (Nat.le_refl _) _) (Nat.le_refl _)
theorem qab {B : Nat} {w₀ : World} (h : Below B w₀ w) (k : qa Z w w') (hz : ∀ i,i < B -> Z i) (hB : B <= w.heap.size) : Below B w₀ w' :=
 ⟨k.os.trans h.os,k.tape.trans h.tape,k.output.trans h.output,Nat.le_trans h.size k.size,fun i hi => (k.block i (Nat.lt_of_lt_of_le hi hB) (hz i hi)).trans (h.block i hi)⟩
theorem qa.cell (h : qa Z w w') {a : Addr} {v : Value} (hc : w.cell? a = some v) (hz : Z a.block) : w'.cell? a = some v := by
 have hlt : a.block < w.heap.size := by
  rcases Nat.lt_or_ge a.block w.heap.size with h' | h'
  · exact h'
  · simp [World.cell?,Array.getElem?_eq_none h'] at hc
 rw [World.cell?_of_block (w := w) (h.block _ hlt hz),hc]
theorem hlt {k : Nat} {o : Obj} (h : w.heap[k]? = some o) : k < w.heap.size := (Array.getElem?_eq_some_iff.1 h).1
theorem setCell_at (w : World) (a : Addr) (u : Value) (C : Array Value) (T : TypeId) (fr : Nat × Nat) (hs : a.spot = none) (h : w.heap[a.block]? = some (.cells C T fr)) :
 (w.setCell a u).heap[a.block]? = some (.cells (C.setIfInBounds a.off u) T fr) := by
 obtain ⟨b,off,spot⟩ := a;obtain rfl : spot = none := hs;have h' : w.heap[b]? = some (.cells C T fr) := h;simp only [World.setCell,Array.getElem?_modify,if_true,h',Option.map_some]
 rfl
theorem stq {w : World} {g : Nat} {C C' : Array Value} {T : TypeId} {o : Nat × Nat} (j : Nat) (v : Value) (h : w.heap[g]? = some (.cells C T o)) (hC : C.setIfInBounds j v = C' := by first | (simp only [lpq]; rfl) | (simp only [lpq]; done) | rfl) : (w.setCell ⟨g, j, none⟩ v).heap[g]? = some (.cells C' T o) := by
  rw [← hC]; exact setCell_at w ⟨g, j, none⟩ v _ _ _ rfl h
end
def Lies (w : World) (A : Option Addr) (len cap : Nat) (l : List UInt8) : Prop :=
 l.length = len /\ len <= cap /\ (A = none -> cap = 0) /\ (0 < len -> ∃ g off,A = some ⟨g,off,none⟩ /\ g < w.heap.size /\ ∀ j (hj : j < l.length),w.cell? ⟨g,off + j,none⟩ = some (u8 l[j]))
def Off (Z : Nat -> Prop) (A : Option Addr) (len : Nat) : Prop := 0 < len -> ∀ g off,A = some ⟨g,off,none⟩ -> ¬ Z g
section
set_option linter.unusedSectionVars false
variable {w w' : World} {A : Option Addr} {len cap : Nat} {l : List UInt8} {Z : Nat → Prop}
theorem Lies.nil (w : World) : Lies w none 0 0 [] := ⟨rfl,Nat.le_refl _,fun _ => rfl,fun h => absurd h (by omega)⟩
theorem Lies.keep (h : Lies w A len cap l) (hs : w.heap.size <= w'.heap.size) (hk : 0 < len -> ∀ g off,A = some ⟨g,off,none⟩ -> g < w.heap.size -> w'.heap[g]? = w.heap[g]?) : Lies w' A len cap l := by
 refine ⟨h.1,h.2.1,h.2.2.1,fun h0 => ?_⟩;obtain ⟨g,off,rfl,hg,hc⟩ := h.2.2.2 h0;exact ⟨g,off,rfl,Nat.lt_of_lt_of_le hg hs,fun j hj => (World.cell?_of_block (w := w) (hk h0 g off rfl hg)).trans (hc j hj)⟩
theorem Lies.below (h : Lies w A len cap l) {B : Nat} (hb : Below B w w') (hB : w.heap.size <= B) : Lies w' A len cap l :=
 h.keep hb.size fun _ g _ _ hg => hb.block g (Nat.lt_of_lt_of_le hg hB)
theorem Lies.keeps (h : Lies w A len cap l) (hk : qa Z w w') (hz : 0 < len -> ∀ g off,A = some ⟨g,off,none⟩ -> Z g) : Lies w' A len cap l :=
 h.keep hk.size fun h0 g off e hg => hk.block g hg (hz h0 g off e)
theorem Lies.grown (h : Lies w A len cap l) {row : Option Nat} (hg : w.grownBy w' row) (hz : ∀ i,row = some i -> Off (· = i) A len) : Lies w' A len cap l :=
 h.keep hg.size fun h0 g off e hlt => hg.block g hlt fun er => hz g er.symm h0 g off e rfl
def Owns (T : TypeId) (w : World) (base : Nat) (v : Value) (l : List UInt8) : Prop := w.ownsRow base T 1 v l.length (cellsOf l)
theorem Owns.keep {T : TypeId} {base : Nat} {v : Value} (h : Owns T w base v l) (hk : ∀ g,v.ownBlock = some g -> w'.heap[g]? = w.heap[g]?) : Owns T w' base v l := by
 rcases h.2 with ⟨e,h0⟩ | ⟨g,cap,cur,e,hb,hg,r⟩
 · exact ⟨h.1, .inl ⟨e,h0⟩⟩
 · exact ⟨h.1, .inr ⟨g,cap,cur,e,hb,(hk g (by rw [e]; rfl)).trans hg,r⟩⟩
theorem Owns.lt {T : TypeId} {base : Nat} {v : Value} (h : Owns T w base v l) : ∀ k,v.ownBlock = some k -> base <= k /\ k < w.heap.size := World.ownsRow.lt h
theorem Owns.nil (T : TypeId) (w : World) (base : Nat) : Owns T w base (.slice none 0 0) [] := World.ownsRow_nil _ _ _ _
theorem qp {T : TypeId} {base : Nat} {v : Value} (h : Owns T w base v l) : ∃ A cap,v = .slice A l.length cap /\ Lies w A l.length cap l ∧
 (∀ g off,A = some ⟨g,off,none⟩ -> v.ownBlock = some g) := by
 rcases h.2 with ⟨rfl,h0⟩ | ⟨g,cap,cur,rfl,hb,hg,hc,hm,hs,ht⟩
 · refine ⟨none,0,by rw [h0],⟨rfl,by omega,fun _ => rfl,fun h => by omega⟩,fun g off e => by cases e⟩
 · refine ⟨some ⟨g,0,none⟩,cap,rfl,⟨rfl,hc,(fun h => by cases h),fun _ => ⟨g,0,rfl,hlt hg,fun j hj => ?_⟩⟩,fun g' off e => by injection e with e; injection e with e; rw [<- e]; rfl⟩;rw [cell_of_row w g _ cur T (0,0) hg,Nat.zero_add];have := congrArg (fun q => q[j]?) ht;simp only [List.getElem?_take,List.getElem?_map,List.getElem?_eq_getElem hj,Option.map_some] at this;rw [if_pos (by omega)] at this
   simpa using this
theorem Owns.form {T : TypeId} {base n : Nat} {A : Option Addr} (h : Owns T w base (.slice A n cap) l) (h0 : 0 < l.length) : ∃ g cur,A = some ⟨g,0,none⟩ /\ n = l.length /\ base <= g /\ w.heap[g]? = some (.cells cur T (0,0)) /\ l.length <= cap /\ cap <= maxLen /\ cur.size = cap /\ cur.toList.take l.length = cellsOf l := by
 rcases h.2 with ⟨e,h1⟩ | ⟨g,cap',cur,e,hb,hg,hc,hm,hs,ht⟩
 · omega
 · injection e with e1 e2 e3;subst e1 e3;exact ⟨g,cur,rfl,e2,hb,hg,hc,hm,by simpa using hs,by simpa using ht⟩
theorem Owns.at_ {T : TypeId} {base n : Nat} {A : Option Addr} (h : Owns T w base (.slice A n cap) l) (j : Nat) (hj : j < l.length) : ∃ g,A = some ⟨g,0,none⟩ /\ base <= g /\ g < w.heap.size /\ w.cell? ⟨g,j,none⟩ = some (u8 l[j]) /\ w.frozen? ⟨g,j,none⟩ = false := by
 obtain ⟨g,cur,rfl,_,hb,hg,hc,hm,hs,ht⟩ := h.form (by omega);refine ⟨g,rfl,hb,hlt hg,?_,by simp [World.frozen?,hg]⟩;rw [cell_of_row w g _ cur T (0,0) hg];have := congrArg (fun q => q[j]?) ht;simp only [List.getElem?_take,List.getElem?_map,List.getElem?_eq_getElem hj,Option.map_some] at this;rw [if_pos hj] at this
 simpa using this
theorem Owns.set {T : TypeId} {base n g : Nat} (h : Owns T w base (.slice (some ⟨g,0,none⟩) n cap) l) (j : Nat) (hj : j < l.length) (b : UInt8) : Owns T (w.setCell ⟨g,j,none⟩ (u8 b)) base (.slice (some ⟨g,0,none⟩) n cap) (l.set j b) := by
 obtain ⟨g',cur,e,hn,hb,hg,hc,hm,hs,ht⟩ := h.form (by omega);injection e with e;injection e with e;subst e;refine ⟨by simp, .inr ⟨g,cap,cur.setIfInBounds j (u8 b),by rw [List.length_set,hn],hb,setCell_at _ ⟨g,j,none⟩ _ _ _ _ rfl hg,by simpa using hc,hm,by simpa using hs,?_⟩⟩;rw [List.length_set,Nat.mul_one,Array.toList_setIfInBounds,List.take_set,ht]
 simp [cellsOf,List.map_set]
theorem Lies.lit (w : World) (z : Int) (b : UInt8) (T : TypeId) (h : z = (b.toNat : Int)) : Lies (w.alloc (.cells #[.int .u8 z] T)) (some ⟨w.heap.size,0,none⟩) 1 1 [b] := by
 subst h;refine ⟨rfl,Nat.le_refl _,(fun h => by cases h),fun _ => ⟨w.heap.size,0,rfl,by simp,fun j hj => ?_⟩⟩
 obtain rfl : j = 0 := by simpa using hj
 rw [cell_of_row _ _ _ _ _ _ (heap_alloc_new w _)]
 rfl
theorem Lies.drew (h : Lies w A len cap l) : Lies w.drew A len cap l := h
theorem Lies.cell (h : Lies w A len cap l) (j : Nat) (hj : j < l.length) : ∃ g off,A = some ⟨g,off,none⟩ /\ g < w.heap.size /\ w.cell? ⟨g,off + j,none⟩ = some (u8 l[j]) := by
 obtain ⟨g,off,e,hg,hc⟩ := h.2.2.2 (by have := h.1; omega);exact ⟨g,off,e,hg,hc j hj⟩
theorem Lies.take (h : Lies w A len cap l) (n : Nat) (hn : n <= len) : Lies w A n cap (l.take n) := by
 obtain ⟨rfl,h2,h3,h4⟩ := h;refine ⟨by simp; omega,by omega,h3,fun h0 => ?_⟩;obtain ⟨g,off,e,hg,hc⟩ := h4 (by omega);refine ⟨g,off,e,hg,fun j hj => ?_⟩
 have hj' : j < l.length := by simp at hj; omega
 rw [hc j hj',List.getElem_take]
def qK (A : Option Addr) (cap n : Nat) : Option Addr := if cap = n then A else A.map (·.add n)
theorem qbq (g off cap n : Nat) (h : cap ≠ n) : qK (some ⟨g,off,none⟩) cap n = some ⟨g,off + n,none⟩ := by
 simp [qK,h,Addr.add_lit]
theorem Lies.drop (h : Lies w A len cap l) (n : Nat) (hn : n <= len) : Lies w (qK A cap n) (len - n) (cap - n) (l.drop n) := by
 obtain ⟨rfl,h2,h3,h4⟩ := h;refine ⟨by simp,by omega,fun h => ?_,fun h0 => ?_⟩
 · unfold qK at h
   split at h
   · omega
   · cases A with
     | none => have := h3 rfl; omega
     | some a => cases h
 · obtain ⟨g,off,rfl,hg,hc⟩ := h4 (by omega);refine ⟨g,off + n,qbq _ _ _ _ (by omega),hg,fun j hj => ?_⟩
   have hj' : n + j < l.length := by simp at hj; omega
   rw [Nat.add_assoc,hc (n + j) hj',List.getElem_drop]
theorem qd6 {P : Program} {t e : TypeId} (ht : P.underlying t = some (.slice e)) (hz : ∀ w,(Go.sizeOf e).run P w = .ok 1 w) (A : Option Addr) (len cap n : Nat) (hn : n <= cap) (W : World) :
 (Instr.slice t (.slice A len cap) none (some (.int .i64 (n : Int))) none).run P W = .ok (.slice A n cap) W := by
 have ht' : P.underlying t = some (.slice (P.elem t)) := by simp [Program.elem,ht]
 have he : P.elem t = e := by simp [Program.elem,ht]
 rw [run_slice_h W t _ _ _ ht' .i64 _ (by omega) (by omega),he,hz]
 cases A <;> simp [Result.andThen,sliced,Addr.add]
theorem qcf {P : Program} {t e : TypeId} (ht : P.underlying t = some (.slice e)) (hz : ∀ w,(Go.sizeOf e).run P w = .ok 1 w) (A : Option Addr) (len cap n : Nat) (hn : n <= len) (hc : len <= cap) (W : World) :
 (Instr.slice t (.slice A len cap) (some (.int .i64 (n : Int))) none none).run P W = .ok (.slice (qK A cap n) (len - n) (cap - n)) W := by
 have ht' : P.underlying t = some (.slice (P.elem t)) := by simp [Program.elem,ht]
 have he : P.elem t = e := by simp [Program.elem,ht]
 rw [run_slice_l W t _ _ _ ht' .i64 _ (by omega) (by omega),he,hz]
 cases A <;> simp [Result.andThen,sliced,qK] <;> (split <;> simp_all)
end
end Go.Proofs.YtogbhedbgcmckaaGreat
set_option linter.unusedVariables false
set_option linter.unusedSimpArgs false
set_option maxRecDepth 100000
set_option maxHeartbeats 200000
namespace Go.Proofs.YtogbhedbgcmckaaGreat
open Go.ChangeShapes Go.WideShapes Go.ChangeAt Go.RowKit Go.Deep
section
variable {H : Type} {enc : TypeId × Value → H} {P : Program} {W : World} {sp : Nat → Bool} {hd : Bool}
theorem qkv (a : Addr) (i j : Nat) : (a.add i).add j = a.add (i + j) := by
 unfold Addr.add
 by_cases hi : i = 0 <;> by_cases hj : j = 0 <;> simp [hi,hj,Nat.add_assoc]
theorem qeZ (b off n : Nat) : (⟨b,off,none⟩ : Addr).add n = ⟨b,off + n,none⟩ := by
 unfold Addr.add
 by_cases hn : n = 0 <;> simp [hn]
end
end Go.Proofs.YtogbhedbgcmckaaGreat
set_option linter.unusedVariables false
set_option linter.unusedSimpArgs false
set_option maxRecDepth 100000
set_option maxHeartbeats 200000
namespace Go.Proofs.YtogbhedbgcmckaaGreat
open Go.ChangeShapes Go.WideShapes Go.ChangeAt Go.RowKit Go.Deep
theorem qbx : (Tryz.prog.info? 5).map (fun i => (i.zero,i.size,i.bytes)) = some (some (.int .u8 0),1,1) := by kernel_rfl
theorem qar (w : World) : (Go.sizeOf 5).run Tryz.prog w = .ok 1 w := by
 obtain ⟨i,hi,_,hs,_⟩ := info_parts qbx
 simp [Go.sizeOf,typeInfo,hi,hs]
theorem qcD {P : Program} (w : World) (t ty e : TypeId) (i : TypeInfo) (ht : P.underlying t = some (.slice e)) (hi : P.info? e = some i) (hz : i.zero = some (.int .u8 0)) (hsize : i.size = 1) (hby : i.bytes = 1)
 (base : Nat) (hbase : base <= w.heap.size) (v : Value) (l : List UInt8) (hown : Owns e w base v l) (A : Option Addr) (len cap : Nat) (new : List UInt8) (hx : Lies w A len cap new) (hf : (l ++ new).length <= 140737488355328) :
 ∃ v' w',(Builtin.append_ #[t,t] ty #[v, .slice A len cap]).run P w = .ok v' w' /\ Owns e w' base v' (l ++ new) /\ w.grownBy w' v.ownBlock /\ (v'.ownBlock = v.ownBlock \/ v'.ownBlock = some w.heap.size) := by
 obtain ⟨rfl,h2,h3,h4⟩ := hx
 have hl : l.length + new.length = (l ++ new).length := by simp
 have hc : cellsOf l ++ cellsOf new = cellsOf (l ++ new) := by simp [cellsOf]
 cases A with
 | none =>
   have := h3 rfl;obtain rfl : new = [] := List.eq_nil_of_length_eq_zero (by omega);obtain rfl : cap = 0 := this;exact ⟨v,w,run_append_owned_none (P := P) (w := w) base t ty e i 1 ht hi v _ _ hown,by simpa using hown,World.grownBy.refl _ _, .inl rfl⟩
 | some a =>
   have hcell : ∀ j u,(cellsOf new)[j]? = some u -> w.cell? (a.add j) = some u := fun j u hj => by
    have hjl : j < new.length := by simpa using (List.getElem?_eq_some_iff.1 hj).1
    obtain ⟨g,off,e,_,hc⟩ := h4 (by omega);injection e with e;subst e;rw [Addr.add_lit,hc j hjl];simp only [List.getElem?_map,List.getElem?_eq_getElem hjl,Option.map_some] at hj;exact hj
   obtain ⟨v',w',hr,p2,p3,_,p5⟩ := run_append_own_at (P := P) w base t ty e i (.int .u8 0) 1 1 ht hi hz hsize hby rfl (by omega) v l.length (cellsOf l) hown a new.length cap (cellsOf new) (by simp) hcell (qf6 new) (by unfold maxLen; omega) (by omega) hbase;rw [hl,hc] at p2;exact ⟨v',w',hr,p2,p3,p5⟩
theorem qW {P : Program} (w : World) {ops : Array Oper} {rest : List Oper} {o : Oper} {a : Act} {Q : Exit -> Act -> World -> Prop} (hgd : o.guard = none) (sl x : Operand) (t : TypeId)
 (ho : o.op = .call { callee := .builtin .append,args := #[sl,x],argTypes := #[t,t] })
 (e : TypeId) (i : TypeInfo) (ht : P.underlying t = some (.slice e)) (hi : P.info? e = some i) (hz : i.zero = some (.int .u8 0)) (hsize : i.size = 1) (hby : i.bytes = 1)
 (base : Nat) (hbase : base <= w.heap.size) (v : Value) (l : List UInt8) (hs : a.eval sl = v) (hown : Owns e w base v l) (A : Option Addr) (len cap : Nat) (new : List UInt8) (hx : a.eval x = .slice A len cap) (hlies : Lies w A len cap new) (hf : (l ++ new).length <= 140737488355328)
 (h : ∀ v' w',Owns e w' base v' (l ++ new) -> w.grownBy w' v.ownBlock -> (v'.ownBlock = v.ownBlock \/ v'.ownBlock = some w.heap.size) -> wpList P ops Q rest (a.put o.dst v') w') : wpList P ops Q (o :: rest) a w := by
 refine wpList_plain hgd fun K hK => ?_;obtain ⟨v',w',hr,h2,h3,h4⟩ := qcD (P := P) w t o.type e i ht hi hz hsize hby base hbase v l hown A len cap new hlies hf;unfold Oper.wp execOp;simp only [ho,resolve,invoke,builtin,Sem.run_bind,Sem.run_pure,Result.andThen_ok,List.map_toArray,List.map_cons,List.map_nil,hs,hx,hr];exact hK _ _ (h v' w' h2 h3 h4)
theorem qbl {P : Program} (w : World) {ops : Array Oper} {o : Oper} {a : Act} {K : Act -> World -> Prop} {Q : Exit -> Act -> World -> Prop} {E : Prop} (hgd : o.guard = none) (sl x : Operand) (t : TypeId)
 (ho : o.op = .call { callee := .builtin .append,args := #[sl,x],argTypes := #[t,t] })
 (e : TypeId) (i : TypeInfo) (ht : P.underlying t = some (.slice e)) (hi : P.info? e = some i) (hz : i.zero = some (.int .u8 0)) (hsize : i.size = 1) (hby : i.bytes = 1)
 (base : Nat) (hbase : base <= w.heap.size) (v : Value) (l : List UInt8) (hs : a.eval sl = v) (hown : Owns e w base v l) (A : Option Addr) (len cap : Nat) (new : List UInt8) (hx : a.eval x = .slice A len cap) (hlies : Lies w A len cap new) (hf : (l ++ new).length <= 140737488355328)
 (h : ∀ v' w',Owns e w' base v' (l ++ new) -> w.grownBy w' v.ownBlock -> (v'.ownBlock = v.ownBlock \/ v'.ownBlock = some w.heap.size) -> K (a.put o.dst v') w') :
 if Region.wanted o (yielded ops a.tmps) = true then Oper.wp P o a w K Q else E := by
 have hw : Region.wanted o (yielded ops a.tmps) = true := by simp [Region.wanted,hgd]
 rw [if_pos hw];obtain ⟨v',w',hr,h2,h3,h4⟩ := qcD (P := P) w t o.type e i ht hi hz hsize hby base hbase v l hown A len cap new hlies hf;unfold Oper.wp execOp;simp only [ho,resolve,invoke,builtin,Sem.run_bind,Sem.run_pure,Result.andThen_ok,List.map_toArray,List.map_cons,List.map_nil,hs,hx,hr];exact h v' w' h2 h3 h4
theorem wf_i64' {n : Int} (h : (Lit.int .i64 n).wf = true) : -9223372036854775808 <= n /\ n <= 9223372036854775807 := by
 simpa [Lit.wf,IntKind.min,IntKind.max,IntKind.bits,IntKind.signed] using h
theorem qk3 {n : Int} (h : (Lit.int .u8 n).wf = true) : 0 <= n /\ n < 256 := by
 have : 0 <= n /\ n <= 255 := by simpa [Lit.wf,IntKind.min,IntKind.max,IntKind.bits,IntKind.signed] using h
 omega
section
variable {H : Type} {enc : TypeId × Value → H} {W : World} {sp : Nat → Bool} {hd : Bool}
theorem qeH {A : Option Addr} {len cap : Nat} {d : DataW H} {p : List MemPlace} (h : DataW.Trod enc Tryz.prog W 0 sp hd 23 (.slice A len cap) d p) : len = 0 \/ ∃ el sr,d = .slice el sr /\ el.length = len := by
 obtain ⟨fuel,hf⟩ := h;rcases open_slice Tryz.underlying23 hf with ⟨hcs,hx⟩ | ⟨a,len',cap',m,n,D,Pl,hcs,hb,hl,hm,hmm,hx,hi⟩
 · simp [Value.cells] at hcs
   exact .inl hcs.2.1
 · simp [Value.cells] at hcs
   obtain ⟨rfl,rfl,rfl⟩ := hcs;simp only [Prod.mk.injEq] at hx;exact .inr ⟨_,_,hx.1,by simp⟩
theorem qcy {P : Program} {e : TypeId} {fs : Array Field} {n base : Nat} {cs : List Value} {x : DataW H × List MemPlace} (he : P.underlying e = some (.struct fs)) (hone : oneCellFields P fs = true) (hl : cs.length = fs.size)
 (h : DataW.trod enc P W base sp hd n e cs = some x) (hlt : ∀ y ∈ x.2,y.block < W.heap.size) : ∃ m,∀ (j : Nat) (f : Field),fs[j]? = some f -> ∃ v y,cs[j]? = some v /\ DataW.trod enc P W base sp hd m f.type [v] = some y /\ ∀ q ∈ y.2,q.block < W.heap.size := by
 obtain ⟨ys,m,_,hx,_,hyl,hf⟩ := DataW.trod_struct he h;refine ⟨m,fun j f hj => ?_⟩;obtain ⟨ho,hk⟩ := hone_of hone j f hj;have hjl : j < fs.size := (Array.getElem?_eq_some_iff.1 hj).1;have h1 := hf j f hj;rw [ho,hk,List.drop_eq_getElem_cons (by omega)] at h1;have h2 : DataW.trod enc P W base sp hd m f.type [cs[j]'(by omega)] = ys[j]? := h1;rw [List.getElem?_eq_getElem (by omega)] at h2;refine ⟨_,_,List.getElem?_eq_getElem (by omega),h2,fun q hq => hlt q ?_⟩;rw [hx];exact List.mem_flatMap.2 ⟨_,List.getElem_mem (by omega),hq⟩
theorem qgH {P : Program} {t e : TypeId} {k : IntKind} {m : Nat} {v : Value} {y : DataW H × List MemPlace} (ht : P.underlying t = some (.slice e)) (he : P.underlying e = some (.int k)) (hC : P.cellsOf e = 1)
 (h : DataW.trod enc P W 0 sp hd m t [v] = some y) (hlt : ∀ q ∈ y.2,q.block < W.heap.size) :
 ∃ (A : Option Addr) (len cap : Nat) (Z : Nat -> Int),v = .slice A len cap /\ len <= cap /\ cap <= maxLen /\ (A = none -> cap = 0) ∧
  (0 < len -> ∃ b off,A = some ⟨b,off,none⟩ /\ b < W.heap.size /\ ∀ j,j < len -> W.cell? ⟨b,off + j,none⟩ = some (.int k (Z j))) /\ ∀ j,j < len -> (Lit.int k (Z j)).wf = true := by
 rcases open_slice1 ht hC h with ⟨hcs,hx⟩ | ⟨a,len,cap,m,n,V,D,Pl,hcs,hb,hl,hm,hmm,hx,hi⟩
 · simp at hcs;subst hcs;exact ⟨none,0,0,fun _ => 0,rfl,Nat.le_refl _,Nat.zero_le _,fun _ => rfl,fun h => absurd h (by omega),fun j hj => absurd hj (by omega)⟩
 · simp at hcs;subst hcs
   have hlm : len <= m := by rw [hmm]; split <;> omega
   obtain ⟨S,hS⟩ := Classical.axiomOfChoice (r := fun j z => j < len -> V j = .int k z /\ (Lit.int k z).wf = true) (fun j => by
    by_cases hj : j < len
    · obtain ⟨s,h1,_,h3⟩ := DataW.trod_int he (hi j (by omega)).2;simp at h1;exact ⟨s,fun _ => ⟨h1,h3⟩⟩
    · exact ⟨0,fun h => absurd h hj⟩)
   refine ⟨some a,len,cap,S,rfl,hl,hm,(fun h => by cases h),fun hpos => ?_,fun j hj => (hS j hj).2⟩;obtain ⟨b,off,spot⟩ := a;have hc0 := (hi 0 (by omega)).1
   have hspot : spot = none := by simpa [Addr.add] using World.cell?_spot hc0
   subst hspot;refine ⟨b,off,rfl,?_,fun j hj => ?_⟩
   · refine hlt (MemPlace.cell b off) ?_;rw [hx];exact List.mem_append_left _ (MemPlace.mem_row.2 ⟨0,by omega,by simp⟩)
   · have := (hi j (by omega)).1;rw [qeZ] at this;rw [this,(hS j hj).1]
theorem qdm {P : Program} {t e : TypeId} {m : Nat} {v : Value} {y : DataW H × List MemPlace} (ht : P.underlying t = some (.slice e)) (he : P.underlying e = some (.int .u8)) (hC : P.cellsOf e = 1)
 (h : DataW.trod enc P W 0 sp hd m t [v] = some y) (hlt : ∀ q ∈ y.2,q.block < W.heap.size) :
 ∃ (A : Option Addr) (len cap : Nat) (l : List UInt8),v = .slice A len cap /\ cap <= maxLen /\ Lies W A len cap l /\ (0 < len -> ∀ a,A = some a -> a.block < W.heap.size) := by
 obtain ⟨A,len,cap,Z,rfl,hl,hm,hn,hrow,hwf⟩ := qgH ht he hC h hlt;refine ⟨A,len,cap,(List.range len).map (fun j => UInt8.ofNat (Z j).toNat),rfl,hm,⟨by simp,hl,hn,fun hpos => ?_⟩,fun hpos a e => ?_⟩
 · obtain ⟨g,off,e,hg,hc⟩ := hrow hpos;refine ⟨g,off,e,hg,fun j hj => ?_⟩
   have hj' : j < len := by simpa using hj
   rw [hc j hj'];have := qk3 (hwf j hj');simp only [List.getElem_map,List.getElem_range]
   have e2 : ((UInt8.ofNat (Z j).toNat).toNat : Int) = Z j := by simp; omega
   simp only [u8,e2]
 · obtain ⟨g,off,e2,hg,_⟩ := hrow hpos;rw [e2] at e;injection e with e;subst e;exact hg
end
end Go.Proofs.YtogbhedbgcmckaaGreat
set_option linter.unusedVariables false
set_option linter.unusedSimpArgs false
set_option maxRecDepth 100000
set_option maxHeartbeats 200000
namespace Go.Proofs.YtogbhedbgcmckaaGreat
open Go.RowKit
abbrev entV (i t : Int) (A : Option Addr) (n c : Nat) : Value := .agg #[.int .i64 i, .int .i64 t, .slice A n c]
theorem qe0 (n m : Nat) (z : Int) (h : z = (m : Int)) : decide ((n : Int) <= z) = decide (n <= m) := by
 subst h
 apply Bool.eq_iff_iff.2
 simp
theorem qkw (n : Nat) : ((n : Int) == 0) = decide (n = 0) := by
 apply Bool.eq_iff_iff.2
 simp
end Go.Proofs.YtogbhedbgcmckaaGreat
