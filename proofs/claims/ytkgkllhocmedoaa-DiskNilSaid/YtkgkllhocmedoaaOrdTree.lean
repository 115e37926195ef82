/- Search trees with their depths, as lists, and how such a tree lies in memory. Plain mathematics, and lemmas on memory. -/
import Derived.WalkKit
namespace Go.Proofs.Ytkgkllhocmedoaa
open Go.RowKit

inductive Tr (K V : Type) where
  | nil
  | node (k : K) (v : V) (l r : Tr K V)

namespace Tr
variable {K V : Type}

def size : Tr K V → Nat
  | .nil => 0
  | .node _ _ l r => l.size + 1 + r.size

def deep : Tr K V → Nat
  | .nil => 0
  | .node _ _ l r => Nat.max l.deep r.deep + 1

def list : Tr K V → List (K × V)
  | .nil => []
  | .node k v l r => l.list ++ (k, v) :: r.list

theorem size_nil : (Tr.nil : Tr K V).size = 0 := rfl
theorem size_node (k : K) (v : V) (l r : Tr K V) : (Tr.node k v l r).size = l.size + 1 + r.size := rfl
theorem deep_nil : (Tr.nil : Tr K V).deep = 0 := rfl
theorem deep_node (k : K) (v : V) (l r : Tr K V) : (Tr.node k v l r).deep = Nat.max l.deep r.deep + 1 := rfl

theorem deep_le : ∀ t : Tr K V, t.deep ≤ t.size
  | .nil => Nat.le_refl _
  | .node _ _ l r => by
    have a := deep_le l
    have b := deep_le r
    rw [deep_node, size_node]
    have c := Nat.max_le.2 ⟨Nat.le_trans a (Nat.le_add_right l.size r.size), Nat.le_trans b (Nat.le_add_left r.size l.size)⟩
    have d : Nat.max l.deep r.deep ≤ l.size + r.size := c
    omega

theorem length_list : ∀ t : Tr K V, t.list.length = t.size
  | .nil => rfl
  | .node k v l r => by simp [list, size_node, length_list l, length_list r]; omega

def leanR (l : Tr K V) (k : K) (v : V) (r : Tr K V) : Tr K V :=
  match l with
  | .nil => .node k v .nil r
  | .node lk lv ll lr => if lr.deep ≤ ll.deep then .node lk lv ll (.node k v lr r) else
    match lr with
    | .nil => .node k v (.node lk lv ll .nil) r
    | .node mk mv ml mr => .node mk mv (.node lk lv ll ml) (.node k v mr r)

def leanL (l : Tr K V) (k : K) (v : V) (r : Tr K V) : Tr K V :=
  match r with
  | .nil => .node k v l .nil
  | .node rk rv rl rr => if rl.deep ≤ rr.deep then .node rk rv (.node k v l rl) rr else
    match rl with
    | .nil => .node k v l (.node rk rv .nil rr)
    | .node mk mv ml mr => .node mk mv (.node k v l ml) (.node rk rv mr rr)

def bal (l : Tr K V) (k : K) (v : V) (r : Tr K V) : Tr K V :=
  if r.deep + 1 < l.deep then leanR l k v r else if l.deep + 1 < r.deep then leanL l k v r else .node k v l r

theorem size_leanR (l : Tr K V) (k : K) (v : V) (r : Tr K V) : (leanR l k v r).size = l.size + 1 + r.size := by
  unfold leanR
  split
  · rfl
  · split
    · simp only [size_node]; omega
    · split
      · rfl
      · simp only [size_node]; omega

theorem size_leanL (l : Tr K V) (k : K) (v : V) (r : Tr K V) : (leanL l k v r).size = l.size + 1 + r.size := by
  unfold leanL
  split
  · rfl
  · split
    · simp only [size_node]; omega
    · split
      · rfl
      · simp only [size_node]; omega

theorem size_bal (l : Tr K V) (k : K) (v : V) (r : Tr K V) : (bal l k v r).size = l.size + 1 + r.size := by
  unfold bal
  split
  · exact size_leanR l k v r
  · split
    · exact size_leanL l k v r
    · rfl

theorem list_leanR (l : Tr K V) (k : K) (v : V) (r : Tr K V) : (leanR l k v r).list = l.list ++ (k, v) :: r.list := by
  unfold leanR
  split
  · rfl
  · split
    · simp [list]
    · split
      · rfl
      · simp [list]

theorem list_leanL (l : Tr K V) (k : K) (v : V) (r : Tr K V) : (leanL l k v r).list = l.list ++ (k, v) :: r.list := by
  unfold leanL
  split
  · rfl
  · split
    · simp [list]
    · split
      · rfl
      · simp [list]

theorem list_bal (l : Tr K V) (k : K) (v : V) (r : Tr K V) : (bal l k v r).list = l.list ++ (k, v) :: r.list := by
  unfold bal
  split
  · exact list_leanR l k v r
  · split
    · exact list_leanL l k v r
    · rfl

def put (lt : K → K → Bool) (k : K) (v : V) : Tr K V → Tr K V
  | .nil => .node k v .nil .nil
  | .node nk nv l r => if lt k nk then bal (put lt k v l) nk nv r else if lt nk k then bal l nk nv (put lt k v r) else .node k v l r

theorem size_put (lt : K → K → Bool) (k : K) (v : V) : ∀ t : Tr K V, (put lt k v t).size ≤ t.size + 1
  | .nil => Nat.le_refl _
  | .node nk nv l r => by
    have a := size_put lt k v l
    have b := size_put lt k v r
    unfold put
    split
    · rw [size_bal, size_node]; omega
    · split
      · rw [size_bal, size_node]; omega
      · simp only [size_node]; omega

theorem put_size (lt : K → K → Bool) (k : K) (v : V) : ∀ t : Tr K V, t.size ≤ (put lt k v t).size
  | .nil => Nat.zero_le _
  | .node nk nv l r => by
    have a := put_size lt k v l
    have b := put_size lt k v r
    unfold put
    split
    · rw [size_bal, size_node]; omega
    · split
      · rw [size_bal, size_node]; omega
      · simp only [size_node]; omega

/-- The tree lies in a world, its root at an address. -/
def Rep (kv : K → Value) (vv : V → Value) (w : World) : Option Addr → Tr K V → Prop
  | u, .nil => u = none
  | u, .node k v l r => ∃ b ul ur, u = some ⟨b, 0, none⟩ ∧ w.cell? ⟨b, 0, none⟩ = some (kv k) ∧ w.cell? ⟨b, 1, none⟩ = some (vv v) ∧
      w.cell? ⟨b, 2, none⟩ = some (.pointer ul) ∧ w.cell? ⟨b, 3, none⟩ = some (.pointer ur) ∧
      w.cell? ⟨b, 4, none⟩ = some (.int .i64 ((l.size + 1 + r.size : Nat) : Int)) ∧ w.cell? ⟨b, 5, none⟩ = some (.int .i64 ((Nat.max l.deep r.deep + 1 : Nat) : Int)) ∧
      Rep kv vv w ul l ∧ Rep kv vv w ur r

theorem Rep.carry {kv : K → Value} {vv : V → Value} {w w' : World} (h : ∀ b o, b < w.heap.size → w'.cell? ⟨b, o, none⟩ = w.cell? ⟨b, o, none⟩) : ∀ {t : Tr K V} {u : Option Addr}, Rep kv vv w u t → Rep kv vv w' u t
  | .nil, _, hr => hr
  | .node k v l r, _, ⟨b, ul, ur, hu, c0, c1, c2, c3, c4, c5, hl, hr⟩ => by
    have hb : b < w.heap.size := World.block_lt_of_cell? w _ c0
    exact ⟨b, ul, ur, hu, (h b 0 hb).trans c0, (h b 1 hb).trans c1, (h b 2 hb).trans c2, (h b 3 hb).trans c3, (h b 4 hb).trans c4, (h b 5 hb).trans c5, Rep.carry h hl, Rep.carry h hr⟩

theorem Rep.below {kv : K → Value} {vv : V → Value} {w w' : World} {B : Nat} (hb : Below B w w') (hB : w.heap.size ≤ B) {t : Tr K V} {u : Option Addr} (h : Rep kv vv w u t) : Rep kv vv w' u t :=
  h.carry fun b o hlt => hb.cell (p := ⟨b, o, none⟩) (Nat.lt_of_lt_of_le hlt hB)

theorem Rep.alloc {kv : K → Value} {vv : V → Value} {w : World} (o : Obj) {t : Tr K V} {u : Option Addr} (h : Rep kv vv w u t) : Rep kv vv (w.alloc o) u t :=
  h.below ((Below.refl w.heap.size w).alloc (Nat.le_refl _) o) (Nat.le_refl _)

theorem Rep.drew {kv : K → Value} {vv : V → Value} {w : World} {t : Tr K V} {u : Option Addr} (h : Rep kv vv w u t) : Rep kv vv w.drew u t :=
  h.below ((Below.refl w.heap.size w).drew) (Nat.le_refl _)

/-- A new node of two sides, behind one other new block. -/
theorem Rep.made {kv : K → Value} {vv : V → Value} {w : World} {k : K} {v : V} {l r : Tr K V} {ul ur : Option Addr} {s d : Int} (hl : Rep kv vv w ul l) (hr : Rep kv vv w ur r) (o : Obj) (ty : TypeId)
    (hs : s = ((l.size + 1 + r.size : Nat) : Int)) (hd : d = ((Nat.max l.deep r.deep + 1 : Nat) : Int)) :
    Rep kv vv ((w.alloc o).alloc (.cells #[kv k, vv v, .pointer ul, .pointer ur, .int .i64 s, .int .i64 d] ty)).drew (some ⟨w.heap.size + 1, 0, none⟩) (.node k v l r) := by
  subst hs hd
  have e : ∀ i, ((w.alloc o).alloc (.cells #[kv k, vv v, .pointer ul, .pointer ur, .int .i64 ((l.size + 1 + r.size : Nat) : Int), .int .i64 ((Nat.max l.deep r.deep + 1 : Nat) : Int)] ty)).cell? ⟨w.heap.size + 1, i, none⟩ =
      #[kv k, vv v, .pointer ul, .pointer ur, .int .i64 ((l.size + 1 + r.size : Nat) : Int), .int .i64 ((Nat.max l.deep r.deep + 1 : Nat) : Int)][i]? := fun i => by
    simp
  exact ⟨w.heap.size + 1, ul, ur, rfl, e 0, e 1, e 2, e 3, e 4, e 5, ((hl.alloc o).alloc _).drew, ((hr.alloc o).alloc _).drew⟩

theorem Rep.nil_of {kv : K → Value} {vv : V → Value} {w : World} {t : Tr K V} (h : Rep kv vv w none t) : t = .nil := by
  cases t with
  | nil => rfl
  | node k v l r => obtain ⟨b, ul, ur, hu, _⟩ := h; cases hu

end Tr

theorem Tr.below_of {w W w' : World} (h : Below W.heap.size W w') (h0 : Below w.heap.size w W) : Below w.heap.size w w' := h0.trans (h.mono h0.size)

def ltS (a b : ByteArray) : Bool := Op.bytesLess a.toList b.toList
def ltI (a b : Int) : Bool := decide (a < b)

theorem bytesLess_lt : ∀ (x y : List UInt8), Op.bytesLess x y = decide (x < y)
  | [], [] => by simp [Op.bytesLess]
  | _ :: _, [] => by simp [Op.bytesLess]
  | [], _ :: _ => by simp [Op.bytesLess]
  | a :: x, b :: y => by
    rw [Op.bytesLess, bytesLess_lt x y, Bool.eq_iff_iff]
    simp [List.cons_lt_cons_iff]

theorem ltS_irr (a : ByteArray) : ltS a a = false := by
  unfold ltS; rw [bytesLess_lt]; exact decide_eq_false (List.lt_irrefl _)
theorem ltS_trans {a b c : ByteArray} (h : ltS a b = true) (k : ltS b c = true) : ltS a c = true := by
  unfold ltS at *; rw [bytesLess_lt] at *; exact decide_eq_true (List.lt_trans (of_decide_eq_true h) (of_decide_eq_true k))
theorem ltS_asymm {a b : ByteArray} (h : ltS b a = true) : ltS a b = false := by
  cases e : ltS a b with
  | false => rfl
  | true => rw [← ltS_irr a, ltS_trans e h]
theorem ltS_ne {a b : ByteArray} (h : ltS b a = true) : (a.toList == b.toList) = false := by
  cases e : (a.toList == b.toList) with
  | false => rfl
  | true =>
    have e' : a.toList = b.toList := by simpa using e
    have : ltS b a = ltS b b := by unfold ltS; rw [e']
    rw [this, ltS_irr] at h; cases h

theorem ltS_con {a b : ByteArray} (h : ltS a b = false) (k : ltS b a = false) : a = b := by
  unfold ltS at h k
  rw [bytesLess_lt] at h k
  have h1 : ¬ a.toList < b.toList := of_decide_eq_false h
  have h2 : ¬ b.toList < a.toList := of_decide_eq_false k
  have e : a.toList = b.toList := List.le_antisymm (Std.not_lt.1 h2) (Std.not_lt.1 h1)
  rw [ByteArray.toList_eq, ByteArray.toList_eq] at e
  exact WideShapes.bytes_inj e
theorem ltI_irr (a : Int) : ltI a a = false := by unfold ltI; simp
theorem ltI_trans {a b c : Int} (h : ltI a b = true) (k : ltI b c = true) : ltI a c = true := by
  unfold ltI at *; have h1 := of_decide_eq_true h; have h2 := of_decide_eq_true k; exact decide_eq_true (by omega)
theorem ltI_con {a b : Int} (h : ltI a b = false) (k : ltI b a = false) : a = b := by
  unfold ltI at *; have h1 := of_decide_eq_false h; have h2 := of_decide_eq_false k; omega
theorem ltI_asymm {a b : Int} (h : ltI b a = true) : ltI a b = false := by
  unfold ltI at *; have h1 := of_decide_eq_true h; exact decide_eq_false (by omega)

end Go.Proofs.Ytkgkllhocmedoaa
