/- Search trees with their depths, as lists, and how such a tree lies in memory. Plain mathematics, and lemmas on memory. -/
import Derived.WalkKit
namespace Go.Proofs.Ytcoddkbbgmjckaa
open Go.RowKit

inductive Tr (K V : Type) where
  | nil
  | node (k : K) (v : V) (l r : Tr K V)

namespace Tr
variable {K V : Type}

def size : Tr K V → Nat
  | .nil => 0
  | .node _ _ l r => l.size + 1 + r.size

def deep : Tr K V → Nat
  | .nil => 0
  | .node _ _ l r => Nat.max l.deep r.deep + 1

def list : Tr K V → List (K × V)
  | .nil => []
  | .node k v l r => l.list ++ (k, v) :: r.list

theorem size_nil : (Tr.nil : Tr K V).size = 0 := rfl
theorem size_node (k : K) (v : V) (l r : Tr K V) : (Tr.node k v l r).size = l.size + 1 + r.size := rfl
theorem deep_nil : (Tr.nil : Tr K V).deep = 0 := rfl
theorem deep_node (k : K) (v : V) (l r : Tr K V) : (Tr.node k v l r).deep = Nat.max l.deep r.deep + 1 := rfl

theorem deep_le : ∀ t : Tr K V, t.deep ≤ t.size
  | .nil => Nat.le_refl _
  | .node _ _ l r => by
    have a := deep_le l
    have b := deep_le r
    rw [deep_node, size_node]
    have c := Nat.max_le.2 ⟨Nat.le_trans a (Nat.le_add_right l.size r.size), Nat.le_trans b (Nat.le_add_left r.size l.size)⟩
    have d : Nat.max l.deep r.deep ≤ l.size + r.size := c
    omega

theorem length_list : ∀ t : Tr K V, t.list.length = t.size
  | .nil => rfl
  | .node k v l r => by simp [list, size_node, length_list l, length_list r]; omega

def leanR (l : Tr K V) (k : K) (v : V) (r : Tr K V) : Tr K V :=
  match l with
  | .nil => .node k v .nil r
  | .node lk lv ll lr => if lr.deep ≤ ll.deep then .node lk lv ll (.node k v lr r) else
    match lr with
    | .nil => .node k v (.node lk lv ll .nil) r
    | .node mk mv ml mr => .node mk mv (.node lk lv ll ml) (.node k v mr r)

def leanL (l : Tr K V) (k : K) (v : V) (r : Tr K V) : Tr K V :=
  match r with
  | .nil => .node k v l .nil
  | .node rk rv rl rr => if rl.deep ≤ rr.deep then .node rk rv (.node k v l rl) rr else
    match rl with
    | .nil => .node k v l (.node rk rv .nil rr)
    | .node mk mv ml mr => .node mk mv (.node k v l ml) (.node rk rv mr rr)

def bal (l : Tr K V) (k : K) (v : V) (r : Tr K V) : Tr K V :=
  if r.deep + 1 < l.deep then leanR l k v r else if l.deep + 1 < r.deep then leanL l k v r else .node k v l r

theorem size_leanR (l : Tr K V) (k : K) (v : V) (r : Tr K V) : (leanR l k v r).size = l.size + 1 + r.size := by
  unfold leanR
  split
  · rfl
  · split
    · simp only [size_node]; omega
    · split
      · rfl
      · simp only [size_node]; omega

theorem size_leanL (l : Tr K V) (k : K) (v : V) (r : Tr K V) : (leanL l k v r).size = l.size + 1 + r.size := by
  unfold leanL
  split
  · rfl
  · split
    · simp only [size_node]; omega
    · split
      · rfl
      · simp only [size_node]; omega

theorem size_bal (l : Tr K V) (k : K) (v : V) (r : Tr K V) : (bal l k v r).size = l.size + 1 + r.size := by
  unfold bal
  split
  · exact size_leanR l k v r
  · split
    · exact size_leanL l k v r
    · rfl

theorem list_leanR (l : Tr K V) (k : K) (v : V) (r : Tr K V) : (leanR l k v r).list = l.list ++ (k, v) :: r.list := by
  unfold leanR
  split
  · rfl
  · split
    · simp [list]
    · split
      · rfl
      · simp [list]

theorem list_leanL (l : Tr K V) (k : K) (v : V) (r : Tr K V) : (leanL l k v r).list = l.list ++ (k, v) :: r.list := by
  unfold leanL
  split
  · rfl
  · split
    · simp [list]
    · split
      · rfl
      · simp [list]

theorem list_bal (l : Tr K V) (k : K) (v : V) (r : Tr K V) : (bal l k v r).list = l.list ++ (k, v) :: r.list := by
  unfold bal
  split
  · exact list_leanR l k v r
  · split
    · exact list_leanL l k v r
    · rfl

def put (lt : K → K → Bool) (k : K) (v : V) : Tr K V → Tr K V
  | .nil => .node k v .nil .nil
  | .node nk nv l r => if lt k nk then bal (put lt k v l) nk nv r else if lt nk k then bal l nk nv (put lt k v r) else .node k v l r

theorem size_put (lt : K → K → Bool) (k : K) (v : V) : ∀ t : Tr K V, (put lt k v t).size ≤ t.size + 1
  | .nil => Nat.le_refl _
  | .node nk nv l r => by
    have a := size_put lt k v l
    have b := size_put lt k v r
    unfold put
    split
    · rw [size_bal, size_node]; omega
    · split
      · rw [size_bal, size_node]; omega
      · simp only [size_node]; omega

theorem put_size (lt : K → K → Bool) (k : K) (v : V) : ∀ t : Tr K V, t.size ≤ (put lt k v t).size
  | .nil => Nat.zero_le _
  | .node nk nv l r => by
    have a := put_size lt k v l
    have b := put_size lt k v r
    unfold put
    split
    · rw [size_bal, size_node]; omega
    · split
      · rw [size_bal, size_node]; omega
      · simp only [size_node]; omega

/-- The tree lies in a world, its root at an address. -/
def Rep (kv : K → Value) (vv : V → Value) (w : World) : Option Addr → Tr K V → Prop
  | u, .nil => u = none
  | u, .node k v l r => ∃ b ul ur, u = some ⟨b, 0, none⟩ ∧ w.cell? ⟨b, 0, none⟩ = some (kv k) ∧ w.cell? ⟨b, 1, none⟩ = some (vv v) ∧
      w.cell? ⟨b, 2, none⟩ = some (.pointer ul) ∧ w.cell? ⟨b, 3, none⟩ = some (.pointer ur) ∧
      w.cell? ⟨b, 4, none⟩ = some (.int .i64 ((l.size + 1 + r.size : Nat) : Int)) ∧ w.cell? ⟨b, 5, none⟩ = some (.int .i64 ((Nat.max l.deep r.deep + 1 : Nat) : Int)) ∧
      Rep kv vv w ul l ∧ Rep kv vv w ur r

theorem Rep.carry {kv : K → Value} {vv : V → Value} {w w' : World} (h : ∀ b o, b < w.heap.size → w'.cell? ⟨b, o, none⟩ = w.cell? ⟨b, o, none⟩) : ∀ {t : Tr K V} {u : Option Addr}, Rep kv vv w u t → Rep kv vv w' u t
  | .nil, _, hr => hr
  | .node k v l r, _, ⟨b, ul, ur, hu, c0, c1, c2, c3, c4, c5, hl, hr⟩ => by
    have hb : b < w.heap.size := World.block_lt_of_cell? w _ c0
    exact ⟨b, ul, ur, hu, (h b 0 hb).trans c0, (h b 1 hb).trans c1, (h b 2 hb).trans c2, (h b 3 hb).trans c3, (h b 4 hb).trans c4, (h b 5 hb).trans c5, Rep.carry h hl, Rep.carry h hr⟩

theorem Rep.below {kv : K → Value} {vv : V → Value} {w w' : World} {B : Nat} (hb : Below B w w') (hB : w.heap.size ≤ B) {t : Tr K V} {u : Option Addr} (h : Rep kv vv w u t) : Rep kv vv w' u t :=
  h.carry fun b o hlt => hb.cell (p := ⟨b, o, none⟩) (Nat.lt_of_lt_of_le hlt hB)

theorem Rep.alloc {kv : K → Value} {vv : V → Value} {w : World} (o : Obj) {t : Tr K V} {u : Option Addr} (h : Rep kv vv w u t) : Rep kv vv (w.alloc o) u t :=
  h.below ((Below.refl w.heap.size w).alloc (Nat.le_refl _) o) (Nat.le_refl _)

theorem Rep.drew {kv : K → Value} {vv : V → Value} {w : World} {t : Tr K V} {u : Option Addr} (h : Rep kv vv w u t) : Rep kv vv w.drew u t :=
  h.below ((Below.refl w.heap.size w).drew) (Nat.le_refl _)

/-- A new node of two sides, behind one other new block. -/
theorem Rep.made {kv : K → Value} {vv : V → Value} {w : World} {k : K} {v : V} {l r : Tr K V} {ul ur : Option Addr} {s d : Int} (hl : Rep kv vv w ul l) (hr : Rep kv vv w ur r) (o : Obj) (ty : TypeId)
    (hs : s = ((l.size + 1 + r.size : Nat) : Int)) (hd : d = ((Nat.max l.deep r.deep + 1 : Nat) : Int)) :
    Rep kv vv ((w.alloc o).alloc (.cells #[kv k, vv v, .pointer ul, .pointer ur, .int .i64 s, .int .i64 d] ty)).drew (some ⟨w.heap.size + 1, 0, none⟩) (.node k v l r) := by
  subst hs hd
  have e : ∀ i, ((w.alloc o).alloc (.cells #[kv k, vv v, .pointer ul, .pointer ur, .int .i64 ((l.size + 1 + r.size : Nat) : Int), .int .i64 ((Nat.max l.deep r.deep + 1 : Nat) : Int)] ty)).cell? ⟨w.heap.size + 1, i, none⟩ =
      #[kv k, vv v, .pointer ul, .pointer ur, .int .i64 ((l.size + 1 + r.size : Nat) : Int), .int .i64 ((Nat.max l.deep r.deep + 1 : Nat) : Int)][i]? := fun i => by
    simp
  exact ⟨w.heap.size + 1, ul, ur, rfl, e 0, e 1, e 2, e 3, e 4, e 5, ((hl.alloc o).alloc _).drew, ((hr.alloc o).alloc _).drew⟩

theorem Rep.nil_of {kv : K → Value} {vv : V → Value} {w : World} {t : Tr K V} (h : Rep kv vv w none t) : t = .nil := by
  cases t with
  | nil => rfl
  | node k v l r => obtain ⟨b, ul, ur, hu, _⟩ := h; cases hu

end Tr

theorem Tr.below_of {w W w' : World} (h : Below W.heap.size W w') (h0 : Below w.heap.size w W) : Below w.heap.size w w' := h0.trans (h.mono h0.size)

def ltS (a b : ByteArray) : Bool := Op.bytesLess a.toList b.toList
def ltI (a b : Int) : Bool := decide (a < b)

theorem bytesLess_lt : ∀ (x y : List UInt8), Op.bytesLess x y = decide (x < y)
  | [], [] => by simp [Op.bytesLess]
  | _ :: _, [] => by simp [Op.bytesLess]
  | [], _ :: _ => by simp [Op.bytesLess]
  | a :: x, b :: y => by
    rw [Op.bytesLess, bytesLess_lt x y, Bool.eq_iff_iff]
    simp [List.cons_lt_cons_iff]

theorem ltS_irr (a : ByteArray) : ltS a a = false := by
  unfold ltS; rw [bytesLess_lt]; exact decide_eq_false (List.lt_irrefl _)
theorem ltS_trans {a b c : ByteArray} (h : ltS a b = true) (k : ltS b c = true) : ltS a c = true := by
  unfold ltS at *; rw [bytesLess_lt] at *; exact decide_eq_true (List.lt_trans (of_decide_eq_true h) (of_decide_eq_true k))
theorem ltS_asymm {a b : ByteArray} (h : ltS b a = true) : ltS a b = false := by
  cases e : ltS a b with
  | false => rfl
  | true => rw [← ltS_irr a, ltS_trans e h]
theorem ltS_ne {a b : ByteArray} (h : ltS b a = true) : (a.toList == b.toList) = false := by
  cases e : (a.toList == b.toList) with
  | false => rfl
  | true =>
    have e' : a.toList = b.toList := by simpa using e
    have : ltS b a = ltS b b := by unfold ltS; rw [e']
    rw [this, ltS_irr] at h; cases h

theorem ltS_con {a b : ByteArray} (h : ltS a b = false) (k : ltS b a = false) : a = b := by
  unfold ltS at h k
  rw [bytesLess_lt] at h k
  have h1 : ¬ a.toList < b.toList := of_decide_eq_false h
  have h2 : ¬ b.toList < a.toList := of_decide_eq_false k
  have e : a.toList = b.toList := List.le_antisymm (Std.not_lt.1 h2) (Std.not_lt.1 h1)
  rw [ByteArray.toList_eq, ByteArray.toList_eq] at e
  exact WideShapes.bytes_inj e
theorem ltI_irr (a : Int) : ltI a a = false := by unfold ltI; simp
theorem ltI_trans {a b c : Int} (h : ltI a b = true) (k : ltI b c = true) : ltI a c = true := by
  unfold ltI at *; have h1 := of_decide_eq_true h; have h2 := of_decide_eq_true k; exact decide_eq_true (by omega)
theorem ltI_con {a b : Int} (h : ltI a b = false) (k : ltI b a = false) : a = b := by
  unfold ltI at *; have h1 := of_decide_eq_false h; have h2 := of_decide_eq_false k; omega
theorem ltI_asymm {a b : Int} (h : ltI b a = true) : ltI a b = false := by
  unfold ltI at *; have h1 := of_decide_eq_true h; exact decide_eq_false (by omega)

end Go.Proofs.Ytcoddkbbgmjckaa

namespace Go.Proofs.Ytcoddkbbgmjckaa

/-- A strict order that tells any two keys apart. -/
structure Lin {K : Type} (lt : K → K → Bool) : Prop where
  irr : ∀ a, lt a a = false
  tr : ∀ {a b c}, lt a b = true → lt b c = true → lt a c = true
  con : ∀ {a b}, lt a b = false → lt b a = false → a = b

theorem linS : Lin ltS := ⟨ltS_irr, ltS_trans, ltS_con⟩
theorem linI : Lin ltI := ⟨ltI_irr, ltI_trans, ltI_con⟩

theorem Lin.as {K : Type} {lt : K → K → Bool} (L : Lin lt) {a b : K} (h : lt a b = true) : lt b a = false := by
  cases e : lt b a with
  | false => rfl
  | true => rw [← L.irr a, L.tr h e]

namespace Tr
variable {K V : Type} {lt : K → K → Bool}

/-- The node at which a key stands. -/
def find (lt : K → K → Bool) (k : K) : Tr K V → Tr K V
  | .nil => .nil
  | .node nk nv l r => if lt k nk then find lt k l else if lt nk k then find lt k r else .node nk nv l r

def rank (lt : K → K → Bool) (k : K) : Tr K V → Nat
  | .nil => 0
  | .node nk _ l r => if lt nk k then l.size + 1 + rank lt k r else rank lt k l

def isNil : Tr K V → Bool
  | .nil => true
  | .node _ _ _ _ => false

/-- The first pair; of no node the given one. -/
def first (p : K × V) : Tr K V → K × V
  | .nil => p
  | .node nk nv l _ => first (nk, nv) l

def del (lt : K → K → Bool) : Tr K V → K → Tr K V
  | .nil, _ => .nil
  | .node nk nv l r, k => if lt k nk then bal (del lt l k) nk nv r else if lt nk k then bal l nk nv (del lt r k) else
    if l.isNil then r else if r.isNil then l else bal l (first (nk, nv) r).1 (first (nk, nv) r).2 (del lt r (first (nk, nv) r).1)

/-- The keys rise. -/
def Bst (lt : K → K → Bool) (t : Tr K V) : Prop := t.list.Pairwise fun a b => lt a.1 b.1 = true

theorem list_node (k : K) (v : V) (l r : Tr K V) : (Tr.node k v l r).list = l.list ++ (k, v) :: r.list := rfl

theorem Bst.node {k : K} {v : V} {l r : Tr K V} (h : Bst lt (.node k v l r)) :
    Bst lt l ∧ Bst lt r ∧ (∀ p ∈ l.list, lt p.1 k = true) ∧ (∀ p ∈ r.list, lt k p.1 = true) := by
  unfold Bst at h
  rw [list_node, List.pairwise_append, List.pairwise_cons] at h
  exact ⟨h.1, h.2.1.2, fun p hp => h.2.2 p hp _ (List.mem_cons_self), fun p hp => h.2.1.1 p hp⟩

def insL (lt : K → K → Bool) (k : K) (v : V) (l : List (K × V)) : List (K × V) := l.filter (fun p => lt p.1 k) ++ (k, v) :: l.filter (fun p => lt k p.1)
def delL (lt : K → K → Bool) (k : K) (l : List (K × V)) : List (K × V) := l.filter fun p => lt p.1 k || lt k p.1

theorem filter_all {α : Type} {p : α → Bool} {l : List α} (h : ∀ a ∈ l, p a = true) : l.filter p = l := List.filter_eq_self.2 h
theorem filter_none {α : Type} {p : α → Bool} {l : List α} (h : ∀ a ∈ l, p a = false) : l.filter p = [] := List.filter_eq_nil_iff.2 fun a ha => by rw [h a ha]; decide

theorem list_put (L : Lin lt) (k : K) (v : V) : ∀ t : Tr K V, Bst lt t → (put lt k v t).list = insL lt k v t.list
  | .nil, _ => rfl
  | .node nk nv l r, h => by
    obtain ⟨hl, hr, hlk, hrk⟩ := h.node
    unfold put
    split
    · rename_i c
      rw [list_bal, list_put L k v l hl, list_node]
      unfold insL
      rw [List.filter_append, List.filter_append, List.filter_cons, List.filter_cons, L.as c, c, filter_none (l := r.list) (p := fun p => lt p.1 k) (fun p hp => L.as (L.tr c (hrk p hp))), filter_all (l := r.list) (p := fun p => lt k p.1) (fun p hp => L.tr c (hrk p hp))]
      simp
    · rename_i c
      have c := eq_false_of_ne_true c
      split
      · rename_i d
        rw [list_bal, list_put L k v r hr, list_node]
        unfold insL
        rw [List.filter_append, List.filter_append, List.filter_cons, List.filter_cons, c, d, filter_all (l := l.list) (p := fun p => lt p.1 k) (fun p hp => L.tr (hlk p hp) d), filter_none (l := l.list) (p := fun p => lt k p.1) (fun p hp => L.as (L.tr (hlk p hp) d))]
        simp
      · rename_i d
        have d := eq_false_of_ne_true d
        obtain rfl := L.con c d
        rw [list_node, list_node]
        unfold insL
        rw [List.filter_append, List.filter_append, List.filter_cons, List.filter_cons, c, filter_all (l := l.list) (p := fun p => lt p.1 k) hlk, filter_none (l := l.list) (p := fun p => lt k p.1) (fun p hp => L.as (hlk p hp)),
          filter_none (l := r.list) (p := fun p => lt p.1 k) (fun p hp => L.as (hrk p hp)), filter_all (l := r.list) (p := fun p => lt k p.1) hrk]
        simp

theorem sorted_insL (L : Lin lt) (k : K) (v : V) {l : List (K × V)} (h : l.Pairwise fun a b => lt a.1 b.1 = true) : (insL lt k v l).Pairwise fun a b => lt a.1 b.1 = true := by
  unfold insL
  rw [List.pairwise_append, List.pairwise_cons]
  refine ⟨h.filter _, ⟨fun p hp => (List.mem_filter.1 hp).2, h.filter _⟩, fun a ha b hb => ?_⟩
  have ha' := (List.mem_filter.1 ha).2
  rcases List.mem_cons.1 hb with rfl | hb
  · exact ha'
  · exact L.tr ha' (List.mem_filter.1 hb).2

theorem Bst.put (L : Lin lt) (k : K) (v : V) {t : Tr K V} (h : Bst lt t) : Bst lt (put lt k v t) := by
  unfold Bst
  rw [list_put L k v t h]
  exact sorted_insL L k v h

theorem first_mem : ∀ (p : K × V) (t : Tr K V), first p t = p ∨ first p t ∈ t.list
  | _, .nil => Or.inl rfl
  | p, .node nk nv l r => by
    rcases first_mem (nk, nv) l with h | h
    · right; rw [first, h, list_node]; exact List.mem_append_right _ List.mem_cons_self
    · right; rw [first, list_node]; exact List.mem_append_left _ h

/-- The list begins with the first pair. -/
theorem first_head : ∀ (p : K × V) (t : Tr K V), t.isNil = false → ∃ l, t.list = first p t :: l
  | _, .nil, h => by cases h
  | p, .node nk nv l r, _ => by
    cases l with
    | nil => exact ⟨r.list, rfl⟩
    | node k v a b =>
      obtain ⟨m, hm⟩ := first_head (nk, nv) (.node k v a b) rfl
      exact ⟨m ++ (nk, nv) :: r.list, by rw [list_node, hm]; rfl⟩

theorem find_mem (L : Lin lt) (k : K) : ∀ t : Tr K V, Bst lt t → find lt k t = .nil → ∀ p ∈ t.list, p.1 ≠ k
  | .nil, _, _ => fun p hp => by cases hp
  | .node nk nv l r, h, hf => by
    obtain ⟨hl, hr, hlk, hrk⟩ := h.node
    unfold find at hf
    intro p hp
    rw [list_node] at hp
    split at hf
    · rename_i c
      rcases List.mem_append.1 hp with hp | hp
      · exact find_mem L k l hl hf p hp
      · rcases List.mem_cons.1 hp with rfl | hp
        · intro e; subst e; rw [L.irr] at c; cases c
        · intro e; subst e; rw [L.as (hrk p hp)] at c; cases c
    · split at hf
      · rename_i c
        rcases List.mem_append.1 hp with hp | hp
        · intro e; subst e; rw [L.as (hlk p hp)] at c; cases c
        · rcases List.mem_cons.1 hp with rfl | hp
          · intro e; subst e; rw [L.irr] at c; cases c
          · exact find_mem L k r hr hf p hp
      · cases hf

theorem find_node (L : Lin lt) (k : K) : ∀ (t : Tr K V) {k' : K} {v' : V} {a b : Tr K V}, find lt k t = .node k' v' a b → k' = k ∧ (k, v') ∈ t.list
  | .nil, _, _, _, _, hf => by cases hf
  | .node nk nv l r, k', v', a, b, hf => by
    unfold find at hf
    rw [list_node]
    split at hf
    · exact ⟨(find_node L k l hf).1, List.mem_append_left _ (find_node L k l hf).2⟩
    · rename_i c
      split at hf
      · exact ⟨(find_node L k r hf).1, List.mem_append_right _ (List.mem_cons_of_mem _ (find_node L k r hf).2)⟩
      · rename_i d
        obtain rfl := L.con (eq_false_of_ne_true c) (eq_false_of_ne_true d)
        cases hf
        exact ⟨rfl, List.mem_append_right _ List.mem_cons_self⟩

/-- A key that stands in the list is found. -/
theorem find_of_mem (L : Lin lt) {k : K} {v : V} {t : Tr K V} (h : Bst lt t) (hm : (k, v) ∈ t.list) : find lt k t ≠ .nil := fun e => find_mem L k t h e _ hm rfl

theorem list_del (L : Lin lt) : ∀ (t : Tr K V) (k : K), Bst lt t → (del lt t k).list = delL lt k t.list
  | .nil, _, _ => rfl
  | .node nk nv l r, k, h => by
    obtain ⟨hl, hr, hlk, hrk⟩ := h.node
    unfold del
    split
    · rename_i c
      rw [list_bal, list_del L l k hl, list_node]
      unfold delL
      rw [List.filter_append, List.filter_cons, L.as c, c, filter_all (l := r.list) (p := fun p => lt p.1 k || lt k p.1) (fun p hp => by rw [L.tr c (hrk p hp)]; simp)]
      simp
    · rename_i c
      have c := eq_false_of_ne_true c
      split
      · rename_i d
        rw [list_bal, list_del L r k hr, list_node]
        unfold delL
        rw [List.filter_append, List.filter_cons, c, d, filter_all (l := l.list) (p := fun p => lt p.1 k || lt k p.1) (fun p hp => by rw [L.tr (hlk p hp) d]; simp)]
        simp
      · rename_i d
        have d := eq_false_of_ne_true d
        obtain rfl := L.con c d
        have key : delL lt k (l.list ++ (k, nv) :: r.list) = l.list ++ r.list := by
          unfold delL
          rw [List.filter_append, List.filter_cons, c, filter_all (l := l.list) (p := fun p => lt p.1 k || lt k p.1) (fun p hp => by rw [hlk p hp]; simp), filter_all (l := r.list) (p := fun p => lt p.1 k || lt k p.1) (fun p hp => by rw [hrk p hp]; simp)]
          simp
        rw [list_node, key]
        split
        · rename_i e
          cases l with
          | nil => rfl
          | node _ _ _ _ => cases e
        · split
          · rename_i e
            cases r with
            | nil => simp [list]
            | node _ _ _ _ => cases e
          · rename_i e
            obtain ⟨m, hm⟩ := first_head (k, nv) r (eq_false_of_ne_true e)
            have hr' := hr
            unfold Bst at hr'
            rw [hm, List.pairwise_cons] at hr'
            rw [list_bal, list_del L r _ hr, hm]
            unfold delL
            rw [List.filter_cons, L.irr, filter_all (l := m) (p := fun p => lt p.1 (first (k, nv) r).1 || lt (first (k, nv) r).1 p.1) (fun p hp => by rw [hr'.1 p hp]; simp)]
            simp

theorem Bst.del (L : Lin lt) {t : Tr K V} (k : K) (h : Bst lt t) : Bst lt (del lt t k) := by
  unfold Bst
  rw [list_del L t k h]
  exact List.Pairwise.filter _ h

theorem size_del (L : Lin lt) {t : Tr K V} (k : K) (h : Bst lt t) : (del lt t k).size ≤ t.size := by
  rw [← length_list, ← length_list, list_del L t k h]
  exact List.length_filter_le _ _

theorem rank_eq (L : Lin lt) (k : K) : ∀ t : Tr K V, Bst lt t → rank lt k t = (t.list.filter fun p => lt p.1 k).length
  | .nil, _ => rfl
  | .node nk nv l r, h => by
    obtain ⟨hl, hr, hlk, hrk⟩ := h.node
    unfold rank
    rw [list_node, List.filter_append, List.filter_cons]
    split
    · rename_i c
      rw [filter_all (l := l.list) (p := fun p => lt p.1 k) (fun p hp => L.tr (hlk p hp) c), rank_eq L k r hr]
      simp [length_list]; omega
    · rename_i c
      have c := eq_false_of_ne_true c
      have : ∀ p ∈ r.list, lt p.1 k = false := fun p hp => by
        cases e : lt p.1 k with
        | false => rfl
        | true => rw [← c, L.tr (hrk p hp) e]
      rw [filter_none (l := r.list) (p := fun p => lt p.1 k) this, rank_eq L k l hl]
      simp

theorem rank_le (L : Lin lt) (k : K) {t : Tr K V} (h : Bst lt t) : rank lt k t ≤ t.size := by
  rw [rank_eq L k t h, ← length_list]; exact List.length_filter_le _ _

/-- The pairs at the places from one on, below another. -/
def sub (f t : Int) (l : List (K × V)) : List (K × V) := (l.drop f.toNat).take (t.toNat - f.toNat)

theorem sub_nil (f t : Int) : sub f t ([] : List (K × V)) = [] := by unfold sub; simp
theorem sub_none (f t : Nat) (l : List (K × V)) (h : t ≤ f) : sub (f : Int) (t : Int) l = [] := by
  unfold sub; rw [show ((t : Int).toNat - (f : Int).toNat) = 0 by omega]; rfl
theorem sub_all (l : List (K × V)) {n : Nat} (h : l.length = n) : sub ((0 : Nat) : Int) (n : Int) l = l := by
  subst h; unfold sub; simp
theorem sub_to (f t : Int) (l : List (K × V)) (h : t ≤ 0) : sub f t l = [] := by
  unfold sub; rw [show t.toNat - f.toNat = 0 by omega]; rfl
theorem sub_from (f t : Int) (l : List (K × V)) (h : (l.length : Int) ≤ f) : sub f t l = [] := by
  unfold sub; rw [List.drop_eq_nil_of_le (by omega)]; simp
theorem sub_node (f t : Int) (l r : List (K × V)) (p : K × V) :
    sub f t (l ++ p :: r) = sub f t l ++ ((if f ≤ l.length ∧ (l.length : Int) < t then [p] else []) ++ sub (f - l.length - 1) (t - l.length - 1) r) := by
  unfold sub
  rw [List.drop_append, List.take_append]
  congr 1
  rw [List.length_drop]
  by_cases h1 : f ≤ l.length
  · rw [show f.toNat - l.length = 0 by omega, List.drop_zero]
    by_cases h2 : (l.length : Int) < t
    · rw [if_pos ⟨h1, h2⟩, show t.toNat - f.toNat - (l.length - f.toNat) = (t - l.length - 1).toNat - (f - l.length - 1).toNat + 1 by omega, List.take_succ_cons, show (f - l.length - 1).toNat = 0 by omega]
      rfl
    · rw [if_neg (fun h => h2 h.2), show t.toNat - f.toNat - (l.length - f.toNat) = 0 by omega, show (t - l.length - 1).toNat - (f - l.length - 1).toNat = 0 by omega]
      rfl
  · rw [if_neg (fun h => h1 h.1), show f.toNat - l.length = (f - l.length - 1).toNat + 1 by omega, List.drop_succ_cons, List.nil_append]
    congr 1
    omega

theorem at_left {l r : List (K × V)} {p q : K × V} {j : Nat} (h : (l ++ q :: r)[j]? = some p) (hj : j < l.length) : l[j]? = some p := by
  rwa [List.getElem?_append_left hj] at h
theorem at_here {l r : List (K × V)} {p q : K × V} {j : Nat} (h : (l ++ q :: r)[j]? = some p) (hj : j = l.length) : q = p := by
  subst hj; rw [List.getElem?_append_right (Nat.le_refl _), Nat.sub_self] at h; simpa using h
theorem at_right {l r : List (K × V)} {p q : K × V} {j : Nat} (h : (l ++ q :: r)[j]? = some p) (hj : l.length < j) : r[j - l.length - 1]? = some p := by
  rw [List.getElem?_append_right (Nat.le_of_lt hj)] at h
  rw [show j - l.length = (j - l.length - 1) + 1 by omega, List.getElem?_cons_succ] at h
  exact h

/-- A store into a block of one cell: no node lies there. -/
theorem Rep.setCell {kv : K → Value} {vv : V → Value} {w : World} {g i : Nat} (hg : w.cell? ⟨g, 1, none⟩ = none) (x : Value) : ∀ {t : Tr K V} {u : Option Addr}, Rep kv vv w u t → Rep kv vv (w.setCell ⟨g, i, none⟩ x) u t
  | .nil, _, hr => hr
  | .node k v l r, _, ⟨b, ul, ur, hu, c0, c1, c2, c3, c4, c5, hl, hr⟩ => by
    have hb : g ≠ b := by rintro rfl; rw [hg] at c1; cases c1
    have h : ∀ o, (w.setCell ⟨g, i, none⟩ x).cell? ⟨b, o, none⟩ = w.cell? ⟨b, o, none⟩ := fun o => World.cell?_setCell_other w ⟨g, i, none⟩ ⟨b, o, none⟩ x (fun e => hb (by injection e))
    exact ⟨b, ul, ur, hu, (h 0).trans c0, (h 1).trans c1, (h 2).trans c2, (h 3).trans c3, (h 4).trans c4, (h 5).trans c5, Rep.setCell hg x hl, Rep.setCell hg x hr⟩

end Tr
end Go.Proofs.Ytcoddkbbgmjckaa
