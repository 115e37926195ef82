/- Search trees with their depths, as lists, and how such a tree lies in memory. Plain mathematics, and lemmas on memory. -/
import Derived.WalkKit
set_option linter.unusedVariables false
set_option linter.unusedSimpArgs false
set_option maxRecDepth 100000
set_option maxHeartbeats 200000
namespace Go.Proofs.YtmeoooojmhhahaaGreat
open Go.RowKit
inductive Tr (K V : Type) where
 | nil
 | node (k : K) (v : V) (l r : Tr K V)
namespace Tr
variable {K V : Type}
def size : Tr K V -> Nat
 | .nil => 0
 | .node _ _ l r => l.size + 1 + r.size
def deep : Tr K V -> Nat
 | .nil => 0
 | .node _ _ l r => Nat.max l.deep r.deep + 1
def list : Tr K V -> List (K × V)
 | .nil => []
 | .node k v l r => l.list ++ (k,v) :: r.list
theorem size_nil : (Tr.nil : Tr K V).size = 0 := rfl
theorem size_node (k : K) (v : V) (l r : Tr K V) : (Tr.node k v l r).size = l.size + 1 + r.size := rfl
theorem deep_nil : (Tr.nil : Tr K V).deep = 0 := rfl
theorem deep_node (k : K) (v : V) (l r : Tr K V) : (Tr.node k v l r).deep = Nat.max l.deep r.deep + 1 := rfl
theorem deep_le : ∀ t : Tr K V,t.deep <= t.size
 | .nil => Nat.le_refl _
 | .node _ _ l r => by
   have a := deep_le l
   have b := deep_le r
   rw [deep_node,size_node]
   have c := Nat.max_le.2 ⟨Nat.le_trans a (Nat.le_add_right l.size r.size),Nat.le_trans b (Nat.le_add_left r.size l.size)⟩
   have d : Nat.max l.deep r.deep <= l.size + r.size := c
   omega
theorem length_list : ∀ t : Tr K V,t.list.length = t.size
 | .nil => rfl
 | .node k v l r => by simp [list,size_node,length_list l,length_list r]; omega
def leanR (l : Tr K V) (k : K) (v : V) (r : Tr K V) : Tr K V :=
 match l with
 | .nil => .node k v .nil r
 | .node lk lv ll lr => if lr.deep <= ll.deep then .node lk lv ll (.node k v lr r) else
   match lr with
   | .nil => .node k v (.node lk lv ll .nil) r
   | .node mk mv ml mr => .node mk mv (.node lk lv ll ml) (.node k v mr r)
def leanL (l : Tr K V) (k : K) (v : V) (r : Tr K V) : Tr K V :=
 match r with
 | .nil => .node k v l .nil
 | .node rk rv rl rr => if rl.deep <= rr.deep then .node rk rv (.node k v l rl) rr else
   match rl with
   | .nil => .node k v l (.node rk rv .nil rr)
   | .node mk mv ml mr => .node mk mv (.node k v l ml) (.node rk rv mr rr)
def bal (l : Tr K V) (k : K) (v : V) (r : Tr K V) : Tr K V :=
 if r.deep + 1 < l.deep then leanR l k v r else if l.deep + 1 < r.deep then leanL l k v r else .node k v l r
theorem qiO (l : Tr K V) (k : K) (v : V) (r : Tr K V) : (leanR l k v r).size = l.size + 1 + r.size := by
 unfold leanR
 split
 · rfl
 · split
   · simp only [size_node]; omega
   · split
     · rfl
     · simp only [size_node]; omega
theorem qiP (l : Tr K V) (k : K) (v : V) (r : Tr K V) : (leanL l k v r).size = l.size + 1 + r.size := by
 unfold leanL
 split
 · rfl
 · split
   · simp only [size_node]; omega
   · split
     · rfl
     · simp only [size_node]; omega
theorem qg0 (l : Tr K V) (k : K) (v : V) (r : Tr K V) : (bal l k v r).size = l.size + 1 + r.size := by
 unfold bal
 split
 · exact qiO l k v r
 · split
   · exact qiP l k v r
   · rfl
theorem qiQ (l : Tr K V) (k : K) (v : V) (r : Tr K V) : (leanR l k v r).list = l.list ++ (k,v) :: r.list := by
 unfold leanR
 split
 · rfl
 · split
   · simp [list]
   · split
     · rfl
     · simp [list]
theorem qiR (l : Tr K V) (k : K) (v : V) (r : Tr K V) : (leanL l k v r).list = l.list ++ (k,v) :: r.list := by
 unfold leanL
 split
 · rfl
 · split
   · simp [list]
   · split
     · rfl
     · simp [list]
theorem qcv (l : Tr K V) (k : K) (v : V) (r : Tr K V) : (bal l k v r).list = l.list ++ (k,v) :: r.list := by
 unfold bal
 split
 · exact qiQ l k v r
 · split
   · exact qiR l k v r
   · rfl
def put (lt : K -> K -> Bool) (k : K) (v : V) : Tr K V -> Tr K V
 | .nil => .node k v .nil .nil
 | .node nk nv l r => if lt k nk then bal (put lt k v l) nk nv r else if lt nk k then bal l nk nv (put lt k v r) else .node k v l r
theorem size_put (lt : K -> K -> Bool) (k : K) (v : V) : ∀ t : Tr K V,(put lt k v t).size <= t.size + 1
 | .nil => Nat.le_refl _
 | .node nk nv l r => by
   have a := size_put lt k v l
   have b := size_put lt k v r
   unfold put
   split
   · rw [qg0,size_node]; omega
   · split
     · rw [qg0,size_node]; omega
     · simp only [size_node]; omega
end Tr
theorem Tr.below_of {w W w' : World} (h : Below W.heap.size W w') (h0 : Below w.heap.size w W) : Below w.heap.size w w' := h0.trans (h.mono h0.size)
def ltS (a b : ByteArray) : Bool := Op.bytesLess a.toList b.toList
theorem qbG : ∀ (x y : List UInt8),Op.bytesLess x y = decide (x < y)
 | [],[] => by simp [Op.bytesLess]
 | _ :: _,[] => by simp [Op.bytesLess]
 | [],_ :: _ => by simp [Op.bytesLess]
 | a :: x,b :: y => by
   rw [Op.bytesLess,qbG x y,Bool.eq_iff_iff]
   simp [List.cons_lt_cons_iff]
theorem qaN (a : ByteArray) : ltS a a = false := by
 unfold ltS; rw [qbG]; exact decide_eq_false (List.lt_irrefl _)
theorem qcO {a b c : ByteArray} (h : ltS a b = true) (k : ltS b c = true) : ltS a c = true := by
 unfold ltS at *; rw [qbG] at *; exact decide_eq_true (List.lt_trans (of_decide_eq_true h) (of_decide_eq_true k))
theorem qaE {a b : ByteArray} (h : ltS b a = true) : ltS a b = false := by
 cases e : ltS a b with
 | false => rfl
 | true => rw [<- qaN a,qcO e h]
theorem qg1 {a b : ByteArray} (h : ltS b a = true) : (a.toList == b.toList) = false := by
 cases e : (a.toList == b.toList) with
 | false => rfl
 | true =>
   have e' : a.toList = b.toList := by simpa using e
   have : ltS b a = ltS b b := by unfold ltS; rw [e']
   rw [this,qaN] at h; cases h
theorem qbz {a b : ByteArray} (h : ltS a b = false) (k : ltS b a = false) : a = b := by
 unfold ltS at h k
 rw [qbG] at h k
 have h1 : ¬ a.toList < b.toList := of_decide_eq_false h
 have h2 : ¬ b.toList < a.toList := of_decide_eq_false k
 have e : a.toList = b.toList := List.le_antisymm (Std.not_lt.1 h2) (Std.not_lt.1 h1)
 rw [ByteArray.toList_eq,ByteArray.toList_eq] at e
 exact WideShapes.bytes_inj e
end Go.Proofs.YtmeoooojmhhahaaGreat
namespace Go.Proofs.YtmeoooojmhhahaaGreat
structure Lin {K : Type} (lt : K -> K -> Bool) : Prop where
 irr : ∀ a,lt a a = false
 tr : ∀ {a b c},lt a b = true -> lt b c = true -> lt a c = true
 con : ∀ {a b},lt a b = false -> lt b a = false -> a = b
theorem linS : Lin ltS := ⟨qaN,qcO,qbz⟩
theorem Lin.as {K : Type} {lt : K -> K -> Bool} (L : Lin lt) {a b : K} (h : lt a b = true) : lt b a = false := by
 cases e : lt b a with
 | false => rfl
 | true => rw [<- L.irr a,L.tr h e]
namespace Tr
variable {K V : Type} {lt : K → K → Bool}
def find (lt : K -> K -> Bool) (k : K) : Tr K V -> Tr K V
 | .nil => .nil
 | .node nk nv l r => if lt k nk then find lt k l else if lt nk k then find lt k r else .node nk nv l r
def isNil : Tr K V -> Bool
 | .nil => true
 | .node _ _ _ _ => false
def first (p : K × V) : Tr K V -> K × V
 | .nil => p
 | .node nk nv l _ => first (nk,nv) l
def del (lt : K -> K -> Bool) : Tr K V -> K -> Tr K V
 | .nil,_ => .nil
 | .node nk nv l r,k => if lt k nk then bal (del lt l k) nk nv r else if lt nk k then bal l nk nv (del lt r k) else
   if l.isNil then r else if r.isNil then l else bal l (first (nk,nv) r).1 (first (nk,nv) r).2 (del lt r (first (nk,nv) r).1)
def Bst (lt : K -> K -> Bool) (t : Tr K V) : Prop := t.list.Pairwise fun a b => lt a.1 b.1 = true
theorem qav (k : K) (v : V) (l r : Tr K V) : (Tr.node k v l r).list = l.list ++ (k,v) :: r.list := rfl
theorem Bst.node {k : K} {v : V} {l r : Tr K V} (h : Bst lt (.node k v l r)) :
 Bst lt l /\ Bst lt r /\ (∀ p ∈ l.list,lt p.1 k = true) /\ (∀ p ∈ r.list,lt k p.1 = true) := by
 unfold Bst at h
 rw [qav,List.pairwise_append,List.pairwise_cons] at h
 exact ⟨h.1,h.2.1.2,fun p hp => h.2.2 p hp _ (List.mem_cons_self),fun p hp => h.2.1.1 p hp⟩
def insL (lt : K -> K -> Bool) (k : K) (v : V) (l : List (K × V)) : List (K × V) := l.filter (fun p => lt p.1 k) ++ (k,v) :: l.filter (fun p => lt k p.1)
def delL (lt : K -> K -> Bool) (k : K) (l : List (K × V)) : List (K × V) := l.filter fun p => lt p.1 k || lt k p.1
theorem filter_all {α : Type} {p : α -> Bool} {l : List α} (h : ∀ a ∈ l,p a = true) : l.filter p = l := List.filter_eq_self.2 h
theorem qbY {α : Type} {p : α -> Bool} {l : List α} (h : ∀ a ∈ l,p a = false) : l.filter p = [] := List.filter_eq_nil_iff.2 fun a ha => by rw [h a ha]; decide
theorem list_put (L : Lin lt) (k : K) (v : V) : ∀ t : Tr K V,Bst lt t -> (put lt k v t).list = insL lt k v t.list
 | .nil,_ => rfl
 | .node nk nv l r,h => by
   obtain ⟨hl,hr,hlk,hrk⟩ := h.node
   unfold put
   split
   · rename_i c
     rw [qcv,list_put L k v l hl,qav]
     unfold insL
     rw [List.filter_append,List.filter_append,List.filter_cons,List.filter_cons,L.as c,c,qbY (l := r.list) (p := fun p => lt p.1 k) (fun p hp => L.as (L.tr c (hrk p hp))),filter_all (l := r.list) (p := fun p => lt k p.1) (fun p hp => L.tr c (hrk p hp))]
     simp
   · rename_i c
     have c := eq_false_of_ne_true c
     split
     · rename_i d
       rw [qcv,list_put L k v r hr,qav]
       unfold insL
       rw [List.filter_append,List.filter_append,List.filter_cons,List.filter_cons,c,d,filter_all (l := l.list) (p := fun p => lt p.1 k) (fun p hp => L.tr (hlk p hp) d),qbY (l := l.list) (p := fun p => lt k p.1) (fun p hp => L.as (L.tr (hlk p hp) d))]
       simp
     · rename_i d
       have d := eq_false_of_ne_true d
       obtain rfl := L.con c d
       rw [qav,qav]
       unfold insL
       rw [List.filter_append,List.filter_append,List.filter_cons,List.filter_cons,c,filter_all (l := l.list) (p := fun p => lt p.1 k) hlk,qbY (l := l.list) (p := fun p => lt k p.1) (fun p hp => L.as (hlk p hp)),
        qbY (l := r.list) (p := fun p => lt p.1 k) (fun p hp => L.as (hrk p hp)),filter_all (l := r.list) (p := fun p => lt k p.1) hrk]
       simp
theorem qhX (L : Lin lt) (k : K) (v : V) {l : List (K × V)} (h : l.Pairwise fun a b => lt a.1 b.1 = true) : (insL lt k v l).Pairwise fun a b => lt a.1 b.1 = true := by
 unfold insL
 rw [List.pairwise_append,List.pairwise_cons]
 refine ⟨h.filter _,⟨fun p hp => (List.mem_filter.1 hp).2,h.filter _⟩,fun a ha b hb => ?_⟩
 have ha' := (List.mem_filter.1 ha).2
 rcases List.mem_cons.1 hb with rfl | hb
 · exact ha'
 · exact L.tr ha' (List.mem_filter.1 hb).2
theorem Bst.put (L : Lin lt) (k : K) (v : V) {t : Tr K V} (h : Bst lt t) : Bst lt (put lt k v t) := by
 unfold Bst
 rw [list_put L k v t h]
 exact qhX L k v h
theorem first_head : ∀ (p : K × V) (t : Tr K V),t.isNil = false -> ∃ l,t.list = first p t :: l
 | _, .nil,h => by cases h
 | p, .node nk nv l r,_ => by
   cases l with
   | nil => exact ⟨r.list,rfl⟩
   | node k v a b =>
     obtain ⟨m,hm⟩ := first_head (nk,nv) (.node k v a b) rfl
     exact ⟨m ++ (nk,nv) :: r.list,by rw [qav,hm]; rfl⟩
theorem find_mem (L : Lin lt) (k : K) : ∀ t : Tr K V,Bst lt t -> find lt k t = .nil -> ∀ p ∈ t.list,p.1 ≠ k
 | .nil,_,_ => fun p hp => by cases hp
 | .node nk nv l r,h,hf => by
   obtain ⟨hl,hr,hlk,hrk⟩ := h.node
   unfold find at hf
   intro p hp
   rw [qav] at hp
   split at hf
   · rename_i c
     rcases List.mem_append.1 hp with hp | hp
     · exact find_mem L k l hl hf p hp
     · rcases List.mem_cons.1 hp with rfl | hp
       · intro e; subst e; rw [L.irr] at c; cases c
       · intro e; subst e; rw [L.as (hrk p hp)] at c; cases c
   · split at hf
     · rename_i c
       rcases List.mem_append.1 hp with hp | hp
       · intro e; subst e; rw [L.as (hlk p hp)] at c; cases c
       · rcases List.mem_cons.1 hp with rfl | hp
         · intro e; subst e; rw [L.irr] at c; cases c
         · exact find_mem L k r hr hf p hp
     · cases hf
theorem find_node (L : Lin lt) (k : K) : ∀ (t : Tr K V) {k' : K} {v' : V} {a b : Tr K V},find lt k t = .node k' v' a b -> k' = k /\ (k,v') ∈ t.list
 | .nil,_,_,_,_,hf => by cases hf
 | .node nk nv l r,k',v',a,b,hf => by
   unfold find at hf
   rw [qav]
   split at hf
   · exact ⟨(find_node L k l hf).1,List.mem_append_left _ (find_node L k l hf).2⟩
   · rename_i c
     split at hf
     · exact ⟨(find_node L k r hf).1,List.mem_append_right _ (List.mem_cons_of_mem _ (find_node L k r hf).2)⟩
     · rename_i d
       obtain rfl := L.con (eq_false_of_ne_true c) (eq_false_of_ne_true d)
       cases hf
       exact ⟨rfl,List.mem_append_right _ List.mem_cons_self⟩
theorem find_of_mem (L : Lin lt) {k : K} {v : V} {t : Tr K V} (h : Bst lt t) (hm : (k,v) ∈ t.list) : find lt k t ≠ .nil := fun e => find_mem L k t h e _ hm rfl
theorem list_del (L : Lin lt) : ∀ (t : Tr K V) (k : K),Bst lt t -> (del lt t k).list = delL lt k t.list
 | .nil,_,_ => rfl
 | .node nk nv l r,k,h => by
   obtain ⟨hl,hr,hlk,hrk⟩ := h.node
   unfold del
   split
   · rename_i c
     rw [qcv,list_del L l k hl,qav]
     unfold delL
     rw [List.filter_append,List.filter_cons,L.as c,c,filter_all (l := r.list) (p := fun p => lt p.1 k || lt k p.1) (fun p hp => by rw [L.tr c (hrk p hp)]; simp)]
     simp
   · rename_i c
     have c := eq_false_of_ne_true c
     split
     · rename_i d
       rw [qcv,list_del L r k hr,qav]
       unfold delL
       rw [List.filter_append,List.filter_cons,c,d,filter_all (l := l.list) (p := fun p => lt p.1 k || lt k p.1) (fun p hp => by rw [L.tr (hlk p hp) d]; simp)]
       simp
     · rename_i d
       have d := eq_false_of_ne_true d
       obtain rfl := L.con c d
       have key : delL lt k (l.list ++ (k,nv) :: r.list) = l.list ++ r.list := by
        unfold delL
        rw [List.filter_append,List.filter_cons,c,filter_all (l := l.list) (p := fun p => lt p.1 k || lt k p.1) (fun p hp => by rw [hlk p hp]; simp),filter_all (l := r.list) (p := fun p => lt p.1 k || lt k p.1) (fun p hp => by rw [hrk p hp]; simp)]
        simp
       rw [qav,key]
       split
       · rename_i e
         cases l with
         | nil => rfl
         | node _ _ _ _ => cases e
       · split
         · rename_i e
           cases r with
           | nil => simp [list]
           | node _ _ _ _ => cases e
         · rename_i e
           obtain ⟨m,hm⟩ := first_head (k,nv) r (eq_false_of_ne_true e)
           have hr' := hr
           unfold Bst at hr'
           rw [hm,List.pairwise_cons] at hr'
           rw [qcv,list_del L r _ hr,hm]
           unfold delL
           rw [List.filter_cons,L.irr,filter_all (l := m) (p := fun p => lt p.1 (first (k,nv) r).1 || lt (first (k,nv) r).1 p.1) (fun p hp => by rw [hr'.1 p hp]; simp)]
           simp
theorem Bst.del (L : Lin lt) {t : Tr K V} (k : K) (h : Bst lt t) : Bst lt (del lt t k) := by
 unfold Bst
 rw [list_del L t k h]
 exact List.Pairwise.filter _ h
theorem size_del (L : Lin lt) {t : Tr K V} (k : K) (h : Bst lt t) : (del lt t k).size <= t.size := by
 rw [<- length_list,<- length_list,list_del L t k h]
 exact List.length_filter_le _ _
def sub (f t : Int) (l : List (K × V)) : List (K × V) := (l.drop f.toNat).take (t.toNat - f.toNat)
theorem sub_nil (f t : Int) : sub f t ([] : List (K × V)) = [] := by unfold sub; simp
theorem sub_none (f t : Nat) (l : List (K × V)) (h : t <= f) : sub (f : Int) (t : Int) l = [] := by
 unfold sub; rw [show ((t : Int).toNat - (f : Int).toNat) = 0 by omega]; rfl
theorem sub_all (l : List (K × V)) {n : Nat} (h : l.length = n) : sub ((0 : Nat) : Int) (n : Int) l = l := by
 subst h; unfold sub; simp
theorem sub_to (f t : Int) (l : List (K × V)) (h : t <= 0) : sub f t l = [] := by
 unfold sub; rw [show t.toNat - f.toNat = 0 by omega]; rfl
theorem sub_from (f t : Int) (l : List (K × V)) (h : (l.length : Int) <= f) : sub f t l = [] := by
 unfold sub; rw [List.drop_eq_nil_of_le (by omega)]; simp
theorem sub_node (f t : Int) (l r : List (K × V)) (p : K × V) :
 sub f t (l ++ p :: r) = sub f t l ++ ((if f <= l.length /\ (l.length : Int) < t then [p] else []) ++ sub (f - l.length - 1) (t - l.length - 1) r) := by
 unfold sub
 rw [List.drop_append,List.take_append]
 congr 1
 rw [List.length_drop]
 by_cases h1 : f <= l.length
 · rw [show f.toNat - l.length = 0 by omega,List.drop_zero]
   by_cases h2 : (l.length : Int) < t
   · rw [if_pos ⟨h1,h2⟩,show t.toNat - f.toNat - (l.length - f.toNat) = (t - l.length - 1).toNat - (f - l.length - 1).toNat + 1 by omega,List.take_succ_cons,show (f - l.length - 1).toNat = 0 by omega]
     rfl
   · rw [if_neg (fun h => h2 h.2),show t.toNat - f.toNat - (l.length - f.toNat) = 0 by omega,show (t - l.length - 1).toNat - (f - l.length - 1).toNat = 0 by omega]
     rfl
 · rw [if_neg (fun h => h1 h.1),show f.toNat - l.length = (f - l.length - 1).toNat + 1 by omega,List.drop_succ_cons,List.nil_append]
   congr 1
   omega
theorem at_left {l r : List (K × V)} {p q : K × V} {j : Nat} (h : (l ++ q :: r)[j]? = some p) (hj : j < l.length) : l[j]? = some p := by
 rwa [List.getElem?_append_left hj] at h
theorem at_here {l r : List (K × V)} {p q : K × V} {j : Nat} (h : (l ++ q :: r)[j]? = some p) (hj : j = l.length) : q = p := by
 subst hj; rw [List.getElem?_append_right (Nat.le_refl _),Nat.sub_self] at h; simpa using h
theorem at_right {l r : List (K × V)} {p q : K × V} {j : Nat} (h : (l ++ q :: r)[j]? = some p) (hj : l.length < j) : r[j - l.length - 1]? = some p := by
 rw [List.getElem?_append_right (Nat.le_of_lt hj)] at h
 rw [show j - l.length = (j - l.length - 1) + 1 by omega,List.getElem?_cons_succ] at h
 exact h
end Tr
end Go.Proofs.YtmeoooojmhhahaaGreat
namespace Go.Proofs.YtmeoooojmhhahaaGreat
structure Fil where
 name : ByteArray
 b : ByteArray
 safe : Nat
structure Dsk where
 room : Int
 l : List Fil
 set : Bool
 n : Int
 lost : Bool
def qae (l : List UInt8) : Bool := l.all fun b => !(decide (b.toNat < 33) || decide (126 < b.toNat))
def qx (s : ByteArray) : Bool := !(decide (s.size < 1) || decide (12 < s.size)) && qae s.data.toList
def isN (name : ByteArray) (f : Fil) : Bool := f.name.toList == name.toList
def getF (l : List Fil) (name : ByteArray) : Fil × Bool :=
 match l.find? (isN name) with
 | some f => (f,true)
 | none => (⟨name,ByteArray.empty,0⟩,false)
def putF (l : List Fil) (f : Fil) : List Fil := l.filter (fun g => ltS g.name f.name) ++ ((if 0 < f.b.size then [f] else []) ++ l.filter (fun g => ltS f.name g.name))
def qg (l : List Fil) : Nat := (l.map fun f => f.b.size).sum
namespace Dsk
def burn (D : Dsk) : Dsk := if D.set && decide (D.n = 0) then { D with lost := true } else if D.set && decide (0 < D.n) then { D with n := D.n - 1 } else D
def may (D : Dsk) (a b : ByteArray) : Nat := if D.lost then 5 else if qx a && qx b then 0 else 1
def done (D : Dsk) (f : Fil) (gone : ByteArray) : Dsk × Nat :=
 if D.burn.lost then (D.burn,5) else ({ D.burn with l := putF (putF D.burn.l ⟨gone,ByteArray.empty,0⟩) f },0)
def append (D : Dsk) (name b : ByteArray) : Dsk × Nat :=
 if D.may name name ≠ 0 then (D,D.may name name) else
 if D.room < (qg D.l : Int) + (b.size : Int) then (D,4) else
 let d := Dsk.burn { D with l := putF D.l { (getF D.l name).1 with b := (getF D.l name).1.b ++ b } }
 if d.lost then (d,5) else (d,0)
def sync (D : Dsk) (name : ByteArray) : Dsk × Nat :=
 if D.may name name ≠ 0 then (D,D.may name name) else
 if (getF D.l name).2 = false then (D,6) else
 D.done { (getF D.l name).1 with safe := (getF D.l name).1.b.size } name
def cut (D : Dsk) (name : ByteArray) (n : Int) : Dsk × Nat :=
 if D.may name name ≠ 0 then (D,D.may name name) else
 if (getF D.l name).2 = false then (D,6) else
 if n < 0 \/ ((getF D.l name).1.b.size : Int) < n then (D,1) else
 D.done { (getF D.l name).1 with b := (getF D.l name).1.b.extract 0 n.toNat,safe := n.toNat } name
def rename (D : Dsk) (a b : ByteArray) : Dsk × Nat :=
 if D.may a b ≠ 0 then (D,D.may a b) else
 if (getF D.l a).2 = false then (D,6) else
 if (getF D.l a).1.safe < (getF D.l a).1.b.size then (D,7) else
 D.done { (getF D.l a).1 with name := b } a
def remove (D : Dsk) (name : ByteArray) : Dsk × Nat :=
 if D.may name name ≠ 0 then (D,D.may name name) else
 if (getF D.l name).2 = false then (D,6) else
 D.done ⟨name,ByteArray.empty,0⟩ name
def read (D : Dsk) (name : ByteArray) : ByteArray × Nat :=
 if D.may name name ≠ 0 then (ByteArray.empty,D.may name name) else
 if (getF D.l name).2 = false then (ByteArray.empty,6) else ((getF D.l name).1.b,0)
def fuse (D : Dsk) (n : Int) : Dsk × Nat :=
 if D.lost then (D,5) else if n < 0 then (D,1) else ({ D with set := true,n := n },0)
end Dsk
def stays (Z : Nat -> Int) (len i : Nat) (m : Int) : Nat := if i < len then (Z i % m).toNat else 0
def qbH (Z : Nat -> Int) (len i : Nat) (f : Fil) : Nat := f.safe + stays Z len i ((f.b.size : Int) - (f.safe : Int) + 1)
def back1 (Z : Nat -> Int) (len i : Nat) (f : Fil) : Fil := { f with b := f.b.extract 0 (qbH Z len i f),safe := qbH Z len i f }
def backSt (Z : Nat -> Int) (len : Nat) (l : List Fil) : Nat -> Nat × List Fil
 | 0 => (0,l)
 | k + 1 => match l[k]? with
   | some f => if f.safe = f.b.size then backSt Z len l k else ((backSt Z len l k).1 + 1,putF (backSt Z len l k).2 (back1 Z len (backSt Z len l k).1 f))
   | none => backSt Z len l k
def Dsk.restart (D : Dsk) (Z : Nat -> Int) (len : Nat) : Dsk := { D with l := (backSt Z len D.l D.l.length).2,set := false,n := 0,lost := false }
theorem qdO (Z : Nat -> Int) (len : Nat) (l : List Fil) (k : Nat) (hk : k < l.length) (h : l[k].safe = l[k].b.size) : backSt Z len l (k + 1) = backSt Z len l k := by
 simp [backSt,hk,h]
theorem qdt (Z : Nat -> Int) (len : Nat) (l : List Fil) (k : Nat) (hk : k < l.length) (h : l[k].safe ≠ l[k].b.size) : backSt Z len l (k + 1) = ((backSt Z len l k).1 + 1,putF (backSt Z len l k).2 (back1 Z len (backSt Z len l k).1 l[k])) := by
 simp [backSt,hk,h]
theorem qf5 (l : List Fil) (f : Fil) : (putF l f).length <= l.length + 1 := by
 have h : (l.filter (fun g => ltS g.name f.name)).length + (l.filter (fun g => ltS f.name g.name)).length <= l.length := by
  induction l with
  | nil => simp
  | cons g l ih =>
    simp only [List.filter_cons,List.length_cons]
    cases h1 : ltS g.name f.name with
    | true => rw [qaE h1]; simp; omega
    | false =>
      cases h2 : ltS f.name g.name with
      | true => simp; omega
      | false => simp; omega
 unfold putF
 rw [List.length_append,List.length_append]
 split <;> simp <;> omega
theorem qfd (Z : Nat -> Int) (len : Nat) (l : List Fil) (k : Nat) : (backSt Z len l k).2.length <= l.length + k /\ (backSt Z len l k).1 <= k := by
 induction k with
 | zero => simp [backSt]
 | succ k ih =>
   simp only [backSt]
   split
   · rename_i f _
     have := qf5 (backSt Z len l k).2 (back1 Z len (backSt Z len l k).1 f)
     split
     · omega
     · simp only; omega
   · omega
theorem qeO (Z : Nat -> Int) (len i : Nat) (m : Int) (h : 0 < m) : (stays Z len i m : Int) < m := by
 unfold stays
 split
 · have := Int.emod_lt_of_pos (Z i) h
   have := Int.emod_nonneg (Z i) (Int.ne_of_gt h)
   omega
 · omega
theorem qf6 (x m : Int) (h : 0 < m) : (x.tmod m + m) % m = x % m := by
 have e : x.tmod m = x - m * x.tdiv m := Int.tmod_def x m
 rw [e,Int.add_emod_right,Int.sub_mul_emod_self_left]
end Go.Proofs.YtmeoooojmhhahaaGreat
namespace Go.Proofs.YtmeoooojmhhahaaGreat
theorem qdP (a b : List Fil) : qg (a ++ b) = qg a + qg b := by simp [qg]
theorem qah (f : Fil) (l : List Fil) : qg (f :: l) = f.b.size + qg l := by simp [qg]
theorem qcP : qg [] = 0 := rfl
theorem qbv {name : ByteArray} {f : Fil} (h : isN name f = true) : f.name = name := by
 unfold isN at h
 have h' : f.name.toList = name.toList := by simpa using h
 rw [ByteArray.toList_eq,ByteArray.toList_eq] at h'
 exact WideShapes.bytes_inj h'
theorem qaT (l : List Fil) (name : ByteArray) : qg l = qg (l.filter fun g => ltS g.name name) + qg (l.filter (isN name)) + qg (l.filter fun g => ltS name g.name) := by
 induction l with
 | nil => rfl
 | cons g l ih =>
   simp only [List.filter_cons,qah]
   cases h1 : ltS g.name name with
   | true =>
     have h2 : isN name g = false := by
      cases hq : isN name g with
      | false => rfl
      | true => rw [qbv hq,qaN] at h1; cases h1
     rw [h2,qaE h1]
     simp only [if_true,qah,Bool.false_eq_true,if_false]
     omega
   | false =>
     cases h2 : ltS name g.name with
     | true =>
       have h3 : isN name g = false := by unfold isN; exact qg1 h2
       rw [h3]
       simp only [if_true,qah,Bool.false_eq_true,if_false]
       omega
     | false =>
       have h3 : isN name g = true := by unfold isN; rw [qbz h1 h2]; simp
       rw [h3]
       simp only [if_true,qah,Bool.false_eq_true,if_false]
       omega
theorem qcQ (l : List Fil) (f : Fil) : qg (putF l f) + qg (l.filter (isN f.name)) = qg l + f.b.size := by
 have h := qaT l f.name
 unfold putF
 rw [qdP,qdP]
 split
 · simp only [qah,qcP]; omega
 · simp only [qcP]; omega
theorem qjR (l : List Fil) (name : ByteArray) (h : (getF l name).2 = true) : (getF l name).1 ∈ l /\ (getF l name).1.name = name := by
 unfold getF at *
 cases hq : l.find? (isN name) with
 | none => rw [hq] at h; cases h
 | some f => exact ⟨List.mem_of_find?_eq_some hq,qbv (List.find?_some hq)⟩
theorem qcR (l : List Fil) (name : ByteArray) : (getF l name).1.name = name := by
 unfold getF
 cases hq : l.find? (isN name) with
 | none => rfl
 | some f => exact qbv (List.find?_some hq)
theorem qaF (l : List Fil) (name : ByteArray) : (getF l name).1.b.size <= qg (l.filter (isN name)) := by
 unfold getF
 cases hq : l.find? (isN name) with
 | none => simp
 | some f =>
   have hm : f ∈ l.filter (isN name) := List.mem_filter.2 ⟨List.mem_of_find?_eq_some hq,List.find?_some hq⟩
   dsimp only
   generalize l.filter (isN name) = q at hm
   induction q with
   | nil => cases hm
   | cons g q ih =>
     rw [qah]
     rcases List.mem_cons.1 hm with rfl | hm
     · omega
     · have := ih hm; omega
structure qbp (l : List Fil) : Prop where
 sort : l.Pairwise fun a b => ltS a.name b.name = true
 each : ∀ f ∈ l,0 < f.b.size /\ f.safe <= f.b.size /\ qx f.name = true
structure Good (D : Dsk) : Prop where
 room : 0 <= D.room /\ D.room <= 1048576
 fils : qbp D.l
 used : (qg D.l : Int) <= D.room
 n : 0 <= D.n /\ D.n <= 9223372036854775807
theorem qkY (l : List Fil) (h : ∀ f ∈ l,0 < f.b.size) : l.length <= qg l := by
 induction l with
 | nil => simp
 | cons f l ih =>
   rw [qah,List.length_cons]
   have := h f List.mem_cons_self
   have := ih fun g hg => h g (List.mem_cons_of_mem _ hg)
   omega
theorem Good.len {D : Dsk} (h : Good D) : D.l.length <= 1048576 := by
 have := qkY D.l fun f hf => (h.fils.each f hf).1
 have := h.used
 have := h.room
 omega
theorem Good.usedN {D : Dsk} (h : Good D) : qg D.l <= 1048576 := by
 have := h.used
 have := h.room
 omega
theorem qbp.put {l : List Fil} (h : qbp l) (f : Fil) (hf : f.safe <= f.b.size) (hr : 0 < f.b.size -> qx f.name = true) : qbp (putF l f) := by
 refine ⟨?_,fun g hg => ?_⟩
 · unfold putF
   rw [List.pairwise_append]
   refine ⟨h.sort.filter _,?_,fun a ha b hb => ?_⟩
   · rw [List.pairwise_append]
     refine ⟨?_,h.sort.filter _,fun a ha b hb => ?_⟩
     · split <;> simp
     · obtain rfl : a = f := by
        split at ha
        · simpa using ha
        · cases ha
       exact (List.mem_filter.1 hb).2
   · have ha' := (List.mem_filter.1 ha).2
     rcases List.mem_append.1 hb with hb | hb
     · obtain rfl : b = f := by
        split at hb
        · simpa using hb
        · cases hb
       exact ha'
     · exact qcO ha' (List.mem_filter.1 hb).2
 · unfold putF at hg
   rcases List.mem_append.1 hg with hg | hg
   · exact h.each g (List.mem_filter.1 hg).1
   · rcases List.mem_append.1 hg with hg | hg
     · split at hg
       · obtain rfl : g = f := by simpa using hg
         have hp : 0 < g.b.size := by assumption
         exact ⟨hp,hf,hr hp⟩
       · cases hg
     · exact h.each g (List.mem_filter.1 hg).1
theorem qbp.get {l : List Fil} (h : qbp l) (name : ByteArray) : (getF l name).1.safe <= (getF l name).1.b.size := by
 cases hq : (getF l name).2 with
 | true => exact (h.each _ (qjR l name hq).1).2.1
 | false =>
   unfold getF at *
   cases h2 : l.find? (isN name) with
   | none => simp
   | some f => rw [h2] at hq; cases hq
theorem Good.burn {D : Dsk} (h : Good D) : Good D.burn := by
 unfold Dsk.burn
 split
 · exact ⟨h.room,h.fils,h.used,h.n⟩
 · split
   · rename_i h2
     have : 0 < D.n := by simp at h2; exact h2.2
     exact ⟨h.room,h.fils,h.used,⟨by show 0 <= D.n - 1; omega,by show D.n - 1 <= _; have := h.n; omega⟩⟩
   · exact h
theorem Good.done {D : Dsk} (h : Good D) (f : Fil) (gone : ByteArray) (hf : f.safe <= f.b.size) (hr : 0 < f.b.size -> qx f.name = true) (hs : f.b.size <= qg (D.l.filter (isN gone))) : Good (D.done f gone).1 := by
 have hb := h.burn
 have hl : D.burn.l = D.l := by unfold Dsk.burn; split <;> (try split) <;> rfl
 unfold Dsk.done
 split
 · exact hb
 · refine ⟨hb.room,?_,?_,hb.n⟩
   · exact (hb.fils.put _ (Nat.zero_le _) (fun h => absurd h (by simp))).put f hf hr
   · show (qg (putF (putF D.burn.l ⟨gone,ByteArray.empty,0⟩) f) : Int) <= D.burn.room
     have h1 := qcQ (putF D.burn.l ⟨gone,ByteArray.empty,0⟩) f
     have h2 := qcQ D.burn.l ⟨gone,ByteArray.empty,0⟩
     have h3 := hb.used
     dsimp only at h2
     rw [hl] at h1 h2 h3 ⊢
     simp at h2
     omega
theorem qbm {D : Dsk} {a b : ByteArray} (h : ¬ D.may a b ≠ 0) : D.lost = false /\ qx a = true /\ qx b = true := by
 have h0 : D.may a b = 0 := Decidable.not_not.1 h
 unfold Dsk.may at h0
 split at h0
 · omega
 · split at h0
   · rename_i h1 h2
     simp only [Bool.and_eq_true] at h2
     exact ⟨by simpa using h1,h2.1,h2.2⟩
   · omega
theorem Good.sync {D : Dsk} (h : Good D) (name : ByteArray) : Good (D.sync name).1 := by
 unfold Dsk.sync
 split
 · exact h
 · rename_i hm
   split
   · exact h
   · exact h.done _ _ (Nat.le_refl _) (fun _ => by dsimp only; rw [qcR]; exact (qbm hm).2.1) (qaF _ _)
theorem Good.remove {D : Dsk} (h : Good D) (name : ByteArray) : Good (D.remove name).1 := by
 unfold Dsk.remove
 split
 · exact h
 · split
   · exact h
   · exact h.done _ _ (Nat.zero_le _) (fun h => absurd h (by simp)) (by simp)
theorem Good.rename {D : Dsk} (h : Good D) (a b : ByteArray) : Good (D.rename a b).1 := by
 unfold Dsk.rename
 split
 · exact h
 · rename_i hm
   split
   · exact h
   · split
     · exact h
     · exact h.done _ _ (h.fils.get a) (fun _ => (qbm hm).2.2) (qaF _ _)
theorem extract_size (s : ByteArray) (k : Nat) (h : k <= s.size) : (s.extract 0 k).size = k := by
 simp; omega
theorem Good.cut {D : Dsk} (h : Good D) (name : ByteArray) (z : Int) : Good (D.cut name z).1 := by
 unfold Dsk.cut
 split
 · exact h
 · rename_i hm
   split
   · exact h
   · split
     · exact h
     · rename_i hz
       have hk : z.toNat <= (getF D.l name).1.b.size := by omega
       have he := extract_size _ _ hk
       refine h.done _ _ ?_ (fun _ => by dsimp only; rw [qcR]; exact (qbm hm).2.1) ?_
       · dsimp only; omega
       · dsimp only; have := qaF D.l name; omega
theorem Good.append {D : Dsk} (h : Good D) (name s : ByteArray) : Good (D.append name s).1 := by
 unfold Dsk.append
 split
 · exact h
 · rename_i hm
   split
   · exact h
   · rename_i hr
     have hg : Good { D with l := putF D.l { (getF D.l name).1 with b := (getF D.l name).1.b ++ s } } := by
      refine ⟨h.room,h.fils.put _ ?_ (fun _ => by dsimp only; rw [qcR]; exact (qbm hm).2.1),?_,h.n⟩
      · have := h.fils.get name
        simp; omega
      · have h1 := qcQ D.l { (getF D.l name).1 with b := (getF D.l name).1.b ++ s }
        have h2 : (getF D.l name).1.b.size <= qg (D.l.filter (isN (getF D.l name).1.name)) := by rw [qcR]; exact qaF _ _
        dsimp only at h1 ⊢
        simp only [ByteArray.size_append] at h1
        omega
     dsimp only
     split <;> exact hg.burn
theorem Good.fuse {D : Dsk} (h : Good D) (z : Int) (hz : z <= 9223372036854775807) : Good (D.fuse z).1 := by
 unfold Dsk.fuse
 split
 · exact h
 · split
   · exact h
   · exact ⟨h.room,h.fils,h.used,by dsimp only; omega⟩
def qaV (Z : Nat -> Int) (len : Nat) : List Fil -> Nat -> List Fil
 | [],_ => []
 | f :: l,i => if f.safe = f.b.size then f :: qaV Z len l i else (if 0 < qbH Z len i f then [back1 Z len i f] else []) ++ qaV Z len l (i + 1)
theorem qg2 (Z : Nat -> Int) (len i : Nat) (f : Fil) (h : f.safe <= f.b.size) : f.safe <= qbH Z len i f /\ qbH Z len i f <= f.b.size := by
 have := qeO Z len i ((f.b.size : Int) - (f.safe : Int) + 1) (by omega)
 unfold qbH
 omega
theorem qce (Z : Nat -> Int) (len i : Nat) (f : Fil) (h : f.safe <= f.b.size) : (back1 Z len i f).b.size = qbH Z len i f := extract_size _ _ (qg2 Z len i f h).2
theorem qkZ (p q : List Fil) (f g : Fil) (hp : ∀ a ∈ p,ltS a.name f.name = true) (hq : ∀ a ∈ q,ltS f.name a.name = true) (hn : g.name = f.name) :
 putF (p ++ f :: q) g = p ++ ((if 0 < g.b.size then [g] else []) ++ q) := by
 have f1 : p.filter (fun a => ltS a.name f.name) = p := List.filter_eq_self.2 hp
 have f2 : q.filter (fun a => ltS a.name f.name) = [] := List.filter_eq_nil_iff.2 fun a ha => by rw [qaE (hq a ha)]; decide
 have f3 : p.filter (fun a => ltS f.name a.name) = [] := List.filter_eq_nil_iff.2 fun a ha => by rw [qaE (hp a ha)]; decide
 have f4 : q.filter (fun a => ltS f.name a.name) = q := List.filter_eq_self.2 hq
 unfold putF
 rw [hn]
 simp only [List.filter_append,List.filter_cons,f1,f2,f3,f4,qaN,Bool.false_eq_true,if_false,List.append_nil,List.nil_append]
theorem qiS (Z : Nat -> Int) (len : Nat) (l : List Fil) : ∀ i,∀ g ∈ qaV Z len l i,∃ f ∈ l,g.name = f.name := by
 induction l with
 | nil => intro i g hg; cases hg
 | cons f l ih =>
   intro i g hg
   unfold qaV at hg
   split at hg
   · rcases List.mem_cons.1 hg with rfl | hg
     · exact ⟨g,List.mem_cons_self,rfl⟩
     · obtain ⟨x,hx,e⟩ := ih i g hg; exact ⟨x,List.mem_cons_of_mem _ hx,e⟩
   · rcases List.mem_append.1 hg with hg | hg
     · split at hg
       · obtain rfl : g = back1 Z len i f := by simpa using hg
         exact ⟨f,List.mem_cons_self,rfl⟩
       · cases hg
     · obtain ⟨x,hx,e⟩ := ih (i + 1) g hg; exact ⟨x,List.mem_cons_of_mem _ hx,e⟩
theorem qjS (Z : Nat -> Int) (len : Nat) (l : List Fil) (h : qbp l) : ∀ k,k <= l.length -> ∃ p,(backSt Z len l k).2 = p ++ l.drop k /\ (∀ g ∈ p,∃ f ∈ l.take k,g.name = f.name) /\ qaV Z len l 0 = p ++ qaV Z len (l.drop k) (backSt Z len l k).1 := by
 intro k
 induction k with
 | zero => intro _; exact ⟨[],by simp [backSt],by simp,by simp [backSt]⟩
 | succ k ih =>
   intro hk
   have hkl : k < l.length := by omega
   obtain ⟨p,h1,h2,h3⟩ := ih (by omega)
   have hd : l.drop k = l[k] :: l.drop (k + 1) := List.drop_eq_getElem_cons hkl
   have ht : l.take (k + 1) = l.take k ++ [l[k]] := List.take_succ_eq_append_getElem hkl
   have hlo : ∀ a ∈ l.take k,ltS a.name l[k].name = true := by
    have := h.sort
    rw [<- List.take_append_drop k l,List.pairwise_append,hd] at this
    exact fun a ha => this.2.2 a ha _ List.mem_cons_self
   have hhi : ∀ a ∈ l.drop (k + 1),ltS l[k].name a.name = true := by
    have := h.sort
    rw [<- List.take_append_drop k l,List.pairwise_append,hd,List.pairwise_cons] at this
    exact this.2.1.1
   have hpl : ∀ a ∈ p,ltS a.name l[k].name = true := fun a ha => by
    obtain ⟨f,hf,e⟩ := h2 a ha
    rw [e]; exact hlo f hf
   have hsf := (h.each l[k] (List.getElem_mem hkl)).2.1
   by_cases hfe : l[k].safe = l[k].b.size
   · rw [qdO Z len l k hkl hfe]
     refine ⟨p ++ [l[k]],by rw [h1,hd]; simp,fun g hg => ?_,?_⟩
     · rw [ht]
       rcases List.mem_append.1 hg with hg | hg
       · obtain ⟨f,hf,e⟩ := h2 g hg
         exact ⟨f,List.mem_append_left _ hf,e⟩
       · obtain rfl : g = l[k] := by simpa using hg
         exact ⟨_,List.mem_append_right _ (by simp),rfl⟩
     · rw [h3,hd]
       conv => lhs; unfold qaV
       rw [if_pos hfe]; simp
   · rw [qdt Z len l k hkl hfe]
     have hm := qkZ p (l.drop (k + 1)) l[k] (back1 Z len (backSt Z len l k).1 l[k]) hpl hhi rfl
     rw [qce _ _ _ _ hsf] at hm
     refine ⟨p ++ (if 0 < qbH Z len (backSt Z len l k).1 l[k] then [back1 Z len (backSt Z len l k).1 l[k]] else []),by dsimp only; rw [h1,hd,hm,List.append_assoc],fun g hg => ?_,?_⟩
     · rw [ht]
       rcases List.mem_append.1 hg with hg | hg
       · obtain ⟨f,hf,e⟩ := h2 g hg
         exact ⟨f,List.mem_append_left _ hf,e⟩
       · split at hg
         · obtain rfl : g = back1 Z len (backSt Z len l k).1 l[k] := by simpa using hg
           exact ⟨l[k],List.mem_append_right _ (by simp),rfl⟩
         · cases hg
     · rw [h3,hd]
       conv => lhs; unfold qaV
       rw [if_neg hfe,List.append_assoc]
theorem qjT (D : Dsk) (Z : Nat -> Int) (len : Nat) (h : qbp D.l) : (D.restart Z len).l = qaV Z len D.l 0 := by
 obtain ⟨p,h1,_,h3⟩ := qjS Z len D.l h D.l.length (Nat.le_refl _)
 show (backSt Z len D.l D.l.length).2 = _
 rw [h1,h3]
 simp [qaV]
theorem qiT (Z : Nat -> Int) (len : Nat) (l : List Fil) (h : ∀ f ∈ l,f.safe <= f.b.size) : ∀ i,qg (qaV Z len l i) <= qg l /\ (qaV Z len l i).length <= l.length := by
 induction l with
 | nil => intro i; exact ⟨Nat.le_refl _,Nat.le_refl _⟩
 | cons f l ih =>
   intro i
   have hf := h f List.mem_cons_self
   have hi := ih fun g hg => h g (List.mem_cons_of_mem _ hg)
   unfold qaV
   split
   · have := hi i
     rw [qah,qah,List.length_cons,List.length_cons]; omega
   · have := hi (i + 1)
     have hb := qce Z len i f hf
     have hl := qg2 Z len i f hf
     rw [qdP,List.length_append,qah,List.length_cons]
     split
     · rw [qah,qcP,hb]; simp; omega
     · rw [qcP]; simp; omega
theorem qiU (Z : Nat -> Int) (len : Nat) (l : List Fil) : qbp l -> ∀ i,qbp (qaV Z len l i) := by
 induction l with
 | nil => intro h i; exact h
 | cons f l ih =>
   intro h i
   have hl : qbp l := ⟨(List.pairwise_cons.1 h.sort).2,fun g hg => h.each g (List.mem_cons_of_mem _ hg)⟩
   have hlt := (List.pairwise_cons.1 h.sort).1
   have hlo : ∀ i,∀ g ∈ qaV Z len l i,ltS f.name g.name = true := fun i g hg => by
    obtain ⟨x,hx,e⟩ := qiS Z len l i g hg
    rw [e]; exact hlt x hx
   have hf := h.each f List.mem_cons_self
   unfold qaV
   split
   · refine ⟨List.pairwise_cons.2 ⟨hlo i,(ih hl i).sort⟩,fun g hg => ?_⟩
     rcases List.mem_cons.1 hg with rfl | hg
     · exact hf
     · exact (ih hl i).each g hg
   · split
     · rename_i hp
       refine ⟨List.pairwise_cons.2 ⟨hlo (i + 1),(ih hl (i + 1)).sort⟩,fun g hg => ?_⟩
       rcases List.mem_cons.1 hg with rfl | hg
       · refine ⟨by rw [qce _ _ _ _ hf.2.1]; exact hp,?_,hf.2.2⟩
         rw [qce _ _ _ _ hf.2.1]
         exact Nat.le_refl _
       · exact (ih hl (i + 1)).each g hg
     · exact ih hl (i + 1)
theorem Good.restart {D : Dsk} (h : Good D) (Z : Nat -> Int) (len : Nat) : Good (D.restart Z len) := by
 have hl := qjT D Z len h.fils
 have hu := (qiT Z len D.l (fun f hf => (h.fils.each f hf).2.1) 0).1
 refine ⟨h.room,by rw [hl]; exact qiU Z len D.l h.fils 0,?_,by show (0 : Int) <= 0 /\ (0 : Int) <= _; omega⟩
 rw [hl]
 show _ <= D.room
 have := h.used
 omega
theorem qeP {l : List Fil} (h : l.Pairwise fun a b => ltS a.name b.name = true) {f : Fil} (hf : f ∈ l) : getF l f.name = (f,true) := by
 have : l.find? (isN f.name) = some f := by
  induction l with
  | nil => cases hf
  | cons g l ih =>
    rw [List.pairwise_cons] at h
    rw [List.find?_cons]
    rcases List.mem_cons.1 hf with rfl | hf
    · have : isN f.name f = true := by simp [isN]
      rw [this]
    · have : isN f.name g = false := by
       cases hq : isN f.name g with
       | false => rfl
       | true => have := h.1 f hf; rw [qbv hq,qaN] at this; cases this
      rw [this]
      exact ih h.2 hf
 simp [getF,this]
theorem qjU {l : List Fil} {name : ByteArray} (h : ∀ g ∈ l,g.name ≠ name) : getF l name = (⟨name,ByteArray.empty,0⟩,false) := by
 have : l.find? (isN name) = none := by
  rw [List.find?_eq_none]
  exact fun g hg hq => h g hg (qbv hq)
 simp [getF,this]
end Go.Proofs.YtmeoooojmhhahaaGreat
