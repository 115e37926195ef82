/- How the program's disk stands in memory: a block, a map of files in it, each file's bytes in a row of its own. -/
import Derived.Test.YtnkfdnehkihbeaaDskFile
import Derived.Test.YtnkfdnehkihbeaaDskPure
import Derived.Test.YtnkfdnehkihbeaaMapFFl
namespace Go.Proofs.Ytnkfdnehkihbeaa
open Go.RowKit
set_option linter.unusedVariables false
set_option linter.unusedSimpArgs false

abbrev FT := MapFl.T

def filOf (p : ByteArray × FV) : Fil := ⟨p.1, ⟨p.2.l.toArray⟩, p.2.safe⟩
/-- Where a file's row lies. -/
abbrev blk (v : FV) : Option Nat := (fvS v).ownBlock

def fuseOf (D : Dsk) : Int := if D.set then D.n else -1

/-- Blocks in which nodes may lie. -/
abbrev Pn (M : Nat → Prop) (w : World) : Nat → Prop := fun k => ¬ M k ∨ w.heap.size ≤ k

structure RowIn (w : World) (M Z : Nat → Prop) (v : FV) : Prop where
  own : FRow w 0 v
  out : ∀ g, blk v = some g → ¬ M g ∧ ¬ Z g

/-- The disk lies in block d. M: what others may write to; Z: what it doesn't write to; X: the names whose rows nobody vouches for. -/
structure Dt (w : World) (d : Nat) (D : Dsk) (M Z : Nat → Prop) (X : ByteArray → Prop) (t : FT) : Prop where
  box : ∃ u, w.heap[d]? = some (.cells #[.int .i64 D.room, .int .i64 ((usedF D.l : Nat) : Int), .pointer u, .int .i64 (fuseOf D), .bool D.lost] 73) ∧ MapFl.Rp (Pn M w) w u t
  bst : Tr.Bst ltS t
  fil : t.list.map filOf = D.l
  row : ∀ p ∈ t.list, ¬ X p.1 → RowIn w M Z p.2
  apart : ∀ a ∈ t.list, ∀ b ∈ t.list, a.1 ≠ b.1 → ¬ X a.1 → ¬ X b.1 → ∀ g, blk a.2 = some g → blk b.2 ≠ some g
  own : ¬ M d ∧ ¬ Z d

abbrev noX : ByteArray → Prop := fun _ => False

theorem Pn.ev {M : Nat → Prop} {w : World} (h : ∀ k, M k → k < w.heap.size) : ∀ k, w.heap.size ≤ k → Pn M w k := fun k hk => .inr hk

theorem Dt.lt {w : World} {d : Nat} {D : Dsk} {M Z : Nat → Prop} {X : ByteArray → Prop} {t : FT} (h : Dt w d D M Z X t) : d < w.heap.size := by
  obtain ⟨u, hb, _⟩ := h.box
  exact hlt hb

theorem RowIn.lt {w : World} {M Z : Nat → Prop} {v : FV} (h : RowIn w M Z v) {g : Nat} (hg : blk v = some g) : g < w.heap.size := (h.own.lt g hg).2

/-- A row isn't the block of a disk. -/
theorem FRow.ne {w : World} {v : FV} (h : FRow w 0 v) {d : Nat} {cs : Array Value} (hd : w.heap[d]? = some (.cells cs 73)) : blk v ≠ some d := by
  intro e
  rcases h.2 with ⟨e1, h0⟩ | ⟨g, cap, cur, e1, _, hg, _⟩
  · rw [blk, e1] at e; cases e
  · rw [blk, e1] at e
    injection e with e
    have e : g = d := e
    subst e
    rw [hd] at hg
    injection hg with hg
    injection hg with _ ht
    revert ht
    decide

theorem RowIn.ne {w : World} {M Z : Nat → Prop} {v : FV} (h : RowIn w M Z v) {d : Nat} {cs : Array Value} (hd : w.heap[d]? = some (.cells cs 73)) : blk v ≠ some d := FRow.ne h.own hd

/-- Others wrote, where it is none of. -/
theorem Dt.carry {w w' : World} {d : Nat} {D : Dsk} {M M' Z Z' : Nat → Prop} {X : ByteArray → Prop} {t : FT} (h : Dt w d D M Z X t) (hs : w.heap.size ≤ w'.heap.size)
    (hM : ∀ k, M' k → M k ∨ w.heap.size ≤ k) (hZ : ∀ k, Z' k → Z k ∨ w.heap.size ≤ k) (hb : ∀ k, k < w.heap.size → ¬ M k → w'.heap[k]? = w.heap[k]?) : Dt w' d D M' Z' X t := by
  obtain ⟨u, hbx, hr⟩ := h.box
  have hd := h.lt
  have ho : ∀ k, k < w.heap.size → ¬ M k ∧ ¬ Z k → ¬ M' k ∧ ¬ Z' k := fun k hk ⟨h1, h2⟩ => ⟨fun e => (hM k e).elim h1 (by omega), fun e => (hZ k e).elim h2 (by omega)⟩
  refine ⟨⟨u, (hb d hd h.own.1).trans hbx, hr.carry (fun k hk => .inr hk) fun b hlt hP _ => ?_⟩, h.bst, h.fil, fun p hp hx => ⟨(h.row p hp hx).own.keep fun g hg => hb g ((h.row p hp hx).lt hg) ((h.row p hp hx).out g hg).1, fun g hg => ho g ((h.row p hp hx).lt hg) ((h.row p hp hx).out g hg)⟩, h.apart, ho d hd h.own⟩
  have hM0 : ¬ M b := hP.elim id (fun e => by omega)
  exact ⟨.inl fun e => (hM b e).elim hM0 (by omega), hb b hlt hM0⟩

theorem Dt.below {w w' : World} {d : Nat} {D : Dsk} {M Z : Nat → Prop} {X : ByteArray → Prop} {t : FT} (h : Dt w d D M Z X t) (hb : Below w.heap.size w w') : Dt w' d D M Z X t :=
  h.carry hb.size (fun k hk => .inl hk) (fun k hk => .inl hk) fun k hk _ => hb.block k hk

/-- The disk's own block turned; nothing else that was there. -/
theorem Dt.turn {w w' : World} {d : Nat} {D D' : Dsk} {M Z : Nat → Prop} {X : ByteArray → Prop} {t : FT} {u : Option Addr} (h : Dt w d D M Z X t) (hk : Keeps (· ≠ d) w w')
    (hb : w'.heap[d]? = some (.cells #[.int .i64 D'.room, .int .i64 ((usedF D'.l : Nat) : Int), .pointer u, .int .i64 (fuseOf D'), .bool D'.lost] 73))
    (hu : ∀ cs, w.heap[d]? = some (.cells cs 73) → cs[2]? = some (.pointer u)) (hl : D'.l = D.l) : Dt w' d D' M Z X t := by
  obtain ⟨u0, hbx, hr⟩ := h.box
  have hd := h.lt
  have e := hu _ hbx
  injection e with e
  injection e with e
  subst e
  refine ⟨⟨u0, hb, hr.carry (fun k hk => .inr hk) fun b hlt hP ⟨k, hc⟩ => ?_⟩, h.bst, h.fil.trans hl.symm, fun p hp hx => ⟨(h.row p hp hx).own.keep fun g hg => hk.block g ((h.row p hp hx).lt hg) (fun e => (h.row p hp hx).ne hbx (e ▸ hg)), (h.row p hp hx).out⟩, h.apart, h.own⟩
  have hne : b ≠ d := by
    rintro rfl
    rw [cell_of_row _ _ _ _ _ _ hbx] at hc
    cases hc
  exact ⟨hP.elim .inl (fun e => by omega), hk.block b hlt hne⟩

/- the list and the map -/
theorem filOf_sort {l : List (ByteArray × FV)} (h : l.Pairwise fun a b => ltS a.1 b.1 = true) : (l.map filOf).Pairwise fun a b => ltS a.name b.name = true := by
  rw [List.pairwise_map]; exact h

theorem Dt.sort {w : World} {d : Nat} {D : Dsk} {M Z : Nat → Prop} {X : ByteArray → Prop} {t : FT} (h : Dt w d D M Z X t) : D.l.Pairwise fun a b => ltS a.name b.name = true := by
  rw [← h.fil]; exact filOf_sort h.bst

theorem Dt.size {w : World} {d : Nat} {D : Dsk} {M Z : Nat → Prop} {X : ByteArray → Prop} {t : FT} (h : Dt w d D M Z X t) : t.size = D.l.length := by
  rw [← Tr.length_list, ← h.fil, List.length_map]

theorem Dt.get {w : World} {d : Nat} {D : Dsk} {M Z : Nat → Prop} {X : ByteArray → Prop} {t : FT} (h : Dt w d D M Z X t) {name : ByteArray} {v : FV} (hm : (name, v) ∈ t.list) : getF D.l name = (filOf (name, v), true) :=
  getF_mem (f := filOf (name, v)) h.sort (by rw [← h.fil]; exact List.mem_map_of_mem hm)

theorem Dt.getno {w : World} {d : Nat} {D : Dsk} {M Z : Nat → Prop} {X : ByteArray → Prop} {t : FT} (h : Dt w d D M Z X t) {name : ByteArray} (hm : ∀ p ∈ t.list, p.1 ≠ name) : getF D.l name = (⟨name, ByteArray.empty, 0⟩, false) :=
  getF_none fun g hg => by
    rw [← h.fil] at hg
    obtain ⟨p, hp, rfl⟩ := List.mem_map.1 hg
    exact hm p hp

def noFV : FV := ⟨none, 0, [], 0⟩

/-- What a name has, or nothing. -/
theorem Dt.has {w : World} {d : Nat} {D : Dsk} {M Z : Nat → Prop} {X : ByteArray → Prop} {t : FT} (h : Dt w d D M Z X t) (name : ByteArray) :
    (∃ v a b, Tr.find ltS name t = .node name v a b ∧ (name, v) ∈ t.list ∧ getF D.l name = (filOf (name, v), true)) ∨
    (Tr.find ltS name t = .nil ∧ (∀ p ∈ t.list, p.1 ≠ name) ∧ getF D.l name = (⟨name, ByteArray.empty, 0⟩, false)) := by
  cases hf : Tr.find ltS name t with
  | nil =>
    have := Tr.find_mem linS name t h.bst hf
    exact .inr ⟨rfl, this, h.getno this⟩
  | node k v a b =>
    obtain ⟨rfl, hm⟩ := Tr.find_node linS name t hf
    exact .inl ⟨v, a, b, rfl, hm, h.get hm⟩

theorem filter_or_sorted {l : List (ByteArray × FV)} (h : l.Pairwise fun a b => ltS a.1 b.1 = true) (k : ByteArray) :
    l.filter (fun p => ltS p.1 k || ltS k p.1) = l.filter (fun p => ltS p.1 k) ++ l.filter (fun p => ltS k p.1) := by
  induction l with
  | nil => rfl
  | cons a l ih =>
    rw [List.pairwise_cons] at h
    have ih := ih h.2
    simp only [List.filter_cons]
    cases h1 : ltS a.1 k with
    | true => rw [ltS_asymm h1, ih]; simp
    | false =>
      cases h2 : ltS k a.1 with
      | false => simpa using ih
      | true =>
        have hn : l.filter (fun p => ltS p.1 k) = [] := List.filter_eq_nil_iff.2 fun p hp => by rw [ltS_asymm (ltS_trans h2 (h.1 p hp))]; decide
        rw [ih, hn]; simp

theorem map_insL (l : List (ByteArray × FV)) (name : ByteArray) (v : FV) (h : 0 < v.l.length) : (Tr.insL ltS name v l).map filOf = putF (l.map filOf) (filOf (name, v)) := by
  unfold Tr.insL putF
  have : 0 < (filOf (name, v)).b.size := h
  rw [if_pos this]
  simp [List.filter_map, Function.comp_def, filOf]

theorem map_delL {l : List (ByteArray × FV)} (hs : l.Pairwise fun a b => ltS a.1 b.1 = true) (name : ByteArray) (f : Fil) (hn : f.name = name) (h : f.b.size = 0) : (Tr.delL ltS name l).map filOf = putF (l.map filOf) f := by
  unfold Tr.delL putF
  rw [filter_or_sorted hs, hn, if_neg (by omega)]
  simp [List.filter_map, Function.comp_def, filOf]

theorem mem_insL {l : List (ByteArray × FV)} {name : ByteArray} {v : FV} {p : ByteArray × FV} (h : p ∈ Tr.insL ltS name v l) : p = (name, v) ∨ (p ∈ l ∧ p.1 ≠ name) := by
  unfold Tr.insL at h
  rcases List.mem_append.1 h with h | h
  · obtain ⟨h1, h2⟩ := List.mem_filter.1 h
    exact .inr ⟨h1, fun e => by rw [e, ltS_irr] at h2; cases h2⟩
  · rcases List.mem_cons.1 h with h | h
    · exact .inl h
    · obtain ⟨h1, h2⟩ := List.mem_filter.1 h
      exact .inr ⟨h1, fun e => by rw [e, ltS_irr] at h2; cases h2⟩

theorem mem_delL {l : List (ByteArray × FV)} {name : ByteArray} {p : ByteArray × FV} (h : p ∈ Tr.delL ltS name l) : p ∈ l ∧ p.1 ≠ name := by
  obtain ⟨h1, h2⟩ := List.mem_filter.1 h
  exact ⟨h1, fun e => by rw [e, ltS_irr] at h2; cases h2⟩

theorem lt_or {a b : ByteArray} (h : a ≠ b) : ltS a b = true ∨ ltS b a = true := by
  cases h1 : ltS a b with
  | true => exact .inl rfl
  | false =>
    cases h2 : ltS b a with
    | true => exact .inr rfl
    | false => exact absurd (ltS_con h1 h2) h

theorem in_insL {l : List (ByteArray × FV)} {name : ByteArray} {v : FV} {p : ByteArray × FV} (h : p ∈ l) (hn : p.1 ≠ name) : p ∈ Tr.insL ltS name v l := by
  unfold Tr.insL
  rcases lt_or hn with h1 | h1
  · exact List.mem_append_left _ (List.mem_filter.2 ⟨h, h1⟩)
  · exact List.mem_append_right _ (List.mem_cons_of_mem _ (List.mem_filter.2 ⟨h, h1⟩))

theorem in_delL {l : List (ByteArray × FV)} {name : ByteArray} {p : ByteArray × FV} (h : p ∈ l) (hn : p.1 ≠ name) : p ∈ Tr.delL ltS name l := by
  refine List.mem_filter.2 ⟨h, ?_⟩
  rcases lt_or hn with h1 | h1 <;> simp [h1]

theorem used_filter {l : List Fil} (h : l.Pairwise fun a b => ltS a.name b.name = true) (name : ByteArray) : usedF (l.filter (isN name)) = (getF l name).1.b.size := by
  induction l with
  | nil => rfl
  | cons a l ih =>
    rw [List.pairwise_cons] at h
    have ih := ih h.2
    unfold getF at *
    rw [List.filter_cons, List.find?_cons]
    cases hq : isN name a with
    | false => simpa using ih
    | true =>
      have hn : l.filter (isN name) = [] := List.filter_eq_nil_iff.2 fun g hg hgn => by
        have := h.1 g hg
        rw [isN_name hq, isN_name hgn, ltS_irr] at this
        cases this
      rw [hn]
      simp [usedF]

theorem Dt.used {w : World} {d : Nat} {D : Dsk} {M Z : Nat → Prop} {X : ByteArray → Prop} {t : FT} (h : Dt w d D M Z X t) (f : Fil) : usedF (putF D.l f) + (getF D.l f.name).1.b.size = usedF D.l + f.b.size := by
  rw [← used_filter h.sort, usedF_put]

/-- The map behind a store into the disk's block. -/
theorem rp_keeps {w w' : World} {d : Nat} {cs : Array Value} {T : TypeId} {fr : Nat × Nat} {P : Nat → Prop} {u : Option Addr} {t : FT} {z : Int} {rest : List Value} (hbx : w.heap[d]? = some (.cells cs T fr)) (h0 : cs.toList = .int .i64 z :: rest) (hr : MapFl.Rp P w u t) (hk : Keeps (· ≠ d) w w') : MapFl.Rp P w' u t :=
  hr.carry (fun k hk' => hr.ev k (Nat.le_trans hk.size hk')) fun b hlt hP ⟨k, hc⟩ => ⟨hP, hk.block b hlt fun e => by
    subst e
    rw [cell_of_row _ _ _ _ _ _ hbx] at hc
    rw [← Array.getElem?_toList, h0] at hc
    cases hc⟩

/-- The disk with another file of a name. -/
theorem Dt.fin {w w4 : World} {d : Nat} {D D' : Dsk} {M Z : Nat → Prop} {t t' : FT} {name : ByteArray} {v : FV} {u1 : Option Addr} (h : Dt w d D M Z (· = name) t) (hk : Keeps (· ≠ d) w w4) (hM : ∀ k, M k → k < w.heap.size)
    (hb : w4.heap[d]? = some (.cells #[.int .i64 D'.room, .int .i64 ((usedF D'.l : Nat) : Int), .pointer u1, .int .i64 (fuseOf D'), .bool D'.lost] 73)) (hr : MapFl.Rp (Pn M w) w4 u1 t') (hbst : Tr.Bst ltS t') (hfil : t'.list.map filOf = D'.l)
    (hmem : ∀ p ∈ t'.list, p = (name, v) ∨ (p ∈ t.list ∧ p.1 ≠ name)) (hv : FRow w 0 v) (hvo : ∀ g, blk v = some g → ¬ M g ∧ ¬ Z g) (hva : ∀ p ∈ t.list, p.1 ≠ name → ∀ g, blk v = some g → blk p.2 ≠ some g) : Dt w4 d D' M Z noX t' := by
  obtain ⟨u, hbx, _⟩ := h.box
  have hr4 : MapFl.Rp (Pn M w4) w4 u1 t' := hr.carry (fun k hk => .inr hk) fun b hlt hP _ => ⟨.inl fun e => by
    rcases hP with hP | hP
    · exact hP e
    · have := hM b e; omega, rfl⟩
  have hrow : ∀ p ∈ t'.list, ¬ noX p.1 → RowIn w4 M Z p.2 := by
    intro p hp _
    rcases hmem p hp with rfl | ⟨hp, hne⟩
    · exact ⟨hv.keep fun g hg => hk.block g (hv.lt g hg).2 fun e => hv.ne hbx (e ▸ hg), hvo⟩
    · have hrw := h.row p hp hne
      exact ⟨hrw.own.keep fun g hg => hk.block g (hrw.lt hg) fun e => hrw.ne hbx (e ▸ hg), hrw.out⟩
  have hap : ∀ a ∈ t'.list, ∀ b ∈ t'.list, a.1 ≠ b.1 → ¬ noX a.1 → ¬ noX b.1 → ∀ g, blk a.2 = some g → blk b.2 ≠ some g := by
    intro a ha b hb' hab _ _ g hg
    rcases hmem a ha with rfl | ⟨ha, hna⟩
    · rcases hmem b hb' with rfl | ⟨hb', hnb⟩
      · exact absurd rfl hab
      · exact hva b hb' hnb g hg
    · rcases hmem b hb' with rfl | ⟨hb', hnb⟩
      · exact fun e => hva a ha hna g e hg
      · exact h.apart a ha b hb' hab hna hnb g hg
  exact ⟨⟨u1, hb, hr4⟩, hbst, hfil, hrow, hap, h.own⟩

theorem MapFl.Rp.setCell' {w : World} {d i : Nat} {x : Value} {z : Int} {v1 v2 v3 v4 : Value} {T : TypeId} {P : Nat → Prop} {u : Option Addr} {t : FT} (hr : MapFl.Rp P w u t) (hbx : w.heap[d]? = some (.cells #[.int .i64 z, v1, v2, v3, v4] T)) : MapFl.Rp P (w.setCell ⟨d, i, none⟩ x) u t :=
  rp_keeps hbx (List.toList_toArray) hr (keeps_setCell w ⟨d, i, none⟩ x (fun h => h rfl))

end Go.Proofs.Ytnkfdnehkihbeaa
