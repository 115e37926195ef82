/- Leaders' logs that are being made: in memory. -/
import Derived.Test.YtlanjlboipnpfaaLogTaken
import Derived.Test.YtlanjlboipnpfaaLogRefE
import Derived.Test.YtlanjlboipnpfaaLogAwake
import Derived.Deep.AppendLies
namespace Go.Proofs.Ytlanjlboipnpfaa
open Go.RowKit
set_option linter.unusedVariables false
set_option linter.unusedSimpArgs false

theorem blk_own {W : World} {base : Nat} {T : TypeId} {size : Nat} {A : Option Addr} {n c m : Nat} {row : List Value} (h : W.ownsRow base T size (.slice A n c) m row) {q : Nat} (hq : (Value.slice A n c).ownBlock = some q) : blk A q := by
  rcases h.2 with ⟨e, _⟩ | ⟨g, cap, cur, e, _⟩
  · injection e with e1
    subst e1
    cases hq
  · injection e with e1
    subst e1
    have : g = q := by injection hq
    exact ⟨0, by rw [this]⟩

theorem own_of_blk {W : World} {base : Nat} {T : TypeId} {size : Nat} {A : Option Addr} {n c m : Nat} {row : List Value} (h : W.ownsRow base T size (.slice A n c) m row) {q : Nat} (hq : blk A q) : base ≤ q ∧ q < W.heap.size := by
  obtain ⟨o, e⟩ := hq
  subst e
  exact World.ownsRow.lt h q rfl

/-- The log that is being made. -/
structure Making (W0 W : World) (N : Nat → Prop) (logs : List (List Ent)) (k : Nat) (A : Option Addr) (n c : Nat) (ys : List Lay) : Prop where
  row : W.ownsRow W0.heap.size 43 3 (.slice A n c) n (rowOf ys)
  len : ys.length = n
  lays : ∀ y ∈ ys, LayOk W (fun q => q < W.heap.size ∧ ¬ blk A q ∧ ¬ N q) y
  next : Next logs k (ys.map (·.e))
  below : Below W0.heap.size W0 W

theorem Making.more {W0 W W2 w3 : World} {N : Nat → Prop} {logs : List (List Ent)} {k : Nat} {A A3 : Option Addr} {n c c3 : Nat} {ys : List Lay} {x : Lay} (h : Making W0 W N logs k A n c ys) (hN : ∀ q, N q → q < W0.heap.size) (hb2 : Below W.heap.size W W2) (hx : LayOk W2 (fun q => W.heap.size ≤ q ∧ q < W2.heap.size) x)
    (ho : w3.ownsRow W0.heap.size 43 3 (.slice A3 (n + 1) c3) (n + 1) (rowOf ys ++ rowOf [x])) (hg : W2.grownBy w3 (Value.slice A n c).ownBlock) (hA : (Value.slice A3 (n + 1) c3).ownBlock = (Value.slice A n c).ownBlock ∨ (Value.slice A3 (n + 1) c3).ownBlock = some W2.heap.size) (hn : Next logs k (ys.map (·.e) ++ [x.e])) :
    Making W0 w3 N logs k A3 (n + 1) c3 (ys ++ [x]) := by
  have h1 := h.below.size
  have h2 := hb2.size
  have h3 := hg.size
  have hlt := h.row
  have hAb : ∀ q, blk A3 q → blk A q ∨ q = W2.heap.size := fun q hq => by
    obtain ⟨o, e⟩ := hq
    subst e
    rcases hA with e | e
    · exact .inl (blk_own h.row e.symm)
    · have e2 : some q = some W2.heap.size := e
      injection e2 with e2
      exact .inr e2
  have hkeep : ∀ y : Lay, LayOk W2 (fun q => q < W2.heap.size ∧ ¬ blk A q ∧ ¬ N q) y → LayOk w3 (fun q => q < w3.heap.size ∧ ¬ blk A3 q ∧ ¬ N q) y := fun y hy => by
    refine (hy.keep h3 fun q hq hz => hg.block q hq fun e => hz.2.1 (blk_own h.row e.symm)).mono fun q hq => ⟨by omega, fun e => ?_, hq.2.2⟩
    rcases hAb q e with e | e
    · exact hq.2.1 e
    · omega
  refine ⟨by rw [rowOf_append]; exact ho, by rw [List.length_append, h.len]; rfl, fun y hy => ?_, by rw [List.map_append]; exact hn, (h.below.trans (hb2.mono h1)).grown hg (by omega) fun q e => (own_of_blk h.row (blk_own h.row e)).1⟩
  rcases List.mem_append.1 hy with hy | hy
  · refine hkeep y (((h.lays y hy).keep h2 fun q hq _ => hb2.block q hq).mono fun q hq => ⟨by omega, hq.2⟩)
  · rw [List.mem_singleton.1 hy]
    refine hkeep x (hx.mono fun q hq => ⟨hq.2, fun e => ?_, fun e => ?_⟩)
    · have := (own_of_blk h.row e).2
      omega
    · have := hN q e
      omega

/-- All leaders' logs so far, and the last one of them. -/
structure LogsAt (w W : World) (k : Nat) (AL : Option Addr) (nl cl : Nat) (Al : Option Addr) (n c : Nat) (X : List LogL) (l : List Ent) : Prop where
  row : W.ownsRow w.heap.size 22 1 (.slice AL nl cl) nl (X.map fun x => Value.slice x.A x.n x.c)
  len : X.length = nl
  lk : nl = k
  ents : ∀ x ∈ X, Ents W (fun q => q < W.heap.size ∧ ¬ blk AL q) x.A x.n x.c x.ls ∧ x.n ≤ 4 * k
  fam : Fam (X.map (·.ls)) k
  cur : Ents W (fun q => q < W.heap.size ∧ ¬ blk AL q) Al n c l
  mem : l = [] ∨ l ∈ X.map (·.ls)
  small : n ≤ 4 * k
  below : Below w.heap.size w W

theorem LogsAt.start (w : World) : LogsAt w w 0 none 0 0 none 0 0 [] [] :=
  ⟨World.ownsRow_nil _ _ _ _, rfl, rfl, fun x h => by simp at h, Fam.nil, Ents.none_ _ _, .inl rfl, by omega, Below.refl _ _⟩

theorem LogsAt.more {w W0 W w9 : World} {k nl cl n0 c0 n c g cap : Nat} {AL Al A : Option Addr} {X : List LogL} {l : List Ent} {ys : List Lay} (h : LogsAt w W0 k AL nl cl Al n0 c0 X l) (hm : Making W0 W (blk AL) (X.map (·.ls)) k A n c ys) (h0 : 0 < n) (hn : n ≤ 4 * k + 4)
    (ho : w9.ownsRow w.heap.size 22 1 (.slice (some ⟨g, 0, none⟩) (nl + 1) cap) (nl + 1) (X.map (fun x => Value.slice x.A x.n x.c) ++ [.slice A n c])) (hg : (W.alloc (.cells #[.slice A n c] 22)).grownBy w9 (Value.slice AL nl cl).ownBlock) (hA : (Value.slice AL nl cl).ownBlock = some g ∨ g = W.heap.size + 1) :
    LogsAt w w9 (k + 1) (some ⟨g, 0, none⟩) (nl + 1) cap A n c (X ++ [⟨A, n, c, ys.map (·.e)⟩]) (ys.map (·.e)) := by
  have h1 := h.below.size
  have h2 := hm.below.size
  have h3 := hg.size
  have hb8 : Below W.heap.size W (W.alloc (.cells #[.slice A n c] 22)) := (Below.refl _ _).alloc (Nat.le_refl _) _
  rw [World.size_alloc] at h3
  have hgb : blk AL g ∨ g = W.heap.size + 1 := hA.imp (fun e => blk_own h.row e) id
  have hkeep : ∀ (A' : Option Addr) (n' c' : Nat) (ls : List Ent), Ents W (fun q => q < W.heap.size ∧ ¬ blk AL q) A' n' c' ls → Ents w9 (fun q => q < w9.heap.size ∧ ¬ blk (some ⟨g, 0, none⟩) q) A' n' c' ls := fun A' n' c' ls he => by
    refine ((he.below hb8 (Nat.le_refl _)).keep (by rw [World.size_alloc]; exact h3) fun q hq hz => hg.block q hq fun e => hz.2 (blk_own h.row e.symm)).mono fun q hq => ⟨by omega, fun e => ?_⟩
    rw [blk_some] at e
    subst e
    rcases hgb with e | e
    · exact hq.2 e
    · omega
  have hnew : Ents W (fun q => q < W.heap.size ∧ ¬ blk AL q) A n c (ys.map (·.e)) := by
    have hrow := hm.row
    rw [← hm.len] at hrow
    obtain ⟨A4, c4, e4, hE4⟩ := Ents.ofAny (Z := fun q => (q < W.heap.size ∧ ¬ blk AL q) ∨ W0.heap.size ≤ q) hrow (fun q hq => .inr hq) (fun y hy => (hm.lays y hy).mono fun q hq => .inl ⟨hq.1, hq.2.2⟩)
    injection e4 with e5 e6 e7
    rw [← e5, ← e7, hm.len] at hE4
    refine hE4.old.mono fun q hq => ⟨hq.2, ?_⟩
    rcases hq.1 with e | e
    · exact e.2
    · intro e2
      have := (own_of_blk h.row e2).2
      omega
  have hll : (ys.map (·.e)).length = n := by rw [List.length_map]; exact hm.len
  refine ⟨by rw [List.map_append]; exact ho, by rw [List.length_append, h.len]; rfl, by rw [h.lk], fun x hx => ?_, ?_, hkeep _ _ _ _ hnew, .inr (by rw [List.map_append]; simp), by omega, ?_⟩
  · rcases List.mem_append.1 hx with hx | hx
    · obtain ⟨a, b⟩ := h.ents x hx
      refine ⟨hkeep _ _ _ _ ((a.below hm.below (Nat.le_refl _)).mono fun q hq => ⟨by omega, hq.2⟩), by omega⟩
    · rw [List.mem_singleton.1 hx]
      exact ⟨hkeep _ _ _ _ hnew, by show n ≤ _; omega⟩
  · rw [List.map_append]
    exact h.fam.more hm.next (by rw [hll]; exact h0)
  · exact ((h.below.trans (hm.below.mono h1)).alloc (by omega) _).grown hg (by rw [World.size_alloc]; omega) fun q e => (own_of_blk h.row (blk_own h.row e)).1

/-- The logs, as they are taken from. -/
theorem LogsAt.in_ {w W : World} {k nl cl n c : Nat} {AL Al : Option Addr} {X : List LogL} {l : List Ent} (h : LogsAt w W k AL nl cl Al n c X l) : LogsIn W (fun q => q < W.heap.size) AL X := by
  refine ⟨fun h0 => ?_, fun x hx => (h.ents x hx).1.mono fun q hq => hq.1⟩
  have hl := h.len
  rcases h.row.2 with ⟨e, h1⟩ | ⟨g, cap, cur, e, hb, hh, h1, h2, h3, h4⟩
  · omega
  · injection e with e1
    subst e1
    refine ⟨g, 0, rfl, hlt hh, hlt hh, fun j hj => ?_⟩
    rw [cell_of_row _ _ _ _ _ _ hh, Nat.zero_add]
    have e2 : (cur.toList.take (nl * 1))[j]? = (X.map fun x => Value.slice x.A x.n x.c)[j]? := by rw [h4]
    rw [List.getElem?_take, if_pos (by omega), List.getElem?_map, List.getElem?_eq_getElem hj] at e2
    simpa using e2

end Go.Proofs.Ytlanjlboipnpfaa
