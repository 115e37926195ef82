/- The program's ways to put an entry in its place and to leave out what stands behind a snap. Plain mathematics. -/
import Derived.Test.YtmeoooojmhhahaaGreatVauM
import Derived.Test.YtmeoooojmhhahaaGreatVauP1
import Derived.Test.YtmeoooojmhhahaaGreatEntP
import Derived.Test.YtmeoooojmhhahaaGreatWalP
import Derived.Deep.LoopGhost
import Derived.Deep.AppendLies
import Derived.Deep.QuietTactic
import Derived.Deep.RegionHeld3
import Derived.Deep.Cut
import Derived.Deep.DeepCutAuto
import Derived.BigQuiet
import Derived.ArgAppend
import Derived.Lib.SliceRun
namespace Go.Proofs.YtmeoooojmhhahaaGreat
set_option linter.unusedVariables false
set_option linter.unusedSimpArgs false

theorem goesOn_at : ∀ {l : List Ent}, goesOn l → ∀ k (hk : k + 1 < l.length), l[k + 1].i = l[k].i + 1 ∧ l[k].t ≤ l[k + 1].t
  | [], _, k, hk => by simp at hk
  | [a], _, k, hk => by simp at hk
  | a :: b :: l, h, 0, _ => h.1
  | a :: b :: l, h, k + 1, hk => goesOn_at (l := b :: l) h.2 k (by simpa using hk)

theorem goesOn_i {l : List Ent} (h : goesOn l) : ∀ k (hk : k < l.length) (h0 : 0 < l.length), l[k].i = l[0].i + k
  | 0, _, _ => by simp
  | k + 1, hk, h0 => by
    have := (goesOn_at h k hk).1
    have := goesOn_i h k (by omega) h0
    omega

theorem goesOn_snoc {l : List Ent} {e : Ent} (h : goesOn l) (hl : ∀ (h0 : 0 < l.length), e.i = l[l.length - 1].i + 1 ∧ l[l.length - 1].t ≤ e.t) : goesOn (l ++ [e]) := by
  refine goesOn_of fun k hk => ?_
  rw [List.length_append, List.length_singleton] at hk
  by_cases hlt : k + 1 < l.length
  · rw [List.getElem_append_left hlt, List.getElem_append_left (by omega)]
    exact goesOn_at h k hlt
  · have h0 : 0 < l.length := by omega
    obtain rfl : k = l.length - 1 := by omega
    rw [List.getElem_append_right (by omega), List.getElem_append_left (by omega)]
    simp only [List.getElem_singleton]
    exact hl h0

/-- Those below an index are the first ones. -/
theorem goesOn_filter {l : List Ent} (h : goesOn l) (i : Int) (m : Nat) (hm : m ≤ l.length) (hhi : ∀ j (hj : j < l.length), m ≤ j → i ≤ l[j].i) (hlo : ∀ (h0 : 0 < m), l[m - 1].i < i) : l.filter (fun g => decide (g.i < i)) = l.take m := by
  have h1 : (l.take m).filter (fun g => decide (g.i < i)) = l.take m := by
    rw [List.filter_eq_self]
    intro x hx
    obtain ⟨k, hk, rfl⟩ := List.getElem_of_mem hx
    rw [List.length_take] at hk
    rw [List.getElem_take]
    have h0 : 0 < m := by omega
    have a := goesOn_i h k (by omega) (by omega)
    have b := goesOn_i h (m - 1) (by omega) (by omega)
    have c := hlo h0
    exact decide_eq_true (by omega)
  have h2 : (l.drop m).filter (fun g => decide (g.i < i)) = [] := by
    rw [List.filter_eq_nil_iff]
    intro x hx
    obtain ⟨k, hk, rfl⟩ := List.getElem_of_mem hx
    rw [List.length_drop] at hk
    rw [List.getElem_drop]
    have := hhi (m + k) (by omega) (by omega)
    simp
    omega
  have h3 : l.filter (fun g => decide (g.i < i)) = (l.take m ++ l.drop m).filter (fun g => decide (g.i < i)) := by rw [List.take_append_drop]
  rw [h3, List.filter_append, h1, h2, List.append_nil]

/-- An entry's place: behind the first ones, those below its index. -/
theorem putE_at {l : List Ent} (h : goesOn l) (e : Ent) (m : Nat) (hm : m ≤ l.length) (hhi : ∀ j (hj : j < l.length), m ≤ j → e.i ≤ l[j].i) (hlo : ∀ (h0 : 0 < m), l[m - 1].i < e.i) :
    putE l e = if h0 : 0 < m then (if l[m - 1].i = e.i - 1 ∧ l[m - 1].t ≤ e.t then some (l.take m ++ [e]) else none) else some [e] := by
  unfold putE
  rw [goesOn_filter h e.i m hm hhi hlo]
  by_cases h0 : 0 < m
  · rw [dif_pos h0, if_neg]
    · have : (l.take m).getLast? = some l[m - 1] := by
        rw [List.getLast?_eq_getElem?, List.length_take, List.getElem?_take, if_pos (by omega)]
        have e1 : min m l.length - 1 = m - 1 := by omega
        rw [e1, List.getElem?_eq_getElem (by omega)]
      rw [this]
    · cases l with
      | nil => simp
      | cons f t =>
        have a := goesOn_i h (m - 1) (by omega) (by simp)
        have b := hlo h0
        simp only [List.getElem_cons_zero] at a
        simp
        omega
  · obtain rfl : m = 0 := by omega
    rw [dif_neg h0, List.take_zero]
    have key : ∀ b : Bool, (if b = true then some [e] else (match ([] : List Ent).getLast? with | none => some [e] | some f => if f.i = e.i - 1 ∧ f.t ≤ e.t then some ([] ++ [e]) else none)) = some [e] := by
      intro b
      cases b <;> rfl
    exact key _

theorem one_run {i t : Int} {e : Ent} (hr : rightE e = true) : runB i t [e] = decide (i = e.i - 1 ∧ t ≤ e.t) := by
  have key : stepB i t [e] 0 = decide (i = e.i - 1 ∧ t ≤ e.t) := by
    rw [stepB_at i t [e] 0 (by simp)]
    have h2 : rightB ([e][0]).i ([e][0]).t ([e][0]).d.length = true := hr
    rw [h2]
    simp only [prevI, prevT, if_pos, List.getElem_cons_zero, Bool.true_and]
    apply Bool.eq_iff_iff.2
    simp only [Bool.and_eq_true, decide_eq_true_eq]
    omega
  unfold runB
  simp [key]

theorem putE_goes {l m : List Ent} {e : Ent} (h : goesOn l) (hp : putE l e = some m) : goesOn m := by
  obtain ⟨k, hk, hhi, hlo⟩ : ∃ k, k ≤ l.length ∧ (∀ j (hj : j < l.length), k ≤ j → e.i ≤ l[j].i) ∧ (∀ (h0 : 0 < k) (hk : k ≤ l.length), (l[k - 1]'(by omega)).i < e.i) := by
    clear hp
    have : ∀ q, q ≤ l.length → (∀ j (hj : j < l.length), q ≤ j → e.i ≤ l[j].i) → ∃ k, k ≤ l.length ∧ (∀ j (hj : j < l.length), k ≤ j → e.i ≤ l[j].i) ∧ (∀ (h0 : 0 < k) (hk : k ≤ l.length), (l[k - 1]'(by omega)).i < e.i) := by
      intro q
      induction q with
      | zero => exact fun h1 h2 => ⟨0, h1, h2, fun h0 => absurd h0 (by omega)⟩
      | succ q ih =>
        intro h1 h2
        by_cases hc : l[q].i < e.i
        · exact ⟨q + 1, h1, h2, fun _ _ => hc⟩
        · refine ih (by omega) fun j hj hqj => ?_
          rcases Nat.eq_or_lt_of_le hqj with rfl | hlt
          · omega
          · exact h2 j hj hlt
    exact this l.length (Nat.le_refl _) fun j hj h1 => absurd hj (by omega)
  rw [putE_at h e k hk hhi (fun h0 => hlo h0 hk)] at hp
  by_cases h0 : 0 < k
  · rw [dif_pos h0] at hp
    split at hp
    · rename_i hc
      injection hp with hp
      subst hp
      refine goesOn_snoc (goesOn_left (m := l.drop k) (by rw [List.take_append_drop]; exact h)) fun h1 => ?_
      have e1 : (l.take k).length = k := by rw [List.length_take]; omega
      simp only [e1, List.getElem_take]
      exact ⟨by omega, hc.2⟩
    · cases hp
  · rw [dif_neg h0] at hp
    injection hp with hp
    subst hp
    exact ⟨trivial, trivial⟩

theorem tellOne_goes {q p : Hd × List Ent} {r : List UInt8} (h : tellOne q r = some p) (hq : goesOn q.2) : goesOn p.2 := by
  unfold tellOne at h
  split at h
  · split at h
    · injection h with h
      subst h
      exact hq
    · cases h
  · split at h
    · split at h
      · obtain ⟨l, hl, rfl⟩ := Option.map_eq_some_iff.1 h
        exact putE_goes hq hl
      · cases h
    · cases h

theorem tellFrom_goes : ∀ (ls : List (List UInt8)) {q p : Hd × List Ent}, tellFrom q ls = some p → goesOn q.2 → goesOn p.2
  | [], q, p, h, hq => by rw [tellFrom_nil] at h; injection h with h; subst h; exact hq
  | r :: ls, q, p, h, hq => by
    rw [tellFrom_cons] at h
    obtain ⟨k, hk, h⟩ := Option.bind_eq_some_iff.1 h
    exact tellFrom_goes ls h (tellOne_goes hk hq)

theorem tells_goes {ls : List (List UInt8)} {h : Hd} {l : List Ent} (ht : tells ls = some (h, l)) : goesOn l := tellFrom_goes ls (p := (h, l)) ht trivial

/-- Of entries that go on one is the snap's: those behind it are left. -/
theorem leftE_match {s : Ent} {l : List Ent} (h : goesOn l) (n : Nat) (hn : n < l.length) (hi : l[n].i = s.i) (ht : l[n].t = s.t) : leftE s l = l.drop (n + 1) := by
  have hw : withB s l = true := by
    unfold withB
    rw [Bool.or_eq_true]
    refine .inr (List.any_eq_true.2 ⟨l[n], List.getElem_mem hn, ?_⟩)
    rw [decide_eq_true hi, decide_eq_true ht]
    rfl
  have h3 := goesOn_filter h (s.i + 1) (n + 1) (by omega) (fun j hj hq => by
    have a := goesOn_i h n hn (by omega)
    have b := goesOn_i h j hj (by omega)
    omega) (fun h0 => by show l[n].i < _; omega)
  have h4 : (l.drop (n + 1)).filter (fun g => decide (s.i < g.i)) = l.drop (n + 1) := by
    rw [List.filter_eq_self]
    intro x hx
    obtain ⟨k, hk, rfl⟩ := List.getElem_of_mem hx
    rw [List.length_drop] at hk
    rw [List.getElem_drop]
    have a := goesOn_i h n hn (by omega)
    have b := goesOn_i h (n + 1 + k) (by omega) (by omega)
    exact decide_eq_true (by omega)
  have h5 : (l.take (n + 1)).filter (fun g => decide (s.i < g.i)) = [] := by
    rw [List.filter_eq_nil_iff]
    intro x hx
    obtain ⟨k, hk, rfl⟩ := List.getElem_of_mem hx
    rw [List.length_take] at hk
    rw [List.getElem_take]
    have a := goesOn_i h n hn (by omega)
    have b := goesOn_i h k (by omega) (by omega)
    simp
    omega
  have h6 : l.filter (fun g => decide (s.i < g.i)) = (l.take (n + 1) ++ l.drop (n + 1)).filter (fun g => decide (s.i < g.i)) := by rw [List.take_append_drop]
  unfold leftE
  rw [if_pos hw, h6, List.filter_append, h5, h4, List.nil_append]

/-- Does the first one stand right behind the snap? -/
def nextB (s : Ent) (l : List Ent) : Bool := match l with | [] => false | f :: _ => decide (f.i = s.i + 1)

/-- None is the snap's: all are left, or none. -/
theorem leftE_nomatch {s : Ent} {l : List Ent} (h : goesOn l) (hno : ∀ n (hn : n < l.length), ¬ (l[n].i = s.i ∧ l[n].t = s.t)) : leftE s l = if nextB s l = true then l else [] := by
  have ha : l.any (fun g => decide (g.i = s.i) && decide (g.t = s.t)) = false := by
    rw [List.any_eq_false]
    intro x hx
    obtain ⟨k, hk, rfl⟩ := List.getElem_of_mem hx
    have := hno k hk
    simp
    intro a b
    exact this ⟨a, b⟩
  have hw : withB s l = nextB s l := by
    show (nextB s l || _) = _
    rw [ha, Bool.or_false]
  unfold leftE
  rw [hw]
  by_cases hc : nextB s l = true
  · rw [if_pos hc, if_pos hc]
    cases l with
    | nil => rfl
    | cons f t =>
      have hc' : f.i = s.i + 1 := of_decide_eq_true hc
      rw [List.filter_eq_self]
      intro x hx
      obtain ⟨k, hk, rfl⟩ := List.getElem_of_mem hx
      have := goesOn_i h k hk (by simp)
      simp only [List.getElem_cons_zero] at this
      exact decide_eq_true (by omega)
  · rw [if_neg hc, if_neg hc]

end Go.Proofs.YtmeoooojmhhahaaGreat

namespace Go.Proofs.YtmeoooojmhhahaaGreat
open Go.RowKit
set_option linter.unusedVariables false
set_option linter.unusedSimpArgs false

theorem below_drewM {B : Nat} {a w : World} (h : Below B a w) (n : Nat) : Below B a (w.drewN n) := ⟨h.os, h.tape, h.output, h.size, h.block⟩

/-- Entries in a row from block B on; the row and their bytes lie in Y, the bytes not in the row. -/
def EntRow (w : World) (B : Nat) (Y : Nat → Prop) (v : Value) (l : List Ent) : Prop :=
  ∃ xs : List Lay, w.ownsRow B 69 3 v l.length (rowOf xs) ∧ (∀ g, v.ownBlock = some g → Y g) ∧ xs.map (·.e) = l ∧ ∀ x ∈ xs, LayOk w (fun q => Y q ∧ v.ownBlock ≠ some q) x

section
variable {w w' : World} {B : Nat} {Y Y' : Nat → Prop} {v : Value} {l : List Ent}

theorem EntRow.nil (w : World) (B : Nat) (Y : Nat → Prop) : EntRow w B Y (.slice none 0 0) [] := ⟨[], World.ownsRow_nil _ _ _ _, (fun g e => by cases e), rfl, fun x hx => by cases hx⟩

theorem EntRow.keep (h : EntRow w B Y v l) (hs : w.heap.size ≤ w'.heap.size) (hk : ∀ k, k < w.heap.size → Y k → w'.heap[k]? = w.heap[k]?) : EntRow w' B Y v l := by
  obtain ⟨xs, ho, hy, hx, hl⟩ := h
  exact ⟨xs, owns_heap ho fun g hg => hk g (ho.lt g hg).2 (hy g hg), hy, hx, fun x hx => (hl x hx).keep hs fun k hk' hz => hk k hk' hz.1⟩

theorem EntRow.below (h : EntRow w B Y v l) (hb : Below w.heap.size w w') : EntRow w' B Y v l := h.keep hb.size fun k hk _ => hb.block k hk

theorem EntRow.mono (h : EntRow w B Y v l) (hy : ∀ k, Y k → Y' k) : EntRow w B Y' v l := by
  obtain ⟨xs, ho, h1, hx, hl⟩ := h
  exact ⟨xs, ho, fun g hg => hy g (h1 g hg), hx, fun x hx => (hl x hx).mono fun k hk => ⟨hy k hk.1, hk.2⟩⟩

theorem EntRow.form (h : EntRow w B Y v l) : ∃ A c, v = .slice A l.length c := by
  obtain ⟨xs, ho, _, _, _⟩ := h
  rcases ho.2 with ⟨rfl, h0⟩ | ⟨g, cap, cur, rfl, _⟩
  · exact ⟨none, 0, by rw [h0]⟩
  · exact ⟨_, _, rfl⟩

theorem EntRow.cap {A : Option Addr} {n c : Nat} (h : EntRow w B Y (.slice A n c) l) : n = l.length ∧ n ≤ c ∧ c ≤ maxLen ∧ (A = none → c = 0) := by
  obtain ⟨xs, ho, _, _, _⟩ := h
  rcases ho.2 with ⟨e, h0⟩ | ⟨g, cap, cur, e, _, _, h1, h2, _⟩
  · injection e with e1 e2 e3
    subst e1 e2 e3
    exact ⟨h0.symm, Nat.le_refl _, Nat.zero_le _, fun _ => rfl⟩
  · injection e with e1 e2 e3
    subst e1 e2 e3
    exact ⟨rfl, h1, h2, fun h => by cases h⟩

theorem rowOf_take (xs : List Lay) : ∀ m, (rowOf xs).take (m * 3) = rowOf (xs.take m) := by
  induction xs with
  | nil => intro m; simp [rowOf]
  | cons x xs ih =>
    intro m
    cases m with
    | zero => simp [rowOf]
    | succ m =>
      rw [List.take_succ_cons, rowOf_cons, rowOf_cons, List.take_append, show (m + 1) * 3 - (cells3 x).length = m * 3 by simp [cells3]; omega, ih m, List.take_of_length_le (by simp [cells3]; omega)]

/-- The first ones of a row. -/
theorem EntRow.take {A : Option Addr} {n c : Nat} (h : EntRow w B Y (.slice A n c) l) (m : Nat) (hm : m ≤ l.length) : EntRow w B Y (.slice A m c) (l.take m) := by
  have hcap := h.cap
  obtain ⟨xs, ho, hy, hx, hl⟩ := h
  have hlen : (l.take m).length = m := by rw [List.length_take]; omega
  have hxl : xs.length = l.length := by rw [← hx, List.length_map]
  refine ⟨xs.take m, ?_, fun g hg => hy g (by rw [← hg]; exact own_blk _ _ _ _ _), by rw [← hx, List.map_take], fun x hx => ?_⟩
  · rw [hlen]
    refine ⟨by rw [rowOf_length, List.length_take]; omega, ?_⟩
    rcases ho.2 with ⟨e, h0⟩ | ⟨g, cap, cur, e, hb, hg, h1, h2, h3, h4⟩
    · injection e with e1 e2 e3
      subst e1 e3
      exact .inl ⟨by rw [show m = 0 by omega], by omega⟩
    · injection e with e1 e2 e3
      subst e1 e3
      refine .inr ⟨g, c, cur, rfl, hb, hg, by omega, h2, h3, ?_⟩
      rw [← rowOf_take, ← h4, List.take_take]
      congr 1
      omega
  · have := hl x (List.mem_of_mem_take hx)
    exact this.mono fun k hk => ⟨hk.1, fun e => hk.2 (by rw [← e]; exact own_blk _ _ _ _ _)⟩

theorem EntRow.ents {A : Option Addr} {n c : Nat} (h : EntRow w B Y (.slice A n c) l) : Ents w Y A l.length c l := by
  have hcap := h.cap
  obtain ⟨xs, ho, hy, hx, hl⟩ := h
  have hn := hcap.1
  subst hn
  cases A with
  | none =>
    have h0 : l = [] := List.eq_nil_of_length_eq_zero (by have := hcap.2.2.2 rfl; omega)
    subst h0
    exact ⟨rfl, hcap.2.1, fun _ => hcap.2.2.2 rfl, fun h => absurd h (by simp)⟩
  | some a =>
    obtain ⟨g, off, spot⟩ := a
    rcases ho.2 with ⟨e, h0⟩ | ⟨g', cap, cur, e, hb, _⟩
    · cases e
    · injection e with e1 e2 e3
      injection e1 with e1
      injection e1 with e4 e5 e6
      subst e4 e5 e6
      have := Ents.ofRow ho (by rw [← hx, List.length_map]) (Z := Y) (hy _ rfl) fun x hx => (hl x hx).mono fun k hk => hk.1
      rw [hx] at this
      exact this

/-- One more behind the others. -/
theorem EntRow.more {w1 : World} {g cap : Nat} {x : Ent} {A : Option Addr} {c : Nat} (hw : w.heap.size ≤ w1.heap.size) (hb : ∀ k, k < w.heap.size → Y k → w1.heap[k]? = w.heap[k]?) (hx : LayOk w1 (fun q => Y q ∧ v.ownBlock ≠ some q) ⟨x, A, c⟩)
    (xs : List Lay) (hxs : xs.map (·.e) = l) (hok : ∀ x ∈ xs, LayOk w (fun q => Y q ∧ v.ownBlock ≠ some q) x) (hyv : ∀ g, v.ownBlock = some g → Y g) (hn : Y w1.heap.size) (hxd : 0 < x.d.length → ∀ q o, A = some ⟨q, o, none⟩ → q < w1.heap.size)
    (ho : w'.ownsRow B 69 3 (.slice (some ⟨g, 0, none⟩) (l.length + 1) cap) (l.length + 1) (rowOf xs ++ rowOf [⟨x, A, c⟩])) (hg : w1.grownBy w' v.ownBlock) (hq : v.ownBlock = some g ∨ g = w1.heap.size) :
    EntRow w' B Y (.slice (some ⟨g, 0, none⟩) (l.length + 1) cap) (l ++ [x]) := by
  have key : ∀ {y : Lay}, LayOk w1 (fun q => Y q ∧ v.ownBlock ≠ some q) y → (0 < y.e.d.length → ∀ q o, y.A = some ⟨q, o, none⟩ → q < w1.heap.size) → LayOk w' (fun q => Y q ∧ (Value.slice (some ⟨g, 0, none⟩) (l.length + 1) cap).ownBlock ≠ some q) y := by
    intro y hy hlt
    refine ⟨hy.1, hy.2.1.keep hg.size fun h0 q o e hq1 => hg.block q hq1 fun er => (hy.2.2 h0 q o e).2 er.symm, fun h0 q o e => ⟨(hy.2.2 h0 q o e).1, fun er => ?_⟩⟩
    injection er with er
    have er : g = q := er
    subst er
    rcases hq with hq | hq
    · exact (hy.2.2 h0 g o e).2 hq
    · have := hlt h0 g o e; omega
  refine ⟨xs ++ [⟨x, A, c⟩], ?_, fun k hk => ?_, by rw [List.map_append, hxs]; rfl, fun y hy => ?_⟩
  · have e : rowOf (xs ++ [⟨x, A, c⟩]) = rowOf xs ++ rowOf [⟨x, A, c⟩] := by unfold rowOf; rw [List.flatMap_append]
    rw [e, List.length_append, List.length_singleton]
    exact ho
  · injection hk with hk
    have hk : g = k := hk
    subst hk
    rcases hq with hq | hq
    · exact hyv g hq
    · rw [hq]; exact hn
  · rcases List.mem_append.1 hy with hy | hy
    · have h1 := hok y hy
      have h2 : LayOk w1 (fun q => Y q ∧ v.ownBlock ≠ some q) y := h1.keep hw fun k hk hz => hb k hk hz.1
      refine key h2 fun h0 q o e => ?_
      obtain ⟨q', o', e', hlt, _⟩ := h1.2.1.2.2.2 h0
      rw [e] at e'
      injection e' with e'
      injection e' with e1 _
      omega
    · rw [List.mem_singleton.1 hy]
      exact key hx hxd
end

/-- What is told, in block b: what is hard, and the entries in a row of its own. -/
structure Tld (w : World) (b B : Nat) (h : Hd) (A : Option Addr) (c : Nat) (l : List Ent) : Prop where
  box : w.heap[b]? = some (.cells #[.int .i64 h.t, .int .i64 h.v, .slice A l.length c] 101)
  row : EntRow w B (fun q => B ≤ q ∧ q ≠ b) (.slice A l.length c) l
  lo : B ≤ b

theorem Tld.below {w w' : World} {b B : Nat} {h : Hd} {A : Option Addr} {c : Nat} {l : List Ent} (hT : Tld w b B h A c l) (hb : Below w.heap.size w w') : Tld w' b B h A c l :=
  ⟨(hb.block _ (hlt hT.box)).trans hT.box, hT.row.below hb, hT.lo⟩

theorem info_ent3 : (Tryz.prog.info? 69).map (fun i => (i.zero, i.size, i.bytes)) = some (some (.agg #[.int .i64 0, .int .i64 0, .slice none 0 0]), 3, 40) := info_ent

/-- One entry in a block of its own. -/
theorem ents_one {W : World} {x : Ent} {E : Option Addr} {ec : Nat} (hl : Lies W E x.d.length ec x.d) (hec : ec ≤ maxLen) : Ents (W.alloc (.cells #[.int .i64 x.i, .int .i64 x.t, .slice E x.d.length ec] 69)) (fun _ => True) (some ⟨W.heap.size, 0, none⟩) 1 1 [x] := by
  refine ⟨rfl, Nat.le_refl _, (fun h => by cases h), fun _ => ⟨W.heap.size, 0, rfl, by simp, trivial, fun j hj => ?_⟩⟩
  obtain rfl : j = 0 := by simpa using hj
  obtain ⟨⟨a0, a1, a2⟩, _⟩ := row3 (heap_alloc_new W (.cells #[.int .i64 x.i, .int .i64 x.t, .slice E x.d.length ec] 69))
  exact ⟨E, ec, a0, a1, a2, hec, hl.below ((Below.refl W.heap.size W).alloc (Nat.le_refl _) _) (Nat.le_refl _), fun _ _ _ _ => trivial⟩

/-- The first so many of entries. -/
theorem run_frontE (A : Option Addr) (len cap n : Nat) (hn : n ≤ cap) (W : World) :
    (Instr.slice 36 (.slice A len cap) none (some (.int .i64 (n : Int))) none).run Tryz.prog W = .ok (.slice A n cap) W := by
  have ht := Tryz.underlying36
  have ht' : Tryz.prog.underlying 36 = some (.slice (Tryz.prog.elem 36)) := by simp [Program.elem, ht]
  have he : Tryz.prog.elem 36 = 69 := by simp [Program.elem, ht]
  rw [run_slice_h W 36 _ _ _ ht' .i64 _ (by omega) (by omega), he, sizeOf_ent]
  cases A <;> simp [Result.andThen, sliced, Addr.add]

end Go.Proofs.YtmeoooojmhhahaaGreat

namespace Go.Proofs.YtmeoooojmhhahaaGreat
open Go.RowKit
set_option linter.unusedVariables false
set_option linter.unusedSimpArgs false

theorem rowOf_append (xs ys : List Lay) : rowOf (xs ++ ys) = rowOf xs ++ rowOf ys := by simp [rowOf]

theorem lay_at {w : World} {g off : Nat} {xs : List Lay} (hc : ∀ j u, (rowOf xs)[j]? = some u → w.cell? ((⟨g, off, none⟩ : Addr).add j) = some u) (k : Nat) (hk : k < xs.length) :
    w.cell? ⟨g, off + k * 3, none⟩ = some (.int .i64 xs[k].e.i) ∧ w.cell? ⟨g, off + k * 3 + 1, none⟩ = some (.int .i64 xs[k].e.t) ∧ w.cell? ⟨g, off + k * 3 + 2, none⟩ = some (.slice xs[k].A xs[k].e.d.length xs[k].c) := by
  have h : ∀ r (hr : r < 3), w.cell? ⟨g, off + (k * 3 + r), none⟩ = (cells3 xs[k])[r]? := fun r hr => by
    have e := rowOf_at xs k r hk hr
    have hl : r < (cells3 xs[k]).length := by simp [cells3]; omega
    rw [List.getElem?_eq_getElem hl] at e ⊢
    have := hc _ _ e
    rwa [Addr.add_lit] at this
  exact ⟨h 0 (by omega), h 1 (by omega), h 2 (by omega)⟩

/-- Which block a slice lies in. -/
def blkS (A : Option Addr) (q : Nat) : Prop := ∃ o, A = some ⟨q, o, none⟩

theorem blkS_some (g o q : Nat) : blkS (some ⟨g, o, none⟩) q ↔ q = g := by
  constructor
  · rintro ⟨o', e⟩
    injection e with e
    injection e with e1
    exact e1.symm
  · rintro rfl
    exact ⟨o, rfl⟩

theorem blkS_none (q : Nat) : ¬ blkS none q := fun ⟨o, e⟩ => by cases e

/-- Entries in a row, from somewhere on, with room behind them. -/
def Spot (w : World) (A : Option Addr) (n cap : Nat) (xs : List Lay) : Prop :=
  xs.length = n ∧ n ≤ cap ∧ cap ≤ maxLen ∧ (A = none → cap = 0) ∧ ∀ a, A = some a → ∃ g off cur, a = ⟨g, off, none⟩ ∧ w.heap[g]? = some (.cells cur 69 (0, 0)) ∧ off + cap * 3 ≤ cur.size ∧ ∀ j u, (rowOf xs)[j]? = some u → cur[off + j]? = some u

section
variable {w w' : World} {A : Option Addr} {n cap : Nat} {xs ys : List Lay}

theorem Spot.keep (h : Spot w A n cap xs) (hk : ∀ q, blkS A q → w'.heap[q]? = w.heap[q]?) : Spot w' A n cap xs := by
  refine ⟨h.1, h.2.1, h.2.2.1, h.2.2.2.1, fun a e => ?_⟩
  obtain ⟨g, off, cur, rfl, hg, r⟩ := h.2.2.2.2 a e
  exact ⟨g, off, cur, rfl, (hk g ⟨off, e⟩).trans hg, r⟩

theorem Spot.lt (h : Spot w A n cap xs) {q : Nat} (hq : blkS A q) : q < w.heap.size := by
  obtain ⟨o, e⟩ := hq
  obtain ⟨g, off, cur, e2, hg, _⟩ := h.2.2.2.2 _ e
  injection e2 with e2
  subst e2
  exact hlt hg

theorem Spot.cells (h : Spot w A n cap xs) {a : Addr} (e : A = some a) : ∀ j u, (rowOf xs)[j]? = some u → w.cell? (a.add j) = some u := fun j u hu => by
  obtain ⟨g, off, cur, rfl, hg, _, hc⟩ := h.2.2.2.2 a e
  rw [Addr.add_lit, cell_of_row w g _ cur _ _ hg]
  exact hc j u hu

theorem Spot.ents {Z : Nat → Prop} (h : Spot w A n cap xs) (hz : ∀ q, blkS A q → Z q) (hok : ∀ x ∈ xs, LayOk w Z x) : Ents w Z A n cap (xs.map (·.e)) := by
  refine ⟨by rw [List.length_map]; exact h.1, h.2.1, h.2.2.2.1, fun h0 => ?_⟩
  cases A with
  | none => have := h.2.2.2.1 rfl; have := h.2.1; omega
  | some a =>
    obtain ⟨g, off, cur, rfl, hg, hs, hc⟩ := h.2.2.2.2 a rfl
    refine ⟨g, off, rfl, hlt hg, hz g ⟨off, rfl⟩, fun j hj => ?_⟩
    have hj' : j < xs.length := by simpa using hj
    obtain ⟨c0, c1, c2⟩ := lay_at (w := w) (g := g) (off := off) (xs := xs) (h.cells rfl) j hj'
    obtain ⟨hm, hl, hzE⟩ := hok _ (List.getElem_mem hj')
    simp only [List.getElem_map]
    exact ⟨_, _, c0, c1, c2, hm, hl, hzE⟩

theorem rowOf_front (xs : List Lay) (k : Nat) : rowOf (xs.take k) = (rowOf xs).take (k * 3) := by
  have h : rowOf xs = rowOf (xs.take k) ++ rowOf (xs.drop k) := by rw [← rowOf_append, List.take_append_drop]
  rcases Nat.lt_or_ge k xs.length with hk | hk
  · have hl : (rowOf (xs.take k)).length = k * 3 := by rw [rowOf_length, List.length_take]; omega
    have e := List.take_left' (l₂ := rowOf (xs.drop k)) hl
    rw [← h] at e
    exact e.symm
  · rw [List.take_of_length_le hk, List.take_of_length_le (by rw [rowOf_length]; omega)]

theorem rowOf_drop (xs : List Lay) (k : Nat) : rowOf (xs.drop k) = (rowOf xs).drop (k * 3) := by
  have h : rowOf xs = rowOf (xs.take k) ++ rowOf (xs.drop k) := by rw [← rowOf_append, List.take_append_drop]
  rcases Nat.lt_or_ge k xs.length with hk | hk
  · have hl : (rowOf (xs.take k)).length = k * 3 := by rw [rowOf_length, List.length_take]; omega
    have e := List.drop_left' (l₂ := rowOf (xs.drop k)) hl
    rw [← h] at e
    exact e.symm
  · rw [List.drop_of_length_le hk, List.drop_of_length_le (by rw [rowOf_length]; omega)]
    rfl

theorem Spot.take (h : Spot w A n cap xs) {k : Nat} (hk : k ≤ n) : Spot w A k cap (xs.take k) := by
  have h1 := h.1
  have h2 := h.2.1
  refine ⟨by rw [List.length_take]; omega, by omega, h.2.2.1, h.2.2.2.1, fun a e => ?_⟩
  obtain ⟨g, off, cur, rfl, hg, hs, hc⟩ := h.2.2.2.2 a e
  refine ⟨g, off, cur, rfl, hg, hs, fun j u hu => hc j u ?_⟩
  rw [rowOf_front] at hu
  rw [List.getElem?_take] at hu
  split at hu
  · exact hu
  · cases hu

/-- Where the rest of a row begins. -/
def tailAt (A : Option Addr) (cap k : Nat) : Option Addr := if cap = k then A else A.map (·.add (k * 3))

theorem tailAt_blkS {k : Nat} (q : Nat) (hA : ∀ a, A = some a → a.spot = none) : blkS (tailAt A cap k) q ↔ blkS A q := by
  unfold tailAt
  split
  · exact Iff.rfl
  · cases A with
    | none => exact Iff.rfl
    | some a =>
      obtain ⟨g, o, sp⟩ := a
      obtain rfl : sp = none := hA _ rfl
      rw [Option.map_some, Addr.add_lit, blkS_some, blkS_some]

theorem Spot.spotless (h : Spot w A n cap xs) : ∀ a, A = some a → a.spot = none := fun a e => by
  obtain ⟨g, off, cur, rfl, _⟩ := h.2.2.2.2 a e
  rfl

theorem Spot.drop (h : Spot w A n cap xs) {k : Nat} (hk : k ≤ n) : Spot w (tailAt A cap k) (n - k) (cap - k) (xs.drop k) := by
  have h1 := h.1
  have h2 := h.2.1
  refine ⟨by rw [List.length_drop]; omega, by omega, Nat.le_trans (Nat.sub_le _ _) h.2.2.1, fun e => ?_, fun a e => ?_⟩
  · unfold tailAt at e
    split at e
    · omega
    · cases A with
      | none => have := h.2.2.2.1 rfl; omega
      | some a => cases e
  · cases A with
    | none => unfold tailAt at e; split at e <;> cases e
    | some b =>
      obtain ⟨g, off, cur, rfl, hg, hs, hc⟩ := h.2.2.2.2 b rfl
      unfold tailAt at e
      split at e
      · injection e with e
        subst e
        refine ⟨g, off, cur, rfl, hg, by omega, fun j u hu => ?_⟩
        have hl : j < (rowOf (xs.drop k)).length := (List.getElem?_eq_some_iff.1 hu).1
        rw [rowOf_length, List.length_drop] at hl
        omega
      · rw [Option.map_some, Addr.add_lit] at e
        injection e with e
        subst e
        refine ⟨g, off + k * 3, cur, rfl, hg, by omega, fun j u hu => ?_⟩
        rw [rowOf_drop, List.getElem?_drop] at hu
        rw [Nat.add_assoc]
        exact hc _ _ hu

theorem slice_back {k : Nat} (hk : k ≤ n) (hn : n ≤ cap) (W : World) : (Instr.slice 36 (.slice A n cap) (some (.int .i64 (k : Int))) none none).run Tryz.prog W = .ok (.slice (tailAt A cap k) (n - k) (cap - k)) W := by
  have ht := Tryz.underlying36
  have ht' : Tryz.prog.underlying 36 = some (.slice (Tryz.prog.elem 36)) := by simp [Program.elem, ht]
  have he : Tryz.prog.elem 36 = 69 := by simp [Program.elem, ht]
  rw [run_slice_l W 36 _ _ _ ht' .i64 _ (by omega) (by omega), he, sizeOf_ent]
  simp [Result.andThen, sliced, tailAt]
end

/- many cells at once -/
theorem setCells_at (b : Nat) : ∀ (vs : List Value) (o : Nat) (w : World) (C : Array Value) (T : TypeId) (fr : Nat × Nat), w.heap[b]? = some (.cells C T fr) → o + vs.length ≤ C.size →
    ∃ C', (w.setCells b o vs).heap[b]? = some (.cells C' T fr) ∧ C'.size = C.size ∧ (∀ j, j < o ∨ o + vs.length ≤ j → C'[j]? = C[j]?) ∧ ∀ j u, vs[j]? = some u → C'[o + j]? = some u
  | [], o, w, C, T, fr, h, _ => ⟨C, h, rfl, fun _ _ => rfl, fun j u hu => by simp at hu⟩
  | v :: r, o, w, C, T, fr, h, hs => by
    have h1 := setCell_at w ⟨b, o, none⟩ v C T fr rfl h
    simp only [List.length_cons] at hs
    obtain ⟨C', h2, h3, h4, h5⟩ := setCells_at b r (o + 1) (w.setCell ⟨b, o, none⟩ v) _ T fr h1 (by simp; omega)
    refine ⟨C', h2, by rw [h3]; simp, fun j hj => ?_, fun j u hu => ?_⟩
    · simp only [List.length_cons] at hj
      rw [h4 j (by omega), Array.getElem?_setIfInBounds_ne (by show o ≠ j; omega)]
    · cases j with
      | zero =>
        rw [h4 _ (by omega)]
        injection hu with hu
        subst hu
        rw [Nat.add_zero, Array.getElem?_setIfInBounds_self]
        simp
        omega
      | succ j =>
        rw [show o + (j + 1) = o + 1 + j by omega]
        exact h5 j u hu

theorem setCells_off (b : Nat) : ∀ (vs : List Value) (o : Nat) (w : World) (q : Nat), q ≠ b → (w.setCells b o vs).heap[q]? = w.heap[q]?
  | [], _, _, _, _ => rfl
  | v :: r, o, w, q, h => (setCells_off b r (o + 1) _ q h).trans (Below.heap_setCell _ _ _ _ h)

theorem setCells_grown (b : Nat) : ∀ (vs : List Value) (o : Nat) (w : World), w.grownBy (w.setCells b o vs) (some b) ∧ (w.setCells b o vs).heap.size = w.heap.size
  | [], _, w => ⟨World.grownBy.refl _ _, rfl⟩
  | v :: r, o, w => by
    obtain ⟨h, hs⟩ := setCells_grown b r (o + 1) (w.setCell ⟨b, o, none⟩ v)
    refine ⟨⟨h.os, h.tape, h.output, by rw [World.setCells, hs]; simp, fun k hk hne => ?_⟩, by rw [World.setCells, hs]; simp⟩
    exact setCells_off b (v :: r) o w k fun e => hne (by rw [e])

section
variable {w : World} {A : Option Addr} {n cap : Nat} {xs ys : List Lay}

/-- 'append(x, y...)' onto a row that begins anywhere. -/
theorem run_append_spot (ty : TypeId) (h : Spot w A n cap xs) (B : Option Addr) (m c : Nat) (hB : B = none → m = 0) (hl : ys.length = m) (hcell : ∀ b, B = some b → ∀ j u, (rowOf ys)[j]? = some u → w.cell? (b.add j) = some u) (hf : n + m ≤ 1000000) :
    ∃ A' cap' w', (Builtin.append_ #[36, 36] ty #[.slice A n cap, .slice B m c]).run Tryz.prog w = .ok (.slice A' (n + m) cap') w' ∧ Spot w' A' (n + m) cap' (xs ++ ys) ∧ (∀ q, blkS A' q → blkS A q ∨ w.heap.size ≤ q) ∧
      w.os = w'.os ∧ w.tape = w'.tape ∧ w.output = w'.output ∧ w.heap.size ≤ w'.heap.size ∧ ∀ q, q < w.heap.size → ¬ blkS A q → w'.heap[q]? = w.heap[q]? := by
  obtain ⟨i0, hi0, hz0, hz1, hz2⟩ := info_parts info_ent
  have hlen := h.1
  have hnc := h.2.1
  cases B with
  | none =>
    obtain rfl := hB rfl
    obtain rfl : ys = [] := List.eq_nil_of_length_eq_zero hl
    refine ⟨A, cap, w, ?_, by simpa using h, fun q hq => .inl hq, rfl, rfl, rfl, Nat.le_refl _, fun _ _ _ => rfl⟩
    cases A with
    | none =>
      have := h.2.2.2.1 rfl
      obtain rfl : cap = 0 := this
      obtain rfl : n = 0 := by omega
      simp [Builtin.append_, run_underlying Tryz.underlying36, sizeOf, typeInfo, hi0, Builtin.lenOf, Builtin.firstCells, loadCells, loadCellsFrom]
    | some a =>
      simp [Builtin.append_, run_underlying Tryz.underlying36, sizeOf, typeInfo, hi0, Builtin.lenOf, Builtin.firstCells, loadCells, loadCellsFrom, hnc, storeCells]
  | some b =>
    have hcb := hcell b rfl
    have hrl : (rowOf ys).length = m * 3 := by rw [rowOf_length, hl]
    -- a new row
    have fresh : ∀ v' w', w'.ownsRow w.heap.size 69 3 v' (n + m) (rowOf xs ++ rowOf ys) → w.grownBy w' none → 0 < n + m → (Builtin.append_ #[36, 36] ty #[.slice A n cap, .slice (some b) m c]).run Tryz.prog w = .ok v' w' →
        ∃ A' cap' w', (Builtin.append_ #[36, 36] ty #[.slice A n cap, .slice (some b) m c]).run Tryz.prog w = .ok (.slice A' (n + m) cap') w' ∧ Spot w' A' (n + m) cap' (xs ++ ys) ∧ (∀ q, blkS A' q → blkS A q ∨ w.heap.size ≤ q) ∧
          w.os = w'.os ∧ w.tape = w'.tape ∧ w.output = w'.output ∧ w.heap.size ≤ w'.heap.size ∧ ∀ q, q < w.heap.size → ¬ blkS A q → w'.heap[q]? = w.heap[q]? := by
      intro v' w' ho hg h0 hr
      rcases ho.2 with ⟨_, h1⟩ | ⟨g, cap', cur, rfl, hb, hh, h1, h2, h3, h4⟩
      · omega
      · refine ⟨some ⟨g, 0, none⟩, cap', w', hr, ⟨by rw [List.length_append, hlen, hl], h1, h2, (fun e => by cases e), fun a e => ?_⟩, fun q hq => .inr ?_, hg.os.symm, hg.tape.symm, hg.output.symm, hg.size, fun q hq _ => hg.block q hq (by simp)⟩
        · injection e with e
          subst e
          refine ⟨g, 0, cur, rfl, hh, by omega, fun j u hu => ?_⟩
          rw [rowOf_append, ← h4] at hu
          rw [List.getElem?_take] at hu
          split at hu
          · rw [Nat.zero_add]; simpa using hu
          · cases hu
        · rw [blkS_some] at hq
          omega
    cases A with
    | none =>
      have := h.2.2.2.1 rfl
      obtain rfl : cap = 0 := this
      obtain rfl : n = 0 := by omega
      obtain rfl : xs = [] := List.eq_nil_of_length_eq_zero hlen
      rcases Nat.eq_zero_or_pos m with h0 | h0
      · subst h0
        obtain rfl : ys = [] := List.eq_nil_of_length_eq_zero hl
        refine ⟨none, 0, w, ?_, by simpa using h, fun q hq => .inl hq, rfl, rfl, rfl, Nat.le_refl _, fun _ _ _ => rfl⟩
        simp [Builtin.append_, run_underlying Tryz.underlying36, sizeOf, typeInfo, hi0, Builtin.lenOf, Builtin.firstCells, loadCells, loadCellsFrom]
      · obtain ⟨v', w', hr, h2, h3, _, _⟩ := run_append_own_at (P := Tryz.prog) w w.heap.size 36 ty 69 i0 _ 3 40 Tryz.underlying36 hi0 hz0 hz1 hz2 rfl (by omega) (.slice none 0 0) 0 [] (World.ownsRow_nil _ _ _ _) b m c (rowOf ys) hrl hcb (rowOf_one ys) (by unfold maxLen; omega) (by omega) (Nat.le_refl _)
        exact fresh v' w' (by simpa [rowOf] using h2) h3 (by omega) hr
    | some a =>
      obtain ⟨g, off, cur, rfl, hg, hs, hc⟩ := h.2.2.2.2 a rfl
      by_cases hroom : n + m ≤ cap
      · have hin : ∀ j, j < (rowOf ys).length → off + n * 3 + j < cur.size := fun j hj => by
          rw [hrl] at hj
          have : (n + m) * 3 ≤ cap * 3 := Nat.mul_le_mul_right 3 hroom
          omega
        have hrun := run_append_room_cells (P := Tryz.prog) w 36 ty 69 i0 Tryz.underlying36 hi0 g off n cap b m c (rowOf ys) (by rw [hz1]; exact hrl) hcb (rowOf_one ys) hroom
          (fun j hj => by
            rw [hz1, cell_of_row w g _ cur _ _ hg, Array.getElem?_eq_getElem (hin j hj)]
            rfl)
          (fun j hj => by rw [hz1]; exact frozen_of_row w g _ cur _ hg)
        rw [hz1] at hrun
        obtain ⟨C', c1, c2, c3, c4⟩ := setCells_at g (rowOf ys) (off + n * 3) w cur _ _ hg (by
          rw [hrl]
          have : (n + m) * 3 ≤ cap * 3 := Nat.mul_le_mul_right 3 hroom
          omega)
        obtain ⟨hgr, hsz⟩ := setCells_grown g (rowOf ys) (off + n * 3) w
        refine ⟨some ⟨g, off, none⟩, cap, _, hrun, ⟨by rw [List.length_append, hlen, hl], hroom, h.2.2.1, (fun e => by cases e), fun a e => ?_⟩, fun q hq => .inl hq, hgr.os.symm, hgr.tape.symm, hgr.output.symm, hgr.size, fun q hq hne => hgr.block q hq (fun e => hne (by injection e with e; rw [e, blkS_some]))⟩
        injection e with e
        subst e
        refine ⟨g, off, C', rfl, c1, by omega, fun j u hu => ?_⟩
        rw [rowOf_append] at hu
        have hxl : (rowOf xs).length = n * 3 := by rw [rowOf_length, hlen]
        rcases Nat.lt_or_ge j (n * 3) with hj | hj
        · rw [List.getElem?_append_left (by omega)] at hu
          rw [c3 _ (by omega)]
          exact hc j u hu
        · rw [List.getElem?_append_right (by omega), hxl] at hu
          rw [show off + j = off + n * 3 + (j - n * 3) by omega]
          exact c4 _ _ hu
      · obtain ⟨v', w', hr, h2, h3⟩ := run_append_arg_grows (P := Tryz.prog) w 36 ty 69 i0 _ 3 40 Tryz.underlying36 hi0 hz0 hz1 hz2 rfl (by omega) ⟨g, off, none⟩ n cap (rowOf xs) (by rw [rowOf_length, hlen]) (h.cells rfl) b m c (rowOf ys) hrl hcb (by omega) (by unfold maxLen; omega) (by omega)
        exact fresh v' w' h2 h3 (by omega) hr

end

/-- Entries in a row from somewhere on; the row and their bytes lie in Y, the bytes not in the row. -/
def EntSpot (w : World) (Y : Nat → Prop) (A : Option Addr) (n cap : Nat) (l : List Ent) : Prop :=
  ∃ xs : List Lay, Spot w A n cap xs ∧ (∀ q, blkS A q → Y q) ∧ xs.map (·.e) = l ∧ ∀ x ∈ xs, LayOk w (fun q => Y q ∧ ¬ blkS A q) x

section
variable {w w' : World} {Y Y' : Nat → Prop} {A : Option Addr} {n cap : Nat} {l : List Ent}

theorem EntSpot.nil (w : World) (Y : Nat → Prop) : EntSpot w Y none 0 0 [] :=
  ⟨[], ⟨rfl, Nat.le_refl _, Nat.zero_le _, fun _ => rfl, fun a e => by cases e⟩, fun q h => absurd h (blkS_none q), rfl, fun x hx => by cases hx⟩

theorem EntSpot.keep (h : EntSpot w Y A n cap l) (hs : w.heap.size ≤ w'.heap.size) (hk : ∀ k, k < w.heap.size → Y k → w'.heap[k]? = w.heap[k]?) : EntSpot w' Y A n cap l := by
  obtain ⟨xs, ho, hy, hx, hl⟩ := h
  exact ⟨xs, ho.keep fun q hq => hk q (ho.lt hq) (hy q hq), hy, hx, fun x hx => (hl x hx).keep hs fun k hk' hz => hk k hk' hz.1⟩

theorem EntSpot.below (h : EntSpot w Y A n cap l) (hb : Below w.heap.size w w') : EntSpot w' Y A n cap l := h.keep hb.size fun k hk _ => hb.block k hk

theorem EntSpot.mono (h : EntSpot w Y A n cap l) (hy : ∀ k, Y k → Y' k) : EntSpot w Y' A n cap l := by
  obtain ⟨xs, ho, h1, hx, hl⟩ := h
  exact ⟨xs, ho, fun g hg => hy g (h1 g hg), hx, fun x hx => (hl x hx).mono fun k hk => ⟨hy k hk.1, hk.2⟩⟩

theorem EntSpot.len (h : EntSpot w Y A n cap l) : n = l.length ∧ n ≤ cap ∧ cap ≤ maxLen := by
  obtain ⟨xs, ho, _, hx, _⟩ := h
  exact ⟨by rw [← hx, List.length_map]; exact ho.1.symm, ho.2.1, ho.2.2.1⟩

theorem EntSpot.ents (h : EntSpot w Y A n cap l) : Ents w Y A n cap l := by
  obtain ⟨xs, ho, hy, hx, hl⟩ := h
  have := ho.ents (Z := Y) hy fun x hx => (hl x hx).mono fun k hk => hk.1
  rw [hx] at this
  exact this

theorem EntSpot.drop (h : EntSpot w Y A n cap l) {k : Nat} (hk : k ≤ n) : EntSpot w Y (tailAt A cap k) (n - k) (cap - k) (l.drop k) := by
  obtain ⟨xs, ho, hy, hx, hl⟩ := h
  have hb : ∀ q, blkS (tailAt A cap k) q ↔ blkS A q := fun q => tailAt_blkS q ho.spotless
  refine ⟨xs.drop k, ho.drop hk, fun q hq => hy q ((hb q).1 hq), by rw [← hx, List.map_drop], fun x hx => (hl x (List.mem_of_mem_drop hx)).mono fun q hq => ⟨hq.1, fun h => hq.2 ((hb q).1 h)⟩⟩

/-- A row of the call's own. -/
theorem EntRow.spot {B : Nat} (h : EntRow w B Y (.slice A n cap) l) : EntSpot w Y A n cap l := by
  have hcap := h.cap
  obtain ⟨xs, ho, hy, hx, hl⟩ := h
  have hn := hcap.1
  subst hn
  have hob : ∀ q, blkS A q → (Value.slice A l.length cap).ownBlock = some q := fun q ⟨o, e⟩ => by rw [e]; rfl
  refine ⟨xs, ⟨by rw [← hx, List.length_map], hcap.2.1, hcap.2.2.1, hcap.2.2.2, fun a e => ?_⟩, fun q hq => hy q (hob q hq), hx, fun x hx => (hl x hx).mono fun q hq => ⟨hq.1, fun hb => hq.2 (hob q hb)⟩⟩
  rcases ho.2 with ⟨e2, h0⟩ | ⟨g, cap', cur, e2, hb, hg, h1, h2, h3, h4⟩
  · injection e2 with e2
    rw [e2] at e
    cases e
  · injection e2 with e2 e3 e4
    rw [e2] at e
    injection e with e
    subst e4
    refine ⟨g, 0, cur, e.symm, hg, by omega, fun j u hu => ?_⟩
    rw [← h4, List.getElem?_take] at hu
    split at hu
    · rw [Nat.zero_add]; simpa using hu
    · cases hu
end

end Go.Proofs.YtmeoooojmhhahaaGreat

namespace Go.Proofs.YtmeoooojmhhahaaGreat
open Go.RowKit
set_option linter.unusedVariables false
set_option linter.unusedSimpArgs false

/-- What place leaves. -/
def PlaceP (w : World) (b B : Nat) (h : Hd) (l : List Ent) (x : Ent) (e : Ending) (w' : World) : Prop :=
  Keeps (· < B) w w' ∧ match putE l x with
    | some m => e = .returned (.bool true) ∧ ∃ A' c', Tld w' b B h A' c' m
    | none => e = .returned (.bool false)

/-- On the way in place: the row as it was, and the entry's box. -/
structure PlAt (w wr : World) (b B : Nat) (h : Hd) (A : Option Addr) (c : Nat) (l : List Ent) (x : Ent) (E : Option Addr) (ec : Nat) : Prop where
  tld : Tld wr b B h A c l
  box : wr.heap[w.heap.size]? = some (.cells #[.int .i64 x.i, .int .i64 x.t, .slice E x.d.length ec] 69)
  below : Below w.heap.size w wr

theorem PlAt.next {w wr w2 : World} {b B : Nat} {h : Hd} {A : Option Addr} {c : Nat} {l : List Ent} {x : Ent} {E : Option Addr} {ec : Nat} (hP : PlAt w wr b B h A c l x E ec) (hb : Below wr.heap.size wr w2) : PlAt w w2 b B h A c l x E ec :=
  ⟨hP.tld.below hb, (hb.block _ (hlt hP.box)).trans hP.box, hP.below.trans (hb.mono hP.below.size)⟩

/-- The first ones' row, opened. -/
structure RowAt (W : World) (b B : Nat) (A : Option Addr) (m c : Nat) (lm : List Ent) (xs : List Lay) : Prop where
  own : W.ownsRow B 69 3 (.slice A m c) m (rowOf xs)
  yv : ∀ g, (Value.slice A m c).ownBlock = some g → B ≤ g ∧ g ≠ b
  map : xs.map (·.e) = lm
  ok : ∀ x ∈ xs, LayOk W (fun q => (B ≤ q ∧ q ≠ b) ∧ (Value.slice A m c).ownBlock ≠ some q) x

theorem RowAt.below {w W : World} {b B : Nat} {A : Option Addr} {m c : Nat} {lm : List Ent} {xs : List Lay} (h : RowAt w b B A m c lm xs) (hb : Below w.heap.size w W) : RowAt W b B A m c lm xs :=
  ⟨owns_heap h.own fun g hg => hb.block g (h.own.lt g hg).2, h.yv, h.map, fun x hx => (h.ok x hx).keep hb.size fun k hk _ => hb.block k hk⟩

theorem Tld.rowAt {w : World} {b B : Nat} {h : Hd} {A : Option Addr} {c : Nat} {l : List Ent} (hT : Tld w b B h A c l) (m : Nat) (hm : m ≤ l.length) : ∃ xs, RowAt w b B A m c (l.take m) xs := by
  obtain ⟨xs, ho, hyv, hxs, hok⟩ := hT.row.take m hm
  have hlm : (l.take m).length = m := by rw [List.length_take]; omega
  rw [hlm] at ho
  exact ⟨xs, ho, hyv, hxs, hok⟩

/-- The end of place: the entry was appended behind the first ones, and the row is what is told now. -/
theorem place_end {w wr W w8 : World} {b B : Nat} {h : Hd} {A : Option Addr} {c : Nat} {l : List Ent} {x : Ent} {E : Option Addr} {ec m g cap : Nat} (hP : PlAt w wr b B h A c l x E ec) (hbw : b < w.heap.size) (hW : Below wr.heap.size wr W) (hm : m ≤ l.length) (hput : putE l x = some (l.take m ++ [x]))
    (hd : Lies w E x.d.length ec x.d) (hec : ec ≤ maxLen) (hdz : 0 < x.d.length → ∀ q o, E = some ⟨q, o, none⟩ → B ≤ q ∧ (Value.slice A l.length c).ownBlock ≠ some q ∧ q ≠ b)
    (xs : List Lay) (hra : RowAt W b B A m c (l.take m) xs)
    (ho : w8.ownsRow B 69 3 (.slice (some ⟨g, 0, none⟩) (m + 1) cap) (m + 1) (rowOf xs ++ [.int .i64 x.i, .int .i64 x.t, .slice E x.d.length ec]))
    (hg : (W.alloc (.cells #[.int .i64 x.i, .int .i64 x.t, .slice E x.d.length ec] 69)).grownBy w8 (Value.slice A m c).ownBlock) (hq : (Value.slice A m c).ownBlock = some g ∨ g = W.heap.size + 1) :
    PlaceP w b B h l x (.returned (.bool true)) (w8.setCell ⟨b, 2, none⟩ (.slice (some ⟨g, 0, none⟩) (m + 1) cap)) := by
  have hxs := hra.map
  have hyv := hra.yv
  have hok := hra.ok
  have hs1 := hP.below.size
  have hs2 := hW.size
  have hlo := hP.tld.lo
  have hbW : Below w.heap.size w W := hP.below.trans (hW.mono hs1)
  have hA : Below W.heap.size W (W.alloc (.cells #[.int .i64 x.i, .int .i64 x.t, .slice E x.d.length ec] 69)) := (Below.refl _ _).alloc (Nat.le_refl _) _
  have hsz : (W.alloc (.cells #[.int .i64 x.i, .int .i64 x.t, .slice E x.d.length ec] 69)).heap.size = W.heap.size + 1 := by simp
  have hlt' : ∀ q o, 0 < x.d.length → E = some ⟨q, o, none⟩ → q < w.heap.size := fun q o h0 e => by
    obtain ⟨q', o', e', hq, _⟩ := hd.2.2.2 h0
    rw [e] at e'
    injection e' with e'
    injection e' with e1 _
    omega
  have hlm : (l.take m).length = m := by rw [List.length_take]; omega
  have hrow : EntRow w8 B (fun q => B ≤ q ∧ q ≠ b) (.slice (some ⟨g, 0, none⟩) ((l.take m).length + 1) cap) (l.take m ++ [x]) := by
    refine EntRow.more (w := W) (w1 := W.alloc (.cells #[.int .i64 x.i, .int .i64 x.t, .slice E x.d.length ec] 69)) (v := .slice A m c) (A := E) (c := ec) hA.size (fun k hk _ => hA.block k hk) ⟨hec, hd.below (hbW.trans (hA.mono hbW.size)) (Nat.le_refl _), fun h0 q o e => ?_⟩ xs hxs hok hyv ⟨by rw [hsz]; omega, by rw [hsz]; omega⟩ (fun h0 q o e => by rw [hsz]; have := hlt' q o h0 e; omega) (by rw [hlm]; exact ho) hg (by rw [hsz]; exact hq)
    have h1 := hdz h0 q o e
    exact ⟨⟨h1.1, h1.2.2⟩, fun er => h1.2.1 (by rw [← er]; exact own_blk _ _ _ _ _)⟩
  have hbox8 : w8.heap[b]? = some (.cells #[.int .i64 h.t, .int .i64 h.v, .slice A l.length c] 101) := by
    rw [hg.block b (by rw [hsz]; omega) (fun e => (hyv b e.symm).2 rfl), hA.block b (by omega), hW.block b (by omega)]
    exact hP.tld.box
  unfold PlaceP
  rw [hput]
  refine ⟨?_, rfl, some ⟨g, 0, none⟩, cap, ⟨?_, ?_, hlo⟩⟩
  · have k1 : Keeps (· < B) w (W.alloc (.cells #[.int .i64 x.i, .int .i64 x.t, .slice E x.d.length ec] 69)) := keeps_below (hbW.trans (hA.mono hbW.size)) (Nat.le_refl _)
    have k2 : Keeps (· < B) (W.alloc (.cells #[.int .i64 x.i, .int .i64 x.t, .slice E x.d.length ec] 69)) w8 := keeps_grown hg fun k hk => by have := (hyv k hk).1; show ¬ k < B; omega
    exact (k1.trans k2).trans (keeps_setCell _ _ _ (by show ¬ b < B; omega))
  · have e : (l.take m ++ [x]).length = m + 1 := by rw [List.length_append, hlm, List.length_singleton]
    rw [e]
    exact setCell_at w8 ⟨b, 2, none⟩ _ _ _ _ rfl hbox8
  · have e : (l.take m ++ [x]).length = m + 1 := by rw [List.length_append, hlm, List.length_singleton]
    rw [e]
    rw [hlm] at hrow
    exact hrow.keep (by simp) fun k hk hy => Below.heap_setCell _ _ _ _ (by exact hy.2)

theorem told_at {w wr W w8 : World} {b B : Nat} {h : Hd} {A : Option Addr} {c : Nat} {l : List Ent} {x : Ent} {E : Option Addr} {ec m : Nat} {lm : List Ent} {xs : List Lay} {C : Obj} (hP : PlAt w wr b B h A c l x E ec) (hbw : b < w.heap.size) (hW : Below wr.heap.size wr W) (hra : RowAt W b B A m c lm xs) (hg : (W.alloc C).grownBy w8 (Value.slice A m c).ownBlock) :
    w8.heap[b]? = some (.cells #[.int .i64 h.t, .int .i64 h.v, .slice A l.length c] 101) := by
  have hs1 := hP.below.size
  have hs2 := hW.size
  have hA : Below W.heap.size W (W.alloc C) := (Below.refl _ _).alloc (Nat.le_refl _) _
  rw [hg.block b (by simp; omega) (fun e => (hra.yv b e.symm).2 rfl), hA.block b (by omega), hW.block b (by omega)]
  exact hP.tld.box

set_option maxRecDepth 100000 in
set_option maxHeartbeats 3200000 in
theorem place_any (w : World) (b B : Nat) (h : Hd) (A : Option Addr) (c : Nat) (l : List Ent) (x : Ent) (E : Option Addr) (ec : Nat) (hT : Tld w b B h A c l) (hx : rightE x = true) (hg : goesOn l) (hlen : l.length ≤ 100000) (hd : Lies w E x.d.length ec x.d) (hec : ec ≤ maxLen)
    (hdz : 0 < x.d.length → ∀ q o, E = some ⟨q, o, none⟩ → B ≤ q ∧ (Value.slice A l.length c).ownBlock ≠ some q ∧ q ≠ b) :
    Calls Tryz.prog 139 #[.pointer (some ⟨b, 0, none⟩), entV x.i x.t E x.d.length ec] w (PlaceP w b B h l x) := by
  have hb0 : Below w.heap.size w (w.alloc (.cells #[.int .i64 x.i, .int .i64 x.t, .slice E x.d.length ec] 69)) := (Below.refl _ _).alloc (Nat.le_refl _) _
  have hP0 : PlAt w (w.alloc (.cells #[.int .i64 x.i, .int .i64 x.t, .slice E x.d.length ec] 69)) b B h A c l x E ec := ⟨hT.below hb0, heap_alloc_new _ _, hb0⟩
  obtain ⟨⟨t0, t1, t2⟩, _⟩ := row3 hP0.tld.box
  have hcap := hT.row.cap
  go_enter Tryz.func139, Tryz.ntmps139
  go_wp2
  clear t0 t1 t2
  go_loopg [5] l.length (fun g v wr => ∃ m : Nat, m = g ∧ m ≤ l.length ∧ v = .slice A m c ∧ Hid (∀ j (hj : j < l.length), m ≤ j → x.i ≤ l[j].i) ∧ PlAt w wr b B h A c l x E ec)
  case atStart => exact ⟨_, rfl, Nat.le_refl _, rfl, ⟨fun j hj hm => absurd hj (by omega)⟩, hP0⟩
  case round =>
    clear hP0 hb0
    obtain ⟨m, hmg, hm, rfl, HI, hP⟩ := hrel
    have HM := Lib.hid hmg
    clear hmg
    by_cases h0 : 0 < m
    · obtain ⟨k, hk⟩ : ∃ k, Hid (m = k + 1) := ⟨m - 1, ⟨by omega⟩⟩
      have hkl : k < l.length := by have := hk.out; omega
      obtain ⟨g, off, F, fc, hA, hgl, c0, c1, c2, _⟩ := hP.tld.row.ents.at_ k hkl
      subst hA
      obtain ⟨⟨x0, x1, x2⟩, _⟩ := row3 hP.box
      have e1 : IntKind.i64.wrap ((m : Int) - 1) = (k : Int) := by rw [IntWalk.i64_in _ (by have := hk.out; omega)]; have := hk.out; omega
      have e2 : wrap64 ((m : Int) - 1) = (k : Int) := by have := e1; rw [IntWalk.i64_left] at this; exact this
      have hkm : k < m := by have := hk.out; omega
      have hd1 : decide (0 < m) = true := decide_eq_true h0
      have hd2 : decide (k < m) = true := decide_eq_true hkm
      have hsl := fun W => run_frontE (some ⟨g, off, none⟩) m c k (by omega) W
      by_cases hge : x.i ≤ l[k].i
      · have HG := Lib.hid hge
        have HN := Lib.hid (show ∀ j (hj : j < l.length), k ≤ j → x.i ≤ l[j].i from fun j hj hkj => by
          rcases Nat.eq_or_lt_of_le hkj with rfl | hlt
          · exact hge
          · exact HI.out j hj (by have := hk.out; omega))
        have HP := Lib.hid hP
        generalize l[k] = y at *
        obtain ⟨yi, yt, yd⟩ := y
        dsimp only at *
        clear HI hP c1 c2 hkl
        have HMM := Lib.hid hm
        clear hm
        go_wp2
        go_quiet (fail)
        go_wp2
        go_roundg (gk - 1)
        case measure => have e : m = gk := HM; omega
        case rel => exact ⟨k, by have e : m = gk := HM; have := hk.out; omega, by have e : m ≤ l.length := HMM; omega, rfl, ⟨HN.out⟩, PlAt.next HP (below_drewM (Below.refl _ _) _)⟩
      · have hput := putE_at hg x m hm HI.out (fun h0 => by
          have e : m - 1 = k := by have := hk.out; omega
          have e2 : l[m - 1]'(by omega) = l[k] := by congr 1
          rw [e2]; omega)
        rw [dif_pos h0] at hput
        have e2 : l[m - 1]'(by omega) = l[k] := by congr 1; have := hk.out; omega
        rw [e2] at hput
        have hrun := fun i t => one_run (i := i) (t := t) hx
        obtain ⟨xs, hra⟩ := hP.tld.rowAt m hm
        generalize l[k] = y at *
        obtain ⟨yi, yt, yd⟩ := y
        dsimp only at *
        have hge' : (x.i ≤ yi) = False := eq_false hge
        have hdge : decide (x.i ≤ yi) = false := decide_eq_false hge
        have hR := fun W (hW : Below w.heap.size w W) => runP_any (fun _ => True) (some ⟨W.heap.size, 0, none⟩) 1 1 [x] yi yt _ (ents_one (hd.below hW (Nat.le_refl _)) hec) (by unfold maxLen; omega)
        rw [hrun] at hR
        obtain ⟨q, hq⟩ : ∃ q, Hid (decide (yi = x.i - 1 ∧ yt ≤ x.t) = q) := ⟨_, ⟨rfl⟩⟩
        rw [hq.out] at hR
        have HPut := Lib.hid hput
        have HP := Lib.hid hP
        have HMM := Lib.hid hm
        have hbw := hP.below
        clear hput hP hm hrun e2 c2 hge hsl
        go_wp2
        go_quiet (fail)
        have hP5 := PlAt.next HP (below_drewM (Below.refl _ _) nq)
        have c05 : (wr.drewN nq).cell? ⟨g, off + k * 3, none⟩ = some (.int .i64 yi) := c0
        have c15 : (wr.drewN nq).cell? ⟨g, off + k * 3 + 1, none⟩ = some (.int .i64 yt) := c1
        have hra5 := hra.below (below_drewM (Below.refl _ _) nq)
        clear hra
        have hB5 : Below wr.heap.size wr (wr.drewN nq) := below_drewM (Below.refl _ _) nq
        generalize wr.drewN nq = W5 at *
        have hgl5 : g < W5.heap.size := Nat.lt_of_lt_of_le hgl hB5.size
        have hbw5 := hP5.below
        obtain ⟨⟨y0, y1, y2⟩, _⟩ := row3 hP5.box
        have hbx := hlt hP5.box
        have hst : ∀ W W', Below W5.heap.size W5 W → Below W.heap.size W W' → Below W5.heap.size W5 W' ∧ W'.cell? ⟨g, off + k * 3, none⟩ = some (.int .i64 yi) ∧ W'.cell? ⟨g, off + k * 3 + 1, none⟩ = some (.int .i64 yt) ∧ W'.cell? ⟨w.heap.size, 0, none⟩ = some (.int .i64 x.i) ∧ W'.cell? ⟨w.heap.size, 1, none⟩ = some (.int .i64 x.t) ∧ W'.cell? ⟨w.heap.size, 2, none⟩ = some (.slice E x.d.length ec) := fun W W' h1 h2 => by
          have h3 := h1.trans (h2.mono h1.size)
          exact ⟨h3, (h3.cell (p := ⟨g, off + k * 3, none⟩) hgl5).trans c05, (h3.cell (p := ⟨g, off + k * 3 + 1, none⟩) hgl5).trans c15, (h3.cell (p := ⟨w.heap.size, 0, none⟩) hbx).trans y0, (h3.cell (p := ⟨w.heap.size, 1, none⟩) hbx).trans y1, (h3.cell (p := ⟨w.heap.size, 2, none⟩) hbx).trans y2⟩
        have hB0 := (Below.refl W5.heap.size W5).drew
        have hR5 := fun W (hW : Below W5.heap.size W5 W) => hR W (hbw5.trans (hW.mono hbw5.size))
        have HP5 := Lib.hid hP5
        clear hR c0 c1 x0 x1 x2 HP hP5
        go_wp2
        go_region_held3 (fun w' => Below W5.heap.size W5 w' ∧ w'.cell? ⟨g, off + k * 3, none⟩ = some (.int .i64 yi) ∧ w'.cell? ⟨g, off + k * 3 + 1, none⟩ = some (.int .i64 yt) ∧ w'.cell? ⟨w.heap.size, 0, none⟩ = some (.int .i64 x.i) ∧ w'.cell? ⟨w.heap.size, 1, none⟩ = some (.int .i64 x.t) ∧ w'.cell? ⟨w.heap.size, 2, none⟩ = some (.slice E x.d.length ec))
          (first | exact hS7 | (exact ⟨hB0, c05, c15, y0, y1, y2⟩) | (exact hst _ _ hB0 ((Below.refl _ _).alloc (Nat.le_refl _) _)) | (go_keep; done))
          (first
            | (go_at_call 41
               refine (hR5 _ hB0).mono ?_
               rintro e w7 ⟨rfl, hb7⟩
               have hS7 := hst _ w7 (hB0.alloc (Nat.le_refl _) _) hb7))
        have hra7 := hra5.below hS7.1
        have ho7 := hra7.own
        have HRA := Lib.hid hra7
        have hlo := hT.lo
        have hbW := hlt hT.box
        have hs7 := hS7.1.size
        have hbws := hbw5.size
        obtain ⟨hB7, z0, z1, z2, z3, z4⟩ := hS7
        clear hb7 hst hR5 hB0 c05 c15 y0 y1 y2 hra5
        obtain ⟨i0, hi0, hz0, hz1, hz2⟩ := info_parts info_ent
        cases q with
        | true =>
          have HPT := Lib.hid (show putE l x = some (l.take m ++ [x]) by
            have e : putE l x = _ := HPut
            rw [e, if_pos (of_decide_eq_true hq.out)])
          have hm' : m ≤ l.length := HMM
          clear HPut hq
          go_wp2_with (first
            | (at_builtin; refine wpList_append_lies _ rfl _ _ 36 rfl B 69 i0 _ 3 40 Tryz.underlying36 hi0 hz0 hz1 hz2 rfl (by omega) (.slice (some ⟨g, off, none⟩) m c) m (rowOf xs) rfl (ho7.alloc _) ⟨w7.heap.size, 0, none⟩ 1 1 [.int .i64 x.i, .int .i64 x.t, .slice E x.d.length ec] rfl rfl (World.news_of_block (heap_alloc_new w7 _)) (by simp [Value.oneCell']) (by omega) (by unfold maxLen; omega) (by omega) (by simp; omega) (w7.heap.size + 1) (by simp) ?_
               intro g2 cap3 w8 ho8 hgr8 hat8 hlt8
               have hb8 := told_at HP5.out hbW hB7 HRA.out hgr8
               obtain ⟨⟨p0, p1, p2⟩, ⟨f0, f1, f2⟩⟩ := row3 hb8
               have HO8 := Lib.hid ho8
               have HG8 := Lib.hid hgr8
               have HA8 := Lib.hid hat8
               clear hb8 ho8 hgr8 hat8 hlt8)
            | fail)
          go_ret
          exact place_end HP5.out hbW hB7 HMM.out HPT.out hd hec hdz xs HRA.out HO8.out HG8.out HA8.out
        | false =>
          have HPT := Lib.hid (show putE l x = none by
            have e : putE l x = _ := HPut
            rw [e, if_neg (of_decide_eq_false hq.out)])
          clear HPut hq
          go_wp2
          go_ret
          refine ⟨?_, ?_⟩
          · exact (keeps_below (hbw5.trans (hB7.mono hbw5.size)) (Nat.le_refl _)).mono fun k hk => hk
          · rw [HPT.out]
            rfl
    · obtain rfl : m = 0 := by omega
      have hput := putE_at hg x 0 hm HI.out (fun h0 => absurd h0 (by omega))
      rw [dif_neg (by omega)] at hput
      have HPT := Lib.hid (show putE l x = some (l.take 0 ++ [x]) by rw [hput]; rfl)
      obtain ⟨xs, hra⟩ := hP.tld.rowAt 0 hm
      have HP := Lib.hid hP
      have HMM := Lib.hid hm
      have hlo := hT.lo
      have hbW := hlt hT.box
      have hbws := hP.below.size
      have hbox := hP.box
      clear hput hP hm HI HM h0
      go_wp2
      go_quiet (fail)
      have hB5 : Below wr.heap.size wr (wr.drewN nq) := below_drewM (Below.refl _ _) _
      generalize wr.drewN nq = W5 at *
      go_wp2
      go_quiet (fail)
      have hB7 : Below wr.heap.size wr (W5.drewN nq) := below_drewM hB5 _
      clear hB5
      generalize W5.drewN nq = w7 at *
      obtain ⟨⟨z0, z1, z2⟩, _⟩ := row3 ((hB7.block _ (hlt hbox)).trans hbox)
      have hra7 := hra.below hB7
      have ho7 := hra7.own
      have HRA := Lib.hid hra7
      have hs7 := hB7.size
      clear hra hbox hra7
      obtain ⟨i0, hi0, hz0, hz1, hz2⟩ := info_parts info_ent
      go_wp2_with (first
        | (at_builtin; refine wpList_append_lies _ rfl _ _ 36 rfl B 69 i0 _ 3 40 Tryz.underlying36 hi0 hz0 hz1 hz2 rfl (by omega) (.slice A 0 c) 0 (rowOf xs) rfl (ho7.alloc _) ⟨w7.heap.size, 0, none⟩ 1 1 [.int .i64 x.i, .int .i64 x.t, .slice E x.d.length ec] rfl rfl (World.news_of_block (heap_alloc_new w7 _)) (by simp [Value.oneCell']) (by omega) (by unfold maxLen; omega) (by omega) (by simp; omega) (w7.heap.size + 1) (by simp) ?_
           intro g2 cap3 w8 ho8 hgr8 hat8 hlt8
           have hb8 := told_at HP hbW hB7 HRA hgr8
           obtain ⟨⟨p0, p1, p2⟩, ⟨f0, f1, f2⟩⟩ := row3 hb8
           have HO8 := Lib.hid ho8
           have HG8 := Lib.hid hgr8
           have HA8 := Lib.hid hat8
           clear hb8 ho8 hgr8 hat8 hlt8)
        | fail)
      go_ret
      exact place_end HP hbW hB7 HMM HPT.out hd hec hdz xs HRA HO8.out HG8.out HA8.out
end Go.Proofs.YtmeoooojmhhahaaGreat
