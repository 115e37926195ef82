/- Leaders' logs, of which each is a beginning of the one ahead of it and entries of its own term: two of them that have one index of one term have the same up to there. Plain mathematics. -/
import Derived.Test.YtlanjlboipnpfaaLogGood
namespace Go.Proofs.Ytlanjlboipnpfaa
set_option linter.unusedVariables false
set_option linter.unusedSimpArgs false

/-- Two lists agree: one index of one term, and all is the same up to there. -/
def Agree (a b : List Ent) : Prop := ∀ (i : Nat) (h1 : i < a.length) (h2 : i < b.length), a[i].t = b[i].t → a.take (i + 1) = b.take (i + 1)

theorem Agree.symm {a b : List Ent} (h : Agree a b) : Agree b a := fun i h1 h2 e => (h i h2 h1 e.symm).symm
theorem agree_nil (b : List Ent) : Agree [] b := fun i h1 _ _ => absurd h1 (by simp)
theorem agree_self (b : List Ent) : Agree b b := fun _ _ _ _ => rfl

/-- Leaders' logs of terms up to k. -/
structure Fam (logs : List (List Ent)) (k : Nat) : Prop where
  agree : ∀ a ∈ logs, ∀ b ∈ logs, Agree a b
  run : ∀ a ∈ logs, runB 0 0 a = true
  term : ∀ a ∈ logs, ∀ e ∈ a, e.t ≤ (k : Int)
  some_ : ∀ a ∈ logs, 0 < a.length

/-- The log that is being made: a beginning of one that is there, and entries of term k + 1. -/
structure Next (logs : List (List Ent)) (k : Nat) (l : List Ent) : Prop where
  agree : ∀ a ∈ logs, Agree a l
  run : runB 0 0 l = true
  term : ∀ e ∈ l, e.t ≤ ((k + 1 : Nat) : Int)

theorem Fam.nil : Fam [] 0 := ⟨fun a h => by simp at h, fun a h => by simp at h, fun a h => by simp at h, fun a h => by simp at h⟩

theorem Agree.take {a b : List Ent} (h : Agree a b) (p : Nat) : Agree a (b.take p) := fun i h1 h2 e => by
  rw [List.length_take] at h2
  rw [List.getElem_take] at e
  have := h i h1 (by omega) e
  rw [this, List.take_take, Nat.min_eq_left (by omega)]

theorem Next.start {logs : List (List Ent)} {k : Nat} (h : Fam logs k) {l : List Ent} (hl : l = [] ∨ l ∈ logs) (p : Nat) : Next logs k (l.take p) := by
  rcases hl with rfl | hl
  · rw [List.take_nil]
    exact ⟨fun a _ => (agree_nil a).symm, rfl, fun e he => by simp at he⟩
  · exact ⟨fun a ha => (h.agree a ha l hl).take p, (run_split (h.run l hl) p).1, fun e he => by
      have := h.term l hl e (List.mem_of_mem_take he)
      omega⟩

/-- The next one's own entry. -/
def own (k : Nat) (l : List Ent) (d : List UInt8) : Ent := ⟨(l.length : Int) + 1, (k : Int) + 1, d⟩

theorem Next.more {logs : List (List Ent)} {k : Nat} (h : Fam logs k) {l : List Ent} (hn : Next logs k l) (d : List UInt8) (hd : d.length ≤ 12000) (hk : k ≤ 1000) (hl : l.length ≤ 1000) : Next logs k (l ++ [own k l d]) := by
  refine ⟨fun a ha i h1 h2 e => ?_, ?_, fun e he => ?_⟩
  · rcases Nat.lt_or_ge i l.length with hi | hi
    · rw [List.getElem_append_left hi] at e
      rw [hn.agree a ha i h1 hi e, List.take_append_of_le_length (by omega)]
    · exfalso
      have hi2 : i = l.length := by simp at h2; omega
      subst hi2
      rw [List.getElem_append_right (Nat.le_refl _)] at e
      simp only [Nat.sub_self, List.getElem_cons_zero, own] at e
      have := h.term a ha _ (List.getElem_mem h1)
      omega
  · rw [runB_append, hn.run, Bool.true_and, runB_cons, runB_nil, Bool.and_true]
    have h1 := (run_end hn.run).1
    have h2 : endT 0 l ≤ ((k + 1 : Nat) : Int) := by
      unfold endT
      cases hg : l.getLast? with
      | none => show (0 : Int) ≤ _; omega
      | some x => exact hn.term x (List.mem_of_getLast? hg)
    have h3 : rightB (own k l d).i (own k l d).t (own k l d).d.length = true := (rightB_iff _ _ _).2 ⟨⟨by show 1 ≤ (l.length : Int) + 1; omega, by show (l.length : Int) + 1 ≤ _; omega⟩, ⟨by show 1 ≤ (k : Int) + 1; omega, by show (k : Int) + 1 ≤ _; omega⟩, hd⟩
    rw [h3, Bool.true_and, Bool.and_eq_true]
    refine ⟨decide_eq_true ?_, decide_eq_true ?_⟩
    · show endT 0 l ≤ (k : Int) + 1
      omega
    · show (l.length : Int) + 1 = endI 0 l + 1
      omega
  · rcases List.mem_append.1 he with he | he
    · exact hn.term e he
    · rw [List.mem_singleton.1 he]
      show (k : Int) + 1 ≤ _
      omega

theorem Fam.more {logs : List (List Ent)} {k : Nat} (h : Fam logs k) {l : List Ent} (hn : Next logs k l) (hl : 0 < l.length) : Fam (logs ++ [l]) (k + 1) := by
  have hm : ∀ {a}, a ∈ logs ++ [l] → a ∈ logs ∨ a = l := fun {a} ha => by
    rcases List.mem_append.1 ha with ha | ha
    · exact .inl ha
    · exact .inr (List.mem_singleton.1 ha)
  refine ⟨fun a ha b hb => ?_, fun a ha => ?_, fun a ha e he => ?_, fun a ha => ?_⟩
  · rcases hm ha with h1 | h1
    · rcases hm hb with h2 | h2
      · exact h.agree a h1 b h2
      · rw [h2]; exact hn.agree a h1
    · rcases hm hb with h2 | h2
      · rw [h1]; exact (hn.agree b h2).symm
      · rw [h1, h2]; exact agree_self _
  · rcases hm ha with h1 | h1
    · exact h.run a h1
    · rw [h1]; exact hn.run
  · rcases hm ha with h1 | h1
    · have := h.term a h1 e he
      omega
    · exact hn.term e (h1 ▸ he)
  · rcases hm ha with h1 | h1
    · exact h.some_ a h1
    · rw [h1]; exact hl

/-- A log that took from leaders' logs: it is none, or one of them. -/
def Took (logs : List (List Ent)) (r : RL) : Prop := Good r ∧ r.i = 0 ∧ r.t = 0 ∧ (r.l = [] ∨ r.l ∈ logs)

theorem took_agree {logs : List (List Ent)} {k : Nat} (h : Fam logs k) {a b : List Ent} (ha : a = [] ∨ a ∈ logs) (hb : b = [] ∨ b ∈ logs) : Agree a b := by
  rcases ha with rfl | ha
  · exact agree_nil b
  · rcases hb with rfl | hb
    · exact (agree_nil a).symm
    · exact h.agree a ha b hb

/-- A log that takes one of them from a place on, behind what stands ahead of it there. -/
theorem took_take {logs : List (List Ent)} {k : Nat} (h : Fam logs k) {r : RL} (hr : Took logs r) {l : List Ent} (hl : l ∈ logs) (p : Nat) (hp : p ≤ l.length) (t : Int) (ht : t = endT 0 (l.take p)) : Took logs (r.take (p : Int) t (l.drop p)).1 := by
  obtain ⟨hg, hi, ht0, hrl⟩ := hr
  have hgt := hg.take (p : Int) t (l.drop p)
  have hrun := run_split (h.run l hl) p
  have hpe : endI 0 (l.take p) = (p : Int) := by
    have := (run_end hrun.1).1
    rw [this, List.length_take]
    omega
  have hr1 : runB (p : Int) t (l.drop p) = true := by rw [ht, ← hpe]; exact hrun.2
  unfold RL.take at *
  rw [if_pos hr1] at hgt ⊢
  by_cases ha : r.at_ (p : Int) = some t
  · rw [if_pos ha] at hgt ⊢
    by_cases hk : r.known (l.drop p) < (l.drop p).length
    · have hj := hg.joins hr1 ha hk
      obtain ⟨e1, e2, e3⟩ := swap_l hg hj
      refine ⟨hgt, by show (r.swap _).i = 0; rw [e2, hi], by show (r.swap _).t = 0; rw [e3, ht0], .inr ?_⟩
      show (r.swap _).l ∈ logs
      rw [e1, List.drop_drop]
      -- all ahead of it is as it is there
      obtain ⟨q, hq⟩ : ∃ q, q = p + r.known (l.drop p) := ⟨_, rfl⟩
      have hld : (l.drop p).length = l.length - p := List.length_drop
      have hql : q < l.length := by omega
      have hidx := run_idx (h.run l hl) q hql
      have hkeep : r.keep ((l.drop p).drop (r.known (l.drop p))) = q := by
        obtain ⟨k1, k2⟩ := keep_le hj
        have e0 : ((l.drop p).drop (r.known (l.drop p)))[0]'hj.h0 = l[q] := by
          simp only [List.getElem_drop, Nat.add_zero]
          congr 1
          exact hq.symm
        rw [e0, hidx, hi] at k2
        omega
      rw [List.drop_drop] at hkeep
      rw [hkeep, ← hq]
      have hsame : r.l.take q = l.take q := by
        by_cases hz : r.known (l.drop p) = 0
        · have hqp : q = p := by omega
          rw [hqp]
          by_cases hp0 : p = 0
          · rw [hp0, List.take_zero, List.take_zero]
          · obtain ⟨a1, a2, a3, a4⟩ := hg.at_some ha
            rw [hi] at a2 a4
            rw [ht0] at a4
            have hpr : p ≤ r.l.length := by omega
            have hpp : ((p : Int) - 0).toNat = p := by omega
            rw [hpp] at a4
            have b1 := (end_take 0 0 (l := r.l) (k := p - 1) (by omega)).2
            have b2 := (end_take 0 0 (l := l) (k := p - 1) (by omega)).2
            rw [show p - 1 + 1 = p by omega] at b1 b2
            have hag := took_agree h hrl (.inr hl) (p - 1) (by omega) (by omega) (by rw [← b1, ← b2, a4, ht])
            rw [show p - 1 + 1 = p by omega] at hag
            exact hag
        · have hh := known_has r (more := l.drop p) (r.known (l.drop p) - 1) (by omega) (by omega)
          unfold RL.has at hh
          have hh := of_decide_eq_true hh
          have e0 : (l.drop p)[r.known (l.drop p) - 1]'(by omega) = l[q - 1]'(by omega) := by
            simp only [List.getElem_drop]
            congr 1
            omega
          rw [e0] at hh
          obtain ⟨a1, a2, a3, a4⟩ := hg.at_some hh
          have hidx2 := run_idx (h.run l hl) (q - 1) (by omega)
          rw [hi] at a2 a4
          rw [ht0, hidx2] at a4
          rw [hidx2] at a2
          rw [show ((0 : Int) + 1 + ((q - 1 : Nat) : Int) - 0).toNat = q by omega] at a4
          have b1 := (end_take 0 0 (l := r.l) (k := q - 1) (by omega)).2
          rw [show q - 1 + 1 = q by omega] at b1
          have hag := took_agree h hrl (.inr hl) (q - 1) (by omega) (by omega) (by rw [← b1, a4])
          rw [show q - 1 + 1 = q by omega] at hag
          exact hag
      rw [hsame, List.take_append_drop]
      exact hl
    · rw [List.drop_of_length_le (by omega)]
      exact ⟨hg, hi, ht0, hrl⟩
  · rw [if_neg ha]
    exact ⟨hg, hi, ht0, hrl⟩

/-- Where both have one index of one term, they have the same up to there. -/
theorem took_same {logs : List (List Ent)} {k : Nat} (h : Fam logs k) {a b : RL} (ha : Took logs a) (hb : Took logs b) {x t : Int} (hx : 0 < x) (h1 : a.at_ x = some t) (h2 : b.at_ x = some t) : a.fromL 1 x = b.fromL 1 x := by
  obtain ⟨ga, ia, ta, la⟩ := ha
  obtain ⟨gb, ib, tb, lb⟩ := hb
  obtain ⟨a1, a2, a3, a4⟩ := ga.at_some h1
  obtain ⟨b1, b2, b3, b4⟩ := gb.at_some h2
  rw [ia] at a2 a4
  rw [ib] at b2 b4
  rw [ta] at a4
  rw [tb] at b4
  obtain ⟨q, hq⟩ : ∃ q : Nat, x = (q : Int) + 1 := ⟨(x - 1).toNat, by omega⟩
  have hxq : (x - 0).toNat = q + 1 := by omega
  rw [hxq] at a4 b4
  have c1 := (end_take 0 0 (l := a.l) (k := q) (by omega)).2
  have c2 := (end_take 0 0 (l := b.l) (k := q) (by omega)).2
  have hag := took_agree h la lb q (by omega) (by omega) (by rw [← c1, ← c2, a4, b4])
  have pa : a.place 1 = some 0 := by unfold RL.place; rw [ia, if_pos (by omega)]; rfl
  have pb : b.place 1 = some 0 := by unfold RL.place; rw [ib, if_pos (by omega)]; rfl
  rw [ga.from_, gb.from_, sub_some pa, sub_some pb, List.drop_zero, List.drop_zero, show x.toNat = q + 1 by omega]
  exact hag

end Go.Proofs.Ytlanjlboipnpfaa
