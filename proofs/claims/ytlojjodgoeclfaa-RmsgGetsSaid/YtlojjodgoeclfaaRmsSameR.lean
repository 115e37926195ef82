/- decamp/decampref11.Same of messages, by its contract. -/
import Derived.Test.YtlojjodgoeclfaaRmsRow
import Derived.Lib.Hide
namespace Go.Proofs.Ytlojjodgoeclfaa
open Go.RowKit
set_option linter.unusedVariables false
set_option linter.unusedSimpArgs false

set_option maxRecDepth 100000 in
set_option maxHeartbeats 3200000 in
theorem sameMR_any (m m' : Msg) (A : Option Addr) (cA : Nat) (E : Option Addr) (cE : Nat) (A' : Option Addr) (cA' : Nat) (E' : Option Addr) (cE' : Nat) (w : World) (Z Y : Nat → Prop) (h : MsgIn w Z m A cA E cE) (h' : MsgIn w Y m' A' cA' E' cE') :
    Calls Try.prog 13 #[msgV m A cA E cE, msgV m' A' cA' E' cE'] w fun e w' => e = .returned (.bool (sameM m m')) ∧ Below w.heap.size w w' := by
  have hlen := h.len
  obtain ⟨k, f, o, t, i, l, c, x, b, es, si, st, sd⟩ := m
  obtain ⟨k', f', o', t', i', l', c', x', b', es', si', st', sd'⟩ := m'
  obtain ⟨he, _, hs, _⟩ := h
  obtain ⟨he', _, hs', _⟩ := h'
  unfold sameM
  dsimp only [msgV] at *
  generalize es.length = n at *
  generalize es'.length = n' at *
  generalize sd.length = sn at *
  generalize sd'.length = sn' at *
  have hb : Below w.heap.size w ((w.alloc (.cells (mC k f o t i l c x b A n cA si st E sn cE) 27)).alloc (.cells (mC k' f' o' t' i' l' c' x' b' A' n' cA' si' st' E' sn' cE') 27)) := ((Below.refl _ _).alloc (Nat.le_refl _) _).alloc (by simp) _
  have he2 := he.below hb (Nat.le_refl _)
  have he2' := he'.below hb (Nat.le_refl _)
  clear he he'
  by_cases h_k : k = k'
  case neg =>
    have e1 : (k == k') = false := beq_eq_false_iff_ne.2 h_k
    have e2 : (k = k') = False := eq_false h_k
    rw [decide_eq_false h_k, Bool.false_and]
    clear h_k
    clear he2 he2' hs hs' hlen
    go_enter Try.func13, Try.ntmps13
    dsimp only [List.append]
    go_wp2
    go_ret
    exact ⟨rfl, hb⟩
  subst h_k
  rw [decide_eq_true rfl, Bool.true_and]
  by_cases h_f : f = f'
  case neg =>
    have e1 : (f == f') = false := beq_eq_false_iff_ne.2 h_f
    have e2 : (f = f') = False := eq_false h_f
    rw [decide_eq_false h_f, Bool.false_and]
    clear h_f
    clear he2 he2' hs hs' hlen
    go_enter Try.func13, Try.ntmps13
    dsimp only [List.append]
    go_wp2
    go_ret
    exact ⟨rfl, hb⟩
  subst h_f
  rw [decide_eq_true rfl, Bool.true_and]
  by_cases h_o : o = o'
  case neg =>
    have e1 : (o == o') = false := beq_eq_false_iff_ne.2 h_o
    have e2 : (o = o') = False := eq_false h_o
    rw [decide_eq_false h_o, Bool.false_and]
    clear h_o
    clear he2 he2' hs hs' hlen
    go_enter Try.func13, Try.ntmps13
    dsimp only [List.append]
    go_wp2
    go_ret
    exact ⟨rfl, hb⟩
  subst h_o
  rw [decide_eq_true rfl, Bool.true_and]
  by_cases h_t : t = t'
  case neg =>
    have e1 : (t == t') = false := beq_eq_false_iff_ne.2 h_t
    have e2 : (t = t') = False := eq_false h_t
    rw [decide_eq_false h_t, Bool.false_and]
    clear h_t
    clear he2 he2' hs hs' hlen
    go_enter Try.func13, Try.ntmps13
    dsimp only [List.append]
    go_wp2
    go_ret
    exact ⟨rfl, hb⟩
  subst h_t
  rw [decide_eq_true rfl, Bool.true_and]
  by_cases h_i : i = i'
  case neg =>
    have e1 : (i == i') = false := beq_eq_false_iff_ne.2 h_i
    have e2 : (i = i') = False := eq_false h_i
    rw [decide_eq_false h_i, Bool.false_and]
    clear h_i
    clear he2 he2' hs hs' hlen
    go_enter Try.func13, Try.ntmps13
    dsimp only [List.append]
    go_wp2
    go_ret
    exact ⟨rfl, hb⟩
  subst h_i
  rw [decide_eq_true rfl, Bool.true_and]
  by_cases h_l : l = l'
  case neg =>
    have e1 : (l == l') = false := beq_eq_false_iff_ne.2 h_l
    have e2 : (l = l') = False := eq_false h_l
    rw [decide_eq_false h_l, Bool.false_and]
    clear h_l
    clear he2 he2' hs hs' hlen
    go_enter Try.func13, Try.ntmps13
    dsimp only [List.append]
    go_wp2
    go_ret
    exact ⟨rfl, hb⟩
  subst h_l
  rw [decide_eq_true rfl, Bool.true_and]
  by_cases h_c : c = c'
  case neg =>
    have e1 : (c == c') = false := beq_eq_false_iff_ne.2 h_c
    have e2 : (c = c') = False := eq_false h_c
    rw [decide_eq_false h_c, Bool.false_and]
    clear h_c
    clear he2 he2' hs hs' hlen
    go_enter Try.func13, Try.ntmps13
    dsimp only [List.append]
    go_wp2
    go_ret
    exact ⟨rfl, hb⟩
  subst h_c
  rw [decide_eq_true rfl, Bool.true_and]
  by_cases h_x : x = x'
  case neg =>
    have e1 : (x == x') = false := beq_eq_false_iff_ne.2 h_x
    have e2 : (x = x') = False := eq_false h_x
    rw [decide_eq_false h_x, Bool.false_and]
    clear h_x
    clear he2 he2' hs hs' hlen
    go_enter Try.func13, Try.ntmps13
    dsimp only [List.append]
    go_wp2
    go_ret
    exact ⟨rfl, hb⟩
  subst h_x
  rw [decide_eq_true rfl, Bool.true_and]
  by_cases h_b : b = b'
  case neg =>
    have e1 : (b == b') = false := beq_eq_false_iff_ne.2 h_b
    have e2 : (b = b') = False := eq_false h_b
    rw [decide_eq_false h_b, Bool.false_and]
    clear h_b
    clear he2 he2' hs hs' hlen
    go_enter Try.func13, Try.ntmps13
    dsimp only [List.append]
    go_wp2
    go_ret
    exact ⟨rfl, hb⟩
  subst h_b
  rw [decide_eq_true rfl, Bool.true_and]
  have hE := sameR_any Z Y A n cA es A' n' cA' es' _ he2 he2' hlen
  generalize sameE es es' = q at *
  cases q with
  | false =>
    rw [Bool.false_and]
    clear he2 he2' hs hs' hlen
    go_enter Try.func13, Try.ntmps13
    dsimp only [List.append]
    go_wp2_with fail
    refine hE.mono ?_
    rintro e w1 ⟨rfl, hb1⟩
    go_wp2
    go_ret
    exact ⟨rfl, hb.trans (hb1.mono hb.size)⟩
  | true =>
    rw [Bool.true_and]
    obtain ⟨q, hq⟩ : ∃ q, oneB si st sd si' st' sd' = q := ⟨_, rfl⟩
    rw [hq]
    have HQ := Lib.hid hq
    clear hq
    have hr0 : ((w.alloc (.cells (mC k f o t i l c x b A n cA si st E sn cE) 27)).alloc (.cells (mC k f o t i l c x b A' n' cA' si' st' E' sn' cE') 27)).heap[w.heap.size]? = some (.cells (mC k f o t i l c x b A n cA si st E sn cE) 27) := (Below.heap_alloc _ _ _ (by simp)).trans (heap_alloc_new _ _)
    have hr0' : ((w.alloc (.cells (mC k f o t i l c x b A n cA si st E sn cE) 27)).alloc (.cells (mC k f o t i l c x b A' n' cA' si' st' E' sn' cE') 27)).heap[w.heap.size + 1]? = some (.cells (mC k f o t i l c x b A' n' cA' si' st' E' sn' cE') 27) := heap_alloc2_new _ _ _
    clear he2 he2' hlen
    go_enter Try.func13, Try.ntmps13
    dsimp only [List.append]
    go_wp2_with fail
    refine hE.mono ?_
    rintro e w1 ⟨rfl, hb1⟩
    have hbw := hb.trans (hb1.mono hb.size)
    have hr1 := (hb1.block _ (hlt hr0)).trans hr0
    have hr1' := (hb1.block _ (hlt hr0')).trans hr0'
    have hs1 := hs.below hbw (Nat.le_refl _)
    have hs1' := hs'.below hbw (Nat.le_refl _)
    have hz0 := hlt hr1
    have hz1 := hlt hr1'
    obtain ⟨⟨_, _, _, _, _, _, _, _, _, _, a10, a11, a12⟩, _⟩ := row13 hr1
    obtain ⟨⟨_, _, _, _, _, _, _, _, _, _, b10, b11, b12⟩, _⟩ := row13 hr1'
    clear hE hb hb1 hr0 hr0' hr1 hr1' hs hs'
    have hS := sameSnapR_any si st E sn cE sd si' st' E' sn' cE' sd' w1 hs1 hs1'
    rw [show oneB si st sd si' st' sd' = q from HQ] at hS
    have hbw2 := hbw
    clear hs1 hs1' hbw
    go_wp2_with fail
    refine hS.mono ?_
    rintro e w2 ⟨rfl, hb2⟩
    go_wp2
    go_ret
    exact ⟨rfl, hbw2.trans (hb2.mono hbw2.size)⟩

end Go.Proofs.Ytlojjodgoeclfaa
