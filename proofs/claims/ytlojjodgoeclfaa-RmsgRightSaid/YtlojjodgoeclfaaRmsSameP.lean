/- decamp/rmsg.Same of messages, by its contract. -/
import Derived.Test.YtlojjodgoeclfaaRmsRow
import Derived.Lib.Hide
namespace Go.Proofs.Ytlojjodgoeclfaa
open Go.RowKit
set_option linter.unusedVariables false
set_option linter.unusedSimpArgs false

theorem Ents.one {w : World} {Z : Nat → Prop} (i t : Int) (E : Option Addr) (n c : Nat) (d : List UInt8) (T : TypeId) (hl : Lies w E n c d) (hz : ∀ k, Z k) :
    Ents (w.alloc (.cells #[.int .i64 i, .int .i64 t, .slice E n c] T)) Z (some ⟨w.heap.size, 0, none⟩) 1 1 [⟨i, t, d⟩] := by
  have hb := (Below.refl w.heap.size w).alloc (Nat.le_refl _) (.cells #[.int .i64 i, .int .i64 t, .slice E n c] T)
  obtain ⟨⟨a0, a1, a2⟩, _⟩ := row3 (heap_alloc_new w (.cells #[.int .i64 i, .int .i64 t, .slice E n c] T))
  have hd := hl.1
  subst hd
  refine ⟨rfl, Nat.le_refl _, (fun e => by cases e), fun _ => ⟨w.heap.size, 0, rfl, by simp, hz _, fun j hj => ?_⟩⟩
  obtain rfl : j = 0 := by simpa using hj
  exact ⟨E, c, a0, a1, a2, Nat.le_refl _, hl.below hb (Nat.le_refl _), fun _ _ _ _ => hz _⟩

theorem sameE_one (a b : Ent) : sameE [a] [b] = oneB a.i a.t a.d b.i b.t b.d := by
  simp [sameE, oneAt]

set_option maxRecDepth 100000 in
set_option maxHeartbeats 3200000 in
theorem sameMP_any (m m' : Msg) (A : Option Addr) (cA : Nat) (E : Option Addr) (cE : Nat) (A' : Option Addr) (cA' : Nat) (E' : Option Addr) (cE' : Nat) (w : World) (Z Y : Nat → Prop) (h : MsgIn w Z m A cA E cE) (h' : MsgIn w Y m' A' cA' E' cE') :
    Calls Try.prog 12 #[msgV m A cA E cE, msgV m' A' cA' E' cE'] w fun e w' => e = .returned (.bool (sameM m m')) ∧ Below w.heap.size w w' := by
  have hlen := h.len
  obtain ⟨k, f, o, t, i, l, c, x, b, es, si, st, sd⟩ := m
  obtain ⟨k', f', o', t', i', l', c', x', b', es', si', st', sd'⟩ := m'
  obtain ⟨he, _, hs, _⟩ := h
  obtain ⟨he', _, hs', _⟩ := h'
  unfold sameM
  dsimp only [msgV] at *
  generalize es.length = n at *
  generalize es'.length = n' at *
  generalize sd.length = sn at *
  generalize sd'.length = sn' at *
  have hb : Below w.heap.size w ((w.alloc (.cells (mC k f o t i l c x b A n cA si st E sn cE) 30)).alloc (.cells (mC k' f' o' t' i' l' c' x' b' A' n' cA' si' st' E' sn' cE') 30)) := ((Below.refl _ _).alloc (Nat.le_refl _) _).alloc (by simp) _
  have he2 := he.below hb (Nat.le_refl _)
  have he2' := he'.below hb (Nat.le_refl _)
  clear he he'
  by_cases h_k : k = k'
  case neg =>
    have e1 : (k == k') = false := beq_eq_false_iff_ne.2 h_k
    have e2 : (k = k') = False := eq_false h_k
    rw [decide_eq_false h_k, Bool.false_and]
    clear h_k
    clear he2 he2' hs hs' hlen
    go_enter Try.func12, Try.ntmps12
    dsimp only [List.append]
    go_wp2
    go_ret
    exact ⟨rfl, hb⟩
  subst h_k
  rw [decide_eq_true rfl, Bool.true_and]
  by_cases h_f : f = f'
  case neg =>
    have e1 : (f == f') = false := beq_eq_false_iff_ne.2 h_f
    have e2 : (f = f') = False := eq_false h_f
    rw [decide_eq_false h_f, Bool.false_and]
    clear h_f
    clear he2 he2' hs hs' hlen
    go_enter Try.func12, Try.ntmps12
    dsimp only [List.append]
    go_wp2
    go_ret
    exact ⟨rfl, hb⟩
  subst h_f
  rw [decide_eq_true rfl, Bool.true_and]
  by_cases h_o : o = o'
  case neg =>
    have e1 : (o == o') = false := beq_eq_false_iff_ne.2 h_o
    have e2 : (o = o') = False := eq_false h_o
    rw [decide_eq_false h_o, Bool.false_and]
    clear h_o
    clear he2 he2' hs hs' hlen
    go_enter Try.func12, Try.ntmps12
    dsimp only [List.append]
    go_wp2
    go_ret
    exact ⟨rfl, hb⟩
  subst h_o
  rw [decide_eq_true rfl, Bool.true_and]
  by_cases h_t : t = t'
  case neg =>
    have e1 : (t == t') = false := beq_eq_false_iff_ne.2 h_t
    have e2 : (t = t') = False := eq_false h_t
    rw [decide_eq_false h_t, Bool.false_and]
    clear h_t
    clear he2 he2' hs hs' hlen
    go_enter Try.func12, Try.ntmps12
    dsimp only [List.append]
    go_wp2
    go_ret
    exact ⟨rfl, hb⟩
  subst h_t
  rw [decide_eq_true rfl, Bool.true_and]
  by_cases h_i : i = i'
  case neg =>
    have e1 : (i == i') = false := beq_eq_false_iff_ne.2 h_i
    have e2 : (i = i') = False := eq_false h_i
    rw [decide_eq_false h_i, Bool.false_and]
    clear h_i
    clear he2 he2' hs hs' hlen
    go_enter Try.func12, Try.ntmps12
    dsimp only [List.append]
    go_wp2
    go_ret
    exact ⟨rfl, hb⟩
  subst h_i
  rw [decide_eq_true rfl, Bool.true_and]
  by_cases h_l : l = l'
  case neg =>
    have e1 : (l == l') = false := beq_eq_false_iff_ne.2 h_l
    have e2 : (l = l') = False := eq_false h_l
    rw [decide_eq_false h_l, Bool.false_and]
    clear h_l
    clear he2 he2' hs hs' hlen
    go_enter Try.func12, Try.ntmps12
    dsimp only [List.append]
    go_wp2
    go_ret
    exact ⟨rfl, hb⟩
  subst h_l
  rw [decide_eq_true rfl, Bool.true_and]
  by_cases h_c : c = c'
  case neg =>
    have e1 : (c == c') = false := beq_eq_false_iff_ne.2 h_c
    have e2 : (c = c') = False := eq_false h_c
    rw [decide_eq_false h_c, Bool.false_and]
    clear h_c
    clear he2 he2' hs hs' hlen
    go_enter Try.func12, Try.ntmps12
    dsimp only [List.append]
    go_wp2
    go_ret
    exact ⟨rfl, hb⟩
  subst h_c
  rw [decide_eq_true rfl, Bool.true_and]
  by_cases h_x : x = x'
  case neg =>
    have e1 : (x == x') = false := beq_eq_false_iff_ne.2 h_x
    have e2 : (x = x') = False := eq_false h_x
    rw [decide_eq_false h_x, Bool.false_and]
    clear h_x
    clear he2 he2' hs hs' hlen
    go_enter Try.func12, Try.ntmps12
    dsimp only [List.append]
    go_wp2
    go_ret
    exact ⟨rfl, hb⟩
  subst h_x
  rw [decide_eq_true rfl, Bool.true_and]
  by_cases h_b : b = b'
  case neg =>
    have e1 : (b == b') = false := beq_eq_false_iff_ne.2 h_b
    have e2 : (b = b') = False := eq_false h_b
    rw [decide_eq_false h_b, Bool.false_and]
    clear h_b
    clear he2 he2' hs hs' hlen
    go_enter Try.func12, Try.ntmps12
    dsimp only [List.append]
    go_wp2
    go_ret
    exact ⟨rfl, hb⟩
  subst h_b
  rw [decide_eq_true rfl, Bool.true_and]
  have hE := sameP_any Z Y A n cA es A' n' cA' es' _ he2 he2' hlen
  generalize sameE es es' = q at *
  cases q with
  | false =>
    rw [Bool.false_and]
    clear he2 he2' hs hs' hlen
    go_enter Try.func12, Try.ntmps12
    dsimp only [List.append]
    go_wp2_with fail
    refine hE.mono ?_
    rintro e w1 ⟨rfl, hb1⟩
    go_wp2
    go_ret
    exact ⟨rfl, hb.trans (hb1.mono hb.size)⟩
  | true =>
    rw [Bool.true_and]
    obtain ⟨q, hq⟩ : ∃ q, oneB si st sd si' st' sd' = q := ⟨_, rfl⟩
    rw [hq]
    have HQ := Lib.hid hq
    clear hq
    have hr0 : ((w.alloc (.cells (mC k f o t i l c x b A n cA si st E sn cE) 30)).alloc (.cells (mC k f o t i l c x b A' n' cA' si' st' E' sn' cE') 30)).heap[w.heap.size]? = some (.cells (mC k f o t i l c x b A n cA si st E sn cE) 30) := (Below.heap_alloc _ _ _ (by simp)).trans (heap_alloc_new _ _)
    have hr0' : ((w.alloc (.cells (mC k f o t i l c x b A n cA si st E sn cE) 30)).alloc (.cells (mC k f o t i l c x b A' n' cA' si' st' E' sn' cE') 30)).heap[w.heap.size + 1]? = some (.cells (mC k f o t i l c x b A' n' cA' si' st' E' sn' cE') 30) := heap_alloc2_new _ _ _
    clear he2 he2' hlen
    go_enter Try.func12, Try.ntmps12
    dsimp only [List.append]
    go_wp2_with fail
    refine hE.mono ?_
    rintro e w1 ⟨rfl, hb1⟩
    have hbw := hb.trans (hb1.mono hb.size)
    have hr1 := (hb1.block _ (hlt hr0)).trans hr0
    have hr1' := (hb1.block _ (hlt hr0')).trans hr0'
    have hs1 := hs.below hbw (Nat.le_refl _)
    have hs1' := hs'.below hbw (Nat.le_refl _)
    have hz0 := hlt hr1
    have hz1 := hlt hr1'
    obtain ⟨⟨_, _, _, _, _, _, _, _, _, _, a10, a11, a12⟩, _⟩ := row13 hr1
    obtain ⟨⟨_, _, _, _, _, _, _, _, _, _, b10, b11, b12⟩, _⟩ := row13 hr1'
    clear hE hb hb1 hr0 hr0' hr1 hr1' hs hs'
    have hx1 := Ents.one (Z := fun _ => True) si st E sn cE sd 58 hs1 (fun _ => trivial)
    have hA1 := (Below.refl w1.heap.size w1).alloc (Nat.le_refl _) (.cells #[.int .i64 si, .int .i64 st, .slice E sn cE] 58)
    have hx2 := Ents.one (Z := fun _ => True) si' st' E' sn' cE' sd' 58 (hs1'.below hA1 (Nat.le_refl _)) (fun _ => trivial)
    have hA2 := hA1.alloc hA1.size (.cells #[.int .i64 si', .int .i64 st', .slice E' sn' cE'] 58)
    have hS := sameP_any _ _ _ 1 1 _ _ 1 1 _ _ (hx1.below ((Below.refl _ _).alloc (Nat.le_refl _) (.cells #[.int .i64 si', .int .i64 st', .slice E' sn' cE'] 58)) (Nat.le_refl _)) hx2 (by unfold maxLen; omega)
    rw [sameE_one] at hS
    dsimp only at hS
    have e1 : (w1.alloc (.cells #[.int .i64 si, .int .i64 st, .slice E sn cE] 58)).heap.size = w1.heap.size + 1 := by simp
    rw [e1] at hS
    rw [show oneB si st sd si' st' sd' = q from HQ] at hS
    have hbw2 := hbw.trans (hA2.mono hbw.size)
    clear hx1 hx2 hA1 hA2 e1 hs1 hs1' hbw
    go_wp2_with fail
    refine hS.mono ?_
    rintro e w2 ⟨rfl, hb2⟩
    go_wp2
    go_ret
    exact ⟨rfl, hbw2.trans (hb2.mono hbw2.size)⟩

end Go.Proofs.Ytlojjodgoeclfaa
