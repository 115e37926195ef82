/- Sorting items, those alike in the order in which they stood. (Written by mksor.py.) -/
import Derived.Test.YtcoddkbbgmjckaaBn43
import Derived.Test.YtcoddkbbgmjckaaBn35
import Derived.Test.YtcoddkbbgmjckaaBn37
import Derived.Test.YtcoddkbbgmjckaaBn15
namespace Go.Proofs.Ytcoddkbbgmjckaa
open Go.RowKit
set_option linter.unusedVariables false
set_option linter.unusedSimpArgs false
attribute [local go_sem] Oper.semAt_some

theorem Sor.Mrg.one {α : Type} (key : α → Int) (l : List α) {a b : Nat} (h : b ≤ a + 1) : Sor.Mrg key a b l l := ⟨Sor.Off.refl _ _ _, Sor.St.refl _, Sor.UpIn.one _ h⟩

/-- The first t stretches of 20 are rising. -/
structure Blk20 (t : Nat) (ls l : List KV) : Prop where
  st : Sor.St kR ls l
  up : ∀ s, s < t → Sor.UpIn kR l (s * 20) (s * 20 + 20)
theorem Blk20.step {t : Nat} {ls l l2 : List KV} (h : Blk20 t ls l) (hm : Sor.Mrg kR (t * 20) (t * 20 + 20) l l2) : Blk20 (t + 1) ls l2 := ⟨h.st.trans hm.st, fun s hs => by
  by_cases e : s = t
  · subst e; exact hm.up
  · exact (h.up s (by omega)).off hm.off (.inl (by omega))⟩
theorem Blk20.done {t : Nat} {ls l l2 : List KV} (h : Blk20 t ls l) (hm : Sor.Mrg kR (t * 20) l.length l l2) (hb : l.length ≤ t * 20 + 20) : Sor.Ch kR 20 l2 ∧ Sor.St kR ls l2 :=
  ⟨Sor.ch_of (n := t) (fun s hs => (h.up s hs).off hm.off (.inl (by omega))) (by rw [hm.off.1]; exact hm.up) (by rw [hm.off.1]; exact hb), h.st.trans hm.st⟩

set_option maxRecDepth 100000 in
set_option maxHeartbeats 3200000 in
theorem stable_any (g off n cap : Nat) (ls : List KV) (w : World) (h : RowW w g off n cap ls) (hn : n ≤ 900000) :
    Calls Try.prog 104 #[.slice (some ⟨g, off, none⟩) n cap, .int .i64 (n : Int), (.func (.func 95) #[] #[])] w fun e w' => e = .returned (.tuple #[]) ∧ ∃ ls', Sor.Up kR ls' ∧ Sor.St kR ls ls' ∧ Turn w w' g off n cap ls ls' := by
  have HR := Lib.hid h
  clear h
  go_enter Try.func104, Try.ntmps104
  go_wp2_with fail
  go_loopw [7, 8] (fun v7 v8 wr => ∃ t a b : Nat, v7 = .int .i64 (a : Int) ∧ v8 = .int .i64 (b : Int) ∧ RowKit.Hid (a = t * 20) ∧ b ≤ a + 20 ∧ a + 20 ≤ b ∧ a ≤ n ∧ ∃ l2, Blk20 t ls l2 ∧ Turn w wr g off n cap ls l2) (fun v7 v8 _ => n + 20 - (intOf v8).toNat)
  case atStart => exact ⟨0, 0, 20, rfl, rfl, Lib.hid rfl, by omega, by omega, Nat.zero_le _, ls, ⟨Sor.St.refl _, fun s hs => by omega⟩, Turn.refl HR.out⟩
  case round =>
    obtain ⟨t, a, b, rfl, rfl, ht, hb, hb2, han, l2, hk, hT⟩ := hrel
    have HT := Lib.hid hT
    have HK := Lib.hid hk
    clear hT hk
    by_cases hlt : b ≤ n
    · have l1 : decide ((b : Int) ≤ (n : Int)) = true := decide_eq_true (by omega)
      go_wp2_with fail
      refine (insertion_any g off n cap l2 a b wr HT.out.row (by omega) hlt hn).mono ?_
      rintro e w1 ⟨rfl, l3, hM, hT3⟩
      have HE := Lib.hid (And.intro (HK.out.step (show Sor.Mrg kR (t * 20) (t * 20 + 20) l2 l3 by rw [← ht.out, show a + 20 = b by omega]; exact hM)) (HT.out.trans hT3))
      clear hM hT3
      obtain ⟨bn, hbn⟩ : ∃ bn, b + 20 = bn := ⟨_, rfl⟩
      have k2 : IntKind.i64.wrap ((b : Int) + 20) = (bn : Int) := by rw [IntWalk.i64_in _ (by omega)]; omega
      go_wp2
      go_roundw
      case rel => exact ⟨t + 1, b, bn, rfl, by go_num, Lib.hid (by have := ht.out; omega), by omega, by omega, hlt, l3, HE.out⟩
      case measure =>
        simp [intOf]
        omega
    · have l1 : decide ((b : Int) ≤ (n : Int)) = false := decide_eq_false (by omega)
      go_wp2_with fail
      refine (insertion_any g off n cap l2 a n wr HT.out.row han (Nat.le_refl _) hn).mono ?_
      rintro e w1 ⟨rfl, l3, hM, hT3⟩
      have hl2 := HT.out.row.len
      have HE := Lib.hid (And.intro (HK.out.done (show Sor.Mrg kR (t * 20) l2.length l2 l3 by rw [← ht.out, hl2]; exact hM) (by have := ht.out; omega)) (HT.out.trans hT3))
      clear hM hT3 HK HT
      go_wp2_with fail
      go_loopw [6] (fun v6 wr => ∃ bs : Nat, v6 = .int .i64 (bs : Int) ∧ 0 < bs ∧ bs ≤ 2 * n + 20 ∧ ∃ l2, Sor.Ch kR bs l2 ∧ Sor.St kR ls l2 ∧ Turn w wr g off n cap ls l2) (fun v6 _ => n - (intOf v6).toNat)
      case atStart => exact ⟨20, rfl, by omega, by omega, l3, HE.out.1.1, HE.out.1.2, HE.out.2⟩
      case round =>
        obtain ⟨bs, rfl, hb0, hbm, l2, hch, hst, hT⟩ := hrel
        have HT := Lib.hid hT
        have HK := Lib.hid (And.intro hch hst)
        clear hT hch hst
        clear ht hb hb2 han hlt l1
        by_cases hlt : bs < n
        · have l1 : decide ((bs : Int) < (n : Int)) = true := decide_eq_true (by omega)
          obtain ⟨d, hd1⟩ : ∃ d, RowKit.Hid (2 * bs = d) := ⟨_, Lib.hid rfl⟩
          have hd2 : 2 * bs ≤ d := Nat.le_of_eq hd1.out
          have hd3 : d ≤ 2 * bs := Nat.le_of_eq hd1.out.symm
          have k1 : IntKind.i64.wrap (2 * (bs : Int)) = (d : Int) := by rw [IntWalk.i64_in _ (by omega)]; omega
          have k1' : IntKind.i64.wrap ((bs : Int) * 2) = (d : Int) := by rw [IntWalk.i64_in _ (by omega)]; omega
          go_wp2_with fail
          go_loopw [7, 8] (fun v7 v8 wr => ∃ t a b : Nat, v7 = .int .i64 (a : Int) ∧ v8 = .int .i64 (b : Int) ∧ RowKit.Hid (a = t * (2 * bs)) ∧ b ≤ a + d ∧ a + d ≤ b ∧ a ≤ n ∧ ∃ l4, Sor.Two kR bs t l4 ∧ Sor.St kR ls l4 ∧ Turn w wr g off n cap ls l4) (fun v7 v8 _ => n + d - (intOf v8).toNat)
          case atStart => exact ⟨0, 0, d, rfl, rfl, Lib.hid (by rw [Nat.zero_mul]), by omega, by omega, Nat.zero_le _, l2, HK.out.1.two, HK.out.2, HT.out⟩
          case round =>
            obtain ⟨t, a, b, rfl, rfl, ht, hb, hb2, han, l4, h2, hst, hT4⟩ := hrel
            have HT4 := Lib.hid hT4
            have HK4 := Lib.hid (And.intro h2 hst)
            have hl4 := hT4.row.len
            clear h2 hst hT4
            obtain ⟨m, hm⟩ : ∃ m, a + bs = m := ⟨_, rfl⟩
            have k3 : IntKind.i64.wrap ((a : Int) + (bs : Int)) = (m : Int) := by rw [IntWalk.i64_in _ (by omega)]; omega
            by_cases hbn : b ≤ n
            · have l2' : decide ((b : Int) ≤ (n : Int)) = true := decide_eq_true (by omega)
              have hu1 : Sor.UpIn kR l4 a m := by
                have := HK4.out.1.lo (by rw [← ht.out]; omega)
                rw [← ht.out, hm] at this
                exact this
              have hu2 : Sor.UpIn kR l4 m b := by
                have := HK4.out.1.hi
                rw [← ht.out, hm, Nat.min_eq_left (by omega), show a + 2 * bs = b by omega] at this
                exact this
              go_wp2_with fail
              refine (symMerge_any g off n cap l4 a m b wr HT4.out.row (by omega) (by omega) hbn hn hu1 hu2).mono ?_
              rintro e w5 ⟨rfl, l5, hM, hT5⟩
              have HE := Lib.hid (And.intro (HK4.out.1.step (show Sor.Mrg kR (t * (2 * bs)) (t * (2 * bs) + 2 * bs) l4 l5 by rw [← ht.out, show a + 2 * bs = b by omega]; exact hM) (by rw [← ht.out]; omega)) (And.intro (HK4.out.2.trans hM.st) (HT4.out.trans hT5)))
              clear hM hT5 hu1 hu2
              obtain ⟨bn, hbn2⟩ : ∃ bn, b + d = bn := ⟨_, rfl⟩
              have k4 : IntKind.i64.wrap ((b : Int) + (d : Int)) = (bn : Int) := by rw [IntWalk.i64_in _ (by omega)]; omega
              go_wp2
              go_roundw
              case rel => exact ⟨t + 1, b, bn, rfl, by go_num, Lib.hid (by rw [Nat.succ_mul, ← ht.out]; omega), by omega, by omega, hbn, l5, HE.out⟩
              case measure =>
                simp [intOf]
                omega
            · have l2' : decide ((b : Int) ≤ (n : Int)) = false := decide_eq_false (by omega)
              by_cases hmn : m < n
              · have l3' : decide ((m : Int) < (n : Int)) = true := decide_eq_true (by omega)
                have hu1 : Sor.UpIn kR l4 a m := by
                  have := HK4.out.1.lo (by rw [← ht.out]; omega)
                  rw [← ht.out, hm] at this
                  exact this
                have hu2 : Sor.UpIn kR l4 m n := by
                  have := HK4.out.1.hi
                  rw [← ht.out, hm, Nat.min_eq_right (by omega), hl4] at this
                  exact this
                go_wp2_with fail
                refine (symMerge_any g off n cap l4 a m n wr HT4.out.row (by omega) hmn (Nat.le_refl _) hn hu1 hu2).mono ?_
                rintro e w5 ⟨rfl, l5, hM, hT5⟩
                have HE := Lib.hid (And.intro (HK4.out.1.done (show Sor.Mrg kR (t * (2 * bs)) l4.length l4 l5 by rw [← ht.out, hl4]; exact hM) (by rw [← ht.out]; omega)) (And.intro (HK4.out.2.trans hM.st) (HT4.out.trans hT5)))
                clear hM hT5 hu1 hu2
                go_wp2
                go_roundw
                case rel => exact ⟨d, by go_num, by omega, by omega, l5, by rw [← hd1.out]; exact HE.out.1, HE.out.2⟩
                case measure =>
                  simp [intOf]
                  omega
              · have l3' : decide ((m : Int) < (n : Int)) = false := decide_eq_false (by omega)
                have HE := Lib.hid (HK4.out.1.done (t := l4) ⟨Sor.Off.refl _ _ _, Sor.St.refl _, by have := HK4.out.1.last (by rw [← ht.out]; omega); exact this⟩ (by rw [← ht.out]; omega))
                go_wp2
                go_roundw
                case rel => exact ⟨d, by go_num, by omega, by omega, l4, by rw [← hd1.out]; exact HE.out, HK4.out.2, HT4.out⟩
                case measure =>
                  simp [intOf]
                  omega
        · have l1 : decide ((bs : Int) < (n : Int)) = false := decide_eq_false (by omega)
          have HE := Lib.hid (HK.out.1.up (by have := HT.out.row.len; omega))
          go_wp2
          exact bpq ⟨rfl, l2, HE.out, HK.out.2, HT.out⟩

set_option maxRecDepth 100000 in
set_option maxHeartbeats 3200000 in
theorem sortStable_any (g off n cap : Nat) (ls : List KV) (w : World) (h : RowW w g off n cap ls) (hn : n ≤ 900000) :
    Calls Try.prog 94 #[.slice (some ⟨g, off, none⟩) n cap, (.func (.func 95) #[] #[])] w fun e w' => e = .returned (.tuple #[]) ∧ ∃ ls', Sor.Up kR ls' ∧ Sor.St kR ls ls' ∧ Turn w w' g off n cap ls ls' := by
  have hC := fun W (hW : RowW W g off n cap ls) => stable_any g off n cap ls W hW hn
  go_enter Try.func94, Try.ntmps94
  go_wp2_with fail
  refine (hC _ h).mono ?_
  rintro e w1 ⟨rfl, l2, h1, h2, h3⟩
  have HE := Lib.hid (And.intro h1 (And.intro h2 h3))
  clear h1 h2 h3 hC
  go_wp2
  exact bpq ⟨rfl, l2, HE.out⟩

end Go.Proofs.Ytcoddkbbgmjckaa

namespace Go.Proofs.Ytcoddkbbgmjckaa
open Go.RowKit
set_option linter.unusedVariables false
set_option linter.unusedSimpArgs false
attribute [local go_sem] Oper.semAt_some

namespace Idx
open His
abbrev IV := ByteArray × Ver
/-- What the range's keys were made, key by key. -/
def flatS (ys : List KH) (a b : Int) : List IV := ys.flatMap fun p => (sinceL p.2 a b).map fun v => (p.1, v)
theorem flatS_next (ys : List KH) (a b : Int) {k : Nat} (hk : k < ys.length) : flatS (ys.take (k + 1)) a b = flatS (ys.take k) a b ++ (sinceL ys[k].2 a b).map fun v => (ys[k].1, v) := by
  unfold flatS
  rw [List.take_succ_eq_append_getElem hk, List.flatMap_append]
  simp
theorem since_len (l : List Ver) (a b : Int) : (sinceL l a b).length ≤ l.length := by
  unfold sinceL
  split
  · exact List.length_filter_le ..
  · exact Nat.zero_le _
theorem flatS_len (ys : List KH) (a b : Int) : (flatS ys a b).length ≤ tot ys := by
  induction ys with
  | nil => exact Nat.le_refl _
  | cons p l ih =>
    unfold flatS at ih ⊢
    rw [List.flatMap_cons, List.length_append, List.length_map, tot_cons]
    have := since_len p.2 a b
    omega
theorem fm_if {α β : Type} (l : List α) (f : α → Bool) (g : α → List β) : (l.filter f).flatMap g = l.flatMap fun x => if f x = true then g x else [] := by
  induction l with
  | nil => rfl
  | cons x l ih =>
    rw [List.filter_cons, List.flatMap_cons]
    cases h : f x with
    | true => rw [if_pos rfl, if_pos rfl, List.flatMap_cons, ih]
    | false => rw [if_neg Bool.false_ne_true, if_neg Bool.false_ne_true, ih]; rfl
theorem filter_fm {α β : Type} (l : List α) (g : α → List β) (p : β → Bool) : (l.flatMap g).filter p = l.flatMap fun x => (g x).filter p := by
  induction l with
  | nil => rfl
  | cons x l ih => rw [List.flatMap_cons, List.flatMap_cons, List.filter_append, ih]
theorem fm_congr {α β : Type} {l : List α} {f g : α → List β} (h : ∀ x ∈ l, f x = g x) : l.flatMap f = l.flatMap g := by
  induction l with
  | nil => rfl
  | cons x l ih => rw [List.flatMap_cons, List.flatMap_cons, h x (List.mem_cons_self ..), ih fun y hy => h y (List.mem_cons_of_mem _ hy)]
/-- Of one revision: the batch, if it is asked for. -/
theorem flatS_at {l : List KH} (h : Wf l) (f : ByteArray → Bool) (a b r : Int) : (flatS (l.filter fun p => f p.1) a b).filter (fun x => decide (kR x = r)) = if a ≤ r ∧ r ≤ b then batL l f r else [] := by
  unfold flatS
  rw [filter_fm, fm_if]
  have key : ∀ p ∈ l, (if f p.1 = true then ((sinceL p.2 a b).map fun v => (p.1, v)).filter (fun x => decide (kR x = r)) else []) = if a ≤ r ∧ r ≤ b then (p.2.filter fun v => decide (v.r = r) && f p.1).map (fun v => (p.1, v)) else [] := by
    intro p hp
    have e : sinceL p.2 a b = p.2.filter fun x => decide (a ≤ x.r ∧ x.r ≤ b) := if_pos ((right_iff _).2 (h.right p hp))
    rw [e, List.filter_map, List.filter_filter]
    cases hf : f p.1 with
    | false =>
      rw [if_neg Bool.false_ne_true]
      split
      · rw [List.filter_eq_nil_iff.2 fun v _ => by rw [Bool.and_false]; exact Bool.false_ne_true]; rfl
      · rfl
    | true =>
      rw [if_pos rfl]
      by_cases hr : a ≤ r ∧ r ≤ b
      · rw [if_pos hr]
        congr 1
        refine List.filter_congr fun v _ => ?_
        show (decide (v.r = r) && decide (a ≤ v.r ∧ v.r ≤ b)) = (decide (v.r = r) && true)
        by_cases e2 : v.r = r
        · rw [decide_eq_true e2, e2, decide_eq_true hr]
        · rw [decide_eq_false e2]; rfl
      · rw [if_neg hr, List.filter_eq_nil_iff.2 fun v _ => ?_]
        · rfl
        · show ¬ (decide (v.r = r) && decide (a ≤ v.r ∧ v.r ≤ b)) = true
          rw [Bool.and_eq_true, decide_eq_true_eq, decide_eq_true_eq]
          rintro ⟨rfl, h2⟩
          exact hr h2
  rw [fm_congr key]
  split
  · rfl
  · induction l with
    | nil => rfl
    | cons x l ih => rw [List.flatMap_cons, List.nil_append]; exact ih h.tail fun p hp => key p (List.mem_cons_of_mem _ hp)
/-- All batches, one behind the other. -/
def join (B : List Bat) : List IV := B.flatMap (·.2)
theorem bat_rev {l : List KH} {f : ByteArray → Bool} {r : Int} {x : IV} (hx : x ∈ batL l f r) : kR x = r := by
  unfold batL at hx
  obtain ⟨p, _, h2⟩ := List.mem_flatMap.1 hx
  obtain ⟨v, hv, rfl⟩ := List.mem_map.1 h2
  have := (List.mem_filter.1 hv).2
  rw [Bool.and_eq_true, decide_eq_true_eq] at this
  exact this.1
/-- Each batch is of its revision, and not empty; they rise. -/
structure Bats (B : List Bat) : Prop where
  up : B.Pairwise fun x y => x.1 < y.1
  rev : ∀ y ∈ B, ∀ x ∈ y.2, kR x = y.1
  ne : ∀ y ∈ B, y.2 ≠ []
theorem all_bats {l : List KH} (f : ByteArray → Bool) (a b : Int) : Bats (allI l f a b) := by
  refine ⟨?_, fun y hy x hx => ?_, fun y hy => ?_⟩
  · unfold allI
    refine List.Pairwise.filterMap (batO l f a b) ?_ (revs_sorted l)
    intro r r' hr y hy z hz
    unfold batO at hy hz
    split at hy
    · cases hy
    · split at hz
      · cases hz
      · cases hy; cases hz; exact hr
  all_goals
    unfold allI at hy
    obtain ⟨r, _, e⟩ := List.mem_filterMap.1 hy
    unfold batO at e
    split at e
    · cases e
    · rename_i hn
      injection e with e
      subst e
      first
        | exact bat_rev hx
        | exact fun h => hn (.inl h)
theorem join_up {B : List Bat} (h : Bats B) : Sor.Up kR (join B) := by
  unfold Sor.Up join
  obtain ⟨h1, h2, h3⟩ := h
  clear h3
  induction B with
  | nil => exact List.Pairwise.nil
  | cons y B ih =>
    obtain ⟨g1, g2⟩ := List.pairwise_cons.1 h1
    rw [List.flatMap_cons]
    refine List.pairwise_append.2 ⟨List.pairwise_iff_getElem.2 fun i j hi hj _ => ?_, ih g2 fun z hz => h2 z (List.mem_cons_of_mem _ hz), fun x hx z hz => ?_⟩
    · rw [h2 y (List.mem_cons_self ..) _ (List.getElem_mem hi), h2 y (List.mem_cons_self ..) _ (List.getElem_mem hj)]
      exact Int.le_refl _
    · obtain ⟨u, hu, hz⟩ := List.mem_flatMap.1 hz
      rw [h2 y (List.mem_cons_self ..) _ hx, h2 u (List.mem_cons_of_mem _ hu) _ hz]
      exact Int.le_of_lt (g1 u hu)
theorem join_at {l : List KH} (f : ByteArray → Bool) (a b r : Int) : (join (allI l f a b)).filter (fun x => decide (kR x = r)) = if a ≤ r ∧ r ≤ b then batL l f r else [] := by
  have e : join (allI l f a b) = (revsI l).flatMap fun q => if a ≤ q ∧ q ≤ b then batL l f q else [] := by
    unfold join allI
    induction revsI l with
    | nil => rfl
    | cons q R ih =>
      rw [List.filterMap_cons, List.flatMap_cons]
      unfold batO at ih ⊢
      by_cases hq : batL l f q = [] ∨ q < a ∨ b < q
      · rw [if_pos hq]
        dsimp only
        rw [ih]
        rcases hq with hq | hq
        · rw [hq]; split <;> rfl
        · rw [if_neg (by omega)]; rfl
      · rw [if_neg hq]
        dsimp only
        rw [List.flatMap_cons, ih, if_pos (by omega)]
  rw [e, filter_fm]
  have key : ∀ q ∈ revsI l, (if a ≤ q ∧ q ≤ b then batL l f q else []).filter (fun x => decide (kR x = r)) = if q = r ∧ a ≤ r ∧ r ≤ b then batL l f r else [] := by
    intro q _
    by_cases hq : a ≤ q ∧ q ≤ b
    · rw [if_pos hq]
      by_cases e2 : q = r
      · subst e2
        rw [if_pos ⟨rfl, hq⟩]
        exact List.filter_eq_self.2 fun x hx => decide_eq_true (bat_rev hx)
      · rw [if_neg fun h => e2 h.1]
        exact List.filter_eq_nil_iff.2 fun x hx => by rw [bat_rev hx, decide_eq_true_eq]; exact e2
    · rw [if_neg hq, if_neg fun h => hq (by rw [h.1]; exact h.2)]
      rfl
  rw [fm_congr key]
  by_cases hr : a ≤ r ∧ r ≤ b
  · rw [if_pos hr]
    by_cases hm : r ∈ revsI l
    · have hs := revs_sorted l
      clear key e
      generalize revsI l = R at hm hs ⊢
      induction R with
      | nil => cases hm
      | cons q R ih =>
        obtain ⟨g1, g2⟩ := List.pairwise_cons.1 hs
        rw [List.flatMap_cons]
        have none : ∀ R' : List Int, (∀ q ∈ R', q ≠ r) → (R'.flatMap fun q => if q = r ∧ a ≤ r ∧ r ≤ b then batL l f r else []) = [] := by
          intro R' h
          refine List.flatMap_eq_nil_iff.2 fun q hq => if_neg fun h2 => h q hq h2.1
        rcases List.mem_cons.1 hm with rfl | hm
        · rw [if_pos ⟨rfl, hr⟩, none R fun q hq e => by have := g1 q hq; omega, List.append_nil]
        · rw [if_neg (fun h => by have := g1 r hm; omega), ih hm g2]
          rfl
    · have hb : batL l f r = [] := by
        unfold batL
        refine List.flatMap_eq_nil_iff.2 fun p hp => ?_
        rw [List.filter_eq_nil_iff.2 fun v hv => ?_]
        · rfl
        · rw [Bool.and_eq_true, decide_eq_true_eq]
          exact fun h => hm ((revs_mem l r).2 ⟨p, hp, v, hv, h.1⟩)
      rw [hb]
      exact List.flatMap_eq_nil_iff.2 fun q _ => by split <;> rfl
  · rw [if_neg hr]
    exact List.flatMap_eq_nil_iff.2 fun q _ => if_neg fun h => hr h.2
/-- What is sorted is all batches, one behind the other. -/
theorem sorted_is {l : List KH} (h : Wf l) (f : ByteArray → Bool) (a b : Int) {t : List IV} (hu : Sor.Up kR t) (hs : Sor.St kR (flatS (l.filter fun p => f p.1) a b) t) : t = join (allI l f a b) :=
  Sor.St.unique hu (join_up (all_bats f a b)) fun r => by
    rw [← hs r, flatS_at h, join_at]
/-- How many stand together. -/
structure Tog (ls : List IV) (n : Nat) : Prop where
  le : n ≤ ls.length
  eq : ∀ j (hj : j < ls.length), j < n → kR ls[j] = kR (ls[0]'(by omega))
  ne : ∀ hn : n < ls.length, kR ls[n] ≠ kR (ls[0]'(by omega))
theorem Tog.is {y : Bat} {B : List Bat} {n : Nat} (hB : Bats (y :: B)) (h : Tog (join (y :: B)) n) : n = y.2.length := by
  obtain ⟨h1, h2, h3⟩ := hB
  have e : join (y :: B) = y.2 ++ join B := List.flatMap_cons ..
  have hy : 0 < y.2.length := List.length_pos_iff.2 (h3 y (List.mem_cons_self ..))
  have hl : (join (y :: B)).length = y.2.length + (join B).length := by rw [e, List.length_append]
  have k0 : kR ((join (y :: B))[0]'(by omega)) = y.1 := by
    have : (join (y :: B))[0]'(by omega) ∈ y.2 := by
      simp only [e]
      rw [List.getElem_append_left hy]
      exact List.getElem_mem _
    exact h2 y (List.mem_cons_self ..) _ this
  rcases Nat.lt_trichotomy n y.2.length with c | c | c
  · exfalso
    refine h.ne (by omega) ?_
    rw [k0]
    have : (join (y :: B))[n]'(by omega) ∈ y.2 := by
      simp only [e]
      rw [List.getElem_append_left c]
      exact List.getElem_mem _
    exact h2 y (List.mem_cons_self ..) _ this
  · exact c
  · exfalso
    have hlt : y.2.length < (join (y :: B)).length := Nat.lt_of_lt_of_le c h.le
    have h5 := h.eq y.2.length hlt c
    rw [k0] at h5
    have : (join (y :: B))[y.2.length]'hlt ∈ join B := by
      simp only [e]
      rw [List.getElem_append_right (Nat.le_refl _)]
      exact List.getElem_mem _
    obtain ⟨z, hz, hz2⟩ := List.mem_flatMap.1 this
    rw [h2 z (List.mem_cons_of_mem _ hz) _ hz2] at h5
    have := (List.pairwise_cons.1 h1).1 z hz
    omega
end Idx

set_option maxRecDepth 100000 in
set_option maxHeartbeats 3200000 in
theorem together_any (g off n cap : Nat) (ls : List KV) (w : World) (h : RowW w g off n cap ls) (hn : n ≤ 900000) (h0 : 0 < n) :
    Calls Try.prog 65 #[.slice (some ⟨g, off, none⟩) n cap] w fun e w' => ∃ m : Nat, e = .returned (.int .i64 (m : Int)) ∧ Idx.Tog ls m ∧ Below w.heap.size w w' := by
  have HR := Lib.hid h
  have hl := h.len
  have HLn := Lib.hid hl
  clear h
  have z0 : (0 : Int) < (n : Int) := by omega
  go_enter Try.func65, Try.ntmps65
  go_wp2_with fail
  go_loopw [3] (fun v3 wr => ∃ k : Nat, v3 = .int .i64 (k : Int) ∧ k ≤ n ∧ (∀ j (hj : j < ls.length), j < k → kR ls[j] = kR (ls[0]'(by omega))) ∧ Below w.heap.size w wr) (fun v3 _ => n - (intOf v3).toNat)
  case atStart => exact ⟨0, rfl, Nat.zero_le _, fun j _ hj => absurd hj (Nat.not_lt_zero _), Below.refl _ _⟩
  case round =>
    obtain ⟨k, rfl, hkn, heq, hb⟩ := hrel
    have HE := Lib.hid heq
    have HB := Lib.hid hb
    clear heq hb
    by_cases hlt : k < n
    · have l1 : decide ((k : Int) < (n : Int)) = true := decide_eq_true (by omega)
      have z1 : (k : Int) < (n : Int) := by omega
      obtain ⟨x, hx⟩ : ∃ x, ls[k]'(by rw [HLn.out]; exact hlt) = x := ⟨_, rfl⟩
      obtain ⟨y, hy⟩ : ∃ y, ls[0]'(by rw [HLn.out]; exact h0) = y := ⟨_, rfl⟩
      have hc : ∀ W, Below wr.heap.size wr W → W.cell? ⟨g, off + k * 8 + 1, none⟩ = some (.int .i64 x.2.r) ∧ W.cell? ⟨g, off + 1, none⟩ = some (.int .i64 y.2.r) := fun W hW => by
        have hR := (HR.out.below HB.out).below hW
        have c1 := hR.cell k hlt 1 (.int .i64 x.2.r) (by rw [hx]; rfl)
        have c2 := hR.cell 0 h0 1 (.int .i64 y.2.r) (by rw [hy]; rfl)
        rw [Addr.add_lit] at c1 c2
        exact ⟨c1, by simpa using c2⟩
      have HC := Lib.hid hc
      have HXY := Lib.hid (And.intro hx hy)
      clear hc hx hy
      go_upto_region 2 with fail
      refine wp_region_held_drew (S := fun w' => w'.cell? ⟨g, off + k * 8 + 1, none⟩ = some (.int .i64 x.2.r) ∧ w'.cell? ⟨g, off + 1, none⟩ = some (.int .i64 y.2.r)) (by kernel_rfl) (HC.out _ (Below.refl _ _).drew) (fun hHeld => ?_)
      refine lsq 18 ?_
      by_cases he : x.2.r = y.2.r
      · have e1 : (x.2.r == y.2.r) = true := beq_iff_eq.2 he
        have e2 : decide (x.2.r = y.2.r) = true := decide_eq_true he
        have HH := Lib.hid he
        clear he
        refine tkq 0 ?_
        refine tkq 1 ?_
        refine tkq 2 ?_
        refine tkq 3 ?_
        refine tkq 4 ?_
        refine tkq 5 ?_
        refine tkq 6 ?_
        refine tkq 7 ?_
        refine tkq 8 ?_
        refine tkq 9 ?_
        refine tkq 10 ?_
        refine tkq 11 ?_
        refine tkq 12 ?_
        refine tkq 13 ?_
        refine tkq 14 ?_
        refine tkq 15 ?_
        refine tkq 16 ?_
        refine tkq 17 ?_
        refine dnq ?_
        clear hHeld
        have HB2 := Lib.hid (show Below w.heap.size w wr.drew from HB.out.drew)
        have HE2 := Lib.hid (show ∀ j (hj : j < ls.length), j < k + 1 → kR ls[j] = kR (ls[0]'(by omega)) from fun j hj hjk => by
          by_cases ej : j = k
          · subst ej
            rw [HXY.out.1, HXY.out.2]
            exact HH.out
          · exact HE.out j hj (by omega))
        go_wp2
        go_roundw
        case rel => exact ⟨k + 1, by go_num, hlt, HE2.out, HB2.out⟩
        case measure =>
          simp [intOf]
          omega
      · have e1 : (x.2.r == y.2.r) = false := beq_eq_false_iff_ne.2 he
        have e2 : decide (x.2.r = y.2.r) = false := decide_eq_false he
        have HH := Lib.hid he
        clear he
        refine tkq 0 ?_
        refine tkq 1 ?_
        refine tkq 2 ?_
        refine tkq 3 ?_
        refine tkq 4 ?_
        refine tkq 5 ?_
        refine tkq 6 ?_
        refine tkq 7 ?_
        refine tkq 8 ?_
        refine tkq 9 ?_
        refine tkq 10 ?_
        refine tkq 11 ?_
        refine tkq 12 ?_
        refine tkq 13 ?_
        refine tkq 14 ?_
        refine tkq 15 ?_
        refine tkq 16 ?_
        refine tkq 17 ?_
        refine dnq ?_
        clear hHeld
        have HB2 := Lib.hid (show Below w.heap.size w wr.drew from HB.out.drew)
        go_wp2
        go_ret
        exact ⟨k, rfl, ⟨by rw [HLn.out]; exact hkn, HE.out, fun hn => by rw [HXY.out.1, HXY.out.2]; exact HH.out⟩, HB2.out⟩
    · obtain rfl : k = n := by omega
      have l1 : decide ((k : Int) < (k : Int)) = false := decide_eq_false (by omega)
      go_upto_region 2 with fail
      refine wp_region_held_drew (S := fun _ => True) (by kernel_rfl) trivial (fun hHeld => ?_)
      refine lsq 18 ?_
      refine tkq 0 ?_
      refine tkq 1 ?_
      refine tkq 2 ?_
      refine tkq 3 ?_
      refine tkq 4 ?_
      refine tuq 5 ?_
      refine tuq 6 ?_
      refine tuq 7 ?_
      refine tuq 8 ?_
      refine tuq 9 ?_
      refine tuq 10 ?_
      refine tuq 11 ?_
      refine tuq 12 ?_
      refine tuq 13 ?_
      refine tuq 14 ?_
      refine tuq 15 ?_
      refine tuq 16 ?_
      refine tkq 17 ?_
      refine dnq ?_
      clear hHeld
      have HB2 := Lib.hid (show Below w.heap.size w wr.drew from HB.out.drew)
      go_wp2
      go_ret
      exact ⟨k, rfl, ⟨by rw [HLn.out]; exact Nat.le_refl _, HE.out, fun hn => absurd hn (by rw [HLn.out]; exact Nat.lt_irrefl _)⟩, HB2.out⟩

end Go.Proofs.Ytcoddkbbgmjckaa
