/- Batches told in parts; what batches make of items; pages. Plain mathematics. -/
import Derived.Test.YtcoddkbbgmjckaaBn14
namespace Go.Proofs.Ytcoddkbbgmjckaa
set_option linter.unusedVariables false

namespace Idx
open His

/- how many versions there are -/
def tot (l : List KH) : Nat := (l.map fun p => p.2.length).sum

theorem sum_add {α : Type} (R : List α) (f g : α → Nat) : (R.map fun r => f r + g r).sum = (R.map f).sum + (R.map g).sum := by
  induction R with
  | nil => rfl
  | cons r R ih => simp only [List.map_cons, List.sum_cons, ih]; omega

theorem sum_zero {α : Type} (R : List α) (f : α → Nat) (h : ∀ r ∈ R, f r = 0) : (R.map f).sum = 0 := by
  induction R with
  | nil => rfl
  | cons r R ih => rw [List.map_cons, List.sum_cons, h r (List.mem_cons_self ..), ih fun x hx => h x (List.mem_cons_of_mem _ hx)]

theorem sum_one (R : List Int) (hR : R.Pairwise (· < ·)) (x : Int) (b : Bool) : (R.map fun r => if (decide (x = r) && b) = true then 1 else 0).sum ≤ 1 := by
  induction R with
  | nil => exact Nat.zero_le _
  | cons r R ih =>
    obtain ⟨h1, h2⟩ := List.pairwise_cons.1 hR
    rw [List.map_cons, List.sum_cons]
    by_cases hx : x = r
    · subst hx
      rw [sum_zero R _ fun y hy => by
        have := h1 y hy
        rw [if_neg]
        rw [Bool.and_eq_true, decide_eq_true_eq]
        omega]
      split <;> omega
    · rw [if_neg (by rw [Bool.and_eq_true, decide_eq_true_eq]; exact fun h => hx h.1)]
      have := ih h2
      omega

theorem sum_ver (R : List Int) (hR : R.Pairwise (· < ·)) (b : Bool) : ∀ t : List Ver, (R.map fun r => (t.filter fun v => decide (v.r = r) && b).length).sum ≤ t.length
  | [] => Nat.le_trans (Nat.le_of_eq (sum_zero R _ fun r _ => rfl)) (Nat.zero_le _)
  | v :: t => by
    have e : (R.map fun r => ((v :: t).filter fun v => decide (v.r = r) && b).length) = R.map fun r => (if (decide (v.r = r) && b) = true then 1 else 0) + (t.filter fun v => decide (v.r = r) && b).length := by
      refine List.map_congr_left fun r _ => ?_
      rw [List.filter_cons]
      split
      · rw [List.length_cons]; omega
      · omega
    rw [e, sum_add, List.length_cons]
    have h1 := sum_one R hR v.r b
    have h2 := sum_ver R hR b t
    omega

theorem sum_bat (R : List Int) (hR : R.Pairwise (· < ·)) (f : ByteArray → Bool) : ∀ l : List KH, (R.map fun r => (batL l f r).length).sum ≤ tot l
  | [] => Nat.le_trans (Nat.le_of_eq (sum_zero R _ fun r _ => rfl)) (Nat.zero_le _)
  | p :: l => by
    have e : (R.map fun r => (batL (p :: l) f r).length) = R.map fun r => (p.2.filter fun v => decide (v.r = r) && f p.1).length + (batL l f r).length := by
      refine List.map_congr_left fun r _ => ?_
      unfold batL
      rw [List.flatMap_cons, List.length_append, List.length_map]
    rw [e, sum_add]
    have h1 := sum_ver R hR (f p.1) p.2
    have h2 := sum_bat R hR f l
    show _ ≤ (List.map (fun p => p.2.length) (p :: l)).sum
    rw [List.map_cons, List.sum_cons]
    unfold tot at h2
    omega

def lens (A : List Bat) : Nat := (A.map fun b => b.2.length).sum

theorem all_lens (l : List KH) (f : ByteArray → Bool) (a b : Int) : lens (allI l f a b) ≤ tot l := by
  refine Nat.le_trans ?_ (sum_bat (revsI l) (revs_sorted l) f l)
  unfold lens allI
  induction revsI l with
  | nil => exact Nat.le_refl _
  | cons r R ih =>
    rw [List.filterMap_cons, List.map_cons, List.sum_cons]
    unfold batO at ih ⊢
    split
    · rename_i h
      have := ih
      omega
    · rename_i y h
      split at h
      · cases h
      · injection h with h
        subst h
        rw [List.map_cons, List.sum_cons]
        have := ih
        dsimp only
        omega

theorem cut_all (most : Int) : ∀ (A : List Bat) (n : Int) (f : Bool), n + (lens A : Int) ≤ most → cutI most n f A = A
  | [], _, _, _ => rfl
  | b :: A, n, f, h => by
    have e : lens (b :: A) = b.2.length + lens A := by unfold lens; rw [List.map_cons, List.sum_cons]
    rw [e] at h
    unfold cutI
    rw [if_neg (by omega), cut_all most A _ false (by omega)]

theorem cut_take (most : Int) : ∀ (A : List Bat) (n : Int) (f : Bool), ∃ k, k ≤ A.length ∧ cutI most n f A = A.take k ∧ (f = true → A ≠ [] → 1 ≤ k)
  | [], _, _ => ⟨0, Nat.le_refl _, rfl, fun _ h => absurd rfl h⟩
  | b :: A, n, f => by
    unfold cutI
    split
    · rename_i h
      exact ⟨0, Nat.zero_le _, rfl, fun e => by rw [h.2] at e; cases e⟩
    · obtain ⟨k, h1, h2, _⟩ := cut_take most A (n + (b.2.length : Int)) false
      exact ⟨k + 1, Nat.succ_le_succ h1, by rw [h2]; rfl, fun _ _ => Nat.succ_le_succ (Nat.zero_le _)⟩

/-- From a batch on, the rest. -/
theorem all_from {l : List KH} (h : Wf l) (f : ByteArray → Bool) (a b : Int) (k : Nat) (hk : k < (allI l f a b).length) : allI l f ((allI l f a b)[k].1 + 1) b = (allI l f a b).drop (k + 1) := by
  have hs := all_sorted l f a b
  have hp := List.pairwise_iff_getElem.1 hs
  refine same_sorted RLt (fun a h => Int.lt_irrefl _ h) (fun h k => Int.lt_trans h k) (all_sorted ..) (hs.sublist (List.drop_sublist ..)) fun ⟨r, L⟩ => ?_
  have hm : (allI l f a b)[k] ∈ allI l f a b := List.getElem_mem hk
  have ha : a ≤ (allI l f a b)[k].1 := ((all_mem h f a b _ _).1 hm).1
  rw [all_mem h]
  constructor
  · rintro ⟨h1, h2, h3, h4⟩
    have hx : (r, L) ∈ allI l f a b := (all_mem h f a b r L).2 ⟨by omega, h2, h3, h4⟩
    obtain ⟨j, hj, e⟩ := List.getElem_of_mem hx
    have hjk : k < j := by
      rcases Nat.lt_trichotomy j k with q | q | q
      · have := hp j k hj hk q
        rw [e] at this
        have : r < (allI l f a b)[k].1 := this
        omega
      · subst q
        rw [e] at h1
        have : r + 1 ≤ r := h1
        omega
      · exact q
    rw [← e]
    have e2 : (allI l f a b)[j] = ((allI l f a b).drop (k + 1))[j - (k + 1)]'(by rw [List.length_drop]; omega) := by
      rw [List.getElem_drop]
      congr 1
      omega
    rw [e2]
    exact List.getElem_mem _
  · intro hx
    obtain ⟨j, hj, e⟩ := List.getElem_of_mem hx
    rw [List.getElem_drop] at e
    rw [List.length_drop] at hj
    have h1 := hp k (k + 1 + j) hk (by omega) (by omega)
    rw [e] at h1
    have h1 : (allI l f a b)[k].1 < r := h1
    have h2 := (all_mem h f a b r L).1 (List.mem_of_mem_drop hx)
    exact ⟨by omega, h2.2.1, h2.2.2.1, h2.2.2.2⟩

/-- What is told of changes, and the rest, is all. -/
theorem tells {l : List KH} (h : Wf l) (ht : tot l ≤ 100000) (x e : ByteArray) (a b most : Int) :
    (changesI l x e a b most = [] → changesI l x e a b 100000 = []) ∧ (∀ R L, (changesI l x e a b most).getLast? = some (R, L) → changesI l x e a b most ++ changesI l x e (R + 1) b 100000 = changesI l x e a b 100000) := by
  have full : ∀ c, changesI l x e c b 100000 = allI l (inB x e) c b := fun c => by
    unfold changesI
    refine cut_all _ _ _ _ ?_
    have := all_lens l (inB x e) c b
    omega
  rw [full a]
  obtain ⟨k, h1, h2, h3⟩ := cut_take most (allI l (inB x e) a b) 0 true
  have hc : changesI l x e a b most = (allI l (inB x e) a b).take k := h2
  rw [hc]
  refine ⟨fun h0 => ?_, fun R L hR => ?_⟩
  · by_cases hA : allI l (inB x e) a b = []
    · exact hA
    · have := h3 rfl hA
      have h4 := congrArg List.length h0
      rw [List.length_take, List.length_nil] at h4
      have h5 := List.length_pos_iff.2 hA
      omega
  · rw [full]
    cases k with
    | zero => rw [List.take_zero] at hR; cases hR
    | succ k =>
      rw [List.take_succ_eq_append_getElem (by omega), List.getLast?_concat] at hR
      injection hR with hR
      have := all_from h (inB x e) a b k (by omega)
      rw [hR] at this
      rw [this, List.take_append_drop]

/- what changes make of items -/
def stepN (now : List (ByteArray × Ver)) (y : ByteArray × Ver) : List (ByteArray × Ver) :=
  now.filter (fun p => ltS p.1 y.1) ++ ((if y.2.g = true then [] else [y]) ++ now.filter (fun p => ltS y.1 p.1))
def replay (now : List (ByteArray × Ver)) (B : List Bat) : List (ByteArray × Ver) := B.foldl (fun n b => b.2.foldl stepN n) now

/-- Sorted items that are just these. -/
structure Told (now : List (ByteArray × Ver)) (F : ByteArray → Option Ver) : Prop where
  up : now.Pairwise KLt
  mem : ∀ k v, (k, v) ∈ now ↔ F k = some v

theorem Told.step {now : List (ByteArray × Ver)} {F : ByteArray → Option Ver} (h : Told now F) (y : ByteArray × Ver) (G : ByteArray → Option Ver) (h1 : G y.1 = if y.2.g = true then none else some y.2) (h2 : ∀ k, k ≠ y.1 → G k = F k) : Told (stepN now y) G := by
  constructor
  · unfold stepN
    refine List.pairwise_append.2 ⟨h.up.sublist List.filter_sublist, List.pairwise_append.2 ⟨?_, h.up.sublist List.filter_sublist, ?_⟩, ?_⟩
    · split <;> simp
    · intro a ha b hb
      split at ha
      · cases ha
      · rw [List.mem_singleton] at ha
        subst ha
        exact (List.mem_filter.1 hb).2
    · intro a ha b hb
      have l1 := (List.mem_filter.1 ha).2
      rcases List.mem_append.1 hb with hb | hb
      · split at hb
        · cases hb
        · rw [List.mem_singleton] at hb
          subst hb
          exact l1
      · exact ltS_trans l1 (List.mem_filter.1 hb).2
  · intro k v
    unfold stepN
    rw [List.mem_append, List.mem_append, List.mem_filter, List.mem_filter]
    by_cases hk : k = y.1
    · subst hk
      rw [h1]
      by_cases hg : y.2.g = true
      · rw [if_pos hg, if_pos hg]
        constructor
        · rintro (q | q | q)
          · exact absurd q.2 (by dsimp only; rw [ltS_irr]; simp)
          · cases q
          · exact absurd q.2 (by dsimp only; rw [ltS_irr]; simp)
        · intro q
          cases q
      · rw [if_neg hg, if_neg hg]
        constructor
        · rintro (q | q | q)
          · exact absurd q.2 (by dsimp only; rw [ltS_irr]; simp)
          · rw [List.mem_singleton] at q
            rw [← q]
          · exact absurd q.2 (by dsimp only; rw [ltS_irr]; simp)
        · intro q
          injection q with q
          subst q
          exact .inr (.inl (List.mem_singleton.2 rfl))
    · rw [h2 k hk, ← h.mem]
      constructor
      · rintro (q | q | q)
        · exact q.1
        · split at q
          · cases q
          · rw [List.mem_singleton] at q
            exact absurd (congrArg Prod.fst q) hk
        · exact q.1
      · intro q
        cases a1 : ltS k y.1 with
        | true => exact .inl ⟨q, rfl⟩
        | false =>
          cases a2 : ltS y.1 k with
          | true => exact .inr (.inr ⟨q, rfl⟩)
          | false => exact absurd (ltS_con a1 a2) hk

theorem Told.batch : ∀ (L now : List (ByteArray × Ver)) (F G : ByteArray → Option Ver), Told now F → L.Pairwise KLt → (∀ y ∈ L, G y.1 = if y.2.g = true then none else some y.2) → (∀ k, (∀ y ∈ L, y.1 ≠ k) → G k = F k) → Told (L.foldl stepN now) G
  | [], now, F, G, h, _, _, h2 => by
    have e : G = F := funext fun k => h2 k fun y hy => by cases hy
    rw [e]
    exact h
  | y :: L, now, F, G, h, hp, h1, h2 => by
    obtain ⟨p1, p2⟩ := List.pairwise_cons.1 hp
    refine Told.batch L (stepN now y) (fun k => if k = y.1 then (if y.2.g = true then none else some y.2) else F k) G (h.step y _ (if_pos rfl) fun k hk => if_neg hk) p2 (fun z hz => h1 z (List.mem_cons_of_mem _ hz)) fun k hk => ?_
    by_cases e : k = y.1
    · subst e
      rw [if_pos rfl]
      exact h1 y (List.mem_cons_self ..)
    · rw [if_neg e]
      refine h2 k fun z hz => ?_
      rcases List.mem_cons.1 hz with rfl | hz
      · exact fun q => e q.symm
      · exact hk z hz

theorem at_hit {h : List Ver} (hR : Right h) {v : Ver} (hv : v ∈ h) : atL h v.r = if v.g = true then none else some v := by
  obtain ⟨k, hk, rfl⟩ := List.getElem_of_mem hv
  rw [at_is hR, last_found hR hk (Int.le_refl _) fun j hj hkj => (List.pairwise_iff_getElem.1 hR.up k j hk hj hkj).1]
  rfl

theorem at_still {h : List Ver} (hR : Right h) {s t : Int} (hst : s ≤ t) (hn : ∀ v ∈ h, v.r ≤ s ∨ t < v.r) : atL h t = atL h s := by
  rw [at_is hR, at_is hR]
  unfold lastL
  congr 2
  refine List.filter_congr fun v hv => ?_
  rcases hn v hv with q | q
  · simp [q]; omega
  · have : ¬ v.r ≤ t := by omega
    have : ¬ v.r ≤ s := by omega
    simp [*]

theorem replays_from {l : List KH} (h : Wf l) (f : ByteArray → Bool) (a b : Int) : ∀ (A' A0 : List Bat) (s : Int) (now : List (ByteArray × Ver)), allI l f a b = A0 ++ A' → a - 1 ≤ s → s ≤ b → (∀ y ∈ A0, y.1 ≤ s) → (∀ y ∈ A', s < y.1) →
    Told now (fun k => if f k = true then atL (getL l k) s else none) → Told (replay now A') (fun k => if f k = true then atL (getL l k) b else none)
  | [], A0, s, now, e, hs, hb, h0, _, ht => by
    have e2 : (fun k => if f k = true then atL (getL l k) b else none) = fun k => if f k = true then atL (getL l k) s else none := funext fun k => by
      by_cases hf : f k = true
      · rw [if_pos hf, if_pos hf]
        refine at_still (h.get k) hb fun v hv => ?_
        rcases Int.lt_or_le s v.r with q | q
        · refine .inr (Int.lt_of_not_ge fun hvb => ?_)
          have hm : (v.r, batL l f v.r) ∈ allI l f a b := (all_mem h f a b _ _).2 ⟨by omega, hvb, rfl, List.ne_nil_of_mem ((bat_mem h f v.r k v).2 ⟨hf, hv, rfl⟩)⟩
          rw [e, List.append_nil] at hm
          have := h0 _ hm
          have : v.r ≤ s := this
          omega
        · exact .inl q
      · rw [if_neg hf, if_neg hf]
    rw [e2]
    exact ht
  | (r, L) :: A', A0, s, now, e, hs, hb, h0, h1, ht => by
    have hsr : s < r := h1 _ (List.mem_cons_self ..)
    have hm : (r, L) ∈ allI l f a b := by rw [e]; simp
    obtain ⟨m1, m2, rfl, m4⟩ := (all_mem h f a b r L).1 hm
    have hsort := all_sorted l f a b
    rw [e] at hsort
    have hs2 := (List.pairwise_cons.1 (List.pairwise_append.1 hsort).2.1).1
    refine replays_from h f a b A' (A0 ++ [(r, batL l f r)]) r _ (by rw [e]; simp) (by omega) m2 (fun y hy => ?_) (fun y hy => hs2 y hy) ?_
    · rcases List.mem_append.1 hy with hy | hy
      · have := h0 y hy
        omega
      · rw [List.mem_singleton] at hy
        subst hy
        exact Int.le_refl _
    · refine Told.batch _ _ _ _ ht (bat_sorted h f r) (fun y hy => ?_) fun k hk => ?_
      · obtain ⟨q1, q2, q3⟩ := (bat_mem h f r y.1 y.2).1 hy
        rw [if_pos q1, ← at_hit (h.get y.1) q2, q3]
      · by_cases hf : f k = true
        · rw [if_pos hf, if_pos hf]
          refine at_still (h.get k) (by omega) fun v hv => ?_
          rcases Int.lt_or_le s v.r with q | q
          · refine .inr (Int.lt_of_not_ge fun hvr => ?_)
            have hm : (v.r, batL l f v.r) ∈ allI l f a b := (all_mem h f a b _ _).2 ⟨by omega, by omega, rfl, List.ne_nil_of_mem ((bat_mem h f v.r k v).2 ⟨hf, hv, rfl⟩)⟩
            rw [e] at hm
            rcases List.mem_append.1 hm with hm | hm
            · have := h0 _ hm
              have : v.r ≤ s := this
              omega
            · rcases List.mem_cons.1 hm with hm | hm
              · injection hm with hm _
                exact hk (k, v) ((bat_mem h f r k v).2 ⟨hf, hv, hm⟩) rfl
              · have := hs2 _ hm
                have : r < v.r := this
                omega
          · exact .inl q
        · rw [if_neg hf, if_neg hf]

theorem items_told {l : List KH} (h : Wf l) (r : Int) (f : ByteArray → Bool) : Told (itemsI l r f) fun k => if f k = true then atL (getL l k) r else none :=
  ⟨items_sorted h r f, fun k v => by
    rw [items_mem h]
    by_cases hf : f k = true
    · rw [if_pos hf]
      exact ⟨fun q => q.2, fun q => ⟨hf, q⟩⟩
    · rw [if_neg hf]
      exact ⟨fun q => absurd q.1 hf, fun q => by cases q⟩⟩

theorem told_same {a b : List (ByteArray × Ver)} {F : ByteArray → Option Ver} (ha : Told a F) (hb : Told b F) : a = b := same_keys ha.up hb.up fun ⟨k, v⟩ => by rw [ha.mem, hb.mem]

/-- What changes from a revision on make of what was ahead of it is what is. -/
theorem replays {l : List KH} (h : Wf l) (f : ByteArray → Bool) (a b : Int) (hab : a - 1 ≤ b) : replay (itemsI l (a - 1) f) (allI l f a b) = itemsI l b f :=
  told_same (replays_from h f a b (allI l f a b) [] (a - 1) _ rfl (Int.le_refl _) hab (fun y hy => by cases hy) (fun ⟨r, L⟩ hy => by
    have := ((all_mem h f a b r L).1 hy).1
    show a - 1 < r
    omega) (items_told h _ f)) (items_told h b f)

/- pages -/
theorem beh_iff (pre after k : ByteArray) : behB pre after k = true ↔ begins k pre = true ∧ ltS after k = true := by unfold behB; rw [Bool.and_eq_true]

theorem items_behind {l : List KH} (h : Wf l) (r : Int) (pre after : ByteArray) (m : Nat) (hm : m < (itemsI l r (behB pre after)).length) :
    itemsI l r (behB pre ((itemsI l r (behB pre after))[m]).1) = (itemsI l r (behB pre after)).drop (m + 1) := by
  have hs := items_sorted h r (behB pre after)
  have hp := List.pairwise_iff_getElem.1 hs
  have ha := (items_mem h r _ _ _).1 (List.getElem_mem hm)
  have ha1 := (beh_iff pre after _).1 ha.1
  refine same_keys (items_sorted h r _) (hs.sublist (List.drop_sublist ..)) fun ⟨k, v⟩ => ?_
  rw [items_mem h]
  constructor
  · rintro ⟨h1, h2⟩
    have h1 := (beh_iff _ _ _).1 h1
    have hx : (k, v) ∈ itemsI l r (behB pre after) := (items_mem h r _ k v).2 ⟨(beh_iff _ _ _).2 ⟨h1.1, ltS_trans ha1.2 h1.2⟩, h2⟩
    obtain ⟨j, hj, e⟩ := List.getElem_of_mem hx
    have hjm : m < j := by
      rcases Nat.lt_trichotomy j m with q | q | q
      · have := hp j m hj hm q
        rw [e] at this
        exact absurd (ltS_trans this h1.2) (by dsimp only; rw [ltS_irr]; simp)
      · subst q
        rw [e] at h1
        exact absurd h1.2 (by dsimp only; rw [ltS_irr]; simp)
      · exact q
    rw [← e]
    have e2 : (itemsI l r (behB pre after))[j] = ((itemsI l r (behB pre after)).drop (m + 1))[j - (m + 1)]'(by rw [List.length_drop]; omega) := by
      rw [List.getElem_drop]
      congr 1
      omega
    rw [e2]
    exact List.getElem_mem _
  · intro hx
    obtain ⟨j, hj, e⟩ := List.getElem_of_mem hx
    rw [List.getElem_drop] at e
    rw [List.length_drop] at hj
    have h1 := hp m (m + 1 + j) hm (by omega) (by omega)
    rw [e] at h1
    have h2 := (items_mem h r _ k v).1 (List.mem_of_mem_drop hx)
    refine ⟨?_, h2.2⟩
    exact (beh_iff _ _ _).2 ⟨((beh_iff _ _ _).1 h2.1).1, h1⟩

end Idx
end Go.Proofs.Ytcoddkbbgmjckaa
