/- What becomes of keys: acts on an index. Plain mathematics. -/
import Derived.Test.YtcoddkbbgmjckaaBn15
import Derived.Test.YtcoddkbbgmjckaaBn09
import Derived.Test.YtcoddkbbgmjckaaBn13
import Derived.Test.YtcoddkbbgmjckaaBn14
import Derived.WalkKit
import Derived.ProofKit
import Derived.OpenShut
import Derived.Deep.Slices
import Derived.ChangeArms
import Derived.Deep.Fields
namespace Go.Proofs.Ytcoddkbbgmjckaa
set_option linter.unusedVariables false

namespace Idx
open His

theorem put_right {h o : List Ver} {r m : Int} {s : ByteArray} {le : Int} (e : putL h r m s le = some o) : Right o ∧ o ≠ [] ∧ o.length = h.length + 1 ∧ ∃ x : Ver, o = h ++ [x] ∧ x.r = r := by
  unfold putL at e
  rw [Option.bind_eq_some_iff] at e
  obtain ⟨x, hx, e⟩ := e
  have hr := add_right e
  unfold addL at e
  split at e
  · injection e with e
    subst e
    refine ⟨hr, by simp, by simp, x, rfl, ?_⟩
    unfold putV at hx
    split at hx
    · split at hx
      · injection hx with hx; subst hx; rfl
      · split at hx
        · cases hx
        · injection hx with hx; subst hx; rfl
    · injection hx with hx; subst hx; rfl
  · cases e

theorem add_parts {h o : List Ver} {x : Ver} (e : addL h x = some o) : Right o ∧ o ≠ [] ∧ o.length = h.length + 1 ∧ o = h ++ [x] := by
  have hr := add_right e
  unfold addL at e
  split at e
  · injection e with e
    subst e
    exact ⟨hr, by simp, by simp, rfl⟩
  · cases e

theorem del_parts {h : List Ver} {r m : Int} (e : (delL h r m).2 = 0) : Right (delL h r m).1 ∧ (delL h r m).1 ≠ [] ∧ (delL h r m).1.length = h.length + 1 ∧ (delL h r m).1 = h ++ [goneV r m] := by
  unfold delL at e ⊢
  split
  · rename_i e1
    rw [e1] at e
    cases e
  · rename_i o e1
    rw [e1] at e
    dsimp only at e
    split
    · rename_i y e2
      rw [e2] at e
      dsimp only at e
      split
      · rename_i e3
        rw [if_pos e3] at e
        cases e
      · exact add_parts e1
    · rename_i e2
      rw [e2] at e
      cases e

/- sizes -/
theorem len_filters {k : ByteArray} : ∀ {l : List KH}, (l.Pairwise fun a b => ltS a.1 b.1 = true) → (l.filter fun p => ltS p.1 k).length + (l.filter fun p => ltS k p.1).length + (if getL l k = [] then 0 else 1) ≤ l.length
  | [], _ => by show 0 + 0 + (if ([] : List Ver) = [] then 0 else 1) ≤ 0; rw [if_pos rfl]; exact Nat.le_refl _
  | p :: l, h => by
    obtain ⟨h1, h2⟩ := List.pairwise_cons.1 h
    have ih := len_filters (k := k) h2
    rw [List.filter_cons, List.filter_cons, List.length_cons]
    unfold getL
    by_cases e : p.1 = k
    · subst e
      rw [if_pos rfl, if_neg (by rw [ltS_irr]; simp), if_neg (by rw [ltS_irr]; simp)]
      have : getL l p.1 = [] := get_none fun q hq e => ltS_ne' (h1 q hq) e.symm
      rw [if_pos this] at ih
      split <;> omega
    · rw [if_neg e]
      cases a1 : ltS p.1 k with
      | true =>
        rw [if_pos rfl, if_neg (by rw [ltS_asymm a1]; simp), List.length_cons]
        omega
      | false =>
        rw [if_neg (by simp)]
        split
        · rw [List.length_cons]; omega
        · omega

theorem set_len {l : List KH} (h : l.Pairwise fun a b => ltS a.1 b.1 = true) (k : ByteArray) (x : List Ver) : (setL l k x).length ≤ l.length + (if getL l k = [] then 1 else 0) := by
  have := len_filters (k := k) h
  unfold setL
  rw [List.length_append, List.length_append]
  by_cases e : getL l k = []
  · rw [if_pos e] at this ⊢
    split <;> simp <;> omega
  · rw [if_neg e] at this ⊢
    split <;> simp <;> omega

theorem tot_append (a b : List KH) : tot (a ++ b) = tot a + tot b := by unfold tot; rw [List.map_append, List.sum_append]
theorem tot_cons (p : KH) (l : List KH) : tot (p :: l) = p.2.length + tot l := by unfold tot; rw [List.map_cons, List.sum_cons]

theorem tot_filters {k : ByteArray} : ∀ {l : List KH}, (l.Pairwise fun a b => ltS a.1 b.1 = true) → tot (l.filter fun p => ltS p.1 k) + tot (l.filter fun p => ltS k p.1) + (getL l k).length = tot l
  | [], _ => rfl
  | p :: l, h => by
    obtain ⟨h1, h2⟩ := List.pairwise_cons.1 h
    have ih := tot_filters (k := k) h2
    rw [List.filter_cons, List.filter_cons, tot_cons]
    unfold getL
    by_cases e : p.1 = k
    · subst e
      rw [if_pos rfl, if_neg (by rw [ltS_irr]; simp), if_neg (by rw [ltS_irr]; simp)]
      have : getL l p.1 = [] := get_none fun q hq e => ltS_ne' (h1 q hq) e.symm
      rw [this] at ih
      simp only [List.length_nil] at ih
      omega
    · rw [if_neg e]
      cases a1 : ltS p.1 k with
      | true =>
        rw [if_pos rfl, if_neg (by rw [ltS_asymm a1]; simp), tot_cons]
        omega
      | false =>
        cases a2 : ltS k p.1 with
        | true =>
          rw [if_neg (by simp), if_pos rfl, tot_cons]
          omega
        | false => exact absurd (ltS_con a1 a2) e

theorem set_tot {l : List KH} (h : l.Pairwise fun a b => ltS a.1 b.1 = true) (k : ByteArray) (x : List Ver) : tot (setL l k x) + (getL l k).length = tot l + x.length := by
  have := tot_filters (k := k) h
  unfold setL
  rw [tot_append, tot_append]
  by_cases e : x = []
  · subst e
    rw [if_pos rfl]
    show _ + (0 + _) + _ = _ + 0
    omega
  · rw [if_neg e]
    show _ + (tot [(k, x)] + _) + _ = _
    rw [tot_cons]
    show _ + (x.length + 0 + _) + _ = _
    omega

theorem trim_len (h : List Ver) (f : Int) : (trimL h f).length ≤ h.length := by
  by_cases hr : rightL h = true
  · exact (trim_sub ((right_iff h).1 hr) f).length_le
  · unfold trimL
    rw [if_neg hr]
    exact Nat.zero_le _

theorem trim_sizes_from (f : Int) : ∀ (b : List KH) (o : List KH), Wf o → (∀ p ∈ b, getL o p.1 = p.2 ∧ p.2 ≠ [] ∧ Right p.2 ∧ keyB p.1 = true) → (b.Pairwise fun a b => ltS a.1 b.1 = true) →
    (b.foldl (fun o p => setL o p.1 (trimL p.2 f)) o).length ≤ o.length ∧ tot (b.foldl (fun o p => setL o p.1 (trimL p.2 f)) o) ≤ tot o
  | [], o, _, _, _ => ⟨Nat.le_refl _, Nat.le_refl _⟩
  | p :: b, o, ho, h, hp => by
    obtain ⟨h1, h2, h3, h4⟩ := h p (List.mem_cons_self ..)
    obtain ⟨p1, p2⟩ := List.pairwise_cons.1 hp
    have l1 := set_len ho.up p.1 (trimL p.2 f)
    have t1 := set_tot ho.up p.1 (trimL p.2 f)
    have := trim_len p.2 f
    rw [if_neg (by rw [h1]; exact h2)] at l1
    rw [h1] at t1
    obtain ⟨q1, q2⟩ := trim_sizes_from f b (setL o p.1 (trimL p.2 f)) (ho.set h4 (trim_right h3 f)) (fun q hq => by
      obtain ⟨k1, k2⟩ := h q (List.mem_cons_of_mem _ hq)
      refine ⟨?_, k2⟩
      rw [get_set ho.up, if_neg fun e => ltS_ne' (p1 q hq) e.symm]
      exact k1) p2
    exact ⟨Nat.le_trans q1 (by omega), Nat.le_trans q2 (by omega)⟩

theorem trim_sizes {l : List KH} (h : Wf l) (f : Int) : (trimI l f).length ≤ l.length ∧ tot (trimI l f) ≤ tot l :=
  trim_sizes_from f l l h (fun p hp => ⟨get_mem h.up hp, h.some p hp, h.right p hp, h.key p hp⟩) h.up

theorem sub_tot {a b : List KH} (h : a.Sublist b) : tot a ≤ tot b := by
  induction h with
  | slnil => exact Nat.le_refl _
  | cons x _ ih => rw [tot_cons]; omega
  | cons_cons x _ ih => rw [tot_cons, tot_cons]; omega

/- deleting -/
theorem delAll_keeps {r m : Int} : ∀ (ks : List ByteArray) (l o : List KH), Wf l → (∀ k ∈ ks, getL l k ≠ []) → delAll l ks r m = some o →
    Wf o ∧ o.length ≤ l.length ∧ tot o ≤ tot l + ks.length ∧ ∀ s f, s < r → itemsI o s f = itemsI l s f
  | [], l, o, h, _, e => by
    cases e
    exact ⟨h, Nat.le_refl _, Nat.le_refl _, fun _ _ _ => rfl⟩
  | k :: ks, l, o, h, hk, e => by
    unfold delAll at e
    split at e
    · rename_i hd
      obtain ⟨d1, d2, d3, d4⟩ := del_parts hd
      have hkk := hk k (List.mem_cons_self ..)
      have hkey : keyB k = true := h.key _ (mem_of_get hkk)
      have hw := h.set hkey d1
      obtain ⟨q1, q2, q3, q4⟩ := delAll_keeps ks _ o hw (fun j hj => by
        rw [get_set h.up]
        split
        · exact d2
        · exact hk j (List.mem_cons_of_mem _ hj)) e
      have l1 := set_len h.up k (delL (getL l k) r m).1
      have t1 := set_tot h.up k (delL (getL l k) r m).1
      rw [if_neg hkk] at l1
      refine ⟨q1, by omega, by rw [List.length_cons]; omega, fun s f hs => (q4 s f hs).trans (items_same hw h fun j v => ?_)⟩
      rw [get_set h.up]
      by_cases e2 : j = k
      · subst e2
        rw [if_pos rfl]
        have : atL (delL (getL l j) r m).1 s = atL (getL l j) s := by
          rw [at_is d1, at_is (h.get j), d4]
          unfold lastL
          rw [List.filter_append]
          have : [goneV r m].filter (fun x => decide (x.r ≤ s)) = [] := List.filter_eq_nil_iff.2 fun y hy => by
            rw [List.mem_singleton] at hy
            subst hy
            show ¬ decide (r ≤ s) = true
            simp
            omega
          rw [this, List.append_nil]
        rw [this]
      · rw [if_neg e2]
    · cases e

theorem keys_there {l : List KH} (a e : ByteArray) : (∀ k ∈ keysI l a e, getL l k ≠ []) ∧ (keysI l a e).length ≤ l.length := by
  unfold keysI
  refine ⟨fun k hk => ?_, by rw [List.length_map]; exact List.length_filter_le ..⟩
  obtain ⟨p, hp, rfl⟩ := List.mem_map.1 hk
  have h1 := (List.mem_filter.1 hp).2
  rw [Bool.and_eq_true] at h1
  intro e
  unfold liveI at h1
  rw [e] at h1
  exact absurd h1.1 (by decide)

/-- Something that becomes of keys. -/
structure IAct where
  kind : Nat
  k : ByteArray
  e : ByteArray
  r : Int
  m : Int
  s : ByteArray
  l : Int
  v : Ver

/-- An act: what is then, how many keys it deleted; none: it can't be. -/
def actI (l : List KH) (a : IAct) : Option (List KH × Nat) :=
  if a.kind = 0 then (putI l a.k a.r a.m a.s a.l).map fun o => (o, 0)
  else if a.kind = 1 then delI l a.k a.e a.r a.m
  else if a.kind = 2 then (addI l a.k a.v).map fun o => (o, 0)
  else if a.kind = 3 then some (dropI l a.k a.e, 0)
  else some (trimI l a.r, 0)
def doI (l : List KH) (a : IAct) : List KH := match actI l a with | none => l | some o => o.1
def runI (az : List IAct) : List KH := az.foldl doI []

theorem put_keeps {l o : List KH} (h : Wf l) {k : ByteArray} {r m : Int} {s : ByteArray} {le : Int} (e : putI l k r m s le = some o) :
    Wf o ∧ o.length ≤ l.length + 1 ∧ tot o ≤ tot l + 1 ∧ ∀ t f, t < r → itemsI o t f = itemsI l t f := by
  unfold putI at e
  split at e
  · cases e
  · rename_i x hx
    split at e
    · rename_i hk
      injection e with e
      subst e
      obtain ⟨p1, p2, p3, y, p4, p5⟩ := put_right hx
      have l1 := set_len h.up k x
      have t1 := set_tot h.up k x
      refine ⟨h.set hk p1, ?_, by omega, fun t f ht => items_same (h.set hk p1) h fun j v => ?_⟩
      · split at l1 <;> omega
      · rw [get_set h.up]
        by_cases e2 : j = k
        · subst e2
          rw [if_pos rfl]
          have : atL x t = atL (getL l j) t := by
            rw [at_is p1, at_is (h.get j), p4]
            unfold lastL
            rw [List.filter_append]
            have : [y].filter (fun x => decide (x.r ≤ t)) = [] := List.filter_eq_nil_iff.2 fun z hz => by
              rw [List.mem_singleton] at hz
              subst hz
              simp
              omega
            rw [this, List.append_nil]
          rw [this]
        · rw [if_neg e2]
    · cases e

theorem add_keeps {l o : List KH} (h : Wf l) {k : ByteArray} {x : Ver} (e : addI l k x = some o) : Wf o ∧ o.length ≤ l.length + 1 ∧ tot o ≤ tot l + 1 := by
  unfold addI at e
  split at e
  · cases e
  · rename_i y hy
    split at e
    · rename_i hk
      injection e with e
      subst e
      obtain ⟨p1, p2, p3, _⟩ := add_parts hy
      have l1 := set_len h.up k y
      have t1 := set_tot h.up k y
      refine ⟨h.set hk p1, ?_, by omega⟩
      split at l1 <;> omega
    · cases e

theorem del_keeps {l o : List KH} (h : Wf l) {a e : ByteArray} {r m : Int} {n : Nat} (q : delI l a e r m = some (o, n)) : Wf o ∧ o.length ≤ l.length ∧ tot o ≤ tot l + l.length ∧ n ≤ l.length ∧ ∀ t f, t < r → itemsI o t f = itemsI l t f := by
  unfold delI at q
  split at q
  · split at q
    · cases q
    · rename_i x hx
      injection q with q
      injection q with q1 q2
      subst q1 q2
      obtain ⟨k1, k2⟩ := keys_there (l := l) a e
      obtain ⟨d1, d2, d3, d4⟩ := delAll_keeps _ l x h k1 hx
      exact ⟨d1, d2, by omega, k2, d4⟩
  · cases q

theorem do_keeps {l : List KH} (h : Wf l) (a : IAct) : Wf (doI l a) ∧ (doI l a).length ≤ l.length + 1 ∧ tot (doI l a) ≤ tot l + l.length + 1 := by
  unfold doI
  cases e : actI l a with
  | none => exact ⟨h, by show l.length ≤ _; omega, by show tot l ≤ _; omega⟩
  | some o =>
    show Wf o.1 ∧ o.1.length ≤ _ ∧ tot o.1 ≤ _
    unfold actI at e
    split at e
    · obtain ⟨x, hx, rfl⟩ := Option.map_eq_some_iff.1 e
      obtain ⟨p1, p2, p3, _⟩ := put_keeps h hx
      exact ⟨p1, p2, by show tot x ≤ _; omega⟩
    · split at e
      · obtain ⟨p1, p2, p3, _⟩ := del_keeps (n := o.2) h (show delI l a.k a.e a.r a.m = some (o.1, o.2) from e)
        exact ⟨p1, by omega, by omega⟩
      · split at e
        · obtain ⟨x, hx, rfl⟩ := Option.map_eq_some_iff.1 e
          obtain ⟨p1, p2, p3⟩ := add_keeps h hx
          exact ⟨p1, p2, by show tot x ≤ _; omega⟩
        · split at e
          · injection e with e
            subst e
            have hs : (dropI l a.k a.e).Sublist l := List.filter_sublist
            exact ⟨drop_wf h _ _, Nat.le_trans hs.length_le (by omega), Nat.le_trans (sub_tot hs) (by omega)⟩
          · injection e with e
            subst e
            obtain ⟨t1, t2⟩ := trim_sizes h a.r
            exact ⟨trim_wf h _, Nat.le_trans t1 (by omega), Nat.le_trans t2 (by omega)⟩

/-- Acts of later revisions change nothing of what was. -/
theorem do_later {l : List KH} (h : Wf l) (a : IAct) (ha : a.kind < 2) {t : Int} (ht : t < a.r) (f : ByteArray → Bool) : itemsI (doI l a) t f = itemsI l t f := by
  unfold doI
  cases e : actI l a with
  | none => rfl
  | some o =>
    show itemsI o.1 t f = _
    unfold actI at e
    split at e
    · obtain ⟨x, hx, rfl⟩ := Option.map_eq_some_iff.1 e
      exact (put_keeps h hx).2.2.2 t f ht
    · split at e
      · exact (del_keeps (n := o.2) h (show delI l a.k a.e a.r a.m = some (o.1, o.2) from e)).2.2.2.2 t f ht
      · omega

theorem run_keeps : ∀ (az : List IAct) (l : List KH) (n : Nat), Wf l → l.length ≤ n → tot l ≤ 100 * n → n + az.length ≤ 90 → Wf (az.foldl doI l) ∧ (az.foldl doI l).length ≤ n + az.length ∧ tot (az.foldl doI l) ≤ 100 * (n + az.length)
  | [], l, n, h, h1, h2, _ => ⟨h, h1, h2⟩
  | a :: az, l, n, h, h1, h2, h3 => by
    rw [List.length_cons] at h3
    obtain ⟨k1, k2, k3⟩ := do_keeps h a
    obtain ⟨q1, q2, q3⟩ := run_keeps az (doI l a) (n + 1) k1 (by omega) (by omega) (by omega)
    rw [List.length_cons]
    exact ⟨q1, by show (az.foldl doI (doI l a)).length ≤ _; omega, by show tot (az.foldl doI (doI l a)) ≤ _; omega⟩

theorem run_wf (az : List IAct) (h : az.length ≤ 90) : Wf (runI az) ∧ (runI az).length ≤ az.length ∧ tot (runI az) ≤ 100 * az.length := by
  obtain ⟨h1, h2, h3⟩ := run_keeps az [] 0 wf_nil (Nat.le_refl _) (Nat.le_refl _) (by omega)
  rw [Nat.zero_add] at h2 h3
  exact ⟨h1, h2, h3⟩

end Idx
end Go.Proofs.Ytcoddkbbgmjckaa

namespace Go.Proofs.Ytcoddkbbgmjckaa
open Go.RowKit
set_option linter.unusedVariables false
set_option linter.unusedSimpArgs false

/-- An index of the program's in memory: its keys with their histories. -/
def Ixp (w : World) (u : Option Addr) (l : List Idx.KH) : Prop := ∃ t, IxT w u t ∧ kht t = l
theorem Ixp.below {w w' : World} {u : Option Addr} {l : List Idx.KH} (h : Ixp w u l) (hb : Below w.heap.size w w') : Ixp w' u l := by
  obtain ⟨t, ht, e⟩ := h
  exact ⟨t, ht.below hb, e⟩
theorem Ixp.zero (w : World) : Ixp w none [] := ⟨.nil, IxT.zero w, rfl⟩

abbrev ixV (u : Option Addr) : Value := .agg #[.pointer u]

/-- Few keys, each with a history. -/
structure Fit (l : List Idx.KH) : Prop where
  wf : Idx.Wf l
  n : l.length ≤ 1000
  t : Idx.tot l ≤ 100000

/-- Which error. -/
def Idx.errS {α : Type} (o : Option α) : Int := if o.isSome = true then 0 else 1

/-- Room for so many elements in a block that may be written. -/
def Room (T : TypeId) (sz : Nat) (w : World) (A : Option Addr) (n : Nat) : Prop := 0 < n → ∃ g off cur, A = some ⟨g, off, none⟩ ∧ w.heap[g]? = some (.cells cur T (0, 0)) ∧ off + n * sz ≤ cur.size

/-- What All tells: pairs in a row of the call's own, each history in rows of the call's own, none of the row itself. -/
structure OwnP (w0 w : World) (R : Option Addr) (n c : Nat) (xs : List KLay) : Prop where
  sp : Sp 81 2 w R n c (rowK xs)
  new : ∀ q, blk R q → w0.heap.size ≤ q
  vs : ∀ x ∈ xs, Vers w x.B x.h.length x.h
  own : ∀ x ∈ xs, ∀ q, blk x.B q → w0.heap.size ≤ q ∧ ¬ blk R q
  room : ∀ x ∈ xs, Room 37 7 w x.B x.h.length
  cap : ∀ x ∈ xs, x.h.length ≤ x.c

structure Says : Prop where
  key : ∀ (s : ByteArray) (w : World), s.size ≤ maxLen → Calls Try.prog 14 #[.string s] w fun e w' => e = .returned (.bool (Idx.keyB s)) ∧ Below w.heap.size w w'
  range : ∀ (a b : ByteArray) (w : World), a.size ≤ maxLen → b.size ≤ maxLen → Calls Try.prog 16 #[.string a, .string b] w fun e w' => e = .returned (.bool (Idx.rangeB a b)) ∧ Below w.heap.size w w'
  inn : ∀ (a b k : ByteArray) (w : World), a.size ≤ maxLen → b.size ≤ maxLen → k.size ≤ maxLen → Calls Try.prog 18 #[.string a, .string b, .string k] w fun e w' => e = .returned (.bool (Idx.inB a b k)) ∧ Below w.heap.size w w'
  put : ∀ (u : Option Addr) (l : List Idx.KH) (k : ByteArray) (r m : Int) (s : ByteArray) (le : Int) (w : World), Ixp w u l → Fit l → k.size ≤ maxLen →
    Calls Try.prog 43 #[ixV u, .string k, .int .i64 r, .int .i64 m, .string s, .int .i64 le] w fun e w' => ∃ u', e = .returned (.tuple #[ixV u', .int .i64 (Idx.errS (Idx.putI l k r m s le))]) ∧ Ixp w' u' ((Idx.putI l k r m s le).getD []) ∧ Below w.heap.size w w'
  add : ∀ (u : Option Addr) (l : List Idx.KH) (k : ByteArray) (x : Ver) (w : World), Ixp w u l → Fit l → k.size ≤ maxLen →
    Calls Try.prog 50 #[ixV u, .string k, verV x] w fun e w' => ∃ u', e = .returned (.tuple #[ixV u', .int .i64 (Idx.errS (Idx.addI l k x))]) ∧ Ixp w' u' ((Idx.addI l k x).getD []) ∧ Below w.heap.size w w'
  del : ∀ (u : Option Addr) (l : List Idx.KH) (a b : ByteArray) (r m : Int) (w : World), Ixp w u l → Fit l → a.size ≤ maxLen → b.size ≤ maxLen →
    Calls Try.prog 48 #[ixV u, .string a, .string b, .int .i64 r, .int .i64 m] w fun e w' => ∃ u', e = .returned (.tuple #[ixV u', .int .i64 (((Idx.delI l a b r m).map (·.2)).getD 0 : Nat), .int .i64 (Idx.errS (Idx.delI l a b r m))]) ∧ Ixp w' u' (((Idx.delI l a b r m).map (·.1)).getD []) ∧ Below w.heap.size w w'
  drop : ∀ (u : Option Addr) (l : List Idx.KH) (a b : ByteArray) (w : World), Ixp w u l → Fit l → a.size ≤ maxLen → b.size ≤ maxLen →
    Calls Try.prog 41 #[ixV u, .string a, .string b] w fun e w' => ∃ u', e = .returned (ixV u') ∧ Ixp w' u' (Idx.dropI l a b) ∧ Below w.heap.size w w'
  trim : ∀ (u : Option Addr) (l : List Idx.KH) (f : Int) (w : World), Ixp w u l → Fit l →
    Calls Try.prog 35 #[ixV u, .int .i64 f] w fun e w' => ∃ u', e = .returned (ixV u') ∧ Ixp w' u' (Idx.trimI l f) ∧ Below w.heap.size w w'
  live : ∀ (u : Option Addr) (l : List Idx.KH) (k : ByteArray) (w : World), Ixp w u l → Fit l → k.size ≤ maxLen →
    Calls Try.prog 24 #[ixV u, .string k] w fun e w' => e = .returned (atV (Idx.liveI l k)) ∧ Below w.heap.size w w'
  at_ : ∀ (u : Option Addr) (l : List Idx.KH) (a b : ByteArray) (r most : Int) (w : World), Ixp w u l → Fit l → a.size ≤ maxLen → b.size ≤ maxLen →
    Calls Try.prog 27 #[ixV u, .string a, .string b, .int .i64 r, .int .i64 most] w fun e w' => ∃ R m c, e = .returned (.tuple #[.slice R m c, .int .i64 ((Idx.atI l a b r most).2 : Int)]) ∧ OwnI w w' R m c (Idx.atI l a b r most).1 ∧ Below w.heap.size w w'
  behind : ∀ (u : Option Addr) (l : List Idx.KH) (p k : ByteArray) (r most : Int) (w : World), Ixp w u l → Fit l → p.size ≤ maxLen → k.size ≤ 2000000 →
    Calls Try.prog 29 #[ixV u, .string p, .string k, .int .i64 r, .int .i64 most] w fun e w' => ∃ R m c, e = .returned (.tuple #[.slice R m c, .bool (Idx.behindI l p k r most).2]) ∧ OwnI w w' R m c (Idx.behindI l p k r most).1 ∧ Below w.heap.size w w'
  changes : ∀ (u : Option Addr) (l : List Idx.KH) (a b : ByteArray) (s t most : Int) (w : World), Ixp w u l → Fit l → a.size ≤ maxLen → b.size ≤ maxLen →
    Calls Try.prog 32 #[ixV u, .string a, .string b, .int .i64 s, .int .i64 t, .int .i64 most] w fun e w' => ∃ R m d ys, e = .returned (.slice R m d) ∧ OwnB w w' R m d ys ∧ bats ys = Idx.changesI l a b s t most ∧ Below w.heap.size w w'
  leased : ∀ (u : Option Addr) (l : List Idx.KH) (le : Int) (w : World), Ixp w u l → Fit l →
    Calls Try.prog 37 #[ixV u, .int .i64 le] w fun e w' => ∃ R m c, e = .returned (.slice R m c) ∧ OwnR 9 1 w w' R m c (rowS (Idx.leasedI l le)) ∧ Below w.heap.size w w'
  all : ∀ (u : Option Addr) (l : List Idx.KH) (w : World), Ixp w u l → Fit l →
    Calls Try.prog 39 #[ixV u] w fun e w' => ∃ R m c xs, e = .returned (.slice R m c) ∧ OwnP w w' R m c xs ∧ khs xs = l ∧ Below w.heap.size w w'

end Go.Proofs.Ytcoddkbbgmjckaa

namespace Go.Proofs.Ytcoddkbbgmjckaa
open Go.ChangeShapes Go.WideShapes Go.ChangeAt Go.RowKit Go.Deep

section
variable {H : Type} {enc : TypeId × Value → H} {P : Program} {W : World} {sp : Nat → Bool} {hd : Bool}

theorem add_two (a : Addr) (i j : Nat) : (a.add i).add j = a.add (i + j) := by
  unfold Addr.add
  by_cases hi : i = 0 <;> by_cases hj : j = 0 <;> simp [hi, hj, Nat.add_assoc]

theorem add_here (b off n : Nat) : (⟨b, off, none⟩ : Addr).add n = ⟨b, off + n, none⟩ := by
  unfold Addr.add
  by_cases hn : n = 0 <;> simp [hn]

/-- A slice: nil, or its elements' cells lie in a row. -/
theorem arg_slice {t e : TypeId} {C base : Nat} {v : Value} {d : DataW H} {p : List MemPlace} (ht : P.underlying t = some (.slice e)) (hC : P.cellsOf e = C) (h0 : 0 < C)
    (hok : Value.okWide P W .any base t v) (h : DataW.Trod enc P W 0 sp hd t v d p) (hlt : ∀ x ∈ p, x.block < W.heap.size) :
    ∃ (A : Option Addr) (len cap n : Nat) (Cs : Nat → List Value) (D : Nat → DataW H), v = .slice A len cap ∧ len ≤ cap ∧ cap ≤ maxLen ∧ (d = .nil ∧ len = 0 ∨ ∃ rest, d = .slice ((List.range len).map D) rest) ∧
      (0 < len → ∃ b off, A = some ⟨b, off, none⟩ ∧ b < W.heap.size ∧ ∀ j, j < len → ∀ i u, (Cs j)[i]? = some u → W.cell? ⟨b, off + j * C + i, none⟩ = some u) ∧
      ∀ j, j < len → (Cs j).length = C ∧ ∃ pl, DataW.trod enc P W 0 sp hd n e (Cs j) = some (D j, pl) := by
  obtain ⟨A, len, cap, rfl⟩ := okWide_slice ht hok
  obtain ⟨fuel, hf⟩ := h
  rcases open_slice ht hf with ⟨hcs, hx⟩ | ⟨a, len', cap', m, n, D, Pl, hcs, hb, hl, hm, hmm, hx, hi⟩
  · simp [Value.cells] at hcs
    obtain ⟨rfl, rfl, rfl⟩ := hcs
    simp only [Prod.mk.injEq] at hx
    exact ⟨none, 0, 0, 0, fun _ => [], fun _ => .nil, rfl, Nat.le_refl _, Nat.zero_le _, .inl ⟨hx.1, rfl⟩, fun h => absurd h (by omega), fun j hj => absurd hj (by omega)⟩
  · simp [Value.cells] at hcs
    obtain ⟨rfl, rfl, rfl⟩ := hcs
    simp only [Prod.mk.injEq] at hx
    have hlm : len ≤ m := by rw [hmm]; split <;> omega
    obtain ⟨Cs, hCs⟩ := Classical.axiomOfChoice (r := fun i cs' => i < m → W.cells? 0 (a.add (i * P.cellsOf e)) (P.cellsOf e) = some cs' ∧ DataW.trod enc P W 0 sp hd n e cs' = some (D i, Pl i)) (fun i => by
      by_cases him : i < m
      · obtain ⟨cs', h1, h2⟩ := hi i him
        exact ⟨cs', fun _ => ⟨h1, h2⟩⟩
      · exact ⟨[], fun h => absurd h him⟩)
    rw [hC] at hCs
    refine ⟨some a, len, cap, n, Cs, D, rfl, hl, hm, .inr ⟨_, hx.1⟩, fun hpos => ?_, fun j hj => ?_⟩
    · have hcell : ∀ j, j < len → ∀ i u, (Cs j)[i]? = some u → W.cell? (a.add (j * C + i)) = some u := fun j hj i u hu => by
        obtain ⟨hc, _⟩ := hCs j (by omega)
        obtain ⟨_, hcl, hat⟩ := World.cells?_some hc
        have hic : i < C := by
          rcases Nat.lt_or_ge i (Cs j).length with h1 | h1
          · omega
          · rw [List.getElem?_eq_none h1] at hu; cases hu
        have := hat i hic
        rw [add_two] at this
        rw [this, hu]
      obtain ⟨b, off, spot⟩ := a
      obtain ⟨hc0, _⟩ := hCs 0 (by omega)
      obtain ⟨_, hcl0, _⟩ := World.cells?_some hc0
      have g0 : (Cs 0)[0]? = some ((Cs 0)[0]'(by omega)) := List.getElem?_eq_getElem (by omega)
      have hspot : spot = none := by simpa [Addr.add] using World.cell?_spot (hcell 0 hpos 0 _ g0)
      subst hspot
      refine ⟨b, off, rfl, ?_, fun j hj i u hu => ?_⟩
      · have hin : MemPlace.cell b off ∈ p := by
          rw [hx.2]
          refine List.mem_append_left _ (MemPlace.mem_row.2 ⟨0, ?_, by simp⟩)
          rw [hC]; exact Nat.mul_pos (by omega) h0
        exact hlt _ hin
      · have := hcell j hj i u hu
        rw [add_here, ← Nat.add_assoc] at this
        exact this
    · obtain ⟨hc, hdt⟩ := hCs j (by omega)
      obtain ⟨_, hcl, _⟩ := World.cells?_some hc
      exact ⟨hcl, Pl j, hdt⟩

/-- A slice of strings. -/
theorem arg_strings {t e : TypeId} {base : Nat} {v : Value} {d : DataW H} {p : List MemPlace} (ht : P.underlying t = some (.slice e)) (he : P.underlying e = some .string) (hC : P.cellsOf e = 1)
    (hok : Value.okWide P W .any base t v) (h : DataW.Trod enc P W 0 sp hd t v d p) (hlt : ∀ x ∈ p, x.block < W.heap.size) :
    ∃ (A : Option Addr) (len cap : Nat) (S : Nat → ByteArray), v = .slice A len cap ∧ len ≤ cap ∧ cap ≤ maxLen ∧
      (0 < len → ∃ b off, A = some ⟨b, off, none⟩ ∧ b < W.heap.size ∧ ∀ j, j < len → W.cell? ⟨b, off + j, none⟩ = some (.string (S j))) ∧ ∀ j, j < len → (S j).size ≤ maxLen := by
  obtain ⟨A, len, cap, n, Cs, D, rfl, hl, hm, _, hrow, hel⟩ := arg_slice ht hC (by omega) hok h hlt
  obtain ⟨S, hS⟩ := Classical.axiomOfChoice (r := fun j s => j < len → Cs j = [.string s] ∧ s.size ≤ maxLen) (fun j => by
    by_cases hj : j < len
    · obtain ⟨_, pl, hd⟩ := hel j hj
      obtain ⟨s, h1, _, h3⟩ := DataW.trod_string he hd
      exact ⟨s, fun _ => ⟨h1, h3⟩⟩
    · exact ⟨ByteArray.empty, fun h => absurd h hj⟩)
  refine ⟨A, len, cap, S, rfl, hl, hm, fun hpos => ?_, fun j hj => (hS j hj).2⟩
  obtain ⟨b, off, hA, hb, hc⟩ := hrow hpos
  refine ⟨b, off, hA, hb, fun j hj => ?_⟩
  have := hc j hj 0 (.string (S j)) (by rw [(hS j hj).1]; rfl)
  rwa [Nat.mul_one, Nat.add_zero] at this

/-- A slice of integers. -/
theorem arg_ints {t e : TypeId} {k : IntKind} {base : Nat} {v : Value} {d : DataW H} {p : List MemPlace} (ht : P.underlying t = some (.slice e)) (he : P.underlying e = some (.int k)) (hC : P.cellsOf e = 1)
    (hok : Value.okWide P W .any base t v) (h : DataW.Trod enc P W 0 sp hd t v d p) (hlt : ∀ x ∈ p, x.block < W.heap.size) :
    ∃ (A : Option Addr) (len cap : Nat) (Z : Nat → Int), v = .slice A len cap ∧ len ≤ cap ∧ cap ≤ maxLen ∧
      (0 < len → ∃ b off, A = some ⟨b, off, none⟩ ∧ b < W.heap.size ∧ ∀ j, j < len → W.cell? ⟨b, off + j, none⟩ = some (.int k (Z j))) ∧ ∀ j, j < len → (Lit.int k (Z j)).wf = true := by
  obtain ⟨A, len, cap, n, Cs, D, rfl, hl, hm, _, hrow, hel⟩ := arg_slice ht hC (by omega) hok h hlt
  obtain ⟨S, hS⟩ := Classical.axiomOfChoice (r := fun j z => j < len → Cs j = [.int k z] ∧ (Lit.int k z).wf = true) (fun j => by
    by_cases hj : j < len
    · obtain ⟨_, pl, hd⟩ := hel j hj
      obtain ⟨s, h1, _, h3⟩ := DataW.trod_int he hd
      exact ⟨s, fun _ => ⟨h1, h3⟩⟩
    · exact ⟨0, fun h => absurd h hj⟩)
  refine ⟨A, len, cap, S, rfl, hl, hm, fun hpos => ?_, fun j hj => (hS j hj).2⟩
  obtain ⟨b, off, hA, hb, hc⟩ := hrow hpos
  refine ⟨b, off, hA, hb, fun j hj => ?_⟩
  have := hc j hj 0 (.int k (S j)) (by rw [(hS j hj).1]; rfl)
  rwa [Nat.mul_one, Nat.add_zero] at this
/-- A struct of one-cell fields: each field's cell, and how it reads. -/
theorem arg_fields {e : TypeId} {fs : Array Field} {n base : Nat} {cs : List Value} {x : DataW H × List MemPlace} (he : P.underlying e = some (.struct fs)) (hone : oneCellFields P fs = true) (hl : cs.length = fs.size)
    (h : DataW.trod enc P W base sp hd n e cs = some x) : ∃ m, ∀ (j : Nat) (f : Field), fs[j]? = some f → ∃ v y, cs[j]? = some v ∧ DataW.trod enc P W base sp hd m f.type [v] = some y := by
  obtain ⟨ys, m, _, _, _, hyl, hf⟩ := DataW.trod_struct he h
  refine ⟨m, fun j f hj => ?_⟩
  obtain ⟨ho, hk⟩ := hone_of hone j f hj
  have hjl : j < fs.size := (Array.getElem?_eq_some_iff.1 hj).1
  have h1 := hf j f hj
  rw [ho, hk, List.drop_eq_getElem_cons (by omega)] at h1
  have h2 : DataW.trod enc P W base sp hd m f.type [cs[j]'(by omega)] = ys[j]? := h1
  rw [List.getElem?_eq_getElem (by omega)] at h2
  exact ⟨_, _, List.getElem?_eq_getElem (by omega), h2⟩
end

end Go.Proofs.Ytcoddkbbgmjckaa
