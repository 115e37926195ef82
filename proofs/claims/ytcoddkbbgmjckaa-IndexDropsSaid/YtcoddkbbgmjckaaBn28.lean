/- An index beside a row of a law's own that grows: none of what it is read from lies in the row's block. -/
import Derived.Test.YtcoddkbbgmjckaaBn21
import Derived.Test.YtcoddkbbgmjckaaBn17
import Derived.Test.YtcoddkbbgmjckaaBn10
namespace Go.Proofs.Ytcoddkbbgmjckaa
open Go.RowKit
set_option linter.unusedVariables false
set_option linter.unusedSimpArgs false

/-- An index of the program's, in blocks of a set P. -/
def IxpP (P : Nat → Prop) (w : World) (u : Option Addr) (l : List Idx.KH) : Prop :=
  ∃ t, MapKh.Rp P w u t ∧ Tr.Bst ltS t ∧ (∀ p ∈ t.list, Vers w p.2.B p.2.h.length p.2.h ∧ p.2.h.length ≤ p.2.c ∧ ∀ q, blk p.2.B q → P q) ∧ kht t = l

section
variable {P P' : Nat → Prop} {w w' : World} {u v : Option Addr} {l : List Idx.KH} {g : Nat}

theorem IxpP.ixp (h : IxpP P w u l) : Ixp w u l := by
  obtain ⟨t, h1, h2, h3, h4⟩ := h
  exact ⟨t, ⟨h1.carry (fun _ _ => trivial) fun _ _ _ _ => ⟨trivial, rfl⟩, h2, fun p hp => ⟨(h3 p hp).1, (h3 p hp).2.1⟩⟩, h4⟩
theorem IxpP.ev (h : IxpP P w u l) : ∀ k, w.heap.size ≤ k → P k := by
  obtain ⟨t, h1, _⟩ := h
  exact h1.ev
theorem IxpP.below (h : IxpP P w u l) (hb : Below w.heap.size w w') : IxpP P w' u l := by
  obtain ⟨t, h1, h2, h3, h4⟩ := h
  exact ⟨t, h1.below hb (Nat.le_refl _), h2, fun p hp => ⟨(h3 p hp).1.below hb, (h3 p hp).2⟩, h4⟩
theorem IxpP.store (h : IxpP P w u l) (hb : Box w g v) (C : Array Value) : IxpP P (w.setRow g C) u l := by
  obtain ⟨t, h1, h2, h3, h4⟩ := h
  refine ⟨t, h1.carry (fun k hk => h1.ev k (by simpa using hk)) fun b hlt hP hk => ⟨hP, setRow_other w g b C fun e => ?_⟩, h2, fun p hp => ⟨(h3 p hp).1.store hb C, (h3 p hp).2⟩, h4⟩
  subst e
  obtain ⟨k, hk⟩ := hk
  rw [hb.cell] at hk
  injection hk with hk
  cases hk
/-- Another world, in which all blocks of P are as they were. -/
theorem IxpP.carry (h : IxpP P w u l) (hf : ∀ p ∈ l, p.2 ≠ []) (hs : w.heap.size ≤ w'.heap.size) (hE : ∀ k, w'.heap.size ≤ k → P' k) (hb : ∀ b, b < w.heap.size → P b → P' b ∧ w'.heap[b]? = w.heap[b]?) : IxpP P' w' u l := by
  obtain ⟨t, h1, h2, h3, rfl⟩ := h
  refine ⟨t, h1.carry hE fun b hlt hP _ => hb b hlt hP, h2, fun p hp => ?_, rfl⟩
  obtain ⟨a1, a2, a3⟩ := h3 p hp
  have hne : p.2.h ≠ [] := hf (p.1, p.2.h) (List.mem_map.2 ⟨p, hp, rfl⟩)
  have hlt : ∀ q, blk p.2.B q → q < w.heap.size := fun q hq => by
    obtain ⟨g, off, e, hg, _⟩ := a1.2 (List.length_pos_iff.2 hne)
    obtain ⟨o, e2⟩ := hq
    rw [e] at e2
    injection e2 with e2
    injection e2 with e2
    omega
  exact ⟨a1.keep hs fun q hq hl => (hb q hl (a3 q hq)).2, a2, fun q hq => (hb q (hlt q hq) (a3 q hq)).1⟩
end

/-- An index by the program and by the document, none of it in the block of a row. -/
structure BothQ (Rg : Option Addr) (w : World) (u A : Option Addr) (n cap : Nat) (xs : List KLay) (l : List Idx.KH) : Prop where
  ix : IxpP (fun q => ¬ blk Rg q) w u l
  dx : IxL w A n cap xs
  e : khs xs = l
  loc : ∀ x ∈ xs, ∀ q, blk x.B q → ¬ blk Rg q

section
variable {Rg u A v : Option Addr} {w w' : World} {n cap g : Nat} {xs ys : List KLay} {l : List Idx.KH}
theorem BothQ.both (h : BothQ Rg w u A n cap xs l) : Both w u A n cap xs l := ⟨h.ix.ixp, h.dx, h.e⟩
theorem BothQ.below (h : BothQ Rg w u A n cap xs l) (hb : Below w.heap.size w w') : BothQ Rg w' u A n cap xs l := ⟨h.ix.below hb, h.dx.below hb, h.e, h.loc⟩
theorem BothQ.store (h : BothQ Rg w u A n cap xs l) (hb : Box w g v) (C : Array Value) : BothQ Rg (w.setRow g C) u A n cap xs l := ⟨h.ix.store hb C, h.dx.store hb C, h.e, h.loc⟩
theorem BothQ.moved (h : BothQ Rg w u A n cap xs l) (hl : LocK w xs ys) : ∀ y ∈ ys, ∀ q, blk y.B q → ¬ blk Rg q := fun y hy q hq => by
  rcases hl y hy with ⟨x, hx, e, _⟩ | hn
  · rw [e] at hq
    exact h.loc x hx q hq
  · exact h.ix.ev q (hn q hq)
theorem Both.q (h : Both w u A n cap xs l) : BothQ none w u A n cap xs l := by
  obtain ⟨⟨t, ht, e⟩, h2, h3⟩ := h
  exact ⟨⟨t, ht.rp.carry (fun k _ => blk_none k) fun b _ _ _ => ⟨blk_none b, rfl⟩, ht.bst, fun p hp => ⟨(ht.vs p hp).1, (ht.vs p hp).2, fun q _ => blk_none q⟩, e⟩, h2, h3, fun _ _ q _ => blk_none q⟩

/-- The row grows: in its own block, or in another one that is new. -/
theorem BothQ.grown {X w8 : World} {A8 : Option Addr} {m c : Nat} {ls : List (ByteArray × Ver)} (h : BothQ Rg w u A n cap xs l) (hf : Fit l) (hX : Below w.heap.size w X) (hsp : Sp 62 8 w Rg m c (rowI ls)) (hg : Grew X w8 Rg) (hA : ∀ q, blk A8 q → blk Rg q ∨ X.heap.size ≤ q) (hlt : ∀ q, blk A8 q → q < w8.heap.size) : BothQ A8 w8 u A n cap xs l := by
  have hs := Nat.le_trans hX.size hg.size
  have hk : ∀ b, b < w.heap.size → ¬ blk Rg b → ¬ blk A8 b ∧ w8.heap[b]? = w.heap[b]? := fun b hb hn => ⟨fun e => by
    rcases hA b e with h1 | h1
    · exact hn h1
    · have := hX.size; omega, (hg.block b (Nat.lt_of_lt_of_le hb hX.size) hn).trans (hX.block b hb)⟩
  have hvl : ∀ x ∈ xs, ∀ q, blk x.B q → q < w.heap.size := fun x hx q hq => by
    have hne : x.h ≠ [] := hf.wf.some x.kh (by rw [← h.e]; exact List.mem_map.2 ⟨x, hx, rfl⟩)
    obtain ⟨g, off, e, hg, _⟩ := (h.dx.vs x hx).2 (List.length_pos_iff.2 hne)
    obtain ⟨o, e2⟩ := hq
    rw [e] at e2
    injection e2 with e2
    injection e2 with e2
    omega
  refine ⟨h.ix.carry hf.wf.some hs (fun k hk2 e => by have := hlt k e; omega) fun b hb hP => hk b hb hP, ⟨h.dx.sp.keep fun q hq => ?_, fun x hx => (h.dx.vs x hx).keep hs fun q hq hl => (hk q hl (h.loc x hx q hq)).2⟩, h.e, fun x hx q hq => (hk q (hvl x hx q hq) (h.loc x hx q hq)).1⟩
  refine (hk q (h.dx.sp.lt hq) fun e => ?_).2
  obtain ⟨c1, g1⟩ := h.dx.sp.block hq
  obtain ⟨c2, g2⟩ := hsp.block e
  rw [g1] at g2
  injection g2 with g2
  injection g2 with _ g2
  exact absurd g2 (by decide)
end

/-- The two calls that law IndexPages makes of an index in between, in blocks of a set. -/
structure SaysP : Prop where
  put : ∀ (P : Nat → Prop) (u : Option Addr) (l : List Idx.KH) (k : ByteArray) (r m : Int) (s : ByteArray) (le : Int) (w : World), IxpP P w u l → Fit l → k.size ≤ maxLen →
    Calls Try.prog 43 #[ixV u, .string k, .int .i64 r, .int .i64 m, .string s, .int .i64 le] w fun e w' => ∃ u', e = .returned (.tuple #[ixV u', .int .i64 (Idx.errS (Idx.putI l k r m s le))]) ∧ IxpP P w' u' ((Idx.putI l k r m s le).getD []) ∧ Below w.heap.size w w'
  del : ∀ (P : Nat → Prop) (u : Option Addr) (l : List Idx.KH) (a b : ByteArray) (r m : Int) (w : World), IxpP P w u l → Fit l → a.size ≤ maxLen → b.size ≤ maxLen →
    Calls Try.prog 48 #[ixV u, .string a, .string b, .int .i64 r, .int .i64 m] w fun e w' => ∃ u', e = .returned (.tuple #[ixV u', .int .i64 (((Idx.delI l a b r m).map (·.2)).getD 0 : Nat), .int .i64 (Idx.errS (Idx.delI l a b r m))]) ∧ IxpP P w' u' (((Idx.delI l a b r m).map (·.1)).getD []) ∧ Below w.heap.size w w'
end Go.Proofs.Ytcoddkbbgmjckaa

namespace Go.Proofs.Ytcoddkbbgmjckaa
set_option linter.unusedVariables false

namespace His
theorem ver_v {x : Ver} (h : verB x = true) : -9223372036854775808 ≤ x.v ∧ x.v ≤ 9223372036854775807 := by
  unfold verB top at h
  split at h
  · cases h
  · split at h
    · have := of_decide_eq_true h
      omega
    · have := of_decide_eq_true h
      omega

/-- An act: by its kind. -/
def doL (l : List Ver) (a : HAct) : List Ver :=
  if a.kd = 0 then (putL l a.r a.m a.s a.l).getD l
  else if a.kd = 1 then (if (delL l a.r a.m).2 = 0 then (delL l a.r a.m).1 else l)
  else (addL l a.x).getD l

theorem put_right {l o : List Ver} {r m : Int} {s : ByteArray} {le : Int} (h : putL l r m s le = some o) : Right o := by
  unfold putL at h
  obtain ⟨x, _, hx⟩ := Option.bind_eq_some_iff.1 h
  exact add_right hx

theorem add_len {l o : List Ver} {x : Ver} (h : addL l x = some o) : o.length = l.length + 1 := by
  unfold addL at h
  split at h
  · injection h with h
    rw [← h]
    simp
  · cases h

theorem put_len {l o : List Ver} {r m : Int} {s : ByteArray} {le : Int} (h : putL l r m s le = some o) : o.length = l.length + 1 := by
  unfold putL at h
  obtain ⟨x, _, hx⟩ := Option.bind_eq_some_iff.1 h
  exact add_len hx

theorem del_some {l : List Ver} {r m : Int} (h : (delL l r m).2 = 0) : addL l (goneV r m) = some (delL l r m).1 := by
  unfold delL at *
  cases ho : addL l (goneV r m) with
  | none =>
    rw [ho] at h
    exact absurd (show (1 : Int) = 0 from h) (by decide)
  | some o =>
    rw [ho] at h
    dsimp only at h ⊢
    cases hl : l.getLast? with
    | none =>
      rw [hl] at h
      exact absurd (show (6 : Int) = 0 from h) (by decide)
    | some y =>
      rw [hl] at h
      dsimp only at h ⊢
      by_cases hg : y.g = true
      · rw [if_pos hg] at h
        exact absurd (show (6 : Int) = 0 from h) (by decide)
      · rw [if_neg hg]

theorem do_right {l : List Ver} (h : Right l) (a : HAct) : Right (doL l a) := by
  unfold doL
  split
  · cases ho : putL l a.r a.m a.s a.l with
    | none => exact h
    | some o => exact put_right ho
  · split
    · split
      · rename_i h2
        exact add_right (del_some h2)
      · exact h
    · cases ho : addL l a.x with
      | none => exact h
      | some o => exact add_right ho

theorem do_len (l : List Ver) (a : HAct) : (doL l a).length ≤ l.length + 1 := by
  unfold doL
  split
  · cases ho : putL l a.r a.m a.s a.l with
    | none => show l.length ≤ _; omega
    | some o => have := put_len ho; show o.length ≤ _; omega
  · split
    · split
      · rename_i h2
        have := add_len (del_some h2)
        omega
      · omega
    · cases ho : addL l a.x with
      | none => show l.length ≤ _; omega
      | some o => have := add_len ho; show o.length ≤ _; omega

/-- The acts one behind the other. -/
def runL (K : Nat → HAct) : Nat → List Ver
  | 0 => []
  | k + 1 => doL (runL K k) (K k)

theorem run_right (K : Nat → HAct) : ∀ k, Right (runL K k)
  | 0 => right_nil
  | k + 1 => do_right (run_right K k) _

theorem run_len (K : Nat → HAct) : ∀ k, (runL K k).length ≤ k
  | 0 => Nat.le_refl _
  | k + 1 => Nat.le_trans (do_len _ _) (by have := run_len K k; omega)

theorem run_v (K : Nat → HAct) (k : Nat) : ∀ x ∈ runL K k, -9223372036854775808 ≤ x.v ∧ x.v ≤ 9223372036854775807 := fun x hx => ver_v ((run_right K k).ver x hx)
end His

end Go.Proofs.Ytcoddkbbgmjckaa

namespace Go.Proofs.Ytcoddkbbgmjckaa
set_option linter.unusedVariables false

namespace His
/-- May it stand behind them, by its Rev and its Mod? -/
def behB (l : List Ver) (x : Ver) : Bool := match l.getLast? with | none => true | some y => decide (Rises y x)

theorem step_beh (l : List Ver) (k : Nat) (hk : k < l.length) : stepH l k = (verB l[k] && behB (l.take k) l[k]) := by
  by_cases h0 : k = 0
  · subst h0
    rw [step_zero l hk]
    unfold behB
    simp
  · rw [step_at l k hk h0]
    congr 1
    unfold behB
    have e : (l.take k).getLast? = some (l[k - 1]'(by omega)) := by
      rw [List.getLast?_eq_getElem?, List.length_take, Nat.min_eq_left (by omega), List.getElem?_take, if_pos (by omega), List.getElem?_eq_getElem (by omega)]
    rw [e]

theorem right_snoc (l : List Ver) (x : Ver) : rightL (l ++ [x]) = (rightL l && (verB x && behB l x)) := by
  have hlen : (l ++ [x]).length = l.length + 1 := by simp
  have hst : ∀ k, k < l.length → stepH (l ++ [x]) k = stepH l k := fun k hk => by
    rw [step_beh _ k (by omega), step_beh l k hk, List.getElem_append_left hk, List.take_append_of_le_length (by omega)]
  have hla : stepH (l ++ [x]) l.length = (verB x && behB l x) := by
    rw [step_beh _ l.length (by omega)]
    simp
  rw [Bool.eq_iff_iff, Bool.and_eq_true, ← hla]
  constructor
  · intro h
    have hs := fun k (hk : k < l.length + 1) => List.all_eq_true.1 h k (List.mem_range.2 (by omega))
    exact ⟨right_yes fun k hk => (hst k hk) ▸ hs k (by omega), hs l.length (by omega)⟩
  · rintro ⟨h1, h2⟩
    refine right_yes fun k hk => ?_
    rcases Nat.lt_or_ge k l.length with h3 | h3
    · rw [hst k h3]
      exact List.all_eq_true.1 h1 k (List.mem_range.2 h3)
    · obtain rfl : k = l.length := by omega
      exact h2

theorem add_yes {l : List Ver} {x : Ver} (h1 : rightL l = true) (h2 : verB x = true) (h3 : behB l x = true) : addL l x = some (l ++ [x]) := if_pos (by rw [right_snoc, h1, h2, h3]; rfl)
theorem add_no {l : List Ver} {x : Ver} (h : rightL l = false ∨ verB x = false ∨ behB l x = false) : addL l x = none := if_neg (by
  rw [right_snoc]
  rcases h with h | h | h <;> rw [h] <;> simp)
theorem add_norm {l : List Ver} {x : Ver} (h : rightL l = false) : addL l x = none := add_no (.inl h)
theorem add_pre {l o : List Ver} {x : Ver} (h : addL l x = some o) : rightL l = true ∧ o = l ++ [x] := by
  unfold addL at h
  split at h
  · rename_i h1
    injection h with h
    rw [right_snoc, Bool.and_eq_true] at h1
    exact ⟨h1.1, h.symm⟩
  · cases h

/-- What it is. -/
def liveL (l : List Ver) : Option Ver := if rightL l = true then liveO l.getLast? else none

/-- A put, as one that asks what is there makes it. -/
def putW (l : List Ver) (r m : Int) (s : ByteArray) (le : Int) : Ver := match liveL l with | none => ⟨r, m, m, 1, s, le, false⟩ | some y => ⟨r, y.k, m, y.v + 1, s, le, false⟩

theorem put_is (l : List Ver) (r m : Int) (s : ByteArray) (le : Int) : putL l r m s le = addL l (putW l r m s le) := by
  unfold putL putW putV liveL
  cases hr : rightL l with
  | false =>
    rw [if_neg (by decide)]
    rw [add_norm hr]
    have hno : ∀ o : Option Ver, o.bind (addL l) = none := fun o => by
      cases o with
      | none => rfl
      | some x => exact add_norm hr
    exact hno _
  | true =>
    rw [if_pos rfl]
    cases hl : l.getLast? with
    | none => rfl
    | some y =>
      dsimp only
      unfold liveO
      dsimp only
      by_cases hg : y.g = true
      · rw [if_pos hg, if_pos hg]
        rfl
      · rw [if_neg hg, if_neg hg]
        dsimp only
        by_cases ht : top ≤ y.v
        · rw [if_pos ht]
          refine (add_no (.inr (.inl ?_))).symm
          unfold verB
          dsimp only
          split
          · rfl
          · rw [if_neg (by decide), decide_eq_false_iff_not]
            omega
        · rw [if_neg ht]
          rfl

theorem del_is (l : List Ver) (r m : Int) : delL l r m = match addL l (goneV r m) with | none => ([], 1) | some o => match liveL l with | none => ([], 6) | some _ => (o, 0) := by
  unfold delL
  cases ho : addL l (goneV r m) with
  | none => rfl
  | some o =>
    have hr := (add_pre ho).1
    dsimp only
    unfold liveL
    rw [if_pos hr]
    cases l.getLast? with
    | none => rfl
    | some y =>
      dsimp only
      unfold liveO
      dsimp only
      by_cases hg : y.g = true
      · rw [if_pos hg, if_pos hg]
      · rw [if_neg hg, if_neg hg]

/-- How many have a Rev that isn't above r. -/
structure UpTo (l : List Ver) (r : Int) (k : Nat) : Prop where
  le : k ≤ l.length
  lo : ∀ j (hj : j < l.length), j < k → l[j].r ≤ r
  hi : ∀ (hk : k < l.length), r < l[k].r

theorem UpTo.above {l : List Ver} {r : Int} {k : Nat} (h : UpTo l r k) (hR : Right l) : ∀ j (hj : j < l.length), k ≤ j → r < l[j].r := fun j hj hkj => by
  have h1 := h.hi (by omega)
  by_cases e : j = k
  · subst e; exact h1
  · have := (List.pairwise_iff_getElem.1 hR.up k j (by omega) hj (by omega)).1
    omega

theorem UpTo.cut {l : List Ver} {r : Int} {k : Nat} (h : UpTo l r k) (hR : Right l) : (l.filter fun x => decide (x.r ≤ r)) = l.take k ∧ (l.filter fun x => decide (r < x.r)) = l.drop k := cut_len hR r h.le h.lo (h.above hR)

theorem UpTo.at_ {l : List Ver} {r : Int} {k : Nat} (h : UpTo l r k) (hR : Right l) : atL l r = liveO (l.take k).getLast? := by
  rw [at_is hR]
  unfold lastL
  rw [(h.cut hR).1]

/-- Where what is left begins. -/
theorem UpTo.trim {l : List Ver} {r : Int} {k : Nat} (h : UpTo l r k) (hR : Right l) : trimL l r = match liveO (l.take k).getLast? with | none => l.drop k | some _ => l.drop (k - 1) := by
  unfold trimL
  rw [if_pos ((right_iff l).2 hR), h.at_ hR, (h.cut hR).2]
  have hle := h.le
  rcases Nat.eq_zero_or_pos k with h0 | h0
  · subst h0
    rfl
  · have e : (l.take k).getLast? = some (l[k - 1]'(by omega)) := by
      rw [List.getLast?_eq_getElem?, List.length_take, Nat.min_eq_left (by omega), List.getElem?_take, if_pos (by omega), List.getElem?_eq_getElem (by omega)]
    rw [e]
    unfold liveO
    dsimp only
    by_cases hg : (l[k - 1]'(by omega)).g = true
    · rw [if_pos hg]
      rfl
    · rw [if_neg hg]
      show [_] ++ _ = _
      have hd := List.drop_eq_getElem_cons (l := l) (i := k - 1) (by omega)
      rw [show k - 1 + 1 = k by omega] at hd
      rw [hd]
      rfl

theorem live_top {l : List Ver} (h : Right l) : liveL l = atL l 1099511627776 := by
  unfold liveL
  rw [if_pos ((right_iff l).2 h), at_is h]
  unfold lastL
  rw [List.filter_eq_self.2]
  intro x hx
  have := h.ver x hx
  unfold verB top at this
  split at this
  · cases this
  · simp
    omega
end His
end Go.Proofs.Ytcoddkbbgmjckaa

namespace Go.Proofs.Ytcoddkbbgmjckaa
open Go.RowKit
set_option linter.unusedVariables false
set_option linter.unusedSimpArgs false
attribute [local go_sem] Oper.semAt_some

def His.numB (n : Int) : Bool := decide (1 ≤ n ∧ n ≤ 1099511627776)

theorem numP_any (n : Int) (w : World) : Calls Try.prog 109 #[.int .i64 n] w fun e w' => e = .returned (.bool (His.numB n)) ∧ w = w' := by
  unfold His.numB
  by_cases h1 : 1 ≤ n
  · have e1 : decide (1 ≤ n) = true := decide_eq_true h1
    by_cases h2 : n ≤ 1099511627776
    · have e2 : decide (n ≤ 1099511627776) = true := decide_eq_true h2
      rw [decide_eq_true (show 1 ≤ n ∧ n ≤ 1099511627776 from ⟨h1, h2⟩)]
      clear h1 h2
      go_enter Try.func109, Try.ntmps109
      go_wp2
      go_ret
      exact ⟨rfl, rfl⟩
    · have e2 : decide (n ≤ 1099511627776) = false := decide_eq_false h2
      rw [decide_eq_false (show ¬ (1 ≤ n ∧ n ≤ 1099511627776) from fun h => h2 h.2)]
      clear h1 h2
      go_enter Try.func109, Try.ntmps109
      go_wp2
      go_ret
      exact ⟨rfl, rfl⟩
  · have e1 : decide (1 ≤ n) = false := decide_eq_false h1
    rw [decide_eq_false (show ¬ (1 ≤ n ∧ n ≤ 1099511627776) from fun h => h1 h.1)]
    clear h1
    go_enter Try.func109, Try.ntmps109
    go_wp2
    go_ret
    exact ⟨rfl, rfl⟩

namespace His
theorem verB_r {x : Ver} (h : numB x.r = false) : verB x = false := by
  unfold numB at h
  have h := of_decide_eq_false h
  unfold verB top
  rw [if_pos (by omega)]

theorem verB_m {x : Ver} (h : numB x.m = false) : verB x = false := by
  unfold numB at h
  have h := of_decide_eq_false h
  unfold verB top
  rw [if_pos (by omega)]

theorem verB_g {x : Ver} (h1 : numB x.r = true) (h2 : numB x.m = true) (hg : x.g = true) : verB x = decide (x = goneV x.r x.m) := by
  unfold numB at h1 h2
  have h1 := of_decide_eq_true h1
  have h2 := of_decide_eq_true h2
  unfold verB top
  rw [if_neg (by omega), if_pos hg, decide_eq_decide]
  obtain ⟨r, k, m, v, s, l, g⟩ := x
  obtain rfl : g = true := hg
  unfold goneV
  constructor
  · rintro ⟨h3, h4, h5, h6⟩
    obtain rfl : k = 0 := h3
    obtain rfl : v = 0 := h4
    obtain rfl : l = 0 := h5
    have h6 : s.size = 0 := h6
    obtain rfl : s = ⟨#[]⟩ := by
      obtain ⟨⟨d⟩⟩ := s
      cases d with
      | nil => rfl
      | cons b d => exact absurd h6 (by simp [ByteArray.size])
    rfl
  · intro e
    injection e with e1 e2 e3 e4 e5 e6 e7
    subst e2 e4 e5 e6
    exact ⟨rfl, rfl, rfl, rfl⟩

theorem verB_l {x : Ver} (h1 : numB x.r = true) (h2 : numB x.m = true) (hg : x.g = false) : verB x = (decide (1 ≤ x.k) && (decide (x.k ≤ x.m) && (numB x.v && (decide ((x.s.size : Int) ≤ 40) && (decide (-1099511627776 ≤ x.l) && decide (x.l ≤ 1099511627776)))))) := by
  unfold numB at h1 h2 ⊢
  have h1 := of_decide_eq_true h1
  have h2 := of_decide_eq_true h2
  unfold verB top
  rw [if_neg (by omega), if_neg (by rw [hg]; decide)]
  rw [Bool.eq_iff_iff]
  simp only [Bool.and_eq_true, decide_eq_true_eq]
  omega
end His

set_option maxRecDepth 100000 in
set_option maxHeartbeats 3200000 in
theorem verP_any (x : Ver) (w : World) : Calls Try.prog 100 #[verV x] w fun e w' => e = .returned (.bool (His.verB x)) ∧ Below w.heap.size w w' := by
  have hb : Below w.heap.size w (w.alloc (.cells #[.int .i64 x.r, .int .i64 x.k, .int .i64 x.m, .int .i64 x.v, .string x.s, .int .i64 x.l, .bool x.g] 37)) := (Below.refl _ _).alloc (Nat.le_refl _) _
  have hr := His.verB_r (x := x)
  have hm := His.verB_m (x := x)
  have hg := His.verB_g (x := x)
  have hl := His.verB_l (x := x)
  have hnr := fun W => numP_any x.r W
  have hnm := fun W => numP_any x.m W
  have hnv := fun W => numP_any x.v W
  have f1 := fun W => ver_eql x (His.goneV x.r x.m) W
  have f2 := ver_guard
  obtain ⟨VB, hVB⟩ : ∃ VB, His.verB x = VB := ⟨_, rfl⟩
  rw [hVB] at hr hm hg hl ⊢
  clear hVB
  have e0 : decide (x = His.goneV x.r x.m) = true ∨ decide (x = His.goneV x.r x.m) = false := by cases decide (x = His.goneV x.r x.m) <;> simp
  generalize decide (x = His.goneV x.r x.m) = eqg at *
  generalize His.numB x.r = nr at *
  generalize His.numB x.m = nm at *
  generalize His.numB x.v = nv at *
  clear e0
  dsimp only [verV, His.goneV] at f1 ⊢
  obtain ⟨r, k, m, v, s, l, g⟩ := x
  dsimp only at *
  cases nr with
  | false =>
    obtain rfl := hr rfl
    clear hr hm hg hl f1 f2 hnm hnv
    go_enter Try.func100, Try.ntmps100
    go_wp2_with fail
    refine (hnr _).mono ?_
    rintro e w1 ⟨rfl, rfl⟩
    go_wp2
    go_ret
    exact ⟨rfl, hb⟩
  | true =>
    cases nm with
    | false =>
      obtain rfl := hm rfl
      clear hr hm hg hl f1 f2 hnv
      go_enter Try.func100, Try.ntmps100
      go_wp2_with fail
      refine (hnr _).mono ?_
      rintro e w1 ⟨rfl, rfl⟩
      go_wp2_with fail
      refine (hnm _).mono ?_
      rintro e w1 ⟨rfl, rfl⟩
      go_wp2
      go_ret
      exact ⟨rfl, hb⟩
    | true =>
      cases g with
      | true =>
        obtain rfl := hg rfl rfl rfl
        clear hr hm hg hl hnv
        go_enter Try.func100, Try.ntmps100
        go_wp2_with fail
        refine (hnr _).mono ?_
        rintro e w1 ⟨rfl, rfl⟩
        go_wp2_with fail
        refine (hnm _).mono ?_
        rintro e w1 ⟨rfl, rfl⟩
        go_wp2
        go_ret
        exact ⟨rfl, hb⟩
      | false =>
        replace hl := hl rfl rfl rfl
        clear hr hm hg f1 f2
        by_cases h0 : 1 ≤ k
        case neg =>
          have e0 : decide (1 ≤ k) = false := decide_eq_false h0
          obtain rfl : VB = false := by rw [hl, e0]; simp
          clear hl
          clear h0
          go_enter Try.func100, Try.ntmps100
          go_wp2_with fail
          refine (hnr _).mono ?_
          rintro e w1 ⟨rfl, rfl⟩
          go_wp2_with fail
          refine (hnm _).mono ?_
          rintro e w1 ⟨rfl, rfl⟩
          go_wp2
          go_ret
          exact ⟨rfl, hb⟩
        have e0 : decide (1 ≤ k) = true := decide_eq_true h0
        by_cases h1 : k ≤ m
        case neg =>
          have e1 : decide (k ≤ m) = false := decide_eq_false h1
          obtain rfl : VB = false := by rw [hl, e1]; simp
          clear hl
          clear h0 h1
          go_enter Try.func100, Try.ntmps100
          go_wp2_with fail
          refine (hnr _).mono ?_
          rintro e w1 ⟨rfl, rfl⟩
          go_wp2_with fail
          refine (hnm _).mono ?_
          rintro e w1 ⟨rfl, rfl⟩
          go_wp2
          go_ret
          exact ⟨rfl, hb⟩
        have e1 : decide (k ≤ m) = true := decide_eq_true h1
        cases nv with
        | false =>
          obtain rfl : VB = false := by rw [hl]; simp
          clear hl
          go_enter Try.func100, Try.ntmps100
          go_wp2_with fail
          refine (hnr _).mono ?_
          rintro e w1 ⟨rfl, rfl⟩
          go_wp2_with fail
          refine (hnm _).mono ?_
          rintro e w1 ⟨rfl, rfl⟩
          go_wp2_with fail
          refine (hnv _).mono ?_
          rintro e w1 ⟨rfl, rfl⟩
          go_wp2
          go_ret
          exact ⟨rfl, hb⟩
        | true =>
          skip
          by_cases h3 : (s.size : Int) ≤ 40
          case neg =>
            have e3 : decide ((s.size : Int) ≤ 40) = false := decide_eq_false h3
            obtain rfl : VB = false := by rw [hl, e3]; simp
            clear hl
            clear h0 h1 h3
            go_enter Try.func100, Try.ntmps100
            go_wp2_with fail
            refine (hnr _).mono ?_
            rintro e w1 ⟨rfl, rfl⟩
            go_wp2_with fail
            refine (hnm _).mono ?_
            rintro e w1 ⟨rfl, rfl⟩
            go_wp2_with fail
            refine (hnv _).mono ?_
            rintro e w1 ⟨rfl, rfl⟩
            go_wp2
            go_ret
            exact ⟨rfl, hb⟩
          have e3 : decide ((s.size : Int) ≤ 40) = true := decide_eq_true h3
          by_cases h4 : -1099511627776 ≤ l
          case neg =>
            have e4 : decide (-1099511627776 ≤ l) = false := decide_eq_false h4
            obtain rfl : VB = false := by rw [hl, e4]; simp
            clear hl
            clear h0 h1 h3 h4
            go_enter Try.func100, Try.ntmps100
            go_wp2_with fail
            refine (hnr _).mono ?_
            rintro e w1 ⟨rfl, rfl⟩
            go_wp2_with fail
            refine (hnm _).mono ?_
            rintro e w1 ⟨rfl, rfl⟩
            go_wp2_with fail
            refine (hnv _).mono ?_
            rintro e w1 ⟨rfl, rfl⟩
            go_wp2
            go_ret
            exact ⟨rfl, hb⟩
          have e4 : decide (-1099511627776 ≤ l) = true := decide_eq_true h4
          by_cases h5 : l ≤ 1099511627776
          case neg =>
            have e5 : decide (l ≤ 1099511627776) = false := decide_eq_false h5
            obtain rfl : VB = false := by rw [hl, e5]; simp
            clear hl
            clear h0 h1 h3 h4 h5
            go_enter Try.func100, Try.ntmps100
            go_wp2_with fail
            refine (hnr _).mono ?_
            rintro e w1 ⟨rfl, rfl⟩
            go_wp2_with fail
            refine (hnm _).mono ?_
            rintro e w1 ⟨rfl, rfl⟩
            go_wp2_with fail
            refine (hnv _).mono ?_
            rintro e w1 ⟨rfl, rfl⟩
            go_wp2
            go_ret
            exact ⟨rfl, hb⟩
          have e5 : decide (l ≤ 1099511627776) = true := decide_eq_true h5
          obtain rfl : VB = true := by rw [hl, e0, e1, e3, e4, e5]; rfl
          clear hl
          clear h0 h1 h3 h4 h5
          go_enter Try.func100, Try.ntmps100
          go_wp2_with fail
          refine (hnr _).mono ?_
          rintro e w1 ⟨rfl, rfl⟩
          go_wp2_with fail
          refine (hnm _).mono ?_
          rintro e w1 ⟨rfl, rfl⟩
          go_wp2_with fail
          refine (hnv _).mono ?_
          rintro e w1 ⟨rfl, rfl⟩
          go_wp2
          go_ret
          exact ⟨rfl, hb⟩

end Go.Proofs.Ytcoddkbbgmjckaa
