/- What holds of a disk whatever is done with it: its files in order, each of a byte at least, no more of them than there is room. Plain mathematics. -/
import Derived.Test.YtkgkllhocmedoaaDskMath
namespace Go.Proofs.Ytkgkllhocmedoaa
set_option linter.unusedVariables false

theorem usedF_app (a b : List Fil) : usedF (a ++ b) = usedF a + usedF b := by simp [usedF]
theorem usedF_cons (f : Fil) (l : List Fil) : usedF (f :: l) = f.b.size + usedF l := by simp [usedF]
theorem usedF_nil : usedF [] = 0 := rfl

theorem isN_name {name : ByteArray} {f : Fil} (h : isN name f = true) : f.name = name := by
  unfold isN at h
  have h' : f.name.toList = name.toList := by simpa using h
  rw [ByteArray.toList_eq, ByteArray.toList_eq] at h'
  exact WideShapes.bytes_inj h'

/-- All bytes are those of what stands ahead of a name, of that name, and behind it. -/
theorem usedF_parts (l : List Fil) (name : ByteArray) : usedF l = usedF (l.filter fun g => ltS g.name name) + usedF (l.filter (isN name)) + usedF (l.filter fun g => ltS name g.name) := by
  induction l with
  | nil => rfl
  | cons g l ih =>
    simp only [List.filter_cons, usedF_cons]
    cases h1 : ltS g.name name with
    | true =>
      have h2 : isN name g = false := by
        cases hq : isN name g with
        | false => rfl
        | true => rw [isN_name hq, ltS_irr] at h1; cases h1
      rw [h2, ltS_asymm h1]
      simp only [if_true, usedF_cons, Bool.false_eq_true, if_false]
      omega
    | false =>
      cases h2 : ltS name g.name with
      | true =>
        have h3 : isN name g = false := by unfold isN; exact ltS_ne h2
        rw [h3]
        simp only [if_true, usedF_cons, Bool.false_eq_true, if_false]
        omega
      | false =>
        have h3 : isN name g = true := by unfold isN; rw [ltS_con h1 h2]; simp
        rw [h3]
        simp only [if_true, usedF_cons, Bool.false_eq_true, if_false]
        omega

theorem usedF_put (l : List Fil) (f : Fil) : usedF (putF l f) + usedF (l.filter (isN f.name)) = usedF l + f.b.size := by
  have h := usedF_parts l f.name
  unfold putF
  rw [usedF_app, usedF_app]
  split
  · simp only [usedF_cons, usedF_nil]; omega
  · simp only [usedF_nil]; omega

theorem getF_some (l : List Fil) (name : ByteArray) (h : (getF l name).2 = true) : (getF l name).1 ∈ l ∧ (getF l name).1.name = name := by
  unfold getF at *
  cases hq : l.find? (isN name) with
  | none => rw [hq] at h; cases h
  | some f => exact ⟨List.mem_of_find?_eq_some hq, isN_name (List.find?_some hq)⟩

theorem getF_name (l : List Fil) (name : ByteArray) : (getF l name).1.name = name := by
  unfold getF
  cases hq : l.find? (isN name) with
  | none => rfl
  | some f => exact isN_name (List.find?_some hq)

theorem getF_used (l : List Fil) (name : ByteArray) : (getF l name).1.b.size ≤ usedF (l.filter (isN name)) := by
  unfold getF
  cases hq : l.find? (isN name) with
  | none => simp
  | some f =>
    have hm : f ∈ l.filter (isN name) := List.mem_filter.2 ⟨List.mem_of_find?_eq_some hq, List.find?_some hq⟩
    dsimp only
    generalize l.filter (isN name) = q at hm
    induction q with
    | nil => cases hm
    | cons g q ih =>
      rw [usedF_cons]
      rcases List.mem_cons.1 hm with rfl | hm
      · omega
      · have := ih hm; omega

/-- Files in order, each of a byte at least, with no more safe bytes than it has. -/
structure GoodL (l : List Fil) : Prop where
  sort : l.Pairwise fun a b => ltS a.name b.name = true
  each : ∀ f ∈ l, 0 < f.b.size ∧ f.safe ≤ f.b.size ∧ rightS f.name = true

structure Good (D : Dsk) : Prop where
  room : 0 ≤ D.room ∧ D.room ≤ 1048576
  fils : GoodL D.l
  used : (usedF D.l : Int) ≤ D.room
  n : 0 ≤ D.n ∧ D.n ≤ 9223372036854775807

theorem len_used (l : List Fil) (h : ∀ f ∈ l, 0 < f.b.size) : l.length ≤ usedF l := by
  induction l with
  | nil => simp
  | cons f l ih =>
    rw [usedF_cons, List.length_cons]
    have := h f List.mem_cons_self
    have := ih fun g hg => h g (List.mem_cons_of_mem _ hg)
    omega

theorem Good.len {D : Dsk} (h : Good D) : D.l.length ≤ 1048576 := by
  have := len_used D.l fun f hf => (h.fils.each f hf).1
  have := h.used
  have := h.room
  omega

theorem Good.usedN {D : Dsk} (h : Good D) : usedF D.l ≤ 1048576 := by
  have := h.used
  have := h.room
  omega

theorem GoodL.put {l : List Fil} (h : GoodL l) (f : Fil) (hf : f.safe ≤ f.b.size) (hr : 0 < f.b.size → rightS f.name = true) : GoodL (putF l f) := by
  refine ⟨?_, fun g hg => ?_⟩
  · unfold putF
    rw [List.pairwise_append]
    refine ⟨h.sort.filter _, ?_, fun a ha b hb => ?_⟩
    · rw [List.pairwise_append]
      refine ⟨?_, h.sort.filter _, fun a ha b hb => ?_⟩
      · split <;> simp
      · obtain rfl : a = f := by
          split at ha
          · simpa using ha
          · cases ha
        exact (List.mem_filter.1 hb).2
    · have ha' := (List.mem_filter.1 ha).2
      rcases List.mem_append.1 hb with hb | hb
      · obtain rfl : b = f := by
          split at hb
          · simpa using hb
          · cases hb
        exact ha'
      · exact ltS_trans ha' (List.mem_filter.1 hb).2
  · unfold putF at hg
    rcases List.mem_append.1 hg with hg | hg
    · exact h.each g (List.mem_filter.1 hg).1
    · rcases List.mem_append.1 hg with hg | hg
      · split at hg
        · obtain rfl : g = f := by simpa using hg
          have hp : 0 < g.b.size := by assumption
          exact ⟨hp, hf, hr hp⟩
        · cases hg
      · exact h.each g (List.mem_filter.1 hg).1

theorem GoodL.get {l : List Fil} (h : GoodL l) (name : ByteArray) : (getF l name).1.safe ≤ (getF l name).1.b.size := by
  cases hq : (getF l name).2 with
  | true => exact (h.each _ (getF_some l name hq).1).2.1
  | false =>
    unfold getF at *
    cases h2 : l.find? (isN name) with
    | none => simp
    | some f => rw [h2] at hq; cases hq

theorem Good.burn {D : Dsk} (h : Good D) : Good D.burn := by
  unfold Dsk.burn
  split
  · exact ⟨h.room, h.fils, h.used, h.n⟩
  · split
    · rename_i h2
      have : 0 < D.n := by simp at h2; exact h2.2
      exact ⟨h.room, h.fils, h.used, ⟨by show 0 ≤ D.n - 1; omega, by show D.n - 1 ≤ _; have := h.n; omega⟩⟩
    · exact h

/-- A file goes, and one comes that has no more bytes than that one, or than what stands there. -/
theorem Good.done {D : Dsk} (h : Good D) (f : Fil) (gone : ByteArray) (hf : f.safe ≤ f.b.size) (hr : 0 < f.b.size → rightS f.name = true) (hs : f.b.size ≤ usedF (D.l.filter (isN gone))) : Good (D.done f gone).1 := by
  have hb := h.burn
  have hl : D.burn.l = D.l := by unfold Dsk.burn; split <;> (try split) <;> rfl
  unfold Dsk.done
  split
  · exact hb
  · refine ⟨hb.room, ?_, ?_, hb.n⟩
    · exact (hb.fils.put _ (Nat.zero_le _) (fun h => absurd h (by simp))).put f hf hr
    · show (usedF (putF (putF D.burn.l ⟨gone, ByteArray.empty, 0⟩) f) : Int) ≤ D.burn.room
      have h1 := usedF_put (putF D.burn.l ⟨gone, ByteArray.empty, 0⟩) f
      have h2 := usedF_put D.burn.l ⟨gone, ByteArray.empty, 0⟩
      have h3 := hb.used
      dsimp only at h2
      rw [hl] at h1 h2 h3 ⊢
      simp at h2
      omega

theorem may_ok {D : Dsk} {a b : ByteArray} (h : ¬ D.may a b ≠ 0) : D.lost = false ∧ rightS a = true ∧ rightS b = true := by
  have h0 : D.may a b = 0 := Decidable.not_not.1 h
  unfold Dsk.may at h0
  split at h0
  · omega
  · split at h0
    · rename_i h1 h2
      simp only [Bool.and_eq_true] at h2
      exact ⟨by simpa using h1, h2.1, h2.2⟩
    · omega

theorem Good.sync {D : Dsk} (h : Good D) (name : ByteArray) : Good (D.sync name).1 := by
  unfold Dsk.sync
  split
  · exact h
  · rename_i hm
    split
    · exact h
    · exact h.done _ _ (Nat.le_refl _) (fun _ => by dsimp only; rw [getF_name]; exact (may_ok hm).2.1) (getF_used _ _)

theorem Good.remove {D : Dsk} (h : Good D) (name : ByteArray) : Good (D.remove name).1 := by
  unfold Dsk.remove
  split
  · exact h
  · split
    · exact h
    · exact h.done _ _ (Nat.zero_le _) (fun h => absurd h (by simp)) (by simp)

theorem Good.rename {D : Dsk} (h : Good D) (a b : ByteArray) : Good (D.rename a b).1 := by
  unfold Dsk.rename
  split
  · exact h
  · rename_i hm
    split
    · exact h
    · split
      · exact h
      · exact h.done _ _ (h.fils.get a) (fun _ => (may_ok hm).2.2) (getF_used _ _)

theorem extract_size (s : ByteArray) (k : Nat) (h : k ≤ s.size) : (s.extract 0 k).size = k := by
  simp; omega

theorem Good.cut {D : Dsk} (h : Good D) (name : ByteArray) (z : Int) : Good (D.cut name z).1 := by
  unfold Dsk.cut
  split
  · exact h
  · rename_i hm
    split
    · exact h
    · split
      · exact h
      · rename_i hz
        have hk : z.toNat ≤ (getF D.l name).1.b.size := by omega
        have he := extract_size _ _ hk
        refine h.done _ _ ?_ (fun _ => by dsimp only; rw [getF_name]; exact (may_ok hm).2.1) ?_
        · dsimp only; omega
        · dsimp only; have := getF_used D.l name; omega

theorem Good.append {D : Dsk} (h : Good D) (name s : ByteArray) : Good (D.append name s).1 := by
  unfold Dsk.append
  split
  · exact h
  · rename_i hm
    split
    · exact h
    · rename_i hr
      have hg : Good { D with l := putF D.l { (getF D.l name).1 with b := (getF D.l name).1.b ++ s } } := by
        refine ⟨h.room, h.fils.put _ ?_ (fun _ => by dsimp only; rw [getF_name]; exact (may_ok hm).2.1), ?_, h.n⟩
        · have := h.fils.get name
          simp; omega
        · have h1 := usedF_put D.l { (getF D.l name).1 with b := (getF D.l name).1.b ++ s }
          have h2 : (getF D.l name).1.b.size ≤ usedF (D.l.filter (isN (getF D.l name).1.name)) := by rw [getF_name]; exact getF_used _ _
          dsimp only at h1 ⊢
          simp only [ByteArray.size_append] at h1
          omega
      dsimp only
      split <;> exact hg.burn

theorem Good.fuse {D : Dsk} (h : Good D) (z : Int) (hz : z ≤ 9223372036854775807) : Good (D.fuse z).1 := by
  unfold Dsk.fuse
  split
  · exact h
  · split
    · exact h
    · exact ⟨h.room, h.fils, h.used, by dsimp only; omega⟩

/- restart -/

/-- The files behind a restart, one by one. -/
def backL (Z : Nat → Int) (len : Nat) : List Fil → Nat → List Fil
  | [], _ => []
  | f :: l, i => if f.safe = f.b.size then f :: backL Z len l i else (if 0 < left1 Z len i f then [back1 Z len i f] else []) ++ backL Z len l (i + 1)

theorem left1_le (Z : Nat → Int) (len i : Nat) (f : Fil) (h : f.safe ≤ f.b.size) : f.safe ≤ left1 Z len i f ∧ left1 Z len i f ≤ f.b.size := by
  have := stays_lt Z len i ((f.b.size : Int) - (f.safe : Int) + 1) (by omega)
  unfold left1
  omega

theorem back1_size (Z : Nat → Int) (len i : Nat) (f : Fil) (h : f.safe ≤ f.b.size) : (back1 Z len i f).b.size = left1 Z len i f := extract_size _ _ (left1_le Z len i f h).2

/-- Among files in order one is put anew: those ahead of it and behind it stay. -/
theorem putF_mid (p q : List Fil) (f g : Fil) (hp : ∀ a ∈ p, ltS a.name f.name = true) (hq : ∀ a ∈ q, ltS f.name a.name = true) (hn : g.name = f.name) :
    putF (p ++ f :: q) g = p ++ ((if 0 < g.b.size then [g] else []) ++ q) := by
  have f1 : p.filter (fun a => ltS a.name f.name) = p := List.filter_eq_self.2 hp
  have f2 : q.filter (fun a => ltS a.name f.name) = [] := List.filter_eq_nil_iff.2 fun a ha => by rw [ltS_asymm (hq a ha)]; decide
  have f3 : p.filter (fun a => ltS f.name a.name) = [] := List.filter_eq_nil_iff.2 fun a ha => by rw [ltS_asymm (hp a ha)]; decide
  have f4 : q.filter (fun a => ltS f.name a.name) = q := List.filter_eq_self.2 hq
  unfold putF
  rw [hn]
  simp only [List.filter_append, List.filter_cons, f1, f2, f3, f4, ltS_irr, Bool.false_eq_true, if_false, List.append_nil, List.nil_append]

theorem backL_name (Z : Nat → Int) (len : Nat) (l : List Fil) : ∀ i, ∀ g ∈ backL Z len l i, ∃ f ∈ l, g.name = f.name := by
  induction l with
  | nil => intro i g hg; cases hg
  | cons f l ih =>
    intro i g hg
    unfold backL at hg
    split at hg
    · rcases List.mem_cons.1 hg with rfl | hg
      · exact ⟨g, List.mem_cons_self, rfl⟩
      · obtain ⟨x, hx, e⟩ := ih i g hg; exact ⟨x, List.mem_cons_of_mem _ hx, e⟩
    · rcases List.mem_append.1 hg with hg | hg
      · split at hg
        · obtain rfl : g = back1 Z len i f := by simpa using hg
          exact ⟨f, List.mem_cons_self, rfl⟩
        · cases hg
      · obtain ⟨x, hx, e⟩ := ih (i + 1) g hg; exact ⟨x, List.mem_cons_of_mem _ hx, e⟩

/-- So many done, the others as they were. -/
theorem backSt_eq (Z : Nat → Int) (len : Nat) (l : List Fil) (h : GoodL l) : ∀ k, k ≤ l.length → ∃ p, (backSt Z len l k).2 = p ++ l.drop k ∧ (∀ g ∈ p, ∃ f ∈ l.take k, g.name = f.name) ∧ backL Z len l 0 = p ++ backL Z len (l.drop k) (backSt Z len l k).1 := by
  intro k
  induction k with
  | zero => intro _; exact ⟨[], by simp [backSt], by simp, by simp [backSt]⟩
  | succ k ih =>
    intro hk
    have hkl : k < l.length := by omega
    obtain ⟨p, h1, h2, h3⟩ := ih (by omega)
    have hd : l.drop k = l[k] :: l.drop (k + 1) := List.drop_eq_getElem_cons hkl
    have ht : l.take (k + 1) = l.take k ++ [l[k]] := List.take_succ_eq_append_getElem hkl
    have hlo : ∀ a ∈ l.take k, ltS a.name l[k].name = true := by
      have := h.sort
      rw [← List.take_append_drop k l, List.pairwise_append, hd] at this
      exact fun a ha => this.2.2 a ha _ List.mem_cons_self
    have hhi : ∀ a ∈ l.drop (k + 1), ltS l[k].name a.name = true := by
      have := h.sort
      rw [← List.take_append_drop k l, List.pairwise_append, hd, List.pairwise_cons] at this
      exact this.2.1.1
    have hpl : ∀ a ∈ p, ltS a.name l[k].name = true := fun a ha => by
      obtain ⟨f, hf, e⟩ := h2 a ha
      rw [e]; exact hlo f hf
    have hsf := (h.each l[k] (List.getElem_mem hkl)).2.1
    by_cases hfe : l[k].safe = l[k].b.size
    · rw [backSt_no Z len l k hkl hfe]
      refine ⟨p ++ [l[k]], by rw [h1, hd]; simp, fun g hg => ?_, ?_⟩
      · rw [ht]
        rcases List.mem_append.1 hg with hg | hg
        · obtain ⟨f, hf, e⟩ := h2 g hg
          exact ⟨f, List.mem_append_left _ hf, e⟩
        · obtain rfl : g = l[k] := by simpa using hg
          exact ⟨_, List.mem_append_right _ (by simp), rfl⟩
      · rw [h3, hd]
        conv => lhs; unfold backL
        rw [if_pos hfe]; simp
    · rw [backSt_yes Z len l k hkl hfe]
      have hm := putF_mid p (l.drop (k + 1)) l[k] (back1 Z len (backSt Z len l k).1 l[k]) hpl hhi rfl
      rw [back1_size _ _ _ _ hsf] at hm
      refine ⟨p ++ (if 0 < left1 Z len (backSt Z len l k).1 l[k] then [back1 Z len (backSt Z len l k).1 l[k]] else []), by dsimp only; rw [h1, hd, hm, List.append_assoc], fun g hg => ?_, ?_⟩
      · rw [ht]
        rcases List.mem_append.1 hg with hg | hg
        · obtain ⟨f, hf, e⟩ := h2 g hg
          exact ⟨f, List.mem_append_left _ hf, e⟩
        · split at hg
          · obtain rfl : g = back1 Z len (backSt Z len l k).1 l[k] := by simpa using hg
            exact ⟨l[k], List.mem_append_right _ (by simp), rfl⟩
          · cases hg
      · rw [h3, hd]
        conv => lhs; unfold backL
        rw [if_neg hfe, List.append_assoc]

theorem restart_l (D : Dsk) (Z : Nat → Int) (len : Nat) (h : GoodL D.l) : (D.restart Z len).l = backL Z len D.l 0 := by
  obtain ⟨p, h1, _, h3⟩ := backSt_eq Z len D.l h D.l.length (Nat.le_refl _)
  show (backSt Z len D.l D.l.length).2 = _
  rw [h1, h3]
  simp [backL]

theorem backL_used (Z : Nat → Int) (len : Nat) (l : List Fil) (h : ∀ f ∈ l, f.safe ≤ f.b.size) : ∀ i, usedF (backL Z len l i) ≤ usedF l ∧ (backL Z len l i).length ≤ l.length := by
  induction l with
  | nil => intro i; exact ⟨Nat.le_refl _, Nat.le_refl _⟩
  | cons f l ih =>
    intro i
    have hf := h f List.mem_cons_self
    have hi := ih fun g hg => h g (List.mem_cons_of_mem _ hg)
    unfold backL
    split
    · have := hi i
      rw [usedF_cons, usedF_cons, List.length_cons, List.length_cons]; omega
    · have := hi (i + 1)
      have hb := back1_size Z len i f hf
      have hl := left1_le Z len i f hf
      rw [usedF_app, List.length_append, usedF_cons, List.length_cons]
      split
      · rw [usedF_cons, usedF_nil, hb]; simp; omega
      · rw [usedF_nil]; simp; omega

theorem backL_good (Z : Nat → Int) (len : Nat) (l : List Fil) : GoodL l → ∀ i, GoodL (backL Z len l i) := by
  induction l with
  | nil => intro h i; exact h
  | cons f l ih =>
    intro h i
    have hl : GoodL l := ⟨(List.pairwise_cons.1 h.sort).2, fun g hg => h.each g (List.mem_cons_of_mem _ hg)⟩
    have hlt := (List.pairwise_cons.1 h.sort).1
    have hlo : ∀ i, ∀ g ∈ backL Z len l i, ltS f.name g.name = true := fun i g hg => by
      obtain ⟨x, hx, e⟩ := backL_name Z len l i g hg
      rw [e]; exact hlt x hx
    have hf := h.each f List.mem_cons_self
    unfold backL
    split
    · refine ⟨List.pairwise_cons.2 ⟨hlo i, (ih hl i).sort⟩, fun g hg => ?_⟩
      rcases List.mem_cons.1 hg with rfl | hg
      · exact hf
      · exact (ih hl i).each g hg
    · split
      · rename_i hp
        refine ⟨List.pairwise_cons.2 ⟨hlo (i + 1), (ih hl (i + 1)).sort⟩, fun g hg => ?_⟩
        rcases List.mem_cons.1 hg with rfl | hg
        · refine ⟨by rw [back1_size _ _ _ _ hf.2.1]; exact hp, ?_, hf.2.2⟩
          rw [back1_size _ _ _ _ hf.2.1]
          exact Nat.le_refl _
        · exact (ih hl (i + 1)).each g hg
      · exact ih hl (i + 1)

theorem Good.restart {D : Dsk} (h : Good D) (Z : Nat → Int) (len : Nat) : Good (D.restart Z len) := by
  have hl := restart_l D Z len h.fils
  have hu := (backL_used Z len D.l (fun f hf => (h.fils.each f hf).2.1) 0).1
  refine ⟨h.room, by rw [hl]; exact backL_good Z len D.l h.fils 0, ?_, by show (0 : Int) ≤ 0 ∧ (0 : Int) ≤ _; omega⟩
  rw [hl]
  show _ ≤ D.room
  have := h.used
  omega

/-- A file in a list in order is found by its name. -/
theorem getF_mem {l : List Fil} (h : l.Pairwise fun a b => ltS a.name b.name = true) {f : Fil} (hf : f ∈ l) : getF l f.name = (f, true) := by
  have : l.find? (isN f.name) = some f := by
    induction l with
    | nil => cases hf
    | cons g l ih =>
      rw [List.pairwise_cons] at h
      rw [List.find?_cons]
      rcases List.mem_cons.1 hf with rfl | hf
      · have : isN f.name f = true := by simp [isN]
        rw [this]
      · have : isN f.name g = false := by
          cases hq : isN f.name g with
          | false => rfl
          | true => have := h.1 f hf; rw [isN_name hq, ltS_irr] at this; cases this
        rw [this]
        exact ih h.2 hf
  simp [getF, this]

theorem getF_none {l : List Fil} {name : ByteArray} (h : ∀ g ∈ l, g.name ≠ name) : getF l name = (⟨name, ByteArray.empty, 0⟩, false) := by
  have : l.find? (isN name) = none := by
    rw [List.find?_eq_none]
    exact fun g hg hq => h g hg (isN_name hq)
  simp [getF, this]

/-- Behind a restart a file's safe bytes are as they were, and what it has is a beginning of what it had. -/
theorem backL_get (Z : Nat → Int) (len : Nat) (l : List Fil) : GoodL l → ∀ i, ∀ f ∈ l, ∃ n, f.safe ≤ n ∧ n ≤ f.b.size ∧
    ((0 < n ∧ ⟨f.name, f.b.extract 0 n, n⟩ ∈ backL Z len l i) ∨ (n = 0 ∧ ∀ g ∈ backL Z len l i, g.name ≠ f.name)) := by
  induction l with
  | nil => intro _ i f hf; cases hf
  | cons f l ih =>
    intro h i x hx
    have hl : GoodL l := ⟨(List.pairwise_cons.1 h.sort).2, fun g hg => h.each g (List.mem_cons_of_mem _ hg)⟩
    have hlt := (List.pairwise_cons.1 h.sort).1
    have hlo : ∀ i, ∀ g ∈ backL Z len l i, ltS f.name g.name = true := fun i g hg => by
      obtain ⟨y, hy, e⟩ := backL_name Z len l i g hg
      rw [e]; exact hlt y hy
    have hf := h.each f List.mem_cons_self
    rcases List.mem_cons.1 hx with rfl | hx
    · by_cases hfe : x.safe = x.b.size
      · refine ⟨x.b.size, by omega, Nat.le_refl _, .inl ⟨hf.1, ?_⟩⟩
        unfold backL
        rw [if_pos hfe]
        have e : (⟨x.name, x.b.extract 0 x.b.size, x.b.size⟩ : Fil) = x := by
          obtain ⟨xn, xb, xs⟩ := x
          dsimp only at *
          subst hfe
          simp
        rw [e]
        exact List.mem_cons_self
      · have hl1 := left1_le Z len i x hf.2.1
        refine ⟨left1 Z len i x, hl1.1, hl1.2, ?_⟩
        unfold backL
        rw [if_neg hfe]
        by_cases hp : 0 < left1 Z len i x
        · exact .inl ⟨hp, List.mem_append_left _ (by rw [if_pos hp]; exact List.mem_singleton.2 rfl)⟩
        · refine .inr ⟨by omega, fun g hg => ?_⟩
          rw [if_neg hp, List.nil_append] at hg
          have := hlo (i + 1) g hg
          intro e
          rw [e, ltS_irr] at this
          cases this
    · have hne : f.name ≠ x.name := fun e => by have := hlt x hx; rw [e, ltS_irr] at this; cases this
      by_cases hfe : f.safe = f.b.size
      · obtain ⟨n, h1, h2, h3⟩ := ih hl i x hx
        refine ⟨n, h1, h2, ?_⟩
        unfold backL
        rw [if_pos hfe]
        rcases h3 with ⟨h3, h4⟩ | ⟨h3, h4⟩
        · exact .inl ⟨h3, List.mem_cons_of_mem _ h4⟩
        · refine .inr ⟨h3, fun g hg => ?_⟩
          rcases List.mem_cons.1 hg with rfl | hg
          · exact hne
          · exact h4 g hg
      · obtain ⟨n, h1, h2, h3⟩ := ih hl (i + 1) x hx
        refine ⟨n, h1, h2, ?_⟩
        unfold backL
        rw [if_neg hfe]
        rcases h3 with ⟨h3, h4⟩ | ⟨h3, h4⟩
        · exact .inl ⟨h3, List.mem_append_right _ h4⟩
        · refine .inr ⟨h3, fun g hg => ?_⟩
          rcases List.mem_append.1 hg with hg | hg
          · split at hg
            · obtain rfl : g = back1 Z len i f := by simpa using hg
              exact hne
            · cases hg
          · exact h4 g hg

end Go.Proofs.Ytkgkllhocmedoaa
