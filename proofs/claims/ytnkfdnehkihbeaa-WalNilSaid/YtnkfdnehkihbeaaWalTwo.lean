/- A disk of a log's file and its neighbour: what each deed makes of it. Plain mathematics. -/
import Derived.Test.YtnkfdnehkihbeaaWalLog
namespace Go.Proofs.Ytnkfdnehkihbeaa
set_option linter.unusedVariables false

/-- A file of that name, if it has bytes. -/
def fileN (nm : ByteArray) (v : List UInt8 × Nat) : List Fil := if v.1 = [] then [] else [⟨nm, ⟨v.1.toArray⟩, v.2⟩]
def nmF (i : Bool) : ByteArray := if i then ⟨#[97, 43]⟩ else ⟨#[97]⟩
/-- The log's file and its neighbour: their bytes, and how many of them are safe. -/
abbrev Two := Bool → List UInt8 × Nat
def Two.l (x : Two) : List Fil := fileN (nmF false) (x false) ++ fileN (nmF true) (x true)
def Two.set (x : Two) (i : Bool) (v : List UInt8 × Nat) : Two := fun j => if j = i then v else x j
def dkL (L : List Fil) (φ : Option Nat) (lost : Bool) : Dsk := ⟨1048576, L, φ.isSome, ((φ.getD 0 : Nat) : Int), lost⟩
/-- A deed with that fuse: none, where the power goes. -/
def fire : Option Nat → Option (Option Nat)
  | none => some none
  | some 0 => none
  | some (k + 1) => some (some k)

theorem next_nm : next (nmF false) = nmF true := by decide
theorem right_nm (i : Bool) : rightS (nmF i) = true := by cases i <;> decide
theorem lt_ab : ltS (nmF false) (nmF true) = true := by
  unfold ltS
  rw [ByteArray.toList_eq, ByteArray.toList_eq]
  decide
theorem lt_ba : ltS (nmF true) (nmF false) = false := by
  unfold ltS
  rw [ByteArray.toList_eq, ByteArray.toList_eq]
  decide
theorem lt_ii (i : Bool) : ltS (nmF i) (nmF i) = false := ltS_irr _
theorem nm_size (i : Bool) : (nmF i).size ≤ 2 := by cases i <;> decide

theorem filt1 (nm : ByteArray) (v : List UInt8 × Nat) (c : ByteArray) : (fileN nm v).filter (fun g => ltS g.name c) = if ltS nm c then fileN nm v else [] := by
  unfold fileN
  split
  · simp
  · simp only [List.filter_cons, List.filter_nil]
theorem filt2 (nm : ByteArray) (v : List UInt8 × Nat) (c : ByteArray) : (fileN nm v).filter (fun g => ltS c g.name) = if ltS c nm then fileN nm v else [] := by
  unfold fileN
  split
  · simp
  · simp only [List.filter_cons, List.filter_nil]

theorem two_put (x : Two) (i : Bool) (b : List UInt8) (s : Nat) : putF x.l ⟨nmF i, ⟨b.toArray⟩, s⟩ = (x.set i (b, s)).l := by
  have hf : (if 0 < (⟨b.toArray⟩ : ByteArray).size then [(⟨nmF i, ⟨b.toArray⟩, s⟩ : Fil)] else []) = fileN (nmF i) (b, s) := by
    unfold fileN
    cases b with
    | nil => rfl
    | cons c t => rfl
  unfold putF Two.l
  dsimp only
  rw [hf, List.filter_append, List.filter_append, filt1, filt1, filt2, filt2]
  cases i
  · simp [Two.set, lt_ab, lt_ba, lt_ii]
  · simp [Two.set, lt_ab, lt_ba, lt_ii]

theorem two_sort (x : Two) : x.l.Pairwise fun a b => ltS a.name b.name = true := by
  unfold Two.l fileN
  split <;> split <;> simp [lt_ab]

theorem two_get (x : Two) (i : Bool) : getF x.l (nmF i) = if (x i).1 = [] then (⟨nmF i, ByteArray.empty, 0⟩, false) else (⟨nmF i, ⟨(x i).1.toArray⟩, (x i).2⟩, true) := by
  have hne : nmF false ≠ nmF true := by decide
  split
  · rename_i h
    refine getF_none fun g hg => ?_
    unfold Two.l fileN at hg
    cases i
    · rw [if_pos h] at hg
      split at hg
      · cases hg
      · simp at hg; rw [hg]; exact hne.symm
    · rw [if_pos h] at hg
      split at hg
      · cases hg
      · simp at hg; rw [hg]; exact hne
  · rename_i h
    refine getF_mem (f := ⟨nmF i, ⟨(x i).1.toArray⟩, (x i).2⟩) (two_sort x) ?_
    unfold Two.l fileN
    cases i
    · rw [if_neg h]; simp
    · rw [if_neg h]; simp

theorem usedF_file (nm : ByteArray) (v : List UInt8 × Nat) : usedF (fileN nm v) = v.1.length := by
  unfold fileN
  split
  · rename_i h; rw [h]; rfl
  · rw [usedF_cons, usedF_nil]; rfl

theorem two_used (x : Two) : usedF x.l = (x false).1.length + (x true).1.length := by
  unfold Two.l
  rw [usedF_app, usedF_file, usedF_file]

theorem set_get (x : Two) (i : Bool) (v : List UInt8 × Nat) : x.set i v i = v := by simp [Two.set]
theorem set_ne (x : Two) (i j : Bool) (v : List UInt8 × Nat) (h : j ≠ i) : x.set i v j = x j := by simp [Two.set, h]
theorem set_set (x : Two) (i : Bool) (v u : List UInt8 × Nat) : (x.set i v).set i u = x.set i u := by
  funext j; simp only [Two.set]; split <;> rfl

theorem burn_dk (L : List Fil) (φ : Option Nat) : (dkL L φ false).burn = match fire φ with | none => dkL L (some 0) true | some ψ => dkL L ψ false := by
  cases φ with
  | none => rfl
  | some k =>
    cases k with
    | zero => rfl
    | succ k =>
      unfold Dsk.burn dkL fire
      dsimp only [Option.isSome, Option.getD]
      rw [if_neg (by simp <;> omega), if_pos (by simp <;> omega)]
      congr 1
      omega

theorem done_dk (L : List Fil) (φ : Option Nat) (f : Fil) (gone : ByteArray) : (dkL L φ false).done f gone = match fire φ with | none => (dkL L (some 0) true, 5) | some ψ => (dkL (putF (putF L ⟨gone, ByteArray.empty, 0⟩) f) ψ false, 0) := by
  unfold Dsk.done
  rw [burn_dk]
  cases fire φ <;> rfl

theorem may_dk (L : List Fil) (φ : Option Nat) (i j : Bool) : (dkL L φ false).may (nmF i) (nmF j) = 0 := by
  unfold Dsk.may dkL
  simp [right_nm]

abbrev dk (x : Two) (φ : Option Nat) (lost : Bool) : Dsk := dkL x.l φ lost

theorem two_safe (x : Two) (i : Bool) (h : (x i).2 ≤ (x i).1.length) : (getF x.l (nmF i)).1.b = ⟨(x i).1.toArray⟩ ∧ (getF x.l (nmF i)).1.safe = (x i).2 ∧ (getF x.l (nmF i)).1.name = nmF i := by
  rw [two_get]
  split
  · rename_i h0
    rw [h0] at h ⊢
    exact ⟨rfl, by dsimp only; simp at h; omega, rfl⟩
  · exact ⟨rfl, rfl, rfl⟩

theorem two_empty (x : Two) (i : Bool) : putF x.l ⟨nmF i, ByteArray.empty, 0⟩ = (x.set i ([], 0)).l := two_put x i [] 0

theorem append_dk (x : Two) (φ : Option Nat) (i : Bool) (b : List UInt8) (h : (x i).2 ≤ (x i).1.length) (hr : (x false).1.length + (x true).1.length + b.length ≤ 1048576) :
    (dk x φ false).append (nmF i) ⟨b.toArray⟩ = match fire φ with | none => (dk (x.set i ((x i).1 ++ b, (x i).2)) (some 0) true, 5) | some ψ => (dk (x.set i ((x i).1 ++ b, (x i).2)) ψ false, 0) := by
  obtain ⟨h1, h2, h3⟩ := two_safe x i h
  have hl : putF x.l { (getF x.l (nmF i)).1 with b := (getF x.l (nmF i)).1.b ++ ⟨b.toArray⟩ } = (x.set i ((x i).1 ++ b, (x i).2)).l := by
    rw [← two_put]
    congr 1
    generalize getF x.l (nmF i) = q at *
    obtain ⟨⟨qn, qb, qs⟩, _⟩ := q
    dsimp only at *
    rw [h1, h2, h3]
    have e : (⟨(x i).1.toArray⟩ : ByteArray) ++ ⟨b.toArray⟩ = ⟨((x i).1 ++ b).toArray⟩ := by
      apply WideShapes.bytes_inj
      simp
    rw [e]
  unfold Dsk.append
  rw [may_dk, if_neg (by simp), if_neg (by
    show ¬ ((1048576 : Int) < (usedF x.l : Int) + _)
    rw [two_used]
    show ¬ ((1048576 : Int) < _ + ((⟨b.toArray⟩ : ByteArray).size : Int))
    have : (⟨b.toArray⟩ : ByteArray).size = b.length := rfl
    rw [this]
    omega)]
  have e : ({ dkL x.l φ false with l := putF (dkL x.l φ false).l { (getF (dkL x.l φ false).l (nmF i)).1 with b := (getF (dkL x.l φ false).l (nmF i)).1.b ++ ⟨b.toArray⟩ } } : Dsk) = dkL (x.set i ((x i).1 ++ b, (x i).2)).l φ false := by
    rw [← hl]; rfl
  dsimp only
  rw [e, burn_dk]
  cases fire φ <;> rfl

theorem sync_dk (x : Two) (φ : Option Nat) (i : Bool) (h0 : (x i).1 ≠ []) :
    (dk x φ false).sync (nmF i) = match fire φ with | none => (dk x (some 0) true, 5) | some ψ => (dk (x.set i ((x i).1, (x i).1.length)) ψ false, 0) := by
  unfold Dsk.sync
  rw [may_dk, if_neg (by simp)]
  show (if (getF x.l (nmF i)).2 = false then _ else (dkL x.l φ false).done { (getF x.l (nmF i)).1 with safe := (getF x.l (nmF i)).1.b.size } (nmF i)) = _
  rw [two_get, if_neg h0, if_neg (by simp), done_dk, two_empty]
  cases fire φ with
  | none => rfl
  | some ψ =>
    have e := two_put (x.set i ([], 0)) i (x i).1 (x i).1.length
    rw [set_set] at e
    show (dkL (putF (x.set i ([], 0)).l ⟨nmF i, ⟨(x i).1.toArray⟩, (x i).1.length⟩) ψ false, 0) = _
    rw [e]

theorem remove_dk (x : Two) (φ : Option Nat) (i : Bool) :
    (dk x φ false).remove (nmF i) = if (x i).1 = [] then (dk x φ false, 6) else match fire φ with | none => (dk x (some 0) true, 5) | some ψ => (dk (x.set i ([], 0)) ψ false, 0) := by
  unfold Dsk.remove
  rw [may_dk, if_neg (by simp)]
  show (if (getF x.l (nmF i)).2 = false then _ else (dkL x.l φ false).done _ (nmF i)) = _
  rw [two_get]
  split
  · rfl
  · rw [if_neg (by simp), done_dk, two_empty, two_empty, set_set]

theorem rename_dk (x : Two) (φ : Option Nat) (h0 : (x true).1 ≠ []) (hs : (x true).2 = (x true).1.length) :
    (dk x φ false).rename (nmF true) (nmF false) = match fire φ with | none => (dk x (some 0) true, 5) | some ψ => (dk ((x.set true ([], 0)).set false (x true)) ψ false, 0) := by
  unfold Dsk.rename
  rw [may_dk, if_neg (by simp)]
  show (if (getF x.l (nmF true)).2 = false then _ else if (getF x.l (nmF true)).1.safe < (getF x.l (nmF true)).1.b.size then _ else (dkL x.l φ false).done { (getF x.l (nmF true)).1 with name := nmF false } (nmF true)) = _
  rw [two_get, if_neg h0, if_neg (by simp), if_neg (by
    show ¬ ((x true).2 < (x true).1.toArray.size)
    rw [hs]; simp), done_dk, two_empty]
  cases fire φ with
  | none => rfl
  | some ψ => dsimp only; rw [two_put]

/- behind a restart -/
theorem back_file (Y : Nat → Int) (len : Nat) (nm : ByteArray) (v : List UInt8 × Nat) (h : v.2 ≤ v.1.length) (rest : List Fil) (i : Nat) : ∃ k m, v.2 ≤ k ∧ k ≤ v.1.length ∧ backL Y len (fileN nm v ++ rest) i = fileN nm (v.1.take k, k) ++ backL Y len rest m := by
  obtain ⟨b, s⟩ := v
  dsimp only at *
  by_cases h0 : b = []
  · subst h0
    refine ⟨0, i, by simpa using h, Nat.le_refl _, ?_⟩
    simp [fileN]
  · have hz : (⟨b.toArray⟩ : ByteArray).size = b.length := rfl
    have e1 : fileN nm (b, s) = [⟨nm, ⟨b.toArray⟩, s⟩] := if_neg h0
    rw [e1]
    show ∃ k m, _ ∧ _ ∧ backL Y len (⟨nm, ⟨b.toArray⟩, s⟩ :: rest) i = _
    have eb : backL Y len (⟨nm, ⟨b.toArray⟩, s⟩ :: rest) i = if s = (⟨b.toArray⟩ : ByteArray).size then ⟨nm, ⟨b.toArray⟩, s⟩ :: backL Y len rest i else (if 0 < left1 Y len i ⟨nm, ⟨b.toArray⟩, s⟩ then [back1 Y len i ⟨nm, ⟨b.toArray⟩, s⟩] else []) ++ backL Y len rest (i + 1) := rfl
    rw [eb, hz]
    split
    · rename_i hs
      refine ⟨b.length, i, h, Nat.le_refl _, ?_⟩
      rw [List.take_length, fileN, if_neg h0, hs]
      rfl
    · have hk := left1_le Y len i ⟨nm, ⟨b.toArray⟩, s⟩ h
      unfold back1
      generalize left1 Y len i ⟨nm, ⟨b.toArray⟩, s⟩ = k at *
      dsimp only at *
      rw [hz] at hk
      refine ⟨k, i + 1, hk.1, hk.2, ?_⟩
      congr 1
      by_cases hk0 : k = 0
      · subst hk0
        simp [fileN]
      · rw [if_pos (by omega), fileN, if_neg (by
          intro e
          have := congrArg List.length e
          have hb : 0 < b.length := List.length_pos_iff.2 h0
          rw [List.length_take, List.length_nil] at this
          omega)]
        congr 2
        apply WideShapes.bytes_inj
        simp [List.extract_eq_take_drop]

theorem two_good (x : Two) (h : ∀ i, (x i).2 ≤ (x i).1.length) : GoodL x.l := by
  refine ⟨two_sort x, fun f hf => ?_⟩
  have key : ∀ i, f ∈ fileN (nmF i) (x i) → 0 < f.b.size ∧ f.safe ≤ f.b.size ∧ rightS f.name = true := fun i hf => by
    unfold fileN at hf
    split at hf
    · cases hf
    · rename_i h0
      obtain rfl : f = ⟨nmF i, ⟨(x i).1.toArray⟩, (x i).2⟩ := by simpa using hf
      exact ⟨List.length_pos_iff.2 h0, h i, right_nm i⟩
  rcases List.mem_append.1 hf with hf | hf
  · exact key false hf
  · exact key true hf

theorem restart_dk (x : Two) (φ : Option Nat) (lost : Bool) (Y : Nat → Int) (len : Nat) (h : ∀ i, (x i).2 ≤ (x i).1.length) :
    ∃ k : Bool → Nat, (∀ i, (x i).2 ≤ k i ∧ k i ≤ (x i).1.length) ∧ (dk x φ lost).restart Y len = dk (fun i => ((x i).1.take (k i), k i)) none false := by
  obtain ⟨k1, m1, h1, h2, e1⟩ := back_file Y len (nmF false) (x false) (h false) (fileN (nmF true) (x true)) 0
  obtain ⟨k2, m2, h3, h4, e2⟩ := back_file Y len (nmF true) (x true) (h true) [] m1
  refine ⟨fun i => if i then k2 else k1, fun i => by cases i; exact ⟨h1, h2⟩; exact ⟨h3, h4⟩, ?_⟩
  have e := restart_l (dk x φ lost) Y len (two_good x h)
  have e3 : backL Y len x.l 0 = fileN (nmF false) ((x false).1.take k1, k1) ++ fileN (nmF true) ((x true).1.take k2, k2) := by
    unfold Two.l
    rw [e1]
    congr 1
    rw [List.append_nil] at e2
    rw [e2]
    simp [backL]
  have e4 : ((dk x φ lost).restart Y len) = ⟨1048576, ((dk x φ lost).restart Y len).l, false, 0, false⟩ := rfl
  rw [e4, e]
  show (⟨1048576, backL Y len x.l 0, false, 0, false⟩ : Dsk) = _
  rw [e3]
  rfl

end Go.Proofs.Ytnkfdnehkihbeaa
