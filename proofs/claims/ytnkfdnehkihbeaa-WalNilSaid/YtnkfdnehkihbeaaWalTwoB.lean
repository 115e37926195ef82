/- What a log's calls make of a disk of its file and the neighbour. Plain mathematics. -/
import Derived.Test.YtnkfdnehkihbeaaWalTwo
import Derived.Test.YtnkfdnehkihbeaaWalOpen
namespace Go.Proofs.Ytnkfdnehkihbeaa
set_option linter.unusedVariables false

/-- All safe bytes are there. -/
def okT (x : Two) : Prop := ∀ i, (x i).2 ≤ (x i).1.length

/-- How a call ended: done, with no fuse where there was none; or the power went. -/
def Ends (φ ψ : Option Nat) (lost : Bool) (e : Nat) (yes no : Prop) : Prop :=
  (e = 0 ∧ lost = false ∧ yes ∧ (φ = none → ψ = none)) ∨ (e = 5 ∧ lost = true ∧ no ∧ φ ≠ none)

theorem fire_none {φ : Option Nat} (h : fire φ = none) : φ ≠ none := by
  rintro rfl; cases h

theorem fire_some {φ ψ : Option Nat} (h : fire φ = some ψ) : φ = none → ψ = none := by
  rintro rfl
  injection h with h
  exact h.symm

theorem set_id (x : Two) (i : Bool) (v : List UInt8 × Nat) (h : x i = v) : x.set i v = x := by
  funext j
  unfold Two.set
  split
  · rename_i e; rw [e, h]
  · rfl

theorem wrote_dk (x : Two) (φ : Option Nat) (i : Bool) (b : List UInt8) (hb : b ≠ []) (h : okT x) (hr : (x false).1.length + (x true).1.length + b.length ≤ 1048576) :
    ∃ ψ lost s e, (dk x φ false).wrote (nmF i) ⟨b.toArray⟩ = (dk (x.set i ((x i).1 ++ b, s)) ψ lost, e) ∧ Ends φ ψ lost e (s = ((x i).1 ++ b).length) (s = (x i).2) := by
  have hA := append_dk x φ i b (h i) hr
  have hne : ((x.set i ((x i).1 ++ b, (x i).2)) i).1 ≠ [] := by
    rw [set_get]
    intro e
    exact hb (List.append_eq_nil_iff.1 e).2
  unfold Dsk.wrote
  cases hf : fire φ with
  | none =>
    rw [hf] at hA
    dsimp only at hA
    rw [hA, if_pos (by simp)]
    exact ⟨some 0, true, (x i).2, 5, rfl, .inr ⟨rfl, rfl, rfl, fire_none hf⟩⟩
  | some ψ =>
    rw [hf] at hA
    dsimp only at hA
    rw [hA, if_neg (by simp)]
    have hS := sync_dk (x.set i ((x i).1 ++ b, (x i).2)) ψ i hne
    dsimp only
    cases hf2 : fire ψ with
    | none =>
      rw [hf2] at hS
      dsimp only at hS
      rw [hS]
      refine ⟨some 0, true, (x i).2, 5, rfl, .inr ⟨rfl, rfl, rfl, ?_⟩⟩
      rintro rfl
      rw [fire_some hf rfl] at hf2
      cases hf2
    | some χ =>
      rw [hf2] at hS
      dsimp only at hS
      rw [hS, set_set, set_get]
      exact ⟨χ, false, _, 0, rfl, .inl ⟨rfl, rfl, rfl, fun e => fire_some hf2 (fire_some hf e)⟩⟩

theorem gone_dk (x : Two) (φ : Option Nat) (i : Bool) (h : okT x) :
    ∃ ψ lost y e, (dk x φ false).gone (nmF i) = (dk y ψ lost, e) ∧ Ends φ ψ lost e (y = x.set i ([], 0)) (y = x) := by
  have hR := remove_dk x φ i
  unfold Dsk.gone
  by_cases h0 : (x i).1 = []
  · rw [if_pos h0] at hR
    rw [hR]
    refine ⟨φ, false, x, 0, rfl, .inl ⟨rfl, rfl, ?_, id⟩⟩
    have h1 := h i
    rw [h0] at h1
    exact (set_id x i _ (Prod.ext h0 (by simpa using h1))).symm
  · rw [if_neg h0] at hR
    cases hf : fire φ with
    | none =>
      rw [hf] at hR
      rw [hR]
      exact ⟨some 0, true, x, 5, rfl, .inr ⟨rfl, rfl, rfl, fire_none hf⟩⟩
    | some ψ =>
      rw [hf] at hR
      rw [hR]
      exact ⟨ψ, false, _, 0, rfl, .inl ⟨rfl, rfl, rfl, fire_some hf⟩⟩

theorem okT_set {x : Two} (h : okT x) (i : Bool) (v : List UInt8 × Nat) (hv : v.2 ≤ v.1.length) : okT (x.set i v) := by
  intro j
  unfold Two.set
  split
  · exact hv
  · exact h j

theorem replaced_dk (x : Two) (φ : Option Nat) (b : List UInt8) (h : okT x) (hr : (x false).1.length + (x true).1.length + b.length ≤ 1048576) :
    ∃ ψ lost y e, (dk x φ false).replaced (nmF false) ⟨b.toArray⟩ = (dk y ψ lost, e) ∧ okT y ∧ Ends φ ψ lost e (y false = (b, b.length) ∧ y true = ([], 0)) (y false = x false ∧ (y true).1.length ≤ (x true).1.length + b.length) := by
  obtain ⟨ψ1, l1, y1, e1, h1, hE1⟩ := gone_dk x φ true h
  unfold Dsk.replaced
  rw [next_nm, h1]
  have hsz : (⟨b.toArray⟩ : ByteArray).size = b.length := rfl
  rcases hE1 with ⟨rfl, rfl, rfl, hn1⟩ | ⟨rfl, rfl, rfl, hn1⟩
  · rw [if_neg (by simp), hsz]
    dsimp only
    have hok1 := okT_set h true ([], 0) (Nat.le_refl _)
    have hf : (x.set true ([], 0)) false = x false := set_ne _ _ _ _ (by decide)
    by_cases hb : b = []
    · subst hb
      rw [if_pos List.length_nil]
      obtain ⟨ψ2, l2, y2, e2, h2, hE2⟩ := gone_dk _ ψ1 false hok1
      rw [h2]
      rcases hE2 with ⟨rfl, rfl, rfl, hn2⟩ | ⟨rfl, rfl, rfl, hn2⟩
      · refine ⟨ψ2, false, _, 0, rfl, okT_set hok1 _ _ (Nat.le_refl _), .inl ⟨rfl, rfl, ⟨set_get _ _ _, ?_⟩, fun e => hn2 (hn1 e)⟩⟩
        rw [set_ne _ _ _ _ (by decide), set_get]
      · refine ⟨ψ2, true, _, 5, rfl, hok1, .inr ⟨rfl, rfl, ⟨hf, ?_⟩, fun e => hn2 (hn1 e)⟩⟩
        rw [set_get]
        exact Nat.zero_le _
    · have hbl : 0 < b.length := List.length_pos_iff.2 hb
      rw [if_neg (by omega)]
      have hx1 : (x.set true ([], 0)) true = ([], 0) := set_get _ _ _
      obtain ⟨ψ2, l2, s2, e2, h2, hE2⟩ := wrote_dk _ ψ1 true b hb hok1 (by rw [hf, hx1]; simp; omega)
      rw [h2, set_set, hx1]
      rcases hE2 with ⟨rfl, rfl, rfl, hn2⟩ | ⟨rfl, rfl, rfl, hn2⟩
      · rw [if_neg (by simp)]
        dsimp only
        rw [hx1]
        simp only [List.nil_append]
        have hy : (x.set true (b, b.length)) true = (b, b.length) := set_get _ _ _
        have hR := rename_dk (x.set true (b, b.length)) ψ2 (by rw [hy]; exact hb) (by rw [hy])
        rw [hR]
        cases hf3 : fire ψ2 with
        | none =>
          refine ⟨some 0, true, _, 5, rfl, okT_set h _ _ (Nat.le_refl _), .inr ⟨rfl, rfl, ⟨set_ne _ _ _ _ (by decide), ?_⟩, fun e => ?_⟩⟩
          · rw [hy]; dsimp only; omega
          · rw [hn2 (hn1 e)] at hf3; cases hf3
        | some χ =>
          refine ⟨χ, false, _, 0, rfl, okT_set (okT_set (okT_set h _ _ (Nat.le_refl _)) _ _ (Nat.le_refl _)) _ _ ?_, .inl ⟨rfl, rfl, ⟨?_, ?_⟩, fun e => fire_some hf3 (hn2 (hn1 e))⟩⟩
          · rw [hy]; exact Nat.le_refl _
          · rw [set_get, hy]
          · rw [set_ne _ _ _ _ (by decide), set_get]
      · rw [if_pos (by simp)]
        rw [hx1]
        simp only [List.nil_append]
        refine ⟨ψ2, true, _, 5, rfl, okT_set h _ _ (Nat.zero_le _), .inr ⟨rfl, rfl, ⟨set_ne _ _ _ _ (by decide), ?_⟩, fun e => hn2 (hn1 e)⟩⟩
        rw [set_get]; dsimp only; omega
  · rw [if_pos (by simp)]
    refine ⟨ψ1, true, _, 5, rfl, h, .inr ⟨rfl, rfl, ⟨rfl, Nat.le_add_right _ _⟩, hn1⟩⟩

theorem added_dk (x : Two) (φ : Option Nat) (ls : List (List UInt8)) (h : okT x) (hs : (x false).2 = (x false).1.length) (hr : (x false).1.length + (x true).1.length + (framesL ls).length ≤ 1048576) :
    ∃ ψ lost s e, (dk x φ false).added (nmF false) ls = (dk (x.set false ((x false).1 ++ framesL ls, s)) ψ lost, e) ∧ Ends φ ψ lost e (s = ((x false).1 ++ framesL ls).length) (s = (x false).2) := by
  unfold Dsk.added
  by_cases h0 : ls = []
  · subst h0
    rw [if_pos rfl]
    refine ⟨φ, false, (x false).2, 0, ?_, .inl ⟨rfl, rfl, by rw [hs]; simp [framesL], id⟩⟩
    rw [set_id x false _ (by simp [framesL])]
  · rw [if_neg h0]
    refine wrote_dk x φ false _ ?_ h hr
    cases ls with
    | nil => exact absurd rfl h0
    | cons r t =>
      intro e
      have := congrArg List.length e
      rw [framesL_cons, List.length_append, frameL_length] at this
      simp at this

theorem read_dk (x : Two) (φ : Option Nat) (i : Bool) : (dk x φ false).read (nmF i) = if (x i).1 = [] then (ByteArray.empty, 6) else (⟨(x i).1.toArray⟩, 0) := by
  unfold Dsk.read
  rw [may_dk, if_neg (by simp)]
  show (if (getF x.l (nmF i)).2 = false then _ else ((getF x.l (nmF i)).1.b, 0)) = _
  rw [two_get]
  split <;> rfl

theorem told_dk (x : Two) (φ : Option Nat) (i : Bool) : ((dk x φ false).read (nmF i)).1.data.toList = (x i).1 ∧ ((dk x φ false).read (nmF i)).1.size = (x i).1.length ∧ (((dk x φ false).read (nmF i)).2 = 0 ∨ ((dk x φ false).read (nmF i)).2 = 6) := by
  rw [read_dk]
  split
  · rename_i h; rw [h]; exact ⟨rfl, rfl, .inr rfl⟩
  · exact ⟨rfl, rfl, .inl rfl⟩

theorem cut_dk (x : Two) (i : Bool) (n : Nat) (hn : n < (x i).1.length) : ((dk x none false).cut (nmF i) (n : Int)).2 = 0 := by
  have h0 : (x i).1 ≠ [] := by
    intro e; rw [e] at hn; simp at hn
  unfold Dsk.cut
  rw [may_dk, if_neg (by simp)]
  show (if (getF x.l (nmF i)).2 = false then _ else if (n : Int) < 0 ∨ ((getF x.l (nmF i)).1.b.size : Int) < (n : Int) then _ else (dkL x.l none false).done _ (nmF i)).2 = _
  rw [two_get, if_neg h0, if_neg (by simp), if_neg (by
    rintro (h | h)
    · omega
    · have : ((⟨(x i).1.toArray⟩ : ByteArray).size : Int) < (n : Int) := h
      have e : (⟨(x i).1.toArray⟩ : ByteArray).size = (x i).1.length := rfl
      rw [e] at this
      omega), done_dk]
  rfl

theorem fuse_dk (x : Two) (n : Nat) : (dk x none false).fuse (n : Int) = (dk x (some n) false, 0) := by
  unfold Dsk.fuse
  show (if false = true then _ else if (n : Int) < 0 then _ else _) = _
  rw [if_neg (by simp), if_neg (by omega)]
  rfl

/-- What is told of a log's frames behind which frames are cut off. -/
theorem told_cut (ls more : List (List UInt8)) (h1 : fit ls) (h2 : fit more) (k : Nat) (hk : (framesL ls).length ≤ k) (hk2 : k ≤ (framesL ls ++ framesL more).length) :
    ∃ j, j ≤ more.length ∧ (scanL ((framesL ls ++ framesL more).take k)).1 = ls ++ more.take j ∧ (k = (framesL ls ++ framesL more).length → j = more.length) := by
  rw [List.length_append] at hk2
  obtain ⟨j, hj, hs, _, hall⟩ := scanL_cut more h2 (k - (framesL ls).length) (by omega)
  refine ⟨j, hj, ?_, fun e => hall (by rw [List.length_append] at e; omega)⟩
  rw [List.take_append, List.take_of_length_le hk, scanL_frames ls h1, hs]

end Go.Proofs.Ytnkfdnehkihbeaa
