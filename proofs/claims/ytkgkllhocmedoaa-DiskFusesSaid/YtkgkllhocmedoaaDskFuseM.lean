/- One file that is appended to until the fuse burns out. Plain mathematics. -/
import Derived.Test.YtkgkllhocmedoaaDskGood
namespace Go.Proofs.Ytkgkllhocmedoaa
set_option linter.unusedVariables false
set_option linter.unusedSimpArgs false

/-- The files of a disk that holds these bytes under one name, none of them safe. -/
def oneF (nm s : ByteArray) : List Fil := if 0 < s.size then [⟨nm, s, 0⟩] else []

theorem empty_of_size {s : ByteArray} (h : ¬ 0 < s.size) : s = ByteArray.empty := by
  apply ByteArray.ext
  apply Array.eq_empty_of_size_eq_zero
  have : s.data.size = s.size := rfl
  omega

theorem ltS_self (s : ByteArray) : ltS s s = false := by
  cases h : ltS s s with
  | false => rfl
  | true => have := ltS_asymm h; rw [h] at this; exact this

theorem isN_self (nm : ByteArray) (s : ByteArray) (k : Nat) : isN nm ⟨nm, s, k⟩ = true := by simp [isN]

theorem oneF_get (nm s : ByteArray) : (getF (oneF nm s) nm).1 = ⟨nm, s, 0⟩ ∧ (0 < s.size → (getF (oneF nm s) nm).2 = true) := by
  unfold oneF getF
  by_cases h : 0 < s.size
  · rw [if_pos h, List.find?_cons, isN_self]
    exact ⟨rfl, fun _ => rfl⟩
  · rw [if_neg h, empty_of_size h]
    exact ⟨rfl, fun h => absurd h (by simp)⟩

theorem oneF_used (nm s : ByteArray) : usedF (oneF nm s) = s.size := by
  unfold oneF usedF
  by_cases h : 0 < s.size
  · rw [if_pos h]; simp
  · rw [if_neg h]; simp; omega

theorem oneF_put (nm s t : ByteArray) : putF (oneF nm s) ⟨nm, t, 0⟩ = oneF nm t := by
  have e : ∀ g ∈ oneF nm s, g.name = nm := by
    intro g hg
    unfold oneF at hg
    split at hg
    · rw [List.mem_singleton.1 hg]
    · cases hg
  unfold putF
  rw [List.filter_eq_nil_iff.2, List.filter_eq_nil_iff.2]
  · simp [oneF]
  · intro g hg; rw [e g hg, ltS_self]; simp
  · intro g hg; rw [e g hg, ltS_self]; simp

/-- While the fuse lasts, and when it burns out. -/
theorem oneF_append {nm s b : ByteArray} {n : Nat} (hr : rightS nm = true) (hs : s.size + b.size ≤ 65536) :
    Dsk.append ⟨65536, oneF nm s, true, (n : Int), false⟩ nm b = if n = 0 then (⟨65536, oneF nm (s ++ b), true, 0, true⟩, 5) else (⟨65536, oneF nm (s ++ b), true, (n : Int) - 1, false⟩, 0) := by
  have hm : Dsk.may ⟨65536, oneF nm s, true, (n : Int), false⟩ nm nm = 0 := by simp [Dsk.may, hr]
  have hq : ¬ ((65536 : Int) < (s.size : Int) + (b.size : Int)) := by omega
  unfold Dsk.append
  simp only [hm, oneF_used, (oneF_get nm s).1, oneF_put, if_neg hq, ne_eq, not_true_eq_false, if_false]
  by_cases h0 : n = 0
  · subst h0
    simp [Dsk.burn]
  · have h1 : ¬ ((n : Int) = 0) := by omega
    have h2 : (0 : Int) < (n : Int) := by omega
    have h3 : 0 < n := by omega
    simp [Dsk.burn, h0, h1, h2, h3]

theorem lost_may {D : Dsk} (h : D.lost = true) (a b : ByteArray) : D.may a b = 5 := by simp [Dsk.may, h]
theorem lost_append {D : Dsk} (h : D.lost = true) (a b : ByteArray) : D.append a b = (D, 5) := by simp [Dsk.append, lost_may h]
theorem lost_read {D : Dsk} (h : D.lost = true) (a : ByteArray) : D.read a = (ByteArray.empty, 5) := by simp [Dsk.read, lost_may h]
theorem lost_sync {D : Dsk} (h : D.lost = true) (a : ByteArray) : D.sync a = (D, 5) := by simp [Dsk.sync, lost_may h]
theorem lost_remove {D : Dsk} (h : D.lost = true) (a : ByteArray) : D.remove a = (D, 5) := by simp [Dsk.remove, lost_may h]
theorem lost_cut {D : Dsk} (h : D.lost = true) (a : ByteArray) (n : Int) : D.cut a n = (D, 5) := by simp [Dsk.cut, lost_may h]
theorem lost_rename {D : Dsk} (h : D.lost = true) (a b : ByteArray) : D.rename a b = (D, 5) := by simp [Dsk.rename, lost_may h]
theorem lost_fuse {D : Dsk} (h : D.lost = true) (n : Int) : D.fuse n = (D, 5) := by simp [Dsk.fuse, h]

/-- Behind so many appends of one byte each. -/
def fuseAt (nm : ByteArray) (n : Nat) : Nat → Dsk
  | 0 => ⟨65536, [], true, (n : Int), false⟩
  | k + 1 => ((fuseAt nm n k).append nm ⟨#[UInt8.ofNat k]⟩).1

theorem fuseAt_is {nm : ByteArray} (hr : rightS nm = true) (n : Nat) (hn : n ≤ 300) : ∀ k, k ≤ 300 →
    (k ≤ n → ∃ s : ByteArray, s.size = k ∧ fuseAt nm n k = ⟨65536, oneF nm s, true, (n : Int) - (k : Int), false⟩) ∧
    (n < k → ∃ s : ByteArray, s.size = n + 1 ∧ fuseAt nm n k = ⟨65536, oneF nm s, true, 0, true⟩) := by
  intro k
  induction k with
  | zero => exact fun _ => ⟨fun _ => ⟨ByteArray.empty, rfl, by simp [fuseAt, oneF]⟩, fun h => absurd h (by omega)⟩
  | succ k ih =>
    intro hk
    obtain ⟨i1, i2⟩ := ih (by omega)
    have hb : ∀ s : ByteArray, (s ++ (⟨#[UInt8.ofNat k]⟩ : ByteArray)).size = s.size + 1 := fun s => by simp [ByteArray.size_append]; rfl
    have hb1 : (⟨#[UInt8.ofNat k]⟩ : ByteArray).size = 1 := rfl
    by_cases hle : k ≤ n
    · obtain ⟨s, hs, e⟩ := i1 hle
      have hA := oneF_append (n := n - k) hr (s := s) (b := ⟨#[UInt8.ofNat k]⟩) (by rw [hb1]; omega)
      rw [show ((n - k : Nat) : Int) = (n : Int) - (k : Int) by omega, ← e] at hA
      have e1 : fuseAt nm n (k + 1) = ((fuseAt nm n k).append nm ⟨#[UInt8.ofNat k]⟩).1 := rfl
      constructor
      · intro h
        refine ⟨_, (hb s).trans (by omega), ?_⟩
        rw [e1, hA, if_neg (by omega)]
        simp only [Dsk.mk.injEq, true_and, and_true]
        omega
      · intro h
        refine ⟨_, (hb s).trans (by omega), ?_⟩
        rw [e1, hA, if_pos (by omega)]
    · obtain ⟨s, hs, e⟩ := i2 (by omega)
      refine ⟨fun h => absurd h (by omega), fun _ => ⟨s, hs, ?_⟩⟩
      have e1 : fuseAt nm n (k + 1) = ((fuseAt nm n k).append nm ⟨#[UInt8.ofNat k]⟩).1 := rfl
      rw [e1, lost_append (by rw [e]), e]

theorem fuseAt_says {nm : ByteArray} (hr : rightS nm = true) (n : Nat) (hn : n ≤ 300) (k : Nat) (hk : k < 300) :
    ((fuseAt nm n k).append nm ⟨#[UInt8.ofNat k]⟩).2 = if k < n then 0 else 5 := by
  obtain ⟨i1, i2⟩ := fuseAt_is hr n hn k (by omega)
  have hb1 : (⟨#[UInt8.ofNat k]⟩ : ByteArray).size = 1 := rfl
  by_cases hle : k ≤ n
  · obtain ⟨s, hs, e⟩ := i1 hle
    have hA := oneF_append (n := n - k) hr (s := s) (b := ⟨#[UInt8.ofNat k]⟩) (by rw [hb1]; omega)
    rw [show ((n - k : Nat) : Int) = (n : Int) - (k : Int) by omega, ← e] at hA
    rw [hA]
    by_cases h : k < n
    · rw [if_neg (by omega), if_pos h]
    · rw [if_pos (by omega), if_neg h]
  · obtain ⟨s, hs, e⟩ := i2 (by omega)
    rw [lost_append (by rw [e]), if_neg (by omega)]

/-- Behind a restart that keeps all: as much as there was, and it takes more. -/
theorem oneF_restart {nm s : ByteArray} (hr : rightS nm = true) (n : Nat) (hs : s.size = n + 1) (hn : n ≤ 300) (Y : Nat → Int) (hY : Y 0 = (n : Int) + 1) (b : ByteArray) (hb : b.size ≤ 300) :
    ((Dsk.restart ⟨65536, oneF nm s, true, 0, true⟩ Y 1).read nm).2 = 0 ∧ ((Dsk.restart ⟨65536, oneF nm s, true, 0, true⟩ Y 1).read nm).1.size = n + 1 ∧
    ((Dsk.restart ⟨65536, oneF nm s, true, 0, true⟩ Y 1).append nm b).2 = 0 := by
  have h0 : 0 < s.size := by omega
  have hst : stays Y 1 0 ((s.size : Int) - ((0 : Nat) : Int) + 1) = n + 1 := by
    unfold stays
    rw [if_pos (by omega), hY, hs]
    rw [Int.emod_eq_of_lt (by omega) (by omega)]
    omega
  have hleft : left1 Y 1 0 ⟨nm, s, 0⟩ = n + 1 := by
    unfold left1
    simp only
    rw [hst]; omega
  have hbk : backSt Y 1 (oneF nm s) (oneF nm s).length = (1, [⟨nm, s.extract 0 (n + 1), n + 1⟩]) := by
    have hl : oneF nm s = [⟨nm, s, 0⟩] := if_pos h0
    rw [hl]
    show backSt Y 1 [⟨nm, s, 0⟩] 1 = _
    rw [backSt_yes Y 1 [⟨nm, s, 0⟩] 0 (by simp) (by simp; omega)]
    have e : back1 Y 1 0 ⟨nm, s, 0⟩ = ⟨nm, s.extract 0 (n + 1), n + 1⟩ := by
      unfold back1
      rw [hleft]
    have hz : (s.extract 0 (n + 1)).size = n + 1 := extract_size _ _ (by omega)
    simp only [backSt, List.getElem_cons_zero, e]
    congr 1
    unfold putF
    simp only [List.filter_cons, List.filter_nil, ltS_self, hz]
    simp
  have hz : (s.extract 0 (n + 1)).size = n + 1 := extract_size _ _ (by omega)
  have hD : Dsk.restart ⟨65536, oneF nm s, true, 0, true⟩ Y 1 = ⟨65536, [⟨nm, s.extract 0 (n + 1), n + 1⟩], false, 0, false⟩ := by
    unfold Dsk.restart
    simp only [hbk]
  rw [hD]
  generalize s.extract 0 (n + 1) = t at hz
  have hg : getF [⟨nm, t, n + 1⟩] nm = (⟨nm, t, n + 1⟩, true) := by
    unfold getF
    rw [List.find?_cons, isN_self]
  have hm : Dsk.may ⟨65536, [⟨nm, t, n + 1⟩], false, 0, false⟩ nm nm = 0 := by simp [Dsk.may, hr]
  have hread : Dsk.read ⟨65536, [⟨nm, t, n + 1⟩], false, 0, false⟩ nm = (t, 0) := by
    unfold Dsk.read
    simp [hm, hg]
  refine ⟨by rw [hread], by rw [hread]; exact hz, ?_⟩
  have hu : usedF [⟨nm, t, n + 1⟩] = n + 1 := by simp [usedF, hz]
  have hq : ¬ ((65536 : Int) < ((n + 1 : Nat) : Int) + (b.size : Int)) := by omega
  unfold Dsk.append
  simp only [hm, hu, if_neg hq, ne_eq, not_true_eq_false, if_false]
  simp [Dsk.burn]

end Go.Proofs.Ytkgkllhocmedoaa
