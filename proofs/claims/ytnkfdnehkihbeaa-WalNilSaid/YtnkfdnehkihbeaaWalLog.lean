/- A log in memory; write, remove, replace of the program's log, each by its contract. -/
import Derived.Test.YtnkfdnehkihbeaaWalDsk
import Derived.Test.YtnkfdnehkihbeaaWalRecs
import Derived.Deep.RegionWith
import Derived.Lib.Hide
namespace Go.Proofs.Ytnkfdnehkihbeaa
open Go.RowKit
set_option linter.unusedVariables false
set_option linter.unusedSimpArgs false

/-- Bytes go behind a file's others, and are safe. -/
def Dsk.wrote (D : Dsk) (name b : ByteArray) : Dsk × Nat := if (D.append name b).2 ≠ 0 then D.append name b else (D.append name b).1.sync name
/-- A file goes, if it is there. -/
def Dsk.gone (D : Dsk) (name : ByteArray) : Dsk × Nat := ((D.remove name).1, if (D.remove name).2 = 6 then 0 else (D.remove name).2)
/-- A name's neighbour. -/
def next (name : ByteArray) : ByteArray := name ++ ⟨#[43]⟩
/-- The file of that name has these bytes alone. -/
def Dsk.replaced (D : Dsk) (name b : ByteArray) : Dsk × Nat :=
  if (D.gone (next name)).2 ≠ 0 then D.gone (next name) else
  if b.size = 0 then (D.gone (next name)).1.gone name else
  if ((D.gone (next name)).1.wrote (next name) b).2 ≠ 0 then (D.gone (next name)).1.wrote (next name) b else
  ((D.gone (next name)).1.wrote (next name) b).1.rename (next name) name

abbrev jptr (j : Nat) : Value := .pointer (some ⟨j, 0, none⟩)

/-- A log on a disk. Its own block lies in Z. -/
structure Lg (w : World) (j d : Nat) (D : Dsk) (name : ByteArray) (n : Int) (Z : Nat → Prop) : Prop where
  box : w.heap[j]? = some (.cells #[dptr d, .string name, .int .i64 n] 77)
  dk : Dk w d D Z
  own : Z j

section
variable {w w' : World} {j d : Nat} {D D' : Dsk} {name : ByteArray} {n : Int} {Z : Nat → Prop}

theorem Lg.lt (h : Lg w j d D name n Z) : j < w.heap.size := hlt h.box

theorem Lg.below (h : Lg w j d D name n Z) (hb : Below w.heap.size w w') : Lg w' j d D name n Z :=
  ⟨(hb.block j h.lt).trans h.box, h.dk.below hb, h.own⟩

theorem Lg.did (h : Lg w j d D name n Z) (hd : Did w w' d D' Z) : Lg w' j d D' name n Z :=
  ⟨(hd.2.block j h.lt h.own).trans h.box, hd.1, h.own⟩

theorem Lg.cells (h : Lg w j d D name n Z) : w.cell? ⟨j, 0, none⟩ = some (dptr d) ∧ w.cell? ⟨j, 1, none⟩ = some (.string name) ∧ w.cell? ⟨j, 2, none⟩ = some (.int .i64 n) := (row3 h.box).1

theorem Did.refl (h : Dk w d D Z) : Did w w d D Z := ⟨h, Keeps.refl _ _⟩
theorem Did.trans {w2 : World} {D2 : Dsk} (h : Did w w' d D Z) (k : Did w' w2 d D2 Z) : Did w w2 d D2 Z := ⟨k.1, h.2.trans k.2⟩
theorem Did.low (h : Did w w' d D Z) {w0 : World} (hb : Below w0.heap.size w0 w) (hz : ∀ k, Z k → k < w0.heap.size) : Did w0 w' d D Z := ⟨h.1, (keeps_below hb (Nat.le_refl _)).trans h.2⟩
theorem Did.drew (h : Did w w' d D Z) : Did w.drew w' d D Z := ⟨h.1, ⟨h.2.os, h.2.tape, h.2.output, h.2.size, h.2.block⟩⟩
end

section
variable (w : World) (j d : Nat) (D : Dsk) (nm : ByteArray) (n : Int) (Z : Nat → Prop) (h : Lg w j d D nm n Z)
include h

theorem write_any (name : ByteArray) (A : Option Addr) (cap : Nat) (l : List UInt8) (hl : Lies w A l.length cap l) (hb : l.length ≤ 2147483647) (hz : 0 < l.length → ∀ g off, A = some ⟨g, off, none⟩ → Z g) :
    Calls Try.prog 34 #[jptr j, .string name, .slice A l.length cap] w fun e w' => e = .returned (.int .i64 (((D.wrote name ⟨l.toArray⟩).2 : Nat) : Int)) ∧ Did w w' d (D.wrote name ⟨l.toArray⟩).1 Z := by
  have hA := dsk_append w d D Z h.dk name A cap l hl hb
  obtain ⟨a0, _, _⟩ := h.cells
  unfold Dsk.wrote
  generalize hr : D.append name ⟨l.toArray⟩ = r at *
  obtain ⟨D1, e1⟩ := r
  dsimp only at hA ⊢
  by_cases he : e1 = 0
  · subst he
    rw [if_neg (by simp)]
    have HL := Lib.hid h
    clear hr hl h hz
    go_enter Try.func34, Try.ntmps34
    go_wp2_with fail
    refine hA.mono ?_
    rintro e w1 ⟨rfl, hd1⟩
    have hL1 := Lg.did HL hd1
    obtain ⟨b0, _, _⟩ := hL1.cells
    have hS := dsk_sync w1 d D1 Z hL1.dk name
    clear hA a0
    go_wp2_with fail
    refine hS.mono ?_
    rintro e w2 ⟨rfl, hd2⟩
    go_wp2
    go_ret
    exact ⟨rfl, hd1.trans hd2⟩
  · rw [if_pos he]
    have he' : ((e1 : Int) != 0) = true := by simp; omega
    have he2 : ((e1 : Int) = 0) = False := eq_false (by omega)
    clear hr hl h hz he
    go_enter Try.func34, Try.ntmps34
    go_wp2_with fail
    refine hA.mono ?_
    rintro e w1 ⟨rfl, hd1⟩
    clear hA a0
    go_wp2
    go_ret
    exact ⟨rfl, hd1⟩

theorem gone_any (name : ByteArray) :
    Calls Try.prog 57 #[jptr j, .string name] w fun e w' => e = .returned (.int .i64 (((D.gone name).2 : Nat) : Int)) ∧ Did w w' d (D.gone name).1 Z := by
  have hA := dsk_remove w d D Z h.dk name
  obtain ⟨a0, _, _⟩ := h.cells
  unfold Dsk.gone
  generalize D.remove name = r at *
  obtain ⟨D1, e1⟩ := r
  dsimp only at hA ⊢
  by_cases he : e1 = 6
  · subst he
    rw [if_pos rfl]
    clear h
    go_enter Try.func57, Try.ntmps57
    go_wp2_with fail
    refine hA.mono ?_
    rintro e w1 ⟨rfl, hd1⟩
    go_wp2
    go_ret
    exact ⟨rfl, hd1⟩
  · rw [if_neg he]
    have he2 : ((e1 : Int) = 6) = False := eq_false (by omega)
    have he3 : ((e1 : Int) == 6) = false := by simp [he2]
    clear h he
    go_enter Try.func57, Try.ntmps57
    go_wp2_with fail
    refine hA.mono ?_
    rintro e w1 ⟨rfl, hd1⟩
    go_wp2
    go_ret
    exact ⟨rfl, hd1⟩

theorem replace_any (A : Option Addr) (cap : Nat) (l : List UInt8) (hl : Lies w A l.length cap l) (hb : l.length ≤ 2147483647) (hz : 0 < l.length → ∀ g off, A = some ⟨g, off, none⟩ → Z g) (hn : nm.size ≤ 2147483647) :
    Calls Try.prog 41 #[jptr j, .slice A l.length cap] w fun e w' => e = .returned (.int .i64 (((D.replaced nm ⟨l.toArray⟩).2 : Nat) : Int)) ∧ Did w w' d (D.replaced nm ⟨l.toArray⟩).1 Z := by
  have hG := gone_any w j d D nm n Z h (next nm)
  obtain ⟨a0, a1, _⟩ := h.cells
  have hcat : ¬ ((9223372036854775807 : Nat) < nm.size + (⟨#[43]⟩ : ByteArray).size) := by
    have : (⟨#[43]⟩ : ByteArray).size = 1 := rfl
    omega
  have hcat1 : ¬ ((9223372036854775807 : Nat) < nm.size + 1) := by omega
  have hnx : nm ++ ⟨#[43]⟩ = next nm := rfl
  have hlsz : (⟨l.toArray⟩ : ByteArray).size = l.length := rfl
  unfold Dsk.replaced
  generalize D.gone (next nm) = r at *
  obtain ⟨D1, e1⟩ := r
  dsimp only at hG ⊢
  have HL := Lib.hid h
  by_cases he : e1 = 0
  · subst he
    rw [if_neg (by simp)]
    rw [hlsz]
    by_cases h0 : l.length = 0
    · rw [if_pos h0]
      clear hl h hz hlsz
      rw [h0]
      go_enter Try.func41, Try.ntmps41
      go_wp2_with fail
      refine hG.mono ?_
      rintro e w1 ⟨rfl, hd1⟩
      have hL1 := Lg.did HL hd1
      obtain ⟨b0, b1, _⟩ := hL1.cells
      have hS := gone_any w1 j d D1 nm n Z hL1 nm
      clear hG a0 a1
      go_wp2_with fail
      refine hS.mono ?_
      rintro e w2 ⟨rfl, hd2⟩
      go_wp2
      go_ret
      exact ⟨rfl, hd1.trans hd2⟩
    · rw [if_neg h0]
      have hW := fun w1 (hd1 : Did w w1 d D1 Z) => write_any w1 j d D1 nm n Z (Lg.did HL hd1) (next nm) A cap l (hl.keeps hd1.2 hz) hb hz
      have hR := fun (D2 : Dsk) w1 (hd1 : Did w w1 d D2 Z) => dsk_rename w1 d D2 Z hd1.1 (next nm) nm
      have hq : ((l.length : Int) = 0) = False := eq_false (by omega)
      have hq3 : ((l.length : Int) == 0) = false := beq_eq_false_iff_ne.2 (by omega)
      generalize D1.wrote (next nm) ⟨l.toArray⟩ = r at *
      obtain ⟨D2, e2⟩ := r
      dsimp only at hW ⊢
      generalize l.length = N at *
      clear hl h hz hlsz
      by_cases he : e2 = 0
      · subst he
        rw [if_neg (by simp)]
        go_enter Try.func41, Try.ntmps41
        go_wp2_with fail
        refine hG.mono ?_
        rintro e w1 ⟨rfl, hd1⟩
        have hW1 := hW w1 hd1
        clear hG a0 a1 hW
        go_wp2_with fail
        refine hW1.mono ?_
        rintro e w2 ⟨rfl, hd2⟩
        have hd12 := hd1.trans hd2
        have hL2 := Lg.did HL hd12
        obtain ⟨b0, b1, _⟩ := hL2.cells
        have hR2 := fun w3 (hw : Below w2.heap.size w2 w3) => hR D2 w3 (hd12.trans ⟨hd12.1.below hw, keeps_below hw (Nat.le_refl _)⟩)
        clear hW1 hR
        go_wp2
        go_region_with (go_at_call 58
                        refine (hR2 _ (by first | exact Below.refl _ _ | exact (Below.refl _ _).drew)).mono ?_
                        rintro e w4 ⟨rfl, hd4⟩)
        all_goals
          go_wp2
          go_ret
          exact ⟨rfl, hd12.trans ⟨hd4.1, ⟨hd4.2.os, hd4.2.tape, hd4.2.output, hd4.2.size, hd4.2.block⟩⟩⟩
      · rw [if_pos he]
        have he' : ((e2 : Int) != 0) = true := by simp; omega
        have he2 : ((e2 : Int) = 0) = False := eq_false (by omega)
        clear he
        go_enter Try.func41, Try.ntmps41
        go_wp2_with fail
        refine hG.mono ?_
        rintro e w1 ⟨rfl, hd1⟩
        have hW1 := hW w1 hd1
        clear hG a0 a1 hW hR
        go_wp2_with fail
        refine hW1.mono ?_
        rintro e w2 ⟨rfl, hd2⟩
        go_wp2
        go_ret
        exact ⟨rfl, hd1.trans hd2⟩
  · rw [if_pos he]
    have he' : ((e1 : Int) != 0) = true := by simp; omega
    have he2 : ((e1 : Int) = 0) = False := eq_false (by omega)
    clear hl h hz he
    go_enter Try.func41, Try.ntmps41
    go_wp2_with fail
    refine hG.mono ?_
    rintro e w1 ⟨rfl, hd1⟩
    clear hG a0 a1
    go_wp2
    go_ret
    exact ⟨rfl, hd1⟩
end

end Go.Proofs.Ytnkfdnehkihbeaa
