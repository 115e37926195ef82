/- Add, Reset, Len of the program's log, each by its contract. -/
import Derived.Test.YtnkfdnehkihbeaaWalLog
import Derived.Test.YtnkfdnehkihbeaaWalProgC
namespace Go.Proofs.Ytnkfdnehkihbeaa
open Go.RowKit
set_option linter.unusedVariables false
set_option linter.unusedSimpArgs false

/-- More records: what becomes of the disk, and how many there are then. -/
def Dsk.added (D : Dsk) (name : ByteArray) (ls : List (List UInt8)) : Dsk × Nat := if ls = [] then (D, 0) else D.wrote name ⟨(framesL ls).toArray⟩
def cnt (r : Dsk × Nat) (n m : Int) : Int := if r.2 = 0 then m else n

/-- What a call leaves of a log: all of Z is kept but its own block. -/
def LDid (w w' : World) (j d : Nat) (D : Dsk) (nm : ByteArray) (n : Int) (Z : Nat → Prop) : Prop := Lg w' j d D nm n Z ∧ Keeps (fun k => Z k ∧ k ≠ j) w w'

theorem ldid_of {w w1 w' : World} {j d : Nat} {D D' : Dsk} {nm : ByteArray} {n : Int} {Z : Nat → Prop} (h : Lg w j d D nm n Z) (hb : Below w.heap.size w w1) (hd : Did w1 w' d D' Z) : LDid w w' j d D' nm n Z :=
  ⟨(h.below hb).did hd, (keeps_below hb (Nat.le_refl _)).trans (hd.2.mono fun k hk => hk.1)⟩

/-- What was done to the disk with more blocks set apart. -/
theorem Did.mk' {w w' : World} {d : Nat} {D : Dsk} {Z Y : Nat → Prop} (h : Did w w' d D (fun k => Z k ∨ Y k)) : Did w w' d D Z := ⟨h.1.less fun k hk => .inl hk, h.2.mono fun k hk => .inl hk⟩

theorem LDid.store {w w' : World} {j d : Nat} {D : Dsk} {nm : ByteArray} {n m : Int} {Z : Nat → Prop} (h : LDid w w' j d D nm n Z) : LDid w (w'.setCell ⟨j, 2, none⟩ (.int .i64 m)) j d D nm m Z := by
  refine ⟨⟨?_, ?_, h.1.own⟩, h.2.trans (keeps_setCell _ _ _ fun q => q.2 rfl)⟩
  · exact setCell_at w' ⟨j, 2, none⟩ _ _ _ _ rfl h.1.box
  · exact h.1.dk.keep (by simp) fun k hk hz => Below.heap_setCell _ _ _ _ fun e => hz (by have e : k = j := e; rw [e]; exact h.1.own)

section
variable (w : World) (j d : Nat) (D : Dsk) (nm : ByteArray) (n : Int) (Z : Nat → Prop) (h : Lg w j d D nm n Z)

theorem len_nil : Calls Try.prog 23 #[.pointer none] w fun e w' => e = .returned (.int .i64 0) ∧ w = w' := by
  go_enter Try.func23, Try.ntmps23
  go_wp2
  go_ret
  exact ⟨rfl, rfl⟩

theorem add_nil (A : Option Addr) (len cap : Nat) : Calls Try.prog 18 #[.pointer none, .slice A len cap] w fun e w' => e = .returned (.int .i64 1) ∧ w = w' := by
  go_enter Try.func18, Try.ntmps18
  go_wp2
  go_ret
  exact ⟨rfl, rfl⟩

theorem reset_nil (A : Option Addr) (len cap : Nat) : Calls Try.prog 22 #[.pointer none, .slice A len cap] w fun e w' => e = .returned (.int .i64 1) ∧ w = w' := by
  go_enter Try.func22, Try.ntmps22
  go_wp2
  go_ret
  exact ⟨rfl, rfl⟩

theorem add_long (A : Option Addr) (len cap : Nat) (ns : List Nat) (hl : Lens w A ns) (hll : ns.length = len) (hm : len ≤ 1000000) (hf : ¬ ∀ n ∈ ns, n ≤ 60000) :
    Calls Try.prog 18 #[jptr j, .slice A len cap] w fun e w' => e = .returned (.int .i64 3) ∧ w = w' := by
  have hF := frames_over A len cap ns w hl hll hm hf
  go_enter Try.func18, Try.ntmps18
  go_wp2_with fail
  refine hF.mono ?_
  rintro e w1 ⟨rfl, rfl⟩
  go_wp2
  go_ret
  exact ⟨rfl, rfl⟩

theorem reset_long (A : Option Addr) (len cap : Nat) (ns : List Nat) (hl : Lens w A ns) (hll : ns.length = len) (hm : len ≤ 1000000) (hf : ¬ ∀ n ∈ ns, n ≤ 60000) :
    Calls Try.prog 22 #[jptr j, .slice A len cap] w fun e w' => e = .returned (.int .i64 3) ∧ w = w' := by
  have hF := frames_over A len cap ns w hl hll hm hf
  go_enter Try.func22, Try.ntmps22
  go_wp2_with fail
  refine hF.mono ?_
  rintro e w1 ⟨rfl, rfl⟩
  go_wp2
  go_ret
  exact ⟨rfl, rfl⟩

include h

theorem loglen_any : Calls Try.prog 23 #[jptr j] w fun e w' => e = .returned (.int .i64 n) ∧ w = w' := by
  obtain ⟨_, _, a2⟩ := h.cells
  go_enter Try.func23, Try.ntmps23
  go_wp2
  go_ret
  exact ⟨rfl, rfl⟩

theorem add_any (A : Option Addr) (len cap : Nat) (ls : List (List UInt8)) (hr : Recs w Z A len cap ls) (hm : len ≤ 30000) (hf : fit ls) (hn : 0 ≤ n ∧ n ≤ 1000000000) :
    Calls Try.prog 18 #[jptr j, .slice A len cap] w fun e w' => e = .returned (.int .i64 (((D.added nm ls).2 : Nat) : Int)) ∧ LDid w w' j d (D.added nm ls).1 nm (cnt (D.added nm ls) n (n + (ls.length : Int))) Z := by
  have hF := frames_any Z A len cap ls w hr (by omega) hf
  have hll := hr.1
  have hfl := framesL_len ls hf
  have HL := Lib.hid h
  have hold := h.dk.old
  unfold Dsk.added
  by_cases h0 : ls = []
  · subst h0
    obtain rfl : len = 0 := by simpa using hll.symm
    have e0 : framesL [] = [] := rfl
    rw [e0] at hF
    simp only [List.length_nil] at hF
    rw [if_pos rfl]
    clear hfl hll hr h
    go_enter Try.func18, Try.ntmps18
    go_wp2_with fail
    refine hF.mono ?_
    rintro e w1 ⟨A1, cap1, rfl, _, hb1⟩
    go_wp2
    go_ret
    refine ⟨rfl, ?_⟩
    have := ldid_of HL hb1 (Did.refl (Lg.below HL hb1).dk)
    simpa [cnt] using this
  · rw [if_neg h0]
    have hpos : 0 < (framesL ls).length := by
      cases ls with
      | nil => exact absurd rfl h0
      | cons r t => rw [framesL_cons, List.length_append, frameL_length]; omega
    have hW := fun (w1 : World) (hb : Below w.heap.size w w1) (A1 : Option Addr) (cap1 : Nat) (ho : Owns 5 w1 w.heap.size (.slice A1 (framesL ls).length cap1) (framesL ls)) =>
      write_any w1 j d D nm n _ ⟨((Lg.below HL hb).box), (Dk.wide (Lg.dk HL) hb), .inl (Lg.own HL)⟩ nm A1 cap1 (framesL ls) (by
        obtain ⟨A', cap', e, hl, _⟩ := lies_of_owns ho
        injection e with e1 e2 e3
        subst e1 e3
        exact hl) (by omega) (fun _ g off e => by
          refine .inr (ho.lt g ?_)
          rw [e]; rfl)
    generalize hbb : (⟨(framesL ls).toArray⟩ : ByteArray) = bb at hW ⊢
    generalize D.wrote nm bb = r at *
    obtain ⟨D1, e1⟩ := r
    dsimp only at hW ⊢
    obtain ⟨N, hN⟩ : ∃ N, (framesL ls).length = N := ⟨_, rfl⟩
    rw [hN] at hF hW hpos hfl
    have hq3 : ((N : Int) == 0) = false := beq_eq_false_iff_ne.2 (by omega)
    have hq4 : ((N : Int) = 0) = False := eq_false (by omega)
    rw [hll] at hfl ⊢
    have e5 : IntKind.i64.wrap (n + (len : Int)) = n + (len : Int) := IntWalk.i64_in _ (by omega)
    clear hfl hll hr h hN hpos hbb h0 hm hf
    by_cases he : e1 = 0
    · subst he
      have hc : cnt (D1, 0) n (n + (len : Int)) = n + (len : Int) := if_pos rfl
      rw [hc]
      clear hc
      go_enter Try.func18, Try.ntmps18
      go_wp2_with fail
      refine hF.mono ?_
      rintro e w1 ⟨A1, cap1, rfl, ho1, hb1⟩
      have hW1 := hW w1 hb1 A1 cap1 ho1
      obtain ⟨b0, b1, _⟩ := (Lg.below HL hb1).cells
      clear hF hW
      go_wp2_with fail
      refine hW1.mono ?_
      rintro e w2 ⟨rfl, hd2⟩
      have hL2 := ldid_of HL hb1 (Did.mk' hd2)
      obtain ⟨c0, c1, c2⟩ := hL2.1.cells
      have c2f : w2.frozen? ⟨j, 2, none⟩ = false := (row3 hL2.1.box).2.2.2
      have HL2 := Lib.hid hL2
      clear hW1 hL2 hd2 ho1 b0 b1 hb1
      go_wp2
      go_ret
      exact ⟨rfl, LDid.store HL2⟩
    · have hc : cnt (D1, e1) n (n + (len : Int)) = n := if_neg he
      rw [hc]
      have he' : ((e1 : Int) != 0) = true := by simp; omega
      have he2 : ((e1 : Int) = 0) = False := eq_false (by omega)
      clear hc he
      go_enter Try.func18, Try.ntmps18
      go_wp2_with fail
      refine hF.mono ?_
      rintro e w1 ⟨A1, cap1, rfl, ho1, hb1⟩
      have hW1 := hW w1 hb1 A1 cap1 ho1
      obtain ⟨b0, b1, _⟩ := (Lg.below HL hb1).cells
      clear hF hW
      go_wp2_with fail
      refine hW1.mono ?_
      rintro e w2 ⟨rfl, hd2⟩
      have hL2 := ldid_of HL hb1 (Did.mk' hd2)
      clear hW1 hd2 ho1 b0 b1 hb1
      go_wp2
      go_ret
      exact ⟨rfl, hL2⟩

theorem reset_any (A : Option Addr) (len cap : Nat) (ls : List (List UInt8)) (hr : Recs w Z A len cap ls) (hm : len ≤ 30000) (hf : fit ls) (hnm : nm.size ≤ 2147483647) :
    Calls Try.prog 22 #[jptr j, .slice A len cap] w fun e w' => e = .returned (.int .i64 (((D.replaced nm ⟨(framesL ls).toArray⟩).2 : Nat) : Int)) ∧ LDid w w' j d (D.replaced nm ⟨(framesL ls).toArray⟩).1 nm (cnt (D.replaced nm ⟨(framesL ls).toArray⟩) n (ls.length : Int)) Z := by
  have hF := frames_any Z A len cap ls w hr (by omega) hf
  have hll := hr.1
  have hfl := framesL_len ls hf
  have HL := Lib.hid h
  have hW := fun (w1 : World) (hb : Below w.heap.size w w1) (A1 : Option Addr) (cap1 : Nat) (ho : Owns 5 w1 w.heap.size (.slice A1 (framesL ls).length cap1) (framesL ls)) =>
    replace_any w1 j d D nm n _ ⟨((Lg.below HL hb).box), (Dk.wide (Lg.dk HL) hb), .inl (Lg.own HL)⟩ A1 cap1 (framesL ls) (by
      obtain ⟨A', cap', e, hl, _⟩ := lies_of_owns ho
      injection e with e1 e2 e3
      subst e1 e3
      exact hl) (by omega) (fun _ g off e => by
        refine .inr (ho.lt g ?_)
        rw [e]; rfl) hnm
  generalize hbb : (⟨(framesL ls).toArray⟩ : ByteArray) = bb at hW ⊢
  generalize D.replaced nm bb = r at *
  obtain ⟨D1, e1⟩ := r
  dsimp only at hW ⊢
  obtain ⟨N, hN⟩ : ∃ N, (framesL ls).length = N := ⟨_, rfl⟩
  rw [hN] at hF hW hfl
  rw [hll] at hfl ⊢
  clear hfl hll hr h hN hbb hm hf
  by_cases he : e1 = 0
  · subst he
    have hc : cnt (D1, 0) n (len : Int) = (len : Int) := if_pos rfl
    rw [hc]
    clear hc
    go_enter Try.func22, Try.ntmps22
    go_wp2_with fail
    refine hF.mono ?_
    rintro e w1 ⟨A1, cap1, rfl, ho1, hb1⟩
    have hW1 := hW w1 hb1 A1 cap1 ho1
    clear hF hW
    go_wp2_with fail
    refine hW1.mono ?_
    rintro e w2 ⟨rfl, hd2⟩
    have hL2 := ldid_of HL hb1 (Did.mk' hd2)
    obtain ⟨c0, c1, c2⟩ := hL2.1.cells
    have c2f : w2.frozen? ⟨j, 2, none⟩ = false := (row3 hL2.1.box).2.2.2
    have HL2 := Lib.hid hL2
    clear hW1 hL2 hd2 ho1 hb1
    go_wp2
    go_ret
    exact ⟨rfl, LDid.store HL2⟩
  · have hc : cnt (D1, e1) n (len : Int) = n := if_neg he
    rw [hc]
    have he' : ((e1 : Int) != 0) = true := by simp; omega
    have he2 : ((e1 : Int) = 0) = False := eq_false (by omega)
    clear hc he
    go_enter Try.func22, Try.ntmps22
    go_wp2_with fail
    refine hF.mono ?_
    rintro e w1 ⟨A1, cap1, rfl, ho1, hb1⟩
    have hW1 := hW w1 hb1 A1 cap1 ho1
    clear hF hW
    go_wp2_with fail
    refine hW1.mono ?_
    rintro e w2 ⟨rfl, hd2⟩
    have hL2 := ldid_of HL hb1 (Did.mk' hd2)
    clear hW1 hd2 ho1 hb1
    go_wp2
    go_ret
    exact ⟨rfl, hL2⟩
end

end Go.Proofs.Ytnkfdnehkihbeaa
