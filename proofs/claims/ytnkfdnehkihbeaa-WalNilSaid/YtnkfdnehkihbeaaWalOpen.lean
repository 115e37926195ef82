/- Open of the program, by its contract: of a disk that isn't lost, with room for no more deeds asked. -/
import Derived.Test.YtnkfdnehkihbeaaWalLogB
import Derived.Test.YtnkfdnehkihbeaaWalProgE
namespace Go.Proofs.Ytnkfdnehkihbeaa
open Go.RowKit
set_option linter.unusedVariables false
set_option linter.unusedSimpArgs false

/-- What Scan tells of the file. -/
def Dsk.told (D : Dsk) (name : ByteArray) : List (List UInt8) × Nat := scanL (D.read name).1.data.toList
/-- The disk when what stands behind the records is cut off. -/
def Dsk.trim (D : Dsk) (name : ByteArray) : Dsk := if (D.told name).2 < (D.read name).1.size then (D.cut name ((D.told name).2 : Int)).1 else D

theorem open_none (w : World) (name : ByteArray) : Calls Try.prog 17 #[.pointer none, .string name] w fun e w' => e = .returned (.tuple #[.pointer none, .slice none 0 0, .int .i64 1]) ∧ w = w' := by
  go_enter Try.func17, Try.ntmps17
  go_wp2
  refine bodyPost_ret (results_tmp3 rfl _ _ _) rfl ?_
  exact ⟨rfl, rfl⟩

/-- What Open leaves. -/
def Opened (w w' : World) (d : Nat) (D : Dsk) (name : ByteArray) (Z : Nat → Prop) (e : Ending) (ls : List (List UInt8)) : Prop :=
  ∃ j A cap Z', e = .returned (.tuple #[jptr j, .slice A ls.length cap, .int .i64 0]) ∧ Lg w' j d D name (ls.length : Int) Z' ∧ Recs w' Z' A ls.length cap ls ∧ (∀ k, Z k → Z' k) ∧ (∀ k, Z k → k ≠ j) ∧ Keeps Z w w'

theorem opened_of {w w2 w3 : World} {d : Nat} {D D' : Dsk} {name : ByteArray} {Z : Nat → Prop} {A : Option Addr} {cap : Nat} {ls : List (List UInt8)} {fr : Nat × Nat} (h : Dk w d D Z) (hb : Below w.heap.size w w2) (hr : Recs w2 (w.heap.size ≤ ·) A ls.length cap ls) (hd : Did w2 w3 d D' (fun k => Z k ∨ w.heap.size ≤ k ∧ k < w2.heap.size)) :
    Opened w (w3.alloc (.cells #[dptr d, .string name, .int .i64 (ls.length : Int)] 77)) d D' name Z (.returned (.tuple #[jptr w3.heap.size, .slice A ls.length cap, .int .i64 0])) ls := by
  have hb3 : Below w3.heap.size w3 (w3.alloc (.cells #[dptr d, .string name, .int .i64 (ls.length : Int)] 77)) := (Below.refl _ _).alloc (Nat.le_refl _) _
  have hr3 : Recs w3 (fun k => Z k ∨ w.heap.size ≤ k ∧ k < w2.heap.size) A ls.length cap ls := by
    have : Recs w2 (fun k => Z k ∨ w.heap.size ≤ k ∧ k < w2.heap.size) A ls.length cap ls := by
      refine ⟨hr.1, hr.2.1, hr.2.2.1, fun h0 => ?_⟩
      obtain ⟨g, off, e, hg, hz, hc⟩ := hr.2.2.2 h0
      refine ⟨g, off, e, hg, .inr ⟨hz, hg⟩, fun i hi => ?_⟩
      obtain ⟨v, hv, E, c, ev, hc, hl, hz2⟩ := hc i hi
      refine ⟨v, hv, E, c, ev, hc, hl, fun h1 g2 off2 e2 => .inr ⟨hz2 h1 g2 off2 e2, ?_⟩⟩
      obtain ⟨g3, off3, e3, hg3, _⟩ := hl.2.2.2 h1
      rw [e2] at e3
      injection e3 with e3
      injection e3 with e3 _
      omega
    exact this.keeps hd.2 fun k hk => hk
  refine ⟨w3.heap.size, A, cap, _, rfl, ⟨heap_alloc_new _ _, hd.1.wide hb3, .inr ⟨Nat.le_refl _, by simp⟩⟩, (hr3.below hb3 (Nat.le_refl _)).mono fun k hk => .inl hk, fun k hk => .inl (.inl hk), fun k hk e => ?_, ?_⟩
  · have := h.old k hk
    have := hb.size
    have := hd.2.size
    omega
  · exact (keeps_below hb (Nat.le_refl _)).trans ((hd.2.mono fun k hk => .inl hk).trans (keeps_below hb3 (Nat.le_refl _)))

theorem open_any (w : World) (d : Nat) (D : Dsk) (Z : Nat → Prop) (h : Dk w d D Z) (name : ByteArray) (hn : name.size ≤ 11) (hR : (D.read name).2 = 0 ∨ (D.read name).2 = 6) (hC : (D.told name).2 < (D.read name).1.size → (D.cut name ((D.told name).2 : Int)).2 = 0) :
    Calls Try.prog 17 #[dptr d, .string name] w fun e w' => Opened w w' d (D.trim name) name Z e (D.told name).1 := by
  have hA := dsk_read w d D Z h name
  have hn11 : ((11 : Int) < (name.size : Int)) = False := eq_false (by omega)
  have hsz : (D.read name).1.size ≤ 1048576 := by
    have h1 := h.good.usedN
    have h2 := getF_used D.l name
    have h3 := usedF_parts D.l name
    unfold Dsk.read
    split
    · exact Nat.zero_le _
    · split
      · exact Nat.zero_le _
      · dsimp only; omega
  have hend := scanL_end (D.read name).1.data.toList
  have hlen : (D.read name).1.data.toList.length = (D.read name).1.size := size_list _
  unfold Dsk.trim at *
  unfold Dsk.told at *
  have hcut := fun w2 (hw : Dk w2 d D (fun k => Z k ∨ w.heap.size ≤ k ∧ k < w2.heap.size)) => dsk_cut w2 d D _ hw name ((scanL (D.read name).1.data.toList).2 : Int) (by omega)
  generalize hre : D.read name = r at *
  obtain ⟨bb, er⟩ := r
  dsimp only at *
  generalize hL : bb.data.toList = L at *
  have hScan := fun A cap w1 (hl : Lies w1 A bb.size cap L) => scan_any A bb.size cap L w1 hl (by omega)
  unfold ScanP at hScan
  generalize scanL L = sc at *
  obtain ⟨ls, en⟩ := sc
  dsimp only at *
  have HD := Lib.hid h
  have her2 : ((er : Int) != 0 && (er : Int) != 6) = false := by
    rcases hR with rfl | rfl <;> rfl
  by_cases hlt : en < bb.size
  · rw [if_pos hlt]
    have hc0 := hC hlt
    generalize D.cut name (en : Int) = rc at *
    obtain ⟨Dc, ec⟩ := rc
    dsimp only at *
    subst hc0
    have hlt' : (en : Int) < (bb.size : Int) := by omega
    clear hre hL hlen hend hC h hlt hsz hn
    rcases hR with rfl | rfl
    all_goals
      go_enter Try.func17, Try.ntmps17
      go_wp2_with fail
      refine hA.mono ?_
      rintro e w1 ⟨A1, cap1, rfl, hl1, hb1⟩
      have hS := hScan A1 cap1 w1 hl1
      clear hA hl1
      go_wp2_with fail
      refine hS.mono ?_
      rintro e w2 ⟨A2, cap2, rfl, hr2, hb2⟩
      have hb12 : Below w.heap.size w w2 := hb1.trans (hb2.mono hb1.size)
      have hr2' := hr2.mono (Z' := (w.heap.size ≤ ·)) fun k hk => Nat.le_trans hb1.size hk
      have hK := hcut w2 (Dk.wide HD hb12)
      clear hS hcut hScan hr2 hb2 hb1
      go_wp2_with fail
      refine hK.mono ?_
      rintro e w3 ⟨rfl, hd3⟩
      have HO := Lib.hid (opened_of (name := name) (fr := (0, 0)) HD hb12 hr2' hd3)
      clear hK hd3 hr2' hb12
      go_wp2
      refine bodyPost_ret (results_tmp3 rfl _ _ _) rfl ?_
      exact HO
  · rw [if_neg hlt]
    have hlt' : ((en : Int) < (bb.size : Int)) = False := eq_false (by omega)
    clear hre hL hlen hend hC h hlt hsz hn hcut
    rcases hR with rfl | rfl
    all_goals
      go_enter Try.func17, Try.ntmps17
      go_wp2_with fail
      refine hA.mono ?_
      rintro e w1 ⟨A1, cap1, rfl, hl1, hb1⟩
      have hS := hScan A1 cap1 w1 hl1
      clear hA hl1
      go_wp2_with fail
      refine hS.mono ?_
      rintro e w2 ⟨A2, cap2, rfl, hr2, hb2⟩
      have hb12 : Below w.heap.size w w2 := hb1.trans (hb2.mono hb1.size)
      have hr2' := hr2.mono (Z' := (w.heap.size ≤ ·)) fun k hk => Nat.le_trans hb1.size hk
      have HO := Lib.hid (opened_of (name := name) (fr := (0, 0)) HD hb12 hr2' (Did.refl (Dk.wide HD hb12)))
      clear hS hScan hr2 hb2 hb1 hr2' hb12
      go_wp2
      refine bodyPost_ret (results_tmp3 rfl _ _ _) rfl ?_
      exact HO

end Go.Proofs.Ytnkfdnehkihbeaa
