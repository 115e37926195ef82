/- frames and Frame of the program, each by its contract. -/
import Derived.Test.YtnkfdnehkihbeaaWalProgA
import Derived.Test.YtnkfdnehkihbeaaWalRecs
import Derived.Lib.Hide
import Derived.Deep.LoopGhost
namespace Go.Proofs.Ytnkfdnehkihbeaa
open Go.RowKit
set_option linter.unusedVariables false
set_option linter.unusedSimpArgs false

theorem owns_cap {T : TypeId} {w : World} {base n cap : Nat} {A : Option Addr} {l : List UInt8} (h : Owns T w base (.slice A n cap) l) : cap ≤ maxLen := by
  rcases h.2 with ⟨e, h0⟩ | ⟨g, cap', cur, e, hb, hg, hc, hm, hs, ht⟩
  · injection e with e1 e2 e3
    subst e3
    exact Nat.zero_le _
  · injection e with e1 e2 e3
    subst e3
    exact hm

/-- Slices of these lengths. -/
def Lens (w : World) (A : Option Addr) (ns : List Nat) : Prop := 0 < ns.length → ∃ g off, A = some ⟨g, off, none⟩ ∧ ∀ j (hj : j < ns.length), ∃ E c, w.cell? ⟨g, off + j, none⟩ = some (.slice E ns[j] c)

theorem Recs.lens {w : World} {Z : Nat → Prop} {A : Option Addr} {len cap : Nat} {ls : List (List UInt8)} (h : Recs w Z A len cap ls) : Lens w A (ls.map List.length) := fun h0 => by
  obtain ⟨g, off, e, hg, _, hc⟩ := h.2.2.2 (by rw [← h.1]; simpa using h0)
  refine ⟨g, off, e, fun j hj => ?_⟩
  obtain ⟨v, hv, E, c, rfl, _⟩ := hc j (by simpa using hj)
  exact ⟨E, c, by rw [hv, List.getElem_map]⟩

set_option maxHeartbeats 1000000 in
theorem frames_over (A : Option Addr) (len cap : Nat) (ns : List Nat) (w : World) (h : Lens w A ns) (hll : ns.length = len) (hm : len ≤ 1000000) (hf : ¬ ∀ n ∈ ns, n ≤ 60000) :
    Calls Try.prog 25 #[.slice A len cap] w fun e w' => e = .returned (.tuple #[.slice none 0 0, .int .i64 3]) ∧ w = w' := by
  have HF := Lib.hid hf
  clear hf
  go_enter Try.func25, Try.ntmps25
  go_wp2
  go_loop [4, 6, 13] (fun s r i => ∃ k z : Nat, k ≤ len ∧ i = .int .i64 (k : Int) ∧ s = .int .i64 (z : Int) ∧ z ≤ k * 60008 ∧ ∀ x ∈ ns.take k, x ≤ 60000) (fun _ _ i => len - (intOf i).toNat)
  case atStart => exact ⟨0, 0, by omega, rfl, rfl, by omega, fun x hx => by simp at hx⟩
  case round =>
    obtain ⟨k, z, hk, rfl, rfl, hz, hall⟩ := hrel
    by_cases hlt : k < len
    · have hlt' : (k : Int) < (len : Int) := by omega
      obtain ⟨g, off, rfl, hcs⟩ := h (by omega)
      obtain ⟨E, c, hcell⟩ := hcs k (by omega)
      have hnext : ∀ x ∈ ns.take (k + 1), x ≤ 60000 ∨ x = ns[k]'(by omega) := fun x hx => by
        rw [List.take_succ_eq_append_getElem (by omega)] at hx
        rcases List.mem_append.1 hx with hx | hx
        · exact .inl (hall x hx)
        · exact .inr (by simpa using hx)
      have HN := Lib.hid hnext
      generalize hrk : ns[k]'(by omega) = n at *
      clear hnext hcs
      by_cases hlong : 60000 < n
      · have hlong' : (60000 : Int) < (n : Int) := by omega
        clear hall HN hrk hz hll hlong hk hlt h
        go_wp2
        refine bodyPost_ret (results_tmp2 rfl _ _ _) rfl ?_
        exact ⟨rfl, rfl⟩
      · have hlong' : ((60000 : Int) < (n : Int)) = False := eq_false (by omega)
        have e1 : IntKind.i64.wrap (8 + (n : Int)) = ((8 + n : Nat) : Int) := by rw [IntWalk.i64_in _ (by omega)]; omega
        have e2 : IntKind.i64.wrap ((z : Int) + ((8 + n : Nat) : Int)) = ((z + (8 + n) : Nat) : Int) := by rw [IntWalk.i64_in _ (by omega)]; omega
        have e3 : IntKind.i64.wrap ((k : Int) + 1) = ((k + 1 : Nat) : Int) := by rw [IntWalk.i64_in _ (by omega)]; omega
        have hz2 : Hid (z + (8 + n) ≤ (k + 1) * 60008) := ⟨by omega⟩
        have hnn : Hid (n ≤ 60000) := ⟨by omega⟩
        generalize 8 + n = n8 at *
        generalize z + n8 = z2 at *
        clear hall hrk hz hll hlong h
        go_wp2
        go_round
        case rel => exact ⟨k + 1, z2, by omega, by go_num, rfl, hz2.out, fun x hx => (HN x hx).elim id fun e => by rw [e]; exact hnn.out⟩
        case measure => simp [intOf]; omega
    · obtain rfl : k = len := by omega
      exfalso
      apply HF
      intro x hx
      exact hall x (by rw [List.take_of_length_le (by omega)]; exact hx)

theorem frames_long (Z : Nat → Prop) (A : Option Addr) (len cap : Nat) (ls : List (List UInt8)) (w : World) (h : Recs w Z A len cap ls) (hm : len ≤ 1000000) (hf : ¬ fit ls) :
    Calls Try.prog 25 #[.slice A len cap] w fun e w' => e = .returned (.tuple #[.slice none 0 0, .int .i64 3]) ∧ w = w' :=
  frames_over A len cap _ w h.lens (by rw [List.length_map, h.1]) hm fun hq => hf fun r hr => hq _ (List.mem_map_of_mem hr)

/-- The frames that stand there when so many records are done. -/
structure FrAt (w wr : World) (ls : List (List UInt8)) (k : Nat) (v : Value) : Prop where
  own : Owns 5 wr w.heap.size v (framesL (ls.take k))
  below : Below w.heap.size w wr

set_option maxRecDepth 100000 in
set_option maxHeartbeats 4000000 in
theorem frames_any (Z : Nat → Prop) (A : Option Addr) (len cap : Nat) (ls : List (List UInt8)) (w : World) (h : Recs w Z A len cap ls) (hm : len ≤ 1000000) (hf : fit ls) :
    Calls Try.prog 25 #[.slice A len cap] w fun e w' => ∃ A' cap', e = .returned (.tuple #[.slice A' (framesL ls).length cap', .int .i64 0]) ∧ Owns 5 w' w.heap.size (.slice A' (framesL ls).length cap') (framesL ls) ∧ Below w.heap.size w w' := by
  have hll := h.1
  have hfl := framesL_len ls hf
  obtain ⟨i0, hi0, hz0, hz1, hz2⟩ := info_parts info_u8
  have hmk : ∀ (w1 : World) (n : Nat), n ≤ 100000000000 → (Instr.makeSlice 22 (.int .i64 0) (.int .i64 (n : Int))).run Try.prog w1 = .ok (.slice (some ⟨w1.heap.size, 0, none⟩) 0 n) (w1.alloc (.cells (madeCells #[.int .u8 0] (n * 1)) 5)) := fun w1 n hn => by
    have := run_make (P := Try.prog) w1 22 5 i0 _ Try.underlying22 hi0 hz0 .i64 .i64 0 (n : Int) (Int.le_refl _) (by omega) (by rw [hz2]; omega) (by omega)
    rw [hz1] at this
    exact this
  have HF := Lib.hid hf
  clear hf
  go_enter Try.func25, Try.ntmps25
  go_wp2
  go_loop [4, 6, 13] (fun s r i => ∃ k : Nat, k ≤ len ∧ i = .int .i64 (k : Int) ∧ s = .int .i64 (((framesL (ls.take k)).length : Nat) : Int)) (fun _ _ i => len - (intOf i).toNat)
  case atStart => exact ⟨0, by omega, rfl, by simp [framesL]⟩
  case round =>
    obtain ⟨k, hk, rfl, rfl⟩ := hrel
    by_cases hlt : k < len
    · have hlt' : (k : Int) < (len : Int) := by omega
      obtain ⟨g, off, E, c, rfl, hg, _, hcell, hc, hl⟩ := h.at_ k hlt
      have h60 := fit_at HF k (by omega)
      have hft := framesL_len _ (fit_take HF k)
      have hnx : (framesL (ls.take (k + 1))).length = (framesL (ls.take k)).length + (8 + (ls[k]'(by omega)).length) := by
        rw [framesL_take ls k (by omega), List.length_append, frameL_length]; omega
      rw [List.length_take] at hft
      generalize (framesL (ls.take k)).length = z at *
      obtain ⟨z2, hz2e⟩ : ∃ z2, Hid ((framesL (ls.take (k + 1))).length = z2) := ⟨_, ⟨rfl⟩⟩
      rw [hz2e.out] at hnx
      generalize (ls[k]'(by omega)).length = n at *
      have hlong' : ((60000 : Int) < (n : Int)) = False := eq_false (by omega)
      have e1 : IntKind.i64.wrap (8 + (n : Int)) = ((8 + n : Nat) : Int) := by rw [IntWalk.i64_in _ (by omega)]; omega
      have e2 : IntKind.i64.wrap ((z : Int) + ((8 + n : Nat) : Int)) = ((z + (8 + n) : Nat) : Int) := by rw [IntWalk.i64_in _ (by omega)]; omega
      have e3 : IntKind.i64.wrap ((k : Int) + 1) = ((k + 1 : Nat) : Int) := by rw [IntWalk.i64_in _ (by omega)]; omega
      generalize 8 + n = n8 at *
      rw [← hnx] at e2
      clear hl hft hnx h60 hc hll h hfl hmk
      go_wp2
      go_round
      case rel => exact ⟨k + 1, by omega, by go_num, by rw [hz2e.out]⟩
      case measure => simp [intOf]; omega
    · obtain rfl : k = len := by omega
      have htk : ls.take k = ls := List.take_of_length_le (by omega)
      rw [htk]
      have hmk2 := fun w1 => hmk w1 (framesL ls).length (by omega)
      have hown := World.ownsRow_made (base := w.heap.size) (e := 5) (size := 1) w (madeCells #[.int .u8 0] ((framesL ls).length * 1)) (framesL ls).length (Nat.le_refl _) (by unfold maxLen; omega) (size_madeCells _ _)
      have hst : FrAt w (w.alloc (.cells (madeCells #[.int .u8 0] ((framesL ls).length * 1)) 5)) ls 0 (.slice (some ⟨w.heap.size, 0, none⟩) 0 (framesL ls).length) :=
        ⟨by simpa [framesL, Owns] using hown, (Below.refl _ _).alloc (Nat.le_refl _) _⟩
      have hNE : (framesL ls).length ≤ 100000000000 := by omega
      generalize hNl : (framesL ls).length = N at *
      have HNL := Lib.hid hNl
      have HST := Lib.hid hst
      clear hNl hown hmk htk hfl hst
      go_wp2
      go_loopg [7, 9, 10, 30] k (fun g v r y i wr => ∃ j : Nat, j + g = k ∧ i = .int .i64 (j : Int) ∧ FrAt w wr ls j v)
      case atStart => exact ⟨0, by omega, rfl, by have h0 : FrAt _ _ _ _ _ := HST; rw [Nat.mul_one] at h0; exact h0⟩
      case round =>
        obtain ⟨j, hj, rfl, hfr⟩ := hrel
        clear hmk2 HST
        by_cases hlt2 : j < k
        · have hlt' : (j : Int) < (k : Int) := by omega
          obtain ⟨g, off, E, c, rfl, hg, _, hcell, hc, hl⟩ := h.at_ j hlt2
          have h60 := fit_at HF j (by omega)
          have hHr := fun wx (hb : Below w.heap.size w wx) => hl.below hb (Nat.le_refl _)
          have hcell2 := (World.cell?_of_block (w := w) (a := ⟨g, off + j, none⟩) (hfr.below.block g hg)).trans hcell
          have hfx := framesL_take ls j (by omega)
          have hbnd := framesL_len _ (fit_take HF (j + 1))
          have hbnd0 := framesL_len _ (fit_take HF j)
          rw [List.length_take] at hbnd hbnd0
          generalize (ls[j]'(by omega)) = r at *
          have hbw := hfr.below
          have hs0 := hfr.below.size
          have hown := hfr.own
          obtain ⟨f, hfe⟩ : ∃ f, framesL (ls.take j) = f := ⟨_, rfl⟩
          obtain ⟨f2, hf2⟩ : ∃ f2, framesL (ls.take (j + 1)) = f2 := ⟨_, rfl⟩
          rw [hfe] at hown hfx hbnd0
          rw [hf2] at hfx hbnd
          obtain ⟨A0, cap0, rfl, _, _⟩ := lies_of_owns hown
          have HF2 := Lib.hid hf2
          clear hfe hf2
          obtain ⟨n, hn⟩ : ∃ n, Hid (r.length = n) := ⟨_, ⟨rfl⟩⟩
          have hrn := hn.out
          rw [hrn] at hcell2 hHr h60
          have hcv : (n : Int) % 4294967296 = (n : Int) := by omega
          have hcv2 : IntKind.u32.wrap (n : Int) = (n : Int) := IntWalk.u32_in _ (by omega)
          have hq1 := moreN_lt 0 (wide n 4) (by omega)
          have hq2 := moreN_lt (moreN 0 (wide n 4)) r hq1
          have hbl : f.length ≤ 100000000000 := by omega
          have HFX := Lib.hid (show f2 = f ++ (wide n 4 ++ (wide (moreN (moreN 0 (wide n 4)) r) 4 ++ r)) by rw [hfx]; unfold frameL sumL; rw [hrn])
          have e3 : IntKind.i64.wrap ((j : Int) + 1) = ((j + 1 : Nat) : Int) := by rw [IntWalk.i64_in _ (by omega)]; omega
          have HJ := Lib.hid hj
          have HLT := Lib.hid hlt2
          have H60 := Lib.hid h60
          clear hfr h hfx hrn hcell hbnd hbnd0 hj hlt2 h60 hll hNE hm hl
          go_wp2_with fail
          refine (word_any n (by have : n ≤ 60000 := H60; omega) _).mono ?_
          rintro e w1 ⟨g1, rfl, hl1, hg1, hb1⟩
          have hbw1 : Below w.heap.size w w1 := hbw.trans (hb1.mono hs0)
          have hown1 : Owns 5 w1 w.heap.size (.slice A0 f.length cap0) f := hown.keep (fun q hq => hb1.block q (hown.lt q hq).2)
          go_wp2_with (first
            | (at_builtin; refine wpList_append_bytes _ rfl _ _ 22 rfl 5 i0 Try.underlying22 hi0 hz0 hz1 hz2 w.heap.size hbw1.size (.slice A0 f.length cap0) f rfl hown1 (some ⟨g1, 0, none⟩) 4 4 (wide n 4) rfl hl1 (by simp; omega) ?_
               intro v2 w2 ho2 hgr2 hat2)
            | fail)
          have hl2 : Lies w2 (some ⟨g1, 0, none⟩) 4 4 (wide n 4) := hl1.grown hgr2 fun i hi h0 g off e hgi => by
            injection e with e
            injection e with e
            have h1 := (hown.lt i hi).2
            omega
          have hbw2 : Below w.heap.size w w2 := hbw1.grown hgr2 hbw1.size fun q hq => (hown.lt q hq).1
          go_wp2_with fail
          refine (seal_any _ _ _ _ _ _ _ _ _ hl2 (hHr _ hbw2) (by unfold maxLen; omega) (by have : n ≤ 60000 := H60; unfold maxLen; omega)).mono ?_
          rintro e w3 ⟨rfl, rfl⟩
          go_wp2_with fail
          refine (word_any _ hq2 _).mono ?_
          rintro e w4 ⟨g4, rfl, hl4, hg4, hb4⟩
          have hbw4 : Below w.heap.size w w4 := hbw2.trans (hb4.mono hbw2.size)
          have hown4 : Owns 5 w4 w.heap.size v2 (f ++ wide n 4) := ho2.keep (fun q hq => hb4.block q (ho2.lt q hq).2)
          go_wp2_with (first
            | (at_builtin; refine wpList_append_bytes _ rfl _ _ 22 rfl 5 i0 Try.underlying22 hi0 hz0 hz1 hz2 w.heap.size hbw4.size v2 _ rfl hown4 (some ⟨g4, 0, none⟩) 4 4 _ rfl hl4 (by simp; omega) ?_
               intro v5 w5 ho5 hgr5 hat5
               have hbw5 : Below w.heap.size w w5 := hbw4.grown hgr5 hbw4.size fun q hq => (ho2.lt q hq).1
               have hE5 := hHr _ hbw5)
            | (at_builtin; refine wpList_append_bytes _ rfl _ _ 22 rfl 5 i0 Try.underlying22 hi0 hz0 hz1 hz2 w.heap.size hbw5.size v5 _ rfl ho5 E n c r rfl hE5 (by have : n ≤ 60000 := H60; have := hn.out; simp; omega) ?_
               intro v6 w6 ho6 hgr6 hat6)
            | fail)
          have HR := Lib.hid (show FrAt w w6 ls (j + 1) v6 from ⟨by have e : framesL (ls.take (j + 1)) = f2 := HF2; rw [e]; have e2 : f2 = _ := HFX; rw [e2, ← List.append_assoc, ← List.append_assoc]; exact ho6, hbw5.grown hgr6 hbw5.size fun q hq => (ho5.lt q hq).1⟩)
          clear hHr hl1 hb1 hown1 ho2 hgr2 hat2 hl2 hb4 hl4 hown4 ho5 hgr5 hat5 hE5 ho6 hgr6 hat6 hown
          go_wp2
          go_roundg (gk - 1)
          case measure => have : j + gk = k := HJ; omega
          case rel => exact ⟨j + 1, by have : j + gk = k := HJ; have : j < k := HLT; omega, by go_num, HR⟩
        · obtain rfl : j = k := by omega
          have hfin := hfr.own
          have hbf := hfr.below
          rw [List.take_of_length_le (by omega)] at hfin
          obtain ⟨Af, capf, rfl, _, _⟩ := lies_of_owns hfin
          have hdec : decide ((j : Int) < (j : Int)) = false := decide_eq_false (by omega)
          have HFIN := Lib.hid hfin
          clear hfr hfin h hll hNE hm hj
          go_wp2
          refine bodyPost_ret (results_tmp2 rfl _ _ _) rfl ?_
          refine ⟨Af, capf, by have e : (framesL ls).length = N := HNL; rw [← e]; rfl, ?_, hbf⟩
          exact HFIN

end Go.Proofs.Ytnkfdnehkihbeaa
