/- EntryPuts' walk. -/
import Derived.Test.YtipggjmndlaehaaEntAwake
import Derived.Test.YtipggjmndlaehaaEntEq
namespace Go.Proofs.Ytipggjmndlaehaa.entryPuts
open Go.ChangeShapes Go.WideShapes Go.ChangeAt Go.RowKit Go.Proofs.Ytipggjmndlaehaa
set_option linter.unusedVariables false
set_option linter.unusedSimpArgs false

abbrev boxes (w : World) (i t : Int) (A : Option Addr) (n c : Nat) (th vh si st : Int) (E : Option Addr) (m k : Nat) : World :=
  ((w.alloc (.cells #[.int .i64 i, .int .i64 t, .slice A n c] 31)).alloc (.cells #[.int .i64 th, .int .i64 vh] 24)).alloc (.cells #[.int .i64 si, .int .i64 st, .slice E m k] 27)

/-- The three boxes of the arguments. -/
structure Boxes (W : World) (b : Nat) (i t : Int) (A : Option Addr) (n c : Nat) (th vh si st : Int) (E : Option Addr) (m k : Nat) : Prop where
  e : W.heap[b]? = some (.cells #[.int .i64 i, .int .i64 t, .slice A n c] 31)
  h : W.heap[b + 1]? = some (.cells #[.int .i64 th, .int .i64 vh] 24)
  s : W.heap[b + 1 + 1]? = some (.cells #[.int .i64 si, .int .i64 st, .slice E m k] 27)

section
variable {w W W' : World} {b : Nat} {i t : Int} {A : Option Addr} {n c : Nat} {th vh si st : Int} {E : Option Addr} {m k : Nat}

theorem boxes_new : Boxes (boxes w i t A n c th vh si st E m k) w.heap.size i t A n c th vh si st E m k ∧ Below w.heap.size w (boxes w i t A n c th vh si st E m k) := by
  refine ⟨⟨(Below.heap_alloc _ _ _ (by simp; omega)).trans ((Below.heap_alloc _ _ _ (by simp)).trans (heap_alloc_new _ _)), (Below.heap_alloc _ _ _ (by simp)).trans (heap_alloc2_new _ _ _), ?_⟩, (((Below.refl _ _).alloc (Nat.le_refl _) _).alloc (by simp) _).alloc (by simp; omega) _⟩
  have := heap_alloc_new ((w.alloc (.cells #[.int .i64 i, .int .i64 t, .slice A n c] 31)).alloc (.cells #[.int .i64 th, .int .i64 vh] 24)) (.cells #[.int .i64 si, .int .i64 st, .slice E m k] 27)
  rwa [World.size_alloc, World.size_alloc] at this

theorem Boxes.lt (h : Boxes W b i t A n c th vh si st E m k) : b + 1 + 1 < W.heap.size := hlt h.s

theorem Boxes.below (h : Boxes W b i t A n c th vh si st E m k) (hb : Below W.heap.size W W') : Boxes W' b i t A n c th vh si st E m k :=
  ⟨(hb.block _ (hlt h.e)).trans h.e, (hb.block _ (hlt h.h)).trans h.h, (hb.block _ (hlt h.s)).trans h.s⟩

theorem Boxes.keeps {Z : Nat → Prop} (h : Boxes W b i t A n c th vh si st E m k) (hk : Keeps Z W W') (hz : ∀ j, b ≤ j → j ≤ b + 1 + 1 → Z j) : Boxes W' b i t A n c th vh si st E m k :=
  ⟨(hk.block _ (hlt h.e) (hz _ (by omega) (by omega))).trans h.e, (hk.block _ (hlt h.h) (hz _ (by omega) (by omega))).trans h.h, (hk.block _ (hlt h.s) (hz _ (by omega) (by omega))).trans h.s⟩

theorem Boxes.cells (h : Boxes W b i t A n c th vh si st E m k) :
    W.cell? ⟨b, 0, none⟩ = some (.int .i64 i) ∧ W.cell? ⟨b, 1, none⟩ = some (.int .i64 t) ∧ W.cell? ⟨b, 2, none⟩ = some (.slice A n c) ∧ W.cell? ⟨b + 1, 0, none⟩ = some (.int .i64 th) ∧ W.cell? ⟨b + 1, 1, none⟩ = some (.int .i64 vh) ∧
      W.cell? ⟨b + 1 + 1, 0, none⟩ = some (.int .i64 si) ∧ W.cell? ⟨b + 1 + 1, 1, none⟩ = some (.int .i64 st) ∧ W.cell? ⟨b + 1 + 1, 2, none⟩ = some (.slice E m k) := by
  obtain ⟨⟨a0, a1, a2⟩, _⟩ := row3 h.e
  obtain ⟨⟨b0, b1⟩, _⟩ := row2 h.h
  obtain ⟨⟨c0, c1, c2⟩, _⟩ := row3 h.s
  exact ⟨a0, a1, a2, b0, b1, c0, c1, c2⟩
end

theorem walk_out (i t : Int) (A : Option Addr) (n c : Nat) (th vh : Int) (si st : Int) (E : Option Addr) (m k : Nat) (w : World) (hn : n ≤ maxLen) (hm : m ≤ maxLen) (hno : 13000 < n ∨ 45000 < m) :
    Calls Try.prog 4 #[entV i t A n c, .agg #[.int .i64 th, .int .i64 vh], entV si st E m k] w fun e w' => e = .returned (.bool true) ∧ Below w.heap.size w w' := by
  obtain ⟨hB0, hb0⟩ := boxes_new (w := w) (i := i) (t := t) (A := A) (n := n) (c := c) (th := th) (vh := vh) (si := si) (st := st) (E := E) (m := m) (k := k)
  unfold maxLen at hn hm
  go_enter Try.func4, Try.ntmps4
  go_wp2_with fail
  refine (awake_any _).mono ?_
  rintro e w1 ⟨rfl, hb1⟩
  have hbw1 := hb0.trans (hb1.mono hb0.size)
  obtain ⟨a0, a1, a2, b0, b1, c0, c1, c2⟩ := (hB0.below hb1).cells
  have hA := awake_any w1
  clear hb0 hb1 hB0
  by_cases h1 : 13000 < n
  · have h1' : (13000 : Int) < (n : Int) := by omega
    clear hno h1
    go_wp2_with fail
    refine hA.mono ?_
    rintro e w3 ⟨rfl, hb3⟩
    go_wp2
    go_ret
    exact ⟨rfl, hbw1.trans (hb3.mono hbw1.size)⟩
  · have h1' : ((13000 : Int) < (n : Int)) = False := eq_false (by omega)
    have h2' : (45000 : Int) < (m : Int) := by omega
    clear hno h1
    go_wp2_with fail
    refine hA.mono ?_
    rintro e w3 ⟨rfl, hb3⟩
    go_wp2
    go_ret
    exact ⟨rfl, hbw1.trans (hb3.mono hbw1.size)⟩

set_option maxRecDepth 100000 in
set_option maxHeartbeats 6400000 in
theorem walk_in (i t : Int) (A : Option Addr) (n c : Nat) (d : List UInt8) (th vh : Int) (si st : Int) (E : Option Addr) (m k : Nat) (s : List UInt8) (w : World) (hn : n ≤ 13000) (hm : m ≤ 45000)
    (hd : Lies w A n c d) (hs : Lies w E m k s) (hdz : 0 < n → ∀ g off, A = some ⟨g, off, none⟩ → g < w.heap.size) (hsz : 0 < m → ∀ g off, E = some ⟨g, off, none⟩ → g < w.heap.size) :
    Calls Try.prog 4 #[entV i t A n c, .agg #[.int .i64 th, .int .i64 vh], entV si st E m k] w fun e w' => e = .returned (.bool true) ∧ Below w.heap.size w w' := by
  obtain ⟨hB0, hb0⟩ := boxes_new (w := w) (i := i) (t := t) (A := A) (n := n) (c := c) (th := th) (vh := vh) (si := si) (st := st) (E := E) (m := m) (k := k)
  have hn' : ((13000 : Int) < (n : Int)) = False := eq_false (by omega)
  have hm' : ((45000 : Int) < (m : Int)) = False := eq_false (by omega)
  have hdl := hd.1
  have hsl := hs.1
  have hlE := entBytes_length (i := i) (t := t) (d := d)
  have hlS := snapBytes_fits (i := si) (t := st) (d := s)
  have hlH := hardBytes_length th vh
  have hEF := entBytes_fits (i := i) (t := t) (d := d)
  go_enter Try.func4, Try.ntmps4
  go_wp2_with fail
  refine (awake_any _).mono ?_
  rintro e w1 ⟨rfl, hb1⟩
  have hbw1 := hb0.trans (hb1.mono hb0.size)
  have hB1 := hB0.below hb1
  obtain ⟨a0, a1, a2, b0, b1, c0, c1, c2⟩ := hB1.cells
  have hlt1 := hB1.lt
  have hlt0 : w.heap.size < w1.heap.size := by omega
  -- the Out
  have ho1 := out_new w1 (· < w1.heap.size) (fun k hk => hk)
  have hA1 := (Below.refl w1.heap.size w1).alloc (Nat.le_refl _) (.cells #[.slice none 0 0, .bool false] 37)
  have hB2 := hB1.below hA1
  have hd2 := (hd.below hbw1 (Nat.le_refl _)).below hA1 (Nat.le_refl _)
  have hbw2 := hbw1.trans (hA1.mono hbw1.size)
  have hZ2 : ∀ k, k < w1.heap.size → k < (w1.alloc (.cells #[.slice none 0 0, .bool false] 37)).heap.size := fun k hk => Nat.lt_of_lt_of_le hk hA1.size
  have hold : ∀ k, k < w.heap.size → k < w1.heap.size := fun k hk => Nat.lt_of_lt_of_le hk hbw1.size
  have hP1 := putE_any i t A n c d _ w1.heap.size [] _ ho1 hZ2 (by omega) hd2 (fun h0 g off e => hold g (hdz h0 g off e))
  rw [List.nil_append] at hP1
  clear ho1 hA1 hd2 hb0 hb1 hB0
  go_wp2_with fail
  refine hP1.mono ?_
  rintro e w3 ⟨rfl, h3, k3⟩
  have hB3 := hB2.keeps k3 (fun j _ h2 => by omega)
  have hZ3 : ∀ k, k < w1.heap.size → k < w3.heap.size := fun k hk => Nat.lt_of_lt_of_le (hZ2 k hk) k3.size
  have hbw3 := below_keeps hbw2 k3 hold hbw2.size
  have hP2 := putH_any th vh w3 w1.heap.size _ _ h3 hZ3
  obtain ⟨_, _, _, b0', b1', _⟩ := hB3.cells
  clear hP1 hB2 a0 a1 a2 b0 b1 c0 c1 c2 h3 k3 hZ2 hbw2
  go_wp2_with fail
  refine hP2.mono ?_
  rintro e w4 ⟨rfl, h4, k4⟩
  have hB4 := hB3.keeps k4 (fun j _ h2 => by omega)
  have hZ4 : ∀ k, k < w1.heap.size → k < w4.heap.size := fun k hk => Nat.lt_of_lt_of_le (hZ3 k hk) k4.size
  have hbw4 := below_keeps hbw3 k4 hold hbw3.size
  have hP3 := putS_any si st E m k s w4 w1.heap.size _ _ h4 hZ4 (by omega) (hs.below hbw4 (Nat.le_refl _)) (fun h0 g off e => hold g (hsz h0 g off e))
  obtain ⟨_, _, _, _, _, c0, c1, c2⟩ := hB4.cells
  clear hP2 hB3 b0' b1' h4 k4 hZ3 hbw3
  go_wp2_with fail
  refine hP3.mono ?_
  rintro e w5 ⟨rfl, h5, k5⟩
  have hB5 := hB4.keeps k5 (fun j _ h2 => by omega)
  have hbw5 := below_keeps hbw4 k5 hold hbw4.size
  have hTl : (entBytes i t d ++ hardBytes th vh ++ snapBytes si st s).length ≤ 60000 := by rw [List.length_append, List.length_append, hlH]; omega
  have hE0 := fun W (h : Lies W A n c d) => bytesE_any i t A n c d W h
  have hH := fun W => bytesH_any th vh W
  have hS0 := fun W (h : Lies W E m k s) => bytesS_any si st E m k s W h
  generalize hEB : entBytes i t d = EB at *
  generalize hHB : hardBytes th vh = HB at *
  generalize hSB : snapBytes si st s = SB at *
  have HEB := Lib.hid hEB
  have HHB := Lib.hid hHB
  have HSB := Lib.hid hSB
  have hbl1 : (EB ++ HB).length ≤ 140737488355328 := by rw [List.length_append, hlH]; omega
  have hbl2 : (EB ++ HB ++ SB).length ≤ 140737488355328 := by omega
  generalize hp1 : EB.length = p1 at *
  generalize hp3 : SB.length = p3 at *
  obtain ⟨T, hT⟩ : ∃ T, T = EB ++ HB ++ SB := ⟨_, rfl⟩
  rw [← hT] at h5 hTl
  have HT := Lib.hid hT
  obtain ⟨z, hz⟩ : ∃ z, z = T.length := ⟨_, rfl⟩
  have HZ := Lib.hid hz
  have hE5 := end_fits w5 w1.heap.size _ _ h5 hTl
  rw [← hz] at hE5 hTl
  have HD := Lib.hid hd
  have HS := Lib.hid hs
  have hd0 := fun W (hW : Below w.heap.size w W) => hd.below hW (Nat.le_refl _)
  have hs0 := fun W (hW : Below w.heap.size w W) => hs.below hW (Nat.le_refl _)
  clear hP3 hB4 c0 c1 c2 h5 k5 hZ4 hbw4 hEB hHB hSB hlE hlS hEF hdl hsl hd hs hp1 hp3 hlH hT hz
  go_wp2_with fail
  refine hE5.mono ?_
  rintro e w6 ⟨A6, cap6, rfl, hl6, _, hb6⟩
  have hB6 := hB5.below hb6
  have hbw6 := hbw5.trans (hb6.mono hbw5.size)
  clear hE5 hB5 hb6 hbw5
  obtain ⟨i0, hi0, hz0, hz1, hz2⟩ := info_parts info_u8
  have hE := fun W (hW : Below w6.heap.size w6 W) => hE0 W (hd0 W (hbw6.trans (hW.mono hbw6.size)))
  have hS := fun W (hW : Below w6.heap.size w6 W) => hS0 W (hs0 W (hbw6.trans (hW.mono hbw6.size)))
  have hCells := fun W (hW : Below w6.heap.size w6 W) => (hB6.below hW).cells
  clear hE0 hS0 hd0 hs0
  go_upto_region 8 with fail
  go_cut [10] (fun v wx => (∃ Af cf, v = .slice Af z cf ∧ Lies wx Af z cf T) ∧ Below w6.heap.size w6 wx)
  case first =>
    go_region_held3 (fun w' => Below w6.heap.size w6 w' ∧ w'.cell? ⟨w.heap.size, 0, none⟩ = some (.int .i64 i) ∧ w'.cell? ⟨w.heap.size, 1, none⟩ = some (.int .i64 t) ∧ w'.cell? ⟨w.heap.size, 2, none⟩ = some (.slice A n c) ∧ w'.cell? ⟨w.heap.size + 1, 0, none⟩ = some (.int .i64 th) ∧ w'.cell? ⟨w.heap.size + 1, 1, none⟩ = some (.int .i64 vh) ∧ w'.cell? ⟨w.heap.size + 1 + 1, 0, none⟩ = some (.int .i64 si) ∧ w'.cell? ⟨w.heap.size + 1 + 1, 1, none⟩ = some (.int .i64 st) ∧ w'.cell? ⟨w.heap.size + 1 + 1, 2, none⟩ = some (.slice E m k))
      (first | exact ⟨hbwf, hCells _ hbwf⟩ | exact ⟨hbwa, hCells _ hbwa⟩ | exact ⟨hbwt, hCells _ hbwt⟩ | exact ⟨hbw8, hCells _ hbw8⟩ | exact ⟨hbw7, hCells _ hbw7⟩ | exact ⟨(Below.refl _ _).drew, hCells _ (Below.refl _ _).drew⟩)
      (first
      | (go_at_call 21
         refine (hE _ (by first | exact Below.refl _ _ | exact (Below.refl _ _).drew)).mono ?_
         rintro e w7 ⟨A1, k1, rfl, ho7, hb7⟩
         have hbw7 : Below w6.heap.size w6 w7 := Below.trans (by first | exact Below.refl _ _ | exact (Below.refl _ _).drew) (hb7.mono (by simp))
         have ho7' : Owns 5 w7 w6.heap.size (.slice A1 p1 k1) EB := ho7
         clear hE)
      | (go_at_call 22
         refine (hH _).mono ?_
         rintro e w8 ⟨A2, k2, rfl, ho8, hb8⟩
         have hbw8 : Below w6.heap.size w6 w8 := hbw7.trans (hb8.mono hbw7.size)
         have ho78 : Owns 5 w8 w6.heap.size (.slice A1 p1 k1) EB := ho7'.keep (fun g hg => hb8.block g (ho7'.lt g hg).2)
         have hl8 := owns_lies ho8
         clear hH)
      | (refine step_append_bytes _ (by rfl) _ _ 25 (by rfl) 5 i0 Try.underlying25 hi0 hz0 hz1 hz2 w6.heap.size (by first | exact hbw8.size | exact hbwt.size) (.slice A1 p1 k1) EB (by rfl) (by first | exact ho78 | exact ho7t) A2 16 k2 HB (by rfl) (by first | exact hl8 | exact hl8t) hbl1 ?_
         intro va wa hoa hga hqa
         have hbwa : Below w6.heap.size w6 wa := by first | exact hbw8.grown hga hbw8.size (fun q hq => (ho78.lt q hq).1) | exact hbwt.grown hga hbwt.size (fun q hq => (ho7t.lt q hq).1)
         first | (have hlta : Lies wa A3 p3 k3 SB := hlt3.grown hga fun q hq h0 g off e hgq => by
                    subst hgq
                    have h1 := (hoT.lt g (by rw [e]; rfl)).1
                    have h2 := (ho78.lt g hq).2
                    omega) | skip)
      | (go_at_call 23
         refine (hS _ (by first | exact hbwa | exact hbw8)).mono ?_
         rintro e wt ⟨A3, k3, rfl, hoT, hbT⟩
         have hlt3 := owns_lies hoT
         first
           | (have hbwt : Below w6.heap.size w6 wt := hbwa.trans (hbT.mono hbwa.size)
              have hoat := Owns.keep hoa (fun g hg => hbT.block g (hoa.lt g hg).2))
           | (have hbwt : Below w6.heap.size w6 wt := hbw8.trans (hbT.mono hbw8.size)
              have ho7t : Owns 5 wt w6.heap.size (.slice A1 p1 k1) EB := ho78.keep (fun g hg => hbT.block g (ho78.lt g hg).2)
              have hl8t := hl8.below hbT (Nat.le_refl _)))
      | (refine step_append_bytes _ (by rfl) _ _ 25 (by rfl) 5 i0 Try.underlying25 hi0 hz0 hz1 hz2 w6.heap.size (by first | exact hbwt.size | exact hbwa.size) va (EB ++ HB) (by rfl) (by first | exact hoat | exact hoa) A3 p3 k3 SB (by rfl) (by first | exact hlt3 | exact hlta) hbl2 ?_
         intro vf wf hof hgf hqf
         have hbwf : Below w6.heap.size w6 wf := by first | exact hbwt.grown hgf hbwt.size (fun q hq => (hoat.lt q hq).1) | exact hbwa.grown hgf hbwa.size (fun q hq => (hoa.lt q hq).1)))
    all_goals
      have hoF : Owns 5 wf w6.heap.size vf T := by rw [show T = _ from HT]; exact hof
      obtain ⟨Af, cf, hvf, hlf, _⟩ := lies_of_owns hoF
      subst hvf
      rw [← show z = T.length from HZ] at hlf ⊢
      go_wp2_with fail
      go_meet
      exact ⟨⟨Af, cf, rfl, hlf⟩, hbwf⟩
  case rest =>
    obtain ⟨⟨Af, cf, rfl, hlf⟩, hbc⟩ := hcut
    have hl6c := hl6.below hbc (Nat.le_refl _)
    have t1 := hl6c.text Try.underlying25 Try.underlying5 Try.underlying9
    have t2 := hlf.text Try.underlying25 Try.underlying5 Try.underlying9
    generalize (⟨T.toArray⟩ : ByteArray) = TX at *
    have hBc := hB6.below hbc
    have hbwc := hbw6.trans (hbc.mono hbw6.size)
    obtain ⟨x0, x1, x2, y0, y1, u0, u1, u2⟩ := hBc.cells
    have hdc := (show Lies w A n c d from HD).below hbwc (Nat.le_refl _)
    have hsc := (show Lies w E m k s from HS).below hbwc (Nat.le_refl _)
    clear hE hH hS hCells hB6 hl6 hlf hbc hbw6
    have hR1 := rightR_is i t A n c wc
    have hR2 := fun W => hardR_is th vh W
    have hR3 := fun W => snapR_is si st E m k W
    cases hr1 : rightB i t n with
    | false =>
      rw [hr1] at hR1
      clear hr1 hR2 hR3
      go_wp2_with fail
      refine hR1.mono ?_
      rintro e w9 ⟨rfl, hb9⟩
      go_wp2
      go_ret
      exact ⟨rfl, hbwc.trans (hb9.mono hbwc.size)⟩
    | true =>
      rw [hr1] at hR1
      go_wp2_with fail
      refine hR1.mono ?_
      rintro e w9 ⟨rfl, hb9⟩
      have hB9 := hBc.below hb9
      have hbw9 := hbwc.trans (hb9.mono hbwc.size)
      have hd9 := hdc.below hb9 (Nat.le_refl _)
      have hs9 := hsc.below hb9 (Nat.le_refl _)
      have hl9 := hl6c.below hb9 (Nat.le_refl _)
      have hR2 := hR2 w9
      obtain ⟨_, _, _, y0, y1, _, _, _⟩ := hB9.cells
      clear hR1 hBc hdc hsc hl6c x0 x1 x2 u0 u1 u2 t1 t2 hb9 hbwc
      cases hr2 : hardB th vh with
      | false =>
        rw [hr2] at hR2
        clear hr2 hR3
        go_wp2_with fail
        refine hR2.mono ?_
        rintro e w10 ⟨rfl, hb10⟩
        go_wp2
        go_ret
        exact ⟨rfl, hbw9.trans (hb10.mono hbw9.size)⟩
      | true =>
        rw [hr2] at hR2
        go_wp2_with fail
        refine hR2.mono ?_
        rintro e w10 ⟨rfl, hb10⟩
        have hB10 := hB9.below hb10
        have hbw10 := hbw9.trans (hb10.mono hbw9.size)
        have hd10 := hd9.below hb10 (Nat.le_refl _)
        have hs10 := hs9.below hb10 (Nat.le_refl _)
        have hl10 := hl9.below hb10 (Nat.le_refl _)
        have hR3 := hR3 w10
        obtain ⟨_, _, _, _, _, u0, u1, u2⟩ := hB10.cells
        clear hR2 hB9 hd9 hs9 hl9 y0 y1 hb10 hbw9
        cases hr3 : snapB si st m with
        | false =>
          rw [hr3] at hR3
          clear hr3
          go_wp2_with fail
          refine hR3.mono ?_
          rintro e w11 ⟨rfl, hb11⟩
          go_wp2
          go_ret
          exact ⟨rfl, hbw10.trans (hb11.mono hbw10.size)⟩
        | true =>
          rw [hr3] at hR3
          go_wp2_with fail
          refine hR3.mono ?_
          rintro e w11 ⟨rfl, hb11⟩
          have hB11 := hB10.below hb11
          have hbw11 := hbw10.trans (hb11.mono hbw10.size)
          have hd11 := hd10.below hb11 (Nat.le_refl _)
          have hs11 := hs10.below hb11 (Nat.le_refl _)
          have hl11 := hl10.below hb11 (Nat.le_refl _)
          clear hR3 hB10 hd10 hs10 hl10 u0 u1 u2 hb11 hbw10
          have hN := newIn_any A6 z cap6 T w11 (· < w11.heap.size) (fun k hk => hk) hl11 (by rw [← show z = T.length from HZ]; omega)
          go_wp2_with fail
          refine hN.mono ?_
          rintro e w12 ⟨iN, rfl, h12, hb12⟩
          have hB12 := hB11.below hb12
          have hbw12 := hbw11.trans (hb12.mono hbw11.size)
          have hd12 := hd11.below hb12 (Nat.le_refl _)
          have hs12 := hs11.below hb12 (Nat.le_refl _)
          have hI12 : In w12.drew iN (some T) (fun q => q < w11.heap.size ∨ w12.heap.size ≤ q) := (h12.out fun q hq => hq).below (Below.refl _ _).drew (Nat.le_refl _)
          have hsz12 := hb12.size
          have hbx := hB11.lt
          -- what lies there
          have hdl : d.length = n := (show Lies w A n c d from HD).1
          have hsl : s.length = m := (show Lies w E m k s from HS).1
          have hT1 : T = threeL i t d ++ (hardL th vh ++ (threeL si st s ++ [])) := by
            have e1 : EB = threeL i t d := by rw [← show entBytes i t d = EB from HEB, entBytes_of, hdl, if_pos hr1]
            have e2 : HB = hardL th vh := by rw [← show hardBytes th vh = HB from HHB, hardBytes_of, if_pos hr2]
            have e3 : SB = threeL si st s := by rw [← show snapBytes si st s = SB from HSB, snapBytes_of, hsl, if_pos hr3]
            rw [show T = _ from HT, e1, e2, e3, List.append_nil, List.append_assoc]
          have hn1 := rightB_nums hr1
          have hn3 := snapB_nums hr3
          have f1 : fromN rightB (some T) 12000 = ⟨i, t, d, some (hardL th vh ++ (threeL si st s ++ []))⟩ := by
            rw [hT1]
            exact from_back rightB i t d _ 12000 hn1.1 hn1.2.1 (by omega) (by omega) (by rw [hdl]; exact hr1)
          have f2 := hard_back th vh (threeL si st s ++ []) hr2
          have f3 : fromN snapB (some (threeL si st s ++ [])) 50000 = ⟨si, st, s, some []⟩ := from_back snapB si st s [] 50000 hn3.1 hn3.2.1 (by omega) (by omega) (by rw [hsl]; exact hr3)
          have hlT : left (some T) ≤ 140737488355328 := by show T.length ≤ _; rw [← show z = T.length from HZ]; omega
          have hlT2 : left (some (threeL si st s ++ [])) ≤ 140737488355328 := by show (threeL si st s ++ []).length ≤ _; rw [List.append_nil, threeL_length]; omega
          have hG := fun W h hz => getE_any W iN (some T) (fun q => q < w11.heap.size ∨ w12.heap.size ≤ q) h hz hlT
          rw [f1] at hG
          dsimp only at hG
          have hH := fun W h hz => getH_any W iN (some (hardL th vh ++ (threeL si st s ++ []))) (fun q => q < w11.heap.size ∨ w12.heap.size ≤ q) h hz
          rw [f2] at hH
          dsimp only at hH
          have hS := fun W h hz => getS_any W iN (some (threeL si st s ++ [])) (fun q => q < w11.heap.size ∨ w12.heap.size ≤ q) h hz hlT2
          rw [f3] at hS
          dsimp only at hS
          have hO := fun W D n' c' (h : Lies W D n' c' d) (h' : Lies W A n c d) => oneR_any i t D n' c' d i t A n c d W h h'
          rw [oneB_self] at hO
          have hSS := fun W D n' c' (h : Lies W D n' c' s) (h' : Lies W E m k s) => sameSnapR_any si st D n' c' s si st E m k s W h h'
          rw [oneB_self] at hSS
          have hDn := fun W h => done_any W iN (some []) (fun q => q < w11.heap.size ∨ w12.heap.size ≤ q) h
          have hdn : decide ((some [] : St) = some []) = true := decide_eq_true rfl
          rw [hdn] at hDn
          have heq := fun W => eq_hard th vh W
          generalize hardL th vh ++ (threeL si st s ++ []) = T1 at *
          generalize threeL si st s ++ [] = T2 at *
          have hk0 : Keeps (fun q => q < w11.heap.size ∨ w12.heap.size ≤ q) w12 w12.drew := (Keeps.refl _ _).drew
          have hC := fun W (hk : Keeps (fun q => q < w11.heap.size ∨ w12.heap.size ≤ q) w12 W) => (hB12.keeps hk (fun j _ h2 => .inl (by omega))).cells
          have hdK := fun W (hk : Keeps (fun q => q < w11.heap.size ∨ w12.heap.size ≤ q) w12 W) => hd12.keeps hk (fun h0 g off e => .inl (Nat.lt_of_lt_of_le (hdz h0 g off e) hbw11.size))
          have hsK := fun W (hk : Keeps (fun q => q < w11.heap.size ∨ w12.heap.size ≤ q) w12 W) => hs12.keeps hk (fun h0 g off e => .inl (Nat.lt_of_lt_of_le (hsz h0 g off e) hbw11.size))
          have hZK := fun W (hk : Keeps (fun q => q < w11.heap.size ∨ w12.heap.size ≤ q) w12 W) => (fun q (hq : W.heap.size ≤ q) => (Or.inr (Nat.le_trans hk.size hq) : q < w11.heap.size ∨ w12.heap.size ≤ q))
          have hfin : ∀ W, Keeps (fun q => q < w11.heap.size ∨ w12.heap.size ≤ q) w12 W → Below w.heap.size w W := fun W hk => below_keeps hbw12 hk (fun q hq => .inl (Nat.lt_of_lt_of_le hq hbw11.size)) hbw12.size
          have HFIN := Lib.hid hfin
          clear hfin f1 f2 f3 hT1 hdl hsl hlT hlT2 hn1 hn3 hdn hB12 hd12 hs12 hB11 hd11 hs11 hl11 hN h12 hb12 hbw12 hbw11 hr1 hr2 hr3 hdz hsz
          go_wp2
          go_region_held3 (fun w' => Keeps (fun q => q < w11.heap.size ∨ w12.heap.size ≤ q) w12 w' ∧ w'.cell? ⟨w.heap.size, 0, none⟩ = some (.int .i64 i) ∧ w'.cell? ⟨w.heap.size, 1, none⟩ = some (.int .i64 t) ∧ w'.cell? ⟨w.heap.size, 2, none⟩ = some (.slice A n c) ∧ w'.cell? ⟨w.heap.size + 1, 0, none⟩ = some (.int .i64 th) ∧ w'.cell? ⟨w.heap.size + 1, 1, none⟩ = some (.int .i64 vh) ∧ w'.cell? ⟨w.heap.size + 1 + 1, 0, none⟩ = some (.int .i64 si) ∧ w'.cell? ⟨w.heap.size + 1 + 1, 1, none⟩ = some (.int .i64 st) ∧ w'.cell? ⟨w.heap.size + 1 + 1, 2, none⟩ = some (.slice E m k))
            (first | exact ⟨hk24, hC _ hk24⟩ | exact ⟨hk23, hC _ hk23⟩ | exact ⟨hk22, hC _ hk22⟩ | exact ⟨hk21, hC _ hk21⟩ | exact ⟨hk20, hC _ hk20⟩ | exact ⟨hk0, hC _ hk0⟩)
            (first
              | (go_at_call 26
                 refine (hG _ hI12 (hZK _ hk0)).mono ?_
                 rintro e w20 ⟨D1, m1, c1, rfl, hl20, _, hI20, k20⟩
                 have hk20 := hk0.trans k20)
              | (go_at_call 25
                 refine (hO _ _ _ _ hl20 (hdK _ hk20)).mono ?_
                 rintro e w21 ⟨rfl, hb21⟩
                 have hk21 := hk20.trans (keeps_below hb21 (Nat.le_refl _))
                 have hI21 := hI20.below hb21 (Nat.le_refl _))
              | (go_at_call 27
                 refine (hH _ hI21 (hZK _ hk21)).mono ?_
                 rintro e w22 ⟨rfl, hI22, k22⟩
                 have hk22 := hk21.trans k22)
              | (go_at_call 29
                 refine (hS _ hI22 (hZK _ hk22)).mono ?_
                 rintro e w23 ⟨D2, m2, c2, rfl, hl23, _, hI23, k23⟩
                 have hk23 := hk22.trans k23)
              | (go_at_call 28
                 refine (hSS _ _ _ _ hl23 (hsK _ hk23)).mono ?_
                 rintro e w24 ⟨rfl, hb24⟩
                 have hk24 := hk23.trans (keeps_below hb24 (Nat.le_refl _))
                 have hI24 := hI23.below hb24 (Nat.le_refl _))
              | (go_at_call 30
                 refine (hDn _ hI24).mono ?_
                 rintro e w25 ⟨rfl, rfl⟩))
          go_wp2
          go_ret
          exact ⟨rfl, HFIN.out _ hk24⟩

theorem walk (i t : Int) (A : Option Addr) (n c : Nat) (d : List UInt8) (th vh : Int) (si st : Int) (E : Option Addr) (m k : Nat) (s : List UInt8) (w : World) (hn : n ≤ maxLen) (hm : m ≤ maxLen)
    (hd : Lies w A n c d) (hs : Lies w E m k s) (hdz : 0 < n → ∀ g off, A = some ⟨g, off, none⟩ → g < w.heap.size) (hsz : 0 < m → ∀ g off, E = some ⟨g, off, none⟩ → g < w.heap.size) :
    Calls Try.prog 4 #[entV i t A n c, .agg #[.int .i64 th, .int .i64 vh], entV si st E m k] w fun e w' => e = .returned (.bool true) ∧ Below w.heap.size w w' := by
  by_cases hno : 13000 < n ∨ 45000 < m
  · exact walk_out i t A n c th vh si st E m k w hn hm hno
  · exact walk_in i t A n c d th vh si st E m k s w (by omega) (by omega) hd hs hdz hsz

end Go.Proofs.Ytipggjmndlaehaa.entryPuts
