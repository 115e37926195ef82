/- The document's Add, by its contract. (Written by mkadd.py.) -/
import Derived.Test.YtmihijlegacjdaaHisRight
import Derived.Test.YtmihijlegacjdaaHand
namespace Go.Proofs.Ytmihijlegacjdaa
open Go.RowKit
set_option linter.unusedVariables false
set_option linter.unusedSimpArgs false
attribute [local go_sem] Oper.semAt_some

theorem Grew.below {B : Nat} {w X w' : World} {A : Option Addr} (h : Grew X w' A) (hb : Below B w X) (hB : B ≤ X.heap.size) (hA : ∀ q, blk A q → B ≤ q) : Below B w w' :=
  ⟨h.os.symm.trans hb.os, h.tape.symm.trans hb.tape, h.output.symm.trans hb.output, Nat.le_trans hb.size h.size, fun b h1 => (h.block b (by omega) fun e => by have := hA b e; omega).trans (hb.block b h1)⟩

/-- A list of versions of its own. -/
structure Own14 (w0 w : World) (R : Option Addr) (n c : Nat) (l : List Ver) : Prop where
  sp : Sp 26 7 w R n c (rowH l)
  new : ∀ q, blk R q → w0.heap.size ≤ q

theorem Own14.none (w0 w : World) : Own14 w0 w none 0 0 [] := ⟨Sp.nil _ _ _, fun q h => absurd h (blk_none q)⟩

set_option maxRecDepth 100000 in
set_option maxHeartbeats 3200000 in
theorem addR_any (A : Option Addr) (len cap : Nat) (l : List Ver) (x : Ver) (w : World) (h : Vers w A len l) (hm : len ≤ 900000) :
    Calls Try.prog 33 #[.slice A len cap, verV x] w fun e w' => ∃ R n c, e = .returned (.tuple #[.slice R n c, .bool (His.addL l x).isSome]) ∧ Own14 w w' R n c ((His.addL l x).getD []) ∧ Below w.heap.size w w' := by
  obtain ⟨r, k, m, v, s, le, g⟩ := x
  obtain ⟨x, hx⟩ : ∃ x : Ver, (⟨r, k, m, v, s, le, g⟩ : Ver) = x := ⟨_, rfl⟩
  have hxc : verC x = [.int .i64 r, .int .i64 k, .int .i64 m, .int .i64 v, .string s, .int .i64 le, .bool g] := by rw [← hx]; rfl
  dsimp only [verV]
  rw [hx]
  have hll := h.1
  obtain ⟨W1, hW1⟩ : ∃ W1, w.alloc (.cells #[.int .i64 r, .int .i64 k, .int .i64 m, .int .i64 v, .string s, .int .i64 le, .bool g] 26) = W1 := ⟨_, rfl⟩
  have hb1 : Below w.heap.size w W1 := by rw [← hW1]; exact (Below.refl _ _).alloc (Nat.le_refl _) _
  have hr1 : W1.heap[w.heap.size]? = some (.cells #[.int .i64 r, .int .i64 k, .int .i64 m, .int .i64 v, .string s, .int .i64 le, .bool g] 26) := by rw [← hW1]; exact heap_alloc_new w _
  have hs1 : W1.heap.size = w.heap.size + 1 := by rw [← hW1]; simp
  have hS : ∀ W, Below W1.heap.size W1 W → W.cell? ⟨w.heap.size, 0, none⟩ = some (.int .i64 r) ∧ W.cell? ⟨w.heap.size, 1, none⟩ = some (.int .i64 k) ∧ W.cell? ⟨w.heap.size, 2, none⟩ = some (.int .i64 m) ∧ W.cell? ⟨w.heap.size, 3, none⟩ = some (.int .i64 v) ∧ W.cell? ⟨w.heap.size, 4, none⟩ = some (.string s) ∧ W.cell? ⟨w.heap.size, 5, none⟩ = some (.int .i64 le) ∧ W.cell? ⟨w.heap.size, 6, none⟩ = some (.bool g) := fun W hW => (row7 ((hW.block _ (by omega)).trans hr1)).1
  have hV : ∀ W, Below W1.heap.size W1 W → Vers W A len l := fun W hW => h.below (hb1.trans (hW.mono hb1.size))
  have HH := Lib.hid (And.intro hS (And.intro hV (And.intro hb1 (And.intro hs1 (And.intro hxc hx)))))
  have hfin : ∀ W A2 c2, Below W1.heap.size W1 W → Sp 26 7 W A2 (len + 1) c2 (rowH l ++ verC x) → (∀ q, blk A2 q → W1.heap.size ≤ q) → Own14 w W A2 (len + 1) c2 (l ++ [x]) := fun W A2 c2 hW hsp hA => ⟨by rw [rowH_add]; exact hsp, fun q hq => by have := hA q hq; omega⟩
  have HF := Lib.hid hfin
  have h1c : ∀ u ∈ ([.int .i64 r, .int .i64 k, .int .i64 m, .int .i64 v, .string s, .int .i64 le, .bool g] : List Value), u.oneCell' = true := fun u hu => rowH_one u x (by rw [hxc]; exact hu)
  have hrw : (rowH l).length = len * 7 := by rw [rowH_len, hll]
  clear h hS hV hb1 hr1 hfin hx
  go_enter Try.func33, Try.ntmps33
  go_wp2_with fail
  try rw [hW1]
  go_upto_region 1 with fail
  refine wp_region_held_drew (S := (fun w' => w'.cell? ⟨w.heap.size, 0, none⟩ = some (.int .i64 r) ∧ w'.cell? ⟨w.heap.size, 1, none⟩ = some (.int .i64 k) ∧ w'.cell? ⟨w.heap.size, 2, none⟩ = some (.int .i64 m) ∧ w'.cell? ⟨w.heap.size, 3, none⟩ = some (.int .i64 v) ∧ w'.cell? ⟨w.heap.size, 4, none⟩ = some (.string s) ∧ w'.cell? ⟨w.heap.size, 5, none⟩ = some (.int .i64 le) ∧ w'.cell? ⟨w.heap.size, 6, none⟩ = some (.bool g))) (by kernel_rfl) (HH.out.1 _ (Below.refl _ _).drew) (fun hHeld => ?_)
  refine lsq 7 ?_
  refine tkq 1 ?_
  refine tkq 3 ?_
  refine rdq2 0 4 (fun KK hK => ?_) (fun KK hK => ?_)
  · go_simp
    refine hK.out _ _ (HH.out.1 _ (by repeat (first | exact Below.refl _ _ | apply Below.drew | refine Below.alloc ?_ (by simp) _))) ?_
    clear hK KK hHeld
    intro hHeld
    try simp only [lpq]
    obtain ⟨W2, hW2⟩ : ∃ W2, (W1.alloc (.cells #[] 26)).drew = W2 := ⟨_, rfl⟩
    rw [hW2]
    have hb2 : Below W1.heap.size W1 W2 := by rw [← hW2]; exact ((Below.refl _ _).alloc (Nat.le_refl _) _).drew
    have hz2 : W2.heap[w.heap.size + 1]? = some (.cells #[] 26) := by rw [← hW2, ← hs1]; exact heap_alloc_new W1 _
    have hs2 : W2.heap.size = W1.heap.size + 1 := by rw [← hW2]; simp
    clear hW2
    refine rdq2 2 4 (fun KK hK => ?_) (fun KK hK => ?_)
    · skip
      refine step_append_sp elem_ver _ (by rfl) _ _ (by rfl) (some ⟨w.heap.size + 1, 0, none⟩) 0 0 [] (by rfl) ⟨rfl, Nat.le_refl _, (fun e => by cases e), fun a e => ⟨w.heap.size + 1, 0, #[], (by injection e with e; exact e.symm), hz2, by simp, fun j u hu => by simp at hu⟩⟩ A len cap (rowH l) (by rfl) (fun e => by subst e; rcases Nat.eq_zero_or_pos len with h0 | h0; exact h0; obtain ⟨g, o, e, _⟩ := (HH.out.2.1 _ hb2).2 h0; cases e) hrw (rowH_ones l) (fun b e => (HH.out.2.1 _ hb2).cells e) (by omega) ?_
      rw [Nat.zero_add, List.nil_append]
      intro A5 n5 w5 hsp5 hA5 hg5
      have hn5 : ∀ q, blk A5 q → W1.heap.size ≤ q := fun q hq => by
        rcases hA5 q hq with h1 | h1
        · rw [blk_some] at h1; omega
        · have := (hb2).size; omega
      have hb5 : Below W1.heap.size W1 w5 := hg5.below hb2 (hb2).size (fun q hq => by rw [blk_some] at hq; omega)
      refine hK.out _ _ (HH.out.1 _ hb5) ?_
      clear hK KK hHeld
      intro hHeld
      try simp only [lpq]
      refine rdq1 4 fun KK hK => ?_
      go_simp
      refine hK.out _ _ (HH.out.1 _ (hb5.alloc hb5.size _)) ?_
      clear hK KK hHeld
      intro hHeld
      try simp only [lpq]
      have hbx := heap_alloc_new w5 (.cells #[.int .i64 r, .int .i64 k, .int .i64 m, .int .i64 v, .string s, .int .i64 le, .bool g] 26)
      have hsp5 := hsp5.keep (w' := w5.alloc (.cells #[.int .i64 r, .int .i64 k, .int .i64 m, .int .i64 v, .string s, .int .i64 le, .bool g] 26)) fun q hq => Below.heap_alloc _ _ _ (hsp5.lt hq)
      have hb5 := hb5.alloc (o := (.cells #[.int .i64 r, .int .i64 k, .int .i64 m, .int .i64 v, .string s, .int .i64 le, .bool g] 26)) hb5.size
      refine rdq1 5 fun KK hK => ?_
      refine step_append_sp elem_ver _ (by rfl) _ _ (by rfl) A5 len n5 (rowH l) (by rfl) hsp5 _ 1 1 [.int .i64 r, .int .i64 k, .int .i64 m, .int .i64 v, .string s, .int .i64 le, .bool g] (by rfl) (fun e => by cases e) (by rfl) h1c (fun b e => by cases e; exact cells_lit (C := [.int .i64 r, .int .i64 k, .int .i64 m, .int .i64 v, .string s, .int .i64 le, .bool g]) (hbx)) (by omega) ?_
      intro A6 n6 w6 hsp6 hA6 hg6
      have hb6 : Below W1.heap.size W1 w6 := hg6.below hb5 (hb5).size hn5
      have hn6 : ∀ q, blk A6 q → W1.heap.size ≤ q := fun q hq => by
        rcases hA6 q hq with h1 | h1
        · exact hn5 q h1
        · have := (hb5).size; omega
      have HO := Lib.hid (And.intro (HF.out w6 A6 n6 hb6 (by rw [HH.out.2.2.2.2.1]; exact hsp6) hn6) hb6)
      refine hK.out _ _ (HH.out.1 _ hb6) ?_
      clear hK KK hHeld
      intro hHeld
      try simp only [lpq]
      refine tkq 6 ?_
      refine dnq ?_
      clear hsp5 hA5 hg5 hn5 hb5 hsp6 hA6 hg6 hn6 hb6 hHeld
      have hRt := rightR_any A6 (len + 1) n6 (l ++ [x]) w6 HO.out.1.sp.vers (by unfold maxLen; omega)
      go_wp2_with fail
      refine hRt.mono ?_
      rintro e w7 ⟨rfl, hb7⟩
      have hO7 : Own14 w w7 A6 (len + 1) n6 (l ++ [x]) := ⟨HO.out.1.sp.keep fun q hq => hb7.block q (HO.out.1.sp.lt hq), HO.out.1.new⟩
      have hbw : Below w.heap.size w w7 := HH.out.2.2.1.trans ((HO.out.2.trans (hb7.mono HO.out.2.size)).mono HH.out.2.2.1.size)
      have HO7 := Lib.hid (And.intro hO7 hbw)
      clear hRt hb7 hO7 hbw
      cases hq : His.rightL (l ++ [x]) with
      | true =>
        have e : His.addL l x = some (l ++ [x]) := if_pos hq
        have HE := Lib.hid e
        clear e
        go_wp2
        refine bodyPost_ret (results_tmp2 rfl _ _ _) rfl ?_
        refine ⟨A6, len + 1, n6, by rw [HE.out]; rfl, by rw [HE.out]; exact HO7.out.1, HO7.out.2⟩
      | false =>
        have e : His.addL l x = none := if_neg (by rw [hq]; decide)
        have HE := Lib.hid e
        clear e
        go_wp2
        refine bodyPost_ret (results_tmp2 rfl _ _ _) rfl ?_
        refine ⟨none, 0, 0, by rw [HE.out]; rfl, by rw [HE.out]; exact Own14.none _ _, HO7.out.2⟩
    · go_simp
      refine hK.out _ _ (HH.out.1 _ (hb2.alloc hb2.size _)) ?_
      clear hK KK hHeld
      intro hHeld
      try simp only [lpq]
      have hbx := heap_alloc_new W2 (.cells #[.int .i64 r, .int .i64 k, .int .i64 m, .int .i64 v, .string s, .int .i64 le, .bool g] 26)
      rw [show W2.heap.size = w.heap.size + 1 + 1 by omega] at hbx
      have hz2 := (Below.heap_alloc W2 (.cells #[.int .i64 r, .int .i64 k, .int .i64 m, .int .i64 v, .string s, .int .i64 le, .bool g] 26) _ (hlt hz2)).trans hz2
      have hb2 := hb2.alloc (o := (.cells #[.int .i64 r, .int .i64 k, .int .i64 m, .int .i64 v, .string s, .int .i64 le, .bool g] 26)) hb2.size
      refine rdq1 2 fun KK hK => ?_
      refine step_append_sp elem_ver _ (by rfl) _ _ (by rfl) (some ⟨w.heap.size + 1, 0, none⟩) 0 0 [] (by rfl) ⟨rfl, Nat.le_refl _, (fun e => by cases e), fun a e => ⟨w.heap.size + 1, 0, #[], (by injection e with e; exact e.symm), hz2, by simp, fun j u hu => by simp at hu⟩⟩ A len cap (rowH l) (by rfl) (fun e => by subst e; rcases Nat.eq_zero_or_pos len with h0 | h0; exact h0; obtain ⟨g, o, e, _⟩ := (HH.out.2.1 _ hb2).2 h0; cases e) hrw (rowH_ones l) (fun b e => (HH.out.2.1 _ hb2).cells e) (by omega) ?_
      rw [Nat.zero_add, List.nil_append]
      intro A5 n5 w5 hsp5 hA5 hg5
      have hn5 : ∀ q, blk A5 q → W1.heap.size ≤ q := fun q hq => by
        rcases hA5 q hq with h1 | h1
        · rw [blk_some] at h1; omega
        · have := (hb2).size; omega
      have hb5 : Below W1.heap.size W1 w5 := hg5.below hb2 (hb2).size (fun q hq => by rw [blk_some] at hq; omega)
      refine hK.out _ _ (HH.out.1 _ hb5) ?_
      clear hK KK hHeld
      intro hHeld
      try simp only [lpq]
      have hbx := (hg5.block (w.heap.size + 1 + 1) (by simp; omega) (fun e => by rw [blk_some] at e; omega)).trans hbx
      refine rdq1 5 fun KK hK => ?_
      refine step_append_sp elem_ver _ (by rfl) _ _ (by rfl) A5 len n5 (rowH l) (by rfl) hsp5 _ 1 1 [.int .i64 r, .int .i64 k, .int .i64 m, .int .i64 v, .string s, .int .i64 le, .bool g] (by rfl) (fun e => by cases e) (by rfl) h1c (fun b e => by cases e; exact cells_lit (C := [.int .i64 r, .int .i64 k, .int .i64 m, .int .i64 v, .string s, .int .i64 le, .bool g]) (hbx)) (by omega) ?_
      intro A6 n6 w6 hsp6 hA6 hg6
      have hb6 : Below W1.heap.size W1 w6 := hg6.below hb5 (hb5).size hn5
      have hn6 : ∀ q, blk A6 q → W1.heap.size ≤ q := fun q hq => by
        rcases hA6 q hq with h1 | h1
        · exact hn5 q h1
        · have := (hb5).size; omega
      have HO := Lib.hid (And.intro (HF.out w6 A6 n6 hb6 (by rw [HH.out.2.2.2.2.1]; exact hsp6) hn6) hb6)
      refine hK.out _ _ (HH.out.1 _ hb6) ?_
      clear hK KK hHeld
      intro hHeld
      try simp only [lpq]
      refine tkq 6 ?_
      refine dnq ?_
      clear hsp5 hA5 hg5 hn5 hb5 hsp6 hA6 hg6 hn6 hb6 hHeld
      have hRt := rightR_any A6 (len + 1) n6 (l ++ [x]) w6 HO.out.1.sp.vers (by unfold maxLen; omega)
      go_wp2_with fail
      refine hRt.mono ?_
      rintro e w7 ⟨rfl, hb7⟩
      have hO7 : Own14 w w7 A6 (len + 1) n6 (l ++ [x]) := ⟨HO.out.1.sp.keep fun q hq => hb7.block q (HO.out.1.sp.lt hq), HO.out.1.new⟩
      have hbw : Below w.heap.size w w7 := HH.out.2.2.1.trans ((HO.out.2.trans (hb7.mono HO.out.2.size)).mono HH.out.2.2.1.size)
      have HO7 := Lib.hid (And.intro hO7 hbw)
      clear hRt hb7 hO7 hbw
      cases hq : His.rightL (l ++ [x]) with
      | true =>
        have e : His.addL l x = some (l ++ [x]) := if_pos hq
        have HE := Lib.hid e
        clear e
        go_wp2
        refine bodyPost_ret (results_tmp2 rfl _ _ _) rfl ?_
        refine ⟨A6, len + 1, n6, by rw [HE.out]; rfl, by rw [HE.out]; exact HO7.out.1, HO7.out.2⟩
      | false =>
        have e : His.addL l x = none := if_neg (by rw [hq]; decide)
        have HE := Lib.hid e
        clear e
        go_wp2
        refine bodyPost_ret (results_tmp2 rfl _ _ _) rfl ?_
        refine ⟨none, 0, 0, by rw [HE.out]; rfl, by rw [HE.out]; exact Own14.none _ _, HO7.out.2⟩
  · go_simp
    refine hK.out _ _ (HH.out.1 _ (by repeat (first | exact Below.refl _ _ | apply Below.drew | refine Below.alloc ?_ (by simp) _))) ?_
    clear hK KK hHeld
    intro hHeld
    try simp only [lpq]
    obtain ⟨W2, hW2⟩ : ∃ W2, (W1.alloc (.cells #[.int .i64 r, .int .i64 k, .int .i64 m, .int .i64 v, .string s, .int .i64 le, .bool g] 26)).drew = W2 := ⟨_, rfl⟩
    rw [hW2]
    have hb2 : Below W1.heap.size W1 W2 := by rw [← hW2]; exact ((Below.refl _ _).alloc (Nat.le_refl _) _).drew
    have hbx : W2.heap[w.heap.size + 1]? = some (.cells #[.int .i64 r, .int .i64 k, .int .i64 m, .int .i64 v, .string s, .int .i64 le, .bool g] 26) := by rw [← hW2, ← hs1]; exact heap_alloc_new W1 _
    have hs2 : W2.heap.size = W1.heap.size + 1 := by rw [← hW2]; simp
    clear hW2
    refine rdq1 0 fun KK hK => ?_
    go_simp
    refine hK.out _ _ (HH.out.1 _ (hb2.alloc hb2.size _)) ?_
    clear hK KK hHeld
    intro hHeld
    try simp only [lpq]
    have hz2 := heap_alloc_new W2 (.cells #[] 26)
    rw [show W2.heap.size = w.heap.size + 1 + 1 by omega] at hz2
    have hbx := (Below.heap_alloc W2 (.cells #[] 26) _ (hlt hbx)).trans hbx
    have hb2 := hb2.alloc (o := (.cells #[] 26)) hb2.size
    refine rdq1 2 fun KK hK => ?_
    refine step_append_sp elem_ver _ (by rfl) _ _ (by rfl) (some ⟨w.heap.size + 1 + 1, 0, none⟩) 0 0 [] (by rfl) ⟨rfl, Nat.le_refl _, (fun e => by cases e), fun a e => ⟨w.heap.size + 1 + 1, 0, #[], (by injection e with e; exact e.symm), hz2, by simp, fun j u hu => by simp at hu⟩⟩ A len cap (rowH l) (by rfl) (fun e => by subst e; rcases Nat.eq_zero_or_pos len with h0 | h0; exact h0; obtain ⟨g, o, e, _⟩ := (HH.out.2.1 _ hb2).2 h0; cases e) hrw (rowH_ones l) (fun b e => (HH.out.2.1 _ hb2).cells e) (by omega) ?_
    rw [Nat.zero_add, List.nil_append]
    intro A5 n5 w5 hsp5 hA5 hg5
    have hn5 : ∀ q, blk A5 q → W1.heap.size ≤ q := fun q hq => by
      rcases hA5 q hq with h1 | h1
      · rw [blk_some] at h1; omega
      · have := (hb2).size; omega
    have hb5 : Below W1.heap.size W1 w5 := hg5.below hb2 (hb2).size (fun q hq => by rw [blk_some] at hq; omega)
    refine hK.out _ _ (HH.out.1 _ hb5) ?_
    clear hK KK hHeld
    intro hHeld
    try simp only [lpq]
    have hbx := (hg5.block (w.heap.size + 1) (by simp; omega) (fun e => by rw [blk_some] at e; omega)).trans hbx
    refine rdq1 5 fun KK hK => ?_
    refine step_append_sp elem_ver _ (by rfl) _ _ (by rfl) A5 len n5 (rowH l) (by rfl) hsp5 _ 1 1 [.int .i64 r, .int .i64 k, .int .i64 m, .int .i64 v, .string s, .int .i64 le, .bool g] (by rfl) (fun e => by cases e) (by rfl) h1c (fun b e => by cases e; exact cells_lit (C := [.int .i64 r, .int .i64 k, .int .i64 m, .int .i64 v, .string s, .int .i64 le, .bool g]) (hbx)) (by omega) ?_
    intro A6 n6 w6 hsp6 hA6 hg6
    have hb6 : Below W1.heap.size W1 w6 := hg6.below hb5 (hb5).size hn5
    have hn6 : ∀ q, blk A6 q → W1.heap.size ≤ q := fun q hq => by
      rcases hA6 q hq with h1 | h1
      · exact hn5 q h1
      · have := (hb5).size; omega
    have HO := Lib.hid (And.intro (HF.out w6 A6 n6 hb6 (by rw [HH.out.2.2.2.2.1]; exact hsp6) hn6) hb6)
    refine hK.out _ _ (HH.out.1 _ hb6) ?_
    clear hK KK hHeld
    intro hHeld
    try simp only [lpq]
    refine tkq 6 ?_
    refine dnq ?_
    clear hsp5 hA5 hg5 hn5 hb5 hsp6 hA6 hg6 hn6 hb6 hHeld
    have hRt := rightR_any A6 (len + 1) n6 (l ++ [x]) w6 HO.out.1.sp.vers (by unfold maxLen; omega)
    go_wp2_with fail
    refine hRt.mono ?_
    rintro e w7 ⟨rfl, hb7⟩
    have hO7 : Own14 w w7 A6 (len + 1) n6 (l ++ [x]) := ⟨HO.out.1.sp.keep fun q hq => hb7.block q (HO.out.1.sp.lt hq), HO.out.1.new⟩
    have hbw : Below w.heap.size w w7 := HH.out.2.2.1.trans ((HO.out.2.trans (hb7.mono HO.out.2.size)).mono HH.out.2.2.1.size)
    have HO7 := Lib.hid (And.intro hO7 hbw)
    clear hRt hb7 hO7 hbw
    cases hq : His.rightL (l ++ [x]) with
    | true =>
      have e : His.addL l x = some (l ++ [x]) := if_pos hq
      have HE := Lib.hid e
      clear e
      go_wp2
      refine bodyPost_ret (results_tmp2 rfl _ _ _) rfl ?_
      refine ⟨A6, len + 1, n6, by rw [HE.out]; rfl, by rw [HE.out]; exact HO7.out.1, HO7.out.2⟩
    | false =>
      have e : His.addL l x = none := if_neg (by rw [hq]; decide)
      have HE := Lib.hid e
      clear e
      go_wp2
      refine bodyPost_ret (results_tmp2 rfl _ _ _) rfl ?_
      refine ⟨none, 0, 0, by rw [HE.out]; rfl, by rw [HE.out]; exact Own14.none _ _, HO7.out.2⟩

end Go.Proofs.Ytmihijlegacjdaa
