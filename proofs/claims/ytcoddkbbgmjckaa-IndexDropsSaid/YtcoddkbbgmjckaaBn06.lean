/- The document's Add, by its contract. (Written by mkadd.py.) -/
import Derived.Test.YtcoddkbbgmjckaaBn05
import Derived.Test.YtcoddkbbgmjckaaBn02
import Derived.Test.YtcoddkbbgmjckaaBn01
namespace Go.Proofs.Ytcoddkbbgmjckaa
open Go.RowKit
set_option linter.unusedVariables false
set_option linter.unusedSimpArgs false
attribute [local go_sem] Oper.semAt_some

theorem Grew.below {B : Nat} {w X w' : World} {A : Option Addr} (h : Grew X w' A) (hb : Below B w X) (hB : B ≤ X.heap.size) (hA : ∀ q, blk A q → B ≤ q) : Below B w w' :=
  ⟨h.os.symm.trans hb.os, h.tape.symm.trans hb.tape, h.output.symm.trans hb.output, Nat.le_trans hb.size h.size, fun b h1 => (h.block b (by omega) fun e => by have := hA b e; omega).trans (hb.block b h1)⟩

/-- A list of versions of its own. -/
structure Own14 (w0 w : World) (R : Option Addr) (n c : Nat) (l : List Ver) : Prop where
  sp : Sp 37 7 w R n c (rowH l)
  new : ∀ q, blk R q → w0.heap.size ≤ q

theorem Own14.none (w0 w : World) : Own14 w0 w none 0 0 [] := ⟨Sp.nil _ _ _, fun q h => absurd h (blk_none q)⟩

set_option maxRecDepth 100000 in
set_option maxHeartbeats 3200000 in
theorem addR_any (A : Option Addr) (len cap : Nat) (l : List Ver) (x : Ver) (w : World) (h : Vers w A len l) (hm : len ≤ 900000) :
    Calls Try.prog 82 #[.slice A len cap, verV x] w fun e w' => ∃ R n c, e = .returned (.tuple #[.slice R n c, .bool (His.addL l x).isSome]) ∧ Own14 w w' R n c ((His.addL l x).getD []) ∧ Below w.heap.size w w' := by
  obtain ⟨r, k, m, v, s, le, g⟩ := x
  obtain ⟨x, hx⟩ : ∃ x : Ver, (⟨r, k, m, v, s, le, g⟩ : Ver) = x := ⟨_, rfl⟩
  have hxc : verC x = [.int .i64 r, .int .i64 k, .int .i64 m, .int .i64 v, .string s, .int .i64 le, .bool g] := by rw [← hx]; rfl
  dsimp only [verV]
  rw [hx]
  have hll := h.1
  obtain ⟨W1, hW1⟩ : ∃ W1, w.alloc (.cells #[.int .i64 r, .int .i64 k, .int .i64 m, .int .i64 v, .string s, .int .i64 le, .bool g] 37) = W1 := ⟨_, rfl⟩
  have hb1 : Below w.heap.size w W1 := by rw [← hW1]; exact (Below.refl _ _).alloc (Nat.le_refl _) _
  have hr1 : W1.heap[w.heap.size]? = some (.cells #[.int .i64 r, .int .i64 k, .int .i64 m, .int .i64 v, .string s, .int .i64 le, .bool g] 37) := by rw [← hW1]; exact heap_alloc_new w _
  have hs1 : W1.heap.size = w.heap.size + 1 := by rw [← hW1]; simp
  have hS : ∀ W, Below W1.heap.size W1 W → W.cell? ⟨w.heap.size, 0, none⟩ = some (.int .i64 r) ∧ W.cell? ⟨w.heap.size, 1, none⟩ = some (.int .i64 k) ∧ W.cell? ⟨w.heap.size, 2, none⟩ = some (.int .i64 m) ∧ W.cell? ⟨w.heap.size, 3, none⟩ = some (.int .i64 v) ∧ W.cell? ⟨w.heap.size, 4, none⟩ = some (.string s) ∧ W.cell? ⟨w.heap.size, 5, none⟩ = some (.int .i64 le) ∧ W.cell? ⟨w.heap.size, 6, none⟩ = some (.bool g) := fun W hW => (row7 ((hW.block _ (by omega)).trans hr1)).1
  have hV : ∀ W, Below W1.heap.size W1 W → Vers W A len l := fun W hW => h.below (hb1.trans (hW.mono hb1.size))
  have HH := Lib.hid (And.intro hS (And.intro hV (And.intro hb1 (And.intro hs1 (And.intro hxc hx)))))
  have hfin : ∀ W A2 c2, Below W1.heap.size W1 W → Sp 37 7 W A2 (len + 1) c2 (rowH l ++ verC x) → (∀ q, blk A2 q → W1.heap.size ≤ q) → Own14 w W A2 (len + 1) c2 (l ++ [x]) := fun W A2 c2 hW hsp hA => ⟨by rw [rowH_add]; exact hsp, fun q hq => by have := hA q hq; omega⟩
  have HF := Lib.hid hfin
  have h1c : ∀ u ∈ ([.int .i64 r, .int .i64 k, .int .i64 m, .int .i64 v, .string s, .int .i64 le, .bool g] : List Value), u.oneCell' = true := fun u hu => rowH_one u x (by rw [hxc]; exact hu)
  have hrw : (rowH l).length = len * 7 := by rw [rowH_len, hll]
  clear h hS hV hb1 hr1 hfin hx
  go_enter Try.func82, Try.ntmps82
  go_wp2_with fail
  try rw [hW1]
  go_upto_region 1 with fail
  refine wp_region_held_drew (S := (fun w' => w'.cell? ⟨w.heap.size, 0, none⟩ = some (.int .i64 r) ∧ w'.cell? ⟨w.heap.size, 1, none⟩ = some (.int .i64 k) ∧ w'.cell? ⟨w.heap.size, 2, none⟩ = some (.int .i64 m) ∧ w'.cell? ⟨w.heap.size, 3, none⟩ = some (.int .i64 v) ∧ w'.cell? ⟨w.heap.size, 4, none⟩ = some (.string s) ∧ w'.cell? ⟨w.heap.size, 5, none⟩ = some (.int .i64 le) ∧ w'.cell? ⟨w.heap.size, 6, none⟩ = some (.bool g))) (by kernel_rfl) (HH.out.1 _ (Below.refl _ _).drew) (fun hHeld => ?_)
  refine lsq 7 ?_
  refine tkq 1 ?_
  refine tkq 3 ?_
  refine rdq2 0 4 (fun KK hK => ?_) (fun KK hK => ?_)
  · go_simp
    refine hK.out _ _ (HH.out.1 _ (by repeat (first | exact Below.refl _ _ | apply Below.drew | refine Below.alloc ?_ (by simp) _))) ?_
    clear hK KK hHeld
    intro hHeld
    try simp only [lpq]
    obtain ⟨W2, hW2⟩ : ∃ W2, (W1.alloc (.cells #[] 37)).drew = W2 := ⟨_, rfl⟩
    rw [hW2]
    have hb2 : Below W1.heap.size W1 W2 := by rw [← hW2]; exact ((Below.refl _ _).alloc (Nat.le_refl _) _).drew
    have hz2 : W2.heap[w.heap.size + 1]? = some (.cells #[] 37) := by rw [← hW2, ← hs1]; exact heap_alloc_new W1 _
    have hs2 : W2.heap.size = W1.heap.size + 1 := by rw [← hW2]; simp
    clear hW2
    refine rdq2 2 4 (fun KK hK => ?_) (fun KK hK => ?_)
    · skip
      refine step_append_sp elem_ver _ (by rfl) _ _ (by rfl) (some ⟨w.heap.size + 1, 0, none⟩) 0 0 [] (by rfl) ⟨rfl, Nat.le_refl _, (fun e => by cases e), fun a e => ⟨w.heap.size + 1, 0, #[], (by injection e with e; exact e.symm), hz2, by simp, fun j u hu => by simp at hu⟩⟩ A len cap (rowH l) (by rfl) (fun e => by subst e; rcases Nat.eq_zero_or_pos len with h0 | h0; exact h0; obtain ⟨g, o, e, _⟩ := (HH.out.2.1 _ hb2).2 h0; cases e) hrw (rowH_ones l) (fun b e => (HH.out.2.1 _ hb2).cells e) (by omega) ?_
      rw [Nat.zero_add, List.nil_append]
      intro A5 n5 w5 hsp5 hA5 hg5
      have hn5 : ∀ q, blk A5 q → W1.heap.size ≤ q := fun q hq => by
        rcases hA5 q hq with h1 | h1
        · rw [blk_some] at h1; omega
        · have := (hb2).size; omega
      have hb5 : Below W1.heap.size W1 w5 := hg5.below hb2 (hb2).size (fun q hq => by rw [blk_some] at hq; omega)
      refine hK.out _ _ (HH.out.1 _ hb5) ?_
      clear hK KK hHeld
      intro hHeld
      try simp only [lpq]
      refine rdq1 4 fun KK hK => ?_
      go_simp
      refine hK.out _ _ (HH.out.1 _ (hb5.alloc hb5.size _)) ?_
      clear hK KK hHeld
      intro hHeld
      try simp only [lpq]
      have hbx := heap_alloc_new w5 (.cells #[.int .i64 r, .int .i64 k, .int .i64 m, .int .i64 v, .string s, .int .i64 le, .bool g] 37)
      have hsp5 := hsp5.keep (w' := w5.alloc (.cells #[.int .i64 r, .int .i64 k, .int .i64 m, .int .i64 v, .string s, .int .i64 le, .bool g] 37)) fun q hq => Below.heap_alloc _ _ _ (hsp5.lt hq)
      have hb5 := hb5.alloc (o := (.cells #[.int .i64 r, .int .i64 k, .int .i64 m, .int .i64 v, .string s, .int .i64 le, .bool g] 37)) hb5.size
      refine rdq1 5 fun KK hK => ?_
      refine step_append_sp elem_ver _ (by rfl) _ _ (by rfl) A5 len n5 (rowH l) (by rfl) hsp5 _ 1 1 [.int .i64 r, .int .i64 k, .int .i64 m, .int .i64 v, .string s, .int .i64 le, .bool g] (by rfl) (fun e => by cases e) (by rfl) h1c (fun b e => by cases e; exact cells_lit (C := [.int .i64 r, .int .i64 k, .int .i64 m, .int .i64 v, .string s, .int .i64 le, .bool g]) (hbx)) (by omega) ?_
      intro A6 n6 w6 hsp6 hA6 hg6
      have hb6 : Below W1.heap.size W1 w6 := hg6.below hb5 (hb5).size hn5
      have hn6 : ∀ q, blk A6 q → W1.heap.size ≤ q := fun q hq => by
        rcases hA6 q hq with h1 | h1
        · exact hn5 q h1
        · have := (hb5).size; omega
      have HO := Lib.hid (And.intro (HF.out w6 A6 n6 hb6 (by rw [HH.out.2.2.2.2.1]; exact hsp6) hn6) hb6)
      refine hK.out _ _ (HH.out.1 _ hb6) ?_
      clear hK KK hHeld
      intro hHeld
      try simp only [lpq]
      refine tkq 6 ?_
      refine dnq ?_
      clear hsp5 hA5 hg5 hn5 hb5 hsp6 hA6 hg6 hn6 hb6 hHeld
      have hRt := rightR_any A6 (len + 1) n6 (l ++ [x]) w6 HO.out.1.sp.vers (by unfold maxLen; omega)
      go_wp2_with fail
      refine hRt.mono ?_
      rintro e w7 ⟨rfl, hb7⟩
      have hO7 : Own14 w w7 A6 (len + 1) n6 (l ++ [x]) := ⟨HO.out.1.sp.keep fun q hq => hb7.block q (HO.out.1.sp.lt hq), HO.out.1.new⟩
      have hbw : Below w.heap.size w w7 := HH.out.2.2.1.trans ((HO.out.2.trans (hb7.mono HO.out.2.size)).mono HH.out.2.2.1.size)
      have HO7 := Lib.hid (And.intro hO7 hbw)
      clear hRt hb7 hO7 hbw
      cases hq : His.rightL (l ++ [x]) with
      | true =>
        have e : His.addL l x = some (l ++ [x]) := if_pos hq
        have HE := Lib.hid e
        clear e
        go_wp2
        refine bodyPost_ret (results_tmp2 rfl _ _ _) rfl ?_
        refine ⟨A6, len + 1, n6, by rw [HE.out]; rfl, by rw [HE.out]; exact HO7.out.1, HO7.out.2⟩
      | false =>
        have e : His.addL l x = none := if_neg (by rw [hq]; decide)
        have HE := Lib.hid e
        clear e
        go_wp2
        refine bodyPost_ret (results_tmp2 rfl _ _ _) rfl ?_
        refine ⟨none, 0, 0, by rw [HE.out]; rfl, by rw [HE.out]; exact Own14.none _ _, HO7.out.2⟩
    · go_simp
      refine hK.out _ _ (HH.out.1 _ (hb2.alloc hb2.size _)) ?_
      clear hK KK hHeld
      intro hHeld
      try simp only [lpq]
      have hbx := heap_alloc_new W2 (.cells #[.int .i64 r, .int .i64 k, .int .i64 m, .int .i64 v, .string s, .int .i64 le, .bool g] 37)
      rw [show W2.heap.size = w.heap.size + 1 + 1 by omega] at hbx
      have hz2 := (Below.heap_alloc W2 (.cells #[.int .i64 r, .int .i64 k, .int .i64 m, .int .i64 v, .string s, .int .i64 le, .bool g] 37) _ (hlt hz2)).trans hz2
      have hb2 := hb2.alloc (o := (.cells #[.int .i64 r, .int .i64 k, .int .i64 m, .int .i64 v, .string s, .int .i64 le, .bool g] 37)) hb2.size
      refine rdq1 2 fun KK hK => ?_
      refine step_append_sp elem_ver _ (by rfl) _ _ (by rfl) (some ⟨w.heap.size + 1, 0, none⟩) 0 0 [] (by rfl) ⟨rfl, Nat.le_refl _, (fun e => by cases e), fun a e => ⟨w.heap.size + 1, 0, #[], (by injection e with e; exact e.symm), hz2, by simp, fun j u hu => by simp at hu⟩⟩ A len cap (rowH l) (by rfl) (fun e => by subst e; rcases Nat.eq_zero_or_pos len with h0 | h0; exact h0; obtain ⟨g, o, e, _⟩ := (HH.out.2.1 _ hb2).2 h0; cases e) hrw (rowH_ones l) (fun b e => (HH.out.2.1 _ hb2).cells e) (by omega) ?_
      rw [Nat.zero_add, List.nil_append]
      intro A5 n5 w5 hsp5 hA5 hg5
      have hn5 : ∀ q, blk A5 q → W1.heap.size ≤ q := fun q hq => by
        rcases hA5 q hq with h1 | h1
        · rw [blk_some] at h1; omega
        · have := (hb2).size; omega
      have hb5 : Below W1.heap.size W1 w5 := hg5.below hb2 (hb2).size (fun q hq => by rw [blk_some] at hq; omega)
      refine hK.out _ _ (HH.out.1 _ hb5) ?_
      clear hK KK hHeld
      intro hHeld
      try simp only [lpq]
      have hbx := (hg5.block (w.heap.size + 1 + 1) (by simp; omega) (fun e => by rw [blk_some] at e; omega)).trans hbx
      refine rdq1 5 fun KK hK => ?_
      refine step_append_sp elem_ver _ (by rfl) _ _ (by rfl) A5 len n5 (rowH l) (by rfl) hsp5 _ 1 1 [.int .i64 r, .int .i64 k, .int .i64 m, .int .i64 v, .string s, .int .i64 le, .bool g] (by rfl) (fun e => by cases e) (by rfl) h1c (fun b e => by cases e; exact cells_lit (C := [.int .i64 r, .int .i64 k, .int .i64 m, .int .i64 v, .string s, .int .i64 le, .bool g]) (hbx)) (by omega) ?_
      intro A6 n6 w6 hsp6 hA6 hg6
      have hb6 : Below W1.heap.size W1 w6 := hg6.below hb5 (hb5).size hn5
      have hn6 : ∀ q, blk A6 q → W1.heap.size ≤ q := fun q hq => by
        rcases hA6 q hq with h1 | h1
        · exact hn5 q h1
        · have := (hb5).size; omega
      have HO := Lib.hid (And.intro (HF.out w6 A6 n6 hb6 (by rw [HH.out.2.2.2.2.1]; exact hsp6) hn6) hb6)
      refine hK.out _ _ (HH.out.1 _ hb6) ?_
      clear hK KK hHeld
      intro hHeld
      try simp only [lpq]
      refine tkq 6 ?_
      refine dnq ?_
      clear hsp5 hA5 hg5 hn5 hb5 hsp6 hA6 hg6 hn6 hb6 hHeld
      have hRt := rightR_any A6 (len + 1) n6 (l ++ [x]) w6 HO.out.1.sp.vers (by unfold maxLen; omega)
      go_wp2_with fail
      refine hRt.mono ?_
      rintro e w7 ⟨rfl, hb7⟩
      have hO7 : Own14 w w7 A6 (len + 1) n6 (l ++ [x]) := ⟨HO.out.1.sp.keep fun q hq => hb7.block q (HO.out.1.sp.lt hq), HO.out.1.new⟩
      have hbw : Below w.heap.size w w7 := HH.out.2.2.1.trans ((HO.out.2.trans (hb7.mono HO.out.2.size)).mono HH.out.2.2.1.size)
      have HO7 := Lib.hid (And.intro hO7 hbw)
      clear hRt hb7 hO7 hbw
      cases hq : His.rightL (l ++ [x]) with
      | true =>
        have e : His.addL l x = some (l ++ [x]) := if_pos hq
        have HE := Lib.hid e
        clear e
        go_wp2
        refine bodyPost_ret (results_tmp2 rfl _ _ _) rfl ?_
        refine ⟨A6, len + 1, n6, by rw [HE.out]; rfl, by rw [HE.out]; exact HO7.out.1, HO7.out.2⟩
      | false =>
        have e : His.addL l x = none := if_neg (by rw [hq]; decide)
        have HE := Lib.hid e
        clear e
        go_wp2
        refine bodyPost_ret (results_tmp2 rfl _ _ _) rfl ?_
        refine ⟨none, 0, 0, by rw [HE.out]; rfl, by rw [HE.out]; exact Own14.none _ _, HO7.out.2⟩
  · go_simp
    refine hK.out _ _ (HH.out.1 _ (by repeat (first | exact Below.refl _ _ | apply Below.drew | refine Below.alloc ?_ (by simp) _))) ?_
    clear hK KK hHeld
    intro hHeld
    try simp only [lpq]
    obtain ⟨W2, hW2⟩ : ∃ W2, (W1.alloc (.cells #[.int .i64 r, .int .i64 k, .int .i64 m, .int .i64 v, .string s, .int .i64 le, .bool g] 37)).drew = W2 := ⟨_, rfl⟩
    rw [hW2]
    have hb2 : Below W1.heap.size W1 W2 := by rw [← hW2]; exact ((Below.refl _ _).alloc (Nat.le_refl _) _).drew
    have hbx : W2.heap[w.heap.size + 1]? = some (.cells #[.int .i64 r, .int .i64 k, .int .i64 m, .int .i64 v, .string s, .int .i64 le, .bool g] 37) := by rw [← hW2, ← hs1]; exact heap_alloc_new W1 _
    have hs2 : W2.heap.size = W1.heap.size + 1 := by rw [← hW2]; simp
    clear hW2
    refine rdq1 0 fun KK hK => ?_
    go_simp
    refine hK.out _ _ (HH.out.1 _ (hb2.alloc hb2.size _)) ?_
    clear hK KK hHeld
    intro hHeld
    try simp only [lpq]
    have hz2 := heap_alloc_new W2 (.cells #[] 37)
    rw [show W2.heap.size = w.heap.size + 1 + 1 by omega] at hz2
    have hbx := (Below.heap_alloc W2 (.cells #[] 37) _ (hlt hbx)).trans hbx
    have hb2 := hb2.alloc (o := (.cells #[] 37)) hb2.size
    refine rdq1 2 fun KK hK => ?_
    refine step_append_sp elem_ver _ (by rfl) _ _ (by rfl) (some ⟨w.heap.size + 1 + 1, 0, none⟩) 0 0 [] (by rfl) ⟨rfl, Nat.le_refl _, (fun e => by cases e), fun a e => ⟨w.heap.size + 1 + 1, 0, #[], (by injection e with e; exact e.symm), hz2, by simp, fun j u hu => by simp at hu⟩⟩ A len cap (rowH l) (by rfl) (fun e => by subst e; rcases Nat.eq_zero_or_pos len with h0 | h0; exact h0; obtain ⟨g, o, e, _⟩ := (HH.out.2.1 _ hb2).2 h0; cases e) hrw (rowH_ones l) (fun b e => (HH.out.2.1 _ hb2).cells e) (by omega) ?_
    rw [Nat.zero_add, List.nil_append]
    intro A5 n5 w5 hsp5 hA5 hg5
    have hn5 : ∀ q, blk A5 q → W1.heap.size ≤ q := fun q hq => by
      rcases hA5 q hq with h1 | h1
      · rw [blk_some] at h1; omega
      · have := (hb2).size; omega
    have hb5 : Below W1.heap.size W1 w5 := hg5.below hb2 (hb2).size (fun q hq => by rw [blk_some] at hq; omega)
    refine hK.out _ _ (HH.out.1 _ hb5) ?_
    clear hK KK hHeld
    intro hHeld
    try simp only [lpq]
    have hbx := (hg5.block (w.heap.size + 1) (by simp; omega) (fun e => by rw [blk_some] at e; omega)).trans hbx
    refine rdq1 5 fun KK hK => ?_
    refine step_append_sp elem_ver _ (by rfl) _ _ (by rfl) A5 len n5 (rowH l) (by rfl) hsp5 _ 1 1 [.int .i64 r, .int .i64 k, .int .i64 m, .int .i64 v, .string s, .int .i64 le, .bool g] (by rfl) (fun e => by cases e) (by rfl) h1c (fun b e => by cases e; exact cells_lit (C := [.int .i64 r, .int .i64 k, .int .i64 m, .int .i64 v, .string s, .int .i64 le, .bool g]) (hbx)) (by omega) ?_
    intro A6 n6 w6 hsp6 hA6 hg6
    have hb6 : Below W1.heap.size W1 w6 := hg6.below hb5 (hb5).size hn5
    have hn6 : ∀ q, blk A6 q → W1.heap.size ≤ q := fun q hq => by
      rcases hA6 q hq with h1 | h1
      · exact hn5 q h1
      · have := (hb5).size; omega
    have HO := Lib.hid (And.intro (HF.out w6 A6 n6 hb6 (by rw [HH.out.2.2.2.2.1]; exact hsp6) hn6) hb6)
    refine hK.out _ _ (HH.out.1 _ hb6) ?_
    clear hK KK hHeld
    intro hHeld
    try simp only [lpq]
    refine tkq 6 ?_
    refine dnq ?_
    clear hsp5 hA5 hg5 hn5 hb5 hsp6 hA6 hg6 hn6 hb6 hHeld
    have hRt := rightR_any A6 (len + 1) n6 (l ++ [x]) w6 HO.out.1.sp.vers (by unfold maxLen; omega)
    go_wp2_with fail
    refine hRt.mono ?_
    rintro e w7 ⟨rfl, hb7⟩
    have hO7 : Own14 w w7 A6 (len + 1) n6 (l ++ [x]) := ⟨HO.out.1.sp.keep fun q hq => hb7.block q (HO.out.1.sp.lt hq), HO.out.1.new⟩
    have hbw : Below w.heap.size w w7 := HH.out.2.2.1.trans ((HO.out.2.trans (hb7.mono HO.out.2.size)).mono HH.out.2.2.1.size)
    have HO7 := Lib.hid (And.intro hO7 hbw)
    clear hRt hb7 hO7 hbw
    cases hq : His.rightL (l ++ [x]) with
    | true =>
      have e : His.addL l x = some (l ++ [x]) := if_pos hq
      have HE := Lib.hid e
      clear e
      go_wp2
      refine bodyPost_ret (results_tmp2 rfl _ _ _) rfl ?_
      refine ⟨A6, len + 1, n6, by rw [HE.out]; rfl, by rw [HE.out]; exact HO7.out.1, HO7.out.2⟩
    | false =>
      have e : His.addL l x = none := if_neg (by rw [hq]; decide)
      have HE := Lib.hid e
      clear e
      go_wp2
      refine bodyPost_ret (results_tmp2 rfl _ _ _) rfl ?_
      refine ⟨none, 0, 0, by rw [HE.out]; rfl, by rw [HE.out]; exact Own14.none _ _, HO7.out.2⟩

end Go.Proofs.Ytcoddkbbgmjckaa

namespace Go.Proofs.Ytcoddkbbgmjckaa
open Go.RowKit
set_option linter.unusedVariables false
set_option linter.unusedSimpArgs false

/-- A key, its history, and where that lies. -/
structure KLay where
  k : ByteArray
  h : List Ver
  B : Option Addr
  c : Nat

namespace KLay
def cells (x : KLay) : List Value := [.string x.k, .slice x.B x.h.length x.c]
def kh (x : KLay) : Idx.KH := (x.k, x.h)
end KLay
def rowK (xs : List KLay) : List Value := xs.flatMap KLay.cells

theorem elem_hist : Elem 33 60 (.agg #[.string ⟨#[]⟩, .slice none 0 0]) 2 40 := ⟨Try.underlying33, by kernel_rfl, rfl, by omega, by omega⟩

theorem rowK_len (xs : List KLay) : (rowK xs).length = xs.length * 2 := by
  unfold rowK
  induction xs with
  | nil => rfl
  | cons x xs ih =>
    rw [List.flatMap_cons, List.length_append, ih, List.length_cons]
    show 2 + _ = _
    omega
theorem rowK_add (xs : List KLay) (x : KLay) : rowK (xs ++ [x]) = rowK xs ++ x.cells := by unfold rowK; rw [List.flatMap_append]; simp
theorem rowK_one (x : KLay) : ∀ u ∈ x.cells, u.oneCell' = true := by
  intro u h
  unfold KLay.cells at h
  simp only [List.mem_cons, List.not_mem_nil, or_false] at h
  rcases h with rfl | rfl <;> rfl
theorem rowK_at (xs : List KLay) (k : Nat) (hk : k < xs.length) (j : Nat) (hj : j < 2) : (rowK xs)[k * 2 + j]? = (xs[k].cells)[j]? := by
  unfold rowK
  induction xs generalizing k with
  | nil => cases hk
  | cons x xs ih =>
    have hx : x.cells.length = 2 := rfl
    rw [List.flatMap_cons]
    cases k with
    | zero => rw [List.getElem?_append_left (by omega)]; simp
    | succ k =>
      rw [List.getElem?_append_right (by omega), hx, show (k + 1) * 2 + j - 2 = k * 2 + j by omega, ih k (by simpa using hk)]
      rfl

/-- Keys that can be read. -/
structure IxL (w : World) (A : Option Addr) (n cap : Nat) (xs : List KLay) : Prop where
  sp : Sp 60 2 w A n cap (rowK xs)
  vs : ∀ x ∈ xs, Vers w x.B x.h.length x.h

section
variable {w w' : World} {A : Option Addr} {n cap : Nat} {xs : List KLay}

theorem IxL.len (h : IxL w A n cap xs) : xs.length = n := by
  have := h.sp.1
  rw [rowK_len] at this
  omega
theorem IxL.below (h : IxL w A n cap xs) (hb : Below w.heap.size w w') : IxL w' A n cap xs := ⟨h.sp.keep fun q hq => hb.block q (h.sp.lt hq), fun x hx => (h.vs x hx).below hb⟩
theorem IxL.nil (w : World) : IxL w none 0 0 [] := ⟨Sp.nil _ _ _, fun x hx => by cases hx⟩

/-- Where one of them lies. -/
theorem IxL.at_ (h : IxL w A n cap xs) (k : Nat) (hk : k < n) : ∃ g off, A = some ⟨g, off, none⟩ ∧ g < w.heap.size ∧ w.cell? ⟨g, off + k * 2, none⟩ = some (.string (xs[k]'(by rw [h.len]; exact hk)).k) ∧ w.cell? ⟨g, off + k * 2 + 1, none⟩ = some (.slice (xs[k]'(by rw [h.len]; exact hk)).B (xs[k]'(by rw [h.len]; exact hk)).h.length (xs[k]'(by rw [h.len]; exact hk)).c) := by
  have hl := h.len
  obtain ⟨g, off, e, hg, hc, _⟩ := h.sp.at_ (by omega) k hk
  refine ⟨g, off, e, hg, ?_, ?_⟩
  · have := hc 0 (by omega) (.string (xs[k]'(by omega)).k) (by rw [rowK_at xs k (by omega) 0 (by omega)]; rfl)
    simpa using this
  · exact hc 1 (by omega) _ (by rw [rowK_at xs k (by omega) 1 (by omega)]; rfl)
end

/-- Keys in a row of a call's own. -/
structure OwnK (w0 w : World) (R : Option Addr) (n c : Nat) (xs : List KLay) : Prop where
  ix : IxL w R n c xs
  new : ∀ q, blk R q → w0.heap.size ≤ q

theorem OwnK.none (w0 w : World) : OwnK w0 w none 0 0 [] := ⟨IxL.nil w, fun q h => absurd h (blk_none q)⟩
theorem OwnK.next {w0 w w' : World} {R : Option Addr} {n c : Nat} {xs : List KLay} (h : OwnK w0 w R n c xs) (hb : Below w.heap.size w w') : OwnK w0 w' R n c xs := ⟨h.ix.below hb, h.new⟩
theorem OwnK.from {w w1 w' : World} {R : Option Addr} {n c : Nat} {xs : List KLay} (h : OwnK w1 w' R n c xs) (hs : w.heap.size ≤ w1.heap.size) : OwnK w w' R n c xs := ⟨h.ix, fun q hq => Nat.le_trans hs (h.new q hq)⟩

/-- One more: X is the world that the append began in, nothing but Below of wr. -/
theorem OwnK.push {w0 wr X w8 : World} {R A8 : Option Addr} {n c c8 : Nat} {xs : List KLay} {x : KLay} (h : OwnK w0 wr R n c xs) (hb : Below w0.heap.size w0 wr) (hX : Below wr.heap.size wr X) (hg : Grew X w8 R) (hsp : Sp 60 2 w8 A8 (n + 1) c8 (rowK xs ++ x.cells)) (hA : ∀ q, blk A8 q → blk R q ∨ X.heap.size ≤ q)
    (hv : Vers w0 x.B x.h.length x.h ∨ (0 < x.h.length → ∀ q, blk x.B q → ¬ blk R q) ∧ Vers wr x.B x.h.length x.h) (hvs : ∀ y ∈ xs, Vers w0 y.B y.h.length y.h ∨ (0 < y.h.length → ∀ q, blk y.B q → ¬ blk R q)) :
    OwnK w0 w8 A8 (n + 1) c8 (xs ++ [x]) ∧ Below w0.heap.size w0 w8 := by
  have h1 := hb.size
  have h2 := hX.size
  have hb8 : Below w0.heap.size w0 w8 := hg.below (hb.trans (hX.mono h1)) (by omega) h.new
  have keepN : ∀ {B : Option Addr} {m : Nat} {l : List Ver}, Vers wr B m l → (0 < m → ∀ q, blk B q → ¬ blk R q) → Vers w8 B m l := fun {B m l} hV hn => by
    rcases Nat.eq_zero_or_pos m with h0 | h0
    · subst h0
      exact ⟨hV.1, fun h => absurd h (Nat.lt_irrefl _)⟩
    · exact hV.keep (Nat.le_trans h2 hg.size) fun q hq hlt => (hg.block q (by omega) (hn h0 q hq)).trans (hX.block q hlt)
  refine ⟨⟨⟨by rw [rowK_add]; exact hsp, fun y hy => ?_⟩, fun q hq => ?_⟩, hb8⟩
  · rcases List.mem_append.1 hy with hy | hy
    · rcases hvs y hy with h3 | h3
      · exact h3.below hb8
      · exact keepN (h.ix.vs y hy) h3
    · rw [List.mem_singleton] at hy
      subst hy
      rcases hv with h3 | ⟨h3, h4⟩
      · exact h3.below hb8
      · exact keepN h4 h3
  · rcases hA q hq with h3 | h3
    · exact h.new q h3
    · omega

end Go.Proofs.Ytcoddkbbgmjckaa

namespace Go.Proofs.Ytcoddkbbgmjckaa
open Go.RowKit

/-- A key's history: its slice, its versions. -/
structure HL where
  B : Option Addr
  h : List Ver
  c : Nat

abbrev hlV (x : HL) : Value := .slice x.B x.h.length x.c

end Go.Proofs.Ytcoddkbbgmjckaa

namespace Go.Proofs.Ytcoddkbbgmjckaa.MapKh
open Go.RowKit Go.Proofs.Ytcoddkbbgmjckaa
set_option linter.unusedVariables false

abbrev T := Tr ByteArray HL

def Rp (P : Nat → Prop) (w : World) : Option Addr → T → Prop
  | u, .nil => u = none ∧ ∀ k, w.heap.size ≤ k → P k
  | u, .node k v l r => ∃ b ul ur, u = some ⟨b, 0, none⟩ ∧ P b ∧ w.cell? ⟨b, 0, none⟩ = some (Value.string k) ∧ w.cell? ⟨b, 1, none⟩ = some ((hlV v)) ∧
      w.cell? ⟨b, 2, none⟩ = some (.pointer ul) ∧ w.cell? ⟨b, 3, none⟩ = some (.pointer ur) ∧
      w.cell? ⟨b, 4, none⟩ = some (.int .i64 ((l.size + 1 + r.size : Nat) : Int)) ∧ w.cell? ⟨b, 5, none⟩ = some (.int .i64 ((Nat.max l.deep r.deep + 1 : Nat) : Int)) ∧
      Rp P w ul l ∧ Rp P w ur r

variable {P P' : Nat → Prop} {w w' : World} {t : T} {u : Option Addr}

theorem Rp.ev : ∀ {t : T} {u : Option Addr}, Rp P w u t → ∀ k, w.heap.size ≤ k → P k
  | .nil, _, h => h.2
  | .node k v l r, _, ⟨b, ul, ur, hu, hPb, c0, c1, c2, c3, c4, c5, hl, hr⟩ => Rp.ev hl

theorem Rp.carry (hE : ∀ k, w'.heap.size ≤ k → P' k) (h : ∀ b, b < w.heap.size → P b → (∃ k, w.cell? ⟨b, 0, none⟩ = some (Value.string k)) → P' b ∧ w'.heap[b]? = w.heap[b]?) : ∀ {t : T} {u : Option Addr}, Rp P w u t → Rp P' w' u t
  | .nil, _, hr => ⟨hr.1, hE⟩
  | .node k v l r, _, ⟨b, ul, ur, hu, hPb, c0, c1, c2, c3, c4, c5, hl, hr⟩ => by
    obtain ⟨hP, hx⟩ := h b (World.block_lt_of_cell? w _ c0) hPb ⟨_, c0⟩
    have hc : ∀ o, w'.cell? ⟨b, o, none⟩ = w.cell? ⟨b, o, none⟩ := fun o => World.cell?_of_block hx
    exact ⟨b, ul, ur, hu, hP, (hc _).trans c0, (hc _).trans c1, (hc _).trans c2, (hc _).trans c3, (hc _).trans c4, (hc _).trans c5, Rp.carry hE h hl, Rp.carry hE h hr⟩

theorem Rp.below {B : Nat} (hb : Below B w w') (hB : w.heap.size ≤ B) (h : Rp P w u t) : Rp P w' u t :=
  h.carry (fun k hk => h.ev k (Nat.le_trans hb.size hk)) fun b hlt hP _ => ⟨hP, hb.block b (Nat.lt_of_lt_of_le hlt hB)⟩

theorem Rp.alloc (o : Obj) (h : Rp P w u t) : Rp P (w.alloc o) u t := h.below ((Below.refl w.heap.size w).alloc (Nat.le_refl _) o) (Nat.le_refl _)
theorem Rp.drew (h : Rp P w u t) : Rp P w.drew u t := h.below ((Below.refl w.heap.size w).drew) (Nat.le_refl _)

/-- A new node of two sides, behind one other new block. -/
theorem Rp.made {k : ByteArray} {v : HL} {l r : T} {ul ur : Option Addr} {s d : Int} (hl : Rp P w ul l) (hr : Rp P w ur r) (o : Obj) (ty : TypeId)
    (hs : s = ((l.size + 1 + r.size : Nat) : Int)) (hd : d = ((Nat.max l.deep r.deep + 1 : Nat) : Int)) :
    Rp P ((w.alloc o).alloc (.cells #[Value.string k, (hlV v), .pointer ul, .pointer ur, .int .i64 s, .int .i64 d] ty)).drew (some ⟨w.heap.size + 1, 0, none⟩) (.node k v l r) := by
  subst hs hd
  have e : ∀ i, ((w.alloc o).alloc (.cells #[Value.string k, (hlV v), .pointer ul, .pointer ur, .int .i64 ((l.size + 1 + r.size : Nat) : Int), .int .i64 ((Nat.max l.deep r.deep + 1 : Nat) : Int)] ty)).cell? ⟨w.heap.size + 1, i, none⟩ =
      #[Value.string k, (hlV v), .pointer ul, .pointer ur, .int .i64 ((l.size + 1 + r.size : Nat) : Int), .int .i64 ((Nat.max l.deep r.deep + 1 : Nat) : Int)][i]? := fun i => by
    simp
  exact ⟨w.heap.size + 1, ul, ur, rfl, hl.ev _ (by omega), e 0, e 1, e 2, e 3, e 4, e 5, ((hl.alloc o).alloc _).drew, ((hr.alloc o).alloc _).drew⟩

/-- A store into a block of one cell: no node lies there. -/
theorem Rp.setCell {g i : Nat} (hg : w.cell? ⟨g, 1, none⟩ = none) (x : Value) : ∀ {t : T} {u : Option Addr}, Rp P w u t → Rp P (w.setCell ⟨g, i, none⟩ x) u t
  | .nil, _, hr => ⟨hr.1, by simpa using hr.2⟩
  | .node k v l r, _, ⟨b, ul, ur, hu, hPb, c0, c1, c2, c3, c4, c5, hl, hr⟩ => by
    have hb : g ≠ b := by rintro rfl; rw [hg] at c1; cases c1
    have h : ∀ o, (w.setCell ⟨g, i, none⟩ x).cell? ⟨b, o, none⟩ = w.cell? ⟨b, o, none⟩ := fun o => World.cell?_setCell_other w ⟨g, i, none⟩ ⟨b, o, none⟩ x (fun e => hb (by injection e))
    exact ⟨b, ul, ur, hu, hPb, (h _).trans c0, (h _).trans c1, (h _).trans c2, (h _).trans c3, (h _).trans c4, (h _).trans c5, Rp.setCell hg x hl, Rp.setCell hg x hr⟩

end Go.Proofs.Ytcoddkbbgmjckaa.MapKh
