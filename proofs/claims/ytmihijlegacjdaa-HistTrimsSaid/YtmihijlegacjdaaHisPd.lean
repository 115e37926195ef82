/- The program's Add, by its contract. (Written by mkpd.py.) -/
import Derived.Test.YtmihijlegacjdaaHisPc
import Derived.Laws.MakeOwn
namespace Go.Proofs.Ytmihijlegacjdaa
open Go.RowKit
set_option linter.unusedVariables false
set_option linter.unusedSimpArgs false
attribute [local go_sem] Oper.semAt_some

/-- Which error. -/
def His.errO (o : Option (List Ver)) : Int := if o.isSome = true then 0 else 1

theorem make_sp {ts T : TypeId} {z : Value} {sz bytes : Nat} (Ee : Elem ts T z sz bytes) (n : Nat) (hn : n ≤ 1000000) (w1 : World) : (Instr.makeSlice ts (.int .i64 0) (.int .i64 (n : Int))).run Try.prog w1 = .ok (.slice (some ⟨w1.heap.size, 0, none⟩) 0 n) (w1.alloc (.cells (madeCells z.cells (n * sz)) T)) := by
  obtain ⟨i0, hi0, hz0, hz1, hz2⟩ := info_parts Ee.info
  have hfew := Ee.few
  have hb : n * bytes ≤ 1000000 * 1000 := Nat.mul_le_mul hn hfew
  have := run_make (P := Try.prog) w1 ts T i0 _ Ee.sl hi0 hz0 .i64 .i64 0 (n : Int) (Int.le_refl _) (by omega) (by rw [hz2, Int.mul_comm]; omega) (by omega)
  rw [hz1] at this
  exact this

theorem Sp.made {T : TypeId} {sz : Nat} {w : World} {g n : Nat} {zc : Array Value} (h : w.heap[g]? = some (.cells (madeCells zc (n * sz)) T)) : Sp T sz w (some ⟨g, 0, none⟩) 0 n [] :=
  ⟨by simp, Nat.zero_le _, (fun e => by cases e), fun a e => ⟨g, 0, _, by injection e with e; exact e.symm, h, by rw [size_madeCells]; omega, fun j u hu => by simp at hu⟩⟩

theorem Vers.none_ {w : World} {A : Option Addr} {len : Nat} {l : List Ver} (h : Vers w A len l) : A = none → len = 0 := fun e => by
  subst e
  rcases Nat.eq_zero_or_pos len with h0 | h0
  · exact h0
  · obtain ⟨g, o, e, _⟩ := h.2 h0
    cases e

set_option maxRecDepth 100000 in
set_option maxHeartbeats 3200000 in
theorem addP_any (A : Option Addr) (len cap : Nat) (l : List Ver) (x : Ver) (w : World) (h : Vers w A len l) (hlc : len ≤ cap) (hm : len ≤ 900000) :
    Calls Try.prog 32 #[.slice A len cap, verV x] w fun e w' => ∃ R n c, e = .returned (.tuple #[.slice R n c, .int .i64 (His.errO (His.addL l x))]) ∧ Own14 w w' R n c ((His.addL l x).getD []) ∧ Below w.heap.size w w' := by
  have hll := h.1
  have hVt := fun W => verP_any x W
  have hBt := fun W (hW : Below w.heap.size w W) => behP_any A len cap l x W (h.below hW) hm
  obtain ⟨xr, xk, xm, xv, xs, xl, xg⟩ := x
  obtain ⟨x, hx⟩ : ∃ x : Ver, (⟨xr, xk, xm, xv, xs, xl, xg⟩ : Ver) = x := ⟨_, rfl⟩
  have hxc : verC x = [.int .i64 xr, .int .i64 xk, .int .i64 xm, .int .i64 xv, .string xs, .int .i64 xl, .bool xg] := by rw [← hx]; rfl
  dsimp only [verV] at hVt hBt ⊢
  rw [hx] at hVt hBt ⊢
  obtain ⟨W1, hW1⟩ : ∃ W1, w.alloc (.cells #[.int .i64 xr, .int .i64 xk, .int .i64 xm, .int .i64 xv, .string xs, .int .i64 xl, .bool xg] 26) = W1 := ⟨_, rfl⟩
  have hb1 : Below w.heap.size w W1 := by rw [← hW1]; exact (Below.refl _ _).alloc (Nat.le_refl _) _
  have hr1 : W1.heap[w.heap.size]? = some (.cells #[.int .i64 xr, .int .i64 xk, .int .i64 xm, .int .i64 xv, .string xs, .int .i64 xl, .bool xg] 26) := by rw [← hW1]; exact heap_alloc_new w _
  have hs1 : W1.heap.size = w.heap.size + 1 := by rw [← hW1]; simp
  have hRt := rightP_any A len cap l W1 (h.below hb1) hlc hm
  have h1c : ∀ u ∈ ([.int .i64 xr, .int .i64 xk, .int .i64 xm, .int .i64 xv, .string xs, .int .i64 xl, .bool xg] : List Value), u.oneCell' = true := fun u hu => rowH_one u x (by rw [hxc]; exact hu)
  have hrw : (rowH l).length = len * 7 := by rw [rowH_len, hll]
  have HH := Lib.hid (And.intro h (And.intro hxc (And.intro hb1 (And.intro hr1 hs1))))
  have HB := Lib.hid hBt
  clear h hb1 hr1 hs1 hx hxc hBt
  cases hq : His.rightL l with
  | false =>
    rw [hq] at hRt
    have HE := Lib.hid (show His.addL l x = none from His.add_no (.inl hq))
    clear hq
    go_enter Try.func32, Try.ntmps32
    go_wp2_with fail
    try rw [hW1]
    refine hRt.mono ?_
    rintro e w2 ⟨rfl, hb2⟩
    have hb := HH.out.2.2.1.trans (hb2.mono HH.out.2.2.1.size)
    go_wp2
    refine bodyPost_ret (results_tmp2 rfl _ _ _) rfl ?_
    exact ⟨none, 0, 0, by rw [HE.out]; rfl, by rw [HE.out]; exact Own14.none _ _, hb⟩
  | true =>
    rw [hq] at hRt
    go_enter Try.func32, Try.ntmps32
    go_wp2_with fail
    try rw [hW1]
    refine hRt.mono ?_
    rintro e w2 ⟨rfl, hb2⟩
    have hb := HH.out.2.2.1.trans (hb2.mono HH.out.2.2.1.size)
    have hr2 := (hb2.block _ (hlq HH.out.2.2.2.1)).trans HH.out.2.2.2.1
    obtain ⟨x0, x1, x2, x3, x4, x5, x6⟩ := (row7 hr2).1
    have H2 := Lib.hid (And.intro hb hr2)
    clear hRt hb2 hb hr2 hW1
    cases hv : His.verB x with
    | false =>
      rw [hv] at hVt
      have HE := Lib.hid (show His.addL l x = none from His.add_no (.inr (.inl hv)))
      clear hv hq
      go_wp2_with fail
      refine (hVt _).mono ?_
      rintro e w3 ⟨rfl, hb3⟩
      have hb := H2.out.1.trans (hb3.mono H2.out.1.size)
      clear x0 x1 x2 x3 x4 x5 x6
      go_wp2
      refine bodyPost_ret (results_tmp2 rfl _ _ _) rfl ?_
      exact ⟨none, 0, 0, by rw [HE.out]; rfl, by rw [HE.out]; exact Own14.none _ _, hb⟩
    | true =>
      rw [hv] at hVt
      go_wp2_with fail
      refine (hVt _).mono ?_
      rintro e w3 ⟨rfl, hb3⟩
      have hb := H2.out.1.trans (hb3.mono H2.out.1.size)
      have hr3 := (hb3.block _ (hlq H2.out.2)).trans H2.out.2
      have hB3 := HB.out w3 hb
      have H3 := Lib.hid (And.intro hb hr3)
      clear x0 x1 x2 x3 x4 x5 x6
      obtain ⟨x0, x1, x2, x3, x4, x5, x6⟩ := (row7 hr3).1
      clear hVt hb3 hb hr3
      cases hbe : His.behB l x with
      | false =>
        rw [hbe] at hB3
        have HE := Lib.hid (show His.addL l x = none from His.add_no (.inr (.inr hbe)))
        clear hv hq hbe
        go_wp2_with fail
        refine hB3.mono ?_
        rintro e w4 ⟨rfl, hb4⟩
        have hb := H3.out.1.trans (hb4.mono H3.out.1.size)
        clear x0 x1 x2 x3 x4 x5 x6
        go_wp2
        refine bodyPost_ret (results_tmp2 rfl _ _ _) rfl ?_
        exact ⟨none, 0, 0, by rw [HE.out]; rfl, by rw [HE.out]; exact Own14.none _ _, hb⟩
      | true =>
        rw [hbe] at hB3
        have HE := Lib.hid (His.add_yes hq hv hbe)
        clear hv hq hbe
        obtain ⟨n1, hn1⟩ : ∃ n1, len + 1 = n1 := ⟨_, rfl⟩
        have k3 : IntKind.i64.wrap ((len : Int) + 1) = (n1 : Int) := by rw [IntWalk.i64_in _ (by omega)]; omega
        have hmk := fun W => make_sp elem_ver n1 (by omega) W
        dsimp only [Value.cells] at hmk
        go_wp2_with fail
        refine hB3.mono ?_
        rintro e w4 ⟨rfl, hb4⟩
        have hb := H3.out.1.trans (hb4.mono H3.out.1.size)
        have hr4 := (hb4.block _ (hlq H3.out.2)).trans H3.out.2
        clear x0 x1 x2 x3 x4 x5 x6
        have H4 := Lib.hid (And.intro hb hr4)
        clear hB3 hb4 hb hr4
        go_upto_region 4 with fail
        obtain ⟨W5, hW5⟩ : ∃ W5, w4.alloc (.cells (madeCells #[.int .i64 0, .int .i64 0, .int .i64 0, .int .i64 0, .string ⟨#[]⟩, .int .i64 0, .bool false] (n1 * 7)) 26) = W5 := ⟨_, rfl⟩
        rw [hW5]
        have hb5 : Below w.heap.size w W5 := by rw [← hW5]; exact H4.out.1.alloc H4.out.1.size _
        have hz5 : W5.heap[w4.heap.size]? = some (.cells (madeCells #[.int .i64 0, .int .i64 0, .int .i64 0, .int .i64 0, .string ⟨#[]⟩, .int .i64 0, .bool false] (n1 * 7)) 26) := by rw [← hW5]; exact heap_alloc_new w4 _
        have hr5 : W5.heap[w.heap.size]? = some (.cells #[.int .i64 xr, .int .i64 xk, .int .i64 xm, .int .i64 xv, .string xs, .int .i64 xl, .bool xg] 26) := by rw [← hW5]; exact (Below.heap_alloc _ _ _ (hlq H4.out.2)).trans H4.out.2
        have hs5 : W5.heap.size = w4.heap.size + 1 := by rw [← hW5]; simp
        have hs4 := hlq H4.out.2
        have hv5 := HH.out.1.below hb5
        have H5 := Lib.hid (And.intro (Sp.made hz5) (And.intro hv5 (And.intro hb5 (And.intro hr5 hz5))))
        clear hmk hW5 hb5 hz5 hr5 hv5
        go_upto_region 5 with (at_builtin
                               go_loud (refine wpList_append_sp elem_ver _ rfl _ _ rfl (some ⟨w4.heap.size, 0, none⟩) 0 n1 [] rfl (H5.out.1.keep fun q hq => (show Below W5.heap.size W5 _ from (by repeat (first | exact Below.refl _ _ | apply Below.drew | apply below_drewN | refine Below.alloc ?_ (by simp) _))).block q (H5.out.1.lt hq)) A len cap (rowH l) rfl H5.out.2.1.none_ hrw (rowH_ones l) (fun b e => (H5.out.2.1.below (show Below W5.heap.size W5 _ from (by repeat (first | exact Below.refl _ _ | apply Below.drew | apply below_drewN | refine Below.alloc ?_ (by simp) _)))).cells e) (by omega) ?_)
                               rw [Nat.zero_add, List.nil_append]
                               intro A6 c6 w6 hsp6 hA6 hg6)
        have hb6 : Below w.heap.size w w6 := hg6.below H5.out.2.2.1 H5.out.2.2.1.size (fun q hq => by rw [blk_some] at hq; omega)
        have hr6 := (hg6.block w.heap.size (by omega) (fun e => by rw [blk_some] at e; omega)).trans H5.out.2.2.2.1
        have hO6 : Own14 w w6 A6 len c6 l := ⟨hsp6, fun q hq => by
          rcases hA6 q hq with h1 | h1
          · rw [blk_some] at h1; omega
          · omega⟩
        obtain ⟨x0, x1, x2, x3, x4, x5, x6⟩ := (row7 hr6).1
        have H6 := Lib.hid (And.intro hO6 hb6)
        clear hsp6 hA6 hg6 hb6 hr6 hO6
        go_wp2_with (at_builtin
                     go_loud (refine wpList_append_sp elem_ver _ rfl _ _ rfl A6 len c6 (rowH l) rfl (H6.out.1.sp.keep fun q hq => (show Below w6.heap.size w6 _ from (by repeat (first | exact Below.refl _ _ | apply Below.drew | apply below_drewN | refine Below.alloc ?_ (by simp) _))).block q (H6.out.1.sp.lt hq)) _ 1 1 [.int .i64 xr, .int .i64 xk, .int .i64 xm, .int .i64 xv, .string xs, .int .i64 xl, .bool xg] rfl (fun e => by cases e) rfl h1c (fun b e => by cases e; exact cells_lit (C := [.int .i64 xr, .int .i64 xk, .int .i64 xm, .int .i64 xv, .string xs, .int .i64 xl, .bool xg]) (heap_alloc_new _ _)) (by omega) ?_)
                     intro A8 c8 w8 hsp8 hA8 hg8
                     have hP := H6.out.1.push (x := x) H6.out.2 (show Below w6.heap.size w6 _ from (by repeat (first | exact Below.refl _ _ | apply Below.drew | apply below_drewN | refine Below.alloc ?_ (by simp) _))) hg8 (by rw [HH.out.2.1]; exact hsp8) hA8)
        refine bodyPost_ret (results_tmp2 rfl _ _ _) rfl ?_
        exact ⟨A8, n1, c8, by rw [HE.out]; rfl, by rw [HE.out, ← hn1]; exact hP.1, hP.2⟩

end Go.Proofs.Ytmihijlegacjdaa
