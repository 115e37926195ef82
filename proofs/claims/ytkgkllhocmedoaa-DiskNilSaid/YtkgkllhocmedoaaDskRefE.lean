/- The document's Read, Fuse, Append, each by its contract. -/
import Derived.Test.YtkgkllhocmedoaaDskRefD
namespace Go.Proofs.Ytkgkllhocmedoaa
open Go.RowKit
set_option linter.unusedVariables false
set_option linter.unusedSimpArgs false

set_option maxRecDepth 100000 in
set_option maxHeartbeats 1000000 in
theorem readR_any (A : Option Addr) (cap : Nat) (D : Dsk) (name : ByteArray) (w : World) (h : RF w A cap D.l) (hl : D.l.length ≤ 400000000) :
    Calls Try.prog 31 #[diskV A cap D, .string name] w fun e w' => e = .returned (.tuple #[.string (D.read name).1, .int .i64 (((D.read name).2 : Nat) : Int)]) ∧ Below w.heap.size w w' := by
  have hbW : Below w.heap.size w (w.alloc (.cells (diskC A cap D) 31)) := (Below.refl _ _).alloc (Nat.le_refl _) _
  have hm0 : (w.alloc (.cells (diskC A cap D) 31)).heap[w.heap.size]? = some (.cells (diskC A cap D) 31) := heap_alloc_new _ _
  have hsW : (w.alloc (.cells (diskC A cap D) 31)).heap.size = w.heap.size + 1 := by simp
  have hM := mayR_any A cap D name name
  have hDef : Hid (D.read name = if D.may name name ≠ 0 then (ByteArray.empty, D.may name name) else if (getF D.l name).2 = false then (ByteArray.empty, 6) else ((getF D.l name).1.b, 0)) := ⟨rfl⟩
  have hG := fun w h => getR_any A cap D name w h (by omega)
  generalize hW : (w.alloc (.cells (diskC A cap D) 31)) = W at hbW hm0 hsW
  have HW := Lib.hid hW
  clear hW
  generalize D.may name name = m at hM hDef
  generalize D.read name = R at hDef ⊢
  generalize getF D.l name = gf at hDef hG
  obtain ⟨⟨gname, gb, gsafe⟩, ok⟩ := gf
  obtain ⟨room, l, set, n, lost⟩ := D
  dsimp only at *
  go_enter Try.func31, Try.ntmps31
  go_wp2_with fail
  rw [HW.out]
  refine (hM _).mono ?_
  rintro e w1 ⟨rfl, hb1⟩
  have m0 := (hb1.block _ (by omega)).trans hm0
  have hbw1 : Below w.heap.size w w1 := hbW.trans (hb1.mono hbW.size)
  clear hb1 hM hbW hm0 hsW HW
  obtain ⟨⟨a0, a1, a2, a3, a4⟩, _⟩ := row5 m0
  clear m0
  by_cases hmz : m = 0
  · subst hmz
    rw [if_neg (by simp)] at hDef
    go_wp2_with fail
    refine (hG _ (h.below hbw1 (Nat.le_refl _))).mono ?_
    rintro e w2 ⟨rfl, hb2⟩
    have hbw2 : Below w.heap.size w w2 := hbw1.trans (hb2.mono hbw1.size)
    clear hb2 a0 a1 a2 a3 a4 hbw1 hG
    cases ok with
    | false =>
      rw [if_pos rfl] at hDef
      go_wp2
      go_ret2
      exact ⟨by rw [hDef.out]; rfl, hbw2.alloc hbw2.size _⟩
    | true =>
      rw [if_neg (by decide)] at hDef
      go_wp2
      go_ret2
      exact ⟨by rw [hDef.out]; rfl, hbw2.alloc hbw2.size _⟩
  · rw [if_pos hmz] at hDef
    have hmz' : ((m : Int) != 0) = true := by simp; omega
    clear hmz
    go_wp2
    go_ret2
    exact ⟨by rw [hDef.out]; rfl, hbw1⟩

set_option maxRecDepth 100000 in
set_option maxHeartbeats 1000000 in
theorem fuseR_any (A : Option Addr) (cap : Nat) (D : Dsk) (z : Int) (w : World) :
    Calls Try.prog 32 #[diskV A cap D, .int .i64 z] w fun e w' => e = .returned (.tuple #[diskV A cap (D.fuse z).1, .int .i64 (((D.fuse z).2 : Nat) : Int)]) ∧ (D.fuse z).1.l = D.l ∧ Below w.heap.size w w' := by
  have hb : ∀ a b, Below w.heap.size w ((w.alloc a).alloc b) := fun a b => ((Below.refl _ _).alloc (Nat.le_refl _) _).alloc (by simp) _
  have hDef : Hid (D.fuse z = if D.lost then (D, 5) else if z < 0 then (D, 1) else ({ D with set := true, n := z }, 0)) := ⟨rfl⟩
  generalize D.fuse z = R at hDef ⊢
  obtain ⟨room, l, set, n, lost⟩ := D
  dsimp only at *
  cases lost with
  | true =>
    rw [if_pos rfl] at hDef
    go_enter Try.func32, Try.ntmps32
    go_wp2
    refine bodyPost_ret (res_cell_tmp' (n := w.heap.size + 1) rfl rfl (heap_alloc2_new _ _ _) Try.underlying31 rfl (by kernel_rfl)) rfl ?_
    rw [hDef.out]
    exact ⟨rfl, rfl, hb _ _⟩
  | false =>
    rw [if_neg (by decide)] at hDef
    by_cases hz : z < 0
    · rw [if_pos hz] at hDef
      go_enter Try.func32, Try.ntmps32
      go_wp2
      refine bodyPost_ret (res_cell_tmp' (n := w.heap.size + 1) rfl rfl (heap_alloc2_new _ _ _) Try.underlying31 rfl (by kernel_rfl)) rfl ?_
      rw [hDef.out]
      exact ⟨rfl, rfl, hb _ _⟩
    · rw [if_neg hz] at hDef
      go_enter Try.func32, Try.ntmps32
      go_wp2
      refine bodyPost_ret (res_cell_tmp' (n := w.heap.size + 1) rfl rfl (heap_alloc2_new _ _ _) Try.underlying31 rfl (by kernel_rfl)) rfl ?_
      rw [hDef.out]
      exact ⟨rfl, rfl, hb _ _⟩

theorem usedF_mem {l : List Fil} {f : Fil} (h : f ∈ l) : f.b.size ≤ usedF l := by
  induction l with
  | nil => cases h
  | cons g l ih =>
    have e : usedF (g :: l) = g.b.size + usedF l := by simp [usedF]
    rw [e]
    rcases List.mem_cons.1 h with rfl | h
    · omega
    · have := ih h; omega

theorem getF_size (l : List Fil) (name : ByteArray) : (getF l name).1.b.size ≤ usedF l := by
  unfold getF
  cases hq : l.find? (isN name) with
  | none => simp
  | some f => exact usedF_mem (List.mem_of_find?_eq_some hq)

set_option maxRecDepth 100000 in
set_option maxHeartbeats 2000000 in
theorem appendR_any (A : Option Addr) (cap : Nat) (D : Dsk) (name s : ByteArray) (w : World) (h : RF w A cap D.l) (hl : D.l.length ≤ 400000000) (hn : -9223372036854775808 ≤ D.n ∧ D.n ≤ 9223372036854775807) (hu : usedF D.l ≤ 1099511627776) (hs : s.size ≤ 1099511627776) :
    Calls Try.prog 26 #[diskV A cap D, .string name, .string s] w fun e w' => ∃ A' cap', e = .returned (.tuple #[diskV A' cap' (D.append name s).1, .int .i64 (((D.append name s).2 : Nat) : Int)]) ∧ Got w A cap D.l w' A' cap' (D.append name s).1.l := by
  obtain ⟨hbW, hm0, hm1, hsW⟩ := begin2 w (diskC A cap D) 31
  have hM := mayR_any A cap D name name
  have hDef : Hid (D.append name s = if D.may name name ≠ 0 then (D, D.may name name) else if D.room < (usedF D.l : Int) + (s.size : Int) then (D, 4) else
    let d := Dsk.burn { D with l := putF D.l { (getF D.l name).1 with b := (getF D.l name).1.b ++ s } }
    if d.lost then (d, 5) else (d, 0)) := ⟨rfl⟩
  have hU := fun w h => usedR_any A cap D w h hu (by omega)
  have hG := fun w h => getR_any A cap D name w h (by omega)
  have hP := fun f w h => putR_any A cap D f w h (by omega)
  have hB := fun (f : Fil) (A' : Option Addr) (cap' : Nat) w => burnR_any A' cap' { D with l := putF D.l f } w hn
  generalize hW : (w.alloc (.cells (diskC A cap D) 31)).alloc (.cells zeroC 31) = W at hbW hm0 hm1 hsW
  have HW := Lib.hid hW
  clear hW
  generalize D.may name name = m at hM hDef
  generalize D.append name s = R at hDef ⊢
  have hgs := getF_size D.l name
  generalize getF D.l name = gf at hDef hG hgs
  obtain ⟨⟨gname, gb, gsafe⟩, ok⟩ := gf
  have hP := fun w h => hP ⟨gname, gb ++ s, gsafe⟩ w h
  have hB := hB ⟨gname, gb ++ s, gsafe⟩
  have hbl := burn_l { D with l := putF D.l ⟨gname, gb ++ s, gsafe⟩ }
  obtain ⟨room, l, set, n, lost⟩ := D
  dsimp only at *
  generalize Dsk.burn ⟨room, putF l ⟨gname, gb ++ s, gsafe⟩, set, n, lost⟩ = E at hB hbl hDef
  obtain ⟨eroom, el, eset, en, elost⟩ := E
  dsimp only at *
  subst hbl
  generalize usedF l = u at hU hDef hu hgs
  have hcat : ¬ (9223372036854775807 < gb.size + s.size) := by omega
  go_enter Try.func26, Try.ntmps26
  go_wp2_with fail
  rw [HW.out]
  refine (hM _).mono ?_
  rintro e w1 ⟨rfl, hb1⟩
  have m0 := (hb1.block _ (by omega)).trans hm0
  have m1 := (hb1.block _ (by omega)).trans hm1
  have hbw1 : Below w.heap.size w w1 := hbW.trans (hb1.mono hbW.size)
  have hs1 : w.heap.size + 2 ≤ w1.heap.size := Nat.le_trans (Nat.le_of_eq hsW.symm) hb1.size
  clear hb1 hM hbW hm0 hm1 hsW HW
  obtain ⟨⟨a0, a1, a2, a3, a4⟩, _⟩ := row5 m0
  by_cases hmz : m = 0
  · subst hmz
    rw [if_neg (by simp)] at hDef
    have hus : IntKind.i64.wrap ((u : Int) + (s.size : Int)) = (u : Int) + (s.size : Int) := IntWalk.i64_in _ (by omega)
    go_upto_region 4 with (fail)
    go_cut [26] (fun t wx => t = .bool (decide (room < (u : Int) + (s.size : Int))) ∧ wx.heap[w.heap.size]? = some (.cells #[.int .i64 room, .slice A l.length cap, .bool set, .int .i64 n, .bool lost] 31) ∧ wx.heap[w.heap.size + 1]? = some (.cells zeroC 31) ∧ Below w.heap.size w wx ∧ w.heap.size + 2 ≤ wx.heap.size)
    case first =>
      go_region_with (first
        | (go_at_call 34
           refine (hU _ (h.below hbw1.drew (Nat.le_refl _))).mono ?_
           rintro e w2 ⟨rfl, hb2⟩
           have k0 := (hb2.block _ (by show w.heap.size < w1.heap.size; omega)).trans m0
           have k1 := (hb2.block _ (by show w.heap.size + 1 < w1.heap.size; omega)).trans m1
           have hbw2 : Below w.heap.size w w2 := hbw1.drew.trans (hb2.mono (by show w.heap.size ≤ w1.heap.size; omega))
           have hs2 : w.heap.size + 2 ≤ w2.heap.size := Nat.le_trans hs1 hb2.size
           obtain ⟨⟨e0, e1, e2, e3, e4⟩, _⟩ := row5 k0)
        | fail)
      all_goals
        go_wp2_with fail
        go_meet
        exact ⟨rfl, k0, k1, hbw2, hs2⟩
    case rest =>
      clear m0 m1 a0 a1 a2 a3 a4 hbw1 hs1 hU hus
      obtain ⟨rfl, k0, k1, hbw2, hs2⟩ := hcut
      obtain ⟨⟨a0, a1, a2, a3, a4⟩, ⟨b0, b1, b2, b3, b4⟩⟩ := row5 k0
      obtain ⟨⟨c0, c1, c2, c3, c4⟩, ⟨d0, d1, d2, d3, d4⟩⟩ := row5 k1
      by_cases hf : room < (u : Int) + (s.size : Int)
      · rw [if_pos hf] at hDef
        have K1 := Lib.hid k1
        clear k0 k1
        go_wp2
        refine bodyPost_ret (res_cell_tmp' (n := w.heap.size + 1) rfl rfl (set5_at _ _ _ _ _ _ _ _ _ _ _ _ _ K1.out) Try.underlying31 rfl (by kernel_rfl)) rfl ?_
        rw [hDef.out]
        exact ⟨A, cap, rfl, Got.same (below_set5 hbw2 (by omega) _ _ _ _ _)⟩
      · rw [if_neg hf] at hDef
        go_wp2_with fail
        refine (hG _ (h.below hbw2 (Nat.le_refl _))).mono ?_
        rintro e w3 ⟨rfl, hb3⟩
        have q0 := (hb3.block _ (by omega)).trans k0
        have q1 := (hb3.block _ (by omega)).trans k1
        have hbw3 : Below w.heap.size w w3 := hbw2.trans (hb3.mono hbw2.size)
        have hs3 : w.heap.size + 2 ≤ w3.heap.size := Nat.le_trans hs2 hb3.size
        clear hb3 k0 k1 a0 a1 a2 a3 a4 b0 b1 b2 b3 b4 c0 c1 c2 c3 c4 d0 d1 d2 d3 d4 hbw2 hs2 hG
        obtain ⟨⟨a0, a1, a2, a3, a4⟩, _⟩ := row5 q0
        have hz0 : w.heap.size < w3.heap.size := by omega
        have hz1 : w.heap.size + 1 < w3.heap.size := by omega
        have hx : Below w.heap.size w (w3.alloc (.cells #[.string gname, .string (gb ++ s), .int .i64 (gsafe : Int)] 43)) := hbw3.alloc hbw3.size _
        have x0 := (Below.heap_alloc w3 (.cells #[.string gname, .string (gb ++ s), .int .i64 (gsafe : Int)] 43) w.heap.size (by omega)).trans q0
        have x1 := (Below.heap_alloc w3 (.cells #[.string gname, .string (gb ++ s), .int .i64 (gsafe : Int)] 43) (w.heap.size + 1) (by omega)).trans q1
        have hx2 : w.heap.size + 2 ≤ (w3.alloc (.cells #[.string gname, .string (gb ++ s), .int .i64 (gsafe : Int)] 43)).heap.size := by simp; omega
        have hQ := hP _ (h.below hx (Nat.le_refl _))
        clear q0 q1 hP hbw3 hs3
        go_wp2_with fail
        refine hQ.mono ?_
        rintro e w4 ⟨A4, cap4, rfl, hr4, hn4, hb4⟩
        have y0 := (hb4.block _ (by omega)).trans x0
        have y1 := (hb4.block _ (by omega)).trans x1
        have hbw4 : Below w.heap.size w w4 := hx.trans (hb4.mono hx.size)
        have hs4 : w.heap.size + 2 ≤ w4.heap.size := Nat.le_trans hx2 hb4.size
        have hn5 := hn4.mono hx2
        clear hQ hb4 x0 x1 hx hx2 a0 a1 a2 a3 a4 hn4 hz0 hz1
        go_wp2_with fail
        refine (hB A4 cap4 _).mono ?_
        rintro e w5 ⟨rfl, hb5⟩
        have z0 := (hb5.block _ (by omega)).trans y0
        have z1 := (hb5.block _ (by omega)).trans y1
        have hr5 := hr4.below hb5 (Nat.le_refl _)
        have hbw5 : Below w.heap.size w w5 := hbw4.trans (hb5.mono hbw4.size)
        clear hb5 y0 y1 hr4 hbw4 hB
        obtain ⟨⟨a0, a1, a2, a3, a4⟩, ⟨b0, b1, b2, b3, b4⟩⟩ := row5 z0
        obtain ⟨⟨c0, c1, c2, c3, c4⟩, ⟨d0, d1, d2, d3, d4⟩⟩ := row5 z1
        have Z0 := Lib.hid z0
        have Z1 := Lib.hid z1
        clear z0 z1
        cases elost with
        | true =>
          go_wp2
          refine bodyPost_ret (res_cell_tmp' (n := w.heap.size + 1) rfl rfl (set5_at _ _ _ _ _ _ _ _ _ _ _ _ _ ((far_set5 w5 (by omega) _ _ _ _ _).trans Z1.out)) Try.underlying31 rfl (by kernel_rfl)) rfl ?_
          rw [hDef.out]
          exact ⟨A4, cap4, rfl, below_set5 (below_set5 hbw5 (Nat.le_refl _) _ _ _ _ _) (by omega) _ _ _ _ _, .inr ⟨hr5.keepN hn5 (by simp) (fun g h1 h2 => (far_set5 _ (by omega) _ _ _ _ _).trans (far_set5 _ (by omega) _ _ _ _ _)), hn5.mono (by omega)⟩⟩
        | false =>
          go_wp2
          refine bodyPost_ret (res_cell_tmp' (n := w.heap.size + 1) rfl rfl (set5_at _ _ _ _ _ _ _ _ _ _ _ _ _ ((far_set5 w5 (by omega) _ _ _ _ _).trans Z1.out)) Try.underlying31 rfl (by kernel_rfl)) rfl ?_
          rw [hDef.out]
          exact ⟨A4, cap4, rfl, below_set5 (below_set5 hbw5 (Nat.le_refl _) _ _ _ _ _) (by omega) _ _ _ _ _, .inr ⟨hr5.keepN hn5 (by simp) (fun g h1 h2 => (far_set5 _ (by omega) _ _ _ _ _).trans (far_set5 _ (by omega) _ _ _ _ _)), hn5.mono (by omega)⟩⟩
  · rw [if_pos hmz] at hDef
    have hmz' : ((m : Int) != 0) = true := by simp; omega
    obtain ⟨⟨c0, c1, c2, c3, c4⟩, ⟨d0, d1, d2, d3, d4⟩⟩ := row5 m1
    have M1 := Lib.hid m1
    clear m0 m1 hmz
    go_wp2
    refine bodyPost_ret (res_cell_tmp' (n := w.heap.size + 1) rfl rfl (set5_at _ _ _ _ _ _ _ _ _ _ _ _ _ M1.out) Try.underlying31 rfl (by kernel_rfl)) rfl ?_
    rw [hDef.out]
    exact ⟨A, cap, rfl, Got.same (below_set5 hbw1 (by omega) _ _ _ _ _)⟩

end Go.Proofs.Ytkgkllhocmedoaa
