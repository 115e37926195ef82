/- The document's Sync, Remove, Rename, Cut, each by its contract. -/
import Derived.Test.YtkgkllhocmedoaaDskRefC
namespace Go.Proofs.Ytkgkllhocmedoaa
open Go.RowKit
set_option linter.unusedVariables false
set_option linter.unusedSimpArgs false

abbrev zeroC : Array Value := #[.int .i64 0, .slice none 0 0, .bool false, .int .i64 0, .bool false]

/-- Where a method with a disk in it begins: the disk, and what is to be its answer. -/
theorem begin2 (w : World) (C : Array Value) (T : TypeId) :
    Below w.heap.size w ((w.alloc (.cells C T)).alloc (.cells zeroC T)) ∧ ((w.alloc (.cells C T)).alloc (.cells zeroC T)).heap[w.heap.size]? = some (.cells C T) ∧
    ((w.alloc (.cells C T)).alloc (.cells zeroC T)).heap[w.heap.size + 1]? = some (.cells zeroC T) ∧ ((w.alloc (.cells C T)).alloc (.cells zeroC T)).heap.size = w.heap.size + 2 :=
  ⟨((Below.refl _ _).alloc (Nat.le_refl _) _).alloc (by simp) _, heap_alloc2_old _ _ _, heap_alloc2_new _ _ _, by simp⟩

theorem below_set5 {B : Nat} {w w1 : World} {n : Nat} (h : Below B w w1) (hn : B ≤ n) (a b c d e : Value) :
    Below B w (((((w1.setCell ⟨n, 0, none⟩ a).setCell ⟨n, 1, none⟩ b).setCell ⟨n, 2, none⟩ c).setCell ⟨n, 3, none⟩ d).setCell ⟨n, 4, none⟩ e) := by
  repeat (refine Below.setCell ?_ (by show B ≤ n; exact hn) _)
  exact h

theorem far_set5 (w1 : World) {n k : Nat} (hk : k ≠ n) (a b c d e : Value) :
    (((((w1.setCell ⟨n, 0, none⟩ a).setCell ⟨n, 1, none⟩ b).setCell ⟨n, 2, none⟩ c).setCell ⟨n, 3, none⟩ d).setCell ⟨n, 4, none⟩ e).heap[k]? = w1.heap[k]? := by
  repeat (refine (Below.heap_setCell _ _ _ _ (by show k ≠ n; exact hk)).trans ?_)
  rfl

/-- The answer is another call's. -/
theorem Got.wrap5 {w w1 w2 : World} {A A' : Option Addr} {cap cap' n : Nat} {l l' : List Fil} (hb : Below w.heap.size w w1) (hg : Got w1 A cap l w2 A' cap' l') (hn : w.heap.size ≤ n) (hn2 : n < w1.heap.size) (a b c d e : Value) :
    Got w A cap l (((((w2.setCell ⟨n, 0, none⟩ a).setCell ⟨n, 1, none⟩ b).setCell ⟨n, 2, none⟩ c).setCell ⟨n, 3, none⟩ d).setCell ⟨n, 4, none⟩ e) A' cap' l' :=
  Got.wrap hb hg (by
    repeat (refine Below.setCell ?_ (by show w.heap.size ≤ n; exact hn) _)
    exact Below.refl _ _) (fun g h1 h2 => far_set5 w2 (by omega) a b c d e)

set_option maxRecDepth 100000 in
set_option maxHeartbeats 1000000 in
theorem syncR_any (A : Option Addr) (cap : Nat) (D : Dsk) (name : ByteArray) (w : World) (h : RF w A cap D.l) (hl : D.l.length ≤ 400000000) (hn : -9223372036854775808 ≤ D.n ∧ D.n ≤ 9223372036854775807) :
    Calls Try.prog 27 #[diskV A cap D, .string name] w fun e w' => ∃ A' cap', e = .returned (.tuple #[diskV A' cap' (D.sync name).1, .int .i64 (((D.sync name).2 : Nat) : Int)]) ∧ Got w A cap D.l w' A' cap' (D.sync name).1.l := by
  obtain ⟨hbW, hm0, hm1, hsW⟩ := begin2 w (diskC A cap D) 31
  have hM := mayR_any A cap D name name
  have hDef : Hid (D.sync name = if D.may name name ≠ 0 then (D, D.may name name) else if (getF D.l name).2 = false then (D, 6) else D.done { (getF D.l name).1 with safe := (getF D.l name).1.b.size } name) := ⟨rfl⟩
  have hG := fun w h => getR_any A cap D name w h (by omega)
  have hDn := fun f w h => doneR_any A cap D f name w h hl hn
  generalize hW : (w.alloc (.cells (diskC A cap D) 31)).alloc (.cells zeroC 31) = W at hbW hm0 hm1 hsW
  have HW := Lib.hid hW
  clear hW
  generalize D.may name name = m at hM hDef
  generalize D.sync name = R at hDef ⊢
  generalize getF D.l name = gf at hDef hG
  obtain ⟨⟨gname, gb, gsafe⟩, ok⟩ := gf
  have hDn := fun w h => hDn ⟨gname, gb, gb.size⟩ w h
  dsimp only at hDef hG hDn
  generalize D.done ⟨gname, gb, gb.size⟩ name = dn at hDef hDn
  obtain ⟨room, l, set, n, lost⟩ := D
  obtain ⟨⟨eroom, el, eset, en, elost⟩, ecode⟩ := dn
  dsimp only at *
  go_enter Try.func27, Try.ntmps27
  go_wp2_with fail
  rw [HW.out]
  refine (hM _).mono ?_
  rintro e w1 ⟨rfl, hb1⟩
  have m0 := (hb1.block _ (by omega)).trans hm0
  have m1 := (hb1.block _ (by omega)).trans hm1
  have hbw1 : Below w.heap.size w w1 := hbW.trans (hb1.mono hbW.size)
  have hs1 : w.heap.size + 2 ≤ w1.heap.size := Nat.le_trans (Nat.le_of_eq hsW.symm) hb1.size
  clear hb1 hM hbW hm0 hm1 hsW HW
  obtain ⟨⟨a0, a1, a2, a3, a4⟩, _⟩ := row5 m0
  by_cases hmz : m = 0
  · subst hmz
    rw [if_neg (by simp)] at hDef
    go_wp2_with fail
    refine (hG _ (h.below hbw1 (Nat.le_refl _))).mono ?_
    rintro e w2 ⟨rfl, hb2⟩
    have k0 := (hb2.block _ (by omega)).trans m0
    have k1 := (hb2.block _ (by omega)).trans m1
    have hbw2 : Below w.heap.size w w2 := hbw1.trans (hb2.mono hbw1.size)
    have hs2 : w.heap.size + 2 ≤ w2.heap.size := Nat.le_trans hs1 hb2.size
    clear hb2 m0 m1 a0 a1 a2 a3 a4 hbw1 hs1 hG
    obtain ⟨⟨a0, a1, a2, a3, a4⟩, _⟩ := row5 k0
    obtain ⟨⟨c0, c1, c2, c3, c4⟩, ⟨d0, d1, d2, d3, d4⟩⟩ := row5 k1
    have K1 := Lib.hid k1
    have hz0 : w.heap.size < w2.heap.size := by omega
    have hz1 : w.heap.size + 1 < w2.heap.size := by omega
    cases ok with
    | false =>
      rw [if_pos rfl] at hDef
      clear k0 k1
      go_wp2
      refine bodyPost_ret (res_cell_tmp' (n := w.heap.size + 1) rfl rfl ((Below.heap_alloc _ _ (w.heap.size + 1) (by simp; omega)).trans (set5_at _ _ _ _ _ _ _ _ _ _ _ _ _ K1.out)) Try.underlying31 rfl (by kernel_rfl)) rfl ?_
      rw [hDef.out]
      exact ⟨A, cap, rfl, Got.same ((below_set5 hbw2 (by omega) _ _ _ _ _).alloc (by simp; omega) _)⟩
    | true =>
      rw [if_neg (by decide)] at hDef
      have hx : Below w.heap.size w (w2.alloc (.cells #[.string gname, .string gb, .int .i64 (gb.size : Int)] 43)) := hbw2.alloc hbw2.size _
      have x1 := (Below.heap_alloc w2 (.cells #[.string gname, .string gb, .int .i64 (gb.size : Int)] 43) (w.heap.size + 1) (by omega)).trans k1
      have hx2 : w.heap.size + 2 ≤ (w2.alloc (.cells #[.string gname, .string gb, .int .i64 (gb.size : Int)] 43)).heap.size := by simp; omega
      have hQ := hDn _ (h.below hx (Nat.le_refl _))
      clear k0 k1 hDn
      go_wp2_with fail
      refine hQ.mono ?_
      rintro e w3 ⟨A3, cap3, rfl, hg3⟩
      have z1 := (hg3.1.block _ (by omega)).trans x1
      obtain ⟨⟨c0, c1, c2, c3, c4⟩, ⟨d0, d1, d2, d3, d4⟩⟩ := row5 z1
      clear x1 hQ
      have Z1 := Lib.hid z1
      clear z1
      go_wp2
      refine bodyPost_ret (res_cell_tmp' (n := w.heap.size + 1) rfl rfl (set5_at _ _ _ _ _ _ _ _ _ _ _ _ _ Z1.out) Try.underlying31 rfl (by kernel_rfl)) rfl ?_
      rw [hDef.out]
      exact ⟨A3, cap3, rfl, Got.wrap5 hx hg3 (by omega) (by omega) _ _ _ _ _⟩
  · rw [if_pos hmz] at hDef
    have hmz' : ((m : Int) != 0) = true := by simp; omega
    obtain ⟨⟨c0, c1, c2, c3, c4⟩, ⟨d0, d1, d2, d3, d4⟩⟩ := row5 m1
    have M1 := Lib.hid m1
    clear m0 m1 hmz
    go_wp2
    refine bodyPost_ret (res_cell_tmp' (n := w.heap.size + 1) rfl rfl (set5_at _ _ _ _ _ _ _ _ _ _ _ _ _ M1.out) Try.underlying31 rfl (by kernel_rfl)) rfl ?_
    rw [hDef.out]
    exact ⟨A, cap, rfl, Got.same (below_set5 hbw1 (by omega) _ _ _ _ _)⟩

set_option maxRecDepth 100000 in
set_option maxHeartbeats 1000000 in
theorem removeR_any (A : Option Addr) (cap : Nat) (D : Dsk) (name : ByteArray) (w : World) (h : RF w A cap D.l) (hl : D.l.length ≤ 400000000) (hn : -9223372036854775808 ≤ D.n ∧ D.n ≤ 9223372036854775807) :
    Calls Try.prog 30 #[diskV A cap D, .string name] w fun e w' => ∃ A' cap', e = .returned (.tuple #[diskV A' cap' (D.remove name).1, .int .i64 (((D.remove name).2 : Nat) : Int)]) ∧ Got w A cap D.l w' A' cap' (D.remove name).1.l := by
  obtain ⟨hbW, hm0, hm1, hsW⟩ := begin2 w (diskC A cap D) 31
  have hM := mayR_any A cap D name name
  have hDef : Hid (D.remove name = if D.may name name ≠ 0 then (D, D.may name name) else if (getF D.l name).2 = false then (D, 6) else D.done ⟨name, ByteArray.empty, 0⟩ name) := ⟨rfl⟩
  have hG := fun w h => getR_any A cap D name w h (by omega)
  have hDn := fun f w h => doneR_any A cap D f name w h hl hn
  generalize hW : (w.alloc (.cells (diskC A cap D) 31)).alloc (.cells zeroC 31) = W at hbW hm0 hm1 hsW
  have HW := Lib.hid hW
  clear hW
  generalize D.may name name = m at hM hDef
  generalize D.remove name = R at hDef ⊢
  generalize getF D.l name = gf at hDef hG
  obtain ⟨⟨gname, gb, gsafe⟩, ok⟩ := gf
  have hDn := fun w h => hDn ⟨name, ByteArray.empty, 0⟩ w h
  dsimp only at hDef hG hDn
  generalize D.done ⟨name, ByteArray.empty, 0⟩ name = dn at hDef hDn
  obtain ⟨room, l, set, n, lost⟩ := D
  obtain ⟨⟨eroom, el, eset, en, elost⟩, ecode⟩ := dn
  dsimp only at *
  go_enter Try.func30, Try.ntmps30
  go_wp2_with fail
  rw [HW.out]
  refine (hM _).mono ?_
  rintro e w1 ⟨rfl, hb1⟩
  have m0 := (hb1.block _ (by omega)).trans hm0
  have m1 := (hb1.block _ (by omega)).trans hm1
  have hbw1 : Below w.heap.size w w1 := hbW.trans (hb1.mono hbW.size)
  have hs1 : w.heap.size + 2 ≤ w1.heap.size := Nat.le_trans (Nat.le_of_eq hsW.symm) hb1.size
  clear hb1 hM hbW hm0 hm1 hsW HW
  obtain ⟨⟨a0, a1, a2, a3, a4⟩, _⟩ := row5 m0
  by_cases hmz : m = 0
  · subst hmz
    rw [if_neg (by simp)] at hDef
    go_wp2_with fail
    refine (hG _ (h.below hbw1 (Nat.le_refl _))).mono ?_
    rintro e w2 ⟨rfl, hb2⟩
    have k0 := (hb2.block _ (by omega)).trans m0
    have k1 := (hb2.block _ (by omega)).trans m1
    have hbw2 : Below w.heap.size w w2 := hbw1.trans (hb2.mono hbw1.size)
    have hs2 : w.heap.size + 2 ≤ w2.heap.size := Nat.le_trans hs1 hb2.size
    clear hb2 m0 m1 a0 a1 a2 a3 a4 hbw1 hs1 hG
    obtain ⟨⟨a0, a1, a2, a3, a4⟩, _⟩ := row5 k0
    obtain ⟨⟨c0, c1, c2, c3, c4⟩, ⟨d0, d1, d2, d3, d4⟩⟩ := row5 k1
    have K1 := Lib.hid k1
    have hz0 : w.heap.size < w2.heap.size := by omega
    have hz1 : w.heap.size + 1 < w2.heap.size := by omega
    cases ok with
    | false =>
      rw [if_pos rfl] at hDef
      clear k0 k1
      go_wp2
      refine bodyPost_ret (res_cell_tmp' (n := w.heap.size + 1) rfl rfl ((Below.heap_alloc _ _ (w.heap.size + 1) (by simp; omega)).trans (set5_at _ _ _ _ _ _ _ _ _ _ _ _ _ K1.out)) Try.underlying31 rfl (by kernel_rfl)) rfl ?_
      rw [hDef.out]
      exact ⟨A, cap, rfl, Got.same ((below_set5 hbw2 (by omega) _ _ _ _ _).alloc (by simp; omega) _)⟩
    | true =>
      rw [if_neg (by decide)] at hDef
      have hx : Below w.heap.size w (w2.alloc (.cells #[.string gname, .string gb, .int .i64 (gsafe : Int)] 43)) := hbw2.alloc hbw2.size _
      have x1 := (Below.heap_alloc w2 (.cells #[.string gname, .string gb, .int .i64 (gsafe : Int)] 43) (w.heap.size + 1) (by omega)).trans k1
      have hx2 : w.heap.size + 2 ≤ (w2.alloc (.cells #[.string gname, .string gb, .int .i64 (gsafe : Int)] 43)).heap.size := by simp; omega
      have hQ := hDn _ (h.below hx (Nat.le_refl _))
      clear k0 k1 hDn
      go_wp2_with fail
      refine hQ.mono ?_
      rintro e w3 ⟨A3, cap3, rfl, hg3⟩
      have z1 := (hg3.1.block _ (by omega)).trans x1
      obtain ⟨⟨c0, c1, c2, c3, c4⟩, ⟨d0, d1, d2, d3, d4⟩⟩ := row5 z1
      clear x1 hQ
      have Z1 := Lib.hid z1
      clear z1
      go_wp2
      refine bodyPost_ret (res_cell_tmp' (n := w.heap.size + 1) rfl rfl (set5_at _ _ _ _ _ _ _ _ _ _ _ _ _ Z1.out) Try.underlying31 rfl (by kernel_rfl)) rfl ?_
      rw [hDef.out]
      exact ⟨A3, cap3, rfl, Got.wrap5 hx hg3 (by omega) (by omega) _ _ _ _ _⟩
  · rw [if_pos hmz] at hDef
    have hmz' : ((m : Int) != 0) = true := by simp; omega
    obtain ⟨⟨c0, c1, c2, c3, c4⟩, ⟨d0, d1, d2, d3, d4⟩⟩ := row5 m1
    have M1 := Lib.hid m1
    clear m0 m1 hmz
    go_wp2
    refine bodyPost_ret (res_cell_tmp' (n := w.heap.size + 1) rfl rfl (set5_at _ _ _ _ _ _ _ _ _ _ _ _ _ M1.out) Try.underlying31 rfl (by kernel_rfl)) rfl ?_
    rw [hDef.out]
    exact ⟨A, cap, rfl, Got.same (below_set5 hbw1 (by omega) _ _ _ _ _)⟩

set_option maxRecDepth 100000 in
set_option maxHeartbeats 1000000 in
theorem renameR_any (A : Option Addr) (cap : Nat) (D : Dsk) (name to_ : ByteArray) (w : World) (h : RF w A cap D.l) (hl : D.l.length ≤ 400000000) (hn : -9223372036854775808 ≤ D.n ∧ D.n ≤ 9223372036854775807) :
    Calls Try.prog 29 #[diskV A cap D, .string name, .string to_] w fun e w' => ∃ A' cap', e = .returned (.tuple #[diskV A' cap' (D.rename name to_).1, .int .i64 (((D.rename name to_).2 : Nat) : Int)]) ∧ Got w A cap D.l w' A' cap' (D.rename name to_).1.l := by
  obtain ⟨hbW, hm0, hm1, hsW⟩ := begin2 w (diskC A cap D) 31
  have hM := mayR_any A cap D name to_
  have hDef : Hid (D.rename name to_ = if D.may name to_ ≠ 0 then (D, D.may name to_) else if (getF D.l name).2 = false then (D, 6) else if (getF D.l name).1.safe < (getF D.l name).1.b.size then (D, 7) else D.done { (getF D.l name).1 with name := to_ } name) := ⟨rfl⟩
  have hG := fun w h => getR_any A cap D name w h (by omega)
  have hDn := fun f w h => doneR_any A cap D f name w h hl hn
  generalize hW : (w.alloc (.cells (diskC A cap D) 31)).alloc (.cells zeroC 31) = W at hbW hm0 hm1 hsW
  have HW := Lib.hid hW
  clear hW
  generalize D.may name to_ = m at hM hDef
  generalize D.rename name to_ = R at hDef ⊢
  generalize getF D.l name = gf at hDef hG
  obtain ⟨⟨gname, gb, gsafe⟩, ok⟩ := gf
  have hDn := fun w h => hDn ⟨to_, gb, gsafe⟩ w h
  dsimp only at hDef hG hDn
  generalize D.done ⟨to_, gb, gsafe⟩ name = dn at hDef hDn
  obtain ⟨room, l, set, n, lost⟩ := D
  obtain ⟨⟨eroom, el, eset, en, elost⟩, ecode⟩ := dn
  dsimp only at *
  go_enter Try.func29, Try.ntmps29
  go_wp2_with fail
  rw [HW.out]
  refine (hM _).mono ?_
  rintro e w1 ⟨rfl, hb1⟩
  have m0 := (hb1.block _ (by omega)).trans hm0
  have m1 := (hb1.block _ (by omega)).trans hm1
  have hbw1 : Below w.heap.size w w1 := hbW.trans (hb1.mono hbW.size)
  have hs1 : w.heap.size + 2 ≤ w1.heap.size := Nat.le_trans (Nat.le_of_eq hsW.symm) hb1.size
  clear hb1 hM hbW hm0 hm1 hsW HW
  obtain ⟨⟨a0, a1, a2, a3, a4⟩, _⟩ := row5 m0
  by_cases hmz : m = 0
  · subst hmz
    rw [if_neg (by simp)] at hDef
    go_wp2_with fail
    refine (hG _ (h.below hbw1 (Nat.le_refl _))).mono ?_
    rintro e w2 ⟨rfl, hb2⟩
    have k0 := (hb2.block _ (by omega)).trans m0
    have k1 := (hb2.block _ (by omega)).trans m1
    have hbw2 : Below w.heap.size w w2 := hbw1.trans (hb2.mono hbw1.size)
    have hs2 : w.heap.size + 2 ≤ w2.heap.size := Nat.le_trans hs1 hb2.size
    clear hb2 m0 m1 a0 a1 a2 a3 a4 hbw1 hs1 hG
    obtain ⟨⟨a0, a1, a2, a3, a4⟩, _⟩ := row5 k0
    obtain ⟨⟨c0, c1, c2, c3, c4⟩, ⟨d0, d1, d2, d3, d4⟩⟩ := row5 k1
    have K1 := Lib.hid k1
    have hz0 : w.heap.size < w2.heap.size := by omega
    have hz1 : w.heap.size + 1 < w2.heap.size := by omega
    cases ok with
    | false =>
      rw [if_pos rfl] at hDef
      clear k0 k1
      go_wp2
      refine bodyPost_ret (res_cell_tmp' (n := w.heap.size + 1) rfl rfl ((Below.heap_alloc _ _ (w.heap.size + 1) (by simp; omega)).trans (set5_at _ _ _ _ _ _ _ _ _ _ _ _ _ K1.out)) Try.underlying31 rfl (by kernel_rfl)) rfl ?_
      rw [hDef.out]
      exact ⟨A, cap, rfl, Got.same ((below_set5 hbw2 (by omega) _ _ _ _ _).alloc (by simp; omega) _)⟩
    | true =>
      rw [if_neg (by decide)] at hDef
      by_cases hby : gsafe < gb.size
      · have hby' : (gsafe : Int) < (gb.size : Int) := by omega
        rw [if_pos hby] at hDef
        clear k0 k1 hDn hby
        go_wp2
        refine bodyPost_ret (res_cell_tmp' (n := w.heap.size + 1) rfl rfl ((Below.heap_alloc _ _ (w.heap.size + 1) (by simp; omega)).trans (set5_at _ _ _ _ _ _ _ _ _ _ _ _ _ K1.out)) Try.underlying31 rfl (by kernel_rfl)) rfl ?_
        rw [hDef.out]
        exact ⟨A, cap, rfl, Got.same ((below_set5 hbw2 (by omega) _ _ _ _ _).alloc (by simp; omega) _)⟩
      · have hby' : ¬ ((gsafe : Int) < (gb.size : Int)) := by omega
        rw [if_neg hby] at hDef
        clear hby
        have hx : Below w.heap.size w (w2.alloc (.cells #[.string to_, .string gb, .int .i64 (gsafe : Int)] 43)) := hbw2.alloc hbw2.size _
        have x1 := (Below.heap_alloc w2 (.cells #[.string to_, .string gb, .int .i64 (gsafe : Int)] 43) (w.heap.size + 1) (by omega)).trans k1
        have hx2 : w.heap.size + 2 ≤ (w2.alloc (.cells #[.string to_, .string gb, .int .i64 (gsafe : Int)] 43)).heap.size := by simp; omega
        have hQ := hDn _ (h.below hx (Nat.le_refl _))
        clear k0 k1 hDn
        go_wp2_with fail
        refine hQ.mono ?_
        rintro e w3 ⟨A3, cap3, rfl, hg3⟩
        have z1 := (hg3.1.block _ (by omega)).trans x1
        obtain ⟨⟨c0, c1, c2, c3, c4⟩, ⟨d0, d1, d2, d3, d4⟩⟩ := row5 z1
        clear x1 hQ
        have Z1 := Lib.hid z1
        clear z1
        go_wp2
        refine bodyPost_ret (res_cell_tmp' (n := w.heap.size + 1) rfl rfl (set5_at _ _ _ _ _ _ _ _ _ _ _ _ _ Z1.out) Try.underlying31 rfl (by kernel_rfl)) rfl ?_
        rw [hDef.out]
        exact ⟨A3, cap3, rfl, Got.wrap5 hx hg3 (by omega) (by omega) _ _ _ _ _⟩
  · rw [if_pos hmz] at hDef
    have hmz' : ((m : Int) != 0) = true := by simp; omega
    obtain ⟨⟨c0, c1, c2, c3, c4⟩, ⟨d0, d1, d2, d3, d4⟩⟩ := row5 m1
    have M1 := Lib.hid m1
    clear m0 m1 hmz
    go_wp2
    refine bodyPost_ret (res_cell_tmp' (n := w.heap.size + 1) rfl rfl (set5_at _ _ _ _ _ _ _ _ _ _ _ _ _ M1.out) Try.underlying31 rfl (by kernel_rfl)) rfl ?_
    rw [hDef.out]
    exact ⟨A, cap, rfl, Got.same (below_set5 hbw1 (by omega) _ _ _ _ _)⟩

set_option maxRecDepth 100000 in
set_option maxHeartbeats 1000000 in
theorem cutR_any (A : Option Addr) (cap : Nat) (D : Dsk) (name : ByteArray) (z : Int) (w : World) (h : RF w A cap D.l) (hl : D.l.length ≤ 400000000) (hn : -9223372036854775808 ≤ D.n ∧ D.n ≤ 9223372036854775807) :
    Calls Try.prog 28 #[diskV A cap D, .string name, .int .i64 z] w fun e w' => ∃ A' cap', e = .returned (.tuple #[diskV A' cap' (D.cut name z).1, .int .i64 (((D.cut name z).2 : Nat) : Int)]) ∧ Got w A cap D.l w' A' cap' (D.cut name z).1.l := by
  obtain ⟨hbW, hm0, hm1, hsW⟩ := begin2 w (diskC A cap D) 31
  have hM := mayR_any A cap D name name
  have hDef : Hid (D.cut name z = if D.may name name ≠ 0 then (D, D.may name name) else if (getF D.l name).2 = false then (D, 6) else if z < 0 ∨ ((getF D.l name).1.b.size : Int) < z then (D, 1) else D.done { (getF D.l name).1 with b := (getF D.l name).1.b.extract 0 z.toNat, safe := z.toNat } name) := ⟨rfl⟩
  have hG := fun w h => getR_any A cap D name w h (by omega)
  have hDn := fun f w h => doneR_any A cap D f name w h hl hn
  generalize hW : (w.alloc (.cells (diskC A cap D) 31)).alloc (.cells zeroC 31) = W at hbW hm0 hm1 hsW
  have HW := Lib.hid hW
  clear hW
  generalize D.may name name = m at hM hDef
  generalize D.cut name z = R at hDef ⊢
  generalize getF D.l name = gf at hDef hG
  obtain ⟨⟨gname, gb, gsafe⟩, ok⟩ := gf
  have hDn := fun w h => hDn ⟨gname, gb.extract 0 z.toNat, z.toNat⟩ w h
  dsimp only at hDef hG hDn
  generalize D.done ⟨gname, gb.extract 0 z.toNat, z.toNat⟩ name = dn at hDef hDn
  obtain ⟨room, l, set, n, lost⟩ := D
  obtain ⟨⟨eroom, el, eset, en, elost⟩, ecode⟩ := dn
  dsimp only at *
  go_enter Try.func28, Try.ntmps28
  go_wp2_with fail
  rw [HW.out]
  refine (hM _).mono ?_
  rintro e w1 ⟨rfl, hb1⟩
  have m0 := (hb1.block _ (by omega)).trans hm0
  have m1 := (hb1.block _ (by omega)).trans hm1
  have hbw1 : Below w.heap.size w w1 := hbW.trans (hb1.mono hbW.size)
  have hs1 : w.heap.size + 2 ≤ w1.heap.size := Nat.le_trans (Nat.le_of_eq hsW.symm) hb1.size
  clear hb1 hM hbW hm0 hm1 hsW HW
  obtain ⟨⟨a0, a1, a2, a3, a4⟩, _⟩ := row5 m0
  by_cases hmz : m = 0
  · subst hmz
    rw [if_neg (by simp)] at hDef
    go_wp2_with fail
    refine (hG _ (h.below hbw1 (Nat.le_refl _))).mono ?_
    rintro e w2 ⟨rfl, hb2⟩
    have k0 := (hb2.block _ (by omega)).trans m0
    have k1 := (hb2.block _ (by omega)).trans m1
    have hbw2 : Below w.heap.size w w2 := hbw1.trans (hb2.mono hbw1.size)
    have hs2 : w.heap.size + 2 ≤ w2.heap.size := Nat.le_trans hs1 hb2.size
    clear hb2 m0 m1 a0 a1 a2 a3 a4 hbw1 hs1 hG
    obtain ⟨⟨a0, a1, a2, a3, a4⟩, _⟩ := row5 k0
    obtain ⟨⟨c0, c1, c2, c3, c4⟩, ⟨d0, d1, d2, d3, d4⟩⟩ := row5 k1
    have K1 := Lib.hid k1
    have hz0 : w.heap.size < w2.heap.size := by omega
    have hz1 : w.heap.size + 1 < w2.heap.size := by omega
    cases ok with
    | false =>
      rw [if_pos rfl] at hDef
      clear k0 k1
      go_wp2
      refine bodyPost_ret (res_cell_tmp' (n := w.heap.size + 1) rfl rfl ((Below.heap_alloc _ _ (w.heap.size + 1) (by simp; omega)).trans (set5_at _ _ _ _ _ _ _ _ _ _ _ _ _ K1.out)) Try.underlying31 rfl (by kernel_rfl)) rfl ?_
      rw [hDef.out]
      exact ⟨A, cap, rfl, Got.same ((below_set5 hbw2 (by omega) _ _ _ _ _).alloc (by simp; omega) _)⟩
    | true =>
      rw [if_neg (by decide)] at hDef
      by_cases hby : z < 0 ∨ (gb.size : Int) < z
      · rw [if_pos hby] at hDef
        clear k0 k1 hDn
        by_cases hz0 : z < 0
        all_goals
          first | have hzz : (gb.size : Int) < z := (hby.resolve_left hz0) | skip
          clear hby
          go_wp2
          refine bodyPost_ret (res_cell_tmp' (n := w.heap.size + 1) rfl rfl ((Below.heap_alloc _ _ (w.heap.size + 1) (by simp; omega)).trans (set5_at _ _ _ _ _ _ _ _ _ _ _ _ _ K1.out)) Try.underlying31 rfl (by kernel_rfl)) rfl ?_
          rw [hDef.out]
          exact ⟨A, cap, rfl, Got.same ((below_set5 hbw2 (by omega) _ _ _ _ _).alloc (by simp; omega) _)⟩
      · rw [if_neg hby] at hDef
        obtain ⟨z, rfl⟩ := Int.eq_ofNat_of_zero_le (show 0 ≤ z by omega)
        have hzz : ¬ ((gb.size : Int) < (z : Int)) := by omega
        have hzn : z ≤ gb.size := by omega
        rw [Int.toNat_natCast] at hDn
        clear hby
        have hx : Below w.heap.size w (w2.alloc (.cells #[.string gname, .string (gb.extract 0 z), .int .i64 (z : Int)] 43)) := hbw2.alloc hbw2.size _
        have x1 := (Below.heap_alloc w2 (.cells #[.string gname, .string (gb.extract 0 z), .int .i64 (z : Int)] 43) (w.heap.size + 1) (by omega)).trans k1
        have hx2 : w.heap.size + 2 ≤ (w2.alloc (.cells #[.string gname, .string (gb.extract 0 z), .int .i64 (z : Int)] 43)).heap.size := by simp; omega
        have hQ := hDn _ (h.below hx (Nat.le_refl _))
        clear k0 k1 hDn
        go_wp2_with fail
        refine hQ.mono ?_
        rintro e w3 ⟨A3, cap3, rfl, hg3⟩
        have z1 := (hg3.1.block _ (by omega)).trans x1
        obtain ⟨⟨c0, c1, c2, c3, c4⟩, ⟨d0, d1, d2, d3, d4⟩⟩ := row5 z1
        clear x1 hQ
        have Z1 := Lib.hid z1
        clear z1
        go_wp2
        refine bodyPost_ret (res_cell_tmp' (n := w.heap.size + 1) rfl rfl (set5_at _ _ _ _ _ _ _ _ _ _ _ _ _ Z1.out) Try.underlying31 rfl (by kernel_rfl)) rfl ?_
        rw [hDef.out]
        exact ⟨A3, cap3, rfl, Got.wrap5 hx hg3 (by omega) (by omega) _ _ _ _ _⟩
  · rw [if_pos hmz] at hDef
    have hmz' : ((m : Int) != 0) = true := by simp; omega
    obtain ⟨⟨c0, c1, c2, c3, c4⟩, ⟨d0, d1, d2, d3, d4⟩⟩ := row5 m1
    have M1 := Lib.hid m1
    clear m0 m1 hmz
    go_wp2
    refine bodyPost_ret (res_cell_tmp' (n := w.heap.size + 1) rfl rfl (set5_at _ _ _ _ _ _ _ _ _ _ _ _ _ M1.out) Try.underlying31 rfl (by kernel_rfl)) rfl ?_
    rw [hDef.out]
    exact ⟨A, cap, rfl, Got.same (below_set5 hbw1 (by omega) _ _ _ _ _)⟩

end Go.Proofs.Ytkgkllhocmedoaa
