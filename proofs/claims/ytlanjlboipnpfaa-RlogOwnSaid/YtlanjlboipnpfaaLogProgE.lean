/- The program's New, From, Fresh, Saved, Reset, each by its contract. -/
import Derived.Test.YtlanjlboipnpfaaLogProgD
import Derived.Test.YtlanjlboipnpfaaEntRunP
import Derived.Outline
namespace Go.Proofs.Ytlanjlboipnpfaa
open Go.RowKit
set_option linter.unusedVariables false
set_option linter.unusedSimpArgs false

theorem run_small {i t : Int} {ls : List Ent} (h : runB i t ls = true) : ∀ e ∈ ls, e.d.length ≤ 140737488355328 := fun e he => by
  have := (rightB_iff _ _ _).1 (run_right h e he)
  omega

theorem newP_no (i t : Int) (Z : Nat → Prop) (A : Option Addr) (n c : Nat) (ls : List Ent) (w : World) (h : Ents w Z A n c ls) (hm : n ≤ 1000000) (hno : RL.base i t = false ∨ runB i t ls = false) :
    Calls Try.prog 9 #[.int .i64 i, .int .i64 t, .slice A n c] w fun e w' => e = .returned (.tuple #[.pointer none, .int .i64 1]) ∧ Below w.heap.size w w' := by
  have hB := fun W => rightBaseP_is i t W
  have hR := runP_any Z A n c ls i t w h (by unfold maxLen; omega)
  generalize RL.base i t = q at *
  generalize runB i t ls = s at *
  clear h hm
  cases q with
  | false =>
    clear hno hR
    go_enter Try.func9, Try.ntmps9
    go_wp2_with fail
    refine (hB _).mono ?_
    rintro e w1 ⟨rfl, rfl⟩
    go_wp2
    go_ret2
    exact ⟨rfl, Below.refl _ _⟩
  | true =>
    obtain rfl : s = false := by
      rcases hno with h | h
      · cases h
      · exact h
    clear hno
    go_enter Try.func9, Try.ntmps9
    go_wp2_with fail
    refine (hB _).mono ?_
    rintro e w1 ⟨rfl, rfl⟩
    go_wp2_with fail
    refine hR.mono ?_
    rintro e w2 ⟨rfl, hb2⟩
    go_wp2
    go_ret2
    exact ⟨rfl, hb2⟩

set_option maxRecDepth 100000 in
set_option maxHeartbeats 1600000 in
theorem newP_yes (i t : Int) (Z : Nat → Prop) (A : Option Addr) (n c : Nat) (ls : List Ent) (w : World) (h : Ents w Z A n c ls) (hm : n ≤ 1000000) (h1 : RL.base i t = true) (h2 : runB i t ls = true) :
    Calls Try.prog 9 #[.int .i64 i, .int .i64 t, .slice A n c] w fun e w' => ∃ p, e = .returned (.tuple #[ptrV p, .int .i64 0]) ∧ Lg w' p ⟨i, t, ls, 0⟩ n (fun q => q < w.heap.size) ∧ Below w.heap.size w w' := by
  have hB := fun W => rightBaseP_is i t W
  have hR := runP_any Z A n c ls i t w h (by unfold maxLen; omega)
  rw [h1] at hB
  rw [h2] at hR
  have hC := fun W (hW : Below w.heap.size w W) => copies_any Z A n c ls W (h.below hW (Nat.le_refl _)) hm (run_small h2)
  obtain rfl := h.1
  clear h h1 h2
  go_enter Try.func9, Try.ntmps9
  go_wp2_with fail
  refine (hB _).mono ?_
  rintro e w1 ⟨rfl, rfl⟩
  go_wp2_with fail
  refine hR.mono ?_
  rintro e w2 ⟨rfl, hb2⟩
  have hC := hC w2 hb2
  clear hR hB
  go_wp2_with fail
  refine hC.mono ?_
  rintro e w3 ⟨ys, rfl, hsp, hmap, hok, hb3⟩
  have hbw3 := hb2.trans (hb3.mono hb2.size)
  have hA4 := (Below.refl w3.heap.size w3).alloc (Nat.le_refl _) (.cells #[.int .i64 i, .int .i64 t, .slice (some ⟨w2.heap.size, 0, none⟩) ls.length ls.length, .int .i64 (ls.length : Int)] 63)
  have hs2 := hb2.size
  have hL : Lg (w3.alloc (.cells #[.int .i64 i, .int .i64 t, .slice (some ⟨w2.heap.size, 0, none⟩) ls.length ls.length, .int .i64 (ls.length : Int)] 63)) w3.heap.size ⟨i, t, ls, 0⟩ ls.length (fun q => q < w.heap.size) := by
    have hs3 := hbw3.size
    refine ⟨some ⟨w2.heap.size, 0, none⟩, ls.length, ys, heap_alloc_new _ _, hsp.keep fun q hq => hA4.block q (hsp.lt hq), hmap, by omega, fun q hq => ?_, fun x hx => ?_⟩
    · have := hsp.lt hq
      rw [blk_some] at hq
      omega
    · refine ((hok x hx).old.keep hA4.size fun q hq _ => hA4.block q hq).mono fun q hq => ⟨by omega, ?_, by omega⟩
      rw [blk_some]
      omega
  have HL := Lib.hid hL
  have hbf := hbw3.alloc hbw3.size (.cells #[.int .i64 i, .int .i64 t, .slice (some ⟨w2.heap.size, 0, none⟩) ls.length ls.length, .int .i64 (ls.length : Int)] 63)
  clear hC hsp hmap hok hb3 hbw3 hA4 hL hb2 hs2
  go_wp2
  go_ret2
  exact ⟨w3.heap.size, rfl, HL.out, hbf⟩

set_option maxRecDepth 100000 in
set_option maxHeartbeats 1600000 in
theorem fromP_any {w : World} {p : Nat} {r : RL} {s : Nat} {Z : Nat → Prop} {A : Option Addr} {c : Nat} {xs : List Lay} (h : LgAt w p r s Z A c xs) (hm : r.l.length ≤ 1000000) (hg : Good r) (x many : Int) :
    Calls Try.prog 17 #[ptrV p, .int .i64 x, .int .i64 many] w fun e w' => ∃ A' c', e = .returned (.slice A' (r.fromL x many).length c') ∧ Ents w' (fun q => w.heap.size ≤ q) A' (r.fromL x many).length c' (r.fromL x many) ∧ Below w.heap.size w w' := by
  have hnil : ∀ w', Ents w' (fun q => w.heap.size ≤ q) none 0 0 [] := fun w' => ⟨rfl, Nat.le_refl _, fun _ => rfl, fun h => absurd h (by simp)⟩
  rw [hg.from_]
  by_cases hma : many ≤ 0
  · rw [show many.toNat = 0 by omega, sub_zero]
    clear h hg
    go_enter Try.func17, Try.ntmps17
    go_wp2
    go_ret
    exact ⟨none, 0, rfl, hnil _, Below.refl _ _⟩
  · have q1 : (many ≤ 0) = False := eq_false hma
    have q1d : decide (many ≤ 0) = false := decide_eq_false hma
    have hP := placeP_any h.rd hm hg x
    have hpk : ∀ k, r.place x = some k → k < r.l.length := fun k e => by
      unfold RL.place at e
      split at e
      · injection e with e
        omega
      · cases e
    cases hp : r.place x with
    | none =>
      rw [hp] at hP
      rw [sub_none hp]
      clear h hg hpk hp hma
      go_enter Try.func17, Try.ntmps17
      go_wp2_with fail
      refine hP.mono ?_
      rintro e w1 ⟨rfl, hb1⟩
      go_wp2
      go_ret
      exact ⟨none, 0, rfl, hnil _, hb1⟩
    | some k =>
      rw [hp] at hP
      have hk := hpk k hp
      rw [sub_some hp]
      clear hnil hpk hp
      have h1 := fun w1 (hb : Below w.heap.size w w1) => h.keep hb.size fun q hq _ => hb.block q hq
      have hs1 := fun W => slice_back (A := A) (n := r.l.length) (cap := c) (k := k) (by omega) h.spot.2.1 W
      have hnc := h.spot.2.1
      obtain ⟨mm, hmm⟩ : ∃ mm, mm = min many.toNat (r.l.length - k) := ⟨_, rfl⟩
      have hs2 := fun W => slice_front (A := tailAt A c k) (n := r.l.length - k) (cap := c - k) (k := mm) (by omega) W
      have hC := fun w1 (hb : Below w.heap.size w w1) => copies_any (fun _ => True) (tailAt A c k) mm (c - k) (((xs.drop k).take mm).map (·.e)) w1 ((((h1 w1 hb).spot.drop (k := k) (by omega)).take (k := mm) (by omega)).ents (fun _ _ => trivial) (fun y hy => ((h1 w1 hb).lays y (List.mem_of_mem_drop (List.mem_of_mem_take hy))).mono fun _ _ => trivial)) (by omega) (fun e he => by
        obtain ⟨y, hy, rfl⟩ := List.mem_map.1 he
        refine run_small hg.run y.e ?_
        rw [← h.map]
        exact List.mem_map.2 ⟨y, List.mem_of_mem_drop (List.mem_of_mem_take hy), rfl⟩)
      have e1 : ((xs.drop k).take mm).map (·.e) = (r.l.drop k).take many.toNat := by
        rw [List.map_take, List.map_drop, h.map, hmm]
        by_cases hc : many.toNat ≤ r.l.length - k
        · rw [Nat.min_eq_left hc]
        · rw [Nat.min_eq_right (by omega), List.take_of_length_le (by rw [List.length_drop]; omega), List.take_of_length_le (by rw [List.length_drop]; omega)]
      have e2 : ((r.l.drop k).take many.toNat).length = mm := by rw [List.length_take, List.length_drop, hmm]
      have hrow := fun w1 (hb : Below w.heap.size w w1) => (row4 (h1 w1 hb).row).1
      rw [e1] at hC
      rw [e2]
      have hmi : ((r.l.length - k : Nat) : Int) < many ∧ mm = r.l.length - k ∨ many = (mm : Int) ∧ mm ≤ r.l.length - k := by omega
      have HM := Lib.hid hma
      clear h hg e1 e2 hmm h1 hma hm q1 q1d
      generalize (r.l.drop k).take many.toNat = out at *
      generalize r.l.length = n at *
      obtain ⟨d, hd⟩ : ∃ d, n - k = d := ⟨_, rfl⟩
      rw [hd] at hs1 hs2 hmi
      have hk2 : (k : Int) < (n : Int) := by omega
      have hdc : d ≤ c - k := by omega
      clear hd
      rcases hmi with ⟨m1, m2⟩ | ⟨m1, m2⟩
      · subst m2
        have q1 : (many ≤ 0) = False := eq_false HM.out
        have q1d : decide (many ≤ 0) = false := decide_eq_false HM.out
        have q2 : (many < (mm : Int)) = False := eq_false (by omega)
        have q3 : (many ≤ (mm : Int)) = False := eq_false (by omega)
        clear HM
        go_enter Try.func17, Try.ntmps17
        go_wp2_with fail
        refine hP.mono ?_
        rintro e w1 ⟨rfl, hb1⟩
        obtain ⟨c0, c1, c2, c3⟩ := hrow w1 hb1
        have hC := hC w1 hb1
        have hcs : (mm : Int) ≤ ((c - k : Nat) : Int) := by omega
        have hcs2 : mm ≤ c - k := by omega
        have hbz := hb1.size
        clear hP hrow
        go_wp2_with fail
        refine hC.mono ?_
        rintro e w2 ⟨ys, rfl, hsp, hmap, hok, hb2⟩
        have hE := hsp.ents (Z := fun q => w.heap.size ≤ q) (fun q hq => by rw [blk_some] at hq; omega) (fun y hy => (hok y hy).mono fun q hq => by omega)
        rw [hmap] at hE
        have HE := Lib.hid hE
        clear hC hsp hmap hok hE
        go_wp2
        go_ret
        exact ⟨_, _, rfl, HE.out, hb1.trans (hb2.mono hb1.size)⟩
      · subst m1
        have q1 : ((mm : Int) ≤ 0) = False := eq_false HM.out
        have q1d : decide ((mm : Int) ≤ 0) = false := decide_eq_false HM.out
        have q2 : (mm : Int) ≤ (d : Int) := by omega
        have q3 : (mm = 0) = False := eq_false (by have := HM.out; omega)
        have q4 : decide (mm = 0) = false := decide_eq_false (by have := HM.out; omega)
        clear HM
        go_enter Try.func17, Try.ntmps17
        go_wp2_with fail
        refine hP.mono ?_
        rintro e w1 ⟨rfl, hb1⟩
        obtain ⟨c0, c1, c2, c3⟩ := hrow w1 hb1
        have hC := hC w1 hb1
        have hcs : (mm : Int) ≤ ((c - k : Nat) : Int) := by omega
        have hcs2 : mm ≤ c - k := by omega
        have hbz := hb1.size
        clear hP hrow
        go_wp2_with fail
        refine hC.mono ?_
        rintro e w2 ⟨ys, rfl, hsp, hmap, hok, hb2⟩
        have hE := hsp.ents (Z := fun q => w.heap.size ≤ q) (fun q hq => by rw [blk_some] at hq; omega) (fun y hy => (hok y hy).mono fun q hq => by omega)
        rw [hmap] at hE
        have HE := Lib.hid hE
        clear hC hsp hmap hok hE
        go_wp2
        go_ret
        exact ⟨_, _, rfl, HE.out, hb1.trans (hb2.mono hb1.size)⟩

end Go.Proofs.Ytlanjlboipnpfaa
