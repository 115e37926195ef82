/- What a Take does to a log, by the program and by the document. -/
import Derived.Test.YtlanjlboipnpfaaLogDo
namespace Go.Proofs.Ytlanjlboipnpfaa
open Go.RowKit
set_option linter.unusedVariables false
set_option linter.unusedSimpArgs false

theorem boxed_all (w : World) (B C : Array Value) : Below w.heap.size w (((w.alloc (.cells B 32)).alloc (.cells C 39)).alloc (.cells zL 32)) ∧ (((w.alloc (.cells B 32)).alloc (.cells C 39)).alloc (.cells zL 32)).heap.size = w.heap.size + 3 ∧
    Boxes w (((w.alloc (.cells B 32)).alloc (.cells C 39)).alloc (.cells zL 32)) B C zL := ⟨boxed_below w B C, boxed_size w B C, Boxes.start w B C⟩

theorem take_len {r : RL} (hg : Good r) (x t : Int) (ms : List Ent) : (r.take x t ms).1.l.length ≤ r.l.length + ms.length := by
  unfold RL.take
  by_cases h1 : runB x t ms = true
  · rw [if_pos h1]
    by_cases h2 : r.at_ x = some t
    · rw [if_pos h2]
      by_cases h3 : r.known ms < ms.length
      · have e := (swap_l hg (hg.joins h1 h2 h3)).1
        show (r.swap (ms.drop (r.known ms))).l.length ≤ _
        rw [e, List.length_append, List.length_take, List.length_drop]
        omega
      · rw [List.drop_of_length_le (by omega)]
        show r.l.length ≤ _
        omega
    · rw [if_neg h2]
      show r.l.length ≤ _
      omega
  · rw [if_neg h1]
    show r.l.length ≤ _
    omega

/-- The document's Take. -/
theorem takeR_any (r : RL) (hg : Good r) (x t : Int) (hx2 : x ≤ 9223372036854775807) (Z : Nat → Prop) (A : Option Addr) (n c : Nat) (w : World) (h : Ents w Z A n c r.l) (hm : n ≤ 100000) (hZ : ∀ k, w.heap.size ≤ k → Z k) (B : Option Addr) (m cB : Nat) (ms : List Ent) (hB : Ents w Z B m cB ms) (hm2 : m ≤ 100000) :
    Calls Try.prog 38 #[lgV r A n c, .int .i64 x, .int .i64 t, .slice B m cB] w fun e w' => ∃ A' n' c', e = .returned (.tuple #[lgV (r.take x t ms).1 A' n' c', .int .i64 (r.take x t ms).2.1, .bool (r.take x t ms).2.2]) ∧ Ents w' Z A' n' c' (r.take x t ms).1.l ∧ Below w.heap.size w w' := by
  cases hr : runB x t ms with
  | false =>
    have e1 : r.take x t ms = (r, 0, false) := by unfold RL.take; rw [if_neg (by rw [hr]; simp)]
    rw [e1]
    exact (takeR_run r x t Z A n c B m cB ms w hB hm2 hr).mono fun e w' ⟨h1, h2⟩ => ⟨A, n, c, h1, h.below h2 (Nat.le_refl _), h2⟩
  | true =>
    by_cases ha : r.at_ x = some t
    · have e2 : (r.take x t ms).2 = (x + (m : Int), true) := by unfold RL.take; rw [if_pos hr, if_pos ha, hB.1]
      rw [e2]
      exact takeR_in r hg x t Z A n c w h hm hZ B m cB ms hB hm2 hr ha
    · have e1 : r.take x t ms = (r, r.retry x, false) := by unfold RL.take; rw [if_pos hr, if_neg ha]
      rw [e1]
      exact (takeR_at r hg x t hx2 Z A n c w h hm B m cB ms hB hm2 hr ha).mono fun e w' ⟨h1, h2⟩ => ⟨A, n, c, h1, h.below h2 (Nat.le_refl _), h2⟩

set_option maxRecDepth 100000 in
set_option maxHeartbeats 3200000 in
theorem do_take {w : World} {p : Nat} {r : RL} {s : Nat} {ZL ZE : Nat → Prop} {A : Option Addr} {n c : Nat} (hL : Lg w p r s ZL) (hg : Good r) (hs : frel r s) (hE : Ents w ZE A n c r.l) (hZ : ∀ q, ZL q → q < w.heap.size) (hZE : ∀ q, ZE q → ZL q) (hn : n ≤ 1000)
    (i t : Int) (hi : i ≤ 9223372036854775807) (D : Option Addr) (dn dc : Nat) (B : Option Addr) (m cB : Nat) (ms : List Ent) (hB : Ents w ZE B m cB ms) (hm : m ≤ 12) :
    Calls Try.prog 12 #[ptrV p, lgV r A n c, .agg (actC 1 i t D dn dc B m cB)] w (DoPost w p r ZL ZE) := by
  obtain ⟨hu, hsz, hbx⟩ := boxed_all w (lgC r A n c) (actC 1 i t D dn dc B m cB)
  obtain ⟨⟨a0, a1, a2, a3, a4⟩, _⟩ := row5 hbx.act
  have hll := hE.1
  have hml := hB.1
  have hLu := lg_boxed hL hu
  have hP := takeP_any hLu (keptZ_lt hu hZ) hg i t hi B m cB ms ((hB.below hu (Nat.le_refl _)).mono fun q hq => .inl (hZE q hq)) (by omega)
  have hlen := take_len hg i t ms
  have hgt := hg.take i t ms
  have hEu := hE.below hu (Nat.le_refl _)
  have hBu := hB.below hu (Nat.le_refl _)
  have hR := fun w1 (hk : Keeps (keptZ w (((w.alloc (.cells (lgC r A n c) 32)).alloc (.cells (actC 1 i t D dn dc B m cB) 39)).alloc (.cells zL 32)) ZL) (((w.alloc (.cells (lgC r A n c) 32)).alloc (.cells (actC 1 i t D dn dc B m cB) 39)).alloc (.cells zL 32)) w1) => takeR_any r hg i t hi (fun q => ZE q ∨ w1.heap.size ≤ q) A n c w1 ((hEu.keep hk.size fun q hq hz => hk.block q hq (.inl (hZE q hz))).mono fun q hq => .inl hq) (by omega) (fun k hk => .inr hk) B m cB ms ((hBu.keep hk.size fun q hq hz => hk.block q hq (.inl (hZE q hz))).mono fun q hq => .inl hq) (by omega)
  clear hL hE hB hLu hEu hBu hll
  generalize hT : r.take i t ms = T at *
  obtain ⟨R, y, b⟩ := T
  go_enter Try.func12, Try.ntmps12
  go_wp2_with fail
  generalize (((w.alloc (.cells (lgC r A n c) 32)).alloc (.cells (actC 1 i t D dn dc B m cB) 39)).alloc (.cells zL 32)) = u at *
  refine hP.mono ?_
  rintro e w1 ⟨he, ⟨s', hL1, hf1⟩, hk1⟩
  rw [hT] at he hL1 hf1
  dsimp only at he hL1 hf1 hlen hgt
  subst he
  have hbx1 := hbx.keeps hk1 fun q h1 h2 => .inr ⟨h1, by omega⟩
  obtain ⟨⟨b0, b1, b2, b3⟩, _⟩ := row4 hbx1.box
  obtain ⟨⟨d0, d1, d2, d3, d4⟩, _⟩ := row5 hbx1.act
  have hR1 := hR w1 hk1
  clear hP hR hbx a0 a1 a2 a3 a4
  go_wp2_with fail
  refine hR1.mono ?_
  rintro e w2 ⟨A', n', c', rfl, hE2, hb2⟩
  dsimp only at hE2 ⊢
  have hbx2 := hbx1.step hb2
  have hA2 := (Below.refl w2.heap.size w2).alloc (Nat.le_refl _) (.cells (lgC R A' n' c') 32)
  have hbx3 := hbx2.step hA2
  have hb3 := hb2.trans (hA2.mono hb2.size)
  obtain ⟨⟨g0, g1, g2, g3⟩, _⟩ := row4 (heap_alloc_new w2 (.cells (lgC R A' n' c') 32))
  obtain ⟨_, ⟨f0, f1, f2, f3⟩⟩ := row4 hbx3.ans
  have hfin := set4_at _ (w.heap.size + 2) (.int .i64 R.i) (.int .i64 R.t) (.slice A' n' c') (.int .i64 R.f) _ _ _ _ _ hbx3.ans
  have hend := do_end (r := r) hu hsz hZ hZE hk1 hL1 hgt (hf1 hs) hb3 (hE2.below hA2 (Nat.le_refl _)) (keeps_fill (.int .i64 R.i) (.int .i64 R.t) (.slice A' n' c') (.int .i64 R.f)) (by omega) _ rfl
  have HE := Lib.hid hend
  clear hend hL1 hf1 hk1 hE2 hb3 hb2 hA2 hbx1 hbx2 hbx3 hR1 hgt hs hu b0 b1 b2 b3 d0 d1 d2 d3 d4
  go_wp2
  refine bodyPost_ret (res_cell_tmp' (n := w.heap.size + 2) rfl rfl hfin Try.underlying32 rfl (by kernel_rfl)) rfl ?_
  exact HE.out

set_option maxRecDepth 100000 in
set_option maxHeartbeats 3200000 in
theorem do_compact {w : World} {p : Nat} {r : RL} {s : Nat} {ZL ZE : Nat → Prop} {A : Option Addr} {n c : Nat} (hL : Lg w p r s ZL) (hg : Good r) (hs : frel r s) (hE : Ents w ZE A n c r.l) (hZ : ∀ q, ZL q → q < w.heap.size) (hZE : ∀ q, ZE q → ZL q) (hn : n ≤ 1000)
    (i t : Int) (D : Option Addr) (dn dc : Nat) (B : Option Addr) (m cB : Nat) :
    Calls Try.prog 12 #[ptrV p, lgV r A n c, .agg (actC 2 i t D dn dc B m cB)] w (DoPost w p r ZL ZE) := by
  obtain ⟨hu, hsz, hbx⟩ := boxed_all w (lgC r A n c) (actC 2 i t D dn dc B m cB)
  obtain ⟨⟨a0, a1, a2, a3, a4⟩, _⟩ := row5 hbx.act
  have hll := hE.1
  have hLu := lg_boxed hL hu
  have hEu := hE.below hu (Nat.le_refl _)
  cases ho : r.at_ i with
  | none =>
    obtain ⟨A0, c0, hrd⟩ := hLu.rd
    have hP := compactP_no hrd (by omega) hg i ho
    have hR := fun w1 (hb : Below (((w.alloc (.cells (lgC r A n c) 32)).alloc (.cells (actC 2 i t D dn dc B m cB) 39)).alloc (.cells zL 32)).heap.size (((w.alloc (.cells (lgC r A n c) 32)).alloc (.cells (actC 2 i t D dn dc B m cB) 39)).alloc (.cells zL 32)) w1) => compactR_no r i ZE A n c w1 (hEu.below hb (Nat.le_refl _)) (by omega) ho
    clear hL hrd ho hE hll
    go_enter Try.func12, Try.ntmps12
    go_wp2_with fail
    generalize (((w.alloc (.cells (lgC r A n c) 32)).alloc (.cells (actC 2 i t D dn dc B m cB) 39)).alloc (.cells zL 32)) = u at *
    refine hP.mono ?_
    rintro e w1 ⟨rfl, hb1⟩
    have hbx1 := hbx.step hb1
    obtain ⟨⟨b0, b1, b2, b3⟩, _⟩ := row4 hbx1.box
    obtain ⟨⟨d0, d1, d2, d3, d4⟩, _⟩ := row5 hbx1.act
    have hR1 := hR w1 hb1
    have hk1 : Keeps (keptZ w u ZL) u w1 := keeps_below hb1 (Nat.le_refl _)
    have hL1 := hLu.below hb1
    have hE1 := (hEu.below hb1 (Nat.le_refl _)).mono (Z' := fun q => ZE q ∨ w1.heap.size ≤ q) fun q hq => .inl hq
    clear hP hR hbx a0 a1 a2 a3 a4 hLu hEu
    go_wp2_with fail
    refine hR1.mono ?_
    rintro e w2 ⟨rfl, hb2⟩
    have hbx2 := hbx1.step hb2
    have hA2 := (Below.refl w2.heap.size w2).alloc (Nat.le_refl _) (.cells (lgC r A n c) 32)
    have hbx3 := hbx2.step hA2
    have hb3 := hb2.trans (hA2.mono hb2.size)
    obtain ⟨⟨g0, g1, g2, g3⟩, _⟩ := row4 (heap_alloc_new w2 (.cells (lgC r A n c) 32))
    obtain ⟨_, ⟨f0, f1, f2, f3⟩⟩ := row4 hbx3.ans
    have hfin := set4_at _ (w.heap.size + 2) (.int .i64 r.i) (.int .i64 r.t) (.slice A n c) (.int .i64 r.f) _ _ _ _ _ hbx3.ans
    have hend := do_end (r := r) hu hsz hZ hZE hk1 hL1 hg hs hb3 (hE1.below hb3 (Nat.le_refl _)) (keeps_fill (.int .i64 r.i) (.int .i64 r.t) (.slice A n c) (.int .i64 r.f)) (by omega) _ rfl
    have HE := Lib.hid hend
    clear hend hL1 hk1 hE1 hb3 hb2 hA2 hbx1 hbx2 hbx3 hR1 hg hs hu b0 b1 b2 b3 d0 d1 d2 d3 d4 hb1
    go_wp2
    refine bodyPost_ret (res_cell_tmp' (n := w.heap.size + 2) rfl rfl hfin Try.underlying32 rfl (by kernel_rfl)) rfl ?_
    exact HE.out
  | some v =>
    have hs2 := frel_le hs hg
    have hP := compactP_yes hLu (by omega) hg hs2 i v ho
    have hR := fun w1 (hk : Keeps (keptZ w (((w.alloc (.cells (lgC r A n c) 32)).alloc (.cells (actC 2 i t D dn dc B m cB) 39)).alloc (.cells zL 32)) ZL) (((w.alloc (.cells (lgC r A n c) 32)).alloc (.cells (actC 2 i t D dn dc B m cB) 39)).alloc (.cells zL 32)) w1) => compactR_yes r i v (fun q => ZE q ∨ w1.heap.size ≤ q) A n c w1 ((hEu.keep hk.size fun q hq hz => hk.block q hq (.inl (hZE q hz))).mono fun q hq => .inl hq) (by omega) (fun k hk => .inr hk) ho
    have hcm := hg.compact ho
    have hgt := hg.cut ho
    have hft := frel_cut hg hs ho
    have hlen : (r.cut i v).l.length ≤ r.l.length + 12 := by show (r.l.drop _).length ≤ _; rw [List.length_drop]; omega
    clear hL ho hE hll hEu hLu
    generalize r.cut i v = R at *
    generalize s - (i - r.i).toNat = s' at *
    go_enter Try.func12, Try.ntmps12
    go_wp2_with fail
    generalize (((w.alloc (.cells (lgC r A n c) 32)).alloc (.cells (actC 2 i t D dn dc B m cB) 39)).alloc (.cells zL 32)) = u at *
    refine hP.mono ?_
    rintro e w1 ⟨rfl, hL1, hk1⟩
    have hbx1 := hbx.keeps hk1 fun q h1 h2 => .inr ⟨h1, by omega⟩
    obtain ⟨⟨b0, b1, b2, b3⟩, _⟩ := row4 hbx1.box
    obtain ⟨⟨d0, d1, d2, d3, d4⟩, _⟩ := row5 hbx1.act
    have hR1 := hR w1 hk1
    have HCM := Lib.hid hcm
    clear hP hR hbx a0 a1 a2 a3 a4 hcm
    go_wp2_with fail
    refine hR1.mono ?_
    rintro e w2 ⟨R', A', n', c', hcm2, rfl, hE2, hb2⟩
    rw [HCM.out] at hcm2
    injection hcm2 with hcm2
    subst hcm2
    have hbx2 := hbx1.step hb2
    have hA2 := (Below.refl w2.heap.size w2).alloc (Nat.le_refl _) (.cells (lgC R A' n' c') 32)
    have hbx3 := hbx2.step hA2
    have hb3 := hb2.trans (hA2.mono hb2.size)
    obtain ⟨⟨g0, g1, g2, g3⟩, _⟩ := row4 (heap_alloc_new w2 (.cells (lgC R A' n' c') 32))
    obtain ⟨_, ⟨f0, f1, f2, f3⟩⟩ := row4 hbx3.ans
    have hfin := set4_at _ (w.heap.size + 2) (.int .i64 R.i) (.int .i64 R.t) (.slice A' n' c') (.int .i64 R.f) _ _ _ _ _ hbx3.ans
    have hend := do_end (r := r) hu hsz hZ hZE hk1 hL1 hgt hft hb3 (hE2.below hA2 (Nat.le_refl _)) (keeps_fill (.int .i64 R.i) (.int .i64 R.t) (.slice A' n' c') (.int .i64 R.f)) hlen _ rfl
    have HE := Lib.hid hend
    clear hend hL1 hft hk1 hE2 hb3 hb2 hA2 hbx1 hbx2 hbx3 hR1 hgt hs hu b0 b1 b2 b3 d0 d1 d2 d3 d4 HCM
    go_wp2
    refine bodyPost_ret (res_cell_tmp' (n := w.heap.size + 2) rfl rfl hfin Try.underlying32 rfl (by kernel_rfl)) rfl ?_
    exact HE.out

end Go.Proofs.Ytlanjlboipnpfaa
