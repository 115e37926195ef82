/- The document's Compact, by its contract. -/
import Derived.Test.YtlanjlboipnpfaaLogRefB
import Derived.Deep.Cut
import Derived.Deep.DeepCutAuto
namespace Go.Proofs.Ytlanjlboipnpfaa
open Go.RowKit
set_option linter.unusedVariables false
set_option linter.unusedSimpArgs false

theorem set4_at (X : World) (n : Nat) (a b c d a0 b0 c0 d0 : Value) (T : TypeId) (h : X.heap[n]? = some (.cells #[a0, b0, c0, d0] T)) : ((((X.setCell ⟨n, 0, none⟩ a).setCell ⟨n, 1, none⟩ b).setCell ⟨n, 2, none⟩ c).setCell ⟨n, 3, none⟩ d).heap[n]? = some (.cells #[a, b, c, d] T) := by
  simp only [World.setCell, Array.getElem?_modify, if_true, h, Option.map_some]
  simp

/-- Two blocks of a call's own: a log's box, and the answer. -/
structure BoxTwo (w X : World) (B C : Array Value) : Prop where
  box : X.heap[w.heap.size]? = some (.cells B 32)
  ans : X.heap[w.heap.size + 1]? = some (.cells C 32)
  below : Below w.heap.size w X

theorem BoxTwo.step {w X Y : World} {B C : Array Value} (h : BoxTwo w X B C) (hb : Below X.heap.size X Y) : BoxTwo w Y B C :=
  ⟨(hb.block _ (hlt h.box)).trans h.box, (hb.block _ (hlt h.ans)).trans h.ans, h.below.trans (hb.mono h.below.size)⟩

theorem BoxTwo.grown {w X Y : World} {B C : Array Value} {row : Option Nat} (h : BoxTwo w X B C) (hg : X.grownBy Y row) (hr : ∀ q, row = some q → w.heap.size + 2 ≤ q) : BoxTwo w Y B C :=
  ⟨(hg.block _ (hlt h.box) (fun e => by have := hr _ e.symm; omega)).trans h.box, (hg.block _ (hlt h.ans) (fun e => by have := hr _ e.symm; omega)).trans h.ans, h.below.grown hg h.below.size (fun q e => by have := hr q e; omega)⟩

theorem BoxTwo.fill {w X : World} {B : Array Value} {a0 b0 c0 d0 : Value} (h : BoxTwo w X B #[a0, b0, c0, d0]) (a b c d : Value) : BoxTwo w ((((X.setCell ⟨w.heap.size + 1, 0, none⟩ a).setCell ⟨w.heap.size + 1, 1, none⟩ b).setCell ⟨w.heap.size + 1, 2, none⟩ c).setCell ⟨w.heap.size + 1, 3, none⟩ d) B #[a, b, c, d] := by
  refine ⟨?_, set4_at _ _ _ _ _ _ _ _ _ _ _ h.ans, (((h.below.setCell (by show _ ≤ w.heap.size + 1; omega) a).setCell (by show _ ≤ w.heap.size + 1; omega) b).setCell (by show _ ≤ w.heap.size + 1; omega) c).setCell (by show _ ≤ w.heap.size + 1; omega) d⟩
  exact (Below.heap_setCell _ _ _ _ (by show w.heap.size ≠ w.heap.size + 1; omega)).trans ((Below.heap_setCell _ _ _ _ (by show w.heap.size ≠ w.heap.size + 1; omega)).trans ((Below.heap_setCell _ _ _ _ (by show w.heap.size ≠ w.heap.size + 1; omega)).trans ((Below.heap_setCell _ _ _ _ (by show w.heap.size ≠ w.heap.size + 1; omega)).trans h.box)))

set_option maxRecDepth 100000 in
set_option maxHeartbeats 3200000 in
theorem compactR_no (r : RL) (x : Int) (Z : Nat → Prop) (A : Option Addr) (n c : Nat) (w : World) (h : Ents w Z A n c r.l) (hm : n ≤ 100000) (hno : r.at_ x = none) :
    Calls Try.prog 39 #[lgV r A n c, .int .i64 x] w fun e w' => e = .returned (.tuple #[lgV r A n c, .bool false]) ∧ Below w.heap.size w w' := by
  have h2 : BoxTwo w ((w.alloc (.cells (lgC r A n c) 32)).alloc (.cells #[.int .i64 0, .int .i64 0, .slice none 0 0, .int .i64 0] 32)) (lgC r A n c) #[.int .i64 0, .int .i64 0, .slice none 0 0, .int .i64 0] :=
    ⟨(Below.heap_alloc _ _ _ (by simp)).trans (heap_alloc_new _ _), heap_alloc2_new _ _ _, ((Below.refl _ _).alloc (Nat.le_refl _) _).alloc (by simp) _⟩
  have hA := atR_any r x Z A n c _ (h.below h2.below (Nat.le_refl _)) (by unfold maxLen; omega)
  rw [hno] at hA
  obtain ⟨⟨a0, a1, a2, a3⟩, _⟩ := row4 h2.box
  clear h hno
  go_enter Try.func39, Try.ntmps39
  go_wp2_with fail
  refine hA.mono ?_
  rintro e w1 ⟨rfl, hb1⟩
  have h3 := h2.step hb1
  obtain ⟨⟨b0, b1, b2, b3⟩, _⟩ := row4 h3.box
  obtain ⟨⟨d0, d1, d2, d3⟩, ⟨f0, f1, f2, f3⟩⟩ := row4 h3.ans
  have h4 := h3.fill (.int .i64 r.i) (.int .i64 r.t) (.slice A n c) (.int .i64 r.f)
  clear hA h2 hb1 h3 a0 a1 a2 a3
  go_wp2
  refine bodyPost_ret (res_cell_tmp' (n := w.heap.size + 1) rfl rfl h4.ans Try.underlying32 rfl (by kernel_rfl)) rfl ?_
  exact ⟨rfl, h4.below⟩

theorem BoxTwo.turn {w X : World} {a0 b0 c0 d0 : Value} {C : Array Value} (h : BoxTwo w X #[a0, b0, c0, d0] C) (a b c : Value) : BoxTwo w (((X.setCell ⟨w.heap.size, 0, none⟩ a).setCell ⟨w.heap.size, 1, none⟩ b).setCell ⟨w.heap.size, 2, none⟩ c) #[a, b, c, d0] C := by
  refine ⟨?_, ?_, ((h.below.setCell (Nat.le_refl _) a).setCell (Nat.le_refl _) b).setCell (Nat.le_refl _) c⟩
  · have hb := h.box
    simp only [World.setCell, Array.getElem?_modify, if_true, hb, Option.map_some]
    simp
  · exact (Below.heap_setCell _ _ _ _ (by show w.heap.size + 1 ≠ w.heap.size; omega)).trans ((Below.heap_setCell _ _ _ _ (by show w.heap.size + 1 ≠ w.heap.size; omega)).trans ((Below.heap_setCell _ _ _ _ (by show w.heap.size + 1 ≠ w.heap.size; omega)).trans h.ans))

theorem fill_off (X : World) (b : Nat) (a0 a1 a2 a3 : Value) (q : Nat) (h : q ≠ b) : ((((X.setCell ⟨b, 0, none⟩ a0).setCell ⟨b, 1, none⟩ a1).setCell ⟨b, 2, none⟩ a2).setCell ⟨b, 3, none⟩ a3).heap[q]? = X.heap[q]? :=
  (Below.heap_setCell _ _ _ _ (by exact h)).trans ((Below.heap_setCell _ _ _ _ (by exact h)).trans ((Below.heap_setCell _ _ _ _ (by exact h)).trans (Below.heap_setCell _ _ _ _ (by exact h))))

theorem turn_off (X : World) (b : Nat) (a0 a1 a2 : Value) (q : Nat) (h : q ≠ b) : (((X.setCell ⟨b, 0, none⟩ a0).setCell ⟨b, 1, none⟩ a1).setCell ⟨b, 2, none⟩ a2).heap[q]? = X.heap[q]? :=
  (Below.heap_setCell _ _ _ _ (by exact h)).trans ((Below.heap_setCell _ _ _ _ (by exact h)).trans (Below.heap_setCell _ _ _ _ (by exact h)))

/-- What an entry leads to is there. -/
theorem LayOk.old {w : World} {Z : Nat → Prop} {x : Lay} (h : LayOk w Z x) : LayOk w (fun q => Z q ∧ q < w.heap.size) x := by
  refine ⟨h.1, h.2.1, fun h0 q o e => ⟨h.2.2 h0 q o e, ?_⟩⟩
  obtain ⟨g, off, e2, hg, _⟩ := h.2.1.2.2.2 h0
  rw [e] at e2
  injection e2 with e2
  injection e2 with e2
  subst e2
  exact hg

theorem ents_turn {X : World} {b : Nat} {Z : Nat → Prop} {A : Option Addr} {n c : Nat} {ls : List Ent} (h : Ents X Z A n c ls) (hb : ¬ Z b) (u0 u1 u2 : Value) : Ents (((X.setCell ⟨b, 0, none⟩ u0).setCell ⟨b, 1, none⟩ u1).setCell ⟨b, 2, none⟩ u2) Z A n c ls :=
  h.keep (by simp) fun q _ hq => turn_off X b u0 u1 u2 q fun e => hb (e ▸ hq)

theorem ents_fill {X : World} {b : Nat} {Z : Nat → Prop} {A : Option Addr} {n c : Nat} {ls : List Ent} (h : Ents X Z A n c ls) (hb : ¬ Z b) (u0 u1 u2 u3 : Value) : Ents ((((X.setCell ⟨b, 0, none⟩ u0).setCell ⟨b, 1, none⟩ u1).setCell ⟨b, 2, none⟩ u2).setCell ⟨b, 3, none⟩ u3) Z A n c ls :=
  h.keep (by simp) fun q _ hq => fill_off X b u0 u1 u2 u3 q fun e => hb (e ▸ hq)

theorem ents_after {wr : World} {N : Nat} {Z : Nat → Prop} {A' : Option Addr} {yl c' : Nat} {ls : List Ent} (hE : Ents wr (fun q => (Z q ∧ q < N) ∨ N + 2 ≤ q) A' yl c' ls) (hZ : ∀ k, N ≤ k → Z k) (u0 u1 u2 v0 v1 v2 v3 : Value) :
    Ents (((((((wr.setCell ⟨N, 0, none⟩ u0).setCell ⟨N, 1, none⟩ u1).setCell ⟨N, 2, none⟩ u2).setCell ⟨N + 1, 0, none⟩ v0).setCell ⟨N + 1, 1, none⟩ v1).setCell ⟨N + 1, 2, none⟩ v2).setCell ⟨N + 1, 3, none⟩ v3) Z A' yl c' ls := by
  have h1 := ents_turn hE (b := N) (fun h => by rcases h with h | h <;> omega) u0 u1 u2
  have h2 := ents_fill h1 (b := N + 1) (fun h => by rcases h with h | h <;> omega) v0 v1 v2 v3
  exact h2.mono fun q hq => hq.elim (fun h => h.1) (fun h => hZ q (Nat.le_trans (Nat.le_add_right _ _) h))

/-- What a row's slice leads to. -/
theorem ents_form {w : World} {Z : Nat → Prop} {A' : Option Addr} {yl c' : Nat} {ls : List Ent} (hE : ∃ A4 c4, Value.slice A' yl c' = .slice A4 yl c4 ∧ Ents w Z A4 yl c4 ls) : Ents w Z A' yl c' ls := by
  obtain ⟨A4, c4, e4, hE4⟩ := hE
  injection e4 with e5 e6 e7
  rw [e5, e7]
  exact hE4

theorem compact_is (r : RL) (x t : Int) (xs : List Lay) (n : Nat) (hxs : xs.map (·.e) = r.l) (hn : xs.length = n) (ht : r.at_ x = some t) : r.compact x = some ⟨x, t, (some_ (fun e => decide (x < e.i)) (n + 1) xs n).map (·.e), r.f⟩ := by
  subst hn
  unfold RL.compact
  rw [ht, some_all, hxs, List.take_of_length_le]
  · rfl
  · have := List.length_filter_le (fun e : Ent => decide (x < e.i)) r.l
    rw [← hxs, List.length_map] at this
    rw [← hxs]
    omega

set_option maxRecDepth 100000 in
set_option maxHeartbeats 3200000 in
theorem compactR_yes (r : RL) (x t0 : Int) (Z : Nat → Prop) (A : Option Addr) (n c : Nat) (w : World) (h : Ents w Z A n c r.l) (hm : n ≤ 100000) (hZ : ∀ k, w.heap.size ≤ k → Z k) (ht0 : r.at_ x = some t0) :
    Calls Try.prog 39 #[lgV r A n c, .int .i64 x] w fun e w' => ∃ r' A' n' c', r.compact x = some r' ∧ e = .returned (.tuple #[lgV r' A' n' c', .bool true]) ∧ Ents w' Z A' n' c' r'.l ∧ Below w.heap.size w w' := by
  have h2 : BoxTwo w ((w.alloc (.cells (lgC r A n c) 32)).alloc (.cells #[.int .i64 0, .int .i64 0, .slice none 0 0, .int .i64 0] 32)) (lgC r A n c) #[.int .i64 0, .int .i64 0, .slice none 0 0, .int .i64 0] :=
    ⟨(Below.heap_alloc _ _ _ (by simp)).trans (heap_alloc_new _ _), heap_alloc2_new _ _ _, ((Below.refl _ _).alloc (Nat.le_refl _) _).alloc (by simp) _⟩
  have hA := atR_any r x Z A n c _ (h.below h2.below (Nat.le_refl _)) (by unfold maxLen; omega)
  rw [ht0] at hA
  obtain ⟨⟨a0, a1, a2, a3⟩, _⟩ := row4 h2.box
  have hll := h.1
  obtain ⟨xs, hxs, hok, hcell⟩ := h.lays
  have hxl : xs.length = n := by rw [← hll, ← hxs, List.length_map]
  have HC := Lib.hid (compact_is r x t0 xs n hxs hxl ht0)
  have hg0 : 0 < n → ∃ g0 off0, A = some ⟨g0, off0, none⟩ ∧ g0 < w.heap.size := fun h0 => by
    obtain ⟨g0, off0, e, hg, _⟩ := h.2.2.2 h0
    exact ⟨g0, off0, e, hg⟩
  obtain ⟨p, hpp⟩ : ∃ p : Ent → Bool, p = fun e => decide (x < e.i) := ⟨_, rfl⟩
  rw [← hpp] at HC
  have HPP := Lib.hid hpp
  clear h hxs hll hpp ht0
  go_enter Try.func39, Try.ntmps39
  go_wp2_with fail
  refine hA.mono ?_
  rintro e w1 ⟨rfl, hb1⟩
  have h3 := h2.step hb1
  obtain ⟨⟨b0, b1, b2, b3⟩, _⟩ := row4 h3.box
  clear hA h2 hb1 a0 a1 a2 a3
  go_wp2
  go_loopg [8, 9, 22] n (fun g v s10 kk wr => ∃ k : Nat, k + g = n ∧ kk = .int .i64 (k : Int) ∧ wr.ownsRow (w.heap.size + 2) 43 3 v (some_ p (n + 1) xs k).length (rowOf (some_ p (n + 1) xs k)) ∧ BoxTwo w wr (lgC r A n c) #[.int .i64 0, .int .i64 0, .slice none 0 0, .int .i64 0])
  case atStart => exact ⟨0, by omega, rfl, by rw [some_zero]; exact World.ownsRow_nil _ _ _ _, h3⟩
  case round =>
    clear h3 b0 b1 b2 b3
    obtain ⟨k, hk, rfl, ho, hbx⟩ := hrel
    obtain ⟨⟨b0, b1, b2, b3⟩, ⟨f0, f1, f2, f3⟩⟩ := row4 hbx.box
    obtain ⟨A', c', rfl⟩ := row_form ho
    have HK := Lib.hid hk
    by_cases hkn : k < n
    · have hkn' : (k : Int) < (n : Int) := by omega
      obtain ⟨g0, off0, rfl, hgb⟩ := hg0 (by omega)
      clear hg0
      obtain ⟨y0, y1, y2⟩ := lay_at (hcell _ rfl) k (by omega)
      have y0 := (hbx.below.cell (p := ⟨g0, off0 + k * 3, none⟩) hgb).trans y0
      have y1 := (hbx.below.cell (p := ⟨g0, off0 + k * 3 + 1, none⟩) hgb).trans y1
      have y2 := (hbx.below.cell (p := ⟨g0, off0 + k * 3 + 2, none⟩) hgb).trans y2
      have hyes := some_yes (p := p) (m := n + 1) (xs := xs) (k := k) (by omega)
      have hno := some_no (p := p) (m := n + 1) (xs := xs) (k := k) (by omega)
      have hsl := some_len p (n + 1) xs k
      have hone := one_cells wr (xs[k]'(by omega)) 43
      generalize (xs[k]'(by omega)) = q at *
      have hpq : p q.e = decide (x < q.e.i) := by rw [show p = _ from HPP]
      generalize hSK : some_ p (n + 1) xs k = ys at *
      generalize hyl : ys.length = yl at *
      by_cases hp : x < q.e.i
      · rw [decide_eq_true hp] at hpq
        have HY := Lib.hid (hyes hpq (by omega))
        have hA2 := (Below.refl wr.heap.size wr).alloc (Nat.le_refl _) (.cells #[.int .i64 q.e.i, .int .i64 q.e.t, .slice q.A q.e.d.length q.c] 43)
        have hbx2 := hbx.step hA2
        have ho2 := ho.alloc (.cells #[.int .i64 q.e.i, .int .i64 q.e.t, .slice q.A q.e.d.length q.c] 43)
        have hb1 : w.heap.size + 2 ≤ wr.heap.size := hlt hbx.ans
        have hyb : yl + 1 ≤ 1000000 := by omega
        have hdg : ∀ q', (Value.slice A' yl c').ownBlock = some q' → w.heap.size + 2 ≤ q' := fun q' e => (World.ownsRow.lt ho q' e).1
        clear hyes hno hk hsl hcell hok hpq
        generalize hqd : q.e.d.length = qd at *
        go_wp2_with (at_builtin; refine wpList_append_ents _ rfl _ _ rfl (w.heap.size + 2) (by rw [World.size_alloc]; omega) (.slice A' yl c') yl (rowOf ys) rfl ho2 ⟨wr.heap.size, 0, none⟩ 1 1 [q] rfl rfl hone hyb ?_)
        intro v3 w3 ho3 hg3 hb3
        have hbx3 := hbx2.grown hg3 hdg
        rw [← rowOf_append] at ho3
        have HO3 := Lib.hid ho3
        have HB3 := Lib.hid hbx3
        have HYL := Lib.hid hyl
        obtain ⟨A3, c3, rfl⟩ := row_form ho3
        clear hb3 hg3 ho2 hbx2 hA2 hbx ho hone hb1 hyb hdg y0 y1 y2 ho3 hbx3 hSK hyl
        go_wp2
        go_roundg (gk - 1)
        case measure => have : k + gk = n := HK; omega
        case rel =>
          have eY : some_ p (n + 1) xs (k + 1) = ys ++ [q] := HY
          have eL : (ys ++ [q]).length = yl + 1 := by rw [List.length_append, show ys.length = yl from HYL]; rfl
          exact ⟨k + 1, by have : k + gk = n := HK; omega, by go_num, by rw [eY, eL]; exact HO3, HB3⟩
      · have hpd : decide (x < q.e.i) = false := decide_eq_false hp
        have hpe : (x < q.e.i) = False := eq_false hp
        rw [hpd] at hpq
        have HN := Lib.hid (hno (.inl hpq))
        have HYL := Lib.hid hyl
        have HO := Lib.hid ho
        clear hyes hno hp hk hsl hcell hok hSK hyl ho hone hpq
        go_wp2
        go_roundg (gk - 1)
        case measure => have : k + gk = n := HK; omega
        case rel =>
          have eY : some_ p (n + 1) xs (k + 1) = ys := HN
          exact ⟨k + 1, by have : k + gk = n := HK; omega, by go_num, by rw [eY, show ys.length = yl from HYL]; exact HO, hbx⟩
    · obtain rfl : k = n := by omega
      have hdec : decide ((k : Int) < (k : Int)) = false := decide_eq_false (by omega)
      have hE4 := Ents.ofAny (Z := fun q => (Z q ∧ q < w.heap.size) ∨ w.heap.size + 2 ≤ q) ho (fun q hq => .inr hq) (fun y hy => ((hok y (some_mem hy)).old.keep hbx.below.size fun q hq _ => hbx.below.block q hq).mono fun q hq => .inl hq)
      generalize hSK : some_ p (k + 1) xs k = ys at *
      generalize hyl : ys.length = yl at *
      have h5 := hbx.turn (.int .i64 x) (.int .i64 t0) (.slice A' yl c')
      obtain ⟨⟨d0, d1, d2, d3⟩, _⟩ := row4 h5.box
      obtain ⟨⟨x0, x1, x2, x3⟩, ⟨z0, z1, z2, z3⟩⟩ := row4 h5.ans
      have h6 := h5.fill (.int .i64 x) (.int .i64 t0) (.slice A' yl c') (.int .i64 r.f)
      have hE6 := ents_after (ents_form hE4) hZ (.int .i64 x) (.int .i64 t0) (.slice A' yl c') (.int .i64 x) (.int .i64 t0) (.slice A' yl c') (.int .i64 r.f)
      have HE6 := Lib.hid hE6
      have hcmp : r.compact x = some ⟨x, t0, ys.map (·.e), r.f⟩ := HC.out
      have HCM := Lib.hid hcmp
      clear hcell hok hk hm hE4 ho hbx h5 hSK hyl HC hcmp hE6
      go_wp2
      refine bodyPost_ret (res_cell_tmp' (n := w.heap.size + 1) rfl rfl h6.ans Try.underlying32 rfl (by kernel_rfl)) rfl ?_
      exact ⟨_, A', yl, c', HCM, rfl, HE6, h6.below⟩

end Go.Proofs.Ytlanjlboipnpfaa
