/- The document's Changed, by its contract. -/
import Derived.Test.YtlanjlboipnpfaaLogRefB
namespace Go.Proofs.Ytlanjlboipnpfaa
open Go.RowKit
set_option linter.unusedVariables false
set_option linter.unusedSimpArgs false

theorem changed_is (r : RL) (xs : List Lay) (n : Nat) (hxs : xs.map (·.e) = r.l) (hn : xs.length = n) : r.changed = (some_ (fun e => decide (0 < r.f) && decide (r.f ≤ e.i)) (n + 1) xs n).map (·.e) := by
  subst hn
  rw [some_all, hxs, List.take_of_length_le]
  · rfl
  · have := List.length_filter_le (fun e : Ent => decide (0 < r.f) && decide (r.f ≤ e.i)) r.l
    rw [← hxs, List.length_map] at this
    rw [← hxs]
    omega

set_option maxRecDepth 100000 in
set_option maxHeartbeats 3200000 in
theorem changedR_any (r : RL) (Z : Nat → Prop) (A : Option Addr) (n c : Nat) (w : World) (h : Ents w Z A n c r.l) (hm : n ≤ 100000) (hZ : ∀ k, w.heap.size ≤ k → Z k) :
    Calls Try.prog 35 #[lgV r A n c] w fun e w' => ∃ A' c', e = .returned (.slice A' r.changed.length c') ∧ Ents w' Z A' r.changed.length c' r.changed ∧ Below w.heap.size w w' := by
  have hb : Below w.heap.size w (w.alloc (.cells (lgC r A n c) 32)) := (Below.refl _ _).alloc (Nat.le_refl _) _
  have hrow := heap_alloc_new w (.cells (lgC r A n c) 32)
  have hs : w.heap.size + 1 ≤ (w.alloc (.cells (lgC r A n c) 32)).heap.size := by simp
  have hll := h.1
  obtain ⟨⟨a0, a1, a2, a3⟩, _⟩ := row4 hrow
  obtain ⟨xs, hxs, hok, hcell⟩ := h.lays
  have hxl : xs.length = n := by rw [← hll, ← hxs, List.length_map]
  rw [changed_is r xs n hxs hxl, List.length_map]
  obtain ⟨p, hpp⟩ : ∃ p : Ent → Bool, p = fun e => decide (0 < r.f) && decide (r.f ≤ e.i) := ⟨_, rfl⟩
  rw [← hpp]
  have HPP := Lib.hid hpp
  have hg0 : 0 < n → ∃ g0 off0, A = some ⟨g0, off0, none⟩ ∧ g0 < w.heap.size := fun h0 => by
    obtain ⟨g0, off0, e, hg, _⟩ := h.2.2.2 h0
    exact ⟨g0, off0, e, hg⟩
  clear h hxs hll hpp
  go_enter Try.func35, Try.ntmps35
  go_wp2
  go_loopg [3, 4, 8] n (fun g v s10 kk wr => ∃ k : Nat, k + g = n ∧ kk = .int .i64 (k : Int) ∧ wr.ownsRow (w.heap.size + 1) 43 3 v (some_ p (n + 1) xs k).length (rowOf (some_ p (n + 1) xs k)) ∧ Below w.heap.size w wr ∧ wr.heap[w.heap.size]? = some (.cells (lgC r A n c) 32))
  case atStart => exact ⟨0, by omega, rfl, by rw [some_zero]; exact World.ownsRow_nil _ _ _ _, hb, hrow⟩
  case round =>
    clear hb hrow a0 a1 a2 a3 hs
    obtain ⟨k, hk, rfl, ho, hbr, hrr⟩ := hrel
    obtain ⟨⟨b0, b1, b2, b3⟩, _⟩ := row4 hrr
    obtain ⟨A', c', rfl⟩ := row_form ho
    have HK := Lib.hid hk
    by_cases hkn : k < n
    · have hkn' : (k : Int) < (n : Int) := by omega
      obtain ⟨g0, off0, rfl, hgb⟩ := hg0 (by omega)
      clear hg0
      obtain ⟨y0, y1, y2⟩ := lay_at (hcell _ rfl) k (by omega)
      have y0 := (hbr.cell (p := ⟨g0, off0 + k * 3, none⟩) hgb).trans y0
      have y1 := (hbr.cell (p := ⟨g0, off0 + k * 3 + 1, none⟩) hgb).trans y1
      have y2 := (hbr.cell (p := ⟨g0, off0 + k * 3 + 2, none⟩) hgb).trans y2
      have hyes := some_yes (p := p) (m := n + 1) (xs := xs) (k := k) (by omega)
      have hno := some_no (p := p) (m := n + 1) (xs := xs) (k := k) (by omega)
      have hsl := some_len p (n + 1) xs k
      have hone := one_cells wr (xs[k]'(by omega)) 43
      generalize (xs[k]'(by omega)) = q at *
      have hpq : p q.e = (decide (0 < r.f) && decide (r.f ≤ q.e.i)) := by rw [show p = _ from HPP]
      generalize hSK : some_ p (n + 1) xs k = ys at *
      generalize hyl : ys.length = yl at *
      by_cases hp : p q.e = true
      · rw [hp] at hpq
        replace hpq := hpq.symm
        simp only [Bool.and_eq_true, decide_eq_true_eq] at hpq
        have hq1 : decide (0 < r.f) = true := decide_eq_true hpq.1
        have hq2 : decide (r.f ≤ q.e.i) = true := decide_eq_true hpq.2
        have HY := Lib.hid (hyes hp (by omega))
        obtain ⟨hq3, hq4⟩ := hpq
        have HB := Lib.hid hbr
        have HR := Lib.hid hrr
        have HO := Lib.hid ho
        have HYL := Lib.hid hyl
        have hb1 : w.heap.size + 1 ≤ wr.heap.size := hlt hrr
        have hyb : yl + 1 ≤ 1000000 := by omega
        clear hyes hno hp hk hsl hcell hok hSK hyl hbr hrr ho
        go_wp2
        go_big_quiet (fail)
        have hoX : (wr.drewN nq).ownsRow (w.heap.size + 1) 43 3 (.slice A' yl c') yl (rowOf ys) := owns_heap HO.out (fun _ _ => rfl)
        have hbX : Below w.heap.size w (wr.drewN nq) := below_drewN HB.out nq
        have hrX : (wr.drewN nq).heap[w.heap.size]? = some (.cells (lgC r (some ⟨g0, off0, none⟩) n c) 32) := HR.out
        have hone := one_cells (wr.drewN nq) q 43
        have y0 : (wr.drewN nq).cell? ⟨g0, off0 + k * 3, none⟩ = _ := y0
        have y1 : (wr.drewN nq).cell? ⟨g0, off0 + k * 3 + 1, none⟩ = _ := y1
        have y2 : (wr.drewN nq).cell? ⟨g0, off0 + k * 3 + 2, none⟩ = _ := y2
        obtain ⟨⟨b0, b1, b2, b3⟩, _⟩ := row4 hrX
        have hb1 : w.heap.size + 1 ≤ (wr.drewN nq).heap.size := hlt hrX
        generalize wr.drewN nq = X at *
        have hA2 := (Below.refl X.heap.size X).alloc (Nat.le_refl _) (.cells #[.int .i64 q.e.i, .int .i64 q.e.t, .slice q.A q.e.d.length q.c] 43)
        have hrr2 := (hA2.block _ (hlt hrX)).trans hrX
        have hbr2 := hbX.trans (hA2.mono hbX.size)
        have ho2 := hoX.alloc (.cells #[.int .i64 q.e.i, .int .i64 q.e.t, .slice q.A q.e.d.length q.c] 43)
        have hdg : ∀ q', (Value.slice A' yl c').ownBlock = some q' → w.heap.size + 1 ≤ q' := fun q' e => (World.ownsRow.lt hoX q' e).1
        generalize hqd : q.e.d.length = qd at *
        clear hq1 hq2 hq3 hq4 hoX hbX hrX
        go_wp2_with (at_builtin; refine wpList_append_ents _ rfl _ _ rfl (w.heap.size + 1) (by rw [World.size_alloc]; omega) (.slice A' yl c') yl (rowOf ys) rfl ho2 ⟨X.heap.size, 0, none⟩ 1 1 [q] rfl rfl hone hyb ?_)
        intro v3 w3 ho3 hg3 hb3
        have hbr3 := hbr2.grown hg3 hbr2.size (fun q' e => Nat.le_of_lt (hdg q' e))
        have hrr3 := (hg3.block w.heap.size (hlt hrr2) (fun e => by have := hdg _ e.symm; omega)).trans hrr2
        rw [← rowOf_append] at ho3
        have HO3 := Lib.hid ho3
        have HB3 := Lib.hid hbr3
        have HR3 := Lib.hid hrr3
        obtain ⟨A3, c3, rfl⟩ := row_form ho3
        clear hb3 hg3 ho2 hrr2 hbr2 hA2 hone hb1 hyb hdg y0 y1 y2 ho3 hbr3 hrr3
        go_wp2
        go_roundg (gk - 1)
        case measure => have : k + gk = n := HK; omega
        case rel =>
          have eY : some_ p (n + 1) xs (k + 1) = ys ++ [q] := HY
          have eL : (ys ++ [q]).length = yl + 1 := by rw [List.length_append, show ys.length = yl from HYL]; rfl
          exact ⟨k + 1, by have : k + gk = n := HK; omega, by go_num, by rw [eY, eL]; exact HO3, HB3, HR3⟩
      · have hpf : p q.e = false := by simpa using hp
        have HN := Lib.hid (hno (.inl hpf))
        have HYL := Lib.hid hyl
        have HO := Lib.hid ho
        have HB := Lib.hid hbr
        have HR := Lib.hid hrr
        rw [hpf] at hpq
        clear hyes hno hp hk hsl hcell hok hSK hyl ho hone hbr hrr hpf
        by_cases hq1 : 0 < r.f
        · have hq1d : decide (0 < r.f) = true := decide_eq_true hq1
          rw [hq1d, Bool.true_and] at hpq
          have hq2 : decide (r.f ≤ q.e.i) = false := hpq.symm
          have hq3 : (r.f ≤ q.e.i) = False := eq_false (of_decide_eq_false hq2)
          clear hpq
          go_wp2
          go_big_quiet (fail)
          go_wp2
          go_roundg (gk - 1)
          case measure => have : k + gk = n := HK; omega
          case rel =>
            have eY : some_ p (n + 1) xs (k + 1) = ys := HN
            exact ⟨k + 1, by have : k + gk = n := HK; omega, by go_num, by rw [eY, show ys.length = yl from HYL]; exact HO, below_drewN HB _, HR⟩
        · have hq1d : decide (0 < r.f) = false := decide_eq_false hq1
          have hq3 : (0 < r.f) = False := eq_false hq1
          clear hpq hq1
          go_wp2
          go_big_quiet (fail)
          go_wp2
          go_roundg (gk - 1)
          case measure => have : k + gk = n := HK; omega
          case rel =>
            have eY : some_ p (n + 1) xs (k + 1) = ys := HN
            exact ⟨k + 1, by have : k + gk = n := HK; omega, by go_num, by rw [eY, show ys.length = yl from HYL]; exact HO, below_drewN HB _, HR⟩
    · obtain rfl : k = n := by omega
      have hdec : decide ((k : Int) < (k : Int)) = false := decide_eq_false (by omega)
      obtain ⟨A4, c4, e4, hE4⟩ := Ents.ofAny ho (fun q hq => hZ q (by omega)) (fun y hy => (hok y (some_mem hy)).keep hbr.size fun q hq _ => hbr.block q hq)
      have HE := Lib.hid hE4
      have HE4 := Lib.hid e4
      have HBR := Lib.hid hbr
      clear hcell hok hk hm hE4 e4 ho hbr hrr
      generalize hSK : some_ p (k + 1) xs k = ys at *
      generalize hyl : ys.length = yl at *
      have HSK := Lib.hid hSK
      have HYL := Lib.hid hyl
      clear hSK hyl
      go_wp2
      go_ret
      rw [show some_ p (k + 1) xs k = ys from HSK, show ys.length = yl from HYL]
      have e4 : Value.slice A' yl c' = Value.slice A4 yl c4 := HE4
      injection e4 with e5 e6 e7
      subst e5 e7
      exact ⟨A', c', rfl, HE, HBR⟩

end Go.Proofs.Ytlanjlboipnpfaa
