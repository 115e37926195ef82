/- The document's Take, where what is told stands behind what is there. -/
import Derived.Test.YtlanjlboipnpfaaLogRefT
import Derived.Test.YtlanjlboipnpfaaLogProgL
import Derived.Deep.RegionWith
import Derived.Outline
namespace Go.Proofs.Ytlanjlboipnpfaa
open Go.RowKit
set_option linter.unusedVariables false
set_option linter.unusedSimpArgs false

theorem BoxTwo.turn2 {w X : World} {a b c0 e : Value} {C : Array Value} (h : BoxTwo w X #[a, b, c0, e] C) (c : Value) : BoxTwo w (X.setCell ⟨w.heap.size, 2, none⟩ c) #[a, b, c, e] C := by
  refine ⟨?_, (Below.heap_setCell _ _ _ _ (by show w.heap.size + 1 ≠ w.heap.size; omega)).trans h.ans, h.below.setCell (Nat.le_refl _) c⟩
  have hb := h.box
  simp only [World.setCell, Array.getElem?_modify, if_true, hb, Option.map_some]
  simp

/-- The cells of a list's rest. -/
theorem tail_cells {w : World} {A : Option Addr} {n cap k : Nat} {xs : List Lay} (hc : ∀ a, A = some a → ∀ j u, (rowOf xs)[j]? = some u → w.cell? (a.add j) = some u) (hA : ∀ a, A = some a → a.spot = none) (hl : xs.length = n) (hn : n ≤ cap) (hk : k ≤ n) :
    ∀ b, tailAt A cap k = some b → ∀ j u, (rowOf (xs.drop k))[j]? = some u → w.cell? (b.add j) = some u := fun b e j u hu => by
  have hj : j < (rowOf (xs.drop k)).length := (List.getElem?_eq_some_iff.1 hu).1
  rw [rowOf_length, List.length_drop] at hj
  cases A with
  | none => unfold tailAt at e; split at e <;> cases e
  | some a =>
    unfold tailAt at e
    rw [if_neg (by omega), Option.map_some] at e
    injection e with e
    subst e
    obtain ⟨g, o, sp⟩ := a
    obtain rfl : sp = none := hA _ rfl
    rw [rowOf_drop, List.getElem?_drop] at hu
    have := hc _ rfl _ _ hu
    rw [Addr.add_lit] at this
    rw [Addr.add_lit, Addr.add_lit, Nat.add_assoc]
    exact this

theorem swap_is (r : RL) {ms : List Ent} {k : Nat} (hk : k < ms.length) {a : Ent} (ha : ms[k] = a) {xs : List Lay} {n : Nat} (hxs : xs.map (·.e) = r.l) (hn : xs.length = n) :
    r.swap (ms.drop k) = (⟨r.i, r.t, (some_ (fun y => decide (y.i < a.i)) (n + 1) xs n).map (·.e) ++ ms.drop k, r.f⟩ : RL).mark a.i := by
  subst hn
  rw [some_all, hxs, List.take_of_length_le (by
    have := List.length_filter_le (fun e : Ent => decide (e.i < a.i)) r.l
    rw [← hxs, List.length_map] at this
    rw [← hxs]
    omega), List.drop_eq_getElem_cons hk, ha]
  rfl

/-- What was kept and what was taken, as one list. -/
theorem joined_ents {w X : World} {Z : Nat → Prop} {ys zs : List Lay} {yl d base : Nat} {T : TypeId} {ls ms : List Ent} {A2 : Option Addr} {c2 : Nat} (hb : Below w.heap.size w X) (hN : w.heap.size + 2 ≤ base) (hyl : ys.length = yl) (hzl : zs.length = d) (hys : ys.map (·.e) = ls) (hzs : zs.map (·.e) = ms) (hok : ∀ y ∈ ys, LayOk w Z y) (hok2 : ∀ y ∈ zs, LayOk w Z y)
    (ho : X.ownsRow base T 3 (.slice A2 (yl + d) c2) (yl + d) (rowOf ys ++ rowOf zs)) : Ents X (fun q => (Z q ∧ q < w.heap.size) ∨ w.heap.size + 2 ≤ q) A2 (yl + d) c2 (ls ++ ms) := by
  have ho3 : X.ownsRow base T 3 (.slice A2 (yl + d) c2) (ys ++ zs).length (rowOf (ys ++ zs)) := by
    rw [rowOf_append, List.length_append, hyl, hzl]
    exact ho
  obtain ⟨A4, c4, e4, hE4⟩ := Ents.ofAny (Z := fun q => (Z q ∧ q < w.heap.size) ∨ w.heap.size + 2 ≤ q) ho3 (fun q hq => .inr (by omega)) (fun y hy => by
    have hy' : LayOk w Z y := by
      rcases List.mem_append.1 hy with h | h
      · exact hok y h
      · exact hok2 y h
    exact (hy'.old.keep hb.size fun q hq _ => hb.block q hq).mono fun q hq => .inl hq)
  rw [List.length_append, hyl, hzl, List.map_append, hys, hzs] at hE4
  injection e4 with e5 e6 e7
  rw [e5, e7]
  exact hE4

set_option maxRecDepth 100000 in
set_option maxHeartbeats 6400000 in
theorem takeR_in (r : RL) (hg : Good r) (x t : Int) (Z : Nat → Prop) (A : Option Addr) (n c : Nat) (w : World) (h : Ents w Z A n c r.l) (hm : n ≤ 100000) (hZ : ∀ k, w.heap.size ≤ k → Z k) (B : Option Addr) (m cB : Nat) (ms : List Ent) (hB : Ents w Z B m cB ms) (hm2 : m ≤ 100000) (hr : runB x t ms = true) (ha : r.at_ x = some t) :
    Calls Try.prog 38 #[lgV r A n c, .int .i64 x, .int .i64 t, .slice B m cB] w fun e w' => ∃ A' n' c', e = .returned (.tuple #[lgV (r.take x t ms).1 A' n' c', .int .i64 (x + (m : Int)), .bool true]) ∧ Ents w' Z A' n' c' (r.take x t ms).1.l ∧ Below w.heap.size w w' := by
  have h2 := BoxTwo.start w (lgC r A n c)
  have hR := runR_any Z B m cB ms x t _ (hB.below h2.below (Nat.le_refl _)) (by unfold maxLen; omega)
  rw [hr] at hR
  have hA := fun w1 (hb : Below w.heap.size w w1) y => atR_any r y Z A n c w1 (h.below hb (Nat.le_refl _)) (by unfold maxLen; omega)
  obtain ⟨a1, a2, _, _⟩ := hg.at_some ha
  have hlim := hg.lim
  have hll := h.1
  have hml := hB.1
  rw [hll] at a2 hlim
  have hw1 : wrap64 (x + (m : Int)) = x + (m : Int) := by rw [← IntWalk.i64_left, IntWalk.i64_in _ (by omega)]
  have hw2 : IntKind.i64.wrap (x + (m : Int)) = x + (m : Int) := by rw [IntWalk.i64_in _ (by omega)]
  have q1 : (t != t) = false := by simp
  have htk : r.take x t ms = (r.swap (ms.drop (r.known ms)), x + ms.length, true) := by unfold RL.take; rw [if_pos hr, if_pos ha]
  have hAx := fun w1 (hb : Below w.heap.size w w1) => hA w1 hb x
  rw [ha] at hAx
  generalize hTK : (r.take x t ms).1 = R at *
  have HR := Lib.hid (show r.swap (ms.drop (r.known ms)) = R by rw [← hTK, htk])
  clear hTK htk a1 a2 hlim
  have hA0 := Ents.mono h (Z' := Z) fun _ hq => hq
  clear hr ha hg
  go_enter Try.func38, Try.ntmps38
  go_wp2_with fail
  refine hR.mono ?_
  rintro e w1 ⟨rfl, hb1⟩
  have h3 := h2.step hb1
  obtain ⟨⟨b0, b1, b2, b3⟩, _⟩ := row4 h3.box
  have hA1 := hAx w1 h3.below
  go_wp2_with fail
  refine hA1.mono ?_
  rintro e w2 ⟨rfl, hb2⟩
  have h4 := h3.step hb2
  obtain ⟨xs, hxs, hok, hcell⟩ := h.lays
  have hxl : xs.length = n := by rw [← hll, ← hxs, List.length_map]
  have hg0 : 0 < n → ∃ g0 off0, A = some ⟨g0, off0, none⟩ ∧ g0 < w.heap.size := fun h0 => by
    obtain ⟨g0, off0, e, hg, _⟩ := h.2.2.2 h0
    exact ⟨g0, off0, e, hg⟩
  obtain ⟨zs, hzs, hokz, hcellz⟩ := hB.lays
  have hzl : zs.length = m := by rw [← hml, ← hzs, List.length_map]
  have HXS := Lib.hid hxs
  have HZS := Lib.hid hzs
  clear hR hAx hA1 hb1 hb2 h3 h2 b0 b1 b2 b3
  go_wp2
  go_loopg [15, 16, 17, 61] m (fun g s15 s16 s17 kk wr => ∃ k : Nat, k + g = m ∧ kk = .int .i64 (k : Int) ∧ (∀ j (hj : j < ms.length), j < k → r.has ms[j] = true) ∧ BoxTwo w wr (lgC r A n c) zL)
  case atStart => exact ⟨0, by omega, rfl, fun j hj hjk => absurd hjk (by omega), h4⟩
  case round =>
    clear h4
    obtain ⟨k, hk, rfl, hall, hbx⟩ := hrel
    have HK := Lib.hid hk
    have HALL := Lib.hid hall
    by_cases hkm : k < m
    · have hkm' : (k : Int) < (m : Int) := by omega
      have hkl : k < ms.length := by omega
      have hx : ∃ (gB oB : Nat) (a : Ent), B = some ⟨gB, oB, none⟩ ∧ gB < w.heap.size ∧ ms[k]'hkl = a ∧ (∀ W, Below w.heap.size w W → W.cell? ⟨gB, oB + k * 3, none⟩ = some (.int .i64 a.i) ∧ W.cell? ⟨gB, oB + k * 3 + 1, none⟩ = some (.int .i64 a.t)) := by
        obtain ⟨gB, oB, E, ce, e, hgb, x0, x1, _, _⟩ := hB.at_ k hkm
        exact ⟨gB, oB, _, e, hgb, rfl, fun W hW => ⟨(hW.cell (p := ⟨gB, oB + k * 3, none⟩) hgb).trans x0, (hW.cell (p := ⟨gB, oB + k * 3 + 1, none⟩) hgb).trans x1⟩⟩
      obtain ⟨gB, oB, a, rfl, hgb, haa, hxc⟩ := hx
      have HHAS := Lib.hid (show ∀ b, decide (r.at_ a.i = some a.t) = b → ∀ (hj : k < ms.length), r.has ms[k] = b from fun b e hj => by rw [show ms[k] = a from haa, ← e]; rfl)
      have HAA := Lib.hid haa
      obtain ⟨x0, x1⟩ := hxc wr hbx.below
      obtain ⟨⟨b0, b1, b2, b3⟩, _⟩ := row4 hbx.box
      clear hk hall haa
      go_upto_region 12 with fail
      go_cut [16, 17] (fun v16 v17 wx => v16 = .int .i64 ((r.at_ a.i).getD 0) ∧ v17 = .bool (r.at_ a.i).isSome ∧ BoxTwo w wx (lgC r A n c) zL)
      case first =>
        go_region_with ((go_at_call 32
                         refine (hA _ (by first | exact hbx.below | exact hbx.drew.below) a.i).mono ?_
                         rintro e w3 ⟨rfl, hb3⟩
                         have hbx3 : BoxTwo w w3 (lgC r A n c) zL := by first | exact hbx.step hb3 | exact hbx.drew.step hb3))
        all_goals
          go_wp2_with fail
          go_meet
          exact ⟨rfl, rfl, by first | exact hbx3 | exact hbx3.drew⟩
      case rest =>
        obtain ⟨rfl, rfl, hbx3⟩ := hcut
        obtain ⟨y0, y1⟩ := hxc wc hbx3.below
        clear x0 x1 b0 b1 b2 b3 hbx
        generalize r.at_ a.i = o at *
        go_upto_region 13 with fail
        go_cut [83] (fun v wx => v = .bool (decide (o = some a.t)) ∧ BoxTwo w wx (lgC r A n c) zL)
        case first =>
          cases o with
          | none =>
            go_wp2_with fail
            go_meet
            exact ⟨rfl, hbx3⟩
          | some v =>
            by_cases hv : v = a.t
            · subst hv
              have Q3 := Lib.hid (show (decide (some a.t = some a.t)) = true by simp)
              go_wp2_with fail
              go_meet
              exact ⟨by rw [Q3.out], hbx3⟩
            · have Q3 := Lib.hid (show (decide (some v = some a.t)) = false by simp [hv])
              have q4 : (v == a.t) = false := beq_eq_false_iff_ne.2 hv
              have q5 : (v = a.t) = False := eq_false hv
              clear hv
              go_wp2_with fail
              go_meet
              exact ⟨by rw [Q3.out], hbx3⟩
        case rest =>
          clear hbx3 y0 y1
          obtain ⟨rfl, hbx⟩ := hcut
          obtain ⟨⟨b0, b1, b2, b3⟩, _⟩ := row4 hbx.box
          cases hd : decide (o = some a.t) with
          | true =>
            have HN := HHAS.out true hd
            have HN := Lib.hid HN
            go_wp2
            go_roundg (gk - 1)
            case measure => have : k + gk = m := HK.out; omega
            case rel => exact ⟨k + 1, by have : k + gk = m := HK.out; omega, by go_num, fun j hj hjk => by
              rcases Nat.lt_or_ge j k with h1 | h1
              · exact HALL.out j hj h1
              · obtain rfl : j = k := by omega
                exact HN.out hj, hbx⟩
          | false =>
            have HN := HHAS.out false hd
            have e1 : r.known ms = k := known_is r (by omega) HALL.out HN
            have hsw := swap_is r hkl (show ms[k] = a from HAA.out) hxs hxl
            rw [← e1, show r.swap (ms.drop (r.known ms)) = R from HR.out, e1] at hsw
            have HSW := Lib.hid hsw
            obtain ⟨p, hpp⟩ : ∃ p : Ent → Bool, p = fun y => decide (y.i < a.i) := ⟨_, rfl⟩
            rw [← hpp] at HSW
            have HPP := Lib.hid hpp
            clear HN e1 hsw hd hpp
            go_wp2
            go_loopg [18, 19, 87] n (fun g v s19 kk wr => ∃ k2 : Nat, k2 + g = n ∧ kk = .int .i64 (k2 : Int) ∧ wr.ownsRow (w.heap.size + 2) 43 3 v (some_ p (n + 1) xs k2).length (rowOf (some_ p (n + 1) xs k2)) ∧ BoxTwo w wr (lgC r A n c) zL)
            case atStart => exact ⟨0, by omega, rfl, by rw [some_zero]; exact World.ownsRow_nil _ _ _ _, hbx⟩
            case round =>
              clear hbx b0 b1 b2 b3
              obtain ⟨k2, hk, rfl, ho, hbx⟩ := hrel
              obtain ⟨⟨b0, b1, b2, b3⟩, ⟨f0, f1, f2, f3⟩⟩ := row4 hbx.box
              obtain ⟨A', c', rfl⟩ := row_form ho
              have HK2 := Lib.hid hk
              by_cases hkn : k2 < n
              · have hkn' : (k2 : Int) < (n : Int) := by omega
                obtain ⟨x0, x1⟩ := hxc wr hbx.below
                obtain ⟨g0, off0, rfl, hgb0⟩ := hg0 (by omega)
                obtain ⟨y0, y1, y2⟩ := lay_at (hcell _ rfl) k2 (by omega)
                have y0 := (hbx.below.cell (p := ⟨g0, off0 + k2 * 3, none⟩) hgb0).trans y0
                have y1 := (hbx.below.cell (p := ⟨g0, off0 + k2 * 3 + 1, none⟩) hgb0).trans y1
                have y2 := (hbx.below.cell (p := ⟨g0, off0 + k2 * 3 + 2, none⟩) hgb0).trans y2
                have hyes := some_yes (p := p) (m := n + 1) (xs := xs) (k := k2) (by omega)
                have hno := some_no (p := p) (m := n + 1) (xs := xs) (k := k2) (by omega)
                have hsl := some_len p (n + 1) xs k2
                have hone := fun W => one_cells W (xs[k2]'(by omega)) 43
                generalize (xs[k2]'(by omega)) = q at *
                have hpq : p q.e = decide (q.e.i < a.i) := by rw [show p = _ from HPP.out]
                generalize hSK : some_ p (n + 1) xs k2 = ys at *
                generalize hyl : ys.length = yl at *
                clear hg0 hcell hok hcellz hokz hA hA0 hB h hxc hxs hzs f0 f1 f2 f3 b0 b1 b3
                by_cases hp : q.e.i < a.i
                · rw [decide_eq_true hp] at hpq
                  have hpd : decide (q.e.i < a.i) = true := decide_eq_true hp
                  have HY := Lib.hid (hyes hpq (by omega))
                  have hyb : yl + 1 ≤ 1000000 := by omega
                  have hdg : ∀ q', (Value.slice A' yl c').ownBlock = some q' → w.heap.size + 2 ≤ q' := fun q' e => (World.ownsRow.lt ho q' e).1
                  clear hyes hno hk hsl hpq
                  go_upto_region 18 with fail
                  go_big_quiet (fail)
                  have hbxq := hbx.step (below_drewN (Below.refl _ _) nq)
                  have hoq : (wr.drewN nq).ownsRow (w.heap.size + 2) 43 3 (.slice A' yl c') yl (rowOf ys) := ho
                  have y0 : (wr.drewN nq).cell? ⟨g0, off0 + k2 * 3, none⟩ = _ := y0
                  have y1 : (wr.drewN nq).cell? ⟨g0, off0 + k2 * 3 + 1, none⟩ = _ := y1
                  have y2 : (wr.drewN nq).cell? ⟨g0, off0 + k2 * 3 + 2, none⟩ = _ := y2
                  generalize wr.drewN nq = w5 at *
                  clear hbx ho b2 x0 x1
                  obtain ⟨⟨_, _, b2, _⟩, _⟩ := row4 hbxq.box
                  have hA2 := (Below.refl w5.heap.size w5).alloc (Nat.le_refl _) (.cells #[.int .i64 q.e.i, .int .i64 q.e.t, .slice q.A q.e.d.length q.c] 43)
                  have hbx2 := hbxq.step hA2
                  have ho2 := hoq.alloc (.cells #[.int .i64 q.e.i, .int .i64 q.e.t, .slice q.A q.e.d.length q.c] 43)
                  have hb1 : w.heap.size + 2 ≤ w5.heap.size := hlt hbxq.ans
                  have hone := hone w5
                  generalize hqd : q.e.d.length = qd at *
                  go_wp2_with (at_builtin; refine wpList_append_ents _ rfl _ _ rfl (w.heap.size + 2) (by rw [World.size_alloc]; omega) (.slice A' yl c') yl (rowOf ys) rfl ho2 ⟨w5.heap.size, 0, none⟩ 1 1 [q] rfl rfl hone hyb ?_)
                  intro v3 w3 ho3 hg3 hb3
                  have hbx3 := hbx2.grown hg3 hdg
                  rw [← rowOf_append] at ho3
                  have HO3 := Lib.hid ho3
                  have HB3 := Lib.hid hbx3
                  have HYL := Lib.hid hyl
                  obtain ⟨A3, c3, rfl⟩ := row_form ho3
                  clear hb3 hg3 ho2 hbx2 hA2 hbxq hoq hone hb1 hyb hdg y0 y1 y2 ho3 hbx3 hSK hyl
                  go_wp2
                  go_roundg (gk - 1)
                  case measure => have : k2 + gk = n := HK2.out; omega
                  case rel =>
                    have eY : some_ p (n + 1) xs (k2 + 1) = ys ++ [q] := HY.out
                    have eL : (ys ++ [q]).length = yl + 1 := by rw [List.length_append, show ys.length = yl from HYL.out]; rfl
                    exact ⟨k2 + 1, by have : k2 + gk = n := HK2.out; omega, by go_num, by rw [eY, eL]; exact HO3.out, HB3.out⟩
                · have hpd : decide (q.e.i < a.i) = false := decide_eq_false hp
                  have hpe : (q.e.i < a.i) = False := eq_false hp
                  rw [hpd] at hpq
                  have HN := Lib.hid (hno (.inl hpq))
                  have HYL := Lib.hid hyl
                  have HO := Lib.hid ho
                  clear hyes hno hp hk hsl hSK hyl ho hone hpq
                  go_upto_region 18 with fail
                  go_big_quiet (fail)
                  have HBQ := Lib.hid (hbx.step (below_drewN (Below.refl _ _) nq))
                  have HOQ := Lib.hid (show (wr.drewN nq).ownsRow (w.heap.size + 2) 43 3 (.slice A' yl c') yl (rowOf ys) from HO.out)
                  generalize wr.drewN nq = w5 at *
                  go_wp2
                  go_roundg (gk - 1)
                  case measure => have : k2 + gk = n := HK2.out; omega
                  case rel =>
                    have eY : some_ p (n + 1) xs (k2 + 1) = ys := HN.out
                    exact ⟨k2 + 1, by have : k2 + gk = n := HK2.out; omega, by go_num, by rw [eY, show ys.length = yl from HYL.out]; exact HOQ.out, HBQ.out⟩
              · obtain rfl : k2 = n := by omega
                have hdec : decide ((k2 : Int) < (k2 : Int)) = false := decide_eq_false (by omega)
                have hokk : ∀ y ∈ some_ p (k2 + 1) xs k2, LayOk w Z y := fun y hy => hok y (some_mem hy)
                have hsl := some_len p (k2 + 1) xs k2
                generalize hSK : some_ p (k2 + 1) xs k2 = ys at *
                generalize hyl : ys.length = yl at *
                have hcz : ∀ W, Below w.heap.size w W → ∀ b, tailAt (some ⟨gB, oB, none⟩) cB k = some b → ∀ j u, (rowOf (zs.drop k))[j]? = some u → W.cell? (b.add j) = some u := fun W hW => tail_cells (n := m) (fun a e j u hu => by
                  have hj : j < (rowOf zs).length := (List.getElem?_eq_some_iff.1 hu).1
                  injection e with e
                  subst e
                  rw [Addr.add_lit]
                  refine (hW.cell (p := ⟨gB, oB + j, none⟩) hgb).trans ?_
                  have := hcellz _ rfl j u hu
                  rwa [Addr.add_lit] at this) (fun a e => by injection e with e; rw [← e]) hzl hB.2.1 (by omega)
                have hsb := fun W => slice_back (A := some ⟨gB, oB, none⟩) (n := m) (cap := cB) (k := k) (by omega) hB.2.1 W
                have hokz2 : ∀ y ∈ zs.drop k, LayOk w Z y := fun y hy => hokz y (List.mem_of_mem_drop hy)
                have hzm : (zs.drop k).map (·.e) = ms.drop k := by rw [List.map_drop, show zs.map (·.e) = ms from HZS.out]
                have htn : tailAt (some ⟨gB, oB, none⟩) cB k = none → cB - k = 0 ∧ m - k = 0 := fun e => by unfold tailAt at e; split at e <;> cases e
                have hzd : (zs.drop k).length = m - k := by rw [List.length_drop, hzl]
                obtain ⟨d, hd⟩ : ∃ d, m - k = d := ⟨_, rfl⟩
                obtain ⟨dc, hdc⟩ : ∃ d, cB - k = d := ⟨_, rfl⟩
                rw [hd, hdc] at hsb htn
                rw [hd] at hzd
                generalize tailAt (some ⟨gB, oB, none⟩) cB k = TA at *
                have hyb : yl + d ≤ 1000000 := by omega
                have hb1 : w.heap.size + 2 ≤ wr.heap.size := hlt hbx.ans
                have hdg : ∀ q', (Value.slice A' yl c').ownBlock = some q' → w.heap.size + 2 ≤ q' := fun q' e => (World.ownsRow.lt ho q' e).1
                have hcz := hcz wr hbx.below
                have hkm2 : (k : Int) ≤ (m : Int) := by omega
                clear hdc hk hsl hB h hA hA0 hcell hok hokz hcellz
                go_wp2_with (at_builtin; refine wpList_append_lays _ rfl _ _ rfl (w.heap.size + 2) hb1 (.slice A' yl c') yl (rowOf ys) rfl ho TA d dc (zs.drop k) rfl hzd htn hcz hyb ?_)
                intro v4 w4 ho4 hg4 hb4
                obtain ⟨A2, c2, rfl⟩ := row_form ho4
                have hbx4 := hbx.grown hg4 hdg
                have hEj := joined_ents hbx4.below (Nat.le_refl _) hyl hzd rfl hzm hokk hokz2 ho4
                have h5 := hbx4.turn2 (.slice A2 (yl + d) c2)
                have hE5 := ents_set (b := w.heap.size) (k := 2) hEj (fun h => by rcases h with h | h <;> omega) (.slice A2 (yl + d) c2)
                have hM := fun W => markR_any ⟨r.i, r.t, ys.map (·.e) ++ ms.drop k, r.f⟩ a.i A2 (yl + d) c2 W
                have hml := (mark_l ⟨r.i, r.t, ys.map (·.e) ++ ms.drop k, r.f⟩ a.i).1
                have hsw2 := HSW.out
                generalize (⟨r.i, r.t, ys.map (·.e) ++ ms.drop k, r.f⟩ : RL).mark a.i = r' at *
                subst hsw2
                have HML := Lib.hid hml
                obtain ⟨⟨b0, b1, b2, b3⟩, ⟨f0, f1, f2, f3⟩⟩ := row4 hbx4.box
                clear hEj ho4 hg4 hb4 hbx ho hyl hzd hzm hokk hokz2 hcz htn hml hdg hb1
                go_upto_region 22 with fail
                generalize w4.setCell ⟨w.heap.size, 2, none⟩ (.slice A2 (yl + d) c2) = w5 at *
                clear b0 b1 b2 b3 f0 f1 f2 f3 hbx4
                have hW0 : Below w5.heap.size w5 w5 := Below.refl _ _
                obtain ⟨⟨b0, b1, b2, b3⟩, _⟩ := row4 h5.box
                obtain ⟨x0, x1⟩ := hxc w5 h5.below
                have HE5 := Lib.hid hE5
                clear hxc hE5 hsb
                go_region_with ((go_at_call 47
                                 refine (hM _).mono ?_
                                 rintro e w6 ⟨rfl, hb6⟩
                                 have hb6' : Below w5.heap.size w5 w6 := by first | exact hW0.trans hb6 | exact hW0.drew.trans hb6
                                 have h6 := h5.step hb6'
                                 obtain ⟨_, ⟨p0, p1, p2, p3⟩⟩ := row4 h6.ans))
                all_goals
                  have h7 := h6.fill (.int .i64 R.i) (.int .i64 R.t) (.slice A2 (yl + d) c2) (.int .i64 R.f)
                  have hE6 := Ents.below HE5.out hb6' (Nat.le_refl _)
                  have hE7 := (ents_fill hE6 (b := w.heap.size + 1) (fun h => by rcases h with h | h <;> omega) (.int .i64 R.i) (.int .i64 R.t) (.slice A2 (yl + d) c2) (.int .i64 R.f)).mono (Z' := Z) fun q hq => hq.elim (fun h => h.1) (fun h => hZ q (by omega))
                  have HE7 := Lib.hid hE7
                  clear hE6 hE7 h6 h5 hM
                  go_wp2
                  refine bodyPost_ret (res_cell_tmp_tmp (n := w.heap.size + 1) rfl rfl h7.ans Try.underlying32 rfl (by kernel_rfl)) rfl ?_
                  exact ⟨A2, yl + d, c2, rfl, by rw [show R.l = _ from HML.out]; exact HE7.out, h7.below⟩
    · obtain rfl : k = m := by omega
      have hdec : decide ((k : Int) < (k : Int)) = false := decide_eq_false (by omega)
      have e1 : r.known ms = k := known_is r (by omega) hall (fun hj => absurd hj (by omega))
      have e2 : R = r := by rw [← HR.out, e1, List.drop_of_length_le (by omega)]; rfl
      subst e2
      obtain ⟨⟨d0, d1, d2, d3⟩, _⟩ := row4 hbx.box
      obtain ⟨_, ⟨f0, f1, f2, f3⟩⟩ := row4 hbx.ans
      have h5 := hbx.fill (.int .i64 R.i) (.int .i64 R.t) (.slice A n c) (.int .i64 R.f)
      have hE5 := h.below h5.below (Nat.le_refl _)
      have HE5 := Lib.hid hE5
      clear hB hA h hall hk hA0 e1 hE5 hbx
      go_wp2
      refine bodyPost_ret (res_cell_tmp_tmp (n := w.heap.size + 1) rfl rfl h5.ans Try.underlying32 rfl (by kernel_rfl)) rfl ?_
      refine ⟨A, n, c, ?_, HE5.out, h5.below⟩
      rfl

end Go.Proofs.Ytlanjlboipnpfaa
