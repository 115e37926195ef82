/- The document's From, by its contract; rows that are filled. -/
import Derived.Test.YtlanjlboipnpfaaLogRefA
import Derived.Test.YtlanjlboipnpfaaEntRow
namespace Go.Proofs.Ytlanjlboipnpfaa
open Go.RowKit
set_option linter.unusedVariables false
set_option linter.unusedSimpArgs false

theorem rowOf_append (xs ys : List Lay) : rowOf (xs ++ ys) = rowOf xs ++ rowOf ys := by simp [rowOf]

theorem rowOf_nil : rowOf [] = [] := rfl

/-- What a row of entries of the call's own reads as. -/
theorem Ents.ofAny {w : World} {Z : Nat → Prop} {base : Nat} {T : TypeId} {v : Value} {xs : List Lay} (h : w.ownsRow base T 3 v xs.length (rowOf xs)) (hz : ∀ k, base ≤ k → Z k) (hok : ∀ x ∈ xs, LayOk w Z x) :
    ∃ A c, v = .slice A xs.length c ∧ Ents w Z A xs.length c (xs.map (·.e)) := by
  rcases h.2 with ⟨rfl, h0⟩ | ⟨g, cap, cur, rfl, hb, _⟩
  · obtain rfl : xs = [] := List.eq_nil_of_length_eq_zero h0
    exact ⟨none, 0, rfl, rfl, Nat.le_refl _, fun _ => rfl, fun h => absurd h (by simp)⟩
  · exact ⟨some ⟨g, 0, none⟩, cap, rfl, Ents.ofRow h rfl (hz g hb) hok⟩

/-- The slice that a row is. -/
theorem row_form {w : World} {base : Nat} {T : TypeId} {v : Value} {n : Nat} {row : List Value} (h : w.ownsRow base T 3 v n row) : ∃ A c, v = .slice A n c := by
  rcases h.2 with ⟨rfl, h0⟩ | ⟨g, cap, cur, rfl, _⟩
  · exact ⟨none, 0, by rw [h0]⟩
  · exact ⟨_, _, rfl⟩

/-- One entry in a block of its own, as a row. -/
theorem one_cells (w : World) (x : Lay) (T : TypeId) : ∀ j u, (rowOf [x])[j]? = some u → (w.alloc (.cells #[.int .i64 x.e.i, .int .i64 x.e.t, .slice x.A x.e.d.length x.c] T)).cell? ((⟨w.heap.size, 0, none⟩ : Addr).add j) = some u := by
  intro j u hu
  rw [Addr.add_lit, Nat.zero_add, cell_of_row _ _ _ _ _ _ (heap_alloc_new w _)]
  have e : rowOf [x] = [.int .i64 x.e.i, .int .i64 x.e.t, .slice x.A x.e.d.length x.c] := by simp [rowOf, cells3]
  rw [e] at hu
  simpa using hu

/-- An entry's three cells, out of its list's. -/
theorem lay_at {w : World} {g off : Nat} {xs : List Lay} (hc : ∀ j u, (rowOf xs)[j]? = some u → w.cell? ((⟨g, off, none⟩ : Addr).add j) = some u) (k : Nat) (hk : k < xs.length) :
    w.cell? ⟨g, off + k * 3, none⟩ = some (.int .i64 xs[k].e.i) ∧ w.cell? ⟨g, off + k * 3 + 1, none⟩ = some (.int .i64 xs[k].e.t) ∧ w.cell? ⟨g, off + k * 3 + 2, none⟩ = some (.slice xs[k].A xs[k].e.d.length xs[k].c) := by
  have h : ∀ r (hr : r < 3), w.cell? ⟨g, off + (k * 3 + r), none⟩ = (cells3 xs[k])[r]? := fun r hr => by
    have e := rowOf_at xs k r hk hr
    have hl : r < (cells3 xs[k]).length := by simp [cells3]; omega
    rw [List.getElem?_eq_getElem hl] at e ⊢
    have := hc _ _ e
    rwa [Addr.add_lit] at this
  exact ⟨h 0 (by omega), h 1 (by omega), h 2 (by omega)⟩

/-- Those that are told, up to the k-th. -/
def some_ (p : Ent → Bool) (m : Nat) (xs : List Lay) (k : Nat) : List Lay := ((xs.take k).filter fun x => p x.e).take m

theorem some_zero (p : Ent → Bool) (m : Nat) (xs : List Lay) : some_ p m xs 0 = [] := by simp [some_]

theorem take_snoc_lt {m : Nat} (L : List Lay) (x : Lay) (h : L.length < m) : (L ++ [x]).take m = L.take m ++ [x] := by
  rw [List.take_of_length_le (l := L ++ [x]) (by simp; omega), List.take_of_length_le (l := L) (by omega)]

theorem some_yes {p : Ent → Bool} {m : Nat} {xs : List Lay} {k : Nat} (hk : k < xs.length) (hp : p xs[k].e = true) (hm : (some_ p m xs k).length < m) : some_ p m xs (k + 1) = some_ p m xs k ++ [xs[k]] := by
  unfold some_ at *
  rw [List.take_succ_eq_append_getElem hk, List.filter_append, List.filter_cons_of_pos (by simpa using hp), List.filter_nil]
  have hl : ((xs.take k).filter fun x => p x.e).length < m := by
    rw [List.length_take] at hm
    omega
  exact take_snoc_lt _ _ hl

theorem some_no {p : Ent → Bool} {m : Nat} {xs : List Lay} {k : Nat} (hk : k < xs.length) (h : p xs[k].e = false ∨ ¬ (some_ p m xs k).length < m) : some_ p m xs (k + 1) = some_ p m xs k := by
  unfold some_ at *
  rw [List.take_succ_eq_append_getElem hk, List.filter_append]
  rcases h with hp | hm
  · rw [List.filter_cons_of_neg (by simpa using hp), List.filter_nil, List.append_nil]
  · have hl : m ≤ ((xs.take k).filter fun x => p x.e).length := by
      rw [List.length_take] at hm
      omega
    rw [List.take_append_of_le_length hl]

theorem some_mem {p : Ent → Bool} {m : Nat} {xs : List Lay} {k : Nat} {x : Lay} (h : x ∈ some_ p m xs k) : x ∈ xs :=
  List.mem_of_mem_take (List.mem_filter.1 (List.mem_of_mem_take h)).1

theorem some_all (p : Ent → Bool) (m : Nat) (xs : List Lay) : (some_ p m xs xs.length).map (·.e) = ((xs.map (·.e)).filter p).take m := by
  unfold some_
  rw [List.take_length, List.map_take, List.filter_map]
  rfl

theorem some_len (p : Ent → Bool) (m : Nat) (xs : List Lay) (k : Nat) : (some_ p m xs k).length ≤ xs.length := by
  unfold some_
  have h2 := List.length_filter_le (fun x : Lay => p x.e) (xs.take k)
  have h3 : (xs.take k).length ≤ xs.length := by rw [List.length_take]; omega
  rw [List.length_take]
  omega

set_option maxRecDepth 100000 in
set_option maxHeartbeats 3200000 in
theorem fromR8_any (r : RL) (x many : Int) (Z : Nat → Prop) (A : Option Addr) (n c : Nat) (w : World) (h : Ents w Z A n c r.l) (hm : n ≤ 100000) (hZ : ∀ k, w.heap.size ≤ k → Z k) :
    Calls Try.prog 34 #[lgV r A n c, .int .i64 x, .int .i64 many] w fun e w' => ∃ A' c', e = .returned (.slice A' (r.fromL x many).length c') ∧ Ents w' Z A' (r.fromL x many).length c' (r.fromL x many) ∧ Below w.heap.size w w' := by
  have hb : Below w.heap.size w (w.alloc (.cells (lgC r A n c) 32)) := (Below.refl _ _).alloc (Nat.le_refl _) _
  have hrow := heap_alloc_new w (.cells (lgC r A n c) 32)
  have hs : w.heap.size < (w.alloc (.cells (lgC r A n c) 32)).heap.size := by simp
  have hA := atR_any r x Z A n c _ (h.below hb (Nat.le_refl _)) (by unfold maxLen; omega)
  have hll := h.1
  obtain ⟨⟨a0, a1, a2, a3⟩, _⟩ := row4 hrow
  by_cases hno : r.at_ x = none ∨ x = r.i
  · have e1 : r.fromL x many = [] := by unfold RL.fromL; rw [if_pos hno]
    rw [e1]
    clear e1
    by_cases hn : r.at_ x = none
    · rw [hn] at hA
      clear h hno hn
      go_enter Try.func34, Try.ntmps34
      go_wp2_with fail
      refine hA.mono ?_
      rintro e w1 ⟨rfl, hb1⟩
      go_wp2
      go_ret
      exact ⟨none, 0, rfl, ⟨rfl, Nat.le_refl _, fun _ => rfl, fun h => absurd h (by simp)⟩, hb.trans (hb1.mono hb.size)⟩
    · have hx : x = r.i := by
        rcases hno with h | h
        · exact absurd h hn
        · exact h
      have e2 : r.at_ x = some r.t := by unfold RL.at_; rw [if_pos hx]
      rw [e2] at hA
      subst hx
      clear h hno hn e2
      go_enter Try.func34, Try.ntmps34
      go_wp2_with fail
      refine hA.mono ?_
      rintro e w1 ⟨rfl, hb1⟩
      obtain ⟨⟨b0, b1, b2, b3⟩, _⟩ := row4 ((hb1.block _ hs).trans hrow)
      go_wp2
      go_ret
      exact ⟨none, 0, rfl, ⟨rfl, Nat.le_refl _, fun _ => rfl, fun h => absurd h (by simp)⟩, hb.trans (hb1.mono hb.size)⟩
  · have hsome : ∃ t0, r.at_ x = some t0 := by
      cases hq : r.at_ x with
      | none => exact absurd (.inl hq) hno
      | some t0 => exact ⟨t0, rfl⟩
    obtain ⟨t0, ht0⟩ := hsome
    have hxr : x ≠ r.i := fun e => hno (.inr e)
    have hx1 : (x == r.i) = false := beq_eq_false_iff_ne.2 hxr
    have hx2 : (x = r.i) = False := eq_false hxr
    obtain ⟨m, hmany⟩ : ∃ m, m = many.toNat := ⟨_, rfl⟩
    obtain ⟨xs, hxs, hok, hcell⟩ := h.lays
    have hxl : xs.length = n := by rw [← hll, ← hxs, List.length_map]
    have e1 : r.fromL x many = (some_ (fun e => decide (x ≤ e.i)) m xs xs.length).map (·.e) := by
      rw [some_all, hxs, hmany]
      unfold RL.fromL
      rw [if_neg hno]
    rw [hxl] at e1
    rw [e1, List.length_map]
    rw [ht0] at hA
    have hg0 : 0 < n → ∃ g0 off0, A = some ⟨g0, off0, none⟩ ∧ g0 < w.heap.size := fun h0 => by
      obtain ⟨g0, off0, e, hg, _⟩ := h.2.2.2 h0
      exact ⟨g0, off0, e, hg⟩
    have HXS := Lib.hid hxs
    clear e1 hno ht0 hxr h hxs hll
    go_enter Try.func34, Try.ntmps34
    go_wp2_with fail
    refine hA.mono ?_
    rintro e w1 ⟨rfl, hb1⟩
    have hrow1 := (hb1.block _ hs).trans hrow
    obtain ⟨⟨b0, b1, b2, b3⟩, _⟩ := row4 hrow1
    have hbw1 := hb.trans (hb1.mono hb.size)
    have hs1 : w.heap.size + 1 ≤ w1.heap.size := hlt hrow1
    clear hA hb1 a0 a1 a2 a3 hrow hb
    go_wp2
    go_loopg [7, 10, 29] n (fun g v s10 kk wr => ∃ k : Nat, k + g = n ∧ kk = .int .i64 (k : Int) ∧ wr.ownsRow (w.heap.size + 1) 43 3 v (some_ (fun e => decide (x ≤ e.i)) m xs k).length (rowOf (some_ (fun e => decide (x ≤ e.i)) m xs k)) ∧ Below w.heap.size w wr ∧ wr.heap[w.heap.size]? = some (.cells (lgC r A n c) 32))
    case atStart => exact ⟨0, by omega, rfl, by rw [some_zero]; exact World.ownsRow_nil _ _ _ _, hbw1, hrow1⟩
    case round =>
      clear hbw1 hrow1 b0 b1 b2 b3 hs1
      obtain ⟨k, hk, rfl, ho, hbr, hrr⟩ := hrel
      obtain ⟨⟨b0, b1, b2, b3⟩, _⟩ := row4 hrr
      obtain ⟨A', c', rfl⟩ := row_form ho
      have HK := Lib.hid hk
      by_cases hkn : k < n
      · have hkn' : (k : Int) < (n : Int) := by omega
        obtain ⟨g0, off0, rfl, hgb⟩ := hg0 (by omega)
        clear hg0
        obtain ⟨y0, y1, y2⟩ := lay_at (hcell _ rfl) k (by omega)
        have y0 := (hbr.cell (p := ⟨g0, off0 + k * 3, none⟩) hgb).trans y0
        have y1 := (hbr.cell (p := ⟨g0, off0 + k * 3 + 1, none⟩) hgb).trans y1
        have y2 := (hbr.cell (p := ⟨g0, off0 + k * 3 + 2, none⟩) hgb).trans y2
        have hyes := some_yes (p := fun e => decide (x ≤ e.i)) (m := m) (xs := xs) (k := k) (by omega)
        have hno := some_no (p := fun e => decide (x ≤ e.i)) (m := m) (xs := xs) (k := k) (by omega)
        have hsl := some_len (fun e => decide (x ≤ e.i)) m xs k
        have hone := one_cells wr (xs[k]'(by omega)) 43
        generalize (xs[k]'(by omega)) = q at *
        generalize hSK : some_ (fun e => decide (x ≤ e.i)) m xs k = ys at *
        generalize hyl : ys.length = yl at *
        by_cases hp : x ≤ q.e.i
        · have hpd : decide (x ≤ q.e.i) = true := decide_eq_true hp
          by_cases hl : yl < m
          · have hl' : (yl : Int) < many := by omega
            have hld : decide ((yl : Int) < many) = true := decide_eq_true hl'
            have HY := Lib.hid (hyes hpd hl)
            have hA2 := (Below.refl wr.heap.size wr).alloc (Nat.le_refl _) (.cells #[.int .i64 q.e.i, .int .i64 q.e.t, .slice q.A q.e.d.length q.c] 43)
            have hrr2 := (hA2.block _ (hlt hrr)).trans hrr
            have hbr2 := hbr.trans (hA2.mono hbr.size)
            have ho2 := ho.alloc (.cells #[.int .i64 q.e.i, .int .i64 q.e.t, .slice q.A q.e.d.length q.c] 43)
            have hb1 : w.heap.size + 1 ≤ wr.heap.size := hlt hrr
            have hyb : yl + 1 ≤ 1000000 := by omega
            have hdg : ∀ q', (Value.slice A' yl c').ownBlock = some q' → w.heap.size + 1 ≤ q' := fun q' e => (World.ownsRow.lt ho q' e).1
            clear hyes hno hp hl hk hsl hcell hok
            generalize hqd : q.e.d.length = qd at *
            go_wp2_with (at_builtin; refine wpList_append_ents _ rfl _ _ rfl (w.heap.size + 1) (by rw [World.size_alloc]; omega) (.slice A' yl c') yl (rowOf ys) rfl ho2 ⟨wr.heap.size, 0, none⟩ 1 1 [q] rfl rfl hone hyb ?_)
            intro v3 w3 ho3 hg3 hb3
            have hbr3 := hbr2.grown hg3 hbr2.size (fun q' e => Nat.le_of_lt (hdg q' e))
            have hrr3 := (hg3.block w.heap.size (hlt hrr2) (fun e => by have := hdg _ e.symm; omega)).trans hrr2
            rw [← rowOf_append] at ho3
            have HO3 := Lib.hid ho3
            have HB3 := Lib.hid hbr3
            have HR3 := Lib.hid hrr3
            have HYL := Lib.hid hyl
            obtain ⟨A3, c3, rfl⟩ := row_form ho3
            clear hb3 hg3 ho2 hrr2 hbr2 hA2 hbr hrr ho hone hb1 hyb hdg y0 y1 y2 ho3 hbr3 hrr3 hl' hld hpd hSK hyl
            go_wp2
            go_roundg (gk - 1)
            case measure => have : k + gk = n := HK; omega
            case rel =>
              have eY : some_ (fun e => decide (x ≤ e.i)) m xs (k + 1) = ys ++ [q] := HY
              have eL : (ys ++ [q]).length = yl + 1 := by rw [List.length_append, show ys.length = yl from HYL]; rfl
              exact ⟨k + 1, by have : k + gk = n := HK; omega, by go_num, by rw [eY, eL]; exact HO3, HB3, HR3⟩
          · have hl' : ¬ ((yl : Int) < many) := by omega
            have hld : decide ((yl : Int) < many) = false := decide_eq_false hl'
            have hle : ((yl : Int) < many) = False := eq_false hl'
            have HN := Lib.hid (hno (.inr hl))
            have HYL := Lib.hid hyl
            have HO := Lib.hid ho
            clear hyes hno hp hl hk hsl hcell hok hl' hSK hyl ho hone
            go_wp2
            go_roundg (gk - 1)
            case measure => have : k + gk = n := HK; omega
            case rel =>
              have eY : some_ (fun e => decide (x ≤ e.i)) m xs (k + 1) = ys := HN
              exact ⟨k + 1, by have : k + gk = n := HK; omega, by go_num, by rw [eY, show ys.length = yl from HYL]; exact HO, hbr, hrr⟩
        · have hpd : decide (x ≤ q.e.i) = false := decide_eq_false hp
          have hpe : (x ≤ q.e.i) = False := eq_false hp
          have HN := Lib.hid (hno (.inl hpd))
          have HYL := Lib.hid hyl
          have HO := Lib.hid ho
          clear hyes hno hp hk hsl hcell hok hSK hyl ho hone
          go_wp2
          go_roundg (gk - 1)
          case measure => have : k + gk = n := HK; omega
          case rel =>
            have eY : some_ (fun e => decide (x ≤ e.i)) m xs (k + 1) = ys := HN
            exact ⟨k + 1, by have : k + gk = n := HK; omega, by go_num, by rw [eY, show ys.length = yl from HYL]; exact HO, hbr, hrr⟩
      · obtain rfl : k = n := by omega
        have hdec : decide ((k : Int) < (k : Int)) = false := decide_eq_false (by omega)
        obtain ⟨A4, c4, e4, hE4⟩ := Ents.ofAny ho (fun q hq => hZ q (by omega)) (fun y hy => (hok y (some_mem hy)).keep hbr.size fun q hq _ => hbr.block q hq)
        have HE := Lib.hid hE4
        have HE4 := Lib.hid e4
        have HBR := Lib.hid hbr
        clear hcell hok hk hm hE4 e4 ho hbr hrr
        generalize hSK : some_ (fun e => decide (x ≤ e.i)) m xs k = ys at *
        generalize hyl : ys.length = yl at *
        have HSK := Lib.hid hSK
        have HYL := Lib.hid hyl
        clear hSK hyl
        go_wp2
        go_ret
        rw [show some_ (fun e => decide (x ≤ e.i)) m xs k = ys from HSK, show ys.length = yl from HYL]
        have e4 : Value.slice A' yl c' = Value.slice A4 yl c4 := HE4
        injection e4 with e5 e6 e7
        subst e5 e7
        exact ⟨A', c', rfl, HE, HBR⟩

end Go.Proofs.Ytlanjlboipnpfaa
