/- The document's New, by its contract. -/
import Derived.Test.YtlanjlboipnpfaaLogRefD
namespace Go.Proofs.Ytlanjlboipnpfaa
open Go.RowKit
set_option linter.unusedVariables false
set_option linter.unusedSimpArgs false

/-- 'append(x, y...)', y entries, nil or not. -/
theorem wpList_append_lays (w : World) {ops : Array Oper} {rest : List Oper} {o : Oper} {a : Act} {Q : Exit → Act → World → Prop} (hgd : o.guard = none) (sl x : Operand)
    (ho : o.op = .call { callee := .builtin .append, args := #[sl, x], argTypes := #[22, 22] })
    (base : Nat) (hbase : base ≤ w.heap.size) (v : Value) (n : Nat) (row : List Value) (hs : a.eval sl = v) (hown : w.ownsRow base 43 3 v n row) (A : Option Addr) (len cap : Nat) (xs : List Lay) (hx : a.eval x = .slice A len cap) (hl : xs.length = len)
    (hnone : A = none → cap = 0 ∧ len = 0) (hcell : ∀ b, A = some b → ∀ j u, (rowOf xs)[j]? = some u → w.cell? (b.add j) = some u) (hf : n + len ≤ 1000000)
    (h : ∀ v' w', w'.ownsRow base 43 3 v' (n + len) (row ++ rowOf xs) → w.grownBy w' v.ownBlock → (v'.ownBlock = v.ownBlock ∨ v'.ownBlock = some w.heap.size) → wpList Try.prog ops Q rest (a.put o.dst v') w') : wpList Try.prog ops Q (o :: rest) a w := by
  cases A with
  | some b => exact wpList_append_ents w hgd sl x ho base hbase v n row hs hown b len cap xs hx hl (hcell b rfl) hf h
  | none =>
    obtain ⟨rfl, rfl⟩ := hnone rfl
    obtain rfl : xs = [] := List.eq_nil_of_length_eq_zero hl
    obtain ⟨i0, hi0, hz0, hz1, hz2⟩ := info_parts info_ent
    refine wpList_plain hgd fun K hK => ?_
    have hr := run_append_owned_none (P := Try.prog) (w := w) base 22 o.type 43 i0 3 Try.underlying22 hi0 v _ _ hown
    unfold Oper.wp execOp
    simp only [ho, resolve, invoke, builtin, Sem.run_bind, Sem.run_pure, Result.andThen_ok, List.map_toArray, List.map_cons, List.map_nil, hs, hx, hr]
    exact hK _ _ (h v w (by simpa [rowOf] using hown) (World.grownBy.refl _ _) (.inl rfl))

theorem below_fill {B : Nat} {w X : World} (h : Below B w X) (b : Nat) (hb : B ≤ b) (a0 a1 a2 a3 : Value) : Below B w ((((X.setCell ⟨b, 0, none⟩ a0).setCell ⟨b, 1, none⟩ a1).setCell ⟨b, 2, none⟩ a2).setCell ⟨b, 3, none⟩ a3) :=
  (((h.setCell (by exact hb) a0).setCell (by exact hb) a1).setCell (by exact hb) a2).setCell (by exact hb) a3

theorem newR_no (i t : Int) (Z : Nat → Prop) (A : Option Addr) (n c : Nat) (ls : List Ent) (w : World) (h : Ents w Z A n c ls) (hm : n ≤ 100000) (hno : RL.base i t = false ∨ runB i t ls = false) :
    Calls Try.prog 10 #[.int .i64 i, .int .i64 t, .slice A n c] w fun e w' => e = .returned (.tuple #[.agg #[.int .i64 0, .int .i64 0, .slice none 0 0, .int .i64 0], .bool false]) ∧ Below w.heap.size w w' := by
  have hb : Below w.heap.size w (w.alloc (.cells #[.int .i64 0, .int .i64 0, .slice none 0 0, .int .i64 0] 32)) := (Below.refl _ _).alloc (Nat.le_refl _) _
  have hr := heap_alloc_new w (.cells #[.int .i64 0, .int .i64 0, .slice none 0 0, .int .i64 0] 32)
  have hB := fun W => baseR_is i t W
  have hR := runR_any Z A n c ls i t _ (h.below hb (Nat.le_refl _)) (by unfold maxLen; omega)
  generalize RL.base i t = q at *
  generalize runB i t ls = s at *
  clear h hm
  cases q with
  | false =>
    clear hno hR
    go_enter Try.func10, Try.ntmps10
    go_wp2_with fail
    refine (hB _).mono ?_
    rintro e w1 ⟨rfl, rfl⟩
    go_wp2
    refine bodyPost_ret (res_cell_tmp' (n := w.heap.size) rfl rfl hr Try.underlying32 rfl (by kernel_rfl)) rfl ?_
    exact ⟨rfl, hb⟩
  | true =>
    obtain rfl : s = false := by
      rcases hno with h | h
      · cases h
      · exact h
    clear hno
    go_enter Try.func10, Try.ntmps10
    go_wp2_with fail
    refine (hB _).mono ?_
    rintro e w1 ⟨rfl, rfl⟩
    go_wp2_with fail
    refine hR.mono ?_
    rintro e w2 ⟨rfl, hb2⟩
    have hr2 := (hb2.block _ (hlt hr)).trans hr
    obtain ⟨⟨d0, d1, d2, d3⟩, ⟨f0, f1, f2, f3⟩⟩ := row4 hr2
    have hr3 := set4_at w2 w.heap.size (.int .i64 0) (.int .i64 0) (.slice none 0 0) (.int .i64 0) _ _ _ _ _ hr2
    have hb3 := below_fill (hb.trans (hb2.mono hb.size)) w.heap.size (Nat.le_refl _) (.int .i64 0) (.int .i64 0) (.slice none 0 0) (.int .i64 0)
    clear hR hB
    go_wp2
    refine bodyPost_ret (res_cell_tmp' (n := w.heap.size) rfl rfl hr3 Try.underlying32 rfl (by kernel_rfl)) rfl ?_
    exact ⟨rfl, hb3⟩

set_option maxRecDepth 100000 in
set_option maxHeartbeats 1600000 in
theorem newR_yes (i t : Int) (Z : Nat → Prop) (A : Option Addr) (n c : Nat) (ls : List Ent) (w : World) (h : Ents w Z A n c ls) (hm : n ≤ 100000) (hZ : ∀ k, w.heap.size ≤ k → Z k) (h1 : RL.base i t = true) (h2 : runB i t ls = true) :
    Calls Try.prog 10 #[.int .i64 i, .int .i64 t, .slice A n c] w fun e w' => ∃ A' c', e = .returned (.tuple #[lgV ⟨i, t, ls, 0⟩ A' n c', .bool true]) ∧ Ents w' Z A' n c' ls ∧ Below w.heap.size w w' := by
  have hb : Below w.heap.size w (w.alloc (.cells #[.int .i64 0, .int .i64 0, .slice none 0 0, .int .i64 0] 32)) := (Below.refl _ _).alloc (Nat.le_refl _) _
  have hr := heap_alloc_new w (.cells #[.int .i64 0, .int .i64 0, .slice none 0 0, .int .i64 0] 32)
  have hB := fun W => baseR_is i t W
  have hR := runR_any Z A n c ls i t _ (h.below hb (Nat.le_refl _)) (by unfold maxLen; omega)
  rw [h1] at hB
  rw [h2] at hR
  have hll := h.1
  obtain ⟨xs, hxs, hok, hcell⟩ := h.lays
  have hxl : xs.length = n := by rw [← hll, ← hxs, List.length_map]
  have hnone : A = none → c = 0 ∧ n = 0 := fun e => by
    have h3 := h.2.2.1 e
    have h4 := h.2.1
    omega
  have hg0 : ∀ b, A = some b → ∀ j u, (rowOf xs)[j]? = some u → (b.add j).block < w.heap.size := fun b e j u hu => by
    have hj : j < (rowOf xs).length := (List.getElem?_eq_some_iff.1 hu).1
    rw [rowOf_length] at hj
    obtain ⟨g0, off0, e0, hg, _⟩ := h.2.2.2 (by omega)
    rw [e] at e0
    injection e0 with e0
    subst e0
    rw [Addr.add_lit]
    exact hg
  have HXS := Lib.hid hxs
  clear h hxs hll h1 h2
  go_enter Try.func10, Try.ntmps10
  go_wp2_with fail
  refine (hB _).mono ?_
  rintro e w1 ⟨rfl, rfl⟩
  go_wp2_with fail
  refine hR.mono ?_
  rintro e w2 ⟨rfl, hb2⟩
  have hr2 := (hb2.block _ (hlt hr)).trans hr
  have hbw2 := hb.trans (hb2.mono hb.size)
  have hs2 : w.heap.size + 1 ≤ w2.heap.size := hlt hr2
  have hA3 := (Below.refl w2.heap.size w2).alloc (Nat.le_refl _) (.cells #[] 43)
  have hbw3 := hbw2.trans (hA3.mono hbw2.size)
  have hr3 := (hA3.block _ (hlt hr2)).trans hr2
  have hcell3 : ∀ b, A = some b → ∀ j u, (rowOf xs)[j]? = some u → (w2.alloc (.cells #[] 43)).cell? (b.add j) = some u := fun b e j u hu => (hbw3.cell (hg0 b e j u hu)).trans (hcell b e j u hu)
  have hn1 : 0 + n ≤ 1000000 := by omega
  clear hR hB hb2 hr hcell hg0 hA3 hbw2
  go_wp2_with (at_builtin; refine wpList_append_lays _ rfl _ _ rfl (w.heap.size + 1) (by rw [World.size_alloc]; omega) (.slice (some ⟨w2.heap.size, 0, none⟩) 0 0) 0 [] rfl (World.ownsRow_made _ #[] 0 hs2 (Nat.zero_le _) rfl) A n c xs rfl hxl hnone hcell3 hn1 ?_)
  intro v4 w4 ho4 hg4 hb4
  have hbw4 := hbw3.grown hg4 hbw3.size (fun q e => by injection e with e; have e' : w2.heap.size = q := e; omega)
  have hr4 := (hg4.block w.heap.size (hlt hr3) (fun e => by injection e with e; have e' : w.heap.size = w2.heap.size := e; omega)).trans hr3
  rw [← hxl] at ho4
  have hE4 := Ents.ofAny (Z := fun q => (Z q ∧ q < w.heap.size) ∨ w.heap.size + 1 ≤ q) ho4 (fun q hq => .inr hq) (fun y hy => ((hok y hy).old.keep hbw4.size fun q hq _ => hbw4.block q hq).mono fun q hq => .inl hq)
  obtain ⟨A5, c5, rfl, hE5⟩ := hE4
  rw [hxl, show xs.map (·.e) = ls from HXS] at hE5
  have hfin := ents_fill hE5 (b := w.heap.size) (fun h => by rcases h with h | h <;> omega) (.int .i64 i) (.int .i64 t) (.slice A5 n c5) (.int .i64 0)
  have hE6 := hfin.mono (Z' := Z) fun q hq => hq.elim (fun h => h.1) (fun h => hZ q (by omega))
  obtain ⟨⟨d0, d1, d2, d3⟩, ⟨f0, f1, f2, f3⟩⟩ := row4 hr4
  have hr6 := set4_at w4 w.heap.size (.int .i64 i) (.int .i64 t) (.slice A5 n c5) (.int .i64 0) _ _ _ _ _ hr4
  have hb6 := below_fill hbw4 w.heap.size (Nat.le_refl _) (.int .i64 i) (.int .i64 t) (.slice A5 n c5) (.int .i64 0)
  have HE6 := Lib.hid hE6
  clear hok ho4 hg4 hb4 hbw3 hbw4 hr2 hr3 hr4 hE5 hfin hE6 hcell3 hnone
  rw [hxl]
  go_wp2
  refine bodyPost_ret (res_cell_tmp' (n := w.heap.size) rfl rfl hr6 Try.underlying32 rfl (by kernel_rfl)) rfl ?_
  exact ⟨A5, c5, rfl, HE6, hb6⟩

end Go.Proofs.Ytlanjlboipnpfaa
