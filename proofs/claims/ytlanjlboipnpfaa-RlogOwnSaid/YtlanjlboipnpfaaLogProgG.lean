/- The program's Add, by its contract. -/
import Derived.Test.YtlanjlboipnpfaaLogProgF
import Derived.Test.YtlanjlboipnpfaaLogRefF
import Derived.Deep.RegionLaw
import Derived.Deep.RegionHeld3
import Derived.Deep.Cut
import Derived.Deep.DeepCutAuto
namespace Go.Proofs.Ytlanjlboipnpfaa
open Go.RowKit
set_option linter.unusedVariables false
set_option linter.unusedSimpArgs false

/-- What appending may turn: the row alone. -/
structure Grew (w w' : World) (A : Option Addr) : Prop where
  os : w.os = w'.os
  tape : w.tape = w'.tape
  output : w.output = w'.output
  size : w.heap.size ≤ w'.heap.size
  block : ∀ q, q < w.heap.size → ¬ blk A q → w'.heap[q]? = w.heap[q]?

theorem Grew.keeps {w w' : World} {A : Option Addr} {Z : Nat → Prop} (h : Grew w w' A) (hz : ∀ q, blk A q → ¬ Z q) : Keeps Z w w' :=
  ⟨h.os.symm, h.tape.symm, h.output.symm, h.size, fun q hq hz' => h.block q hq fun hb => hz q hb hz'⟩

/-- 'append(x, y...)' onto a row that begins anywhere, at a step of a region that draws its order. -/
theorem step_append_spot (w : World) {ops : Array Oper} {o : Oper} {a : Act} {K : Act → World → Prop} {Q : Exit → Act → World → Prop} {E : Prop} (hgd : o.guard = none) (sl x : Operand)
    (ho : o.op = .call { callee := .builtin .append, args := #[sl, x], argTypes := #[22, 22] })
    (A : Option Addr) (n cap : Nat) (xs : List Lay) (hs : a.eval sl = .slice A n cap) (hsp : Spot w A n cap xs) (B : Option Addr) (m c : Nat) (ys : List Lay) (hx : a.eval x = .slice B m c) (hB : B = none → m = 0) (hl : ys.length = m)
    (hcell : ∀ b, B = some b → ∀ j u, (rowOf ys)[j]? = some u → w.cell? (b.add j) = some u) (hf : n + m ≤ 1000000)
    (h : ∀ A' cap' w', Spot w' A' (n + m) cap' (xs ++ ys) → (∀ q, blk A' q → blk A q ∨ w.heap.size ≤ q) → Grew w w' A → K (a.put o.dst (.slice A' (n + m) cap')) w') :
    if Region.wanted o (yielded ops a.tmps) = true then Oper.wp Try.prog o a w K Q else E := by
  have hw : Region.wanted o (yielded ops a.tmps) = true := by simp [Region.wanted, hgd]
  rw [if_pos hw]
  obtain ⟨A', cap', w', hr, h1, h2, h3, h4, h5, h6, h7⟩ := run_append_spot (w := w) o.type hsp B m c hB hl hcell hf
  unfold Oper.wp execOp
  simp only [ho, resolve, invoke, builtin, Sem.run_bind, Sem.run_pure, Result.andThen_ok, List.map_toArray, List.map_cons, List.map_nil, hs, hx, hr]
  exact h A' cap' w' h1 h2 ⟨h3, h4, h5, h6, h7⟩

/-- What the log is behind an entry more. -/
theorem LgAt.added {w2 w3 X w4 : World} {p : Nat} {r : RL} {s0 : Nat} {g : Int} {Z : Nat → Prop} {A A' : Option Addr} {c c' : Nat} {xs : List Lay} {x : Lay} (h : LgAt w2 p r s0 Z A c xs) (hZ : ∀ q, Z q → q < w2.heap.size)
    (hb3 : Below w2.heap.size w2 w3) (hx : LayOk w3 (fun q => w2.heap.size ≤ q) x) (hbX : Below w3.heap.size w3 X) (hsp : Spot w4 A' (r.l.length + 1) c' (xs ++ [x])) (hA : ∀ q, blk A' q → blk A q ∨ X.heap.size ≤ q) (hg : Grew X w4 A) :
    Lg (w4.setCell ⟨p, 2, none⟩ (.slice A' (r.l.length + 1) c')) p ⟨r.i, r.t, r.l ++ [x.e], g⟩ s0 Z ∧ Keeps Z w2 (w4.setCell ⟨p, 2, none⟩ (.slice A' (r.l.length + 1) c')) := by
  have hbw := hb3.trans (hbX.mono hb3.size)
  have hX := h.keep hbw.size fun q hq _ => hbw.block q hq
  have hs3 := hb3.size
  have hsX := hbX.size
  have hp2 := hlt h.row
  have hnA : ¬ blk A p := fun e => (h.own p e).1 rfl
  have hrow4 : w4.heap[p]? = some (.cells (plC r A r.l.length c s0) 63) := (hg.block p (hlt hX.row) hnA).trans hX.row
  have hrow : (w4.setCell ⟨p, 2, none⟩ (.slice A' (r.l.length + 1) c')).heap[p]? = some (.cells #[.int .i64 r.i, .int .i64 r.t, .slice A' (r.l.length + 1) c', .int .i64 (s0 : Int)] 63) := by
    have := setCell_at w4 ⟨p, 2, none⟩ (.slice A' (r.l.length + 1) c') _ _ _ rfl hrow4
    simpa using this
  have hoff : ∀ q, q ≠ p → (w4.setCell ⟨p, 2, none⟩ (.slice A' (r.l.length + 1) c')).heap[q]? = w4.heap[q]? := fun q hq => Below.heap_setCell _ _ _ _ (by exact hq)
  have hA'p : ∀ q, blk A' q → q ≠ p ∧ ¬ Z q := fun q hq => by
    rcases hA q hq with h1 | h1
    · exact h.own q h1
    · exact ⟨by omega, fun e => by have := hZ q e; omega⟩
  have hkeep : ∀ y : Lay, LayOk X (fun q => q ≠ p ∧ ¬ blk A q ∧ ¬ Z q ∧ q < X.heap.size) y → LayOk (w4.setCell ⟨p, 2, none⟩ (.slice A' (r.l.length + 1) c')) (fun q => q ≠ p ∧ ¬ blk A' q ∧ ¬ Z q) y := fun y hy => by
    refine (hy.keep (by rw [World.size_setCell]; exact hg.size) fun q hq hz => (hoff q hz.1).trans (hg.block q hq hz.2.1)).mono fun q hq => ⟨hq.1, fun e => ?_, hq.2.2.1⟩
    rcases hA q e with h1 | h1
    · exact hq.2.1 h1
    · omega
  constructor
  · refine ⟨A', c', xs ++ [x], ?_, ?_, ?_, h.away, hA'p, fun y hy => ?_⟩
    · show _ = some (Obj.cells #[.int .i64 r.i, .int .i64 r.t, .slice A' (r.l ++ [x.e]).length c', .int .i64 (s0 : Int)] 63)
      rw [List.length_append]
      exact hrow
    · show Spot _ A' (r.l ++ [x.e]).length c' _
      rw [List.length_append]
      exact hsp.keep fun q hq => hoff q (hA'p q hq).1
    · show _ = r.l ++ [x.e]
      rw [List.map_append, h.map]
      rfl
    · rcases List.mem_append.1 hy with hy | hy
      · exact hkeep y ((hX.lays y hy).old.mono fun q hq => ⟨hq.1.1, hq.1.2.1, hq.1.2.2, hq.2⟩)
      · rw [List.mem_singleton.1 hy]
        have hx3 := hx.old.keep hbX.size fun q hq _ => hbX.block q hq
        refine hkeep x (hx3.mono fun q hq => ⟨by omega, fun e => ?_, fun e => ?_, by omega⟩)
        · have := h.spot.lt e; omega
        · have := hZ q e; omega
  · have k1 := keeps_below (Z := Z) hbw (Nat.le_refl _)
    have k2 := hg.keeps (Z := Z) fun q hq => (h.own q hq).2
    exact (k1.trans k2).trans (keeps_setCell _ ⟨p, 2, none⟩ _ h.away)

theorem add_right (li lt t : Int) (d : List UInt8) : runB li lt [⟨li + 1, t, d⟩] = (rightB (li + 1) t d.length && decide (lt ≤ t)) := by
  rw [runB_cons]
  simp [runB_nil]

theorem addP_nil (t : Int) (D : Option Addr) (dn dc : Nat) (w : World) :
    Calls Try.prog 18 #[.pointer none, .int .i64 t, .slice D dn dc] w fun e w' => e = .returned (.tuple #[.agg zE, .int .i64 1]) ∧ Below w.heap.size w w' := by
  have hr := heap_alloc_new w (.cells zE 43)
  have hb : Below w.heap.size w (w.alloc (.cells zE 43)) := (Below.refl _ _).alloc (Nat.le_refl _) _
  go_enter Try.func18, Try.ntmps18
  go_wp2
  refine bodyPost_ret (res_cell_tmp' (n := w.heap.size) rfl rfl hr Try.underlying43 rfl (by kernel_rfl)) rfl ?_
  exact ⟨rfl, hb⟩

set_option maxRecDepth 100000 in
set_option maxHeartbeats 1600000 in
theorem addP_no {w : World} {p : Nat} {r : RL} {s : Nat} {A : Option Addr} {n c : Nat} (h : Rd w p r s A n c) (hm : n ≤ 1000000) (hg : Good r) (t : Int) (D : Option Addr) (dn dc : Nat) (d : List UInt8) (hdn : d.length = dn) (hno : runB r.lastI r.lastT [⟨r.lastI + 1, t, d⟩] = false) :
    Calls Try.prog 18 #[ptrV p, .int .i64 t, .slice D dn dc] w fun e w' => e = .returned (.tuple #[.agg zE, .int .i64 1]) ∧ Below w.heap.size w w' := by
  rw [add_right, hdn] at hno
  have hlim := hg.lim
  have hli := hg.lastI
  have hr := heap_alloc_new w (.cells zE 43)
  have hb : Below w.heap.size w (w.alloc (.cells zE 43)) := (Below.refl _ _).alloc (Nat.le_refl _) _
  have hL := lastP_any (h.below hb) hm
  have hR := fun i W => rightP_is i t D dn dc W
  rw [h.ents.1] at hlim hli
  generalize r.lastI = li at *
  generalize r.lastT = lt at *
  obtain ⟨J, hJJ⟩ : ∃ J, J = li + 1 := ⟨_, rfl⟩
  have hJ : wrap64 (li + 1) = J := by rw [hJJ, ← IntWalk.i64_left, IntWalk.i64_in _ (by omega)]
  rw [← hJJ] at hno
  have hR := hR J
  clear h hm hJJ hlim hli hg
  go_enter Try.func18, Try.ntmps18
  go_wp2_with fail
  refine hL.mono ?_
  rintro e w1 ⟨rfl, hb1⟩
  have hr1 := (hb1.block _ (hlt hr)).trans hr
  have hb2 := hb.trans (hb1.mono hb.size)
  have hb3 : Below w.heap.size w (w1.alloc (.cells #[.int .i64 J, .int .i64 t, .slice D dn dc] 43)) := hb2.alloc hb2.size _
  have hr3 : (w1.alloc (.cells #[.int .i64 J, .int .i64 t, .slice D dn dc] 43)).heap[w.heap.size]? = some (.cells zE 43) := (Below.heap_alloc _ _ _ (hlt hr1)).trans hr1
  have hR := hR (w1.alloc (.cells #[.int .i64 J, .int .i64 t, .slice D dn dc] 43))
  clear hL hb hr hb1 hr1 hb2
  cases hq : rightB J t dn with
  | false =>
    rw [hq] at hR
    clear hno
    go_wp2_with fail
    refine hR.mono ?_
    rintro e w4 ⟨rfl, hb4⟩
    have hr4 := (hb4.block _ (hlt hr3)).trans hr3
    obtain ⟨_, ⟨f0, f1, f2⟩⟩ := row3 hr4
    have hfin := set3_at w4 w.heap.size (.int .i64 0) (.int .i64 0) (.slice none 0 0) _ _ _ _ hr4
    have hbf := below_fill3 (hb3.trans (hb4.mono hb3.size)) w.heap.size (Nat.le_refl _) (.int .i64 0) (.int .i64 0) (.slice none 0 0)
    clear hR hb4 hb3 hr3 hr4
    go_wp2
    refine bodyPost_ret (res_cell_tmp' (n := w.heap.size) rfl rfl hfin Try.underlying43 rfl (by kernel_rfl)) rfl ?_
    exact ⟨rfl, hbf⟩
  | true =>
    rw [hq] at hR hno
    rw [Bool.true_and] at hno
    have q1 : t < lt := by have := of_decide_eq_false hno; omega
    clear hno
    go_wp2_with fail
    refine hR.mono ?_
    rintro e w4 ⟨rfl, hb4⟩
    have hr4 := (hb4.block _ (hlt hr3)).trans hr3
    obtain ⟨_, ⟨f0, f1, f2⟩⟩ := row3 hr4
    have hfin := set3_at w4 w.heap.size (.int .i64 0) (.int .i64 0) (.slice none 0 0) _ _ _ _ hr4
    have hbf := below_fill3 (hb3.trans (hb4.mono hb3.size)) w.heap.size (Nat.le_refl _) (.int .i64 0) (.int .i64 0) (.slice none 0 0)
    clear hR hb4 hb3 hr3 hr4
    go_wp2
    refine bodyPost_ret (res_cell_tmp' (n := w.heap.size) rfl rfl hfin Try.underlying43 rfl (by kernel_rfl)) rfl ?_
    exact ⟨rfl, hbf⟩

end Go.Proofs.Ytlanjlboipnpfaa
