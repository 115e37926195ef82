/- What an Add does to a log, by the program and by the document. -/
import Derived.Test.YtlanjlboipnpfaaLogDoA
import Derived.Test.YtlanjlboipnpfaaLogProgH
import Derived.Deep.RegionHeld3
namespace Go.Proofs.Ytlanjlboipnpfaa
open Go.RowKit
set_option linter.unusedVariables false
set_option linter.unusedSimpArgs false

/-- What four blocks show. -/
theorem four_rows {W : World} {g1 g2 g3 g4 : Nat} {a0 a1 a2 a3 b0 b1 b2 c0 c1 c2 d0 d1 d2 d3 : Value} {T1 T2 T3 T4 : TypeId} (h1 : W.heap[g1]? = some (.cells #[a0, a1, a2, a3] T1)) (h2 : W.heap[g2]? = some (.cells #[b0, b1, b2] T2)) (h3 : W.heap[g3]? = some (.cells #[c0, c1, c2] T3)) (h4 : W.heap[g4]? = some (.cells #[d0, d1, d2, d3] T4)) :
    W.cell? ⟨g1, 0, none⟩ = some a0 ∧ W.cell? ⟨g1, 1, none⟩ = some a1 ∧ W.cell? ⟨g1, 2, none⟩ = some a2 ∧ W.cell? ⟨g1, 3, none⟩ = some a3 ∧ W.cell? ⟨g2, 0, none⟩ = some b0 ∧ W.cell? ⟨g2, 1, none⟩ = some b1 ∧ W.cell? ⟨g2, 2, none⟩ = some b2 ∧ W.cell? ⟨g3, 0, none⟩ = some c0 ∧ W.cell? ⟨g3, 1, none⟩ = some c1 ∧ W.cell? ⟨g3, 2, none⟩ = some c2 ∧
    W.frozen? ⟨g4, 0, none⟩ = false ∧ W.frozen? ⟨g4, 1, none⟩ = false ∧ W.frozen? ⟨g4, 2, none⟩ = false ∧ W.frozen? ⟨g4, 3, none⟩ = false := by
  obtain ⟨⟨x0, x1, x2, x3⟩, _⟩ := row4 h1
  obtain ⟨⟨y0, y1, y2⟩, _⟩ := row3 h2
  obtain ⟨⟨z0, z1, z2⟩, _⟩ := row3 h3
  obtain ⟨_, ⟨f0, f1, f2, f3⟩⟩ := row4 h4
  exact ⟨x0, x1, x2, x3, y0, y1, y2, z0, z1, z2, f0, f1, f2, f3⟩

set_option maxRecDepth 100000 in
set_option maxHeartbeats 3200000 in
theorem do_add {w : World} {p : Nat} {r : RL} {s : Nat} {ZL ZE : Nat → Prop} {A : Option Addr} {n c : Nat} (hL : Lg w p r s ZL) (hg : Good r) (hs : frel r s) (hE : Ents w ZE A n c r.l) (hZ : ∀ q, ZL q → q < w.heap.size) (hZE : ∀ q, ZE q → ZL q) (hn : n ≤ 1000)
    (i t : Int) (D : Option Addr) (dn dc : Nat) (d : List UInt8) (hx : LayOk w ZE ⟨⟨r.lastI + 1, t, d⟩, D, dc⟩) (hdn : d.length = dn) (B : Option Addr) (m cB : Nat) :
    Calls Try.prog 12 #[ptrV p, lgV r A n c, .agg (actC 0 i t D dn dc B m cB)] w (DoPost w p r ZL ZE) := by
  obtain ⟨hu, hsz, hbx⟩ := boxed_all w (lgC r A n c) (actC 0 i t D dn dc B m cB)
  obtain ⟨⟨a0, a1, a2, a3, a4⟩, _⟩ := row5 hbx.act
  have hll := hE.1
  have hLu := lg_boxed hL hu
  have hEu := hE.below hu (Nat.le_refl _)
  have hlim := hg.lim
  have hli := hg.lastI
  have hxu := hx.keep hu.size fun q hq _ => hu.block q hq
  have hlr : 0 ≤ r.lastI ∧ r.lastI ≤ 1099511627776 := by omega
  cases hy : runB r.lastI r.lastT [⟨r.lastI + 1, t, d⟩] with
  | true =>
    have hP := addP_yes hLu (keptZ_lt hu hZ) (by omega) hg t D dn dc d (hxu.mono fun q hq => .inl (hZE q hq)) hdn hy
    have hR := fun w1 (hk : Keeps (keptZ w (((w.alloc (.cells (lgC r A n c) 32)).alloc (.cells (actC 0 i t D dn dc B m cB) 39)).alloc (.cells zL 32)) ZL) (((w.alloc (.cells (lgC r A n c) 32)).alloc (.cells (actC 0 i t D dn dc B m cB) 39)).alloc (.cells zL 32)) w1) w2 (hb : Below w1.heap.size w1 w2) => addR_yes r t D dn dc d (fun q => ZE q ∨ w1.heap.size ≤ q) A n c w2 (((hEu.keep hk.size fun q hq hz => hk.block q hq (.inl (hZE q hz))).mono fun q hq => .inl hq).below hb (Nat.le_refl _)) (by omega) (fun k hk => .inr (Nat.le_trans hb.size hk)) (((hxu.keep hk.size fun q hq hz => hk.block q hq (.inl (hZE q hz))).mono fun q hq => .inl hq).keep hb.size fun q hq _ => hb.block q hq) hdn hlr hy
    have hgt : Good (r.more ⟨r.lastI + 1, t, d⟩) := hg.more hy
    have hft := frel_more hg hs ⟨r.lastI + 1, t, d⟩
    have hml : (r.more ⟨r.lastI + 1, t, d⟩).l = r.l ++ [⟨r.lastI + 1, t, d⟩] := (mark_l _ _).1
    have hR : ∀ w1, Keeps _ _ w1 → ∀ w2, Below w1.heap.size w1 w2 → Calls _ _ _ w2 (fun e w' => ∃ A' c', e = .returned (.tuple #[lgV (r.more ⟨r.lastI + 1, t, d⟩) A' (n + 1) c', .agg #[.int .i64 (r.lastI + 1), .int .i64 t, .slice D dn dc], .bool true]) ∧ Ents w' (fun q => ZE q ∨ w1.heap.size ≤ q) A' (n + 1) c' (r.l ++ [⟨r.lastI + 1, t, d⟩]) ∧ Below w2.heap.size w2 w') := hR
    rw [← hml] at hR
    have hlen : (r.more ⟨r.lastI + 1, t, d⟩).l.length ≤ r.l.length + 12 := by rw [hml, List.length_append]; simp only [List.length_singleton]; omega
    generalize r.more ⟨r.lastI + 1, t, d⟩ = R at *
    generalize hJ : r.lastI + 1 = J at *
    have HJ := Lib.hid hJ
    have HXD := Lib.hid hx
    clear hL hE hll hLu hEu hml hlim hli hlr hy hJ hx hxu
    go_enter Try.func12, Try.ntmps12
    go_wp2_with fail
    generalize (((w.alloc (.cells (lgC r A n c) 32)).alloc (.cells (actC 0 i t D dn dc B m cB) 39)).alloc (.cells zL 32)) = u at *
    refine hP.mono ?_
    rintro e w1 ⟨E, k, rfl, hok1, hE1, hL1, hk1⟩
    have hA1 := (Below.refl w1.heap.size w1).alloc (Nat.le_refl _) (.cells #[.int .i64 J, .int .i64 t, .slice E dn k] 43)
    have hx1 := heap_alloc_new w1 (.cells #[.int .i64 J, .int .i64 t, .slice E dn k] 43)
    have hbx1 := (hbx.keeps hk1 fun q h1 h2 => .inr ⟨h1, by omega⟩).step hA1
    obtain ⟨⟨b0, b1, b2, b3⟩, _⟩ := row4 hbx1.box
    obtain ⟨⟨d0, d1, d2, d3, d4⟩, _⟩ := row5 hbx1.act
    have hR1 := hR w1 hk1 _ hA1
    clear hP hR hbx a0 a1 a2 a3 a4
    go_wp2_with fail
    refine hR1.mono ?_
    rintro e w2 ⟨A', c', rfl, hE2, hb2⟩
    have hA2 := (Below.refl w2.heap.size w2).alloc (Nat.le_refl _) (.cells (lgC R A' (n + 1) c') 32)
    have hA3 := hA2.alloc (by simp) (.cells #[.int .i64 J, .int .i64 t, .slice D dn dc] 43)
    have q2 := heap_alloc2_new w2 (.cells (lgC R A' (n + 1) c') 32) (.cells #[.int .i64 J, .int .i64 t, .slice D dn dc] 43)
    have q1 : ((w2.alloc (.cells (lgC R A' (n + 1) c') 32)).alloc (.cells #[.int .i64 J, .int .i64 t, .slice D dn dc] 43)).heap[w2.heap.size]? = some (.cells (lgC R A' (n + 1) c') 32) := (Below.heap_alloc _ _ _ (by simp)).trans (heap_alloc_new _ _)
    have q3 := ((hb2.trans (hA3.mono hb2.size)).block _ (hlt hx1)).trans hx1
    have hbx3 := (hbx1.step hb2).step hA3
    have hb3 : Below w1.heap.size w1 _ := (hA1.trans (hb2.mono hA1.size)).trans (hA3.mono (Nat.le_trans hA1.size hb2.size))
    have hE3 := hE2.below hA3 (Nat.le_refl _)
    have hlE := (show Lies w1 E dn k d by rw [← hdn]; exact hok1.2.1).below hb3 (Nat.le_refl _)
    have hlD := (((show Lies w D dn dc d by rw [← hdn]; exact HXD.out.2.1).below hu (Nat.le_refl _)).keeps hk1 (fun h0 q o e => .inl (hZE q (HXD.out.2.2 (by rw [hdn]; exact h0) q o e)))).below hb3 (Nat.le_refl _)
    go_upto_region 5 with fail
    generalize (w2.alloc (.cells (lgC R A' (n + 1) c') 32)).alloc (.cells #[.int .i64 J, .int .i64 t, .slice D dn dc] 43) = w3 at *
    have hrows := fun W (hW : Below w3.heap.size w3 W) => And.intro ((hW.block _ (hlt q1)).trans q1) (And.intro ((hW.block _ (hlt q2)).trans q2) (And.intro ((hW.block _ (hlt q3)).trans q3) ((hW.block _ (hlt hbx3.ans)).trans hbx3.ans)))
    have hO := fun W (hW : Below w3.heap.size w3 W) => oneR_any J t E dn k d J t D dn dc d W (hlE.below hW (Nat.le_refl _)) (hlD.below hW (Nat.le_refl _))
    rw [show oneB J t d J t d = true from oneB_refl ⟨J, t, d⟩] at hO
    have hd0 : Below w3.heap.size w3 w3.drew := (Below.refl _ _).drew
    have hS0 := four_rows (hrows _ hd0).1 (hrows _ hd0).2.1 (hrows _ hd0).2.2.1 (hrows _ hd0).2.2.2
    have hn1 : w2.heap.size ≠ w.heap.size + 2 := by have := hlt hbx1.ans; have := hb2.size; omega
    have hn2 : w2.heap.size + 1 ≠ w.heap.size + 2 := by have := hlt hbx1.ans; have := hb2.size; omega
    have hn3 : w1.heap.size ≠ w.heap.size + 2 := by have := hk1.size; omega
    clear b0 b1 b2 b3 d0 d1 d2 d3 d4 hE2 hA2 hA3 hbx1 hR1 hok1 hE1 hx1 hlE hlD
    refine wp_region_held_drew (S := (fun w' => w'.cell? ⟨w2.heap.size, 0, none⟩ = some (.int .i64 R.i) ∧ w'.cell? ⟨w2.heap.size, 1, none⟩ = some (.int .i64 R.t) ∧ w'.cell? ⟨w2.heap.size, 2, none⟩ = some (.slice A' (n + 1) c') ∧ w'.cell? ⟨w2.heap.size, 3, none⟩ = some (.int .i64 R.f) ∧ w'.cell? ⟨w2.heap.size + 1, 0, none⟩ = some (.int .i64 J) ∧ w'.cell? ⟨w2.heap.size + 1, 1, none⟩ = some (.int .i64 t) ∧ w'.cell? ⟨w2.heap.size + 1, 2, none⟩ = some (.slice D dn dc) ∧ w'.cell? ⟨w1.heap.size, 0, none⟩ = some (.int .i64 J) ∧ w'.cell? ⟨w1.heap.size, 1, none⟩ = some (.int .i64 t) ∧ w'.cell? ⟨w1.heap.size, 2, none⟩ = some (.slice E dn k) ∧ w'.frozen? ⟨w.heap.size + 2, 0, none⟩ = false ∧ w'.frozen? ⟨w.heap.size + 2, 1, none⟩ = false ∧ w'.frozen? ⟨w.heap.size + 2, 2, none⟩ = false ∧ w'.frozen? ⟨w.heap.size + 2, 3, none⟩ = false)) (by kernel_rfl) hS0 (fun hHeld => ?_)
    change wpAnyH _ _ _ _ _ 19 #[false, false, false, false, false, false, false, false, false, false, false, false, false, false, false, false, false, false, false] _ _
    refine wpAnyH_take (i := 0) (oi := { dst := some 45, op := Go.Op.load 32 (Go.Operand.tmp 10), type := 32, pos := "law.go:55", after := #[], guard := none }) (v := ?_) rfl (by kernel_rfl) (by kernel_rfl) (by kernel_rfl) (fun _ _ _ h => h) (Or.inl ⟨by rfl, ?_⟩) (by assumption) ?_
    rotate_left
    · ((intro w hSw; (try dsimp only at hSw); go_simp); (try with_reducible rfl))
    try simp only [Act.put, List.setIfInBounds_toArray, List.set_cons_zero, List.set_cons_succ]
    refine wpAnyH_take (i := 1) (oi := { dst := some 46, op := Go.Op.move (Go.Operand.tmp 9), type := 28, pos := "law.go:55", after := #[], guard := none }) (v := ?_) rfl (by kernel_rfl) (by kernel_rfl) (by kernel_rfl) (fun _ _ _ h => h) (Or.inl ⟨by rfl, ?_⟩) (by assumption) ?_
    rotate_left
    · ((intro w hSw; (try dsimp only at hSw); go_simp); (try with_reducible rfl))
    try simp only [Act.put, List.setIfInBounds_toArray, List.set_cons_zero, List.set_cons_succ]
    refine wpAnyH_take (i := 2) (oi := { dst := some 47, op := Go.Op.binOp Go.BinOp.eql 28 (Go.Operand.tmp 46) (Go.Operand.const (Go.Value.int Go.IntKind.i64 0)) 28, type := 4, pos := "law.go:55", after := #[{ on := 1, ground := Go.Ground.data }], guard := none }) (v := ?_) rfl (by kernel_rfl) (by kernel_rfl) (by kernel_rfl) (fun _ _ _ h => h) (Or.inl ⟨by rfl, ?_⟩) (by assumption) ?_
    rotate_left
    · ((intro w hSw; (try dsimp only at hSw); go_simp); (try with_reducible rfl))
    try simp only [Act.put, List.setIfInBounds_toArray, List.set_cons_zero, List.set_cons_succ]
    refine wpAnyH_take (i := 3) (oi := { dst := some 48, op := Go.Op.move (Go.Operand.tmp 12), type := 4, pos := "law.go:55", after := #[], guard := none }) (v := ?_) rfl (by kernel_rfl) (by kernel_rfl) (by kernel_rfl) (fun _ _ _ h => h) (Or.inl ⟨by rfl, ?_⟩) (by assumption) ?_
    rotate_left
    · ((intro w hSw; (try dsimp only at hSw); go_simp); (try with_reducible rfl))
    try simp only [Act.put, List.setIfInBounds_toArray, List.set_cons_zero, List.set_cons_succ]
    refine wpAnyH_take (i := 4) (oi := { dst := some 49, op := Go.Op.binOp Go.BinOp.eql 4 (Go.Operand.tmp 47) (Go.Operand.tmp 48) 4, type := 4, pos := "law.go:55", after := #[{ on := 2, ground := Go.Ground.data }, { on := 3, ground := Go.Ground.data }], guard := none }) (v := ?_) rfl (by kernel_rfl) (by kernel_rfl) (by kernel_rfl) (fun _ _ _ h => h) (Or.inl ⟨by rfl, ?_⟩) (by assumption) ?_
    rotate_left
    · ((intro w hSw; (try dsimp only at hSw); go_simp); (try with_reducible rfl))
    try simp only [Act.put, List.setIfInBounds_toArray, List.set_cons_zero, List.set_cons_succ]
    refine wpAnyH_take (i := 5) (oi := { dst := some 50, op := Go.Op.move (Go.Operand.tmp 49), type := 4, pos := "law.go:55", after := #[{ on := 4, ground := Go.Ground.data }], guard := none }) (v := ?_) rfl (by kernel_rfl) (by kernel_rfl) (by kernel_rfl) (fun _ _ _ h => h) (Or.inl ⟨by rfl, ?_⟩) (by assumption) ?_
    rotate_left
    · ((intro w hSw; (try dsimp only at hSw); go_simp); (try with_reducible rfl))
    try simp only [Act.put, List.setIfInBounds_toArray, List.set_cons_zero, List.set_cons_succ]
    refine wpAnyH_take (i := 6) (oi := { dst := some 51, op := Go.Op.move (Go.Operand.tmp 12), type := 4, pos := "law.go:55", after := #[{ on := 5, ground := Go.Ground.guard }], guard := some (5, true) }) (v := ?_) rfl (by kernel_rfl) (by kernel_rfl) (by kernel_rfl) (fun _ _ _ h => h) (Or.inl ⟨by rfl, ?_⟩) (by assumption) ?_
    rotate_left
    · ((intro w hSw; (try dsimp only at hSw); go_simp); (try with_reducible rfl))
    try simp only [Act.put, List.setIfInBounds_toArray, List.set_cons_zero, List.set_cons_succ]
    refine wpAnyH_take (i := 7) (oi := { dst := some 52, op := Go.Op.move (Go.Operand.tmp 51), type := 4, pos := "law.go:55", after := #[{ on := 6, ground := Go.Ground.data }, { on := 5, ground := Go.Ground.chain }, { on := 5, ground := Go.Ground.guard }], guard := some (5, true) }) (v := ?_) rfl (by kernel_rfl) (by kernel_rfl) (by kernel_rfl) (fun _ _ _ h => h) (Or.inl ⟨by rfl, ?_⟩) (by assumption) ?_
    rotate_left
    · ((intro w hSw; (try dsimp only at hSw); go_simp); (try with_reducible rfl))
    try simp only [Act.put, List.setIfInBounds_toArray, List.set_cons_zero, List.set_cons_succ]
    refine wpAnyH_take (i := 8) (oi := { dst := some 53, op := Go.Op.move (Go.Operand.tmp 9), type := 28, pos := "law.go:55", after := #[{ on := 7, ground := Go.Ground.guard }], guard := some (7, false) }) (v := undef) rfl (by kernel_rfl) (by kernel_rfl) (by kernel_rfl) (fun _ _ _ h => h) (Or.inr ⟨by rfl, rfl⟩) (by assumption) ?_
    try simp only [Act.put, List.setIfInBounds_toArray, List.set_cons_zero, List.set_cons_succ]
    refine wpAnyH_take (i := 9) (oi := { dst := some 54, op := Go.Op.binOp Go.BinOp.eql 28 (Go.Operand.tmp 53) (Go.Operand.const (Go.Value.int Go.IntKind.i64 1)) 28, type := 4, pos := "law.go:55", after := #[{ on := 8, ground := Go.Ground.data }, { on := 7, ground := Go.Ground.guard }], guard := some (7, false) }) (v := undef) rfl (by kernel_rfl) (by kernel_rfl) (by kernel_rfl) (fun _ _ _ h => h) (Or.inr ⟨by rfl, rfl⟩) (by assumption) ?_
    try simp only [Act.put, List.setIfInBounds_toArray, List.set_cons_zero, List.set_cons_succ]
    refine wpAnyH_take (i := 10) (oi := { dst := some 55, op := Go.Op.pick (Go.Operand.tmp 52) (Go.Operand.const (Go.Value.bool true)) (Go.Operand.tmp 54), type := 4, pos := "law.go:55", after := #[{ on := 7, ground := Go.Ground.data }, { on := 9, ground := Go.Ground.data }, { on := 5, ground := Go.Ground.guard }], guard := some (5, true) }) (v := ?_) rfl (by kernel_rfl) (by kernel_rfl) (by kernel_rfl) (fun _ _ _ h => h) (Or.inl ⟨by rfl, ?_⟩) (by assumption) ?_
    rotate_left
    · ((intro w hSw; (try dsimp only at hSw); go_simp); (try with_reducible rfl))
    try simp only [Act.put, List.setIfInBounds_toArray, List.set_cons_zero, List.set_cons_succ]
    refine wpAnyH_take (i := 11) (oi := { dst := some 56, op := Go.Op.pick (Go.Operand.tmp 50) (Go.Operand.tmp 55) (Go.Operand.const (Go.Value.bool false)), type := 4, pos := "law.go:55", after := #[{ on := 5, ground := Go.Ground.data }, { on := 10, ground := Go.Ground.data }], guard := none }) (v := ?_) rfl (by kernel_rfl) (by kernel_rfl) (by kernel_rfl) (fun _ _ _ h => h) (Or.inl ⟨by rfl, ?_⟩) (by assumption) ?_
    rotate_left
    · ((intro w hSw; (try dsimp only at hSw); go_simp); (try with_reducible rfl))
    try simp only [Act.put, List.setIfInBounds_toArray, List.set_cons_zero, List.set_cons_succ]
    refine wpAnyH_take (i := 12) (oi := { dst := some 57, op := Go.Op.move (Go.Operand.tmp 56), type := 4, pos := "law.go:55", after := #[{ on := 11, ground := Go.Ground.data }, { on := 7, ground := Go.Ground.chain }], guard := none }) (v := ?_) rfl (by kernel_rfl) (by kernel_rfl) (by kernel_rfl) (fun _ _ _ h => h) (Or.inl ⟨by rfl, ?_⟩) (by assumption) ?_
    rotate_left
    · ((intro w hSw; (try dsimp only at hSw); go_simp); (try with_reducible rfl))
    try simp only [Act.put, List.setIfInBounds_toArray, List.set_cons_zero, List.set_cons_succ]
    refine wpAnyH_take (i := 13) (oi := { dst := some 58, op := Go.Op.load 43 (Go.Operand.tmp 8), type := 43, pos := "law.go:55", after := #[{ on := 12, ground := Go.Ground.guard }], guard := some (12, true) }) (v := ?_) rfl (by kernel_rfl) (by kernel_rfl) (by kernel_rfl) (fun _ _ _ h => h) (Or.inl ⟨by rfl, ?_⟩) (by assumption) ?_
    rotate_left
    · ((intro w hSw; (try dsimp only at hSw); go_simp); (try with_reducible rfl))
    try simp only [Act.put, List.setIfInBounds_toArray, List.set_cons_zero, List.set_cons_succ]
    refine wpAnyH_take (i := 14) (oi := { dst := some 59, op := Go.Op.load 43 (Go.Operand.tmp 11), type := 43, pos := "law.go:55", after := #[{ on := 12, ground := Go.Ground.guard }], guard := some (12, true) }) (v := ?_) rfl (by kernel_rfl) (by kernel_rfl) (by kernel_rfl) (fun _ _ _ h => h) (Or.inl ⟨by rfl, ?_⟩) (by assumption) ?_
    rotate_left
    · ((intro w hSw; (try dsimp only at hSw); go_simp); (try with_reducible rfl))
    try simp only [Act.put, List.setIfInBounds_toArray, List.set_cons_zero, List.set_cons_succ]
    refine wpAnyH_ready (rs := [15]) (by kernel_rfl) (by simp) ?_
    refine AllReadyH.cons rfl (fun K hK => ?_) AllReadyH.nil
    go_simp
    refine (hO _ hd0).mono ?_
    rintro e w4 ⟨rfl, hb4⟩
    have hz : Below w3.heap.size w3 w4 := hd0.trans hb4
    have hS4 := four_rows (hrows _ hz).1 (hrows _ hz).2.1 (hrows _ hz).2.2.1 (hrows _ hz).2.2.2
    obtain ⟨_, ⟨f0, f1, f2, f3⟩⟩ := row4 (hrows _ hz).2.2.2
    have hfin := set4_at w4 (w.heap.size + 2) (.int .i64 R.i) (.int .i64 R.t) (.slice A' (n + 1) c') (.int .i64 R.f) _ _ _ _ _ (hrows _ hz).2.2.2
    have hS5 := four_rows ((fill_off w4 (w.heap.size + 2) (.int .i64 R.i) (.int .i64 R.t) (.slice A' (n + 1) c') (.int .i64 R.f) _ hn1).trans (hrows _ hz).1) ((fill_off w4 (w.heap.size + 2) (.int .i64 R.i) (.int .i64 R.t) (.slice A' (n + 1) c') (.int .i64 R.f) _ hn2).trans (hrows _ hz).2.1) ((fill_off w4 (w.heap.size + 2) (.int .i64 R.i) (.int .i64 R.t) (.slice A' (n + 1) c') (.int .i64 R.f) _ hn3).trans (hrows _ hz).2.2.1) hfin
    refine hK.out _ _ hS4 (fun hHeld6 => ?_)
    clear hK K hHeld
    try simp only [Act.put, List.setIfInBounds_toArray, List.set_cons_zero, List.set_cons_succ]
    refine wpAnyH_take (i := 16) (oi := { dst := some 61, op := Go.Op.pick (Go.Operand.tmp 57) (Go.Operand.tmp 60) (Go.Operand.const (Go.Value.bool false)), type := 4, pos := "law.go:55", after := #[{ on := 12, ground := Go.Ground.data }, { on := 15, ground := Go.Ground.data }, { on := 17, ground := Go.Ground.gcOnly Go.Departure.lateStores }], guard := none }) (v := ?_) rfl (by kernel_rfl) (by kernel_rfl) (by kernel_rfl) (fun _ _ _ h => h) (Or.inl ⟨by rfl, ?_⟩) (by assumption) ?_
    rotate_left
    · ((intro w hSw; (try dsimp only at hSw); go_simp); (try with_reducible rfl))
    try simp only [Act.put, List.setIfInBounds_toArray, List.set_cons_zero, List.set_cons_succ]
    refine wpAnyH_ready (rs := [17]) (by kernel_rfl) (by simp) ?_
    refine AllReadyH.cons rfl (fun K hK => ?_) AllReadyH.nil
    go_simp
    refine hK.out _ _ hS5 (fun hHeld7 => ?_)
    clear hK K hHeld6
    try simp only [Act.put, List.setIfInBounds_toArray, List.set_cons_zero, List.set_cons_succ]
    refine wpAnyH_take (i := 18) (oi := { dst := some 7, op := Go.Op.assign (Go.Operand.tmp 61), type := 4, pos := "law.go:55", after := #[{ on := 16, ground := Go.Ground.data }, { on := 17, ground := Go.Ground.chain }, { on := 0, ground := Go.Ground.phase }, { on := 1, ground := Go.Ground.phase }, { on := 2, ground := Go.Ground.phase }, { on := 3, ground := Go.Ground.phase }, { on := 4, ground := Go.Ground.phase }, { on := 5, ground := Go.Ground.phase }, { on := 6, ground := Go.Ground.phase }, { on := 7, ground := Go.Ground.phase }, { on := 8, ground := Go.Ground.phase }, { on := 9, ground := Go.Ground.phase }, { on := 10, ground := Go.Ground.phase }, { on := 11, ground := Go.Ground.phase }, { on := 12, ground := Go.Ground.phase }, { on := 13, ground := Go.Ground.phase }, { on := 14, ground := Go.Ground.phase }, { on := 15, ground := Go.Ground.phase }, { on := 16, ground := Go.Ground.phase }, { on := 17, ground := Go.Ground.phase }], guard := none }) (v := ?_) rfl (by kernel_rfl) (by kernel_rfl) (by kernel_rfl) (fun _ _ _ h => h) (Or.inl ⟨by rfl, ?_⟩) (by assumption) ?_
    rotate_left
    · ((intro w hSw; (try dsimp only at hSw); go_simp); (try with_reducible rfl))
    try simp only [Act.put, List.setIfInBounds_toArray, List.set_cons_zero, List.set_cons_succ]
    refine wpAnyH_done (by kernel_rfl) ?_ _
    have hend := do_end (r := r) hu hsz hZ hZE hk1 (hL1.mono fun q hq => .inl hq) hgt hft (hb3.trans (hz.mono hb3.size)) (hE3.below hz (Nat.le_refl _)) (keeps_fill (.int .i64 R.i) (.int .i64 R.t) (.slice A' (n + 1) c') (.int .i64 R.f)) hlen _ rfl
    have HE := Lib.hid hend
    clear hend hL1 hft hk1 hE3 hb3 hb2 hgt hs hu hS0 hS4 hS5 hrows hO q1 q2 q3
    go_wp2
    refine bodyPost_ret (res_cell_tmp' (n := w.heap.size + 2) rfl rfl hfin Try.underlying32 rfl (by kernel_rfl)) rfl ?_
    exact HE.out
  | false =>
    obtain ⟨A0, c0, hrd⟩ := hLu.rd
    have hP := addP_no hrd (by omega) hg t D dn dc d hdn hy
    have hR := fun w1 (hb : Below (((w.alloc (.cells (lgC r A n c) 32)).alloc (.cells (actC 0 i t D dn dc B m cB) 39)).alloc (.cells zL 32)).heap.size (((w.alloc (.cells (lgC r A n c) 32)).alloc (.cells (actC 0 i t D dn dc B m cB) 39)).alloc (.cells zL 32)) w1) w2 (hb2 : Below w1.heap.size w1 w2) => addR_no r t D dn dc d (fun q => ZE q ∨ w1.heap.size ≤ q) A n c w2 (((hEu.below hb (Nat.le_refl _)).mono fun q hq => .inl hq).below hb2 (Nat.le_refl _)) (by omega) (fun k hk => .inr (Nat.le_trans hb2.size hk)) (((hxu.keep hb.size fun q hq _ => hb.block q hq).mono fun q hq => .inl hq).keep hb2.size fun q hq _ => hb2.block q hq) hdn hlr hy
    clear hL hE hll hlim hli hlr hy hx hxu hrd
    go_enter Try.func12, Try.ntmps12
    go_wp2_with fail
    generalize (((w.alloc (.cells (lgC r A n c) 32)).alloc (.cells (actC 0 i t D dn dc B m cB) 39)).alloc (.cells zL 32)) = u at *
    refine hP.mono ?_
    rintro e w1 ⟨rfl, hb1⟩
    have hk1 : Keeps (keptZ w u ZL) u w1 := keeps_below hb1 (Nat.le_refl _)
    have hL1 := hLu.below hb1
    have hE2 := (hEu.below hb1 (Nat.le_refl _)).mono (Z' := fun q => ZE q ∨ w1.heap.size ≤ q) fun q hq => .inl hq
    have hA1 := (Below.refl w1.heap.size w1).alloc (Nat.le_refl _) (.cells zE 43)
    have hx1 := heap_alloc_new w1 (.cells zE 43)
    have hbx1 := (hbx.step hb1).step hA1
    obtain ⟨⟨b0, b1, b2, b3⟩, _⟩ := row4 hbx1.box
    obtain ⟨⟨d0, d1, d2, d3, d4⟩, _⟩ := row5 hbx1.act
    have hR1 := hR w1 hb1 _ hA1
    clear hP hR hbx a0 a1 a2 a3 a4 hLu hEu hb1
    go_wp2_with fail
    refine hR1.mono ?_
    rintro e w2 ⟨rfl, hb2⟩
    have hE2 := hE2.below (hA1.trans (hb2.mono hA1.size)) (Nat.le_refl _)
    have hA2 := (Below.refl w2.heap.size w2).alloc (Nat.le_refl _) (.cells (lgC r A n c) 32)
    have hA3 := hA2.alloc (by simp) (.cells zE 43)
    have q2 := heap_alloc2_new w2 (.cells (lgC r A n c) 32) (.cells zE 43)
    have q1 : ((w2.alloc (.cells (lgC r A n c) 32)).alloc (.cells zE 43)).heap[w2.heap.size]? = some (.cells (lgC r A n c) 32) := (Below.heap_alloc _ _ _ (by simp)).trans (heap_alloc_new _ _)
    have q3 := ((hb2.trans (hA3.mono hb2.size)).block _ (hlt hx1)).trans hx1
    have hbx3 := (hbx1.step hb2).step hA3
    have hb3 : Below w1.heap.size w1 _ := (hA1.trans (hb2.mono hA1.size)).trans (hA3.mono (Nat.le_trans hA1.size hb2.size))
    have hE3 := hE2.below hA3 (Nat.le_refl _)
    go_upto_region 5 with fail
    generalize (w2.alloc (.cells (lgC r A n c) 32)).alloc (.cells zE 43) = w3 at *
    have hrows := fun W (hW : Below w3.heap.size w3 W) => And.intro ((hW.block _ (hlt q1)).trans q1) (And.intro ((hW.block _ (hlt q2)).trans q2) (And.intro ((hW.block _ (hlt q3)).trans q3) ((hW.block _ (hlt hbx3.ans)).trans hbx3.ans)))
    have hO := fun W (hW : Below w3.heap.size w3 W) => oneR_any 0 0 none 0 0 [] 0 0 none 0 0 [] W (Lies.nil W) (Lies.nil W)
    rw [show oneB 0 0 [] 0 0 [] = true from oneB_refl ⟨0, 0, []⟩] at hO
    have hd0 : Below w3.heap.size w3 w3.drew := (Below.refl _ _).drew
    have hS0 := four_rows (hrows _ hd0).1 (hrows _ hd0).2.1 (hrows _ hd0).2.2.1 (hrows _ hd0).2.2.2
    have hn1 : w2.heap.size ≠ w.heap.size + 2 := by have := hlt hbx1.ans; have := hb2.size; omega
    have hn2 : w2.heap.size + 1 ≠ w.heap.size + 2 := by have := hlt hbx1.ans; have := hb2.size; omega
    have hn3 : w1.heap.size ≠ w.heap.size + 2 := by have := hk1.size; omega
    clear b0 b1 b2 b3 d0 d1 d2 d3 d4 hE2 hA2 hA3 hbx1 hR1 hx1
    refine wp_region_held_drew (S := (fun w' => w'.cell? ⟨w2.heap.size, 0, none⟩ = some (.int .i64 r.i) ∧ w'.cell? ⟨w2.heap.size, 1, none⟩ = some (.int .i64 r.t) ∧ w'.cell? ⟨w2.heap.size, 2, none⟩ = some (.slice A n c) ∧ w'.cell? ⟨w2.heap.size, 3, none⟩ = some (.int .i64 r.f) ∧ w'.cell? ⟨w2.heap.size + 1, 0, none⟩ = some (.int .i64 0) ∧ w'.cell? ⟨w2.heap.size + 1, 1, none⟩ = some (.int .i64 0) ∧ w'.cell? ⟨w2.heap.size + 1, 2, none⟩ = some (.slice none 0 0) ∧ w'.cell? ⟨w1.heap.size, 0, none⟩ = some (.int .i64 0) ∧ w'.cell? ⟨w1.heap.size, 1, none⟩ = some (.int .i64 0) ∧ w'.cell? ⟨w1.heap.size, 2, none⟩ = some (.slice none 0 0) ∧ w'.frozen? ⟨w.heap.size + 2, 0, none⟩ = false ∧ w'.frozen? ⟨w.heap.size + 2, 1, none⟩ = false ∧ w'.frozen? ⟨w.heap.size + 2, 2, none⟩ = false ∧ w'.frozen? ⟨w.heap.size + 2, 3, none⟩ = false)) (by kernel_rfl) hS0 (fun hHeld => ?_)
    change wpAnyH _ _ _ _ _ 19 #[false, false, false, false, false, false, false, false, false, false, false, false, false, false, false, false, false, false, false] _ _
    refine wpAnyH_take (i := 0) (oi := { dst := some 45, op := Go.Op.load 32 (Go.Operand.tmp 10), type := 32, pos := "law.go:55", after := #[], guard := none }) (v := ?_) rfl (by kernel_rfl) (by kernel_rfl) (by kernel_rfl) (fun _ _ _ h => h) (Or.inl ⟨by rfl, ?_⟩) (by assumption) ?_
    rotate_left
    · ((intro w hSw; (try dsimp only at hSw); go_simp); (try with_reducible rfl))
    try simp only [Act.put, List.setIfInBounds_toArray, List.set_cons_zero, List.set_cons_succ]
    refine wpAnyH_take (i := 1) (oi := { dst := some 46, op := Go.Op.move (Go.Operand.tmp 9), type := 28, pos := "law.go:55", after := #[], guard := none }) (v := ?_) rfl (by kernel_rfl) (by kernel_rfl) (by kernel_rfl) (fun _ _ _ h => h) (Or.inl ⟨by rfl, ?_⟩) (by assumption) ?_
    rotate_left
    · ((intro w hSw; (try dsimp only at hSw); go_simp); (try with_reducible rfl))
    try simp only [Act.put, List.setIfInBounds_toArray, List.set_cons_zero, List.set_cons_succ]
    refine wpAnyH_take (i := 2) (oi := { dst := some 47, op := Go.Op.binOp Go.BinOp.eql 28 (Go.Operand.tmp 46) (Go.Operand.const (Go.Value.int Go.IntKind.i64 0)) 28, type := 4, pos := "law.go:55", after := #[{ on := 1, ground := Go.Ground.data }], guard := none }) (v := ?_) rfl (by kernel_rfl) (by kernel_rfl) (by kernel_rfl) (fun _ _ _ h => h) (Or.inl ⟨by rfl, ?_⟩) (by assumption) ?_
    rotate_left
    · ((intro w hSw; (try dsimp only at hSw); go_simp); (try with_reducible rfl))
    try simp only [Act.put, List.setIfInBounds_toArray, List.set_cons_zero, List.set_cons_succ]
    refine wpAnyH_take (i := 3) (oi := { dst := some 48, op := Go.Op.move (Go.Operand.tmp 12), type := 4, pos := "law.go:55", after := #[], guard := none }) (v := ?_) rfl (by kernel_rfl) (by kernel_rfl) (by kernel_rfl) (fun _ _ _ h => h) (Or.inl ⟨by rfl, ?_⟩) (by assumption) ?_
    rotate_left
    · ((intro w hSw; (try dsimp only at hSw); go_simp); (try with_reducible rfl))
    try simp only [Act.put, List.setIfInBounds_toArray, List.set_cons_zero, List.set_cons_succ]
    refine wpAnyH_take (i := 4) (oi := { dst := some 49, op := Go.Op.binOp Go.BinOp.eql 4 (Go.Operand.tmp 47) (Go.Operand.tmp 48) 4, type := 4, pos := "law.go:55", after := #[{ on := 2, ground := Go.Ground.data }, { on := 3, ground := Go.Ground.data }], guard := none }) (v := ?_) rfl (by kernel_rfl) (by kernel_rfl) (by kernel_rfl) (fun _ _ _ h => h) (Or.inl ⟨by rfl, ?_⟩) (by assumption) ?_
    rotate_left
    · ((intro w hSw; (try dsimp only at hSw); go_simp); (try with_reducible rfl))
    try simp only [Act.put, List.setIfInBounds_toArray, List.set_cons_zero, List.set_cons_succ]
    refine wpAnyH_take (i := 5) (oi := { dst := some 50, op := Go.Op.move (Go.Operand.tmp 49), type := 4, pos := "law.go:55", after := #[{ on := 4, ground := Go.Ground.data }], guard := none }) (v := ?_) rfl (by kernel_rfl) (by kernel_rfl) (by kernel_rfl) (fun _ _ _ h => h) (Or.inl ⟨by rfl, ?_⟩) (by assumption) ?_
    rotate_left
    · ((intro w hSw; (try dsimp only at hSw); go_simp); (try with_reducible rfl))
    try simp only [Act.put, List.setIfInBounds_toArray, List.set_cons_zero, List.set_cons_succ]
    refine wpAnyH_take (i := 6) (oi := { dst := some 51, op := Go.Op.move (Go.Operand.tmp 12), type := 4, pos := "law.go:55", after := #[{ on := 5, ground := Go.Ground.guard }], guard := some (5, true) }) (v := ?_) rfl (by kernel_rfl) (by kernel_rfl) (by kernel_rfl) (fun _ _ _ h => h) (Or.inl ⟨by rfl, ?_⟩) (by assumption) ?_
    rotate_left
    · ((intro w hSw; (try dsimp only at hSw); go_simp); (try with_reducible rfl))
    try simp only [Act.put, List.setIfInBounds_toArray, List.set_cons_zero, List.set_cons_succ]
    refine wpAnyH_take (i := 7) (oi := { dst := some 52, op := Go.Op.move (Go.Operand.tmp 51), type := 4, pos := "law.go:55", after := #[{ on := 6, ground := Go.Ground.data }, { on := 5, ground := Go.Ground.chain }, { on := 5, ground := Go.Ground.guard }], guard := some (5, true) }) (v := ?_) rfl (by kernel_rfl) (by kernel_rfl) (by kernel_rfl) (fun _ _ _ h => h) (Or.inl ⟨by rfl, ?_⟩) (by assumption) ?_
    rotate_left
    · ((intro w hSw; (try dsimp only at hSw); go_simp); (try with_reducible rfl))
    try simp only [Act.put, List.setIfInBounds_toArray, List.set_cons_zero, List.set_cons_succ]
    refine wpAnyH_take (i := 8) (oi := { dst := some 53, op := Go.Op.move (Go.Operand.tmp 9), type := 28, pos := "law.go:55", after := #[{ on := 7, ground := Go.Ground.guard }], guard := some (7, false) }) (v := ?_) rfl (by kernel_rfl) (by kernel_rfl) (by kernel_rfl) (fun _ _ _ h => h) (Or.inl ⟨by rfl, ?_⟩) (by assumption) ?_
    rotate_left
    · ((intro w hSw; (try dsimp only at hSw); go_simp); (try with_reducible rfl))
    try simp only [Act.put, List.setIfInBounds_toArray, List.set_cons_zero, List.set_cons_succ]
    refine wpAnyH_take (i := 9) (oi := { dst := some 54, op := Go.Op.binOp Go.BinOp.eql 28 (Go.Operand.tmp 53) (Go.Operand.const (Go.Value.int Go.IntKind.i64 1)) 28, type := 4, pos := "law.go:55", after := #[{ on := 8, ground := Go.Ground.data }, { on := 7, ground := Go.Ground.guard }], guard := some (7, false) }) (v := ?_) rfl (by kernel_rfl) (by kernel_rfl) (by kernel_rfl) (fun _ _ _ h => h) (Or.inl ⟨by rfl, ?_⟩) (by assumption) ?_
    rotate_left
    · ((intro w hSw; (try dsimp only at hSw); go_simp); (try with_reducible rfl))
    try simp only [Act.put, List.setIfInBounds_toArray, List.set_cons_zero, List.set_cons_succ]
    refine wpAnyH_take (i := 10) (oi := { dst := some 55, op := Go.Op.pick (Go.Operand.tmp 52) (Go.Operand.const (Go.Value.bool true)) (Go.Operand.tmp 54), type := 4, pos := "law.go:55", after := #[{ on := 7, ground := Go.Ground.data }, { on := 9, ground := Go.Ground.data }, { on := 5, ground := Go.Ground.guard }], guard := some (5, true) }) (v := ?_) rfl (by kernel_rfl) (by kernel_rfl) (by kernel_rfl) (fun _ _ _ h => h) (Or.inl ⟨by rfl, ?_⟩) (by assumption) ?_
    rotate_left
    · ((intro w hSw; (try dsimp only at hSw); go_simp); (try with_reducible rfl))
    try simp only [Act.put, List.setIfInBounds_toArray, List.set_cons_zero, List.set_cons_succ]
    refine wpAnyH_take (i := 11) (oi := { dst := some 56, op := Go.Op.pick (Go.Operand.tmp 50) (Go.Operand.tmp 55) (Go.Operand.const (Go.Value.bool false)), type := 4, pos := "law.go:55", after := #[{ on := 5, ground := Go.Ground.data }, { on := 10, ground := Go.Ground.data }], guard := none }) (v := ?_) rfl (by kernel_rfl) (by kernel_rfl) (by kernel_rfl) (fun _ _ _ h => h) (Or.inl ⟨by rfl, ?_⟩) (by assumption) ?_
    rotate_left
    · ((intro w hSw; (try dsimp only at hSw); go_simp); (try with_reducible rfl))
    try simp only [Act.put, List.setIfInBounds_toArray, List.set_cons_zero, List.set_cons_succ]
    refine wpAnyH_take (i := 12) (oi := { dst := some 57, op := Go.Op.move (Go.Operand.tmp 56), type := 4, pos := "law.go:55", after := #[{ on := 11, ground := Go.Ground.data }, { on := 7, ground := Go.Ground.chain }], guard := none }) (v := ?_) rfl (by kernel_rfl) (by kernel_rfl) (by kernel_rfl) (fun _ _ _ h => h) (Or.inl ⟨by rfl, ?_⟩) (by assumption) ?_
    rotate_left
    · ((intro w hSw; (try dsimp only at hSw); go_simp); (try with_reducible rfl))
    try simp only [Act.put, List.setIfInBounds_toArray, List.set_cons_zero, List.set_cons_succ]
    refine wpAnyH_take (i := 13) (oi := { dst := some 58, op := Go.Op.load 43 (Go.Operand.tmp 8), type := 43, pos := "law.go:55", after := #[{ on := 12, ground := Go.Ground.guard }], guard := some (12, true) }) (v := ?_) rfl (by kernel_rfl) (by kernel_rfl) (by kernel_rfl) (fun _ _ _ h => h) (Or.inl ⟨by rfl, ?_⟩) (by assumption) ?_
    rotate_left
    · ((intro w hSw; (try dsimp only at hSw); go_simp); (try with_reducible rfl))
    try simp only [Act.put, List.setIfInBounds_toArray, List.set_cons_zero, List.set_cons_succ]
    refine wpAnyH_take (i := 14) (oi := { dst := some 59, op := Go.Op.load 43 (Go.Operand.tmp 11), type := 43, pos := "law.go:55", after := #[{ on := 12, ground := Go.Ground.guard }], guard := some (12, true) }) (v := ?_) rfl (by kernel_rfl) (by kernel_rfl) (by kernel_rfl) (fun _ _ _ h => h) (Or.inl ⟨by rfl, ?_⟩) (by assumption) ?_
    rotate_left
    · ((intro w hSw; (try dsimp only at hSw); go_simp); (try with_reducible rfl))
    try simp only [Act.put, List.setIfInBounds_toArray, List.set_cons_zero, List.set_cons_succ]
    refine wpAnyH_ready (rs := [15]) (by kernel_rfl) (by simp) ?_
    refine AllReadyH.cons rfl (fun K hK => ?_) AllReadyH.nil
    go_simp
    refine (hO _ hd0).mono ?_
    rintro e w4 ⟨rfl, hb4⟩
    have hz : Below w3.heap.size w3 w4 := hd0.trans hb4
    have hS4 := four_rows (hrows _ hz).1 (hrows _ hz).2.1 (hrows _ hz).2.2.1 (hrows _ hz).2.2.2
    obtain ⟨_, ⟨f0, f1, f2, f3⟩⟩ := row4 (hrows _ hz).2.2.2
    have hfin := set4_at w4 (w.heap.size + 2) (.int .i64 r.i) (.int .i64 r.t) (.slice A n c) (.int .i64 r.f) _ _ _ _ _ (hrows _ hz).2.2.2
    have hS5 := four_rows ((fill_off w4 (w.heap.size + 2) (.int .i64 r.i) (.int .i64 r.t) (.slice A n c) (.int .i64 r.f) _ hn1).trans (hrows _ hz).1) ((fill_off w4 (w.heap.size + 2) (.int .i64 r.i) (.int .i64 r.t) (.slice A n c) (.int .i64 r.f) _ hn2).trans (hrows _ hz).2.1) ((fill_off w4 (w.heap.size + 2) (.int .i64 r.i) (.int .i64 r.t) (.slice A n c) (.int .i64 r.f) _ hn3).trans (hrows _ hz).2.2.1) hfin
    refine hK.out _ _ hS4 (fun hHeld6 => ?_)
    clear hK K hHeld
    try simp only [Act.put, List.setIfInBounds_toArray, List.set_cons_zero, List.set_cons_succ]
    refine wpAnyH_take (i := 16) (oi := { dst := some 61, op := Go.Op.pick (Go.Operand.tmp 57) (Go.Operand.tmp 60) (Go.Operand.const (Go.Value.bool false)), type := 4, pos := "law.go:55", after := #[{ on := 12, ground := Go.Ground.data }, { on := 15, ground := Go.Ground.data }, { on := 17, ground := Go.Ground.gcOnly Go.Departure.lateStores }], guard := none }) (v := ?_) rfl (by kernel_rfl) (by kernel_rfl) (by kernel_rfl) (fun _ _ _ h => h) (Or.inl ⟨by rfl, ?_⟩) (by assumption) ?_
    rotate_left
    · ((intro w hSw; (try dsimp only at hSw); go_simp); (try with_reducible rfl))
    try simp only [Act.put, List.setIfInBounds_toArray, List.set_cons_zero, List.set_cons_succ]
    refine wpAnyH_ready (rs := [17]) (by kernel_rfl) (by simp) ?_
    refine AllReadyH.cons rfl (fun K hK => ?_) AllReadyH.nil
    go_simp
    refine hK.out _ _ hS5 (fun hHeld7 => ?_)
    clear hK K hHeld6
    try simp only [Act.put, List.setIfInBounds_toArray, List.set_cons_zero, List.set_cons_succ]
    refine wpAnyH_take (i := 18) (oi := { dst := some 7, op := Go.Op.assign (Go.Operand.tmp 61), type := 4, pos := "law.go:55", after := #[{ on := 16, ground := Go.Ground.data }, { on := 17, ground := Go.Ground.chain }, { on := 0, ground := Go.Ground.phase }, { on := 1, ground := Go.Ground.phase }, { on := 2, ground := Go.Ground.phase }, { on := 3, ground := Go.Ground.phase }, { on := 4, ground := Go.Ground.phase }, { on := 5, ground := Go.Ground.phase }, { on := 6, ground := Go.Ground.phase }, { on := 7, ground := Go.Ground.phase }, { on := 8, ground := Go.Ground.phase }, { on := 9, ground := Go.Ground.phase }, { on := 10, ground := Go.Ground.phase }, { on := 11, ground := Go.Ground.phase }, { on := 12, ground := Go.Ground.phase }, { on := 13, ground := Go.Ground.phase }, { on := 14, ground := Go.Ground.phase }, { on := 15, ground := Go.Ground.phase }, { on := 16, ground := Go.Ground.phase }, { on := 17, ground := Go.Ground.phase }], guard := none }) (v := ?_) rfl (by kernel_rfl) (by kernel_rfl) (by kernel_rfl) (fun _ _ _ h => h) (Or.inl ⟨by rfl, ?_⟩) (by assumption) ?_
    rotate_left
    · ((intro w hSw; (try dsimp only at hSw); go_simp); (try with_reducible rfl))
    try simp only [Act.put, List.setIfInBounds_toArray, List.set_cons_zero, List.set_cons_succ]
    refine wpAnyH_done (by kernel_rfl) ?_ _
    have hend := do_end (r := r) hu hsz hZ hZE hk1 hL1 hg hs (hb3.trans (hz.mono hb3.size)) (hE3.below hz (Nat.le_refl _)) (keeps_fill (.int .i64 r.i) (.int .i64 r.t) (.slice A n c) (.int .i64 r.f)) (by omega) _ rfl
    have HE := Lib.hid hend
    clear hend hL1 hk1 hE3 hb3 hb2 hg hs hu hS0 hS4 hS5 hrows hO q1 q2 q3
    go_wp2
    refine bodyPost_ret (res_cell_tmp' (n := w.heap.size + 2) rfl rfl hfin Try.underlying32 rfl (by kernel_rfl)) rfl ?_
    exact HE.out

end Go.Proofs.Ytlanjlboipnpfaa
