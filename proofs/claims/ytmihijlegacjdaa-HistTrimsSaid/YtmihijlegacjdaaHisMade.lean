/- A history that acts have made, in a law's loop. -/
import Derived.Test.YtmihijlegacjdaaHisPh
namespace Go.Proofs.Ytmihijlegacjdaa
open Go.RowKit
set_option linter.unusedVariables false
set_option linter.unusedSimpArgs false
attribute [local go_sem] Oper.semAt_some

structure MadeH (w wr : World) (K : Nat → HAct) (k : Nat) (A : Option Addr) (n c : Nat) : Prop where
  v : Vers wr A n (His.runL K k)
  c : n ≤ c
  b : Below w.heap.size w wr

theorem MadeH.start {w w1 : World} (K : Nat → HAct) (hb : Below w.heap.size w w1) : MadeH w w1 K 0 none 0 0 := ⟨Vers.nil _ _, Nat.le_refl _, hb⟩

theorem MadeH.len {w wr : World} {K : Nat → HAct} {k : Nat} {A : Option Addr} {n c : Nat} (h : MadeH w wr K k A n c) : n ≤ k := by
  have h1 := h.v.1
  have h2 := His.run_len K k
  omega

theorem MadeH.next {w wr w' : World} {K : Nat → HAct} {k : Nat} {A A' : Option Addr} {n c n' c' : Nat} (h : MadeH w wr K k A n c) (hv : Vers w' A' n' (His.doL (His.runL K k) (K k))) (hc : n' ≤ c') (hb : Below wr.heap.size wr w') : MadeH w w' K (k + 1) A' n' c' := ⟨hv, hc, h.b.trans (hb.mono h.b.size)⟩

theorem MadeH.do_ {w wr : World} {K : Nat → HAct} {k : Nat} {A : Option Addr} {n c : Nat} (h : MadeH w wr K k A n c) (hk : k ≤ 40) :
    Calls Try.prog 18 #[.slice A n c, hactV (K k)] wr fun e w' => ∃ R n' c', e = .returned (.tuple #[.slice R n' c', .bool true]) ∧ MadeH w w' K (k + 1) R n' c' :=
  (do14_any A n c (His.runL K k) (K k) wr h.v h.c (by have := h.len; omega) (His.run_right K k)).mono fun e w' ⟨R, n', c', e1, hv, hc, hb⟩ => ⟨R, n', c', e1, h.next hv hc hb⟩

/-- The cells of an act. -/
theorem HActs.cells {W : World} {A : Option Addr} {len : Nat} {K : Nat → HAct} (h : HActs W A len K) {k : Nat} (hk : k < len) : ∃ g off, A = some ⟨g, off, none⟩ ∧
    W.cell? ⟨g, off + k * 12, none⟩ = some (.int .u8 (K k).kd) ∧ W.cell? ⟨g, off + k * 12 + 1, none⟩ = some (.int .i64 (K k).r) ∧ W.cell? ⟨g, off + k * 12 + 2, none⟩ = some (.int .i64 (K k).m) ∧ W.cell? ⟨g, off + k * 12 + 3, none⟩ = some (.string (K k).s) ∧ W.cell? ⟨g, off + k * 12 + 4, none⟩ = some (.int .i64 (K k).l) ∧
    W.cell? ⟨g, off + k * 12 + 5, none⟩ = some (.int .i64 (K k).x.r) ∧ W.cell? ⟨g, off + k * 12 + 6, none⟩ = some (.int .i64 (K k).x.k) ∧ W.cell? ⟨g, off + k * 12 + 7, none⟩ = some (.int .i64 (K k).x.m) ∧ W.cell? ⟨g, off + k * 12 + 8, none⟩ = some (.int .i64 (K k).x.v) ∧ W.cell? ⟨g, off + k * 12 + 9, none⟩ = some (.string (K k).x.s) ∧ W.cell? ⟨g, off + k * 12 + 10, none⟩ = some (.int .i64 (K k).x.l) ∧ W.cell? ⟨g, off + k * 12 + 11, none⟩ = some (.bool (K k).x.g) := by
  obtain ⟨g, off, e, _, hc⟩ := h (by omega)
  have hx := hc k hk
  exact ⟨g, off, e, hx 0 _ rfl, hx 1 _ rfl, hx 2 _ rfl, hx 3 _ rfl, hx 4 _ rfl, hx 5 _ rfl, hx 6 _ rfl, hx 7 _ rfl, hx 8 _ rfl, hx 9 _ rfl, hx 10 _ rfl, hx 11 _ rfl⟩

/-- What At answers, as a value. -/
theorem at_form (o : Option Ver) : ∃ (y : Ver) (b : Bool), atV o = .tuple #[.agg #[.int .i64 y.r, .int .i64 y.k, .int .i64 y.m, .int .i64 y.v, .string y.s, .int .i64 y.l, .bool y.g], .bool b] := ⟨o.getD His.none_, o.isSome, rfl⟩

namespace His
theorem since_len (l : List Ver) (a b : Int) : (sinceL l a b).length ≤ l.length := by
  unfold sinceL
  split
  · exact List.length_filter_le _ _
  · exact Nat.zero_le _

theorem trim_len (l : List Ver) (f : Int) : (trimL l f).length ≤ l.length := by
  cases hr : rightL l with
  | true => exact (trim_sub ((right_iff l).1 hr) f).length_le
  | false =>
    unfold trimL
    rw [if_neg (by rw [hr]; decide)]
    exact Nat.zero_le _
end His

theorem rowH_app (a b : List Ver) : rowH (a ++ b) = rowH a ++ rowH b := by unfold rowH; rw [List.flatMap_append]

/-- Two lists of a call's own, asked whether they are alike. -/
theorem same_own {W : World} {R1 R2 : Option Addr} {n1 c1 n2 c2 : Nat} {l1 l2 : List Ver} (h1 : Vers W R1 n1 l1) (h2 : Vers W R2 n2 l2) (e : l1 = l2) (hl : l1.length ≤ 900000) :
    Calls Try.prog 20 #[.slice R1 n1 c1, .slice R2 n2 c2] W fun e w' => e = .returned (.bool true) ∧ Below W.heap.size W w' := by
  have hn1 := h1.1
  have hn2 := h2.1
  have hm : l1.length = l2.length := by rw [e]
  have h := sameR_any R1 n1 c1 l1 R2 n2 c2 l2 W h1 h2 (by unfold maxLen; omega) (by unfold maxLen; omega)
  rw [decide_eq_true e] at h
  exact h

end Go.Proofs.Ytmihijlegacjdaa
