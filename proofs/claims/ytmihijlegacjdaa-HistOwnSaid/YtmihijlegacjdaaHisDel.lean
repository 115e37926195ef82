/- The document's Del, by its contract. (Written by mkdel.py.) -/
import Derived.Test.YtmihijlegacjdaaHisPut
namespace Go.Proofs.Ytmihijlegacjdaa
open Go.RowKit
set_option linter.unusedVariables false
set_option linter.unusedSimpArgs false
attribute [local go_sem] Oper.semAt_some

set_option maxRecDepth 100000 in
set_option maxHeartbeats 3200000 in
theorem delR_any (A : Option Addr) (len cap : Nat) (l : List Ver) (r m : Int) (w : World) (h : Vers w A len l) (hm : len ≤ 900000) :
    Calls Try.prog 31 #[.slice A len cap, .int .i64 r, .int .i64 m] w fun e w' => ∃ R n c, e = .returned (.tuple #[.slice R n c, .int .i64 (His.delL l r m).2]) ∧ Own14 w w' R n c (His.delL l r m).1 ∧ Below w.heap.size w w' := by
  have hll := h.1
  have hA := addR_any A len cap l (His.goneV r m) w h hm
  have HV := Lib.hid h
  have hdel : His.delL l r m = match His.addL l (His.goneV r m) with | none => ([], 1) | some o => match l.getLast? with | some y => if y.g = true then ([], 6) else (o, 0) | none => ([], 6) := rfl
  clear h
  dsimp only [verV, His.goneV] at hA
  go_enter Try.func31, Try.ntmps31
  go_wp2_with fail
  refine hA.mono ?_
  rintro e w2 ⟨R, n, c, rfl, hO, hb2⟩
  have HB := Lib.hid hb2
  clear hA hb2
  have hg : (⟨r, 0, m, 0, ⟨#[]⟩, 0, true⟩ : Ver) = His.goneV r m := rfl
  rw [hg] at hO ⊢
  cases ho : His.addL l (His.goneV r m) with
  | none =>
    rw [ho] at hdel
    have HE := Lib.hid hdel
    clear hdel hO
    dsimp only [Option.isSome]
    go_wp2
    refine bodyPost_ret (results_tmp2 rfl _ _ _) rfl ?_
    exact ⟨none, 0, 0, by rw [HE.out]; rfl, by rw [HE.out]; exact Own14.none _ _, HB.out⟩
  | some o =>
    rw [ho] at hdel hO
    have HO := Lib.hid hO
    clear hO
    dsimp only [Option.isSome] at *
    by_cases h0 : len = 0
    · obtain rfl : l = [] := List.eq_nil_of_length_eq_zero (by omega)
      have HE := Lib.hid (show His.delL [] r m = ([], 6) from hdel)
      have l1 : ((len : Int) == 0) = true := by rw [h0]; rfl
      clear hdel
      subst h0
      go_wp2
      refine bodyPost_ret (results_tmp2 rfl _ _ _) rfl ?_
      exact ⟨none, 0, 0, by rw [HE.out]; rfl, by rw [HE.out]; exact Own14.none _ _, HB.out⟩
    · have l1 : ((len : Int) == 0) = false := beq_eq_false_iff_ne.2 (by omega)
      have l2 : (len == 0) = false := beq_eq_false_iff_ne.2 h0
      have k3 : IntKind.i64.wrap ((len : Int) - 1) = ((len - 1 : Nat) : Int) := by rw [IntWalk.i64_in _ (by omega)]; omega
      have k4 : ((len - 1 : Nat) : Int) < (len : Int) := by omega
      obtain ⟨g, off, rfl, hg2, hc⟩ := (HV.out.below HB.out).2 (by omega)
      have c6 := (hc (len - 1) (by omega)).2.2.2.2.2.2
      have hlast : l.getLast? = l[len - 1]? := by rw [List.getLast?_eq_getElem?, hll]
      rw [List.getElem?_eq_getElem (show len - 1 < l.length by omega)] at hlast
      obtain ⟨y, hy⟩ : ∃ y, l[len - 1]'(by omega) = y := ⟨_, rfl⟩
      rw [hy] at c6 hlast
      rw [hlast] at hdel
      clear hc hy hlast
      generalize len - 1 = k' at *
      cases hyg : y.g with
      | true =>
        rw [hyg] at c6
        have HE := Lib.hid (show His.delL l r m = ([], 6) from hdel.trans (if_pos hyg))
        clear hdel hyg
        go_wp2
        refine bodyPost_ret (results_tmp2 rfl _ _ _) rfl ?_
        exact ⟨none, 0, 0, by rw [HE.out]; rfl, by rw [HE.out]; exact Own14.none _ _, HB.out⟩
      | false =>
        rw [hyg] at c6
        have HE := Lib.hid (show His.delL l r m = (o, 0) from hdel.trans (if_neg (by rw [hyg]; decide)))
        clear hdel hyg
        go_wp2
        refine bodyPost_ret (results_tmp2 rfl _ _ _) rfl ?_
        exact ⟨R, n, c, by rw [HE.out]; rfl, by rw [HE.out]; exact HO.out, HB.out⟩

end Go.Proofs.Ytmihijlegacjdaa
