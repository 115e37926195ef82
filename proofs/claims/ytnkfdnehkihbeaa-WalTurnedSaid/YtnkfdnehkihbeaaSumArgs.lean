/- Four bytes that a law is called with, and bytes of which four that stand together are turned. -/
import Derived.Test.YtnkfdnehkihbeaaBytArgs
import Derived.Test.YtnkfdnehkihbeaaWalPure
import Derived.Laws.IdiomArrays
import Derived.Laws.StructEq
import Derived.Laws.Tables
import Derived.Laws.Cover2
namespace Go.Proofs.Ytnkfdnehkihbeaa
open Go.ChangeShapes Go.WideShapes Go.ChangeAt Go.RowKit Go.Deep
set_option linter.unusedVariables false
set_option linter.unusedSimpArgs false

section
variable {H : Type} {enc : TypeId × Value → H} {W : World} {sp : Nat → Bool} {hd : Bool}

theorem byte_of {z : Int} (h : (Lit.int .u8 z).wf = true) : ∃ b : UInt8, z = (b.toNat : Int) := by
  have := wf_u8' h
  exact ⟨UInt8.ofNat z.toNat, by simp; omega⟩

set_option maxRecDepth 100000 in
theorem arg_four {base : Nat} {v : Value} {d : DataW H} {p : List MemPlace}
    (hok : Value.okWide Try.prog W .any base 38 v) (h : DataW.Trod enc Try.prog W 0 sp hd 38 v d p) :
    ∃ a b c e : UInt8, v = .agg #[u8 a, u8 b, u8 c, u8 e] := by
  obtain ⟨cs, rfl, hsz, _⟩ : ∃ cs, v = .agg cs ∧ cs.size = Try.prog.cellsOf 38 ∧ Row.okWide Try.prog W .any base 38 cs := by
    simpa [Value.okWide, Try.underlying38] using hok
  rw [show Try.prog.cellsOf 38 = 4 by kernel_rfl] at hsz
  obtain ⟨l⟩ := cs
  obtain ⟨c0, c1, c2, c3, rfl⟩ : ∃ c0 c1 c2 c3, l = [c0, c1, c2, c3] := by
    rcases l with _ | ⟨a, _ | ⟨b, _ | ⟨c, _ | ⟨d, _ | ⟨_, _⟩⟩⟩⟩⟩ <;> simp at hsz
    exact ⟨a, b, c, d, rfl⟩
  obtain ⟨fuel, hf⟩ := h
  obtain ⟨y0, y1, y2, y3, m, hx, hy0, hy1, hy2, hy3⟩ := trod_array4 Try.underlying38 (by kernel_rfl) hf
  obtain ⟨x0, e0, rfl, w0⟩ := DataW.trod_int Try.underlying5 hy0
  obtain ⟨x1, e1, rfl, w1⟩ := DataW.trod_int Try.underlying5 hy1
  obtain ⟨x2, e2, rfl, w2⟩ := DataW.trod_int Try.underlying5 hy2
  obtain ⟨x3, e3, rfl, w3⟩ := DataW.trod_int Try.underlying5 hy3
  simp at e0 e1 e2 e3
  subst e0 e1 e2 e3
  obtain ⟨b0, rfl⟩ := byte_of w0
  obtain ⟨b1, rfl⟩ := byte_of w1
  obtain ⟨b2, rfl⟩ := byte_of w2
  obtain ⟨b3, rfl⟩ := byte_of w3
  exact ⟨b0, b1, b2, b3, rfl⟩
end

/-- From place k on so many of bs are laid over it. -/
def over4 (l bs : List UInt8) (k j : Nat) : List UInt8 := l.take k ++ (List.zipWith (· ^^^ ·) (l.drop k) bs).take j ++ l.drop (k + j)

section
variable {l bs : List UInt8} {k j : Nat}

theorem over4_zero : over4 l bs k 0 = l := by simp [over4]

theorem over4_length (h : k + bs.length ≤ l.length) (hj : j ≤ bs.length) : (over4 l bs k j).length = l.length := by
  simp [over4]; omega

theorem over4_at (h : k + bs.length ≤ l.length) (hj : j < bs.length) (hm : k + j < (over4 l bs k j).length) : (over4 l bs k j)[k + j] = l[k + j]'(by omega) := by
  have h1 : (l.take k ++ (List.zipWith (· ^^^ ·) (l.drop k) bs).take j).length = k + j := by simp; omega
  simp only [over4]
  rw [List.getElem_append_right (by omega)]
  simp [h1]

theorem over4_next (h : k + bs.length ≤ l.length) (hj : j < bs.length) : (over4 l bs k j).set (k + j) (l[k + j] ^^^ bs[j]) = over4 l bs k (j + 1) := by
  have h1 : (l.take k ++ (List.zipWith (· ^^^ ·) (l.drop k) bs).take j).length = k + j := by simp; omega
  have hz : j < (List.zipWith (· ^^^ ·) (l.drop k) bs).length := by simp; omega
  have e : (List.zipWith (· ^^^ ·) (l.drop k) bs)[j] = l[k + j] ^^^ bs[j] := by simp
  simp only [over4]
  rw [List.set_append, if_neg (by omega), h1, Nat.sub_self, List.drop_eq_getElem_cons (show k + j < l.length by omega), List.set_cons_zero, List.take_succ_eq_append_getElem hz, e]
  simp [Nat.add_assoc]

/-- Another sum. -/
theorem over4_sum (a b c e : UInt8) (h : k + 4 ≤ l.length) (hne : ¬ (a = 0 ∧ b = 0 ∧ c = 0 ∧ e = 0)) : moreN 0 (over4 l [a, b, c, e] k 4) ≠ moreN 0 l := by
  have hl : l = l.take k ++ [l[k], l[k + 1], l[k + 2], l[k + 3]] ++ l.drop (k + 4) := by
    have : l.drop k = l[k] :: l[k + 1] :: l[k + 2] :: l[k + 3] :: l.drop (k + 4) := by
      rw [List.drop_eq_getElem_cons (by omega), List.drop_eq_getElem_cons (by omega), List.drop_eq_getElem_cons (by omega), List.drop_eq_getElem_cons (by omega)]
    calc l = l.take k ++ l.drop k := (List.take_append_drop k l).symm
      _ = _ := by rw [this]; simp
  have hx : over4 l [a, b, c, e] k 4 = l.take k ++ [l[k] ^^^ a, l[k + 1] ^^^ b, l[k + 2] ^^^ c, l[k + 3] ^^^ e] ++ l.drop (k + 4) := by
    have : l.drop k = l[k] :: l[k + 1] :: l[k + 2] :: l[k + 3] :: l.drop (k + 4) := by
      rw [List.drop_eq_getElem_cons (by omega), List.drop_eq_getElem_cons (by omega), List.drop_eq_getElem_cons (by omega), List.drop_eq_getElem_cons (by omega)]
    unfold over4
    rw [this]
    simp only [List.zipWith_cons_cons, List.zipWith_nil_right, List.take_succ_cons, List.take_zero]
  rw [hx]
  have := burst (l.take k) (l.drop (k + 4)) l[k] l[k + 1] l[k + 2] l[k + 3] a b c e hne 0 (by decide)
  rw [← hl] at this
  exact this
end

theorem eq_four (a b c e : UInt8) (w : World) : (Op.equalIn 10000 38 (.agg #[u8 a, u8 b, u8 c, u8 e]) (.agg #[.int .u8 0, .int .u8 0, .int .u8 0, .int .u8 0])).run Try.prog w = .ok (decide (a = 0 ∧ b = 0 ∧ c = 0 ∧ e = 0)) w := by
  have u3 := Try.underlying5
  have a3 := Try.isAgg5
  have z3 := Try.sizeOf5
  have z : ∀ x : UInt8, (x = 0) ↔ x.toNat = 0 := fun x => ⟨fun h => by rw [h]; rfl, fun h => UInt8.toNat_inj.1 h⟩
  rw [show (10000 : Nat) = 9999 + 1 from rfl, Op.equalIn]
  simp only [Sem.run_bind, run_underlying Try.underlying38, Result.andThen_ok]
  simp only [Std.Legacy.Range.forIn_eq_forIn_range', Std.Legacy.Range.size, Nat.sub_zero, Nat.add_sub_cancel, Nat.div_one, List.range'_succ, List.range'_zero, List.forIn_cons, List.forIn_nil]
  go_simp
  clear u3 a3 z3
  by_cases h1 : a.toNat = 0 <;> by_cases h2 : b.toNat = 0 <;> by_cases h3 : c.toNat = 0 <;> by_cases h4 : e.toNat = 0 <;> simp [h1, h2, h3, h4, z]

end Go.Proofs.Ytnkfdnehkihbeaa
