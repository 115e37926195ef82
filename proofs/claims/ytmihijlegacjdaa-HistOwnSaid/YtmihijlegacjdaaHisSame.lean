/- The document's Same, by its contract. (Written by mksame.py.) -/
import Derived.Test.YtmihijlegacjdaaHisTrim
import Derived.Laws.StructEq
namespace Go.Proofs.Ytmihijlegacjdaa
open Go.RowKit
set_option linter.unusedVariables false
set_option linter.unusedSimpArgs false
attribute [local go_sem] Oper.semAt_some

theorem bytes_is (a b : ByteArray) : (a == b) = true ↔ a = b := by
  obtain ⟨a⟩ := a
  obtain ⟨b⟩ := b
  rw [ByteArray.mk.injEq]
  exact beq_iff_eq (a := a) (b := b)

theorem bytes_list (a b : ByteArray) : (a.toList == b.toList) = decide (a = b) := by
  rw [← Go.beq_toListBytes, Bool.eq_iff_iff, bytes_is, decide_eq_true_eq]

set_option maxHeartbeats 1600000 in
theorem ver_equal (x y : Ver) (W : World) : (Op.equalIn 10000 26 (verV x) (verV y)).run Try.prog W = .ok (decide (x = y)) W := by
  rw [show (10000 : Nat) = 9998 + 1 + 1 from rfl, run_equalIn_struct W (9998 + 1) 26 _ _ (by kernel_rfl) (by kernel_rfl)]
  unfold Program.fieldsOf
  rw [Try.underlying26]
  have e : (decide (x = y)) = (x.r == y.r && (x.k == y.k && (x.m == y.m && (x.v == y.v && (x.s.toList == y.s.toList && (x.l == y.l && (x.g == y.g))))))) := by
    obtain ⟨r, k, m, v, s, l, g⟩ := x
    obtain ⟨r', k', m', v', s', l', g'⟩ := y
    simp only [bytes_list]
    rw [Bool.eq_iff_iff]
    simp
  rw [e]
  simp [Op.eqFields, part, Sem.run_bind, Result.andThen, run_underlying Try.underlying2, run_underlying Try.underlying9, run_underlying Try.underlying4, run_equalIn_int _ 9998 2 .i64 .i64 _ _ Try.underlying2, run_equalIn_string _ 9998 9 _ _ Try.underlying9, run_equalIn_bool' _ 9998 4 _ _ Try.underlying4]
  repeat' split
  all_goals simp_all

theorem ver_neq (x y : Ver) (W : World) : (binOp .neq 26 (verV x) (verV y)).run Try.prog W = .ok (.bool (!decide (x = y))) W := by
  rw [run_neq_struct, ver_equal]
  rfl

theorem ver_eql (x y : Ver) (W : World) : (binOp .eql 26 (verV x) (verV y)).run Try.prog W = .ok (.bool (decide (x = y))) W := by
  rw [run_eql_struct, ver_equal]
  rfl

theorem ver_guard (op : BinOp) (a b : Operand) (xs ys : Array Value) (W : World) : (eqGuard op 26 a b (.agg xs) (.agg ys)).run Try.prog W = .ok () W := run_eqGuard_agg W op _ a b xs ys (by kernel_rfl)

set_option maxRecDepth 100000 in
set_option maxHeartbeats 3200000 in
theorem sameR_any (A : Option Addr) (la ca : Nat) (xs : List Ver) (B : Option Addr) (lb cb : Nat) (ys : List Ver) (w : World) (h : Vers w A la xs) (h' : Vers w B lb ys) (hm : la ≤ maxLen) (hm' : lb ≤ maxLen) :
    Calls Try.prog 20 #[.slice A la ca, .slice B lb cb] w fun e w' => e = .returned (.bool (decide (xs = ys))) ∧ Below w.heap.size w w' := by
  unfold maxLen at hm hm'
  have hlx := h.1
  have hly := h'.1
  have HX := Lib.hid h
  have HY := Lib.hid h'
  clear h h'
  by_cases hlen : la = lb
  · have e1 : ((la : Int) != (lb : Int)) = false := by rw [hlen]; simp
    subst hlen
    go_enter Try.func20, Try.ntmps20
    go_wp2_with fail
    go_loopw [13] (fun v13 wr => ∃ k : Nat, k ≤ la ∧ v13 = .int .i64 (k : Int) ∧ Below w.heap.size w wr ∧ ∀ i (hi : i < xs.length) (hi' : i < ys.length), i < k → xs[i] = ys[i]) (fun v13 _ => la - (intOf v13).toNat)
    case atStart => exact ⟨0, Nat.zero_le _, rfl, Below.refl _ _, fun i _ _ hi => absurd hi (by omega)⟩
    case round =>
      obtain ⟨k, hk, rfl, hb, hall⟩ := hrel
      have HALL := Lib.hid hall
      have HB := Lib.hid hb
      clear hall hb
      by_cases hlt : k < la
      · have l1 : decide ((k : Int) < (la : Int)) = true := decide_eq_true (by omega)
        obtain ⟨g, off, rfl, hg, hc⟩ := (HX.out.below HB.out).2 (by omega)
        obtain ⟨g', off', rfl, hg', hc'⟩ := (HY.out.below HB.out).2 (by omega)
        obtain ⟨c0, c1, c2, c3, c4, c5, c6⟩ := hc k (by omega)
        obtain ⟨d0, d1, d2, d3, d4, d5, d6⟩ := hc' k (by omega)
        obtain ⟨x, hx⟩ : ∃ x, xs[k]'(by omega) = x := ⟨_, rfl⟩
        obtain ⟨y, hy⟩ : ∃ y, ys[k]'(by omega) = y := ⟨_, rfl⟩
        rw [hx] at c0 c1 c2 c3 c4 c5 c6
        rw [hy] at d0 d1 d2 d3 d4 d5 d6
        have HXY := Lib.hid (And.intro hx hy)
        clear hc hc' hx hy
        have e0 : (k : Int) < (la : Int) := by omega
        have f1 := fun W => ver_neq x y W
        have f2 := ver_guard
        dsimp only [verV] at f1
        by_cases hxy : x = y
        · rw [decide_eq_true hxy] at f1
          have HQ := Lib.hid hxy
          clear hxy
          go_wp2_with fail
          go_big_quiet (fail)
          go_wp2
          go_roundw
          case rel => exact ⟨k + 1, hlt, by go_num, below_drewN HB.out _, fun i hi hi' h1 => by
            by_cases hik : i = k
            · subst hik
              rw [HXY.out.1, HXY.out.2, HQ.out]
            · exact HALL.out i hi hi' (by omega)⟩
          case measure =>
            simp [intOf]
            omega
        · rw [decide_eq_false hxy] at f1
          have HQ := Lib.hid (show decide (xs = ys) = false from decide_eq_false fun e => hxy (by rw [← HXY.out.1, ← HXY.out.2]; simp only [e]))
          clear hxy
          go_wp2_with fail
          go_big_quiet (fail)
          go_wp2
          go_ret
          exact ⟨by rw [HQ.out]; rfl, below_drewN HB.out _⟩
      · obtain rfl : k = la := by omega
        have l1 : decide ((k : Int) < (k : Int)) = false := decide_eq_false (by omega)
        have HQ := Lib.hid (show decide (xs = ys) = true from decide_eq_true (List.ext_getElem (by omega) fun i h1 h2 => HALL.out i h1 h2 (by omega)))
        go_wp2
        go_ret
        exact ⟨by rw [HQ.out]; rfl, HB.out⟩
  · have e1 : ((la : Int) != (lb : Int)) = true := by simp; omega
    have HQ := Lib.hid (show decide (xs = ys) = false from decide_eq_false fun e => hlen (by rw [← hlx, ← hly, e]))
    go_enter Try.func20, Try.ntmps20
    go_wp2
    go_ret
    exact ⟨by rw [HQ.out]; rfl, Below.refl _ _⟩

set_option maxRecDepth 100000 in
set_option maxHeartbeats 3200000 in
/-- Few: what a law's walk wants of it. -/
theorem fewR14_any (A : Option Addr) (len cap : Nat) (l : List Ver) (w : World) (h : Vers w A len l) (hm : len ≤ maxLen) (hs : ∀ x ∈ l, x.s.size ≤ maxLen) :
    Calls Try.prog 10 #[.slice A len cap] w fun e w' => ∃ b, e = .returned (.bool b) ∧ (b = true → len ≤ 40) ∧ w = w' := by
  unfold maxLen at hm hs
  have hll := h.1
  have HV := Lib.hid (And.intro h hs)
  clear h hs
  go_enter Try.func10, Try.ntmps10
  go_wp2_with fail
  go_loopw [6] (fun v6 wr => ∃ k : Nat, k ≤ len ∧ v6 = .int .i64 (k : Int) ∧ wr = w ∧ k ≤ 40) (fun v6 _ => len - (intOf v6).toNat)
  case atStart => exact ⟨0, Nat.zero_le _, rfl, rfl, Nat.zero_le _⟩
  case round =>
    obtain ⟨k, hk, rfl, rfl, h40⟩ := hrel
    by_cases hlt : k < len
    · have l1 : decide ((k : Int) < (len : Int)) = true := decide_eq_true (by omega)
      by_cases h4 : 40 ≤ k
      · have l2 : decide ((40 : Int) ≤ (k : Int)) = true := decide_eq_true (by omega)
        go_wp2
        go_ret
        exact ⟨false, rfl, (fun e => by cases e), rfl⟩
      · have l2 : decide ((40 : Int) ≤ (k : Int)) = false := decide_eq_false (by omega)
        obtain ⟨g, off, rfl, hg, hc⟩ := HV.out.1.2 (by omega)
        obtain ⟨_, _, _, _, c4, _, _⟩ := hc k (by omega)
        have hsz := HV.out.2 _ (List.getElem_mem (show k < l.length by omega))
        obtain ⟨s, hs⟩ : ∃ s, (l[k]'(by omega)).s = s := ⟨_, rfl⟩
        rw [hs] at c4 hsz
        clear hc hs
        by_cases h1 : 100 < s.size
        · have l3 : decide ((100 : Int) < (s.size : Int)) = true := decide_eq_true (by omega)
          go_wp2
          go_ret
          exact ⟨false, rfl, (fun e => by cases e), rfl⟩
        · have l3 : decide ((100 : Int) < (s.size : Int)) = false := decide_eq_false (by omega)
          go_wp2
          go_roundw
          case rel => exact ⟨k + 1, hlt, by go_num, by first | rfl | trivial, by omega⟩
          case measure =>
            simp [intOf]
            omega
    · obtain rfl : k = len := by omega
      have l1 : decide ((k : Int) < (k : Int)) = false := decide_eq_false (by omega)
      go_wp2
      go_ret
      exact ⟨true, rfl, fun _ => h40, rfl⟩

end Go.Proofs.Ytmihijlegacjdaa
