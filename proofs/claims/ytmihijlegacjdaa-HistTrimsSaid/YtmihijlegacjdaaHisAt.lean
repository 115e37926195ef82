/- The document's At, by its contract. (Written by mkat.py.) -/
import Derived.Test.YtmihijlegacjdaaHisAdd
import Derived.Laws.CopyOwn
namespace Go.Proofs.Ytmihijlegacjdaa
open Go.RowKit
set_option linter.unusedVariables false
set_option linter.unusedSimpArgs false
attribute [local go_sem] Oper.semAt_some

theorem i64_less {x : Int} (h : -9223372036854775808 ≤ x - 1) (h' : x - 1 < 9223372036854775808) : IntKind.i64.wrap (x - 1) = x - 1 := IntWalk.i64_in _ (by omega)

/-- What At answers. -/
def atV (o : Option Ver) : Value := .tuple #[verV (o.getD His.none_), .bool o.isSome]

set_option maxRecDepth 100000 in
set_option maxHeartbeats 3200000 in
theorem atR_any (A : Option Addr) (len cap : Nat) (l : List Ver) (rev : Int) (w : World) (h : Vers w A len l) (hm : len ≤ 900000) :
    Calls Try.prog 14 #[.slice A len cap, .int .i64 rev] w fun e w' => e = .returned (atV (His.atL l rev)) ∧ Below w.heap.size w w' := by
  have hll := h.1
  obtain ⟨W1, hW1⟩ : ∃ W1, w.alloc (.cells #[.int .i64 0, .int .i64 0, .int .i64 0, .int .i64 0, .string ⟨#[]⟩, .int .i64 0, .bool false] 26) = W1 := ⟨_, rfl⟩
  have hb1 : Below w.heap.size w W1 := by rw [← hW1]; exact (Below.refl _ _).alloc (Nat.le_refl _) _
  have hr1 : W1.heap[w.heap.size]? = some (.cells #[.int .i64 0, .int .i64 0, .int .i64 0, .int .i64 0, .string ⟨#[]⟩, .int .i64 0, .bool false] 26) := by rw [← hW1]; exact heap_alloc_new w _
  have hRt := rightR_any A len cap l W1 (h.below hb1) (by unfold maxLen; omega)
  have HV := Lib.hid (And.intro h (And.intro hb1 hr1))
  have hzs : ∀ (W : World), W.heap[w.heap.size]? = some (.cells #[.int .i64 0, .int .i64 0, .int .i64 0, .int .i64 0, .string ⟨#[]⟩, .int .i64 0, .bool false] 26) → (W.setRow w.heap.size #[.int .i64 0, .int .i64 0, .int .i64 0, .int .i64 0, .string ⟨#[]⟩, .int .i64 0, .bool false]).heap[w.heap.size]? = some (.cells #[.int .i64 0, .int .i64 0, .int .i64 0, .int .i64 0, .string ⟨#[]⟩, .int .i64 0, .bool false] 26) := fun W hW => setRow_heap W _ _ _ _ _ hW
  clear h hb1 hr1
  go_enter Try.func14, Try.ntmps14
  go_wp2_with fail
  try rw [hW1]
  refine hRt.mono ?_
  rintro e w2 ⟨rfl, hb2⟩
  have hbw : Below w.heap.size w w2 := HV.out.2.1.trans (hb2.mono HV.out.2.1.size)
  have hr2 : w2.heap[w.heap.size]? = some (.cells #[.int .i64 0, .int .i64 0, .int .i64 0, .int .i64 0, .string ⟨#[]⟩, .int .i64 0, .bool false] 26) := (hb2.block _ (hlt HV.out.2.2)).trans HV.out.2.2
  cases hq : His.rightL l with
  | false =>
    have hz := hzs w2 hr2
    have HZ := Lib.hid (And.intro hz (below_setRow hbw (Nat.le_refl _) #[.int .i64 0, .int .i64 0, .int .i64 0, .int .i64 0, .string ⟨#[]⟩, .int .i64 0, .bool false]))
    have e0 : His.atL l rev = none := if_neg (by rw [hq]; decide)
    have HE := Lib.hid e0
    clear e0 hRt hb2 hq hzs hW1 hbw hz
    go_wp2_with (refine wpList_store_row rfl _ _ _ rfl w.heap.size #[.int .i64 0, .int .i64 0, .int .i64 0, .int .i64 0, .string ⟨#[]⟩, .int .i64 0, .bool false] (by rfl) (by rfl) _ _ hr2 (by kernel_rfl) rfl (by first | rfl | kernel_rfl) ?_)
    refine bodyPost_ret (res_cell_tmp' (n := w.heap.size) rfl rfl HZ.out.1 Try.underlying26 rfl (by kernel_rfl)) rfl ?_
    exact ⟨by rw [HE.out]; rfl, HZ.out.2⟩
  | true =>
    have HR := Lib.hid ((His.right_iff l).1 hq)
    have HZ := Lib.hid (And.intro hbw hr2)
    have k9 : IntKind.i64.wrap ((len : Int) - 1) = (len : Int) - 1 := i64_less (by omega) (by omega)
    clear hRt hb2 hq hW1 hbw hr2
    go_wp2_with fail
    go_loopw [6] (fun v6 wr => ∃ k : Nat, k ≤ len ∧ v6 = .int .i64 ((k : Int) - 1) ∧ wr = w2 ∧ ∀ i (hi : i < l.length), k ≤ i → rev < l[i].r) (fun v6 _ => (intOf v6 + 1).toNat)
    case atStart => exact ⟨len, Nat.le_refl _, rfl, rfl, fun i hi h1 => absurd hi (by omega)⟩
    case round =>
      obtain ⟨k, hk, rfl, rfl, hall⟩ := hrel
      have HALL := Lib.hid hall
      clear hall
      cases k with
      | zero =>
        have l1 : decide ((0 : Int) ≤ ((0 : Nat) : Int) - 1) = false := rfl
        have hr2 := HZ.out.2
        have hz := hzs wr hr2
        have HZ2 := Lib.hid (And.intro hz (below_setRow HZ.out.1 (Nat.le_refl _) #[.int .i64 0, .int .i64 0, .int .i64 0, .int .i64 0, .string ⟨#[]⟩, .int .i64 0, .bool false]))
        have e0 : His.atL l rev = none := by rw [His.at_is HR.out, His.last_none fun j hj => HALL.out j hj (Nat.zero_le _)]; rfl
        have HE := Lib.hid e0
        clear e0 hzs hz
        go_wp2_with (refine wpList_store_row rfl _ _ _ rfl w.heap.size #[.int .i64 0, .int .i64 0, .int .i64 0, .int .i64 0, .string ⟨#[]⟩, .int .i64 0, .bool false] (by rfl) (by rfl) _ _ hr2 (by kernel_rfl) rfl (by first | rfl | kernel_rfl) ?_)
        refine bodyPost_ret (res_cell_tmp' (n := w.heap.size) rfl rfl HZ2.out.1 Try.underlying26 rfl (by kernel_rfl)) rfl ?_
        exact ⟨by rw [HE.out]; rfl, HZ2.out.2⟩
      | succ k =>
        have k1 : (((k + 1 : Nat) : Int) - 1) = (k : Int) := by omega
        rw [k1]
        have k2 : IntKind.i64.wrap ((k : Int) - 1) = (k : Int) - 1 := i64_less (by omega) (by omega)
        have k3 : (0 : Int) ≤ (k : Int) := by omega
        have k4 : (k : Int) < (len : Int) := by omega
        obtain ⟨g, off, rfl, hg, hc⟩ := (HV.out.1.below HZ.out.1).2 (by omega)
        obtain ⟨c0, c1, c2, c3, c4, c5, c6⟩ := hc k (by omega)
        have hfound := fun (h1 : (l[k]'(by omega)).r ≤ rev) => His.last_found HR.out (r := rev) (k := k) (by omega) h1 fun j hj h2 => HALL.out j hj (by omega)
        obtain ⟨x, hx⟩ : ∃ x, l[k]'(by omega) = x := ⟨_, rfl⟩
        rw [hx] at c0 c1 c2 c3 c4 c5 c6 hfound
        have HX := Lib.hid hx
        clear hc hx k1
        by_cases hle : x.r ≤ rev
        · have e1 : decide (x.r ≤ rev) = true := decide_eq_true hle
          have e2 := hfound hle
          have e3 : His.atL l rev = His.liveO (some x) := by rw [His.at_is HR.out, e2]
          have HE := Lib.hid e3
          clear hfound e2 e3 hle
          have hr2 := HZ.out.2
          cases hxg : x.g with
          | true =>
            have e4 : His.liveO (some x) = none := if_pos hxg
            have HE4 := Lib.hid e4
            rw [hxg] at c6
            have hz := hzs wr hr2
            have HZ2 := Lib.hid (And.intro hz (below_setRow HZ.out.1 (Nat.le_refl _) #[.int .i64 0, .int .i64 0, .int .i64 0, .int .i64 0, .string ⟨#[]⟩, .int .i64 0, .bool false]))
            clear hzs hz e4 hxg
            go_wp2_with (refine wpList_store_row rfl _ _ _ rfl w.heap.size #[.int .i64 0, .int .i64 0, .int .i64 0, .int .i64 0, .string ⟨#[]⟩, .int .i64 0, .bool false] (by rfl) (by rfl) _ _ hr2 (by kernel_rfl) rfl (by first | rfl | kernel_rfl) ?_)
            refine bodyPost_ret (res_cell_tmp' (n := w.heap.size) rfl rfl HZ2.out.1 Try.underlying26 rfl (by kernel_rfl)) rfl ?_
            exact ⟨by rw [HE.out, HE4.out]; rfl, HZ2.out.2⟩
          | false =>
            have e4 : His.liveO (some x) = some x := if_neg (by rw [hxg]; decide)
            have HE4 := Lib.hid e4
            have hxv : verV x = .agg #[.int .i64 x.r, .int .i64 x.k, .int .i64 x.m, .int .i64 x.v, .string x.s, .int .i64 x.l, .bool false] := by rw [← hxg]
            rw [hxg] at c6
            have hz : (wr.setRow w.heap.size #[.int .i64 x.r, .int .i64 x.k, .int .i64 x.m, .int .i64 x.v, .string x.s, .int .i64 x.l, .bool false]).heap[w.heap.size]? = some (.cells #[.int .i64 x.r, .int .i64 x.k, .int .i64 x.m, .int .i64 x.v, .string x.s, .int .i64 x.l, .bool false] 26) := setRow_heap wr _ _ _ _ _ hr2
            have HZ2 := Lib.hid (And.intro hz (And.intro (below_setRow HZ.out.1 (Nat.le_refl _) #[.int .i64 x.r, .int .i64 x.k, .int .i64 x.m, .int .i64 x.v, .string x.s, .int .i64 x.l, .bool false]) hxv))
            clear hzs hz e4 hxg hxv
            go_wp2_with (refine wpList_store_row rfl _ _ _ rfl w.heap.size #[.int .i64 x.r, .int .i64 x.k, .int .i64 x.m, .int .i64 x.v, .string x.s, .int .i64 x.l, .bool false] (by rfl) (by rfl) _ _ hr2 (by kernel_rfl) rfl (by first | rfl | kernel_rfl) ?_)
            refine bodyPost_ret (res_cell_tmp' (n := w.heap.size) rfl rfl HZ2.out.1 Try.underlying26 rfl (by kernel_rfl)) rfl ?_
            refine ⟨?_, HZ2.out.2.1⟩
            rw [HE.out, HE4.out]
            show _ = Ending.returned (.tuple #[verV x, .bool true])
            rw [HZ2.out.2.2]
            rfl
        · have e1 : decide (x.r ≤ rev) = false := decide_eq_false hle
          have hgt : rev < x.r := by omega
          have HG := Lib.hid hgt
          clear hfound hle hgt
          go_wp2
          go_roundw
          case rel => exact ⟨k, by omega, by first | rfl | trivial | go_num, by first | rfl | trivial, fun i hi h1 => by
            by_cases hik : i = k
            · subst hik
              rw [HX.out]
              exact HG.out
            · exact HALL.out i hi (by omega)⟩
          case measure =>
            simp [intOf]

end Go.Proofs.Ytmihijlegacjdaa
