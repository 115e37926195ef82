/- The document's At, by its contract. (Written by mkat.py.) -/
import Derived.Test.YtcoddkbbgmjckaaBn06
import Derived.Laws.CopyOwn
import Derived.Laws.StructEq
namespace Go.Proofs.Ytcoddkbbgmjckaa
open Go.RowKit
set_option linter.unusedVariables false
set_option linter.unusedSimpArgs false
attribute [local go_sem] Oper.semAt_some

theorem i64_less {x : Int} (h : -9223372036854775808 ≤ x - 1) (h' : x - 1 < 9223372036854775808) : IntKind.i64.wrap (x - 1) = x - 1 := IntWalk.i64_in _ (by omega)

/-- What At answers. -/
def atV (o : Option Ver) : Value := .tuple #[verV (o.getD His.none_), .bool o.isSome]

set_option maxRecDepth 100000 in
set_option maxHeartbeats 3200000 in
theorem atR_any (A : Option Addr) (len cap : Nat) (l : List Ver) (rev : Int) (w : World) (h : Vers w A len l) (hm : len ≤ 900000) :
    Calls Try.prog 55 #[.slice A len cap, .int .i64 rev] w fun e w' => e = .returned (atV (His.atL l rev)) ∧ Below w.heap.size w w' := by
  have hll := h.1
  obtain ⟨W1, hW1⟩ : ∃ W1, w.alloc (.cells #[.int .i64 0, .int .i64 0, .int .i64 0, .int .i64 0, .string ⟨#[]⟩, .int .i64 0, .bool false] 37) = W1 := ⟨_, rfl⟩
  have hb1 : Below w.heap.size w W1 := by rw [← hW1]; exact (Below.refl _ _).alloc (Nat.le_refl _) _
  have hr1 : W1.heap[w.heap.size]? = some (.cells #[.int .i64 0, .int .i64 0, .int .i64 0, .int .i64 0, .string ⟨#[]⟩, .int .i64 0, .bool false] 37) := by rw [← hW1]; exact heap_alloc_new w _
  have hRt := rightR_any A len cap l W1 (h.below hb1) (by unfold maxLen; omega)
  have HV := Lib.hid (And.intro h (And.intro hb1 hr1))
  have hzs : ∀ (W : World), W.heap[w.heap.size]? = some (.cells #[.int .i64 0, .int .i64 0, .int .i64 0, .int .i64 0, .string ⟨#[]⟩, .int .i64 0, .bool false] 37) → (W.setRow w.heap.size #[.int .i64 0, .int .i64 0, .int .i64 0, .int .i64 0, .string ⟨#[]⟩, .int .i64 0, .bool false]).heap[w.heap.size]? = some (.cells #[.int .i64 0, .int .i64 0, .int .i64 0, .int .i64 0, .string ⟨#[]⟩, .int .i64 0, .bool false] 37) := fun W hW => setRow_heap W _ _ _ _ _ hW
  clear h hb1 hr1
  go_enter Try.func55, Try.ntmps55
  go_wp2_with fail
  try rw [hW1]
  refine hRt.mono ?_
  rintro e w2 ⟨rfl, hb2⟩
  have hbw : Below w.heap.size w w2 := HV.out.2.1.trans (hb2.mono HV.out.2.1.size)
  have hr2 : w2.heap[w.heap.size]? = some (.cells #[.int .i64 0, .int .i64 0, .int .i64 0, .int .i64 0, .string ⟨#[]⟩, .int .i64 0, .bool false] 37) := (hb2.block _ (hlt HV.out.2.2)).trans HV.out.2.2
  cases hq : His.rightL l with
  | false =>
    have hz := hzs w2 hr2
    have HZ := Lib.hid (And.intro hz (below_setRow hbw (Nat.le_refl _) #[.int .i64 0, .int .i64 0, .int .i64 0, .int .i64 0, .string ⟨#[]⟩, .int .i64 0, .bool false]))
    have e0 : His.atL l rev = none := if_neg (by rw [hq]; decide)
    have HE := Lib.hid e0
    clear e0 hRt hb2 hq hzs hW1 hbw hz
    go_wp2_with (refine wpList_store_row rfl _ _ _ rfl w.heap.size #[.int .i64 0, .int .i64 0, .int .i64 0, .int .i64 0, .string ⟨#[]⟩, .int .i64 0, .bool false] (by rfl) (by rfl) _ _ hr2 (by kernel_rfl) rfl (by first | rfl | kernel_rfl) ?_)
    refine bodyPost_ret (res_cell_tmp' (n := w.heap.size) rfl rfl HZ.out.1 Try.underlying37 rfl (by kernel_rfl)) rfl ?_
    exact ⟨by rw [HE.out]; rfl, HZ.out.2⟩
  | true =>
    have HR := Lib.hid ((His.right_iff l).1 hq)
    have HZ := Lib.hid (And.intro hbw hr2)
    have k9 : IntKind.i64.wrap ((len : Int) - 1) = (len : Int) - 1 := i64_less (by omega) (by omega)
    clear hRt hb2 hq hW1 hbw hr2
    go_wp2_with fail
    go_loopw [6] (fun v6 wr => ∃ k : Nat, k ≤ len ∧ v6 = .int .i64 ((k : Int) - 1) ∧ wr = w2 ∧ ∀ i (hi : i < l.length), k ≤ i → rev < l[i].r) (fun v6 _ => (intOf v6 + 1).toNat)
    case atStart => exact ⟨len, Nat.le_refl _, rfl, rfl, fun i hi h1 => absurd hi (by omega)⟩
    case round =>
      obtain ⟨k, hk, rfl, rfl, hall⟩ := hrel
      have HALL := Lib.hid hall
      clear hall
      cases k with
      | zero =>
        have l1 : decide ((0 : Int) ≤ ((0 : Nat) : Int) - 1) = false := rfl
        have hr2 := HZ.out.2
        have hz := hzs wr hr2
        have HZ2 := Lib.hid (And.intro hz (below_setRow HZ.out.1 (Nat.le_refl _) #[.int .i64 0, .int .i64 0, .int .i64 0, .int .i64 0, .string ⟨#[]⟩, .int .i64 0, .bool false]))
        have e0 : His.atL l rev = none := by rw [His.at_is HR.out, His.last_none fun j hj => HALL.out j hj (Nat.zero_le _)]; rfl
        have HE := Lib.hid e0
        clear e0 hzs hz
        go_wp2_with (refine wpList_store_row rfl _ _ _ rfl w.heap.size #[.int .i64 0, .int .i64 0, .int .i64 0, .int .i64 0, .string ⟨#[]⟩, .int .i64 0, .bool false] (by rfl) (by rfl) _ _ hr2 (by kernel_rfl) rfl (by first | rfl | kernel_rfl) ?_)
        refine bodyPost_ret (res_cell_tmp' (n := w.heap.size) rfl rfl HZ2.out.1 Try.underlying37 rfl (by kernel_rfl)) rfl ?_
        exact ⟨by rw [HE.out]; rfl, HZ2.out.2⟩
      | succ k =>
        have k1 : (((k + 1 : Nat) : Int) - 1) = (k : Int) := by omega
        rw [k1]
        have k2 : IntKind.i64.wrap ((k : Int) - 1) = (k : Int) - 1 := i64_less (by omega) (by omega)
        have k3 : (0 : Int) ≤ (k : Int) := by omega
        have k4 : (k : Int) < (len : Int) := by omega
        obtain ⟨g, off, rfl, hg, hc⟩ := (HV.out.1.below HZ.out.1).2 (by omega)
        obtain ⟨c0, c1, c2, c3, c4, c5, c6⟩ := hc k (by omega)
        have hfound := fun (h1 : (l[k]'(by omega)).r ≤ rev) => His.last_found HR.out (r := rev) (k := k) (by omega) h1 fun j hj h2 => HALL.out j hj (by omega)
        obtain ⟨x, hx⟩ : ∃ x, l[k]'(by omega) = x := ⟨_, rfl⟩
        rw [hx] at c0 c1 c2 c3 c4 c5 c6 hfound
        have HX := Lib.hid hx
        clear hc hx k1
        by_cases hle : x.r ≤ rev
        · have e1 : decide (x.r ≤ rev) = true := decide_eq_true hle
          have e2 := hfound hle
          have e3 : His.atL l rev = His.liveO (some x) := by rw [His.at_is HR.out, e2]
          have HE := Lib.hid e3
          clear hfound e2 e3 hle
          have hr2 := HZ.out.2
          cases hxg : x.g with
          | true =>
            have e4 : His.liveO (some x) = none := if_pos hxg
            have HE4 := Lib.hid e4
            rw [hxg] at c6
            have hz := hzs wr hr2
            have HZ2 := Lib.hid (And.intro hz (below_setRow HZ.out.1 (Nat.le_refl _) #[.int .i64 0, .int .i64 0, .int .i64 0, .int .i64 0, .string ⟨#[]⟩, .int .i64 0, .bool false]))
            clear hzs hz e4 hxg
            go_wp2_with (refine wpList_store_row rfl _ _ _ rfl w.heap.size #[.int .i64 0, .int .i64 0, .int .i64 0, .int .i64 0, .string ⟨#[]⟩, .int .i64 0, .bool false] (by rfl) (by rfl) _ _ hr2 (by kernel_rfl) rfl (by first | rfl | kernel_rfl) ?_)
            refine bodyPost_ret (res_cell_tmp' (n := w.heap.size) rfl rfl HZ2.out.1 Try.underlying37 rfl (by kernel_rfl)) rfl ?_
            exact ⟨by rw [HE.out, HE4.out]; rfl, HZ2.out.2⟩
          | false =>
            have e4 : His.liveO (some x) = some x := if_neg (by rw [hxg]; decide)
            have HE4 := Lib.hid e4
            have hxv : verV x = .agg #[.int .i64 x.r, .int .i64 x.k, .int .i64 x.m, .int .i64 x.v, .string x.s, .int .i64 x.l, .bool false] := by rw [← hxg]
            rw [hxg] at c6
            have hz : (wr.setRow w.heap.size #[.int .i64 x.r, .int .i64 x.k, .int .i64 x.m, .int .i64 x.v, .string x.s, .int .i64 x.l, .bool false]).heap[w.heap.size]? = some (.cells #[.int .i64 x.r, .int .i64 x.k, .int .i64 x.m, .int .i64 x.v, .string x.s, .int .i64 x.l, .bool false] 37) := setRow_heap wr _ _ _ _ _ hr2
            have HZ2 := Lib.hid (And.intro hz (And.intro (below_setRow HZ.out.1 (Nat.le_refl _) #[.int .i64 x.r, .int .i64 x.k, .int .i64 x.m, .int .i64 x.v, .string x.s, .int .i64 x.l, .bool false]) hxv))
            clear hzs hz e4 hxg hxv
            go_wp2_with (refine wpList_store_row rfl _ _ _ rfl w.heap.size #[.int .i64 x.r, .int .i64 x.k, .int .i64 x.m, .int .i64 x.v, .string x.s, .int .i64 x.l, .bool false] (by rfl) (by rfl) _ _ hr2 (by kernel_rfl) rfl (by first | rfl | kernel_rfl) ?_)
            refine bodyPost_ret (res_cell_tmp' (n := w.heap.size) rfl rfl HZ2.out.1 Try.underlying37 rfl (by kernel_rfl)) rfl ?_
            refine ⟨?_, HZ2.out.2.1⟩
            rw [HE.out, HE4.out]
            show _ = Ending.returned (.tuple #[verV x, .bool true])
            rw [HZ2.out.2.2]
            rfl
        · have e1 : decide (x.r ≤ rev) = false := decide_eq_false hle
          have hgt : rev < x.r := by omega
          have HG := Lib.hid hgt
          clear hfound hle hgt
          go_wp2
          go_roundw
          case rel => exact ⟨k, by omega, by first | rfl | trivial | go_num, by first | rfl | trivial, fun i hi h1 => by
            by_cases hik : i = k
            · subst hik
              rw [HX.out]
              exact HG.out
            · exact HALL.out i hi (by omega)⟩
          case measure =>
            simp [intOf]

end Go.Proofs.Ytcoddkbbgmjckaa

namespace Go.Proofs.Ytcoddkbbgmjckaa
open Go.RowKit
set_option linter.unusedVariables false
set_option linter.unusedSimpArgs false
attribute [local go_sem] Oper.semAt_some

/-- A version more. -/
theorem Own14.push {w0 wr X w8 : World} {R A8 : Option Addr} {n c c8 : Nat} {l : List Ver} {x : Ver} (h : Own14 w0 wr R n c l) (hb : Below w0.heap.size w0 wr) (hX : Below wr.heap.size wr X) (hg : Grew X w8 R) (hsp : Sp 37 7 w8 A8 (n + 1) c8 (rowH l ++ verC x)) (hA : ∀ q, blk A8 q → blk R q ∨ X.heap.size ≤ q) :
    Own14 w0 w8 A8 (n + 1) c8 (l ++ [x]) ∧ Below w0.heap.size w0 w8 := by
  have h1 := hb.size
  have h2 := hX.size
  refine ⟨⟨by rw [rowH_add]; exact hsp, fun q hq => ?_⟩, hg.below (hb.trans (hX.mono h1)) (by omega) h.new⟩
  rcases hA q hq with h3 | h3
  · exact h.new q h3
  · omega

theorem take_filter {l : List Ver} (p : Ver → Bool) {k : Nat} (hk : k < l.length) : (l.take (k + 1)).filter p = (l.take k).filter p ++ if p l[k] = true then [l[k]] else [] := by
  rw [List.take_succ_eq_append_getElem hk, List.filter_append]
  by_cases h : p l[k] = true <;> simp [h]

theorem Own14.len {w0 w : World} {R : Option Addr} {n c : Nat} {l : List Ver} (h : Own14 w0 w R n c l) : l.length = n := h.sp.vers.1

theorem Own14.next {w0 w w' : World} {R : Option Addr} {n c : Nat} {l : List Ver} (h : Own14 w0 w R n c l) (hb : Below w.heap.size w w') : Own14 w0 w' R n c l := ⟨h.sp.keep fun q hq => hb.block q (h.sp.lt hq), h.new⟩

end Go.Proofs.Ytcoddkbbgmjckaa

namespace Go.Proofs.Ytcoddkbbgmjckaa
open Go.RowKit
set_option linter.unusedVariables false
set_option linter.unusedSimpArgs false
attribute [local go_sem] Oper.semAt_some

set_option maxRecDepth 100000 in
set_option maxHeartbeats 3200000 in
theorem trimR_any (A : Option Addr) (len cap : Nat) (l : List Ver) (f : Int) (w : World) (h : Vers w A len l) (hm : len ≤ 900000) :
    Calls Try.prog 73 #[.slice A len cap, .int .i64 f] w fun e w' => ∃ R n c, e = .returned (.slice R n c) ∧ Own14 w w' R n c (His.trimL l f) ∧ Below w.heap.size w w' := by
  have hll := h.1
  have hRt := rightR_any A len cap l w h (by unfold maxLen; omega)
  have HV := Lib.hid h
  clear h
  go_enter Try.func73, Try.ntmps73
  go_wp2_with fail
  refine hRt.mono ?_
  rintro e w2 ⟨rfl, hb2⟩
  clear hRt
  cases hq : His.rightL l with
  | false =>
    have e0 : His.trimL l f = [] := if_neg (by rw [hq]; decide)
    have HE := Lib.hid e0
    clear e0
    go_wp2
    go_ret
    exact ⟨none, 0, 0, rfl, by rw [HE.out]; exact Own14.none _ _, hb2⟩
  | true =>
    have hAt := atR_any A len cap l f w2 (HV.out.below hb2) hm
    obtain ⟨p, hp⟩ : ∃ p : Ver → Bool, p = fun x => decide (f < x.r) := ⟨_, rfl⟩
    have hpx : ∀ x, p x = decide (f < x.r) := fun x => by rw [hp]
    obtain ⟨pre, hpre⟩ : ∃ pre, (His.atL l f).toList = pre := ⟨_, rfl⟩
    have hend : His.trimL l f = pre ++ l.filter p := by
      unfold His.trimL
      rw [if_pos hq, hpre, hp]
    have HE := Lib.hid hend
    have HP := Lib.hid hpx
    have HPre := Lib.hid hpre
    clear hp hend hpx hpre hq
    go_wp2_with fail
    refine hAt.mono ?_
    rintro e w3 ⟨rfl, hb3⟩
    have hb03 : Below w.heap.size w w3 := hb2.trans (hb3.mono hb2.size)
    have HB3 := Lib.hid hb03
    clear hAt hb2 hb3 hb03
    unfold atV
    have hpl : pre = (His.atL l f).toList := HPre.out.symm
    generalize His.atL l f = o at *
    cases o with
    | none =>
      obtain rfl : pre = [] := hpl
      dsimp only [Option.getD, Option.isSome, His.none_]
      go_wp2_with fail
      obtain ⟨W4, hW4⟩ : ∃ W4, w3.alloc (.cells #[.int .i64 0, .int .i64 0, .int .i64 0, .int .i64 0, .string ⟨#[]⟩, .int .i64 0, .bool false] 37) = W4 := ⟨_, rfl⟩
      rw [hW4]
      have hb0 : Below w.heap.size w W4 := by rw [← hW4]; exact HB3.out.alloc HB3.out.size _
      have hO0 := Own14.none w W4
      clear hW4
      have HO0 := Lib.hid (And.intro hO0 hb0)
      clear hO0 hb0
      go_loopw [5, 26] (fun v5 v26 wr => ∃ k : Nat, k ≤ len ∧ v26 = .int .i64 (k : Int) ∧ ∃ R n c, v5 = .slice R n c ∧ Own14 w wr R n c ([] ++ (l.take k).filter p) ∧ Below w.heap.size w wr) (fun _ v26 _ => len - (intOf v26).toNat)
      case atStart => exact ⟨0, Nat.zero_le _, rfl, none, 0, 0, rfl, by simpa using HO0.out.1, HO0.out.2⟩
      case round =>
        obtain ⟨k, hk, rfl, R, n, c, rfl, hO, hb⟩ := hrel
        have HB := Lib.hid (And.intro hO hb)
        have hnl : n ≤ len + 1 := by
          have h1 := hO.len
          have h2 := List.length_filter_le p (l.take k)
          simp only [List.length_append, List.length_nil, List.length_cons] at h1
          rw [List.length_take] at h2
          omega
        clear hO hb
        by_cases hlt : k < len
        · have l1 : decide ((k : Int) < (len : Int)) = true := decide_eq_true (by omega)
          have htf := take_filter p (show k < l.length by omega)
          obtain ⟨g, off, rfl, hg, hc⟩ := (HV.out.below HB.out.2).2 (by omega)
          obtain ⟨c0, c1, c2, c3, c4, c5, c6⟩ := hc k (by omega)
          obtain ⟨x, hx⟩ : ∃ x, l[k]'(by omega) = x := ⟨_, rfl⟩
          rw [hx] at c0 c1 c2 c3 c4 c5 c6 htf
          rw [HP.out x] at htf
          obtain ⟨ys, hys⟩ : ∃ ys, [] ++ (l.take k).filter p = ys := ⟨_, rfl⟩
          have hys2 : [] ++ (l.take (k + 1)).filter p = ys ++ if decide (f < x.r) = true then [x] else [] := by rw [htf, ← hys, List.append_assoc]
          have HI := Lib.hid (And.intro (show Own14 w wr R n c ys from by rw [← hys]; exact HB.out.1) HB.out.2)
          have HT := Lib.hid hys2
          have h1c : ∀ u ∈ ([.int .i64 x.r, .int .i64 x.k, .int .i64 x.m, .int .i64 x.v, .string x.s, .int .i64 x.l, .bool x.g] : List Value), u.oneCell' = true := fun u hu => rowH_one u x hu
          clear hc hx htf hys hys2
          by_cases h1 : f < x.r
          · have e1 : decide (f < x.r) = true := decide_eq_true h1
            have HY := Lib.hid e1
            clear h1
            go_wp2_with (at_builtin
                         go_loud (refine wpList_append_sp elem_ver _ rfl _ _ rfl R n c (rowH ys) rfl (HI.out.1.sp.keep fun q hq => (show Below wr.heap.size wr _ from (by repeat (first | exact Below.refl _ _ | apply Below.drew | apply below_drewN | refine Below.alloc ?_ (by simp) _))).block q (HI.out.1.sp.lt hq)) _ 1 1 [.int .i64 x.r, .int .i64 x.k, .int .i64 x.m, .int .i64 x.v, .string x.s, .int .i64 x.l, .bool x.g] rfl (fun e => by cases e) rfl h1c (fun b e => by cases e; exact cells_lit (C := [.int .i64 x.r, .int .i64 x.k, .int .i64 x.m, .int .i64 x.v, .string x.s, .int .i64 x.l, .bool x.g]) (by first | exact heap_alloc_new _ _ | exact heap_alloc2_new _ _ _)) (by omega) ?_)
                         intro A8 c8 w8 hsp8 hA8 hg8
                         have hP := HI.out.1.push HI.out.2 (show Below wr.heap.size wr _ from (by repeat (first | exact Below.refl _ _ | apply Below.drew | apply below_drewN | refine Below.alloc ?_ (by simp) _))) hg8 hsp8 hA8)
            go_roundw
            case rel => exact ⟨k + 1, hlt, by go_num, A8, n + 1, c8, rfl, by rw [HT.out, if_pos HY.out]; exact hP.1, hP.2⟩
            case measure =>
              simp [intOf]
              omega
          · have e1 : decide (f < x.r) = false := decide_eq_false h1
            have HY := Lib.hid e1
            clear h1
            go_wp2
            go_roundw
            case rel => exact ⟨k + 1, hlt, by go_num, R, n, c, rfl, by rw [HT.out, if_neg (by rw [HY.out]; decide), List.append_nil]; exact HI.out.1, HI.out.2⟩
            case measure =>
              simp [intOf]
              omega
        · obtain rfl : k = len := by omega
          have l1 : decide ((k : Int) < (k : Int)) = false := decide_eq_false (by omega)
          have htk : l.take k = l := List.take_of_length_le (by omega)
          have HO := Lib.hid (show Own14 w wr R n c (His.trimL l f) by rw [HE.out]; have := HB.out.1; rw [htk] at this; exact this)
          clear htk
          go_wp2
          go_ret
          exact ⟨R, n, c, rfl, HO.out, HB.out.2⟩

    | some y =>
      obtain rfl : pre = [y] := hpl
      dsimp only [Option.getD, Option.isSome]
      have HI := Lib.hid (And.intro (Own14.none w w3) HB3.out)
      have h1c : ∀ u ∈ ([.int .i64 y.r, .int .i64 y.k, .int .i64 y.m, .int .i64 y.v, .string y.s, .int .i64 y.l, .bool y.g] : List Value), u.oneCell' = true := fun u hu => rowH_one u y hu
      go_wp2_with (at_builtin
                   go_loud (refine wpList_append_sp elem_ver _ rfl _ _ rfl none 0 0 (rowH []) rfl (HI.out.1.sp.keep fun q hq => (show Below w3.heap.size w3 _ from (by repeat (first | exact Below.refl _ _ | apply Below.drew | apply below_drewN | refine Below.alloc ?_ (by simp) _))).block q (HI.out.1.sp.lt hq)) _ 1 1 [.int .i64 y.r, .int .i64 y.k, .int .i64 y.m, .int .i64 y.v, .string y.s, .int .i64 y.l, .bool y.g] rfl (fun e => by cases e) rfl h1c (fun b e => by cases e; exact cells_lit (C := [.int .i64 y.r, .int .i64 y.k, .int .i64 y.m, .int .i64 y.v, .string y.s, .int .i64 y.l, .bool y.g]) (by first | exact heap_alloc_new _ _ | exact heap_alloc2_new _ _ _)) (by omega) ?_)
                   intro A8 c8 w8 hsp8 hA8 hg8
                   have hP := HI.out.1.push HI.out.2 (show Below w3.heap.size w3 _ from (by repeat (first | exact Below.refl _ _ | apply Below.drew | apply below_drewN | refine Below.alloc ?_ (by simp) _))) hg8 hsp8 hA8)
      have hO0 : Own14 w w8 A8 1 c8 [y] := hP.1
      have hb0 := hP.2
      clear hP hsp8 hA8 hg8 h1c
      have HX := Lib.hid HI
      clear HI
      have HO0 := Lib.hid (And.intro hO0 hb0)
      clear hO0 hb0
      go_loopw [5, 26] (fun v5 v26 wr => ∃ k : Nat, k ≤ len ∧ v26 = .int .i64 (k : Int) ∧ ∃ R n c, v5 = .slice R n c ∧ Own14 w wr R n c ([y] ++ (l.take k).filter p) ∧ Below w.heap.size w wr) (fun _ v26 _ => len - (intOf v26).toNat)
      case atStart => exact ⟨0, Nat.zero_le _, rfl, A8, 1, c8, rfl, by simpa using HO0.out.1, HO0.out.2⟩
      case round =>
        obtain ⟨k, hk, rfl, R, n, c, rfl, hO, hb⟩ := hrel
        have HB := Lib.hid (And.intro hO hb)
        have hnl : n ≤ len + 1 := by
          have h1 := hO.len
          have h2 := List.length_filter_le p (l.take k)
          simp only [List.length_append, List.length_nil, List.length_cons] at h1
          rw [List.length_take] at h2
          omega
        clear hO hb
        by_cases hlt : k < len
        · have l1 : decide ((k : Int) < (len : Int)) = true := decide_eq_true (by omega)
          have htf := take_filter p (show k < l.length by omega)
          obtain ⟨g, off, rfl, hg, hc⟩ := (HV.out.below HB.out.2).2 (by omega)
          obtain ⟨c0, c1, c2, c3, c4, c5, c6⟩ := hc k (by omega)
          obtain ⟨x, hx⟩ : ∃ x, l[k]'(by omega) = x := ⟨_, rfl⟩
          rw [hx] at c0 c1 c2 c3 c4 c5 c6 htf
          rw [HP.out x] at htf
          obtain ⟨ys, hys⟩ : ∃ ys, [y] ++ (l.take k).filter p = ys := ⟨_, rfl⟩
          have hys2 : [y] ++ (l.take (k + 1)).filter p = ys ++ if decide (f < x.r) = true then [x] else [] := by rw [htf, ← hys, List.append_assoc]
          have HI := Lib.hid (And.intro (show Own14 w wr R n c ys from by rw [← hys]; exact HB.out.1) HB.out.2)
          have HT := Lib.hid hys2
          have h1c : ∀ u ∈ ([.int .i64 x.r, .int .i64 x.k, .int .i64 x.m, .int .i64 x.v, .string x.s, .int .i64 x.l, .bool x.g] : List Value), u.oneCell' = true := fun u hu => rowH_one u x hu
          clear hc hx htf hys hys2
          by_cases h1 : f < x.r
          · have e1 : decide (f < x.r) = true := decide_eq_true h1
            have HY := Lib.hid e1
            clear h1
            go_wp2_with (at_builtin
                         go_loud (refine wpList_append_sp elem_ver _ rfl _ _ rfl R n c (rowH ys) rfl (HI.out.1.sp.keep fun q hq => (show Below wr.heap.size wr _ from (by repeat (first | exact Below.refl _ _ | apply Below.drew | apply below_drewN | refine Below.alloc ?_ (by simp) _))).block q (HI.out.1.sp.lt hq)) _ 1 1 [.int .i64 x.r, .int .i64 x.k, .int .i64 x.m, .int .i64 x.v, .string x.s, .int .i64 x.l, .bool x.g] rfl (fun e => by cases e) rfl h1c (fun b e => by cases e; exact cells_lit (C := [.int .i64 x.r, .int .i64 x.k, .int .i64 x.m, .int .i64 x.v, .string x.s, .int .i64 x.l, .bool x.g]) (by first | exact heap_alloc_new _ _ | exact heap_alloc2_new _ _ _)) (by omega) ?_)
                         intro A8 c8 w8 hsp8 hA8 hg8
                         have hP := HI.out.1.push HI.out.2 (show Below wr.heap.size wr _ from (by repeat (first | exact Below.refl _ _ | apply Below.drew | apply below_drewN | refine Below.alloc ?_ (by simp) _))) hg8 hsp8 hA8)
            go_roundw
            case rel => exact ⟨k + 1, hlt, by go_num, A8, n + 1, c8, rfl, by rw [HT.out, if_pos HY.out]; exact hP.1, hP.2⟩
            case measure =>
              simp [intOf]
              omega
          · have e1 : decide (f < x.r) = false := decide_eq_false h1
            have HY := Lib.hid e1
            clear h1
            go_wp2
            go_roundw
            case rel => exact ⟨k + 1, hlt, by go_num, R, n, c, rfl, by rw [HT.out, if_neg (by rw [HY.out]; decide), List.append_nil]; exact HI.out.1, HI.out.2⟩
            case measure =>
              simp [intOf]
              omega
        · obtain rfl : k = len := by omega
          have l1 : decide ((k : Int) < (k : Int)) = false := decide_eq_false (by omega)
          have htk : l.take k = l := List.take_of_length_le (by omega)
          have HO := Lib.hid (show Own14 w wr R n c (His.trimL l f) by rw [HE.out]; have := HB.out.1; rw [htk] at this; exact this)
          clear htk
          go_wp2
          go_ret
          exact ⟨R, n, c, rfl, HO.out, HB.out.2⟩


end Go.Proofs.Ytcoddkbbgmjckaa

namespace Go.Proofs.Ytcoddkbbgmjckaa
open Go.RowKit
set_option linter.unusedVariables false
set_option linter.unusedSimpArgs false
attribute [local go_sem] Oper.semAt_some

theorem bytes_is (a b : ByteArray) : (a == b) = true ↔ a = b := by
  obtain ⟨a⟩ := a
  obtain ⟨b⟩ := b
  rw [ByteArray.mk.injEq]
  exact beq_iff_eq (a := a) (b := b)

theorem bytes_list (a b : ByteArray) : (a.toList == b.toList) = decide (a = b) := by
  rw [← Go.beq_toListBytes, Bool.eq_iff_iff, bytes_is, decide_eq_true_eq]

set_option maxHeartbeats 1600000 in
theorem ver_equal (x y : Ver) (W : World) : (Op.equalIn 10000 37 (verV x) (verV y)).run Try.prog W = .ok (decide (x = y)) W := by
  rw [show (10000 : Nat) = 9998 + 1 + 1 from rfl, run_equalIn_struct W (9998 + 1) 37 _ _ (by kernel_rfl) (by kernel_rfl)]
  unfold Program.fieldsOf
  rw [Try.underlying37]
  have e : (decide (x = y)) = (x.r == y.r && (x.k == y.k && (x.m == y.m && (x.v == y.v && (x.s.toList == y.s.toList && (x.l == y.l && (x.g == y.g))))))) := by
    obtain ⟨r, k, m, v, s, l, g⟩ := x
    obtain ⟨r', k', m', v', s', l', g'⟩ := y
    simp only [bytes_list]
    rw [Bool.eq_iff_iff]
    simp
  rw [e]
  simp [Op.eqFields, part, Sem.run_bind, Result.andThen, run_underlying Try.underlying2, run_underlying Try.underlying9, run_underlying Try.underlying4, run_equalIn_int _ 9998 2 .i64 .i64 _ _ Try.underlying2, run_equalIn_string _ 9998 9 _ _ Try.underlying9, run_equalIn_bool' _ 9998 4 _ _ Try.underlying4]
  repeat' split
  all_goals simp_all

theorem ver_neq (x y : Ver) (W : World) : (binOp .neq 37 (verV x) (verV y)).run Try.prog W = .ok (.bool (!decide (x = y))) W := by
  rw [run_neq_struct, ver_equal]
  rfl

theorem ver_eql (x y : Ver) (W : World) : (binOp .eql 37 (verV x) (verV y)).run Try.prog W = .ok (.bool (decide (x = y))) W := by
  rw [run_eql_struct, ver_equal]
  rfl

theorem ver_guard (op : BinOp) (a b : Operand) (xs ys : Array Value) (W : World) : (eqGuard op 37 a b (.agg xs) (.agg ys)).run Try.prog W = .ok () W := run_eqGuard_agg W op _ a b xs ys (by kernel_rfl)

set_option maxRecDepth 100000 in
set_option maxHeartbeats 3200000 in
theorem sameR_any (A : Option Addr) (la ca : Nat) (xs : List Ver) (B : Option Addr) (lb cb : Nat) (ys : List Ver) (w : World) (h : Vers w A la xs) (h' : Vers w B lb ys) (hm : la ≤ maxLen) (hm' : lb ≤ maxLen) :
    Calls Try.prog 52 #[.slice A la ca, .slice B lb cb] w fun e w' => e = .returned (.bool (decide (xs = ys))) ∧ Below w.heap.size w w' := by
  unfold maxLen at hm hm'
  have hlx := h.1
  have hly := h'.1
  have HX := Lib.hid h
  have HY := Lib.hid h'
  clear h h'
  by_cases hlen : la = lb
  · have e1 : ((la : Int) != (lb : Int)) = false := by rw [hlen]; simp
    subst hlen
    go_enter Try.func52, Try.ntmps52
    go_wp2_with fail
    go_loopw [13] (fun v13 wr => ∃ k : Nat, k ≤ la ∧ v13 = .int .i64 (k : Int) ∧ Below w.heap.size w wr ∧ ∀ i (hi : i < xs.length) (hi' : i < ys.length), i < k → xs[i] = ys[i]) (fun v13 _ => la - (intOf v13).toNat)
    case atStart => exact ⟨0, Nat.zero_le _, rfl, Below.refl _ _, fun i _ _ hi => absurd hi (by omega)⟩
    case round =>
      obtain ⟨k, hk, rfl, hb, hall⟩ := hrel
      have HALL := Lib.hid hall
      have HB := Lib.hid hb
      clear hall hb
      by_cases hlt : k < la
      · have l1 : decide ((k : Int) < (la : Int)) = true := decide_eq_true (by omega)
        obtain ⟨g, off, rfl, hg, hc⟩ := (HX.out.below HB.out).2 (by omega)
        obtain ⟨g', off', rfl, hg', hc'⟩ := (HY.out.below HB.out).2 (by omega)
        obtain ⟨c0, c1, c2, c3, c4, c5, c6⟩ := hc k (by omega)
        obtain ⟨d0, d1, d2, d3, d4, d5, d6⟩ := hc' k (by omega)
        obtain ⟨x, hx⟩ : ∃ x, xs[k]'(by omega) = x := ⟨_, rfl⟩
        obtain ⟨y, hy⟩ : ∃ y, ys[k]'(by omega) = y := ⟨_, rfl⟩
        rw [hx] at c0 c1 c2 c3 c4 c5 c6
        rw [hy] at d0 d1 d2 d3 d4 d5 d6
        have HXY := Lib.hid (And.intro hx hy)
        clear hc hc' hx hy
        have e0 : (k : Int) < (la : Int) := by omega
        have f1 := fun W => ver_neq x y W
        have f2 := ver_guard
        dsimp only [verV] at f1
        by_cases hxy : x = y
        · rw [decide_eq_true hxy] at f1
          have HQ := Lib.hid hxy
          clear hxy
          go_wp2_with fail
          go_big_quiet (fail)
          go_wp2
          go_roundw
          case rel => exact ⟨k + 1, hlt, by go_num, below_drewN HB.out _, fun i hi hi' h1 => by
            by_cases hik : i = k
            · subst hik
              rw [HXY.out.1, HXY.out.2, HQ.out]
            · exact HALL.out i hi hi' (by omega)⟩
          case measure =>
            simp [intOf]
            omega
        · rw [decide_eq_false hxy] at f1
          have HQ := Lib.hid (show decide (xs = ys) = false from decide_eq_false fun e => hxy (by rw [← HXY.out.1, ← HXY.out.2]; simp only [e]))
          clear hxy
          go_wp2_with fail
          go_big_quiet (fail)
          go_wp2
          go_ret
          exact ⟨by rw [HQ.out]; rfl, below_drewN HB.out _⟩
      · obtain rfl : k = la := by omega
        have l1 : decide ((k : Int) < (k : Int)) = false := decide_eq_false (by omega)
        have HQ := Lib.hid (show decide (xs = ys) = true from decide_eq_true (List.ext_getElem (by omega) fun i h1 h2 => HALL.out i h1 h2 (by omega)))
        go_wp2
        go_ret
        exact ⟨by rw [HQ.out]; rfl, HB.out⟩
  · have e1 : ((la : Int) != (lb : Int)) = true := by simp; omega
    have HQ := Lib.hid (show decide (xs = ys) = false from decide_eq_false fun e => hlen (by rw [← hlx, ← hly, e]))
    go_enter Try.func52, Try.ntmps52
    go_wp2
    go_ret
    exact ⟨by rw [HQ.out]; rfl, Below.refl _ _⟩

end Go.Proofs.Ytcoddkbbgmjckaa
