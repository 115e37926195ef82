/- The document's Trim, by its contract. (Written by mktrim.py.) -/
import Derived.Test.YtmihijlegacjdaaHisSince
namespace Go.Proofs.Ytmihijlegacjdaa
open Go.RowKit
set_option linter.unusedVariables false
set_option linter.unusedSimpArgs false
attribute [local go_sem] Oper.semAt_some

set_option maxRecDepth 100000 in
set_option maxHeartbeats 3200000 in
theorem trimR_any (A : Option Addr) (len cap : Nat) (l : List Ver) (f : Int) (w : World) (h : Vers w A len l) (hm : len ≤ 900000) :
    Calls Try.prog 22 #[.slice A len cap, .int .i64 f] w fun e w' => ∃ R n c, e = .returned (.slice R n c) ∧ Own14 w w' R n c (His.trimL l f) ∧ Below w.heap.size w w' := by
  have hll := h.1
  have hRt := rightR_any A len cap l w h (by unfold maxLen; omega)
  have HV := Lib.hid h
  clear h
  go_enter Try.func22, Try.ntmps22
  go_wp2_with fail
  refine hRt.mono ?_
  rintro e w2 ⟨rfl, hb2⟩
  clear hRt
  cases hq : His.rightL l with
  | false =>
    have e0 : His.trimL l f = [] := if_neg (by rw [hq]; decide)
    have HE := Lib.hid e0
    clear e0
    go_wp2
    go_ret
    exact ⟨none, 0, 0, rfl, by rw [HE.out]; exact Own14.none _ _, hb2⟩
  | true =>
    have hAt := atR_any A len cap l f w2 (HV.out.below hb2) hm
    obtain ⟨p, hp⟩ : ∃ p : Ver → Bool, p = fun x => decide (f < x.r) := ⟨_, rfl⟩
    have hpx : ∀ x, p x = decide (f < x.r) := fun x => by rw [hp]
    obtain ⟨pre, hpre⟩ : ∃ pre, (His.atL l f).toList = pre := ⟨_, rfl⟩
    have hend : His.trimL l f = pre ++ l.filter p := by
      unfold His.trimL
      rw [if_pos hq, hpre, hp]
    have HE := Lib.hid hend
    have HP := Lib.hid hpx
    have HPre := Lib.hid hpre
    clear hp hend hpx hpre hq
    go_wp2_with fail
    refine hAt.mono ?_
    rintro e w3 ⟨rfl, hb3⟩
    have hb03 : Below w.heap.size w w3 := hb2.trans (hb3.mono hb2.size)
    have HB3 := Lib.hid hb03
    clear hAt hb2 hb3 hb03
    unfold atV
    have hpl : pre = (His.atL l f).toList := HPre.out.symm
    generalize His.atL l f = o at *
    cases o with
    | none =>
      obtain rfl : pre = [] := hpl
      dsimp only [Option.getD, Option.isSome, His.none_]
      go_wp2_with fail
      obtain ⟨W4, hW4⟩ : ∃ W4, w3.alloc (.cells #[.int .i64 0, .int .i64 0, .int .i64 0, .int .i64 0, .string ⟨#[]⟩, .int .i64 0, .bool false] 26) = W4 := ⟨_, rfl⟩
      rw [hW4]
      have hb0 : Below w.heap.size w W4 := by rw [← hW4]; exact HB3.out.alloc HB3.out.size _
      have hO0 := Own14.none w W4
      clear hW4
      have HO0 := Lib.hid (And.intro hO0 hb0)
      clear hO0 hb0
      go_loopw [5, 26] (fun v5 v26 wr => ∃ k : Nat, k ≤ len ∧ v26 = .int .i64 (k : Int) ∧ ∃ R n c, v5 = .slice R n c ∧ Own14 w wr R n c ([] ++ (l.take k).filter p) ∧ Below w.heap.size w wr) (fun _ v26 _ => len - (intOf v26).toNat)
      case atStart => exact ⟨0, Nat.zero_le _, rfl, none, 0, 0, rfl, by simpa using HO0.out.1, HO0.out.2⟩
      case round =>
        obtain ⟨k, hk, rfl, R, n, c, rfl, hO, hb⟩ := hrel
        have HB := Lib.hid (And.intro hO hb)
        have hnl : n ≤ len + 1 := by
          have h1 := hO.len
          have h2 := List.length_filter_le p (l.take k)
          simp only [List.length_append, List.length_nil, List.length_cons] at h1
          rw [List.length_take] at h2
          omega
        clear hO hb
        by_cases hlt : k < len
        · have l1 : decide ((k : Int) < (len : Int)) = true := decide_eq_true (by omega)
          have htf := take_filter p (show k < l.length by omega)
          obtain ⟨g, off, rfl, hg, hc⟩ := (HV.out.below HB.out.2).2 (by omega)
          obtain ⟨c0, c1, c2, c3, c4, c5, c6⟩ := hc k (by omega)
          obtain ⟨x, hx⟩ : ∃ x, l[k]'(by omega) = x := ⟨_, rfl⟩
          rw [hx] at c0 c1 c2 c3 c4 c5 c6 htf
          rw [HP.out x] at htf
          obtain ⟨ys, hys⟩ : ∃ ys, [] ++ (l.take k).filter p = ys := ⟨_, rfl⟩
          have hys2 : [] ++ (l.take (k + 1)).filter p = ys ++ if decide (f < x.r) = true then [x] else [] := by rw [htf, ← hys, List.append_assoc]
          have HI := Lib.hid (And.intro (show Own14 w wr R n c ys from by rw [← hys]; exact HB.out.1) HB.out.2)
          have HT := Lib.hid hys2
          have h1c : ∀ u ∈ ([.int .i64 x.r, .int .i64 x.k, .int .i64 x.m, .int .i64 x.v, .string x.s, .int .i64 x.l, .bool x.g] : List Value), u.oneCell' = true := fun u hu => rowH_one u x hu
          clear hc hx htf hys hys2
          by_cases h1 : f < x.r
          · have e1 : decide (f < x.r) = true := decide_eq_true h1
            have HY := Lib.hid e1
            clear h1
            go_wp2_with (at_builtin
                         go_loud (refine wpList_append_sp elem_ver _ rfl _ _ rfl R n c (rowH ys) rfl (HI.out.1.sp.keep fun q hq => (show Below wr.heap.size wr _ from (by repeat (first | exact Below.refl _ _ | apply Below.drew | apply below_drewN | refine Below.alloc ?_ (by simp) _))).block q (HI.out.1.sp.lt hq)) _ 1 1 [.int .i64 x.r, .int .i64 x.k, .int .i64 x.m, .int .i64 x.v, .string x.s, .int .i64 x.l, .bool x.g] rfl (fun e => by cases e) rfl h1c (fun b e => by cases e; exact cells_lit (C := [.int .i64 x.r, .int .i64 x.k, .int .i64 x.m, .int .i64 x.v, .string x.s, .int .i64 x.l, .bool x.g]) (by first | exact heap_alloc_new _ _ | exact heap_alloc2_new _ _ _)) (by omega) ?_)
                         intro A8 c8 w8 hsp8 hA8 hg8
                         have hP := HI.out.1.push HI.out.2 (show Below wr.heap.size wr _ from (by repeat (first | exact Below.refl _ _ | apply Below.drew | apply below_drewN | refine Below.alloc ?_ (by simp) _))) hg8 hsp8 hA8)
            go_roundw
            case rel => exact ⟨k + 1, hlt, by go_num, A8, n + 1, c8, rfl, by rw [HT.out, if_pos HY.out]; exact hP.1, hP.2⟩
            case measure =>
              simp [intOf]
              omega
          · have e1 : decide (f < x.r) = false := decide_eq_false h1
            have HY := Lib.hid e1
            clear h1
            go_wp2
            go_roundw
            case rel => exact ⟨k + 1, hlt, by go_num, R, n, c, rfl, by rw [HT.out, if_neg (by rw [HY.out]; decide), List.append_nil]; exact HI.out.1, HI.out.2⟩
            case measure =>
              simp [intOf]
              omega
        · obtain rfl : k = len := by omega
          have l1 : decide ((k : Int) < (k : Int)) = false := decide_eq_false (by omega)
          have htk : l.take k = l := List.take_of_length_le (by omega)
          have HO := Lib.hid (show Own14 w wr R n c (His.trimL l f) by rw [HE.out]; have := HB.out.1; rw [htk] at this; exact this)
          clear htk
          go_wp2
          go_ret
          exact ⟨R, n, c, rfl, HO.out, HB.out.2⟩

    | some y =>
      obtain rfl : pre = [y] := hpl
      dsimp only [Option.getD, Option.isSome]
      have HI := Lib.hid (And.intro (Own14.none w w3) HB3.out)
      have h1c : ∀ u ∈ ([.int .i64 y.r, .int .i64 y.k, .int .i64 y.m, .int .i64 y.v, .string y.s, .int .i64 y.l, .bool y.g] : List Value), u.oneCell' = true := fun u hu => rowH_one u y hu
      go_wp2_with (at_builtin
                   go_loud (refine wpList_append_sp elem_ver _ rfl _ _ rfl none 0 0 (rowH []) rfl (HI.out.1.sp.keep fun q hq => (show Below w3.heap.size w3 _ from (by repeat (first | exact Below.refl _ _ | apply Below.drew | apply below_drewN | refine Below.alloc ?_ (by simp) _))).block q (HI.out.1.sp.lt hq)) _ 1 1 [.int .i64 y.r, .int .i64 y.k, .int .i64 y.m, .int .i64 y.v, .string y.s, .int .i64 y.l, .bool y.g] rfl (fun e => by cases e) rfl h1c (fun b e => by cases e; exact cells_lit (C := [.int .i64 y.r, .int .i64 y.k, .int .i64 y.m, .int .i64 y.v, .string y.s, .int .i64 y.l, .bool y.g]) (by first | exact heap_alloc_new _ _ | exact heap_alloc2_new _ _ _)) (by omega) ?_)
                   intro A8 c8 w8 hsp8 hA8 hg8
                   have hP := HI.out.1.push HI.out.2 (show Below w3.heap.size w3 _ from (by repeat (first | exact Below.refl _ _ | apply Below.drew | apply below_drewN | refine Below.alloc ?_ (by simp) _))) hg8 hsp8 hA8)
      have hO0 : Own14 w w8 A8 1 c8 [y] := hP.1
      have hb0 := hP.2
      clear hP hsp8 hA8 hg8 h1c
      have HX := Lib.hid HI
      clear HI
      have HO0 := Lib.hid (And.intro hO0 hb0)
      clear hO0 hb0
      go_loopw [5, 26] (fun v5 v26 wr => ∃ k : Nat, k ≤ len ∧ v26 = .int .i64 (k : Int) ∧ ∃ R n c, v5 = .slice R n c ∧ Own14 w wr R n c ([y] ++ (l.take k).filter p) ∧ Below w.heap.size w wr) (fun _ v26 _ => len - (intOf v26).toNat)
      case atStart => exact ⟨0, Nat.zero_le _, rfl, A8, 1, c8, rfl, by simpa using HO0.out.1, HO0.out.2⟩
      case round =>
        obtain ⟨k, hk, rfl, R, n, c, rfl, hO, hb⟩ := hrel
        have HB := Lib.hid (And.intro hO hb)
        have hnl : n ≤ len + 1 := by
          have h1 := hO.len
          have h2 := List.length_filter_le p (l.take k)
          simp only [List.length_append, List.length_nil, List.length_cons] at h1
          rw [List.length_take] at h2
          omega
        clear hO hb
        by_cases hlt : k < len
        · have l1 : decide ((k : Int) < (len : Int)) = true := decide_eq_true (by omega)
          have htf := take_filter p (show k < l.length by omega)
          obtain ⟨g, off, rfl, hg, hc⟩ := (HV.out.below HB.out.2).2 (by omega)
          obtain ⟨c0, c1, c2, c3, c4, c5, c6⟩ := hc k (by omega)
          obtain ⟨x, hx⟩ : ∃ x, l[k]'(by omega) = x := ⟨_, rfl⟩
          rw [hx] at c0 c1 c2 c3 c4 c5 c6 htf
          rw [HP.out x] at htf
          obtain ⟨ys, hys⟩ : ∃ ys, [y] ++ (l.take k).filter p = ys := ⟨_, rfl⟩
          have hys2 : [y] ++ (l.take (k + 1)).filter p = ys ++ if decide (f < x.r) = true then [x] else [] := by rw [htf, ← hys, List.append_assoc]
          have HI := Lib.hid (And.intro (show Own14 w wr R n c ys from by rw [← hys]; exact HB.out.1) HB.out.2)
          have HT := Lib.hid hys2
          have h1c : ∀ u ∈ ([.int .i64 x.r, .int .i64 x.k, .int .i64 x.m, .int .i64 x.v, .string x.s, .int .i64 x.l, .bool x.g] : List Value), u.oneCell' = true := fun u hu => rowH_one u x hu
          clear hc hx htf hys hys2
          by_cases h1 : f < x.r
          · have e1 : decide (f < x.r) = true := decide_eq_true h1
            have HY := Lib.hid e1
            clear h1
            go_wp2_with (at_builtin
                         go_loud (refine wpList_append_sp elem_ver _ rfl _ _ rfl R n c (rowH ys) rfl (HI.out.1.sp.keep fun q hq => (show Below wr.heap.size wr _ from (by repeat (first | exact Below.refl _ _ | apply Below.drew | apply below_drewN | refine Below.alloc ?_ (by simp) _))).block q (HI.out.1.sp.lt hq)) _ 1 1 [.int .i64 x.r, .int .i64 x.k, .int .i64 x.m, .int .i64 x.v, .string x.s, .int .i64 x.l, .bool x.g] rfl (fun e => by cases e) rfl h1c (fun b e => by cases e; exact cells_lit (C := [.int .i64 x.r, .int .i64 x.k, .int .i64 x.m, .int .i64 x.v, .string x.s, .int .i64 x.l, .bool x.g]) (by first | exact heap_alloc_new _ _ | exact heap_alloc2_new _ _ _)) (by omega) ?_)
                         intro A8 c8 w8 hsp8 hA8 hg8
                         have hP := HI.out.1.push HI.out.2 (show Below wr.heap.size wr _ from (by repeat (first | exact Below.refl _ _ | apply Below.drew | apply below_drewN | refine Below.alloc ?_ (by simp) _))) hg8 hsp8 hA8)
            go_roundw
            case rel => exact ⟨k + 1, hlt, by go_num, A8, n + 1, c8, rfl, by rw [HT.out, if_pos HY.out]; exact hP.1, hP.2⟩
            case measure =>
              simp [intOf]
              omega
          · have e1 : decide (f < x.r) = false := decide_eq_false h1
            have HY := Lib.hid e1
            clear h1
            go_wp2
            go_roundw
            case rel => exact ⟨k + 1, hlt, by go_num, R, n, c, rfl, by rw [HT.out, if_neg (by rw [HY.out]; decide), List.append_nil]; exact HI.out.1, HI.out.2⟩
            case measure =>
              simp [intOf]
              omega
        · obtain rfl : k = len := by omega
          have l1 : decide ((k : Int) < (k : Int)) = false := decide_eq_false (by omega)
          have htk : l.take k = l := List.take_of_length_le (by omega)
          have HO := Lib.hid (show Own14 w wr R n c (His.trimL l f) by rw [HE.out]; have := HB.out.1; rw [htk] at this; exact this)
          clear htk
          go_wp2
          go_ret
          exact ⟨R, n, c, rfl, HO.out, HB.out.2⟩


end Go.Proofs.Ytmihijlegacjdaa
