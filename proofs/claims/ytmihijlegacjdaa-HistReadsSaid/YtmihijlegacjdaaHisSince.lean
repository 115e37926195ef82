/- The document's Since and Trim, by their contracts. (Written by mksince.py.) -/
import Derived.Test.YtmihijlegacjdaaHisAt
namespace Go.Proofs.Ytmihijlegacjdaa
open Go.RowKit
set_option linter.unusedVariables false
set_option linter.unusedSimpArgs false
attribute [local go_sem] Oper.semAt_some

/-- A version more. -/
theorem Own14.push {w0 wr X w8 : World} {R A8 : Option Addr} {n c c8 : Nat} {l : List Ver} {x : Ver} (h : Own14 w0 wr R n c l) (hb : Below w0.heap.size w0 wr) (hX : Below wr.heap.size wr X) (hg : Grew X w8 R) (hsp : Sp 26 7 w8 A8 (n + 1) c8 (rowH l ++ verC x)) (hA : ∀ q, blk A8 q → blk R q ∨ X.heap.size ≤ q) :
    Own14 w0 w8 A8 (n + 1) c8 (l ++ [x]) ∧ Below w0.heap.size w0 w8 := by
  have h1 := hb.size
  have h2 := hX.size
  refine ⟨⟨by rw [rowH_add]; exact hsp, fun q hq => ?_⟩, hg.below (hb.trans (hX.mono h1)) (by omega) h.new⟩
  rcases hA q hq with h3 | h3
  · exact h.new q h3
  · omega

theorem take_filter {l : List Ver} (p : Ver → Bool) {k : Nat} (hk : k < l.length) : (l.take (k + 1)).filter p = (l.take k).filter p ++ if p l[k] = true then [l[k]] else [] := by
  rw [List.take_succ_eq_append_getElem hk, List.filter_append]
  by_cases h : p l[k] = true <;> simp [h]

theorem Own14.len {w0 w : World} {R : Option Addr} {n c : Nat} {l : List Ver} (h : Own14 w0 w R n c l) : l.length = n := h.sp.vers.1

theorem Own14.next {w0 w w' : World} {R : Option Addr} {n c : Nat} {l : List Ver} (h : Own14 w0 w R n c l) (hb : Below w.heap.size w w') : Own14 w0 w' R n c l := ⟨h.sp.keep fun q hq => hb.block q (h.sp.lt hq), h.new⟩

set_option maxRecDepth 100000 in
set_option maxHeartbeats 3200000 in
theorem sinceR_any (A : Option Addr) (len cap : Nat) (l : List Ver) (a b : Int) (w : World) (h : Vers w A len l) (hm : len ≤ 900000) :
    Calls Try.prog 21 #[.slice A len cap, .int .i64 a, .int .i64 b] w fun e w' => ∃ R n c, e = .returned (.slice R n c) ∧ Own14 w w' R n c (His.sinceL l a b) ∧ Below w.heap.size w w' := by
  have hll := h.1
  have HV := Lib.hid h
  clear h
  obtain ⟨p, hp⟩ : ∃ p : Ver → Bool, p = fun x => His.rightL l && decide (a ≤ x.r ∧ x.r ≤ b) := ⟨_, rfl⟩
  have hpx : ∀ x, p x = (His.rightL l && decide (a ≤ x.r ∧ x.r ≤ b)) := fun x => by rw [hp]
  have hend : His.sinceL l a b = l.filter p := by
    unfold His.sinceL
    cases hq : His.rightL l with
    | true =>
      rw [if_pos rfl]
      exact List.filter_congr fun x _ => by rw [hpx, hq, Bool.true_and]
    | false =>
      rw [if_neg (by decide), List.filter_eq_nil_iff.2 fun x _ => by rw [hpx, hq]; simp]
  have HE := Lib.hid hend
  have HP := Lib.hid hpx
  clear hp hend hpx
  go_enter Try.func21, Try.ntmps21
  go_wp2_with fail
  go_loopw [7, 11] (fun v7 v11 wr => ∃ k : Nat, k ≤ len ∧ v11 = .int .i64 (k : Int) ∧ ∃ R n c, v7 = .slice R n c ∧ Own14 w wr R n c ((l.take k).filter p) ∧ Below w.heap.size w wr) (fun _ v11 _ => len - (intOf v11).toNat)
  case atStart => exact ⟨0, Nat.zero_le _, rfl, none, 0, 0, rfl, Own14.none _ _, Below.refl _ _⟩
  case round =>
    obtain ⟨k, hk, rfl, R, n, c, rfl, hO, hb⟩ := hrel
    have HB := Lib.hid (And.intro hO hb)
    have hnl : n ≤ len := by
      have h1 := hO.len
      have h2 := List.length_filter_le p (l.take k)
      rw [List.length_take] at h2
      omega
    clear hO hb
    by_cases hlt : k < len
    · have l1 : decide ((k : Int) < (len : Int)) = true := decide_eq_true (by omega)
      have hRt := rightR_any A len cap l wr (HV.out.below HB.out.2) (by unfold maxLen; omega)
      have htf := take_filter p (show k < l.length by omega)
      go_wp2_with fail
      refine hRt.mono ?_
      rintro e w2 ⟨rfl, hb2⟩
      have hb2w := HB.out.2.trans (hb2.mono HB.out.2.size)
      obtain ⟨g, off, rfl, hg, hc⟩ := (HV.out.below hb2w).2 (by omega)
      obtain ⟨c0, c1, c2, c3, c4, c5, c6⟩ := hc k (by omega)
      obtain ⟨x, hx⟩ : ∃ x, l[k]'(by omega) = x := ⟨_, rfl⟩
      rw [hx] at c0 c1 c2 c3 c4 c5 c6 htf
      rw [HP.out x] at htf
      obtain ⟨ys, hys⟩ : ∃ ys, (l.take k).filter p = ys := ⟨_, rfl⟩
      rw [hys] at htf
      have HI := Lib.hid (And.intro (show Own14 w w2 R n c ys from by rw [← hys]; exact HB.out.1.next hb2) hb2w)
      have HT := Lib.hid htf
      have h1c : ∀ u ∈ ([.int .i64 x.r, .int .i64 x.k, .int .i64 x.m, .int .i64 x.v, .string x.s, .int .i64 x.l, .bool x.g] : List Value), u.oneCell' = true := fun u hu => rowH_one u x hu
      clear hc hx hRt htf hys hb2 hb2w
      generalize His.rightL l = q at *
      cases q with
      | false =>
        go_wp2
        go_roundw
        case rel => exact ⟨k + 1, hlt, by go_num, R, n, c, rfl, by rw [HT.out]; simpa using HI.out.1, HI.out.2⟩
        case measure =>
          simp [intOf]
          omega
      | true =>
        by_cases h1 : a ≤ x.r
        · have e1 : decide (a ≤ x.r) = true := decide_eq_true h1
          by_cases h2 : x.r ≤ b
          · have e2 : decide (x.r ≤ b) = true := decide_eq_true h2
            have HY := Lib.hid (show (true && decide (a ≤ x.r ∧ x.r ≤ b)) = true by simp [h1, h2])
            clear h1 h2
            go_wp2_with (at_builtin
                         go_loud (refine wpList_append_sp elem_ver _ rfl _ _ rfl R n c (rowH ys) rfl (HI.out.1.sp.keep fun q hq => (show Below w2.heap.size w2 _ from (by repeat (first | exact Below.refl _ _ | apply Below.drew | apply below_drewN | refine Below.alloc ?_ (by simp) _))).block q (HI.out.1.sp.lt hq)) _ 1 1 [.int .i64 x.r, .int .i64 x.k, .int .i64 x.m, .int .i64 x.v, .string x.s, .int .i64 x.l, .bool x.g] rfl (fun e => by cases e) rfl h1c (fun b e => by cases e; exact cells_lit (C := [.int .i64 x.r, .int .i64 x.k, .int .i64 x.m, .int .i64 x.v, .string x.s, .int .i64 x.l, .bool x.g]) (heap_alloc_new _ _)) (by omega) ?_)
                         intro A8 c8 w8 hsp8 hA8 hg8
                         have hP := HI.out.1.push HI.out.2 (show Below w2.heap.size w2 _ from (by repeat (first | exact Below.refl _ _ | apply Below.drew | apply below_drewN | refine Below.alloc ?_ (by simp) _))) hg8 hsp8 hA8)
            go_roundw
            case rel => exact ⟨k + 1, hlt, by go_num, A8, n + 1, c8, rfl, by rw [HT.out, if_pos HY.out]; exact hP.1, hP.2⟩
            case measure =>
              simp [intOf]
              omega
          · have e2 : decide (x.r ≤ b) = false := decide_eq_false h2
            have HY := Lib.hid (show ¬ (true && decide (a ≤ x.r ∧ x.r ≤ b)) = true by simp [h2])
            clear h1 h2
            go_wp2
            go_roundw
            case rel => exact ⟨k + 1, hlt, by go_num, R, n, c, rfl, by rw [HT.out, if_neg HY.out, List.append_nil]; exact HI.out.1, HI.out.2⟩
            case measure =>
              simp [intOf]
              omega
        · have e1 : decide (a ≤ x.r) = false := decide_eq_false h1
          have HY := Lib.hid (show ¬ (true && decide (a ≤ x.r ∧ x.r ≤ b)) = true by simp [h1])
          clear h1
          go_wp2
          go_roundw
          case rel => exact ⟨k + 1, hlt, by go_num, R, n, c, rfl, by rw [HT.out, if_neg HY.out, List.append_nil]; exact HI.out.1, HI.out.2⟩
          case measure =>
            simp [intOf]
            omega
    · obtain rfl : k = len := by omega
      have l1 : decide ((k : Int) < (k : Int)) = false := decide_eq_false (by omega)
      have htk : l.take k = l := List.take_of_length_le (by omega)
      have HO := Lib.hid (show Own14 w wr R n c (His.sinceL l a b) by rw [HE.out, ← htk]; have := HB.out.1; rw [htk] at this ⊢; exact this)
      clear htk
      go_wp2
      go_ret
      exact ⟨R, n, c, rfl, HO.out, HB.out.2⟩

end Go.Proofs.Ytmihijlegacjdaa
