/- The program's Since and Trim, by their contracts. (Written by mkpg.py.) -/
import Derived.Test.YtmihijlegacjdaaHisPf
namespace Go.Proofs.Ytmihijlegacjdaa
open Go.RowKit
set_option linter.unusedVariables false
set_option linter.unusedSimpArgs false
attribute [local go_sem] Oper.semAt_some

theorem Sp.empty {T : TypeId} {sz : Nat} {w : World} {g : Nat} (h : w.heap[g]? = some (.cells #[] T)) : Sp T sz w (some ⟨g, 0, none⟩) 0 0 [] :=
  ⟨by simp, Nat.le_refl _, (fun e => by cases e), fun a e => ⟨g, 0, #[], by injection e with e; exact e.symm, h, by simp, fun j u hu => by simp at hu⟩⟩

theorem Vers.drop {w : World} {A : Option Addr} {len cap : Nat} {l : List Ver} (h : Vers w A len l) {k : Nat} (hk : k ≤ len) (hlc : len ≤ cap) : Vers w (tailS 7 A cap k) (len - k) (l.drop k) := by
  have hll := h.1
  refine ⟨by rw [List.length_drop]; omega, fun h0 => ?_⟩
  obtain ⟨g, off, e, hg, hc⟩ := h.2 (by omega)
  refine ⟨g, off + k * 7, ?_, hg, fun j hj => ?_⟩
  · unfold tailS
    rw [if_neg (by omega), e, Option.map_some, Addr.add_lit]
  · rw [List.length_drop] at hj
    rw [List.getElem_drop]
    have hx := hc (k + j) (by omega)
    rw [show off + k * 7 + j * 7 = off + (k + j) * 7 by omega]
    exact hx

set_option maxRecDepth 100000 in
set_option maxHeartbeats 3200000 in
theorem sinceP_any (A : Option Addr) (len cap : Nat) (l : List Ver) (a b : Int) (w : World) (h : Vers w A len l) (hlc : len ≤ cap) (hm : len ≤ 900000) :
    Calls Try.prog 15 #[.slice A len cap, .int .i64 a, .int .i64 b] w fun e w' => ∃ R n c, e = .returned (.slice R n c) ∧ Own14 w w' R n c (His.sinceL l a b) ∧ Below w.heap.size w w' := by
  have hll := h.1
  have hRt := rightP_any A len cap l w h hlc hm
  have HV := Lib.hid h
  clear h
  cases hq : His.rightL l with
  | false =>
    rw [hq] at hRt
    have HE := Lib.hid (show His.sinceL l a b = [] from if_neg (by rw [hq]; decide))
    clear hq
    go_enter Try.func15, Try.ntmps15
    go_wp2_with fail
    refine hRt.mono ?_
    rintro e w2 ⟨rfl, hb2⟩
    go_wp2
    go_ret
    exact ⟨none, 0, 0, rfl, by rw [HE.out]; exact Own14.none _ _, hb2⟩
  | true =>
    rw [hq] at hRt
    obtain ⟨p, hp⟩ : ∃ p : Ver → Bool, p = fun x => decide (a ≤ x.r ∧ x.r ≤ b) := ⟨_, rfl⟩
    have HP := Lib.hid (show ∀ x, p x = decide (a ≤ x.r ∧ x.r ≤ b) from fun x => by rw [hp])
    have HE := Lib.hid (show His.sinceL l a b = l.filter p by rw [hp]; exact if_pos hq)
    clear hq hp
    go_enter Try.func15, Try.ntmps15
    go_wp2_with fail
    refine hRt.mono ?_
    rintro e w2 ⟨rfl, hb2⟩
    have hb3 : Below w.heap.size w (w2.alloc (.cells #[] 26)) := hb2.alloc hb2.size _
    have hz3 : (w2.alloc (.cells #[] 26)).heap[w2.heap.size]? = some (.cells #[] 26) := heap_alloc_new _ _
    have H3 := Lib.hid (And.intro (show Own14 w (w2.alloc (.cells #[] 26)) (some ⟨w2.heap.size, 0, none⟩) 0 0 [] from ⟨Sp.empty hz3, fun q hq => by rw [blk_some] at hq; have := hb2.size; omega⟩) hb3)
    clear hRt hb2 hb3 hz3
    go_wp2_with fail
    go_loopw [7, 16] (fun v7 v16 wr => ∃ k : Nat, k ≤ len ∧ v16 = .int .i64 (k : Int) ∧ ∃ R n c, v7 = .slice R n c ∧ Own14 w wr R n c ((l.take k).filter p) ∧ Below w.heap.size w wr) (fun _ v16 _ => len - (intOf v16).toNat)
    case atStart => exact ⟨0, Nat.zero_le _, rfl, some ⟨w2.heap.size, 0, none⟩, 0, 0, rfl, by simpa using H3.out.1, H3.out.2⟩
    case round =>
      obtain ⟨k, hk, rfl, R, n, c, rfl, hO, hb⟩ := hrel
      have HB := Lib.hid (And.intro hO hb)
      have hnl : n ≤ len := by
        have h1 := hO.len
        have h2 := List.length_filter_le p (l.take k)
        rw [List.length_take] at h2
        omega
      clear hO hb
      by_cases hlt : k < len
      · have l1 : decide ((k : Int) < (len : Int)) = true := decide_eq_true (by omega)
        have k4 : (k : Int) < (len : Int) := by omega
        have htf := take_filter p (show k < l.length by omega)
        obtain ⟨g, off, rfl, hg, hc⟩ := (HV.out.below HB.out.2).2 (by omega)
        obtain ⟨c0, c1, c2, c3, c4, c5, c6⟩ := hc k (by omega)
        obtain ⟨x, hx⟩ : ∃ x, l[k]'(by omega) = x := ⟨_, rfl⟩
        rw [hx] at c0 c1 c2 c3 c4 c5 c6 htf
        rw [HP.out x] at htf
        obtain ⟨ys, hys⟩ : ∃ ys, (l.take k).filter p = ys := ⟨_, rfl⟩
        rw [hys] at htf
        have HI := Lib.hid (And.intro (show Own14 w wr R n c ys from by rw [← hys]; exact HB.out.1) HB.out.2)
        have HT := Lib.hid htf
        have h1c : ∀ u ∈ ([.int .i64 x.r, .int .i64 x.k, .int .i64 x.m, .int .i64 x.v, .string x.s, .int .i64 x.l, .bool x.g] : List Value), u.oneCell' = true := fun u hu => rowH_one u x hu
        clear hc hx htf hys
        by_cases h1 : a ≤ x.r
        · have e1 : decide (a ≤ x.r) = true := decide_eq_true h1
          by_cases h2 : x.r ≤ b
          · have e2 : decide (x.r ≤ b) = true := decide_eq_true h2
            have HY := Lib.hid (show decide (a ≤ x.r ∧ x.r ≤ b) = true by simp [h1, h2])
            clear h1 h2
            go_upto_region 8 with fail
            obtain ⟨W8, hW8⟩ : ∃ W8, wr.alloc (.cells #[.int .i64 x.r, .int .i64 x.k, .int .i64 x.m, .int .i64 x.v, .string x.s, .int .i64 x.l, .bool x.g] 26) = W8 := ⟨_, rfl⟩
            rw [hW8]
            have hr8 : W8.heap[wr.heap.size]? = some (.cells #[.int .i64 x.r, .int .i64 x.k, .int .i64 x.m, .int .i64 x.v, .string x.s, .int .i64 x.l, .bool x.g] 26) := by rw [← hW8]; exact heap_alloc_new wr _
            have hb8 : Below wr.heap.size wr W8 := by rw [← hW8]; exact (Below.refl _ _).alloc (Nat.le_refl _) _
            obtain ⟨x0, x1, x2, x3, x4, x5, x6⟩ := (row7 hr8).1
            have HJ := Lib.hid (And.intro (HI.out.1.next hb8) (HI.out.2.trans (hb8.mono HI.out.2.size)))
            clear hW8 hr8 hb8 c0 c1 c2 c3 c4 c5 c6
            go_wp2_with (at_builtin
                         go_loud (refine wpList_append_sp elem_ver _ rfl _ _ rfl R n c (rowH ys) rfl (HJ.out.1.sp.keep fun q hq => (show Below W8.heap.size W8 _ from (by repeat (first | exact Below.refl _ _ | apply Below.drew | apply below_drewN | refine Below.alloc ?_ (by simp) _))).block q (HJ.out.1.sp.lt hq)) _ 1 1 [.int .i64 x.r, .int .i64 x.k, .int .i64 x.m, .int .i64 x.v, .string x.s, .int .i64 x.l, .bool x.g] rfl (fun e => by cases e) rfl h1c (fun b e => by cases e; exact cells_lit (C := [.int .i64 x.r, .int .i64 x.k, .int .i64 x.m, .int .i64 x.v, .string x.s, .int .i64 x.l, .bool x.g]) (heap_alloc_new _ _)) (by omega) ?_)
                         intro A8 c8 w8 hsp8 hA8 hg8
                         have hP := HJ.out.1.push HJ.out.2 (show Below W8.heap.size W8 _ from (by repeat (first | exact Below.refl _ _ | apply Below.drew | apply below_drewN | refine Below.alloc ?_ (by simp) _))) hg8 hsp8 hA8)
            go_roundw
            case rel => exact ⟨k + 1, by omega, by go_num, A8, n + 1, c8, rfl, by rw [HT.out, if_pos HY.out]; exact hP.1, hP.2⟩
            case measure =>
              simp [intOf]
              omega
          · have e2 : decide (x.r ≤ b) = false := decide_eq_false h2
            have HY := Lib.hid (show ¬ decide (a ≤ x.r ∧ x.r ≤ b) = true by simp [h2])
            clear h1 h2
            go_wp2
            go_roundw
            case rel => exact ⟨k + 1, by omega, by go_num, R, n, c, rfl, by rw [HT.out, if_neg HY.out, List.append_nil]; exact HI.out.1.next (show Below wr.heap.size wr _ from (by repeat (first | exact Below.refl _ _ | apply Below.drew | apply below_drewN | refine Below.alloc ?_ (by simp) _))), HI.out.2.trans ((show Below wr.heap.size wr _ from (by repeat (first | exact Below.refl _ _ | apply Below.drew | apply below_drewN | refine Below.alloc ?_ (by simp) _))).mono HI.out.2.size)⟩
            case measure =>
              simp [intOf]
              omega
        · have e1 : decide (a ≤ x.r) = false := decide_eq_false h1
          have HY := Lib.hid (show ¬ decide (a ≤ x.r ∧ x.r ≤ b) = true by simp [h1])
          clear h1
          go_wp2
          go_roundw
          case rel => exact ⟨k + 1, by omega, by go_num, R, n, c, rfl, by rw [HT.out, if_neg HY.out, List.append_nil]; exact HI.out.1.next (show Below wr.heap.size wr _ from (by repeat (first | exact Below.refl _ _ | apply Below.drew | apply below_drewN | refine Below.alloc ?_ (by simp) _))), HI.out.2.trans ((show Below wr.heap.size wr _ from (by repeat (first | exact Below.refl _ _ | apply Below.drew | apply below_drewN | refine Below.alloc ?_ (by simp) _))).mono HI.out.2.size)⟩
          case measure =>
            simp [intOf]
            omega
      · obtain rfl : k = len := by omega
        have l1 : decide ((k : Int) < (k : Int)) = false := decide_eq_false (by omega)
        have htk : l.take k = l := List.take_of_length_le (by omega)
        have HO := Lib.hid (show Own14 w wr R n c (His.sinceL l a b) by rw [HE.out, ← htk]; have := HB.out.1; rw [htk] at this ⊢; exact this)
        clear htk
        go_wp2
        go_ret
        exact ⟨R, n, c, rfl, HO.out, HB.out.2⟩

set_option maxRecDepth 100000 in
set_option maxHeartbeats 3200000 in
theorem trimP_any (A : Option Addr) (len cap : Nat) (l : List Ver) (f : Int) (w : World) (h : Vers w A len l) (hlc : len ≤ cap) (hm : len ≤ 900000) :
    Calls Try.prog 16 #[.slice A len cap, .int .i64 f] w fun e w' => ∃ R n c, e = .returned (.slice R n c) ∧ Own14 w w' R n c (His.trimL l f) ∧ Below w.heap.size w w' := by
  have hll := h.1
  have hRt := rightP_any A len cap l w h hlc hm
  have HV := Lib.hid h
  clear h
  cases hq : His.rightL l with
  | false =>
    rw [hq] at hRt
    have HE := Lib.hid (show His.trimL l f = [] from if_neg (by rw [hq]; decide))
    clear hq
    go_enter Try.func16, Try.ntmps16
    go_wp2_with fail
    refine hRt.mono ?_
    rintro e w2 ⟨rfl, hb2⟩
    go_wp2
    go_ret
    exact ⟨none, 0, 0, rfl, by rw [HE.out]; exact Own14.none _ _, hb2⟩
  | true =>
    rw [hq] at hRt
    have HR := Lib.hid ((His.right_iff l).1 hq)
    clear hq
    go_enter Try.func16, Try.ntmps16
    go_wp2_with fail
    refine hRt.mono ?_
    rintro e w2 ⟨rfl, hb2⟩
    have hU := uptoP_any A len cap l f w2 (HV.out.below hb2) hm
    go_wp2_with fail
    refine hU.mono ?_
    rintro e w2' ⟨k, rfl, hk, rfl⟩
    have hkl := hk.le
    have htr := hk.trim HR.out
    have hsl := fun W => slice_to (A := A) (n := len) (cap := cap) elem_ver (k := k) (by omega) W
    have hL := lastP_any A k cap (l.take k) w2 ((HV.out.below hb2).take (by omega)) (by omega)
    have hk0 : k = 0 → His.liveO (l.take k).getLast? = none := fun e => by subst e; rfl
    have HB := Lib.hid hb2
    unfold atV at hL
    dsimp only [verV] at hL
    clear hU hRt hk hb2
    cases ho : His.liveO (l.take k).getLast? with
    | none =>
      rw [ho] at hL htr
      have HE := Lib.hid htr
      dsimp only [Option.getD, Option.isSome, His.none_] at hL
      have hsf := fun W => slice_from (A := A) (n := len) (cap := cap) elem_ver (k := k) (by omega) hlc W
      have hkl2 : k ≤ len := by omega
      clear ho htr hk0
      go_wp2_with fail
      refine hL.mono ?_
      rintro e w3 ⟨rfl, hb3⟩
      have hb := HB.out.trans (hb3.mono HB.out.size)
      clear hL hb3
      go_upto_region 5 with fail
      obtain ⟨W4, hW4⟩ : ∃ W4, w3.alloc (.cells #[.int .i64 0, .int .i64 0, .int .i64 0, .int .i64 0, .string ⟨#[]⟩, .int .i64 0, .bool false] 26) = W4 := ⟨_, rfl⟩
      rw [hW4]
      have hb4 : Below w.heap.size w W4 := by rw [← hW4]; exact hb.alloc hb.size _
      have H3 := Lib.hid (And.intro (HV.out.below hb4) hb4)
      have hdl : (rowH (l.drop k)).length = (len - k) * 7 := by rw [rowH_len, List.length_drop, hll]
      clear hb hW4 hb4
      go_upto_region 7 with fail
      go_wp2_with (at_builtin
                   go_loud (refine wpList_append_sp elem_ver _ rfl _ _ rfl (some ⟨_, 0, none⟩) 0 0 [] rfl (by exact Sp.empty (heap_alloc_new _ _)) (tailS 7 A cap k) (len - k) (cap - k) (rowH (l.drop k)) rfl (Vers.drop H3.out.1 hkl2 hlc).none_ hdl (rowH_ones _) (fun b e => ((Vers.drop H3.out.1 hkl2 hlc).below (show Below W4.heap.size W4 _ from (by repeat (first | exact Below.refl _ _ | apply Below.drew | apply below_drewN | refine Below.alloc ?_ (by simp) _)))).cells e) (by omega) ?_)
                   rw [Nat.zero_add, List.nil_append]
                   intro A8 c8 w8 hsp8 hA8 hg8
                   have hb8 : Below w.heap.size w w8 := hg8.below (H3.out.2.trans ((show Below W4.heap.size W4 _ from (by repeat (first | exact Below.refl _ _ | apply Below.drew | apply below_drewN | refine Below.alloc ?_ (by simp) _))).mono H3.out.2.size)) (by have := H3.out.2.size; simp; omega) (fun q hq => by rw [blk_some] at hq; have := H3.out.2.size; omega)
                   have hn8 : ∀ q, blk A8 q → w.heap.size ≤ q := fun q hq => by
                     have := H3.out.2.size
                     rcases hA8 q hq with h1 | h1
                     · rw [blk_some] at h1; omega
                     · simp at h1; omega)
      go_ret
      exact ⟨A8, len - k, c8, rfl, by rw [HE.out]; exact ⟨hsp8, hn8⟩, hb8⟩
    | some y =>
      have hk1 : k ≠ 0 := fun e => by rw [hk0 e] at ho; cases ho
      rw [ho] at hL htr
      have HE := Lib.hid htr
      dsimp only [Option.getD, Option.isSome] at hL
      obtain ⟨j, hj⟩ : ∃ j, k - 1 = j := ⟨_, rfl⟩
      have hsf := fun W => slice_from (A := A) (n := len) (cap := cap) elem_ver (k := j) (by omega) hlc W
      have k3 : IntKind.i64.wrap ((k : Int) - 1) = (j : Int) := by rw [IntWalk.i64_in _ (by omega)]; omega
      have hjl : j ≤ len := by omega
      have HJ := Lib.hid hj
      clear ho htr hk0 hj
      go_wp2_with fail
      refine hL.mono ?_
      rintro e w3 ⟨rfl, hb3⟩
      have hb := HB.out.trans (hb3.mono HB.out.size)
      clear hL hb3
      go_upto_region 5 with fail
      obtain ⟨W4, hW4⟩ : ∃ W4, w3.alloc (.cells #[.int .i64 y.r, .int .i64 y.k, .int .i64 y.m, .int .i64 y.v, .string y.s, .int .i64 y.l, .bool y.g] 26) = W4 := ⟨_, rfl⟩
      rw [hW4]
      have hb4 : Below w.heap.size w W4 := by rw [← hW4]; exact hb.alloc hb.size _
      have H3 := Lib.hid (And.intro (HV.out.below hb4) hb4)
      have hdl : (rowH (l.drop j)).length = (len - j) * 7 := by rw [rowH_len, List.length_drop, hll]
      clear hb hW4 hb4
      go_upto_region 7 with fail
      go_wp2_with (at_builtin
                   go_loud (refine wpList_append_sp elem_ver _ rfl _ _ rfl (some ⟨_, 0, none⟩) 0 0 [] rfl (by exact Sp.empty (heap_alloc_new _ _)) (tailS 7 A cap j) (len - j) (cap - j) (rowH (l.drop j)) rfl (Vers.drop H3.out.1 hjl hlc).none_ hdl (rowH_ones _) (fun b e => ((Vers.drop H3.out.1 hjl hlc).below (show Below W4.heap.size W4 _ from (by repeat (first | exact Below.refl _ _ | apply Below.drew | apply below_drewN | refine Below.alloc ?_ (by simp) _)))).cells e) (by omega) ?_)
                   rw [Nat.zero_add, List.nil_append]
                   intro A8 c8 w8 hsp8 hA8 hg8
                   have hb8 : Below w.heap.size w w8 := hg8.below (H3.out.2.trans ((show Below W4.heap.size W4 _ from (by repeat (first | exact Below.refl _ _ | apply Below.drew | apply below_drewN | refine Below.alloc ?_ (by simp) _))).mono H3.out.2.size)) (by have := H3.out.2.size; simp; omega) (fun q hq => by rw [blk_some] at hq; have := H3.out.2.size; omega)
                   have hn8 : ∀ q, blk A8 q → w.heap.size ≤ q := fun q hq => by
                     have := H3.out.2.size
                     rcases hA8 q hq with h1 | h1
                     · rw [blk_some] at h1; omega
                     · simp at h1; omega)
      go_ret
      exact ⟨A8, len - j, c8, rfl, by rw [HE.out]; (try rw [HJ.out]); exact ⟨hsp8, hn8⟩, hb8⟩

end Go.Proofs.Ytmihijlegacjdaa
