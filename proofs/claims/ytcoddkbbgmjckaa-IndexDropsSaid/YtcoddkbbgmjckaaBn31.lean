/- The program's Since and Trim, by their contracts. (Written by mkpg.py.) -/
import Derived.Test.YtcoddkbbgmjckaaBn30
import Derived.Test.YtcoddkbbgmjckaaBn27
import Derived.Test.YtcoddkbbgmjckaaBn28
namespace Go.Proofs.Ytcoddkbbgmjckaa
open Go.RowKit
set_option linter.unusedVariables false
set_option linter.unusedSimpArgs false
attribute [local go_sem] Oper.semAt_some

theorem Sp.empty {T : TypeId} {sz : Nat} {w : World} {g : Nat} (h : w.heap[g]? = some (.cells #[] T)) : Sp T sz w (some ⟨g, 0, none⟩) 0 0 [] :=
  ⟨by simp, Nat.le_refl _, (fun e => by cases e), fun a e => ⟨g, 0, #[], by injection e with e; exact e.symm, h, by simp, fun j u hu => by simp at hu⟩⟩

theorem Vers.drop {w : World} {A : Option Addr} {len cap : Nat} {l : List Ver} (h : Vers w A len l) {k : Nat} (hk : k ≤ len) (hlc : len ≤ cap) : Vers w (tailS 7 A cap k) (len - k) (l.drop k) := by
  have hll := h.1
  refine ⟨by rw [List.length_drop]; omega, fun h0 => ?_⟩
  obtain ⟨g, off, e, hg, hc⟩ := h.2 (by omega)
  refine ⟨g, off + k * 7, ?_, hg, fun j hj => ?_⟩
  · unfold tailS
    rw [if_neg (by omega), e, Option.map_some, Addr.add_lit]
  · rw [List.length_drop] at hj
    rw [List.getElem_drop]
    have hx := hc (k + j) (by omega)
    rw [show off + k * 7 + j * 7 = off + (k + j) * 7 by omega]
    exact hx

set_option maxRecDepth 100000 in
set_option maxHeartbeats 3200000 in
theorem sinceP_any (A : Option Addr) (len cap : Nat) (l : List Ver) (a b : Int) (w : World) (h : Vers w A len l) (hlc : len ≤ cap) (hm : len ≤ 900000) :
    Calls Try.prog 93 #[.slice A len cap, .int .i64 a, .int .i64 b] w fun e w' => ∃ R n c, e = .returned (.slice R n c) ∧ Own14 w w' R n c (His.sinceL l a b) ∧ Below w.heap.size w w' := by
  have hll := h.1
  have hRt := rightP_any A len cap l w h hlc hm
  have HV := Lib.hid h
  clear h
  cases hq : His.rightL l with
  | false =>
    rw [hq] at hRt
    have HE := Lib.hid (show His.sinceL l a b = [] from if_neg (by rw [hq]; decide))
    clear hq
    go_enter Try.func93, Try.ntmps93
    go_wp2_with fail
    refine hRt.mono ?_
    rintro e w2 ⟨rfl, hb2⟩
    go_wp2
    go_ret
    exact ⟨none, 0, 0, rfl, by rw [HE.out]; exact Own14.none _ _, hb2⟩
  | true =>
    rw [hq] at hRt
    obtain ⟨p, hp⟩ : ∃ p : Ver → Bool, p = fun x => decide (a ≤ x.r ∧ x.r ≤ b) := ⟨_, rfl⟩
    have HP := Lib.hid (show ∀ x, p x = decide (a ≤ x.r ∧ x.r ≤ b) from fun x => by rw [hp])
    have HE := Lib.hid (show His.sinceL l a b = l.filter p by rw [hp]; exact if_pos hq)
    clear hq hp
    go_enter Try.func93, Try.ntmps93
    go_wp2_with fail
    refine hRt.mono ?_
    rintro e w2 ⟨rfl, hb2⟩
    have hb3 : Below w.heap.size w (w2.alloc (.cells #[] 37)) := hb2.alloc hb2.size _
    have hz3 : (w2.alloc (.cells #[] 37)).heap[w2.heap.size]? = some (.cells #[] 37) := heap_alloc_new _ _
    have H3 := Lib.hid (And.intro (show Own14 w (w2.alloc (.cells #[] 37)) (some ⟨w2.heap.size, 0, none⟩) 0 0 [] from ⟨Sp.empty hz3, fun q hq => by rw [blk_some] at hq; have := hb2.size; omega⟩) hb3)
    clear hRt hb2 hb3 hz3
    go_wp2_with fail
    go_loopw [7, 16] (fun v7 v16 wr => ∃ k : Nat, k ≤ len ∧ v16 = .int .i64 (k : Int) ∧ ∃ R n c, v7 = .slice R n c ∧ Own14 w wr R n c ((l.take k).filter p) ∧ Below w.heap.size w wr) (fun _ v16 _ => len - (intOf v16).toNat)
    case atStart => exact ⟨0, Nat.zero_le _, rfl, some ⟨w2.heap.size, 0, none⟩, 0, 0, rfl, by simpa using H3.out.1, H3.out.2⟩
    case round =>
      obtain ⟨k, hk, rfl, R, n, c, rfl, hO, hb⟩ := hrel
      have HB := Lib.hid (And.intro hO hb)
      have hnl : n ≤ len := by
        have h1 := hO.len
        have h2 := List.length_filter_le p (l.take k)
        rw [List.length_take] at h2
        omega
      clear hO hb
      by_cases hlt : k < len
      · have l1 : decide ((k : Int) < (len : Int)) = true := decide_eq_true (by omega)
        have k4 : (k : Int) < (len : Int) := by omega
        have htf := take_filter p (show k < l.length by omega)
        obtain ⟨g, off, rfl, hg, hc⟩ := (HV.out.below HB.out.2).2 (by omega)
        obtain ⟨c0, c1, c2, c3, c4, c5, c6⟩ := hc k (by omega)
        obtain ⟨x, hx⟩ : ∃ x, l[k]'(by omega) = x := ⟨_, rfl⟩
        rw [hx] at c0 c1 c2 c3 c4 c5 c6 htf
        rw [HP.out x] at htf
        obtain ⟨ys, hys⟩ : ∃ ys, (l.take k).filter p = ys := ⟨_, rfl⟩
        rw [hys] at htf
        have HI := Lib.hid (And.intro (show Own14 w wr R n c ys from by rw [← hys]; exact HB.out.1) HB.out.2)
        have HT := Lib.hid htf
        have h1c : ∀ u ∈ ([.int .i64 x.r, .int .i64 x.k, .int .i64 x.m, .int .i64 x.v, .string x.s, .int .i64 x.l, .bool x.g] : List Value), u.oneCell' = true := fun u hu => rowH_one u x hu
        clear hc hx htf hys
        by_cases h1 : a ≤ x.r
        · have e1 : decide (a ≤ x.r) = true := decide_eq_true h1
          by_cases h2 : x.r ≤ b
          · have e2 : decide (x.r ≤ b) = true := decide_eq_true h2
            have HY := Lib.hid (show decide (a ≤ x.r ∧ x.r ≤ b) = true by simp [h1, h2])
            clear h1 h2
            go_upto_region 8 with fail
            obtain ⟨W8, hW8⟩ : ∃ W8, wr.alloc (.cells #[.int .i64 x.r, .int .i64 x.k, .int .i64 x.m, .int .i64 x.v, .string x.s, .int .i64 x.l, .bool x.g] 37) = W8 := ⟨_, rfl⟩
            rw [hW8]
            have hr8 : W8.heap[wr.heap.size]? = some (.cells #[.int .i64 x.r, .int .i64 x.k, .int .i64 x.m, .int .i64 x.v, .string x.s, .int .i64 x.l, .bool x.g] 37) := by rw [← hW8]; exact heap_alloc_new wr _
            have hb8 : Below wr.heap.size wr W8 := by rw [← hW8]; exact (Below.refl _ _).alloc (Nat.le_refl _) _
            obtain ⟨x0, x1, x2, x3, x4, x5, x6⟩ := (row7 hr8).1
            have HJ := Lib.hid (And.intro (HI.out.1.next hb8) (HI.out.2.trans (hb8.mono HI.out.2.size)))
            clear hW8 hr8 hb8 c0 c1 c2 c3 c4 c5 c6
            go_wp2_with (at_builtin
                         go_loud (refine wpList_append_sp elem_ver _ rfl _ _ rfl R n c (rowH ys) rfl (HJ.out.1.sp.keep fun q hq => (show Below W8.heap.size W8 _ from (by repeat (first | exact Below.refl _ _ | apply Below.drew | apply below_drewN | refine Below.alloc ?_ (by simp) _))).block q (HJ.out.1.sp.lt hq)) _ 1 1 [.int .i64 x.r, .int .i64 x.k, .int .i64 x.m, .int .i64 x.v, .string x.s, .int .i64 x.l, .bool x.g] rfl (fun e => by cases e) rfl h1c (fun b e => by cases e; exact cells_lit (C := [.int .i64 x.r, .int .i64 x.k, .int .i64 x.m, .int .i64 x.v, .string x.s, .int .i64 x.l, .bool x.g]) (heap_alloc_new _ _)) (by omega) ?_)
                         intro A8 c8 w8 hsp8 hA8 hg8
                         have hP := HJ.out.1.push HJ.out.2 (show Below W8.heap.size W8 _ from (by repeat (first | exact Below.refl _ _ | apply Below.drew | apply below_drewN | refine Below.alloc ?_ (by simp) _))) hg8 hsp8 hA8)
            go_roundw
            case rel => exact ⟨k + 1, by omega, by go_num, A8, n + 1, c8, rfl, by rw [HT.out, if_pos HY.out]; exact hP.1, hP.2⟩
            case measure =>
              simp [intOf]
              omega
          · have e2 : decide (x.r ≤ b) = false := decide_eq_false h2
            have HY := Lib.hid (show ¬ decide (a ≤ x.r ∧ x.r ≤ b) = true by simp [h2])
            clear h1 h2
            go_wp2
            go_roundw
            case rel => exact ⟨k + 1, by omega, by go_num, R, n, c, rfl, by rw [HT.out, if_neg HY.out, List.append_nil]; exact HI.out.1.next (show Below wr.heap.size wr _ from (by repeat (first | exact Below.refl _ _ | apply Below.drew | apply below_drewN | refine Below.alloc ?_ (by simp) _))), HI.out.2.trans ((show Below wr.heap.size wr _ from (by repeat (first | exact Below.refl _ _ | apply Below.drew | apply below_drewN | refine Below.alloc ?_ (by simp) _))).mono HI.out.2.size)⟩
            case measure =>
              simp [intOf]
              omega
        · have e1 : decide (a ≤ x.r) = false := decide_eq_false h1
          have HY := Lib.hid (show ¬ decide (a ≤ x.r ∧ x.r ≤ b) = true by simp [h1])
          clear h1
          go_wp2
          go_roundw
          case rel => exact ⟨k + 1, by omega, by go_num, R, n, c, rfl, by rw [HT.out, if_neg HY.out, List.append_nil]; exact HI.out.1.next (show Below wr.heap.size wr _ from (by repeat (first | exact Below.refl _ _ | apply Below.drew | apply below_drewN | refine Below.alloc ?_ (by simp) _))), HI.out.2.trans ((show Below wr.heap.size wr _ from (by repeat (first | exact Below.refl _ _ | apply Below.drew | apply below_drewN | refine Below.alloc ?_ (by simp) _))).mono HI.out.2.size)⟩
          case measure =>
            simp [intOf]
            omega
      · obtain rfl : k = len := by omega
        have l1 : decide ((k : Int) < (k : Int)) = false := decide_eq_false (by omega)
        have htk : l.take k = l := List.take_of_length_le (by omega)
        have HO := Lib.hid (show Own14 w wr R n c (His.sinceL l a b) by rw [HE.out, ← htk]; have := HB.out.1; rw [htk] at this ⊢; exact this)
        clear htk
        go_wp2
        go_ret
        exact ⟨R, n, c, rfl, HO.out, HB.out.2⟩

set_option maxRecDepth 100000 in
set_option maxHeartbeats 3200000 in
theorem trimP_any (A : Option Addr) (len cap : Nat) (l : List Ver) (f : Int) (w : World) (h : Vers w A len l) (hlc : len ≤ cap) (hm : len ≤ 900000) :
    Calls Try.prog 69 #[.slice A len cap, .int .i64 f] w fun e w' => ∃ R n c, e = .returned (.slice R n c) ∧ Own14 w w' R n c (His.trimL l f) ∧ Below w.heap.size w w' := by
  have hll := h.1
  have hRt := rightP_any A len cap l w h hlc hm
  have HV := Lib.hid h
  clear h
  cases hq : His.rightL l with
  | false =>
    rw [hq] at hRt
    have HE := Lib.hid (show His.trimL l f = [] from if_neg (by rw [hq]; decide))
    clear hq
    go_enter Try.func69, Try.ntmps69
    go_wp2_with fail
    refine hRt.mono ?_
    rintro e w2 ⟨rfl, hb2⟩
    go_wp2
    go_ret
    exact ⟨none, 0, 0, rfl, by rw [HE.out]; exact Own14.none _ _, hb2⟩
  | true =>
    rw [hq] at hRt
    have HR := Lib.hid ((His.right_iff l).1 hq)
    clear hq
    go_enter Try.func69, Try.ntmps69
    go_wp2_with fail
    refine hRt.mono ?_
    rintro e w2 ⟨rfl, hb2⟩
    have hU := uptoP_any A len cap l f w2 (HV.out.below hb2) hm
    go_wp2_with fail
    refine hU.mono ?_
    rintro e w2' ⟨k, rfl, hk, rfl⟩
    have hkl := hk.le
    have htr := hk.trim HR.out
    have hsl := fun W => slice_to (A := A) (n := len) (cap := cap) elem_ver (k := k) (by omega) W
    have hL := lastP_any A k cap (l.take k) w2 ((HV.out.below hb2).take (by omega)) (by omega)
    have hk0 : k = 0 → His.liveO (l.take k).getLast? = none := fun e => by subst e; rfl
    have HB := Lib.hid hb2
    unfold atV at hL
    dsimp only [verV] at hL
    clear hU hRt hk hb2
    cases ho : His.liveO (l.take k).getLast? with
    | none =>
      rw [ho] at hL htr
      have HE := Lib.hid htr
      dsimp only [Option.getD, Option.isSome, His.none_] at hL
      have hsf := fun W => slice_from (A := A) (n := len) (cap := cap) elem_ver (k := k) (by omega) hlc W
      have hkl2 : k ≤ len := by omega
      clear ho htr hk0
      go_wp2_with fail
      refine hL.mono ?_
      rintro e w3 ⟨rfl, hb3⟩
      have hb := HB.out.trans (hb3.mono HB.out.size)
      clear hL hb3
      go_upto_region 5 with fail
      obtain ⟨W4, hW4⟩ : ∃ W4, w3.alloc (.cells #[.int .i64 0, .int .i64 0, .int .i64 0, .int .i64 0, .string ⟨#[]⟩, .int .i64 0, .bool false] 37) = W4 := ⟨_, rfl⟩
      rw [hW4]
      have hb4 : Below w.heap.size w W4 := by rw [← hW4]; exact hb.alloc hb.size _
      have H3 := Lib.hid (And.intro (HV.out.below hb4) hb4)
      have hdl : (rowH (l.drop k)).length = (len - k) * 7 := by rw [rowH_len, List.length_drop, hll]
      clear hb hW4 hb4
      go_upto_region 7 with fail
      go_wp2_with (at_builtin
                   go_loud (refine wpList_append_sp elem_ver _ rfl _ _ rfl (some ⟨_, 0, none⟩) 0 0 [] rfl (by exact Sp.empty (heap_alloc_new _ _)) (tailS 7 A cap k) (len - k) (cap - k) (rowH (l.drop k)) rfl (Vers.drop H3.out.1 hkl2 hlc).none_ hdl (rowH_ones _) (fun b e => ((Vers.drop H3.out.1 hkl2 hlc).below (show Below W4.heap.size W4 _ from (by repeat (first | exact Below.refl _ _ | apply Below.drew | apply below_drewN | refine Below.alloc ?_ (by simp) _)))).cells e) (by omega) ?_)
                   rw [Nat.zero_add, List.nil_append]
                   intro A8 c8 w8 hsp8 hA8 hg8
                   have hb8 : Below w.heap.size w w8 := hg8.below (H3.out.2.trans ((show Below W4.heap.size W4 _ from (by repeat (first | exact Below.refl _ _ | apply Below.drew | apply below_drewN | refine Below.alloc ?_ (by simp) _))).mono H3.out.2.size)) (by have := H3.out.2.size; simp; omega) (fun q hq => by rw [blk_some] at hq; have := H3.out.2.size; omega)
                   have hn8 : ∀ q, blk A8 q → w.heap.size ≤ q := fun q hq => by
                     have := H3.out.2.size
                     rcases hA8 q hq with h1 | h1
                     · rw [blk_some] at h1; omega
                     · simp at h1; omega)
      go_ret
      exact ⟨A8, len - k, c8, rfl, by rw [HE.out]; exact ⟨hsp8, hn8⟩, hb8⟩
    | some y =>
      have hk1 : k ≠ 0 := fun e => by rw [hk0 e] at ho; cases ho
      rw [ho] at hL htr
      have HE := Lib.hid htr
      dsimp only [Option.getD, Option.isSome] at hL
      obtain ⟨j, hj⟩ : ∃ j, k - 1 = j := ⟨_, rfl⟩
      have hsf := fun W => slice_from (A := A) (n := len) (cap := cap) elem_ver (k := j) (by omega) hlc W
      have k3 : IntKind.i64.wrap ((k : Int) - 1) = (j : Int) := by rw [IntWalk.i64_in _ (by omega)]; omega
      have hjl : j ≤ len := by omega
      have HJ := Lib.hid hj
      clear ho htr hk0 hj
      go_wp2_with fail
      refine hL.mono ?_
      rintro e w3 ⟨rfl, hb3⟩
      have hb := HB.out.trans (hb3.mono HB.out.size)
      clear hL hb3
      go_upto_region 5 with fail
      obtain ⟨W4, hW4⟩ : ∃ W4, w3.alloc (.cells #[.int .i64 y.r, .int .i64 y.k, .int .i64 y.m, .int .i64 y.v, .string y.s, .int .i64 y.l, .bool y.g] 37) = W4 := ⟨_, rfl⟩
      rw [hW4]
      have hb4 : Below w.heap.size w W4 := by rw [← hW4]; exact hb.alloc hb.size _
      have H3 := Lib.hid (And.intro (HV.out.below hb4) hb4)
      have hdl : (rowH (l.drop j)).length = (len - j) * 7 := by rw [rowH_len, List.length_drop, hll]
      clear hb hW4 hb4
      go_upto_region 7 with fail
      go_wp2_with (at_builtin
                   go_loud (refine wpList_append_sp elem_ver _ rfl _ _ rfl (some ⟨_, 0, none⟩) 0 0 [] rfl (by exact Sp.empty (heap_alloc_new _ _)) (tailS 7 A cap j) (len - j) (cap - j) (rowH (l.drop j)) rfl (Vers.drop H3.out.1 hjl hlc).none_ hdl (rowH_ones _) (fun b e => ((Vers.drop H3.out.1 hjl hlc).below (show Below W4.heap.size W4 _ from (by repeat (first | exact Below.refl _ _ | apply Below.drew | apply below_drewN | refine Below.alloc ?_ (by simp) _)))).cells e) (by omega) ?_)
                   rw [Nat.zero_add, List.nil_append]
                   intro A8 c8 w8 hsp8 hA8 hg8
                   have hb8 : Below w.heap.size w w8 := hg8.below (H3.out.2.trans ((show Below W4.heap.size W4 _ from (by repeat (first | exact Below.refl _ _ | apply Below.drew | apply below_drewN | refine Below.alloc ?_ (by simp) _))).mono H3.out.2.size)) (by have := H3.out.2.size; simp; omega) (fun q hq => by rw [blk_some] at hq; have := H3.out.2.size; omega)
                   have hn8 : ∀ q, blk A8 q → w.heap.size ≤ q := fun q hq => by
                     have := H3.out.2.size
                     rcases hA8 q hq with h1 | h1
                     · rw [blk_some] at h1; omega
                     · simp at h1; omega)
      go_ret
      exact ⟨A8, len - j, c8, rfl, by rw [HE.out]; (try rw [HJ.out]); exact ⟨hsp8, hn8⟩, hb8⟩

end Go.Proofs.Ytcoddkbbgmjckaa

namespace Go.Proofs.Ytcoddkbbgmjckaa
open Go.RowKit
set_option linter.unusedVariables false
set_option linter.unusedSimpArgs false
attribute [local go_sem] Oper.semAt_some

/-- Keys told by the map: pairs in a row of the call's own; the histories are those that were there. -/
structure RowP (w0 w : World) (R : Option Addr) (n c : Nat) (xs : List KLay) : Prop where
  sp : Sp 81 2 w R n c (rowK xs)
  new : ∀ q, blk R q → w0.heap.size ≤ q
  vs : ∀ x ∈ xs, Vers w0 x.B x.h.length x.h ∧ x.h.length ≤ x.c

section
variable {w0 w w' w1 : World} {R : Option Addr} {n c : Nat} {xs : List KLay}
theorem RowP.len (h : RowP w0 w R n c xs) : xs.length = n := by
  have := h.sp.1
  rw [rowK_len] at this
  omega
theorem RowP.next (h : RowP w0 w R n c xs) (hb : Below w.heap.size w w') : RowP w0 w' R n c xs := ⟨h.sp.keep fun q hq => hb.block q (h.sp.lt hq), h.new, h.vs⟩
theorem RowP.off (h : RowP w0 w R n c xs) (hk : ∀ q, blk R q → w'.heap[q]? = w.heap[q]?) : RowP w0 w' R n c xs := ⟨h.sp.keep hk, h.new, h.vs⟩
theorem RowP.from (h : RowP w1 w R n c xs) (hb : w0.heap.size ≤ w1.heap.size) (hv : ∀ x ∈ xs, Vers w0 x.B x.h.length x.h) : RowP w0 w R n c xs := ⟨h.sp, fun q hq => Nat.le_trans hb (h.new q hq), fun x hx => ⟨hv x hx, (h.vs x hx).2⟩⟩
/-- Where one of them lies. -/
theorem RowP.at_ (h : RowP w0 w R n c xs) (k : Nat) (hk : k < n) : ∃ g off, R = some ⟨g, off, none⟩ ∧ g < w.heap.size ∧ w.cell? ⟨g, off + k * 2, none⟩ = some (.string (xs[k]'(by rw [h.len]; exact hk)).k) ∧ w.cell? ⟨g, off + k * 2 + 1, none⟩ = some (.slice (xs[k]'(by rw [h.len]; exact hk)).B (xs[k]'(by rw [h.len]; exact hk)).h.length (xs[k]'(by rw [h.len]; exact hk)).c) := by
  have hl := h.len
  obtain ⟨g, off, e, hg, hc, _⟩ := h.sp.at_ (by omega) k hk
  refine ⟨g, off, e, hg, ?_, ?_⟩
  · have := hc 0 (by omega) (.string (xs[k]'(by omega)).k) (by rw [rowK_at xs k (by omega) 0 (by omega)]; rfl)
    simpa using this
  · exact hc 1 (by omega) _ (by rw [rowK_at xs k (by omega) 1 (by omega)]; rfl)
end

theorem sp_owns {T : TypeId} {B n c : Nat} {w : World} {A : Option Addr} {xs : List Value} (ho : w.ownsRow B T 2 (.slice A n c) n xs) : Sp T 2 w A n c xs ∧ ∀ q, blk A q → B ≤ q := by
  have hlen := ho.1
  rcases ho.2 with ⟨h0, h1⟩ | ⟨g, cap', cur, e, hb, hh, h1, h2, h3, h4⟩
  · injection h0 with e1 e2 e3
    subst e1 e2 e3
    exact ⟨⟨hlen, Nat.le_refl _, fun _ => rfl, fun a e => by cases e⟩, fun q hq => absurd hq (blk_none q)⟩
  · injection e with e1 e2 e3
    subst e1 e3
    have hh' : w.heap[g]? = some (.cells cur T (0, 0)) := hh
    refine ⟨⟨hlen, h1, (fun e => by cases e), fun a e => ?_⟩, fun q hq => by rw [blk_some] at hq; omega⟩
    injection e with e
    subst e
    refine ⟨g, 0, cur, rfl, hh', by omega, fun j u hu => ?_⟩
    rw [← h4] at hu
    rw [List.getElem?_take] at hu
    split at hu
    · rw [Nat.zero_add]; simpa using hu
    · cases hu

def klOf (p : ByteArray × HL) : KLay := ⟨p.1, p.2.h, p.2.B, p.2.c⟩
theorem rowK_of (l : List (ByteArray × HL)) : rowK (l.map klOf) = MapKh.cellsL l := by
  unfold rowK MapKh.cellsL
  rw [List.flatMap_map]
  rfl
theorem khs_of (l : List (ByteArray × HL)) : khs (l.map klOf) = l.map fun p => (p.1, p.2.h) := by
  unfold khs
  rw [List.map_map]
  rfl
theorem RowP.of {w0 w : World} {l : List (ByteArray × HL)} {A : Option Addr} {c : Nat} (ho : w.ownsRow w0.heap.size 81 2 (.slice A l.length c) l.length (MapKh.cellsL l)) (hv : ∀ p ∈ l, Vers w0 p.2.B p.2.h.length p.2.h ∧ p.2.h.length ≤ p.2.c) : RowP w0 w A l.length c (l.map klOf) := by
  obtain ⟨h1, h2⟩ := sp_owns ho
  refine ⟨by rw [rowK_of]; exact h1, h2, fun x hx => ?_⟩
  obtain ⟨p, hp, rfl⟩ := List.mem_map.1 hx
  exact hv p hp

theorem kht_in {t : MapKh.T} (f : ByteArray → Bool) : khs ((t.list.filter fun p => f p.1).map klOf) = (kht t).filter fun p => f p.1 := by
  rw [khs_of, kht_filter]

/-- A tree in blocks of a set, each history in blocks of that set too. -/
def IxTP (P : Nat → Prop) (w : World) (u : Option Addr) (t : MapKh.T) : Prop :=
  MapKh.Rp P w u t ∧ Tr.Bst ltS t ∧ ∀ p ∈ t.list, Vers w p.2.B p.2.h.length p.2.h ∧ p.2.h.length ≤ p.2.c ∧ ∀ q, blk p.2.B q → P q
theorem ixpP_iff {P : Nat → Prop} {w : World} {u : Option Addr} {l : List Idx.KH} : IxpP P w u l ↔ ∃ t, IxTP P w u t ∧ kht t = l :=
  ⟨fun ⟨t, a, b, c, d⟩ => ⟨t, ⟨a, b, c⟩, d⟩, fun ⟨t, ⟨a, b, c⟩, d⟩ => ⟨t, a, b, c, d⟩⟩
theorem IxTP.below {P : Nat → Prop} {w w' : World} {u : Option Addr} {t : MapKh.T} (h : IxTP P w u t) (hb : Below w.heap.size w w') : IxTP P w' u t :=
  ⟨h.1.below hb (Nat.le_refl _), h.2.1, fun p hp => ⟨(h.2.2 p hp).1.below hb, (h.2.2 p hp).2⟩⟩
theorem Ixp.p {w : World} {u : Option Addr} {l : List Idx.KH} (h : Ixp w u l) : IxpP (fun _ => True) w u l := by
  obtain ⟨t, ht, e⟩ := h
  exact ⟨t, ht.rp, ht.bst, fun p hp => ⟨(ht.vs p hp).1, (ht.vs p hp).2, fun _ _ => trivial⟩, e⟩

set_option maxRecDepth 100000 in
set_option maxHeartbeats 3200000 in
theorem withinP_any {P : Nat → Prop} (u : Option Addr) (t : MapKh.T) (a b : ByteArray) (w : World) (hT : IxTP P w u t) (hF : Fit (kht t)) (ha : a.size ≤ maxLen) (hb : b.size ≤ maxLen) :
    Calls Try.prog 57 #[ixV u, .string a, .string b] w fun e w' => ∃ R c xs, e = .returned (.slice R xs.length c) ∧ RowP w w' R xs.length c xs ∧ khs xs = ((kht t).filter fun p => Idx.inB a b p.1) ∧ (∀ x ∈ xs, ∃ p ∈ t.list, x = klOf p) ∧ Below w.heap.size w w' := by
  obtain ⟨W1, hW1⟩ : ∃ W1, w.alloc (.cells #[.pointer u] 32) = W1 := ⟨_, rfl⟩
  have hb1 : Below w.heap.size w W1 := by rw [← hW1]; exact (Below.refl _ _).alloc (Nat.le_refl _) _
  have hr1 : W1.heap[w.heap.size]? = some (.cells #[.pointer u] 32) := by rw [← hW1]; exact heap_alloc_new w _
  have hR := fun W => rangeP_any a b ha hb W
  cases hq : Idx.rangeB a b with
  | false =>
    have HE := Lib.hid (show ((kht t).filter fun p => Idx.inB a b p.1) = [] from List.filter_eq_nil_iff.2 fun p _ => by rw [inB_is, hq]; simp)
    rw [hq] at hR
    clear hq hT hF
    go_enter Try.func57, Try.ntmps57
    go_wp2_with fail
    try rw [hW1]
    refine (hR _).mono ?_
    rintro e w1 ⟨rfl, rfl⟩
    have HB := Lib.hid hb1
    clear hb1 hr1 hW1 hR
    go_wp2
    go_ret
    exact ⟨none, 0, [], rfl, ⟨Sp.nil _ _ _, fun q h => absurd h (blk_none q), fun x hx => by cases hx⟩, HE.out.symm, (fun x hx => by cases hx), HB.out⟩
  | true =>
    have hsz : a.size ≤ 4000000 := by have := key_size (range_key hq); omega
    have HE := Lib.hid (show (t.list.filter fun p => !ltS p.1 a && ltS p.1 (borderB a b)) = t.list.filter fun p => Idx.inB a b p.1 from List.filter_congr fun p hp => by
      have hk : Idx.keyB p.1 = true := hF.wf.key (p.1, p.2.h) (List.mem_map.2 ⟨p, hp, rfl⟩)
      rw [inB_is, hq, hk]
      rfl)
    have hn : t.size ≤ 4000000 := by
      have := hF.n
      rw [kht_len] at this
      omega
    rw [hq] at hR
    have HT := Lib.hid hT
    have hBo := fun W => borderP_any a b hsz W
    have hBe := fun W (hW : Below w.heap.size w W) => MapKh.between_map t u a (borderB a b) W (hT.1.below hW (Nat.le_refl _)) hT.2.1 hn
    rw [sub_is hT.2.1, HE.out] at hBe
    have HB := Lib.hid (And.intro hBo hBe)
    have HS := Lib.hid (And.intro hb1 hr1)
    clear hq hT hF hBo hBe hb1 hr1 HE
    generalize borderB a b = bo at *
    go_enter Try.func57, Try.ntmps57
    go_wp2_with fail
    try rw [hW1]
    refine (hR _).mono ?_
    rintro e w1 ⟨rfl, hw1⟩
    subst hw1
    clear hW1 hR
    go_upto_region 3 with fail
    refine wp_region_held_drew (S := fun w' => w'.cell? ⟨w.heap.size, 0, none⟩ = some (.pointer u)) (by kernel_rfl) (by have := cells_lit (C := [.pointer u]) HS.out.2 0 _ rfl; simpa [Addr.add_lit] using this) (fun hHeld => ?_)
    refine lsq 8 ?_
    refine tkq 0 ?_
    refine tkq 1 ?_
    refine tkq 2 ?_
    refine tkq 3 ?_
    refine tkq 4 ?_
    refine rdq1 5 fun KK hK => ?_
    go_simp
    refine (HB.out.1 _).mono ?_
    rintro e w2 ⟨rfl, rfl⟩
    refine hK.out _ _ hHeld ?_
    clear hK KK
    intro hHeld
    try simp only [lpq]
    refine rdq1 6 fun KK hK => ?_
    go_simp
    refine (HB.out.2 _ HS.out.1.drew).mono ?_
    rintro e w3 ⟨A, c, rfl, ho, hb3⟩
    obtain ⟨l, hl⟩ : ∃ l, t.list.filter (fun p => Idx.inB a b p.1) = l := ⟨_, rfl⟩
    rw [hl] at ho
    have hb3' : Below w1.heap.size w1 w3 := (Below.refl _ _).drew.trans hb3
    have HO := Lib.hid (show RowP w w3 A (l.map klOf).length c (l.map klOf) from by
      have hv : ∀ p ∈ l, Vers w p.2.B p.2.h.length p.2.h ∧ p.2.h.length ≤ p.2.c := fun p hp => by
        rw [← hl] at hp
        exact ⟨(HT.out.2.2 p (List.mem_filter.1 hp).1).1, (HT.out.2.2 p (List.mem_filter.1 hp).1).2.1⟩
      rw [List.length_map]
      exact (RowP.of ho fun p hp => ⟨(hv p hp).1.below HS.out.1.drew, (hv p hp).2⟩).from HS.out.1.drew.size fun x hx => by
        obtain ⟨p, hp, rfl⟩ := List.mem_map.1 hx
        exact (hv p hp).1)
    have HK := Lib.hid (show khs (l.map klOf) = (kht t).filter (fun p => Idx.inB a b p.1) by rw [← hl, kht_in])
    have HQ := Lib.hid (show ∀ x ∈ l.map klOf, ∃ p ∈ t.list, x = klOf p from fun x hx => by
      obtain ⟨p, hp, rfl⟩ := List.mem_map.1 hx
      rw [← hl] at hp
      exact ⟨p, (List.mem_filter.1 hp).1, rfl⟩)
    have HZ := Lib.hid (HS.out.1.trans (hb3'.mono HS.out.1.size))
    have HL := Lib.hid (show (t.list.filter fun p => Idx.inB a b p.1).length = (l.map klOf).length by rw [hl, List.length_map])
    refine hK.out _ _ (by have := cells_lit (C := [.pointer u]) ((hb3'.block _ (hlq HS.out.2)).trans HS.out.2) 0 _ rfl; simpa [Addr.add_lit] using this) ?_
    clear hK KK hHeld ho hl hb3 hb3'
    intro hHeld
    try simp only [lpq]
    refine tkq 7 ?_
    refine dnq ?_
    clear hHeld
    go_wp2
    go_ret
    exact ⟨A, c, l.map klOf, by rw [← HL.out]; rfl, HO.out, HK.out, HQ.out, HZ.out⟩

theorem len_tot {l : List Idx.KH} {p : Idx.KH} (h : p ∈ l) : p.2.length ≤ Idx.tot l := by
  induction l with
  | nil => cases h
  | cons q l ih =>
    rw [Idx.tot_cons]
    rcases List.mem_cons.1 h with rfl | h
    · omega
    · have := ih h
      omega
theorem top_is : His.top = 1099511627776 := rfl
theorem get_yes_no {P : Nat → Prop} {w : World} {u : Option Addr} {t : MapKh.T} (hT : IxTP P w u t) (hF : Fit (kht t)) (k : ByteArray) :
    ∃ v : HL, (∀ W, Below w.heap.size w W → Calls Try.prog 53 #[ixV u, .string k] W fun e w' => (∃ b, e = .returned (.tuple #[hlV v, .bool b])) ∧ Below W.heap.size W w') ∧ v.h = Idx.getL (kht t) k ∧ Vers w v.B v.h.length v.h ∧ v.h.length ≤ v.c ∧ v.h.length ≤ 100000 := by
  cases hf : Tr.find ltS k t with
  | nil =>
    obtain ⟨_, h2⟩ := kht_no hT.2.1 hf
    exact ⟨⟨none, [], 0⟩, fun W hW => (MapKh.get_no t u k W (hT.1.below hW (Nat.le_refl _)) hf).mono fun e w' ⟨he, hb⟩ => ⟨⟨_, he⟩, hb⟩, h2.symm, ⟨rfl, fun h => absurd h (Nat.lt_irrefl _)⟩, Nat.le_refl _, Nat.zero_le _⟩
  | node k' v' a b =>
    obtain ⟨h1, h2⟩ := kht_yes hT.2.1 hf
    have h3 := hT.2.2 _ h1
    exact ⟨v', fun W hW => (MapKh.get_yes t u k k' v' a b W (hT.1.below hW (Nat.le_refl _)) hf).mono fun e w' ⟨he, hb⟩ => ⟨⟨_, he⟩, hb⟩, h2.symm, h3.1, h3.2.1, Nat.le_trans (len_tot (p := (k, v'.h)) (List.mem_map.2 ⟨_, h1, rfl⟩)) hF.t⟩

set_option maxRecDepth 100000 in
set_option maxHeartbeats 3200000 in
theorem liveI_any {P : Nat → Prop} (u : Option Addr) (t : MapKh.T) (k : ByteArray) (w : World) (hT : IxTP P w u t) (hF : Fit (kht t)) :
    Calls Try.prog 24 #[ixV u, .string k] w fun e w' => e = .returned (atV (Idx.liveI (kht t) k)) ∧ Below w.heap.size w w' := by
  obtain ⟨v, hG, hv, hV, hc, hm⟩ := get_yes_no hT hF k
  have HE := Lib.hid (show Idx.liveI (kht t) k = His.liveL v.h by
    unfold Idx.liveI
    rw [← hv, His.live_top (by rw [hv]; exact hF.wf.get k), top_is])
  have hL := fun W (hW : Below w.heap.size w W) => liveP_any v.B v.h.length v.c v.h W (hV.below hW) hc (by omega)
  obtain ⟨W1, hW1⟩ : ∃ W1, (w.alloc (.cells #[.pointer u] 32)).alloc (.cells #[.int .i64 0, .int .i64 0, .int .i64 0, .int .i64 0, .string ⟨#[]⟩, .int .i64 0, .bool false] 37) = W1 := ⟨_, rfl⟩
  have hb1 : Below w.heap.size w W1 := by rw [← hW1]; exact ((Below.refl _ _).alloc (Nat.le_refl _) _).alloc (by simp) _
  have hr0 : W1.heap[w.heap.size]? = some (.cells #[.pointer u] 32) := by rw [← hW1, Below.heap_alloc _ _ _ (by simp)]; exact heap_alloc_new w _
  have hr1 : W1.heap[w.heap.size + 1]? = some (.cells #[.int .i64 0, .int .i64 0, .int .i64 0, .int .i64 0, .string ⟨#[]⟩, .int .i64 0, .bool false] 37) := by rw [← hW1]; have := heap_alloc_new (w.alloc (.cells #[.pointer u] 32)) (.cells #[.int .i64 0, .int .i64 0, .int .i64 0, .int .i64 0, .string ⟨#[]⟩, .int .i64 0, .bool false] 37); simpa using this
  have z0 : W1.cell? ⟨w.heap.size, 0, none⟩ = some (.pointer u) := by have := cells_lit (C := [.pointer u]) hr0 0 _ rfl; simpa [Addr.add_lit] using this
  have HB := Lib.hid (And.intro hb1 (And.intro hr0 hr1))
  have HG := Lib.hid (And.intro hG hL)
  obtain ⟨o, ho⟩ : ∃ o, His.liveL v.h = o := ⟨_, rfl⟩
  rw [ho] at HG HE
  clear hb1 hr0 hr1 hG hL ho hT hF hv hV hc hm
  obtain ⟨B, vh, vc⟩ := v
  dsimp only [hlV] at HG
  generalize vh.length = vl at *
  go_enter Try.func24, Try.ntmps24
  go_wp2_with fail
  try rw [hW1]
  refine (HG.out.1 _ HB.out.1).mono ?_
  rintro e w2 ⟨⟨bb, rfl⟩, hb2⟩
  have hb := HB.out.1.trans (hb2.mono HB.out.1.size)
  have hr2 := (hb2.block _ (hlq HB.out.2.2)).trans HB.out.2.2
  have H2 := Lib.hid (And.intro hb hr2)
  have hL := HG.out.2 w2 hb
  clear hb2 hb hr2 hW1 z0
  unfold atV at hL
  dsimp only [verV] at hL
  have hQ : atV o = .tuple #[verV (o.getD His.none_), .bool o.isSome] := rfl
  obtain ⟨y, hy⟩ : ∃ y, o.getD His.none_ = y := ⟨_, rfl⟩
  obtain ⟨b, hb⟩ : ∃ b, o.isSome = b := ⟨_, rfl⟩
  rw [hy, hb] at hL hQ
  obtain ⟨yr, yk, ym, yv, ys, yl, yg⟩ := y
  dsimp only at hL
  dsimp only [verV] at hQ
  have HQ := Lib.hid hQ
  clear hy hb hQ
  go_wp2_with fail
  refine hL.mono ?_
  rintro e w3 ⟨rfl, hb3⟩
  have hb := H2.out.1.trans (hb3.mono H2.out.1.size)
  have hr3 := (hb3.block _ (hlq H2.out.2)).trans H2.out.2
  have HZ := Lib.hid (And.intro (setRow_heap w3 _ _ #[.int .i64 yr, .int .i64 yk, .int .i64 ym, .int .i64 yv, .string ys, .int .i64 yl, .bool yg] _ _ hr3) (below_setRow hb (Nat.le_succ w.heap.size) #[.int .i64 yr, .int .i64 yk, .int .i64 ym, .int .i64 yv, .string ys, .int .i64 yl, .bool yg]))
  clear hL hb3 hb
  go_wp2_with (refine wpList_store_row rfl _ _ _ rfl (w.heap.size + 1) #[.int .i64 yr, .int .i64 yk, .int .i64 ym, .int .i64 yv, .string ys, .int .i64 yl, .bool yg] (by rfl) (by rfl) _ _ hr3 (by kernel_rfl) rfl (by first | rfl | kernel_rfl) ?_)
  refine bodyPost_ret (res_cell_tmp' (n := w.heap.size + 1) rfl rfl HZ.out.1 Try.underlying37 rfl (by kernel_rfl)) rfl ?_
  exact ⟨by rw [HE.out, HQ.out]; rfl, HZ.out.2⟩

end Go.Proofs.Ytcoddkbbgmjckaa
