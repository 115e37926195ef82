/- The document's Leased, by its contract. (Written by mkleased.py.) -/
import Derived.Test.YtcoddkbbgmjckaaBn13
import Derived.Test.YtcoddkbbgmjckaaBn05
import Derived.Test.YtcoddkbbgmjckaaBn12
namespace Go.Proofs.Ytcoddkbbgmjckaa
open Go.RowKit
set_option linter.unusedVariables false
set_option linter.unusedSimpArgs false
attribute [local go_sem] Oper.semAt_some

set_option maxRecDepth 100000 in
set_option maxHeartbeats 3200000 in
theorem leasedR15_any (A : Option Addr) (n cap : Nat) (xs : List KLay) (le : Int) (w : World) (h : IxG w A n cap xs) :
    Calls Try.prog 38 #[.slice A n cap, .int .i64 le] w fun e w' => ∃ R m d, e = .returned (.slice R m d) ∧ OwnR 9 1 w w' R m d (rowS (Idx.leasedI (khs xs) le)) ∧ m = (Idx.leasedI (khs xs) le).length ∧ Below w.heap.size w w' := by
  have hll := h.ix.len
  have hfew := h.few
  have hlv := fun W key (hW : Below w.heap.size w W) => liveR15_any A n cap xs key W (h.below hW)
  obtain ⟨p, hp⟩ : ∃ p : ByteArray → Bool, p = fun k => match Idx.liveI (khs xs) k with | none => false | some v => decide (le ≠ 0) && decide (v.l = le) := ⟨_, rfl⟩
  have hpx : ∀ k, p k = match Idx.liveI (khs xs) k with | none => false | some v => decide (le ≠ 0) && decide (v.l = le) := fun k => by rw [hp]
  have hend : Idx.leasedI (khs xs) le = (xs.filter fun x => p x.k).map (·.k) := by rw [khs_names, hp]; rfl
  have HV := Lib.hid h.ix
  have HL := Lib.hid hlv
  have HE := Lib.hid (And.intro hend hpx)
  clear h hlv hp hpx hend
  go_enter Try.func38, Try.ntmps38
  go_wp2_with fail
  go_loopw [5, 11] (fun v7 v13 wr => ∃ k : Nat, k ≤ n ∧ v13 = .int .i64 (k : Int) ∧ ∃ R m d, v7 = .slice R m d ∧ m ≤ k ∧ m = ((xs.take k).filter fun x => p x.k).length ∧ OwnR 9 1 w wr R m d (rowS (((xs.take k).filter fun x => p x.k).map (·.k))) ∧ Below w.heap.size w wr) (fun _ v13 _ => n - (intOf v13).toNat)
  case atStart => exact ⟨0, Nat.zero_le _, rfl, none, 0, 0, rfl, Nat.le_refl _, rfl, OwnR.none _ _ _ _, Below.refl _ _⟩
  case round =>
    obtain ⟨k, hk, rfl, R, m, d, rfl, hmk, hml, hO, hb⟩ := hrel
    have HB := Lib.hid (And.intro hO hb)
    clear hO hb
    by_cases hlt : k < n
    · have l1 : decide ((k : Int) < (n : Int)) = true := decide_eq_true (by omega)
      obtain ⟨g, off, rfl, hg, c0, c1⟩ := (HV.out.below HB.out.2).at_ k hlt
      have hL := HL.out wr (xs[k]'(by omega)).k HB.out.2
      have htf := filter_take (fun x : KLay => p x.k) (show k < xs.length by omega)
      have hpk := HE.out.2 (xs[k]'(by omega)).k
      obtain ⟨x, hx⟩ : ∃ x, xs[k]'(by omega) = x := ⟨_, rfl⟩
      rw [hx] at c0 c1 htf hL hpk
      obtain ⟨ys, hys⟩ : ∃ ys, (xs.take k).filter (fun x => p x.k) = ys := ⟨_, rfl⟩
      rw [hys] at HB hml htf
      unfold atV at hL
      generalize Idx.liveI (khs xs) x.k = o at *
      generalize p x.k = pk at *
      have HT := Lib.hid (And.intro htf hml)
      have HC := Lib.hid (And.intro c0 c1)
      clear hx htf hml hys
      cases o with
      | none =>
        dsimp only [verV, His.none_, Option.getD, Option.isSome] at hL hpk
        have HP := Lib.hid hpk
        clear hpk
        go_wp2_with fail
        refine hL.mono ?_
        rintro e w1 ⟨rfl, hb1⟩
        have hb2 := hb1.alloc hb1.size (.cells #[.int .i64 0, .int .i64 0, .int .i64 0, .int .i64 0, .string ⟨#[]⟩, .int .i64 0, .bool false] 37)
        have HB2 := Lib.hid (And.intro (HB.out.1.next hb2) (HB.out.2.trans (hb2.mono HB.out.2.size)))
        clear hL hb1 hb2
        go_wp2
        go_roundw
        case rel => exact ⟨k + 1, hlt, by go_num, R, m, d, rfl, by omega, by rw [HT.out.1, HP.out, if_neg (by decide), List.append_nil]; exact HT.out.2, by rw [HT.out.1, HP.out, if_neg (by decide), List.append_nil]; exact HB2.out.1, HB2.out.2⟩
        case measure =>
          simp [intOf]
          omega
      | some vv =>
        obtain ⟨vr, vk, vm, vv', vs', vl, vg⟩ := vv
        dsimp only [verV, Option.getD, Option.isSome] at hL hpk
        go_wp2_with fail
        refine hL.mono ?_
        rintro e w1 ⟨rfl, hb1⟩
        obtain ⟨w2, hW2⟩ : ∃ w2, w1.alloc (.cells #[.int .i64 vr, .int .i64 vk, .int .i64 vm, .int .i64 vv', .string vs', .int .i64 vl, .bool vg] 37) = w2 := ⟨_, rfl⟩
        have hb2 : Below wr.heap.size wr w2 := by rw [← hW2]; exact hb1.alloc hb1.size _
        have v5 : w2.cell? ⟨w1.heap.size, 5, none⟩ = some (.int .i64 vl) := by rw [← hW2]; exact (row7 (heap_alloc_new w1 _)).1.2.2.2.2.2.1
        have HW := Lib.hid hW2
        have c0 := (hb2.cell (p := ⟨g, off + k * 2, none⟩) hg).trans HC.out.1
        have hbw2 := HB.out.2.trans (hb2.mono HB.out.2.size)
        have HB2 := Lib.hid (And.intro (HB.out.1.next hb2) hbw2)
        clear hL hW2 hb1 hb2 hbw2
        go_upto_region 6 with fail
        rw [HW.out]
        by_cases h0 : le = 0
        · have e0 : (le != 0) = false := by rw [h0]; rfl
          have HP := Lib.hid (show pk = false by rw [hpk, decide_eq_false (by simp [h0]), Bool.false_and])
          clear hpk h0
          go_wp2
          go_roundw
          case rel => exact ⟨k + 1, hlt, by go_num, R, m, d, rfl, by omega, by rw [HT.out.1, HP.out, if_neg (by decide), List.append_nil]; exact HT.out.2, by rw [HT.out.1, HP.out, if_neg (by decide), List.append_nil]; exact HB2.out.1, HB2.out.2⟩
          case measure =>
            simp [intOf]
            omega
        · have e0 : (le != 0) = true := by simpa using h0
          by_cases h1 : vl = le
          · have e1 : (vl == le) = true := by rw [h1]; simp
            have HP := Lib.hid (show pk = true by rw [hpk, decide_eq_true h0, decide_eq_true h1]; rfl)
            have h1c : ∀ u ∈ ([.string x.k] : List Value), u.oneCell' = true := fun u hu => by rw [List.mem_singleton] at hu; subst hu; rfl
            clear hpk h0 h1
            go_wp2_with (at_builtin
                         go_loud (refine wpList_append_sp elem_str _ rfl _ _ rfl R m d (rowS (ys.map (·.k))) rfl (HB2.out.1.sp.keep fun q hq => (show Below w2.heap.size w2 _ from (by repeat (first | exact Below.refl _ _ | apply Below.drew | apply below_drewN | refine Below.alloc ?_ (by simp) _))).block q (HB2.out.1.sp.lt hq)) _ 1 1 [.string x.k] rfl (fun e => by cases e) rfl h1c (fun b e => by cases e; exact cells_lit (C := [.string x.k]) (heap_alloc_new _ _)) (by omega) ?_)
                         intro A8 c8 w8 hsp8 hA8 hg8
                         have hP := HB2.out.1.push HB2.out.2 (show Below w2.heap.size w2 _ from (by repeat (first | exact Below.refl _ _ | apply Below.drew | apply below_drewN | refine Below.alloc ?_ (by simp) _))) hg8 hsp8 hA8)
            go_roundw
            case rel => exact ⟨k + 1, hlt, by go_num, A8, m + 1, c8, rfl, by omega, by rw [HT.out.1, HP.out, if_pos rfl, List.length_append, ← HT.out.2]; rfl, by rw [HT.out.1, HP.out, if_pos rfl, List.map_append]; exact (rowS_add (ys.map (·.k)) x.k) ▸ hP.1, hP.2⟩
            case measure =>
              simp [intOf]
              omega
          · have e1 : (vl == le) = false := by simpa using h1
            have HP := Lib.hid (show pk = false by rw [hpk, decide_eq_false h1, Bool.and_false])
            clear hpk h0 h1
            go_wp2
            go_roundw
            case rel => exact ⟨k + 1, hlt, by go_num, R, m, d, rfl, by omega, by rw [HT.out.1, HP.out, if_neg (by decide), List.append_nil]; exact HT.out.2, by rw [HT.out.1, HP.out, if_neg (by decide), List.append_nil]; exact HB2.out.1, HB2.out.2⟩
            case measure =>
              simp [intOf]
              omega
    · obtain rfl : n = k := by omega
      have hfin := And.intro hml HB.out
      rw [List.take_of_length_le (by omega)] at hfin
      have HF := Lib.hid hfin
      clear hfin hml
      go_wp2
      go_ret
      exact ⟨R, m, d, rfl, by rw [HE.out.1]; exact HF.out.2.1, by rw [HE.out.1, List.length_map]; exact HF.out.1, HF.out.2.2⟩

end Go.Proofs.Ytcoddkbbgmjckaa

namespace Go.Proofs.Ytcoddkbbgmjckaa
open Go.RowKit
set_option linter.unusedVariables false
set_option linter.unusedSimpArgs false
attribute [local go_sem] Oper.semAt_some

set_option maxRecDepth 100000 in
set_option maxHeartbeats 3200000 in
theorem sameBatchesR_any (A : Option Addr) (la ca : Nat) (xs : List BLay) (B : Option Addr) (lb cb : Nat) (ys : List BLay) (w : World) (h : BatL w A la ca xs) (h' : BatL w B lb cb ys) (hm : la ≤ 900000) (hm' : lb ≤ 900000) (hx : ∀ x ∈ xs, x.ls.length ≤ 900000) (hy : ∀ y ∈ ys, y.ls.length ≤ 900000) :
    Calls Try.prog 33 #[.slice A la ca, .slice B lb cb] w fun e w' => e = .returned (.bool (decide (bats xs = bats ys))) ∧ Below w.heap.size w w' := by
  have hlx := h.len
  have hly := h'.len
  have hkx := bats_len xs
  have hky := bats_len ys
  have hsame := fun W x (hx1 : x ∈ xs) y (hy1 : y ∈ ys) (hW : Below w.heap.size w W) => sameItemsR_any x.B x.ls.length x.c x.ls y.B y.ls.length y.c y.ls W ((h.its x hx1).below hW) ((h'.its y hy1).below hW) (by have := hx x hx1; unfold maxLen; omega) (by have := hy y hy1; unfold maxLen; omega)
  have HX := Lib.hid h
  have HY := Lib.hid h'
  have HSM := Lib.hid hsame
  clear h h' hx hy hsame
  by_cases hlen : la = lb
  · have e1 : ((la : Int) != (lb : Int)) = false := by rw [hlen]; simp
    subst hlen
    go_enter Try.func33, Try.ntmps33
    go_wp2_with fail
    go_loopw [13] (fun v13 wr => ∃ k : Nat, k ≤ la ∧ v13 = .int .i64 (k : Int) ∧ Below w.heap.size w wr ∧ ∀ i (hi : i < xs.length) (hi' : i < ys.length), i < k → xs[i].b = ys[i].b) (fun v13 _ => la - (intOf v13).toNat)
    case atStart => exact ⟨0, Nat.zero_le _, rfl, Below.refl _ _, fun i _ _ hi => absurd hi (by omega)⟩
    case round =>
      obtain ⟨k, hk, rfl, hb, hall⟩ := hrel
      have HALL := Lib.hid hall
      have HB := Lib.hid hb
      clear hall hb
      by_cases hlt : k < la
      · have l1 : decide ((k : Int) < (la : Int)) = true := decide_eq_true (by omega)
        obtain ⟨g, off, rfl, hg, c0, c1⟩ := (HX.out.below HB.out).at_ k hlt
        obtain ⟨g', off', rfl, hg', d0, d1⟩ := (HY.out.below HB.out).at_ k hlt
        have hSm := fun W hW => HSM.out W _ (List.getElem_mem (show k < xs.length by omega)) _ (List.getElem_mem (show k < ys.length by omega)) hW
        obtain ⟨x, hx⟩ : ∃ x, xs[k]'(by omega) = x := ⟨_, rfl⟩
        obtain ⟨y, hy⟩ : ∃ y, ys[k]'(by omega) = y := ⟨_, rfl⟩
        rw [hx] at c0 c1
        rw [hy] at d0 d1
        have hSm : ∀ W, Below wr.heap.size wr W → Calls Try.prog 31 #[.slice x.B x.ls.length x.c, .slice y.B y.ls.length y.c] W fun e w' => e = .returned (.bool (decide (x.ls = y.ls))) ∧ Below W.heap.size W w' := fun W hW => by have := hSm W (HB.out.trans (hW.mono HB.out.size)); rw [hx, hy] at this; exact this
        have hS : ∀ W, Below w.heap.size w W → (fun w' : World => w'.cell? ⟨g, off + k * 2, none⟩ = some (.int .i64 x.r) ∧ w'.cell? ⟨g, off + k * 2 + 1, none⟩ = some (.slice x.B x.ls.length x.c) ∧ w'.cell? ⟨g', off' + k * 2, none⟩ = some (.int .i64 y.r) ∧ w'.cell? ⟨g', off' + k * 2 + 1, none⟩ = some (.slice y.B y.ls.length y.c)) W := fun W hW => by
          obtain ⟨G, O, eG, _, q0, q1⟩ := (HX.out.below hW).at_ k hlt
          obtain ⟨G', O', eG', _, q2, q3⟩ := (HY.out.below hW).at_ k hlt
          injection eG with eG; injection eG with eG1 eG2
          injection eG' with eG'; injection eG' with eG1' eG2'
          subst eG1 eG2 eG1' eG2'
          rw [hx] at q0 q1
          rw [hy] at q2 q3
          exact ⟨q0, q1, q2, q3⟩
        have HS := Lib.hid hS
        have HXY := Lib.hid (And.intro hx hy)
        clear hx hy hS
        have e0 : (k : Int) < (la : Int) := by omega
        by_cases hk1 : x.r = y.r
        · have e2 : (x.r == y.r) = true := by rw [hk1]; exact beq_self_eq_true _
          have e3 : (x.r != y.r) = false := by rw [hk1]; exact bne_self_eq_false _
          by_cases hh1 : x.ls = y.ls
          · have hd : decide (x.ls = y.ls) = true := decide_eq_true hh1
            rw [hd] at hSm
            have HQ := Lib.hid (show x.b = y.b from Prod.ext hk1 hh1)
            clear hk1 hh1 hd
            go_upto_region 6 with fail
            refine wp_region_held_drew (S := (fun w' => w'.cell? ⟨g, off + k * 2, none⟩ = some (.int .i64 x.r) ∧ w'.cell? ⟨g, off + k * 2 + 1, none⟩ = some (.slice x.B x.ls.length x.c) ∧ w'.cell? ⟨g', off' + k * 2, none⟩ = some (.int .i64 y.r) ∧ w'.cell? ⟨g', off' + k * 2 + 1, none⟩ = some (.slice y.B y.ls.length y.c))) (by kernel_rfl) ⟨c0, c1, d0, d1⟩ (fun hHeld => ?_)
            refine lsq 25 ?_
            refine tkq 0 ?_
            refine tkq 1 ?_
            refine tkq 2 ?_
            refine tkq 3 ?_
            refine tkq 4 ?_
            refine tkq 5 ?_
            refine tkq 6 ?_
            refine tkq 7 ?_
            refine tkq 8 ?_
            refine tkq 9 ?_
            refine tkq 10 ?_
            refine tkq 11 ?_
            refine tkq 12 ?_
            refine tkq 13 ?_
            refine tkq 14 ?_
            refine tkq 15 ?_
            refine tkq 16 ?_
            refine tkq 17 ?_
            refine tkq 18 ?_
            refine tkq 19 ?_
            refine tkq 20 ?_
            refine tkq 21 ?_
            refine rdq1 22 fun KK hK => ?_
            go_simp
            refine (hSm _ (by repeat (first | exact Below.refl _ _ | apply Below.drew | apply below_drewN))).mono ?_
            rintro e w1 ⟨rfl, hb1⟩
            have hbw1 := HB.out.trans ((show Below wr.heap.size wr w1 from ⟨hb1.os, hb1.tape, hb1.output, hb1.size, hb1.block⟩).mono HB.out.size)
            refine hK.out _ _ (HS.out w1 hbw1) ?_
            clear hK KK hHeld hb1
            intro hHeld
            try simp only [lpq]
            refine tkq 23 ?_
            refine tkq 24 ?_
            refine dnq ?_
            clear hHeld
            go_wp2
            go_roundw
            case rel => exact ⟨k + 1, hlt, by go_num, hbw1, fun i hi hi' h1 => by
              by_cases hik : i = k
              · subst hik
                rw [HXY.out.1, HXY.out.2, HQ.out]
              · exact HALL.out i hi hi' (by omega)⟩
            case measure =>
              simp [intOf]
              omega
          · have hd : decide (x.ls = y.ls) = false := decide_eq_false hh1
            rw [hd] at hSm
            have HQ := Lib.hid (show decide (bats xs = bats ys) = false from decide_eq_false fun e => hh1 (by
              have h1 := bats_get xs k (by omega)
              have h2 := bats_get ys k (by omega)
              rw [HXY.out.1] at h1
              rw [HXY.out.2] at h2
              have h3 : x.b = y.b := by rw [← h1, ← h2]; simp only [e]
              exact congrArg Prod.snd h3))
            clear hk1 hh1 hd
            go_upto_region 6 with fail
            refine wp_region_held_drew (S := (fun w' => w'.cell? ⟨g, off + k * 2, none⟩ = some (.int .i64 x.r) ∧ w'.cell? ⟨g, off + k * 2 + 1, none⟩ = some (.slice x.B x.ls.length x.c) ∧ w'.cell? ⟨g', off' + k * 2, none⟩ = some (.int .i64 y.r) ∧ w'.cell? ⟨g', off' + k * 2 + 1, none⟩ = some (.slice y.B y.ls.length y.c))) (by kernel_rfl) ⟨c0, c1, d0, d1⟩ (fun hHeld => ?_)
            refine lsq 25 ?_
            refine tkq 0 ?_
            refine tkq 1 ?_
            refine tkq 2 ?_
            refine tkq 3 ?_
            refine tkq 4 ?_
            refine tkq 5 ?_
            refine tkq 6 ?_
            refine tkq 7 ?_
            refine tkq 8 ?_
            refine tkq 9 ?_
            refine tkq 10 ?_
            refine tkq 11 ?_
            refine tkq 12 ?_
            refine tkq 13 ?_
            refine tkq 14 ?_
            refine tkq 15 ?_
            refine tkq 16 ?_
            refine tkq 17 ?_
            refine tkq 18 ?_
            refine tkq 19 ?_
            refine tkq 20 ?_
            refine tkq 21 ?_
            refine rdq1 22 fun KK hK => ?_
            go_simp
            refine (hSm _ (by repeat (first | exact Below.refl _ _ | apply Below.drew | apply below_drewN))).mono ?_
            rintro e w1 ⟨rfl, hb1⟩
            have hbw1 := HB.out.trans ((show Below wr.heap.size wr w1 from ⟨hb1.os, hb1.tape, hb1.output, hb1.size, hb1.block⟩).mono HB.out.size)
            refine hK.out _ _ (HS.out w1 hbw1) ?_
            clear hK KK hHeld hb1
            intro hHeld
            try simp only [lpq]
            refine tkq 23 ?_
            refine tkq 24 ?_
            refine dnq ?_
            clear hHeld
            go_wp2
            go_ret
            exact ⟨by rw [HQ.out]; rfl, hbw1⟩
        · have e2 : (x.r == y.r) = false := by simpa using hk1
          have e3 : (x.r != y.r) = true := by simpa using hk1
          have HQ := Lib.hid (show decide (bats xs = bats ys) = false from decide_eq_false fun e => hk1 (by
            have h1 := bats_get xs k (by omega)
            have h2 := bats_get ys k (by omega)
            rw [HXY.out.1] at h1
            rw [HXY.out.2] at h2
            have h3 : x.b = y.b := by rw [← h1, ← h2]; simp only [e]
            exact congrArg Prod.fst h3))
          clear hk1
          go_upto_region 6 with fail
          refine wp_region_held_drew (S := (fun w' => w'.cell? ⟨g, off + k * 2, none⟩ = some (.int .i64 x.r) ∧ w'.cell? ⟨g, off + k * 2 + 1, none⟩ = some (.slice x.B x.ls.length x.c) ∧ w'.cell? ⟨g', off' + k * 2, none⟩ = some (.int .i64 y.r) ∧ w'.cell? ⟨g', off' + k * 2 + 1, none⟩ = some (.slice y.B y.ls.length y.c))) (by kernel_rfl) ⟨c0, c1, d0, d1⟩ (fun hHeld => ?_)
          refine lsq 25 ?_
          refine tkq 0 ?_
          refine tkq 1 ?_
          refine tkq 2 ?_
          refine tkq 3 ?_
          refine tkq 4 ?_
          refine tkq 5 ?_
          refine tkq 6 ?_
          refine tkq 7 ?_
          refine tkq 8 ?_
          refine tkq 9 ?_
          refine tkq 10 ?_
          refine tkq 11 ?_
          refine tuq 12 ?_
          refine tuq 13 ?_
          refine tuq 14 ?_
          refine tuq 15 ?_
          refine tuq 16 ?_
          refine tuq 17 ?_
          refine tuq 18 ?_
          refine tuq 19 ?_
          refine tuq 20 ?_
          refine tuq 21 ?_
          refine tuq 22 ?_
          refine tuq 23 ?_
          refine tkq 24 ?_
          refine dnq ?_
          clear hHeld
          go_wp2
          go_ret
          exact ⟨by rw [HQ.out]; rfl, HB.out.drew⟩
      · obtain rfl : k = la := by omega
        have l1 : decide ((k : Int) < (k : Int)) = false := decide_eq_false (by omega)
        have HQ := Lib.hid (show decide (bats xs = bats ys) = true from decide_eq_true (List.ext_getElem (by omega) fun i h1 h2 => by
          rw [bats_get xs i (by omega), bats_get ys i (by omega)]
          exact HALL.out i (by omega) (by omega) (by omega)))
        go_wp2
        go_ret
        exact ⟨by rw [HQ.out]; rfl, HB.out⟩
  · have e1 : ((la : Int) != (lb : Int)) = true := by simp; omega
    have HQ := Lib.hid (show decide (bats xs = bats ys) = false from decide_eq_false fun e => hlen (by rw [← hlx, ← hly, ← hkx, ← hky, e]))
    go_enter Try.func33, Try.ntmps33
    go_wp2
    go_ret
    exact ⟨by rw [HQ.out]; rfl, Below.refl _ _⟩

end Go.Proofs.Ytcoddkbbgmjckaa

namespace Go.Proofs.Ytcoddkbbgmjckaa
open Go.RowKit
set_option linter.unusedVariables false
set_option linter.unusedSimpArgs false
attribute [local go_sem] Oper.semAt_some

theorem khs_len (xs : List KLay) : (khs xs).length = xs.length := by unfold khs; rw [List.length_map]
theorem khs_get (xs : List KLay) (k : Nat) (hk : k < xs.length) : (khs xs)[k]'(by rw [khs_len]; exact hk) = xs[k].kh := by unfold khs; rw [List.getElem_map]

set_option maxRecDepth 100000 in
set_option maxHeartbeats 3200000 in
theorem sameR15_any (A : Option Addr) (la ca : Nat) (xs : List KLay) (B : Option Addr) (lb cb : Nat) (ys : List KLay) (w : World) (h : IxL w A la ca xs) (h' : IxL w B lb cb ys) (hm : la ≤ 900000) (hm' : lb ≤ 900000) (hx : ∀ x ∈ xs, x.h.length ≤ 900000) (hy : ∀ y ∈ ys, y.h.length ≤ 900000) :
    Calls Try.prog 22 #[.slice A la ca, .slice B lb cb] w fun e w' => e = .returned (.bool (decide (khs xs = khs ys))) ∧ Below w.heap.size w w' := by
  have hlx := h.len
  have hly := h'.len
  have hkx := khs_len xs
  have hky := khs_len ys
  have hsame := fun W x (hx1 : x ∈ xs) y (hy1 : y ∈ ys) (hW : Below w.heap.size w W) => sameR_any x.B x.h.length x.c x.h y.B y.h.length y.c y.h W ((h.vs x hx1).below hW) ((h'.vs y hy1).below hW) (by have := hx x hx1; unfold maxLen; omega) (by have := hy y hy1; unfold maxLen; omega)
  have HX := Lib.hid h
  have HY := Lib.hid h'
  have HSM := Lib.hid hsame
  clear h h' hx hy hsame
  by_cases hlen : la = lb
  · have e1 : ((la : Int) != (lb : Int)) = false := by rw [hlen]; simp
    subst hlen
    go_enter Try.func22, Try.ntmps22
    go_wp2_with fail
    go_loopw [13] (fun v13 wr => ∃ k : Nat, k ≤ la ∧ v13 = .int .i64 (k : Int) ∧ Below w.heap.size w wr ∧ ∀ i (hi : i < xs.length) (hi' : i < ys.length), i < k → xs[i].kh = ys[i].kh) (fun v13 _ => la - (intOf v13).toNat)
    case atStart => exact ⟨0, Nat.zero_le _, rfl, Below.refl _ _, fun i _ _ hi => absurd hi (by omega)⟩
    case round =>
      obtain ⟨k, hk, rfl, hb, hall⟩ := hrel
      have HALL := Lib.hid hall
      have HB := Lib.hid hb
      clear hall hb
      by_cases hlt : k < la
      · have l1 : decide ((k : Int) < (la : Int)) = true := decide_eq_true (by omega)
        obtain ⟨g, off, rfl, hg, c0, c1⟩ := (HX.out.below HB.out).at_ k hlt
        obtain ⟨g', off', rfl, hg', d0, d1⟩ := (HY.out.below HB.out).at_ k hlt
        have hSm := fun W hW => HSM.out W _ (List.getElem_mem (show k < xs.length by omega)) _ (List.getElem_mem (show k < ys.length by omega)) hW
        obtain ⟨x, hx⟩ : ∃ x, xs[k]'(by omega) = x := ⟨_, rfl⟩
        obtain ⟨y, hy⟩ : ∃ y, ys[k]'(by omega) = y := ⟨_, rfl⟩
        rw [hx] at c0 c1
        rw [hy] at d0 d1
        have hSm : ∀ W, Below wr.heap.size wr W → Calls Try.prog 52 #[.slice x.B x.h.length x.c, .slice y.B y.h.length y.c] W fun e w' => e = .returned (.bool (decide (x.h = y.h))) ∧ Below W.heap.size W w' := fun W hW => by have := hSm W (HB.out.trans (hW.mono HB.out.size)); rw [hx, hy] at this; exact this
        have hS : ∀ W, Below w.heap.size w W → (fun w' : World => w'.cell? ⟨g, off + k * 2, none⟩ = some (.string x.k) ∧ w'.cell? ⟨g, off + k * 2 + 1, none⟩ = some (.slice x.B x.h.length x.c) ∧ w'.cell? ⟨g', off' + k * 2, none⟩ = some (.string y.k) ∧ w'.cell? ⟨g', off' + k * 2 + 1, none⟩ = some (.slice y.B y.h.length y.c)) W := fun W hW => by
          obtain ⟨G, O, eG, _, q0, q1⟩ := (HX.out.below hW).at_ k hlt
          obtain ⟨G', O', eG', _, q2, q3⟩ := (HY.out.below hW).at_ k hlt
          injection eG with eG; injection eG with eG1 eG2
          injection eG' with eG'; injection eG' with eG1' eG2'
          subst eG1 eG2 eG1' eG2'
          rw [hx] at q0 q1
          rw [hy] at q2 q3
          exact ⟨q0, q1, q2, q3⟩
        have HS := Lib.hid hS
        have HXY := Lib.hid (And.intro hx hy)
        clear hx hy hS
        have e0 : (k : Int) < (la : Int) := by omega
        by_cases hk1 : x.k = y.k
        · have e2 : (x.k.toList == y.k.toList) = true := by rw [bytes_list]; exact decide_eq_true hk1
          by_cases hh1 : x.h = y.h
          · have hd : decide (x.h = y.h) = true := decide_eq_true hh1
            rw [hd] at hSm
            have HQ := Lib.hid (show x.kh = y.kh from Prod.ext hk1 hh1)
            clear hk1 hh1 hd
            go_upto_region 6 with fail
            refine wp_region_held_drew (S := (fun w' => w'.cell? ⟨g, off + k * 2, none⟩ = some (.string x.k) ∧ w'.cell? ⟨g, off + k * 2 + 1, none⟩ = some (.slice x.B x.h.length x.c) ∧ w'.cell? ⟨g', off' + k * 2, none⟩ = some (.string y.k) ∧ w'.cell? ⟨g', off' + k * 2 + 1, none⟩ = some (.slice y.B y.h.length y.c))) (by kernel_rfl) ⟨c0, c1, d0, d1⟩ (fun hHeld => ?_)
            refine lsq 25 ?_
            refine tkq 0 ?_
            refine tkq 1 ?_
            refine tkq 2 ?_
            refine tkq 3 ?_
            refine tkq 4 ?_
            refine tkq 5 ?_
            refine tkq 6 ?_
            refine tkq 7 ?_
            refine tkq 8 ?_
            refine tkq 9 ?_
            refine tkq 10 ?_
            refine tkq 11 ?_
            refine tkq 12 ?_
            refine tkq 13 ?_
            refine tkq 14 ?_
            refine tkq 15 ?_
            refine tkq 16 ?_
            refine tkq 17 ?_
            refine tkq 18 ?_
            refine tkq 19 ?_
            refine tkq 20 ?_
            refine tkq 21 ?_
            refine rdq1 22 fun KK hK => ?_
            go_simp
            refine (hSm _ (by repeat (first | exact Below.refl _ _ | apply Below.drew | apply below_drewN))).mono ?_
            rintro e w1 ⟨rfl, hb1⟩
            have hbw1 := HB.out.trans ((show Below wr.heap.size wr w1 from ⟨hb1.os, hb1.tape, hb1.output, hb1.size, hb1.block⟩).mono HB.out.size)
            refine hK.out _ _ (HS.out w1 hbw1) ?_
            clear hK KK hHeld hb1
            intro hHeld
            try simp only [lpq]
            refine tkq 23 ?_
            refine tkq 24 ?_
            refine dnq ?_
            clear hHeld
            go_wp2
            go_roundw
            case rel => exact ⟨k + 1, hlt, by go_num, hbw1, fun i hi hi' h1 => by
              by_cases hik : i = k
              · subst hik
                rw [HXY.out.1, HXY.out.2, HQ.out]
              · exact HALL.out i hi hi' (by omega)⟩
            case measure =>
              simp [intOf]
              omega
          · have hd : decide (x.h = y.h) = false := decide_eq_false hh1
            rw [hd] at hSm
            have HQ := Lib.hid (show decide (khs xs = khs ys) = false from decide_eq_false fun e => hh1 (by
              have h1 := khs_get xs k (by omega)
              have h2 := khs_get ys k (by omega)
              rw [HXY.out.1] at h1
              rw [HXY.out.2] at h2
              have h3 : x.kh = y.kh := by rw [← h1, ← h2]; simp only [e]
              exact congrArg Prod.snd h3))
            clear hk1 hh1 hd
            go_upto_region 6 with fail
            refine wp_region_held_drew (S := (fun w' => w'.cell? ⟨g, off + k * 2, none⟩ = some (.string x.k) ∧ w'.cell? ⟨g, off + k * 2 + 1, none⟩ = some (.slice x.B x.h.length x.c) ∧ w'.cell? ⟨g', off' + k * 2, none⟩ = some (.string y.k) ∧ w'.cell? ⟨g', off' + k * 2 + 1, none⟩ = some (.slice y.B y.h.length y.c))) (by kernel_rfl) ⟨c0, c1, d0, d1⟩ (fun hHeld => ?_)
            refine lsq 25 ?_
            refine tkq 0 ?_
            refine tkq 1 ?_
            refine tkq 2 ?_
            refine tkq 3 ?_
            refine tkq 4 ?_
            refine tkq 5 ?_
            refine tkq 6 ?_
            refine tkq 7 ?_
            refine tkq 8 ?_
            refine tkq 9 ?_
            refine tkq 10 ?_
            refine tkq 11 ?_
            refine tkq 12 ?_
            refine tkq 13 ?_
            refine tkq 14 ?_
            refine tkq 15 ?_
            refine tkq 16 ?_
            refine tkq 17 ?_
            refine tkq 18 ?_
            refine tkq 19 ?_
            refine tkq 20 ?_
            refine tkq 21 ?_
            refine rdq1 22 fun KK hK => ?_
            go_simp
            refine (hSm _ (by repeat (first | exact Below.refl _ _ | apply Below.drew | apply below_drewN))).mono ?_
            rintro e w1 ⟨rfl, hb1⟩
            have hbw1 := HB.out.trans ((show Below wr.heap.size wr w1 from ⟨hb1.os, hb1.tape, hb1.output, hb1.size, hb1.block⟩).mono HB.out.size)
            refine hK.out _ _ (HS.out w1 hbw1) ?_
            clear hK KK hHeld hb1
            intro hHeld
            try simp only [lpq]
            refine tkq 23 ?_
            refine tkq 24 ?_
            refine dnq ?_
            clear hHeld
            go_wp2
            go_ret
            exact ⟨by rw [HQ.out]; rfl, hbw1⟩
        · have e2 : (x.k.toList == y.k.toList) = false := by rw [bytes_list]; exact decide_eq_false hk1
          have HQ := Lib.hid (show decide (khs xs = khs ys) = false from decide_eq_false fun e => hk1 (by
            have h1 := khs_get xs k (by omega)
            have h2 := khs_get ys k (by omega)
            rw [HXY.out.1] at h1
            rw [HXY.out.2] at h2
            have h3 : x.kh = y.kh := by rw [← h1, ← h2]; simp only [e]
            exact congrArg Prod.fst h3))
          clear hk1
          go_upto_region 6 with fail
          refine wp_region_held_drew (S := (fun w' => w'.cell? ⟨g, off + k * 2, none⟩ = some (.string x.k) ∧ w'.cell? ⟨g, off + k * 2 + 1, none⟩ = some (.slice x.B x.h.length x.c) ∧ w'.cell? ⟨g', off' + k * 2, none⟩ = some (.string y.k) ∧ w'.cell? ⟨g', off' + k * 2 + 1, none⟩ = some (.slice y.B y.h.length y.c))) (by kernel_rfl) ⟨c0, c1, d0, d1⟩ (fun hHeld => ?_)
          refine lsq 25 ?_
          refine tkq 0 ?_
          refine tkq 1 ?_
          refine tkq 2 ?_
          refine tkq 3 ?_
          refine tkq 4 ?_
          refine tkq 5 ?_
          refine tkq 6 ?_
          refine tkq 7 ?_
          refine tkq 8 ?_
          refine tkq 9 ?_
          refine tkq 10 ?_
          refine tkq 11 ?_
          refine tuq 12 ?_
          refine tuq 13 ?_
          refine tuq 14 ?_
          refine tuq 15 ?_
          refine tuq 16 ?_
          refine tuq 17 ?_
          refine tuq 18 ?_
          refine tuq 19 ?_
          refine tuq 20 ?_
          refine tuq 21 ?_
          refine tuq 22 ?_
          refine tuq 23 ?_
          refine tkq 24 ?_
          refine dnq ?_
          clear hHeld
          go_wp2
          go_ret
          exact ⟨by rw [HQ.out]; rfl, HB.out.drew⟩
      · obtain rfl : k = la := by omega
        have l1 : decide ((k : Int) < (k : Int)) = false := decide_eq_false (by omega)
        have HQ := Lib.hid (show decide (khs xs = khs ys) = true from decide_eq_true (List.ext_getElem (by omega) fun i h1 h2 => by
          rw [khs_get xs i (by omega), khs_get ys i (by omega)]
          exact HALL.out i (by omega) (by omega) (by omega)))
        go_wp2
        go_ret
        exact ⟨by rw [HQ.out]; rfl, HB.out⟩
  · have e1 : ((la : Int) != (lb : Int)) = true := by simp; omega
    have HQ := Lib.hid (show decide (khs xs = khs ys) = false from decide_eq_false fun e => hlen (by rw [← hlx, ← hly, ← hkx, ← hky, e]))
    go_enter Try.func22, Try.ntmps22
    go_wp2
    go_ret
    exact ⟨by rw [HQ.out]; rfl, Below.refl _ _⟩

end Go.Proofs.Ytcoddkbbgmjckaa
