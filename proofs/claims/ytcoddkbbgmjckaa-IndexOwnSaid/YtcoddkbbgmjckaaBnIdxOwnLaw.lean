/- IndexOwn: an index stays as it is, whatever is made of it. For every input. -/
import Derived.Test.YtcoddkbbgmjckaaBn27
import Derived.Test.YtcoddkbbgmjckaaBn18
import Derived.Test.YtcoddkbbgmjckaaBn46
import Derived.ChangeMaps5
import Derived.BigQuiet
namespace Go.Proofs.Ytcoddkbbgmjckaa
open Go.RowKit
set_option linter.unusedVariables false
set_option linter.unusedSimpArgs false
attribute [local go_sem] Oper.semAt_some

set_option maxRecDepth 100000 in
set_option maxHeartbeats 6400000 in
theorem indexOwn_walk (S : Says) (A : Option Addr) (len cap : Nat) (K : Nat → Idx.IAct) (B : Option Addr) (bl bcap : Nat) (K2 : Nat → Idx.IAct) (w : World) (hA : IActs w A len K) (hm : len ≤ maxLen) (hs : ∀ j, j < len → IActWf (K j)) (hA2 : IActs w B bl K2) (hm2 : bl ≤ maxLen) (hs2 : ∀ j, j < bl → IActWf (K2 j)) :
    Calls Try.prog 11 #[.slice A len cap, .slice B bl bcap] w fun e w' => e = .returned (.bool true) ∧ Below w.heap.size w w' := by
  have HV0 := Lib.hid (And.intro hA (And.intro hs (And.intro hA2 hs2)))
  clear hA hs hA2 hs2
  have H0 := Lib.hid (show Below w.heap.size w w from Below.refl _ _)
  go_enter Try.func11, Try.ntmps11
  have hC := awake15_any S w
  go_wp2_with fail
  refine hC.mono ?_
  rintro e w1 ⟨rfl, hbq⟩
  replace H0 := Lib.hid (H0.out.trans (hbq.mono H0.out.size))
  clear hC hbq
  have hC := fewI_any A len cap K 30 w1 (HV0.out.1.below H0.out) hm HV0.out.2.1 (by omega)
  go_wp2_with fail
  refine hC.mono ?_
  rintro e w1' ⟨b0, rfl, hb40, rfl⟩
  clear hC
  cases b0 with
  | false =>
    have hC := awake15_any S w1
    go_wp2_with fail
    refine hC.mono ?_
    rintro e w2 ⟨rfl, hbq⟩
    replace H0 := Lib.hid (H0.out.trans (hbq.mono H0.out.size))
    clear hC hbq
    have hbz := H0.out
    go_wp2
    go_ret
    exact ⟨rfl, hbz⟩
  | true =>
    obtain ⟨h30, hsh⟩ := hb40 rfl
    have HS := Lib.hid hsh
    clear hb40 hsh
    have hC := fewI_any B bl bcap K2 30 w1 (HV0.out.2.2.1.below H0.out) hm2 HV0.out.2.2.2 (by omega)
    go_wp2_with fail
    refine hC.mono ?_
    rintro e w1' ⟨b1, rfl, hb41, rfl⟩
    clear hC
    cases b1 with
    | false =>
      have hC := awake15_any S w1
      go_wp2_with fail
      refine hC.mono ?_
      rintro e w2 ⟨rfl, hbq⟩
      replace H0 := Lib.hid (H0.out.trans (hbq.mono H0.out.size))
      clear hC hbq
      have hbz := H0.out
      go_wp2
      go_ret
      exact ⟨rfl, hbz⟩
    | true =>
      obtain ⟨h31, hsh⟩ := hb41 rfl
      have HS2 := Lib.hid hsh
      clear hb41 hsh
      have hC := made15_any S A len cap K w1 (HV0.out.1.below H0.out) (by omega) HS.out
      go_wp2_with fail
      refine hC.mono ?_
      rintro e w2 ⟨u, R, n, c, xs, rfl, hM, hbq⟩
      replace H0 := Lib.hid (H0.out.trans (hbq.mono H0.out.size))
      have HI := Lib.hid hM
      clear hM
      clear hC hbq
      have HF := Lib.hid (runK_fit K (show len ≤ 100 by omega))
      have HFK := Lib.hid (fun k (hk : k ≤ bl) => runF_fit K K2 (m := len) (k := k) (by omega))
      obtain ⟨l, hl⟩ : ∃ l, runK K len = l := ⟨_, rfl⟩
      rw [hl] at HI HF HFK
      clear hl
      obtain ⟨W3, hW⟩ : ∃ W, w2.alloc (.cells #[.pointer u] 32) = W := ⟨_, rfl⟩
      have hbq : Below w2.heap.size w2 W3 := by rw [← hW]; exact (Below.refl _ _).alloc (Nat.le_refl _) _
      have hrq : Box W3 w2.heap.size u := by rw [← hW]; exact heap_alloc_new _ _
      have HW := Lib.hid hW
      clear hW
      replace H0 := Lib.hid (H0.out.trans (hbq.mono H0.out.size))
      replace HI := Lib.hid (HI.out.below hbq)
      have HX := Lib.hid hrq
      clear hbq hrq
      go_upto_region 6 with fail
      rw [HW.out]
      clear HW
      have bX := HX.out.cell
      go_upto_region 7 with fail
      clear bX
      obtain ⟨WY, hWY⟩ : ∃ W, W3.alloc (.cells #[.pointer u] 32) = W := ⟨_, rfl⟩
      rw [hWY]
      have hY : Box WY W3.heap.size u := by rw [← hWY]; exact heap_alloc_new _ _
      have hbY : Below W3.heap.size W3 WY := by rw [← hWY]; exact (Below.refl _ _).alloc (Nat.le_refl _) _
      have HV := Lib.hid (And.intro (HV0.out.2.2.1.below H0.out) HS2.out)
      have H3 := Lib.hid (And.intro (HI.out.below hbY) (And.intro hY hbY))
      clear hWY hY hbY
      go_wp2_with fail
      go_loopw [7, 9, 39] (fun v7 v9 v39 wr => ∃ k : Nat, k ≤ bl ∧ v39 = .int .i64 (k : Int) ∧ v7 = .bool true ∧ ∃ u R n c xs, v9 = .slice R n c ∧ Both wr u R n c xs (runF l K2 k) ∧ Box wr W3.heap.size u ∧ Below W3.heap.size W3 wr) (fun _ _ v39 _ => bl - (intOf v39).toNat)
      case atStart => exact ⟨0, Nat.zero_le _, rfl, rfl, u, R, n, c, xs, rfl, H3.out.1, H3.out.2.1, H3.out.2.2⟩
      case round =>
        obtain ⟨k, hk, rfl, rfl, uy, Ry, ny, cy, xsy, rfl, hM, hX, hb⟩ := hrel
        have HM := Lib.hid (And.intro hM (And.intro hX hb))
        clear hM hX hb
        by_cases hlt : k < bl
        · have l1 : decide ((k : Int) < (bl : Int)) = true := decide_eq_true (by omega)
          have k4 : (k : Int) < (bl : Int) := by omega
          obtain ⟨g, off, rfl, c0, c1, c2, c3, c4, c5, c6, c7, c8, c9, c10, c11, c12, c13⟩ := (HV.out.1.below HM.out.2.2).cells hlt
          have HC := Lib.hid (show ∀ W : World, Below W3.heap.size W3 W → (fun w' => w'.cell? ⟨g, off + k * 14, none⟩ = some (.int .u8 ((K2 k).kind : Int)) ∧ w'.cell? ⟨g, off + k * 14 + 1, none⟩ = some (.string (K2 k).k) ∧ w'.cell? ⟨g, off + k * 14 + 2, none⟩ = some (.string (K2 k).e) ∧ w'.cell? ⟨g, off + k * 14 + 3, none⟩ = some (.int .i64 (K2 k).r) ∧ w'.cell? ⟨g, off + k * 14 + 4, none⟩ = some (.int .i64 (K2 k).m) ∧ w'.cell? ⟨g, off + k * 14 + 5, none⟩ = some (.string (K2 k).s) ∧ w'.cell? ⟨g, off + k * 14 + 6, none⟩ = some (.int .i64 (K2 k).l) ∧ w'.cell? ⟨g, off + k * 14 + 7, none⟩ = some (.int .i64 (K2 k).v.r) ∧ w'.cell? ⟨g, off + k * 14 + 8, none⟩ = some (.int .i64 (K2 k).v.k) ∧ w'.cell? ⟨g, off + k * 14 + 9, none⟩ = some (.int .i64 (K2 k).v.m) ∧ w'.cell? ⟨g, off + k * 14 + 10, none⟩ = some (.int .i64 (K2 k).v.v) ∧ w'.cell? ⟨g, off + k * 14 + 11, none⟩ = some (.string (K2 k).v.s) ∧ w'.cell? ⟨g, off + k * 14 + 12, none⟩ = some (.int .i64 (K2 k).v.l) ∧ w'.cell? ⟨g, off + k * 14 + 13, none⟩ = some (.bool (K2 k).v.g)) W from fun W hW => by
            obtain ⟨g', off', e', c0', c1', c2', c3', c4', c5', c6', c7', c8', c9', c10', c11', c12', c13'⟩ := (HV.out.1.below hW).cells hlt
            injection e' with e'
            injection e' with e1 e2
            subst e1 e2
            exact ⟨c0', c1', c2', c3', c4', c5', c6', c7', c8', c9', c10', c11', c12', c13'⟩)
          have hD := do15_any S uy Ry ny cy xsy (runF l K2 k) (K2 k) wr.drew (HM.out.1.below (Below.refl _ _).drew) (HFK.out k hk) (HV.out.2 k hlt)
          dsimp only [iactV, ixV] at hD
          have bx := HM.out.2.1.cell
          go_upto_region 10 with fail
          refine wp_region_held_drew (S := (fun w' => w'.cell? ⟨g, off + k * 14, none⟩ = some (.int .u8 ((K2 k).kind : Int)) ∧ w'.cell? ⟨g, off + k * 14 + 1, none⟩ = some (.string (K2 k).k) ∧ w'.cell? ⟨g, off + k * 14 + 2, none⟩ = some (.string (K2 k).e) ∧ w'.cell? ⟨g, off + k * 14 + 3, none⟩ = some (.int .i64 (K2 k).r) ∧ w'.cell? ⟨g, off + k * 14 + 4, none⟩ = some (.int .i64 (K2 k).m) ∧ w'.cell? ⟨g, off + k * 14 + 5, none⟩ = some (.string (K2 k).s) ∧ w'.cell? ⟨g, off + k * 14 + 6, none⟩ = some (.int .i64 (K2 k).l) ∧ w'.cell? ⟨g, off + k * 14 + 7, none⟩ = some (.int .i64 (K2 k).v.r) ∧ w'.cell? ⟨g, off + k * 14 + 8, none⟩ = some (.int .i64 (K2 k).v.k) ∧ w'.cell? ⟨g, off + k * 14 + 9, none⟩ = some (.int .i64 (K2 k).v.m) ∧ w'.cell? ⟨g, off + k * 14 + 10, none⟩ = some (.int .i64 (K2 k).v.v) ∧ w'.cell? ⟨g, off + k * 14 + 11, none⟩ = some (.string (K2 k).v.s) ∧ w'.cell? ⟨g, off + k * 14 + 12, none⟩ = some (.int .i64 (K2 k).v.l) ∧ w'.cell? ⟨g, off + k * 14 + 13, none⟩ = some (.bool (K2 k).v.g))) (by kernel_rfl) (HC.out _ HM.out.2.2.drew) (fun hHeld => ?_)
          clear c0 c1 c2 c3 c4 c5 c6 c7 c8 c9 c10 c11 c12 c13
          refine lsq 14 ?_
          refine tkq 1 ?_
          refine tkq 2 ?_
          refine tkq 3 ?_
          refine tkq 4 ?_
          refine tkq 5 ?_
          refine rdq1 0 fun KK hK => ?_
          go_simp
          refine hK.out _ _ (HC.out _ HM.out.2.2.drew) ?_
          clear hK KK hHeld
          intro hHeld
          try simp only [lpq]
          clear bx
          refine rdq1 6 fun KK hK => ?_
          go_simp
          refine hD.mono ?_
          rintro e w5 ⟨u1, R1, n1, c1, xs1, rfl, hM1, hbq⟩
          have hbq := show Below wr.heap.size wr w5 from ⟨hbq.os, hbq.tape, hbq.output, hbq.size, hbq.block⟩
          have HM1 := Lib.hid (show Both w5 u1 R1 n1 c1 xs1 (runF l K2 (k + 1)) ∧ Box w5 W3.heap.size uy ∧ Below W3.heap.size W3 w5 from ⟨hM1, HM.out.2.1.below hbq, HM.out.2.2.trans (hbq.mono HM.out.2.2.size)⟩)
          refine hK.out _ _ (HC.out _ HM1.out.2.2) ?_
          clear hK KK hHeld
          intro hHeld
          try simp only [lpq]
          clear hD hM1 hbq
          refine tkq 7 ?_
          refine tkq 8 ?_
          refine tkq 9 ?_
          refine tkq 10 ?_
          refine rdq1 11 fun KK hK => ?_
          rw [if_pos]
          rotate_left
          · rfl
          refine wp_store_row 32 _ _ rfl W3.heap.size #[.pointer u1] (by rfl) (by rfl) _ _ HM1.out.2.1 (by kernel_rfl) rfl (by first | rfl | kernel_rfl) ?_
          have HM2 := Lib.hid (show Both (w5.setRow W3.heap.size #[.pointer u1]) u1 R1 n1 c1 xs1 (runF l K2 (k + 1)) ∧ Box (w5.setRow W3.heap.size #[.pointer u1]) W3.heap.size u1 ∧ Below W3.heap.size W3 (w5.setRow W3.heap.size #[.pointer u1]) from ⟨HM1.out.1.store HM1.out.2.1 _, HM1.out.2.1.stored _, below_setRow HM1.out.2.2 (Nat.le_refl _) _⟩)
          refine hK.out _ _ (HC.out _ HM2.out.2.2) ?_
          clear hK KK hHeld
          intro hHeld
          try simp only [lpq]
          refine tkq 12 ?_
          refine tkq 13 ?_
          refine dnq ?_
          clear hHeld
          obtain ⟨W7, hW7⟩ : ∃ W7, w5.setRow W3.heap.size #[.pointer u1] = W7 := ⟨_, rfl⟩
          rw [hW7] at HM2 ⊢
          clear hW7 HM1
          go_wp2
          go_roundw
          case rel => exact ⟨k + 1, by omega, by go_num, rfl, u1, R1, n1, c1, xs1, rfl, HM2.out⟩
          case measure =>
            simp [intOf]
            omega
        · obtain rfl : k = bl := by omega
          have l1 : decide ((k : Int) < (k : Int)) = false := decide_eq_false (by omega)
          have HFY := Lib.hid (HFK.out k (Nat.le_refl _))
          obtain ⟨ly, hly⟩ : ∃ ly, runF l K2 k = ly := ⟨_, rfl⟩
          rw [hly] at HM HFY
          clear hly
          have HA := Lib.hid (And.intro (HI.out.below HM.out.2.2) (And.intro (HX.out.below HM.out.2.2) (H0.out.trans (HM.out.2.2.mono H0.out.size))))
          have bX := HA.out.2.1.cell
          have hC := S.all u l wr HA.out.1.ix HF.out
          go_wp2_with fail
          refine hC.mono ?_
          rintro e w6 ⟨R9, m9, c9, xs9, rfl, hO, hx9, hbq⟩
          have hlen9 : xs9.length = m9 := by have := hO.sp.1; rw [rowK_len] at this; omega
          have hm9 : m9 ≤ 1000 := by rw [← hlen9, khs_len2 hx9]; exact HF.out.n
          have hh9 : ∀ x ∈ xs9, x.h.length ≤ 100000 := fun x hx => Nat.le_trans (tot_mem (l := l) (p := x.kh) (by rw [← hx9]; exact List.mem_map.2 ⟨x, hx, rfl⟩)) HF.out.t
          have H9 := Lib.hid (show (∀ x ∈ xs9, ∀ q, blk x.B q → wr.heap.size ≤ q ∧ ¬ blk R9 q) ∧ Spoil wr w6 R9 m9 c9 xs9 from ⟨hO.own, hO.sp, hO.room, hbq⟩)
          have HH9 := Lib.hid hh9
          clear hC hO hx9 hbq bX hh9
          obtain ⟨w0, hw0⟩ : ∃ w0, w0 = wr := ⟨_, rfl⟩
          subst hw0
          go_wp2_with fail
          go_loopw [60] (fun v60 wr => ∃ i : Nat, i ≤ m9 ∧ v60 = .int .i64 (i : Int) ∧ Spoil w0 wr R9 m9 c9 xs9) (fun v60 _ => m9 - (intOf v60).toNat)
          case atStart => exact ⟨0, Nat.zero_le _, rfl, H9.out.2⟩
          case round =>
            obtain ⟨i, hi, rfl, hSp⟩ := hrel
            have HSp := Lib.hid hSp
            clear hSp
            by_cases hlti : i < m9
            · have l2 : decide ((i : Int) < (m9 : Int)) = true := decide_eq_true (by omega)
              have k5 : (i : Int) < (m9 : Int) := by omega
              obtain ⟨x, hx⟩ : ∃ x, xs9[i]'(by omega) = x := ⟨_, rfl⟩
              have hxm : x ∈ xs9 := by rw [← hx]; exact List.getElem_mem _
              have HR := Lib.hid (show ∀ W : World, Spoil w0 W R9 m9 c9 xs9 → ∃ g off, R9 = some ⟨g, off, none⟩ ∧ W.cell? ⟨g, off + i * 2 + 1, none⟩ = some (.slice x.B x.h.length x.c) from fun W hW => by
                obtain ⟨g, off, e, _, hc, _⟩ := hW.sp.at_ (by omega) i hlti
                exact ⟨g, off, e, hc 1 (by omega) _ (by rw [rowK_at xs9 i (by omega) 1 (by omega), hx]; rfl)⟩)
              obtain ⟨g, off, hR9, d1⟩ := HR.out _ HSp.out
              have hxl := HH9.out x hxm
              have HXM := Lib.hid (And.intro hxm (H9.out.1 x hxm))
              clear hx hxm
              subst hR9
              obtain ⟨hn, hhn⟩ : ∃ hn, x.h.length = hn := ⟨_, rfl⟩
              rw [hhn] at d1 hxl
              have HHN := Lib.hid hhn
              clear hhn
              go_wp2_with fail
              go_loopw [69] (fun v69 wr => ∃ j : Nat, j ≤ hn ∧ v69 = .int .i64 (j : Int) ∧ Spoil w0 wr (some ⟨g, off, none⟩) m9 c9 xs9) (fun v69 _ => hn - (intOf v69).toNat)
              case atStart => exact ⟨0, Nat.zero_le _, rfl, HSp.out⟩
              case round =>
                obtain ⟨j, hj, rfl, hSp⟩ := hrel
                have HS3 := Lib.hid hSp
                clear hSp d1
                by_cases hltj : j < hn
                · have l3 : decide ((j : Int) < (hn : Int)) = true := decide_eq_true (by omega)
                  have k6 : (j : Int) < (hn : Int) := by omega
                  obtain ⟨g', off', e', d1⟩ := HR.out _ HS3.out
                  injection e' with e'
                  injection e' with e1 e2
                  subst e1 e2
                  rw [HHN.out] at d1
                  obtain ⟨g3, off3, cur, eB, hg3, hs3⟩ := HS3.out.room x HXM.out.1 (by rw [HHN.out]; omega)
                  rw [HHN.out] at hs3
                  rw [eB] at d1
                  have hne := HXM.out.2 g3 ⟨off3, eB⟩
                  have hjs : off3 + j * 7 + 4 < cur.size := by have : (j + 1) * 7 ≤ hn * 7 := Nat.mul_le_mul_right _ hltj; omega
                  have d4 : wr.cell? ⟨g3, off3 + j * 7 + 4, none⟩ = some (cur[off3 + j * 7 + 4]'hjs) := by rw [cell_of_row wr g3 _ cur _ _ hg3, Array.getElem?_eq_getElem hjs]
                  have f4 : wr.frozen? ⟨g3, off3 + j * 7 + 4, none⟩ = false := frozen_of_row wr g3 _ cur _ hg3
                  have HN := Lib.hid (HS3.out.stored (o := off3 + j * 7 + 4) hne.2 hne.1 (.string ⟨#[99, 104, 97, 110, 103, 101, 100]⟩))
                  clear hg3 hs3 eB hne
                  generalize cur[off3 + j * 7 + 4] = old at d4
                  clear hjs
                  go_wp2
                  go_roundw
                  case rel => exact ⟨j + 1, by omega, by go_num, HN.out⟩
                  case measure =>
                    simp [intOf]
                    omega
                · obtain rfl : j = hn := by omega
                  have l3 : decide ((j : Int) < (j : Int)) = false := decide_eq_false (by omega)
                  go_wp2
                  go_roundw
                  case rel => exact ⟨i + 1, by omega, by go_num, HS3.out⟩
                  case measure =>
                    simp [intOf]
                    omega
            · obtain rfl : i = m9 := by omega
              have l2 : decide ((i : Int) < (i : Int)) = false := decide_eq_false (by omega)
              have HZ := Lib.hid (show Both wr u R n c xs l ∧ Box wr w2.heap.size u ∧ Both wr uy Ry ny cy xsy ly ∧ Box wr W3.heap.size uy ∧ Below w.heap.size w wr from ⟨HA.out.1.below HSp.out.b, HA.out.2.1.below HSp.out.b, HM.out.1.below HSp.out.b, HM.out.2.1.below HSp.out.b, HA.out.2.2.trans (HSp.out.b.mono HA.out.2.2.size)⟩)
              have hC := of15_any S u l wr HZ.out.1.ix HF.out
              have bX := HZ.out.2.1.cell
              go_wp2_with fail
              refine hC.mono ?_
              rintro e w31 ⟨R5, n5, c5, ys5, rfl, hI, hy, hbq⟩
              replace HZ := Lib.hid (show Both w31 u R n c xs l ∧ Box w31 w2.heap.size u ∧ Both w31 uy Ry ny cy xsy ly ∧ Box w31 W3.heap.size uy ∧ Below w.heap.size w w31 from ⟨HZ.out.1.below hbq, HZ.out.2.1.below hbq, HZ.out.2.2.1.below hbq, HZ.out.2.2.2.1.below hbq, HZ.out.2.2.2.2.trans (hbq.mono HZ.out.2.2.2.2.size)⟩)
              clear bX
              clear hC hbq
              have hC := same_keys15 (c1 := c5) (c2 := c) hI HZ.out.1.dx hy HZ.out.1.e HF.out
              go_wp2_with fail
              refine hC.mono ?_
              rintro e w32 ⟨rfl, hbq⟩
              replace HZ := Lib.hid (show Both w32 u R n c xs l ∧ Box w32 w2.heap.size u ∧ Both w32 uy Ry ny cy xsy ly ∧ Box w32 W3.heap.size uy ∧ Below w.heap.size w w32 from ⟨HZ.out.1.below hbq, HZ.out.2.1.below hbq, HZ.out.2.2.1.below hbq, HZ.out.2.2.2.1.below hbq, HZ.out.2.2.2.2.trans (hbq.mono HZ.out.2.2.2.2.size)⟩)
              clear hI hy
              clear hC hbq
              have hC := of15_any S uy ly w32 HZ.out.2.2.1.ix HFY.out
              have bY := HZ.out.2.2.2.1.cell
              go_wp2_with fail
              refine hC.mono ?_
              rintro e w33 ⟨R6, n6, c6, ys6, rfl, hI, hy, hbq⟩
              replace HZ := Lib.hid (show Both w33 u R n c xs l ∧ Box w33 w2.heap.size u ∧ Both w33 uy Ry ny cy xsy ly ∧ Box w33 W3.heap.size uy ∧ Below w.heap.size w w33 from ⟨HZ.out.1.below hbq, HZ.out.2.1.below hbq, HZ.out.2.2.1.below hbq, HZ.out.2.2.2.1.below hbq, HZ.out.2.2.2.2.trans (hbq.mono HZ.out.2.2.2.2.size)⟩)
              clear bY
              clear hC hbq
              have hC := same_keys15 (c1 := c6) (c2 := cy) hI HZ.out.2.2.1.dx hy HZ.out.2.2.1.e HFY.out
              go_wp2_with fail
              refine hC.mono ?_
              rintro e w34 ⟨rfl, hbq⟩
              replace HZ := Lib.hid (show Both w34 u R n c xs l ∧ Box w34 w2.heap.size u ∧ Both w34 uy Ry ny cy xsy ly ∧ Box w34 W3.heap.size uy ∧ Below w.heap.size w w34 from ⟨HZ.out.1.below hbq, HZ.out.2.1.below hbq, HZ.out.2.2.1.below hbq, HZ.out.2.2.2.1.below hbq, HZ.out.2.2.2.2.trans (hbq.mono HZ.out.2.2.2.2.size)⟩)
              clear hI hy
              clear hC hbq
              by_cases hn0 : n = 0
              · have e8 : ((n : Int) == 0) = true := by rw [hn0]; rfl
                have hbz := HZ.out.2.2.2.2
                go_wp2
                go_ret
                exact ⟨rfl, hbz⟩
              · have e8 : ((n : Int) == 0) = false := beq_eq_false_iff_ne.2 (by omega)
                have e9 : (0 : Int) < (n : Int) := by omega
                have e10 : 0 < n := by omega
                have hxl := HZ.out.1.dx.len
                obtain ⟨g7, off7, eR, hg7, p0, p1⟩ := HZ.out.1.dx.at_ 0 (by omega)
                rw [Nat.zero_mul, Nat.add_zero] at p0 p1
                have hmx : xs[0]'(by omega) ∈ xs := List.getElem_mem _
                obtain ⟨x0, hx0⟩ : ∃ x0, xs[0]'(by omega) = x0 := ⟨_, rfl⟩
                rw [hx0] at p0 p1 hmx
                have hvs := HZ.out.1.dx.vs x0 hmx
                have hkm : x0.kh ∈ l := by rw [← HZ.out.1.e]; exact List.mem_map.2 ⟨x0, hmx, rfl⟩
                have hRt := rightR_any x0.B x0.h.length x0.c x0.h w34 hvs (by have h1 := tot_mem hkm; have h2 := HF.out.t; have h1 : x0.h.length ≤ Idx.tot l := h1; unfold maxLen; omega)
                rw [(His.right_iff x0.h).2 (HF.out.wf.right _ hkm)] at hRt
                subst eR
                clear hvs hkm hmx hx0 hxl
                go_wp2_with fail
                refine hRt.mono ?_
                rintro e w40 ⟨rfl, hbq⟩
                have hbz := HZ.out.2.2.2.2.trans (hbq.mono HZ.out.2.2.2.2.size)
                clear hRt hbq p0 p1
                go_wp2
                go_ret
                exact ⟨rfl, hbz⟩


end Go.Proofs.Ytcoddkbbgmjckaa

namespace Go.Proofs.Ytcoddkbbgmjckaa.indexOwn
open Go.ChangeShapes Go.WideShapes Go.ChangeAt Go.RowKit Go.Proofs.Ytcoddkbbgmjckaa
set_option linter.unusedVariables false
set_option linter.unusedSimpArgs false

theorem own : ownKnob Try.prog.godebug = none := by kernel_rfl

set_option maxRecDepth 100000 in
theorem lifted (os : Os) (started : os.Started) (H : Type) (enc : TypeId × Value → H) :
    ReturnsInHanded {} Try.checked os 11 .any (Rows.indexOwnSpec.pre6 enc Try.prog Try.f11 Rows.indexOwnRow.domain false) (Rows.indexOwnSpec.post enc Try.prog Try.f11 false true false false) := by
  refine returnsInHanded_of_change (C := Try.checked) own started (by kernel_rfl) Try.func11
    (ChangeSpec.witness6 (enc := enc) (C := Try.checked) false ⟨#[], #[.slice none 0 0, .slice none 0 0], []⟩ 8 (by kernel_rfl) (by kernel_rfl) (by kernel_rfl) (by kernel_rfl)) ?_
  intro W base args ds gs before hval0 hW hcnd _
  have hval : ∀ (j : Nat) t v, Try.f11.params[j]? = some t → args[j]? = some v → Value.okWide Try.prog W .any base t v := hval0
  have hW' := hW
  obtain ⟨p, q, hA0, hV, rfl, hfz, hnd⟩ := hW
  have hA : DataW.TrodAll enc Try.prog W 0 (fun _ => true) true Try.f11.params.toList args.toList ds p := hA0
  rw [Try.params11] at hA hval
  obtain ⟨v0, vs0, d0, ds0, p0, q0, hargs, rfl, rfl, h0, r0⟩ := trodAll_cons hA
  obtain ⟨v1, vs1, d1, ds1, p1, q1, rfl, rfl, rfl, h1, r1⟩ := trodAll_cons r0
  obtain ⟨rfl, rfl, rfl⟩ := trodAll_nil r1
  obtain rfl : args = #[v0, v1] := by cases args; simp_all
  obtain ⟨rfl, rfl⟩ := trodVars_none hV
  obtain ⟨A0, len0, cap0, K0, rfl, hlc0, hm0, ha0, hw0⟩ := arg_iacts (hval 0 26 v0 rfl rfl) h0 (fun x hx => hW'.lt x (by simp [hx]))
  obtain ⟨A1, len1, cap1, K1, rfl, hlc1, hm1, ha1, hw1⟩ := arg_iacts (hval 1 26 v1 rfl rfl) h1 (fun x hx => hW'.lt x (by simp [hx]))
  have fin : ∀ W', Below W.heap.size W W' → Rows.indexOwnSpec.post enc Try.prog Try.f11 false true false false W #[.slice A0 len0 cap0, .slice A1 len1 cap1] (.bool true) W' :=
    fun W' hb => law_end (by kernel_rfl) (by decide +kernel) rfl rfl Try.underlying4 hW' rfl rfl rfl hb
  exact (indexOwn_walk says A0 len0 cap0 K0 A1 len1 cap1 K1 W ha0 (Nat.le_trans hlc0 hm0) hw0 ha1 (Nat.le_trans hlc1 hm1) hw1).mono fun e W' ⟨he, hb⟩ => ⟨_, he, fin W' hb⟩

theorem over : Rows.indexOwnRow.holds Try.pinned (OpenSpec.ofChange Rows.indexOwnSpec) :=
  OpenClaim.holds_of_wide 11 Try.f11 rfl rfl rfl rfl rfl rfl rfl ⟨rfl, rfl, rfl, rfl, rfl⟩ rfl rfl rfl rfl rfl (by kernel_rfl) Try.func11 (by kernel_rfl)
    (of_decide_eq_true (by kernel_rfl)) (by unfold Func.isWrapper; first | (rw [if_pos (by decide +kernel)]; kernel_rfl) | (rw [if_neg (by decide +kernel)]; exact ⟨rfl, rfl⟩))
    (fun os started H enc _ => lifted os started H enc)

theorem proved : Rows.IndexOwnSaid := over


end Go.Proofs.Ytcoddkbbgmjckaa.indexOwn
