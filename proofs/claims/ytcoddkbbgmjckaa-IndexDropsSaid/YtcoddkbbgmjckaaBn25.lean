/- The document's Changes, by its contract. (Written by mkchg.py.) -/
import Derived.Test.YtcoddkbbgmjckaaBn24
import Derived.Test.YtcoddkbbgmjckaaBn05
namespace Go.Proofs.Ytcoddkbbgmjckaa
open Go.RowKit
set_option linter.unusedVariables false
set_option linter.unusedSimpArgs false
attribute [local go_sem] Oper.semAt_some

theorem kstep {a b k : Nat} (h : a ≤ k * 100000) (hb : b ≤ 100000) : a + b ≤ (k + 1) * 100000 := by
  rw [Nat.succ_mul]
  exact Nat.add_le_add h hb

/-- A batch on its way: its block, and its items in a row of the call's own. -/
structure BAt (w0 w : World) (N : Nat) (r : Int) (R : Option Addr) (m d : Nat) (ls : List (ByteArray × Ver)) : Prop where
  row : w.heap[N]? = some (.cells #[.int .i64 r, .slice R m d] 69)
  its : OwnI w0 w R m d ls
  ne : ∀ q, blk R q → q ≠ N
  len : ls.length = m

theorem BAt.below {w0 w w' : World} {N : Nat} {r : Int} {R : Option Addr} {m d : Nat} {ls : List (ByteArray × Ver)} (h : BAt w0 w N r R m d ls) (hb : Below w.heap.size w w') : BAt w0 w' N r R m d ls := ⟨(hb.block N (hlt h.row)).trans h.row, h.its.next hb, h.ne, h.len⟩
theorem ownR_stored {T : TypeId} {sz : Nat} {w0 w8 : World} {N : Nat} {r old : Value} {A8 : Option Addr} {m c8 : Nat} {us : List Value} {u : Value} (h : OwnR T sz w0 w8 A8 m c8 us) (hr : w8.heap[N]? = some (.cells #[r, old] 69)) (hn : ∀ q, blk A8 q → q ≠ N) :
    (w8.setCell ⟨N, 1, none⟩ u).heap[N]? = some (.cells #[r, u] 69) ∧ OwnR T sz w0 (w8.setCell ⟨N, 1, none⟩ u) A8 m c8 us ∧ ∀ q, blk A8 q → q ≠ N := by
  refine ⟨?_, ⟨h.sp.keep fun q hq => Below.heap_setCell _ _ _ _ (hn q hq), h.new⟩, hn⟩
  simp only [World.setCell, Array.getElem?_modify, if_true, hr, Option.map_some]
  simp

set_option maxRecDepth 100000 in
set_option maxHeartbeats 6400000 in
theorem changesR_any (A : Option Addr) (n cap : Nat) (xs : List KLay) (a b : ByteArray) (s t most : Int) (w : World) (h : IxG w A n cap xs) (ha : a.size ≤ maxLen) (hb : b.size ≤ maxLen) (ht : (xs.flatMap fun x => x.h.map (·.r)).length ≤ 100000) :
    Calls Try.prog 34 #[.slice A n cap, .string a, .string b, .int .i64 s, .int .i64 t, .int .i64 most] w fun e w' => ∃ R m d ys, e = .returned (.slice R m d) ∧ OwnB w w' R m d ys ∧ bats ys = Idx.changesI (khs xs) a b s t most ∧ Below w.heap.size w w' := by
  have hll := h.ix.len
  have hfew := h.few
  have hin := fun W x (hx : x ∈ xs) => inR_any a b x.k ha hb (h.key hx) W
  have hrv := revsR_any A n cap xs w h.ix (by omega) ht
  have hal : (Idx.revsI (khs xs)).length ≤ 100000 := Nat.le_trans (revs_len xs) ht
  obtain ⟨all, hall⟩ : ∃ all, Idx.revsI (khs xs) = all := ⟨_, rfl⟩
  have hch : Idx.changesI (khs xs) a b s t most = Idx.cutI most 0 true (all.filterMap (Idx.batO (khs xs) (Idx.inB a b) s t)) := by unfold Idx.changesI Idx.allI; rw [hall]
  rw [hall] at hrv hal
  have HV := Lib.hid h.ix
  have HI := Lib.hid hin
  have HCH := Lib.hid hch
  have HR := Lib.hid (And.intro (fun k (hk : k < xs.length) => RV_next xs hk) (fun k => Nat.le_trans (RV_le xs k) ht))
  clear h ha hb ht hin hch
  go_enter Try.func34, Try.ntmps34
  go_wp2_with fail
  refine hrv.mono ?_
  rintro e w1 ⟨RA, ra, rd, rfl, hOr, hra, hb1⟩
  have HRA := Lib.hid (And.intro hOr hb1)
  clear hOr hb1 hrv
  go_wp2_with fail
  go_loopw [13, 14, 24] (fun v13 v14 v24 wr => ∃ k : Nat, k ≤ ra ∧ v24 = .int .i64 (k : Int) ∧ ∃ n0 : Nat, v14 = .int .i64 (n0 : Int) ∧ n0 ≤ k * 100000 ∧ ∃ R m d ys, v13 = .slice R m d ∧ m ≤ k ∧ OwnB w1 wr R m d ys ∧ (∀ y ∈ ys, ∀ q, blk y.B q → q < wr.heap.size) ∧ Told xs (Idx.inB a b) s t most all (bats ys) n0 k ∧ Below w1.heap.size w1 wr) (fun _ _ v24 _ => ra - (intOf v24).toNat)
  case atStart => exact ⟨0, Nat.zero_le _, rfl, 0, rfl, by omega, none, 0, 0, [], rfl, Nat.le_refl _, OwnB.none _ _, fun y hy => by (cases hy), Told.start _ _ _ _ _ _, Below.refl _ _⟩
  case round =>
    obtain ⟨k, hk, rfl, n0, rfl, hn0, R, m, d, ys, rfl, hmk, hO, hbl, htold, hbw⟩ := hrel
    have HO := Lib.hid (And.intro hO (And.intro hbl (And.intro htold hbw)))
    clear hO hbl htold hbw
    by_cases hlt : k < ra
    · have l1 : decide ((k : Int) < (ra : Int)) = true := decide_eq_true (by omega)
      obtain ⟨g0, off0, rfl, hg0, hc0, _⟩ := (HRA.out.1.next HO.out.2.2.2).sp.at_ (by omega) k hlt
      have z0 := hc0 0 (by omega) _ (rowZ_at all k (by omega))
      rw [Nat.mul_one] at z0
      have z0 : wr.cell? ⟨g0, off0 + k, none⟩ = some (.int .i64 (all[k]'(by omega))) := z0
      obtain ⟨r, hr⟩ : ∃ r, all[k]'(by omega) = r := ⟨_, rfl⟩
      rw [hr] at z0
      have HRR := Lib.hid hr
      obtain ⟨wA, hwA⟩ : ∃ wA, wA = wr := ⟨_, rfl⟩
      subst hwA
      clear hc0 hr
      go_wp2_with fail
      go_loopw [34] (fun v34 wr => ∃ i : Nat, i ≤ n ∧ v34 = .int .i64 (i : Int) ∧ ∃ R' m' d', BAt wA wr wA.heap.size r R' m' d' (gat (Idx.inB a b) r xs i) ∧ Below wA.heap.size wA wr) (fun v34 _ => n - (intOf v34).toNat)
      case atStart => exact ⟨0, Nat.zero_le _, rfl, none, 0, 0, ⟨heap_alloc_new _ _, OwnR.none _ _ _ _, fun q hq => absurd hq (blk_none q), rfl⟩, (Below.refl _ _).alloc (Nat.le_refl _) _⟩
      case round =>
        obtain ⟨i, hi, rfl, R', m', d', hB, hbB⟩ := hrel
        have HB := Lib.hid (And.intro hB hbB)
        clear hB hbB
        by_cases hlti : i < n
        · have l2 : decide ((i : Int) < (n : Int)) = true := decide_eq_true (by omega)
          have hbw := HRA.out.2.trans ((HO.out.2.2.2.trans (HB.out.2.mono HO.out.2.2.2.size)).mono HRA.out.2.size)
          have hnx := HR.out.1 i (by omega)
          have hgn := gat_next (Idx.inB a b) r xs (show i < xs.length by omega)
          have hvs := HV.out.vs (xs[i]'(by omega)) (List.getElem_mem _)
          have hI := fun W => HI.out W (xs[i]'(by omega)) (List.getElem_mem _)
          obtain ⟨G, off, rfl, hG, c0, c1⟩ := HV.out.at_ i hlti
          obtain ⟨x, hx⟩ : ∃ x, xs[i]'(by omega) = x := ⟨_, rfl⟩
          have hI : ∀ W, Calls _ _ _ W _ := fun W => by have := hI W; rw [hx] at this; exact this
          rw [hx] at hnx hvs c0 c1 hgn
          have hxl : (RV xs i).length + x.h.length ≤ 100000 := by
            have := HR.out.2 (i + 1)
            rw [hnx, List.length_append, List.length_map] at this
            exact this
          have hgl := gat_len (Idx.inB a b) r xs i
          have HX := Lib.hid (And.intro c0 (And.intro c1 (And.intro hvs hG)))
          have HXL := Lib.hid (And.intro hxl (And.intro hgl hgn))
          obtain ⟨hn, hhn⟩ : ∃ hn, x.h.length = hn := ⟨_, rfl⟩
          have hnb : hn ≤ 100000 := by omega
          have cc1 := (hbw.cell (p := ⟨G, off + i * 2 + 1, none⟩) hG).trans c1
          rw [hhn] at cc1
          have HHN := Lib.hid hhn
          clear hnx hvs c0 c1 hgn hxl hgl hhn hbw hx
          go_wp2_with fail
          go_loopw [43] (fun v43 wr => ∃ j : Nat, j ≤ hn ∧ v43 = .int .i64 (j : Int) ∧ ∃ R' m' d', BAt wA wr wA.heap.size r R' m' d' (gat (Idx.inB a b) r xs i ++ itJ (Idx.inB a b) r x j) ∧ Below wA.heap.size wA wr) (fun v43 _ => hn - (intOf v43).toNat)
          case atStart => exact ⟨0, Nat.zero_le _, rfl, R', m', d', by rw [itJ_zero, List.append_nil]; exact HB.out.1, HB.out.2⟩
          case round =>
            obtain ⟨j, hj, rfl, R2, m2, d2, hB, hbB⟩ := hrel
            have HB2 := Lib.hid (And.intro hB hbB)
            clear hB hbB
            by_cases hltj : j < hn
            · have l3 : decide ((j : Int) < (hn : Int)) = true := decide_eq_true (by omega)
              have hbw2 : Below w.heap.size w wr := HRA.out.2.trans ((HO.out.2.2.2.trans (HB2.out.2.mono HO.out.2.2.2.size)).mono HRA.out.2.size)
              have cc0 := (hbw2.cell (p := ⟨G, off + i * 2, none⟩) HX.out.2.2.2).trans HX.out.1
              have cc1 := (hbw2.cell (p := ⟨G, off + i * 2 + 1, none⟩) HX.out.2.2.2).trans HX.out.2.1
              rw [HHN.out] at cc1
              obtain ⟨G3, off3, hB3, hG3, hc3⟩ := (HX.out.2.2.1.below hbw2).2 (by rw [HHN.out]; omega)
              have hq := hc3 j (by rw [HHN.out]; exact hltj)
              rw [hB3] at cc1
              have hjn := itJ_next (Idx.inB a b) r x (show j < x.h.length by rw [HHN.out]; exact hltj)
              obtain ⟨v, hv⟩ : ∃ v, x.h[j]'(by rw [HHN.out]; exact hltj) = v := ⟨_, rfl⟩
              rw [hv] at hq hjn
              obtain ⟨vr, vk, vm, vv, vs, vl, vg⟩ := v
              obtain ⟨q0, q1, q2, q3, q4, q5, q6⟩ := hq
              dsimp only at q0 q1 q2 q3 q4 q5 q6 hjn
              obtain ⟨b0, b1⟩ := (row2 HB2.out.1.row).1
              have hNw := Go.Proofs.Ytcoddkbbgmjckaa.hlt HB2.out.1.row
              have hGw := Nat.lt_of_lt_of_le HX.out.2.2.2 hbw2.size
              have hS : ∀ W, Below wr.heap.size wr W → (fun w' : World => w'.cell? ⟨G, off + i * 2, none⟩ = some (.string x.k) ∧ w'.cell? ⟨G, off + i * 2 + 1, none⟩ = some (.slice (some ⟨G3, off3, none⟩) hn x.c) ∧ w'.cell? ⟨G3, off3 + j * 7, none⟩ = some (.int .i64 vr) ∧ w'.cell? ⟨wA.heap.size, 0, none⟩ = some (.int .i64 r)) W := fun W hW => ⟨(hW.cell (p := ⟨G, off + i * 2, none⟩) hGw).trans cc0, (hW.cell (p := ⟨G, off + i * 2 + 1, none⟩) hGw).trans cc1, (hW.cell (p := ⟨G3, off3 + j * 7, none⟩) hG3).trans q0, (hW.cell (p := ⟨wA.heap.size, 0, none⟩) hNw).trans b0⟩
              have HS := Lib.hid hS
              have hG3w : G3 < w.heap.size := by
                obtain ⟨G3', off3', hB3', hG3', _⟩ := HX.out.2.2.1.2 (by rw [HHN.out]; omega)
                rw [hB3] at hB3'
                injection hB3' with hB3'
                injection hB3' with hB3'
                omega
              have hS15 : ∀ W, Below w.heap.size w W → (fun w' => w'.cell? ⟨G, off + i * 2, none⟩ = some (.string x.k) ∧ w'.cell? ⟨G, off + i * 2 + 1, none⟩ = some (.slice (some ⟨G3, off3, none⟩) hn x.c) ∧ w'.cell? ⟨G3, off3 + j * 7, none⟩ = some (.int .i64 vr) ∧ w'.cell? ⟨G3, off3 + j * 7 + 1, none⟩ = some (.int .i64 vk) ∧ w'.cell? ⟨G3, off3 + j * 7 + 2, none⟩ = some (.int .i64 vm) ∧ w'.cell? ⟨G3, off3 + j * 7 + 3, none⟩ = some (.int .i64 vv) ∧ w'.cell? ⟨G3, off3 + j * 7 + 4, none⟩ = some (.string vs) ∧ w'.cell? ⟨G3, off3 + j * 7 + 5, none⟩ = some (.int .i64 vl) ∧ w'.cell? ⟨G3, off3 + j * 7 + 6, none⟩ = some (.bool vg)) W := fun W hW => by
                have a0 := (hW.cell (p := ⟨G, off + i * 2, none⟩) HX.out.2.2.2).trans HX.out.1
                have a1 := (hW.cell (p := ⟨G, off + i * 2 + 1, none⟩) HX.out.2.2.2).trans HX.out.2.1
                rw [HHN.out, hB3] at a1
                have qq := fun o => (hW.cell (p := ⟨G3, o, none⟩) hG3w).trans (hbw2.cell (p := ⟨G3, o, none⟩) hG3w).symm
                exact ⟨a0, a1, (qq _).trans q0, (qq _).trans q1, (qq _).trans q2, (qq _).trans q3, (qq _).trans q4, (qq _).trans q5, (qq _).trans q6⟩
              have HS15 := Lib.hid hS15
              have HBW2 := Lib.hid hbw2
              clear hS hc3 hv hB3 hbw2 hS15 hG3w
              by_cases hvr : vr = r
              · have e2 : (vr == r) = true := by rw [hvr]; exact beq_self_eq_true _
                cases hin : Idx.inB a b x.k with
                | false =>
                  have hI2 : ∀ W, Calls _ _ _ W _ := fun W => by have := hI W; rw [hin] at this; exact this
                  have HJ := Lib.hid (show itJ (Idx.inB a b) r x (j + 1) = itJ (Idx.inB a b) r x j by rw [hjn, if_neg (by simp [hin]), List.append_nil])
                  clear hjn hvr hin
                  go_upto_region 14 with fail
                  refine wp_region_held_drew (S := (fun w' => w'.cell? ⟨G, off + i * 2, none⟩ = some (.string x.k) ∧ w'.cell? ⟨G, off + i * 2 + 1, none⟩ = some (.slice (some ⟨G3, off3, none⟩) hn x.c) ∧ w'.cell? ⟨G3, off3 + j * 7, none⟩ = some (.int .i64 vr) ∧ w'.cell? ⟨wA.heap.size, 0, none⟩ = some (.int .i64 r))) (by kernel_rfl) ⟨cc0, cc1, q0, b0⟩ (fun hHeld => ?_)
                  refine lsq 22 ?_
                  refine tkq 0 ?_
                  refine tkq 1 ?_
                  refine tkq 2 ?_
                  refine tkq 3 ?_
                  refine tkq 4 ?_
                  refine tkq 5 ?_
                  refine tkq 6 ?_
                  refine tkq 7 ?_
                  refine tkq 8 ?_
                  refine tkq 9 ?_
                  refine tkq 10 ?_
                  refine tkq 11 ?_
                  refine tkq 12 ?_
                  refine tkq 13 ?_
                  refine tkq 14 ?_
                  refine tkq 15 ?_
                  refine tkq 16 ?_
                  refine tkq 17 ?_
                  refine tkq 18 ?_
                  refine tkq 19 ?_
                  refine rdq1 20 fun KK hK => ?_
                  go_simp
                  refine (hI2 _).mono ?_
                  rintro e w5 ⟨rfl, rfl⟩
                  refine hK.out _ _ (HS.out _ (show Below wr.heap.size wr _ from (by repeat (first | exact Below.refl _ _ | apply Below.drew | apply below_drewN | refine Below.alloc ?_ (by simp) _)))) ?_
                  clear hK KK hHeld
                  intro hHeld
                  try simp only [lpq]
                  refine tkq 21 ?_
                  refine dnq ?_
                  clear hHeld
                  go_wp2
                  go_roundw
                  case rel => first | exact ⟨j + 1, hltj, by go_num, R2, m2, d2, by rw [HJ.out]; exact HB2.out.1.below (show Below wr.heap.size wr _ from (by repeat (first | exact Below.refl _ _ | apply Below.drew | apply below_drewN | refine Below.alloc ?_ (by simp) _))), HB2.out.2.trans ((show Below wr.heap.size wr _ from (by repeat (first | exact Below.refl _ _ | apply Below.drew | apply below_drewN | refine Below.alloc ?_ (by simp) _))).mono HB2.out.2.size)⟩ | exact ⟨j + 1, hltj, by go_num, ⟨R2, m2, d2, by rw [HJ.out]; exact HB2.out.1.below (show Below wr.heap.size wr _ from (by repeat (first | exact Below.refl _ _ | apply Below.drew | apply below_drewN | refine Below.alloc ?_ (by simp) _)))⟩, HB2.out.2.trans ((show Below wr.heap.size wr _ from (by repeat (first | exact Below.refl _ _ | apply Below.drew | apply below_drewN | refine Below.alloc ?_ (by simp) _))).mono HB2.out.2.size)⟩
                  case measure =>
                    simp [intOf]
                    omega
                | true =>
                  have hI2 : ∀ W, Calls _ _ _ W _ := fun W => by have := hI W; rw [hin] at this; exact this
                  have HJ := Lib.hid (show itJ (Idx.inB a b) r x (j + 1) = itJ (Idx.inB a b) r x j ++ [(x.k, ⟨vr, vk, vm, vv, vs, vl, vg⟩)] by rw [hjn, if_pos (by simp [hin, hvr])])
                  clear hjn hvr hin
                  go_upto_region 14 with fail
                  refine wp_region_held_drew (S := (fun w' => w'.cell? ⟨G, off + i * 2, none⟩ = some (.string x.k) ∧ w'.cell? ⟨G, off + i * 2 + 1, none⟩ = some (.slice (some ⟨G3, off3, none⟩) hn x.c) ∧ w'.cell? ⟨G3, off3 + j * 7, none⟩ = some (.int .i64 vr) ∧ w'.cell? ⟨wA.heap.size, 0, none⟩ = some (.int .i64 r))) (by kernel_rfl) ⟨cc0, cc1, q0, b0⟩ (fun hHeld => ?_)
                  refine lsq 22 ?_
                  refine tkq 0 ?_
                  refine tkq 1 ?_
                  refine tkq 2 ?_
                  refine tkq 3 ?_
                  refine tkq 4 ?_
                  refine tkq 5 ?_
                  refine tkq 6 ?_
                  refine tkq 7 ?_
                  refine tkq 8 ?_
                  refine tkq 9 ?_
                  refine tkq 10 ?_
                  refine tkq 11 ?_
                  refine tkq 12 ?_
                  refine tkq 13 ?_
                  refine tkq 14 ?_
                  refine tkq 15 ?_
                  refine tkq 16 ?_
                  refine tkq 17 ?_
                  refine tkq 18 ?_
                  refine tkq 19 ?_
                  refine rdq1 20 fun KK hK => ?_
                  go_simp
                  refine (hI2 _).mono ?_
                  rintro e w5 ⟨rfl, rfl⟩
                  refine hK.out _ _ (HS.out _ (show Below wr.heap.size wr _ from (by repeat (first | exact Below.refl _ _ | apply Below.drew | apply below_drewN | refine Below.alloc ?_ (by simp) _)))) ?_
                  clear hK KK hHeld
                  intro hHeld
                  try simp only [lpq]
                  refine tkq 21 ?_
                  refine dnq ?_
                  clear hHeld
                  have hlen : m2 + 1 ≤ 1000000 := by
                    have h1 := HB2.out.1.len
                    have h2 := HXL.out.1
                    have h3 := HXL.out.2.1
                    have h4 := itJ_len (Idx.inB a b) r x j
                    rw [List.length_append] at h1
                    omega
                  have hnN : ¬ blk R2 wA.heap.size := fun e => HB2.out.1.ne _ e rfl
                  have HWR := Lib.hid (show ∀ W, Below wr.heap.size wr W → Below w.heap.size w W from fun W hW => HBW2.out.trans (hW.mono HBW2.out.size))
                  have HWA := Lib.hid (show ∀ W, Below wA.heap.size wA W → Below w.heap.size w W from fun W hW => HRA.out.2.trans ((HO.out.2.2.2.trans (hW.mono HO.out.2.2.2.size)).mono HRA.out.2.size))
                  have HWL := Lib.hid (show w.heap.size ≤ wA.heap.size from Nat.le_trans HRA.out.2.size HO.out.2.2.2.size)
                  go_upto_region 15 with fail
                  refine wp_region_held_drew (S := (fun w' => w'.cell? ⟨G, off + i * 2, none⟩ = some (.string x.k) ∧ w'.cell? ⟨G, off + i * 2 + 1, none⟩ = some (.slice (some ⟨G3, off3, none⟩) hn x.c) ∧ w'.cell? ⟨G3, off3 + j * 7, none⟩ = some (.int .i64 vr) ∧ w'.cell? ⟨G3, off3 + j * 7 + 1, none⟩ = some (.int .i64 vk) ∧ w'.cell? ⟨G3, off3 + j * 7 + 2, none⟩ = some (.int .i64 vm) ∧ w'.cell? ⟨G3, off3 + j * 7 + 3, none⟩ = some (.int .i64 vv) ∧ w'.cell? ⟨G3, off3 + j * 7 + 4, none⟩ = some (.string vs) ∧ w'.cell? ⟨G3, off3 + j * 7 + 5, none⟩ = some (.int .i64 vl) ∧ w'.cell? ⟨G3, off3 + j * 7 + 6, none⟩ = some (.bool vg))) (by kernel_rfl) (HS15.out _ (HWR.out _ (show Below wr.heap.size wr _ from (by repeat (first | exact Below.refl _ _ | apply Below.drew | apply below_drewN | refine Below.alloc ?_ (by simp) _))))) (fun hHeld => ?_)
                  refine lsq 20 ?_
                  refine tkq 0 ?_
                  refine tkq 2 ?_
                  refine tkq 3 ?_
                  refine tkq 4 ?_
                  refine tkq 5 ?_
                  refine tkq 6 ?_
                  refine tkq 7 ?_
                  refine tkq 8 ?_
                  refine tkq 9 ?_
                  refine tkq 10 ?_
                  refine tkq 11 ?_
                  refine tkq 12 ?_
                  refine tkq 13 ?_
                  refine tkq 14 ?_
                  refine tkq 15 ?_
                  refine rdq2 1 16 (fun KK hK => ?_) (fun KK hK => ?_)
                  · go_simp
                    refine hK.out _ _ (HS15.out _ (HWR.out _ (show Below wr.heap.size wr _ from (by repeat (first | exact Below.refl _ _ | apply Below.drew | apply below_drewN | refine Below.alloc ?_ (by simp) _))))) ?_
                    clear hK KK hHeld
                    intro hHeld
                    try simp only [lpq]
                    refine rdq1 16 fun KK hK => ?_
                    go_simp
                    refine hK.out _ _ (HS15.out _ (HWR.out _ (show Below wr.heap.size wr _ from (by repeat (first | exact Below.refl _ _ | apply Below.drew | apply below_drewN | refine Below.alloc ?_ (by simp) _))))) ?_
                    clear hK KK hHeld
                    intro hHeld
                    try simp only [lpq]
                    refine rdq1 17 fun KK hK => ?_
                    refine step_append_sp elem_item _ (by rfl) _ _ (by rfl) R2 m2 d2 (rowI (gat (Idx.inB a b) r xs i ++ itJ (Idx.inB a b) r x j)) (by rfl) (HB2.out.1.its.sp.keep fun q hq => (show Below wr.heap.size wr _ from (by repeat (first | exact Below.refl _ _ | apply Below.drew | apply below_drewN | refine Below.alloc ?_ (by simp) _))).block q (HB2.out.1.its.sp.lt hq)) (some ⟨wr.heap.size, 0, none⟩) 1 1 (itemC (x.k, ⟨vr, vk, vm, vv, vs, vl, vg⟩)) (by rfl) (fun e => by cases e) (by rfl) (itemC_one _) (fun b e => by cases e; exact cells_lit (C := itemC (x.k, ⟨vr, vk, vm, vv, vs, vl, vg⟩)) (heap_alloc_new _ _)) hlen ?_
                    intro A8 c8 w8 hsp hA hg
                    have hr8 := (hg.block wA.heap.size (by simp; omega) hnN).trans (((show Below wr.heap.size wr _ from (by repeat (first | exact Below.refl _ _ | apply Below.drew | apply below_drewN | refine Below.alloc ?_ (by simp) _))).block _ hNw).trans HB2.out.1.row)
                    have hP := HB2.out.1.its.push HB2.out.2 (show Below wr.heap.size wr _ from (by repeat (first | exact Below.refl _ _ | apply Below.drew | apply below_drewN | refine Below.alloc ?_ (by simp) _))) hg hsp hA
                    have e1 : w8.cell? ⟨wA.heap.size, 1, none⟩ = some (.slice R2 m2 d2) := (row2 hr8).1.2
                    have f1 := (row2 hr8).2.2
                    have hw8 := HWA.out _ hP.2
                    refine hK.out _ _ (HS15.out _ hw8) ?_
                    clear hK KK hHeld
                    intro hHeld
                    try simp only [lpq]
                    refine tkq 18 ?_
                    refine rdq1 19 fun KK hK => ?_
                    go_simp
                    refine hK.out _ _ (HS15.out _ (hw8.setCell (p := ⟨wA.heap.size, 1, none⟩) HWL.out _)) ?_
                    clear hK KK hHeld
                    intro hHeld
                    try simp only [lpq]
                    refine dnq ?_
                    have hnA : ∀ q, blk A8 q → q ≠ wA.heap.size := fun q hq => by
                      rcases hA q hq with h | h
                      · exact HB2.out.1.ne q h
                      · exact fun e => by subst e; simp at h; omega
                    have HFB := Lib.hid (And.intro (ownR_stored (u := .slice A8 (m2 + 1) c8) hP.1 hr8 hnA) (hP.2.setCell (p := ⟨wA.heap.size, 1, none⟩) (Nat.le_refl _) (.slice A8 (m2 + 1) c8)))
                    have HL2 := Lib.hid HB2.out.1.len
                    clear hP hnA hsp hA hg hr8 e1 f1 hw8 hHeld
                    go_wp2
                    go_roundw
                    case rel => exact ⟨j + 1, hltj, by go_num, ⟨A8, m2 + 1, c8, by rw [HJ.out, ← List.append_assoc]; exact ⟨HFB.out.1.1, by unfold OwnI; rw [rowI_add]; exact HFB.out.1.2.1, HFB.out.1.2.2, by rw [List.length_append, HL2.out]; rfl⟩⟩, HFB.out.2⟩
                    case measure =>
                      simp [intOf]
                      omega
                  · go_simp
                    refine hK.out _ _ (HS15.out _ (HWR.out _ (show Below wr.heap.size wr _ from (by repeat (first | exact Below.refl _ _ | apply Below.drew | apply below_drewN | refine Below.alloc ?_ (by simp) _))))) ?_
                    clear hK KK hHeld
                    intro hHeld
                    try simp only [lpq]
                    refine rdq1 1 fun KK hK => ?_
                    go_simp
                    refine hK.out _ _ (HS15.out _ (HWR.out _ (show Below wr.heap.size wr _ from (by repeat (first | exact Below.refl _ _ | apply Below.drew | apply below_drewN | refine Below.alloc ?_ (by simp) _))))) ?_
                    clear hK KK hHeld
                    intro hHeld
                    try simp only [lpq]
                    refine rdq1 17 fun KK hK => ?_
                    refine step_append_sp elem_item _ (by rfl) _ _ (by rfl) R2 m2 d2 (rowI (gat (Idx.inB a b) r xs i ++ itJ (Idx.inB a b) r x j)) (by rfl) (HB2.out.1.its.sp.keep fun q hq => (show Below wr.heap.size wr _ from (by repeat (first | exact Below.refl _ _ | apply Below.drew | apply below_drewN | refine Below.alloc ?_ (by simp) _))).block q (HB2.out.1.its.sp.lt hq)) (some ⟨wr.heap.size, 0, none⟩) 1 1 (itemC (x.k, ⟨vr, vk, vm, vv, vs, vl, vg⟩)) (by rfl) (fun e => by cases e) (by rfl) (itemC_one _) (fun b e => by cases e; exact cells_lit (C := itemC (x.k, ⟨vr, vk, vm, vv, vs, vl, vg⟩)) (heap_alloc_new _ _)) hlen ?_
                    intro A8 c8 w8 hsp hA hg
                    have hr8 := (hg.block wA.heap.size (by simp; omega) hnN).trans (((show Below wr.heap.size wr _ from (by repeat (first | exact Below.refl _ _ | apply Below.drew | apply below_drewN | refine Below.alloc ?_ (by simp) _))).block _ hNw).trans HB2.out.1.row)
                    have hP := HB2.out.1.its.push HB2.out.2 (show Below wr.heap.size wr _ from (by repeat (first | exact Below.refl _ _ | apply Below.drew | apply below_drewN | refine Below.alloc ?_ (by simp) _))) hg hsp hA
                    have e1 : w8.cell? ⟨wA.heap.size, 1, none⟩ = some (.slice R2 m2 d2) := (row2 hr8).1.2
                    have f1 := (row2 hr8).2.2
                    have hw8 := HWA.out _ hP.2
                    refine hK.out _ _ (HS15.out _ hw8) ?_
                    clear hK KK hHeld
                    intro hHeld
                    try simp only [lpq]
                    refine tkq 18 ?_
                    refine rdq1 19 fun KK hK => ?_
                    go_simp
                    refine hK.out _ _ (HS15.out _ (hw8.setCell (p := ⟨wA.heap.size, 1, none⟩) HWL.out _)) ?_
                    clear hK KK hHeld
                    intro hHeld
                    try simp only [lpq]
                    refine dnq ?_
                    have hnA : ∀ q, blk A8 q → q ≠ wA.heap.size := fun q hq => by
                      rcases hA q hq with h | h
                      · exact HB2.out.1.ne q h
                      · exact fun e => by subst e; simp at h; omega
                    have HFB := Lib.hid (And.intro (ownR_stored (u := .slice A8 (m2 + 1) c8) hP.1 hr8 hnA) (hP.2.setCell (p := ⟨wA.heap.size, 1, none⟩) (Nat.le_refl _) (.slice A8 (m2 + 1) c8)))
                    have HL2 := Lib.hid HB2.out.1.len
                    clear hP hnA hsp hA hg hr8 e1 f1 hw8 hHeld
                    go_wp2
                    go_roundw
                    case rel => exact ⟨j + 1, hltj, by go_num, ⟨A8, m2 + 1, c8, by rw [HJ.out, ← List.append_assoc]; exact ⟨HFB.out.1.1, by unfold OwnI; rw [rowI_add]; exact HFB.out.1.2.1, HFB.out.1.2.2, by rw [List.length_append, HL2.out]; rfl⟩⟩, HFB.out.2⟩
                    case measure =>
                      simp [intOf]
                      omega
              · have e2 : (vr == r) = false := by simpa using hvr
                have HJ := Lib.hid (show itJ (Idx.inB a b) r x (j + 1) = itJ (Idx.inB a b) r x j by rw [hjn, if_neg (by simp [hvr]), List.append_nil])
                clear hjn hvr
                go_upto_region 14 with fail
                refine wp_region_held_drew (S := (fun w' => w'.cell? ⟨G, off + i * 2, none⟩ = some (.string x.k) ∧ w'.cell? ⟨G, off + i * 2 + 1, none⟩ = some (.slice (some ⟨G3, off3, none⟩) hn x.c) ∧ w'.cell? ⟨G3, off3 + j * 7, none⟩ = some (.int .i64 vr) ∧ w'.cell? ⟨wA.heap.size, 0, none⟩ = some (.int .i64 r))) (by kernel_rfl) ⟨cc0, cc1, q0, b0⟩ (fun hHeld => ?_)
                refine lsq 22 ?_
                refine tkq 0 ?_
                refine tkq 1 ?_
                refine tkq 2 ?_
                refine tkq 3 ?_
                refine tkq 4 ?_
                refine tkq 5 ?_
                refine tkq 6 ?_
                refine tkq 7 ?_
                refine tkq 8 ?_
                refine tkq 9 ?_
                refine tkq 10 ?_
                refine tkq 11 ?_
                refine tkq 12 ?_
                refine tuq 13 ?_
                refine tuq 14 ?_
                refine tuq 15 ?_
                refine tuq 16 ?_
                refine tuq 17 ?_
                refine tuq 18 ?_
                refine tuq 19 ?_
                refine tuq 20 ?_
                refine tkq 21 ?_
                refine dnq ?_
                clear hHeld
                go_wp2
                go_roundw
                case rel => first | exact ⟨j + 1, hltj, by go_num, R2, m2, d2, by rw [HJ.out]; exact HB2.out.1.below (show Below wr.heap.size wr _ from (by repeat (first | exact Below.refl _ _ | apply Below.drew | apply below_drewN | refine Below.alloc ?_ (by simp) _))), HB2.out.2.trans ((show Below wr.heap.size wr _ from (by repeat (first | exact Below.refl _ _ | apply Below.drew | apply below_drewN | refine Below.alloc ?_ (by simp) _))).mono HB2.out.2.size)⟩ | exact ⟨j + 1, hltj, by go_num, ⟨R2, m2, d2, by rw [HJ.out]; exact HB2.out.1.below (show Below wr.heap.size wr _ from (by repeat (first | exact Below.refl _ _ | apply Below.drew | apply below_drewN | refine Below.alloc ?_ (by simp) _)))⟩, HB2.out.2.trans ((show Below wr.heap.size wr _ from (by repeat (first | exact Below.refl _ _ | apply Below.drew | apply below_drewN | refine Below.alloc ?_ (by simp) _))).mono HB2.out.2.size)⟩
                case measure =>
                  simp [intOf]
                  omega
            · obtain rfl : hn = j := by omega
              have hfin := HB2.out
              rw [← HHN.out, ← HXL.out.2.2] at hfin
              have HFA := Lib.hid hfin
              clear hfin
              go_wp2
              go_roundw
              case rel => exact ⟨i + 1, hlti, by go_num, R2, m2, d2, HFA.out.1, HFA.out.2⟩
              case measure =>
                simp [intOf]
                omega
        · obtain rfl : n = i := by omega
          have hgl := gat_len (Idx.inB a b) r xs n
          have hgr := HR.out.2 n
          have hgm := HB.out.1.len
          obtain ⟨L, hL⟩ : ∃ L, gat (Idx.inB a b) r xs n = L := ⟨_, rfl⟩
          have hgx : gat (Idx.inB a b) r xs xs.length = L := by rw [← hL, hll]
          have hB2 := HB.out
          rw [hL] at hgl hgm hB2
          subst hgm
          obtain ⟨b0, b1⟩ := (row2 hB2.1.row).1
          have HB3 := Lib.hid hB2
          have HGX := Lib.hid hgx
          have y1 : IntKind.i64.wrap ((n0 : Int) + (L.length : Int)) = (n0 : Int) + (L.length : Int) := IntWalk.i64_in _ (by omega)
          obtain ⟨wz, hwz⟩ : ∃ wz, wz = wr := ⟨_, rfl⟩
          subst hwz
          have hka : k < all.length := by omega
          have hn1 : n0 ≤ (k + 1) * 100000 := kstep (b := 0) hn0 (Nat.zero_le _)
          have hn2 : n0 + L.length ≤ (k + 1) * 100000 := kstep hn0 (Nat.le_trans hgl hgr)
          have hTs := fun (hh : gat (Idx.inB a b) all[k] xs xs.length = [] ∨ all[k] < s ∨ t < all[k]) => HO.out.2.2.1.skip hka hh
          rw [HRR.out, hgx] at hTs
          have hTm := fun (hh : ¬ (gat (Idx.inB a b) all[k] xs xs.length = [] ∨ all[k] < s ∨ t < all[k])) (hm : ¬ (most < (n0 : Int) + ((gat (Idx.inB a b) all[k] xs xs.length).length : Int) ∧ bats ys ≠ [])) => HO.out.2.2.1.more hka hh hm
          rw [HRR.out, hgx] at hTm
          have hTf := fun (hh : ¬ (gat (Idx.inB a b) all[k] xs xs.length = [] ∨ all[k] < s ∨ t < all[k])) (hm : most < (n0 : Int) + ((gat (Idx.inB a b) all[k] xs xs.length).length : Int) ∧ bats ys ≠ []) => HO.out.2.2.1.full hka hh hm
          rw [HRR.out, hgx, ← HCH.out] at hTf
          have HTS := Lib.hid (And.intro hTs (And.intro hTm hTf))
          clear hL hgx hB2 hTs hTm hTf HB
          by_cases hl0 : L.length = 0
          · have d1 : ((L.length : Int) == (0 : Int)) = true := by simp [hl0]
            have d1' : ((L.length : Int) == 0) = true := d1
            have hT := Lib.hid (HTS.out.1 (.inl (List.eq_nil_of_length_eq_zero hl0)))
            clear hl0
            go_wp2
            go_roundw
            case rel => exact ⟨k + 1, hlt, by go_num, n0, rfl, hn1, R, m, d, ys, rfl, by omega, HO.out.1.next HB3.out.2, fun y hy q hq => Nat.lt_of_lt_of_le (HO.out.2.1 y hy q hq) HB3.out.2.size, hT.out, HO.out.2.2.2.trans (HB3.out.2.mono HO.out.2.2.2.size)⟩
            case measure =>
              simp [intOf]
              omega
          · have d1 : ((L.length : Int) == (0 : Int)) = false := by simpa using hl0
            have hLn : L ≠ [] := fun e => hl0 (by rw [e]; rfl)
            by_cases hrs : r < s
            · have d2 : decide (r < s) = true := decide_eq_true hrs
              have hT := Lib.hid (HTS.out.1 (.inr (.inl hrs)))
              clear hrs
              go_wp2
              go_roundw
              case rel => exact ⟨k + 1, hlt, by go_num, n0, rfl, hn1, R, m, d, ys, rfl, by omega, HO.out.1.next HB3.out.2, fun y hy q hq => Nat.lt_of_lt_of_le (HO.out.2.1 y hy q hq) HB3.out.2.size, hT.out, HO.out.2.2.2.trans (HB3.out.2.mono HO.out.2.2.2.size)⟩
              case measure =>
                simp [intOf]
                omega
            · have d2 : decide (r < s) = false := decide_eq_false hrs
              by_cases hrt : t < r
              · have d3 : decide (t < r) = true := decide_eq_true hrt
                have hT := Lib.hid (HTS.out.1 (.inr (.inr hrt)))
                clear hrt hrs
                go_wp2
                go_roundw
                case rel => exact ⟨k + 1, hlt, by go_num, n0, rfl, hn1, R, m, d, ys, rfl, by omega, HO.out.1.next HB3.out.2, fun y hy q hq => Nat.lt_of_lt_of_le (HO.out.2.1 y hy q hq) HB3.out.2.size, hT.out, HO.out.2.2.2.trans (HB3.out.2.mono HO.out.2.2.2.size)⟩
                case measure =>
                  simp [intOf]
                  omega
              · have d3 : decide (t < r) = false := decide_eq_false hrt
                have hno : ¬ (L = [] ∨ r < s ∨ t < r) := by
                  rintro (h | h | h)
                  · exact hLn h
                  · exact hrs h
                  · exact hrt h
                by_cases hmo : most < (n0 : Int) + (L.length : Int)
                · have d4 : decide (most < (n0 : Int) + (L.length : Int)) = true := decide_eq_true hmo
                  by_cases hm1 : 0 < m
                  · have d5 : decide ((0 : Int) < (m : Int)) = true := decide_eq_true (by omega)
                    have hE := Lib.hid (HTS.out.2.2 hno ⟨hmo, fun e => by
                      have h1 := HO.out.1.ba.len
                      have h2 := bats_len ys
                      rw [e] at h2
                      simp at h2
                      omega⟩)
                    clear hmo hno hrt hrs hLn
                    go_wp2
                    go_ret
                    exact ⟨R, m, d, ys, rfl, (HO.out.1.next HB3.out.2).from HRA.out.2.size, hE.out.symm, HRA.out.2.trans ((HO.out.2.2.2.trans (HB3.out.2.mono HO.out.2.2.2.size)).mono HRA.out.2.size)⟩
                  · have d5 : decide ((0 : Int) < (m : Int)) = false := decide_eq_false (by omega)
                    have hT := Lib.hid (HTS.out.2.1 hno fun e => e.2 (by
                      have h1 := HO.out.1.ba.len
                      have h2 : ys = [] := List.eq_nil_of_length_eq_zero (by omega)
                      rw [h2]
                      rfl))
                    clear hmo hno hrt hrs hLn
                    have HW := Lib.hid (show Below w1.heap.size w1 wz from HO.out.2.2.2.trans (HB3.out.2.mono HO.out.2.2.2.size))
                    have HOz := Lib.hid (HO.out.1.next HB3.out.2)
                    have h1b : ∀ u ∈ ([.int .i64 r, .slice R' L.length d'] : List Value), u.oneCell' = true := fun u hu => rowB_one ⟨r, L, R', d'⟩ u hu
                    go_wp2_with (at_builtin
                                 go_loud (refine wpList_append_sp elem_batch _ rfl _ _ rfl R m d (rowB ys) rfl (HOz.out.ba.sp.keep fun q hq => (show Below wz.heap.size wz _ from (by repeat (first | exact Below.refl _ _ | apply Below.drew | apply below_drewN | refine Below.alloc ?_ (by simp) _))).block q (HOz.out.ba.sp.lt hq)) _ 1 1 [.int .i64 r, .slice R' L.length d'] rfl (fun e => by cases e) rfl h1b (fun b e => by cases e; exact cells_lit (C := [.int .i64 r, .slice R' L.length d']) (heap_alloc_new _ _)) (by omega) ?_)
                                 intro A8 c8 w8 hsp8 hA8 hg8
                                 have hP := HOz.out.push (x := ⟨r, L, R', d'⟩) HW.out (show Below wz.heap.size wz _ from (by repeat (first | exact Below.refl _ _ | apply Below.drew | apply below_drewN | refine Below.alloc ?_ (by simp) _))) hg8 hsp8 hA8 HB3.out.1.its.sp.items (fun q hq => ⟨Nat.le_trans HO.out.2.2.2.size (HB3.out.1.its.new q hq), HB3.out.1.its.sp.lt hq, fun e => by have h1 := HB3.out.1.its.new q hq; have h2 := HO.out.1.ba.sp.lt e; omega⟩) (fun y hy q hq => Nat.lt_of_lt_of_le (HO.out.2.1 y hy q hq) HB3.out.2.size)
                                 have hS8 : wz.heap.size ≤ w8.heap.size := Nat.le_trans (show Below wz.heap.size wz _ from (by repeat (first | exact Below.refl _ _ | apply Below.drew | apply below_drewN | refine Below.alloc ?_ (by simp) _))).size hg8.size)
                    have HP := Lib.hid (And.intro hP hS8)
                    clear hP hS8 hg8 hsp8 hA8
                    go_roundw
                    case rel => exact ⟨k + 1, hlt, by go_num, n0 + L.length, by rw [Int.natCast_add], hn2, A8, m + 1, c8, ys ++ [⟨r, L, R', d'⟩], rfl, by omega, HP.out.1.1, fun y hy q hq => by
                      rcases List.mem_append.1 hy with hy | hy
                      · exact Nat.lt_of_lt_of_le (Nat.lt_of_lt_of_le (HO.out.2.1 y hy q hq) HB3.out.2.size) HP.out.2
                      · rw [List.mem_singleton] at hy
                        subst hy
                        exact Nat.lt_of_lt_of_le (HB3.out.1.its.sp.lt hq) HP.out.2, by rw [bats_add, Int.natCast_add]; exact hT.out, HP.out.1.2⟩
                    case measure =>
                      simp [intOf]
                      omega
                · have d4 : decide (most < (n0 : Int) + (L.length : Int)) = false := decide_eq_false hmo
                  have hT := Lib.hid (HTS.out.2.1 hno fun e => hmo e.1)
                  clear hmo hno hrt hrs hLn
                  have HW := Lib.hid (show Below w1.heap.size w1 wz from HO.out.2.2.2.trans (HB3.out.2.mono HO.out.2.2.2.size))
                  have HOz := Lib.hid (HO.out.1.next HB3.out.2)
                  have h1b : ∀ u ∈ ([.int .i64 r, .slice R' L.length d'] : List Value), u.oneCell' = true := fun u hu => rowB_one ⟨r, L, R', d'⟩ u hu
                  go_wp2_with (at_builtin
                               go_loud (refine wpList_append_sp elem_batch _ rfl _ _ rfl R m d (rowB ys) rfl (HOz.out.ba.sp.keep fun q hq => (show Below wz.heap.size wz _ from (by repeat (first | exact Below.refl _ _ | apply Below.drew | apply below_drewN | refine Below.alloc ?_ (by simp) _))).block q (HOz.out.ba.sp.lt hq)) _ 1 1 [.int .i64 r, .slice R' L.length d'] rfl (fun e => by cases e) rfl h1b (fun b e => by cases e; exact cells_lit (C := [.int .i64 r, .slice R' L.length d']) (heap_alloc_new _ _)) (by omega) ?_)
                               intro A8 c8 w8 hsp8 hA8 hg8
                               have hP := HOz.out.push (x := ⟨r, L, R', d'⟩) HW.out (show Below wz.heap.size wz _ from (by repeat (first | exact Below.refl _ _ | apply Below.drew | apply below_drewN | refine Below.alloc ?_ (by simp) _))) hg8 hsp8 hA8 HB3.out.1.its.sp.items (fun q hq => ⟨Nat.le_trans HO.out.2.2.2.size (HB3.out.1.its.new q hq), HB3.out.1.its.sp.lt hq, fun e => by have h1 := HB3.out.1.its.new q hq; have h2 := HO.out.1.ba.sp.lt e; omega⟩) (fun y hy q hq => Nat.lt_of_lt_of_le (HO.out.2.1 y hy q hq) HB3.out.2.size)
                               have hS8 : wz.heap.size ≤ w8.heap.size := Nat.le_trans (show Below wz.heap.size wz _ from (by repeat (first | exact Below.refl _ _ | apply Below.drew | apply below_drewN | refine Below.alloc ?_ (by simp) _))).size hg8.size)
                  have HP := Lib.hid (And.intro hP hS8)
                  clear hP hS8 hg8 hsp8 hA8
                  go_roundw
                  case rel => exact ⟨k + 1, hlt, by go_num, n0 + L.length, by rw [Int.natCast_add], hn2, A8, m + 1, c8, ys ++ [⟨r, L, R', d'⟩], rfl, by omega, HP.out.1.1, fun y hy q hq => by
                    rcases List.mem_append.1 hy with hy | hy
                    · exact Nat.lt_of_lt_of_le (Nat.lt_of_lt_of_le (HO.out.2.1 y hy q hq) HB3.out.2.size) HP.out.2
                    · rw [List.mem_singleton] at hy
                      subst hy
                      exact Nat.lt_of_lt_of_le (HB3.out.1.its.sp.lt hq) HP.out.2, by rw [bats_add, Int.natCast_add]; exact hT.out, HP.out.1.2⟩
                  case measure =>
                    simp [intOf]
                    omega
    · obtain rfl : ra = k := by omega
      have hend := HO.out.2.2.1.done (by omega)
      rw [← HCH.out] at hend
      have HE := Lib.hid hend
      clear hend
      go_wp2
      go_ret
      exact ⟨R, m, d, ys, rfl, HO.out.1.from HRA.out.2.size, HE.out.symm, HRA.out.2.trans (HO.out.2.2.2.mono HRA.out.2.size)⟩

end Go.Proofs.Ytcoddkbbgmjckaa
