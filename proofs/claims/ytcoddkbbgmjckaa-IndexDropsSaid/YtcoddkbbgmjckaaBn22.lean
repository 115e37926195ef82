/- An index behind acts. (Written by mkmade.py.) -/
import Derived.Test.YtcoddkbbgmjckaaBn21
import Derived.Test.YtcoddkbbgmjckaaBn19
import Derived.Test.YtcoddkbbgmjckaaBn02
import Derived.Test.YtcoddkbbgmjckaaBn10
namespace Go.Proofs.Ytcoddkbbgmjckaa
open Go.RowKit
set_option linter.unusedVariables false
set_option linter.unusedSimpArgs false
attribute [local go_sem] Oper.semAt_some

/-- The acts one behind the other. -/
def runK (K : Nat → Idx.IAct) : Nat → List Idx.KH
  | 0 => []
  | k + 1 => Idx.doI (runK K k) (K k)

theorem runK_ok (K : Nat → Idx.IAct) : ∀ k, Idx.Wf (runK K k) ∧ (runK K k).length ≤ k ∧ Idx.tot (runK K k) ≤ k * k
  | 0 => ⟨Idx.wf_nil, Nat.le_refl _, Nat.le_refl _⟩
  | k + 1 => by
    obtain ⟨h1, h2, h3⟩ := runK_ok K k
    obtain ⟨g1, g2, g3⟩ := Idx.do_keeps h1 (K k)
    refine ⟨g1, by show (Idx.doI _ _).length ≤ _; omega, ?_⟩
    show Idx.tot (Idx.doI _ _) ≤ _
    have : (k + 1) * (k + 1) = k * k + k + k + 1 := by rw [Nat.succ_mul, Nat.mul_succ]; omega
    omega

theorem runK_fit (K : Nat → Idx.IAct) {k : Nat} (hk : k ≤ 100) : Fit (runK K k) := by
  obtain ⟨h1, h2, h3⟩ := runK_ok K k
  exact ⟨h1, by omega, Nat.le_trans h3 (Nat.le_trans (Nat.mul_le_mul hk hk) (by decide))⟩

set_option maxRecDepth 100000 in
set_option maxHeartbeats 6400000 in
theorem made15_any (S : Says) (A : Option Addr) (len cap : Nat) (K : Nat → Idx.IAct) (w : World) (hA : IActs w A len K) (hl : len ≤ 60) (hs : ∀ j, j < len → Short (K j)) :
    Calls Try.prog 26 #[.slice A len cap] w fun e w' => ∃ u R m d xs, e = .returned (.tuple #[ixV u, .slice R m d, .bool true]) ∧ Both w' u R m d xs (runK K len) ∧ Below w.heap.size w w' := by
  have HV := Lib.hid (And.intro hA hs)
  clear hA hs
  obtain ⟨W2, hW2⟩ : ∃ W2, (w.alloc (.cells #[.pointer none] 32)).alloc (.cells #[.pointer none] 32) = W2 := ⟨_, rfl⟩
  have hs0 : (w.alloc (.cells #[.pointer none] 32)).heap.size = w.heap.size + 1 := by simp
  have H2 := Lib.hid (show Below w.heap.size w W2 ∧ Box W2 w.heap.size none ∧ Box W2 (w.heap.size + 1) none by
    rw [← hW2]
    exact ⟨((Below.refl _ _).alloc (Nat.le_refl _) _).alloc (by simp <;> omega) _, (Below.heap_alloc _ _ _ (by simp)).trans (heap_alloc_new w _), by show _ = _; rw [← hs0]; exact heap_alloc_new _ _⟩)
  have HW := Lib.hid hW2
  clear hW2 hs0
  go_enter Try.func26, Try.ntmps26
  go_upto_region 2 with fail
  rw [HW.out]
  clear HW
  go_wp2_with fail
  go_loopw [6, 7, 11] (fun v6 v7 v11 wr => ∃ k : Nat, k ≤ len ∧ v11 = .int .i64 (k : Int) ∧ v7 = .bool true ∧ ∃ u R n c xs, v6 = .slice R n c ∧ Both wr u R n c xs (runK K k) ∧ Box wr w.heap.size none ∧ Box wr (w.heap.size + 1) u ∧ Below w.heap.size w wr) (fun _ _ v11 _ => len - (intOf v11).toNat)
  case atStart => exact ⟨0, Nat.zero_le _, rfl, rfl, none, none, 0, 0, [], rfl, ⟨Ixp.zero _, IxL.nil _, rfl⟩, H2.out.2.1, H2.out.2.2, H2.out.1⟩
  case round =>
    obtain ⟨k, hk, rfl, rfl, u, R, n, c, xs, rfl, hM, hR, hX, hb⟩ := hrel
    have HM := Lib.hid (And.intro hM (And.intro hR (And.intro hX hb)))
    clear hM hR hX hb
    by_cases hlt : k < len
    · have l1 : decide ((k : Int) < (len : Int)) = true := decide_eq_true (by omega)
      have k4 : (k : Int) < (len : Int) := by omega
      have hcl := (HV.out.1.below HM.out.2.2.2).cells hlt
      obtain ⟨g, off, rfl, c0, c1, c2, c3, c4, c5, c6, c7, c8, c9, c10, c11, c12, c13⟩ := hcl
      have hgw : g < w.heap.size := by
        obtain ⟨g', off', e', hg', _⟩ := HV.out.1 (by omega)
        injection e' with e'
        injection e' with e'
        omega
      have HC := Lib.hid (show ∀ W : World, Below w.heap.size w W → (fun w' => w'.cell? ⟨g, off + k * 14, none⟩ = some (.int .u8 ((K k).kind : Int)) ∧ w'.cell? ⟨g, off + k * 14 + 1, none⟩ = some (.string (K k).k) ∧ w'.cell? ⟨g, off + k * 14 + 2, none⟩ = some (.string (K k).e) ∧ w'.cell? ⟨g, off + k * 14 + 3, none⟩ = some (.int .i64 (K k).r) ∧ w'.cell? ⟨g, off + k * 14 + 4, none⟩ = some (.int .i64 (K k).m) ∧ w'.cell? ⟨g, off + k * 14 + 5, none⟩ = some (.string (K k).s) ∧ w'.cell? ⟨g, off + k * 14 + 6, none⟩ = some (.int .i64 (K k).l) ∧ w'.cell? ⟨g, off + k * 14 + 7, none⟩ = some (.int .i64 (K k).v.r) ∧ w'.cell? ⟨g, off + k * 14 + 8, none⟩ = some (.int .i64 (K k).v.k) ∧ w'.cell? ⟨g, off + k * 14 + 9, none⟩ = some (.int .i64 (K k).v.m) ∧ w'.cell? ⟨g, off + k * 14 + 10, none⟩ = some (.int .i64 (K k).v.v) ∧ w'.cell? ⟨g, off + k * 14 + 11, none⟩ = some (.string (K k).v.s) ∧ w'.cell? ⟨g, off + k * 14 + 12, none⟩ = some (.int .i64 (K k).v.l) ∧ w'.cell? ⟨g, off + k * 14 + 13, none⟩ = some (.bool (K k).v.g)) W from fun W hW => by
        obtain ⟨g', off', e', c0', c1', c2', c3', c4', c5', c6', c7', c8', c9', c10', c11', c12', c13'⟩ := (HV.out.1.below hW).cells hlt
        injection e' with e'
        injection e' with e1 e2
        subst e1 e2
        exact ⟨c0', c1', c2', c3', c4', c5', c6', c7', c8', c9', c10', c11', c12', c13'⟩)
      have hD := do15_any S u R n c xs (runK K k) (K k) wr.drew (HM.out.1.below (Below.refl _ _).drew) (runK_fit K (by omega)) (HV.out.2 k hlt)
      dsimp only [iactV, ixV] at hD
      have bx := HM.out.2.2.1.cell
      go_upto_region 7 with fail
      refine wp_region_held_drew (S := (fun w' => w'.cell? ⟨g, off + k * 14, none⟩ = some (.int .u8 ((K k).kind : Int)) ∧ w'.cell? ⟨g, off + k * 14 + 1, none⟩ = some (.string (K k).k) ∧ w'.cell? ⟨g, off + k * 14 + 2, none⟩ = some (.string (K k).e) ∧ w'.cell? ⟨g, off + k * 14 + 3, none⟩ = some (.int .i64 (K k).r) ∧ w'.cell? ⟨g, off + k * 14 + 4, none⟩ = some (.int .i64 (K k).m) ∧ w'.cell? ⟨g, off + k * 14 + 5, none⟩ = some (.string (K k).s) ∧ w'.cell? ⟨g, off + k * 14 + 6, none⟩ = some (.int .i64 (K k).l) ∧ w'.cell? ⟨g, off + k * 14 + 7, none⟩ = some (.int .i64 (K k).v.r) ∧ w'.cell? ⟨g, off + k * 14 + 8, none⟩ = some (.int .i64 (K k).v.k) ∧ w'.cell? ⟨g, off + k * 14 + 9, none⟩ = some (.int .i64 (K k).v.m) ∧ w'.cell? ⟨g, off + k * 14 + 10, none⟩ = some (.int .i64 (K k).v.v) ∧ w'.cell? ⟨g, off + k * 14 + 11, none⟩ = some (.string (K k).v.s) ∧ w'.cell? ⟨g, off + k * 14 + 12, none⟩ = some (.int .i64 (K k).v.l) ∧ w'.cell? ⟨g, off + k * 14 + 13, none⟩ = some (.bool (K k).v.g))) (by kernel_rfl) (HC.out _ HM.out.2.2.2.drew) (fun hHeld => ?_)
      clear c0 c1 c2 c3 c4 c5 c6 c7 c8 c9 c10 c11 c12 c13
      refine lsq 14 ?_
      refine tkq 1 ?_
      refine tkq 2 ?_
      refine tkq 3 ?_
      refine tkq 4 ?_
      refine tkq 5 ?_
      refine rdq1 0 fun KK hK => ?_
      go_simp
      refine hK.out _ _ (HC.out _ HM.out.2.2.2.drew) ?_
      clear hK KK hHeld bx
      intro hHeld
      try simp only [lpq]
      refine rdq1 6 fun KK hK => ?_
      go_simp
      refine hD.mono ?_
      rintro e w5 ⟨u1, R1, n1, c1, xs1, rfl, hM1, hbq⟩
      have hbq := show Below wr.heap.size wr w5 from ⟨hbq.os, hbq.tape, hbq.output, hbq.size, hbq.block⟩
      have HM1 := Lib.hid (show Both w5 u1 R1 n1 c1 xs1 (runK K (k + 1)) ∧ Box w5 w.heap.size none ∧ Box w5 (w.heap.size + 1) u ∧ Below w.heap.size w w5 from ⟨hM1, HM.out.2.1.below hbq, HM.out.2.2.1.below hbq, HM.out.2.2.2.trans (hbq.mono HM.out.2.2.2.size)⟩)
      refine hK.out _ _ (HC.out _ HM1.out.2.2.2) ?_
      clear hK KK hHeld hD hM1 hbq
      intro hHeld
      try simp only [lpq]
      refine tkq 7 ?_
      refine tkq 8 ?_
      refine tkq 9 ?_
      refine tkq 10 ?_
      refine rdq1 11 fun KK hK => ?_
      rw [if_pos]
      rotate_left
      · rfl
      refine wp_store_row 32 _ _ rfl (w.heap.size + 1) #[.pointer u1] (by rfl) (by rfl) _ _ HM1.out.2.2.1 (by kernel_rfl) rfl (by first | rfl | kernel_rfl) ?_
      have HM2 := Lib.hid (show Both (w5.setRow (w.heap.size + 1) #[.pointer u1]) u1 R1 n1 c1 xs1 (runK K (k + 1)) ∧ Box (w5.setRow (w.heap.size + 1) #[.pointer u1]) w.heap.size none ∧ Box (w5.setRow (w.heap.size + 1) #[.pointer u1]) (w.heap.size + 1) u1 ∧ Below w.heap.size w (w5.setRow (w.heap.size + 1) #[.pointer u1]) from ⟨HM1.out.1.store HM1.out.2.2.1 _, HM1.out.2.1.far (by omega) _, HM1.out.2.2.1.stored _, below_setRow HM1.out.2.2.2 (by omega) _⟩)
      refine hK.out _ _ (HC.out _ HM2.out.2.2.2) ?_
      clear hK KK hHeld
      intro hHeld
      try simp only [lpq]
      refine tkq 12 ?_
      refine tkq 13 ?_
      refine dnq ?_
      clear hHeld
      obtain ⟨W7, hW7⟩ : ∃ W7, w5.setRow (w.heap.size + 1) #[.pointer u1] = W7 := ⟨_, rfl⟩
      rw [hW7] at HM2 ⊢
      clear hW7
      go_wp2
      go_roundw
      case rel => exact ⟨k + 1, by omega, by go_num, rfl, u1, R1, n1, c1, xs1, rfl, HM2.out⟩
      case measure =>
        simp [intOf]
        omega
    · obtain rfl : k = len := by omega
      have l1 : decide ((k : Int) < (k : Int)) = false := decide_eq_false (by omega)
      have bx := HM.out.2.2.1.cell
      have HZ := Lib.hid (And.intro (HM.out.2.1.stored u) (And.intro (below_setRow HM.out.2.2.2 (g := w.heap.size) (Nat.le_refl _) #[.pointer u]) (HM.out.1.store HM.out.2.1 #[.pointer u])))
      go_wp2_with (refine wpList_store_row rfl _ _ _ rfl w.heap.size #[.pointer u] (by rfl) (by rfl) _ _ HM.out.2.1 (by kernel_rfl) rfl (by first | rfl | kernel_rfl) ?_)
      refine bodyPost_ret (res_cell_tmp_tmp (n := w.heap.size) rfl rfl HZ.out.1 Try.underlying32 rfl (by kernel_rfl)) rfl ?_
      exact ⟨u, R, n, c, xs, rfl, HZ.out.2.2, HZ.out.2.1⟩

end Go.Proofs.Ytcoddkbbgmjckaa

namespace Go.Proofs.Ytcoddkbbgmjckaa
open Go.RowKit
set_option linter.unusedVariables false
set_option linter.unusedSimpArgs false
attribute [local go_sem] Oper.semAt_some

theorem khs_len2 {xs : List KLay} {l : List Idx.KH} (h : khs xs = l) : xs.length = l.length := by rw [← h]; unfold khs; rw [List.length_map]

set_option maxRecDepth 100000 in
set_option maxHeartbeats 6400000 in
theorem of15_any (S : Says) (u : Option Addr) (l : List Idx.KH) (w : World) (h : Ixp w u l) (hf : Fit l) :
    Calls Try.prog 23 #[ixV u] w fun e w' => ∃ R m d ys, e = .returned (.slice R m d) ∧ IxL w' R m d ys ∧ khs ys = l ∧ Below w.heap.size w w' := by
  have hb1 : Below w.heap.size w (w.alloc (.cells #[.pointer u] 32)) := (Below.refl _ _).alloc (Nat.le_refl _) _
  have hP := S.all u l _ (h.below hb1) hf
  have hn := hf.n
  have HB := Lib.hid hb1
  clear h hf hb1
  dsimp only [ixV] at hP ⊢
  go_enter Try.func23, Try.ntmps23
  go_wp2_with fail
  refine hP.mono ?_
  rintro e w2 ⟨R0, m0, c0, xs, rfl, hO, hx, hb2⟩
  have hlen : xs.length = m0 := by have := hO.sp.1; rw [rowK_len] at this; omega
  have hm : m0 ≤ 1000 := by rw [← hlen, khs_len2 hx]; exact hn
  have HP := Lib.hid (And.intro hO (And.intro hx (HB.out.trans (hb2.mono HB.out.size))))
  clear hP hO hx hb2
  go_wp2_with fail
  go_loopw [3, 10] (fun v3 v10 wr => ∃ k : Nat, k ≤ m0 ∧ v10 = .int .i64 (k : Int) ∧ ∃ R c, v3 = .slice R k c ∧ OwnK w2 wr R k c (xs.take k) ∧ Below w2.heap.size w2 wr) (fun _ v10 _ => m0 - (intOf v10).toNat)
  case atStart => exact ⟨0, Nat.zero_le _, rfl, none, 0, rfl, OwnK.none _ _, Below.refl _ _⟩
  case round =>
    obtain ⟨k, hk, rfl, R, c, rfl, hO, hb⟩ := hrel
    have HO := Lib.hid (And.intro hO hb)
    clear hO hb
    by_cases hlt : k < m0
    · have l1 : decide ((k : Int) < (m0 : Int)) = true := decide_eq_true (by omega)
      have k4 : (k : Int) < (m0 : Int) := by omega
      obtain ⟨g, off, rfl, hg, hc, _⟩ := HP.out.1.sp.at_ (by omega) k hlt
      have htk : xs.take (k + 1) = xs.take k ++ [xs[k]'(by omega)] := List.take_succ_eq_append_getElem (by omega)
      have hvx := HP.out.1.vs (xs[k]'(by omega)) (List.getElem_mem _)
      have d0 := hc 0 (by omega) (.string (xs[k]'(by omega)).k) (by rw [rowK_at xs k (by omega) 0 (by omega)]; rfl)
      have d1 := hc 1 (by omega) (.slice (xs[k]'(by omega)).B (xs[k]'(by omega)).h.length (xs[k]'(by omega)).c) (by rw [rowK_at xs k (by omega) 1 (by omega)]; rfl)
      rw [Nat.add_zero] at d0
      obtain ⟨x, hx⟩ : ∃ x, xs[k]'(by omega) = x := ⟨_, rfl⟩
      rw [hx] at d0 d1 htk hvx
      have HT := Lib.hid (And.intro htk hvx)
      have HC := Lib.hid (show ∀ W : World, Below w2.heap.size w2 W → (fun w' => w'.cell? ⟨g, off + k * 2, none⟩ = some (.string x.k) ∧ w'.cell? ⟨g, off + k * 2 + 1, none⟩ = some (.slice x.B x.h.length x.c)) W from fun W hW => ⟨(hW.cell (p := ⟨g, off + k * 2, none⟩) hg).trans d0, (hW.cell (p := ⟨g, off + k * 2 + 1, none⟩) hg).trans d1⟩)
      clear hc hx htk hvx d0 d1
      go_upto_region 6 with fail
      refine wp_region_held_drew (S := (fun w' => w'.cell? ⟨g, off + k * 2, none⟩ = some (.string x.k) ∧ w'.cell? ⟨g, off + k * 2 + 1, none⟩ = some (.slice x.B x.h.length x.c))) (by kernel_rfl) (HC.out _ HO.out.2.drew) (fun hHeld => ?_)
      refine lsq 15 ?_
      refine tkq 0 ?_
      refine tkq 1 ?_
      refine tkq 2 ?_
      refine tkq 3 ?_
      refine tkq 4 ?_
      refine tkq 5 ?_
      refine tkq 6 ?_
      refine tkq 7 ?_
      refine tkq 8 ?_
      refine tkq 9 ?_
      refine tkq 10 ?_
      refine tkq 11 ?_
      refine rdq1 12 fun KK hK => ?_
      go_simp
      refine hK.out _ _ (HC.out _ (HO.out.2.trans ((show Below wr.heap.size wr _ from (by repeat (first | exact Below.refl _ _ | apply Below.drew | apply below_drewN | refine Below.alloc ?_ (by simp) _))).mono HO.out.2.size))) ?_
      clear hK KK hHeld
      intro hHeld
      try simp only [lpq]
      refine rdq1 13 fun KK hK => ?_
      refine step_append_sp elem_hist _ (by rfl) _ _ (by rfl) R k c (rowK (xs.take k)) (by rfl) (HO.out.1.ix.sp.keep fun q hq => (show Below wr.heap.size wr _ from (by repeat (first | exact Below.refl _ _ | apply Below.drew | apply below_drewN | refine Below.alloc ?_ (by simp) _))).block q (HO.out.1.ix.sp.lt hq)) (some ⟨wr.heap.size, 0, none⟩) 1 1 x.cells (by rfl) (fun e => by cases e) (by rfl) (rowK_one x) (fun b e => by cases e; exact cells_lit (C := x.cells) (heap_alloc_new _ _)) (by omega) ?_
      intro A8 c8 w8 hsp hA hg8
      have hP8 := HO.out.1.push (x := x) HO.out.2 (show Below wr.heap.size wr _ from (by repeat (first | exact Below.refl _ _ | apply Below.drew | apply below_drewN | refine Below.alloc ?_ (by simp) _))) hg8 hsp hA (.inl HT.out.2) (fun y hy => .inl (HP.out.1.vs y (List.mem_of_mem_take hy)))
      refine hK.out _ _ (HC.out _ hP8.2) ?_
      clear hK KK hHeld hsp hA hg8
      intro hHeld
      try simp only [lpq]
      refine tkq 14 ?_
      refine dnq ?_
      have H8 := Lib.hid hP8
      clear hHeld hP8
      go_wp2
      go_roundw
      case rel => exact ⟨k + 1, by omega, by go_num, A8, c8, rfl, by rw [HT.out.1]; exact H8.out.1, H8.out.2⟩
      case measure =>
        simp [intOf]
        omega
    · obtain rfl : k = m0 := by omega
      have l1 : decide ((k : Int) < (k : Int)) = false := decide_eq_false (by omega)
      have HZ := Lib.hid (show IxL wr R k c xs by have := HO.out.1.ix; rw [List.take_of_length_le (by omega)] at this; exact this)
      go_wp2
      go_ret
      exact ⟨R, k, c, xs, rfl, HZ.out, HP.out.2.1, HP.out.2.2.trans (HO.out.2.mono HP.out.2.2.size)⟩

end Go.Proofs.Ytcoddkbbgmjckaa

namespace Go.Proofs.Ytcoddkbbgmjckaa
open Go.RowKit
set_option linter.unusedVariables false
set_option linter.unusedSimpArgs false
attribute [local go_sem] Oper.semAt_some

theorem beginsR_any (s pre : ByteArray) (hs : s.size ≤ maxLen) (hp : pre.size ≤ maxLen) (w : World) : Calls Try.prog 63 #[.string s, .string pre] w fun e w' => e = .returned (.bool (Idx.begins s pre)) ∧ w' = w := by
  unfold maxLen at hs hp
  have HB : Hid (Idx.begins s pre = (decide (pre.size ≤ s.size) && decide (s.extract 0 pre.size = pre))) := ⟨rfl⟩
  by_cases h : pre.size ≤ s.size
  · have e1 : decide ((pre.size : Int) ≤ (s.size : Int)) = true := decide_eq_true (by omega)
    have hsl : ∀ W : World, (Instr.slice 9 (.string s) none (some (.int .i64 (pre.size : Int))) none).run Try.prog W = .ok (.string (s.extract 0 pre.size)) W := fun W => by
      have := run_slice_string_h (P := Try.prog) W 9 s Try.underlying9 .i64 (pre.size : Int) (by omega) (by omega)
      simpa using this
    have he : ((s.extract 0 pre.size).toList == pre.toList) = decide (s.extract 0 pre.size = pre) := bytes_list _ _
    have HH := Lib.hid h
    clear h
    generalize s.extract 0 pre.size = ss at *
    generalize decide (ss = pre) = q at *
    go_enter Try.func63, Try.ntmps63
    go_wp2
    go_ret
    exact ⟨by rw [HB.out, decide_eq_true HH.out, Bool.true_and]; first | rfl | (rw [← he]; rfl), rfl⟩
  · have e1 : decide ((pre.size : Int) ≤ (s.size : Int)) = false := decide_eq_false (by omega)
    have HH := Lib.hid h
    clear h
    go_enter Try.func63, Try.ntmps63
    go_wp2
    go_ret
    exact ⟨by rw [HB.out, decide_eq_false HH.out, Bool.false_and]; rfl, rfl⟩

end Go.Proofs.Ytcoddkbbgmjckaa
