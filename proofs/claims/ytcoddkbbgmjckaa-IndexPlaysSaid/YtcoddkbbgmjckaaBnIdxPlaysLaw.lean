/- IndexPlays: whatever becomes of the keys, the index is what the document says. For every input. -/
import Derived.Test.YtcoddkbbgmjckaaBn27
import Derived.Test.YtcoddkbbgmjckaaBn18
import Derived.Test.YtcoddkbbgmjckaaBn46
import Derived.ChangeMaps5
import Derived.BigQuiet
namespace Go.Proofs.Ytcoddkbbgmjckaa
open Go.RowKit
set_option linter.unusedVariables false
set_option linter.unusedSimpArgs false
attribute [local go_sem] Oper.semAt_some

set_option maxRecDepth 100000 in
set_option maxHeartbeats 6400000 in
theorem indexPlays_walk (S : Says) (A : Option Addr) (len cap : Nat) (K : Nat → Idx.IAct) (w : World) (hA : IActs w A len K) (hm : len ≤ maxLen) (hs : ∀ j, j < len → IActWf (K j)) :
    Calls Try.prog 4 #[.slice A len cap] w fun e w' => e = .returned (.bool true) ∧ Below w.heap.size w w' := by
  have HV0 := Lib.hid (And.intro hA hs)
  clear hA hs
  have H0 := Lib.hid (show Below w.heap.size w w from Below.refl _ _)
  go_enter Try.func4, Try.ntmps4
  have hC := awake15_any S w
  go_wp2_with fail
  refine hC.mono ?_
  rintro e w1 ⟨rfl, hbq⟩
  replace H0 := Lib.hid (H0.out.trans (hbq.mono H0.out.size))
  clear hC hbq
  have hC := fewI_any A len cap K 60 w1 (HV0.out.1.below H0.out) hm HV0.out.2 (by omega)
  go_wp2_with fail
  refine hC.mono ?_
  rintro e w1' ⟨b0, rfl, hb40, rfl⟩
  clear hC
  cases b0 with
  | false =>
    have hC := awake15_any S w1
    go_wp2_with fail
    refine hC.mono ?_
    rintro e w2 ⟨rfl, hbq⟩
    replace H0 := Lib.hid (H0.out.trans (hbq.mono H0.out.size))
    clear hC hbq
    have hbz := H0.out
    go_wp2
    go_ret
    exact ⟨rfl, hbz⟩
  | true =>
    obtain ⟨h60, hsh⟩ := hb40 rfl
    have HV := Lib.hid (And.intro HV0.out.1 hsh)
    clear hb40 hsh
    have HG := Lib.hid (show w.heap.size ≤ w1.heap.size from H0.out.size)
    go_upto_region 4 with fail
    obtain ⟨W3, hW⟩ : ∃ W, w1.alloc (.cells #[.pointer none] 32) = W := ⟨_, rfl⟩
    rw [hW]
    have hX : Box W3 w1.heap.size none := by rw [← hW]; exact heap_alloc_new _ _
    have hb3 : Below w.heap.size w W3 := by rw [← hW]; exact H0.out.alloc H0.out.size _
    have H3 := Lib.hid (And.intro hX hb3)
    clear hW hX hb3
    go_wp2_with fail
    go_loopw [4, 5, 21] (fun v4 v5 v21 wr => ∃ k : Nat, k ≤ len ∧ v21 = .int .i64 (k : Int) ∧ v5 = .bool true ∧ ∃ u R n c xs, v4 = .slice R n c ∧ Both wr u R n c xs (runK K k) ∧ Box wr w1.heap.size u ∧ Below w.heap.size w wr) (fun _ _ v21 _ => len - (intOf v21).toNat)
    case atStart => exact ⟨0, Nat.zero_le _, rfl, rfl, none, none, 0, 0, [], rfl, ⟨Ixp.zero _, IxL.nil _, rfl⟩, H3.out.1, H3.out.2⟩
    case round =>
      obtain ⟨k, hk, rfl, rfl, u, R, n, c, xs, rfl, hM, hX, hb⟩ := hrel
      have HM := Lib.hid (And.intro hM (And.intro hX hb))
      clear hM hX hb
      by_cases hlt : k < len
      · have l1 : decide ((k : Int) < (len : Int)) = true := decide_eq_true (by omega)
        have k4 : (k : Int) < (len : Int) := by omega
        obtain ⟨g, off, rfl, c0, c1, c2, c3, c4, c5, c6, c7, c8, c9, c10, c11, c12, c13⟩ := (HV.out.1.below HM.out.2.2).cells hlt
        have HC := Lib.hid (show ∀ W : World, Below w.heap.size w W → (fun w' => w'.cell? ⟨g, off + k * 14, none⟩ = some (.int .u8 ((K k).kind : Int)) ∧ w'.cell? ⟨g, off + k * 14 + 1, none⟩ = some (.string (K k).k) ∧ w'.cell? ⟨g, off + k * 14 + 2, none⟩ = some (.string (K k).e) ∧ w'.cell? ⟨g, off + k * 14 + 3, none⟩ = some (.int .i64 (K k).r) ∧ w'.cell? ⟨g, off + k * 14 + 4, none⟩ = some (.int .i64 (K k).m) ∧ w'.cell? ⟨g, off + k * 14 + 5, none⟩ = some (.string (K k).s) ∧ w'.cell? ⟨g, off + k * 14 + 6, none⟩ = some (.int .i64 (K k).l) ∧ w'.cell? ⟨g, off + k * 14 + 7, none⟩ = some (.int .i64 (K k).v.r) ∧ w'.cell? ⟨g, off + k * 14 + 8, none⟩ = some (.int .i64 (K k).v.k) ∧ w'.cell? ⟨g, off + k * 14 + 9, none⟩ = some (.int .i64 (K k).v.m) ∧ w'.cell? ⟨g, off + k * 14 + 10, none⟩ = some (.int .i64 (K k).v.v) ∧ w'.cell? ⟨g, off + k * 14 + 11, none⟩ = some (.string (K k).v.s) ∧ w'.cell? ⟨g, off + k * 14 + 12, none⟩ = some (.int .i64 (K k).v.l) ∧ w'.cell? ⟨g, off + k * 14 + 13, none⟩ = some (.bool (K k).v.g)) W from fun W hW => by
          obtain ⟨g', off', e', c0', c1', c2', c3', c4', c5', c6', c7', c8', c9', c10', c11', c12', c13'⟩ := (HV.out.1.below hW).cells hlt
          injection e' with e'
          injection e' with e1 e2
          subst e1 e2
          exact ⟨c0', c1', c2', c3', c4', c5', c6', c7', c8', c9', c10', c11', c12', c13'⟩)
        have hD := do15_any S u R n c xs (runK K k) (K k) wr.drew (HM.out.1.below (Below.refl _ _).drew) (runK_fit K (by omega)) (HV.out.2 k hlt)
        dsimp only [iactV, ixV] at hD
        have bx := HM.out.2.1.cell
        go_upto_region 9 with fail
        refine wp_region_held_drew (S := (fun w' => w'.cell? ⟨g, off + k * 14, none⟩ = some (.int .u8 ((K k).kind : Int)) ∧ w'.cell? ⟨g, off + k * 14 + 1, none⟩ = some (.string (K k).k) ∧ w'.cell? ⟨g, off + k * 14 + 2, none⟩ = some (.string (K k).e) ∧ w'.cell? ⟨g, off + k * 14 + 3, none⟩ = some (.int .i64 (K k).r) ∧ w'.cell? ⟨g, off + k * 14 + 4, none⟩ = some (.int .i64 (K k).m) ∧ w'.cell? ⟨g, off + k * 14 + 5, none⟩ = some (.string (K k).s) ∧ w'.cell? ⟨g, off + k * 14 + 6, none⟩ = some (.int .i64 (K k).l) ∧ w'.cell? ⟨g, off + k * 14 + 7, none⟩ = some (.int .i64 (K k).v.r) ∧ w'.cell? ⟨g, off + k * 14 + 8, none⟩ = some (.int .i64 (K k).v.k) ∧ w'.cell? ⟨g, off + k * 14 + 9, none⟩ = some (.int .i64 (K k).v.m) ∧ w'.cell? ⟨g, off + k * 14 + 10, none⟩ = some (.int .i64 (K k).v.v) ∧ w'.cell? ⟨g, off + k * 14 + 11, none⟩ = some (.string (K k).v.s) ∧ w'.cell? ⟨g, off + k * 14 + 12, none⟩ = some (.int .i64 (K k).v.l) ∧ w'.cell? ⟨g, off + k * 14 + 13, none⟩ = some (.bool (K k).v.g))) (by kernel_rfl) (HC.out _ HM.out.2.2.drew) (fun hHeld => ?_)
        clear c0 c1 c2 c3 c4 c5 c6 c7 c8 c9 c10 c11 c12 c13
        refine lsq 14 ?_
        refine tkq 1 ?_
        refine tkq 2 ?_
        refine tkq 3 ?_
        refine tkq 4 ?_
        refine tkq 5 ?_
        refine rdq1 0 fun KK hK => ?_
        go_simp
        refine hK.out _ _ (HC.out _ HM.out.2.2.drew) ?_
        clear hK KK hHeld
        intro hHeld
        try simp only [lpq]
        clear bx
        refine rdq1 6 fun KK hK => ?_
        go_simp
        refine hD.mono ?_
        rintro e w5 ⟨u1, R1, n1, c1, xs1, rfl, hM1, hbq⟩
        have hbq := show Below wr.heap.size wr w5 from ⟨hbq.os, hbq.tape, hbq.output, hbq.size, hbq.block⟩
        have HM1 := Lib.hid (show Both w5 u1 R1 n1 c1 xs1 (runK K (k + 1)) ∧ Box w5 w1.heap.size u ∧ Below w.heap.size w w5 from ⟨hM1, HM.out.2.1.below hbq, HM.out.2.2.trans (hbq.mono HM.out.2.2.size)⟩)
        refine hK.out _ _ (HC.out _ HM1.out.2.2) ?_
        clear hK KK hHeld
        intro hHeld
        try simp only [lpq]
        clear hD hM1 hbq
        refine tkq 7 ?_
        refine tkq 8 ?_
        refine tkq 9 ?_
        refine tkq 10 ?_
        refine rdq1 11 fun KK hK => ?_
        rw [if_pos]
        rotate_left
        · rfl
        refine wp_store_row 32 _ _ rfl w1.heap.size #[.pointer u1] (by rfl) (by rfl) _ _ HM1.out.2.1 (by kernel_rfl) rfl (by first | rfl | kernel_rfl) ?_
        have HM2 := Lib.hid (show Both (w5.setRow w1.heap.size #[.pointer u1]) u1 R1 n1 c1 xs1 (runK K (k + 1)) ∧ Box (w5.setRow w1.heap.size #[.pointer u1]) w1.heap.size u1 ∧ Below w.heap.size w (w5.setRow w1.heap.size #[.pointer u1]) from ⟨HM1.out.1.store HM1.out.2.1 _, HM1.out.2.1.stored _, below_setRow HM1.out.2.2 HG.out _⟩)
        refine hK.out _ _ (HC.out _ HM2.out.2.2) ?_
        clear hK KK hHeld
        intro hHeld
        try simp only [lpq]
        refine tkq 12 ?_
        refine tkq 13 ?_
        refine dnq ?_
        clear hHeld
        obtain ⟨W7, hW7⟩ : ∃ W7, w5.setRow w1.heap.size #[.pointer u1] = W7 := ⟨_, rfl⟩
        rw [hW7] at HM2 ⊢
        clear hW7 HM1
        have HF := Lib.hid (runK_fit K (k := k + 1) (by omega))
        obtain ⟨l, hl⟩ : ∃ l, runK K (k + 1) = l := ⟨_, rfl⟩
        have HL := Lib.hid hl
        rw [hl] at HM2 HF
        clear hl
        have bx := HM2.out.2.1.cell
        have hC := of15_any S u1 l W7 HM2.out.1.ix HF.out
        go_wp2_with fail
        refine hC.mono ?_
        rintro e w8 ⟨R5, m5, d5, ys5, rfl, hI5, hy5, hbq⟩
        have HM3 := Lib.hid (show Both w8 u1 R1 n1 c1 xs1 l ∧ Box w8 w1.heap.size u1 ∧ Below w.heap.size w w8 ∧ IxL w8 R5 m5 d5 ys5 ∧ khs ys5 = l from ⟨HM2.out.1.below hbq, HM2.out.2.1.below hbq, HM2.out.2.2.trans (hbq.mono HM2.out.2.2.size), hI5, hy5⟩)
        clear hC hbq hI5 hy5 bx
        have hC := same_keys15 (c1 := d5) (c2 := c1) HM3.out.2.2.2.1 HM3.out.1.dx HM3.out.2.2.2.2 HM3.out.1.e HF.out
        go_wp2_with fail
        refine hC.mono ?_
        rintro e w9 ⟨rfl, hbq⟩
        have HM4 := Lib.hid (show Both w9 u1 R1 n1 c1 xs1 l ∧ Box w9 w1.heap.size u1 ∧ Below w.heap.size w w9 from ⟨HM3.out.1.below hbq, HM3.out.2.1.below hbq, HM3.out.2.2.1.trans (hbq.mono HM3.out.2.2.1.size)⟩)
        clear hC hbq HM3
        have hkz := Nat.le_trans (HV.out.2 k hlt).k (show 100 ≤ maxLen by unfold maxLen; decide)
        obtain ⟨y, b, hyb⟩ := at_form15 (Idx.liveI l (K k).k)
        have HY := Lib.hid hyb
        clear hyb
        have HC12 := Lib.hid (show ∀ W : World, Below w.heap.size w W → Box W w1.heap.size u1 → (fun w' => w'.cell? ⟨w1.heap.size, 0, none⟩ = some (.pointer u1) ∧ w'.cell? ⟨g, off + k * 14 + 1, none⟩ = some (.string (K k).k)) W from fun W hW hX => ⟨hX.cell, (HC.out W hW).2.1⟩)
        go_upto_region 12 with fail
        refine wp_region_held_drew (S := (fun w' => w'.cell? ⟨w1.heap.size, 0, none⟩ = some (.pointer u1) ∧ w'.cell? ⟨g, off + k * 14 + 1, none⟩ = some (.string (K k).k))) (by kernel_rfl) (HC12.out _ HM4.out.2.2.drew HM4.out.2.1) (fun hHeld => ?_)
        refine lsq 13 ?_
        refine tkq 0 ?_
        refine tkq 1 ?_
        refine tkq 2 ?_
        refine tkq 3 ?_
        refine tkq 4 ?_
        refine tkq 5 ?_
        have hI4 := HM4.out.1.ix.below (show Below w9.heap.size w9 w9.drew from (Below.refl _ _).drew)
        refine rdq2 6 10 (fun KK hK => ?_) (fun KK hK => ?_)
        · go_simp
          have hC := S.live u1 l (K k).k w9.drew hI4 HF.out hkz
          rw [HY.out] at hC
          refine hC.mono ?_
          rintro e w20 ⟨rfl, hbq⟩
          have hbq := show Below w9.heap.size w9 w20 from ⟨hbq.os, hbq.tape, hbq.output, hbq.size, hbq.block⟩
          have HM5 := Lib.hid (show Both w20 u1 R1 n1 c1 xs1 l ∧ Box w20 w1.heap.size u1 ∧ Below w.heap.size w w20 from ⟨HM4.out.1.below hbq, HM4.out.2.1.below hbq, HM4.out.2.2.trans (hbq.mono HM4.out.2.2.size)⟩)
          refine hK.out _ _ (HC12.out _ HM5.out.2.2 HM5.out.2.1) ?_
          clear hK KK hHeld
          intro hHeld
          try simp only [lpq]
          clear hC hbq hI4
          refine tkq 7 ?_
          refine tkq 8 ?_
          refine tkq 9 ?_
          refine rdq1 10 fun KK hK => ?_
          go_simp
          have hbq : Below w20.heap.size w20 (w20.alloc (.cells #[.int .i64 0, .int .i64 0, .int .i64 0, .int .i64 0, .string ⟨#[]⟩, .int .i64 0, .bool false] 37)) := (Below.refl _ _).alloc (Nat.le_refl _) _
          have hrz := heap_alloc_new w20 (.cells #[.int .i64 0, .int .i64 0, .int .i64 0, .int .i64 0, .string ⟨#[]⟩, .int .i64 0, .bool false] 37)
          have HM5b := Lib.hid (show Both (w20.alloc (.cells #[.int .i64 0, .int .i64 0, .int .i64 0, .int .i64 0, .string ⟨#[]⟩, .int .i64 0, .bool false] 37)) u1 R1 n1 c1 xs1 l ∧ Box (w20.alloc (.cells #[.int .i64 0, .int .i64 0, .int .i64 0, .int .i64 0, .string ⟨#[]⟩, .int .i64 0, .bool false] 37)) w1.heap.size u1 ∧ Below w.heap.size w (w20.alloc (.cells #[.int .i64 0, .int .i64 0, .int .i64 0, .int .i64 0, .string ⟨#[]⟩, .int .i64 0, .bool false] 37)) from ⟨HM5.out.1.below hbq, HM5.out.2.1.below hbq, HM5.out.2.2.trans (hbq.mono HM5.out.2.2.size)⟩)
          refine hK.out _ _ (HC12.out _ HM5b.out.2.2 HM5b.out.2.1) ?_
          clear hK KK hHeld
          intro hHeld
          try simp only [lpq]
          refine rdq1 11 fun KK hK => ?_
          rw [if_pos]
          rotate_left
          · rfl
          refine wp_store_row 37 _ _ rfl w20.heap.size #[.int .i64 y.r, .int .i64 y.k, .int .i64 y.m, .int .i64 y.v, .string y.s, .int .i64 y.l, .bool y.g] (by rfl) (by rfl) _ _ hrz (by kernel_rfl) rfl (by first | rfl | kernel_rfl) ?_
          have hbz : Below w20.heap.size w20 ((w20.alloc (.cells #[.int .i64 0, .int .i64 0, .int .i64 0, .int .i64 0, .string ⟨#[]⟩, .int .i64 0, .bool false] 37)).setRow w20.heap.size #[.int .i64 y.r, .int .i64 y.k, .int .i64 y.m, .int .i64 y.v, .string y.s, .int .i64 y.l, .bool y.g]) := below_setRow ((Below.refl _ _).alloc (Nat.le_refl _) _) (Nat.le_refl _) _
          have HM6 := Lib.hid (show Both ((w20.alloc (.cells #[.int .i64 0, .int .i64 0, .int .i64 0, .int .i64 0, .string ⟨#[]⟩, .int .i64 0, .bool false] 37)).setRow w20.heap.size #[.int .i64 y.r, .int .i64 y.k, .int .i64 y.m, .int .i64 y.v, .string y.s, .int .i64 y.l, .bool y.g]) u1 R1 n1 c1 xs1 l ∧ Box ((w20.alloc (.cells #[.int .i64 0, .int .i64 0, .int .i64 0, .int .i64 0, .string ⟨#[]⟩, .int .i64 0, .bool false] 37)).setRow w20.heap.size #[.int .i64 y.r, .int .i64 y.k, .int .i64 y.m, .int .i64 y.v, .string y.s, .int .i64 y.l, .bool y.g]) w1.heap.size u1 ∧ Below w.heap.size w ((w20.alloc (.cells #[.int .i64 0, .int .i64 0, .int .i64 0, .int .i64 0, .string ⟨#[]⟩, .int .i64 0, .bool false] 37)).setRow w20.heap.size #[.int .i64 y.r, .int .i64 y.k, .int .i64 y.m, .int .i64 y.v, .string y.s, .int .i64 y.l, .bool y.g]) from ⟨HM5.out.1.below hbz, HM5.out.2.1.below hbz, HM5.out.2.2.trans (hbz.mono HM5.out.2.2.size)⟩)
          have RV := Lib.hid (show ((w20.alloc (.cells #[.int .i64 0, .int .i64 0, .int .i64 0, .int .i64 0, .string ⟨#[]⟩, .int .i64 0, .bool false] 37)).setRow w20.heap.size #[.int .i64 y.r, .int .i64 y.k, .int .i64 y.m, .int .i64 y.v, .string y.s, .int .i64 y.l, .bool y.g]).heap[w20.heap.size]? = some (.cells #[.int .i64 y.r, .int .i64 y.k, .int .i64 y.m, .int .i64 y.v, .string y.s, .int .i64 y.l, .bool y.g] 37) from setRow_heap _ _ _ _ _ _ hrz)
          refine hK.out _ _ (HC12.out _ HM6.out.2.2 HM6.out.2.1) ?_
          clear hK KK hHeld
          intro hHeld
          try simp only [lpq]
          clear hrz hbz
          refine tkq 12 ?_
          refine dnq ?_
          clear hHeld
          obtain ⟨W21, hW21⟩ : ∃ W, ((w20.alloc (.cells #[.int .i64 0, .int .i64 0, .int .i64 0, .int .i64 0, .string ⟨#[]⟩, .int .i64 0, .bool false] 37)).setRow w20.heap.size #[.int .i64 y.r, .int .i64 y.k, .int .i64 y.m, .int .i64 y.v, .string y.s, .int .i64 y.l, .bool y.g]) = W := ⟨_, rfl⟩
          rw [hW21] at HM6 RV ⊢
          clear hW21
          obtain ⟨g9, off9, e9, c0', c1', c2', c3', c4', c5', c6', c7', c8', c9', c10', c11', c12', c13'⟩ := (HV.out.1.below HM6.out.2.2).cells hlt
          injection e9 with e9
          injection e9 with e91 e92
          subst e91 e92
          have hC := liveR15_any R1 n1 c1 xs1 (K k).k W21 (HM6.out.1.g HF.out)
          rw [HM6.out.1.e, HY.out] at hC
          go_wp2_with fail
          refine hC.mono ?_
          rintro e w22 ⟨rfl, hbq⟩
          obtain ⟨W23, hW23⟩ : ∃ W, w22.alloc (.cells #[.int .i64 y.r, .int .i64 y.k, .int .i64 y.m, .int .i64 y.v, .string y.s, .int .i64 y.l, .bool y.g] 37) = W := ⟨_, rfl⟩
          have hb23 : Below W21.heap.size W21 W23 := by rw [← hW23]; exact hbq.alloc hbq.size _
          have hr23 : W23.heap[w22.heap.size]? = some (.cells #[.int .i64 y.r, .int .i64 y.k, .int .i64 y.m, .int .i64 y.v, .string y.s, .int .i64 y.l, .bool y.g] 37) := by rw [← hW23]; exact heap_alloc_new _ _
          have HM7 := Lib.hid (show Both W23 u1 R1 n1 c1 xs1 l ∧ Box W23 w1.heap.size u1 ∧ Below w.heap.size w W23 from ⟨HM6.out.1.below hb23, HM6.out.2.1.below hb23, HM6.out.2.2.trans (hb23.mono HM6.out.2.2.size)⟩)
          obtain ⟨x0, x1, x2, x3, x4, x5, x6⟩ := (row7 ((hb23.block _ (Go.Proofs.Ytcoddkbbgmjckaa.hlt RV.out)).trans RV.out)).1
          obtain ⟨z0, z1, z2, z3, z4, z5, z6⟩ := (row7 hr23).1
          have HW := Lib.hid hW23
          clear hC hbq hb23 hr23 hW23 c0' c1' c2' c3' c4' c5' c6' c7' c8' c9' c10' c11' c12' c13'
          go_upto_region 14 with fail
          rw [HW.out]
          clear HW
          have f1 := fun W => ver_neq y y W
          rw [decide_eq_true (rfl : y = y)] at f1
          dsimp only [verV] at f1
          have f3 := ver_guard
          go_wp2
          go_roundw
          case rel => exact ⟨k + 1, by omega, by go_num, rfl, u1, R1, n1, c1, xs1, rfl, by rw [HL.out]; exact HM7.out.1, HM7.out.2.1, HM7.out.2.2⟩
          case measure =>
            simp [intOf]
            omega
        · go_simp
          have hbq : Below w9.heap.size w9 (w9.drew.alloc (.cells #[.int .i64 0, .int .i64 0, .int .i64 0, .int .i64 0, .string ⟨#[]⟩, .int .i64 0, .bool false] 37)) := (Below.refl _ _).drew.alloc (Nat.le_refl _) _
          have hrz := heap_alloc_new w9.drew (.cells #[.int .i64 0, .int .i64 0, .int .i64 0, .int .i64 0, .string ⟨#[]⟩, .int .i64 0, .bool false] 37)
          have HM5 := Lib.hid (show Both (w9.drew.alloc (.cells #[.int .i64 0, .int .i64 0, .int .i64 0, .int .i64 0, .string ⟨#[]⟩, .int .i64 0, .bool false] 37)) u1 R1 n1 c1 xs1 l ∧ Box (w9.drew.alloc (.cells #[.int .i64 0, .int .i64 0, .int .i64 0, .int .i64 0, .string ⟨#[]⟩, .int .i64 0, .bool false] 37)) w1.heap.size u1 ∧ Below w.heap.size w (w9.drew.alloc (.cells #[.int .i64 0, .int .i64 0, .int .i64 0, .int .i64 0, .string ⟨#[]⟩, .int .i64 0, .bool false] 37)) from ⟨HM4.out.1.below hbq, HM4.out.2.1.below hbq, HM4.out.2.2.trans (hbq.mono HM4.out.2.2.size)⟩)
          refine hK.out _ _ (HC12.out _ HM5.out.2.2 HM5.out.2.1) ?_
          clear hK KK hHeld
          intro hHeld
          try simp only [lpq]
          refine rdq1 6 fun KK hK => ?_
          go_simp
          have hC := S.live u1 l (K k).k (w9.drew.alloc (.cells #[.int .i64 0, .int .i64 0, .int .i64 0, .int .i64 0, .string ⟨#[]⟩, .int .i64 0, .bool false] 37)) HM5.out.1.ix HF.out hkz
          rw [HY.out] at hC
          refine hC.mono ?_
          rintro e w20 ⟨rfl, hbq2⟩
          have HM5b := Lib.hid (show Both w20 u1 R1 n1 c1 xs1 l ∧ Box w20 w1.heap.size u1 ∧ Below w.heap.size w w20 from ⟨HM5.out.1.below hbq2, HM5.out.2.1.below hbq2, HM5.out.2.2.trans (hbq2.mono HM5.out.2.2.size)⟩)
          refine hK.out _ _ (HC12.out _ HM5b.out.2.2 HM5b.out.2.1) ?_
          clear hK KK hHeld
          intro hHeld
          try simp only [lpq]
          have hrz := (hbq2.block _ (Go.Proofs.Ytcoddkbbgmjckaa.hlt hrz)).trans hrz
          have hbq3 := hbq2
          clear hC hbq2 hI4
          refine tkq 7 ?_
          refine tkq 8 ?_
          refine tkq 9 ?_
          refine rdq1 11 fun KK hK => ?_
          rw [if_pos]
          rotate_left
          · rfl
          refine wp_store_row 37 _ _ rfl w9.heap.size #[.int .i64 y.r, .int .i64 y.k, .int .i64 y.m, .int .i64 y.v, .string y.s, .int .i64 y.l, .bool y.g] (by rfl) (by rfl) _ _ hrz (by kernel_rfl) rfl (by first | rfl | kernel_rfl) ?_
          have hbz : Below w9.heap.size w9 ((w20).setRow w9.heap.size #[.int .i64 y.r, .int .i64 y.k, .int .i64 y.m, .int .i64 y.v, .string y.s, .int .i64 y.l, .bool y.g]) := below_setRow (show Below w9.heap.size w9 w20 from hbq.trans (hbq3.mono hbq.size)) (Nat.le_refl _) _
          have HM6 := Lib.hid (show Both ((w20).setRow w9.heap.size #[.int .i64 y.r, .int .i64 y.k, .int .i64 y.m, .int .i64 y.v, .string y.s, .int .i64 y.l, .bool y.g]) u1 R1 n1 c1 xs1 l ∧ Box ((w20).setRow w9.heap.size #[.int .i64 y.r, .int .i64 y.k, .int .i64 y.m, .int .i64 y.v, .string y.s, .int .i64 y.l, .bool y.g]) w1.heap.size u1 ∧ Below w.heap.size w ((w20).setRow w9.heap.size #[.int .i64 y.r, .int .i64 y.k, .int .i64 y.m, .int .i64 y.v, .string y.s, .int .i64 y.l, .bool y.g]) from ⟨HM4.out.1.below hbz, HM4.out.2.1.below hbz, HM4.out.2.2.trans (hbz.mono HM4.out.2.2.size)⟩)
          have RV := Lib.hid (show ((w20).setRow w9.heap.size #[.int .i64 y.r, .int .i64 y.k, .int .i64 y.m, .int .i64 y.v, .string y.s, .int .i64 y.l, .bool y.g]).heap[w9.heap.size]? = some (.cells #[.int .i64 y.r, .int .i64 y.k, .int .i64 y.m, .int .i64 y.v, .string y.s, .int .i64 y.l, .bool y.g] 37) from setRow_heap _ _ _ _ _ _ hrz)
          refine hK.out _ _ (HC12.out _ HM6.out.2.2 HM6.out.2.1) ?_
          clear hK KK hHeld
          intro hHeld
          try simp only [lpq]
          clear hrz hbz
          refine tkq 12 ?_
          refine dnq ?_
          clear hHeld
          obtain ⟨W21, hW21⟩ : ∃ W, ((w20).setRow w9.heap.size #[.int .i64 y.r, .int .i64 y.k, .int .i64 y.m, .int .i64 y.v, .string y.s, .int .i64 y.l, .bool y.g]) = W := ⟨_, rfl⟩
          rw [hW21] at HM6 RV ⊢
          clear hW21
          obtain ⟨g9, off9, e9, c0', c1', c2', c3', c4', c5', c6', c7', c8', c9', c10', c11', c12', c13'⟩ := (HV.out.1.below HM6.out.2.2).cells hlt
          injection e9 with e9
          injection e9 with e91 e92
          subst e91 e92
          have hC := liveR15_any R1 n1 c1 xs1 (K k).k W21 (HM6.out.1.g HF.out)
          rw [HM6.out.1.e, HY.out] at hC
          go_wp2_with fail
          refine hC.mono ?_
          rintro e w22 ⟨rfl, hbq⟩
          obtain ⟨W23, hW23⟩ : ∃ W, w22.alloc (.cells #[.int .i64 y.r, .int .i64 y.k, .int .i64 y.m, .int .i64 y.v, .string y.s, .int .i64 y.l, .bool y.g] 37) = W := ⟨_, rfl⟩
          have hb23 : Below W21.heap.size W21 W23 := by rw [← hW23]; exact hbq.alloc hbq.size _
          have hr23 : W23.heap[w22.heap.size]? = some (.cells #[.int .i64 y.r, .int .i64 y.k, .int .i64 y.m, .int .i64 y.v, .string y.s, .int .i64 y.l, .bool y.g] 37) := by rw [← hW23]; exact heap_alloc_new _ _
          have HM7 := Lib.hid (show Both W23 u1 R1 n1 c1 xs1 l ∧ Box W23 w1.heap.size u1 ∧ Below w.heap.size w W23 from ⟨HM6.out.1.below hb23, HM6.out.2.1.below hb23, HM6.out.2.2.trans (hb23.mono HM6.out.2.2.size)⟩)
          obtain ⟨x0, x1, x2, x3, x4, x5, x6⟩ := (row7 ((hb23.block _ (Go.Proofs.Ytcoddkbbgmjckaa.hlt RV.out)).trans RV.out)).1
          obtain ⟨z0, z1, z2, z3, z4, z5, z6⟩ := (row7 hr23).1
          have HW := Lib.hid hW23
          clear hC hbq hb23 hr23 hW23 c0' c1' c2' c3' c4' c5' c6' c7' c8' c9' c10' c11' c12' c13'
          go_upto_region 14 with fail
          rw [HW.out]
          clear HW
          have f1 := fun W => ver_neq y y W
          rw [decide_eq_true (rfl : y = y)] at f1
          dsimp only [verV] at f1
          have f3 := ver_guard
          go_wp2
          go_roundw
          case rel => exact ⟨k + 1, by omega, by go_num, rfl, u1, R1, n1, c1, xs1, rfl, by rw [HL.out]; exact HM7.out.1, HM7.out.2.1, HM7.out.2.2⟩
          case measure =>
            simp [intOf]
            omega
      · obtain rfl : k = len := by omega
        have l1 : decide ((k : Int) < (k : Int)) = false := decide_eq_false (by omega)
        go_wp2
        go_ret
        exact ⟨rfl, HM.out.2.2⟩


end Go.Proofs.Ytcoddkbbgmjckaa

namespace Go.Proofs.Ytcoddkbbgmjckaa.indexPlays
open Go.ChangeShapes Go.WideShapes Go.ChangeAt Go.RowKit Go.Proofs.Ytcoddkbbgmjckaa
set_option linter.unusedVariables false
set_option linter.unusedSimpArgs false

theorem own : ownKnob Try.prog.godebug = none := by kernel_rfl

set_option maxRecDepth 100000 in
theorem lifted (os : Os) (started : os.Started) (H : Type) (enc : TypeId × Value → H) :
    ReturnsInHanded {} Try.checked os 4 .any (Rows.indexPlaysSpec.pre6 enc Try.prog Try.f4 Rows.indexPlaysRow.domain false) (Rows.indexPlaysSpec.post enc Try.prog Try.f4 false true false false) := by
  refine returnsInHanded_of_change (C := Try.checked) own started (by kernel_rfl) Try.func4
    (ChangeSpec.witness6 (enc := enc) (C := Try.checked) false ⟨#[], #[.slice none 0 0], []⟩ 8 (by kernel_rfl) (by kernel_rfl) (by kernel_rfl) (by kernel_rfl)) ?_
  intro W base args ds gs before hval0 hW hcnd _
  have hval : ∀ (j : Nat) t v, Try.f4.params[j]? = some t → args[j]? = some v → Value.okWide Try.prog W .any base t v := hval0
  have hW' := hW
  obtain ⟨p, q, hA0, hV, rfl, hfz, hnd⟩ := hW
  have hA : DataW.TrodAll enc Try.prog W 0 (fun _ => true) true Try.f4.params.toList args.toList ds p := hA0
  rw [Try.params4] at hA hval
  obtain ⟨v0, vs0, d0, ds0, p0, q0, hargs, rfl, rfl, h0, r0⟩ := trodAll_cons hA
  obtain ⟨rfl, rfl, rfl⟩ := trodAll_nil r0
  obtain rfl : args = #[v0] := by cases args; simp_all
  obtain ⟨rfl, rfl⟩ := trodVars_none hV
  obtain ⟨A0, len0, cap0, K0, rfl, hlc0, hm0, ha0, hw0⟩ := arg_iacts (hval 0 26 v0 rfl rfl) h0 (fun x hx => hW'.lt x (by simp [hx]))
  have fin : ∀ W', Below W.heap.size W W' → Rows.indexPlaysSpec.post enc Try.prog Try.f4 false true false false W #[.slice A0 len0 cap0] (.bool true) W' :=
    fun W' hb => law_end (by kernel_rfl) (by decide +kernel) rfl rfl Try.underlying4 hW' rfl rfl rfl hb
  exact (indexPlays_walk says A0 len0 cap0 K0 W ha0 (Nat.le_trans hlc0 hm0) hw0).mono fun e W' ⟨he, hb⟩ => ⟨_, he, fin W' hb⟩

theorem over : Rows.indexPlaysRow.holds Try.pinned (OpenSpec.ofChange Rows.indexPlaysSpec) :=
  OpenClaim.holds_of_wide 4 Try.f4 rfl rfl rfl rfl rfl rfl rfl ⟨rfl, rfl, rfl, rfl, rfl⟩ rfl rfl rfl rfl rfl (by kernel_rfl) Try.func4 (by kernel_rfl)
    (of_decide_eq_true (by kernel_rfl)) (by unfold Func.isWrapper; first | (rw [if_pos (by decide +kernel)]; kernel_rfl) | (rw [if_neg (by decide +kernel)]; exact ⟨rfl, rfl⟩))
    (fun os started H enc _ => lifted os started H enc)

theorem proved : Rows.IndexPlaysSaid := over


end Go.Proofs.Ytcoddkbbgmjckaa.indexPlays
