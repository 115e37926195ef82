/- The document's Trim, by its contract. (Written by mktrim.py.) -/
import Derived.Test.YtcoddkbbgmjckaaBn12
import Derived.Test.YtcoddkbbgmjckaaBn16
import Derived.Test.YtcoddkbbgmjckaaBn10
import Derived.Test.YtcoddkbbgmjckaaBn05
namespace Go.Proofs.Ytcoddkbbgmjckaa
open Go.RowKit
set_option linter.unusedVariables false
set_option linter.unusedSimpArgs false
attribute [local go_sem] Oper.semAt_some

def trimTo (l : List Idx.KH) (f : Int) (k : Nat) : List Idx.KH := (l.take k).foldl (fun o p => Idx.setL o p.1 (His.trimL p.2 f)) l
theorem trimTo_next (l : List Idx.KH) (f : Int) {k : Nat} (hk : k < l.length) : trimTo l f (k + 1) = Idx.setL (trimTo l f k) l[k].1 (His.trimL l[k].2 f) := by
  unfold trimTo
  rw [List.take_succ_eq_append_getElem hk, List.foldl_append]
  rfl
theorem trimTo_len {l : List Idx.KH} (h : Idx.Wf l) (f : Int) (k : Nat) : (trimTo l f k).length ≤ l.length :=
  (Idx.trim_sizes_from f (l.take k) l h (fun p hp => by have hp := List.mem_of_mem_take hp; exact ⟨Idx.get_mem h.up hp, h.some p hp, h.right p hp, h.key p hp⟩) (h.up.sublist (List.take_sublist k l))).1

set_option maxRecDepth 100000 in
set_option maxHeartbeats 3200000 in
theorem trimR15_any (A : Option Addr) (n cap : Nat) (xs : List KLay) (f : Int) (w : World) (h : IxG w A n cap xs) :
    Calls Try.prog 36 #[.slice A n cap, .int .i64 f] w fun e w' => ∃ R m d ys, e = .returned (.slice R m d) ∧ IxL w' R m d ys ∧ khs ys = Idx.trimI (khs xs) f ∧ Below w.heap.size w w' := by
  have hll := h.ix.len
  have hfew := h.few
  have htl := fun k => trimTo_len h.wf f k
  have hkl : (khs xs).length = n := by unfold khs; rw [List.length_map]; exact hll
  have hnx := fun k (hk : k < xs.length) => trimTo_next (khs xs) f (show k < (khs xs).length by unfold khs; rw [List.length_map]; exact hk)
  have htr := fun W x (hx : x ∈ xs) (hW : Below w.heap.size w W) => trimR_any x.B x.h.length x.c x.h f W ((h.ix.vs x hx).below hW) (by have := h.len x hx; omega)
  have hend : Idx.trimI (khs xs) f = trimTo (khs xs) f n := by unfold trimTo Idx.trimI; rw [List.take_of_length_le (by omega)]
  have HV := Lib.hid h.ix
  have HT := Lib.hid htr
  have HE := Lib.hid (And.intro hend (And.intro hnx (And.intro htl hkl)))
  have hx0 : trimTo (khs xs) f 0 = khs xs := rfl
  have H0 := Lib.hid hx0
  clear h htr hend hnx htl hkl hx0
  go_enter Try.func36, Try.ntmps36
  go_wp2_with fail
  go_loopw [5, 10] (fun v5 v10 wr => ∃ k : Nat, k ≤ n ∧ v10 = .int .i64 (k : Int) ∧ ∃ R m d ys, v5 = .slice R m d ∧ IxL wr R m d ys ∧ khs ys = trimTo (khs xs) f k ∧ Below w.heap.size w wr) (fun _ v10 _ => n - (intOf v10).toNat)
  case atStart => exact ⟨0, Nat.zero_le _, rfl, A, n, cap, xs, rfl, HV.out, H0.out.symm, Below.refl _ _⟩
  case round =>
    obtain ⟨k, hk, rfl, R, m, d, ys, rfl, hO, hys, hb⟩ := hrel
    have hm : m ≤ n := by
      have h1 := hO.len
      have h2 := congrArg List.length hys
      have h3 := HE.out.2.2.1 k
      have h4 : (khs ys).length = ys.length := by unfold khs; rw [List.length_map]
      have h5 := HE.out.2.2.2
      omega
    have HB := Lib.hid (And.intro hO (And.intro hys hb))
    clear hO hys hb
    by_cases hlt : k < n
    · have l1 : decide ((k : Int) < (n : Int)) = true := decide_eq_true (by omega)
      obtain ⟨G, off, rfl, hG, c0, c1⟩ := HV.out.at_ k hlt
      have hmem : xs[k]'(by omega) ∈ xs := List.getElem_mem _
      have hTr := fun W hW => HT.out W _ hmem hW
      have hnx := HE.out.2.1 k (by omega)
      have hkk : (khs xs)[k]'(by rw [HE.out.2.2.2]; exact hlt) = (xs[k]'(by omega)).kh := by unfold khs; rw [List.getElem_map]
      rw [hkk] at hnx
      obtain ⟨x, hx⟩ : ∃ x, xs[k]'(by omega) = x := ⟨_, rfl⟩
      rw [hx] at c0 c1 hnx
      have hTr : ∀ W, Below w.heap.size w W → Calls Try.prog 73 #[.slice x.B x.h.length x.c, .int .i64 f] W fun e w' => ∃ R n c, e = .returned (.slice R n c) ∧ Own14 W w' R n c (His.trimL x.h f) ∧ Below W.heap.size W w' := fun W hW => by have := hTr W hW; rw [hx] at this; exact this
      have cc0 := (HB.out.2.2.cell (p := ⟨G, off + k * 2, none⟩) hG).trans c0
      have cc1 := (HB.out.2.2.cell (p := ⟨G, off + k * 2 + 1, none⟩) hG).trans c1
      have hS := fun W (hW : Below w.heap.size w W) => (⟨(hW.cell (p := ⟨G, off + k * 2, none⟩) hG).trans c0, (hW.cell (p := ⟨G, off + k * 2 + 1, none⟩) hG).trans c1⟩ : W.cell? ⟨G, off + k * 2, none⟩ = some (.string x.k) ∧ W.cell? ⟨G, off + k * 2 + 1, none⟩ = some (.slice x.B x.h.length x.c))
      have HN := Lib.hid hnx
      have HS := Lib.hid hS
      have HTr := Lib.hid hTr
      clear hx hkk hnx hmem hS hTr c0 c1
      go_upto_region 5 with fail
      refine wp_region_held_drew (S := (fun w' => w'.cell? ⟨G, off + k * 2, none⟩ = some (.string x.k) ∧ w'.cell? ⟨G, off + k * 2 + 1, none⟩ = some (.slice x.B x.h.length x.c))) (by kernel_rfl) ⟨cc0, cc1⟩ (fun hHeld => ?_)
      refine lsq 15 ?_
      refine tkq 0 ?_
      refine tkq 1 ?_
      refine tkq 2 ?_
      refine tkq 3 ?_
      refine tkq 4 ?_
      refine tkq 5 ?_
      refine tkq 6 ?_
      refine tkq 7 ?_
      refine tkq 8 ?_
      refine tkq 9 ?_
      refine tkq 10 ?_
      refine tkq 11 ?_
      refine rdq1 12 fun KK hK => ?_
      go_simp
      refine (HTr.out _ (show Below w.heap.size w _ from HB.out.2.2.drew)).mono ?_
      rintro e w1 ⟨R1, n1, c1', rfl, hO1, hb1⟩
      have hbw1 := HB.out.2.2.trans ((show Below wr.heap.size wr w1 from ⟨hb1.os, hb1.tape, hb1.output, hb1.size, hb1.block⟩).mono HB.out.2.2.size)
      have hO2 : IxL w1 R m d ys := HB.out.1.below (show Below wr.heap.size wr w1 from ⟨hb1.os, hb1.tape, hb1.output, hb1.size, hb1.block⟩)
      refine hK.out _ _ (HS.out _ hbw1) ?_
      clear hK KK hHeld
      intro hHeld
      try simp only [lpq]
      refine rdq1 13 fun KK hK => ?_
      go_simp
      refine (setR15_any R m d ys x.k (His.trimL x.h f) R1 n1 c1' w1 hO2 (by omega) hO1.sp.vers).mono ?_
      rintro e w2 ⟨R2, m2, d2, rfl, hO3, hb2⟩
      have hbw2 := hbw1.trans (hb2.mono hbw1.size)
      refine hK.out _ _ (HS.out _ hbw2) ?_
      clear hK KK hHeld
      intro hHeld
      try simp only [lpq]
      refine tkq 14 ?_
      refine dnq ?_
      have HR := Lib.hid (And.intro hO3.ix hbw2)
      clear hHeld hO1 hO2 hO3 hb1 hb2 hbw1 hbw2 cc0 cc1
      go_wp2
      go_roundw
      case rel => exact ⟨k + 1, hlt, by go_num, R2, m2, d2, _, rfl, HR.out.1, by rw [setK_khs, HN.out, HB.out.2.1]; rfl, HR.out.2⟩
      case measure =>
        simp [intOf]
        omega
    · obtain rfl : n = k := by omega
      go_wp2
      go_ret
      exact ⟨R, m, d, ys, rfl, HB.out.1, by rw [HE.out.1]; exact HB.out.2.1, HB.out.2.2⟩

end Go.Proofs.Ytcoddkbbgmjckaa
