/- The document's revs, by its contract. (Written by mkrevs.py.) -/
import Derived.Test.YtcoddkbbgmjckaaBn12
import Derived.Test.YtcoddkbbgmjckaaBn14
import Derived.Test.YtcoddkbbgmjckaaBn13
namespace Go.Proofs.Ytcoddkbbgmjckaa
open Go.RowKit
set_option linter.unusedVariables false
set_option linter.unusedSimpArgs false
attribute [local go_sem] Oper.semAt_some

theorem elem_z : Elem 114 2 (.int .i64 0) 1 8 := ⟨Try.underlying114, by kernel_rfl, rfl, by omega, by omega⟩
def rowZ (zs : List Int) : List Value := zs.map (Value.int .i64)
theorem rowZ_add (zs : List Int) (z : Int) : rowZ (zs ++ [z]) = rowZ zs ++ [.int .i64 z] := by unfold rowZ; rw [List.map_append]; rfl
theorem rowZ_len (zs : List Int) : (rowZ zs).length = zs.length := by unfold rowZ; rw [List.length_map]
theorem rowZ_at (zs : List Int) (k : Nat) (hk : k < zs.length) : (rowZ zs)[k * 1 + 0]? = some (.int .i64 zs[k]) := by
  unfold rowZ
  rw [Nat.mul_one, Nat.add_zero, List.getElem?_map, List.getElem?_eq_getElem hk]
  rfl

def fold0 (L : List Int) : List Int := L.foldl Idx.insR []
theorem fold0_snoc (L : List Int) (r : Int) : fold0 (L ++ [r]) = Idx.insR (fold0 L) r := by unfold fold0; rw [List.foldl_append]; rfl
theorem insR_len (o : List Int) (r : Int) : (Idx.insR o r).length ≤ o.length + 1 := by
  unfold Idx.insR
  rw [List.length_append, List.length_cons]
  have h : ∀ l : List Int, (l.filter fun x => decide (x < r)).length + (l.filter fun x => decide (r < x)).length ≤ l.length := by
    intro l
    induction l with
    | nil => exact Nat.le_refl _
    | cons a l ih =>
      rw [List.filter_cons, List.filter_cons, List.length_cons]
      by_cases h1 : a < r
      · rw [if_pos (by simpa using h1), if_neg (by simp; omega), List.length_cons]; omega
      · rw [if_neg (by simpa using h1)]
        split
        · rw [List.length_cons]; omega
        · omega
  have := h o
  omega
theorem fold_len : ∀ (L o : List Int), (L.foldl Idx.insR o).length ≤ o.length + L.length
  | [], o => Nat.le_refl _
  | r :: L, o => by
    have h1 := fold_len L (Idx.insR o r)
    have h2 := insR_len o r
    rw [List.length_cons]
    show (L.foldl Idx.insR (Idx.insR o r)).length ≤ _
    omega

/-- The revisions of the first so many keys. -/
def RV (xs : List KLay) (k : Nat) : List Int := (xs.take k).flatMap fun x => x.h.map (·.r)
theorem RV_next (xs : List KLay) {k : Nat} (hk : k < xs.length) : RV xs (k + 1) = RV xs k ++ xs[k].h.map (·.r) := by
  unfold RV
  rw [List.take_succ_eq_append_getElem hk, List.flatMap_append]
  simp
theorem RV_le (xs : List KLay) (k : Nat) : (RV xs k).length ≤ (xs.flatMap fun x => x.h.map (·.r)).length := by
  have e : xs.flatMap (fun x => x.h.map (·.r)) = RV xs k ++ (xs.drop k).flatMap fun x => x.h.map (·.r) := by
    unfold RV
    rw [← List.flatMap_append, List.take_append_drop]
  rw [e, List.length_append]
  omega
theorem RV_all (xs : List KLay) : Idx.revsI (khs xs) = fold0 (RV xs xs.length) := by
  unfold Idx.revsI fold0 RV khs
  rw [List.take_length, List.flatMap_map]
  rfl

set_option maxRecDepth 100000 in
set_option maxHeartbeats 6400000 in
theorem revsR_any (A : Option Addr) (n cap : Nat) (xs : List KLay) (w : World) (h : IxL w A n cap xs) (hm : n ≤ 900000) (ht : (xs.flatMap fun x => x.h.map (·.r)).length ≤ 100000) :
    Calls Try.prog 67 #[.slice A n cap] w fun e w' => ∃ R m d, e = .returned (.slice R m d) ∧ OwnR 2 1 w w' R m d (rowZ (Idx.revsI (khs xs))) ∧ m = (Idx.revsI (khs xs)).length ∧ Below w.heap.size w w' := by
  have hll := h.len
  have hall := RV_all xs
  rw [hll] at hall
  have HE := Lib.hid hall
  have HV := Lib.hid h
  have HRV := Lib.hid (And.intro (fun k (hk : k < xs.length) => RV_next xs hk) (fun k => Nat.le_trans (RV_le xs k) ht))
  clear h ht hall
  go_enter Try.func67, Try.ntmps67
  go_wp2_with fail
  go_loopw [3, 12] (fun v3 v12 wr => ∃ k : Nat, k ≤ n ∧ v12 = .int .i64 (k : Int) ∧ ∃ R m d, v3 = .slice R m d ∧ OwnR 2 1 w wr R m d (rowZ (fold0 (RV xs k))) ∧ Below w.heap.size w wr) (fun _ v12 _ => n - (intOf v12).toNat)
  case atStart => exact ⟨0, Nat.zero_le _, rfl, none, 0, 0, rfl, OwnR.none _ _ _ _, Below.refl _ _⟩
  case round =>
    obtain ⟨k, hk, rfl, R0, m0, d0, rfl, hO, hb⟩ := hrel
    obtain ⟨wA, hwA⟩ : ∃ wA, wA = wr := ⟨_, rfl⟩
    subst hwA
    have HA := Lib.hid (And.intro hO hb)
    clear hO hb
    by_cases hlt : k < n
    · have l1 : decide ((k : Int) < (n : Int)) = true := decide_eq_true (by omega)
      have hat := fun W (hW : Below w.heap.size w W) => (HV.out.below hW).at_ k hlt
      have hnx := HRV.out.1 k (by omega)
      have hvs := HV.out.vs (xs[k]'(by omega)) (List.getElem_mem _)
      obtain ⟨x, hx⟩ : ∃ x, xs[k]'(by omega) = x := ⟨_, rfl⟩
      rw [hx] at hnx hvs
      obtain ⟨G, off, rfl, hG, c0, c1⟩ := HV.out.at_ k hlt
      rw [hx] at c0 c1
      have HX := Lib.hid (And.intro c1 (And.intro hvs (And.intro hnx hG)))
      have cc1 := (HA.out.2.cell (p := ⟨G, off + k * 2 + 1, none⟩) hG).trans c1
      have hxl : (RV xs k).length + x.h.length ≤ 100000 := by
        have := HRV.out.2 (k + 1)
        rw [hnx, List.length_append, List.length_map] at this
        exact this
      have HXL := Lib.hid hxl
      clear hat hnx hvs hx c0 c1 hxl
      obtain ⟨hn, hhn⟩ : ∃ hn, x.h.length = hn := ⟨_, rfl⟩
      rw [hhn] at cc1
      have HHN := Lib.hid hhn
      clear hhn
      have hnb : hn ≤ 100000 := by
        have h1 := HXL.out
        have h2 := HHN.out
        omega
      go_wp2_with fail
      go_loopw [3, 21] (fun v3 v21 wr => ∃ i : Nat, i ≤ hn ∧ v21 = .int .i64 (i : Int) ∧ ∃ R m d, v3 = .slice R m d ∧ OwnR 2 1 w wr R m d (rowZ (fold0 (RV xs k ++ (x.h.take i).map (·.r)))) ∧ Below w.heap.size w wr) (fun _ v21 _ => hn - (intOf v21).toNat)
      case atStart => exact ⟨0, Nat.zero_le _, rfl, R0, m0, d0, rfl, by rw [List.take_zero, List.map_nil, List.append_nil]; exact HA.out.1, HA.out.2⟩
      case round =>
        obtain ⟨i, hi, rfl, R, m, d, rfl, hO, hb⟩ := hrel
        obtain ⟨wB, hwB⟩ : ∃ wB, wB = wr := ⟨_, rfl⟩
        subst hwB
        obtain ⟨out, hout⟩ : ∃ out, fold0 (RV xs k ++ (x.h.take i).map (·.r)) = out := ⟨_, rfl⟩
        rw [hout] at hO
        have hol : out.length = m := by
          have := hO.sp.1
          rw [rowZ_len] at this
          omega
        have hml : m ≤ 100000 := by
          have h1 := fold_len (RV xs k ++ (x.h.take i).map (·.r)) []
          have h2 := HXL.out
          have h3 : ((x.h.take i).map (·.r)).length ≤ x.h.length := by rw [List.length_map, List.length_take]; exact Nat.min_le_right _ _
          rw [List.length_append] at h1
          have h4 : (fold0 (RV xs k ++ (x.h.take i).map (·.r))).length = m := by rw [hout]; exact hol
          unfold fold0 at h4
          simp only [List.length_nil] at h1
          omega
        have HB := Lib.hid (And.intro hO hb)
        clear hO hb
        by_cases hlti : i < hn
        · have li : decide ((i : Int) < (hn : Int)) = true := decide_eq_true (by omega)
          have cc1 := (HB.out.2.cell (p := ⟨G, off + k * 2 + 1, none⟩) HX.out.2.2.2).trans HX.out.1
          rw [HHN.out] at cc1
          obtain ⟨G3, off3, hB3, hG3, hc3⟩ := (HX.out.2.1.below HB.out.2).2 (by rw [HHN.out]; omega)
          obtain ⟨q0, _⟩ := hc3 i (by rw [HHN.out]; exact hlti)
          have hnext : fold0 (RV xs k ++ (x.h.take (i + 1)).map (·.r)) = Idx.insR out (x.h[i]'(by rw [HHN.out]; exact hlti)).r := by
            rw [List.take_succ_eq_append_getElem (by rw [HHN.out]; exact hlti), List.map_append, ← List.append_assoc]
            show fold0 ((RV xs k ++ (x.h.take i).map (·.r)) ++ [_]) = _
            rw [fold0_snoc, hout]
          obtain ⟨r, hr⟩ : ∃ r, (x.h[i]'(by rw [HHN.out]; exact hlti)).r = r := ⟨_, rfl⟩
          rw [hr] at q0 hnext
          rw [hB3] at cc1
          have HN := Lib.hid hnext
          clear hc3 hr hnext hout hB3
          go_wp2_with fail
          go_loopw [6, 35] (fun v6 vj wr => ∃ j : Nat, j ≤ m ∧ vj = .int .i64 (j : Int) ∧ ∃ R' m' d', v6 = .slice R' m' d' ∧ m' ≤ 0 + j ∧ OwnR 2 1 wB wr R' m' d' (rowZ ((out.take j).filter fun z => decide (z < r))) ∧ Below wB.heap.size wB wr) (fun _ vj _ => m - (intOf vj).toNat)
          case atStart => exact ⟨0, Nat.zero_le _, rfl, none, 0, 0, rfl, Nat.le_refl _, OwnR.none _ _ _ _, Below.refl _ _⟩
          case round =>
            obtain ⟨j, hj, rfl, R', m', d', rfl, hm', hO', hb'⟩ := hrel
            have HC := Lib.hid (And.intro hO' hb')
            clear hO' hb'
            by_cases hltj : j < m
            · have lj : decide ((j : Int) < (m : Int)) = true := decide_eq_true (by omega)
              have hOut : OwnR 2 1 w wr R m d (rowZ out) := HB.out.1.next HC.out.2
              obtain ⟨G2, off2, rfl, hG2, hc2, _⟩ := hOut.sp.at_ (by omega) j hltj
              have z0 : wr.cell? ⟨G2, off2 + j * 1, none⟩ = some (.int .i64 (out[j]'(by omega))) := hc2 0 (by omega) _ (rowZ_at out j (by omega))
              rw [Nat.mul_one] at z0
              have htz := filter_take (fun z : Int => decide (z < r)) (show j < out.length by omega)
              obtain ⟨z, hz⟩ : ∃ z, out[j]'(by omega) = z := ⟨_, rfl⟩
              rw [hz] at z0 htz
              have HTZ := Lib.hid htz
              clear hc2 hz hOut htz
              by_cases hp : z < r
              · have e5 : decide (z < r) = true := decide_eq_true hp
                have HP5 := Lib.hid (show decide (z < r) = true from decide_eq_true hp)
                have h1c : ∀ u ∈ ([.int .i64 z] : List Value), u.oneCell' = true := fun u hu => by rw [List.mem_singleton] at hu; subst hu; rfl
                clear hp
                go_wp2_with (at_builtin
                             go_loud (refine wpList_append_sp elem_z _ rfl _ _ rfl R' m' d' _ rfl (HC.out.1.sp.keep fun q hq => (show Below wr.heap.size wr _ from (by repeat (first | exact Below.refl _ _ | apply Below.drew | apply below_drewN | refine Below.alloc ?_ (by simp) _))).block q (HC.out.1.sp.lt hq)) _ 1 1 [.int .i64 z] rfl (fun e => by cases e) rfl h1c (fun b e => by cases e; exact cells_lit (C := [.int .i64 z]) (heap_alloc_new _ _)) (by omega) ?_)
                             intro A8 c8 w8 hsp8 hA8 hg8
                             have hP := HC.out.1.push HC.out.2 (show Below wr.heap.size wr _ from (by repeat (first | exact Below.refl _ _ | apply Below.drew | apply below_drewN | refine Below.alloc ?_ (by simp) _))) hg8 hsp8 hA8)
                go_roundw
                case rel => exact ⟨j + 1, hltj, by go_num, A8, m' + 1, c8, rfl, by omega, by rw [HTZ.out, HP5.out, if_pos rfl, rowZ_add]; exact hP.1, hP.2⟩
                case measure =>
                  simp [intOf]
                  omega
              · have e5 : decide (z < r) = false := decide_eq_false hp
                have HP5 := Lib.hid (show decide (z < r) = false from decide_eq_false hp)
                clear hp
                go_wp2
                go_roundw
                case rel => exact ⟨j + 1, hltj, by go_num, R', m', d', rfl, by omega, by rw [HTZ.out, HP5.out, if_neg (by decide), List.append_nil]; exact HC.out.1, HC.out.2⟩
                case measure =>
                  simp [intOf]
                  omega
            · obtain rfl : m = j := by omega
              obtain ⟨wC, hwB⟩ : ∃ wB2, wB2 = wr := ⟨_, rfl⟩
              subst hwB
              have hfin := HC.out
              rw [List.take_of_length_le (by omega)] at hfin
              have HF1 := Lib.hid (And.intro hm' hfin)
              clear hfin HC
              have h1r : ∀ u ∈ ([.int .i64 r] : List Value), u.oneCell' = true := fun u hu => by rw [List.mem_singleton] at hu; subst hu; rfl
              go_wp2_with (at_builtin
                           go_loud (refine wpList_append_sp elem_z _ rfl _ _ rfl R' m' d' _ rfl (HF1.out.2.1.sp.keep fun q hq => (show Below wC.heap.size wC _ from (by repeat (first | exact Below.refl _ _ | apply Below.drew | apply below_drewN | refine Below.alloc ?_ (by simp) _))).block q (HF1.out.2.1.sp.lt hq)) _ 1 1 [.int .i64 r] rfl (fun e => by cases e) rfl h1r (fun b e => by cases e; exact cells_lit (C := [.int .i64 r]) (heap_alloc_new _ _)) (by omega) ?_)
                           intro A9 c9 w9 hsp9 hA9 hg9
                           have hP9 := HF1.out.2.1.push HF1.out.2.2 (show Below wC.heap.size wC _ from (by repeat (first | exact Below.refl _ _ | apply Below.drew | apply below_drewN | refine Below.alloc ?_ (by simp) _))) hg9 hsp9 hA9)
              have HP9 := Lib.hid hP9
              clear hP9 hsp9 hA9 hg9
              go_wp2_with fail
              go_loopw [6, 58] (fun v6 vj wr => ∃ j : Nat, j ≤ m ∧ vj = .int .i64 (j : Int) ∧ ∃ R' m' d', v6 = .slice R' m' d' ∧ m' ≤ (m + 1) + j ∧ OwnR 2 1 wB wr R' m' d' (rowZ ((out.filter (fun z => decide (z < r)) ++ [r]) ++ (out.take j).filter fun z => decide (r < z))) ∧ Below wB.heap.size wB wr) (fun _ vj _ => m - (intOf vj).toNat)
              case atStart => exact ⟨0, Nat.zero_le _, rfl, A9, m' + 1, c9, rfl, by omega, by rw [List.take_zero, List.filter_nil, List.append_nil, rowZ_add]; exact HP9.out.1, HP9.out.2⟩
              case round =>
                obtain ⟨j, hj, rfl, R', m', d', rfl, hm', hO', hb'⟩ := hrel
                have HC := Lib.hid (And.intro hO' hb')
                clear hO' hb'
                by_cases hltj : j < m
                · have lj : decide ((j : Int) < (m : Int)) = true := decide_eq_true (by omega)
                  have hOut : OwnR 2 1 w wr R m d (rowZ out) := HB.out.1.next HC.out.2
                  obtain ⟨G2, off2, rfl, hG2, hc2, _⟩ := hOut.sp.at_ (by omega) j hltj
                  have z0 : wr.cell? ⟨G2, off2 + j * 1, none⟩ = some (.int .i64 (out[j]'(by omega))) := hc2 0 (by omega) _ (rowZ_at out j (by omega))
                  rw [Nat.mul_one] at z0
                  have htz := filter_take (fun z : Int => decide (r < z)) (show j < out.length by omega)
                  obtain ⟨z, hz⟩ : ∃ z, out[j]'(by omega) = z := ⟨_, rfl⟩
                  rw [hz] at z0 htz
                  have HTZ := Lib.hid htz
                  clear hc2 hz hOut htz
                  by_cases hp : r < z
                  · have e5 : decide (r < z) = true := decide_eq_true hp
                    have HP5 := Lib.hid (show decide (r < z) = true from decide_eq_true hp)
                    have h1c : ∀ u ∈ ([.int .i64 z] : List Value), u.oneCell' = true := fun u hu => by rw [List.mem_singleton] at hu; subst hu; rfl
                    clear hp
                    go_wp2_with (at_builtin
                                 go_loud (refine wpList_append_sp elem_z _ rfl _ _ rfl R' m' d' _ rfl (HC.out.1.sp.keep fun q hq => (show Below wr.heap.size wr _ from (by repeat (first | exact Below.refl _ _ | apply Below.drew | apply below_drewN | refine Below.alloc ?_ (by simp) _))).block q (HC.out.1.sp.lt hq)) _ 1 1 [.int .i64 z] rfl (fun e => by cases e) rfl h1c (fun b e => by cases e; exact cells_lit (C := [.int .i64 z]) (heap_alloc_new _ _)) (by omega) ?_)
                                 intro A8 c8 w8 hsp8 hA8 hg8
                                 have hP := HC.out.1.push HC.out.2 (show Below wr.heap.size wr _ from (by repeat (first | exact Below.refl _ _ | apply Below.drew | apply below_drewN | refine Below.alloc ?_ (by simp) _))) hg8 hsp8 hA8)
                    go_roundw
                    case rel => exact ⟨j + 1, hltj, by go_num, A8, m' + 1, c8, rfl, by omega, by rw [HTZ.out, HP5.out, if_pos rfl, ← List.append_assoc, rowZ_add]; exact hP.1, hP.2⟩
                    case measure =>
                      simp [intOf]
                      omega
                  · have e5 : decide (r < z) = false := decide_eq_false hp
                    have HP5 := Lib.hid (show decide (r < z) = false from decide_eq_false hp)
                    clear hp
                    go_wp2
                    go_roundw
                    case rel => exact ⟨j + 1, hltj, by go_num, R', m', d', rfl, by omega, by rw [HTZ.out, HP5.out, if_neg (by decide), List.append_nil]; exact HC.out.1, HC.out.2⟩
                    case measure =>
                      simp [intOf]
                      omega
                · obtain rfl : m = j := by omega
                  obtain ⟨wD, hwB⟩ : ∃ wB2, wB2 = wr := ⟨_, rfl⟩
                  subst hwB
                  have hfin := HC.out
                  rw [List.take_of_length_le (by omega)] at hfin
                  have HF2 := Lib.hid (And.intro hm' hfin)
                  clear hfin HC
                  have HFIN := Lib.hid (show OwnR 2 1 w wD R' m' d' (rowZ (fold0 (RV xs k ++ (x.h.take (i + 1)).map (·.r)))) ∧ Below w.heap.size w wD from ⟨by
                    rw [HN.out]
                    have := HF2.out.2.1.from HB.out.2.size
                    unfold Idx.insR
                    simpa [List.append_assoc] using this, HB.out.2.trans (HF2.out.2.2.mono HB.out.2.size)⟩)
                  go_wp2
                  go_roundw
                  case rel => exact ⟨i + 1, hlti, by go_num, R', m', d', rfl, HFIN.out.1, HFIN.out.2⟩
                  case measure =>
                    simp [intOf]
                    omega
        · obtain rfl : hn = i := by omega
          have hfin := HB.out
          rw [← hout, List.take_of_length_le (by rw [HHN.out]; exact Nat.le_refl _), ← HX.out.2.2.1] at hfin
          have HFA := Lib.hid hfin
          clear hfin
          go_wp2
          go_roundw
          case rel => exact ⟨k + 1, hlt, by go_num, R, m, d, rfl, HFA.out.1, HFA.out.2⟩
          case measure =>
            simp [intOf]
            omega
    · obtain rfl : n = k := by omega
      have hfin := HA.out
      rw [← HE.out] at hfin
      have hl : m0 = (Idx.revsI (khs xs)).length := by
        have := hfin.1.sp.1
        rw [rowZ_len] at this
        omega
      have HF := Lib.hid (And.intro hfin hl)
      clear hfin hl
      go_wp2
      go_ret
      exact ⟨R0, m0, d0, rfl, HF.out.1.1, HF.out.2, HF.out.1.2⟩

end Go.Proofs.Ytcoddkbbgmjckaa

namespace Go.Proofs.Ytcoddkbbgmjckaa
open Go.RowKit
set_option linter.unusedVariables false
set_option linter.unusedSimpArgs false

/-- What one key's versions give to the batch of a revision. -/
def itJ (f : ByteArray → Bool) (r : Int) (x : KLay) (j : Nat) : List (ByteArray × Ver) := ((x.h.take j).filter fun v => decide (v.r = r) && f x.k).map fun v => (x.k, v)
theorem itJ_zero (f : ByteArray → Bool) (r : Int) (x : KLay) : itJ f r x 0 = [] := rfl
theorem itJ_next (f : ByteArray → Bool) (r : Int) (x : KLay) {j : Nat} (hj : j < x.h.length) : itJ f r x (j + 1) = itJ f r x j ++ if (decide (x.h[j].r = r) && f x.k) = true then [(x.k, x.h[j])] else [] := by
  unfold itJ
  rw [List.take_succ_eq_append_getElem hj, List.filter_append, List.map_append]
  congr 1
  by_cases h : (decide (x.h[j].r = r) && f x.k) = true
  · rw [if_pos h, List.filter_cons, if_pos h]; rfl
  · rw [if_neg h, List.filter_cons, if_neg h]; rfl
theorem itJ_len (f : ByteArray → Bool) (r : Int) (x : KLay) (j : Nat) : (itJ f r x j).length ≤ x.h.length := by
  unfold itJ
  rw [List.length_map]
  exact Nat.le_trans (List.length_filter_le _ _) (by rw [List.length_take]; exact Nat.min_le_right _ _)

/-- What the first so many keys give to it. -/
def gat (f : ByteArray → Bool) (r : Int) (xs : List KLay) (i : Nat) : List (ByteArray × Ver) := (xs.take i).flatMap fun x => itJ f r x x.h.length
theorem gat_zero (f : ByteArray → Bool) (r : Int) (xs : List KLay) : gat f r xs 0 = [] := rfl
theorem gat_next (f : ByteArray → Bool) (r : Int) (xs : List KLay) {i : Nat} (hi : i < xs.length) : gat f r xs (i + 1) = gat f r xs i ++ itJ f r xs[i] xs[i].h.length := by
  unfold gat
  rw [List.take_succ_eq_append_getElem hi, List.flatMap_append]
  simp
theorem gat_len (f : ByteArray → Bool) (r : Int) (xs : List KLay) (i : Nat) : (gat f r xs i).length ≤ (RV xs i).length := by
  unfold gat RV
  induction xs.take i with
  | nil => exact Nat.le_refl _
  | cons x l ih =>
    rw [List.flatMap_cons, List.flatMap_cons, List.length_append, List.length_append, List.length_map]
    have := itJ_len f r x x.h.length
    omega
theorem gat_all (f : ByteArray → Bool) (r : Int) (xs : List KLay) : Idx.batL (khs xs) f r = gat f r xs xs.length := by
  unfold Idx.batL gat khs itJ
  rw [List.take_length, List.flatMap_map]
  congr 1
  funext x
  rw [List.take_length]
  rfl

theorem drop_fm {α β : Type} (g : α → Option β) (l : List α) {k : Nat} (hk : k < l.length) : (l.drop k).filterMap g = (g l[k]).toList ++ (l.drop (k + 1)).filterMap g := by
  rw [List.drop_eq_getElem_cons hk, List.filterMap_cons]
  cases g l[k] <;> rfl

/-- The revisions are no more than the versions. -/
theorem revs_len (xs : List KLay) : (Idx.revsI (khs xs)).length ≤ (xs.flatMap fun x => x.h.map (·.r)).length := by
  have h := fold_len (RV xs xs.length) []
  rw [RV_all]
  unfold fold0
  have h2 := RV_le xs xs.length
  simp only [List.length_nil] at h
  omega

theorem cut_cons (most n : Int) (fst : Bool) (b : Idx.Bat) (bs : List Idx.Bat) : Idx.cutI most n fst (b :: bs) = if most < n + (b.2.length : Int) ∧ fst = false then [] else b :: Idx.cutI most (n + (b.2.length : Int)) false bs := rfl

/-- What is told so far, and what is still to come. -/
def Told (xs : List KLay) (f : ByteArray → Bool) (a b most : Int) (all : List Int) (ys : List Idx.Bat) (n : Int) (k : Nat) : Prop :=
  Idx.cutI most 0 true (all.filterMap (Idx.batO (khs xs) f a b)) = ys ++ Idx.cutI most n (decide (ys = [])) ((all.drop k).filterMap (Idx.batO (khs xs) f a b))
theorem Told.start (xs : List KLay) (f : ByteArray → Bool) (a b most : Int) (all : List Int) : Told xs f a b most all [] 0 0 := by unfold Told; rfl
section
variable {xs : List KLay} {f : ByteArray → Bool} {a b most n : Int} {all : List Int} {ys : List Idx.Bat} {k : Nat}
theorem Told.skip (h : Told xs f a b most all ys n k) (hk : k < all.length) (hs : gat f all[k] xs xs.length = [] ∨ all[k] < a ∨ b < all[k]) : Told xs f a b most all ys n (k + 1) := by
  unfold Told at h ⊢
  rw [h, drop_fm _ _ hk, show Idx.batO (khs xs) f a b all[k] = none from by unfold Idx.batO; rw [gat_all, if_pos hs]]
  rfl
theorem Told.more (h : Told xs f a b most all ys n k) (hk : k < all.length) (hs : ¬ (gat f all[k] xs xs.length = [] ∨ all[k] < a ∨ b < all[k])) (hm : ¬ (most < n + ((gat f all[k] xs xs.length).length : Int) ∧ ys ≠ [])) :
    Told xs f a b most all (ys ++ [(all[k], gat f all[k] xs xs.length)]) (n + ((gat f all[k] xs xs.length).length : Int)) (k + 1) := by
  unfold Told at h ⊢
  have e : decide (ys ++ [(all[k], gat f all[k] xs xs.length)] = []) = false := decide_eq_false (by simp)
  rw [h, e, drop_fm _ _ hk, show Idx.batO (khs xs) f a b all[k] = some (all[k], gat f all[k] xs xs.length) from by unfold Idx.batO; rw [gat_all, if_neg hs], List.append_assoc]
  congr 1
  show Idx.cutI most n (decide (ys = [])) ((all[k], gat f all[k] xs xs.length) :: _) = _
  rw [cut_cons, if_neg (fun h => hm ⟨h.1, of_decide_eq_false h.2⟩)]
  rfl
theorem Told.full (h : Told xs f a b most all ys n k) (hk : k < all.length) (hs : ¬ (gat f all[k] xs xs.length = [] ∨ all[k] < a ∨ b < all[k])) (hm : most < n + ((gat f all[k] xs xs.length).length : Int) ∧ ys ≠ []) :
    Idx.cutI most 0 true (all.filterMap (Idx.batO (khs xs) f a b)) = ys := by
  unfold Told at h
  rw [h, drop_fm _ _ hk, show Idx.batO (khs xs) f a b all[k] = some (all[k], gat f all[k] xs xs.length) from by unfold Idx.batO; rw [gat_all, if_neg hs]]
  show ys ++ Idx.cutI most n (decide (ys = [])) ((all[k], gat f all[k] xs xs.length) :: _) = ys
  rw [cut_cons, if_pos ⟨hm.1, decide_eq_false hm.2⟩, List.append_nil]
theorem Told.done (h : Told xs f a b most all ys n k) (hk : all.length ≤ k) : Idx.cutI most 0 true (all.filterMap (Idx.batO (khs xs) f a b)) = ys := by
  unfold Told at h
  rw [h, List.drop_of_length_le hk]
  show ys ++ Idx.cutI most n (decide (ys = [])) [] = ys
  unfold Idx.cutI
  exact List.append_nil _
end

end Go.Proofs.Ytcoddkbbgmjckaa
