/- The document's Put and Del, by their contracts. (Written by mkputr.py.) -/
import Derived.Test.YtcoddkbbgmjckaaBn10
import Derived.Test.YtcoddkbbgmjckaaBn11
import Derived.BigQuiet
namespace Go.Proofs.Ytcoddkbbgmjckaa
open Go.RowKit
set_option linter.unusedVariables false
set_option linter.unusedSimpArgs false
attribute [local go_sem] Oper.semAt_some

theorem Own14.from {w w1 w' : World} {R : Option Addr} {n c : Nat} {l : List Ver} (h : Own14 w1 w' R n c l) (hs : w.heap.size ≤ w1.heap.size) : Own14 w w' R n c l := ⟨h.sp, fun q hq => Nat.le_trans hs (h.new q hq)⟩

set_option maxRecDepth 100000 in
set_option maxHeartbeats 3200000 in
theorem putR_any (A : Option Addr) (len cap : Nat) (l : List Ver) (r m : Int) (s : ByteArray) (le : Int) (w : World) (h : Vers w A len l) (hm : len ≤ 900000) (hw : ∀ x ∈ l, -9223372036854775808 ≤ x.v ∧ x.v ≤ 9223372036854775807) :
    Calls Try.prog 77 #[.slice A len cap, .int .i64 r, .int .i64 m, .string s, .int .i64 le] w fun e w' => ∃ R n c, e = .returned (.tuple #[.slice R n c, .bool (His.putL l r m s le).isSome]) ∧ Own14 w w' R n c ((His.putL l r m s le).getD []) ∧ Below w.heap.size w w' := by
  have hll := h.1
  obtain ⟨W1, hW1⟩ : ∃ W1, w.alloc (.cells #[.int .i64 r, .int .i64 m, .int .i64 m, .int .i64 1, .string s, .int .i64 le, .bool false] 37) = W1 := ⟨_, rfl⟩
  have hb1 : Below w.heap.size w W1 := by rw [← hW1]; exact (Below.refl _ _).alloc (Nat.le_refl _) _
  have hr1 : W1.heap[w.heap.size]? = some (.cells #[.int .i64 r, .int .i64 m, .int .i64 m, .int .i64 1, .string s, .int .i64 le, .bool false] 37) := by rw [← hW1]; exact heap_alloc_new w _
  have hbx := (row7 hr1).1
  have HV := Lib.hid (And.intro h (And.intro hb1 (And.intro hr1 hw)))
  have hadd := fun (x : Ver) (W : World) (hW : Below w.heap.size w W) => addR_any A len cap l x W (h.below hW) hm
  have HA := Lib.hid hadd
  have HW := Lib.hid hW1
  clear h hb1 hr1 hw hadd hW1
  by_cases h0 : len = 0
  · have e0 : His.putL l r m s le = His.addL l ⟨r, m, m, 1, s, le, false⟩ := by
      obtain rfl : l = [] := List.eq_nil_of_length_eq_zero (by omega)
      rfl
    have HE := Lib.hid e0
    have l1 : decide ((0 : Int) < (len : Int)) = false := decide_eq_false (by omega)
    have l2 : decide (0 < len) = false := decide_eq_false (by omega)
    have l3 : ¬ (0 < len) := by omega
    have hA := HA.out ⟨r, m, m, 1, s, le, false⟩ W1 HV.out.2.1
    obtain ⟨x0, x1, x2, x3, x4, x5, x6⟩ := hbx
    subst h0
    clear e0
    go_enter Try.func77, Try.ntmps77
    go_upto_region 2 with fail
    rw [HW.out]
    go_wp2_with fail
    refine hA.mono ?_
    rintro e w3 ⟨R, n, c, rfl, hO, hb3⟩
    have HZ := Lib.hid (And.intro (hO.from HV.out.2.1.size) (HV.out.2.1.trans (hb3.mono HV.out.2.1.size)))
    clear hO hb3 hA
    go_wp2
    refine bodyPost_ret (results_tmp2 rfl _ _ _) rfl ?_
    exact ⟨R, n, c, by rw [HE.out]; rfl, by rw [HE.out]; exact HZ.out.1, HZ.out.2⟩
  · have l1 : decide ((0 : Int) < (len : Int)) = true := decide_eq_true (by omega)
    have l2 : decide (0 < len) = true := decide_eq_true (by omega)
    have l3 : 0 < len := by omega
    have k3 : IntKind.i64.wrap ((len : Int) - 1) = ((len - 1 : Nat) : Int) := by rw [IntWalk.i64_in _ (by omega)]; omega
    have k4 : ((len - 1 : Nat) : Int) < (len : Int) := by omega
    obtain ⟨g, off, rfl, hg, hc⟩ := (HV.out.1.below HV.out.2.1).2 (by omega)
    obtain ⟨c0, c1, c2, c3, c4, c5, c6⟩ := hc (len - 1) (by omega)
    have hlast : l.getLast? = l[len - 1]? := by rw [List.getLast?_eq_getElem?, hll]
    rw [List.getElem?_eq_getElem (show len - 1 < l.length by omega)] at hlast
    have hgw : g < w.heap.size := by
      obtain ⟨g', o', e', hg', _⟩ := HV.out.1.2 (by omega)
      injection e' with e'
      injection e' with e1
      omega
    have hyw := HV.out.2.2.2 _ (List.getElem_mem (show len - 1 < l.length by omega))
    obtain ⟨y, hy⟩ : ∃ y, l[len - 1]'(by omega) = y := ⟨_, rfl⟩
    rw [hy] at c0 c1 c2 c3 c4 c5 c6 hlast hyw
    have hput : His.putL l r m s le = (if y.g = true then some (⟨r, m, m, 1, s, le, false⟩ : Ver) else if 1099511627776 ≤ y.v then none else some ⟨r, y.k, m, y.v + 1, s, le, false⟩).bind (His.addL l) := by
      unfold His.putL His.putV
      rw [hlast]
      rfl
    clear hc hy hlast
    generalize len - 1 = k' at *
    cases hyg : y.g with
    | true =>
      rw [hyg] at c6
      rw [if_pos hyg] at hput
      have HE := Lib.hid hput
      have hA := HA.out ⟨r, m, m, 1, s, le, false⟩ W1 HV.out.2.1
      obtain ⟨x0, x1, x2, x3, x4, x5, x6⟩ := hbx
      clear hput hyg
      go_enter Try.func77, Try.ntmps77
      go_upto_region 2 with fail
      rw [HW.out]
      go_wp2_with fail
      refine hA.mono ?_
      rintro e w3 ⟨R, n, c, rfl, hO, hb3⟩
      have HZ := Lib.hid (And.intro (hO.from HV.out.2.1.size) (HV.out.2.1.trans (hb3.mono HV.out.2.1.size)))
      clear hO hb3 hA
      go_wp2
      refine bodyPost_ret (results_tmp2 rfl _ _ _) rfl ?_
      exact ⟨R, n, c, by rw [HE.out]; rfl, by rw [HE.out]; exact HZ.out.1, HZ.out.2⟩
    | false =>
      rw [hyg] at c6
      rw [if_neg (by rw [hyg]; decide)] at hput
      by_cases hv : 1099511627776 ≤ y.v
      · have e1 : decide (1099511627776 ≤ y.v) = true := decide_eq_true hv
        rw [if_pos hv] at hput
        have HE := Lib.hid hput
        clear hput hyg hv
        go_enter Try.func77, Try.ntmps77
        go_upto_region 2 with fail
        rw [HW.out]
        go_wp2
        refine bodyPost_ret (results_tmp2 rfl _ _ _) rfl ?_
        exact ⟨none, 0, 0, by rw [HE.out]; rfl, by rw [HE.out]; exact Own14.none _ _, HV.out.2.1⟩
      · have e1 : decide (1099511627776 ≤ y.v) = false := decide_eq_false hv
        rw [if_neg hv] at hput
        have HE := Lib.hid hput
        have k5 : IntKind.i64.wrap (y.v + 1) = y.v + 1 := IntWalk.i64_in _ (by omega)
        have HG := Lib.hid (And.intro hgw hg)
        clear hput hyg hv
        go_enter Try.func77, Try.ntmps77
        go_upto_region 2 with fail
        rw [HW.out]
        go_upto_region 6 with fail
        have hr1 := HV.out.2.2.1
        have fr1 := (row7 hr1).2
        have hgl : g < w.heap.size := HG.out.1
        have x1 := hbx.2.1
        have f1 : W1.drew.frozen? ⟨w.heap.size, 1, none⟩ = false := fr1.2.1
        have hfar : ∀ (W : World) (j : Nat) (v : Value) (o : Nat), (W.setCell ⟨w.heap.size, j, none⟩ v).cell? ⟨g, o, none⟩ = W.cell? ⟨g, o, none⟩ := fun W j v o => World.cell?_of_block (Below.heap_setCell _ _ _ _ (by show g ≠ w.heap.size; omega))
        have HF := Lib.hid (And.intro hfar (And.intro hr1 hgl))
        clear hbx hr1 fr1 hgl hfar
        refine wp_region_held_drew (S := (fun w' => w'.cell? ⟨g, off + k' * 7 + 1, none⟩ = some (.int .i64 y.k) ∧ w'.cell? ⟨g, off + k' * 7 + 3, none⟩ = some (.int .i64 y.v))) (by kernel_rfl) ⟨c1, c3⟩ (fun hHeld => ?_)
        refine lsq 17 ?_
        refine tkq 0 ?_
        refine tkq 1 ?_
        refine tkq 2 ?_
        refine tkq 3 ?_
        refine tkq 4 ?_
        refine tkq 5 ?_
        refine tkq 6 ?_
        refine tkq 7 ?_
        refine tkq 8 ?_
        refine tkq 9 ?_
        refine tkq 10 ?_
        refine tkq 11 ?_
        refine tkq 12 ?_
        refine tkq 13 ?_
        refine rdq1 14 fun KK hK => ?_
        go_simp
        refine hK.out _ _ ⟨(HF.out.1 _ _ _ _).trans hHeld.1, (HF.out.1 _ _ _ _).trans hHeld.2⟩ ?_
        clear hK KK hHeld f1 x1
        intro hHeld
        try simp only [lpq]
        obtain ⟨W2, hW2⟩ : ∃ W2, (W1.setCell ⟨w.heap.size, 1, none⟩ (.int .i64 y.k)).drew = W2 := ⟨_, rfl⟩
        rw [hW2] at hHeld ⊢
        have hr2 : W2.heap[w.heap.size]? = some (.cells #[.int .i64 r, .int .i64 y.k, .int .i64 m, .int .i64 1, .string s, .int .i64 le, .bool false] 37) := by rw [← hW2]; exact setCell_at W1 ⟨w.heap.size, 1, none⟩ (.int .i64 y.k) _ _ _ rfl HF.out.2.1
        have hb2 : Below w.heap.size w W2 := by rw [← hW2]; exact (HV.out.2.1.setCell (p := ⟨w.heap.size, 1, none⟩) (Nat.le_refl _) _).drew
        have x3 := (row7 hr2).1.2.2.2.1
        have f3 := (row7 hr2).2.2.2.2.1
        clear hW2
        refine tkq 15 ?_
        refine rdq1 16 fun KK hK => ?_
        go_simp
        refine hK.out _ _ ⟨(HF.out.1 _ _ _ _).trans hHeld.1, (HF.out.1 _ _ _ _).trans hHeld.2⟩ ?_
        clear hK KK hHeld f3 x3
        intro hHeld
        try simp only [lpq]
        refine dnq ?_
        obtain ⟨W9, hW9⟩ : ∃ W9, W2.setCell ⟨w.heap.size, 3, none⟩ (.int .i64 (y.v + 1)) = W9 := ⟨_, rfl⟩
        rw [hW9]
        have hr3 : W9.heap[w.heap.size]? = some (.cells #[.int .i64 r, .int .i64 y.k, .int .i64 m, .int .i64 (y.v + 1), .string s, .int .i64 le, .bool false] 37) := by rw [← hW9]; exact setCell_at W2 ⟨w.heap.size, 3, none⟩ (.int .i64 (y.v + 1)) _ _ _ rfl hr2
        have hb3 : Below w.heap.size w W9 := by rw [← hW9]; exact hb2.setCell (p := ⟨w.heap.size, 3, none⟩) (Nat.le_refl _) _
        have hr9 : W9.heap[w.heap.size]? = some (.cells #[.int .i64 r, .int .i64 y.k, .int .i64 m, .int .i64 (y.v + 1), .string s, .int .i64 le, .bool false] 37) := hr3
        obtain ⟨x0, x1, x2, x3, x4, x5, x6⟩ := (row7 hr9).1
        have hA := HA.out ⟨r, y.k, m, y.v + 1, s, le, false⟩ W9 hb3
        have HB9 := Lib.hid hb3
        clear hW9 hr2 hr3 hr9 hb2 hb3 hHeld c0 c1 c2 c3 c4 c5 c6
        go_wp2_with fail
        refine hA.mono ?_
        rintro e w3 ⟨R, n, c, rfl, hO, hb3⟩
        have HZ := Lib.hid (And.intro (hO.from HB9.out.size) (HB9.out.trans (hb3.mono HB9.out.size)))
        clear hO hb3 hA
        go_wp2
        refine bodyPost_ret (results_tmp2 rfl _ _ _) rfl ?_
        exact ⟨R, n, c, by rw [HE.out]; rfl, by rw [HE.out]; exact HZ.out.1, HZ.out.2⟩

end Go.Proofs.Ytcoddkbbgmjckaa

namespace Go.Proofs.Ytcoddkbbgmjckaa
open Go.RowKit
set_option linter.unusedVariables false
set_option linter.unusedSimpArgs false
attribute [local go_sem] Oper.semAt_some

/-- An index in memory, of few keys. -/
structure IxG (w : World) (A : Option Addr) (n cap : Nat) (xs : List KLay) : Prop where
  ix : IxL w A n cap xs
  wf : Idx.Wf (khs xs)
  few : n ≤ 1000
  len : ∀ x ∈ xs, x.h.length ≤ 100000

theorem ver_nums {x : Ver} (h : His.verB x = true) : -9223372036854775808 ≤ x.v ∧ x.v ≤ 9223372036854775807 := by
  unfold His.verB at h
  split at h
  · cases h
  · split at h
    · have := of_decide_eq_true h
      omega
    · have := of_decide_eq_true h
      unfold His.top at this
      omega

section
variable {w w' : World} {A : Option Addr} {n cap : Nat} {xs : List KLay}
theorem IxG.below (h : IxG w A n cap xs) (hb : Below w.heap.size w w') : IxG w' A n cap xs := ⟨h.ix.below hb, h.wf, h.few, h.len⟩
theorem IxG.get_len (h : IxG w A n cap xs) (key : ByteArray) : (Idx.getL (khs xs) key).length ≤ 100000 := by
  rcases Idx.get_cases (l := khs xs) key with ⟨p, hp, _, e⟩ | ⟨_, e⟩
  · rw [e]
    obtain ⟨x, hx, rfl⟩ := List.mem_map.1 hp
    exact h.len x hx
  · rw [e]; exact Nat.zero_le _
theorem IxG.get_v (h : IxG w A n cap xs) (key : ByteArray) : ∀ x ∈ Idx.getL (khs xs) key, -9223372036854775808 ≤ x.v ∧ x.v ≤ 9223372036854775807 := fun x hx => ver_nums ((h.wf.get key).ver x hx)
theorem key_small {s : ByteArray} (h : Idx.keyB s = true) : s.size ≤ maxLen := by
  unfold Idx.keyB Idx.textB at h
  rw [Bool.and_eq_true, decide_eq_true_eq] at h
  unfold maxLen
  omega
theorem IxG.key (h : IxG w A n cap xs) {x : KLay} (hx : x ∈ xs) : x.k.size ≤ maxLen := key_small (h.wf.key x.kh (List.mem_map.2 ⟨x, hx, rfl⟩))
end

/-- What a put or an add leaves. -/
def PutP (w w' : World) (e : Ending) (o : Option (List Idx.KH)) : Prop :=
  ∃ R m d ys, e = .returned (.tuple #[.slice R m d, .bool o.isSome]) ∧ OwnK w w' R m d ys ∧ khs ys = o.getD [] ∧ Below w.heap.size w w'

/-- Where histories lie: as they did, or in blocks that are new. -/
def LocK (w : World) (xs ys : List KLay) : Prop := ∀ y ∈ ys, (∃ x ∈ xs, y.B = x.B ∧ y.h = x.h) ∨ ∀ q, blk y.B q → w.heap.size ≤ q
theorem LocK.refl (w : World) (xs : List KLay) : LocK w xs xs := fun y hy => .inl ⟨y, hy, rfl, rfl⟩
theorem LocK.nil (w : World) (xs : List KLay) : LocK w xs [] := fun y hy => by cases hy
theorem LocK.set {w0 : World} {xs ys : List KLay} (h : LocK w0 xs ys) (key : ByteArray) (hh : List Ver) {B : Option Addr} (c : Nat) (hB : ∀ q, blk B q → w0.heap.size ≤ q) : LocK w0 xs (setK ys key hh B c) := fun y hy => by
  unfold setK at hy
  rcases List.mem_append.1 hy with hy | hy
  · exact h y (List.mem_filter.1 hy).1
  · rcases List.mem_append.1 hy with hy | hy
    · split at hy
      · cases hy
      · rw [List.mem_singleton] at hy
        subst hy
        exact .inr hB
    · exact h y (List.mem_filter.1 hy).1

/-- What a put leaves, and where. -/
def PutL (xs : List KLay) (w w' : World) (e : Ending) (o : Option (List Idx.KH)) : Prop :=
  ∃ R m d ys, e = .returned (.tuple #[.slice R m d, .bool o.isSome]) ∧ (OwnK w w' R m d ys ∧ LocK w xs ys) ∧ khs ys = o.getD [] ∧ Below w.heap.size w w'

set_option maxRecDepth 100000 in
set_option maxHeartbeats 3200000 in
theorem putR15_loc (A : Option Addr) (n cap : Nat) (xs : List KLay) (key : ByteArray) (r m : Int) (s : ByteArray) (le : Int) (w : World) (h : IxG w A n cap xs) (hk : key.size ≤ maxLen) :
    Calls Try.prog 47 #[.slice A n cap, .string key, .int .i64 r, .int .i64 m, .string s, .int .i64 le] w fun e w' => PutL xs w w' e (Idx.putI (khs xs) key r m s le) := by
  have hG := fun W (hW : Below w.heap.size w W) => getR15_any A n cap xs key W (h.below hW).ix (by have := h.few; omega)
  have hlen := h.get_len key
  have hgv := h.get_v key
  have hP := fun W B c (hv : Vers W B (Idx.getL (khs xs) key).length (Idx.getL (khs xs) key)) => putR_any B (Idx.getL (khs xs) key).length c (Idx.getL (khs xs) key) r m s le W hv (by omega) hgv
  have hK := fun W => keyR_any key hk W
  have hS := fun W B hh hn c (hW : Below w.heap.size w W) (hv : Vers W B hn hh) => setR15_any A n cap xs key hh B hn c W (h.below hW).ix (by have := h.few; omega) hv
  have HPut : Hid (Idx.putI (khs xs) key r m s le = match His.putL (Idx.getL (khs xs) key) r m s le with | none => none | some h => if Idx.keyB key = true then some (Idx.setL (khs xs) key h) else none) := ⟨rfl⟩
  generalize His.putL (Idx.getL (khs xs) key) r m s le = o at *
  generalize Idx.keyB key = kb at *
  generalize (Idx.putI (khs xs) key r m s le) = res at *
  have HG := Lib.hid hG
  have HP := Lib.hid hP
  have HK := Lib.hid hK
  have HS := Lib.hid hS
  generalize Idx.getL (khs xs) key = gl at *
  clear h hG hP hK hS hlen hgv hk
  cases o with
  | none =>
    go_enter Try.func47, Try.ntmps47
    go_wp2_with fail
    refine (HG.out _ (Below.refl _ _)).mono ?_
    rintro e w1 ⟨B1, c1, rfl, hv1, hb1⟩
    have hP1 := HP.out w1 B1 c1 hv1
    clear hv1
    go_wp2_with fail
    refine hP1.mono ?_
    rintro e w2 ⟨R2, n2, c2, rfl, _, hb2⟩
    have HB := Lib.hid (hb1.trans (hb2.mono hb1.size))
    clear hP1 hb1 hb2
    go_wp2
    refine bodyPost_ret (results_tmp2 rfl _ _ _) rfl ?_
    exact ⟨none, 0, 0, [], by rw [HPut.out]; rfl, ⟨OwnK.none _ _, LocK.nil _ _⟩, by rw [HPut.out]; rfl, HB.out⟩
  | some hh =>
    cases kb with
    | false =>
      go_enter Try.func47, Try.ntmps47
      go_wp2_with fail
      refine (HG.out _ (Below.refl _ _)).mono ?_
      rintro e w1 ⟨B1, c1, rfl, hv1, hb1⟩
      have hP1 := HP.out w1 B1 c1 hv1
      clear hv1
      go_wp2_with fail
      refine hP1.mono ?_
      rintro e w2 ⟨R2, n2, c2, rfl, _, hb2⟩
      have HB := Lib.hid (hb1.trans (hb2.mono hb1.size))
      clear hP1 hb1 hb2
      go_wp2_with fail
      refine (HK.out _).mono ?_
      rintro e w3 ⟨rfl, rfl⟩
      go_wp2
      refine bodyPost_ret (results_tmp2 rfl _ _ _) rfl ?_
      exact ⟨none, 0, 0, [], by rw [HPut.out]; rfl, ⟨OwnK.none _ _, LocK.nil _ _⟩, by rw [HPut.out]; rfl, HB.out⟩
    | true =>
      go_enter Try.func47, Try.ntmps47
      go_wp2_with fail
      refine (HG.out _ (Below.refl _ _)).mono ?_
      rintro e w1 ⟨B1, c1, rfl, hv1, hb1⟩
      have hP1 := HP.out w1 B1 c1 hv1
      clear hv1
      go_wp2_with fail
      refine hP1.mono ?_
      rintro e w2 ⟨R2, n2, c2, rfl, hO2, hb2⟩
      have hS2 := HS.out w2 R2 hh n2 c2 (hb1.trans (hb2.mono hb1.size)) hO2.sp.vers
      have HB := Lib.hid (hb1.trans (hb2.mono hb1.size))
      have HNW := Lib.hid (show ∀ q, blk R2 q → w.heap.size ≤ q from fun q hq => Nat.le_trans hb1.size (hO2.new q hq))
      clear hP1 hb1 hb2 hO2
      go_wp2_with fail
      refine (HK.out _).mono ?_
      rintro e w3 ⟨rfl, rfl⟩
      go_wp2_with fail
      refine hS2.mono ?_
      rintro e w4 ⟨R4, m4, d4, rfl, hO4, hb4⟩
      have HE := Lib.hid (And.intro (hO4.from HB.out.size) (HB.out.trans (hb4.mono HB.out.size)))
      clear hS2 hO4 hb4
      go_wp2
      refine bodyPost_ret (results_tmp2 rfl _ _ _) rfl ?_
      exact ⟨R4, m4, d4, _, by rw [HPut.out]; rfl, ⟨HE.out.1, (LocK.refl w xs).set key hh c2 HNW.out⟩, by rw [HPut.out]; exact setK_khs xs key hh R2 c2, HE.out.2⟩

theorem putR15_any (A : Option Addr) (n cap : Nat) (xs : List KLay) (key : ByteArray) (r m : Int) (s : ByteArray) (le : Int) (w : World) (h : IxG w A n cap xs) (hk : key.size ≤ maxLen) :
    Calls Try.prog 47 #[.slice A n cap, .string key, .int .i64 r, .int .i64 m, .string s, .int .i64 le] w fun e w' => PutP w w' e (Idx.putI (khs xs) key r m s le) :=
  (putR15_loc A n cap xs key r m s le w h hk).mono fun e w' ⟨R, m, d, ys, h1, h2, h3, h4⟩ => ⟨R, m, d, ys, h1, h2.1, h3, h4⟩

end Go.Proofs.Ytcoddkbbgmjckaa

namespace Go.Proofs.Ytcoddkbbgmjckaa
open Go.RowKit
set_option linter.unusedVariables false
set_option linter.unusedSimpArgs false

/-- A row of a call's own. -/
structure OwnR (T : TypeId) (sz : Nat) (w0 w : World) (R : Option Addr) (n c : Nat) (vs : List Value) : Prop where
  sp : Sp T sz w R n c vs
  new : ∀ q, blk R q → w0.heap.size ≤ q

section
variable {T : TypeId} {sz : Nat} {w0 w w' wr X w8 : World} {R A8 : Option Addr} {n c c8 : Nat} {vs us : List Value}
theorem OwnR.none (T : TypeId) (sz : Nat) (w0 w : World) : OwnR T sz w0 w none 0 0 [] := ⟨Sp.nil _ _ _, fun q h => absurd h (blk_none q)⟩
theorem OwnR.next (h : OwnR T sz w0 w R n c vs) (hb : Below w.heap.size w w') : OwnR T sz w0 w' R n c vs := ⟨h.sp.keep fun q hq => hb.block q (h.sp.lt hq), h.new⟩
theorem OwnR.from {w1 : World} (h : OwnR T sz w1 w' R n c vs) (hs : w.heap.size ≤ w1.heap.size) : OwnR T sz w w' R n c vs := ⟨h.sp, fun q hq => Nat.le_trans hs (h.new q hq)⟩
theorem OwnR.push (h : OwnR T sz w0 wr R n c vs) (hb : Below w0.heap.size w0 wr) (hX : Below wr.heap.size wr X) (hg : Grew X w8 R) (hsp : Sp T sz w8 A8 (n + 1) c8 (vs ++ us)) (hA : ∀ q, blk A8 q → blk R q ∨ X.heap.size ≤ q) :
    OwnR T sz w0 w8 A8 (n + 1) c8 (vs ++ us) ∧ Below w0.heap.size w0 w8 := by
  have h1 := hb.size
  have h2 := hX.size
  refine ⟨⟨hsp, fun q hq => ?_⟩, hg.below (hb.trans (hX.mono h1)) (by omega) h.new⟩
  rcases hA q hq with h3 | h3
  · exact h.new q h3
  · omega
end

theorem elem_str : Elem 74 9 (.string ⟨#[]⟩) 1 16 := ⟨Try.underlying74, by kernel_rfl, rfl, by omega, by omega⟩
theorem elem_item : Elem 49 62 (.agg #[.string ⟨#[]⟩, .int .i64 0, .int .i64 0, .int .i64 0, .int .i64 0, .string ⟨#[]⟩, .int .i64 0, .bool false]) 8 80 := ⟨Try.underlying49, by kernel_rfl, rfl, by omega, by omega⟩

def rowS (ls : List ByteArray) : List Value := ls.map Value.string
theorem rowS_add (ls : List ByteArray) (s : ByteArray) : rowS (ls ++ [s]) = rowS ls ++ [.string s] := by unfold rowS; rw [List.map_append]; rfl
theorem rowS_len (ls : List ByteArray) : (rowS ls).length = ls.length := by unfold rowS; rw [List.length_map]

def itemC (p : ByteArray × Ver) : List Value := .string p.1 :: verC p.2
def rowI (ls : List (ByteArray × Ver)) : List Value := ls.flatMap itemC
theorem rowI_add (ls : List (ByteArray × Ver)) (p : ByteArray × Ver) : rowI (ls ++ [p]) = rowI ls ++ itemC p := by unfold rowI; rw [List.flatMap_append]; simp
theorem rowI_len (ls : List (ByteArray × Ver)) : (rowI ls).length = ls.length * 8 := by
  unfold rowI
  induction ls with
  | nil => rfl
  | cons x xs ih =>
    rw [List.flatMap_cons, List.length_append, ih, List.length_cons]
    show 8 + _ = _
    omega
theorem itemC_one (p : ByteArray × Ver) : ∀ u ∈ itemC p, u.oneCell' = true := by
  intro u h
  unfold itemC at h
  rcases List.mem_cons.1 h with rfl | h
  · rfl
  · exact rowH_one u p.2 h

end Go.Proofs.Ytcoddkbbgmjckaa

namespace Go.Proofs.Ytcoddkbbgmjckaa
open Go.RowKit
set_option linter.unusedVariables false
set_option linter.unusedSimpArgs false
attribute [local go_sem] Oper.semAt_some

set_option maxHeartbeats 1600000 in
theorem ver_equalN (n : Nat) (x y : Ver) (W : World) : (Op.equalIn (n + 1 + 1) 37 (verV x) (verV y)).run Try.prog W = .ok (decide (x = y)) W := by
  rw [run_equalIn_struct W (n + 1) 37 _ _ (by kernel_rfl) (by kernel_rfl)]
  unfold Program.fieldsOf
  rw [Try.underlying37]
  have e : (decide (x = y)) = (x.r == y.r && (x.k == y.k && (x.m == y.m && (x.v == y.v && (x.s.toList == y.s.toList && (x.l == y.l && (x.g == y.g))))))) := by
    obtain ⟨r, k, m, v, s, l, g⟩ := x
    obtain ⟨r', k', m', v', s', l', g'⟩ := y
    simp only [bytes_list]
    rw [Bool.eq_iff_iff]
    simp
  rw [e]
  simp [Op.eqFields, part, Sem.run_bind, Result.andThen, run_underlying Try.underlying2, run_underlying Try.underlying9, run_underlying Try.underlying4, run_equalIn_int _ n 2 .i64 .i64 _ _ Try.underlying2, run_equalIn_string _ n 9 _ _ Try.underlying9, run_equalIn_bool' _ n 4 _ _ Try.underlying4]
  repeat' split
  all_goals simp_all

abbrev itemV (p : ByteArray × Ver) : Value := .agg #[.string p.1, .int .i64 p.2.r, .int .i64 p.2.k, .int .i64 p.2.m, .int .i64 p.2.v, .string p.2.s, .int .i64 p.2.l, .bool p.2.g]

set_option maxHeartbeats 1600000 in
theorem item_equal (x y : ByteArray × Ver) (W : World) : (Op.equalIn 10000 62 (itemV x) (itemV y)).run Try.prog W = .ok (decide (x = y)) W := by
  rw [show (10000 : Nat) = 9997 + 1 + 1 + 1 from rfl, run_equalIn_struct W (9997 + 1 + 1) 62 _ _ (by kernel_rfl) (by kernel_rfl)]
  unfold Program.fieldsOf
  rw [Try.underlying62]
  have e : (decide (x = y)) = (x.1.toList == y.1.toList && decide (x.2 = y.2)) := by
    obtain ⟨k, v⟩ := x
    obtain ⟨k', v'⟩ := y
    simp only [bytes_list]
    rw [Bool.eq_iff_iff]
    simp
  rw [e]
  have hv := ver_equalN 9997 x.2 y.2
  dsimp only [verV] at hv
  simp [Op.eqFields, part, Sem.run_bind, Result.andThen, run_underlying Try.underlying9, run_underlying Try.underlying37, run_equalIn_string _ (9997 + 1) 9 _ _ Try.underlying9, hv]
  repeat' split
  all_goals simp_all

theorem item_neq (x y : ByteArray × Ver) (W : World) : (binOp .neq 62 (itemV x) (itemV y)).run Try.prog W = .ok (.bool (!decide (x = y))) W := by
  rw [run_neq_struct, item_equal]
  rfl
theorem item_guard (op : BinOp) (a b : Operand) (xs ys : Array Value) (W : World) : (eqGuard op 62 a b (.agg xs) (.agg ys)).run Try.prog W = .ok () W := run_eqGuard_agg W op _ a b xs ys (by kernel_rfl)

theorem rowI_at (ls : List (ByteArray × Ver)) (k : Nat) (hk : k < ls.length) (j : Nat) (hj : j < 8) : (rowI ls)[k * 8 + j]? = (itemC ls[k])[j]? := by
  unfold rowI
  induction ls generalizing k with
  | nil => cases hk
  | cons x xs ih =>
    have hx : (itemC x).length = 8 := rfl
    rw [List.flatMap_cons]
    cases k with
    | zero => rw [List.getElem?_append_left (by omega)]; simp
    | succ k =>
      rw [List.getElem?_append_right (by omega), hx, show (k + 1) * 8 + j - 8 = k * 8 + j by omega, ih k (by simpa using hk)]
      rfl

/-- Items that can be read. -/
def ItemsR (w : World) (A : Option Addr) (n : Nat) (ls : List (ByteArray × Ver)) : Prop :=
  ls.length = n ∧ ∀ k (hk : k < ls.length), ∃ g off, A = some ⟨g, off, none⟩ ∧ g < w.heap.size ∧ w.cell? ⟨g, off + k * 8, none⟩ = some (.string ls[k].1) ∧ w.cell? ⟨g, off + k * 8 + 1, none⟩ = some (.int .i64 ls[k].2.r) ∧ w.cell? ⟨g, off + k * 8 + 2, none⟩ = some (.int .i64 ls[k].2.k) ∧ w.cell? ⟨g, off + k * 8 + 3, none⟩ = some (.int .i64 ls[k].2.m) ∧
    w.cell? ⟨g, off + k * 8 + 4, none⟩ = some (.int .i64 ls[k].2.v) ∧ w.cell? ⟨g, off + k * 8 + 5, none⟩ = some (.string ls[k].2.s) ∧ w.cell? ⟨g, off + k * 8 + 6, none⟩ = some (.int .i64 ls[k].2.l) ∧ w.cell? ⟨g, off + k * 8 + 7, none⟩ = some (.bool ls[k].2.g)

theorem Sp.items {w : World} {A : Option Addr} {n cap : Nat} {ls : List (ByteArray × Ver)} (h : Sp 62 8 w A n cap (rowI ls)) : ItemsR w A n ls := by
  have hl : ls.length = n := by
    have := h.1
    rw [rowI_len] at this
    omega
  refine ⟨hl, fun k hk => ?_⟩
  obtain ⟨g, off, e, hg, hc, _⟩ := h.at_ (by omega) k (by omega)
  have hx : ∀ j (hj : j < 8) u, (itemC ls[k])[j]? = some u → w.cell? ⟨g, off + k * 8 + j, none⟩ = some u := fun j hj u hu => hc j hj u (by rw [rowI_at ls k hk j hj]; exact hu)
  exact ⟨g, off, e, hg, hx 0 (by omega) _ rfl, hx 1 (by omega) _ rfl, hx 2 (by omega) _ rfl, hx 3 (by omega) _ rfl, hx 4 (by omega) _ rfl, hx 5 (by omega) _ rfl, hx 6 (by omega) _ rfl, hx 7 (by omega) _ rfl⟩

theorem ItemsR.below {w w' : World} {A : Option Addr} {n : Nat} {ls : List (ByteArray × Ver)} (h : ItemsR w A n ls) (hb : Below w.heap.size w w') : ItemsR w' A n ls := ⟨h.1, fun k hk => by
  obtain ⟨g, off, e, hg, hc⟩ := h.2 k hk
  have hx : ∀ o, w'.cell? ⟨g, o, none⟩ = w.cell? ⟨g, o, none⟩ := fun o => World.cell?_of_block (hb.block g hg)
  refine ⟨g, off, e, Nat.lt_of_lt_of_le hg hb.size, ?_⟩
  rw [hx, hx, hx, hx, hx, hx, hx, hx]
  exact hc⟩

set_option maxRecDepth 100000 in
set_option maxHeartbeats 3200000 in
theorem sameItemsR_any (A : Option Addr) (la ca : Nat) (xs : List (ByteArray × Ver)) (B : Option Addr) (lb cb : Nat) (ys : List (ByteArray × Ver)) (w : World) (h : ItemsR w A la xs) (h' : ItemsR w B lb ys) (hm : la ≤ maxLen) (hm' : lb ≤ maxLen) :
    Calls Try.prog 31 #[.slice A la ca, .slice B lb cb] w fun e w' => e = .returned (.bool (decide (xs = ys))) ∧ Below w.heap.size w w' := by
  unfold maxLen at hm hm'
  have hlx := h.1
  have hly := h'.1
  have HX := Lib.hid h
  have HY := Lib.hid h'
  clear h h'
  by_cases hlen : la = lb
  · have e1 : ((la : Int) != (lb : Int)) = false := by rw [hlen]; simp
    subst hlen
    go_enter Try.func31, Try.ntmps31
    go_wp2_with fail
    go_loopw [13] (fun v13 wr => ∃ k : Nat, k ≤ la ∧ v13 = .int .i64 (k : Int) ∧ Below w.heap.size w wr ∧ ∀ i (hi : i < xs.length) (hi' : i < ys.length), i < k → xs[i] = ys[i]) (fun v13 _ => la - (intOf v13).toNat)
    case atStart => exact ⟨0, Nat.zero_le _, rfl, Below.refl _ _, fun i _ _ hi => absurd hi (by omega)⟩
    case round =>
      obtain ⟨k, hk, rfl, hb, hall⟩ := hrel
      have HALL := Lib.hid hall
      have HB := Lib.hid hb
      clear hall hb
      by_cases hlt : k < la
      · have l1 : decide ((k : Int) < (la : Int)) = true := decide_eq_true (by omega)
        obtain ⟨g, off, rfl, hg, c0, c1, c2, c3, c4, c5, c6, c7⟩ := (HX.out.below HB.out).2 k (by omega)
        obtain ⟨g', off', rfl, hg', d0, d1, d2, d3, d4, d5, d6, d7⟩ := (HY.out.below HB.out).2 k (by omega)
        obtain ⟨x, hx⟩ : ∃ x, xs[k]'(by omega) = x := ⟨_, rfl⟩
        obtain ⟨y, hy⟩ : ∃ y, ys[k]'(by omega) = y := ⟨_, rfl⟩
        rw [hx] at c0 c1 c2 c3 c4 c5 c6 c7
        rw [hy] at d0 d1 d2 d3 d4 d5 d6 d7
        have HXY := Lib.hid (And.intro hx hy)
        clear hx hy
        have e0 : (k : Int) < (la : Int) := by omega
        have f1 := fun W => item_neq x y W
        have f2 := item_guard
        dsimp only [itemV] at f1
        by_cases hxy : x = y
        · rw [decide_eq_true hxy] at f1
          have HQ := Lib.hid hxy
          clear hxy
          go_wp2_with fail
          go_big_quiet (fail)
          go_wp2
          go_roundw
          case rel => exact ⟨k + 1, hlt, by go_num, below_drewN HB.out _, fun i hi hi' h1 => by
            by_cases hik : i = k
            · subst hik
              rw [HXY.out.1, HXY.out.2, HQ.out]
            · exact HALL.out i hi hi' (by omega)⟩
          case measure =>
            simp [intOf]
            omega
        · rw [decide_eq_false hxy] at f1
          have HQ := Lib.hid (show decide (xs = ys) = false from decide_eq_false fun e => hxy (by rw [← HXY.out.1, ← HXY.out.2]; simp only [e]))
          clear hxy
          go_wp2_with fail
          go_big_quiet (fail)
          go_wp2
          go_ret
          exact ⟨by rw [HQ.out]; rfl, below_drewN HB.out _⟩
      · obtain rfl : k = la := by omega
        have l1 : decide ((k : Int) < (k : Int)) = false := decide_eq_false (by omega)
        have HQ := Lib.hid (show decide (xs = ys) = true from decide_eq_true (List.ext_getElem (by omega) fun i h1 h2 => HALL.out i h1 h2 (by omega)))
        go_wp2
        go_ret
        exact ⟨by rw [HQ.out]; rfl, HB.out⟩
  · have e1 : ((la : Int) != (lb : Int)) = true := by simp; omega
    have HQ := Lib.hid (show decide (xs = ys) = false from decide_eq_false fun e => hlen (by rw [← hlx, ← hly, e]))
    go_enter Try.func31, Try.ntmps31
    go_wp2
    go_ret
    exact ⟨by rw [HQ.out]; rfl, Below.refl _ _⟩

end Go.Proofs.Ytcoddkbbgmjckaa
