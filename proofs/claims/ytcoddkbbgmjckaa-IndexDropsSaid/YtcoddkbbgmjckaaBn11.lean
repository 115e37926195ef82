/- The document's text, Key, Range, In, by their contracts. -/
import Derived.Test.YtcoddkbbgmjckaaBn02
import Derived.Test.YtcoddkbbgmjckaaBn10
import Derived.Laws.Cover1
import Derived.Test.YtcoddkbbgmjckaaBn06
namespace Go.Proofs.Ytcoddkbbgmjckaa
open Go.RowKit
set_option linter.unusedVariables false
set_option linter.unusedSimpArgs false
attribute [local go_sem] Oper.semAt_some

def allB (l : List UInt8) (mo : Nat) : Bool := l.all fun b => decide (33 ≤ b.toNat ∧ b.toNat ≤ mo)
theorem text_is (s : ByteArray) (mo : Nat) : Idx.textB s mo = (allB s.data.toList mo && decide (1 ≤ s.size ∧ s.size ≤ 32)) := rfl
theorem allB_take (s : ByteArray) (mo k : Nat) (h : k < s.size) : allB (s.data.toList.take (k + 1)) mo = (allB (s.data.toList.take k) mo && decide (33 ≤ (s[k]).toNat ∧ (s[k]).toNat ≤ mo)) := by
  unfold allB
  rw [List.take_succ_eq_append_getElem (by simpa using h), List.all_append]
  simp
  rfl
theorem allB_no (l : List UInt8) (mo k : Nat) (h : allB (l.take k) mo = false) : allB l mo = false := by
  unfold allB at *
  rw [← List.take_append_drop k l, List.all_append, h, Bool.false_and]

set_option maxRecDepth 100000 in
set_option maxHeartbeats 1600000 in
theorem textR15_any (s : ByteArray) (mo : Nat) (hmo : mo < 256) (hs : s.size ≤ maxLen) (w : World) : Calls Try.prog 45 #[.string s, .int .u8 (mo : Int)] w fun e w' => e = .returned (.bool (Idx.textB s mo)) ∧ w' = w := by
  have HT := Lib.hid (text_is s mo)
  unfold maxLen at hs
  go_enter Try.func45, Try.ntmps45
  go_wp2_with fail
  go_loop [8] (fun i => ∃ k : Nat, k ≤ s.size ∧ i = .int .i64 (k : Int) ∧ Hid (allB (s.data.toList.take k) mo = true)) (fun i => s.size - (intOf i).toNat)
  case atStart => exact ⟨0, Nat.zero_le _, rfl, ⟨rfl⟩⟩
  case round =>
    obtain ⟨k, hk, rfl, HK⟩ := hrel
    by_cases hlt : k < s.size
    · have l1 : decide ((k : Int) < (s.size : Int)) = true := decide_eq_true (by omega)
      have HS := Lib.hid (allB_take s mo k hlt)
      by_cases c1 : (s[k]).toNat < 33
      · have c1' : decide (((s[k]).toNat : Int) < 33) = true := decide_eq_true (by omega)
        have HN : Hid (Idx.textB s mo = false) := ⟨by rw [HT.out, allB_no _ mo (k + 1) (by rw [HS.out, decide_eq_false (by omega), Bool.and_false]), Bool.false_and]⟩
        go_wp2
        go_ret
        exact ⟨by rw [HN.out]; rfl, rfl⟩
      · have c1' : decide (((s[k]).toNat : Int) < 33) = false := decide_eq_false (by omega)
        by_cases c2 : mo < (s[k]).toNat
        · have c2' : decide ((mo : Int) < ((s[k]).toNat : Int)) = true := decide_eq_true (by omega)
          have HN : Hid (Idx.textB s mo = false) := ⟨by rw [HT.out, allB_no _ mo (k + 1) (by rw [HS.out, decide_eq_false (by omega), Bool.and_false]), Bool.false_and]⟩
          go_wp2
          go_ret
          exact ⟨by rw [HN.out]; rfl, rfl⟩
        · have c2' : decide ((mo : Int) < ((s[k]).toNat : Int)) = false := decide_eq_false (by omega)
          have HY : Hid (allB (s.data.toList.take (k + 1)) mo = true) := ⟨by rw [HS.out, HK.out, decide_eq_true (by omega)]; rfl⟩
          go_wp2
          go_round
          case rel => exact ⟨k + 1, by omega, by go_num, HY⟩
          case measure =>
            simp [intOf]
            omega
    · have l1 : decide ((k : Int) < (s.size : Int)) = false := decide_eq_false (by omega)
      have HY : Hid (Idx.textB s mo = decide (1 ≤ s.size ∧ s.size ≤ 32)) := ⟨by rw [HT.out, ← List.take_of_length_le (l := s.data.toList) (i := k) (by simp; omega), HK.out, Bool.true_and]⟩
      by_cases h1 : 1 ≤ s.size
      · have e1 : decide ((1 : Int) ≤ (s.size : Int)) = true := decide_eq_true (by omega)
        by_cases h2 : s.size ≤ 32
        · have e2 : decide ((s.size : Int) ≤ 32) = true := decide_eq_true (by omega)
          go_wp2
          go_ret
          exact ⟨by rw [HY.out, decide_eq_true ⟨h1, h2⟩]; rfl, rfl⟩
        · have e2 : decide ((s.size : Int) ≤ 32) = false := decide_eq_false (by omega)
          go_wp2
          go_ret
          exact ⟨by rw [HY.out, decide_eq_false (by omega)]; rfl, rfl⟩
      · have e1 : decide ((1 : Int) ≤ (s.size : Int)) = false := decide_eq_false (by omega)
        go_wp2
        go_ret
        exact ⟨by rw [HY.out, decide_eq_false (by omega)]; rfl, rfl⟩

theorem keyR_any (s : ByteArray) (hs : s.size ≤ maxLen) (w : World) : Calls Try.prog 15 #[.string s] w fun e w' => e = .returned (.bool (Idx.keyB s)) ∧ w' = w := by
  have hT := textR15_any s 126 (by omega) hs w
  go_enter Try.func15, Try.ntmps15
  go_wp2_with fail
  refine hT.mono ?_
  rintro e w1 ⟨rfl, rfl⟩
  go_wp2
  go_ret
  exact ⟨rfl, rfl⟩

set_option maxRecDepth 100000 in
set_option maxHeartbeats 1600000 in
theorem rangeR_any (a b : ByteArray) (ha : a.size ≤ maxLen) (hb : b.size ≤ maxLen) (w : World) : Calls Try.prog 17 #[.string a, .string b] w fun e w' => e = .returned (.bool (Idx.rangeB a b)) ∧ w' = w := by
  have hK := keyR_any a ha w
  have hT := textR15_any b 127 (by omega) hb w
  have HR : Hid (Idx.rangeB a b = (Idx.keyB a && (decide (b.size = 0) || (Idx.textB b 127 && ltS a b)))) := ⟨rfl⟩
  have hl : Op.bytesLess a.toList b.toList = ltS a b := rfl
  generalize Idx.keyB a = q1 at *
  generalize Idx.textB b 127 = q2 at *
  generalize ltS a b = q3 at *
  cases q1 with
  | false =>
    go_enter Try.func17, Try.ntmps17
    go_wp2_with fail
    refine hK.mono ?_
    rintro e w1 ⟨rfl, rfl⟩
    go_wp2
    go_ret
    exact ⟨by rw [HR.out]; rfl, rfl⟩
  | true =>
    by_cases h0 : b.size = 0
    · have e0 : ((b.size : Int) == 0) = true := by rw [h0]; rfl
      go_enter Try.func17, Try.ntmps17
      go_wp2_with fail
      refine hK.mono ?_
      rintro e w1 ⟨rfl, rfl⟩
      go_wp2
      go_ret
      exact ⟨by rw [HR.out, decide_eq_true h0]; rfl, rfl⟩
    · have e0 : ((b.size : Int) == 0) = false := beq_eq_false_iff_ne.2 (by omega)
      have e1 : ((b.size : Int) = 0) = False := eq_false (by omega)
      have HR2 := Lib.hid (HR.out.trans (by rw [decide_eq_false h0, Bool.false_or, Bool.true_and]))
      cases q2 with
      | false =>
        go_enter Try.func17, Try.ntmps17
        go_wp2_with fail
        refine hK.mono ?_
        rintro e w1 ⟨rfl, rfl⟩
        go_wp2_with fail
        refine hT.mono ?_
        rintro e w1 ⟨rfl, rfl⟩
        go_wp2
        go_ret
        exact ⟨by rw [HR2.out]; rfl, rfl⟩
      | true =>
        go_enter Try.func17, Try.ntmps17
        go_wp2_with fail
        refine hK.mono ?_
        rintro e w1 ⟨rfl, rfl⟩
        go_wp2_with fail
        refine hT.mono ?_
        rintro e w1 ⟨rfl, rfl⟩
        go_wp2
        go_ret
        exact ⟨by rw [HR2.out, Bool.true_and, ← hl]; rfl, rfl⟩

set_option maxRecDepth 100000 in
set_option maxHeartbeats 1600000 in
theorem inR_any (a b k : ByteArray) (ha : a.size ≤ maxLen) (hb : b.size ≤ maxLen) (hk : k.size ≤ maxLen) (w : World) : Calls Try.prog 19 #[.string a, .string b, .string k] w fun e w' => e = .returned (.bool (Idx.inB a b k)) ∧ w' = w := by
  have hR := rangeR_any a b ha hb w
  have hK := keyR_any k hk w
  have HI : Hid (Idx.inB a b k = (Idx.rangeB a b && (Idx.keyB k && (if b.size = 0 then decide (k = a) else !ltS k a && ltS k b)))) := ⟨rfl⟩
  have hl1 : Op.bytesLess k.toList a.toList = ltS k a := rfl
  have hl2 : Op.bytesLess k.toList b.toList = ltS k b := rfl
  have he : (k.toList == a.toList) = decide (k = a) := bytes_list k a
  generalize Idx.rangeB a b = q1 at *
  generalize Idx.keyB k = q2 at *
  generalize ltS k a = q3 at *
  generalize ltS k b = q4 at *
  generalize decide (k = a) = q5 at *
  cases q1 with
  | false =>
    go_enter Try.func19, Try.ntmps19
    go_wp2_with fail
    refine hR.mono ?_
    rintro e w1 ⟨rfl, rfl⟩
    go_wp2
    go_ret
    exact ⟨by rw [HI.out]; rfl, rfl⟩
  | true =>
    cases q2 with
    | false =>
      go_enter Try.func19, Try.ntmps19
      go_wp2_with fail
      refine hR.mono ?_
      rintro e w1 ⟨rfl, rfl⟩
      go_wp2_with fail
      refine hK.mono ?_
      rintro e w1 ⟨rfl, rfl⟩
      go_wp2
      go_ret
      exact ⟨by rw [HI.out]; rfl, rfl⟩
    | true =>
      by_cases h0 : b.size = 0
      · have e0 : ((b.size : Int) == 0) = true := by rw [h0]; rfl
        go_enter Try.func19, Try.ntmps19
        go_wp2_with fail
        refine hR.mono ?_
        rintro e w1 ⟨rfl, rfl⟩
        go_wp2_with fail
        refine hK.mono ?_
        rintro e w1 ⟨rfl, rfl⟩
        go_wp2
        go_ret
        exact ⟨by rw [HI.out, if_pos h0]; rfl, rfl⟩
      · have e0 : ((b.size : Int) == 0) = false := beq_eq_false_iff_ne.2 (by omega)
        have e1 : ((b.size : Int) = 0) = False := eq_false (by omega)
        cases q3 with
        | false =>
          go_enter Try.func19, Try.ntmps19
          go_wp2_with fail
          refine hR.mono ?_
          rintro e w1 ⟨rfl, rfl⟩
          go_wp2_with fail
          refine hK.mono ?_
          rintro e w1 ⟨rfl, rfl⟩
          go_wp2
          go_ret
          exact ⟨by rw [HI.out, if_neg h0]; rfl, rfl⟩
        | true =>
          go_enter Try.func19, Try.ntmps19
          go_wp2_with fail
          refine hR.mono ?_
          rintro e w1 ⟨rfl, rfl⟩
          go_wp2_with fail
          refine hK.mono ?_
          rintro e w1 ⟨rfl, rfl⟩
          go_wp2
          go_ret
          exact ⟨by rw [HI.out, if_neg h0]; rfl, rfl⟩

end Go.Proofs.Ytcoddkbbgmjckaa

namespace Go.Proofs.Ytcoddkbbgmjckaa
open Go.RowKit
set_option linter.unusedVariables false
set_option linter.unusedSimpArgs false
attribute [local go_sem] Oper.semAt_some

abbrev khs (xs : List KLay) : List Idx.KH := xs.map KLay.kh

theorem getL_found {xs : List KLay} {key : ByteArray} {k : Nat} (hk : k < xs.length) (h : xs[k].k = key) (h0 : ∀ j (hj : j < xs.length), j < k → xs[j].k ≠ key) : Idx.getL (khs xs) key = xs[k].h := by
  induction xs generalizing k with
  | nil => cases hk
  | cons x xs ih =>
    show (if x.k = key then x.h else Idx.getL (khs xs) key) = _
    cases k with
    | zero => rw [if_pos (show x.k = key from h)]; rfl
    | succ k =>
      rw [if_neg (show x.k ≠ key from h0 0 (by simp) (by omega))]
      exact ih (by simpa using hk) h fun j hj hjk => h0 (j + 1) (by simpa using hj) (by omega)

theorem getL_none {xs : List KLay} {key : ByteArray} (h0 : ∀ j (hj : j < xs.length), xs[j].k ≠ key) : Idx.getL (khs xs) key = [] :=
  Idx.get_none fun p hp => by
    obtain ⟨x, hx, rfl⟩ := List.mem_map.1 hp
    obtain ⟨j, hj, rfl⟩ := List.getElem_of_mem hx
    exact h0 j hj

set_option maxRecDepth 100000 in
set_option maxHeartbeats 1600000 in
theorem getR15_any (A : Option Addr) (n cap : Nat) (xs : List KLay) (key : ByteArray) (w : World) (h : IxL w A n cap xs) (hm : n ≤ 900000) :
    Calls Try.prog 56 #[.slice A n cap, .string key] w fun e w' => ∃ B c, e = .returned (.slice B (Idx.getL (khs xs) key).length c) ∧ Vers w' B (Idx.getL (khs xs) key).length (Idx.getL (khs xs) key) ∧ Below w.heap.size w w' := by
  have hll := h.len
  have HV := Lib.hid h
  clear h
  go_enter Try.func56, Try.ntmps56
  go_wp2_with fail
  go_loop [8] (fun i => ∃ k : Nat, k ≤ n ∧ i = .int .i64 (k : Int) ∧ Hid (∀ j (hj : j < xs.length), j < k → xs[j].k ≠ key)) (fun i => n - (intOf i).toNat)
  case atStart => exact ⟨0, Nat.zero_le _, rfl, ⟨fun j _ hj => absurd hj (by omega)⟩⟩
  case round =>
    obtain ⟨k, hk, rfl, HK⟩ := hrel
    by_cases hlt : k < n
    · have l1 : decide ((k : Int) < (n : Int)) = true := decide_eq_true (by omega)
      obtain ⟨g, off, rfl, hg, c0, c1⟩ := HV.out.at_ k hlt
      have HX := Lib.hid (HV.out.vs (xs[k]'(by omega)) (List.getElem_mem _))
      obtain ⟨x, hx⟩ : ∃ x, xs[k]'(by omega) = x := ⟨_, rfl⟩
      rw [hx] at c0 c1
      by_cases he : x.k = key
      · have e1 : (x.k.toList == key.toList) = true := by rw [bytes_list]; exact decide_eq_true he
        have HG := Lib.hid (getL_found (show k < xs.length by omega) (by rw [hx]; exact he) HK.out)
        have HE := Lib.hid hx
        clear hx he
        go_wp2
        go_ret
        exact ⟨x.B, ⟨x.c, by rw [HG.out, HE.out]; rfl⟩, by rw [HG.out]; have := HX.out; rw [HE.out] at this ⊢; exact this, Below.refl _ _⟩
      · have e1 : (x.k.toList == key.toList) = false := by rw [bytes_list]; exact decide_eq_false he
        have HY : Hid (∀ j (hj : j < xs.length), j < k + 1 → xs[j].k ≠ key) := ⟨fun j hj hjk => by
          by_cases q : j = k
          · subst q; rw [hx]; exact he
          · exact HK.out j hj (by omega)⟩
        clear hx he
        go_wp2
        go_round
        case rel => exact ⟨k + 1, by omega, by go_num, HY⟩
        case measure =>
          simp [intOf]
          omega
    · have l1 : decide ((k : Int) < (n : Int)) = false := decide_eq_false (by omega)
      have HG := Lib.hid (getL_none (xs := xs) (key := key) fun j hj => HK.out j hj (by omega))
      go_wp2
      go_ret
      exact ⟨none, ⟨0, by rw [HG.out]; rfl⟩, by rw [HG.out]; exact Vers.nil _ _, Below.refl _ _⟩

/- three ways that two keys stand -/
theorem keys_lt {a b : ByteArray} (h : ltS a b = true) : Op.bytesLess a.toList b.toList = true ∧ Op.bytesLess b.toList a.toList = false ∧ (b.toList == a.toList) = false := ⟨h, ltS_asymm h, ltS_ne h⟩
theorem filter_take {α : Type} {l : List α} (p : α → Bool) {k : Nat} (hk : k < l.length) : (l.take (k + 1)).filter p = (l.take k).filter p ++ if p l[k] = true then [l[k]] else [] := by
  rw [List.take_succ_eq_append_getElem hk, List.filter_append]
  by_cases h : p l[k] = true <;> simp [h]

theorem gt_is (a b : ByteArray) : (!(Op.bytesLess a.toList b.toList || a.toList == b.toList)) = ltS b a := by
  show (!(ltS a b || a.toList == b.toList)) = ltS b a
  rw [bytes_list]
  cases h1 : ltS a b with
  | true => rw [ltS_asymm h1]; rfl
  | false =>
    by_cases h2 : a = b
    · subst h2
      rw [decide_eq_true rfl, ltS_irr]
      rfl
    · rw [decide_eq_false h2]
      cases h3 : ltS b a with
      | true => rfl
      | false => exact absurd (ltS_con h1 h3) h2

/-- What Set leaves of a row. -/
def setK (xs : List KLay) (key : ByteArray) (h : List Ver) (B : Option Addr) (c : Nat) : List KLay :=
  xs.filter (fun x => ltS x.k key) ++ ((if h = [] then [] else [⟨key, h, B, c⟩]) ++ xs.filter (fun x => ltS key x.k))
theorem setK_khs (xs : List KLay) (key : ByteArray) (h : List Ver) (B : Option Addr) (c : Nat) : khs (setK xs key h B c) = Idx.setL (khs xs) key h := by
  unfold setK Idx.setL khs
  rw [List.map_append, List.map_append, List.filter_map, List.filter_map]
  congr 2
  split <;> rfl

set_option maxRecDepth 100000 in
set_option maxHeartbeats 6400000 in
theorem setR15_any (A : Option Addr) (n cap : Nat) (xs : List KLay) (key : ByteArray) (hh : List Ver) (B : Option Addr) (hn c : Nat) (w : World) (h : IxL w A n cap xs) (hm : n ≤ 400000) (hv : Vers w B hn hh) :
    Calls Try.prog 72 #[.slice A n cap, .string key, .slice B hn c] w fun e w' => ∃ R m d, e = .returned (.slice R m d) ∧ OwnK w w' R m d (setK xs key hh B c) ∧ Below w.heap.size w w' := by
  have hll := h.len
  have HV := Lib.hid h
  have hcl : KLay.cells ⟨key, hh, B, c⟩ = [.string key, .slice B hn c] := by unfold KLay.cells; rw [hv.1]
  have HH := Lib.hid (And.intro (show Vers w B hh.length hh by rw [hv.1]; exact hv) (And.intro hv.1 hcl))
  clear h hv hcl
  go_enter Try.func72, Try.ntmps72
  go_wp2_with fail
  go_loopw [7, 12] (fun v7 v12 wr => ∃ k : Nat, k ≤ n ∧ v12 = .int .i64 (k : Int) ∧ ∃ R m d, v7 = .slice R m d ∧ m ≤ k ∧ OwnK w wr R m d ((xs.take k).filter fun x => ltS x.k key) ∧ Below w.heap.size w wr) (fun _ v12 _ => n - (intOf v12).toNat)
  case atStart => exact ⟨0, Nat.zero_le _, rfl, none, 0, 0, rfl, Nat.le_refl _, OwnK.none _ _, Below.refl _ _⟩
  case round =>
    obtain ⟨k, hk, rfl, R, m, d, rfl, hmk, hO, hb⟩ := hrel
    have HB := Lib.hid (And.intro hO hb)
    clear hO hb
    by_cases hlt : k < n
    · have l1 : decide ((k : Int) < (n : Int)) = true := decide_eq_true (by omega)
      obtain ⟨g, off, rfl, hg, c0, c1⟩ := (HV.out.below HB.out.2).at_ k hlt
      have HX := Lib.hid (HV.out.vs (xs[k]'(by omega)) (List.getElem_mem _))
      have htf := filter_take (fun x : KLay => ltS x.k key) (show k < xs.length by omega)
      obtain ⟨x, hx⟩ : ∃ x, xs[k]'(by omega) = x := ⟨_, rfl⟩
      rw [hx] at c0 c1 htf
      have HT := Lib.hid (And.intro htf hx)
      clear hx htf
      cases hq : ltS x.k key with
      | false =>
        have e1 : Op.bytesLess x.k.toList key.toList = false := hq
        have HQ := Lib.hid hq
        clear hq
        go_wp2
        go_roundw
        case rel => exact ⟨k + 1, hlt, by go_num, R, m, d, rfl, by omega, by rw [HT.out.1, HQ.out, if_neg (by decide), List.append_nil]; exact HB.out.1, HB.out.2⟩
        case measure =>
          simp [intOf]
          omega
      | true =>
        have e1 : Op.bytesLess x.k.toList key.toList = true := hq
        have HQ := Lib.hid hq
        have h1c : ∀ u ∈ ([.string x.k, .slice x.B x.h.length x.c] : List Value), u.oneCell' = true := fun u hu => rowK_one x u hu
        have HM := Lib.hid (show ∀ y ∈ (xs.take k).filter (fun x => ltS x.k key), Vers w y.B y.h.length y.h from fun y hy => HV.out.vs y (List.mem_of_mem_take (List.mem_filter.1 hy).1))
        obtain ⟨ys, hys⟩ : ∃ ys, (xs.take k).filter (fun x => ltS x.k key) = ys := ⟨_, rfl⟩
        rw [hys] at HB HM
        have HYS := Lib.hid hys
        clear hq hys
        go_wp2_with (at_builtin
                     go_loud (refine wpList_append_sp elem_hist _ rfl _ _ rfl R m d (rowK ys) rfl (HB.out.1.ix.sp.keep fun q hq => (show Below wr.heap.size wr _ from (by repeat (first | exact Below.refl _ _ | apply Below.drew | apply below_drewN | refine Below.alloc ?_ (by simp) _))).block q (HB.out.1.ix.sp.lt hq)) _ 1 1 [.string x.k, .slice x.B x.h.length x.c] rfl (fun e => by cases e) rfl h1c (fun b e => by cases e; exact cells_lit (C := [.string x.k, .slice x.B x.h.length x.c]) (heap_alloc_new _ _)) (by omega) ?_)
                     intro A8 c8 w8 hsp8 hA8 hg8
                     have hP := HB.out.1.push (x := x) HB.out.2 (show Below wr.heap.size wr _ from (by repeat (first | exact Below.refl _ _ | apply Below.drew | apply below_drewN | refine Below.alloc ?_ (by simp) _))) hg8 hsp8 hA8 (.inl (by have := HX.out; rw [HT.out.2] at this; exact this)) (fun y hy => .inl (HM.out y hy)))
        go_roundw
        case rel => exact ⟨k + 1, hlt, by go_num, A8, m + 1, c8, rfl, by omega, by rw [HT.out.1, HYS.out, HQ.out, if_pos rfl]; exact hP.1, hP.2⟩
        case measure =>
          simp [intOf]
          omega
    · obtain rfl : n = k := by omega
      have l1 : decide ((n : Int) < (n : Int)) = false := decide_eq_false (by omega)
      obtain ⟨w5, hw5⟩ : ∃ w5, w5 = wr := ⟨_, rfl⟩
      subst hw5
      have hO1 := HB.out.1
      rw [List.take_of_length_le (by omega)] at hO1
      have HO1 := Lib.hid hO1
      have HMA := Lib.hid (show ∀ y ∈ xs.filter (fun x => ltS x.k key), Vers w y.B y.h.length y.h from fun y hy => HV.out.vs y (List.mem_filter.1 hy).1)
      clear hO1
      by_cases h0 : hh = []
      · have e0 : decide (0 < hn) = false := decide_eq_false (by rw [← HH.out.2.1, h0]; simp)
        obtain ⟨mid, hmid⟩ : ∃ mid, xs.filter (fun x => ltS x.k key) = mid := ⟨_, rfl⟩
        have HE := Lib.hid (show mid ++ xs.filter (fun x => ltS key x.k) = setK xs key hh B c by unfold setK; rw [if_pos h0, List.nil_append, hmid])
        have HMID := HMA
        have hC := HO1.out
        rw [hmid] at HMID hC
        obtain ⟨R1, hR1⟩ : ∃ R1, R = R1 := ⟨_, rfl⟩
        obtain ⟨m1, hm1⟩ : ∃ m1, m = m1 := ⟨_, rfl⟩
        obtain ⟨d1, hd1⟩ : ∃ d1, d = d1 := ⟨_, rfl⟩
        subst hR1 hm1 hd1
        have HC := Lib.hid (And.intro (show m ≤ n + 1 + 0 by omega) (And.intro hC HB.out.2))
        clear hC h0 hmid
        go_wp2_with fail
        go_loopw [7, 41] (fun v7 v41 wr => ∃ k : Nat, k ≤ n ∧ v41 = .int .i64 (k : Int) ∧ ∃ R m d, v7 = .slice R m d ∧ m ≤ n + 1 + k ∧ OwnK w wr R m d (mid ++ (xs.take k).filter fun x => ltS key x.k) ∧ Below w.heap.size w wr) (fun _ v41 _ => n - (intOf v41).toNat)
        case atStart => exact ⟨0, Nat.zero_le _, rfl, R, m, d, rfl, HC.out.1, by rw [List.take_zero, List.filter_nil, List.append_nil]; exact HC.out.2.1, HC.out.2.2⟩
        case round =>
          obtain ⟨k, hk, rfl, R, m, d, rfl, hmk, hO, hb⟩ := hrel
          have HB := Lib.hid (And.intro hO hb)
          clear hO hb
          by_cases hlt : k < n
          · have l1 : decide ((k : Int) < (n : Int)) = true := decide_eq_true (by omega)
            obtain ⟨g, off, rfl, hg, c0, c1⟩ := (HV.out.below HB.out.2).at_ k hlt
            have HX := Lib.hid (HV.out.vs (xs[k]'(by omega)) (List.getElem_mem _))
            have htf := filter_take (fun x : KLay => ltS key x.k) (show k < xs.length by omega)
            obtain ⟨x, hx⟩ : ∃ x, xs[k]'(by omega) = x := ⟨_, rfl⟩
            rw [hx] at c0 c1 htf
            have HT := Lib.hid (And.intro htf hx)
            clear hx htf
            cases hq : ltS key x.k with
            | false =>
              have e1 : (!(Op.bytesLess x.k.toList key.toList || x.k.toList == key.toList)) = false := by rw [gt_is, hq]
              have HQ := Lib.hid hq
              clear hq
              go_wp2
              go_roundw
              case rel => exact ⟨k + 1, hlt, by go_num, R, m, d, rfl, by omega, by rw [HT.out.1, HQ.out, if_neg (by decide), List.append_nil]; exact HB.out.1, HB.out.2⟩
              case measure =>
                simp [intOf]
                omega
            | true =>
              have e1 : (!(Op.bytesLess x.k.toList key.toList || x.k.toList == key.toList)) = true := by rw [gt_is, hq]
              have HQ := Lib.hid hq
              have h1c : ∀ u ∈ ([.string x.k, .slice x.B x.h.length x.c] : List Value), u.oneCell' = true := fun u hu => rowK_one x u hu
              have HM := Lib.hid (show ∀ y ∈ mid ++ (xs.take k).filter (fun x => ltS key x.k), Vers w y.B y.h.length y.h from fun y hy => (List.mem_append.1 hy).elim (fun e => HMID.out y e) fun e => HV.out.vs y (List.mem_of_mem_take (List.mem_filter.1 e).1))
              obtain ⟨ys, hys⟩ : ∃ ys, mid ++ (xs.take k).filter (fun x => ltS key x.k) = ys := ⟨_, rfl⟩
              rw [hys] at HB HM
              have HYS := Lib.hid hys
              clear hq hys
              go_wp2_with (at_builtin
                           go_loud (refine wpList_append_sp elem_hist _ rfl _ _ rfl R m d (rowK ys) rfl (HB.out.1.ix.sp.keep fun q hq => (show Below wr.heap.size wr _ from (by repeat (first | exact Below.refl _ _ | apply Below.drew | apply below_drewN | refine Below.alloc ?_ (by simp) _))).block q (HB.out.1.ix.sp.lt hq)) _ 1 1 [.string x.k, .slice x.B x.h.length x.c] rfl (fun e => by cases e) rfl h1c (fun b e => by cases e; exact cells_lit (C := [.string x.k, .slice x.B x.h.length x.c]) (heap_alloc_new _ _)) (by omega) ?_)
                           intro A8 c8 w8 hsp8 hA8 hg8
                           have hP := HB.out.1.push (x := x) HB.out.2 (show Below wr.heap.size wr _ from (by repeat (first | exact Below.refl _ _ | apply Below.drew | apply below_drewN | refine Below.alloc ?_ (by simp) _))) hg8 hsp8 hA8 (.inl (by have := HX.out; rw [HT.out.2] at this; exact this)) (fun y hy => .inl (HM.out y hy)))
              go_roundw
              case rel => exact ⟨k + 1, hlt, by go_num, A8, m + 1, c8, rfl, by omega, by rw [HT.out.1, ← List.append_assoc, HYS.out, HQ.out, if_pos rfl]; exact hP.1, hP.2⟩
              case measure =>
                simp [intOf]
                omega
          · obtain rfl : n = k := by omega
            have l1 : decide ((n : Int) < (n : Int)) = false := decide_eq_false (by omega)
            have hfin := HB.out
            rw [List.take_of_length_le (by omega), HE.out] at hfin
            have HF := Lib.hid hfin
            clear hfin
            go_wp2
            go_ret
            exact ⟨R, m, d, rfl, HF.out.1, HF.out.2⟩
      · have e0 : decide (0 < hn) = true := decide_eq_true (by have := List.length_pos_iff.2 h0; rw [HH.out.2.1] at this; omega)
        have h1c : ∀ u ∈ ([.string key, .slice B hn c] : List Value), u.oneCell' = true := fun u hu => rowK_one ⟨key, hh, B, c⟩ u (by rw [HH.out.2.2]; exact hu)
        obtain ⟨ys, hys⟩ : ∃ ys, xs.filter (fun x => ltS x.k key) = ys := ⟨_, rfl⟩
        rw [hys] at HO1 HMA
        have HE := Lib.hid (show (ys ++ [⟨key, hh, B, c⟩]) ++ xs.filter (fun x => ltS key x.k) = setK xs key hh B c by unfold setK; rw [if_neg h0, hys, List.append_assoc])
        have HMID := Lib.hid (show ∀ y ∈ ys ++ [(⟨key, hh, B, c⟩ : KLay)], Vers w y.B y.h.length y.h from fun y hy => (List.mem_append.1 hy).elim (fun e => HMA.out y e) fun e => by rw [List.mem_singleton] at e; subst e; exact HH.out.1)
        clear h0 hys
        go_wp2_with (at_builtin
                     go_loud (refine wpList_append_sp elem_hist _ rfl _ _ rfl R m d (rowK ys) rfl (HO1.out.ix.sp.keep fun q hq => (show Below w5.heap.size w5 _ from (by repeat (first | exact Below.refl _ _ | apply Below.drew | apply below_drewN | refine Below.alloc ?_ (by simp) _))).block q (HO1.out.ix.sp.lt hq)) _ 1 1 [.string key, .slice B hn c] rfl (fun e => by cases e) rfl h1c (fun b e => by cases e; exact cells_lit (C := [.string key, .slice B hn c]) (heap_alloc_new _ _)) (by omega) ?_)
                     intro A8 c8 w8 hsp8 hA8 hg8
                     have hP := HO1.out.push (x := ⟨key, hh, B, c⟩) HB.out.2 (show Below w5.heap.size w5 _ from (by repeat (first | exact Below.refl _ _ | apply Below.drew | apply below_drewN | refine Below.alloc ?_ (by simp) _))) hg8 (by rw [HH.out.2.2]; exact hsp8) hA8 (.inl HH.out.1) (fun y hy => .inl (HMA.out y hy)))
        obtain ⟨mid, hmid⟩ : ∃ mid, ys ++ [(⟨key, hh, B, c⟩ : KLay)] = mid := ⟨_, rfl⟩
        rw [hmid] at HE HMID hP
        obtain ⟨m1, hm1⟩ : ∃ m1, m + 1 = m1 := ⟨_, rfl⟩
        obtain ⟨R1, hR1⟩ : ∃ R1, A8 = R1 := ⟨_, rfl⟩
        obtain ⟨d1, hd1⟩ : ∃ d1, c8 = d1 := ⟨_, rfl⟩
        subst hR1 hd1 hm1
        have HC := Lib.hid (And.intro (show m + 1 ≤ n + 1 + 0 by omega) hP)
        clear hP hmid hsp8 hA8 hg8
        go_wp2_with fail
        go_loopw [7, 41] (fun v7 v41 wr => ∃ k : Nat, k ≤ n ∧ v41 = .int .i64 (k : Int) ∧ ∃ R m d, v7 = .slice R m d ∧ m ≤ n + 1 + k ∧ OwnK w wr R m d (mid ++ (xs.take k).filter fun x => ltS key x.k) ∧ Below w.heap.size w wr) (fun _ v41 _ => n - (intOf v41).toNat)
        case atStart => exact ⟨0, Nat.zero_le _, rfl, A8, (m + 1), c8, rfl, HC.out.1, by rw [List.take_zero, List.filter_nil, List.append_nil]; exact HC.out.2.1, HC.out.2.2⟩
        case round =>
          obtain ⟨k, hk, rfl, R, m, d, rfl, hmk, hO, hb⟩ := hrel
          have HB := Lib.hid (And.intro hO hb)
          clear hO hb
          by_cases hlt : k < n
          · have l1 : decide ((k : Int) < (n : Int)) = true := decide_eq_true (by omega)
            obtain ⟨g, off, rfl, hg, c0, c1⟩ := (HV.out.below HB.out.2).at_ k hlt
            have HX := Lib.hid (HV.out.vs (xs[k]'(by omega)) (List.getElem_mem _))
            have htf := filter_take (fun x : KLay => ltS key x.k) (show k < xs.length by omega)
            obtain ⟨x, hx⟩ : ∃ x, xs[k]'(by omega) = x := ⟨_, rfl⟩
            rw [hx] at c0 c1 htf
            have HT := Lib.hid (And.intro htf hx)
            clear hx htf
            cases hq : ltS key x.k with
            | false =>
              have e1 : (!(Op.bytesLess x.k.toList key.toList || x.k.toList == key.toList)) = false := by rw [gt_is, hq]
              have HQ := Lib.hid hq
              clear hq
              go_wp2
              go_roundw
              case rel => exact ⟨k + 1, hlt, by go_num, R, m, d, rfl, by omega, by rw [HT.out.1, HQ.out, if_neg (by decide), List.append_nil]; exact HB.out.1, HB.out.2⟩
              case measure =>
                simp [intOf]
                omega
            | true =>
              have e1 : (!(Op.bytesLess x.k.toList key.toList || x.k.toList == key.toList)) = true := by rw [gt_is, hq]
              have HQ := Lib.hid hq
              have h1c : ∀ u ∈ ([.string x.k, .slice x.B x.h.length x.c] : List Value), u.oneCell' = true := fun u hu => rowK_one x u hu
              have HM := Lib.hid (show ∀ y ∈ mid ++ (xs.take k).filter (fun x => ltS key x.k), Vers w y.B y.h.length y.h from fun y hy => (List.mem_append.1 hy).elim (fun e => HMID.out y e) fun e => HV.out.vs y (List.mem_of_mem_take (List.mem_filter.1 e).1))
              obtain ⟨ys, hys⟩ : ∃ ys, mid ++ (xs.take k).filter (fun x => ltS key x.k) = ys := ⟨_, rfl⟩
              rw [hys] at HB HM
              have HYS := Lib.hid hys
              clear hq hys
              go_wp2_with (at_builtin
                           go_loud (refine wpList_append_sp elem_hist _ rfl _ _ rfl R m d (rowK ys) rfl (HB.out.1.ix.sp.keep fun q hq => (show Below wr.heap.size wr _ from (by repeat (first | exact Below.refl _ _ | apply Below.drew | apply below_drewN | refine Below.alloc ?_ (by simp) _))).block q (HB.out.1.ix.sp.lt hq)) _ 1 1 [.string x.k, .slice x.B x.h.length x.c] rfl (fun e => by cases e) rfl h1c (fun b e => by cases e; exact cells_lit (C := [.string x.k, .slice x.B x.h.length x.c]) (heap_alloc_new _ _)) (by omega) ?_)
                           intro A8 c8 w8 hsp8 hA8 hg8
                           have hP := HB.out.1.push (x := x) HB.out.2 (show Below wr.heap.size wr _ from (by repeat (first | exact Below.refl _ _ | apply Below.drew | apply below_drewN | refine Below.alloc ?_ (by simp) _))) hg8 hsp8 hA8 (.inl (by have := HX.out; rw [HT.out.2] at this; exact this)) (fun y hy => .inl (HM.out y hy)))
              go_roundw
              case rel => exact ⟨k + 1, hlt, by go_num, A8, m + 1, c8, rfl, by omega, by rw [HT.out.1, ← List.append_assoc, HYS.out, HQ.out, if_pos rfl]; exact hP.1, hP.2⟩
              case measure =>
                simp [intOf]
                omega
          · obtain rfl : n = k := by omega
            have l1 : decide ((n : Int) < (n : Int)) = false := decide_eq_false (by omega)
            have hfin := HB.out
            rw [List.take_of_length_le (by omega), HE.out] at hfin
            have HF := Lib.hid hfin
            clear hfin
            go_wp2
            go_ret
            exact ⟨R, m, d, rfl, HF.out.1, HF.out.2⟩

end Go.Proofs.Ytcoddkbbgmjckaa
