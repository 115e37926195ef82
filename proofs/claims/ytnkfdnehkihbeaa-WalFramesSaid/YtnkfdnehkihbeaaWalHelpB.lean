/- Alike, Texts of the laws, each by its contract. -/
import Derived.Test.YtnkfdnehkihbeaaWalHelp
namespace Go.Proofs.Ytnkfdnehkihbeaa
open Go.RowKit
set_option linter.unusedVariables false
set_option linter.unusedSimpArgs false

theorem txt_inj {a b : List UInt8} (h : (⟨a.toArray⟩ : ByteArray) = ⟨b.toArray⟩) : a = b := by
  have := congrArg (fun s : ByteArray => s.data.toList) h
  simpa using this

theorem str_ne {R S : ByteArray} (h : R ≠ S) : (R.toList == S.toList) = false := beq_eq_false_iff_ne.2 fun e => h (by
  rw [ByteArray.toList_eq, ByteArray.toList_eq] at e
  exact WideShapes.bytes_inj e)

theorem info_str : (Try.prog.info? 9).map (fun i => (i.zero, i.size, i.bytes)) = some (some (.string ⟨#[]⟩), 1, 16) := by kernel_rfl

set_option maxRecDepth 100000 in
set_option maxHeartbeats 1000000 in
theorem alike_any (Z : Nat → Prop) (A : Option Addr) (len cap : Nat) (ls : List (List UInt8)) (B : Option Addr) (n capB : Nat) (ts : List (List UInt8)) (w : World) (h : Recs w Z A len cap ls) (hB : STexts w B ts) (hn : ts.length = n) (hm : len ≤ maxLen) :
    Calls Try.prog 14 #[.slice A len cap, .slice B n capB] w fun e w' => e = .returned (.bool (decide (ls = ts))) ∧ Below w.heap.size w w' := by
  unfold maxLen at hm
  have hll := h.1
  by_cases hlen : len = n
  · subst hlen
    go_enter Try.func14, Try.ntmps14
    go_wp2
    go_loopg [5, 13] len (fun g r i wr => ∃ k : Nat, k + g = len ∧ i = .int .i64 (k : Int) ∧ ls.take k = ts.take k ∧ Below w.heap.size w wr)
    case atStart => exact ⟨0, by omega, rfl, by simp, Below.refl _ _⟩
    case round =>
      obtain ⟨k, hk, rfl, htk, hb⟩ := hrel
      by_cases hlt : k < len
      · have hlt' : (k : Int) < (len : Int) := by omega
        obtain ⟨g, off, E, c, rfl, hg, _, hcell0, hc, hl0⟩ := h.at_ k hlt
        have hcell := (World.cell?_of_block (w := w) (a := ⟨g, off + k, none⟩) (hb.block g hg)).trans hcell0
        have hl := hl0.below hb (Nat.le_refl _)
        obtain ⟨gb, offb, rfl, hgb, hcb⟩ := hB (by omega)
        have hcellb := (World.cell?_of_block (w := w) (a := ⟨gb, offb + k, none⟩) (hb.block gb hgb)).trans (hcb k (by omega))
        have hcv : ∀ W : World, W.heap = wr.heap → (convert 22 9 (.slice E (ls[k]'(by omega)).length c)).run Try.prog W = .ok (.string ⟨(ls[k]'(by omega)).toArray⟩) W := fun W hW => by
          have : Lies W E (ls[k]'(by omega)).length c (ls[k]'(by omega)) := hl.keep (by rw [hW]; exact Nat.le_refl _) fun _ g off _ _ => by rw [hW]
          exact this.text Try.underlying22 Try.underlying5 Try.underlying9
        have hE : decide (ls = ts) = true → (ls[k]'(by omega)) = (ts[k]'(by omega)) := fun e => by
          have e := of_decide_eq_true e
          subst e; rfl
        have HN := Lib.hid (show (ls[k]'(by omega)) = (ts[k]'(by omega)) → ls.take (k + 1) = ts.take (k + 1) from fun e => by
          rw [List.take_succ_eq_append_getElem (by omega), List.take_succ_eq_append_getElem (by omega), htk, e])
        have hcv0 := fun n => hcv (wr.drewN n) rfl
        clear hcv
        generalize (ls[k]'(by omega)) = r at *
        generalize (ts[k]'(by omega)) = s at *
        have e3 : IntKind.i64.wrap ((k : Int) + 1) = ((k + 1 : Nat) : Int) := by rw [IntWalk.i64_in _ (by omega)]; omega
        obtain ⟨m, hm2⟩ : ∃ m, r.length = m := ⟨_, rfl⟩
        rw [hm2] at hcell
        rw [hm2] at hcv0
        obtain ⟨R, hR⟩ : ∃ R : ByteArray, (⟨r.toArray⟩ : ByteArray) = R := ⟨_, rfl⟩
        obtain ⟨S, hS⟩ : ∃ S : ByteArray, (⟨s.toArray⟩ : ByteArray) = S := ⟨_, rfl⟩
        rw [hR] at hcv0
        rw [hS] at hcellb
        have HB := Lib.hid hb
        have HK := Lib.hid hk
        by_cases hrs : r = s
        · have hRS : R = S := by rw [← hR, ← hS, hrs]
          have HT := Lib.hid (HN hrs)
          subst hRS
          clear hE HN hcb hl hl0 hcell0 htk hR hS hrs h hB hk hlt hb hm
          go_wp2
          go_quiet (fail)
          go_wp2
          go_roundg (gk - 1)
          case measure => have : k + gk = len := HK; omega
          case rel => exact ⟨k + 1, by have : k + gk = len := HK; omega, by go_num, HT, below_drewN HB _⟩
        · have hF := Lib.hid (show decide (ls = ts) = false by
            cases hq : decide (ls = ts) with
            | false => rfl
            | true => exact absurd (hE hq) hrs)
          have hRS := str_ne (R := R) (S := S) fun e => hrs (txt_inj (by rw [hR, hS]; exact e))
          clear hE HN hcb hl hl0 hcell0 htk hR hS hrs h hB hk hlt hb hm
          go_wp2
          go_quiet (fail)
          go_wp2
          go_ret
          exact ⟨by have e : decide (ls = ts) = false := hF; rw [e]; rfl, below_drewN HB _⟩
      · obtain rfl : k = len := by omega
        have hT := Lib.hid (show decide (ls = ts) = true by
          rw [List.take_of_length_le (by omega), List.take_of_length_le (by omega)] at htk
          exact decide_eq_true htk)
        have hdec : decide ((k : Int) < (k : Int)) = false := decide_eq_false (by omega)
        clear h hB hk htk hm
        go_wp2
        go_ret
        exact ⟨by have e : decide (ls = ts) = true := hT; rw [e]; rfl, hb⟩
  · have hF := Lib.hid (show decide (ls = ts) = false from decide_eq_false fun e => hlen (by rw [← hll, ← hn, e]))
    have hne : ((len : Int) != (n : Int)) = true := by simp; omega
    have hne2 : ((len : Int) = (n : Int)) = False := eq_false (by omega)
    clear h hB hlen hll hn hm
    go_enter Try.func14, Try.ntmps14
    go_wp2
    go_ret
    exact ⟨by have e : decide (ls = ts) = false := hF; rw [e]; rfl, Below.refl _ _⟩

/-- The texts that stand there when so many records are done. -/
structure TxAt (w wr : World) (ls : List (List UInt8)) (k : Nat) (v : Value) : Prop where
  own : wr.ownsRow w.heap.size 9 1 v k ((ls.take k).map txt)
  below : Below w.heap.size w wr
  form : ∃ A cap, v = .slice A k cap

set_option maxRecDepth 100000 in
set_option maxHeartbeats 1000000 in
theorem texts_any (Z : Nat → Prop) (A : Option Addr) (len cap : Nat) (ls : List (List UInt8)) (w : World) (h : Recs w Z A len cap ls) (hm : len ≤ 1000000) :
    Calls Try.prog 21 #[.slice A len cap] w fun e w' => ∃ A' cap', e = .returned (.slice A' len cap') ∧ w'.ownsRow w.heap.size 9 1 (.slice A' len cap') len (ls.map txt) ∧ Below w.heap.size w w' := by
  have hll := h.1
  obtain ⟨i0, hi0, hz0, hz1, hz2⟩ := info_parts info_str
  have hT0 : TxAt w w ls 0 (.slice none 0 0) := ⟨World.ownsRow_nil _ _ _ _, Below.refl _ _, ⟨_, _, rfl⟩⟩
  go_enter Try.func21, Try.ntmps21
  go_wp2
  go_loopg [3, 4, 7] len (fun g v r i wr => ∃ k : Nat, k + g = len ∧ i = .int .i64 (k : Int) ∧ TxAt w wr ls k v)
  case atStart => exact ⟨0, by omega, rfl, hT0⟩
  case round =>
    clear hT0
    obtain ⟨k, hk, rfl, hT⟩ := hrel
    obtain ⟨A0, cap0, rfl⟩ := hT.form
    by_cases hlt : k < len
    · have hlt' : (k : Int) < (len : Int) := by omega
      obtain ⟨g, off, E, c, rfl, hg, _, hcell0, hc, hl0⟩ := h.at_ k hlt
      have hcell := (World.cell?_of_block (w := w) (a := ⟨g, off + k, none⟩) (hT.below.block g hg)).trans hcell0
      have hcv := (hl0.below hT.below (Nat.le_refl _)).text Try.underlying22 Try.underlying5 Try.underlying9
      have hown := hT.own
      have hbl := hT.below
      have hsw := hT.below.size
      have HX := Lib.hid (show (ls.take (k + 1)).map txt = (ls.take k).map txt ++ [txt (ls[k]'(by omega))] by rw [List.take_succ_eq_append_getElem (by omega), List.map_append]; rfl)
      generalize (ls[k]'(by omega)) = r at *
      obtain ⟨m, hm2⟩ : ∃ m, r.length = m := ⟨_, rfl⟩
      rw [hm2] at hcell hcv
      clear hl0 hcell0 h
      go_wp2_with (first
        | (at_builtin; refine wpList_append_lies _ rfl _ _ 32 rfl w.heap.size 9 i0 _ 1 16 Try.underlying32 hi0 hz0 hz1 hz2 rfl (by omega) (.slice A0 k cap0) k _ rfl (hown.alloc _) ⟨wr.heap.size, 0, none⟩ 1 1 [txt r] rfl rfl (World.news_of_block (heap_alloc_new wr _)) (by simp [Value.oneCell']) (by omega) (by unfold maxLen; omega) (by omega) (by simp; omega) (wr.heap.size + 1) (by simp) ?_
           intro g2 cap2 w2 ho2 hgr2 hat2 hlt2)
        | fail)
      have HN := Lib.hid (show TxAt w w2 ls (k + 1) (.slice (some ⟨g2, 0, none⟩) (k + 1) cap2) from ⟨by have e : _ = _ := HX; rw [e]; exact ho2, ((hbl.alloc hbl.size _).grown hgr2 (by simp; omega) (fun q hq => (hown.lt q hq).1)), ⟨_, _, rfl⟩⟩)
      clear hT hown ho2 hgr2 hat2 hbl HX hcv hcell
      go_wp2
      go_roundg (gk - 1)
      case measure => omega
      case rel => exact ⟨k + 1, by omega, by go_num, HN⟩
    · obtain rfl : k = len := by omega
      have hdec : decide ((k : Int) < (k : Int)) = false := decide_eq_false (by omega)
      have hfin := hT.own
      rw [List.take_of_length_le (by omega)] at hfin
      have hb := hT.below
      clear hT h
      go_wp2
      go_ret
      exact ⟨_, _, rfl, hfin, hb⟩

end Go.Proofs.Ytnkfdnehkihbeaa
