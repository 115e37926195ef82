/- named, ready, power of the program's disk, each by its contract. -/
import Derived.Test.YtnkfdnehkihbeaaDskDk
import Derived.Test.YtnkfdnehkihbeaaDskRef
import Derived.Lib.ConvBytes
import Derived.Deep.LoopGhost
namespace Go.Proofs.Ytnkfdnehkihbeaa
open Go.RowKit
set_option linter.unusedVariables false
set_option linter.unusedSimpArgs false

theorem bytesWorld_below (w : World) (e : TypeId) (s : ByteArray) : Below w.heap.size w (Lib.bytesWorld w e s) :=
  ⟨rfl, rfl, rfl, by rw [Lib.bytesWorld_size]; omega, fun k hk => Lib.bytesWorld_at_old w e s k hk⟩

set_option maxHeartbeats 1000000 in
theorem named_any (s : ByteArray) (w : World) : Calls Try.prog 51 #[.string s] w fun e w' => e = .returned (.bool (rightS s)) ∧ Below w.heap.size w w' := by
  by_cases h1 : s.size < 1
  · have h1' : ((s.size : Int) < 1) := by omega
    have hr : rightS s = false := by simp [rightS, h1]
    rw [hr]
    clear hr
    go_enter Try.func51, Try.ntmps51
    go_wp2
    go_ret
    exact ⟨rfl, Below.refl _ _⟩
  · have h1' : ¬ ((s.size : Int) < 1) := by omega
    by_cases h2 : 12 < s.size
    · have h2' : ((12 : Int) < (s.size : Int)) := by omega
      have hr : rightS s = false := by simp [rightS, h2]
      rw [hr]
      clear hr
      go_enter Try.func51, Try.ntmps51
      go_wp2
      go_ret
      exact ⟨rfl, Below.refl _ _⟩
    · have h2' : ¬ ((12 : Int) < (s.size : Int)) := by omega
      have HR : Hid (rightS s = rightL s.data.toList) := ⟨by simp [rightS, h1, h2]⟩
      have kc := Lib.run_convert_string_bytes (P := Try.prog) w 9 22 5 s Try.underlying9 Try.underlying22 Try.underlying5
      have hbw := bytesWorld_below w 5 s
      have hc : ∀ j (hj : j < s.size), (Lib.bytesWorld w 5 s).cell? ⟨w.heap.size, j, none⟩ = some (.int .u8 ((s[j]).toNat : Int)) := fun j hj => by
        rw [Lib.bytesWorld_cell w _ s j hj]
        have : s.data.toList.getD j 0 = s[j] := by
          rw [List.getD_eq_getElem?_getD, List.getElem?_eq_getElem (by simpa using hj)]; rfl
        rw [this]
      generalize Lib.bytesWorld w 5 s = W1 at kc hbw hc
      generalize grownCap w s.size 0 5 = cp at kc
      go_enter Try.func51, Try.ntmps51
      go_wp2
      go_loopg [16] s.size (fun g i wr => W1 = wr ∧ ∃ k : Nat, k + g = s.size ∧ i = .int .i64 (k : Int) ∧ Hid (rightL (s.data.toList.take k) = true))
      case atStart => exact ⟨rfl, 0, by omega, rfl, ⟨rfl⟩⟩
      case round =>
        obtain ⟨rfl, k, hk, rfl, HK⟩ := hrel
        by_cases hlt : k < s.size
        · have HT : Hid (rightL (s.data.toList.take (k + 1)) = (rightL (s.data.toList.take k) && !(decide ((s[k]).toNat < 33) || decide (126 < (s[k]).toNat)))) := ⟨rightL_take s k hlt⟩
          have hlt' : (k : Int) < (s.size : Int) := by omega
          have hck := hc k hlt
          by_cases c1 : (s[k]).toNat < 33
          · have c1' : ((s[k]).toNat : Int) < 33 := by omega
            have HN : Hid (rightS s = false) := ⟨rightS_no s (k + 1) (by rw [HT.out, decide_eq_true c1]; simp)⟩
            clear hc
            go_wp2
            go_ret
            exact ⟨by rw [HN.out]; rfl, hbw⟩
          · have c1' : ¬ (((s[k]).toNat : Int) < 33) := by omega
            by_cases c2 : 126 < (s[k]).toNat
            · have c2' : (126 : Int) < ((s[k]).toNat : Int) := by omega
              have HN : Hid (rightS s = false) := ⟨rightS_no s (k + 1) (by rw [HT.out, decide_eq_true c2]; simp)⟩
              clear hc
              go_wp2
              go_ret
              exact ⟨by rw [HN.out]; rfl, hbw⟩
            · have c2' : ¬ ((126 : Int) < ((s[k]).toNat : Int)) := by omega
              have HY : Hid (rightL (s.data.toList.take (k + 1)) = true) := ⟨by rw [HT.out, HK.out, decide_eq_false c1, decide_eq_false c2]; rfl⟩
              clear hc
              go_wp2
              go_roundg (gk - 1)
              case measure => omega
              case rel => exact ⟨rfl, k + 1, by omega, by go_num, HY⟩
        · have HY : Hid (rightS s = true) := ⟨by rw [HR.out, ← HK.out, List.take_of_length_le (by simp; omega)]⟩
          obtain rfl : k = s.size := by omega
          have hdec : decide ((s.size : Int) < (s.size : Int)) = false := decide_eq_false (by omega)
          go_wp2
          go_ret
          exact ⟨by rw [HY.out]; rfl, hbw⟩

/- ready -/

/-- A slice that reads as these texts. -/
def RStr (w : World) (A : Option Addr) (l : List ByteArray) : Prop :=
  0 < l.length → ∃ g off, A = some ⟨g, off, none⟩ ∧ g < w.heap.size ∧ ∀ j (hj : j < l.length), w.cell? ⟨g, off + j, none⟩ = some (.string l[j])

theorem RStr.below {w w' : World} {A : Option Addr} {l : List ByteArray} {B : Nat} (h : RStr w A l) (hb : Below B w w') (hB : w.heap.size ≤ B) : RStr w' A l := fun h0 => by
  obtain ⟨g, off, e, hg, hc⟩ := h h0
  exact ⟨g, off, e, Nat.lt_of_lt_of_le hg hb.size, fun j hj => (hb.cell (p := ⟨g, off + j, none⟩) (Nat.lt_of_lt_of_le hg hB)).trans (hc j hj)⟩

/-- Why nothing can be asked of a disk by these names; 0: it can. -/
def readyN (lost : Bool) (l : List ByteArray) : Nat := if lost then 5 else if l.all rightS then 0 else 1

theorem readyN_one (D : Dsk) (a : ByteArray) : readyN D.lost [a] = D.may a a := by simp [readyN, Dsk.may]
theorem readyN_two (D : Dsk) (a b : ByteArray) : readyN D.lost [a, b] = D.may a b := by simp [readyN, Dsk.may]
theorem readyN_none (D : Dsk) : readyN D.lost [] = if D.lost then 5 else 0 := by simp [readyN]

theorem ready_nil (A : Option Addr) (n cap : Nat) (w : World) : Calls Try.prog 35 #[.pointer none, .slice A n cap] w fun e w' => e = .returned (.int .i64 1) ∧ w = w' := by
  go_enter Try.func35, Try.ntmps35
  go_wp2
  go_ret
  exact ⟨rfl, rfl⟩

set_option maxHeartbeats 1000000 in
theorem ready_any (w : World) (d : Nat) (D : Dsk) (M Z : Nat → Prop) (X : ByteArray → Prop) (t : FT) (h : Dt w d D M Z X t) (A : Option Addr) (cap : Nat) (l : List ByteArray) (hA : RStr w A l) (hl : l.length ≤ 100) :
    Calls Try.prog 35 #[.pointer (some ⟨d, 0, none⟩), .slice A l.length cap] w fun e w' => e = .returned (.int .i64 ((readyN D.lost l : Nat) : Int)) ∧ Below w.heap.size w w' := by
  obtain ⟨u, hbx, _⟩ := h.box
  have hd := h.lt
  obtain ⟨⟨a0, a1, a2, a3, a4⟩, _⟩ := row5 hbx
  clear h hbx
  obtain ⟨room, L, set, n, lost⟩ := D
  dsimp only at *
  cases lost with
  | true =>
    go_enter Try.func35, Try.ntmps35
    go_wp2
    go_ret
    exact ⟨rfl, Below.refl _ _⟩
  | false =>
    go_enter Try.func35, Try.ntmps35
    go_wp2
    go_loopg [15] l.length (fun g i wr => ∃ k : Nat, k + g = l.length ∧ i = .int .i64 (k : Int) ∧ Below w.heap.size w wr ∧ Hid ((l.take k).all rightS = true))
    case atStart => exact ⟨0, by omega, rfl, Below.refl _ _, ⟨rfl⟩⟩
    case round =>
      obtain ⟨k, hk, rfl, hb, HK⟩ := hrel
      have hlb : (l.length : Int) ≤ 100 := by omega
      by_cases hlt : k < l.length
      · have hlt' : (k : Int) < (l.length : Int) := by omega
        obtain ⟨g, off, rfl, hg, hc⟩ := (hA.below hb (Nat.le_refl _)) (by omega)
        have hck := hc k hlt
        have HT : Hid ((l.take (k + 1)).all rightS = rightS l[k]) := ⟨by rw [List.take_succ_eq_append_getElem hlt, List.all_append, HK.out]; simp⟩
        have hN := named_any l[k] wr
        clear hc
        cases hr : rightS l[k] with
        | true =>
          rw [hr] at hN HT
          clear hr
          go_wp2_with (first | (go_at_call 51; refine hN.mono ?_; rintro e w1 ⟨rfl, hb1⟩) | fail)
          go_roundg (gk - 1)
          case measure => omega
          case rel => exact ⟨k + 1, by omega, by go_num, hb.trans (hb1.mono hb.size), HT⟩
        | false =>
          rw [hr] at hN
          have HN : Hid (readyN false l = 1) := ⟨by
            have : l.all rightS = false := by
              rw [← Bool.not_eq_true, List.all_eq_true]
              intro h
              have := h _ (List.getElem_mem hlt)
              rw [hr] at this
              cases this
            simp [readyN, this]⟩
          clear hr
          go_wp2_with (first | (go_at_call 51; refine hN.mono ?_; rintro e w1 ⟨rfl, hb1⟩) | fail)
          go_ret
          exact ⟨by rw [HN.out]; rfl, hb.trans (hb1.mono hb.size)⟩
      · obtain rfl : k = l.length := by omega
        have hdec : decide ((l.length : Int) < (l.length : Int)) = false := decide_eq_false (by omega)
        have HN : Hid (readyN false l = 0) := ⟨by
          have := HK.out
          rw [List.take_length] at this
          simp [readyN, this]⟩
        go_wp2
        go_ret
        exact ⟨by rw [HN.out]; rfl, hb⟩

/- power -/

theorem keeps_store {w : World} {d i : Nat} (u : Value) : Keeps (· ≠ d) w (w.setCell ⟨d, i, none⟩ u) := keeps_setCell w ⟨d, i, none⟩ u (fun h => h rfl)

theorem power_any (w : World) (d : Nat) (D : Dsk) (M Z : Nat → Prop) (X : ByteArray → Prop) (t : FT) (h : Dt w d D M Z X t) (hg : Good D) (hl : D.lost = false) :
    Calls Try.prog 48 #[.pointer (some ⟨d, 0, none⟩)] w fun e w' => e = .returned (.int .i64 ((if D.burn.lost then 5 else 0 : Nat) : Int)) ∧ Dt w' d D.burn M Z X t ∧ Keeps (· ≠ d) w w' := by
  obtain ⟨u, hbx, _⟩ := h.box
  have hd := h.lt
  obtain ⟨⟨a0, a1, a2, a3, a4⟩, ⟨f0, f1, f2, f3, f4⟩⟩ := row5 hbx
  have hn := hg.n
  obtain ⟨room, L, set, n, lost⟩ := D
  dsimp only at hl hn
  subst hl
  have hu : ∀ cs, w.heap[d]? = some (.cells cs 73) → cs[2]? = some (.pointer u) := fun cs hc => by
    rw [hbx] at hc
    injection hc with hc
    injection hc with hc
    subst hc
    rfl
  cases set with
  | false =>
    have hf : fuseOf ⟨room, L, false, n, false⟩ = -1 := rfl
    have hbn : Dsk.burn ⟨room, L, false, n, false⟩ = ⟨room, L, false, n, false⟩ := by simp [Dsk.burn]
    rw [hbn]
    rw [hf] at a3
    have HD := Lib.hid h
    clear h hg hbx hu
    go_enter Try.func48, Try.ntmps48
    go_wp2
    go_ret
    exact ⟨rfl, HD.out, Keeps.refl _ _⟩
  | true =>
    have hf : fuseOf ⟨room, L, true, n, false⟩ = n := rfl
    rw [hf] at a3
    rw [hf] at hbx
    by_cases h0 : n = 0
    · subst h0
      have hbn : Dsk.burn ⟨room, L, true, 0, false⟩ = ⟨room, L, true, 0, true⟩ := by simp [Dsk.burn]
      rw [hbn]
      have HD : Hid (Dt (w.setCell ⟨d, 4, none⟩ (.bool true)) d ⟨room, L, true, 0, true⟩ M Z X t) := ⟨h.turn (keeps_store _) (by rw [setCell_at w ⟨d, 4, none⟩ _ _ _ _ rfl hbx]; rfl) hu rfl⟩
      clear h hg hbx hu
      go_enter Try.func48, Try.ntmps48
      go_wp2
      go_ret
      exact ⟨rfl, HD.out, keeps_store _⟩
    · have hp : 0 < n := by omega
      have hbn : Dsk.burn ⟨room, L, true, n, false⟩ = ⟨room, L, true, n - 1, false⟩ := by simp [Dsk.burn, h0, hp]
      rw [hbn]
      have e1 : IntKind.i64.wrap (n - 1) = n - 1 := IntWalk.i64_in _ (by omega)
      have HD : Hid (Dt (w.setCell ⟨d, 3, none⟩ (.int .i64 (n - 1))) d ⟨room, L, true, n - 1, false⟩ M Z X t) := ⟨h.turn (keeps_store _) (by rw [setCell_at w ⟨d, 3, none⟩ _ _ _ _ rfl hbx]; rfl) hu rfl⟩
      clear h hg hbx hu
      go_enter Try.func48, Try.ntmps48
      go_wp2
      go_ret
      exact ⟨rfl, HD.out, keeps_store _⟩

/- find -/

theorem find_nil (name : ByteArray) (w : World) : Calls Try.prog 46 #[.pointer none, .string name] w fun e w' => e = .returned (.tuple #[fvV noFV, .int .i64 1]) ∧ Below w.heap.size w w' := by
  go_enter Try.func46, Try.ntmps46
  go_wp2_with (first | (go_at_call 35; refine (ready_nil _ _ _ _).mono ?_; rintro e w1 ⟨rfl, rfl⟩) | fail)
  refine bodyPost_ret (res_cell_tmp' (n := w.heap.size) rfl rfl ((Below.heap_alloc _ _ _ (by simp)).trans (heap_alloc_new _ _)) Try.underlying83 rfl (by kernel_rfl)) rfl ?_
  exact ⟨rfl, ((Below.refl _ _).alloc (Nat.le_refl _) _).alloc (by simp) _⟩

/-- What find answers. -/
def Found (D : Dsk) (t : FT) (name : ByteArray) (v : FV) (c : Nat) : Prop :=
  (D.may name name ≠ 0 ∧ c = D.may name name ∧ v = noFV) ∨ (D.may name name = 0 ∧ (getF D.l name).2 = false ∧ c = 6 ∧ v = noFV) ∨
  (D.may name name = 0 ∧ (getF D.l name).2 = true ∧ c = 0 ∧ (name, v) ∈ t.list ∧ getF D.l name = (filOf (name, v), true))

theorem RStr.one (w : World) (a : ByteArray) (T : TypeId) (fr : Nat × Nat) (n : Nat) (hn : n = w.heap.size) : RStr (w.alloc (.cells #[.string a] T fr)) (some ⟨n, 0, none⟩) [a] := by
  subst hn
  refine fun _ => ⟨w.heap.size, 0, rfl, by simp, fun j hj => ?_⟩
  obtain rfl : j = 0 := by simpa using hj
  rw [cell_of_row _ _ _ _ _ _ (heap_alloc_new w _)]
  rfl

theorem RStr.two (w : World) (a b : ByteArray) (T : TypeId) (fr : Nat × Nat) (n : Nat) (hn : n = w.heap.size) : RStr (w.alloc (.cells #[.string a, .string b] T fr)) (some ⟨n, 0, none⟩) [a, b] := by
  subst hn
  refine fun _ => ⟨w.heap.size, 0, rfl, by simp, fun j hj => ?_⟩
  rw [cell_of_row _ _ _ _ _ _ (heap_alloc_new w _)]
  have : j = 0 ∨ j = 1 := by simp at hj; omega
  rcases this with rfl | rfl <;> rfl

set_option maxHeartbeats 1000000 in
theorem finds_any (w : World) (d : Nat) (D : Dsk) (M Z : Nat → Prop) (X : ByteArray → Prop) (t : FT) (h : Dt w d D M Z X t) (name : ByteArray) :
    Calls Try.prog 46 #[.pointer (some ⟨d, 0, none⟩), .string name] w fun e w' => ∃ v c, e = .returned (.tuple #[fvV v, .int .i64 ((c : Nat) : Int)]) ∧ Found D t name v c ∧ Below w.heap.size w w' := by
  have hR : ∀ w' A, Below w.heap.size w w' → RStr w' A [name] → Calls Try.prog 35 #[.pointer (some ⟨d, 0, none⟩), .slice A 1 1] w' fun e w'' => e = .returned (.int .i64 ((D.may name name : Nat) : Int)) ∧ Below w'.heap.size w' w'' := fun w' A hb hA => by
    have := ready_any w' d D M Z X t (h.below hb) A 1 [name] hA (by simp)
    rwa [readyN_one] at this
  obtain ⟨u, hbx, hr⟩ := h.box
  have hd := h.lt
  obtain ⟨⟨a0, a1, a2, a3, a4⟩, _⟩ := row5 hbx
  have hh := h.has name
  have hF : ∀ v c, Found D t name v c → Hid (Found D t name v c) := fun v c h => ⟨h⟩
  clear a0 a1 a3 a4 hbx
  by_cases hm : D.may name name = 0
  · rw [hm] at hR
    rcases hh with ⟨v, a, b, hf, hmem, hget⟩ | ⟨hf, hno, hget⟩
    · have HF := hF v 0 (.inr (.inr ⟨hm, by rw [hget], rfl, hmem, hget⟩))
      have hG := fun w' (hb : Below w.heap.size w w') => MapFl.get_yes t u name name v a b w' (hr.below hb (Nat.le_refl _)) hf
      clear hf hmem hget hr h hF
      go_enter Try.func46, Try.ntmps46
      go_wp2_with (first
        | (go_at_call 35
           refine (hR _ _ (by repeat (first | exact Below.refl _ _ | refine Below.alloc ?_ (by simp <;> omega) _)) (RStr.one _ _ _ _ _ (by simp))).mono ?_
           rintro e w1 ⟨rfl, hb1⟩
           have hb : Below w.heap.size w w1 := Tr.below_of hb1 (by repeat (first | exact Below.refl _ _ | refine Below.alloc ?_ (by simp <;> omega) _))
           have b2 := (hb.cell (p := ⟨d, 2, none⟩) hd).trans a2
           have hr1 := (hb1.block w.heap.size (by simp <;> omega)).trans ((Below.heap_alloc _ _ _ (by simp)).trans (heap_alloc_new _ _))
           have hz1 : w.heap.size < w1.heap.size := Go.Proofs.Ytnkfdnehkihbeaa.hlt hr1)
        | (go_at_call 54
           refine (hG _ hb).mono ?_
           rintro e w2 ⟨rfl, hb2⟩
           have hbb : Below w.heap.size w w2 := hb.trans (hb2.mono hb.size)
           have hr2 := (hb2.block w.heap.size hz1).trans hr1
           obtain ⟨⟨k0, k1⟩, ⟨k2, k3⟩⟩ := row2 hr2
           have hz : w.heap.size < w2.heap.size := Go.Proofs.Ytnkfdnehkihbeaa.hlt hr2)
        | fail)
      refine bodyPost_ret (res_cell_tmp' (n := w.heap.size) rfl rfl (by first | exact (Below.heap_alloc _ _ _ (by simp; omega)).trans (set2_at _ _ _ _ _ _ _ hr2) | exact set2_at _ _ _ _ _ _ _ ((Below.heap_alloc _ _ _ (by omega)).trans hr2)) Try.underlying83 rfl (by kernel_rfl)) rfl ?_
      exact ⟨v, 0, rfl, HF.out, by repeat (first | exact hbb | refine Below.alloc ?_ (by simp <;> omega) _ | refine Below.setCell ?_ (by simp <;> omega) _)⟩
    · have HF := hF noFV 6 (.inr (.inl ⟨hm, by rw [hget], rfl, rfl⟩))
      have hG := fun w' (hb : Below w.heap.size w w') => MapFl.get_no t u name w' (hr.below hb (Nat.le_refl _)) hf
      clear hf hno hget hr h hF
      go_enter Try.func46, Try.ntmps46
      go_wp2_with (first
        | (go_at_call 35
           refine (hR _ _ (by repeat (first | exact Below.refl _ _ | refine Below.alloc ?_ (by simp <;> omega) _)) (RStr.one _ _ _ _ _ (by simp))).mono ?_
           rintro e w1 ⟨rfl, hb1⟩
           have hb : Below w.heap.size w w1 := Tr.below_of hb1 (by repeat (first | exact Below.refl _ _ | refine Below.alloc ?_ (by simp <;> omega) _))
           have b2 := (hb.cell (p := ⟨d, 2, none⟩) hd).trans a2
           have hr1 := (hb1.block w.heap.size (by simp <;> omega)).trans ((Below.heap_alloc _ _ _ (by simp)).trans (heap_alloc_new _ _))
           have hz1 : w.heap.size < w1.heap.size := Go.Proofs.Ytnkfdnehkihbeaa.hlt hr1)
        | (go_at_call 54
           refine (hG _ hb).mono ?_
           rintro e w2 ⟨rfl, hb2⟩
           have hbb : Below w.heap.size w w2 := hb.trans (hb2.mono hb.size)
           have hr2 := (hb2.block w.heap.size hz1).trans hr1
           obtain ⟨⟨k0, k1⟩, ⟨k2, k3⟩⟩ := row2 hr2
           have hz : w.heap.size < w2.heap.size := Go.Proofs.Ytnkfdnehkihbeaa.hlt hr2)
        | fail)
      refine bodyPost_ret (res_cell_tmp' (n := w.heap.size) rfl rfl (by first | exact (Below.heap_alloc _ _ _ (by simp; omega)).trans (set2_at _ _ _ _ _ _ _ hr2) | exact set2_at _ _ _ _ _ _ _ ((Below.heap_alloc _ _ _ (by omega)).trans hr2)) Try.underlying83 rfl (by kernel_rfl)) rfl ?_
      exact ⟨noFV, 6, rfl, HF.out, by repeat (first | exact hbb | refine Below.alloc ?_ (by simp <;> omega) _ | refine Below.setCell ?_ (by simp <;> omega) _)⟩
  · have HF := hF noFV (D.may name name) (.inl ⟨hm, rfl, rfl⟩)
    generalize D.may name name = c at *
    clear hh hr h hF
    have hm' : ¬ ((c : Int) = 0) := by omega
    go_enter Try.func46, Try.ntmps46
    go_wp2_with (first
      | (go_at_call 35
         refine (hR _ _ (by repeat (first | exact Below.refl _ _ | refine Below.alloc ?_ (by simp <;> omega) _)) (RStr.one _ _ _ _ _ (by simp))).mono ?_
         rintro e w1 ⟨rfl, hb1⟩
         have hb : Below w.heap.size w w1 := Tr.below_of hb1 (by repeat (first | exact Below.refl _ _ | refine Below.alloc ?_ (by simp <;> omega) _))
         have hr1 := (hb1.block w.heap.size (by simp <;> omega)).trans ((Below.heap_alloc _ _ _ (by simp)).trans (heap_alloc_new _ _))
         obtain ⟨⟨k0, k1⟩, ⟨k2, k3⟩⟩ := row2 hr1
         have hz1 : w.heap.size < w1.heap.size := Go.Proofs.Ytnkfdnehkihbeaa.hlt hr1)
      | fail)
    refine bodyPost_ret (res_cell_tmp' (n := w.heap.size) rfl rfl (set2_at _ _ _ _ _ _ _ hr1) Try.underlying83 rfl (by kernel_rfl)) rfl ?_
    exact ⟨noFV, c, rfl, HF.out, by repeat (first | exact hb | refine Below.alloc ?_ (by simp <;> omega) _ | refine Below.setCell ?_ (by simp <;> omega) _)⟩

end Go.Proofs.Ytnkfdnehkihbeaa
