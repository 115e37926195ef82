/- OrderRanks: the key with so many below it has so many below it; between two of them are those between. For every input. -/
import Derived.Test.YtjccjbnbjcbagaaOrdVar
import Derived.Test.YtjccjbnbjcbagaaOrdFS
import Derived.Test.YtjccjbnbjcbagaaOrdAwake
import Derived.Test.YtjccjbnbjcbagaaOrdMath2
namespace Go.Proofs.Ytjccjbnbjcbagaa.orderRanks
open Go.ChangeShapes Go.WideShapes Go.ChangeAt Go.RowKit Go.Proofs.Ytjccjbnbjcbagaa

set_option linter.unusedVariables false
abbrev T := Tr ByteArray Int
abbrev Iv := Inv (K := ByteArray) (V := Int) Value.string (Value.int .i64) ltS

set_option maxRecDepth 100000 in
set_option maxHeartbeats 3200000 in
theorem walk (A : Option Addr) (len cap : Nat) (S : Nat → ByteArray) (a1 : Int) (a2 : Int) (w1 : (Lit.int .u8 a1).wf = true) (w2 : (Lit.int .u8 a2).wf = true) (w : World) (hlc : len ≤ cap) (hm : cap ≤ maxLen)
    (hA : 0 < len → ∃ b off, A = some ⟨b, off, none⟩ ∧ b < w.heap.size ∧ ∀ j, j < len → w.cell? ⟨b, off + j, none⟩ = some (.string (S j))) (hs : len ≤ 200) :
    Calls Try.prog 6 #[.slice A len cap, .int .u8 a1, .int .u8 a2] w fun e w' => e = .returned (.bool true) ∧ Below w.heap.size w w' := by
  have hx1 : 0 ≤ a1 ∧ a1 ≤ 255 := by simpa [Lit.wf, IntKind.min, IntKind.max, IntKind.signed, IntKind.bits] using w1
  have hx2 : 0 ≤ a2 ∧ a2 ≤ 255 := by simpa [Lit.wf, IntKind.min, IntKind.max, IntKind.signed, IntKind.bits] using w2
  clear w1 w2
  obtain ⟨h1, h1'⟩ := hx1
  obtain ⟨h2, h2'⟩ := hx2
  unfold maxLen at hm
  obtain ⟨x, rfl⟩ := Int.eq_ofNat_of_zero_le h1
  obtain ⟨y, rfl⟩ := Int.eq_ofNat_of_zero_le h2
  have hs' : (len : Int) ≤ 200 := by omega
  go_enter Try.func6, Try.ntmps6
  go_wp2_with (go_at_call 9; refine (OrdS.awake_any _).mono ?_; rintro e wa ⟨rfl, hba⟩)
  go_loopg [24] len (fun g c wr => ∃ j u t, c = .int .i64 ((j : Nat) : Int) ∧ j + g = len ∧ Iv w wa.heap.size j u t wr)
  case atStart => exact ⟨0, none, .nil, rfl, by omega, Inv.start hba _⟩
  case round =>
    obtain ⟨j, u, t, rfl, hj, hI⟩ := hrel
    have k0 := hI.var.1
    have hsz := hI.size
    by_cases hlt : j < len
    · obtain ⟨b, off, rfl, hb, hc⟩ := hA (by omega)
      have hcj : wr.cell? ⟨b, off + j, none⟩ = some (.string (S j)) := (hI.old.cell hb).trans (hc j hlt)
      have hlt' : (j : Int) < (len : Int) := by omega
      have jb : (j : Int) ≤ 200 := by omega
      have P := fun k w h => OrdS.put_map t u k 1 w h (by omega)
      clear hA hc
      go_wp2
      go_still_tail 5, (by kernel_rfl)
      change wpList _ _ _ _ _ wr.drew
      go_wp2_with (go_at_call 22; refine (P _ _ hI.drew.rep).mono ?_; rintro e w2 ⟨u2, rfl, hr2, hb2⟩
                   have k2 := (hI.drew.var.below hb2).1
                   have k3 := (hI.drew.var.below hb2).2.2.1)
      go_roundg (gk - 1)
      case measure => omega
      case rel => exact ⟨j + 1, u2, _, by go_num, by omega, hI.drew.put linS _ _ hr2 hb2⟩
    · have hge : (len : Int) ≤ (j : Int) := by omega
      have hold := hI.old
      have hM := hI.var.2.2.2
      have hrep := hI.rep
      have hbst := hI.bst
      have hb0 := Below.refl wr.heap.size wr
      have hLen := fun w h => OrdS.len_map t u w h
      have hx1 : (x : Int) ≤ 255 := h1'
      have hx2 : (y : Int) ≤ 255 := h2'
      clear hI hlt hA h1 h1' h2 h2'
      by_cases hx : x < t.size
      · have hxi : (x : Int) < (t.size : Int) := by omega
        obtain ⟨p, hp⟩ : ∃ p, t.list[x]? = some p := ⟨_, List.getElem?_eq_getElem (by rw [Tr.length_list]; exact hx)⟩
        have hAx := fun w h => OrdS.at_map_yes t u x p w h (by omega) hp
        by_cases hy : y < t.size
        · have hyi : (y : Int) < (t.size : Int) := by omega
          obtain ⟨q, hq⟩ : ∃ q, t.list[y]? = some q := ⟨_, List.getElem?_eq_getElem (by rw [Tr.length_list]; exact hy)⟩
          have hAy := fun w h => OrdS.at_map_yes t u y q w h (by omega) hq
          have hRp := fun w h => OrdS.rank_map p.1 t u w h (by omega)
          have hRq := fun w h => OrdS.rank_map q.1 t u w h (by omega)
          have hBt := fun w h => OrdS.between_map t u p.1 q.1 w h hbst (by omega)
          rw [Tr.rank_at linS hbst hp] at hRp
          rw [Tr.rank_at linS hbst hq] at hRq
          rw [Tr.rank_at linS hbst hp, Tr.rank_at linS hbst hq] at hBt
          have hln : (Tr.sub (x : Int) (y : Int) t.list).length = y - x := Tr.length_sub (by rw [Tr.length_list]; omega)
          have hBt' : ∀ w, OrdS.Rp w u t → Calls Try.prog 18 #[.agg #[.pointer u], .string p.1, .string q.1] w fun e w' => ∃ A c, e = .returned (.slice A (y - x) c) ∧ Below w.heap.size w w' := fun w h =>
            (hBt w h).mono fun e w' ⟨A, c, he, _, hb⟩ => ⟨A, c, by rw [he, hln], hb⟩
          clear hBt hln
          have hlt : x < y → ltS p.1 q.1 = true := fun h => Tr.lt_at hbst hp hq h
          have hge : y ≤ x → ltS p.1 q.1 = false := fun h => Tr.not_lt_at linS hbst hp hq h
          clear hp hq hbst
          obtain ⟨pk, pv⟩ := p
          obtain ⟨qk, qv⟩ := q
          have hdec : (x < y ∧ (x : Int) < (y : Int) ∧ Op.bytesLess pk.toList qk.toList = true) ∨ (¬ x < y ∧ (y : Int) ≤ (x : Int) ∧ Op.bytesLess pk.toList qk.toList = false) := by
            by_cases h : x < y
            · exact .inl ⟨h, by omega, hlt h⟩
            · exact .inr ⟨h, by omega, hge (by omega)⟩
          clear hlt hge
          obtain ⟨z, hz⟩ : ∃ z, y - x = z := ⟨_, rfl⟩
          rw [hz] at hBt'
          rcases hdec with ⟨hd1, hd2, hd3⟩ | ⟨hd1, hd2, hd3⟩
          · have hzz : ((z : Int) == (y : Int) - (x : Int)) = true := by rw [beq_iff_eq]; omega
            have hzy : (0 : Int) ≤ (y : Int) - (x : Int) := by omega
            clear hz hd1
            go_wp2_with (first
              | (go_at_call_of 20 (Value.int .i64 (x : Int)); refine (hAx _ (hrep.below (w := wr) (B := wr.heap.size) (by repeat (first | with_reducible exact hb0 | apply Below.drew | refine Below.alloc ?_ hb0.size _)) (Nat.le_refl _))).mono ?_; rintro e w3 ⟨rfl, hbn⟩; replace hb0 : Below wr.heap.size wr w3 := Tr.below_of hbn (by repeat (first | with_reducible exact hb0 | apply Below.drew | refine Below.alloc ?_ hb0.size _)); have kM : w3.cell? ⟨wa.heap.size, 0, none⟩ = some (.pointer u) := (hb0.cell hM).trans k0; have hMn : wa.heap.size < w3.heap.size := Nat.lt_of_lt_of_le hM hb0.size)
              | (go_at_call_of 20 (Value.int .i64 (y : Int)); refine (hAy _ (hrep.below (w := wr) (B := wr.heap.size) (by repeat (first | with_reducible exact hb0 | apply Below.drew | refine Below.alloc ?_ hb0.size _)) (Nat.le_refl _))).mono ?_; rintro e w4 ⟨rfl, hbn⟩; replace hb0 : Below wr.heap.size wr w4 := Tr.below_of hbn (by repeat (first | with_reducible exact hb0 | apply Below.drew | refine Below.alloc ?_ hb0.size _)); have kM : w4.cell? ⟨wa.heap.size, 0, none⟩ = some (.pointer u) := (hb0.cell hM).trans k0; have hMn : wa.heap.size < w4.heap.size := Nat.lt_of_lt_of_le hM hb0.size; have hPn : w3.heap.size < w4.heap.size := Nat.lt_of_lt_of_le (by first | omega | (simp; done) | (simp; omega)) hbn.size; have fP : w4.cell? ⟨w3.heap.size, 0, none⟩ = some (.string pk) := (hbn.cell (by first | omega | (simp; done) | (simp; omega))).trans (by simp [go_sem, *]))
              | (go_at_call 14; refine (hLen _ (hrep.below (w := wr) (B := wr.heap.size) (by repeat (first | with_reducible exact hb0 | apply Below.drew | refine Below.alloc ?_ hb0.size _)) (Nat.le_refl _))).mono ?_; rintro e wn ⟨rfl, hbn⟩; replace hb0 : Below wr.heap.size wr wn := Tr.below_of hbn (by repeat (first | with_reducible exact hb0 | apply Below.drew | refine Below.alloc ?_ hb0.size _)); have kM : wn.cell? ⟨wa.heap.size, 0, none⟩ = some (.pointer u) := (hb0.cell hM).trans k0; have hMn : wa.heap.size < wn.heap.size := Nat.lt_of_lt_of_le hM hb0.size; have hPn : w3.heap.size < wn.heap.size := Nat.lt_of_lt_of_le (by first | omega | (simp; done) | (simp; omega)) hbn.size; have fP : wn.cell? ⟨w3.heap.size, 0, none⟩ = some (.string pk) := (hbn.cell (by first | omega | (simp; done) | (simp; omega))).trans (by simp [go_sem, *]); have hQn : w4.heap.size < wn.heap.size := Nat.lt_of_lt_of_le (by first | omega | (simp; done) | (simp; omega)) hbn.size; have fQ : wn.cell? ⟨w4.heap.size, 0, none⟩ = some (.string qk) := (hbn.cell (by first | omega | (simp; done) | (simp; omega))).trans (by simp [go_sem, *]))
              | (go_at_call 18; refine (hBt' _ (hrep.below (w := wr) (B := wr.heap.size) (by repeat (first | with_reducible exact hb0 | apply Below.drew | refine Below.alloc ?_ hb0.size _)) (Nat.le_refl _))).mono ?_; rintro e wn ⟨A2, c2, rfl, hbn⟩; replace hb0 : Below wr.heap.size wr wn := Tr.below_of hbn (by repeat (first | with_reducible exact hb0 | apply Below.drew | refine Below.alloc ?_ hb0.size _)); have kM : wn.cell? ⟨wa.heap.size, 0, none⟩ = some (.pointer u) := (hb0.cell hM).trans k0; have hMn : wa.heap.size < wn.heap.size := Nat.lt_of_lt_of_le hM hb0.size; have hPn : w3.heap.size < wn.heap.size := Nat.lt_of_lt_of_le (by first | omega | (simp; done) | (simp; omega)) hbn.size; have fP : wn.cell? ⟨w3.heap.size, 0, none⟩ = some (.string pk) := (hbn.cell (by first | omega | (simp; done) | (simp; omega))).trans (by simp [go_sem, *]); have hQn : w4.heap.size < wn.heap.size := Nat.lt_of_lt_of_le (by first | omega | (simp; done) | (simp; omega)) hbn.size; have fQ : wn.cell? ⟨w4.heap.size, 0, none⟩ = some (.string qk) := (hbn.cell (by first | omega | (simp; done) | (simp; omega))).trans (by simp [go_sem, *]))
              | (go_at_call_of 15 (Value.string pk); refine (hRp _ (hrep.below (w := wr) (B := wr.heap.size) (by repeat (first | with_reducible exact hb0 | apply Below.drew | refine Below.alloc ?_ hb0.size _)) (Nat.le_refl _))).mono ?_; rintro e wn ⟨rfl, hbn⟩; replace hb0 : Below wr.heap.size wr wn := Tr.below_of hbn (by repeat (first | with_reducible exact hb0 | apply Below.drew | refine Below.alloc ?_ hb0.size _)); have kM : wn.cell? ⟨wa.heap.size, 0, none⟩ = some (.pointer u) := (hb0.cell hM).trans k0; have hMn : wa.heap.size < wn.heap.size := Nat.lt_of_lt_of_le hM hb0.size; have hPn : w3.heap.size < wn.heap.size := Nat.lt_of_lt_of_le (by first | omega | (simp; done) | (simp; omega)) hbn.size; have fP : wn.cell? ⟨w3.heap.size, 0, none⟩ = some (.string pk) := (hbn.cell (by first | omega | (simp; done) | (simp; omega))).trans (by simp [go_sem, *]); have hQn : w4.heap.size < wn.heap.size := Nat.lt_of_lt_of_le (by first | omega | (simp; done) | (simp; omega)) hbn.size; have fQ : wn.cell? ⟨w4.heap.size, 0, none⟩ = some (.string qk) := (hbn.cell (by first | omega | (simp; done) | (simp; omega))).trans (by simp [go_sem, *]))
              | (go_at_call_of 15 (Value.string qk); refine (hRq _ (hrep.below (w := wr) (B := wr.heap.size) (by repeat (first | with_reducible exact hb0 | apply Below.drew | refine Below.alloc ?_ hb0.size _)) (Nat.le_refl _))).mono ?_; rintro e wn ⟨rfl, hbn⟩; replace hb0 : Below wr.heap.size wr wn := Tr.below_of hbn (by repeat (first | with_reducible exact hb0 | apply Below.drew | refine Below.alloc ?_ hb0.size _)); have kM : wn.cell? ⟨wa.heap.size, 0, none⟩ = some (.pointer u) := (hb0.cell hM).trans k0; have hMn : wa.heap.size < wn.heap.size := Nat.lt_of_lt_of_le hM hb0.size; have hPn : w3.heap.size < wn.heap.size := Nat.lt_of_lt_of_le (by first | omega | (simp; done) | (simp; omega)) hbn.size; have fP : wn.cell? ⟨w3.heap.size, 0, none⟩ = some (.string pk) := (hbn.cell (by first | omega | (simp; done) | (simp; omega))).trans (by simp [go_sem, *]); have hQn : w4.heap.size < wn.heap.size := Nat.lt_of_lt_of_le (by first | omega | (simp; done) | (simp; omega)) hbn.size; have fQ : wn.cell? ⟨w4.heap.size, 0, none⟩ = some (.string qk) := (hbn.cell (by first | omega | (simp; done) | (simp; omega))).trans (by simp [go_sem, *])))
            go_ret
            exact ⟨rfl, hold.trans (hb0.mono hold.size)⟩
          · obtain rfl : z = 0 := by omega
            have HX : Hid (¬ x < y) := hd1
            have hyx : (y : Int) < (x : Int) ∨ (x : Int) ≤ (y : Int) := by omega
            clear hz hd1
            rcases hyx with hyx | hyx
            · have hyz : (y : Int) - (x : Int) < 0 := by omega
              go_wp2_with (first
                | (go_at_call_of 20 (Value.int .i64 (x : Int)); refine (hAx _ (hrep.below (w := wr) (B := wr.heap.size) (by repeat (first | with_reducible exact hb0 | apply Below.drew | refine Below.alloc ?_ hb0.size _)) (Nat.le_refl _))).mono ?_; rintro e w3 ⟨rfl, hbn⟩; replace hb0 : Below wr.heap.size wr w3 := Tr.below_of hbn (by repeat (first | with_reducible exact hb0 | apply Below.drew | refine Below.alloc ?_ hb0.size _)); have kM : w3.cell? ⟨wa.heap.size, 0, none⟩ = some (.pointer u) := (hb0.cell hM).trans k0; have hMn : wa.heap.size < w3.heap.size := Nat.lt_of_lt_of_le hM hb0.size)
                | (go_at_call_of 20 (Value.int .i64 (y : Int)); refine (hAy _ (hrep.below (w := wr) (B := wr.heap.size) (by repeat (first | with_reducible exact hb0 | apply Below.drew | refine Below.alloc ?_ hb0.size _)) (Nat.le_refl _))).mono ?_; rintro e w4 ⟨rfl, hbn⟩; replace hb0 : Below wr.heap.size wr w4 := Tr.below_of hbn (by repeat (first | with_reducible exact hb0 | apply Below.drew | refine Below.alloc ?_ hb0.size _)); have kM : w4.cell? ⟨wa.heap.size, 0, none⟩ = some (.pointer u) := (hb0.cell hM).trans k0; have hMn : wa.heap.size < w4.heap.size := Nat.lt_of_lt_of_le hM hb0.size; have hPn : w3.heap.size < w4.heap.size := Nat.lt_of_lt_of_le (by first | omega | (simp; done) | (simp; omega)) hbn.size; have fP : w4.cell? ⟨w3.heap.size, 0, none⟩ = some (.string pk) := (hbn.cell (by first | omega | (simp; done) | (simp; omega))).trans (by simp [go_sem, *]))
                | (go_at_call 14; refine (hLen _ (hrep.below (w := wr) (B := wr.heap.size) (by repeat (first | with_reducible exact hb0 | apply Below.drew | refine Below.alloc ?_ hb0.size _)) (Nat.le_refl _))).mono ?_; rintro e wn ⟨rfl, hbn⟩; replace hb0 : Below wr.heap.size wr wn := Tr.below_of hbn (by repeat (first | with_reducible exact hb0 | apply Below.drew | refine Below.alloc ?_ hb0.size _)); have kM : wn.cell? ⟨wa.heap.size, 0, none⟩ = some (.pointer u) := (hb0.cell hM).trans k0; have hMn : wa.heap.size < wn.heap.size := Nat.lt_of_lt_of_le hM hb0.size; have hPn : w3.heap.size < wn.heap.size := Nat.lt_of_lt_of_le (by first | omega | (simp; done) | (simp; omega)) hbn.size; have fP : wn.cell? ⟨w3.heap.size, 0, none⟩ = some (.string pk) := (hbn.cell (by first | omega | (simp; done) | (simp; omega))).trans (by simp [go_sem, *]); have hQn : w4.heap.size < wn.heap.size := Nat.lt_of_lt_of_le (by first | omega | (simp; done) | (simp; omega)) hbn.size; have fQ : wn.cell? ⟨w4.heap.size, 0, none⟩ = some (.string qk) := (hbn.cell (by first | omega | (simp; done) | (simp; omega))).trans (by simp [go_sem, *]))
                | (go_at_call 18; refine (hBt' _ (hrep.below (w := wr) (B := wr.heap.size) (by repeat (first | with_reducible exact hb0 | apply Below.drew | refine Below.alloc ?_ hb0.size _)) (Nat.le_refl _))).mono ?_; rintro e wn ⟨A2, c2, rfl, hbn⟩; replace hb0 : Below wr.heap.size wr wn := Tr.below_of hbn (by repeat (first | with_reducible exact hb0 | apply Below.drew | refine Below.alloc ?_ hb0.size _)); have kM : wn.cell? ⟨wa.heap.size, 0, none⟩ = some (.pointer u) := (hb0.cell hM).trans k0; have hMn : wa.heap.size < wn.heap.size := Nat.lt_of_lt_of_le hM hb0.size; have hPn : w3.heap.size < wn.heap.size := Nat.lt_of_lt_of_le (by first | omega | (simp; done) | (simp; omega)) hbn.size; have fP : wn.cell? ⟨w3.heap.size, 0, none⟩ = some (.string pk) := (hbn.cell (by first | omega | (simp; done) | (simp; omega))).trans (by simp [go_sem, *]); have hQn : w4.heap.size < wn.heap.size := Nat.lt_of_lt_of_le (by first | omega | (simp; done) | (simp; omega)) hbn.size; have fQ : wn.cell? ⟨w4.heap.size, 0, none⟩ = some (.string qk) := (hbn.cell (by first | omega | (simp; done) | (simp; omega))).trans (by simp [go_sem, *]))
                | (go_at_call_of 15 (Value.string pk); refine (hRp _ (hrep.below (w := wr) (B := wr.heap.size) (by repeat (first | with_reducible exact hb0 | apply Below.drew | refine Below.alloc ?_ hb0.size _)) (Nat.le_refl _))).mono ?_; rintro e wn ⟨rfl, hbn⟩; replace hb0 : Below wr.heap.size wr wn := Tr.below_of hbn (by repeat (first | with_reducible exact hb0 | apply Below.drew | refine Below.alloc ?_ hb0.size _)); have kM : wn.cell? ⟨wa.heap.size, 0, none⟩ = some (.pointer u) := (hb0.cell hM).trans k0; have hMn : wa.heap.size < wn.heap.size := Nat.lt_of_lt_of_le hM hb0.size; have hPn : w3.heap.size < wn.heap.size := Nat.lt_of_lt_of_le (by first | omega | (simp; done) | (simp; omega)) hbn.size; have fP : wn.cell? ⟨w3.heap.size, 0, none⟩ = some (.string pk) := (hbn.cell (by first | omega | (simp; done) | (simp; omega))).trans (by simp [go_sem, *]); have hQn : w4.heap.size < wn.heap.size := Nat.lt_of_lt_of_le (by first | omega | (simp; done) | (simp; omega)) hbn.size; have fQ : wn.cell? ⟨w4.heap.size, 0, none⟩ = some (.string qk) := (hbn.cell (by first | omega | (simp; done) | (simp; omega))).trans (by simp [go_sem, *]))
                | (go_at_call_of 15 (Value.string qk); refine (hRq _ (hrep.below (w := wr) (B := wr.heap.size) (by repeat (first | with_reducible exact hb0 | apply Below.drew | refine Below.alloc ?_ hb0.size _)) (Nat.le_refl _))).mono ?_; rintro e wn ⟨rfl, hbn⟩; replace hb0 : Below wr.heap.size wr wn := Tr.below_of hbn (by repeat (first | with_reducible exact hb0 | apply Below.drew | refine Below.alloc ?_ hb0.size _)); have kM : wn.cell? ⟨wa.heap.size, 0, none⟩ = some (.pointer u) := (hb0.cell hM).trans k0; have hMn : wa.heap.size < wn.heap.size := Nat.lt_of_lt_of_le hM hb0.size; have hPn : w3.heap.size < wn.heap.size := Nat.lt_of_lt_of_le (by first | omega | (simp; done) | (simp; omega)) hbn.size; have fP : wn.cell? ⟨w3.heap.size, 0, none⟩ = some (.string pk) := (hbn.cell (by first | omega | (simp; done) | (simp; omega))).trans (by simp [go_sem, *]); have hQn : w4.heap.size < wn.heap.size := Nat.lt_of_lt_of_le (by first | omega | (simp; done) | (simp; omega)) hbn.size; have fQ : wn.cell? ⟨w4.heap.size, 0, none⟩ = some (.string qk) := (hbn.cell (by first | omega | (simp; done) | (simp; omega))).trans (by simp [go_sem, *])))
              go_ret
              exact ⟨congrArg (fun b => Ending.returned (.bool b)) (show (!decide (x < y)) = true by rw [decide_eq_false HX.out]; rfl), hold.trans (hb0.mono hold.size)⟩
            · have hyz : (0 : Int) ≤ (y : Int) - (x : Int) := by omega
              have hzz : ((0 : Int) == (y : Int) - (x : Int)) = true := by rw [beq_iff_eq]; omega
              go_wp2_with (first
                | (go_at_call_of 20 (Value.int .i64 (x : Int)); refine (hAx _ (hrep.below (w := wr) (B := wr.heap.size) (by repeat (first | with_reducible exact hb0 | apply Below.drew | refine Below.alloc ?_ hb0.size _)) (Nat.le_refl _))).mono ?_; rintro e w3 ⟨rfl, hbn⟩; replace hb0 : Below wr.heap.size wr w3 := Tr.below_of hbn (by repeat (first | with_reducible exact hb0 | apply Below.drew | refine Below.alloc ?_ hb0.size _)); have kM : w3.cell? ⟨wa.heap.size, 0, none⟩ = some (.pointer u) := (hb0.cell hM).trans k0; have hMn : wa.heap.size < w3.heap.size := Nat.lt_of_lt_of_le hM hb0.size)
                | (go_at_call_of 20 (Value.int .i64 (y : Int)); refine (hAy _ (hrep.below (w := wr) (B := wr.heap.size) (by repeat (first | with_reducible exact hb0 | apply Below.drew | refine Below.alloc ?_ hb0.size _)) (Nat.le_refl _))).mono ?_; rintro e w4 ⟨rfl, hbn⟩; replace hb0 : Below wr.heap.size wr w4 := Tr.below_of hbn (by repeat (first | with_reducible exact hb0 | apply Below.drew | refine Below.alloc ?_ hb0.size _)); have kM : w4.cell? ⟨wa.heap.size, 0, none⟩ = some (.pointer u) := (hb0.cell hM).trans k0; have hMn : wa.heap.size < w4.heap.size := Nat.lt_of_lt_of_le hM hb0.size; have hPn : w3.heap.size < w4.heap.size := Nat.lt_of_lt_of_le (by first | omega | (simp; done) | (simp; omega)) hbn.size; have fP : w4.cell? ⟨w3.heap.size, 0, none⟩ = some (.string pk) := (hbn.cell (by first | omega | (simp; done) | (simp; omega))).trans (by simp [go_sem, *]))
                | (go_at_call 14; refine (hLen _ (hrep.below (w := wr) (B := wr.heap.size) (by repeat (first | with_reducible exact hb0 | apply Below.drew | refine Below.alloc ?_ hb0.size _)) (Nat.le_refl _))).mono ?_; rintro e wn ⟨rfl, hbn⟩; replace hb0 : Below wr.heap.size wr wn := Tr.below_of hbn (by repeat (first | with_reducible exact hb0 | apply Below.drew | refine Below.alloc ?_ hb0.size _)); have kM : wn.cell? ⟨wa.heap.size, 0, none⟩ = some (.pointer u) := (hb0.cell hM).trans k0; have hMn : wa.heap.size < wn.heap.size := Nat.lt_of_lt_of_le hM hb0.size; have hPn : w3.heap.size < wn.heap.size := Nat.lt_of_lt_of_le (by first | omega | (simp; done) | (simp; omega)) hbn.size; have fP : wn.cell? ⟨w3.heap.size, 0, none⟩ = some (.string pk) := (hbn.cell (by first | omega | (simp; done) | (simp; omega))).trans (by simp [go_sem, *]); have hQn : w4.heap.size < wn.heap.size := Nat.lt_of_lt_of_le (by first | omega | (simp; done) | (simp; omega)) hbn.size; have fQ : wn.cell? ⟨w4.heap.size, 0, none⟩ = some (.string qk) := (hbn.cell (by first | omega | (simp; done) | (simp; omega))).trans (by simp [go_sem, *]))
                | (go_at_call 18; refine (hBt' _ (hrep.below (w := wr) (B := wr.heap.size) (by repeat (first | with_reducible exact hb0 | apply Below.drew | refine Below.alloc ?_ hb0.size _)) (Nat.le_refl _))).mono ?_; rintro e wn ⟨A2, c2, rfl, hbn⟩; replace hb0 : Below wr.heap.size wr wn := Tr.below_of hbn (by repeat (first | with_reducible exact hb0 | apply Below.drew | refine Below.alloc ?_ hb0.size _)); have kM : wn.cell? ⟨wa.heap.size, 0, none⟩ = some (.pointer u) := (hb0.cell hM).trans k0; have hMn : wa.heap.size < wn.heap.size := Nat.lt_of_lt_of_le hM hb0.size; have hPn : w3.heap.size < wn.heap.size := Nat.lt_of_lt_of_le (by first | omega | (simp; done) | (simp; omega)) hbn.size; have fP : wn.cell? ⟨w3.heap.size, 0, none⟩ = some (.string pk) := (hbn.cell (by first | omega | (simp; done) | (simp; omega))).trans (by simp [go_sem, *]); have hQn : w4.heap.size < wn.heap.size := Nat.lt_of_lt_of_le (by first | omega | (simp; done) | (simp; omega)) hbn.size; have fQ : wn.cell? ⟨w4.heap.size, 0, none⟩ = some (.string qk) := (hbn.cell (by first | omega | (simp; done) | (simp; omega))).trans (by simp [go_sem, *]))
                | (go_at_call_of 15 (Value.string pk); refine (hRp _ (hrep.below (w := wr) (B := wr.heap.size) (by repeat (first | with_reducible exact hb0 | apply Below.drew | refine Below.alloc ?_ hb0.size _)) (Nat.le_refl _))).mono ?_; rintro e wn ⟨rfl, hbn⟩; replace hb0 : Below wr.heap.size wr wn := Tr.below_of hbn (by repeat (first | with_reducible exact hb0 | apply Below.drew | refine Below.alloc ?_ hb0.size _)); have kM : wn.cell? ⟨wa.heap.size, 0, none⟩ = some (.pointer u) := (hb0.cell hM).trans k0; have hMn : wa.heap.size < wn.heap.size := Nat.lt_of_lt_of_le hM hb0.size; have hPn : w3.heap.size < wn.heap.size := Nat.lt_of_lt_of_le (by first | omega | (simp; done) | (simp; omega)) hbn.size; have fP : wn.cell? ⟨w3.heap.size, 0, none⟩ = some (.string pk) := (hbn.cell (by first | omega | (simp; done) | (simp; omega))).trans (by simp [go_sem, *]); have hQn : w4.heap.size < wn.heap.size := Nat.lt_of_lt_of_le (by first | omega | (simp; done) | (simp; omega)) hbn.size; have fQ : wn.cell? ⟨w4.heap.size, 0, none⟩ = some (.string qk) := (hbn.cell (by first | omega | (simp; done) | (simp; omega))).trans (by simp [go_sem, *]))
                | (go_at_call_of 15 (Value.string qk); refine (hRq _ (hrep.below (w := wr) (B := wr.heap.size) (by repeat (first | with_reducible exact hb0 | apply Below.drew | refine Below.alloc ?_ hb0.size _)) (Nat.le_refl _))).mono ?_; rintro e wn ⟨rfl, hbn⟩; replace hb0 : Below wr.heap.size wr wn := Tr.below_of hbn (by repeat (first | with_reducible exact hb0 | apply Below.drew | refine Below.alloc ?_ hb0.size _)); have kM : wn.cell? ⟨wa.heap.size, 0, none⟩ = some (.pointer u) := (hb0.cell hM).trans k0; have hMn : wa.heap.size < wn.heap.size := Nat.lt_of_lt_of_le hM hb0.size; have hPn : w3.heap.size < wn.heap.size := Nat.lt_of_lt_of_le (by first | omega | (simp; done) | (simp; omega)) hbn.size; have fP : wn.cell? ⟨w3.heap.size, 0, none⟩ = some (.string pk) := (hbn.cell (by first | omega | (simp; done) | (simp; omega))).trans (by simp [go_sem, *]); have hQn : w4.heap.size < wn.heap.size := Nat.lt_of_lt_of_le (by first | omega | (simp; done) | (simp; omega)) hbn.size; have fQ : wn.cell? ⟨w4.heap.size, 0, none⟩ = some (.string qk) := (hbn.cell (by first | omega | (simp; done) | (simp; omega))).trans (by simp [go_sem, *])))
              go_ret
              exact ⟨congrArg (fun b => Ending.returned (.bool b)) (show (!decide (x < y)) = true by rw [decide_eq_false HX.out]; rfl), hold.trans (hb0.mono hold.size)⟩
        · have hyi : (t.size : Int) ≤ (y : Int) := by omega
          have hAy := fun w h => OrdS.at_map_no t u y w h (.inr hyi)
          clear hp
          obtain ⟨pk, pv⟩ := p
          go_wp2_with (first
            | (go_at_call_of 20 (Value.int .i64 (x : Int)); refine (hAx _ (hrep.below (w := wr) (B := wr.heap.size) (by repeat (first | with_reducible exact hb0 | apply Below.drew | refine Below.alloc ?_ hb0.size _)) (Nat.le_refl _))).mono ?_; rintro e w3 ⟨rfl, hbn⟩; replace hb0 : Below wr.heap.size wr w3 := Tr.below_of hbn (by repeat (first | with_reducible exact hb0 | apply Below.drew | refine Below.alloc ?_ hb0.size _)); have kM : w3.cell? ⟨wa.heap.size, 0, none⟩ = some (.pointer u) := (hb0.cell hM).trans k0; have hMn : wa.heap.size < w3.heap.size := Nat.lt_of_lt_of_le hM hb0.size)
            | (go_at_call_of 20 (Value.int .i64 (y : Int)); refine (hAy _ (hrep.below (w := wr) (B := wr.heap.size) (by repeat (first | with_reducible exact hb0 | apply Below.drew | refine Below.alloc ?_ hb0.size _)) (Nat.le_refl _))).mono ?_; rintro e w4 ⟨rfl, hbn⟩; replace hb0 : Below wr.heap.size wr w4 := Tr.below_of hbn (by repeat (first | with_reducible exact hb0 | apply Below.drew | refine Below.alloc ?_ hb0.size _)); have kM : w4.cell? ⟨wa.heap.size, 0, none⟩ = some (.pointer u) := (hb0.cell hM).trans k0; have hMn : wa.heap.size < w4.heap.size := Nat.lt_of_lt_of_le hM hb0.size)
            | (go_at_call 14; refine (hLen _ (hrep.below (w := wr) (B := wr.heap.size) (by repeat (first | with_reducible exact hb0 | apply Below.drew | refine Below.alloc ?_ hb0.size _)) (Nat.le_refl _))).mono ?_; rintro e wn ⟨rfl, hbn⟩; replace hb0 : Below wr.heap.size wr wn := Tr.below_of hbn (by repeat (first | with_reducible exact hb0 | apply Below.drew | refine Below.alloc ?_ hb0.size _)); have kM : wn.cell? ⟨wa.heap.size, 0, none⟩ = some (.pointer u) := (hb0.cell hM).trans k0; have hMn : wa.heap.size < wn.heap.size := Nat.lt_of_lt_of_le hM hb0.size))
          go_ret
          exact ⟨rfl, hold.trans (hb0.mono hold.size)⟩
      · have hxi : (t.size : Int) ≤ (x : Int) := by omega
        have hAx := fun w h => OrdS.at_map_no t u x w h (.inr hxi)
        by_cases hy : y < t.size
        · have hyi : (y : Int) < (t.size : Int) := by omega
          obtain ⟨q, hq⟩ : ∃ q, t.list[y]? = some q := ⟨_, List.getElem?_eq_getElem (by rw [Tr.length_list]; exact hy)⟩
          have hAy := fun w h => OrdS.at_map_yes t u y q w h (by omega) hq
          clear hq
          obtain ⟨qk, qv⟩ := q
          go_wp2_with (first
            | (go_at_call_of 20 (Value.int .i64 (x : Int)); refine (hAx _ (hrep.below (w := wr) (B := wr.heap.size) (by repeat (first | with_reducible exact hb0 | apply Below.drew | refine Below.alloc ?_ hb0.size _)) (Nat.le_refl _))).mono ?_; rintro e w3 ⟨rfl, hbn⟩; replace hb0 : Below wr.heap.size wr w3 := Tr.below_of hbn (by repeat (first | with_reducible exact hb0 | apply Below.drew | refine Below.alloc ?_ hb0.size _)); have kM : w3.cell? ⟨wa.heap.size, 0, none⟩ = some (.pointer u) := (hb0.cell hM).trans k0; have hMn : wa.heap.size < w3.heap.size := Nat.lt_of_lt_of_le hM hb0.size)
            | (go_at_call_of 20 (Value.int .i64 (y : Int)); refine (hAy _ (hrep.below (w := wr) (B := wr.heap.size) (by repeat (first | with_reducible exact hb0 | apply Below.drew | refine Below.alloc ?_ hb0.size _)) (Nat.le_refl _))).mono ?_; rintro e w4 ⟨rfl, hbn⟩; replace hb0 : Below wr.heap.size wr w4 := Tr.below_of hbn (by repeat (first | with_reducible exact hb0 | apply Below.drew | refine Below.alloc ?_ hb0.size _)); have kM : w4.cell? ⟨wa.heap.size, 0, none⟩ = some (.pointer u) := (hb0.cell hM).trans k0; have hMn : wa.heap.size < w4.heap.size := Nat.lt_of_lt_of_le hM hb0.size)
            | (go_at_call 14; refine (hLen _ (hrep.below (w := wr) (B := wr.heap.size) (by repeat (first | with_reducible exact hb0 | apply Below.drew | refine Below.alloc ?_ hb0.size _)) (Nat.le_refl _))).mono ?_; rintro e wn ⟨rfl, hbn⟩; replace hb0 : Below wr.heap.size wr wn := Tr.below_of hbn (by repeat (first | with_reducible exact hb0 | apply Below.drew | refine Below.alloc ?_ hb0.size _)); have kM : wn.cell? ⟨wa.heap.size, 0, none⟩ = some (.pointer u) := (hb0.cell hM).trans k0; have hMn : wa.heap.size < wn.heap.size := Nat.lt_of_lt_of_le hM hb0.size))
          go_ret
          exact ⟨rfl, hold.trans (hb0.mono hold.size)⟩
        · have hyi : (t.size : Int) ≤ (y : Int) := by omega
          have hAy := fun w h => OrdS.at_map_no t u y w h (.inr hyi)
          go_wp2_with (first
            | (go_at_call_of 20 (Value.int .i64 (x : Int)); refine (hAx _ (hrep.below (w := wr) (B := wr.heap.size) (by repeat (first | with_reducible exact hb0 | apply Below.drew | refine Below.alloc ?_ hb0.size _)) (Nat.le_refl _))).mono ?_; rintro e w3 ⟨rfl, hbn⟩; replace hb0 : Below wr.heap.size wr w3 := Tr.below_of hbn (by repeat (first | with_reducible exact hb0 | apply Below.drew | refine Below.alloc ?_ hb0.size _)); have kM : w3.cell? ⟨wa.heap.size, 0, none⟩ = some (.pointer u) := (hb0.cell hM).trans k0; have hMn : wa.heap.size < w3.heap.size := Nat.lt_of_lt_of_le hM hb0.size)
            | (go_at_call_of 20 (Value.int .i64 (y : Int)); refine (hAy _ (hrep.below (w := wr) (B := wr.heap.size) (by repeat (first | with_reducible exact hb0 | apply Below.drew | refine Below.alloc ?_ hb0.size _)) (Nat.le_refl _))).mono ?_; rintro e w4 ⟨rfl, hbn⟩; replace hb0 : Below wr.heap.size wr w4 := Tr.below_of hbn (by repeat (first | with_reducible exact hb0 | apply Below.drew | refine Below.alloc ?_ hb0.size _)); have kM : w4.cell? ⟨wa.heap.size, 0, none⟩ = some (.pointer u) := (hb0.cell hM).trans k0; have hMn : wa.heap.size < w4.heap.size := Nat.lt_of_lt_of_le hM hb0.size)
            | (go_at_call 14; refine (hLen _ (hrep.below (w := wr) (B := wr.heap.size) (by repeat (first | with_reducible exact hb0 | apply Below.drew | refine Below.alloc ?_ hb0.size _)) (Nat.le_refl _))).mono ?_; rintro e wn ⟨rfl, hbn⟩; replace hb0 : Below wr.heap.size wr wn := Tr.below_of hbn (by repeat (first | with_reducible exact hb0 | apply Below.drew | refine Below.alloc ?_ hb0.size _)); have kM : wn.cell? ⟨wa.heap.size, 0, none⟩ = some (.pointer u) := (hb0.cell hM).trans k0; have hMn : wa.heap.size < wn.heap.size := Nat.lt_of_lt_of_le hM hb0.size))
          go_ret
          exact ⟨rfl, hold.trans (hb0.mono hold.size)⟩

theorem walk_long (A : Option Addr) (len cap : Nat) (a1 : Int) (a2 : Int) (w : World) (hs : 200 < len) :
    Calls Try.prog 6 #[.slice A len cap, .int .u8 a1, .int .u8 a2] w fun e w' => e = .returned (.bool true) ∧ Below w.heap.size w w' := by
  have hs' : (200 : Int) < (len : Int) := by omega
  go_enter Try.func6, Try.ntmps6
  go_wp2_with fail
  refine (OrdS.awake_any _).mono ?_
  rintro e wa ⟨rfl, hba⟩
  go_wp2_with fail
  refine (OrdS.awake_any _).mono ?_
  rintro e wb ⟨rfl, hbb⟩
  go_wp2
  go_ret
  exact ⟨rfl, hba.trans (hbb.mono hba.size)⟩

theorem own : ownKnob Try.prog.godebug = none := by kernel_rfl

set_option maxRecDepth 100000 in
theorem lifted (os : Os) (started : os.Started) (H : Type) (enc : TypeId × Value → H) :
    ReturnsInHanded {} Try.checked os 6 .any (Rows.orderRanksSpec.pre6 enc Try.prog Try.f6 Rows.orderRanksRow.domain false) (Rows.orderRanksSpec.post enc Try.prog Try.f6 false true false false) := by
  refine returnsInHanded_of_change (C := Try.checked) own started (by kernel_rfl) Try.func6
    (ChangeSpec.witness6 (enc := enc) (C := Try.checked) false ⟨#[], #[.slice none 0 0, .int .u8 0, .int .u8 0], []⟩ 8 (by kernel_rfl) (by kernel_rfl) (by kernel_rfl) (by kernel_rfl)) ?_
  intro W base args ds gs before hval0 hW hcnd _
  have hval : ∀ (j : Nat) t v, Try.f6.params[j]? = some t → args[j]? = some v → Value.okWide Try.prog W .any base t v := hval0
  have hW' := hW
  obtain ⟨p, q, hA0, hV, rfl, hfz, hnd⟩ := hW
  have hA : DataW.TrodAll enc Try.prog W 0 (fun _ => true) true Try.f6.params.toList args.toList ds p := hA0
  rw [Try.params6] at hA hval
  obtain ⟨v0, vs0, d0, ds0, p0, q0, hargs, rfl, rfl, h0, r0⟩ := trodAll_cons hA
  obtain ⟨v1, vs1, d1, ds1, p1, q1, rfl, rfl, rfl, h1, r1⟩ := trodAll_cons r0
  obtain ⟨v2, vs2, d2, ds2, p2, q2, rfl, rfl, rfl, h2, r2⟩ := trodAll_cons r1
  obtain ⟨rfl, rfl, rfl⟩ := trodAll_nil r2
  obtain rfl : args = #[v0, v1, v2] := by cases args; simp_all
  obtain ⟨rfl, rfl⟩ := trodVars_none hV
  obtain ⟨A, len, cap, S, rfl, hlc, hm, hrow, _⟩ := arg_strings Try.underlying52 Try.underlying9 (by kernel_rfl) (hval 0 52 v0 rfl rfl) h0 (fun x hx => hW'.lt x (by simp [hx]))
  obtain ⟨a1, rfl, rfl, rfl, w1⟩ := open_int Try.underlying5 (hval 1 5 v1 rfl rfl) h1
  obtain ⟨a2, rfl, rfl, rfl, w2⟩ := open_int Try.underlying5 (hval 2 5 v2 rfl rfl) h2
  have fin : ∀ W', Below W.heap.size W W' → Rows.orderRanksSpec.post enc Try.prog Try.f6 false true false false W #[.slice A len cap, .int .u8 a1, .int .u8 a2] (.bool true) W' :=
    fun W' hb => law_end (by kernel_rfl) (by decide +kernel) rfl rfl Try.underlying4 hW' rfl rfl rfl hb
  rcases Nat.lt_or_ge 200 len with hs | hs
  · exact (walk_long A len cap a1 a2 W hs).mono fun e W' ⟨he, hb⟩ => ⟨_, he, fin W' hb⟩
  · exact (walk A len cap S a1 a2 w1 w2 W hlc hm hrow hs).mono fun e W' ⟨he, hb⟩ => ⟨_, he, fin W' hb⟩

theorem over : Rows.orderRanksRow.holds Try.pinned (OpenSpec.ofChange Rows.orderRanksSpec) :=
  OpenClaim.holds_of_wide 6 Try.f6 rfl rfl rfl rfl rfl rfl rfl ⟨rfl, rfl, rfl, rfl, rfl⟩ rfl rfl rfl rfl rfl (by kernel_rfl) Try.func6 (by kernel_rfl)
    (of_decide_eq_true (by kernel_rfl)) (by unfold Func.isWrapper; first | (rw [if_pos (by decide +kernel)]; kernel_rfl) | (rw [if_neg (by decide +kernel)]; exact ⟨rfl, rfl⟩))
    (fun os started H enc _ => lifted os started H enc)

theorem proved : Rows.OrderRanksSaid := over
end Go.Proofs.Ytjccjbnbjcbagaa.orderRanks
