/- OrderPlays: a map has the keys that were put and did not go, in order, each with the value that it was given last. For every input. -/
import Derived.Test.YtjccjbnbjcbagaaOrdSt
import Derived.Test.YtjccjbnbjcbagaaOrdAwake
import Derived.Test.YtjccjbnbjcbagaaOrdMath5
import Derived.Deep.DeepCutAuto
import Derived.ChangeMaps5
namespace Go.Proofs.Ytjccjbnbjcbagaa.orderPlays
open Go.ChangeShapes Go.WideShapes Go.ChangeAt Go.RowKit Go.Proofs.Ytjccjbnbjcbagaa Go.Proofs.Ytjccjbnbjcbagaa.OrdRef
set_option linter.unusedVariables false

theorem below_drewN {B : Nat} {a w : World} (h : Below B a w) (n : Nat) : Below B a (w.drewN n) := ⟨h.os, h.tape, h.output, h.size, h.block⟩

set_option maxRecDepth 100000 in
set_option maxHeartbeats 12800000 in
theorem walk (A : Option Addr) (len cap : Nat) (G : Nat → Bool) (K : Nat → ByteArray) (V : Nat → Int) (from_ to_ : ByteArray) (ix : Int) (wix : (Lit.int .i64 ix).wf = true) (w : World)
    (h1 : Acts w A len G K V) (hlc : len ≤ cap) (hm : cap ≤ maxLen) (hk : ∀ j, j < len → (K j).size ≤ maxLen) :
    Calls Try.prog 3 #[.slice A len cap, .string from_, .string to_, .int .i64 ix] w fun e w' => e = .returned (.bool true) ∧ Below w.heap.size w w' := by
  have acts_below : ∀ {A : Option Addr} {len : Nat} {G : Nat → Bool} {K : Nat → ByteArray} {V : Nat → Int} {w' : World}, Acts w A len G K V → Below w.heap.size w w' → Acts w' A len G K V := fun {A len G K V w'} h hb hpos => by
    obtain ⟨b, off, hA, hlt, hc⟩ := h hpos
    exact ⟨b, off, hA, Nat.lt_of_lt_of_le hlt hb.size, fun j hj => ⟨(hb.cell hlt).trans (hc j hj).1, (hb.cell (p := ⟨b, off + j * 3 + 1, none⟩) hlt).trans (hc j hj).2.1, (hb.cell (p := ⟨b, off + j * 3 + 2, none⟩) hlt).trans (hc j hj).2.2⟩⟩
  have F1 := fun w' (hb : Below w.heap.size w w') => few_any A len cap G K V w' (acts_below h1 hb) hlc hm hk
  clear hm hk acts_below
  go_enter Try.func3, Try.ntmps3
  go_wp2_with fail
  refine (OrdS.awake_any _).mono ?_
  rintro e wa ⟨rfl, hba⟩
  go_wp2_with fail
  refine (F1 _ hba).mono ?_
  rintro e wf ⟨r1, rfl, hr1, rfl⟩
  cases r1 with
  | false =>
    clear F1
    go_wp2_with fail
    refine (OrdS.awake_any _).mono ?_
    rintro e wb ⟨rfl, hbb⟩
    go_wp2
    go_ret
    exact ⟨rfl, hba.trans (hbb.mono hba.size)⟩
  | true =>
    have hl1 : len ≤ 300 := by simpa using hr1
    have hl1' : (len : Int) ≤ 300 := by omega
    clear F1 hr1
    go_wp2
    go_loopg [10, 28] len (fun g s x wr => ∃ j u t C c, s = .slice C t.list.length c ∧ x = .int .i64 ((j : Nat) : Int) ∧ j + g = len ∧ St w wa.heap.size j u t C c wr)
    case atStart => exact ⟨0, none, .nil, none, 0, rfl, rfl, by omega, St.start hba _⟩
    case round =>
      obtain ⟨j, u, t, C, c, rfl, rfl, hj, hS⟩ := hrel
      have k0 := hS.var.1
      by_cases hlt : j < len
      · have hlt' : (j : Int) < (len : Int) := by omega
        have jb : (j : Int) ≤ 300 := by omega
        obtain ⟨b, off, rfl, hb, hc⟩ := h1 (by omega)
        obtain ⟨c0, c1, c2⟩ := hc j hlt
        have d0 : wr.cell? ⟨b, off + j * 3, none⟩ = some (.bool (G j)) := (hS.old.cell hb).trans c0
        have d1 : wr.cell? ⟨b, off + j * 3 + 1, none⟩ = some (.string (K j)) := (hS.old.cell (p := ⟨b, off + j * 3 + 1, none⟩) hb).trans c1
        have d2 : wr.cell? ⟨b, off + j * 3 + 2, none⟩ = some (.int .i64 (V j)) := (hS.old.cell (p := ⟨b, off + j * 3 + 2, none⟩) hb).trans c2
        have hAct := fun w' h => act_any t u C c j (G j) (K j) (V j) w' h (by omega)
        clear h1 hc c0 c1 c2
        go_upto_region 8 with fail
        go_cut [10] (fun s wx => ∃ u2 t2 C2 c2, s = .slice C2 t2.list.length c2 ∧ St w wa.heap.size (j + 1) u2 t2 C2 c2 wx)
        case first =>
          go_region_with (go_at_call 11; refine (hAct _ (by first | exact hS.both | exact hS.drew.both)).mono ?_; rintro e w2 ⟨u2, t2, C2, c2, rfl, hB2, hb2⟩; have k2 := (hS.drew.var.below hb2).1; have k3 := (hS.drew.var.below hb2).2.2.1)
          all_goals
            go_wp2_with fail
            go_meet
            exact ⟨u2, t2, C2, c2, rfl, hS.drew.act hB2 hb2⟩
        case rest =>
          clear hS k0 hAct d0 d1 d2
          clear t u C c
          obtain ⟨u2, t, C2, c2, rfl, hS2⟩ := hcut
          have k0 := hS2.var.1
          have hM := hS2.var.2.2.2
          have hsz : t.size ≤ 1000000 := by have := hS2.both.size; omega
          have hln : t.list.length ≤ 1000 := by rw [Tr.length_list]; have := hS2.both.size; omega
          have hbst := hS2.both.bst
          have hsort : t.list.Pairwise (fun a b => ltS a.1 b.1 = true) := hbst
          have hGG : ∃ z o, (∀ w, OrdS.Rp w u2 t → Calls Try.prog 12 #[.agg #[.pointer u2], .string from_] w fun e w' => e = .returned (.tuple #[.int .i64 z, .bool o]) ∧ Below w.heap.size w w') ∧
              (∀ w, Own w C2 c2 t.list → Calls Try.prog 13 #[.slice C2 t.list.length c2, .string from_] w fun e w' => e = .returned (.tuple #[.int .i64 z, .bool o]) ∧ w = w') := by
            cases hf : Tr.find ltS from_ t with
            | nil =>
              refine ⟨0, false, fun w h => OrdS.get_no t u2 from_ w h hf, fun w h => get_no t.list C2 c2 from_ w h hln (fun q p hp => ?_)⟩
              exact Tr.find_mem linS from_ t hbst hf p (List.mem_of_getElem? hp)
            | node k' v' a b =>
              obtain ⟨_, hmem⟩ := Tr.find_node linS from_ t hf
              obtain ⟨i0, hi0, hlo⟩ := Tr.index_of linS hbst hmem
              exact ⟨v', true, fun w h => OrdS.get_yes t u2 from_ k' v' a b w h hf, fun w h => get_yes t.list C2 c2 from_ v' i0 w h hln hi0 hlo⟩
          obtain ⟨z, o, hGet, hGetR⟩ := hGG
          have hLen : ∀ w, OrdS.Rp w u2 t → Calls Try.prog 14 #[.agg #[.pointer u2]] w fun e w' => e = .returned (.int .i64 (t.list.length : Int)) ∧ Below w.heap.size w w' := fun w h => by rw [Tr.length_list]; exact OrdS.len_map t u2 w h
          have hRB : ∃ m : Nat, (∀ w, OrdS.Rp w u2 t → Calls Try.prog 15 #[.agg #[.pointer u2], .string from_] w fun e w' => e = .returned (.int .i64 (m : Int)) ∧ Below w.heap.size w w') ∧
              (∀ w, Own w C2 c2 t.list → Calls Try.prog 16 #[.slice C2 t.list.length c2, .string from_] w fun e w' => ∃ A c, e = .returned (.slice A m c) ∧ w'.ownsRow w.heap.size 48 2 (.slice A m c) m (OrdS.cellsL (t.list.filter fun p : ByteArray × Int => ltS p.1 from_)) ∧ Below w.heap.size w w') := by
            refine ⟨(t.list.filter fun p : ByteArray × Int => ltS p.1 from_).length, fun w h => ?_, fun w h => ref_below t.list C2 c2 from_ w h hln⟩
            rw [← Tr.rank_eq linS from_ t hbst]
            exact OrdS.rank_map from_ t u2 w h hsz
          obtain ⟨m, hRank, hBel⟩ := hRB
          have hBB : ∃ L : List (ByteArray × Int), L.length ≤ 1000 ∧ (∀ w, OrdS.Rp w u2 t → Calls Try.prog 18 #[.agg #[.pointer u2], .string from_, .string to_] w (OrdS.Lst w L)) ∧
              (∀ w, Own w C2 c2 t.list → Calls Try.prog 19 #[.slice C2 t.list.length c2, .string from_, .string to_] w (LstP w L)) := by
            refine ⟨t.list.filter (fun p => !ltS p.1 from_ && ltS p.1 to_), Nat.le_trans (List.length_filter_le _ _) hln, fun w h => ?_, fun w h => ref_between t.list C2 c2 from_ to_ w h hln⟩
            rw [← Tr.between_eq linS from_ to_ hsort, ← Tr.rank_eq linS from_ t hbst, ← Tr.rank_eq linS to_ t hbst]
            exact OrdS.between_map t u2 from_ to_ w h hbst hsz
          obtain ⟨L, hLn, hBt, hBtR⟩ := hBB
          unfold OrdS.Lst at hBt
          unfold LstP at hBtR
          have hSame := fun A6 A7 c6 c7 w' ho hw => same_eq L A6 A7 c6 c7 w' ho hw hLn
          have hb0 := Below.refl wc.heap.size wc
          have hwf : -9223372036854775808 ≤ ix ∧ ix ≤ 9223372036854775807 := by simpa [Lit.wf, IntKind.min, IntKind.max, IntKind.signed, IntKind.bits] using wix
          obtain ⟨n, hn⟩ : ∃ n, t.list.length = n := ⟨_, rfl⟩
          have hts : t.size = n := by rw [← hn, Tr.length_list]
          rw [hn] at hGetR hLen hBel hBtR
          have HN := Lib.hid hn
          have hnb : (n : Int) ≤ 1000 := by omega
          have hcase : (ix < 0) ∨ (0 ≤ ix ∧ (n : Int) ≤ ix) ∨ (0 ≤ ix ∧ ix < (n : Int)) := by omega
          clear hwf wix
          rcases hcase with hi | ⟨hi, hi2⟩ | ⟨hi, hi2⟩
          · have hAt := fun w h => OrdS.at_map_no t u2 ix w h (.inl hi)
            have hd1 : decide (0 ≤ ix) = false := decide_eq_false (by omega)
            rw [hn]
            clear hsort hbst hln hsz hts hn
            go_wp2_with (first
              | (go_at_call 12; refine (hGet _ (hS2.both.rep.below (w := wc) (B := wc.heap.size) (by repeat (first | with_reducible exact hb0 | apply Below.drew | refine Below.alloc ?_ hb0.size _)) (Nat.le_refl _))).mono ?_; rintro e wn ⟨rfl, hbn⟩; replace hb0 : Below wc.heap.size wc wn := Tr.below_of hbn (by repeat (first | with_reducible exact hb0 | apply Below.drew | refine Below.alloc ?_ hb0.size _)); have kM : wn.cell? ⟨wa.heap.size, 0, none⟩ = some (.pointer u2) := (hb0.cell hM).trans k0)
              | (go_at_call 13; refine (hGetR _ (hS2.both.own.below (w := wc) (by repeat (first | with_reducible exact hb0 | apply Below.drew | refine Below.alloc ?_ hb0.size _)))).mono ?_; rintro e wn ⟨rfl, rfl⟩)
              | (go_at_call 14; refine (hLen _ (hS2.both.rep.below (w := wc) (B := wc.heap.size) (by repeat (first | with_reducible exact hb0 | apply Below.drew | refine Below.alloc ?_ hb0.size _)) (Nat.le_refl _))).mono ?_; rintro e wn ⟨rfl, hbn⟩; replace hb0 : Below wc.heap.size wc wn := Tr.below_of hbn (by repeat (first | with_reducible exact hb0 | apply Below.drew | refine Below.alloc ?_ hb0.size _)); have kM : wn.cell? ⟨wa.heap.size, 0, none⟩ = some (.pointer u2) := (hb0.cell hM).trans k0)
              | (go_at_call 15; refine (hRank _ (hS2.both.rep.below (w := wc) (B := wc.heap.size) (by repeat (first | with_reducible exact hb0 | apply Below.drew | refine Below.alloc ?_ hb0.size _)) (Nat.le_refl _))).mono ?_; rintro e wn ⟨rfl, hbn⟩; replace hb0 : Below wc.heap.size wc wn := Tr.below_of hbn (by repeat (first | with_reducible exact hb0 | apply Below.drew | refine Below.alloc ?_ hb0.size _)); have kM : wn.cell? ⟨wa.heap.size, 0, none⟩ = some (.pointer u2) := (hb0.cell hM).trans k0)
              | (go_at_call 16; refine (hBel _ (hS2.both.own.below (w := wc) (by repeat (first | with_reducible exact hb0 | apply Below.drew | refine Below.alloc ?_ hb0.size _)))).mono ?_; rintro e wn ⟨A5, c5, rfl, ho5, hbn⟩; replace hb0 : Below wc.heap.size wc wn := Tr.below_of hbn (by repeat (first | with_reducible exact hb0 | apply Below.drew | refine Below.alloc ?_ hb0.size _)); have kM : wn.cell? ⟨wa.heap.size, 0, none⟩ = some (.pointer u2) := (hb0.cell hM).trans k0)
              | (go_at_call 18; refine (hBt _ (hS2.both.rep.below (w := wc) (B := wc.heap.size) (by repeat (first | with_reducible exact hb0 | apply Below.drew | refine Below.alloc ?_ hb0.size _)) (Nat.le_refl _))).mono ?_; rintro e w6 ⟨A6, c6, rfl, ho6, hbn⟩; replace hb0 : Below wc.heap.size wc w6 := Tr.below_of hbn (by repeat (first | with_reducible exact hb0 | apply Below.drew | refine Below.alloc ?_ hb0.size _)); have kM : w6.cell? ⟨wa.heap.size, 0, none⟩ = some (.pointer u2) := (hb0.cell hM).trans k0)
              | (go_at_call 19; refine (hBtR _ (hS2.both.own.below (w := wc) (by repeat (first | with_reducible exact hb0 | apply Below.drew | refine Below.alloc ?_ hb0.size _)))).mono ?_; rintro e w7 ⟨A7, c7, rfl, ho7, hbn⟩; replace hb0 : Below wc.heap.size wc w7 := Tr.below_of hbn (by repeat (first | with_reducible exact hb0 | apply Below.drew | refine Below.alloc ?_ hb0.size _)); have kM : w7.cell? ⟨wa.heap.size, 0, none⟩ = some (.pointer u2) := (hb0.cell hM).trans k0 ; have ho6' := own_below ho6 hbn)
              | (go_at_call 17; refine (hSame A6 A7 c6 c7 _ ⟨_, ho6'⟩ ⟨_, ho7⟩).mono ?_; rintro e w8 ⟨rfl, hbn⟩; replace hb0 : Below wc.heap.size wc w8 := Tr.below_of hbn (by repeat (first | with_reducible exact hb0 | apply Below.drew | refine Below.alloc ?_ hb0.size _)); have kM : w8.cell? ⟨wa.heap.size, 0, none⟩ = some (.pointer u2) := (hb0.cell hM).trans k0)
              | (go_at_call 20; refine (hAt _ (hS2.both.rep.below (w := wc) (B := wc.heap.size) (by repeat (first | with_reducible exact hb0 | apply Below.drew | refine Below.alloc ?_ hb0.size _)) (Nat.le_refl _))).mono ?_; rintro e w9 ⟨rfl, hbn⟩; replace hb0 : Below wc.heap.size wc w9 := Tr.below_of hbn (by repeat (first | with_reducible exact hb0 | apply Below.drew | refine Below.alloc ?_ hb0.size _)); have kM : w9.cell? ⟨wa.heap.size, 0, none⟩ = some (.pointer u2) := (hb0.cell hM).trans k0)
              )
            clear hGet hGetR hLen hRank hBel hBt hBtR hSame hAt
            go_quiet (fail)

            go_wp2
            go_roundg (gk - 1)
            case measure => omega
            case rel => exact ⟨j + 1, u2, t, _, _, by rw [HN.out], by go_num, by omega, hS2.below (below_drewN (hb0.alloc hb0.size _) _)⟩
          · have hAt := fun w h => OrdS.at_map_no t u2 ix w h (.inr (by rw [hts]; exact hi2))
            have hd1 : decide (0 ≤ ix) = true := decide_eq_true hi
            have hd2 : decide (ix < (n : Int)) = false := decide_eq_false (by omega)
            rw [hn]
            clear hsort hbst hln hsz hts hn
            go_wp2_with (first
              | (go_at_call 12; refine (hGet _ (hS2.both.rep.below (w := wc) (B := wc.heap.size) (by repeat (first | with_reducible exact hb0 | apply Below.drew | refine Below.alloc ?_ hb0.size _)) (Nat.le_refl _))).mono ?_; rintro e wn ⟨rfl, hbn⟩; replace hb0 : Below wc.heap.size wc wn := Tr.below_of hbn (by repeat (first | with_reducible exact hb0 | apply Below.drew | refine Below.alloc ?_ hb0.size _)); have kM : wn.cell? ⟨wa.heap.size, 0, none⟩ = some (.pointer u2) := (hb0.cell hM).trans k0)
              | (go_at_call 13; refine (hGetR _ (hS2.both.own.below (w := wc) (by repeat (first | with_reducible exact hb0 | apply Below.drew | refine Below.alloc ?_ hb0.size _)))).mono ?_; rintro e wn ⟨rfl, rfl⟩)
              | (go_at_call 14; refine (hLen _ (hS2.both.rep.below (w := wc) (B := wc.heap.size) (by repeat (first | with_reducible exact hb0 | apply Below.drew | refine Below.alloc ?_ hb0.size _)) (Nat.le_refl _))).mono ?_; rintro e wn ⟨rfl, hbn⟩; replace hb0 : Below wc.heap.size wc wn := Tr.below_of hbn (by repeat (first | with_reducible exact hb0 | apply Below.drew | refine Below.alloc ?_ hb0.size _)); have kM : wn.cell? ⟨wa.heap.size, 0, none⟩ = some (.pointer u2) := (hb0.cell hM).trans k0)
              | (go_at_call 15; refine (hRank _ (hS2.both.rep.below (w := wc) (B := wc.heap.size) (by repeat (first | with_reducible exact hb0 | apply Below.drew | refine Below.alloc ?_ hb0.size _)) (Nat.le_refl _))).mono ?_; rintro e wn ⟨rfl, hbn⟩; replace hb0 : Below wc.heap.size wc wn := Tr.below_of hbn (by repeat (first | with_reducible exact hb0 | apply Below.drew | refine Below.alloc ?_ hb0.size _)); have kM : wn.cell? ⟨wa.heap.size, 0, none⟩ = some (.pointer u2) := (hb0.cell hM).trans k0)
              | (go_at_call 16; refine (hBel _ (hS2.both.own.below (w := wc) (by repeat (first | with_reducible exact hb0 | apply Below.drew | refine Below.alloc ?_ hb0.size _)))).mono ?_; rintro e wn ⟨A5, c5, rfl, ho5, hbn⟩; replace hb0 : Below wc.heap.size wc wn := Tr.below_of hbn (by repeat (first | with_reducible exact hb0 | apply Below.drew | refine Below.alloc ?_ hb0.size _)); have kM : wn.cell? ⟨wa.heap.size, 0, none⟩ = some (.pointer u2) := (hb0.cell hM).trans k0)
              | (go_at_call 18; refine (hBt _ (hS2.both.rep.below (w := wc) (B := wc.heap.size) (by repeat (first | with_reducible exact hb0 | apply Below.drew | refine Below.alloc ?_ hb0.size _)) (Nat.le_refl _))).mono ?_; rintro e w6 ⟨A6, c6, rfl, ho6, hbn⟩; replace hb0 : Below wc.heap.size wc w6 := Tr.below_of hbn (by repeat (first | with_reducible exact hb0 | apply Below.drew | refine Below.alloc ?_ hb0.size _)); have kM : w6.cell? ⟨wa.heap.size, 0, none⟩ = some (.pointer u2) := (hb0.cell hM).trans k0)
              | (go_at_call 19; refine (hBtR _ (hS2.both.own.below (w := wc) (by repeat (first | with_reducible exact hb0 | apply Below.drew | refine Below.alloc ?_ hb0.size _)))).mono ?_; rintro e w7 ⟨A7, c7, rfl, ho7, hbn⟩; replace hb0 : Below wc.heap.size wc w7 := Tr.below_of hbn (by repeat (first | with_reducible exact hb0 | apply Below.drew | refine Below.alloc ?_ hb0.size _)); have kM : w7.cell? ⟨wa.heap.size, 0, none⟩ = some (.pointer u2) := (hb0.cell hM).trans k0 ; have ho6' := own_below ho6 hbn)
              | (go_at_call 17; refine (hSame A6 A7 c6 c7 _ ⟨_, ho6'⟩ ⟨_, ho7⟩).mono ?_; rintro e w8 ⟨rfl, hbn⟩; replace hb0 : Below wc.heap.size wc w8 := Tr.below_of hbn (by repeat (first | with_reducible exact hb0 | apply Below.drew | refine Below.alloc ?_ hb0.size _)); have kM : w8.cell? ⟨wa.heap.size, 0, none⟩ = some (.pointer u2) := (hb0.cell hM).trans k0)
              | (go_at_call 20; refine (hAt _ (hS2.both.rep.below (w := wc) (B := wc.heap.size) (by repeat (first | with_reducible exact hb0 | apply Below.drew | refine Below.alloc ?_ hb0.size _)) (Nat.le_refl _))).mono ?_; rintro e w9 ⟨rfl, hbn⟩; replace hb0 : Below wc.heap.size wc w9 := Tr.below_of hbn (by repeat (first | with_reducible exact hb0 | apply Below.drew | refine Below.alloc ?_ hb0.size _)); have kM : w9.cell? ⟨wa.heap.size, 0, none⟩ = some (.pointer u2) := (hb0.cell hM).trans k0)
              )
            clear hGet hGetR hLen hRank hBel hBt hBtR hSame hAt
            go_quiet (fail)

            go_wp2
            go_roundg (gk - 1)
            case measure => omega
            case rel => exact ⟨j + 1, u2, t, _, _, by rw [HN.out], by go_num, by omega, hS2.below (below_drewN (hb0.alloc hb0.size _) _)⟩
          · obtain ⟨x, rfl⟩ := Int.eq_ofNat_of_zero_le hi
            have hx : x < n := by omega
            have hx0 : (0 : Int) ≤ (x : Int) := by omega
            have hd1 : decide ((0 : Int) ≤ (x : Int)) = true := decide_eq_true hx0
            have hd2 : decide ((x : Int) < (n : Int)) = true := decide_eq_true hi2
            have hd3 : decide (x < n) = true := decide_eq_true hx
            obtain ⟨p, hp⟩ : ∃ p, t.list[x]? = some p := ⟨_, List.getElem?_eq_getElem (by omega)⟩
            have hAt := fun w h => OrdS.at_map_yes t u2 x p w h hsz hp
            obtain ⟨B9, ho9⟩ := hS2.both.own
            rw [hn] at ho9
            obtain ⟨g, cg, hC, _, hgl⟩ := ho9.form (by omega)
            obtain ⟨rfl, rfl⟩ : C2 = some ⟨g, 0, none⟩ ∧ cg = c2 := by injection hC with e1 e2 e3; exact ⟨e1, e3.symm⟩
            have f0 := cell_key ho9 (Below.refl _ _) hgl hp hn hx
            have f1 := cell_val ho9 (Below.refl _ _) hgl hp hn hx
            rw [hn]
            clear hsort hbst hln hsz hts hn hp ho9 hC
            obtain ⟨pk, pv⟩ := p
            go_wp2_with (first
              | (go_at_call 12; refine (hGet _ (hS2.both.rep.below (w := wc) (B := wc.heap.size) (by repeat (first | with_reducible exact hb0 | apply Below.drew | refine Below.alloc ?_ hb0.size _)) (Nat.le_refl _))).mono ?_; rintro e wn ⟨rfl, hbn⟩; replace hb0 : Below wc.heap.size wc wn := Tr.below_of hbn (by repeat (first | with_reducible exact hb0 | apply Below.drew | refine Below.alloc ?_ hb0.size _)); have kM : wn.cell? ⟨wa.heap.size, 0, none⟩ = some (.pointer u2) := (hb0.cell hM).trans k0)
              | (go_at_call 13; refine (hGetR _ (hS2.both.own.below (w := wc) (by repeat (first | with_reducible exact hb0 | apply Below.drew | refine Below.alloc ?_ hb0.size _)))).mono ?_; rintro e wn ⟨rfl, rfl⟩)
              | (go_at_call 14; refine (hLen _ (hS2.both.rep.below (w := wc) (B := wc.heap.size) (by repeat (first | with_reducible exact hb0 | apply Below.drew | refine Below.alloc ?_ hb0.size _)) (Nat.le_refl _))).mono ?_; rintro e wn ⟨rfl, hbn⟩; replace hb0 : Below wc.heap.size wc wn := Tr.below_of hbn (by repeat (first | with_reducible exact hb0 | apply Below.drew | refine Below.alloc ?_ hb0.size _)); have kM : wn.cell? ⟨wa.heap.size, 0, none⟩ = some (.pointer u2) := (hb0.cell hM).trans k0)
              | (go_at_call 15; refine (hRank _ (hS2.both.rep.below (w := wc) (B := wc.heap.size) (by repeat (first | with_reducible exact hb0 | apply Below.drew | refine Below.alloc ?_ hb0.size _)) (Nat.le_refl _))).mono ?_; rintro e wn ⟨rfl, hbn⟩; replace hb0 : Below wc.heap.size wc wn := Tr.below_of hbn (by repeat (first | with_reducible exact hb0 | apply Below.drew | refine Below.alloc ?_ hb0.size _)); have kM : wn.cell? ⟨wa.heap.size, 0, none⟩ = some (.pointer u2) := (hb0.cell hM).trans k0)
              | (go_at_call 16; refine (hBel _ (hS2.both.own.below (w := wc) (by repeat (first | with_reducible exact hb0 | apply Below.drew | refine Below.alloc ?_ hb0.size _)))).mono ?_; rintro e wn ⟨A5, c5, rfl, ho5, hbn⟩; replace hb0 : Below wc.heap.size wc wn := Tr.below_of hbn (by repeat (first | with_reducible exact hb0 | apply Below.drew | refine Below.alloc ?_ hb0.size _)); have kM : wn.cell? ⟨wa.heap.size, 0, none⟩ = some (.pointer u2) := (hb0.cell hM).trans k0)
              | (go_at_call 18; refine (hBt _ (hS2.both.rep.below (w := wc) (B := wc.heap.size) (by repeat (first | with_reducible exact hb0 | apply Below.drew | refine Below.alloc ?_ hb0.size _)) (Nat.le_refl _))).mono ?_; rintro e w6 ⟨A6, c6, rfl, ho6, hbn⟩; replace hb0 : Below wc.heap.size wc w6 := Tr.below_of hbn (by repeat (first | with_reducible exact hb0 | apply Below.drew | refine Below.alloc ?_ hb0.size _)); have kM : w6.cell? ⟨wa.heap.size, 0, none⟩ = some (.pointer u2) := (hb0.cell hM).trans k0)
              | (go_at_call 19; refine (hBtR _ (hS2.both.own.below (w := wc) (by repeat (first | with_reducible exact hb0 | apply Below.drew | refine Below.alloc ?_ hb0.size _)))).mono ?_; rintro e w7 ⟨A7, c7, rfl, ho7, hbn⟩; replace hb0 : Below wc.heap.size wc w7 := Tr.below_of hbn (by repeat (first | with_reducible exact hb0 | apply Below.drew | refine Below.alloc ?_ hb0.size _)); have kM : w7.cell? ⟨wa.heap.size, 0, none⟩ = some (.pointer u2) := (hb0.cell hM).trans k0 ; have ho6' := own_below ho6 hbn)
              | (go_at_call 17; refine (hSame A6 A7 c6 c7 _ ⟨_, ho6'⟩ ⟨_, ho7⟩).mono ?_; rintro e w8 ⟨rfl, hbn⟩; replace hb0 : Below wc.heap.size wc w8 := Tr.below_of hbn (by repeat (first | with_reducible exact hb0 | apply Below.drew | refine Below.alloc ?_ hb0.size _)); have kM : w8.cell? ⟨wa.heap.size, 0, none⟩ = some (.pointer u2) := (hb0.cell hM).trans k0)
              | (go_at_call 20; refine (hAt _ (hS2.both.rep.below (w := wc) (B := wc.heap.size) (by repeat (first | with_reducible exact hb0 | apply Below.drew | refine Below.alloc ?_ hb0.size _)) (Nat.le_refl _))).mono ?_; rintro e w9 ⟨rfl, hbn⟩; replace hb0 : Below wc.heap.size wc w9 := Tr.below_of hbn (by repeat (first | with_reducible exact hb0 | apply Below.drew | refine Below.alloc ?_ hb0.size _)); have kM : w9.cell? ⟨wa.heap.size, 0, none⟩ = some (.pointer u2) := (hb0.cell hM).trans k0)
              )
            have hg9 : g < w9.heap.size := Nat.lt_of_lt_of_le hgl hb0.size
            have f2 : w9.cell? ⟨g, x * 2, none⟩ = some (.string pk) := (hb0.cell hgl).trans f0
            have f3 : w9.cell? ⟨g, x * 2 + 1, none⟩ = some (.int .i64 pv) := (hb0.cell hgl).trans f1
            clear f0 f1
            clear hGet hGetR hLen hRank hBel hBt hBtR hSame hAt
            go_quiet (fail)

            go_wp2
            go_roundg (gk - 1)
            case measure => omega
            case rel => exact ⟨j + 1, u2, t, _, _, by rw [HN.out], by go_num, by omega, hS2.below (below_drewN (hb0.alloc hb0.size _) _)⟩
      · have hge : (len : Int) ≤ (j : Int) := by omega
        have hAll := fun w' h => OrdS.all_map t u w' h (by have := hS.both.size; omega)
        have hSame := fun A6 A7 c6 c7 w' ho hw => same_eq t.list A6 A7 c6 c7 w' ho hw (by rw [Tr.length_list]; have := hS.both.size; omega)
        unfold OrdS.Lst at hAll
        clear h1
        go_wp2_with (first
          | (go_at_call 21; refine (hAll _ hS.both.rep).mono ?_; rintro e w8 ⟨A8, c8, rfl, ho8, hb8⟩)
          | (go_at_call 17; refine (hSame _ _ _ _ _ ⟨_, ho8⟩ (hS.both.own.below hb8)).mono ?_; rintro e w9 ⟨rfl, hb9⟩))
        go_ret
        exact ⟨rfl, ((hS.below hb8).below hb9).old⟩

theorem own : ownKnob Try.prog.godebug = none := by kernel_rfl

set_option maxRecDepth 100000 in
theorem lifted (os : Os) (started : os.Started) (H : Type) (enc : TypeId × Value → H) :
    ReturnsInHanded {} Try.checked os 3 .any (Rows.orderPlaysSpec.pre6 enc Try.prog Try.f3 Rows.orderPlaysRow.domain false) (Rows.orderPlaysSpec.post enc Try.prog Try.f3 false true false false) := by
  refine returnsInHanded_of_change (C := Try.checked) own started (by kernel_rfl) Try.func3
    (ChangeSpec.witness6 (enc := enc) (C := Try.checked) false ⟨#[], #[.slice none 0 0, .string ⟨#[]⟩, .string ⟨#[]⟩, .int .i64 0], []⟩ 8 (by kernel_rfl) (by kernel_rfl) (by kernel_rfl) (by kernel_rfl)) ?_
  intro W base args ds gs before hval0 hW hcnd _
  have hval : ∀ (j : Nat) t v, Try.f3.params[j]? = some t → args[j]? = some v → Value.okWide Try.prog W .any base t v := hval0
  have hW' := hW
  obtain ⟨p, q, hA0, hV, rfl, hfz, hnd⟩ := hW
  have hA : DataW.TrodAll enc Try.prog W 0 (fun _ => true) true Try.f3.params.toList args.toList ds p := hA0
  rw [Try.params3] at hA hval
  obtain ⟨v0, vs0, d0, ds0, p0, q0, hargs, rfl, rfl, h0, r0⟩ := trodAll_cons hA
  obtain ⟨v1, vs1, d1, ds1, p1, q1, rfl, rfl, rfl, h1, r1⟩ := trodAll_cons r0
  obtain ⟨v2, vs2, d2, ds2, p2, q2, rfl, rfl, rfl, h2, r2⟩ := trodAll_cons r1
  obtain ⟨v3, vs3, d3, ds3, p3, q3, rfl, rfl, rfl, h3, r3⟩ := trodAll_cons r2
  obtain ⟨rfl, rfl, rfl⟩ := trodAll_nil r3
  obtain rfl : args = #[v0, v1, v2, v3] := by cases args; simp_all
  obtain ⟨rfl, rfl⟩ := trodVars_none hV
  obtain ⟨A0, len0, cap0, G0, K0, V0, rfl, hlc0, hm0, hrow0, hk0⟩ := arg_acts (hval 0 22 v0 rfl rfl) h0 (fun x hx => hW'.lt x (by simp [hx]))
  obtain ⟨s1, rfl, rfl, rfl, ws1⟩ := ChangeMaps.open_string Try.underlying9 (hval 1 9 v1 rfl rfl) h1
  obtain ⟨s2, rfl, rfl, rfl, ws2⟩ := ChangeMaps.open_string Try.underlying9 (hval 2 9 v2 rfl rfl) h2
  obtain ⟨a3, rfl, rfl, rfl, w3⟩ := open_int Try.underlying3 (hval 3 3 v3 rfl rfl) h3
  have fin : ∀ W', Below W.heap.size W W' → Rows.orderPlaysSpec.post enc Try.prog Try.f3 false true false false W #[.slice A0 len0 cap0, .string s1, .string s2, .int .i64 a3] (.bool true) W' :=
    fun W' hb => law_end (by kernel_rfl) (by decide +kernel) rfl rfl Try.underlying4 hW' rfl rfl rfl hb
  exact (walk A0 len0 cap0 G0 K0 V0 s1 s2 a3 w3 W hrow0 hlc0 hm0 hk0).mono fun e W' ⟨he, hb⟩ => ⟨_, he, fin W' hb⟩

theorem over : Rows.orderPlaysRow.holds Try.pinned (OpenSpec.ofChange Rows.orderPlaysSpec) :=
  OpenClaim.holds_of_wide 3 Try.f3 rfl rfl rfl rfl rfl rfl rfl ⟨rfl, rfl, rfl, rfl, rfl⟩ rfl rfl rfl rfl rfl (by kernel_rfl) Try.func3 (by kernel_rfl)
    (of_decide_eq_true (by kernel_rfl)) (by unfold Func.isWrapper; first | (rw [if_pos (by decide +kernel)]; kernel_rfl) | (rw [if_neg (by decide +kernel)]; exact ⟨rfl, rfl⟩))
    (fun os started H enc _ => lifted os started H enc)

theorem proved : Rows.OrderPlaysSaid := over

end Go.Proofs.Ytjccjbnbjcbagaa.orderPlays
