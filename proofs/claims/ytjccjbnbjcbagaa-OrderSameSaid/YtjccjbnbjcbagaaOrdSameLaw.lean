/- OrderSame: in whatever order keys are put, the map has the same pairs. For every input. -/
import Derived.Test.YtjccjbnbjcbagaaOrdVar
import Derived.Test.YtjccjbnbjcbagaaOrdFS
import Derived.Test.YtjccjbnbjcbagaaOrdAwake
import Derived.Test.YtjccjbnbjcbagaaOrdMath4
import Derived.Lib.Hide
namespace Go.Proofs.Ytjccjbnbjcbagaa.orderSame
open Go.ChangeShapes Go.WideShapes Go.ChangeAt Go.RowKit Go.Proofs.Ytjccjbnbjcbagaa
set_option linter.unusedVariables false

abbrev T := Tr ByteArray Int
abbrev Iv := Inv (K := ByteArray) (V := Int) Value.string (Value.int .i64) ltS
def lenOf (s : ByteArray) : Int := (s.size : Int)

theorem start3 {w wa : World} (hba : Below w.heap.size w wa) (X : TypeId) :
    Iv w wa.heap.size 0 none .nil (((wa.alloc (.cells #[.pointer none] X)).alloc (.cells #[.pointer none] X)).alloc (.cells #[.pointer none] X)) ∧
    Iv w (wa.heap.size + 1) 0 none .nil (((wa.alloc (.cells #[.pointer none] X)).alloc (.cells #[.pointer none] X)).alloc (.cells #[.pointer none] X)) ∧
    Iv w (wa.heap.size + 1 + 1) 0 none .nil (((wa.alloc (.cells #[.pointer none] X)).alloc (.cells #[.pointer none] X)).alloc (.cells #[.pointer none] X)) := by
  have h1 : Below w.heap.size w (wa.alloc (.cells #[.pointer none] X)) := hba.alloc hba.size _
  have h2 : Below w.heap.size w ((wa.alloc (.cells #[.pointer none] X)).alloc (.cells #[.pointer none] X)) := h1.alloc h1.size _
  have g : ∀ (W : World) (o : Obj), Below W.heap.size W (W.alloc o) := fun W o => (Below.refl _ _).alloc (Nat.le_refl _) o
  have i1 : Iv w wa.heap.size 0 none .nil (wa.alloc (.cells #[.pointer none] X)) := Inv.start hba X
  have i2 : Iv w (wa.heap.size + 1) 0 none .nil ((wa.alloc (.cells #[.pointer none] X)).alloc (.cells #[.pointer none] X)) := by
    have : Iv w (wa.alloc (.cells #[.pointer none] X)).heap.size 0 none .nil ((wa.alloc (.cells #[.pointer none] X)).alloc (.cells #[.pointer none] X)) := Inv.start h1 X
    rwa [World.size_alloc] at this
  have i3 : Iv w (wa.heap.size + 1 + 1) 0 none .nil (((wa.alloc (.cells #[.pointer none] X)).alloc (.cells #[.pointer none] X)).alloc (.cells #[.pointer none] X)) := by
    have : Iv w ((wa.alloc (.cells #[.pointer none] X)).alloc (.cells #[.pointer none] X)).heap.size 0 none .nil (((wa.alloc (.cells #[.pointer none] X)).alloc (.cells #[.pointer none] X)).alloc (.cells #[.pointer none] X)) := Inv.start h2 X
    rwa [World.size_alloc, World.size_alloc] at this
  exact ⟨(i1.below (g _ _)).below (g _ _), i2.below (g _ _), i3⟩

theorem own_below {w w' : World} {B : Nat} {e : TypeId} {size n : Nat} {v : Value} {xs : List Value} (h : w.ownsRow B e size v n xs) (hb : Below w.heap.size w w') : w'.ownsRow B e size v n xs := by
  obtain ⟨h1, h2⟩ := h
  rcases h2 with h2 | ⟨g, cap, cur, a, b, c, d⟩
  · exact ⟨h1, .inl h2⟩
  · have hg : g < w.heap.size := by
      rcases Nat.lt_or_ge g w.heap.size with hlt | hge
      · exact hlt
      · rw [Array.getElem?_eq_none hge] at c; cases c
    exact ⟨h1, .inr ⟨g, cap, cur, a, b, (hb.block g hg).trans c, d⟩⟩

theorem cell_key {w w' : World} {B g n c i : Nat} {e : TypeId} {l : List (ByteArray × Int)} {p : ByteArray × Int} (h : w.ownsRow B e 2 (.slice (some ⟨g, 0, none⟩) n c) n (OrdS.cellsL l)) (hb : Below w.heap.size w w') (hg : g < w.heap.size)
    (hp : l[i]? = some p) (hn : l.length = n) (hi : i < n) : w'.cell? ⟨g, i * 2, none⟩ = some (.string p.1) := by
  rw [hb.cell (p := ⟨g, i * 2, none⟩) hg, h.cellAt (i * 2) (by omega)]
  have h2 := Tr.flat_key (fun p : ByteArray × Int => Value.string p.1) (fun p => Value.int .i64 p.2) l i
  rw [hp] at h2
  exact h2
theorem cell_val {w w' : World} {B g n c i : Nat} {e : TypeId} {l : List (ByteArray × Int)} {p : ByteArray × Int} (h : w.ownsRow B e 2 (.slice (some ⟨g, 0, none⟩) n c) n (OrdS.cellsL l)) (hb : Below w.heap.size w w') (hg : g < w.heap.size)
    (hp : l[i]? = some p) (hn : l.length = n) (hi : i < n) : w'.cell? ⟨g, i * 2 + 1, none⟩ = some (.int .i64 p.2) := by
  rw [hb.cell (p := ⟨g, i * 2 + 1, none⟩) hg, h.cellAt (i * 2 + 1) (by omega)]
  have h2 := Tr.flat_val (fun p : ByteArray × Int => Value.string p.1) (fun p => Value.int .i64 p.2) l i
  rw [hp] at h2
  exact h2

set_option maxRecDepth 100000 in
set_option maxHeartbeats 6400000 in
theorem walk (A : Option Addr) (len cap : Nat) (S : Nat → ByteArray) (a1 : Int) (w1 : (Lit.int .u8 a1).wf = true) (w : World) (hm : cap ≤ maxLen) (hlc : len ≤ cap)
    (hA : 0 < len → ∃ b off, A = some ⟨b, off, none⟩ ∧ b < w.heap.size ∧ ∀ j, j < len → w.cell? ⟨b, off + j, none⟩ = some (.string (S j))) (hws : ∀ j, j < len → (S j).size ≤ maxLen) (hs : len ≤ 200) :
    Calls Try.prog 5 #[.slice A len cap, .int .u8 a1] w fun e w' => e = .returned (.bool true) ∧ Below w.heap.size w w' := by
  have hx1 : 0 ≤ a1 ∧ a1 ≤ 255 := by simpa [Lit.wf, IntKind.min, IntKind.max, IntKind.signed, IntKind.bits] using w1
  clear w1
  obtain ⟨h1, h1'⟩ := hx1
  obtain ⟨q, rfl⟩ := Int.eq_ofNat_of_zero_le h1
  unfold maxLen at hm hws
  have hs' : (len : Int) ≤ 200 := by omega
  go_enter Try.func5, Try.ntmps5
  go_wp2_with (go_at_call 9; refine (OrdS.awake_any _).mono ?_; rintro e wa ⟨rfl, hba⟩)
  go_loopg [24] len (fun g c wr => ∃ j ua ub uc ta tb tc, c = .int .i64 ((j : Nat) : Int) ∧ j + g = len ∧ Iv w wa.heap.size j ua ta wr ∧ Iv w (wa.heap.size + 1) j ub tb wr ∧ Iv w (wa.heap.size + 1 + 1) j uc tc wr ∧
      Hid (Tr.Just lenOf S j ta ∧ Tr.Just lenOf (fun i => S ((i + q) % len)) j tb ∧ Tr.Just lenOf (fun i => S (len - 1 - i)) j tc))
  case atStart =>
    obtain ⟨s1, s2, s3⟩ := start3 hba 27
    exact ⟨0, none, none, none, .nil, .nil, .nil, rfl, by omega, s1, s2, s3, Lib.hid ⟨Tr.Just.nil _ _, Tr.Just.nil _ _, Tr.Just.nil _ _⟩⟩
  case round =>
    obtain ⟨j, ua, ub, uc, ta, tb, tc, rfl, hj, Ia, Ib, Ic, HJ⟩ := hrel
    by_cases hlt : j < len
    · obtain ⟨b, off, rfl, hb, hc⟩ := hA (by omega)
      have hc' : ∀ i, i < len → wr.cell? ⟨b, off + i, none⟩ = some (.string (S i)) := fun i hi => (Ia.old.cell hb).trans (hc i hi)
      have hca := hc' j hlt
      have ka := Ia.var.1
      have hlt' : (j : Int) < (len : Int) := by omega
      have jb : (j : Int) ≤ 200 := by omega
      have Pa : ∀ w, OrdS.Rp w ua ta → Calls Try.prog 22 #[.agg #[.pointer ua], .string (S j), .int .i64 ((S j).size : Int)] w fun e w' => ∃ u', e = .returned (.agg #[.pointer u']) ∧ OrdS.Rp w' u' (Tr.put ltS (S j) (lenOf (S j)) ta) ∧ Below w.heap.size w w' := fun w h => OrdS.put_map ta ua (S j) (lenOf (S j)) w h (by have := Ia.size; omega)
      have hwj' : ((S j).size : Int) ≤ 9223372036854775807 := by have := hws j hlt; omega
      have Pb : ∀ w, OrdS.Rp w ub tb → Calls Try.prog 22 #[.agg #[.pointer ub], .string (S ((j + q) % len)), .int .i64 ((S ((j + q) % len)).size : Int)] w fun e w' => ∃ u', e = .returned (.agg #[.pointer u']) ∧ OrdS.Rp w' u' (Tr.put ltS (S ((j + q) % len)) (lenOf (S ((j + q) % len))) tb) ∧ Below w.heap.size w w' := fun w h => OrdS.put_map tb ub (S ((j + q) % len)) (lenOf (S ((j + q) % len))) w h (by have := Ib.size; omega)
      have Pc : ∀ w, OrdS.Rp w uc tc → Calls Try.prog 22 #[.agg #[.pointer uc], .string (S (len - 1 - j)), .int .i64 ((S (len - 1 - j)).size : Int)] w fun e w' => ∃ u', e = .returned (.agg #[.pointer u']) ∧ OrdS.Rp w' u' (Tr.put ltS (S (len - 1 - j)) (lenOf (S (len - 1 - j))) tc) ∧ Below w.heap.size w w' := fun w h => OrdS.put_map tc uc (S (len - 1 - j)) (lenOf (S (len - 1 - j))) w h (by have := Ic.size; omega)
      have hq1 : (j + q) % len < len := Nat.mod_lt _ (by omega)
      have hE : ((j : Int) + (q : Int)) % (len : Int) = (((j + q) % len : Nat) : Int) := by rw [Int.natCast_emod, Int.natCast_add]
      have i0 : (0 : Int) ≤ ((j : Int) + (q : Int)) % (len : Int) := by rw [hE]; omega
      have i1 : ((j : Int) + (q : Int)) % (len : Int) < (len : Int) := by rw [hE]; omega
      have eE : (((j : Int) + (q : Int)) % (len : Int)).toNat = (j + q) % len := by rw [hE]; rfl
      have j0 : (0 : Int) ≤ (len : Int) - 1 - (j : Int) := by omega
      have j1 : (len : Int) - 1 - (j : Int) < (len : Int) := by omega
      have fE : ((len : Int) - 1 - (j : Int)).toNat = len - 1 - j := by omega
      have hwb' : ((S ((j + q) % len)).size : Int) ≤ 9223372036854775807 := by have := hws _ hq1; omega
      have hwc' : ((S (len - 1 - j)).size : Int) ≤ 9223372036854775807 := by have := hws (len - 1 - j) (by omega); omega
      have EE := Lib.hid eE
      have FE := Lib.hid fE
      have HC := Lib.hid hc
      have HW := Lib.hid hws
      clear hA hc hc' hE eE fE hws
      go_wp2
      go_still_tail 10, (by kernel_rfl)
      change wpList _ _ _ _ _ wr.drew
      go_wp2_with (first
        | (go_at_call_of 22 (Value.agg #[.pointer ua]); refine (Pa _ Ia.drew.rep).mono ?_; rintro e w2 ⟨u2, rfl, hr2, hb2⟩
           have k2 := (Ia.drew.var.below hb2).1
           have k3 := (Ia.drew.var.below hb2).2.2.1
           have Ia2 := Ia.drew.put linS (S j) (lenOf (S j)) hr2 hb2
           have Ib2 := (Ib.drew.below hb2).other (Ia.drew.var.below hb2) (by omega) Ia.new (.pointer u2)
           have Ic2 := (Ic.drew.below hb2).other (Ia.drew.var.below hb2) (by omega) Ia.new (.pointer u2)
           have kb := Ib2.var.1
           have cb : (w2.setCell ⟨wa.heap.size, 0, none⟩ (.pointer u2)).cell? ⟨b, off + (j + q) % len, none⟩ = some (.string (S ((j + q) % len))) := (Ia2.old.cell hb).trans (HC.out _ hq1))
        | (go_at_call_of 22 (Value.agg #[.pointer ub]); refine (Pb _ Ib2.rep).mono ?_; rintro e w3 ⟨u3, rfl, hr3, hb3⟩
           have l2 := (Ib2.var.below hb3).1
           have l3 := (Ib2.var.below hb3).2.2.1
           have Ib3 := Ib2.put linS (S ((j + q) % len)) (lenOf (S ((j + q) % len))) hr3 hb3
           have Ia3 := (Ia2.below hb3).other (Ib2.var.below hb3) (by omega) Ib2.new (.pointer u3)
           have Ic3 := (Ic2.below hb3).other (Ib2.var.below hb3) (by omega) Ib2.new (.pointer u3)
           have kc := Ic3.var.1
           have cc : (w3.setCell ⟨wa.heap.size + 1, 0, none⟩ (.pointer u3)).cell? ⟨b, off + (len - 1 - j), none⟩ = some (.string (S (len - 1 - j))) := (Ia3.old.cell hb).trans (HC.out _ (by omega))
           have cc' : (w3.setCell ⟨wa.heap.size + 1, 0, none⟩ (.pointer u3)).cell? ⟨b, off + ((len : Int) - 1 - (j : Int)).toNat, none⟩ = some (.string (S (len - 1 - j))) := by rw [FE.out]; exact cc)
        | (go_at_call_of 22 (Value.agg #[.pointer uc]); refine (Pc _ Ic3.rep).mono ?_; rintro e w4 ⟨u4, rfl, hr4, hb4⟩
           have m2 := (Ic3.var.below hb4).1
           have m3 := (Ic3.var.below hb4).2.2.1))
      go_roundg (gk - 1)
      case measure => omega
      case rel =>
        obtain ⟨Ja, Jb, Jc⟩ := HJ.out
        exact ⟨j + 1, u2, u3, u4, _, _, _, by go_num, by omega, (Ia3.below hb4).other (Ic3.var.below hb4) (by omega) Ic3.new (.pointer u4), (Ib3.below hb4).other (Ic3.var.below hb4) (by omega) Ic3.new (.pointer u4),
          Ic3.put linS (S (len - 1 - j)) (lenOf (S (len - 1 - j))) hr4 hb4, Lib.hid ⟨Ja.put linS Ia.bst, Jb.put linS Ib.bst, Jc.put linS Ic.bst⟩⟩
    · have hge : (len : Int) ≤ (j : Int) := by omega
      obtain rfl : j = len := by have := Ia.size; omega
      obtain ⟨wq, rfl⟩ : ∃ wq : World, wq = wr := ⟨_, rfl⟩
      obtain ⟨l, n, hla, hlb, hlc2, hn⟩ : ∃ l n, ta.list = l ∧ tb.list = l ∧ tc.list = l ∧ l.length = n := by
        obtain ⟨Ja, Jb, Jc⟩ := HJ.out
        refine ⟨ta.list, _, rfl, ?_, ?_, rfl⟩
        · refine (Tr.Just.same linS Ja Jb Ia.bst Ib.bst (fun i hi => ?_) (fun i hi => ⟨(i + q) % j, Nat.mod_lt _ (by omega), rfl⟩)).symm
          obtain ⟨i', h1, h2⟩ := turn_back (T := q) hi
          exact ⟨i', h1, congrArg S h2⟩
        · exact (Tr.Just.same linS Ja Jc Ia.bst Ic.bst (fun i hi => ⟨j - 1 - i, by omega, congrArg S (by omega)⟩) (fun i hi => ⟨j - 1 - i, by omega, rfl⟩)).symm
      have hAa : ∀ w, OrdS.Rp w ua ta → Calls Try.prog 21 #[.agg #[.pointer ua]] w fun e w' => ∃ A c, e = .returned (.slice A n c) ∧ w'.ownsRow w.heap.size 44 2 (.slice A n c) n (OrdS.cellsL l) ∧ Below w.heap.size w w' := fun w h => by have := OrdS.all_map ta ua w h (by have := Ia.size; omega); rw [hla] at this; rw [← hn]; exact this
      have hAb : ∀ w, OrdS.Rp w ub tb → Calls Try.prog 21 #[.agg #[.pointer ub]] w fun e w' => ∃ A c, e = .returned (.slice A n c) ∧ w'.ownsRow w.heap.size 44 2 (.slice A n c) n (OrdS.cellsL l) ∧ Below w.heap.size w w' := fun w h => by have := OrdS.all_map tb ub w h (by have := Ib.size; omega); rw [hlb] at this; rw [← hn]; exact this
      have hAc : ∀ w, OrdS.Rp w uc tc → Calls Try.prog 21 #[.agg #[.pointer uc]] w fun e w' => ∃ A c, e = .returned (.slice A n c) ∧ w'.ownsRow w.heap.size 44 2 (.slice A n c) n (OrdS.cellsL l) ∧ Below w.heap.size w w' := fun w h => by have := OrdS.all_map tc uc w h (by have := Ic.size; omega); rw [hlc2] at this; rw [← hn]; exact this
      have hnb : (n : Int) ≤ 200 := by have := Ia.size; rw [← hla, Tr.length_list] at hn; omega
      have HN := Lib.hid hn
      have ka := Ia.var.1
      have kb := Ib.var.1
      have kc := Ic.var.1
      have hb0 := Below.refl wq.heap.size wq
      have Ma := Ia.var.2.2.2
      have Mb := Ib.var.2.2.2
      have Mc := Ic.var.2.2.2
      clear hla hlb hlc2 hn HJ hlt hA hws
      go_wp2
      go_region_held3 (fun w' => w'.cell? ⟨wa.heap.size, 0, none⟩ = some (.pointer ua) ∧ w'.cell? ⟨wa.heap.size + 1, 0, none⟩ = some (.pointer ub) ∧ w'.cell? ⟨wa.heap.size + 1 + 1, 0, none⟩ = some (.pointer uc))
        (first | go_keep | ((try simp only [World.cell?_drew]); exact ⟨(hb0.cell Ma).trans ka, (hb0.cell Mb).trans kb, (hb0.cell Mc).trans kc⟩))
        (first
          | (go_at_call_of 21 (Value.agg #[.pointer ua]); refine (hAa _ (Ia.rep.below (w := wq) (B := wq.heap.size) (by repeat (first | with_reducible exact hb0 | apply Below.drew)) (Nat.le_refl _))).mono ?_; rintro e w5 ⟨Aa, ca, rfl, hoa, hbn⟩; skip; replace hb0 : Below wq.heap.size wq w5 := Tr.below_of hbn (by repeat (first | with_reducible exact hb0 | apply Below.drew)))
          | (go_at_call_of 21 (Value.agg #[.pointer ub]); refine (hAb _ (Ib.rep.below (w := wq) (B := wq.heap.size) (by repeat (first | with_reducible exact hb0 | apply Below.drew)) (Nat.le_refl _))).mono ?_; rintro e w6 ⟨Ab, cb, rfl, hob, hbn⟩; have hoa := own_below hoa hbn; replace hb0 : Below wq.heap.size wq w6 := Tr.below_of hbn (by repeat (first | with_reducible exact hb0 | apply Below.drew)))
          | (go_at_call_of 21 (Value.agg #[.pointer uc]); refine (hAc _ (Ic.rep.below (w := wq) (B := wq.heap.size) (by repeat (first | with_reducible exact hb0 | apply Below.drew)) (Nat.le_refl _))).mono ?_; rintro e w7 ⟨Ac, cc, rfl, hoc, hbn⟩; have hoa := own_below hoa hbn; have hob := own_below hob hbn; replace hb0 : Below wq.heap.size wq w7 := Tr.below_of hbn (by repeat (first | with_reducible exact hb0 | apply Below.drew))))
      go_wp2
      go_loopg [87] n (fun g c w8 => ∃ i, c = .int .i64 ((i : Nat) : Int) ∧ i + g = n ∧ Below w7.heap.size w7 w8)
      case atStart => exact ⟨0, rfl, by omega, Below.refl _ _⟩
      case round =>
        obtain ⟨i, rfl, hi, hb8⟩ := hrel
        by_cases hlt : i < n
        · have hln := HN.out
          have hlt' : (i : Int) < (n : Int) := by omega
          have hi0 : (0 : Int) ≤ (i : Int) := by omega
          have ib : (i : Int) ≤ 200 := by omega
          obtain ⟨p, hp⟩ : ∃ p, l[i]? = some p := ⟨_, List.getElem?_eq_getElem (by omega)⟩
          obtain ⟨ga, da, hAa, _, hga⟩ := hoa.form (by omega)
          obtain ⟨rfl, rfl⟩ : Aa = some ⟨ga, 0, none⟩ ∧ da = ca := by injection hAa with e1 e2 e3; exact ⟨e1, e3.symm⟩
          have fa0 := cell_key (hoa) hb8 hga hp hln hlt
          have fa1 := cell_val (hoa) hb8 hga hp hln hlt
          obtain ⟨gb, db, hAb, _, hgb⟩ := hob.form (by omega)
          obtain ⟨rfl, rfl⟩ : Ab = some ⟨gb, 0, none⟩ ∧ db = cb := by injection hAb with e1 e2 e3; exact ⟨e1, e3.symm⟩
          have fb0 := cell_key (hob) hb8 hgb hp hln hlt
          have fb1 := cell_val (hob) hb8 hgb hp hln hlt
          obtain ⟨gc, dc, hAc, _, hgc⟩ := hoc.form (by omega)
          obtain ⟨rfl, rfl⟩ : Ac = some ⟨gc, 0, none⟩ ∧ dc = cc := by injection hAc with e1 e2 e3; exact ⟨e1, e3.symm⟩
          have fc0 := cell_key (hoc) hb8 hgc hp hln hlt
          have fc1 := cell_val (hoc) hb8 hgc hp hln hlt
          clear hln hp
          clear hoa hob hoc hAa hAb hAc
          obtain ⟨pk, pv⟩ := p
          go_wp2
          go_region_held3 (fun w' => (w'.cell? ⟨ga, i * 2, none⟩ = some (.string pk) ∧ w'.cell? ⟨ga, i * 2 + 1, none⟩ = some (.int .i64 pv)) ∧ (w'.cell? ⟨gb, i * 2, none⟩ = some (.string pk) ∧ w'.cell? ⟨gb, i * 2 + 1, none⟩ = some (.int .i64 pv)) ∧ w'.cell? ⟨gc, i * 2, none⟩ = some (.string pk) ∧ w'.cell? ⟨gc, i * 2 + 1, none⟩ = some (.int .i64 pv))
            (go_keep) (fail)
          go_wp2
          go_roundg (gk - 1)
          case measure => omega
          case rel => exact ⟨i + 1, by go_num, by omega, hb8.drew⟩
        · have hge2 : (n : Int) ≤ (i : Int) := by omega
          go_wp2
          go_ret
          exact ⟨rfl, Ia.old.trans ((hb0.trans (hb8.mono hb0.size)).mono Ia.old.size)⟩

theorem walk_long (A : Option Addr) (len cap : Nat) (k : Int) (w : World) (hs : 200 < len) :
    Calls Try.prog 5 #[.slice A len cap, .int .u8 k] w fun e w' => e = .returned (.bool true) ∧ Below w.heap.size w w' := by
  have hs' : (200 : Int) < (len : Int) := by omega
  go_enter Try.func5, Try.ntmps5
  go_wp2_with fail
  refine (OrdS.awake_any _).mono ?_
  rintro e wa ⟨rfl, hba⟩
  go_wp2_with fail
  refine (OrdS.awake_any _).mono ?_
  rintro e wb ⟨rfl, hbb⟩
  go_wp2
  go_ret
  exact ⟨rfl, hba.trans (hbb.mono hba.size)⟩

theorem own : ownKnob Try.prog.godebug = none := by kernel_rfl

set_option maxRecDepth 100000 in
theorem lifted (os : Os) (started : os.Started) (H : Type) (enc : TypeId × Value → H) :
    ReturnsInHanded {} Try.checked os 5 .any (Rows.orderSameSpec.pre6 enc Try.prog Try.f5 Rows.orderSameRow.domain false) (Rows.orderSameSpec.post enc Try.prog Try.f5 false true false false) := by
  refine returnsInHanded_of_change (C := Try.checked) own started (by kernel_rfl) Try.func5
    (ChangeSpec.witness6 (enc := enc) (C := Try.checked) false ⟨#[], #[.slice none 0 0, .int .u8 0], []⟩ 8 (by kernel_rfl) (by kernel_rfl) (by kernel_rfl) (by kernel_rfl)) ?_
  intro W base args ds gs before hval0 hW hcnd _
  have hval : ∀ (j : Nat) t v, Try.f5.params[j]? = some t → args[j]? = some v → Value.okWide Try.prog W .any base t v := hval0
  have hW' := hW
  obtain ⟨p, q, hA0, hV, rfl, hfz, hnd⟩ := hW
  have hA : DataW.TrodAll enc Try.prog W 0 (fun _ => true) true Try.f5.params.toList args.toList ds p := hA0
  rw [Try.params5] at hA hval
  obtain ⟨v0, vs0, d0, ds0, p0, q0, hargs, rfl, rfl, h0, r0⟩ := trodAll_cons hA
  obtain ⟨v1, vs1, d1, ds1, p1, q1, rfl, rfl, rfl, h1, r1⟩ := trodAll_cons r0
  obtain ⟨rfl, rfl, rfl⟩ := trodAll_nil r1
  obtain rfl : args = #[v0, v1] := by cases args; simp_all
  obtain ⟨rfl, rfl⟩ := trodVars_none hV
  obtain ⟨A0, len0, cap0, S0, rfl, hlc0, hm0, hrow0, hws0⟩ := arg_strings Try.underlying52 Try.underlying9 (by kernel_rfl) (hval 0 52 v0 rfl rfl) h0 (fun x hx => hW'.lt x (by simp [hx]))
  obtain ⟨a1, rfl, rfl, rfl, w1⟩ := open_int Try.underlying5 (hval 1 5 v1 rfl rfl) h1
  have fin : ∀ W', Below W.heap.size W W' → Rows.orderSameSpec.post enc Try.prog Try.f5 false true false false W #[.slice A0 len0 cap0, .int .u8 a1] (.bool true) W' :=
    fun W' hb => law_end (by kernel_rfl) (by decide +kernel) rfl rfl Try.underlying4 hW' rfl rfl rfl hb
  rcases Nat.lt_or_ge 200 len0 with hs | hs
  · exact (walk_long A0 len0 cap0 a1 W hs).mono fun e W' ⟨he, hb⟩ => ⟨_, he, fin W' hb⟩
  · exact (walk A0 len0 cap0 S0 a1 w1 W hm0 hlc0 hrow0 hws0 hs).mono fun e W' ⟨he, hb⟩ => ⟨_, he, fin W' hb⟩

theorem over : Rows.orderSameRow.holds Try.pinned (OpenSpec.ofChange Rows.orderSameSpec) :=
  OpenClaim.holds_of_wide 5 Try.f5 rfl rfl rfl rfl rfl rfl rfl ⟨rfl, rfl, rfl, rfl, rfl⟩ rfl rfl rfl rfl rfl (by kernel_rfl) Try.func5 (by kernel_rfl)
    (of_decide_eq_true (by kernel_rfl)) (by unfold Func.isWrapper; first | (rw [if_pos (by decide +kernel)]; kernel_rfl) | (rw [if_neg (by decide +kernel)]; exact ⟨rfl, rfl⟩))
    (fun os started H enc _ => lifted os started H enc)

theorem proved : Rows.OrderSameSaid := over

end Go.Proofs.Ytjccjbnbjcbagaa.orderSame
