/- The document's own answers for layer 1, each by its contract. -/
import Derived.Test.YtjccjbnbjcbagaaOrdVar
import Derived.Test.YtjccjbnbjcbagaaOrdFS
import Derived.Test.YtjccjbnbjcbagaaOrdMath3
import Derived.Lib.Hide
namespace Go.Proofs.Ytjccjbnbjcbagaa.OrdRef
open Go.RowKit Go.Proofs.Ytjccjbnbjcbagaa
set_option linter.unusedVariables false

theorem refInfo : (Try.prog.info? 48).map (fun i => (i.zero, i.size, i.bytes)) = some (some (.agg #[.string ⟨#[]⟩, .int .i64 0]), 2, 24) := by kernel_rfl

/-- A slice that holds just these pairs. -/
def Own (w : World) (A : Option Addr) (c : Nat) (l : List (ByteArray × Int)) : Prop := ∃ B, w.ownsRow B 48 2 (.slice A l.length c) l.length (OrdS.cellsL l)

def LstP (w : World) (l : List (ByteArray × Int)) (e : Ending) (w' : World) : Prop :=
  ∃ A c, e = .returned (.slice A l.length c) ∧ w'.ownsRow w.heap.size 48 2 (.slice A l.length c) l.length (OrdS.cellsL l) ∧ Below w.heap.size w w'

theorem own_below {w w' : World} {B : Nat} {e : TypeId} {size n : Nat} {v : Value} {xs : List Value} (h : w.ownsRow B e size v n xs) (hb : Below w.heap.size w w') : w'.ownsRow B e size v n xs := by
  obtain ⟨h1, h2⟩ := h
  rcases h2 with h2 | ⟨g, cap, cur, a, b, c, d⟩
  · exact ⟨h1, .inl h2⟩
  · have hg : g < w.heap.size := by
      rcases Nat.lt_or_ge g w.heap.size with hlt | hge
      · exact hlt
      · rw [Array.getElem?_eq_none hge] at c; cases c
    exact ⟨h1, .inr ⟨g, cap, cur, a, b, (hb.block g hg).trans c, d⟩⟩

theorem Own.below {w w' : World} {A : Option Addr} {c : Nat} {l : List (ByteArray × Int)} (h : Own w A c l) (hb : Below w.heap.size w w') : Own w' A c l := by
  obtain ⟨B, h⟩ := h; exact ⟨B, own_below h hb⟩
theorem Own.drew {w : World} {A : Option Addr} {c : Nat} {l : List (ByteArray × Int)} (h : Own w A c l) : Own w.drew A c l := h
theorem Own.nil (w : World) : Own w none 0 [] := ⟨0, World.ownsRow_nil _ _ _ _⟩

theorem cell_key {w w' : World} {B g n c i N : Nat} {e : TypeId} {l : List (ByteArray × Int)} {p : ByteArray × Int} (h : w.ownsRow B e 2 (.slice (some ⟨g, 0, none⟩) n c) n (OrdS.cellsL l)) (hb : Below N w w') (hg : g < N)
    (hp : l[i]? = some p) (hn : l.length = n) (hi : i < n) : w'.cell? ⟨g, i * 2, none⟩ = some (.string p.1) := by
  rw [hb.cell (p := ⟨g, i * 2, none⟩) hg, h.cellAt (i * 2) (by omega)]
  have h2 := Tr.flat_key (fun p : ByteArray × Int => Value.string p.1) (fun p => Value.int .i64 p.2) l i
  rw [hp] at h2
  exact h2
theorem cell_val {w w' : World} {B g n c i N : Nat} {e : TypeId} {l : List (ByteArray × Int)} {p : ByteArray × Int} (h : w.ownsRow B e 2 (.slice (some ⟨g, 0, none⟩) n c) n (OrdS.cellsL l)) (hb : Below N w w') (hg : g < N)
    (hp : l[i]? = some p) (hn : l.length = n) (hi : i < n) : w'.cell? ⟨g, i * 2 + 1, none⟩ = some (.int .i64 p.2) := by
  rw [hb.cell (p := ⟨g, i * 2 + 1, none⟩) hg, h.cellAt (i * 2 + 1) (by omega)]
  have h2 := Tr.flat_val (fun p : ByteArray × Int => Value.string p.1) (fun p => Value.int .i64 p.2) l i
  rw [hp] at h2
  exact h2

theorem take_filter {α : Type} (P : α → Bool) {l : List α} {i : Nat} {p : α} (hp : l[i]? = some p) : (l.take (i + 1)).filter P = (l.take i).filter P ++ (if P p = true then [p] else []) := by
  obtain ⟨hi, rfl⟩ := List.getElem?_eq_some_iff.1 hp
  rw [List.take_succ_eq_append_getElem hi, List.filter_append, List.filter_cons]
  rfl

theorem eqS_false {a b : ByteArray} (h : ltS a b = true) : (a.toList == b.toList) = false := by
  cases e : (a.toList == b.toList) with
  | false => rfl
  | true =>
    have e' : a.toList = b.toList := by simpa using e
    have : ltS a b = ltS b b := by unfold ltS; rw [e']
    rw [this, ltS_irr] at h; cases h

set_option maxRecDepth 100000 in
set_option maxHeartbeats 3200000 in
theorem ref_below (l : List (ByteArray × Int)) (A : Option Addr) (c : Nat) (k : ByteArray) (w : World) (hin : Own w A c l) (hn : l.length ≤ 1000) :
    Calls Try.prog 16 #[.slice A l.length c, .string k] w (LstP w (l.filter (fun p => ltS p.1 k))) := by
  obtain ⟨n, hln⟩ : ∃ n, l.length = n := ⟨_, rfl⟩
  obtain ⟨B, hown⟩ := hin
  rw [hln] at hown hn ⊢
  have HL := Lib.hid hln
  have hnb : (n : Int) ≤ 1000 := by omega
  clear hln
  obtain ⟨i0, hi0, hz0, hz1, hz2⟩ := info_parts refInfo
  go_enter Try.func16, Try.ntmps16
  go_wp2
  go_loopg [5, 9] n (fun g o x wr => ∃ i m A' c', o = .slice A' m c' ∧ x = .int .i64 ((i : Nat) : Int) ∧ i + g = n ∧ m ≤ i ∧ wr.ownsRow w.heap.size 48 2 (.slice A' m c') m (OrdS.cellsL ((l.take i).filter (fun p => ltS p.1 k))) ∧ Below w.heap.size w wr ∧ Hid (((l.take i).filter (fun p => ltS p.1 k)).length = m))
  case atStart => exact ⟨0, 0, none, 0, rfl, rfl, by omega, Nat.le_refl _, World.ownsRow_nil _ _ _ _, Below.refl _ _, rfl⟩
  case round =>
    obtain ⟨i, m, A', c', rfl, rfl, hi, hmi, ho, hb, HM⟩ := hrel
    by_cases hlt : i < n
    · have hlt' : (i : Int) < (n : Int) := by omega
      have hi0' : (0 : Int) ≤ (i : Int) := by omega
      have ib : (i : Int) ≤ 1000 := by omega
      obtain ⟨g, cg, hA, _, hgl⟩ := hown.form (by omega)
      obtain ⟨rfl, rfl⟩ : A = some ⟨g, 0, none⟩ ∧ cg = c := by injection hA with e1 e2 e3; exact ⟨e1, e3.symm⟩
      obtain ⟨p, hp⟩ : ∃ p, l[i]? = some p := ⟨_, List.getElem?_eq_getElem (by rw [HL.out]; exact hlt)⟩
      have k0 := cell_key hown hb hgl hp HL.out hlt
      have k1 := cell_val hown hb hgl hp HL.out hlt
      have hgr : g < wr.heap.size := Nat.lt_of_lt_of_le hgl hb.size
      have HT := Lib.hid (take_filter (fun p => ltS p.1 k) hp)
      have HMO := Lib.hid HM.out
      clear hA hp hown HL HM
      obtain ⟨pk, pv⟩ := p
      cases hlt2 : ltS pk k with
      | true =>
        have e1 : Op.bytesLess pk.toList k.toList = true := hlt2
        have HP : Hid ((fun p : ByteArray × Int => ltS p.1 k) (pk, pv) = true) := hlt2
        go_wp2_with (at_builtin; refine wpList_append_lies _ rfl _ _ 28 rfl w.heap.size 48 i0 _ 2 24 Try.underlying28 hi0 hz0 hz1 hz2 rfl (by omega) (.slice A' m c') m _ rfl (ho.alloc _) ⟨wr.heap.size, 0, none⟩ 1 1 [.string pk, .int .i64 pv] rfl rfl (World.news_of_block (heap_alloc_new wr _)) (by simp [Value.oneCell']) (by omega) (by unfold maxLen; omega) (by omega) (by have := hb.size; simp; omega) (wr.heap.size + 1) (by simp) ?_
                     intro g2 cap2 w2 ho2 hgr2 hat2 hlt2)
        have hb2 : Below w.heap.size w w2 := (hb.alloc hb.size _).grown hgr2 (by have := hb.size; simp; omega) (fun k hk => (ho.lt k hk).1)
        go_roundg (gk - 1)
        case measure => omega
        case rel =>
          have h1 := HT.out
          rw [if_pos HP.out] at h1
          refine ⟨i + 1, m + 1, _, _, rfl, by go_num, by omega, by omega, ?_, hb2, (show _ = _ by rw [h1, List.length_append, HMO.out]; rfl)⟩
          rw [h1, OrdS.cellsL_app, OrdS.cellsL_one]; exact ho2
      | false =>
        have e1 : Op.bytesLess pk.toList k.toList = false := hlt2
        have HP : Hid (¬ (fun p : ByteArray × Int => ltS p.1 k) (pk, pv) = true) := by show ¬ ltS pk k = true; rw [hlt2]; decide
        clear hi0 hz0 hz1 hz2
        go_wp2
        go_roundg (gk - 1)
        case measure => omega
        case rel =>
          have h1 := HT.out
          rw [if_neg HP.out, List.append_nil] at h1
          exact ⟨i + 1, m, A', c', rfl, by go_num, by omega, by omega, by rw [h1]; exact ho, hb, (show _ = _ by rw [h1]; exact HMO.out)⟩
    · have hge : (n : Int) ≤ (i : Int) := by omega
      have hall : l.take i = l := List.take_of_length_le (by rw [HL.out]; omega)
      have HO : LstP w (l.filter (fun p => ltS p.1 k)) (.returned (.slice A' m c')) wr := by
        have h1 := HM.out
        rw [hall] at h1 ho
        subst h1
        exact ⟨A', c', rfl, ho, hb⟩
      clear hall ho hown HL HM
      go_wp2
      go_ret
      exact HO

set_option maxRecDepth 100000 in
set_option maxHeartbeats 3200000 in
theorem ref_del (l : List (ByteArray × Int)) (A : Option Addr) (c : Nat) (k : ByteArray) (w : World) (hin : Own w A c l) (hn : l.length ≤ 1000) :
    Calls Try.prog 35 #[.slice A l.length c, .string k] w (LstP w (l.filter (fun p => ltS p.1 k || ltS k p.1))) := by
  obtain ⟨n, hln⟩ : ∃ n, l.length = n := ⟨_, rfl⟩
  obtain ⟨B, hown⟩ := hin
  rw [hln] at hown hn ⊢
  have HL := Lib.hid hln
  have hnb : (n : Int) ≤ 1000 := by omega
  clear hln
  obtain ⟨i0, hi0, hz0, hz1, hz2⟩ := info_parts refInfo
  go_enter Try.func35, Try.ntmps35
  go_wp2
  go_loopg [5, 9] n (fun g o x wr => ∃ i m A' c', o = .slice A' m c' ∧ x = .int .i64 ((i : Nat) : Int) ∧ i + g = n ∧ m ≤ i ∧ wr.ownsRow w.heap.size 48 2 (.slice A' m c') m (OrdS.cellsL ((l.take i).filter (fun p => ltS p.1 k || ltS k p.1))) ∧ Below w.heap.size w wr ∧ Hid (((l.take i).filter (fun p => ltS p.1 k || ltS k p.1)).length = m))
  case atStart => exact ⟨0, 0, none, 0, rfl, rfl, by omega, Nat.le_refl _, World.ownsRow_nil _ _ _ _, Below.refl _ _, rfl⟩
  case round =>
    obtain ⟨i, m, A', c', rfl, rfl, hi, hmi, ho, hb, HM⟩ := hrel
    by_cases hlt : i < n
    · have hlt' : (i : Int) < (n : Int) := by omega
      have hi0' : (0 : Int) ≤ (i : Int) := by omega
      have ib : (i : Int) ≤ 1000 := by omega
      obtain ⟨g, cg, hA, _, hgl⟩ := hown.form (by omega)
      obtain ⟨rfl, rfl⟩ : A = some ⟨g, 0, none⟩ ∧ cg = c := by injection hA with e1 e2 e3; exact ⟨e1, e3.symm⟩
      obtain ⟨p, hp⟩ : ∃ p, l[i]? = some p := ⟨_, List.getElem?_eq_getElem (by rw [HL.out]; exact hlt)⟩
      have k0 := cell_key hown hb hgl hp HL.out hlt
      have k1 := cell_val hown hb hgl hp HL.out hlt
      have hgr : g < wr.heap.size := Nat.lt_of_lt_of_le hgl hb.size
      have HT := Lib.hid (take_filter (fun p => ltS p.1 k || ltS k p.1) hp)
      have HMO := Lib.hid HM.out
      clear hA hp hown HL HM
      obtain ⟨pk, pv⟩ := p
      by_cases hlt2 : (ltS pk k || ltS k pk) = true
      · have e1 : (pk.toList == k.toList) = false := by
          rcases Bool.or_eq_true_iff.1 hlt2 with h | h
          · exact eqS_false h
          · exact ltS_ne h
        have HP : Hid ((fun p : ByteArray × Int => ltS p.1 k || ltS k p.1) (pk, pv) = true) := hlt2
        go_wp2_with (at_builtin; refine wpList_append_lies _ rfl _ _ 28 rfl w.heap.size 48 i0 _ 2 24 Try.underlying28 hi0 hz0 hz1 hz2 rfl (by omega) (.slice A' m c') m _ rfl (ho.alloc _) ⟨wr.heap.size, 0, none⟩ 1 1 [.string pk, .int .i64 pv] rfl rfl (World.news_of_block (heap_alloc_new wr _)) (by simp [Value.oneCell']) (by omega) (by unfold maxLen; omega) (by omega) (by have := hb.size; simp; omega) (wr.heap.size + 1) (by simp) ?_
                     intro g2 cap2 w2 ho2 hgr2 hat2 hlt2)
        have hb2 : Below w.heap.size w w2 := (hb.alloc hb.size _).grown hgr2 (by have := hb.size; simp; omega) (fun k hk => (ho.lt k hk).1)
        go_roundg (gk - 1)
        case measure => omega
        case rel =>
          have h1 := HT.out
          rw [if_pos HP.out] at h1
          refine ⟨i + 1, m + 1, _, _, rfl, by go_num, by omega, by omega, ?_, hb2, (show _ = _ by rw [h1, List.length_append, HMO.out]; rfl)⟩
          rw [h1, OrdS.cellsL_app, OrdS.cellsL_one]; exact ho2
      · obtain rfl : pk = k := ltS_con (by cases e : ltS pk k <;> simp_all) (by cases e : ltS k pk <;> simp_all)
        have e1 : (pk.toList == pk.toList) = true := by simp
        have HP : Hid (¬ (fun p : ByteArray × Int => ltS p.1 pk || ltS pk p.1) (pk, pv) = true) := hlt2
        clear hi0 hz0 hz1 hz2
        go_wp2
        go_roundg (gk - 1)
        case measure => omega
        case rel =>
          have h1 := HT.out
          rw [if_neg HP.out, List.append_nil] at h1
          exact ⟨i + 1, m, A', c', rfl, by go_num, by omega, by omega, by rw [h1]; exact ho, hb, (show _ = _ by rw [h1]; exact HMO.out)⟩
    · have hge : (n : Int) ≤ (i : Int) := by omega
      have hall : l.take i = l := List.take_of_length_le (by rw [HL.out]; omega)
      have HO : LstP w (l.filter (fun p => ltS p.1 k || ltS k p.1)) (.returned (.slice A' m c')) wr := by
        have h1 := HM.out
        rw [hall] at h1 ho
        subst h1
        exact ⟨A', c', rfl, ho, hb⟩
      clear hall ho hown HL HM
      go_wp2
      go_ret
      exact HO

set_option maxRecDepth 100000 in
set_option maxHeartbeats 3200000 in
theorem ref_between (l : List (ByteArray × Int)) (A : Option Addr) (c : Nat) (a b : ByteArray) (w : World) (hin : Own w A c l) (hn : l.length ≤ 1000) :
    Calls Try.prog 19 #[.slice A l.length c, .string a, .string b] w (LstP w (l.filter (fun p => !ltS p.1 a && ltS p.1 b))) := by
  obtain ⟨n, hln⟩ : ∃ n, l.length = n := ⟨_, rfl⟩
  obtain ⟨B, hown⟩ := hin
  rw [hln] at hown hn ⊢
  have HL := Lib.hid hln
  have hnb : (n : Int) ≤ 1000 := by omega
  clear hln
  obtain ⟨i0, hi0, hz0, hz1, hz2⟩ := info_parts refInfo
  go_enter Try.func19, Try.ntmps19
  go_wp2
  go_loopg [7, 11] n (fun g o x wr => ∃ i m A' c', o = .slice A' m c' ∧ x = .int .i64 ((i : Nat) : Int) ∧ i + g = n ∧ m ≤ i ∧ wr.ownsRow w.heap.size 48 2 (.slice A' m c') m (OrdS.cellsL ((l.take i).filter (fun p => !ltS p.1 a && ltS p.1 b))) ∧ Below w.heap.size w wr ∧ Hid (((l.take i).filter (fun p => !ltS p.1 a && ltS p.1 b)).length = m))
  case atStart => exact ⟨0, 0, none, 0, rfl, rfl, by omega, Nat.le_refl _, World.ownsRow_nil _ _ _ _, Below.refl _ _, rfl⟩
  case round =>
    obtain ⟨i, m, A', c', rfl, rfl, hi, hmi, ho, hb, HM⟩ := hrel
    by_cases hlt : i < n
    · have hlt' : (i : Int) < (n : Int) := by omega
      have hi0' : (0 : Int) ≤ (i : Int) := by omega
      have ib : (i : Int) ≤ 1000 := by omega
      obtain ⟨g, cg, hA, _, hgl⟩ := hown.form (by omega)
      obtain ⟨rfl, rfl⟩ : A = some ⟨g, 0, none⟩ ∧ cg = c := by injection hA with e1 e2 e3; exact ⟨e1, e3.symm⟩
      obtain ⟨p, hp⟩ : ∃ p, l[i]? = some p := ⟨_, List.getElem?_eq_getElem (by rw [HL.out]; exact hlt)⟩
      have k0 := cell_key hown hb hgl hp HL.out hlt
      have k1 := cell_val hown hb hgl hp HL.out hlt
      have hgr : g < wr.heap.size := Nat.lt_of_lt_of_le hgl hb.size
      have HT := Lib.hid (take_filter (fun p => !ltS p.1 a && ltS p.1 b) hp)
      have HMO := Lib.hid HM.out
      clear hA hp hown HL HM
      obtain ⟨pk, pv⟩ := p
      cases hx : ltS pk a with
      | true =>
        have e1 : Op.bytesLess pk.toList a.toList = true := hx
        have HP : Hid (¬ (fun p : ByteArray × Int => !ltS p.1 a && ltS p.1 b) (pk, pv) = true) := by show ¬ (!ltS pk a && ltS pk b) = true; rw [hx]; simp
        clear hi0 hz0 hz1 hz2
        go_wp2
        go_roundg (gk - 1)
        case measure => omega
        case rel =>
          have h1 := HT.out
          rw [if_neg HP.out, List.append_nil] at h1
          exact ⟨i + 1, m, A', c', rfl, by go_num, by omega, by omega, by rw [h1]; exact ho, hb, (show _ = _ by rw [h1]; exact HMO.out)⟩
      | false =>
        cases hy : ltS pk b with
        | true =>
          have e1 : Op.bytesLess pk.toList a.toList = false := hx
          have e2 : Op.bytesLess pk.toList b.toList = true := hy
          have HP : Hid ((fun p : ByteArray × Int => !ltS p.1 a && ltS p.1 b) (pk, pv) = true) := by show (!ltS pk a && ltS pk b) = true; rw [hx, hy]; rfl
          go_wp2_with (at_builtin; refine wpList_append_lies _ rfl _ _ 28 rfl w.heap.size 48 i0 _ 2 24 Try.underlying28 hi0 hz0 hz1 hz2 rfl (by omega) (.slice A' m c') m _ rfl (ho.alloc _) ⟨wr.heap.size, 0, none⟩ 1 1 [.string pk, .int .i64 pv] rfl rfl (World.news_of_block (heap_alloc_new wr _)) (by simp [Value.oneCell']) (by omega) (by unfold maxLen; omega) (by omega) (by have := hb.size; simp; omega) (wr.heap.size + 1) (by simp) ?_
                       intro g2 cap2 w2 ho2 hgr2 hat2 hlt2)
          have hb2 : Below w.heap.size w w2 := (hb.alloc hb.size _).grown hgr2 (by have := hb.size; simp; omega) (fun k hk => (ho.lt k hk).1)
          go_roundg (gk - 1)
          case measure => omega
          case rel =>
            have h1 := HT.out
            rw [if_pos HP.out] at h1
            refine ⟨i + 1, m + 1, _, _, rfl, by go_num, by omega, by omega, ?_, hb2, (show _ = _ by rw [h1, List.length_append, HMO.out]; rfl)⟩
            rw [h1, OrdS.cellsL_app, OrdS.cellsL_one]; exact ho2
        | false =>
          have e1 : Op.bytesLess pk.toList a.toList = false := hx
          have e2 : Op.bytesLess pk.toList b.toList = false := hy
          have HP : Hid (¬ (fun p : ByteArray × Int => !ltS p.1 a && ltS p.1 b) (pk, pv) = true) := by show ¬ (!ltS pk a && ltS pk b) = true; rw [hx, hy]; simp
          clear hi0 hz0 hz1 hz2
          go_wp2
          go_roundg (gk - 1)
          case measure => omega
          case rel =>
            have h1 := HT.out
            rw [if_neg HP.out, List.append_nil] at h1
            exact ⟨i + 1, m, A', c', rfl, by go_num, by omega, by omega, by rw [h1]; exact ho, hb, (show _ = _ by rw [h1]; exact HMO.out)⟩
    · have hge : (n : Int) ≤ (i : Int) := by omega
      have hall : l.take i = l := List.take_of_length_le (by rw [HL.out]; omega)
      have HO : LstP w (l.filter (fun p => !ltS p.1 a && ltS p.1 b)) (.returned (.slice A' m c')) wr := by
        have h1 := HM.out
        rw [hall] at h1 ho
        subst h1
        exact ⟨A', c', rfl, ho, hb⟩
      clear hall ho hown HL HM
      go_wp2
      go_ret
      exact HO

theorem eqS_ne {a b : ByteArray} (h : a ≠ b) : (a.toList == b.toList) = false := by
  cases e : ltS a b with
  | true => exact eqS_false e
  | false =>
    cases f : ltS b a with
    | true => exact ltS_ne f
    | false => exact absurd (ltS_con e f) h

theorem get_yes (l : List (ByteArray × Int)) (A : Option Addr) (c : Nat) (k : ByteArray) (v : Int) (i0 : Nat) (w : World) (hin : Own w A c l) (hn : l.length ≤ 1000) (hi0 : l[i0]? = some (k, v)) (hlo : ∀ (j : Nat) (p : ByteArray × Int), j < i0 → l[j]? = some p → p.1 ≠ k) :
    Calls Try.prog 13 #[.slice A l.length c, .string k] w fun e w' => e = .returned (.tuple #[.int .i64 v, .bool true]) ∧ w = w' := by
  obtain ⟨n, hln⟩ : ∃ n, l.length = n := ⟨_, rfl⟩
  obtain ⟨B, hown⟩ := hin
  have hi0n : i0 < n := by
    rcases Nat.lt_or_ge i0 n with h | h
    · exact h
    · rw [List.getElem?_eq_none (by omega)] at hi0; cases hi0
  rw [hln] at hown hn ⊢
  have HL := Lib.hid hln
  have H0 := Lib.hid hi0
  have HLO := Lib.hid hlo
  have hnb : (n : Int) ≤ 1000 := by omega
  clear hln hi0 hlo
  obtain ⟨g, cg, hA, _, hgl⟩ := hown.form (by omega)
  obtain ⟨rfl, rfl⟩ : A = some ⟨g, 0, none⟩ ∧ cg = c := by injection hA with e1 e2 e3; exact ⟨e1, e3.symm⟩
  clear hA
  go_enter Try.func13, Try.ntmps13
  go_wp2
  go_loopg [9] n (fun g x wr => w = wr ∧ ∃ i, x = .int .i64 ((i : Nat) : Int) ∧ i + g = n ∧ i ≤ i0)
  case atStart => exact ⟨rfl, 0, rfl, by omega, Nat.zero_le _⟩
  case round =>
    obtain ⟨rfl, i, rfl, hi, hii⟩ := hrel
    have hlt' : (i : Int) < (n : Int) := by omega
    have hi0' : (0 : Int) ≤ (i : Int) := by omega
    have ib : (i : Int) ≤ 1000 := by omega
    obtain ⟨p, hp⟩ : ∃ p, l[i]? = some p := ⟨_, List.getElem?_eq_getElem (by rw [HL.out]; omega)⟩
    have k0 := cell_key hown (Below.refl _ _) hgl hp HL.out (by omega)
    have k1 := cell_val hown (Below.refl _ _) hgl hp HL.out (by omega)
    by_cases hlt : i < i0
    · have e1 : (p.1.toList == k.toList) = false := eqS_ne (HLO.out i p hlt hp)
      clear hp hown
      obtain ⟨pk, pv⟩ := p
      go_wp2
      go_roundg (gk - 1)
      case measure => omega
      case rel => exact ⟨rfl, i + 1, by go_num, by omega, by omega⟩
    · obtain rfl : i = i0 := by omega
      have h0 := H0.out
      rw [hp] at h0
      obtain rfl : p = (k, v) := by injection h0
      have e1 : (k.toList == k.toList) = true := by simp
      clear hp hown h0 H0 HLO
      go_wp2
      go_ret2
      exact ⟨rfl, rfl⟩

theorem get_no (l : List (ByteArray × Int)) (A : Option Addr) (c : Nat) (k : ByteArray) (w : World) (hin : Own w A c l) (hn : l.length ≤ 1000) (hlo : ∀ (j : Nat) (p : ByteArray × Int), l[j]? = some p → p.1 ≠ k) :
    Calls Try.prog 13 #[.slice A l.length c, .string k] w fun e w' => e = .returned (.tuple #[.int .i64 0, .bool false]) ∧ w = w' := by
  obtain ⟨n, hln⟩ : ∃ n, l.length = n := ⟨_, rfl⟩
  obtain ⟨B, hown⟩ := hin
  rw [hln] at hown hn ⊢
  have HL := Lib.hid hln
  have HLO := Lib.hid hlo
  have hnb : (n : Int) ≤ 1000 := by omega
  clear hln hlo
  go_enter Try.func13, Try.ntmps13
  go_wp2
  go_loopg [9] n (fun g x wr => w = wr ∧ ∃ i, x = .int .i64 ((i : Nat) : Int) ∧ i + g = n)
  case atStart => exact ⟨rfl, 0, rfl, by omega⟩
  case round =>
    obtain ⟨rfl, i, rfl, hi⟩ := hrel
    have hi0' : (0 : Int) ≤ (i : Int) := by omega
    have ib : (i : Int) ≤ 1000 := by omega
    by_cases hlt : i < n
    · have hlt' : (i : Int) < (n : Int) := by omega
      obtain ⟨g, cg, hA, _, hgl⟩ := hown.form (by omega)
      obtain ⟨rfl, rfl⟩ : A = some ⟨g, 0, none⟩ ∧ cg = c := by injection hA with e1 e2 e3; exact ⟨e1, e3.symm⟩
      obtain ⟨p, hp⟩ : ∃ p, l[i]? = some p := ⟨_, List.getElem?_eq_getElem (by rw [HL.out]; omega)⟩
      have k0 := cell_key hown (Below.refl _ _) hgl hp HL.out (by omega)
      have e1 : (p.1.toList == k.toList) = false := eqS_ne (HLO.out i p hp)
      clear hp hown hA
      obtain ⟨pk, pv⟩ := p
      go_wp2
      go_roundg (gk - 1)
      case measure => omega
      case rel => exact ⟨rfl, i + 1, by go_num, by omega⟩
    · have hge : (n : Int) ≤ (i : Int) := by omega
      clear hown
      go_wp2
      go_ret2
      exact ⟨rfl, rfl⟩

set_option maxRecDepth 100000 in
set_option maxHeartbeats 3200000 in
theorem ref_put (l : List (ByteArray × Int)) (A : Option Addr) (c : Nat) (k : ByteArray) (v : Int) (w : World) (hin : Own w A c l) (hn : l.length ≤ 1000) :
    Calls Try.prog 36 #[.slice A l.length c, .string k, .int .i64 v] w (LstP w (Tr.insL ltS k v l)) := by
  have HBel := ref_below l A c k w hin hn
  obtain ⟨n, hln⟩ : ∃ n, l.length = n := ⟨_, rfl⟩
  obtain ⟨B, hown⟩ := hin
  have hpre : (l.filter fun p => ltS p.1 k).length ≤ n := by rw [← hln]; exact List.length_filter_le _ _
  have hinsL : Hid (Tr.insL ltS k v l = (l.filter (fun p => ltS p.1 k) ++ [(k, v)]) ++ l.filter (fun p => ltS k p.1)) := (show _ = _ by unfold Tr.insL; simp)
  rw [hln] at hown hn HBel ⊢
  have HL := Lib.hid hln
  have hnb : (n : Int) ≤ 1000 := by omega
  clear hln
  obtain ⟨i0, hi0, hz0, hz1, hz2⟩ := info_parts refInfo
  unfold LstP at HBel
  generalize (l.filter fun p => ltS p.1 k) = pre at *
  obtain ⟨m0, hm0⟩ : ∃ m0, pre.length = m0 := ⟨_, rfl⟩
  rw [hm0] at HBel hpre
  have HM0 := Lib.hid hm0
  clear hm0
  go_enter Try.func36, Try.ntmps36
  go_wp2_with (first
    | (at_builtin; refine wpList_append_lies _ rfl _ _ 28 rfl w.heap.size 48 i0 _ 2 24 Try.underlying28 hi0 hz0 hz1 hz2 rfl (by omega) (.slice Ab m0 cb) m0 _ rfl (hob.alloc _) ⟨wb.heap.size, 0, none⟩ 1 1 [.string k, .int .i64 v] rfl rfl (World.news_of_block (heap_alloc_new wb _)) (by simp [Value.oneCell']) (by omega) (by unfold maxLen; omega) (by omega) (by have := hbb.size; simp; omega) (wb.heap.size + 1) (by simp) ?_
       intro g2 cap2 w2 ho2 hgr2 hat2 hlt2
       have hb2 : Below w.heap.size w w2 := (hbb.alloc hbb.size _).grown hgr2 (by have := hbb.size; simp; omega) (fun k hk => (hob.lt k hk).1))
    | (go_at_call 16; refine HBel.mono ?_; rintro e wb ⟨Ab, cb, rfl, hob, hbb⟩))
  go_loopg [7, 19] n (fun g o x wr => ∃ i m A' c', o = .slice A' m c' ∧ x = .int .i64 ((i : Nat) : Int) ∧ i + g = n ∧ m ≤ m0 + 1 + i ∧ wr.ownsRow w.heap.size 48 2 (.slice A' m c') m (OrdS.cellsL (pre ++ [(k, v)]) ++ OrdS.cellsL ((l.take i).filter (fun p => ltS k p.1))) ∧ Below w.heap.size w wr ∧ Hid (m0 + 1 + ((l.take i).filter (fun p => ltS k p.1)).length = m))
  case atStart => exact ⟨0, m0 + 1, _, _, rfl, rfl, by omega, by omega, by rw [List.take_zero, List.filter_nil, OrdS.cellsL_nil, List.append_nil, OrdS.cellsL_app, OrdS.cellsL_one]; exact ho2, hb2, rfl⟩
  case round =>
    obtain ⟨i, m, A', c', rfl, rfl, hi, hmi, ho, hb, HM⟩ := hrel
    by_cases hlt : i < n
    · have hlt' : (i : Int) < (n : Int) := by omega
      have hi0' : (0 : Int) ≤ (i : Int) := by omega
      have ib : (i : Int) ≤ 1000 := by omega
      obtain ⟨g, cg, hA, _, hgl⟩ := hown.form (by omega)
      obtain ⟨rfl, rfl⟩ : A = some ⟨g, 0, none⟩ ∧ cg = c := by injection hA with e1 e2 e3; exact ⟨e1, e3.symm⟩
      obtain ⟨p, hp⟩ : ∃ p, l[i]? = some p := ⟨_, List.getElem?_eq_getElem (by rw [HL.out]; exact hlt)⟩
      have k0 := cell_key hown hb hgl hp HL.out hlt
      have k1 := cell_val hown hb hgl hp HL.out hlt
      have hgr : g < wr.heap.size := Nat.lt_of_lt_of_le hgl hb.size
      have HT := Lib.hid (take_filter (fun p => ltS k p.1) hp)
      have HMO := Lib.hid HM.out
      clear hA hp hown HL HM ho2 hgr2 hat2 hlt2 hob hbb hb2 HBel
      obtain ⟨pk, pv⟩ := p
      cases hlt2 : ltS k pk with
      | true =>
        have e1 : Op.bytesLess pk.toList k.toList = false := ltS_asymm hlt2
        have e2 : (pk.toList == k.toList) = false := ltS_ne hlt2
        have HP : Hid ((fun p : ByteArray × Int => ltS k p.1) (pk, pv) = true) := hlt2
        go_wp2_with (at_builtin; refine wpList_append_lies _ rfl _ _ 28 rfl w.heap.size 48 i0 _ 2 24 Try.underlying28 hi0 hz0 hz1 hz2 rfl (by omega) (.slice A' m c') m _ rfl (ho.alloc _) ⟨wr.heap.size, 0, none⟩ 1 1 [.string pk, .int .i64 pv] rfl rfl (World.news_of_block (heap_alloc_new wr _)) (by simp [Value.oneCell']) (by omega) (by unfold maxLen; omega) (by omega) (by have := hb.size; simp; omega) (wr.heap.size + 1) (by simp) ?_
                     intro g2 cap2 w2 ho2 hgr2 hat2 hlt2)
        have hb2 : Below w.heap.size w w2 := (hb.alloc hb.size _).grown hgr2 (by have := hb.size; simp; omega) (fun k hk => (ho.lt k hk).1)
        go_roundg (gk - 1)
        case measure => omega
        case rel =>
          have h1 := HT.out
          rw [if_pos HP.out] at h1
          refine ⟨i + 1, m + 1, _, _, rfl, by go_num, by omega, by omega, ?_, hb2, (show _ = _ by rw [h1, List.length_append, ← HMO.out]; rfl)⟩
          rw [h1, OrdS.cellsL_app _ [(pk, pv)], OrdS.cellsL_one, ← List.append_assoc]; exact ho2
      | false =>
        have e0 : (Op.bytesLess pk.toList k.toList = true) ∨ (Op.bytesLess pk.toList k.toList = false ∧ (pk.toList == k.toList) = true) := by
          cases e : ltS pk k with
          | true => exact .inl e
          | false => exact .inr ⟨e, by rw [ltS_con e hlt2]; simp⟩
        have HP : Hid (¬ (fun p : ByteArray × Int => ltS k p.1) (pk, pv) = true) := (show ¬ ltS k pk = true by rw [hlt2]; decide)
        clear hi0 hz0 hz1 hz2
        rcases e0 with e1 | ⟨e1, e2⟩
        all_goals
          go_wp2
          go_roundg (gk - 1)
          case measure => omega
          case rel =>
            have h1 := HT.out
            rw [if_neg HP.out, List.append_nil] at h1
            exact ⟨i + 1, m, A', c', rfl, by go_num, by omega, by omega, by rw [h1]; exact ho, hb, (show _ = _ by rw [h1]; exact HMO.out)⟩
    · have hge : (n : Int) ≤ (i : Int) := by omega
      have hall : l.take i = l := List.take_of_length_le (by rw [HL.out]; omega)
      have HO : LstP w (Tr.insL ltS k v l) (.returned (.slice A' m c')) wr := by
        have h1 := HM.out
        rw [hall] at h1 ho
        rw [hinsL.out]
        have h2 : m = ((pre ++ [(k, v)]) ++ l.filter (fun p => ltS k p.1)).length := by rw [← h1, List.length_append, List.length_append, HM0.out]; rfl
        rw [← OrdS.cellsL_app] at ho
        rw [h2] at ho ⊢
        exact ⟨A', c', rfl, ho, hb⟩
      clear hall ho hown HL HM
      go_wp2
      go_ret
      exact HO

/-- The law's look at two lists: they are the same. -/
theorem same_eq (l : List (ByteArray × Int)) (A C : Option Addr) (c d : Nat) (w : World) (h1 : ∃ B, w.ownsRow B 44 2 (.slice A l.length c) l.length (OrdS.cellsL l)) (h2 : Own w C d l) (hn : l.length ≤ 1000) :
    Calls Try.prog 17 #[.slice A l.length c, .slice C l.length d] w fun e w' => e = .returned (.bool true) ∧ Below w.heap.size w w' := by
  obtain ⟨n, hln⟩ : ∃ n, l.length = n := ⟨_, rfl⟩
  obtain ⟨B, ho1⟩ := h1
  obtain ⟨B2, ho2⟩ := h2
  rw [hln] at ho1 ho2 hn ⊢
  have HL := Lib.hid hln
  have hnb : (n : Int) ≤ 1000 := by omega
  clear hln
  go_enter Try.func17, Try.ntmps17
  go_wp2
  go_loopg [13] n (fun g x wr => ∃ i, x = .int .i64 ((i : Nat) : Int) ∧ i + g = n ∧ Below w.heap.size w wr)
  case atStart => exact ⟨0, rfl, by omega, Below.refl _ _⟩
  case round =>
    obtain ⟨i, rfl, hi, hb⟩ := hrel
    have hi0' : (0 : Int) ≤ (i : Int) := by omega
    have ib : (i : Int) ≤ 1000 := by omega
    by_cases hlt : i < n
    · have hlt' : (i : Int) < (n : Int) := by omega
      obtain ⟨g, cg, hA, _, hgl⟩ := ho1.form (by omega)
      obtain ⟨rfl, rfl⟩ : A = some ⟨g, 0, none⟩ ∧ cg = c := by injection hA with e1 e2 e3; exact ⟨e1, e3.symm⟩
      obtain ⟨g2, cg2, hA2, _, hgl2⟩ := ho2.form (by omega)
      obtain ⟨rfl, rfl⟩ : C = some ⟨g2, 0, none⟩ ∧ cg2 = d := by injection hA2 with e1 e2 e3; exact ⟨e1, e3.symm⟩
      obtain ⟨p, hp⟩ : ∃ p, l[i]? = some p := ⟨_, List.getElem?_eq_getElem (by rw [HL.out]; omega)⟩
      have k0 := cell_key ho1 hb hgl hp HL.out (by omega)
      have k1 := cell_val ho1 hb hgl hp HL.out (by omega)
      have k2 := cell_key ho2 hb hgl2 hp HL.out (by omega)
      have k3 := cell_val ho2 hb hgl2 hp HL.out (by omega)
      clear hp ho1 ho2 hA hA2
      obtain ⟨pk, pv⟩ := p
      go_wp2
      go_region_held3 (fun w' => (w'.cell? ⟨g, i * 2, none⟩ = some (.string pk) ∧ w'.cell? ⟨g, i * 2 + 1, none⟩ = some (.int .i64 pv)) ∧ w'.cell? ⟨g2, i * 2, none⟩ = some (.string pk) ∧ w'.cell? ⟨g2, i * 2 + 1, none⟩ = some (.int .i64 pv)) (go_keep) (fail)
      go_wp2
      go_roundg (gk - 1)
      case measure => omega
      case rel => exact ⟨i + 1, by go_num, by omega, hb.drew⟩
    · have hge : (n : Int) ≤ (i : Int) := by omega
      clear ho1 ho2
      go_wp2
      go_ret
      exact ⟨rfl, hb⟩

end Go.Proofs.Ytjccjbnbjcbagaa.OrdRef
