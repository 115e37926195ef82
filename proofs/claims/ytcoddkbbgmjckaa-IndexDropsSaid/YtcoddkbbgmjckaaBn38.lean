/- The map's At; what begins so; where Behind begins and ends. (Written by mkpi.py.) -/
import Derived.Test.YtcoddkbbgmjckaaBn35
namespace Go.Proofs.Ytcoddkbbgmjckaa
open Go.RowKit
set_option linter.unusedVariables false
set_option linter.unusedSimpArgs false
attribute [local go_sem] Oper.semAt_some

set_option maxRecDepth 100000 in
set_option maxHeartbeats 3200000 in
theorem atM_yes {P : Nat → Prop} (u : Option Addr) (t : MapKh.T) (i : Nat) (p : ByteArray × HL) (w : World) (h : MapKh.Rp P w u t) (hs : t.size ≤ 4000000) (hi6 : i ≤ 4000000) (hp : t.list[i]? = some p) :
    Calls Try.prog 61 #[ixV u, .int .i64 (i : Int)] w fun e w' => e = .returned (.tuple #[.agg #[.string p.1, hlV p.2], .bool true]) ∧ Below w.heap.size w w' := by
  obtain ⟨W1, hW1⟩ : ∃ W1, ((w.alloc (.cells #[.pointer u] 30)).alloc (.cells #[.string ⟨#[]⟩, .slice none 0 0] 81)) = W1 := ⟨_, rfl⟩
  have hb1 : Below w.heap.size w W1 := by rw [← hW1]; exact (((Below.refl _ _).alloc (Nat.le_refl _) _).alloc (by simp) _)
  have hs1 : W1.heap.size = w.heap.size + 2 := by rw [← hW1]; simp
  have hr0 : W1.heap[w.heap.size + 0]? = some (.cells #[.pointer u] 30) := by rw [← hW1]; exact (alloc2_at w _ _).1
  have hr1 : W1.heap[w.heap.size + 1]? = some (.cells #[.string ⟨#[]⟩, .slice none 0 0] 81) := by rw [← hW1]; exact (alloc2_at w _ _).2
  have hi : i < t.size := by
    rcases Nat.lt_or_ge i t.list.length with h1 | h1
    · rwa [Tr.length_list] at h1
    · rw [List.getElem?_eq_none h1] at hp; cases hp
  have hL := fun W (hW : Below w.heap.size w W) => MapKh.len_map t u W (h.below hW (Nat.le_refl _))
  have hA := fun W (hW : Below w.heap.size w W) => MapKh.at_any t u i p W (h.below hW (Nat.le_refl _)) hs hp
  have HB := Lib.hid (And.intro hb1 (And.intro hs1 hr1))
  have x0 : W1.cell? ⟨w.heap.size, 0, none⟩ = some (.pointer u) := (row1 hr0).1
  have HX := Lib.hid (show ∀ W, Below W1.heap.size W1 W → W.cell? ⟨w.heap.size, 0, none⟩ = some (.pointer u) from fun W hW => (row1 ((hW.block _ (hlq hr0)).trans hr0)).1)
  have j1 : decide ((i : Int) < 0) = false := decide_eq_false (by omega)
  have j2 : decide ((t.size : Int) ≤ (i : Int)) = false := decide_eq_false (by omega)
  have hl := hL W1 hb1
  have HL := Lib.hid hL
  clear h hr0 hr1 hs1 hb1 hL hp
  have HA := Lib.hid hA
  clear hA
  obtain ⟨pk, ph⟩ := p
  go_enter Try.func61, Try.ntmps61
  go_wp2_with fail
  try rw [hW1]
  refine hl.mono ?_
  rintro e w2 ⟨rfl, hb2⟩
  have HB2 := Lib.hid (And.intro (HB.out.1.trans (hb2.mono HB.out.1.size)) ((hb2.block _ (hlq HB.out.2.2)).trans HB.out.2.2))
  have x2 := HX.out w2 hb2
  clear hl hb2 x0 hW1
  have ha := HA.out w2 HB2.out.1
  dsimp only [hlV] at ha
  go_wp2_with fail
  refine ha.mono ?_
  rintro e w3 ⟨rfl, hb3⟩
  have hr3 := (hb3.block _ (hlq HB2.out.2)).trans HB2.out.2
  have HZ := Lib.hid (And.intro (setRow_heap w3 _ _ #[.string pk, .slice ph.B ph.h.length ph.c] _ _ hr3) (below_setRow (HB2.out.1.trans (hb3.mono HB2.out.1.size)) (show w.heap.size ≤ w.heap.size + 1 from Nat.le_succ _) #[.string pk, .slice ph.B ph.h.length ph.c]))
  clear ha hb3 x2
  go_wp2_with (refine wpList_store_row rfl _ _ _ rfl (w.heap.size + 1) #[.string pk, .slice ph.B ph.h.length ph.c] (by rfl) (by rfl) _ _ hr3 (by kernel_rfl) rfl (by first | rfl | kernel_rfl | simp [Value.oneCell']) ?_)
  refine bodyPost_ret (res_cell_tmp' (n := w.heap.size + 1) rfl rfl HZ.out.1 Try.underlying81 rfl (by kernel_rfl)) rfl ?_
  exact ⟨rfl, HZ.out.2⟩

set_option maxRecDepth 100000 in
set_option maxHeartbeats 3200000 in
theorem atM_no {P : Nat → Prop} (u : Option Addr) (t : MapKh.T) (i : Nat) (w : World) (h : MapKh.Rp P w u t) (hs : t.size ≤ 4000000) (hi6 : i ≤ 4000000) (hi : t.size ≤ i) :
    Calls Try.prog 61 #[ixV u, .int .i64 (i : Int)] w fun e w' => e = .returned (.tuple #[.agg #[.string ⟨#[]⟩, .slice none 0 0], .bool false]) ∧ Below w.heap.size w w' := by
  obtain ⟨W1, hW1⟩ : ∃ W1, ((w.alloc (.cells #[.pointer u] 30)).alloc (.cells #[.string ⟨#[]⟩, .slice none 0 0] 81)) = W1 := ⟨_, rfl⟩
  have hb1 : Below w.heap.size w W1 := by rw [← hW1]; exact (((Below.refl _ _).alloc (Nat.le_refl _) _).alloc (by simp) _)
  have hs1 : W1.heap.size = w.heap.size + 2 := by rw [← hW1]; simp
  have hr0 : W1.heap[w.heap.size + 0]? = some (.cells #[.pointer u] 30) := by rw [← hW1]; exact (alloc2_at w _ _).1
  have hr1 : W1.heap[w.heap.size + 1]? = some (.cells #[.string ⟨#[]⟩, .slice none 0 0] 81) := by rw [← hW1]; exact (alloc2_at w _ _).2
  have hL := fun W (hW : Below w.heap.size w W) => MapKh.len_map t u W (h.below hW (Nat.le_refl _))
  have HB := Lib.hid (And.intro hb1 (And.intro hs1 hr1))
  have x0 : W1.cell? ⟨w.heap.size, 0, none⟩ = some (.pointer u) := (row1 hr0).1
  have HX := Lib.hid (show ∀ W, Below W1.heap.size W1 W → W.cell? ⟨w.heap.size, 0, none⟩ = some (.pointer u) from fun W hW => (row1 ((hW.block _ (hlq hr0)).trans hr0)).1)
  have j1 : decide ((i : Int) < 0) = false := decide_eq_false (by omega)
  have j2 : decide ((t.size : Int) ≤ (i : Int)) = true := decide_eq_true (by omega)
  have hl := hL W1 hb1
  have HL := Lib.hid hL
  clear h hr0 hr1 hs1 hb1 hL
  go_enter Try.func61, Try.ntmps61
  go_wp2_with fail
  try rw [hW1]
  refine hl.mono ?_
  rintro e w2 ⟨rfl, hb2⟩
  have HB2 := Lib.hid (And.intro (HB.out.1.trans (hb2.mono HB.out.1.size)) ((hb2.block _ (hlq HB.out.2.2)).trans HB.out.2.2))
  have x2 := HX.out w2 hb2
  clear hl hb2 x0 hW1
  have hr2 := HB2.out.2
  have HZ := Lib.hid (And.intro (setRow_heap w2 _ _ #[.string ⟨#[]⟩, .slice none 0 0] _ _ hr2) (below_setRow HB2.out.1 (show w.heap.size ≤ w.heap.size + 1 from Nat.le_succ _) #[.string ⟨#[]⟩, .slice none 0 0]))
  go_wp2_with (refine wpList_store_row rfl _ _ _ rfl (w.heap.size + 1) #[.string ⟨#[]⟩, .slice none 0 0] (by rfl) (by rfl) _ _ hr2 (by kernel_rfl) rfl (by first | rfl | kernel_rfl | simp [Value.oneCell']) ?_)
  refine bodyPost_ret (res_cell_tmp' (n := w.heap.size + 1) rfl rfl HZ.out.1 Try.underlying81 rfl (by kernel_rfl)) rfl ?_
  exact ⟨rfl, HZ.out.2⟩

theorem hasPre_any (s pre : ByteArray) (hs : s.size ≤ maxLen) (hp : pre.size ≤ maxLen) (w : World) : Calls Try.prog 92 #[.string s, .string pre] w fun e w' => e = .returned (.bool (Idx.begins s pre)) ∧ w' = w := by
  unfold maxLen at hs hp
  have HB : Hid (Idx.begins s pre = (decide (pre.size ≤ s.size) && decide (s.extract 0 pre.size = pre))) := ⟨rfl⟩
  by_cases h : pre.size ≤ s.size
  · have e1 : decide ((pre.size : Int) ≤ (s.size : Int)) = true := decide_eq_true (by omega)
    have hsl : ∀ W : World, (Instr.slice 9 (.string s) none (some (.int .i64 (pre.size : Int))) none).run Try.prog W = .ok (.string (s.extract 0 pre.size)) W := fun W => by
      have := run_slice_string_h (P := Try.prog) W 9 s Try.underlying9 .i64 (pre.size : Int) (by omega) (by omega)
      simpa using this
    have he : ((s.extract 0 pre.size).toList == pre.toList) = decide (s.extract 0 pre.size = pre) := bytes_list _ _
    have HH := Lib.hid h
    clear h
    generalize s.extract 0 pre.size = ss at *
    generalize decide (ss = pre) = q at *
    go_enter Try.func92, Try.ntmps92
    go_wp2
    go_ret
    exact ⟨by rw [HB.out, decide_eq_true HH.out, Bool.true_and]; first | rfl | (rw [← he]; rfl), rfl⟩
  · have e1 : decide ((pre.size : Int) ≤ (s.size : Int)) = false := decide_eq_false (by omega)
    have HH := Lib.hid h
    clear h
    go_enter Try.func92, Try.ntmps92
    go_wp2
    go_ret
    exact ⟨by rw [HB.out, decide_eq_false HH.out, Bool.false_and]; rfl, rfl⟩
theorem hasPrefix_any (s pre : ByteArray) (hs : s.size ≤ maxLen) (hp : pre.size ≤ maxLen) (w : World) : Calls Try.prog 62 #[.string s, .string pre] w fun e w' => e = .returned (.bool (Idx.begins s pre)) ∧ w' = w := by
  have hC := hasPre_any s pre hs hp w
  go_enter Try.func62, Try.ntmps62
  go_wp2_with fail
  refine hC.mono ?_
  rintro e w1 ⟨rfl, rfl⟩
  go_wp2
  go_ret
  exact ⟨rfl, rfl⟩

theorem less_pre : ∀ pre x : List UInt8, pre <+: x → Op.bytesLess x pre = false
  | [], x, _ => by cases x <;> rfl
  | p :: pre, x, h => by
    obtain ⟨t, rfl⟩ := h
    show (decide (p < p) || (p == p && Op.bytesLess (pre ++ t) pre)) = false
    rw [less_pre pre _ ⟨t, rfl⟩, decide_eq_false (by rw [UInt8.lt_iff_toNat_lt]; exact Nat.lt_irrefl _), Bool.and_false]
    rfl
theorem pre_down : ∀ pre a b : List UInt8, Op.bytesLess a pre = false → Op.bytesLess a b = true → pre <+: b → pre <+: a
  | [], a, b, _, _, _ => List.nil_prefix
  | p :: pre, [], b, h1, _, _ => by cases h1
  | p :: pre, x :: a, b, h1, h2, h3 => by
    obtain ⟨t, rfl⟩ := h3
    have g1 : (decide (x < p) || (x == p && Op.bytesLess a pre)) = false := h1
    have g2 : (decide (x < p) || (x == p && Op.bytesLess a (pre ++ t))) = true := h2
    rw [Bool.or_eq_false_iff] at g1
    rw [g1.1, Bool.false_or, Bool.and_eq_true] at g2
    obtain rfl : x = p := by simpa using g2.1
    have g3 : Op.bytesLess a pre = false := by have := g1.2; simpa using this
    obtain ⟨t', e⟩ := pre_down pre a (pre ++ t) g3 g2.2 ⟨t, rfl⟩
    exact ⟨t', by rw [List.cons_append, e]⟩
theorem begins_iff (s pre : ByteArray) : Idx.begins s pre = true ↔ pre.toList <+: s.toList := by
  unfold Idx.begins
  rw [Bool.and_eq_true, decide_eq_true_eq, decide_eq_true_eq, ByteArray.toList_eq, ByteArray.toList_eq]
  have h1 : (s.extract 0 pre.size).data.toList = s.data.toList.take pre.size := by simp
  have h2 : pre.size = pre.data.toList.length := Array.length_toList.symm
  have h3 : s.size = s.data.toList.length := Array.length_toList.symm
  constructor
  · rintro ⟨_, e⟩
    rw [List.prefix_iff_eq_take, ← h2, ← h1, e]
  · intro h
    refine ⟨by rw [h2, h3]; exact h.length_le, ?_⟩
    rw [List.prefix_iff_eq_take, ← h2, ← h1] at h
    have h4 : (s.extract 0 pre.size).data = pre.data := by rw [← Array.toList_inj]; exact h.symm
    cases hq : s.extract 0 pre.size with
    | mk d => rw [hq] at h4; cases pre; exact congrArg ByteArray.mk h4
theorem begins_ge {s pre : ByteArray} (h : Idx.begins s pre = true) : ltS s pre = false := less_pre _ _ ((begins_iff s pre).1 h)
theorem begins_down {a b pre : ByteArray} (h1 : ltS a pre = false) (h2 : ltS a b = true) (h3 : Idx.begins b pre = true) : Idx.begins a pre = true := (begins_iff a pre).2 (pre_down _ _ _ h1 h2 ((begins_iff b pre).1 h3))

/-- How many are below a key: those at the places below that. -/
theorem cut_lt {l : List Idx.KH} (h : l.Pairwise fun a b => ltS a.1 b.1 = true) (a : ByteArray) : ∀ j (hj : j < l.length), ltS l[j].1 a = decide (j < (l.filter fun p => ltS p.1 a).length) := by
  induction l with
  | nil => intro j hj; cases hj
  | cons x l ih =>
    obtain ⟨h1, h2⟩ := List.pairwise_cons.1 h
    intro j hj
    cases hx : ltS x.1 a with
    | true =>
      rw [List.filter_cons, if_pos hx, List.length_cons]
      cases j with
      | zero => rw [List.getElem_cons_zero, hx, decide_eq_true (by omega)]
      | succ j =>
        rw [List.getElem_cons_succ, ih h2 j (by simpa using hj)]
        by_cases e : j < (l.filter fun p => ltS p.1 a).length
        · rw [decide_eq_true e, decide_eq_true (by omega)]
        · rw [decide_eq_false e, decide_eq_false (by omega)]
    | false =>
      have hall : ∀ y ∈ l, ltS y.1 a = false := fun y hy => by
        cases hy1 : ltS y.1 a with
        | false => rfl
        | true => have := ltS_trans (h1 y hy) hy1; rw [hx] at this; cases this
      rw [List.filter_cons, if_neg (by rw [hx]; exact Bool.false_ne_true), List.filter_eq_nil_iff.2 fun y hy => by rw [hall y hy]; exact Bool.false_ne_true]
      rw [decide_eq_false (by simp)]
      cases j with
      | zero => exact hx
      | succ j => exact hall _ (List.getElem_mem _)
/-- Where Behind begins, and ends. -/
structure BehS (l : List Idx.KH) (pre after : ByteArray) (s : Nat) : Prop where
  lo : ∀ j (hj : j < l.length), j < s → Idx.behB pre after l[j].1 = false
  hi : ∀ j (hj : j < l.length), s ≤ j → Idx.begins l[j].1 pre = true → Idx.behB pre after l[j].1 = true
  st : ∀ i (hi : i < l.length) j (hj : j < l.length), s ≤ i → i ≤ j → Idx.begins l[i].1 pre = false → Idx.behB pre after l[j].1 = false
theorem beh_start {l : List Idx.KH} (h : l.Pairwise fun a b => ltS a.1 b.1 = true) (pre after : ByteArray) : BehS l pre after (max (l.filter fun p => ltS p.1 pre).length (l.filter fun p => ltS p.1 (nextB after)).length) := by
  refine ⟨fun j hj hs => ?_, fun j hj hs hb => ?_, fun i hi j hj hs hij hb => ?_⟩
  · have h1 := cut_lt h pre j hj
    have h2 := cut_lt h (nextB after) j hj
    unfold Idx.behB
    by_cases e : j < (l.filter fun p => ltS p.1 pre).length
    · rw [decide_eq_true e] at h1
      cases hb : Idx.begins l[j].1 pre with
      | false => rfl
      | true => rw [begins_ge hb] at h1; cases h1
    · rw [decide_eq_true (by omega), ltS_next, Bool.or_eq_true, decide_eq_true_eq] at h2
      rcases h2 with h2 | h2
      · rw [linS.as h2, Bool.and_false]
      · rw [h2, ltS_irr, Bool.and_false]
  · have h2 := cut_lt h (nextB after) j hj
    rw [decide_eq_false (by omega), ltS_next, Bool.or_eq_false_iff, decide_eq_false_iff_not] at h2
    unfold Idx.behB
    rw [hb, Bool.true_and]
    cases h3 : ltS after l[j].1 with
    | true => rfl
    | false => exact absurd (ltS_con h2.1 h3) h2.2
  · have h1 := cut_lt h pre i hi
    rw [decide_eq_false (by omega)] at h1
    unfold Idx.behB
    cases hb2 : Idx.begins l[j].1 pre with
    | false => rfl
    | true =>
      rcases Nat.lt_or_ge i j with e | e
      · have h4 := List.pairwise_iff_getElem.1 h i j hi hj e
        rw [begins_down h1 h4 hb2] at hb
        cases hb
      · obtain rfl : i = j := by omega
        rw [hb2] at hb
        cases hb
/-- What is told so far. -/
def behT (l : List Idx.KH) (pre after : ByteArray) (r : Int) (i : Nat) : List (ByteArray × Ver) := (l.take i).filterMap (Idx.itemO r (Idx.behB pre after))
theorem itemO_no {r : Int} {f : ByteArray → Bool} {p : Idx.KH} (h : f p.1 = false) : Idx.itemO r f p = none := by
  unfold Idx.itemO
  cases His.atL p.2 r with
  | none => rfl
  | some v => exact if_neg (by rw [h]; exact Bool.false_ne_true)
theorem itemO_yes {r : Int} {f : ByteArray → Bool} {p : Idx.KH} (h : f p.1 = true) : Idx.itemO r f p = (His.atL p.2 r).map fun v => (p.1, v) := by
  unfold Idx.itemO
  cases His.atL p.2 r with
  | none => rfl
  | some v => exact if_pos h
section
variable {l : List Idx.KH} {pre after : ByteArray} {r : Int} {s i : Nat}
theorem BehS.start (h : BehS l pre after s) (hs : s ≤ l.length) : behT l pre after r s = [] := by
  unfold behT
  refine List.filterMap_eq_nil_iff.2 fun p hp => ?_
  obtain ⟨j, hj, rfl⟩ := List.mem_iff_getElem.1 hp
  rw [List.length_take] at hj
  rw [List.getElem_take]
  exact itemO_no (h.lo j (by omega) (by omega))
theorem BehS.step (h : BehS l pre after s) (hs : s ≤ i) (hi : i < l.length) (hb : Idx.begins l[i].1 pre = true) : behT l pre after r (i + 1) = behT l pre after r i ++ ((His.atL l[i].2 r).map fun v => (l[i].1, v)).toList := by
  unfold behT
  rw [fm_take _ hi, itemO_yes (h.hi i hi hs hb)]
theorem BehS.done (h : BehS l pre after s) (hs : s ≤ i) (hi : (hi : i < l.length) → Idx.begins l[i].1 pre = false) : Idx.itemsI l r (Idx.behB pre after) = behT l pre after r i := by
  have e : Idx.itemsI l r (Idx.behB pre after) = behT l pre after r i ++ (l.drop i).filterMap (Idx.itemO r (Idx.behB pre after)) := by
    unfold Idx.itemsI behT
    rw [← List.filterMap_append, List.take_append_drop]
  rw [e, List.filterMap_eq_nil_iff.2 fun p hp => ?_, List.append_nil]
  obtain ⟨j, hj, rfl⟩ := List.mem_iff_getElem.1 hp
  rw [List.length_drop] at hj
  rw [List.getElem_drop]
  exact itemO_no (h.st i (by omega) (i + j) (by omega) hs (by omega) (hi (by omega)))
theorem behT_more (l : List Idx.KH) (pre after : ByteArray) (r : Int) (i : Nat) : ∃ us, Idx.itemsI l r (Idx.behB pre after) = behT l pre after r i ++ us := by
  refine ⟨(l.drop i).filterMap (Idx.itemO r (Idx.behB pre after)), ?_⟩
  unfold Idx.itemsI behT
  rw [← List.filterMap_append, List.take_append_drop]
end

end Go.Proofs.Ytcoddkbbgmjckaa
