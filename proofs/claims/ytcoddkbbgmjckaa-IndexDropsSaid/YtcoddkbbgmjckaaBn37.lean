/- Items in a row that is sorted in place: reading one, exchanging two. -/
import Derived.Test.YtcoddkbbgmjckaaBn36
import Derived.Test.YtcoddkbbgmjckaaBn12
import Derived.Laws.IdiomCopy
import Derived.Test.YtcoddkbbgmjckaaBn35
namespace Go.Proofs.Ytcoddkbbgmjckaa
open Go.RowKit
set_option linter.unusedVariables false
set_option linter.unusedSimpArgs false

abbrev KV := ByteArray × Ver
theorem itemC_len (p : KV) : (itemC p).length = 8 := rfl
theorem rowI_atS (ls : List KV) (k : Nat) (hk : k < ls.length) (j : Nat) (hj : j < 8) : (rowI ls)[k * 8 + j]? = (itemC ls[k])[j]? := by
  unfold rowI
  induction ls generalizing k with
  | nil => cases hk
  | cons x xs ih =>
    have hx : (itemC x).length = 8 := rfl
    rw [List.flatMap_cons]
    cases k with
    | zero => rw [List.getElem?_append_left (by omega)]; simp
    | succ k =>
      rw [List.getElem?_append_right (by omega), hx, show (k + 1) * 8 + j - 8 = k * 8 + j by omega, ih k (by simpa using hk)]
      rfl

/-- A row of items that may be written. -/
structure RowW (w : World) (g off n cap : Nat) (ls : List KV) : Prop where
  len : ls.length = n
  sp : Sp 62 8 w (some ⟨g, off, none⟩) n cap (rowI ls)

section
variable {w w' : World} {g off n cap : Nat} {ls : List KV}
theorem RowW.keep (h : RowW w g off n cap ls) (hk : w'.heap[g]? = w.heap[g]?) : RowW w' g off n cap ls := ⟨h.len, h.sp.keep fun q hq => by rw [blk_some] at hq; subst hq; exact hk⟩
theorem RowW.lt (h : RowW w g off n cap ls) : g < w.heap.size := h.sp.lt ((blk_some g off g).2 rfl)
theorem RowW.below (h : RowW w g off n cap ls) (hb : Below w.heap.size w w') : RowW w' g off n cap ls := h.keep (hb.block _ h.lt)
theorem RowW.cell (h : RowW w g off n cap ls) (k : Nat) (hk : k < n) : ∀ j u, (itemC (ls[k]'(by rw [h.len]; exact hk)))[j]? = some u → w.cell? ((⟨g, off + k * 8, none⟩ : Addr).add j) = some u := fun j u hu => by
  have hl := h.len
  obtain ⟨g', off', e, _, hc, _⟩ := h.sp.at_ (by omega) k hk
  injection e with e
  injection e with e1 e2
  subst e1 e2
  have hj : j < 8 := by
    have := (List.getElem?_eq_some_iff.1 hu).1
    rw [itemC_len] at this
    exact this
  rw [Addr.add_lit]
  exact hc j hj u (by rw [rowI_atS ls k (by omega) j hj]; exact hu)
theorem load_run (W : World) (a : Addr) (cs : List Value) (k : Nat) (hk : cs.length = k) (h : ∀ j u, cs[j]? = some u → W.cell? (a.add j) = some u) : Sem.run Try.prog (loadCellsFrom a 0 k #[]) W = .ok cs.toArray W := by
  have := run_loadCells_list (P := Try.prog) (w := W) a cs h
  rw [hk] at this
  simpa [loadCells] using this
theorem RowW.load (h : RowW w g off n cap ls) (k : Nat) (hk : k < n) : Sem.run Try.prog (loadCellsFrom ⟨g, off + k * 8, none⟩ 0 8 #[]) w = .ok (itemC (ls[k]'(by rw [h.len]; exact hk))).toArray w := load_run _ _ _ 8 (itemC_len _) (h.cell k hk)
theorem RowW.block (h : RowW w g off n cap ls) : ∃ cur, w.heap[g]? = some (.cells cur 62 (0, 0)) ∧ off + cap * 8 ≤ cur.size ∧ n ≤ cap ∧ ∀ j u, (rowI ls)[j]? = some u → cur[off + j]? = some u := by
  obtain ⟨g', off', cur, e, hg, hs, hc⟩ := h.sp.2.2.2 _ rfl
  injection e with e1 e2
  subst e1 e2
  exact ⟨cur, hg, hs, h.sp.2.1, hc⟩
theorem RowW.store (h : RowW w g off n cap ls) (k : Nat) (hk : k < n) (x : KV) : Sem.run Try.prog (storeCells ⟨g, off + k * 8, none⟩ (itemC x) 0) w = .ok () (w.setCells g (off + k * 8) (itemC x)) := by
  obtain ⟨cur, hg, hs, hn, _⟩ := h.block
  have := run_storeCells_cells (P := Try.prog) g (off + k * 8) (itemC x) 0 w (fun j hj => by
    rw [itemC_len] at hj
    rw [cell_of_row w g _ cur _ _ hg, Array.getElem?_eq_getElem (by omega)]
    rfl) (fun j hj => frozen_of_row w g _ cur _ hg) (itemC_one x)
  rw [Nat.add_zero] at this
  exact this
theorem RowW.set (h : RowW w g off n cap ls) (k : Nat) (hk : k < n) (x : KV) : RowW (w.setCells g (off + k * 8) (itemC x)) g off n cap (ls.set k x) := by
  have hl := h.len
  obtain ⟨cur, hg, hs, h2, hc⟩ := h.block
  have hx8 : (itemC x).length = 8 := itemC_len x
  obtain ⟨vs, hvs⟩ : ∃ vs, itemC x = vs := ⟨_, rfl⟩
  have hat : ∀ (ys : List KV) (k : Nat) (hk : k < ys.length) (j : Nat), j < 8 → (rowI ys)[k * 8 + j]? = (itemC ys[k])[j]? := rowI_atS
  rw [hvs] at hx8 ⊢
  obtain ⟨C', c1, c2, c3, c4⟩ := setCells_at g vs (off + k * 8) w cur _ _ hg (by omega)
  refine ⟨by rw [List.length_set]; exact hl, ⟨by rw [rowI_len, List.length_set, hl], h2, (fun e => by cases e), fun a e => ⟨g, off, C', (by injection e with e; exact e.symm), c1, by omega, fun j u hu => ?_⟩⟩⟩
  have hj : j < n * 8 := by
    have := (List.getElem?_eq_some_iff.1 hu).1
    rw [rowI_len, List.length_set] at this
    omega
  have hj1 : j / 8 < n := by omega
  have hj2 : j = j / 8 * 8 + j % 8 := by omega
  have hu2 := hat (ls.set k x) (j / 8) (by rw [List.length_set]; omega) (j % 8) (by omega)
  rw [← hj2, hu, List.getElem_set] at hu2
  by_cases e : k = j / 8
  · rw [if_pos e, hvs] at hu2
    have h9 := c4 _ _ hu2.symm
    rw [show off + k * 8 + j % 8 = off + j by omega] at h9
    exact h9
  · rw [if_neg e] at hu2
    rw [c3 (off + j) (by omega)]
    refine hc j u ?_
    have h9 := hat ls (j / 8) (by omega) (j % 8) (by omega)
    rw [← hj2] at h9
    rw [h9, ← hu2]
theorem setCells_keeps (w : World) (g o : Nat) (vs : List Value) : Grew w (w.setCells g o vs) (some ⟨g, 0, none⟩) := by
  obtain ⟨hg, hs⟩ := setCells_grown g vs o w
  exact ⟨hg.os.symm, hg.tape.symm, hg.output.symm, hg.size, fun q hq hn => setCells_off g vs o w q fun e => hn ((blk_some g 0 q).2 e)⟩
end

/-- A row turned to another one of the same things; nothing else of what was there. -/
structure Turn (w w' : World) (g off n cap : Nat) (ls ls' : List KV) : Prop where
  row : RowW w' g off n cap ls'
  grew : Grew w w' (some ⟨g, 0, none⟩)

section
variable {w w' w'' : World} {g off n cap : Nat} {ls ls' ls'' : List KV}
theorem Grew.trans {A : Option Addr} (h : Grew w w' A) (k : Grew w' w'' A) : Grew w w'' A := ⟨h.os.trans k.os, h.tape.trans k.tape, h.output.trans k.output, Nat.le_trans h.size k.size, fun q hq hn => (k.block q (Nat.lt_of_lt_of_le hq h.size) hn).trans (h.block q hq hn)⟩
theorem Grew.of {A : Option Addr} (h : Below w.heap.size w w') : Grew w w' A := ⟨h.os.symm, h.tape.symm, h.output.symm, h.size, fun q hq _ => h.block q hq⟩
theorem Turn.refl (h : RowW w g off n cap ls) : Turn w w g off n cap ls ls := ⟨h, Grew.of (Below.refl _ _)⟩
theorem Turn.trans (h : Turn w w' g off n cap ls ls') (k : Turn w' w'' g off n cap ls' ls'') : Turn w w'' g off n cap ls ls'' := ⟨k.row, h.grew.trans k.grew⟩
theorem Turn.below (h : Turn w w' g off n cap ls ls') (hb : Below w'.heap.size w' w'') : Turn w w'' g off n cap ls ls' := ⟨h.row.below hb, h.grew.trans (Grew.of hb)⟩
/-- Two exchanged. -/
theorem RowW.swap (h : RowW w g off n cap ls) (i j : Nat) (hi : i < n) (hj : j < n) :
    ∃ ls', Sor.Swp i j ls ls' ∧ Turn w ((w.setCells g (off + i * 8) (itemC (ls[j]'(by rw [h.len]; exact hj)))).setCells g (off + j * 8) (itemC (ls[i]'(by rw [h.len]; exact hi)))) g off n cap ls ls' := by
  have hl := h.len
  refine ⟨_, Sor.Swp.set (by omega) (by omega), (h.set i hi _).set j hj _, (setCells_keeps _ _ _ _).trans (setCells_keeps _ _ _ _)⟩
end
end Go.Proofs.Ytcoddkbbgmjckaa

namespace Go.Proofs.Ytcoddkbbgmjckaa
open Go.RowKit
set_option linter.unusedVariables false
set_option linter.unusedSimpArgs false
attribute [local go_sem] Oper.semAt_some

theorem rowI_ones (ls : List KV) : ∀ u ∈ rowI ls, u.oneCell' = true := fun u hu => by
  unfold rowI at hu
  obtain ⟨p, _, hp⟩ := List.mem_flatMap.1 hu
  exact itemC_one p u hp

set_option maxRecDepth 100000 in
set_option maxHeartbeats 3200000 in
theorem cloneV_any (g off n cap : Nat) (l : List Ver) (w : World) (h : Vers w (some ⟨g, off, none⟩) n l) (hl : l.length = n) (hm : n ≤ 900000) :
    Calls Try.prog 74 #[.slice (some ⟨g, off, none⟩) n cap] w fun e w' => ∃ R c, e = .returned (.slice R n c) ∧ Sp 37 7 w' R n c (rowH l) ∧ (∀ q, blk R q → w.heap.size ≤ q) ∧ Below w.heap.size w w' := by
  have HV := Lib.hid h
  have hdl : (rowH l).length = n * 7 := by rw [rowH_len, hl]
  have hq : ∀ (w : World) (a : Option Addr) (n c n' c' : Nat), (binOp .eql 58 (.slice a n c) (.slice none n' c')).run Try.prog w = .ok (.bool a.isNone) w := fun w a n c n' c' => Go.Lib.run_eql_slice_nil w _ _ a n c n' c' Try.underlying58
  clear h
  go_enter Try.func74, Try.ntmps74
  go_upto_region 3 with fail
  go_wp2_with (at_builtin
               go_loud (refine wpList_append_sp elem_ver _ rfl _ _ rfl (some ⟨_, 0, none⟩) 0 0 [] rfl (by exact Sp.empty (heap_alloc_new _ _)) (some ⟨g, off, none⟩) n cap (rowH l) rfl (fun e => by cases e) hdl (rowH_ones l) (fun b e => (HV.out.below (show Below w.heap.size w _ from (by repeat (first | exact Below.refl _ _ | apply Below.drew | apply below_drewN | refine Below.alloc ?_ (by simp) _)))).cells e) (by omega) ?_)
               rw [Nat.zero_add, List.nil_append]
               intro A8 c8 w8 hsp8 hA8 hg8
               have hb8 : Below w.heap.size w w8 := hg8.below (show Below w.heap.size w _ from (by repeat (first | exact Below.refl _ _ | apply Below.drew | apply below_drewN | refine Below.alloc ?_ (by simp) _))) (by simp) (fun q hq => by rw [blk_some] at hq; omega)
               have hn8 : ∀ q, blk A8 q → w.heap.size ≤ q := fun q hq => by
                 rcases hA8 q hq with h1 | h1
                 · rw [blk_some] at h1; omega
                 · simp at h1; omega)
  go_ret
  exact ⟨A8, c8, rfl, hsp8, hn8, hb8⟩

set_option maxRecDepth 100000 in
set_option maxHeartbeats 3200000 in
theorem cloneI_any (g off n cap : Nat) (l : List KV) (w : World) (h : Sp 62 8 w (some ⟨g, off, none⟩) n cap (rowI l)) (hl : l.length = n) (hm : n ≤ 900000) :
    Calls Try.prog 66 #[.slice (some ⟨g, off, none⟩) n cap] w fun e w' => ∃ R c, e = .returned (.slice R n c) ∧ Sp 62 8 w' R n c (rowI l) ∧ (∀ q, blk R q → w.heap.size ≤ q) ∧ Below w.heap.size w w' := by
  have HV := Lib.hid h
  have hdl : (rowI l).length = n * 8 := by rw [rowI_len, hl]
  have hq : ∀ (w : World) (a : Option Addr) (n c n' c' : Nat), (binOp .eql 49 (.slice a n c) (.slice none n' c')).run Try.prog w = .ok (.bool a.isNone) w := fun w a n c n' c' => Go.Lib.run_eql_slice_nil w _ _ a n c n' c' Try.underlying49
  clear h
  go_enter Try.func66, Try.ntmps66
  go_upto_region 3 with fail
  go_wp2_with (at_builtin
               go_loud (refine wpList_append_sp elem_item _ rfl _ _ rfl (some ⟨_, 0, none⟩) 0 0 [] rfl (by exact Sp.empty (heap_alloc_new _ _)) (some ⟨g, off, none⟩) n cap (rowI l) rfl (fun e => by cases e) hdl (rowI_ones l) (fun b e => (HV.out.keep fun q hq => (show Below w.heap.size w _ from (by repeat (first | exact Below.refl _ _ | apply Below.drew | apply below_drewN | refine Below.alloc ?_ (by simp) _))).block q (HV.out.lt hq)).cells e) (by omega) ?_)
               rw [Nat.zero_add, List.nil_append]
               intro A8 c8 w8 hsp8 hA8 hg8
               have hb8 : Below w.heap.size w w8 := hg8.below (show Below w.heap.size w _ from (by repeat (first | exact Below.refl _ _ | apply Below.drew | apply below_drewN | refine Below.alloc ?_ (by simp) _))) (by simp) (fun q hq => by rw [blk_some] at hq; omega)
               have hn8 : ∀ q, blk A8 q → w.heap.size ≤ q := fun q hq => by
                 rcases hA8 q hq with h1 | h1
                 · rw [blk_some] at h1; omega
                 · simp at h1; omega)
  go_ret
  exact ⟨A8, c8, rfl, hsp8, hn8, hb8⟩


theorem Sp.put1 {T : TypeId} {sz n c g off : Nat} {w : World} {vs : List Value} (h : Sp T sz w (some ⟨g, off, none⟩) n c vs) (j : Nat) (u : Value) : Sp T sz (w.setCell ⟨g, off + j, none⟩ u) (some ⟨g, off, none⟩) n c (vs.set j u) := by
  obtain ⟨g', off', cur, e, hg, hs, hc⟩ := h.2.2.2 _ rfl
  injection e with e1 e2
  subst e1 e2
  have h1 := setCell_at w ⟨g, off + j, none⟩ u cur T (0, 0) rfl hg
  refine ⟨by rw [List.length_set]; exact h.1, h.2.1, h.2.2.1, fun a e => ⟨g, off, _, (by injection e with e; exact e.symm), h1, by simpa using hs, fun i v hv => ?_⟩⟩
  rw [List.getElem?_set] at hv
  by_cases e1 : j = i
  · subst e1
    rw [if_pos rfl] at hv
    split at hv
    · injection hv with hv
      subst hv
      have h2 := h.1
      have h3 := Nat.mul_le_mul_right sz h.2.1
      rw [Array.getElem?_setIfInBounds_self]
      rw [if_pos (show off + j < cur.size by omega)]
    · cases hv
  · rw [if_neg e1] at hv
    rw [Array.getElem?_setIfInBounds_ne (by show off + j ≠ off + i; omega)]
    exact hc i v hv
theorem rowK_set : ∀ (ys : List KLay) (k : Nat) (hk : k < ys.length) (y : KLay), y.k = ys[k].k → rowK (ys.set k y) = (rowK ys).set (k * 2 + 1) (.slice y.B y.h.length y.c)
  | [], k, hk, _, _ => by cases hk
  | x :: xs, 0, _, y, e => by
    show y.cells ++ rowK xs = (x.cells ++ rowK xs).set 1 _
    unfold KLay.cells
    rw [e]
    rfl
  | x :: xs, k + 1, hk, y, e => by
    show x.cells ++ rowK (xs.set k y) = (x.cells ++ rowK xs).set ((k + 1) * 2 + 1) _
    rw [rowK_set xs k (by simpa using hk) y (by simpa using e)]
    unfold KLay.cells
    rw [show (k + 1) * 2 + 1 = (k * 2 + 1) + 1 + 1 by omega]
    rfl

/-- A history of the call's own, none of it in the row's block. -/
structure Cln (w wr : World) (R : Option Addr) (y : KLay) : Prop where
  v : Vers wr y.B y.h.length y.h
  own : ∀ q, blk y.B q → w.heap.size ≤ q ∧ ¬ blk R q
  room : Room 37 7 wr y.B y.h.length
  cap : y.h.length ≤ y.c
/-- All's loop: the first k histories are clones. -/
structure AllK (w w2 wr : World) (g off n c : Nat) (xs : List KLay) (k : Nat) (ys : List KLay) : Prop where
  khs : khs ys = khs xs
  sp : Sp 81 2 wr (some ⟨g, off, none⟩) n c (rowK ys)
  lo : ∀ j (hj : j < ys.length), j < k → Cln w wr (some ⟨g, off, none⟩) ys[j]
  hi : ∀ j (hj : j < ys.length) (hx : j < xs.length), k ≤ j → ys[j] = xs[j]
  gr : Grew w2 wr (some ⟨g, 0, none⟩)
theorem Cln.keep {w wr w' : World} {R : Option Addr} {y : KLay} (h : Cln w wr R y) (hs : wr.heap.size ≤ w'.heap.size) (hk : ∀ q, q < wr.heap.size → ¬ blk R q → w'.heap[q]? = wr.heap[q]?) : Cln w w' R y := by
  refine ⟨h.v.keep hs fun q hq hl => hk q hl (h.own q hq).2, h.own, fun h0 => ?_, h.cap⟩
  obtain ⟨g, off, cur, e, hg, hsz⟩ := h.room h0
  exact ⟨g, off, cur, e, (hk g (hlq hg) (h.own g ⟨off, e⟩).2).trans hg, hsz⟩

set_option maxRecDepth 100000 in
set_option maxHeartbeats 3200000 in
theorem allP_any {P : Nat → Prop} (u : Option Addr) (t : MapKh.T) (w : World) (hT : IxTP P w u t) (hF : Fit (kht t)) :
    Calls Try.prog 39 #[ixV u] w fun e w' => ∃ R m c xs, e = .returned (.slice R m c) ∧ OwnP w w' R m c xs ∧ khs xs = kht t ∧ Below w.heap.size w w' := by
  obtain ⟨W1, hW1⟩ : ∃ W1, (w.alloc (.cells #[.pointer u] 32)) = W1 := ⟨_, rfl⟩
  have hb1 : Below w.heap.size w W1 := by rw [← hW1]; exact ((Below.refl _ _).alloc (Nat.le_refl _) _)
  have hs1 : W1.heap.size = w.heap.size + 1 := by rw [← hW1]; simp
  have hr0 : W1.heap[w.heap.size]? = some (.cells #[.pointer u] 32) := by rw [← hW1]; exact heap_alloc_new w _
  have hAl := MapKh.all_map t u W1 (hT.1.below hb1 (Nat.le_refl _)) (by have := hF.n; rw [kht_len] at this; omega)
  have HT := Lib.hid (And.intro hT hF)
  have HB := Lib.hid (And.intro hb1 hs1)
  have z0 : W1.cell? ⟨w.heap.size, 0, none⟩ = some (.pointer u) := (row1 hr0).1
  clear hT hF hb1 hs1 hr0
  go_enter Try.func39, Try.ntmps39
  go_wp2_with fail
  try rw [hW1]
  refine hAl.mono ?_
  rintro e w2 ⟨R, c, rfl, ho, hb2⟩
  obtain ⟨xs, hxs⟩ : ∃ xs, t.list.map klOf = xs := ⟨_, rfl⟩
  obtain ⟨n, hn⟩ : ∃ n, t.list.length = n := ⟨_, rfl⟩
  have hRow := RowP.of ho fun p hp => ⟨(HT.out.1.2.2 p hp).1.below HB.out.1, (HT.out.1.2.2 p hp).2.1⟩
  rw [hn, hxs] at hRow
  rw [hn]
  have hks : khs xs = kht t := by rw [← hxs, khs_of]; rfl
  have hin : ∀ x ∈ xs, ∃ p ∈ t.list, x = klOf p := fun x hx => by
    rw [← hxs] at hx
    obtain ⟨p, hp, e⟩ := List.mem_map.1 hx
    exact ⟨p, hp, e.symm⟩
  have hnl : xs.length = n := by rw [← hxs, List.length_map, hn]
  have hb2' := HB.out.1.trans (hb2.mono HB.out.1.size)
  have HRow := Lib.hid (show RowP w w2 R n c xs from hRow.tree HB.out.1.size HT.out.1 hin)
  have HSep := Lib.hid (show ∀ q, blk R q → w.heap.size < q from fun q hq => by have := hRow.new q hq; rw [HB.out.2] at this; omega)
  have HB2 := Lib.hid hb2'
  have HN := Lib.hid (And.intro hnl hks)
  have hn1 : n ≤ 1000 := by
    have h1 := HT.out.2.n
    rw [← hks] at h1
    unfold khs at h1
    rw [List.length_map] at h1
    omega
  clear hRow hks hin hb2 hb2' hAl z0 hW1 hn hnl ho hxs
  rcases Nat.eq_zero_or_pos n with hn0 | hn0
  · subst hn0
    have HZ := Lib.hid (show xs = [] from List.eq_nil_of_length_eq_zero HN.out.1)
    go_wp2_with fail
    go_loopw [10] (fun v10 wr => v10 = .int .i64 (0 : Int) ∧ wr = w2) (fun _ _ => 0)
    case atStart => exact ⟨rfl, rfl⟩
    case round =>
      obtain ⟨rfl, rfl⟩ := hrel
      go_wp2
      go_ret
      exact ⟨R, 0, c, xs, rfl, ⟨HRow.out.sp, HRow.out.new, (fun x hx => by rw [HZ.out] at hx; cases hx), (fun x hx => by rw [HZ.out] at hx; cases hx), (fun x hx => by rw [HZ.out] at hx; cases hx), fun x hx => by rw [HZ.out] at hx; cases hx⟩, HN.out.2, HB2.out⟩
  obtain ⟨g, off, hRe, _⟩ := HRow.out.at_ 0 hn0
  subst hRe
  have HS := Lib.hid (show AllK w w2 w2 g off n c xs 0 xs from ⟨rfl, HRow.out.sp, fun j _ hj => absurd hj (Nat.not_lt_zero _), fun j _ _ _ => rfl, Grew.of2 w2 _⟩)
  have HG := Lib.hid (show w.heap.size < g ∧ g < w2.heap.size from ⟨HSep.out g ⟨off, rfl⟩, HRow.out.sp.lt ⟨off, rfl⟩⟩)
  go_wp2_with fail
  go_loopw [10] (fun v10 wr => ∃ k : Nat, k ≤ n ∧ v10 = .int .i64 (k : Int) ∧ ∃ ys, AllK w w2 wr g off n c xs k ys) (fun v10 _ => n - (intOf v10).toNat)
  case atStart => exact ⟨0, Nat.zero_le _, rfl, xs, HS.out⟩
  case round =>
    obtain ⟨k, hk, rfl, ys, hA⟩ := hrel
    have HA := Lib.hid hA
    have hyl : ys.length = n := by
      have h1 := congrArg List.length hA.khs
      unfold khs at h1
      rw [List.length_map, List.length_map, HN.out.1] at h1
      exact h1
    have HYl := Lib.hid hyl
    have HBr := Lib.hid (show Below w.heap.size w wr from ⟨hA.gr.os.symm.trans HB2.out.os, hA.gr.tape.symm.trans HB2.out.tape, hA.gr.output.symm.trans HB2.out.output, Nat.le_trans HB2.out.size hA.gr.size, fun q hq => (hA.gr.block q (Nat.lt_of_lt_of_le hq HB2.out.size) fun hx => by rw [blk_some] at hx; have := HG.out.1; omega).trans (HB2.out.block q hq)⟩)
    clear hA hyl
    by_cases hlt : k < n
    · have l1 : decide ((k : Int) < (n : Int)) = true := decide_eq_true (by omega)
      have k4 : (k : Int) < (n : Int) := by omega
      obtain ⟨x, hx⟩ : ∃ x, ys[k]'(by rw [HYl.out]; exact hlt) = x := ⟨_, rfl⟩
      have hxx : xs[k]'(by rw [HN.out.1]; exact hlt) = x := by rw [← hx]; exact (HA.out.hi k _ _ (Nat.le_refl _)).symm
      have hxm : x ∈ xs := by rw [← hxx]; exact List.getElem_mem _
      have hxv := (HRow.out.vs x hxm).1.below HBr.out
      have hkl : k < (khs xs).length := by unfold khs; rw [List.length_map, HN.out.1]; exact hlt
      have hkx : (khs xs)[k] = (x.k, x.h) := by
        rw [← hxx]
        unfold khs
        rw [List.getElem_map]
        rfl
      have hxk : (khs xs)[k] ∈ kht t := by rw [← HN.out.2]; exact List.getElem_mem hkl
      rw [hkx] at hxk
      have hxl : x.h.length ≤ 900000 := by
        have h1 := len_tot hxk
        have h2 := HT.out.2.t
        dsimp only at h1
        omega
      have hxn : x.h ≠ [] := HT.out.2.wf.some _ hxk
      obtain ⟨gx, ox, hBx, _⟩ := hxv.2 (List.length_pos_iff.2 hxn)
      have c1 : wr.cell? ⟨g, off + k * 2 + 1, none⟩ = some (.slice x.B x.h.length x.c) := by
        obtain ⟨g', off', e, _, hc, _⟩ := HA.out.sp.at_ (by omega) k hlt
        injection e with e
        injection e with e1 e2
        subst e1 e2
        exact hc 1 (by omega) _ (by rw [rowK_at ys k (by rw [HYl.out]; exact hlt) 1 (by omega), hx]; rfl)
      rw [hBx] at hxv c1
      have hCl := cloneV_any gx ox x.h.length x.c x.h wr hxv rfl hxl
      have HX := Lib.hid (And.intro hx hxn)
      clear hxx hxm hkl hkx hxk hx
      go_wp2_with fail
      refine hCl.mono ?_
      rintro e w5 ⟨R5, c5, rfl, hsp5, hn5, hb5⟩
      obtain ⟨y, hy⟩ : ∃ y : KLay, y = ⟨x.k, x.h, R5, c5⟩ := ⟨_, rfl⟩
      have hsr := HA.out.sp.keep fun q hq => hb5.block q (HA.out.sp.lt hq)
      have hgr : g < wr.heap.size := HA.out.sp.lt ⟨off, rfl⟩
      have hkp : ∀ q, q < w5.heap.size → ¬ blk (some ⟨g, off, none⟩) q → (w5.setCell ⟨g, off + k * 2 + 1, none⟩ (.slice R5 x.h.length c5)).heap[q]? = w5.heap[q]? := fun q hq hn => Below.heap_setCell _ _ _ _ fun e => hn (by rw [blk_some]; exact e)
      have HE := Lib.hid (show AllK w w2 (w5.setCell ⟨g, off + k * 2 + 1, none⟩ (.slice R5 x.h.length c5)) g off n c xs (k + 1) (ys.set k y) from ⟨by
          rw [← HA.out.khs]
          unfold khs
          rw [List.map_set]
          refine List.ext_getElem? fun i => ?_
          rw [List.getElem?_set]
          split
          · rename_i e
            subst e
            rw [if_pos (by rw [List.length_map, HYl.out]; exact hlt), List.getElem?_eq_getElem (by rw [List.length_map, HYl.out]; exact hlt), List.getElem_map, HX.out.1, hy]
            rfl
          · rfl, by
          rw [rowK_set ys k (by rw [HYl.out]; exact hlt) y (by rw [HX.out.1, hy]), hy, Nat.add_assoc]
          exact hsr.put1 _ _, fun j hj hjk => by
          rw [List.getElem_set]
          split
          · rw [hy]
            have hnr : ∀ q, blk R5 q → w.heap.size ≤ q ∧ ¬ blk (some ⟨g, off, none⟩) q := fun q hq => ⟨Nat.le_trans HBr.out.size (hn5 q hq), fun hx => by rw [blk_some] at hx; have := hn5 q hq; omega⟩
            refine Cln.keep (wr := w5) ⟨hsp5.vers, hnr, fun h0 => ?_, hsp5.2.1⟩ (by simp) hkp
            cases hR : R5 with
            | none => have := hsp5.2.2.1 hR; have := hsp5.2.1; dsimp only at h0; omega
            | some a =>
              obtain ⟨g', off', cur, e, hg', hs', _⟩ := hsp5.2.2.2 a hR
              subst e
              refine ⟨g', off', cur, rfl, hg', ?_⟩
              have := Nat.mul_le_mul_right 7 hsp5.2.1
              dsimp only
              omega
          · rename_i hne
            exact (HA.out.lo j (by simpa using hj) (by omega)).keep (by simp; exact hb5.size) fun q hq hn => (hkp q (Nat.lt_of_lt_of_le hq hb5.size) hn).trans (hb5.block q hq), fun j hj hx hjk => by
          rw [List.getElem_set, if_neg (by omega)]
          exact HA.out.hi j (by simpa using hj) hx (by omega), ⟨HA.out.gr.os.trans hb5.os.symm, HA.out.gr.tape.trans hb5.tape.symm, HA.out.gr.output.trans hb5.output.symm, by simp; exact Nat.le_trans HA.out.gr.size hb5.size, fun q hq hn => by
            rw [Below.heap_setCell _ _ _ _ (fun e => hn (by rw [blk_some]; exact e)), hb5.block q (Nat.lt_of_lt_of_le hq HA.out.gr.size)]
            exact HA.out.gr.block q hq hn⟩⟩)
      have c5' : w5.cell? ⟨g, off + k * 2 + 1, none⟩ = some (.slice (some ⟨gx, ox, none⟩) x.h.length x.c) := (hb5.cell (p := ⟨g, off + k * 2 + 1, none⟩) hgr).trans c1
      have f5 : w5.frozen? ⟨g, off + k * 2 + 1, none⟩ = false := by
        obtain ⟨cur, hg5⟩ := hsr.block ⟨off, rfl⟩
        exact frozen_of_row w5 g _ cur _ hg5
      clear hCl hsp5 hn5 hb5 hsr hkp hxv c1 hy hgr
      go_wp2
      go_roundw
      case rel => exact ⟨k + 1, by omega, by go_num, _, HE.out⟩
      case measure =>
        simp [intOf]
        omega
    · obtain rfl : n = k := by omega
      have l1 : decide ((n : Int) < (n : Int)) = false := decide_eq_false (by omega)
      have hc : ∀ x ∈ ys, Cln w wr (some ⟨g, off, none⟩) x := fun x hx => by
        obtain ⟨j, hj, rfl⟩ := List.mem_iff_getElem.1 hx
        exact HA.out.lo j hj (by rw [← HYl.out]; exact hj)
      have HE := Lib.hid (show OwnP w wr (some ⟨g, off, none⟩) n c ys from ⟨HA.out.sp, HRow.out.new, fun x hx => (hc x hx).v, fun x hx => (hc x hx).own, fun x hx => (hc x hx).room, fun x hx => (hc x hx).cap⟩)
      clear hc
      go_wp2
      go_ret
      exact ⟨_, n, c, ys, rfl, HE.out, HA.out.khs.trans HN.out.2, HBr.out⟩

end Go.Proofs.Ytcoddkbbgmjckaa
