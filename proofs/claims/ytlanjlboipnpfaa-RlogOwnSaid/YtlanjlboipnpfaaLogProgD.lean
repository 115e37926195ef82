/- The program's copies, by its contract. -/
import Derived.Test.YtlanjlboipnpfaaLogProgC
import Derived.Outline
namespace Go.Proofs.Ytlanjlboipnpfaa
open Go.RowKit
set_option linter.unusedVariables false
set_option linter.unusedSimpArgs false

/-- A row of copies that is being filled: so many stand there. -/
structure CopyAt (w W : World) (n k : Nat) (ys : List Lay) : Prop where
  row : ∃ cur : Array Value, W.heap[w.heap.size]? = some (.cells cur 43 (0, 0)) ∧ cur.size = n * 3 ∧ ∀ (j : Nat) (u : Value), (rowOf ys)[j]? = some u → cur[j]? = some u
  len : ys.length = k
  lays : ∀ y ∈ ys, LayOk W (fun q => w.heap.size < q) y
  below : Below w.heap.size w W

section
variable {w W W2 : World} {n k : Nat} {ys : List Lay}

theorem CopyAt.step (h : CopyAt w W n k ys) (hb : Below W.heap.size W W2) : CopyAt w W2 n k ys := by
  obtain ⟨cur, h1, h2⟩ := h.row
  exact ⟨⟨cur, (hb.block _ (hlt h1)).trans h1, h2⟩, h.len, fun y hy => (h.lays y hy).keep hb.size fun q hq _ => hb.block q hq, h.below.trans (hb.mono h.below.size)⟩

theorem CopyAt.seen (h : CopyAt w W n k ys) (hk : k < n) : ∃ u0 u1 u2, W.cell? ⟨w.heap.size, k * 3, none⟩ = some u0 ∧ W.cell? ⟨w.heap.size, k * 3 + 1, none⟩ = some u1 ∧ W.cell? ⟨w.heap.size, k * 3 + 2, none⟩ = some u2 ∧
    W.frozen? ⟨w.heap.size, k * 3, none⟩ = false ∧ W.frozen? ⟨w.heap.size, k * 3 + 1, none⟩ = false ∧ W.frozen? ⟨w.heap.size, k * 3 + 2, none⟩ = false := by
  obtain ⟨cur, h1, h2, _⟩ := h.row
  have hc : ∀ o, W.cell? ⟨w.heap.size, o, none⟩ = cur[o]? := fun o => cell_of_row W _ o cur _ _ h1
  have hf : ∀ o, W.frozen? ⟨w.heap.size, o, none⟩ = false := fun o => frozen_of_row W _ o cur _ h1
  exact ⟨cur[k * 3]'(by omega), cur[k * 3 + 1]'(by omega), cur[k * 3 + 2]'(by omega), by rw [hc, Array.getElem?_eq_getElem], by rw [hc, Array.getElem?_eq_getElem], by rw [hc, Array.getElem?_eq_getElem], hf _, hf _, hf _⟩

theorem CopyAt.store (h : CopyAt w W n k ys) (hk : k < n) (x : Lay) (hx : LayOk W (fun q => w.heap.size < q) x) :
    CopyAt w (((W.setCell ⟨w.heap.size, k * 3, none⟩ (.int .i64 x.e.i)).setCell ⟨w.heap.size, k * 3 + 1, none⟩ (.int .i64 x.e.t)).setCell ⟨w.heap.size, k * 3 + 2, none⟩ (.slice x.A x.e.d.length x.c)) n (k + 1) (ys ++ [x]) := by
  obtain ⟨cur, h1, h2, h3⟩ := h.row
  have e1 := setCell_at W ⟨w.heap.size, k * 3, none⟩ (.int .i64 x.e.i) cur _ _ rfl h1
  have e2 := setCell_at _ ⟨w.heap.size, k * 3 + 1, none⟩ (.int .i64 x.e.t) _ _ _ rfl e1
  have e3 := setCell_at _ ⟨w.heap.size, k * 3 + 2, none⟩ (.slice x.A x.e.d.length x.c) _ _ _ rfl e2
  have hoff : ∀ q, q ≠ w.heap.size → (((W.setCell ⟨w.heap.size, k * 3, none⟩ (.int .i64 x.e.i)).setCell ⟨w.heap.size, k * 3 + 1, none⟩ (.int .i64 x.e.t)).setCell ⟨w.heap.size, k * 3 + 2, none⟩ (.slice x.A x.e.d.length x.c)).heap[q]? = W.heap[q]? := fun q hq =>
    (Below.heap_setCell _ _ _ _ (by exact hq)).trans ((Below.heap_setCell _ _ _ _ (by exact hq)).trans (Below.heap_setCell _ _ _ _ (by exact hq)))
  have hkeep : ∀ y, LayOk W (fun q => w.heap.size < q) y → LayOk (((W.setCell ⟨w.heap.size, k * 3, none⟩ (.int .i64 x.e.i)).setCell ⟨w.heap.size, k * 3 + 1, none⟩ (.int .i64 x.e.t)).setCell ⟨w.heap.size, k * 3 + 2, none⟩ (.slice x.A x.e.d.length x.c)) (fun q => w.heap.size < q) y := fun y hy => hy.keep (by simp) fun q _ hq => hoff q (by omega)
  refine ⟨⟨_, e3, by simpa using h2, fun j u hu => ?_⟩, by rw [List.length_append, h.len]; rfl, fun y hy => ?_, ((h.below.setCell (Nat.le_refl _) _).setCell (Nat.le_refl _) _).setCell (Nat.le_refl _) _⟩
  · have hl : (rowOf ys).length = k * 3 := by rw [rowOf_length, h.len]
    rw [rowOf_append] at hu
    rcases Nat.lt_or_ge j (k * 3) with hj | hj
    · rw [List.getElem?_append_left (by omega)] at hu
      rw [Array.getElem?_setIfInBounds_ne (by show k * 3 + 2 ≠ j; omega), Array.getElem?_setIfInBounds_ne (by show k * 3 + 1 ≠ j; omega), Array.getElem?_setIfInBounds_ne (by show k * 3 ≠ j; omega)]
      exact h3 j u hu
    · rw [List.getElem?_append_right (by omega), hl] at hu
      have e : rowOf [x] = [.int .i64 x.e.i, .int .i64 x.e.t, .slice x.A x.e.d.length x.c] := by simp [rowOf, cells3]
      rw [e] at hu
      have hj3 : j - k * 3 < 3 := by
        have := (List.getElem?_eq_some_iff.1 hu).1
        simpa using this
      have hc : j = k * 3 ∨ j = k * 3 + 1 ∨ j = k * 3 + 2 := by omega
      rcases hc with rfl | rfl | rfl
      · rw [show k * 3 - k * 3 = 0 by omega] at hu
        rw [Array.getElem?_setIfInBounds_ne (by show k * 3 + 2 ≠ k * 3; omega), Array.getElem?_setIfInBounds_ne (by show k * 3 + 1 ≠ k * 3; omega), Array.getElem?_setIfInBounds_self]
        rw [if_pos (by show k * 3 < cur.size; omega)]
        exact hu
      · rw [show k * 3 + 1 - k * 3 = 1 by omega] at hu
        rw [Array.getElem?_setIfInBounds_ne (by show k * 3 + 2 ≠ k * 3 + 1; omega), Array.getElem?_setIfInBounds_self]
        rw [if_pos (by simp; omega)]
        exact hu
      · rw [show k * 3 + 2 - k * 3 = 2 by omega] at hu
        rw [Array.getElem?_setIfInBounds_self]
        rw [if_pos (by simp; omega)]
        exact hu
  · rcases List.mem_append.1 hy with hy | hy
    · exact hkeep y (h.lays y hy)
    · rw [List.mem_singleton.1 hy]
      exact hkeep x hx

theorem CopyAt.spot (h : CopyAt w W n n ys) (hn : n ≤ maxLen) : Spot W (some ⟨w.heap.size, 0, none⟩) n n ys := by
  obtain ⟨cur, h1, h2, h3⟩ := h.row
  exact ⟨h.len, Nat.le_refl _, hn, (fun e => by cases e), fun a e => by
    injection e with e
    subst e
    exact ⟨_, 0, cur, rfl, h1, by omega, fun j u hu => by rw [Nat.zero_add]; exact h3 j u hu⟩⟩
end

/-- What copies answers. -/
def Copies (w : World) (n : Nat) (ls : List Ent) (e : Ending) (w' : World) : Prop :=
  ∃ ys : List Lay, e = .returned (.slice (some ⟨w.heap.size, 0, none⟩) n n) ∧ Spot w' (some ⟨w.heap.size, 0, none⟩) n n ys ∧ ys.map (·.e) = ls ∧ (∀ y ∈ ys, LayOk w' (fun q => w.heap.size < q) y) ∧ Below w.heap.size w w'

set_option maxRecDepth 100000 in
set_option maxHeartbeats 3200000 in
theorem copies_any (Z : Nat → Prop) (A : Option Addr) (n c : Nat) (ls : List Ent) (w : World) (h : Ents w Z A n c ls) (hm : n ≤ 1000000) (hd : ∀ e ∈ ls, e.d.length ≤ 140737488355328) :
    Calls Try.prog 27 #[.slice A n c] w (Copies w n ls) := by
  obtain ⟨i0, hi0, hz0, hz1, hz2⟩ := info_parts info_ent
  have hmk : ∀ w1 : World, (Instr.makeSlice 22 (.int .i64 (n : Int)) (.int .i64 (n : Int))).run Try.prog w1 = .ok (.slice (some ⟨w1.heap.size, 0, none⟩) n n) (w1.alloc (.cells (madeCells #[.int .i64 0, .int .i64 0, .slice none 0 0] (n * 3)) 43)) := fun w1 => by
    have := run_make (P := Try.prog) w1 22 43 i0 _ Try.underlying22 hi0 hz0 .i64 .i64 (n : Int) (n : Int) (by omega) (Int.le_refl _) (by rw [hz2]; omega) (by omega)
    rw [hz1] at this
    exact this
  have h0 : CopyAt w (w.alloc (.cells (madeCells #[.int .i64 0, .int .i64 0, .slice none 0 0] (n * 3)) 43)) n 0 [] :=
    ⟨⟨_, heap_alloc_new _ _, size_madeCells _ _, fun j u hu => by simp [rowOf] at hu⟩, rfl, fun y hy => by simp at hy, (Below.refl _ _).alloc (Nat.le_refl _) _⟩
  have hll := h.1
  obtain ⟨xs, hxs, hok, hcell⟩ := h.lays
  have hxl : xs.length = n := by rw [← hll, ← hxs, List.length_map]
  have hg0 : 0 < n → ∃ g0 off0, A = some ⟨g0, off0, none⟩ ∧ g0 < w.heap.size := fun h0 => by
    obtain ⟨g0, off0, e, hg, _⟩ := h.2.2.2 h0
    exact ⟨g0, off0, e, hg⟩
  have hdx : ∀ x ∈ xs, x.e.d.length ≤ 140737488355328 := fun x hx => hd _ (by rw [← hxs]; exact List.mem_map.2 ⟨x, hx, rfl⟩)
  have HXS := Lib.hid hxs
  clear h hi0 hz0 hz1 hz2 hxs hd hll
  go_enter Try.func27, Try.ntmps27
  go_wp2
  go_loopg [4, 5, 11] n (fun g s4 s5 kk wr => ∃ (k : Nat) (ys : List Lay), k + g = n ∧ kk = .int .i64 (k : Int) ∧ CopyAt w wr n k ys ∧ ys.map (·.e) = (xs.take k).map (·.e))
  case atStart => exact ⟨0, [], by omega, rfl, h0, by simp⟩
  case round =>
    clear h0 hmk
    obtain ⟨k, ys, hk, rfl, hcp, hmap⟩ := hrel
    have HK := Lib.hid hk
    have HMAP := Lib.hid hmap
    by_cases hkn : k < n
    · have hkn' : (k : Int) < (n : Int) := by omega
      obtain ⟨g0, off0, rfl, hgb⟩ := hg0 (by omega)
      obtain ⟨y0, y1, y2⟩ := lay_at (hcell _ rfl) k (by omega)
      have y0 := (hcp.below.cell (p := ⟨g0, off0 + k * 3, none⟩) hgb).trans y0
      have y1 := (hcp.below.cell (p := ⟨g0, off0 + k * 3 + 1, none⟩) hgb).trans y1
      have y2 := (hcp.below.cell (p := ⟨g0, off0 + k * 3 + 2, none⟩) hgb).trans y2
      have hq := hok _ (List.getElem_mem (show k < xs.length by omega))
      have hqd := hdx _ (List.getElem_mem (show k < xs.length by omega))
      have hsn := List.take_succ_eq_append_getElem (show k < xs.length by omega)
      generalize (xs[k]'(by omega)) = q at *
      have hlies := (hq.keep hcp.below.size fun z hz _ => hcp.below.block z hz).2.1
      obtain ⟨⟨qi, qt, qd⟩, qA, qc⟩ := q
      dsimp only at *
      have hA2 := (Below.refl wr.heap.size wr).alloc (Nat.le_refl _) (.cells #[.int .i64 qi, .int .i64 qt, .slice qA qd.length qc] 43)
      have hC := copied_any qi qt qA qd.length qc qd _ (hlies.below hA2 (Nat.le_refl _)) hqd
      have hcp2 := hcp.step hA2
      have hbs := hcp.below.size
      have HSN := Lib.hid hsn
      clear hcell hok hdx hq hqd hsn hlies hg0 hmap hk
      go_wp2_with fail
      refine hC.mono ?_
      rintro e w3 ⟨E, k', rfl, hok3, _, hb3⟩
      have hcp3 := hcp2.step hb3
      obtain ⟨u0, u1, u2, d0, d1, d2, f0, f1, f2⟩ := hcp3.seen hkn
      have hfin := hcp3.store hkn _ (hok3.mono fun z hz => by rw [World.size_alloc] at hz; omega)
      dsimp only at hfin
      have HF := Lib.hid hfin
      clear hcp hcp2 hcp3 hC hA2 hok3 hb3 hfin
      go_wp2
      go_roundg (gk - 1)
      case measure => have : k + gk = n := HK; omega
      case rel => exact ⟨k + 1, ys ++ [⟨⟨qi, qt, qd⟩, E, k'⟩], by have : k + gk = n := HK; omega, by go_num, HF.out, by
        rw [show xs.take (k + 1) = xs.take k ++ [⟨⟨qi, qt, qd⟩, qA, qc⟩] from HSN, List.map_append, List.map_append, show ys.map (·.e) = (xs.take k).map (·.e) from HMAP]
        rfl⟩
    · obtain rfl : k = n := by omega
      have hdec : decide ((k : Int) < (k : Int)) = false := decide_eq_false (by omega)
      have hm' : k ≤ maxLen := by unfold maxLen; omega
      have HE := Lib.hid (show ys.map (·.e) = ls by rw [hmap, List.take_of_length_le (by omega)]; exact HXS)
      clear hcell hok hk hm hmap hdx hg0
      go_wp2
      go_ret
      exact ⟨ys, rfl, hcp.spot hm', HE, hcp.lays, hcp.below⟩

end Go.Proofs.Ytlanjlboipnpfaa
