/- The program's copies and From: each entry's bytes lie in a block of its own. -/
import Derived.Test.YtlanjlboipnpfaaLogOwnA
namespace Go.Proofs.Ytlanjlboipnpfaa
open Go.RowKit
set_option linter.unusedVariables false
set_option linter.unusedSimpArgs false

/-- A row of copies: their bytes lie apart. -/
structure CopyOwn (w W : World) (n k : Nat) (ys : List Lay) : Prop where
  at_ : CopyAt w W n k ys
  bare : ∀ y ∈ ys, Bare W y.A
  high : ∀ y ∈ ys, ∀ q, blk y.A q → w.heap.size < q ∧ q < W.heap.size
  apart : ys.Pairwise fun a b => ∀ q, blk a.A q → ¬ blk b.A q

section
variable {w W W2 : World} {n k : Nat} {ys : List Lay}

theorem CopyOwn.step (h : CopyOwn w W n k ys) (hb : Below W.heap.size W W2) : CopyOwn w W2 n k ys :=
  ⟨h.at_.step hb, fun y hy => (h.bare y hy).keep fun q hq => hb.block q (h.high y hy q hq).2, fun y hy q hq => ⟨(h.high y hy q hq).1, Nat.lt_of_lt_of_le (h.high y hy q hq).2 hb.size⟩, h.apart⟩

theorem CopyOwn.store {B : Nat} (h : CopyOwn w W n k ys) (hB : ∀ y ∈ ys, ∀ q, blk y.A q → q < B) (hk : k < n) (x : Lay) (hx : LayOk W (fun q => w.heap.size < q) x) (hxb : Bare W x.A) (hxh : ∀ q, blk x.A q → w.heap.size < q ∧ B ≤ q) :
    CopyOwn w (((W.setCell ⟨w.heap.size, k * 3, none⟩ (.int .i64 x.e.i)).setCell ⟨w.heap.size, k * 3 + 1, none⟩ (.int .i64 x.e.t)).setCell ⟨w.heap.size, k * 3 + 2, none⟩ (.slice x.A x.e.d.length x.c)) n (k + 1) (ys ++ [x]) := by
  have hoff : ∀ q, q ≠ w.heap.size → (((W.setCell ⟨w.heap.size, k * 3, none⟩ (.int .i64 x.e.i)).setCell ⟨w.heap.size, k * 3 + 1, none⟩ (.int .i64 x.e.t)).setCell ⟨w.heap.size, k * 3 + 2, none⟩ (.slice x.A x.e.d.length x.c)).heap[q]? = W.heap[q]? := fun q hq =>
    (Below.heap_setCell _ _ _ _ (by exact hq)).trans ((Below.heap_setCell _ _ _ _ (by exact hq)).trans (Below.heap_setCell _ _ _ _ (by exact hq)))
  refine ⟨h.at_.store hk x hx, fun y hy => ?_, fun y hy q hq => ?_, ?_⟩
  · rcases List.mem_append.1 hy with hy | hy
    · exact (h.bare y hy).keep fun q hq => hoff q (by have := (h.high y hy q hq).1; omega)
    · rw [List.mem_singleton.1 hy]
      exact hxb.keep fun q hq => hoff q (by have := (hxh q hq).1; omega)
  · rcases List.mem_append.1 hy with hy | hy
    · exact ⟨(h.high y hy q hq).1, by simpa using (h.high y hy q hq).2⟩
    · rw [List.mem_singleton.1 hy] at hq
      obtain ⟨cur, hc⟩ := hxb q hq
      exact ⟨(hxh q hq).1, by simpa using hlt hc⟩
  · rw [List.pairwise_append]
    refine ⟨h.apart, List.pairwise_singleton _ _, fun a ha b hb q hqa hqb => ?_⟩
    rw [List.mem_singleton.1 hb] at hqb
    have := hB a ha q hqa
    have := (hxh q hqb).2
    omega
end

/-- What copies answers. -/
def Copies2 (w : World) (n : Nat) (ls : List Ent) (e : Ending) (w' : World) : Prop :=
  ∃ ys : List Lay, e = .returned (.slice (some ⟨w.heap.size, 0, none⟩) n n) ∧ CopyOwn w w' n n ys ∧ ys.map (·.e) = ls

set_option maxRecDepth 100000 in
set_option maxHeartbeats 3200000 in
theorem copies_own (Z : Nat → Prop) (A : Option Addr) (n c : Nat) (ls : List Ent) (w : World) (h : Ents w Z A n c ls) (hm : n ≤ 1000000) (hd : ∀ e ∈ ls, e.d.length ≤ 140737488355328) :
    Calls Try.prog 27 #[.slice A n c] w (Copies2 w n ls) := by
  obtain ⟨i0, hi0, hz0, hz1, hz2⟩ := info_parts info_ent
  have hmk : ∀ w1 : World, (Instr.makeSlice 22 (.int .i64 (n : Int)) (.int .i64 (n : Int))).run Try.prog w1 = .ok (.slice (some ⟨w1.heap.size, 0, none⟩) n n) (w1.alloc (.cells (madeCells #[.int .i64 0, .int .i64 0, .slice none 0 0] (n * 3)) 43)) := fun w1 => by
    have := run_make (P := Try.prog) w1 22 43 i0 _ Try.underlying22 hi0 hz0 .i64 .i64 (n : Int) (n : Int) (by omega) (Int.le_refl _) (by rw [hz2]; omega) (by omega)
    rw [hz1] at this
    exact this
  have h00 : CopyAt w (w.alloc (.cells (madeCells #[.int .i64 0, .int .i64 0, .slice none 0 0] (n * 3)) 43)) n 0 [] :=
    ⟨⟨_, heap_alloc_new _ _, size_madeCells _ _, fun j u hu => by simp [rowOf] at hu⟩, rfl, fun y hy => by simp at hy, (Below.refl _ _).alloc (Nat.le_refl _) _⟩
  have h0 : CopyOwn w (w.alloc (.cells (madeCells #[.int .i64 0, .int .i64 0, .slice none 0 0] (n * 3)) 43)) n 0 [] := ⟨h00, fun y hy => by simp at hy, fun y hy => by simp at hy, List.Pairwise.nil⟩
  clear h00
  have hll := h.1
  obtain ⟨xs, hxs, hok, hcell⟩ := h.lays
  have hxl : xs.length = n := by rw [← hll, ← hxs, List.length_map]
  have hg0 : 0 < n → ∃ g0 off0, A = some ⟨g0, off0, none⟩ ∧ g0 < w.heap.size := fun h0 => by
    obtain ⟨g0, off0, e, hg, _⟩ := h.2.2.2 h0
    exact ⟨g0, off0, e, hg⟩
  have hdx : ∀ x ∈ xs, x.e.d.length ≤ 140737488355328 := fun x hx => hd _ (by rw [← hxs]; exact List.mem_map.2 ⟨x, hx, rfl⟩)
  have HXS := Lib.hid hxs
  clear h hi0 hz0 hz1 hz2 hxs hd hll
  go_enter Try.func27, Try.ntmps27
  go_wp2
  go_loopg [4, 5, 11] n (fun g s4 s5 kk wr => ∃ (k : Nat) (ys : List Lay), k + g = n ∧ kk = .int .i64 (k : Int) ∧ CopyOwn w wr n k ys ∧ ys.map (·.e) = (xs.take k).map (·.e))
  case atStart => exact ⟨0, [], by omega, rfl, h0, by simp⟩
  case round =>
    clear h0 hmk
    obtain ⟨k, ys, hk, rfl, hcp, hmap⟩ := hrel
    have HK := Lib.hid hk
    have HMAP := Lib.hid hmap
    by_cases hkn : k < n
    · have hkn' : (k : Int) < (n : Int) := by omega
      obtain ⟨g0, off0, rfl, hgb⟩ := hg0 (by omega)
      obtain ⟨y0, y1, y2⟩ := lay_at (hcell _ rfl) k (by omega)
      have y0 := (hcp.at_.below.cell (p := ⟨g0, off0 + k * 3, none⟩) hgb).trans y0
      have y1 := (hcp.at_.below.cell (p := ⟨g0, off0 + k * 3 + 1, none⟩) hgb).trans y1
      have y2 := (hcp.at_.below.cell (p := ⟨g0, off0 + k * 3 + 2, none⟩) hgb).trans y2
      have hq := hok _ (List.getElem_mem (show k < xs.length by omega))
      have hqd := hdx _ (List.getElem_mem (show k < xs.length by omega))
      have hsn := List.take_succ_eq_append_getElem (show k < xs.length by omega)
      generalize (xs[k]'(by omega)) = q at *
      have hlies := (hq.keep hcp.at_.below.size fun z hz _ => hcp.at_.below.block z hz).2.1
      obtain ⟨⟨qi, qt, qd⟩, qA, qc⟩ := q
      dsimp only at *
      have hA2 := (Below.refl wr.heap.size wr).alloc (Nat.le_refl _) (.cells #[.int .i64 qi, .int .i64 qt, .slice qA qd.length qc] 43)
      have hC := copied_own qi qt qA qd.length qc qd _ (hlies.below hA2 (Nat.le_refl _)) hqd
      have hcp2 := hcp.step hA2
      have hbs := hcp.at_.below.size
      have hBB : ∀ y ∈ ys, ∀ z, blk y.A z → z < wr.heap.size := fun y hy z hz => (hcp.high y hy z hz).2
      have HSN := Lib.hid hsn
      clear hcell hok hdx hq hqd hsn hlies hg0 hmap hk
      go_wp2_with fail
      refine hC.mono ?_
      rintro e w3 ⟨E, k', rfl, hok3, hE3, hbr3, hb3⟩
      have hcp3 := hcp2.step hb3
      obtain ⟨u0, u1, u2, d0, d1, d2, f0, f1, f2⟩ := hcp3.at_.seen hkn
      have hfin := hcp3.store (B := wr.heap.size) hBB hkn _ (hok3.mono fun z hz => by rw [World.size_alloc] at hz; omega) hbr3 (fun z hz => by have := hE3 z hz; rw [World.size_alloc] at this; omega)
      dsimp only at hfin
      have HF := Lib.hid hfin
      clear hcp hcp2 hcp3 hC hA2 hok3 hb3 hfin hbr3 hE3 hBB
      go_wp2
      go_roundg (gk - 1)
      case measure => have : k + gk = n := HK; omega
      case rel => exact ⟨k + 1, ys ++ [⟨⟨qi, qt, qd⟩, E, k'⟩], by have : k + gk = n := HK; omega, by go_num, HF.out, by
        rw [show xs.take (k + 1) = xs.take k ++ [⟨⟨qi, qt, qd⟩, qA, qc⟩] from HSN, List.map_append, List.map_append, show ys.map (·.e) = (xs.take k).map (·.e) from HMAP]
        rfl⟩
    · obtain rfl : k = n := by omega
      have hdec : decide ((k : Int) < (k : Int)) = false := decide_eq_false (by omega)
      have hm' : k ≤ maxLen := by unfold maxLen; omega
      have HE := Lib.hid (show ys.map (·.e) = ls by rw [hmap, List.take_of_length_le (by omega)]; exact HXS)
      clear hcell hok hk hm hmap hdx hg0
      go_wp2
      go_ret
      exact ⟨ys, rfl, hcp, HE.out⟩

set_option maxRecDepth 100000 in
set_option maxHeartbeats 1600000 in
theorem fromP_own {w : World} {p : Nat} {r : RL} {s : Nat} {Z : Nat → Prop} {A : Option Addr} {c : Nat} {xs : List Lay} (h : LgAt w p r s Z A c xs) (hm : r.l.length ≤ 1000000) (hg : Good r) (x many : Int) (k : Nat) (hp : r.place x = some k) (hma : ¬ many ≤ 0) :
    Calls Try.prog 17 #[ptrV p, .int .i64 x, .int .i64 many] w fun e w' => ∃ u ys, e = .returned (.slice (some ⟨u.heap.size, 0, none⟩) (r.fromL x many).length (r.fromL x many).length) ∧ Below w.heap.size w u ∧ CopyOwn u w' (r.fromL x many).length (r.fromL x many).length ys ∧ ys.map (·.e) = r.fromL x many := by
  rw [hg.from_]
  have q1 : (many ≤ 0) = False := eq_false hma
  have q1d : decide (many ≤ 0) = false := decide_eq_false hma
  have hP := placeP_any h.rd hm hg x
  have hpk : ∀ k, r.place x = some k → k < r.l.length := fun k e => by
    unfold RL.place at e
    split at e
    · injection e with e
      omega
    · cases e
  rw [hp] at hP
  have hk := hpk k hp
  rw [sub_some hp]
  clear hpk hp
  have h1 := fun w1 (hb : Below w.heap.size w w1) => h.keep hb.size fun q hq _ => hb.block q hq
  have hs1 := fun W => slice_back (A := A) (n := r.l.length) (cap := c) (k := k) (by omega) h.spot.2.1 W
  have hnc := h.spot.2.1
  obtain ⟨mm, hmm⟩ : ∃ mm, mm = min many.toNat (r.l.length - k) := ⟨_, rfl⟩
  have hs2 := fun W => slice_front (A := tailAt A c k) (n := r.l.length - k) (cap := c - k) (k := mm) (by omega) W
  have hC := fun w1 (hb : Below w.heap.size w w1) => copies_own (fun _ => True) (tailAt A c k) mm (c - k) (((xs.drop k).take mm).map (·.e)) w1 ((((h1 w1 hb).spot.drop (k := k) (by omega)).take (k := mm) (by omega)).ents (fun _ _ => trivial) (fun y hy => ((h1 w1 hb).lays y (List.mem_of_mem_drop (List.mem_of_mem_take hy))).mono fun _ _ => trivial)) (by omega) (fun e he => by
    obtain ⟨y, hy, rfl⟩ := List.mem_map.1 he
    refine run_small hg.run y.e ?_
    rw [← h.map]
    exact List.mem_map.2 ⟨y, List.mem_of_mem_drop (List.mem_of_mem_take hy), rfl⟩)
  have e1 : ((xs.drop k).take mm).map (·.e) = (r.l.drop k).take many.toNat := by
    rw [List.map_take, List.map_drop, h.map, hmm]
    by_cases hc : many.toNat ≤ r.l.length - k
    · rw [Nat.min_eq_left hc]
    · rw [Nat.min_eq_right (by omega), List.take_of_length_le (by rw [List.length_drop]; omega), List.take_of_length_le (by rw [List.length_drop]; omega)]
  have e2 : ((r.l.drop k).take many.toNat).length = mm := by rw [List.length_take, List.length_drop, hmm]
  have hrow := fun w1 (hb : Below w.heap.size w w1) => (row4 (h1 w1 hb).row).1
  rw [e1] at hC
  rw [e2]
  have hmi : ((r.l.length - k : Nat) : Int) < many ∧ mm = r.l.length - k ∨ many = (mm : Int) ∧ mm ≤ r.l.length - k := by omega
  have HM := Lib.hid hma
  clear h hg e1 e2 hmm h1 hma hm q1 q1d
  generalize (r.l.drop k).take many.toNat = out at *
  generalize r.l.length = n at *
  obtain ⟨d, hd⟩ : ∃ d, n - k = d := ⟨_, rfl⟩
  rw [hd] at hs1 hs2 hmi
  have hk2 : (k : Int) < (n : Int) := by omega
  have hdc : d ≤ c - k := by omega
  clear hd
  rcases hmi with ⟨m1, m2⟩ | ⟨m1, m2⟩
  · subst m2
    have q1 : (many ≤ 0) = False := eq_false HM.out
    have q1d : decide (many ≤ 0) = false := decide_eq_false HM.out
    have q2 : (many < (mm : Int)) = False := eq_false (by omega)
    have q3 : (many ≤ (mm : Int)) = False := eq_false (by omega)
    clear HM
    go_enter Try.func17, Try.ntmps17
    go_wp2_with fail
    refine hP.mono ?_
    rintro e w1 ⟨rfl, hb1⟩
    obtain ⟨c0, c1, c2, c3⟩ := hrow w1 hb1
    have hC := hC w1 hb1
    have hcs : (mm : Int) ≤ ((c - k : Nat) : Int) := by omega
    have hcs2 : mm ≤ c - k := by omega
    have hbz := hb1.size
    clear hP hrow
    go_wp2_with fail
    refine hC.mono ?_
    rintro e w2 ⟨ys, rfl, hco, hmap⟩
    have HC := Lib.hid hco
    have HMM := Lib.hid hmap
    clear hC hco hmap
    go_wp2
    go_ret
    exact ⟨w1, ys, rfl, hb1, HC.out, HMM.out⟩
  · subst m1
    have q1 : ((mm : Int) ≤ 0) = False := eq_false HM.out
    have q1d : decide ((mm : Int) ≤ 0) = false := decide_eq_false HM.out
    have q2 : (mm : Int) ≤ (d : Int) := by omega
    have q3 : (mm = 0) = False := eq_false (by have := HM.out; omega)
    have q4 : decide (mm = 0) = false := decide_eq_false (by have := HM.out; omega)
    clear HM
    go_enter Try.func17, Try.ntmps17
    go_wp2_with fail
    refine hP.mono ?_
    rintro e w1 ⟨rfl, hb1⟩
    obtain ⟨c0, c1, c2, c3⟩ := hrow w1 hb1
    have hC := hC w1 hb1
    have hcs : (mm : Int) ≤ ((c - k : Nat) : Int) := by omega
    have hcs2 : mm ≤ c - k := by omega
    have hbz := hb1.size
    clear hP hrow
    go_wp2_with fail
    refine hC.mono ?_
    rintro e w2 ⟨ys, rfl, hco, hmap⟩
    have HC := Lib.hid hco
    have HMM := Lib.hid hmap
    clear hC hco hmap
    go_wp2
    go_ret
    exact ⟨w1, ys, rfl, hb1, HC.out, HMM.out⟩

end Go.Proofs.Ytlanjlboipnpfaa
