/- The list of all files, read one by one; Names of the program's disk, by its contract. -/
import Derived.Test.YtkgkllhocmedoaaDskDeedE
namespace Go.Proofs.Ytkgkllhocmedoaa
open Go.RowKit
set_option linter.unusedVariables false
set_option linter.unusedSimpArgs false

/-- A row of names and files. -/
def RP (w : World) (A : Option Addr) (l : List (ByteArray × FV)) : Prop :=
  0 < l.length → ∃ g, A = some ⟨g, 0, none⟩ ∧ g < w.heap.size ∧ ∀ j (hj : j < l.length),
    w.cell? ⟨g, j * 3, none⟩ = some (.string l[j].1) ∧ w.cell? ⟨g, j * 3 + 1, none⟩ = some (fvS l[j].2) ∧ w.cell? ⟨g, j * 3 + 2, none⟩ = some (fvN l[j].2)

theorem cellsL_at (l : List (ByteArray × FV)) : ∀ j (hj : j < l.length), (MapFl.cellsL l)[j * 3]? = some (.string l[j].1) ∧ (MapFl.cellsL l)[j * 3 + 1]? = some (fvS l[j].2) ∧ (MapFl.cellsL l)[j * 3 + 2]? = some (fvN l[j].2) := by
  induction l with
  | nil => intro j hj; simp at hj
  | cons f l ih =>
    intro j hj
    cases j with
    | zero => simp [MapFl.cellsL, List.flatMap_cons]
    | succ j =>
      have := ih j (by simpa using hj)
      have e : ∀ i, (MapFl.cellsL (f :: l))[(j + 1) * 3 + i]? = (MapFl.cellsL l)[j * 3 + i]? := fun i => by
        rw [show (j + 1) * 3 + i = (j * 3 + i) + 3 by omega]
        simp [MapFl.cellsL, List.flatMap_cons]
      refine ⟨?_, ?_, ?_⟩
      · rw [show (j + 1) * 3 = (j + 1) * 3 + 0 from rfl, e]; simpa using this.1
      · rw [e]; simpa using this.2.1
      · rw [e]; simpa using this.2.2

theorem cellsL_length (l : List (ByteArray × FV)) : (MapFl.cellsL l).length = l.length * 3 := by
  induction l with
  | nil => rfl
  | cons f l ih => simp [MapFl.cellsL, List.flatMap_cons] at ih ⊢; omega

theorem RP.of_own {w : World} {base : Nat} {T : TypeId} {A : Option Addr} {cap : Nat} {l : List (ByteArray × FV)} (h : w.ownsRow base T 3 (.slice A l.length cap) l.length (MapFl.cellsL l)) : RP w A l ∧ ∀ g, A = some ⟨g, 0, none⟩ → base ≤ g := by
  rcases h.2 with ⟨e, h0⟩ | ⟨g, cap', cur, e, hb, hg, hc, hm, hs, ht⟩
  · injection e with e1 e2 e3
    subst e1
    exact ⟨fun h1 => by omega, fun g e => by cases e⟩
  · injection e with e1 e2 e3
    subst e1 e3
    refine ⟨fun _ => ⟨g, rfl, hlt hg, fun j hj => ?_⟩, fun g' e => by injection e with e; injection e with e; rw [← e]; exact hb⟩
    obtain ⟨q0, q1, q2⟩ := cellsL_at l j hj
    have hx : ∀ i v, i < l.length * 3 → (MapFl.cellsL l)[i]? = some v → w.cell? ⟨g, i, none⟩ = some v := fun i v hi hv => by
      rw [cell_of_row w g i cur _ (0, 0) hg]
      have := congrArg (fun q => q[i]?) ht
      simp only [List.getElem?_take, if_pos hi] at this
      rw [← hv, ← this]
      simp
    exact ⟨hx _ _ (by omega) q0, hx _ _ (by omega) q1, hx _ _ (by omega) q2⟩

theorem RP.keep {w w' : World} {A : Option Addr} {l : List (ByteArray × FV)} (h : RP w A l) (hs : w.heap.size ≤ w'.heap.size) (hk : ∀ g, A = some ⟨g, 0, none⟩ → g < w.heap.size → w'.heap[g]? = w.heap[g]?) : RP w' A l := fun h0 => by
  obtain ⟨g, e, hg, hc⟩ := h h0
  have hx : ∀ o, w'.cell? ⟨g, o, none⟩ = w.cell? ⟨g, o, none⟩ := fun o => World.cell?_of_block (hk g e hg)
  exact ⟨g, e, Nat.lt_of_lt_of_le hg hs, fun j hj => ⟨(hx _).trans (hc j hj).1, (hx _).trans (hc j hj).2.1, (hx _).trans (hc j hj).2.2⟩⟩

theorem RP.below {w w' : World} {A : Option Addr} {l : List (ByteArray × FV)} {B : Nat} (h : RP w A l) (hb : Below B w w') (hB : w.heap.size ≤ B) : RP w' A l :=
  h.keep hb.size fun g _ hg => hb.block g (Nat.lt_of_lt_of_le hg hB)

theorem strInfo : (Try.prog.info? 9).map (fun i => (i.zero, i.size, i.bytes)) = some (some (.string ⟨#[]⟩), 1, 16) := by kernel_rfl

theorem own_keep {w w' : World} {base : Nat} {e : TypeId} {size n : Nat} {v : Value} {xs : List Value} (h : w.ownsRow base e size v n xs) (hk : ∀ g, v.ownBlock = some g → w'.heap[g]? = w.heap[g]?) : w'.ownsRow base e size v n xs := by
  rcases h.2 with ⟨e, h0⟩ | ⟨g, cap, cur, e, hb, hg, r⟩
  · exact ⟨h.1, .inl ⟨e, h0⟩⟩
  · exact ⟨h.1, .inr ⟨g, cap, cur, e, hb, (hk g (by rw [e]; rfl)).trans hg, r⟩⟩

structure NamesAt (w wr : World) (A : Option Addr) (l : List (ByteArray × FV)) (k : Nat) (v : Value) : Prop where
  row : RP wr A l
  own : wr.ownsRow w.heap.size 9 1 v k ((l.take k).map fun p => .string p.1)
  off : ∀ g, A = some ⟨g, 0, none⟩ → g < wr.heap.size ∧ v.ownBlock ≠ some g
  below : Below w.heap.size w wr
  form : ∃ g cap, v = .slice (some ⟨g, 0, none⟩) k cap

theorem own_strs {w : World} {base : Nat} {T : TypeId} {g cap : Nat} {l : List ByteArray} (h : w.ownsRow base T 1 (.slice (some ⟨g, 0, none⟩) l.length cap) l.length (l.map fun p => .string p)) : RStr w (some ⟨g, 0, none⟩) l ∧ base ≤ g := by
  rcases h.2 with ⟨e, h0⟩ | ⟨g', cap', cur, e, hb, hg, hc, hm, hs, ht⟩
  · cases e
  · injection e with e1 e2 e3
    injection e1 with e1
    injection e1 with e1
    subst e1 e3
    refine ⟨fun _ => ⟨g, 0, rfl, hlt hg, fun j hj => ?_⟩, hb⟩
    rw [cell_of_row w g _ cur _ (0, 0) hg, Nat.zero_add]
    have := congrArg (fun q => q[j]?) ht
    simp only [List.getElem?_take, List.getElem?_map, List.getElem?_eq_getElem hj, Option.map_some] at this
    rw [if_pos (by omega)] at this
    simpa using this

set_option maxRecDepth 100000 in
set_option maxHeartbeats 2000000 in
theorem names_any (w : World) (d : Nat) (D : Dsk) (M Z : Nat → Prop) (h : DkG w d D M Z) (hg : Good D) :
    Calls Try.prog 18 #[.pointer (some ⟨d, 0, none⟩)] w fun e w' => ∃ A cap, e = .returned (.slice A D.l.length cap) ∧ RStr w' A (D.l.map Fil.name) ∧ (∀ a, A = some a → w.heap.size ≤ a.block) ∧ Below w.heap.size w w' := by
  obtain ⟨t, h⟩ := h
  obtain ⟨u, hbx, hr⟩ := h.box
  have hd := h.lt
  obtain ⟨⟨a0, a1, a2, a3, a4⟩, _⟩ := row5 hbx
  have hsz := h.size
  have hlen := hg.len
  have hname : D.l.map Fil.name = t.list.map fun p => p.1 := by
    rw [← h.fil, List.map_map]; rfl
  have hl1 : t.list.length = D.l.length := by rw [Tr.length_list, hsz]
  obtain ⟨i0, hi0, hz0, hz1, hz2⟩ := info_parts strInfo
  have hmk : ∀ w1 : World, (Instr.makeSlice 47 (.int .i64 0) (.int .i64 (t.size : Int))).run Try.prog w1 = .ok (.slice (some ⟨w1.heap.size, 0, none⟩) 0 t.size) (w1.alloc (.cells (madeCells #[.string ⟨#[]⟩] (t.size * 1)) 9)) := fun w1 => by
    have := run_make (P := Try.prog) w1 47 9 i0 _ Try.underlying47 hi0 hz0 .i64 .i64 0 (t.size : Int) (Int.le_refl _) (by omega) (by rw [hz2]; omega) (by omega)
    rw [hz1] at this
    exact this
  have hL := MapFl.len_map t u w hr
  have hAll := fun w' (hb : Below w.heap.size w w') => MapFl.all_map t u w' (hr.below hb (Nat.le_refl _)) (by omega)
  generalize t.list = l at *
  have hls : l.length = t.size := by rw [hl1, hsz]
  generalize t.size = n at *
  rw [hname, ← hsz]
  have hn : n ≤ 1048576 := by omega
  clear h hbx hr hg a0 a1 a3 a4 hname hl1 hsz
  clear hlen hi0 hz0 hz1 hz2
  have hn' : (n : Int) ≤ 1048576 := by omega
  go_enter Try.func18, Try.ntmps18
  go_wp2_with (first
    | (go_at_call 43
       refine hL.mono ?_
       rintro e w1 ⟨rfl, hb1⟩
       have b2 := (hb1.cell (p := ⟨d, 2, none⟩) hd).trans a2
       have hd1 : d < w1.heap.size := Nat.lt_of_lt_of_le hd hb1.size)
    | (go_at_call 35
       refine (hAll _ (hb1.alloc hb1.size _)).mono ?_
       rintro e w2 ⟨A, c, rfl, ho2, hb2⟩)
    | fail)
  have hrp := RP.of_own ho2
  have hN0 : NamesAt w w2 A l 0 (.slice (some ⟨w1.heap.size, 0, none⟩) 0 n) := by
    have hown := World.ownsRow_made (base := w.heap.size) (e := 9) (size := 1) w1 (madeCells #[.string ⟨#[]⟩] n) n hb1.size (by unfold maxLen; omega) (by rw [Nat.mul_one]; exact size_madeCells _ _)
    refine ⟨hrp.1, own_keep hown fun g hg => hb2.block g (hown.lt g hg).2, fun g e => ?_, (hb1.alloc hb1.size _).trans (hb2.mono (by have := hb1.size; simp; omega)), ⟨_, _, rfl⟩⟩
    have h1 := hrp.2 g e
    rcases ho2.2 with ⟨e1, _⟩ | ⟨g', cap', cur, e1, _, hg, _⟩
    · injection e1 with e1; rw [e1] at e; cases e
    · injection e1 with e1
      rw [e1] at e
      injection e with e
      injection e with e
      subst e
      refine ⟨hlt hg, fun q => ?_⟩
      injection q with q
      have q : w1.heap.size = g' := q
      simp at h1
      omega
  clear ho2 hrp hb2 hb1 b2 a2 hmk hAll hL hd1
  go_wp2
  go_loopg [3, 20] n (fun g v i wr => ∃ k : Nat, k + g = n ∧ i = .int .i64 (k : Int) ∧ NamesAt w wr A l k v)
  case atStart => exact ⟨0, by omega, rfl, hN0⟩
  case round =>
    clear hN0
    obtain ⟨k, hk, rfl, hN⟩ := hrel
    by_cases hlt : k < n
    · have hlt' : (k : Int) < (n : Int) := by omega
      obtain ⟨g1, cap1, rfl⟩ := hN.form
      obtain ⟨gA, rfl, hgA, hc⟩ := hN.row (by omega)
      obtain ⟨c0, c1, c2⟩ := hc k (by omega)
      have hown := hN.own
      have hoff := (hN.off gA rfl).2
      have hbl := hN.below
      have hsw := hN.below.size
      obtain ⟨i0, hi0, hz0, hz1, hz2⟩ := info_parts strInfo
      clear hc
      go_wp2_with (first
        | (at_builtin; refine wpList_append_lies _ rfl _ _ 47 rfl w.heap.size 9 i0 _ 1 16 Try.underlying47 hi0 hz0 hz1 hz2 rfl (by omega) (.slice (some ⟨g1, 0, none⟩) k cap1) k _ rfl ((hown.alloc _).alloc _) ⟨wr.heap.size + 1, 0, none⟩ 1 1 [.string l[k].1] rfl rfl (World.news_of_block (by simpa using heap_alloc2_new wr _ _)) (by simp [Value.oneCell']) (by omega) (by unfold maxLen; omega) (by omega) (by simp; omega) (wr.heap.size + 2) (by simp) ?_
           intro g2 cap2 w2 ho2 hgr2 hat2 hlt2)
        | fail)
      have hblk : ∀ q, q < wr.heap.size → some q ≠ (Value.slice (some ⟨g1, 0, none⟩) k cap1).ownBlock → w2.heap[q]? = wr.heap[q]? := fun q hq hne =>
        (hgr2.block q (by simp; omega) hne).trans ((Below.heap_alloc _ _ q (by simp; omega)).trans (Below.heap_alloc _ _ q hq))
      have hN2 : NamesAt w w2 (some ⟨gA, 0, none⟩) l (k + 1) (.slice (some ⟨g2, 0, none⟩) (k + 1) cap2) := by
        refine ⟨hN.row.keep (by have := hgr2.size; simp at this; omega) fun g e hg => hblk g hg (fun q => (hN.off g e).2 q.symm), ?_, fun g e => ?_, ?_, ⟨_, _, rfl⟩⟩
        · rw [List.take_succ_eq_append_getElem (by omega), List.map_append]
          exact ho2
        · injection e with e
          injection e with e
          subst e
          refine ⟨by have := hgr2.size; simp at this; omega, fun q => ?_⟩
          injection q with q
          have q : g2 = gA := q
          subst q
          rcases hat2 with q | q
          · exact hoff q
          · omega
        · exact ((hbl.alloc hbl.size _).alloc (by simp; omega) _).grown hgr2 (by simp; omega) (fun q hq => (hown.lt q hq).1)
      have HN2 := Lib.hid hN2
      clear hN2 hN hown ho2 hgr2 hat2 hblk hoff hbl c0 c1 c2
      go_wp2
      go_roundg (gk - 1)
      case measure => omega
      case rel => exact ⟨k + 1, by omega, by go_num, HN2.out⟩
    · obtain rfl : k = n := by omega
      have hdec : decide ((k : Int) < (k : Int)) = false := decide_eq_false (by omega)
      obtain ⟨g1, cap1, rfl⟩ := hN.form
      have hfin := hN.own
      rw [List.take_of_length_le (by omega)] at hfin
      have hb := hN.below
      clear hN
      go_wp2
      go_ret
      have hlm : (l.map fun p => p.1).length = k := by simp [hls]
      have := own_strs (l := l.map fun p => p.1) (by rw [hlm, List.map_map]; exact hfin)
      exact ⟨_, _, rfl, this.1, fun a e => by injection e with e; subst e; exact this.2, hb⟩

end Go.Proofs.Ytkgkllhocmedoaa
