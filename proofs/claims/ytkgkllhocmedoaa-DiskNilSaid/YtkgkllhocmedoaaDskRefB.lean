/- The document's Put, burn and may, each by its contract. -/
import Derived.Test.YtkgkllhocmedoaaDskRefA
import Derived.Deep.QuietTactic
import Derived.Deep.AppendLies
import Derived.Deep.Cut
import Derived.Deep.DeepCutAuto
import Derived.OwnWalk
namespace Go.Proofs.Ytkgkllhocmedoaa
open Go.RowKit
set_option linter.unusedVariables false
set_option linter.unusedSimpArgs false

theorem info_fil : (Try.prog.info? 43).map (fun i => (i.zero, i.size, i.bytes)) = some (some (.agg #[.string ⟨#[]⟩, .string ⟨#[]⟩, .int .i64 0]), 3, 40) := by kernel_rfl

theorem below_drewN {B : Nat} {a w : World} (h : Below B a w) (n : Nat) : Below B a (w.drewN n) := ⟨h.os, h.tape, h.output, h.size, h.block⟩

theorem filL_one (f : Fil) : ∀ u ∈ filL f, u.oneCell' = true := by
  intro u hu
  simp only [filL, List.mem_cons, List.not_mem_nil, or_false] at hu
  rcases hu with rfl | rfl | rfl <;> rfl

theorem take_filter {α : Type} (P : α → Bool) {l : List α} {i : Nat} (hi : i < l.length) : (l.take (i + 1)).filter P = (l.take i).filter P ++ (if P l[i] = true then [l[i]] else []) := by
  rw [List.take_succ_eq_append_getElem hi, List.filter_append, List.filter_cons]
  rfl

/-- What a loop of Put has gathered: what stood there, and of the first i files those that P takes. -/
def Gath (W : World) (T : TypeId) (l pre : List Fil) (P : Fil → Bool) (i : Nat) (v : Value) (wr : World) : Prop :=
  ∃ A m c, v = .slice A m c ∧ (pre ++ (l.take i).filter P).length = m ∧ wr.ownsRow W.heap.size T 3 (.slice A m c) m (filsL (pre ++ (l.take i).filter P)) ∧ Below W.heap.size W wr

theorem gath_len (l pre : List Fil) (P : Fil → Bool) (i : Nat) : (pre ++ (l.take i).filter P).length ≤ pre.length + l.length := by
  have h1 := List.length_filter_le P (l.take i)
  have h2 := List.length_take_le i l
  simp
  simp at h1
  omega

/-- A file is gathered. -/
theorem gath_yes {W : World} {T : TypeId} {l pre : List Fil} {P : Fil → Bool} {i : Nat} (hi : i < l.length) (hp : P l[i] = true) {n : Nat} (hn : (pre ++ (l.take i).filter P).length = n) {g c : Nat} {w2 : World}
    (ho : w2.ownsRow W.heap.size T 3 (.slice (some ⟨g, 0, none⟩) (n + 1) c) (n + 1) (filsL (pre ++ (l.take i).filter P) ++ filL l[i])) (hb : Below W.heap.size W w2) :
    Gath W T l pre P (i + 1) (.slice (some ⟨g, 0, none⟩) (n + 1) c) w2 := by
  have e : pre ++ (l.take (i + 1)).filter P = (pre ++ (l.take i).filter P) ++ [l[i]] := by
    rw [take_filter P hi, if_pos hp, List.append_assoc]
  have hl : (pre ++ (l.take (i + 1)).filter P).length = n + 1 := by rw [e, List.length_append, hn]; rfl
  refine ⟨some ⟨g, 0, none⟩, n + 1, c, rfl, hl, ?_, hb⟩
  rw [e, filsL_app, filsL_one]
  exact ho

theorem gath_no {W : World} {T : TypeId} {l pre : List Fil} {P : Fil → Bool} {i : Nat} (hi : i < l.length) (hp : P l[i] = false) {v : Value} {w2 : World} (h : Gath W T l pre P i v w2) : Gath W T l pre P (i + 1) v w2 := by
  have e : (l.take (i + 1)).filter P = (l.take i).filter P := by
    rw [take_filter P hi, if_neg (by rw [hp]; decide), List.append_nil]
  unfold Gath
  rw [e]
  exact h

/-- Done with one loop: what it has gathered stands ahead of the next. -/
theorem gath_turn {W : World} {T : TypeId} {l pre : List Fil} {P Q : Fil → Bool} {i : Nat} (hi : l.length ≤ i) {v : Value} {w2 : World} (h : Gath W T l pre P i v w2) : Gath W T l (pre ++ l.filter P) Q 0 v w2 := by
  have e : (pre ++ l.filter P) ++ (l.take 0).filter Q = pre ++ (l.take i).filter P := by simp [List.take_of_length_le hi]
  unfold Gath
  rw [e]
  exact h

/-- One file more, behind a loop. -/
theorem gath_one {W : World} {T : TypeId} {l pre : List Fil} {P Q : Fil → Bool} {i : Nat} (hi : l.length ≤ i) (f : Fil) {n : Nat} (hn : (pre ++ (l.take i).filter P).length = n) {g c : Nat} {w2 : World}
    (ho : w2.ownsRow W.heap.size T 3 (.slice (some ⟨g, 0, none⟩) (n + 1) c) (n + 1) (filsL (pre ++ (l.take i).filter P) ++ filL f)) (hb : Below W.heap.size W w2) :
    Gath W T l (pre ++ l.filter P ++ [f]) Q 0 (.slice (some ⟨g, 0, none⟩) (n + 1) c) w2 := by
  have e : (pre ++ l.filter P ++ [f]) ++ (l.take 0).filter Q = (pre ++ (l.take i).filter P) ++ [f] := by simp [List.take_of_length_le hi]
  refine ⟨some ⟨g, 0, none⟩, n + 1, c, rfl, by rw [e, List.length_append, hn]; rfl, ?_, hb⟩
  rw [e, filsL_app, filsL_one]
  exact ho

theorem gath_start (W : World) (T : TypeId) (l : List Fil) (P : Fil → Bool) : Gath W T l [] P 0 (.slice none 0 0) W :=
  ⟨none, 0, 0, rfl, by simp, World.ownsRow_nil W W.heap.size T 3, Below.refl _ _⟩

theorem gath_drew {W : World} {T : TypeId} {l pre : List Fil} {P : Fil → Bool} {i : Nat} {v : Value} {w2 : World} (h : Gath W T l pre P i v w2) (n : Nat) : Gath W T l pre P i v (w2.drewN n) := by
  obtain ⟨A, m, c, e, hl, ho, hb⟩ := h
  exact ⟨A, m, c, e, hl, ho, below_drewN hb n⟩

theorem own_out {w : World} {base : Nat} {e : TypeId} {size n : Nat} {v : Value} {xs : List Value} (h : w.ownsRow base e size v n xs) {o : Obj} : (w.alloc o).ownsRow base e size v n xs := h.alloc o

set_option maxRecDepth 100000 in
set_option maxHeartbeats 6400000 in
theorem putR_any (A : Option Addr) (cap : Nat) (D : Dsk) (f : Fil) (w : World) (h : RF w A cap D.l) (hn : D.l.length ≤ 1000000000) :
    Calls Try.prog 50 #[diskV A cap D, filV f] w fun e w' => ∃ A' cap', e = .returned (diskV A' cap' { D with l := putF D.l f }) ∧ RF w' A' cap' (putF D.l f) ∧ New w.heap.size A' ∧ Below w.heap.size w w' := by
  obtain ⟨W, hW⟩ : ∃ W, W = ((w.alloc (.cells (diskC A cap D) 31)).alloc (.cells (filC f) 43)).alloc (.cells #[.int .i64 0, .slice none 0 0, .bool false, .int .i64 0, .bool false] 31) := ⟨_, rfl⟩
  have hbW : Below w.heap.size w W := by rw [hW]; exact (((Below.refl _ _).alloc (Nat.le_refl _) _).alloc (by simp) _).alloc (by simp; omega) _
  have hsW : W.heap.size = w.heap.size + 3 := by rw [hW]; simp
  have hm0 : W.heap[w.heap.size]? = some (.cells (diskC A cap D) 31) := by
    rw [hW, Below.heap_alloc _ _ _ (by simp; omega), Below.heap_alloc _ _ _ (by simp)]; exact heap_alloc_new _ _
  have hm1 : W.heap[w.heap.size + 1]? = some (.cells (filC f) 43) := by
    rw [hW, Below.heap_alloc _ _ _ (by simp)]; exact heap_alloc2_new _ _ _
  have hm2 : W.heap[w.heap.size + 2]? = some (.cells #[.int .i64 0, .slice none 0 0, .bool false, .int .i64 0, .bool false] 31) := by
    have := heap_alloc_new ((w.alloc (.cells (diskC A cap D) 31)).alloc (.cells (filC f) 43)) (.cells #[.int .i64 0, .slice none 0 0, .bool false, .int .i64 0, .bool false] 31)
    rw [World.size_alloc, World.size_alloc] at this
    rw [hW]; exact this
  have hW2 := Lib.hid hW
  have h0 := h.below hbW (Nat.le_refl _)
  obtain ⟨room, l, set, n, lost⟩ := D
  obtain ⟨fname, fb, fsafe⟩ := f
  dsimp only at *
  have hn' : (l.length : Int) ≤ 1000000000 := by omega
  obtain ⟨i0, hi0, hz0, hz1, hz2⟩ := info_parts info_fil
  clear h
  go_enter Try.func50, Try.ntmps50
  go_wp2
  rw [← hW]
  clear hW
  go_loopg [5, 11] l.length (fun g o x wr => ∃ i : Nat, x = .int .i64 (i : Int) ∧ i + g = l.length ∧ Gath W 43 l [] (fun g => ltS g.name fname) i o wr)
  case atStart => exact ⟨0, rfl, by omega, gath_start _ _ _ _⟩
  case round =>
    obtain ⟨i, rfl, hi, HG⟩ := hrel
    have HG2 := Lib.hid HG
    obtain ⟨A', m, c', rfl, hm, ho, hb⟩ := HG
    have hgl := gath_len l [] (fun g => ltS g.name fname) i
    rw [hm] at hgl
    have hml : m ≤ 1000000000 := by simp at hgl; omega
    have HM := Lib.hid hm
    clear hgl hm
    have d0 : wr.cell? ⟨w.heap.size, 1, none⟩ = some (.slice A l.length cap) := (hb.cell (p := ⟨w.heap.size, 1, none⟩) (by show w.heap.size < _; omega)).trans (cell_of_row _ _ 1 _ _ _ hm0)
    have d1 : wr.cell? ⟨w.heap.size + 1, 0, none⟩ = some (.string fname) := (hb.cell (p := ⟨w.heap.size + 1, 0, none⟩) (by show w.heap.size + 1 < _; omega)).trans (cell_of_row _ _ 0 _ _ _ hm1)
    by_cases hlt : i < l.length
    · have hlt' : (i : Int) < (l.length : Int) := by omega
      have hi0' : (0 : Int) ≤ (i : Int) := by omega
      obtain ⟨g, off, rfl, hg, hc⟩ := h0.2 (by show 0 < l.length; omega)
      obtain ⟨c0, c1, c2⟩ := hc i hlt
      have e0 : wr.cell? ⟨g, off + i * 3, none⟩ = some (.string l[i].name) := (hb.cell (p := ⟨g, off + i * 3, none⟩) hg).trans c0
      have e1 : wr.cell? ⟨g, off + i * 3 + 1, none⟩ = some (.string l[i].b) := (hb.cell (p := ⟨g, off + i * 3 + 1, none⟩) hg).trans c1
      have e2 : wr.cell? ⟨g, off + i * 3 + 2, none⟩ = some (.int .i64 (l[i].safe : Int)) := (hb.cell (p := ⟨g, off + i * 3 + 2, none⟩) hg).trans c2
      have hb2 := Lib.hid (hb.size)
      clear c0 c1 c2 hc
      cases hq : ltS l[i].name fname with
      | true =>
        have hq' : Op.bytesLess l[i].name.toList fname.toList = true := hq
        have HY := Lib.hid (fun (g c : Nat) (w2 : World) ho hb => gath_yes (W := W) (T := 43) (l := l) (pre := []) (P := fun g => ltS g.name fname) (i := i) (g := g) (c := c) (w2 := w2) hlt hq HM.out ho hb)
        clear HG2
        go_wp2
        go_quiet (fail)
        have hoX : (wr.drewN nq).ownsRow W.heap.size 43 3 (.slice A' m c') m _ := ho
        have hbX := below_drewN hb nq
        replace d0 : (wr.drewN nq).cell? ⟨w.heap.size, 1, none⟩ = some (.slice (some ⟨g, off, none⟩) l.length cap) := d0
        replace e0 : (wr.drewN nq).cell? ⟨g, off + i * 3, none⟩ = some (.string l[i].name) := e0
        replace e1 : (wr.drewN nq).cell? ⟨g, off + i * 3 + 1, none⟩ = some (.string l[i].b) := e1
        replace e2 : (wr.drewN nq).cell? ⟨g, off + i * 3 + 2, none⟩ = some (.int .i64 (l[i].safe : Int)) := e2
        clear ho hb d1
        generalize wr.drewN nq = X at hoX hbX d0 e0 e1 e2 ⊢
        go_wp2_with (first
          | (at_builtin; refine wpList_append_lies _ rfl (.tmp 23) (.tmp 29) 29 rfl W.heap.size 43 i0 _ 3 40 Try.underlying29 hi0 hz0 hz1 hz2 rfl (by omega) (.slice A' m c') m _ rfl (hoX.alloc _) ⟨X.heap.size, 0, none⟩ 1 1 (filL l[i]) rfl rfl (World.news_of_block (heap_alloc_new X _)) (filL_one _) (by omega) (by unfold maxLen; omega) (by omega) (by have := hbX.size; simp; omega) (X.heap.size + 1) (by simp) ?_
             intro g2 cap2 w2 ho2 hgr2 hat2 hlt2)
          | fail)
        have hb3 : Below W.heap.size W w2 := (hbX.alloc hbX.size _).grown hgr2 (by have := hbX.size; simp; omega) (fun k hk => (hoX.lt k hk).1)
        have HF := HY.out g2 cap2 w2 ho2 hb3
        clear hoX hbX d0 e0 e1 e2 ho2 hgr2 hat2 hlt2 hi0 hz0 hz1 hz2
        go_roundg (gk - 1)
        case measure => omega
        case rel => exact ⟨i + 1, by go_num, by omega, HF⟩
      | false =>
        have hq' : Op.bytesLess l[i].name.toList fname.toList = false := hq
        have HN := Lib.hid (gath_no hlt hq HG2.out)
        clear HG2 ho hi0 hz0 hz1 hz2
        go_wp2
        go_quiet (fail)
        go_wp2
        go_roundg (gk - 1)
        case measure => omega
        case rel => exact ⟨i + 1, by go_num, by omega, gath_drew HN.out nq⟩
    · have hge : l.length ≤ i := by omega
      have hdec : decide ((i : Int) < (l.length : Int)) = false := decide_eq_false (by omega)
      have d2 : wr.cell? ⟨w.heap.size + 1, 1, none⟩ = some (.string fb) := (hb.cell (p := ⟨w.heap.size + 1, 1, none⟩) (by show w.heap.size + 1 < _; omega)).trans (cell_of_row _ _ 1 _ _ _ hm1)
      have d3 : wr.cell? ⟨w.heap.size + 1, 2, none⟩ = some (.int .i64 (fsafe : Int)) := (hb.cell (p := ⟨w.heap.size + 1, 2, none⟩) (by show w.heap.size + 1 < _; omega)).trans (cell_of_row _ _ 2 _ _ _ hm1)
      obtain ⟨pre, hpre⟩ : ∃ pre, pre = l.filter (fun g => ltS g.name fname) ++ (if 0 < fb.size then [⟨fname, fb, fsafe⟩] else []) := ⟨_, rfl⟩
      have hpl : pre.length ≤ l.length + 1 := by
        have := List.length_filter_le (fun g : Fil => ltS g.name fname) l
        rw [hpre, List.length_append]
        split <;> simp <;> omega
      have HPRE := Lib.hid hpre
      clear hpre
      go_upto_if 35 with fail
      go_cut [5] (fun o wx => Gath W 43 l pre (fun g => ltS fname g.name) 0 o wx)
      case first =>
        by_cases hz : 0 < fb.size
        · have hz' : (0 : Int) < (fb.size : Int) := by omega
          have HY := Lib.hid (fun (g c : Nat) (w2 : World) ho hb => gath_one (W := W) (T := 43) (l := l) (pre := []) (P := fun g => ltS g.name fname) (Q := fun g => ltS fname g.name) (i := i) (g := g) (c := c) (w2 := w2) hge ⟨fname, fb, fsafe⟩ HM.out ho hb)
          have hpe := HPRE.out
          rw [if_pos hz] at hpe
          have HPE := Lib.hid hpe
          clear HG2 hpe
          go_wp2_with (first
            | (at_builtin; refine wpList_append_lies _ rfl (.tmp 36) (.tmp 38) 29 rfl W.heap.size 43 i0 _ 3 40 Try.underlying29 hi0 hz0 hz1 hz2 rfl (by omega) (.slice A' m c') m _ rfl (ho.alloc _) ⟨wr.heap.size, 0, none⟩ 1 1 (filL ⟨fname, fb, fsafe⟩) rfl rfl (World.news_of_block (heap_alloc_new wr _)) (filL_one _) (by omega) (by unfold maxLen; omega) (by omega) (by have := hb.size; simp; omega) (wr.heap.size + 1) (by simp) ?_
               intro g2 cap2 w2 ho2 hgr2 hat2 hlt2)
            | fail)
          have hb3 : Below W.heap.size W w2 := (hb.alloc hb.size _).grown hgr2 (by have := hb.size; simp; omega) (fun k hk => (ho.lt k hk).1)
          have HF := HY.out g2 cap2 w2 ho2 hb3
          go_meet
          rw [HPE.out]
          exact HF
        · have hz' : ¬ ((0 : Int) < (fb.size : Int)) := by omega
          have hpe := HPRE.out
          rw [if_neg hz, List.append_nil] at hpe
          have HPE := Lib.hid hpe
          have HT := Lib.hid (gath_turn (Q := fun g => ltS fname g.name) hge HG2.out)
          clear HG2 hpe
          go_wp2_with fail
          go_meet
          rw [HPE.out]
          exact HT.out
      case rest =>
        clear HG2 HM ho hb d0 d1 d2 d3 hdec hml
        have hcut2 := Lib.hid hcut
        obtain ⟨A1, m1, c1, rfl, hm1', ho1, hb1⟩ := hcut
        have d0 : wc.cell? ⟨w.heap.size, 1, none⟩ = some (.slice A l.length cap) := (hb1.cell (p := ⟨w.heap.size, 1, none⟩) (by show w.heap.size < _; omega)).trans (cell_of_row _ _ 1 _ _ _ hm0)
        clear hm1' ho1 hb1
        go_wp2
        clear d0
        go_loopg [5, 43] l.length (fun g o x wr => ∃ i : Nat, x = .int .i64 (i : Int) ∧ i + g = l.length ∧ Gath W 43 l pre (fun g => ltS fname g.name) i o wr)
        case atStart => exact ⟨0, rfl, by omega, hcut2.out⟩
        case round =>
          clear hcut2
          obtain ⟨i, rfl, hi, HG⟩ := hrel
          have HG2 := Lib.hid HG
          obtain ⟨A', m, c', rfl, hm, ho, hb⟩ := HG
          have hgl := gath_len l pre (fun g => ltS fname g.name) i
          rw [hm] at hgl
          have hml : m ≤ 2000000001 := by omega
          have HM := Lib.hid hm
          clear hgl hm
          have d0 : wr.cell? ⟨w.heap.size, 1, none⟩ = some (.slice A l.length cap) := (hb.cell (p := ⟨w.heap.size, 1, none⟩) (by show w.heap.size < _; omega)).trans (cell_of_row _ _ 1 _ _ _ hm0)
          have d1 : wr.cell? ⟨w.heap.size + 1, 0, none⟩ = some (.string fname) := (hb.cell (p := ⟨w.heap.size + 1, 0, none⟩) (by show w.heap.size + 1 < _; omega)).trans (cell_of_row _ _ 0 _ _ _ hm1)
          by_cases hlt : i < l.length
          · have hlt' : (i : Int) < (l.length : Int) := by omega
            have hi0' : (0 : Int) ≤ (i : Int) := by omega
            obtain ⟨g, off, rfl, hg, hc⟩ := h0.2 (by show 0 < l.length; omega)
            obtain ⟨c0, c1, c2⟩ := hc i hlt
            have e0 : wr.cell? ⟨g, off + i * 3, none⟩ = some (.string l[i].name) := (hb.cell (p := ⟨g, off + i * 3, none⟩) hg).trans c0
            have e1 : wr.cell? ⟨g, off + i * 3 + 1, none⟩ = some (.string l[i].b) := (hb.cell (p := ⟨g, off + i * 3 + 1, none⟩) hg).trans c1
            have e2 : wr.cell? ⟨g, off + i * 3 + 2, none⟩ = some (.int .i64 (l[i].safe : Int)) := (hb.cell (p := ⟨g, off + i * 3 + 2, none⟩) hg).trans c2
            have hb2 := Lib.hid (hb.size)
            clear c0 c1 c2 hc
            cases hq : ltS fname l[i].name with
            | true =>
              have hq1 : Op.bytesLess l[i].name.toList fname.toList = false := ltS_asymm hq
              have hq2 : (l[i].name.toList == fname.toList) = false := by
                have := ltS_ne hq
                simpa using this
              have HY := Lib.hid (fun (g c : Nat) (w2 : World) ho hb => gath_yes (W := W) (T := 43) (l := l) (pre := pre) (P := fun g => ltS fname g.name) (i := i) (g := g) (c := c) (w2 := w2) hlt hq HM.out ho hb)
              clear HG2
              go_wp2
              go_quiet (fail)
              have hoX : (wr.drewN nq).ownsRow W.heap.size 43 3 (.slice A' m c') m _ := ho
              have hbX := below_drewN hb nq
              replace d0 : (wr.drewN nq).cell? ⟨w.heap.size, 1, none⟩ = some (.slice (some ⟨g, off, none⟩) l.length cap) := d0
              replace e0 : (wr.drewN nq).cell? ⟨g, off + i * 3, none⟩ = some (.string l[i].name) := e0
              replace e1 : (wr.drewN nq).cell? ⟨g, off + i * 3 + 1, none⟩ = some (.string l[i].b) := e1
              replace e2 : (wr.drewN nq).cell? ⟨g, off + i * 3 + 2, none⟩ = some (.int .i64 (l[i].safe : Int)) := e2
              clear ho hb d1
              generalize wr.drewN nq = X at hoX hbX d0 e0 e1 e2 ⊢
              go_wp2_with (first
                | (at_builtin; refine wpList_append_lies _ rfl (.tmp 55) (.tmp 61) 29 rfl W.heap.size 43 i0 _ 3 40 Try.underlying29 hi0 hz0 hz1 hz2 rfl (by omega) (.slice A' m c') m _ rfl (hoX.alloc _) ⟨X.heap.size, 0, none⟩ 1 1 (filL l[i]) rfl rfl (World.news_of_block (heap_alloc_new X _)) (filL_one _) (by omega) (by unfold maxLen; omega) (by omega) (by have := hbX.size; simp; omega) (X.heap.size + 1) (by simp) ?_
                   intro g2 cap2 w2 ho2 hgr2 hat2 hlt2)
                | fail)
              have hb3 : Below W.heap.size W w2 := (hbX.alloc hbX.size _).grown hgr2 (by have := hbX.size; simp; omega) (fun k hk => (hoX.lt k hk).1)
              have HF := HY.out g2 cap2 w2 ho2 hb3
              clear hoX hbX d0 e0 e1 e2 ho2 hgr2 hat2 hlt2 hi0 hz0 hz1 hz2
              go_roundg (gk - 1)
              case measure => omega
              case rel => exact ⟨i + 1, by go_num, by omega, HF⟩
            | false =>
              have HN := Lib.hid (gath_no hlt hq HG2.out)
              clear HG2 ho hi0 hz0 hz1 hz2
              cases hq1 : ltS l[i].name fname with
              | true =>
                have hq' : Op.bytesLess l[i].name.toList fname.toList = true := hq1
                clear hq hq1
                go_wp2
                go_quiet (fail)
                go_wp2
                go_roundg (gk - 1)
                case measure => omega
                case rel => exact ⟨i + 1, by go_num, by omega, gath_drew HN.out nq⟩
              | false =>
                have hq' : (l[i].name.toList == fname.toList) = true := by rw [ltS_con hq1 hq]; simp
                have hq2 : Op.bytesLess l[i].name.toList fname.toList = false := hq1
                clear hq hq1
                go_wp2
                go_quiet (fail)
                go_wp2
                go_roundg (gk - 1)
                case measure => omega
                case rel => exact ⟨i + 1, by go_num, by omega, gath_drew HN.out nq⟩
          · have hge : l.length ≤ i := by omega
            have hdec : decide ((i : Int) < (l.length : Int)) = false := decide_eq_false (by omega)
            have hfin : pre ++ (l.take i).filter (fun g => ltS fname g.name) = putF l ⟨fname, fb, fsafe⟩ := by
              rw [List.take_of_length_le hge, HPRE.out, List.append_assoc]; rfl
            have hlen : (putF l ⟨fname, fb, fsafe⟩).length = m := by rw [← hfin]; exact HM.out
            rw [hfin] at ho
            have HO := Lib.hid ho
            have HL := Lib.hid hlen
            clear hfin hlen ho hi0 hz0 hz1 hz2 HG2 HM
            have m0 : wr.heap[w.heap.size]? = some (.cells #[.int .i64 room, .slice A l.length cap, .bool set, .int .i64 n, .bool lost] 31) := (hb.block _ (by omega)).trans hm0
            have m2 : wr.heap[w.heap.size + 2]? = some (.cells #[.int .i64 0, .slice none 0 0, .bool false, .int .i64 0, .bool false] 31) := (hb.block _ (by omega)).trans hm2
            have hbw := hbW.trans (hb.mono hbW.size)
            have f0 : wr.cell? ⟨w.heap.size, 0, none⟩ = some (.int .i64 room) := by simp [World.cell?, m0]
            have f2 : wr.cell? ⟨w.heap.size, 2, none⟩ = some (.bool set) := by simp [World.cell?, m0]
            have f3 : wr.cell? ⟨w.heap.size, 3, none⟩ = some (.int .i64 n) := by simp [World.cell?, m0]
            have f4 : wr.cell? ⟨w.heap.size, 4, none⟩ = some (.bool lost) := by simp [World.cell?, m0]
            have q1 : wr.frozen? ⟨w.heap.size, 1, none⟩ = false := by simp [World.frozen?, m0]
            have m2' : wr.heap[w.heap.size + 1 + 1]? = some (.cells #[.int .i64 0, .slice none 0 0, .bool false, .int .i64 0, .bool false] 31) := m2
            have s0 : wr.cell? ⟨w.heap.size + 1 + 1, 0, none⟩ = some (.int .i64 0) := by simp [World.cell?, m2']
            have s1 : wr.cell? ⟨w.heap.size + 1 + 1, 1, none⟩ = some (.slice none 0 0) := by simp [World.cell?, m2']
            have s2 : wr.cell? ⟨w.heap.size + 1 + 1, 2, none⟩ = some (.bool false) := by simp [World.cell?, m2']
            have s3 : wr.cell? ⟨w.heap.size + 1 + 1, 3, none⟩ = some (.int .i64 0) := by simp [World.cell?, m2']
            have s4 : wr.cell? ⟨w.heap.size + 1 + 1, 4, none⟩ = some (.bool false) := by simp [World.cell?, m2']
            have t0 : wr.frozen? ⟨w.heap.size + 1 + 1, 0, none⟩ = false := by simp [World.frozen?, m2']
            have t1 : wr.frozen? ⟨w.heap.size + 1 + 1, 1, none⟩ = false := by simp [World.frozen?, m2']
            have t2 : wr.frozen? ⟨w.heap.size + 1 + 1, 2, none⟩ = false := by simp [World.frozen?, m2']
            have t3 : wr.frozen? ⟨w.heap.size + 1 + 1, 3, none⟩ = false := by simp [World.frozen?, m2']
            have t4 : wr.frozen? ⟨w.heap.size + 1 + 1, 4, none⟩ = false := by simp [World.frozen?, m2']
            go_wp2
            refine bodyPost_ret (res_cell (n := w.heap.size + 1 + 1) rfl rfl (set5_at _ _ _ _ _ _ _ _ _ _ _ _ _ ((Below.heap_setCell _ _ _ _ (by show w.heap.size + 1 + 1 ≠ w.heap.size; omega)).trans m2')) Try.underlying31 rfl (by kernel_rfl)) rfl ?_
            refine ⟨A', c', by simp only [diskV, HL.out], RF.of_own (n := m) (T := 43) (base := W.heap.size) ?_ HL.out, (New.of_own HO.out).mono hbW.size, ?_⟩
            · repeat (refine ownsRow_setCell_below ?_ (by show _ < W.heap.size; simp only []; omega) _)
              exact HO.out
            · repeat (refine Below.setCell ?_ (by show w.heap.size ≤ _; simp only []; omega) _)
              exact hbw

end Go.Proofs.Ytkgkllhocmedoaa
