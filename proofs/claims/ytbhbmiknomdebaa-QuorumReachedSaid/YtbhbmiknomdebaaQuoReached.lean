/- QuorumReached's walk. -/
import Derived.Test.YtbhbmiknomdebaaQuoOps
import Derived.Laws.AppendOwn
import Derived.Outline
import Derived.Deep.Cut
import Derived.Deep.DeepCutAuto
import Derived.Deep.AppendLies
namespace Go.Proofs.Ytbhbmiknomdebaa.quorumReached
open Go.RowKit Go.Proofs.Ytbhbmiknomdebaa
set_option linter.unusedVariables false
set_option linter.unusedSimpArgs false

theorem info_i64 : (Try.prog.info? 2).map (fun i => (i.zero, i.size, i.bytes)) = some (some (.int .i64 0), 1, 8) := by kernel_rfl

/-- What a row of numbers of the call's own reads as. -/
theorem nums_own {w : World} {base : Nat} {T : TypeId} {g n cap : Nat} {l : List Int} (h : w.ownsRow base T 1 (.slice (some ⟨g, 0, none⟩) n cap) n (l.map fun x => Value.int .i64 x)) (hn : l.length = n) : Nums w (some ⟨g, 0, none⟩) n l ∧ n ≤ cap ∧ ∀ j, j < n → w.frozen? ⟨g, j, none⟩ = false := by
  rcases h.2 with ⟨e, _⟩ | ⟨g', cap', cur, e, _, hh, h1, _, h3, h4⟩
  · injection e with e1; cases e1
  · injection e with e1 e2 e3
    injection e1 with e1
    injection e1 with e1
    subst e1 e3
    refine ⟨⟨hn, fun _ => ⟨g, 0, rfl, hlt hh, fun j hj => ?_⟩⟩, h1, fun j _ => frozen_of_row w g j cur _ hh⟩
    rw [cell_of_row _ _ _ _ _ _ hh, Nat.zero_add]
    have e := congrArg (fun q => q[j]?) h4
    simp only [List.getElem?_take, List.getElem?_map, List.getElem?_eq_getElem hj, Option.map_some] at e
    rw [if_pos (by omega)] at e
    simpa using e

theorem nums_set {w : World} {g n : Nat} {l : List Int} (h : Nums w (some ⟨g, 0, none⟩) n l) (k : Nat) (hk : k < l.length) (y : Int) : Nums (w.setCell ⟨g, k, none⟩ (.int .i64 y)) (some ⟨g, 0, none⟩) n (l.set k y) := by
  have hl := h.1
  obtain ⟨g', off, e, hg, hc⟩ := h.2 (by omega)
  injection e with e
  injection e with e1 e2
  subst e1 e2
  refine ⟨by rw [List.length_set]; exact hl, fun _ => ⟨g, 0, rfl, by simpa using hg, fun j hj => ?_⟩⟩
  have hj' : j < l.length := by simpa using hj
  have h0 := hc j hj'
  rw [Nat.zero_add] at h0 ⊢
  by_cases hjk : k = j
  · subst hjk
    rw [List.getElem_set_self]
    exact World.cell?_setCell_same _ _ _ h0
  · rw [List.getElem_set_ne hjk]
    rw [World.cell?_setCell_other _ _ _ _ (by intro e; injection e with _ e; exact hjk (by omega))]
    exact h0

set_option maxRecDepth 100000 in
set_option maxHeartbeats 1600000 in
theorem walk (O : QuoOps) (A : Option Addr) (len cap : Nat) (l : List Int) (at_ more : Int) (ha : 0 ≤ at_ ∧ at_ < 256) (hmo : In64 more) (w : World) (h : Nums w A len l) (hc : len ≤ cap) (hcn : A = none → cap = 0) (hm : len ≤ maxLen) (hin : ∀ x ∈ l, In64 x) :
    Calls Try.prog 3 #[.slice A len cap, .int .u8 at_, .int .i64 more] w fun e w' => e = .returned (.bool true) ∧ Below w.heap.size w w' := by
  obtain ⟨i0, hi0, hz0, hz1, hz2⟩ := info_parts info_i64
  have hA := fun W => awake9_any O W
  have hll := h.1
  unfold maxLen at hm
  by_cases h60 : 60 < len
  · have q1 : (60 : Int) < (len : Int) := by omega
    clear h hin hcn hc h60
    go_enter Try.func3, Try.ntmps3
    go_wp2_with fail
    refine (hA _).mono ?_
    rintro e w1 ⟨rfl, hb⟩
    go_wp2_with fail
    refine (hA _).mono ?_
    rintro e w2 ⟨rfl, hb2⟩
    go_wp2
    go_ret
    exact ⟨rfl, hb.trans (hb2.mono hb.size)⟩
  · have q1 : ((60 : Int) < (len : Int)) = False := eq_false (by omega)
    have q1d : decide ((60 : Int) < (len : Int)) = false := decide_eq_false (by omega)
    have hR := fun W (hW : Below w.heap.size w W) => O.reached W A len cap l (h.below hW) hc hcn (by omega) hin
    have hRR := fun W (hW : Below w.heap.size w W) => reachedR_any A len cap l W (h.below hW) (by omega)
    go_enter Try.func3, Try.ntmps3
    go_wp2_with fail
    refine (hA _).mono ?_
    rintro e w1 ⟨rfl, hb⟩
    go_wp2_with fail
    refine (hR _ hb).mono ?_
    rintro e w2 ⟨rfl, hb2⟩
    replace hb := hb.trans (hb2.mono hb.size)
    go_wp2_with fail
    refine (hRR _ hb).mono ?_
    rintro e w3 ⟨rfl, hb3⟩
    replace hb := hb.trans (hb3.mono hb.size)
    clear hA hR hRR hb2 hb3
    by_cases h0 : len = 0
    · subst h0
      clear h hin hcn hc h60
      go_wp2
      go_ret
      exact ⟨rfl, hb⟩
    · have z1 : (len = 0) = False := eq_false h0
      have z2 : ((len : Int) = 0) = False := eq_false (by omega)
      have z3 : ((len : Int) == 0) = false := beq_eq_false_iff_ne.2 (by omega)
      obtain ⟨g0, off, rfl, hg0, hc0⟩ := (h.below hb).2 (by omega)
      have hA3 := (Below.refl w3.heap.size w3).alloc (Nat.le_refl _) (.cells #[] 2)
      have hnews : ∀ j u, (l.map fun x => Value.int .i64 x)[j]? = some u → (w3.alloc (.cells #[] 2)).cell? ((⟨g0, off, none⟩ : Addr).add j) = some u := fun j u hu => by
        rw [List.getElem?_map] at hu
        rcases Nat.lt_or_ge j l.length with hj | hj
        · rw [List.getElem?_eq_getElem hj] at hu
          injection hu with hu
          subst hu
          rw [Addr.add_lit]
          exact (hA3.cell (p := ⟨g0, off + j, none⟩) hg0).trans (hc0 j hj)
        · rw [List.getElem?_eq_none hj] at hu
          cases hu
      obtain ⟨an, rfl⟩ := Int.eq_ofNat_of_zero_le ha.1
      obtain ⟨k, hk⟩ : ∃ k, k = an % len := ⟨_, rfl⟩
      have hkl : k < len := by rw [hk]; exact Nat.mod_lt _ (by omega)
      have v1 : (an : Int) % (len : Int) = (k : Int) := by rw [hk, Int.natCast_emod]
      have hkl2 : (k : Int) < (len : Int) := by omega
      have hml : (l.map fun x => Value.int .i64 x).length = len * 1 := by rw [List.length_map]; omega
      have hll2 : 0 + len ≤ 60 := by omega
      have hpos : 0 < len := by omega
      clear h hc hcn h60 hm hc0 hk
      go_wp2_with (at_builtin; refine wpList_append_lies _ rfl _ _ 22 rfl w3.heap.size 2 i0 _ 1 8 Try.underlying22 hi0 hz0 hz1 hz2 rfl (by omega) (.slice (some ⟨w3.heap.size, 0, none⟩) 0 0) 0 [] rfl (World.ownsRow_made _ #[] 0 (Nat.le_refl _) (Nat.zero_le _) rfl) ⟨g0, off, none⟩ len cap (l.map fun x => Value.int .i64 x) rfl hml hnews (by intro u hu; obtain ⟨x, _, rfl⟩ := List.mem_map.1 hu; rfl) hpos (by unfold maxLen; omega) (by omega) (by simp) (w3.heap.size + 1) (by simp) ?_)
      intro g cp w4 ho4 hg4 hat4 hlt4
      obtain ⟨hn4, hcp, hfz⟩ := nums_own ho4 hll
      have hb4 : Below w.heap.size w w4 := (hb.trans (hA3.mono hb.size)).grown hg4 (by have := hb.size; simp; omega) (fun q e => by injection e with e; have e' : w3.heap.size = q := e; have := hb.size; omega)
      have hgw : w.heap.size ≤ g := by
        have := hb.size
        rcases hat4 with e | e
        · injection e with e; have e' : w3.heap.size = g := e; omega
        · omega
      have hkll : k < l.length := by omega
      obtain ⟨g2, o2, e2, _, hc4⟩ := hn4.2 hpos
      injection e2 with e2
      injection e2 with e2 e3
      subst e2 e3
      have y0 := hc4 k hkll
      rw [Nat.zero_add] at y0
      have yf := hfz k hkl
      have hmx := fun y (hy : (l[k]'hkll) ≤ y) => reach_more hkll hy
      have hik := hin _ (List.getElem_mem hkll)
      have hset := fun y => nums_set hn4 k hkll y
      generalize hx : (l[k]'hkll) = x at *
      clear ho4 hg4 hat4 hc4 hA3 hnews hb hg0
      go_upto_region 10 with fail
      go_upto_region 11 with fail
      obtain ⟨y, hy⟩ : ∃ y, y = if x < more then more else x := ⟨_, rfl⟩
      have hxy : x ≤ y := by rw [hy]; split <;> omega
      have hyi : In64 y := by rw [hy]; split <;> assumption
      have hn5 := hset y
      have hb5 : Below w.heap.size w (w4.setCell ⟨g, k, none⟩ (.int .i64 y)) := hb4.setCell (by exact hgw) _
      rw [← hy]
      generalize w4.setCell ⟨g, k, none⟩ (.int .i64 y) = w5 at *
      have hR5 := O.reached w5 _ len cp _ hn5 hcp (fun e => by cases e) (by omega) (fun z hz => by
        rcases List.mem_or_eq_of_mem_set hz with hz | hz
        · exact hin z hz
        · rw [hz]; exact hyi)
      have hge := hmx y hxy
      have hged : decide (reach l ≤ reach (l.set k y)) = true := decide_eq_true hge
      have HD := Lib.hid hged
      clear hset hmx hn5 hn4 hy hged
      go_wp2_with fail
      refine hR5.mono ?_
      rintro e w6 ⟨rfl, hb6⟩
      go_wp2
      go_ret
      refine ⟨?_, hb5.trans (hb6.mono hb5.size)⟩
      first
        | rfl
        | (show Ending.returned (.bool (decide (reach l ≤ reach (l.set k y)))) = _
           rw [HD.out])

end Go.Proofs.Ytbhbmiknomdebaa.quorumReached
