/- A log that took from leaders' logs: taken, by its contract. -/
import Derived.Test.YtlanjlboipnpfaaLogFam
import Derived.Test.YtlanjlboipnpfaaLogDoA
namespace Go.Proofs.Ytlanjlboipnpfaa
open Go.RowKit
set_option linter.unusedVariables false
set_option linter.unusedSimpArgs false

/-- A leader's log, as it lies in memory. -/
structure LogL where
  A : Option Addr
  n : Nat
  c : Nat
  ls : List Ent

/-- Leaders' logs in a row. -/
def LogsIn (W : World) (Z : Nat → Prop) (A : Option Addr) (X : List LogL) : Prop :=
  (0 < X.length → ∃ g off, A = some ⟨g, off, none⟩ ∧ g < W.heap.size ∧ Z g ∧ ∀ j (hj : j < X.length), W.cell? ⟨g, off + j, none⟩ = some (.slice X[j].A X[j].n X[j].c)) ∧ ∀ x ∈ X, Ents W Z x.A x.n x.c x.ls

theorem LogsIn.below {W W' : World} {Z : Nat → Prop} {A : Option Addr} {X : List LogL} (h : LogsIn W Z A X) (hb : Below W.heap.size W W') : LogsIn W' Z A X := by
  refine ⟨fun h0 => ?_, fun x hx => (h.2 x hx).below hb (Nat.le_refl _)⟩
  obtain ⟨g, off, e, hg, hz, hc⟩ := h.1 h0
  exact ⟨g, off, e, Nat.lt_of_lt_of_le hg hb.size, hz, fun j hj => (hb.cell (p := ⟨g, off + j, none⟩) hg).trans (hc j hj)⟩

/-- What taken answers. -/
def TookAt (w : World) (logs : List (List Ent)) (e : Ending) (w' : World) : Prop :=
  ∃ p r s, e = .returned (ptrV p) ∧ Lg w' p r s (fun q => q < w.heap.size) ∧ Took logs r ∧ r.l.length ≤ 1000 ∧ Below w.heap.size w w'

set_option maxRecDepth 100000 in
set_option maxHeartbeats 3200000 in
theorem taken_any (Z : Nat → Prop) (A : Option Addr) (n cap : Nat) (X : List LogL) (hn : X.length = n) (B : Option Addr) (m cB : Nat) (bs : List UInt8) (w : World) (hX : LogsIn w Z A X) (hB : Lies w B m cB bs) (k0 : Nat) (hF : Fam (X.map (·.ls)) k0) (hsm : ∀ x ∈ X, x.n ≤ 1000) (hm : m ≤ 1000) (hn2 : n ≤ 1000) (hZ : ∀ q, Z q → q < w.heap.size) :
    Calls Try.prog 13 #[.slice A n cap, .slice B m cB] w (TookAt w (X.map (·.ls))) := by
  have hN := newP_yes 0 0 (fun _ => True) none 0 0 [] w ⟨rfl, Nat.le_refl _, fun _ => rfl, fun h => absurd h (by simp)⟩ (by omega) rfl rfl
  have hT0 : Took (X.map (·.ls)) ⟨0, 0, [], 0⟩ := ⟨⟨rfl, rfl⟩, rfl, rfl, .inl rfl⟩
  go_enter Try.func13, Try.ntmps13
  go_wp2_with fail
  refine hN.mono ?_
  rintro e w1 ⟨p, rfl, hL, hb1⟩
  clear hN
  by_cases h0 : n = 0
  · subst h0
    have HT := Lib.hid hT0
    clear hX hB hF hsm hT0
    go_wp2
    go_ret
    exact ⟨p, _, _, rfl, hL, HT.out, by show 0 ≤ 1000; omega, hb1⟩
  · have hn0 : ((n : Int) == 0) = false := beq_eq_false_iff_ne.2 (by omega)
    have hn1 : ((n : Int) = 0) = False := eq_false (by omega)
    have hbl := hB.1
    have HZ := Lib.hid hZ
    go_wp2
    go_loopg [7, 8, 9, 10, 25] m (fun g s7 s8 s9 s10 kk wr => ∃ k r s, k + g = m ∧ kk = .int .i64 (k : Int) ∧ Lg wr p r s (fun q => q < w.heap.size) ∧ Took (X.map (·.ls)) r ∧ r.l.length ≤ 1000 ∧ Below w.heap.size w wr)
    case atStart => exact ⟨0, _, _, by omega, rfl, hL, hT0, by show 0 ≤ 1000; omega, hb1⟩
    case round =>
      clear hL hT0 hb1
      obtain ⟨k, r, s, hk, rfl, hL, hT, hrl, hb⟩ := hrel
      have HK := Lib.hid hk
      by_cases hkm : k < m
      · have hkm' : (k : Int) < (m : Int) := by omega
        obtain ⟨gB, oB, e, hgB, hcB⟩ := hB.2.2.2 (by omega)
        subst e
        have hy : wr.cell? ⟨gB, oB + k, none⟩ = some (.int .u8 ((bs[k]'(by omega)).toNat : Int)) := (hb.cell (p := ⟨gB, oB + k, none⟩) hgB).trans (hcB k (by omega))
        have hby := (bs[k]'(by omega)).toNat_lt
        generalize (bs[k]'(by omega)) = b at *
        generalize b.toNat = bn at *
        clear hB hcB hbl
        obtain ⟨ix, hix⟩ : ∃ ix, ix = bn % 8 % n := ⟨_, rfl⟩
        have hixn : ix < n := by rw [hix]; exact Nat.mod_lt _ (by omega)
        have v1 : (bn : Int) % 8 % (n : Int) = (ix : Int) := by rw [hix, Int.natCast_emod, Int.natCast_emod]; rfl
        have hixn2 : (ix : Int) < (n : Int) := by omega
        have hXr := hX.below (W' := wr) hb
        obtain ⟨g, off, e, hg, _, hc⟩ := hXr.1 (by omega)
        subst e
        have z0 := hc ix (by omega)
        have hEx := hXr.2 _ (List.getElem_mem (show ix < X.length by omega))
        have hxs := hsm _ (List.getElem_mem (show ix < X.length by omega))
        have hmem : (X[ix]'(by omega)).ls ∈ X.map (·.ls) := List.mem_map.2 ⟨_, List.getElem_mem (by omega), rfl⟩
        have hxp := hF.some_ _ hmem
        have hEw := hX.2 _ (List.getElem_mem (show ix < X.length by omega))
        generalize (X[ix]'(by omega)) = x at *
        obtain ⟨xA, xn, xc, ls⟩ := x
        dsimp only at *
        have hll := hEx.1
        have hxn0 : (xn : Int) ≠ 0 := by omega
        have hxn1 : ((xn : Int) == 0) = false := beq_eq_false_iff_ne.2 hxn0
        have hxn2 : ((xn : Int) = 0) = False := eq_false hxn0
        have hxn3 : (xn = 0) = False := eq_false (by omega)
        have hnn3 : (n = 0) = False := eq_false h0
        obtain ⟨q, hq⟩ : ∃ q, q = bn / 8 % xn := ⟨_, rfl⟩
        have hqn : q < xn := by rw [hq]; exact Nat.mod_lt _ (by omega)
        have v2 : (bn : Int) / 8 % (xn : Int) = (q : Int) := by rw [hq, Int.natCast_emod, Int.natCast_ediv]; rfl
        have hsb := fun W => slice_back (A := xA) (n := xn) (cap := xc) (k := q) (by omega) hEx.2.1 W
        have hP := fun t (ht : t = endT 0 (ls.take q)) => takeP_any hL (fun q hq => Nat.lt_of_lt_of_le hq hb.size) hT.1 (q : Int) t (by omega) (tailAt xA xc q) (xn - q) (xc - q) (ls.drop q) (((hEw.below hb (Nat.le_refl _)).mono (Z' := fun q => q < w.heap.size) fun z hz => HZ.out z hz).back (by omega)) (by omega)
        have hTk := fun t (ht : t = endT 0 (ls.take q)) => took_take hF hT hmem q (by omega) t ht
        have hsz : ∀ r' : RL, Took (X.map (·.ls)) r' → r'.l.length ≤ 1000 := fun r' h => by
          rcases h.2.2.2 with e | e
          · rw [e]; simp
          · obtain ⟨y, hy, e2⟩ := List.mem_map.1 e
            have := (hX.2 y hy).1
            rw [← e2, this]
            exact hsm y hy
        generalize tailAt xA xc q = TA at *
        generalize hT2 : X.map (·.ls) = LS at *
        have hin : 0 < q → ∃ g2 o2 t2, xA = some ⟨g2, o2, none⟩ ∧ wr.cell? ⟨g2, o2 + (q - 1) * 3 + 1, none⟩ = some (.int .i64 t2) ∧ t2 = endT 0 (ls.take q) := fun h0 => by
          obtain ⟨g2, o2, E, ce, e, _, _, c1, _, _⟩ := hEx.at_ (q - 1) (by omega)
          refine ⟨g2, o2, _, e, c1, ?_⟩
          have := (end_take 0 0 (l := ls) (k := q - 1) (by omega)).2
          rw [show q - 1 + 1 = q by omega] at this
          exact this.symm
        have hqle : (q : Int) ≤ (xn : Int) := by omega
        have hqb : q < 1000 := by omega
        have hkb : k < 1000 := by omega
        have HSZ := Lib.hid hsz
        have HB := Lib.hid hb
        have HHX := Lib.hid hX
        clear hX hXr hc hEx hxs hmem hxp hEw hll hF hsm hT2 hsz hqn hq hix hixn hn hn2 hm h0 hk hb hT hrl hL hZ hxn0
        by_cases hq0 : q = 0
        · have hP := hP 0 (by rw [hq0]; rfl)
          have HTK := Lib.hid (hTk 0 (by rw [hq0]; rfl))
          have q1 : ((0 : Int) < (q : Int)) = False := eq_false (by omega)
          have q1d : decide ((0 : Int) < (q : Int)) = false := decide_eq_false (by omega)
          have q1n : (0 < q) = False := eq_false (by omega)
          have q1nd : decide (0 < q) = false := decide_eq_false (by omega)
          clear hq0 hin hTk
          go_wp2_with fail
          refine hP.mono ?_
          rintro e w4 ⟨rfl, ⟨s', hL4, _⟩, hk4⟩
          have HL4 := Lib.hid hL4
          have hb4 : Below w.heap.size w w4 := below_keeps HB.out hk4 (fun i hi => hi) HB.out.size
          clear hP hL4 hk4
          go_wp2
          go_roundg (gk - 1)
          case measure => have : k + gk = m := HK.out; omega
          case rel => exact ⟨k + 1, _, s', by have : k + gk = m := HK.out; omega, by go_num, HL4.out, HTK.out, HSZ.out _ HTK.out, hb4⟩
        · obtain ⟨g2, o2, t2, e, c1, ht2⟩ := hin (by omega)
          subst e
          have hP := hP t2 ht2
          have HTK := Lib.hid (hTk t2 ht2)
          obtain ⟨j, rfl⟩ : ∃ j, q = j + 1 := ⟨q - 1, by omega⟩
          have q1 : (0 : Int) < ((j + 1 : Nat) : Int) := by omega
          have m1 : wrap64 (((j + 1 : Nat) : Int) - 1) = (j : Int) := by rw [← IntWalk.i64_left, IntWalk.i64_in _ (by omega)]; omega
          have m2 : (j : Int) < (xn : Int) := by omega
          rw [Nat.add_sub_cancel] at c1
          have m3 : j < xn := by omega
          generalize hj1 : ((j + 1 : Nat) : Int) = J1 at *
          clear hq0 hin hTk ht2 hj1
          go_wp2_with fail
          refine hP.mono ?_
          rintro e w4 ⟨rfl, ⟨s', hL4, _⟩, hk4⟩
          have HL4 := Lib.hid hL4
          have hb4 : Below w.heap.size w w4 := below_keeps HB.out hk4 (fun i hi => hi) HB.out.size
          clear hP hL4 hk4
          go_wp2
          go_roundg (gk - 1)
          case measure => have : k + gk = m := HK.out; omega
          case rel => exact ⟨k + 1, _, s', by have : k + gk = m := HK.out; omega, by go_num, HL4.out, HTK.out, HSZ.out _ HTK.out, hb4⟩
      · obtain rfl : k = m := by omega
        have hdec : decide ((k : Int) < (k : Int)) = false := decide_eq_false (by omega)
        clear hX hB hF hsm hk hm hbl
        go_wp2
        go_ret
        exact ⟨p, r, s, rfl, hL, hT, hrl, hb⟩

end Go.Proofs.Ytlanjlboipnpfaa
