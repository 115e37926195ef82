/- RlogPlays' walk. -/
import Derived.Test.YtlanjlboipnpfaaLogAwake
import Derived.Test.YtlanjlboipnpfaaLogIs
import Derived.Test.YtlanjlboipnpfaaLogFew
import Derived.Test.YtlanjlboipnpfaaLogRefE
import Derived.Deep.RegionWith
namespace Go.Proofs.Ytlanjlboipnpfaa.rlogPlays
open Go.ChangeShapes Go.WideShapes Go.ChangeAt Go.RowKit Go.Proofs.Ytlanjlboipnpfaa
set_option linter.unusedVariables false
set_option linter.unusedSimpArgs false

/-- A log behind so many acts, by the program and by the document. -/
structure Doing (w W : World) (p box k : Nat) (r : RL) (A : Option Addr) (n c s : Nat) (ZL ZE : Nat → Prop) : Prop where
  lg : Lg W p r s ZL
  good : Good r
  rel : frel r s
  ents : Ents W ZE A n c r.l
  lt : ∀ q, ZL q → q < W.heap.size
  sub : ∀ q, ZE q → ZL q
  zl : ZL box
  ze : ¬ ZE box
  old : ∀ q, q < w.heap.size → ZE q
  row : W.heap[box]? = some (.cells (lgC r A n c) 32)
  below : Below w.heap.size w W
  len : r.l.length ≤ 30 + 12 * k

def DoingE (w W : World) (p box k : Nat) : Prop := ∃ r A n c s ZL ZE, Doing w W p box k r A n c s ZL ZE

section
variable {w W X : World} {p box k : Nat} {r : RL} {A : Option Addr} {n c s : Nat} {ZL ZE : Nat → Prop}

theorem Doing.step (h : Doing w W p box k r A n c s ZL ZE) (hb : Below W.heap.size W X) : Doing w X p box k r A n c s ZL ZE :=
  ⟨h.lg.below hb, h.good, h.rel, h.ents.below hb (Nat.le_refl _), fun q hq => Nat.lt_of_lt_of_le (h.lt q hq) hb.size, h.sub, h.zl, h.ze, h.old, (hb.block _ (hlt h.row)).trans h.row, h.below.trans (hb.mono h.below.size), h.len⟩

theorem Doing.act (h : Doing w W p box k r A n c s ZL ZE) {a : ActL} (ha : ActIn w (· < w.heap.size) a) : ActIn W ZE a :=
  ⟨(ha.dat.keep h.below.size fun q hq _ => h.below.block q hq).mono fun q hq => h.old q hq, (ha.ents.below h.below (Nat.le_refl _)).mono fun q hq => h.old q hq, ha.capB, ha.kin, ha.iin, ha.tin⟩

theorem Doing.out (h : Doing w W p box k r A n c s ZL ZE) : w.heap.size ≤ box := by
  rcases Nat.lt_or_ge box w.heap.size with h1 | h1
  · exact absurd (h.old _ h1) h.ze
  · exact h1

theorem Doing.next (h : Doing w W p box k r A n c s ZL ZE) {w7 : World} {r' : RL} {s' : Nat} {A' : Option Addr} {n' c' : Nat} {ZL' ZE' : Nat → Prop} (h1 : Lg w7 p r' s' ZL') (h2 : Good r') (h3 : frel r' s') (h4 : Ents w7 ZE' A' n' c' r'.l) (h5 : ∀ q, ZL q → ZL' q) (h6 : ∀ q, ZL' q → q < w7.heap.size) (h7 : ∀ q, ZE' q → ZL' q) (h8 : ∀ q, ZE' q → ZE q ∨ W.heap.size ≤ q) (h9 : Keeps ZL W w7) (h10 : r'.l.length ≤ r.l.length + 12) :
    DoingE w ((((w7.setCell ⟨box, 0, none⟩ (.int .i64 r'.i)).setCell ⟨box, 1, none⟩ (.int .i64 r'.t)).setCell ⟨box, 2, none⟩ (.slice A' n' c')).setCell ⟨box, 3, none⟩ (.int .i64 r'.f)) p box (k + 1) := by
  have hbl := h.lt _ h.zl
  have hne : ¬ ZE' box := fun e => by
    rcases h8 _ e with e | e
    · exact h.ze e
    · omega
  have hrow : w7.heap[box]? = some (.cells (lgC r A n c) 32) := (h9.block _ hbl h.zl).trans h.row
  have hout := h.out
  have hlen := h.len
  refine ⟨r', A', n', c', s', ZL', fun q => ZE' q ∨ ZE q, ?_, h2, h3, ?_, ?_, ?_, h5 _ h.zl, fun e => e.elim hne h.ze, fun q hq => .inr (h.old q hq), set4_at _ _ _ _ _ _ _ _ _ _ _ hrow, ?_, by omega⟩
  · exact h1.keep (by simp) fun q _ hq => fill_off _ _ _ _ _ _ _ fun e => hq (e ▸ h5 _ h.zl)
  · exact (ents_fill h4 hne _ _ _ _).mono fun q hq => .inl hq
  · intro q hq
    have := h6 q hq
    simpa using this
  · rintro q (hq | hq)
    · exact h7 q hq
    · exact h5 _ (h.sub q hq)
  · exact below_fill (below_keeps h.below h9 (fun i hi => h.sub _ (h.old i hi)) h.below.size) box hout _ _ _ _
theorem Doing.is (h : Doing w W p box k r A n c s ZL ZE) (hk : k ≤ 80) (i t many : Int) : Calls Try.prog 11 #[ptrV p, lgV r A n c, .int .i64 i, .int .i64 t, .int .i64 many] W fun e w' => e = .returned (.bool true) ∧ Below W.heap.size W w' := by
  obtain ⟨A0, c0, xs, hL⟩ := h.lg
  have hn := h.ents.1
  have hl := h.len
  exact isL_any hL h.good h.rel ZE A n c h.ents (by omega) i t many

end

theorem few_len {ls : List Ent} {m : Nat} (h : fewE ls m = true) : ls.length ≤ m := by
  unfold fewE at h
  simp only [Bool.and_eq_true, decide_eq_true_eq] at h
  exact h.1

set_option maxRecDepth 100000 in
set_option maxHeartbeats 6400000 in
theorem walk (i0 t0 : Int) (A : Option Addr) (len cap : Nat) (ls : List Ent) (B : Option Addr) (bl bcap : Nat) (K : Nat → ActL) (i t many : Int) (w : World) (hE : Ents w (· < w.heap.size) A len cap ls) (hm : len ≤ maxLen) (hd : ∀ e ∈ ls, e.d.length ≤ 140737488355328)
    (hA : ActsIn w B bl K) (hbm : bl ≤ maxLen) (hK : ∀ j, j < bl → ActIn w (· < w.heap.size) (K j)) (hKd : ∀ j, j < bl → ∀ e ∈ (K j).ms, e.d.length ≤ 140737488355328) :
    Calls Try.prog 3 #[.int .i64 i0, .int .i64 t0, .slice A len cap, .slice B bl bcap, .int .i64 i, .int .i64 t, .int .i64 many] w fun e w' => e = .returned (.bool true) ∧ Below w.heap.size w w' := by
  have hF := fun W (hW : Below w.heap.size w W) => fewR_any _ A len cap ls 30 W (hE.below hW (Nat.le_refl _)) hm (by omega) hd
  have hG := fun W (hW : Below w.heap.size w W) => few8_any (· < w.heap.size) B bl bcap K 40 W (fun h0 => by
    obtain ⟨g, off, e, hg, hc⟩ := hA h0
    refine ⟨g, off, e, Nat.lt_of_lt_of_le hg hW.size, fun j hj => ?_⟩
    obtain ⟨x0, x1, x2, x3, x4⟩ := hc j hj
    exact ⟨(hW.cell (p := ⟨g, _, none⟩) hg).trans x0, (hW.cell (p := ⟨g, _, none⟩) hg).trans x1, (hW.cell (p := ⟨g, _, none⟩) hg).trans x2, (hW.cell (p := ⟨g, _, none⟩) hg).trans x3, (hW.cell (p := ⟨g, _, none⟩) hg).trans x4⟩) (fun j hj => ⟨(hK j hj).dat.keep hW.size fun q hq _ => hW.block q hq, (hK j hj).ents.below hW (Nat.le_refl _), (hK j hj).capB, (hK j hj).kin, (hK j hj).iin, (hK j hj).tin⟩) hKd hbm (by omega)
  have hq1 := fun (h : fewE ls 30 = true) => few_len h
  have hq2 := fun (h : fewA K bl 40 = true) => fewA_at h
  clear hd hKd
  generalize fewE ls 30 = q1 at *
  generalize fewA K bl 40 = q2 at *
  go_enter Try.func3, Try.ntmps3
  go_wp2_with fail
  refine (awake8_any _).mono ?_
  rintro e w1 ⟨rfl, hb1⟩
  have hF1 := hF w1 hb1
  clear hF
  go_wp2_with fail
  refine hF1.mono ?_
  rintro e w2 ⟨rfl, rfl⟩
  cases q1 with
  | false =>
    clear hG hF1
    go_wp2_with fail
    refine (awake8_any _).mono ?_
    rintro e w3 ⟨rfl, hb3⟩
    go_wp2
    go_ret
    exact ⟨rfl, hb1.trans (hb3.mono hb1.size)⟩
  | true =>
    have hl30 := hq1 rfl
    have hG1 := hG w1 hb1
    clear hG hF1 hq1
    go_wp2_with fail
    refine hG1.mono ?_
    rintro e w2 ⟨rfl, hb2⟩
    have hbw2 := hb1.trans (hb2.mono hb1.size)
    clear hG1
    cases q2 with
    | false =>
      go_wp2_with fail
      refine (awake8_any _).mono ?_
      rintro e w3 ⟨rfl, hb3⟩
      go_wp2
      go_ret
      exact ⟨rfl, hbw2.trans (hb3.mono hbw2.size)⟩
    | true =>
      obtain ⟨hl40, hfew⟩ := hq2 rfl
      clear hq2 hb1 hb2
      have hE2 := hE.below hbw2 (Nat.le_refl _)
      have hll := hE.1
      by_cases hyes : RL.base i0 t0 = true ∧ runB i0 t0 ls = true
      · obtain ⟨hy1, hy2⟩ := hyes
        have hP := newP_yes i0 t0 _ A len cap ls w2 hE2 (by omega) hy1 hy2
        have hs2 := hbw2.size
        have hR := fun W (hW : Below w2.heap.size w2 W) => newR_yes i0 t0 (fun q => q < w2.heap.size ∨ W.heap.size ≤ q) A len cap ls W ((hE2.below hW (Nat.le_refl _)).mono fun q hq => .inl (by have hq : q < w.heap.size := hq; omega)) (by omega) (fun k hk => .inr hk) hy1 hy2
        clear hE hE2 hm hbm
        go_wp2_with fail
        refine hP.mono ?_
        rintro e w3 ⟨p, rfl, hL3, hb3⟩
        have hR3 := hR w3 hb3
        clear hP hR
        go_wp2_with fail
        refine hR3.mono ?_
        rintro e w4 ⟨A', c', rfl, hE4, hb4⟩
        have hA5 := (Below.refl w4.heap.size w4).alloc (Nat.le_refl _) (.cells #[.int .i64 i0, .int .i64 t0, .slice A' len c', .int .i64 0] 32)
        have hs3 := hb3.size
        have hs4 := hb4.size
        have hD : Doing w (w4.alloc (.cells #[.int .i64 i0, .int .i64 t0, .slice A' len c', .int .i64 0] 32)) p w4.heap.size 0 ⟨i0, t0, ls, 0⟩ A' len c' len (fun q => (q < w2.heap.size ∨ w3.heap.size ≤ q) ∧ q < w4.heap.size + 1) (fun q => (q < w2.heap.size ∨ w3.heap.size ≤ q) ∧ q < w4.heap.size) := by
          refine ⟨(((hL3.grow.below hb4).below hA5).mono fun q hq => hq.1), ⟨hy1, hy2⟩, .inl ⟨rfl, hll.symm⟩, hE4.old.below hA5 (Nat.le_refl _), fun q hq => by rw [World.size_alloc]; exact hq.2, fun q hq => ⟨hq.1, by omega⟩, ⟨.inr hs4, by omega⟩, fun e => by have := e.2; omega, fun q hq => ⟨.inl (by omega), by omega⟩, heap_alloc_new _ _, ?_, ?_⟩
          · exact (hbw2.trans ((hb3.trans (hb4.mono hs3)).mono hs2)).alloc (by omega) _
          · show ls.length ≤ _
            omega
        have hI := hD.is (by omega) i t many
        obtain ⟨⟨b0, b1, b2, b3⟩, _⟩ := row4 hD.row
        have hbox : w.heap.size ≤ w4.heap.size := by omega
        clear hL3 hR3 hE4 hA5 hb3 hb4 hs2 hs3 hs4 hbw2 hll hl30 hy1 hy2
        go_wp2_with fail
        generalize w4.heap.size = box at *
        generalize w4.alloc (.cells #[.int .i64 i0, .int .i64 t0, .slice A' len c', .int .i64 0] 32) = w5 at *
        refine hI.mono ?_
        rintro e w6 ⟨rfl, hb6⟩
        have hD6 : DoingE w w6 p box 0 := ⟨_, _, _, _, _, _, _, hD.step hb6⟩
        clear hI hD hb6 b0 b1 b2 b3
        go_wp2
        go_loopg [18, 19, 68] bl (fun g s18 s19 kk wr => ∃ k : Nat, k + g = bl ∧ kk = .int .i64 (k : Int) ∧ DoingE w wr p box k)
        case atStart => exact ⟨0, by omega, rfl, hD6⟩
        case round =>
          clear hD6
          obtain ⟨k, hk, rfl, hDE⟩ := hrel
          have HK := Lib.hid hk
          by_cases hkl : k < bl
          · have hkl' : (k : Int) < (bl : Int) := by omega
            have hkl40 : k < 40 := by omega
            have HKL := Lib.hid hkl40
            obtain ⟨r, A1, n1, c1, s1, ZL, ZE, hD⟩ := hDE
            obtain ⟨g, off, rfl, hg, hc⟩ := hA (by omega)
            obtain ⟨x0, x1, x2, x3, x4⟩ := hc k hkl
            have x0 := (hD.below.cell (p := ⟨g, off + k * 5, none⟩) hg).trans x0
            have x1 := (hD.below.cell (p := ⟨g, off + k * 5 + 1, none⟩) hg).trans x1
            have x2 := (hD.below.cell (p := ⟨g, off + k * 5 + 2, none⟩) hg).trans x2
            have x3 := (hD.below.cell (p := ⟨g, off + k * 5 + 3, none⟩) hg).trans x3
            have x4 := (hD.below.cell (p := ⟨g, off + k * 5 + 4, none⟩) hg).trans x4
            have hak := hD.act (hK k hkl)
            have hm12 : (K k).m ≤ 12 := by
              have h1 := hfew k hkl
              unfold fewAt at h1
              rw [Bool.and_eq_true] at h1
              have h2 := few_len h1.2
              have h3 := hak.ents.1
              omega
            have hDd := hD.step (Below.refl _ _).drew
            have hnn := hD.ents.1
            have hln := hD.len
            have hDo := do_any hDd.lg hDd.good hDd.rel hDd.ents hDd.lt hDd.sub (by omega) (K k) ⟨hak.dat, hak.ents, hak.capB, hak.kin, hak.iin, hak.tin⟩ hm12
            obtain ⟨⟨b0, b1, b2, b3⟩, _⟩ := row4 hD.row
            generalize K k = a at *
            obtain ⟨ak, ai, at_, aD, adc, ad, aB, am, acB, ams⟩ := a
            dsimp only at *
            have HHK := Lib.hid hK
            clear hA hK hfew hc hak hm12 hk hkl40 hnn hln
            go_upto_region 12 with fail
            go_cut [18] (fun v wx => v = .bool true ∧ DoingE w wx p box (k + 1))
            case first =>
              go_region_with ((go_at_call 12
                               refine hDo.mono ?_
                               rintro e w7 ⟨r', s', A', n', c', ZL', ZE', rfl, h1, h2, h3, h4, h5, h6, h7, h8, h9, h10⟩
                               have HN := Lib.hid (hDd.next h1 h2 h3 h4 h5 h6 h7 h8 h9 h10)
                               obtain ⟨_, ⟨f0, f1, f2, f3⟩⟩ := row4 ((h9.block _ (hlt hDd.row) hDd.zl).trans hDd.row)
                               clear h1 h2 h3 h4 h5 h6 h7 h8 h9 h10))
              all_goals
                go_wp2_with fail
                go_meet
                exact ⟨rfl, HN.out⟩
            case rest =>
              obtain ⟨rfl, r2, A2, n2, c2, s2, ZL2, ZE2, hD2⟩ := hcut
              have hI := hD2.is (by have := HKL.out; omega) i t many
              obtain ⟨⟨d0, d1, d2, d3⟩, _⟩ := row4 hD2.row
              clear hDo hDd hD x0 x1 x2 x3 x4 b0 b1 b2 b3
              go_wp2_with fail
              refine hI.mono ?_
              rintro e w8 ⟨rfl, hb8⟩
              have HD := Lib.hid (show DoingE w w8 p box (k + 1) from ⟨_, _, _, _, _, _, _, hD2.step hb8⟩)
              clear hI hD2 hb8 d0 d1 d2 d3
              go_wp2
              go_roundg (gk - 1)
              case measure => have : k + gk = bl := HK.out; omega
              case rel =>
                have := HKL.out
                exact ⟨k + 1, by have : k + gk = bl := HK.out; omega, by go_num, HD.out⟩
          · obtain rfl : k = bl := by omega
            have hdec : decide ((k : Int) < (k : Int)) = false := decide_eq_false (by omega)
            obtain ⟨r, A1, n1, c1, s1, ZL, ZE, hD⟩ := hDE
            have hb := hD.below
            clear hA hK hfew hk hD
            go_wp2
            go_ret
            exact ⟨rfl, hb⟩
      · have hno : RL.base i0 t0 = false ∨ runB i0 t0 ls = false := by
          cases h1 : RL.base i0 t0 with
          | false => exact .inl rfl
          | true =>
            cases h2 : runB i0 t0 ls with
            | false => exact .inr rfl
            | true => exact absurd ⟨h1, h2⟩ hyes
        have hP := newP_no i0 t0 _ A len cap ls w2 hE2 (by omega) hno
        have hR := fun W (hW : Below w2.heap.size w2 W) => newR_no i0 t0 _ A len cap ls W (hE2.below hW (Nat.le_refl _)) (by omega) hno
        clear hE hE2 hyes hno hA hK hfew hm hbm
        go_wp2_with fail
        refine hP.mono ?_
        rintro e w3 ⟨rfl, hb3⟩
        have hR3 := hR w3 hb3
        clear hP hR
        go_wp2_with fail
        refine hR3.mono ?_
        rintro e w4 ⟨rfl, hb4⟩
        go_wp2
        go_ret
        exact ⟨rfl, (hbw2.trans ((hb3.trans (hb4.mono hb3.size)).mono hbw2.size)).alloc (Nat.le_trans hbw2.size (Nat.le_trans hb3.size hb4.size)) _⟩

end Go.Proofs.Ytlanjlboipnpfaa.rlogPlays
