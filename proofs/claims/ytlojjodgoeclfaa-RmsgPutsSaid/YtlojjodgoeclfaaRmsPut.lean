/- The program's Put, by its contract. -/
import Derived.Test.YtlojjodgoeclfaaRmsTake
import Derived.Test.YtlojjodgoeclfaaRmsProgB
import Derived.Lib.Hide
import Derived.Deep.LoopGhost
namespace Go.Proofs.Ytlojjodgoeclfaa
open Go.RowKit
set_option linter.unusedVariables false
set_option linter.unusedSimpArgs false

theorem Ents.atZ {w : World} {Z : Nat → Prop} {A : Option Addr} {len cap : Nat} {ls : List Ent} (h : Ents w Z A len cap ls) (j : Nat) (hj : j < ls.length) : ∃ g off E c, A = some ⟨g, off, none⟩ ∧ g < w.heap.size ∧ w.cell? ⟨g, off + j * 3, none⟩ = some (.int .i64 ls[j].i) ∧ w.cell? ⟨g, off + j * 3 + 1, none⟩ = some (.int .i64 ls[j].t) ∧
    w.cell? ⟨g, off + j * 3 + 2, none⟩ = some (.slice E ls[j].d.length c) ∧ Lies w E ls[j].d.length c ls[j].d ∧ (0 < ls[j].d.length → ∀ q o, E = some ⟨q, o, none⟩ → Z q) := by
  obtain ⟨g, off, e, hg, _, hc⟩ := h.2.2.2 (by have := h.1; omega)
  obtain ⟨E, c, c0, c1, c2, _, hl, hz⟩ := hc j hj
  exact ⟨g, off, E, c, e, hg, c0, c1, c2, hl, hz⟩

theorem ents_snoc (es : List Ent) (k : Nat) (hk : k < es.length) : entsBytes (es.take (k + 1)) = entsBytes (es.take k) ++ entBytes es[k].i es[k].t es[k].d := by
  unfold entsBytes
  rw [List.take_succ_eq_append_getElem hk, List.flatMap_append]
  simp

theorem u8_in (n : Int) (h : 0 ≤ n ∧ n < 256) : IntKind.u8.wrap n = n := by
  rw [IntKind.wrap_u8]
  omega

theorem byte_wide (n : Int) (h : 0 ≤ n ∧ n < 256) : [UInt8.ofNat n.toNat] = wide n.toNat 1 := by simp [wide]

set_option maxRecDepth 100000 in
set_option maxHeartbeats 6400000 in
theorem putM_any (m : Msg) (A : Option Addr) (cA : Nat) (E : Option Addr) (cE : Nat) (w : World) (p : Nat) (L : List UInt8) (Z : Nat → Prop) (h : Out w p L Z) (hZ : ∀ k, Z k → k < w.heap.size) (hM : MsgIn w Z m A cA E cE) :
    Calls Try.prog 14 #[.pointer (some ⟨p, 0, none⟩), msgV m A cA E cE] w fun e w' => e = .returned (.tuple #[]) ∧ Out w' p (L ++ msgBytes m) Z ∧ Keeps Z w w' := by
  have hA : Below w.heap.size w (w.alloc (.cells (mC m.k m.f m.o m.t m.i m.l m.c m.x m.b A m.es.length cA m.s.i m.s.t E m.s.d.length cE) 30)) := (Below.refl _ _).alloc (Nat.le_refl _) _
  have hR := fun W (hW : Below w.heap.size w W) => rightMP_any m A cA E cE W Z (hM.below hW (Nat.le_refl _))
  have hM0 : MsgIn (w.alloc (.cells (mC m.k m.f m.o m.t m.i m.l m.c m.x m.b A m.es.length cA m.s.i m.s.t E m.s.d.length cE) 30)) (fun k => Z k ∨ k = w.heap.size) m A cA E cE := (hM.below hA (Nat.le_refl _)).mono fun k hk => .inl hk
  have hb : msgBytes m = if rightM m = true then msgL m else [0] := rfl
  have hnum := fun h => right_nums (m := m) h
  rw [hb]
  unfold msgL
  clear hM hb
  generalize rightM m = r at *
  obtain ⟨k, f, o, t, i, l, c, x, b, es, si, st, sd⟩ := m
  dsimp only [msgV] at *
  have h0 := h.box (.cells (mC k f o t i l c x b A es.length cA si st E sd.length cE) 30)
  have hZ0 := box_new hZ (.cells (mC k f o t i l c x b A es.length cA si st E sd.length cE) 30)
  have hr0 := heap_alloc_new w (.cells (mC k f o t i l c x b A es.length cA si st E sd.length cE) 30)
  have hfin : ∀ w', Keeps (fun k => Z k ∨ k = w.heap.size) (w.alloc (.cells (mC k f o t i l c x b A es.length cA si st E sd.length cE) 30)) w' → Keeps Z w w' := fun w' hk => hk.unbox
  have hlen0 : w.heap.size < (w.alloc (.cells (mC k f o t i l c x b A es.length cA si st E sd.length cE) 30)).heap.size := by simp
  have hR := hR _ hA
  clear h hZ hA
  obtain ⟨⟨a0, a1, a2, a3, a4, a5, a6, a7, a8, a9, a10, a11, a12⟩, _⟩ := row13 hr0
  cases r with
  | false =>
    rw [if_neg (by simp)]
    clear hnum hM0
    go_enter Try.func14, Try.ntmps14
    go_wp2_with fail
    refine hR.mono ?_
    rintro e w1 ⟨rfl, hb1⟩
    have h1 := h0.below hb1 (Nat.le_refl _)
    have hZ1 : ∀ k, (Z k ∨ k = w.heap.size) → k < w1.heap.size := fun k hk => Nat.lt_of_lt_of_le (hZ0 k hk) hb1.size
    have hk1 : Keeps (fun k => Z k ∨ k = w.heap.size) (w.alloc (.cells (mC k f o t i l c x b A es.length cA si st E sd.length cE) 30)) w1 := keeps_below hb1 (Nat.le_refl _)
    have hP := byte_any 0 (by omega) w1 p L _ h1 hZ1
    clear hR h0 hZ0 hr0 a0 a1 a2 a3 a4 a5 a6 a7 a8 a9 a10 a11 a12
    go_wp2_with fail
    refine hP.mono ?_
    rintro e w2 ⟨rfl, h2, k2⟩
    have h2' : Out w2 p (L ++ [0]) (fun k => Z k ∨ k = w.heap.size) := h2
    go_wp2
    refine bodyPost_ret (results_none rfl _ _ _) rfl ?_
    exact ⟨rfl, h2'.un, hfin _ (hk1.trans k2)⟩
  | true =>
    rw [if_pos rfl]
    obtain ⟨X7, hX7⟩ : ∃ X, X = (if k = 7 then snapBytes si st sd else []) := ⟨_, rfl⟩
    rw [← hX7]
    obtain ⟨hnk, hnf, hno, hnt, hni, hnl, hnc, hnx, hn4, hrun, hn7, hn8, hn5⟩ := hnum rfl
    clear hnum
    have u1 := u8_in k (by omega)
    have u2 := u8_in f (by omega)
    have u3 := u8_in o (by omega)
    have hrall := run_all hrun
    clear hrun hn5 hn8 hnt hni hnl hnc hnx
    go_enter Try.func14, Try.ntmps14
    go_wp2_with fail
    refine hR.mono ?_
    rintro e w1 ⟨rfl, hb1⟩
    have hO := h0.below hb1 (Nat.le_refl _)
    have hz : ∀ k, (Z k ∨ k = w.heap.size) → k < w1.heap.size := fun k hk => Nat.lt_of_lt_of_le (hZ0 k hk) hb1.size
    have hk : Keeps (fun k => Z k ∨ k = w.heap.size) (w.alloc (.cells (mC k f o t i l c x b A es.length cA si st E sd.length cE) 30)) w1 := keeps_below hb1 (Nat.le_refl _)
    have hr := (hb1.block _ hlen0).trans hr0
    have hMw := hM0.below hb1 (Nat.le_refl _)
    clear hR h0 hZ0 hr0 hb1 hM0 hlen0 a0 a1 a2 a3 a4 a5 a6 a7 a8 a9 a10 a11 a12
    obtain ⟨⟨a0, a1, a2, a3, a4, a5, a6, a7, a8, a9, a10, a11, a12⟩, _⟩ := row13 hr
    have hP := byte_any k (by omega) w1 p L _ hO hz
    go_wp2_with fail
    refine hP.mono ?_
    rintro e w2 ⟨rfl, hO2, kk⟩
    rw [byte_wide k (by omega)] at hO2
    obtain ⟨L1, hL1⟩ : ∃ X, X = L ++ wide k.toNat 1 := ⟨_, rfl⟩
    have hO2 : Out w2 p (L ++ wide k.toNat 1) (fun k => Z k ∨ k = w.heap.size) := hO2
    rw [← hL1] at hO2
    have HL1 := Lib.hid hL1
    replace hO := hO2
    replace hr := (kk.block _ (hlt hr) (.inr rfl)).trans hr
    replace hMw := hMw.keeps kk
    replace hz : ∀ k, (Z k ∨ k = w.heap.size) → k < w2.heap.size := fun k hk => Nat.lt_of_lt_of_le (hz k hk) kk.size
    replace hk := hk.trans kk
    clear hP hO2 kk hL1 a0 a1 a2 a3 a4 a5 a6 a7 a8 a9 a10 a11 a12
    obtain ⟨⟨a0, a1, a2, a3, a4, a5, a6, a7, a8, a9, a10, a11, a12⟩, _⟩ := row13 hr
    have hP := byte_any f (by omega) w2 p L1 _ hO hz
    go_wp2_with fail
    refine hP.mono ?_
    rintro e w3 ⟨rfl, hO2, kk⟩
    rw [byte_wide f (by omega)] at hO2
    obtain ⟨L2, hL2⟩ : ∃ X, X = L1 ++ wide f.toNat 1 := ⟨_, rfl⟩
    have hO2 : Out w3 p (L1 ++ wide f.toNat 1) (fun k => Z k ∨ k = w.heap.size) := hO2
    rw [← hL2] at hO2
    have HL2 := Lib.hid hL2
    replace hO := hO2
    replace hr := (kk.block _ (hlt hr) (.inr rfl)).trans hr
    replace hMw := hMw.keeps kk
    replace hz : ∀ k, (Z k ∨ k = w.heap.size) → k < w3.heap.size := fun k hk => Nat.lt_of_lt_of_le (hz k hk) kk.size
    replace hk := hk.trans kk
    clear hP hO2 kk hL2 a0 a1 a2 a3 a4 a5 a6 a7 a8 a9 a10 a11 a12
    obtain ⟨⟨a0, a1, a2, a3, a4, a5, a6, a7, a8, a9, a10, a11, a12⟩, _⟩ := row13 hr
    have hP := byte_any o (by omega) w3 p L2 _ hO hz
    go_wp2_with fail
    refine hP.mono ?_
    rintro e w4 ⟨rfl, hO2, kk⟩
    rw [byte_wide o (by omega)] at hO2
    obtain ⟨L3, hL3⟩ : ∃ X, X = L2 ++ wide o.toNat 1 := ⟨_, rfl⟩
    have hO2 : Out w4 p (L2 ++ wide o.toNat 1) (fun k => Z k ∨ k = w.heap.size) := hO2
    rw [← hL3] at hO2
    have HL3 := Lib.hid hL3
    replace hO := hO2
    replace hr := (kk.block _ (hlt hr) (.inr rfl)).trans hr
    replace hMw := hMw.keeps kk
    replace hz : ∀ k, (Z k ∨ k = w.heap.size) → k < w4.heap.size := fun k hk => Nat.lt_of_lt_of_le (hz k hk) kk.size
    replace hk := hk.trans kk
    clear hP hO2 kk hL3 a0 a1 a2 a3 a4 a5 a6 a7 a8 a9 a10 a11 a12
    obtain ⟨⟨a0, a1, a2, a3, a4, a5, a6, a7, a8, a9, a10, a11, a12⟩, _⟩ := row13 hr
    have hP := num_any t _ rfl w4 p L3 _ hO hz
    go_wp2_with fail
    refine hP.mono ?_
    rintro e w5 ⟨rfl, hO2, kk⟩
    obtain ⟨L4, hL4⟩ : ∃ X, X = L3 ++ num8 t := ⟨_, rfl⟩
    have hO2 : Out w5 p (L3 ++ num8 t) (fun k => Z k ∨ k = w.heap.size) := hO2
    rw [← hL4] at hO2
    have HL4 := Lib.hid hL4
    replace hO := hO2
    replace hr := (kk.block _ (hlt hr) (.inr rfl)).trans hr
    replace hMw := hMw.keeps kk
    replace hz : ∀ k, (Z k ∨ k = w.heap.size) → k < w5.heap.size := fun k hk => Nat.lt_of_lt_of_le (hz k hk) kk.size
    replace hk := hk.trans kk
    clear hP hO2 kk hL4 a0 a1 a2 a3 a4 a5 a6 a7 a8 a9 a10 a11 a12
    obtain ⟨⟨a0, a1, a2, a3, a4, a5, a6, a7, a8, a9, a10, a11, a12⟩, _⟩ := row13 hr
    have hP := num_any i _ rfl w5 p L4 _ hO hz
    go_wp2_with fail
    refine hP.mono ?_
    rintro e w6 ⟨rfl, hO2, kk⟩
    obtain ⟨L5, hL5⟩ : ∃ X, X = L4 ++ num8 i := ⟨_, rfl⟩
    have hO2 : Out w6 p (L4 ++ num8 i) (fun k => Z k ∨ k = w.heap.size) := hO2
    rw [← hL5] at hO2
    have HL5 := Lib.hid hL5
    replace hO := hO2
    replace hr := (kk.block _ (hlt hr) (.inr rfl)).trans hr
    replace hMw := hMw.keeps kk
    replace hz : ∀ k, (Z k ∨ k = w.heap.size) → k < w6.heap.size := fun k hk => Nat.lt_of_lt_of_le (hz k hk) kk.size
    replace hk := hk.trans kk
    clear hP hO2 kk hL5 a0 a1 a2 a3 a4 a5 a6 a7 a8 a9 a10 a11 a12
    obtain ⟨⟨a0, a1, a2, a3, a4, a5, a6, a7, a8, a9, a10, a11, a12⟩, _⟩ := row13 hr
    have hP := num_any l _ rfl w6 p L5 _ hO hz
    go_wp2_with fail
    refine hP.mono ?_
    rintro e w7 ⟨rfl, hO2, kk⟩
    obtain ⟨L6, hL6⟩ : ∃ X, X = L5 ++ num8 l := ⟨_, rfl⟩
    have hO2 : Out w7 p (L5 ++ num8 l) (fun k => Z k ∨ k = w.heap.size) := hO2
    rw [← hL6] at hO2
    have HL6 := Lib.hid hL6
    replace hO := hO2
    replace hr := (kk.block _ (hlt hr) (.inr rfl)).trans hr
    replace hMw := hMw.keeps kk
    replace hz : ∀ k, (Z k ∨ k = w.heap.size) → k < w7.heap.size := fun k hk => Nat.lt_of_lt_of_le (hz k hk) kk.size
    replace hk := hk.trans kk
    clear hP hO2 kk hL6 a0 a1 a2 a3 a4 a5 a6 a7 a8 a9 a10 a11 a12
    obtain ⟨⟨a0, a1, a2, a3, a4, a5, a6, a7, a8, a9, a10, a11, a12⟩, _⟩ := row13 hr
    have hP := num_any c _ rfl w7 p L6 _ hO hz
    go_wp2_with fail
    refine hP.mono ?_
    rintro e w8 ⟨rfl, hO2, kk⟩
    obtain ⟨L7, hL7⟩ : ∃ X, X = L6 ++ num8 c := ⟨_, rfl⟩
    have hO2 : Out w8 p (L6 ++ num8 c) (fun k => Z k ∨ k = w.heap.size) := hO2
    rw [← hL7] at hO2
    have HL7 := Lib.hid hL7
    replace hO := hO2
    replace hr := (kk.block _ (hlt hr) (.inr rfl)).trans hr
    replace hMw := hMw.keeps kk
    replace hz : ∀ k, (Z k ∨ k = w.heap.size) → k < w8.heap.size := fun k hk => Nat.lt_of_lt_of_le (hz k hk) kk.size
    replace hk := hk.trans kk
    clear hP hO2 kk hL7 a0 a1 a2 a3 a4 a5 a6 a7 a8 a9 a10 a11 a12
    obtain ⟨⟨a0, a1, a2, a3, a4, a5, a6, a7, a8, a9, a10, a11, a12⟩, _⟩ := row13 hr
    have hP := num_any x _ rfl w8 p L7 _ hO hz
    go_wp2_with fail
    refine hP.mono ?_
    rintro e w9 ⟨rfl, hO2, kk⟩
    obtain ⟨L8, hL8⟩ : ∃ X, X = L7 ++ num8 x := ⟨_, rfl⟩
    have hO2 : Out w9 p (L7 ++ num8 x) (fun k => Z k ∨ k = w.heap.size) := hO2
    rw [← hL8] at hO2
    have HL8 := Lib.hid hL8
    replace hO := hO2
    replace hr := (kk.block _ (hlt hr) (.inr rfl)).trans hr
    replace hMw := hMw.keeps kk
    replace hz : ∀ k, (Z k ∨ k = w.heap.size) → k < w9.heap.size := fun k hk => Nat.lt_of_lt_of_le (hz k hk) kk.size
    replace hk := hk.trans kk
    clear hP hO2 kk hL8 a0 a1 a2 a3 a4 a5 a6 a7 a8 a9 a10 a11 a12
    obtain ⟨⟨a0, a1, a2, a3, a4, a5, a6, a7, a8, a9, a10, a11, a12⟩, _⟩ := row13 hr
    have hP := flag_any b w9 p L8 _ hO hz
    go_wp2_with fail
    refine hP.mono ?_
    rintro e w10 ⟨rfl, hO2, kk⟩
    obtain ⟨L9, hL9⟩ : ∃ X, X = L8 ++ flagL b := ⟨_, rfl⟩
    have hO2 : Out w10 p (L8 ++ flagL b) (fun k => Z k ∨ k = w.heap.size) := hO2
    rw [← hL9] at hO2
    have HL9 := Lib.hid hL9
    replace hO := hO2
    replace hr := (kk.block _ (hlt hr) (.inr rfl)).trans hr
    replace hMw := hMw.keeps kk
    replace hz : ∀ k, (Z k ∨ k = w.heap.size) → k < w10.heap.size := fun k hk => Nat.lt_of_lt_of_le (hz k hk) kk.size
    replace hk := hk.trans kk
    clear hP hO2 kk hL9 a0 a1 a2 a3 a4 a5 a6 a7 a8 a9 a10 a11 a12
    obtain ⟨⟨a0, a1, a2, a3, a4, a5, a6, a7, a8, a9, a10, a11, a12⟩, _⟩ := row13 hr
    have hP := count_any (es.length : Int) (es.length : Int) (IntWalk.u64_in _ (by omega)) w10 p L9 _ hO hz
    go_wp2_with fail
    refine hP.mono ?_
    rintro e w11 ⟨rfl, hO2, kk⟩
    obtain ⟨L10, hL10⟩ : ∃ X, X = L9 ++ wide es.length 4 := ⟨_, rfl⟩
    have hO2 : Out w11 p (L9 ++ wide es.length 4) (fun k => Z k ∨ k = w.heap.size) := by simpa using hO2
    rw [← hL10] at hO2
    have HL10 := Lib.hid hL10
    replace hO := hO2
    replace hr := (kk.block _ (hlt hr) (.inr rfl)).trans hr
    replace hMw := hMw.keeps kk
    replace hz : ∀ k, (Z k ∨ k = w.heap.size) → k < w11.heap.size := fun k hk => Nat.lt_of_lt_of_le (hz k hk) kk.size
    replace hk := hk.trans kk
    clear hP hO2 kk hL10 a0 a1 a2 a3 a4 a5 a6 a7 a8 a9 a10 a11 a12
    obtain ⟨⟨a0, a1, a2, a3, a4, a5, a6, a7, a8, a9, a10, a11, a12⟩, _⟩ := row13 hr
    have HO := Lib.hid hO
    have HK := Lib.hid hk
    go_wp2
    go_loopg [58] es.length (fun g ii wr => ∃ j : Nat, j + g = es.length ∧ ii = .int .i64 (j : Int) ∧ Out wr p (L10 ++ entsBytes (es.take j)) (fun k => Z k ∨ k = w.heap.size) ∧ Keeps (fun k => Z k ∨ k = w.heap.size) w11 wr)
    case atStart => exact ⟨0, by omega, rfl, by rw [List.take_zero, show entsBytes [] = [] from rfl, List.append_nil]; exact HO, Keeps.refl _ _⟩
    case round =>
      obtain ⟨j, hj, rfl, hOr, kr⟩ := hrel
      have hMr := hMw.keeps kr
      have hrr := (kr.block _ (hlt hr) (.inr rfl)).trans hr
      have hzr : ∀ k, (Z k ∨ k = w.heap.size) → k < wr.heap.size := fun k hk => Nat.lt_of_lt_of_le (hz k hk) kr.size
      have HJ := Lib.hid hj
      have HKR := Lib.hid kr
      by_cases hjl : j < es.length
      · have hlt' : (j : Int) < (es.length : Int) := by omega
        obtain ⟨g, off, F, cc, hA, hg, y0, y1, y2, hly, hlz⟩ := hMr.ents.atZ j hjl
        obtain rfl : A = some ⟨g, off, none⟩ := hA
        have hsn := ents_snoc es j hjl
        have hre := hrall _ (List.getElem_mem hjl)
        have hre := (rightB_nums hre).2.2
        have HSN := Lib.hid hsn
        generalize es[j] = a at *
        obtain ⟨ei, et, ed⟩ := a
        dsimp only at *
        have hA1 := (Below.refl wr.heap.size wr).alloc (Nat.le_refl _) (.cells #[.int .i64 ei, .int .i64 et, .slice F ed.length cc] 58)
        have hq1 := heap_alloc_new wr (.cells #[.int .i64 ei, .int .i64 et, .slice F ed.length cc] 58)
        have hO1 := hOr.below hA1 (Nat.le_refl _)
        have hz1 : ∀ k, (Z k ∨ k = w.heap.size) → k < (wr.alloc (.cells #[.int .i64 ei, .int .i64 et, .slice F ed.length cc] 58)).heap.size := fun k hk => Nat.lt_of_lt_of_le (hzr k hk) hA1.size
        have hP := putE_any ei et F ed.length cc ed _ p _ _ hO1 hz1 (by omega) (hly.below hA1 (Nat.le_refl _)) hlz
        have hkA : Keeps (fun k => Z k ∨ k = w.heap.size) wr (wr.alloc (.cells #[.int .i64 ei, .int .i64 et, .slice F ed.length cc] 58)) := keeps_alloc _ _
        obtain ⟨⟨z0, z1, z2⟩, _⟩ := row3 hq1
        clear hly hlz hO1 hz1 hA1 hq1 hOr hzr hMr hsn hj kr hrall hMw hr hz hO hk a0 a1 a2 a3 a4 a5 a6 a7 a8 a9 a10 a11 a12
        generalize ed.length = en at *
        go_wp2_with fail
        refine hP.mono ?_
        rintro e wn ⟨rfl, hOn, kn⟩
        go_wp2
        go_roundg (gk - 1)
        case measure => have : j + gk = es.length := HJ; omega
        case rel => exact ⟨j + 1, by have : j + gk = es.length := HJ; omega, by go_num, by rw [show entsBytes (es.take (j + 1)) = _ from HSN, ← List.append_assoc]; exact hOn, Keeps.trans HKR (hkA.trans kn)⟩
      · obtain rfl : j = es.length := by omega
        have hdec : decide ((es.length : Int) < (es.length : Int)) = false := decide_eq_false (by omega)
        rw [List.take_length] at hOr
        obtain ⟨⟨c0, c1, c2, c3, c4, c5, c6, c7, c8, c9, c10, c11, c12⟩, _⟩ := row13 hrr
        have hkr := hfin _ (hk.trans kr)
        have HALL : ∀ X : List UInt8, (L10 ++ entsBytes es) ++ X = L ++ (wide k.toNat 1 ++ (wide f.toNat 1 ++ (wide o.toNat 1 ++ (num8 t ++ (num8 i ++ (num8 l ++ (num8 c ++ (num8 x ++ (flagL b ++ (wide es.length 4 ++ (entsBytes es ++ X))))))))))) := fun X => by
          rw [show L10 = L9 ++ wide es.length 4 from HL10, show L9 = L8 ++ flagL b from HL9, show L8 = L7 ++ num8 x from HL8, show L7 = L6 ++ num8 c from HL7, show L6 = L5 ++ num8 l from HL6, show L5 = L4 ++ num8 i from HL5, show L4 = L3 ++ num8 t from HL4, show L3 = L2 ++ wide o.toNat 1 from HL3, show L2 = L1 ++ wide f.toNat 1 from HL2, show L1 = L ++ wide k.toNat 1 from HL1]
          simp only [List.append_assoc]
        clear hrall hMw hr hz hO hj kr a0 a1 a2 a3 a4 a5 a6 a7 a8 a9 a10 a11 a12
        by_cases h7 : k = 7
        · subst h7
          rw [if_pos rfl] at hX7
          subst hX7
          have hsn := (snapB_nums (hn7 rfl)).2.2
          have hP := putS_any si st E sd.length cE sd wr p _ _ hOr hzr (by omega) hMr.lies hMr.hz
          have HAL := Lib.hid (HALL (snapBytes si st sd))
          clear HALL hn7 hMr
          go_wp2_with fail
          refine hP.mono ?_
          rintro e wn ⟨rfl, hOn, kn⟩
          go_wp2
          refine bodyPost_end (results_none rfl _ _ _) rfl ?_
          rw [show L10 ++ entsBytes es ++ snapBytes si st sd = _ from HAL] at hOn
          exact ⟨rfl, hOn.un, hkr.trans (kn.mono fun k hk => .inl hk)⟩
        · rw [if_neg h7] at hX7
          subst hX7
          have e7 : (k == 7) = false := beq_eq_false_iff_ne.2 h7
          have e8 : (k = 7) = False := eq_false h7
          have HAL := Lib.hid (HALL [])
          clear HALL hn7 h7 hMr hzr
          go_wp2
          refine bodyPost_end (results_none rfl _ _ _) rfl ?_
          have hOn : Out wr p (L10 ++ entsBytes es ++ []) (fun k => Z k ∨ k = w.heap.size) := by rw [List.append_nil]; exact hOr
          rw [show L10 ++ entsBytes es ++ [] = _ from HAL] at hOn
          exact ⟨rfl, hOn.un, hkr⟩

end Go.Proofs.Ytlojjodgoeclfaa
