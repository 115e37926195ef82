/- RlogOwn's walk. -/
import Derived.Test.YtlanjlboipnpfaaLogOwnB
import Derived.Test.YtlanjlboipnpfaaLogAwake
import Derived.Test.YtlanjlboipnpfaaLogProgI
import Derived.Test.YtlanjlboipnpfaaLogProgL
import Derived.BigQuiet
import Derived.Deep.RegionHeld3
namespace Go.Proofs.Ytlanjlboipnpfaa.rlogOwn
open Go.ChangeShapes Go.WideShapes Go.ChangeAt Go.RowKit Go.Proofs.Ytlanjlboipnpfaa
set_option linter.unusedVariables false
set_option linter.unusedSimpArgs false

set_option maxRecDepth 100000 in
set_option maxHeartbeats 1600000 in
theorem walk_out (A0 : Option Addr) (n0 c0 : Nat) (a1 : Int) (w : World) (h0 : n0 ≤ maxLen) (hno : n0 = 0 ∨ 500 < n0) :
    Calls Try.prog 5 #[.slice A0 n0 c0, .int .u8 a1] w fun e w' => e = .returned (.bool true) ∧ Below w.heap.size w w' := by
  unfold maxLen at h0
  go_enter Try.func5, Try.ntmps5
  go_wp2_with fail
  refine (awake8_any _).mono ?_
  rintro e w1 ⟨rfl, hb1⟩
  have hA := awake8_any w1
  by_cases g0 : n0 = 0
  · subst g0
    clear hno h0
    go_wp2_with fail
    refine hA.mono ?_
    rintro e w2 ⟨rfl, hb2⟩
    go_wp2
    go_ret
    exact ⟨rfl, hb1.trans (hb2.mono hb1.size)⟩
  · have q0 : ((n0 : Int) < 1) = False := eq_false (by omega)
    have q0d : decide ((n0 : Int) < 1) = false := decide_eq_false (by omega)
    have q1 : (500 : Int) < (n0 : Int) := by omega
    clear hno h0
    go_wp2_with fail
    refine hA.mono ?_
    rintro e w2 ⟨rfl, hb2⟩
    go_wp2
    go_ret
    exact ⟨rfl, hb1.trans (hb2.mono hb1.size)⟩

theorem frozen_of_block {w w' : World} {a : Addr} (h : w'.heap[a.block]? = w.heap[a.block]?) : w'.frozen? a = w.frozen? a := by
  unfold World.frozen?
  rw [h]

/-- The log with so many entries of these bytes. -/
def rOwn (j : Nat) (L : List UInt8) : RL := ⟨0, 0, (List.range j).map fun (i : Nat) => ⟨(i : Int) + 1, 1, L⟩, 0⟩

theorem rOwn_len (j : Nat) (L : List UInt8) : (rOwn j L).l.length = j := by simp [rOwn]

theorem rOwn_succ (j : Nat) (L : List UInt8) : (rOwn (j + 1) L).l = (rOwn j L).l ++ [⟨(j : Int) + 1, 1, L⟩] := by
  simp [rOwn, List.range_succ]

theorem rOwn_good (j : Nat) (L : List UInt8) (hj : j ≤ 100) (hL : L.length ≤ 500) : Good (rOwn j L) ∧ (rOwn j L).lastI = (j : Int) ∧ (rOwn j L).lastT ≤ 1 := by
  induction j with
  | zero => exact ⟨⟨rfl, rfl⟩, rfl, by show (0 : Int) ≤ 1; omega⟩
  | succ j ih =>
    obtain ⟨h1, h2, h3⟩ := ih (by omega)
    have hr : runB (rOwn j L).lastI (rOwn j L).lastT [⟨(rOwn j L).lastI + 1, 1, L⟩] = true := by
      rw [add_right, h2, Bool.and_eq_true]
      exact ⟨(rightB_iff _ _ _).2 ⟨by omega, by omega, by omega⟩, decide_eq_true h3⟩
    have hg := h1.more hr
    have hg' : Good (rOwn (j + 1) L) := by
      refine ⟨rfl, ?_⟩
      have := hg.run
      obtain ⟨a, b, c⟩ := mark_l (⟨(rOwn j L).i, (rOwn j L).t, (rOwn j L).l ++ [⟨(rOwn j L).lastI + 1, 1, L⟩], (rOwn j L).f⟩ : RL) ((rOwn j L).lastI + 1)
      unfold RL.more at this
      rw [a, b, c, h2] at this
      show runB 0 0 (rOwn (j + 1) L).l = true
      rw [rOwn_succ]
      exact this
    refine ⟨hg', by rw [hg'.lastI, rOwn_len]; show (0 : Int) + _ = _; omega, ?_⟩
    rw [lastT_end, rOwn_succ]
    simp [endT]

theorem rOwn_all (j : Nat) (L : List UInt8) (h1 : 1 ≤ j) (hj : j ≤ 90) (hL : L.length ≤ 500) : (rOwn j L).place 1 = some 0 ∧ (rOwn j L).fromL 1 99 = (rOwn j L).l := by
  have hg := (rOwn_good j L (by omega) hL).1
  have hl := rOwn_len j L
  have hp : (rOwn j L).place 1 = some 0 := by
    unfold RL.place
    rw [if_pos (by show (0 : Int) < 1 ∧ 1 ≤ (0 : Int) + _; omega)]
    rfl
  refine ⟨hp, ?_⟩
  rw [hg.from_, sub_some hp, List.drop_zero, List.take_of_length_le (by rw [hl]; show j ≤ (99 : Int).toNat; omega)]

/-- The log behind so many Adds. -/
structure OwnAt (w W : World) (p j : Nat) (L : List UInt8) (Z : Nat → Prop) : Prop where
  lg : Lg W p (rOwn j L) 0 Z
  old : ∀ q, q < w.heap.size → Z q
  lt : ∀ q, Z q → q < W.heap.size
  below : Below w.heap.size w W

/-- What was answered, and is being turned: so many have turned. -/
structure Turned (u W : World) (K j n0 : Nat) (ys : List Lay) (L : List UInt8) : Prop where
  row : ∃ cur : Array Value, W.heap[u.heap.size]? = some (.cells cur 43 (0, 0)) ∧ cur.size = K * 3 ∧ ∀ (i : Nat) (hi : i < ys.length), cur[i * 3 + 2]? = some (.slice ys[i].A n0 ys[i].c)
  rest : ∀ (i : Nat) (hi : i < ys.length), j ≤ i → Lies W ys[i].A n0 ys[i].c L ∧ Bare W ys[i].A
  below : Below u.heap.size u W

theorem Turned.start {u W : World} {K n0 : Nat} {ys : List Lay} {L : List UInt8} (h : CopyOwn u W K K ys) (hL : L.length = n0) (hd : ∀ y ∈ ys, y.e.d = L) : Turned u W K 0 n0 ys L := by
  obtain ⟨cur, h1, h2, h3⟩ := h.at_.row
  refine ⟨⟨cur, h1, h2, fun i hi => ?_⟩, fun i hi _ => ⟨?_, h.bare _ (List.getElem_mem hi)⟩, h.at_.below⟩
  · have e := rowOf_at ys i 2 hi (by omega)
    have e2 : (cells3 ys[i])[2]? = some (.slice ys[i].A ys[i].e.d.length ys[i].c) := rfl
    rw [e2, hd _ (List.getElem_mem hi), hL] at e
    exact h3 _ _ e
  · have := (h.at_.lays _ (List.getElem_mem hi)).2.1
    rwa [hd _ (List.getElem_mem hi), hL] at this

theorem Turned.drewN {u W : World} {K j n0 : Nat} {ys : List Lay} {L : List UInt8} (h : Turned u W K j n0 ys L) (m : Nat) : Turned u (W.drewN m) K j n0 ys L :=
  ⟨h.row, fun i hi hj => ⟨(h.rest i hi hj).1.keep (Nat.le_refl _) fun _ _ _ _ _ => rfl, (h.rest i hi hj).2⟩, below_drewN h.below m⟩

theorem Turned.next {u W : World} {K j n0 : Nat} {ys : List Lay} {L : List UInt8} (h : Turned u W K j n0 ys L) (hj : j < ys.length) (hhigh : ∀ y ∈ ys, ∀ q, blk y.A q → u.heap.size < q) (hap : ys.Pairwise fun a b => ∀ q, blk a.A q → ¬ blk b.A q) {qj oj : Nat} (hA : (ys[j]'hj).A = some ⟨qj, oj, none⟩) (v v2 : Value) :
    Turned u ((W.setCell ⟨qj, oj, none⟩ v).setCell ⟨u.heap.size, j * 3 + 1, none⟩ v2) K (j + 1) n0 ys L := by
  obtain ⟨cur, h1, h2, h3⟩ := h.row
  have hq := hhigh _ (List.getElem_mem hj) qj ⟨oj, hA⟩
  have e1 : (W.setCell ⟨qj, oj, none⟩ v).heap[u.heap.size]? = some (.cells cur 43 (0, 0)) := (Below.heap_setCell _ _ _ _ (by show u.heap.size ≠ qj; omega)).trans h1
  have e2 := setCell_at _ ⟨u.heap.size, j * 3 + 1, none⟩ v2 _ _ _ rfl e1
  refine ⟨⟨_, e2, by simpa using h2, fun i hi => ?_⟩, fun i hi hji => ?_, (h.below.setCell (by show u.heap.size ≤ qj; omega) v).setCell (Nat.le_refl _) v2⟩
  · rw [Array.getElem?_setIfInBounds_ne (by show j * 3 + 1 ≠ i * 3 + 2; omega)]
    exact h3 i hi
  · obtain ⟨a, b⟩ := h.rest i hi (by omega)
    have hne : ∀ q, blk ys[i].A q → q ≠ qj ∧ q ≠ u.heap.size := fun q hb => by
      have h4 := hhigh _ (List.getElem_mem hi) q hb
      refine ⟨fun e => ?_, by omega⟩
      have := List.pairwise_iff_getElem.1 hap j i hj hi (by omega) qj ⟨oj, hA⟩
      exact this (e ▸ hb)
    have hoff : ∀ q, blk ys[i].A q → ((W.setCell ⟨qj, oj, none⟩ v).setCell ⟨u.heap.size, j * 3 + 1, none⟩ v2).heap[q]? = W.heap[q]? := fun q hb => (Below.heap_setCell _ _ _ _ (by exact (hne q hb).2)).trans (Below.heap_setCell _ _ _ _ (by exact (hne q hb).1))
    exact ⟨a.keep (by simp) fun _ q o e _ => hoff q ⟨o, e⟩, b.keep hoff⟩

set_option maxRecDepth 100000 in
set_option maxHeartbeats 6400000 in
theorem walk_in (A0 : Option Addr) (n0 c0 : Nat) (L : List UInt8) (an : Nat) (w : World) (h0 : Lies w A0 n0 c0 L) (hn1 : 1 ≤ n0) (hn5 : n0 ≤ 500) (han : an < 256) :
    Calls Try.prog 5 #[.slice A0 n0 c0, .int .u8 (an : Int)] w fun e w' => e = .returned (.bool true) ∧ Below w.heap.size w w' := by
  obtain ⟨i0, hi0, hz0, hz1, hz2⟩ := info_parts info_u8
  have hll := h0.1
  have q0 : ((n0 : Int) < 1) = False := eq_false (by omega)
  have q0d : decide ((n0 : Int) < 1) = false := decide_eq_false (by omega)
  have q1 : ((500 : Int) < (n0 : Int)) = False := eq_false (by omega)
  have q1d : decide ((500 : Int) < (n0 : Int)) = false := decide_eq_false (by omega)
  have hN := fun W => newP_yes 0 0 (fun _ => True) none 0 0 [] W (Ents.none_ _ _) (by omega) rfl rfl
  obtain ⟨K, hK⟩ : ∃ K, K = 1 + an % 5 := ⟨_, rfl⟩
  have m1 : IntKind.u8.wrap (1 + (an : Int) % 5) = (K : Int) := by rw [IntWalk.u8_in _ (by omega)]; omega
  have hK1 : 1 ≤ K := by omega
  have hK5 : K ≤ 5 := by omega
  go_enter Try.func5, Try.ntmps5
  go_wp2_with fail
  refine (awake8_any _).mono ?_
  rintro e w1 ⟨rfl, hb1⟩
  go_wp2_with fail
  refine (hN _).mono ?_
  rintro e w2 ⟨p, rfl, hL, hb2⟩
  have hS : OwnAt w w2 p 0 L (fun q => q < w1.heap.size) := ⟨hL, fun q hq => Nat.lt_of_lt_of_le hq hb1.size, fun q hq => Nat.lt_of_lt_of_le hq hb2.size, hb1.trans (hb2.mono hb1.size)⟩
  clear hN hL hb1 hb2
  go_wp2
  clear m1
  go_loopg [7, 8, 9, 43] K (fun g s7 s8 s9 kk wr => ∃ j Z, j + g = K ∧ kk = .int .u8 (j : Int) ∧ OwnAt w wr p j L Z)
  case atStart => exact ⟨0, _, by omega, rfl, hS⟩
  case round =>
    clear hS
    obtain ⟨j, Z, hj, rfl, hO⟩ := hrel
    have HJ := Lib.hid hj
    by_cases hjK : j < K
    · have hjK' : (j : Int) < (K : Int) := by omega
      have hb := hO.below
      have hA1 := (Below.refl wr.heap.size wr).alloc (Nat.le_refl _) (.cells #[] 5)
      have hlr := h0.below (hb.trans (hA1.mono hb.size)) (Nat.le_refl _)
      have hlb : ([] ++ L : List UInt8).length ≤ 140737488355328 := by simp; omega
      have HO := Lib.hid hO
      clear hO hb hj
      go_wp2_with (at_builtin; refine wpList_append_bytes _ rfl _ _ 37 rfl 5 i0 Try.underlying37 hi0 hz0 hz1 hz2 wr.heap.size (by simp) (.slice (some ⟨wr.heap.size, 0, none⟩) 0 0) [] rfl (World.ownsRow_made _ #[] 0 (Nat.le_refl _) (Nat.zero_le _) rfl) A0 n0 c0 L rfl hlr hlb ?_)
      intro v3 w3 ho3 hg3 hq3
      have hb3 : Below wr.heap.size wr w3 := ((Below.refl wr.heap.size wr).alloc (Nat.le_refl _) (.cells #[] 5)).grown hg3 (by simp) (fun k e => by injection e with e; have e' : wr.heap.size = k := e; omega)
      obtain ⟨B, cB, rfl, hlB, _⟩ := lies_of_owns ho3
      have hcB := owns_cap ho3
      rw [hll] at hlB ho3 ⊢
      obtain ⟨g, rfl, hgb, hgl, hgc, hgf⟩ := ho3.at_ 0 (by omega)
      have hL := HO.out.lg
      have hbz := hb3.size
      have hL3 : Lg w3 p (rOwn j L) 0 (fun q => (Z q ∨ wr.heap.size ≤ q) ∧ q < w3.heap.size) := (hL.grow.below hb3).mono fun q hq => hq.1
      obtain ⟨r1, r2, r3⟩ := rOwn_good j L (by omega) (by omega)
      have hyes : runB (rOwn j L).lastI (rOwn j L).lastT [⟨(rOwn j L).lastI + 1, 1, L⟩] = true := by
        rw [add_right, r2, Bool.and_eq_true]
        exact ⟨(rightB_iff _ _ _).2 ⟨by omega, by omega, by omega⟩, decide_eq_true r3⟩
      have hlj := rOwn_len j L
      have hP := addP_own hL3 (fun q hq => hq.2) (by rw [hlj]; omega) r1 1 (some ⟨g, 0, none⟩) n0 cB L ⟨hcB, by rw [hll]; exact hlB, fun _ q o e => by injection e with e; injection e with e; subst e; exact ⟨.inr hgb, hgl⟩⟩ hll hyes
      have hml := mark_l (⟨(rOwn j L).i, (rOwn j L).t, (rOwn j L).l ++ [⟨(rOwn j L).lastI + 1, 1, L⟩], (rOwn j L).f⟩ : RL) ((rOwn j L).lastI + 1)
      have hMR : ∀ (W : World) (Z' : Nat → Prop), Lg W p ((rOwn j L).more ⟨(rOwn j L).lastI + 1, 1, L⟩) 0 Z' → Lg W p (rOwn (j + 1) L) 0 Z' := fun W Z' h => h.same (by rw [show ((rOwn j L).more ⟨(rOwn j L).lastI + 1, 1, L⟩).i = (rOwn j L).i from hml.2.1]; rfl) (by rw [show ((rOwn j L).more ⟨(rOwn j L).lastI + 1, 1, L⟩).t = (rOwn j L).t from hml.2.2]; rfl) (by rw [show ((rOwn j L).more ⟨(rOwn j L).lastI + 1, 1, L⟩).l = _ from hml.1, rOwn_succ, r2])
      have HMR := Lib.hid hMR
      have HB3 := Lib.hid hb3
      clear hMR hml hyes r1 r2 r3 hL hlj hq3 hg3 hlr hA1 hlb hb3
      go_wp2_with fail
      refine hP.mono ?_
      rintro e w4 ⟨E, kE, rfl, hok4, hE4, hBE4, hL4, hk4⟩
      replace hL4 := HMR.out _ _ hL4
      clear hP
      -- x's first byte turns
      have hg4 := hk4.block g hgl ⟨.inr hgb, hgl⟩
      have hA5 := (Below.refl w4.heap.size w4).alloc (Nat.le_refl _) (.cells #[.int .i64 ((rOwn j L).lastI + 1), .int .i64 1, .slice E n0 kE] 43)
      have hx5 := heap_alloc_new w4 (.cells #[.int .i64 ((rOwn j L).lastI + 1), .int .i64 1, .slice E n0 kE] 43)
      have hgc4 := (World.cell?_of_block (a := ⟨g, 0, none⟩) hg4).trans hgc
      have hgf4 := (frozen_of_block (a := ⟨g, 0, none⟩) hg4).trans hgf
      have hg5 : g < w4.heap.size := Nat.lt_of_lt_of_le hgl hk4.size
      have hgc5 : (w4.alloc (.cells #[.int .i64 ((rOwn j L).lastI + 1), .int .i64 1, .slice E n0 kE] 43)).cell? ⟨g, 0, none⟩ = some (.int .u8 ((L[0]'(by omega)).toNat : Int)) := (hA5.cell (p := ⟨g, 0, none⟩) hg5).trans hgc4
      have hgf5 : (w4.alloc (.cells #[.int .i64 ((rOwn j L).lastI + 1), .int .i64 1, .slice E n0 kE] 43)).frozen? ⟨g, 0, none⟩ = false := (frozen_of_block (a := ⟨g, 0, none⟩) (hA5.block g hg5)).trans hgf4
      generalize (rOwn j L).lastI + 1 = J at *
      have hbyt := (L[0]'(by omega)).toNat_lt
      generalize (L[0]'(by omega)).toNat = b0 at *
      go_upto_region 8 with fail
      generalize w4.alloc (.cells #[.int .i64 J, .int .i64 1, .slice E n0 kE] 43) = w5 at *
      go_upto_region 9 with fail
      have hk6 := keeps_setCell w5 ⟨g, 0, none⟩ (.int .u8 (bits BinOp.xor IntKind.u8 (b0 : Int) 255)) (Z := fun q => q ≠ g) (by simp)
      generalize w5.setCell ⟨g, 0, none⟩ (.int .u8 (bits BinOp.xor IntKind.u8 (b0 : Int) 255)) = w6 at *
      have hbo := HO.out.below
      have hold := HO.out.old
      have hb3 := HB3.out
      have hgw : w.heap.size ≤ g := Nat.le_trans hbo.size hgb
      have hb4 : Below w.heap.size w w4 := below_keeps (hbo.trans (hb3.mono hbo.size)) hk4 (fun i hi => ⟨.inl (hold i hi), by have := hbo.size; omega⟩) (by have := hbo.size; omega)
      have hb5 := hb4.trans (hA5.mono hb4.size)
      have hb6 : Below w.heap.size w w6 := below_keeps hb5 hk6 (fun i hi => by show i ≠ g; omega) hb5.size
      have hs4 := hk4.size
      have hs5 := hA5.size
      have hx6 := (hk6.block _ (hlt hx5) (by show w4.heap.size ≠ g; omega)).trans hx5
      have hE5 : Lies w5 E n0 kE L := (show Lies w4 E n0 kE L by have := hok4.2.1; rwa [hll] at this).below hA5 (Nat.le_refl _)
      have hE6 : Lies w6 E n0 kE L := hE5.keep hk6.size fun _ q o e hq => hk6.block q hq (by have := hE4 q ⟨o, e⟩; show q ≠ g; omega)
      have hBE6 : Bare w6 E := (hBE4.keep fun q hq => by
        obtain ⟨cur, hc⟩ := hBE4 q hq
        exact hA5.block q (hlt hc)).keep fun q hq => by
        obtain ⟨cur, hc⟩ := hBE4 q hq
        exact hk6.block q (by have := hlt hc; omega) (by have := hE4 q hq; show q ≠ g; omega)
      have hL6 : Lg w6 p (rOwn (j + 1) L) 0 (fun q => ((Z q ∨ wr.heap.size ≤ q) ∧ q < w3.heap.size) ∨ blk E q) := (hL4.below hA5).keep hk6.size fun q hq hz => hk6.block q hq fun e => hz (.inl ⟨.inr (by omega), by omega⟩)
      have t1 := hE6.text (P := Try.prog) (dst := 9) Try.underlying37 Try.underlying5 Try.underlying9
      have t2 := (h0.below hb6 (Nat.le_refl _)).text (P := Try.prog) (dst := 9) Try.underlying37 Try.underlying5 Try.underlying9
      obtain ⟨⟨x0, x1, x2⟩, _⟩ := row3 hx6
      obtain ⟨qE, oE, eE, hqE, hcE⟩ := hE6.2.2.2 (by omega)
      have y0 := hcE 0 (by omega)
      obtain ⟨cur, hcur⟩ := hBE6 qE ⟨oE, eE⟩
      have yf := frozen_of_row w6 qE oE cur _ hcur
      have hbE := hE4 qE ⟨oE, eE⟩
      subst eE
      clear hcE hcur hE5 hE6 hBE6 hBE4 hok4 hx5 hx6 hgc hgf hgc4 hgf4 hgc5 hgf5 hg4 hg5 hlB hcB ho3 hL3 hL4
      replace y0 : w6.cell? ⟨qE, oE, none⟩ = some (.int .u8 ((L[0]'(by omega)).toNat : Int)) := y0
      generalize (L[0]'(by omega)).toNat = b1 at *
      have hw6 := hb6.size
      have hOn : OwnAt w (w6.setCell ⟨qE, oE, none⟩ (.int .u8 (bits BinOp.xor IntKind.u8 (b1 : Int) 255))) p (j + 1) L (fun q => (((Z q ∨ wr.heap.size ≤ q) ∧ q < w3.heap.size) ∨ blk (some ⟨qE, oE, none⟩) q) ∧ q < w6.heap.size) := by
        refine ⟨(hL6.keep (by simp) fun q _ hq => Below.heap_setCell _ _ _ _ (by show q ≠ qE; exact fun e => hq (.inr ⟨oE, by rw [e]⟩))).mono fun q hq => hq.1, fun q hq => ⟨.inl ⟨.inl (hold q hq), by have := hbo.size; omega⟩, by omega⟩, fun q hq => by simpa using hq.2, hb6.setCell (by show _ ≤ qE; have := hbo.size; omega) _⟩
      have HON := Lib.hid hOn
      have s3 : (j : Int) + 1 = ((j + 1 : Nat) : Int) := by omega
      have HS3 := Lib.hid s3
      have hj100 : j < 100 := by omega
      clear hOn hL6 hbo hold hb3 hb4 hb5 hb6 hgw hw6 hk6 hA5 hs4 hs5 hbE hqE hE4 hk4 hgl hgb hbz hbyt s3
      go_wp2
      go_roundg (gk - 1)
      case measure => have : j + gk = K := HJ.out; omega
      case rel => exact ⟨j + 1, _, by have : j + gk = K := HJ.out; omega, by first | go_num | rw [HS3.out], HON.out⟩
    · obtain rfl : j = K := by omega
      have hdec : decide ((j : Int) < 1 + (an : Int) % 5) = false := decide_eq_false (by omega)
      obtain ⟨Aq, cq, xs, hLa⟩ := hO.lg
      obtain ⟨hpl, hall⟩ := rOwn_all j L hK1 (by omega) (by omega)
      have hgood := (rOwn_good j L (by omega) (by omega)).1
      have hlen := rOwn_len j L
      have hF := fromP_own hLa (by rw [hlen]; omega) hgood 1 99 0 hpl (by omega)
      rw [hall, hlen] at hF
      have hbo := hO.below
      have hlg := hO.lg
      have HE0 := Lib.hid (show ∀ e ∈ (rOwn j L).l, e.d = L by
        intro e he
        simp only [rOwn, List.mem_map] at he
        obtain ⟨i, _, rfl⟩ := he
        rfl)
      clear hO hLa hpl hall
      go_wp2_with fail
      refine hF.mono ?_
      rintro e w7 ⟨u, ys, rfl, hbu, hco, hmap⟩
      have hyl : ys.length = j := hco.at_.len
      have hd : ∀ y ∈ ys, y.e.d = L := fun y hy => HE0.out y.e (by rw [← hmap]; exact List.mem_map.2 ⟨y, hy, rfl⟩)
      have hT0 := Turned.start hco hll hd
      have hhigh := fun y hy q hq => (hco.high y hy q hq).1
      have hap := hco.apart
      have hLu := hlg.below hbu
      have hbu2 := hbo.trans (hbu.mono hbo.size)
      have hN := Lib.hid (And.intro hK (And.intro hK1 hK5))
      clear hF hco hmap hd hlg hdec hK hj
      go_wp2
      go_loopg [11, 80] j (fun g s11 kk wq => ∃ i, i + g = j ∧ kk = .int .i64 (i : Int) ∧ Turned u wq j i n0 ys L)
      case atStart => exact ⟨0, by omega, rfl, hT0⟩
      case round =>
        clear hT0
        obtain ⟨i, hi, rfl, hT⟩ := hrel
        have HI := Lib.hid hi
        by_cases hij : i < j
        · have hij' : (i : Int) < (j : Int) := by omega
          have hil : i < ys.length := by omega
          obtain ⟨cur, hc1, hc2, hc3⟩ := hT.row
          obtain ⟨hlies, hbare⟩ := hT.rest i hil (Nat.le_refl _)
          have c2 := hc3 i hil
          obtain ⟨qj, oj, eA, hqj, hcj⟩ := hlies.2.2.2 (by omega)
          have y0 := hcj 0 (by omega)
          obtain ⟨cur2, hcur2⟩ := hbare qj ⟨oj, eA⟩
          have yf := frozen_of_row wr qj oj cur2 _ hcur2
          have zf : ∀ o, wr.frozen? ⟨u.heap.size, o, none⟩ = false := fun o => frozen_of_row wr _ o cur _ hc1
          have x2 : wr.cell? ⟨u.heap.size, i * 3 + 2, none⟩ = some (.slice (ys[i]'hil).A n0 (ys[i]'hil).c) := (cell_of_row wr _ _ cur _ _ hc1).trans c2
          obtain ⟨v1, hv1⟩ : ∃ v1, cur[i * 3 + 1]? = some v1 := ⟨_, Array.getElem?_eq_getElem (by omega)⟩
          have x1 : wr.cell? ⟨u.heap.size, i * 3 + 1, none⟩ = some v1 := (cell_of_row wr _ _ cur _ _ hc1).trans hv1
          have t1 := fun n => (show Lies (wr.drewN n) (ys[i]'hil).A n0 (ys[i]'hil).c L from hlies.keep (Nat.le_refl _) fun _ _ _ _ _ => rfl).text (P := Try.prog) (dst := 9) Try.underlying37 Try.underlying5 Try.underlying9
          have hbq := hbu2.trans (hT.below.mono hbu2.size)
          have t2 := fun n => (show Lies (wr.drewN n) A0 n0 c0 L from (h0.below hbq (Nat.le_refl _)).keep (Nat.le_refl _) fun _ _ _ _ _ => rfl).text (P := Try.prog) (dst := 9) Try.underlying37 Try.underlying5 Try.underlying9
          have HT := Lib.hid (fun m v v2 => (hT.drewN m).next hil hhigh hap eA v v2)
          have hqu := hhigh _ (List.getElem_mem hil) qj ⟨oj, eA⟩
          rw [eA] at x2 t1
          generalize (ys[i]'hil).c = cj at *
          replace y0 : wr.cell? ⟨qj, oj, none⟩ = some (.int .u8 ((L[0]'(by omega)).toNat : Int)) := y0
          have hbyt := (L[0]'(by omega)).toNat_lt
          generalize (L[0]'(by omega)).toNat = b1 at *
          have hne : qj ≠ u.heap.size := by omega
          clear hv1 hT hc1 hc2 hc3 hlies hbare c2 hcj hcur2 hbq hi eA
          go_upto_region 17 with fail
          go_big_quiet (fail)
          replace y0 : (wr.drewN nq).cell? ⟨qj, oj, none⟩ = _ := y0
          replace yf : (wr.drewN nq).frozen? ⟨qj, oj, none⟩ = false := yf
          replace x2 : (wr.drewN nq).cell? ⟨u.heap.size, i * 3 + 2, none⟩ = _ := x2
          replace x1 : (wr.drewN nq).cell? ⟨u.heap.size, i * 3 + 1, none⟩ = _ := x1
          replace zf : ∀ o, (wr.drewN nq).frozen? ⟨u.heap.size, o, none⟩ = false := zf
          have HT := Lib.hid (HT.out nq (.int .u8 (bits BinOp.xor IntKind.u8 (b1 : Int) 255)) (.int .i64 9))
          clear t1 t2
          generalize wr.drewN nq = w8 at *
          go_wp2
          go_roundg (gk - 1)
          case measure => have : i + gk = j := HI.out; omega
          case rel => exact ⟨i + 1, by have : i + gk = j := HI.out; omega, by go_num, HT.out⟩
        · obtain rfl : i = j := by omega
          have hdec2 : decide ((i : Int) < (i : Int)) = false := decide_eq_false (by omega)
          have hL9 := hLu.below hT.below
          have hb9 := hbu2.trans (hT.below.mono hbu2.size)
          obtain ⟨Ar, cr, xr, hLr⟩ := hL9
          have hFr := freshP_any hLr (by rw [hlen]; omega) hgood (Nat.zero_le _)
          rw [List.drop_zero, hlen] at hFr
          have hnth : ∀ k (hk : k < i), ((rOwn i L).l[k]'(by rw [hlen]; exact hk)).t = 1 ∧ ((rOwn i L).l[k]'(by rw [hlen]; exact hk)).d = L := fun k hk => by simp [rOwn]
          clear hT hi hLu
          go_wp2_with fail
          refine hFr.mono ?_
          rintro e w9 ⟨A9, c9, rfl, hE9, hbf⟩
          have hbw9 := hb9.trans (hbf.mono hb9.size)
          have hi6 : i ≤ 5 := hN.out.2.2
          clear hFr hLr hbf hb9 hbu2 hbo hbu hap hhigh
          go_wp2
          go_loopg [13, 110] i (fun g s13 kk wq => ∃ k, k + g = i ∧ kk = .int .i64 (k : Int) ∧ Below w9.heap.size w9 wq)
          case atStart => exact ⟨0, by omega, rfl, Below.refl _ _⟩
          case round =>
            obtain ⟨k, hk, rfl, hbr⟩ := hrel
            have HI := Lib.hid hk
            by_cases hki : k < i
            · have hki' : (k : Int) < (i : Int) := by omega
              obtain ⟨g9, o9, E9, k9, e9, hg9, x0, x1, x2, hl9⟩ := (hE9.below hbr (Nat.le_refl _)).at_ k hki
              obtain ⟨ht1, hd1⟩ := hnth k hki
              rw [ht1] at x1
              simp only [hd1] at x2 hl9
              rw [hll] at x2 hl9
              subst e9
              have t1 := fun n => (show Lies (wr.drewN n) E9 n0 k9 L from hl9.keep (Nat.le_refl _) fun _ _ _ _ _ => rfl).text (P := Try.prog) (dst := 9) Try.underlying37 Try.underlying5 Try.underlying9
              have t2 := fun n => (show Lies (wr.drewN n) A0 n0 c0 L from (h0.below (hbw9.trans (hbr.mono hbw9.size)) (Nat.le_refl _)).keep (Nat.le_refl _) fun _ _ _ _ _ => rfl).text (P := Try.prog) (dst := 9) Try.underlying37 Try.underlying5 Try.underlying9
              have HBR := Lib.hid (fun m => below_drewN hbr m)
              clear hE9 hl9 ht1 hd1 hnth hk x0 hbr
              go_upto_region 26 with fail
              go_big_quiet (fail)
              go_wp2
              go_roundg (gk - 1)
              case measure => have : k + gk = i := HI.out; omega
              case rel => exact ⟨k + 1, by have : k + gk = i := HI.out; omega, by go_num, HBR.out _⟩
            · obtain rfl : k = i := by omega
              have hdec3 : decide ((k : Int) < (k : Int)) = false := decide_eq_false (by omega)
              have hbz := hbw9.trans (hbr.mono hbw9.size)
              obtain ⟨n1, n2, n3⟩ := hN.out
              have e2 : 1 + (an : Int) % 5 = (k : Int) := by omega
              clear hE9 hnth hk hN n1 n2 n3 hbr h0
              go_wp2_with fail
              refine (savedP_nil _).mono ?_
              rintro e v1 ⟨rfl, rfl⟩
              go_wp2_with fail
              refine (lastP_nil _).mono ?_
              rintro e v1 ⟨rfl, rfl⟩
              go_wp2_with fail
              refine (termP_nil _ _).mono ?_
              rintro e v1 ⟨rfl, rfl⟩
              go_wp2_with fail
              refine (addP_nil _ _ _ _ _).mono ?_
              rintro e v2 ⟨rfl, hv2⟩
              have hbz := hbz.trans (hv2.mono hbz.size)
              have hbz := hbz.alloc hbz.size (.cells zE 43)
              go_wp2_with fail
              refine (takeP_nil _ _ _ _ _ _).mono ?_
              rintro e v3 ⟨rfl, rfl⟩
              go_wp2_with fail
              refine (compactP_nil _ _).mono ?_
              rintro e v5 ⟨rfl, rfl⟩
              go_wp2_with fail
              refine (resetP_nil _ _ _).mono ?_
              rintro e v5 ⟨rfl, rfl⟩
              go_wp2_with fail
              refine (fromP_nil _ _ _).mono ?_
              rintro e v5 ⟨rfl, rfl⟩
              go_wp2_with fail
              refine (freshP_nil _).mono ?_
              rintro e v5 ⟨rfl, rfl⟩
              go_wp2_with fail
              refine (newerP_nil _ _ _).mono ?_
              rintro e v5 ⟨rfl, rfl⟩
              go_wp2
              go_ret
              exact ⟨rfl, hbz⟩

theorem walk (A0 : Option Addr) (n0 c0 : Nat) (L : List UInt8) (a1 : Int) (ha : 0 ≤ a1 ∧ a1 < 256) (w : World) (h0 : Lies w A0 n0 c0 L) (m0 : n0 ≤ maxLen) :
    Calls Try.prog 5 #[.slice A0 n0 c0, .int .u8 a1] w fun e w' => e = .returned (.bool true) ∧ Below w.heap.size w w' := by
  by_cases hno : n0 = 0 ∨ 500 < n0
  · exact walk_out A0 n0 c0 a1 w m0 hno
  · obtain ⟨an, rfl⟩ := Int.eq_ofNat_of_zero_le ha.1
    exact walk_in A0 n0 c0 L an w h0 (Nat.pos_of_ne_zero fun h => hno (.inl h)) (Nat.le_of_not_lt fun h => hno (.inr h)) (by have := ha.2; omega)

end Go.Proofs.Ytlanjlboipnpfaa.rlogOwn
