/- The document's From and SnapFrom, each by its contract. -/
import Derived.Test.YtlojjodgoeclfaaEntRefG
import Derived.Test.YtlojjodgoeclfaaEntR1
import Derived.Lib.Hide
namespace Go.Proofs.Ytlojjodgoeclfaa
open Go.RowKit
set_option linter.unusedVariables false
set_option linter.unusedSimpArgs false

theorem results_cell2 {fn : Func} {p q : Tmp} {T U : TypeId} (h : fn.results = #[.cell p T, .cell q U]) (tmps : Array Value) (P : Program) (w : World) :
    (results fn tmps).run P w =
      ((asAddr (tmps.getD p undef)).run P w).andThen fun a w₁ => ((loadVar T a).run P w₁).andThen fun v w₂ => ((asAddr (tmps.getD q undef)).run P w₂).andThen fun b w₃ => ((loadVar U b).run P w₃).andThen fun u w₄ => .ok (.tuple #[v, u]) w₄ := by
  simp only [results, h]
  simp [Sem.run_bind, Result.andThen]

theorem res_cell2 {P : Program} {fn : Func} {p q : Tmp} {T U : TypeId} (h : fn.results = #[.cell p T, .cell q U]) (tmps : Array Value) (W : World) (n m : Nat) (cs ds : Array Value) (fr gr : Nat × Nat) (d1 d2 : TypeDesc) (h1 : tmps.getD p undef = .pointer (some ⟨n, 0, none⟩)) (h2 : tmps.getD q undef = .pointer (some ⟨m, 0, none⟩))
    (hW : W.heap[n]? = some (.cells cs T fr)) (hV : W.heap[m]? = some (.cells ds U gr)) (hu : P.underlying T = some d1) (hv : P.underlying U = some d2)
    (hd1 : (match d1 with | .struct _ | .array _ _ => true | _ => false) = true) (hd2 : (match d2 with | .struct _ | .array _ _ => true | _ => false) = true) (hi : (P.info? T).map (·.size) = some cs.size) (hj : (P.info? U).map (·.size) = some ds.size) :
    (results fn tmps).run P W = .ok (.tuple #[.agg cs, .agg ds]) W := by
  rw [results_cell2 h, h1, h2]
  simp [asAddr, run_loadVar_row W n T T cs fr d1 hW hu hd1 hi, run_loadVar_row W m U U ds gr d2 hV hv hd2 hj]

/-- What a From answers. -/
structure FromL where
  i : Int
  t : Int
  d : List UInt8
  s : St
def fromN (ok : Int → Int → Nat → Bool) (s : St) (most : Int) : FromL :=
  if (takenN s most).s = none then ⟨0, 0, [], none⟩ else
  if ok (takenN s most).i (takenN s most).t (takenN s most).d.length = true then ⟨(takenN s most).i, (takenN s most).t, (takenN s most).d, (takenN s most).s⟩ else ⟨0, 0, [], none⟩

/-- Three blocks of a call's own. -/
structure Three3 (T : TypeId) (w W : World) (b : Nat) (C0 C1 C2 : Array Value) : Prop where
  r0 : W.heap[b]? = some (.cells C0 48)
  r1 : W.heap[b + 1]? = some (.cells C1 T)
  r2 : W.heap[b + 1 + 1]? = some (.cells C2 48)
  below : Below w.heap.size w W
  le : w.heap.size ≤ b

theorem Three3.step {T : TypeId} {w W w' : World} {b : Nat} {C0 C1 C2 : Array Value} (h : Three3 T w W b C0 C1 C2) (hb : Below W.heap.size W w') : Three3 T w w' b C0 C1 C2 :=
  ⟨(hb.block _ (hlt h.r0)).trans h.r0, (hb.block _ (hlt h.r1)).trans h.r1, (hb.block _ (hlt h.r2)).trans h.r2, h.below.trans (hb.mono h.below.size), h.le⟩

theorem Three3.store {T : TypeId} {w W : World} {b : Nat} {u0 u1 : Value} {C1 C2 : Array Value} (h : Three3 T w W b #[u0, u1] C1 C2) (x y : Value) : Three3 T w ((W.setCell ⟨b, 0, none⟩ x).setCell ⟨b, 1, none⟩ y) b #[x, y] C1 C2 :=
  ⟨two_set _ _ _ _ _ _ _ h.r0, ((Below.heap_setCell _ _ _ _ (by show b + 1 ≠ b; omega)).trans (Below.heap_setCell _ _ _ _ (by show b + 1 ≠ b; omega))).trans h.r1, ((Below.heap_setCell _ _ _ _ (by show b + 1 + 1 ≠ b; omega)).trans (Below.heap_setCell _ _ _ _ (by show b + 1 + 1 ≠ b; omega))).trans h.r2, (h.below.setCell h.le _).setCell h.le _, h.le⟩

/-- The answer stored. -/
theorem Three3.fin {T : TypeId} {w W : World} {b : Nat} {x0 x1 x2 y0 y1 : Value} {C0 : Array Value} (h : Three3 T w W b C0 #[x0, x1, x2] #[y0, y1]) (a0 a1 a2 c0 c1 : Value) :
    Three3 T w (((((W.setCell ⟨b + 1, 0, none⟩ a0).setCell ⟨b + 1, 1, none⟩ a1).setCell ⟨b + 1, 2, none⟩ a2).setCell ⟨b + 1 + 1, 0, none⟩ c0).setCell ⟨b + 1 + 1, 1, none⟩ c1) b C0 #[a0, a1, a2] #[c0, c1] := by
  have e1 := set3_at W (b + 1) a0 a1 a2 x0 x1 x2 T h.r1
  have hle := h.le
  refine ⟨?_, ?_, ?_, ?_, h.le⟩
  · exact (Below.heap_setCell _ _ _ _ (by show b ≠ b + 1 + 1; omega)).trans ((Below.heap_setCell _ _ _ _ (by show b ≠ b + 1 + 1; omega)).trans ((Below.heap_setCell _ _ _ _ (by show b ≠ b + 1; omega)).trans ((Below.heap_setCell _ _ _ _ (by show b ≠ b + 1; omega)).trans ((Below.heap_setCell _ _ _ _ (by show b ≠ b + 1; omega)).trans h.r0))))
  · exact (Below.heap_setCell _ _ _ _ (by show b + 1 ≠ b + 1 + 1; omega)).trans ((Below.heap_setCell _ _ _ _ (by show b + 1 ≠ b + 1 + 1; omega)).trans e1)
  · exact two_set _ _ _ _ _ _ _ ((Below.heap_setCell _ _ _ _ (by show b + 1 + 1 ≠ b + 1; omega)).trans ((Below.heap_setCell _ _ _ _ (by show b + 1 + 1 ≠ b + 1; omega)).trans ((Below.heap_setCell _ _ _ _ (by show b + 1 + 1 ≠ b + 1; omega)).trans h.r2)))
  · exact ((((h.below.setCell (by show _ ≤ b + 1; omega) _).setCell (by show _ ≤ b + 1; omega) _).setCell (by show _ ≤ b + 1; omega) _).setCell (by show _ ≤ b + 1 + 1; omega) _).setCell (by show _ ≤ b + 1 + 1; omega) _

theorem heap_fin5 {W : World} {b g : Nat} (hg : b + 1 + 1 < g) (a0 a1 a2 c0 c1 : Value) :
    (((((W.setCell ⟨b + 1, 0, none⟩ a0).setCell ⟨b + 1, 1, none⟩ a1).setCell ⟨b + 1, 2, none⟩ a2).setCell ⟨b + 1 + 1, 0, none⟩ c0).setCell ⟨b + 1 + 1, 1, none⟩ c1).heap[g]? = W.heap[g]? :=
  (Below.heap_setCell _ _ _ _ (by show g ≠ b + 1 + 1; omega)).trans ((Below.heap_setCell _ _ _ _ (by show g ≠ b + 1 + 1; omega)).trans ((Below.heap_setCell _ _ _ _ (by show g ≠ b + 1; omega)).trans ((Below.heap_setCell _ _ _ _ (by show g ≠ b + 1; omega)).trans (Below.heap_setCell _ _ _ _ (by show g ≠ b + 1; omega)))))

theorem Lies.at_heap {W W' : World} {g n c : Nat} {d : List UInt8} (h : Lies W (some ⟨g, 0, none⟩) n c d) (hs : W'.heap.size = W.heap.size) (hh : W'.heap[g]? = W.heap[g]?) : Lies W' (some ⟨g, 0, none⟩) n c d :=
  h.keep (Nat.le_of_eq hs.symm) fun h0 q off e hq => by
    injection e with e
    injection e with e
    subst e
    exact hh

theorem Lies.fin5 {W : World} {b g n c : Nat} {d : List UInt8} (h : Lies W (some ⟨g, 0, none⟩) n c d) (hg : b + 1 + 1 < g) (a0 a1 a2 c0 c1 : Value) :
    Lies (((((W.setCell ⟨b + 1, 0, none⟩ a0).setCell ⟨b + 1, 1, none⟩ a1).setCell ⟨b + 1, 2, none⟩ a2).setCell ⟨b + 1 + 1, 0, none⟩ c0).setCell ⟨b + 1 + 1, 1, none⟩ c1) (some ⟨g, 0, none⟩) n c d :=
  h.at_heap (by simp) (heap_fin5 hg _ _ _ _ _)

set_option maxRecDepth 100000 in
set_option maxHeartbeats 3200000 in
theorem fromR_any (A : Option Addr) (cap : Nat) (s : St) (w : World) (hL : left s ≤ 140737488355328) (h : RLies w A cap s) :
    Calls Try.prog 55 #[inv A cap s] w fun e w' => ∃ D n c A' cap', e = .returned (.tuple #[entV (fromN rightB s 12000).i (fromN rightB s 12000).t D n c, inv A' cap' (fromN rightB s 12000).s]) ∧ Lies w' D n c (fromN rightB s 12000).d ∧ (0 < n → ∀ g off, D = some ⟨g, off, none⟩ → w.heap.size ≤ g) ∧ (∀ w0, RLies w0 A cap s → RLies w0 A' cap' (fromN rightB s 12000).s) ∧ Below w.heap.size w w' := by
  have h2 : Three3 58 w (((w.alloc (.cells #[.slice A (left s) cap, .bool s.isNone] 48)).alloc (.cells #[.int .i64 0, .int .i64 0, .slice none 0 0] 58)).alloc (.cells #[.slice none 0 0, .bool false] 48)) w.heap.size #[.slice A (left s) cap, .bool s.isNone] #[.int .i64 0, .int .i64 0, .slice none 0 0] #[.slice none 0 0, .bool false] :=
    ⟨(Below.heap_alloc _ _ _ (by simp; omega)).trans ((Below.heap_alloc _ _ _ (by simp)).trans (heap_alloc_new _ _)), (Below.heap_alloc _ _ _ (by simp)).trans (heap_alloc2_new _ _ _), by
      have := heap_alloc_new ((w.alloc (.cells #[.slice A (left s) cap, .bool s.isNone] 48)).alloc (.cells #[.int .i64 0, .int .i64 0, .slice none 0 0] 58)) (.cells #[.slice none 0 0, .bool false] 48)
      rwa [World.size_alloc, World.size_alloc] at this, (((Below.refl _ _).alloc (Nat.le_refl _) _).alloc (by simp) _).alloc (by simp; omega) _, Nat.le_refl _⟩
  have hT := fun W (hW : Below w.heap.size w W) => takenR_any A cap s W 12000 (by omega) hL (h.below hW (Nat.le_refl _))
  unfold fromN
  generalize takenN s 12000 = T at *
  obtain ⟨ti, tt, td, ts⟩ := T
  dsimp only at *
  obtain ⟨R, hR⟩ : ∃ R : FromL, R = if ts = none then ⟨0, 0, [], none⟩ else if rightB ti tt td.length = true then ⟨ti, tt, td, ts⟩ else ⟨0, 0, [], none⟩ := ⟨_, rfl⟩
  rw [← hR]
  simp only [inv] at *
  clear hL
  have HH := Lib.hid h
  have hleft : ∀ W, Below w.heap.size w W → RLies W A cap s := fun W hW => h.below hW (Nat.le_refl _)
  clear h
  generalize left s = nS at *
  generalize s.isNone = bS at *
  go_enter Try.func55, Try.ntmps55
  go_wp2_with fail
  refine (hT _ h2.below).mono ?_
  rintro e w1 ⟨A1, c1, rfl, hr1, hb1⟩
  have h3 := h2.step hb1
  have z9 := hlt h3.r2
  obtain ⟨⟨a0, a1⟩, ⟨f0, f1⟩⟩ := row2 h3.r0
  clear h2 hb1 hT
  have h4 := h3.store (.slice A1 (left ts) c1) (.bool ts.isNone)
  obtain ⟨c4, W4, hcv, hl4, hb4, hs4⟩ := conv_bytes ((w1.setCell ⟨w.heap.size, 0, none⟩ (.slice A1 (left ts) c1)).setCell ⟨w.heap.size, 1, none⟩ (.bool ts.isNone)) ⟨td.toArray⟩
  have h5 := h4.step hb4
  have hz4 : (⟨td.toArray⟩ : ByteArray).size = td.length := rfl
  have hd4 : (⟨td.toArray⟩ : ByteArray).data.toList = td := rfl
  rw [hz4] at hcv hl4
  have hsz : ((w1.setCell ⟨w.heap.size, 0, none⟩ (.slice A1 (left ts) c1)).setCell ⟨w.heap.size, 1, none⟩ (.bool ts.isNone)).heap.size = w1.heap.size := by simp
  rw [hsz] at hl4
  clear hsz
  rw [hd4] at hl4
  obtain ⟨⟨b0, b1⟩, ⟨g0, g1⟩⟩ := row2 h5.r0
  obtain ⟨⟨b2, b3, b4⟩, ⟨g2, g3, g4⟩⟩ := row3 h5.r1
  obtain ⟨⟨b5, b6⟩, ⟨g5, g6⟩⟩ := row2 h5.r2
  have z0 := hlt h5.r0
  have z1 := hlt h5.r1
  have z2 := hlt h5.r2
  cases ts with
  | none =>
    rw [if_pos rfl] at hR
    have HR := Lib.hid hR
    clear hR
    simp only [left, Option.isNone] at *
    have hA4 : Below W4.heap.size W4 (W4.alloc (.cells #[.int .i64 ti, .int .i64 tt, .slice (some ⟨w1.heap.size, 0, none⟩) td.length c4] 58)) := (Below.refl W4.heap.size W4).alloc (Nat.le_refl _) _
    have h7 := (h5.fin (.int .i64 0) (.int .i64 0) (.slice none 0 0) (.slice none 0 0) (.bool true)).step ((Below.refl _ _).alloc (Nat.le_refl _) (.cells #[.int .i64 ti, .int .i64 tt, .slice (some ⟨w1.heap.size, 0, none⟩) td.length c4] 58))
    go_wp2
    refine bodyPost_ret (res_cell2 rfl _ _ (w.heap.size + 1) (w.heap.size + 1 + 1) _ _ _ _ _ _ rfl rfl h7.r1 h7.r2 Try.underlying58 Try.underlying48 rfl rfl (by kernel_rfl) (by kernel_rfl)) rfl ?_
    have e : R = _ := HR
    rw [e]
    exact ⟨none, 0, 0, none, 0, rfl, Lies.nil _, fun h0 => absurd h0 (by omega), fun w0 _ => RLies.bad w0, h7.below⟩
  | some sl =>
    rw [if_neg (by simp)] at hR
    have hRt := fun W => rightR_is ti tt (some ⟨w1.heap.size, 0, none⟩) td.length c4 W
    have h8 := h5.step ((Below.refl W4.heap.size W4).alloc (Nat.le_refl _) (.cells #[.int .i64 ti, .int .i64 tt, .slice (some ⟨w1.heap.size, 0, none⟩) td.length c4] 58))
    have hr8 := heap_alloc_new W4 (.cells #[.int .i64 ti, .int .i64 tt, .slice (some ⟨w1.heap.size, 0, none⟩) td.length c4] 58)
    have hl8 := hl4.below ((Below.refl W4.heap.size W4).alloc (Nat.le_refl _) (.cells #[.int .i64 ti, .int .i64 tt, .slice (some ⟨w1.heap.size, 0, none⟩) td.length c4] 58)) (Nat.le_refl _)
    have z8 : W4.heap.size < (W4.alloc (.cells #[.int .i64 ti, .int .i64 tt, .slice (some ⟨w1.heap.size, 0, none⟩) td.length c4] 58)).heap.size := by simp
    generalize rightB ti tt td.length = b at *
    cases b with
    | false =>
      rw [if_neg (by simp)] at hR
      have HR := Lib.hid hR
      clear hR
      simp only [Option.isNone] at *
      go_wp2_with fail
      refine (hRt _).mono ?_
      rintro e w6 ⟨rfl, hb6⟩
      have h9 := h8.step hb6
      obtain ⟨⟨d0, d1⟩, ⟨e0, e1⟩⟩ := row2 h9.r0
      obtain ⟨⟨d2, d3, d4⟩, ⟨e2, e3, e4⟩⟩ := row3 h9.r1
      obtain ⟨⟨d5, d6⟩, ⟨e5, e6⟩⟩ := row2 h9.r2
      have h7 := h9.fin (.int .i64 0) (.int .i64 0) (.slice none 0 0) (.slice none 0 0) (.bool true)
      clear hRt hcv
      go_wp2
      refine bodyPost_ret (res_cell2 rfl _ _ (w.heap.size + 1) (w.heap.size + 1 + 1) _ _ _ _ _ _ rfl rfl h7.r1 h7.r2 Try.underlying58 Try.underlying48 rfl rfl (by kernel_rfl) (by kernel_rfl)) rfl ?_
      have e : R = _ := HR
      rw [e]
      exact ⟨none, 0, 0, none, 0, rfl, Lies.nil _, fun h0 => absurd h0 (by omega), fun w0 _ => RLies.bad w0, h7.below⟩
    | true =>
      rw [if_pos rfl] at hR
      have HR := Lib.hid hR
      clear hR
      simp only [Option.isNone] at *
      go_wp2_with fail
      refine (hRt _).mono ?_
      rintro e w6 ⟨rfl, hb6⟩
      have h9 := h8.step hb6
      obtain ⟨⟨d0, d1⟩, ⟨e0, e1⟩⟩ := row2 h9.r0
      obtain ⟨⟨d2, d3, d4⟩, ⟨e2, e3, e4⟩⟩ := row3 h9.r1
      obtain ⟨⟨d5, d6⟩, ⟨e5, e6⟩⟩ := row2 h9.r2
      obtain ⟨⟨d7, d8, d9⟩, _⟩ := row3 ((hb6.block _ z8).trans hr8)
      have hl9 := hl8.below hb6 (Nat.le_refl _)
      have h7 := h9.fin (.int .i64 ti) (.int .i64 tt) (.slice (some ⟨w1.heap.size, 0, none⟩) td.length c4) (.slice A1 (left (some sl)) c1) (.bool false)
      clear hRt hcv
      go_wp2
      go_region
      all_goals
        go_wp2
        refine bodyPost_ret (res_cell2 rfl _ _ (w.heap.size + 1) (w.heap.size + 1 + 1) _ _ _ _ _ _ rfl rfl h7.r1 h7.r2 Try.underlying58 Try.underlying48 rfl rfl (by kernel_rfl) (by kernel_rfl)) rfl ?_
        have e : R = _ := HR
        rw [e]
        exact ⟨some ⟨w1.heap.size, 0, none⟩, td.length, c4, A1, c1, rfl, (hl9.fin5 z9 _ _ _ _ _).drew, fun _ g off eg => by injection eg with eg; injection eg with eg; subst eg; omega, fun w0 h0 => hr1 w0 h0, h7.below.drew⟩

end Go.Proofs.Ytlojjodgoeclfaa
