/- The document's disk in memory; Right, Used, Get, each by its contract. -/
import Derived.Test.YtkgkllhocmedoaaDskMath
import Derived.Test.YtkgkllhocmedoaaRes
import Derived.Test.YtkgkllhocmedoaaRows
import Derived.WalkSpells
import Derived.WalkLawsBesides
import Derived.KernelRfl
import Derived.IntWalk
import Derived.Outline
import Derived.Lib.Hide
import Derived.BigQuiet
import Derived.Deep.LoopGhost
namespace Go.Proofs.Ytkgkllhocmedoaa
open Go.RowKit
set_option linter.unusedVariables false
set_option linter.unusedSimpArgs false

/-- A slice that reads as these files. -/
def RF (w : World) (A : Option Addr) (cap : Nat) (l : List Fil) : Prop :=
  l.length ≤ cap ∧ (0 < l.length → ∃ g off, A = some ⟨g, off, none⟩ ∧ g < w.heap.size ∧ ∀ j (hj : j < l.length),
    w.cell? ⟨g, off + j * 3, none⟩ = some (.string l[j].name) ∧ w.cell? ⟨g, off + j * 3 + 1, none⟩ = some (.string l[j].b) ∧ w.cell? ⟨g, off + j * 3 + 2, none⟩ = some (.int .i64 (l[j].safe : Int)))

abbrev diskV (A : Option Addr) (cap : Nat) (D : Dsk) : Value := .agg #[.int .i64 D.room, .slice A D.l.length cap, .bool D.set, .int .i64 D.n, .bool D.lost]
abbrev diskC (A : Option Addr) (cap : Nat) (D : Dsk) : Array Value := #[.int .i64 D.room, .slice A D.l.length cap, .bool D.set, .int .i64 D.n, .bool D.lost]
abbrev filV (f : Fil) : Value := .agg #[.string f.name, .string f.b, .int .i64 (f.safe : Int)]
abbrev filC (f : Fil) : Array Value := #[.string f.name, .string f.b, .int .i64 (f.safe : Int)]
def filL (f : Fil) : List Value := [.string f.name, .string f.b, .int .i64 (f.safe : Int)]
def filsL (l : List Fil) : List Value := l.flatMap filL

section
variable {w w' : World} {A : Option Addr} {cap : Nat} {l : List Fil}

theorem filsL_length (l : List Fil) : (filsL l).length = l.length * 3 := by
  induction l with
  | nil => rfl
  | cons f l ih => simp [filsL, filL, List.flatMap_cons] at ih ⊢; omega

theorem filsL_app (a b : List Fil) : filsL (a ++ b) = filsL a ++ filsL b := List.flatMap_append
theorem filsL_one (f : Fil) : filsL [f] = filL f := by simp [filsL]

theorem filsL_at (l : List Fil) : ∀ j (hj : j < l.length), (filsL l)[j * 3]? = some (.string l[j].name) ∧ (filsL l)[j * 3 + 1]? = some (.string l[j].b) ∧ (filsL l)[j * 3 + 2]? = some (.int .i64 (l[j].safe : Int)) := by
  induction l with
  | nil => intro j hj; simp at hj
  | cons f l ih =>
    intro j hj
    cases j with
    | zero => simp [filsL, filL]
    | succ j =>
      have := ih j (by simpa using hj)
      have e : ∀ i, (filsL (f :: l))[(j + 1) * 3 + i]? = (filsL l)[j * 3 + i]? := fun i => by
        rw [show (j + 1) * 3 + i = (j * 3 + i) + 3 by omega]
        simp [filsL, filL, List.flatMap_cons]
      refine ⟨?_, ?_, ?_⟩
      · rw [show (j + 1) * 3 = (j + 1) * 3 + 0 from rfl, e]; simpa using this.1
      · rw [e]; simpa using this.2.1
      · rw [e]; simpa using this.2.2

theorem RF.nil (w : World) : RF w none 0 [] := ⟨Nat.le_refl _, fun h => absurd h (by simp)⟩

theorem RF.keep (h : RF w A cap l) (hs : w.heap.size ≤ w'.heap.size) (hk : ∀ g, g < w.heap.size → w'.heap[g]? = w.heap[g]?) : RF w' A cap l := by
  refine ⟨h.1, fun h0 => ?_⟩
  obtain ⟨g, off, e, hg, hc⟩ := h.2 h0
  refine ⟨g, off, e, Nat.lt_of_lt_of_le hg hs, fun j hj => ?_⟩
  obtain ⟨c0, c1, c2⟩ := hc j hj
  have hx : ∀ o, w'.cell? ⟨g, o, none⟩ = w.cell? ⟨g, o, none⟩ := fun o => World.cell?_of_block (hk g hg)
  exact ⟨(hx _).trans c0, (hx _).trans c1, (hx _).trans c2⟩

theorem RF.below (h : RF w A cap l) {B : Nat} (hb : Below B w w') (hB : w.heap.size ≤ B) : RF w' A cap l :=
  h.keep hb.size fun g hg => hb.block g (Nat.lt_of_lt_of_le hg hB)

theorem RF.drew (h : RF w A cap l) : RF w.drew A cap l := h

/-- It lies in blocks from B on. -/
def New (B : Nat) (A : Option Addr) : Prop := ∀ a, A = some a → B ≤ a.block

theorem New.mono {B B' : Nat} (h : New B A) (hB : B' ≤ B) : New B' A := fun a e => Nat.le_trans hB (h a e)
theorem New.of_own {base : Nat} {T : TypeId} {size n c : Nat} {xs : List Value} (h : w.ownsRow base T size (.slice A n c) n xs) : New base A := fun a e => by
  subst e
  exact (h.lt a.block rfl).1

theorem RF.keepN (h : RF w A cap l) {B : Nat} (hn : New B A) (hs : w.heap.size ≤ w'.heap.size) (hk : ∀ g, B ≤ g → g < w.heap.size → w'.heap[g]? = w.heap[g]?) : RF w' A cap l := by
  refine ⟨h.1, fun h0 => ?_⟩
  obtain ⟨g, off, e, hg, hc⟩ := h.2 h0
  refine ⟨g, off, e, Nat.lt_of_lt_of_le hg hs, fun j hj => ?_⟩
  obtain ⟨c0, c1, c2⟩ := hc j hj
  have hx : ∀ o, w'.cell? ⟨g, o, none⟩ = w.cell? ⟨g, o, none⟩ := fun o => World.cell?_of_block (hk g (hn _ e) hg)
  exact ⟨(hx _).trans c0, (hx _).trans c1, (hx _).trans c2⟩

/-- What came of a list: it is still that one, or another one in new memory; nothing old has turned. -/
def Got (w : World) (A : Option Addr) (cap : Nat) (l : List Fil) (w' : World) (A' : Option Addr) (cap' : Nat) (l' : List Fil) : Prop :=
  Below w.heap.size w w' ∧ ((A' = A ∧ cap' = cap ∧ l' = l) ∨ (RF w' A' cap' l' ∧ New w.heap.size A'))

theorem Got.rf {A' : Option Addr} {cap' : Nat} {l' : List Fil} (h : Got w A cap l w' A' cap' l') (h0 : RF w A cap l) : RF w' A' cap' l' := by
  rcases h.2 with ⟨rfl, rfl, rfl⟩ | ⟨h1, _⟩
  · exact h0.below h.1 (Nat.le_refl _)
  · exact h1

theorem Got.same (hb : Below w.heap.size w w') : Got w A cap l w' A cap l := ⟨hb, .inl ⟨rfl, rfl, rfl⟩⟩

/-- A call within a call, and stores into blocks that the outer one has made ahead of it. -/
theorem Got.wrap {w1 w2 w3 : World} {A' : Option Addr} {cap' : Nat} {l' : List Fil} (hb : Below w.heap.size w w1) (hg : Got w1 A cap l w2 A' cap' l') (hb3 : Below w.heap.size w2 w3) (hk : ∀ g, w1.heap.size ≤ g → g < w2.heap.size → w3.heap[g]? = w2.heap[g]?) :
    Got w A cap l w3 A' cap' l' := by
  refine ⟨(hb.trans (hg.1.mono hb.size)).trans hb3, ?_⟩
  rcases hg.2 with h | ⟨h1, h2⟩
  · exact .inl h
  · exact .inr ⟨h1.keepN h2 hb3.size hk, h2.mono hb.size⟩

/-- What lies in a row of the call's own. -/
theorem RF.of_own {base : Nat} {T : TypeId} {n : Nat} (h : w.ownsRow base T 3 (.slice A n cap) n (filsL l)) (hn : l.length = n) : RF w A cap l := by
  subst hn
  rcases h.2 with ⟨e, h0⟩ | ⟨g, cap', cur, e, hb, hg, hc, hm, hs, ht⟩
  · exact ⟨by omega, fun h1 => by omega⟩
  · injection e with e1 e2 e3
    subst e1 e3
    refine ⟨hc, fun _ => ⟨g, 0, rfl, hlt hg, fun j hj => ?_⟩⟩
    obtain ⟨q0, q1, q2⟩ := filsL_at l j hj
    have hx : ∀ i v, i < l.length * 3 → (filsL l)[i]? = some v → w.cell? ⟨g, i, none⟩ = some v := fun i v hi hv => by
      rw [cell_of_row w g i cur _ (0, 0) hg]
      have := congrArg (fun q => q[i]?) ht
      simp only [List.getElem?_take, if_pos hi] at this
      rw [← hv, ← this]
      simp
    exact ⟨by simpa using hx _ _ (by omega) q0, by simpa using hx _ _ (by omega) q1, by simpa using hx _ _ (by omega) q2⟩
end

/- Right -/

theorem rightL_snoc (l : List UInt8) (b : UInt8) : rightL (l ++ [b]) = (rightL l && !(decide (b.toNat < 33) || decide (126 < b.toNat))) := by simp [rightL]

theorem rightL_take (s : ByteArray) (k : Nat) (h : k < s.size) : rightL (s.data.toList.take (k + 1)) = (rightL (s.data.toList.take k) && !(decide ((s[k]).toNat < 33) || decide (126 < (s[k]).toNat))) := by
  rw [List.take_succ_eq_append_getElem (by simpa using h), rightL_snoc]; rfl

theorem rightL_no (l : List UInt8) (k : Nat) (h : rightL (l.take k) = false) : rightL l = false := by
  rw [← List.take_append_drop k l]
  simp only [rightL, List.all_append] at h ⊢
  rw [h]; rfl

theorem rightS_no (s : ByteArray) (k : Nat) (h : rightL (s.data.toList.take k) = false) : rightS s = false := by
  unfold rightS; rw [rightL_no _ _ h, Bool.and_false]

set_option maxHeartbeats 1000000 in
theorem rightR_any (s : ByteArray) (w : World) : Calls Try.prog 60 #[.string s] w fun e w' => e = .returned (.bool (rightS s)) ∧ w = w' := by
  by_cases h1 : s.size < 1
  · have h1' : ((s.size : Int) < 1) := by omega
    have hr : rightS s = false := by simp [rightS, h1]
    rw [hr]
    clear hr
    go_enter Try.func60, Try.ntmps60
    go_wp2
    go_ret
    exact ⟨rfl, rfl⟩
  · have h1' : ¬ ((s.size : Int) < 1) := by omega
    by_cases h2 : 12 < s.size
    · have h2' : ((12 : Int) < (s.size : Int)) := by omega
      have hr : rightS s = false := by simp [rightS, h2]
      rw [hr]
      clear hr
      go_enter Try.func60, Try.ntmps60
      go_wp2
      go_ret
      exact ⟨rfl, rfl⟩
    · have h2' : ¬ ((12 : Int) < (s.size : Int)) := by omega
      have HR : Hid (rightS s = rightL s.data.toList) := ⟨by simp [rightS, h1, h2]⟩
      go_enter Try.func60, Try.ntmps60
      go_wp2
      go_loop [14] (fun i => ∃ k : Nat, k ≤ s.size ∧ i = .int .i64 (k : Int) ∧ Hid (rightL (s.data.toList.take k) = true)) (fun i => s.size - (intOf i).toNat)
      case atStart => exact ⟨0, Nat.zero_le _, rfl, ⟨rfl⟩⟩
      case round =>
        obtain ⟨k, hk, rfl, HK⟩ := hrel
        by_cases hlt : k < s.size
        · have HT : Hid (rightL (s.data.toList.take (k + 1)) = (rightL (s.data.toList.take k) && !(decide ((s[k]).toNat < 33) || decide (126 < (s[k]).toNat)))) := ⟨rightL_take s k hlt⟩
          by_cases c1 : (s[k]).toNat < 33
          · have c1' : ((s[k]).toNat : Int) < 33 := by omega
            have HN : Hid (rightS s = false) := ⟨rightS_no s (k + 1) (by rw [HT.out, decide_eq_true c1]; simp)⟩
            go_wp2
            go_ret
            exact ⟨by rw [HN.out]; rfl, rfl⟩
          · have c1' : ¬ (((s[k]).toNat : Int) < 33) := by omega
            by_cases c2 : 126 < (s[k]).toNat
            · have c2' : (126 : Int) < ((s[k]).toNat : Int) := by omega
              have HN : Hid (rightS s = false) := ⟨rightS_no s (k + 1) (by rw [HT.out, decide_eq_true c2]; simp)⟩
              go_wp2
              go_ret
              exact ⟨by rw [HN.out]; rfl, rfl⟩
            · have c2' : ¬ ((126 : Int) < ((s[k]).toNat : Int)) := by omega
              have HY : Hid (rightL (s.data.toList.take (k + 1)) = true) := ⟨by rw [HT.out, HK.out, decide_eq_false c1, decide_eq_false c2]; rfl⟩
              go_wp2
              go_round
              case rel => exact ⟨k + 1, by omega, by go_num, HY⟩
              case measure => simp [intOf]; omega
        · have HY : Hid (rightS s = true) := ⟨by rw [HR.out, ← HK.out, List.take_of_length_le (by simp; omega)]⟩
          go_wp2
          go_ret
          exact ⟨by rw [HY.out]; rfl, rfl⟩

/- Used -/

theorem usedF_take (l : List Fil) (k : Nat) (h : k < l.length) : usedF (l.take (k + 1)) = usedF (l.take k) + l[k].b.size := by
  rw [List.take_succ_eq_append_getElem h]; simp only [usedF, List.map_append, List.sum_append, List.map_cons, List.map_nil, List.sum_cons, List.sum_nil, Nat.add_zero]

theorem usedF_le (l : List Fil) (k : Nat) : usedF (l.take k) ≤ usedF l := by
  have : usedF l = usedF (l.take k) + usedF (l.drop k) := by
    rw [show usedF (l.take k) + usedF (l.drop k) = usedF (l.take k ++ l.drop k) by simp only [usedF, List.map_append, List.sum_append], List.take_append_drop]
  omega

set_option maxHeartbeats 1000000 in
theorem usedR_any (A : Option Addr) (cap : Nat) (D : Dsk) (w : World) (h : RF w A cap D.l) (hu : usedF D.l ≤ 1099511627776) (hn : D.l.length ≤ 1099511627776) :
    Calls Try.prog 34 #[diskV A cap D] w fun e w' => e = .returned (.int .i64 ((usedF D.l : Nat) : Int)) ∧ Below w.heap.size w w' := by
  have hb0 : Below w.heap.size w (w.alloc (.cells (diskC A cap D) 31)) := (Below.refl _ _).alloc (Nat.le_refl _) _
  have h0 := h.below hb0 (Nat.le_refl _)
  obtain ⟨room, l, set, n, lost⟩ := D
  dsimp only at *
  have hn' : (l.length : Int) ≤ 1099511627776 := by omega
  go_enter Try.func34, Try.ntmps34
  go_wp2
  go_loop [3, 8] (fun u i => ∃ k : Nat, k ≤ l.length ∧ i = .int .i64 (k : Int) ∧ u = .int .i64 ((usedF (l.take k) : Nat) : Int)) (fun _ i => l.length - (intOf i).toNat)
  case atStart => exact ⟨0, Nat.zero_le _, rfl, rfl⟩
  case round =>
    obtain ⟨k, hk, rfl, rfl⟩ := hrel
    by_cases hlt : k < l.length
    · have hlt' : (k : Int) < (l.length : Int) := by omega
      obtain ⟨g, off, rfl, hg, hc⟩ := h0.2 (by show 0 < l.length; omega)
      obtain ⟨_, c1, _⟩ := hc k hlt
      have ht := usedF_take l k hlt
      have hle := usedF_le l (k + 1)
      have HT : Hid (usedF (l.take (k + 1)) = usedF (l.take k) + l[k].b.size) := ⟨ht⟩
      rw [ht] at hle
      clear ht hc
      generalize l[k].b = s at *
      generalize usedF (l.take k) = u at *
      have hu1 : (u : Int) ≤ 1099511627776 := by omega
      have hu2 : (s.size : Int) ≤ 1099511627776 := by omega
      go_wp2
      go_round
      case rel => exact ⟨k + 1, by omega, by go_num, by rw [HT.out]; go_num⟩
      case measure => simp [intOf]; omega
    · obtain rfl : k = l.length := by omega
      have HT : Hid (usedF (l.take l.length) = usedF l) := ⟨by rw [List.take_length]⟩
      go_wp2
      go_ret
      exact ⟨by rw [← HT.out]; rfl, hb0⟩

/- Get -/

theorem getF_yes (l : List Fil) (name : ByteArray) (k : Nat) (hk : k < l.length) (hno : ∀ i (hi : i < l.length), i < k → isN name l[i] = false) (h : isN name l[k] = true) : getF l name = (l[k], true) := by
  have : l.find? (isN name) = some l[k] := by
    rw [List.find?_eq_some_iff_getElem]
    exact ⟨h, k, hk, rfl, fun j hj => by simp [hno j (by omega) hj]⟩
  simp [getF, this]

theorem getF_no (l : List Fil) (name : ByteArray) (hno : ∀ i (hi : i < l.length), i < l.length → isN name l[i] = false) : getF l name = (⟨name, ByteArray.empty, 0⟩, false) := by
  have : l.find? (isN name) = none := by
    rw [List.find?_eq_none]
    intro x hx
    obtain ⟨i, hi, rfl⟩ := List.getElem_of_mem hx
    simp [hno i hi hi]
  simp [getF, this]

set_option maxHeartbeats 2000000 in
theorem getR_any (A : Option Addr) (cap : Nat) (D : Dsk) (name : ByteArray) (w : World) (h : RF w A cap D.l) (hn : D.l.length ≤ 1099511627776) :
    Calls Try.prog 49 #[diskV A cap D, .string name] w fun e w' => e = .returned (.tuple #[filV (getF D.l name).1, .bool (getF D.l name).2]) ∧ Below w.heap.size w w' := by
  have hb0 : Below w.heap.size w ((w.alloc (.cells (diskC A cap D) 31)).alloc (.cells #[.string ⟨#[]⟩, .string ⟨#[]⟩, .int .i64 0] 43)) := ((Below.refl _ _).alloc (Nat.le_refl _) _).alloc (by simp) _
  have h0 := h.below hb0 (Nat.le_refl _)
  obtain ⟨room, l, set, n, lost⟩ := D
  dsimp only at *
  have hn' : (l.length : Int) ≤ 1099511627776 := by omega
  go_enter Try.func49, Try.ntmps49
  go_wp2
  go_loop [10] (fun i => ∃ k : Nat, k ≤ l.length ∧ i = .int .i64 (k : Int) ∧ Hid (∀ i (hi : i < l.length), i < k → isN name l[i] = false)) (fun i => l.length - (intOf i).toNat)
  case atStart => exact ⟨0, Nat.zero_le _, rfl, ⟨fun i _ h => absurd h (by omega)⟩⟩
  case round =>
    obtain ⟨k, hk, rfl, HK⟩ := hrel
    by_cases hlt : k < l.length
    · have hlt' : (k : Int) < (l.length : Int) := by omega
      obtain ⟨g, off, rfl, hg, hc⟩ := h0.2 (by show 0 < l.length; omega)
      obtain ⟨c0, c1, c2⟩ := hc k hlt
      have HY := fun h => getF_yes l name k hlt HK.out h
      cases hq : isN name l[k] with
      | true =>
        have hq' : (l[k].name.toList == name.toList) = true := hq
        have HY := Lib.hid (HY hq)
        clear hc hq
        generalize l[k] = f at *
        go_wp2
        refine bodyPost_ret (res_cell_tmp' (n := w.heap.size + 1) rfl rfl (heap_alloc2_new _ _ _) Try.underlying43 rfl (by kernel_rfl)) rfl ?_
        rw [HY.out]
        exact ⟨rfl, ((Below.refl _ _).alloc (Nat.le_refl _) _).alloc (by simp) _⟩
      | false =>
        have hq' : (l[k].name.toList == name.toList) = false := hq
        have HN : Hid (∀ i (hi : i < l.length), i < k + 1 → isN name l[i] = false) := ⟨fun i hi h => by
          rcases Nat.lt_or_ge i k with h' | h'
          · exact HK.out i hi h'
          · obtain rfl : i = k := by omega
            exact hq⟩
        clear hc hq HY
        go_wp2
        go_round
        case rel => exact ⟨k + 1, by omega, by go_num, HN⟩
        case measure => simp [intOf]; omega
    · obtain rfl : k = l.length := by omega
      have HN := Lib.hid (getF_no l name HK.out)
      go_wp2
      refine bodyPost_ret (res_cell_tmp' (n := w.heap.size + 1) rfl rfl (heap_alloc2_new _ _ _) Try.underlying43 rfl (by kernel_rfl)) rfl ?_
      rw [HN.out]
      exact ⟨rfl, ((Below.refl _ _).alloc (Nat.le_refl _) _).alloc (by simp) _⟩

end Go.Proofs.Ytkgkllhocmedoaa
