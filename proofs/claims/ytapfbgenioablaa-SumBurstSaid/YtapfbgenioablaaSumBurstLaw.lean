/- SumBurst: a text of which up to 32 bits that stand together are turned has another sum. For every input. -/
import Derived.Test.YtapfbgenioablaaSumAwake
import Derived.Test.YtapfbgenioablaaSumArgs
import Derived.Test.YtapfbgenioablaaLawEnd
import Derived.ChangeMaps5
import Derived.BigQuiet
import Derived.Deep.LoopGhost
import Derived.StillTailTactics
namespace Go.Proofs.Ytapfbgenioablaa.sumBurst
open Go.ChangeShapes Go.WideShapes Go.ChangeAt Go.RowKit Go.Proofs.Ytapfbgenioablaa
set_option linter.unusedVariables false
set_option linter.unusedSimpArgs false

theorem made (w : World) : Owns 5 (w.alloc (.cells #[] 5)) w.heap.size (.slice (some ⟨w.heap.size, 0, none⟩) 0 0) [] := World.ownsRow_made _ #[] 0 (Nat.le_refl _) (Nat.zero_le _) rfl

theorem xor2 (x y : UInt8) : bits .xor .u8 (x.toNat : Int) (y.toNat : Int) = ((x ^^^ y).toNat : Int) := by
  have hx := x.toNat_lt
  have hy := y.toNat_lt
  rw [u8_xor_nat _ _ (by omega) (by omega), ← UInt8.toNat_xor]

theorem four_cell (a b c e : UInt8) (j : Nat) (hj : j < 4) : (#[u8 a, u8 b, u8 c, u8 e] : Array Value)[j]? = some (u8 ([a, b, c, e][j]'hj)) := by
  match j, hj with
  | 0, _ | 1, _ | 2, _ | 3, _ => rfl

set_option maxRecDepth 100000 in
set_option maxHeartbeats 3200000 in
theorem walk_no (A : Option Addr) (len cap : Nat) (a b c e : UInt8) (at_ : Int) (w : World) (hm : len ≤ maxLen) (hno : len < 4 ∨ 3000 < len ∨ (a = 0 ∧ b = 0 ∧ c = 0 ∧ e = 0)) :
    Calls Try.prog 5 #[.slice A len cap, .agg #[u8 a, u8 b, u8 c, u8 e], .int .u16 at_] w fun e w' => e = .returned (.bool true) ∧ Below w.heap.size w w' := by
  have hb0 : Below w.heap.size w (w.alloc (.cells #[u8 a, u8 b, u8 c, u8 e] 29)) := (Below.refl _ _).alloc (Nat.le_refl _) _
  by_cases hs1 : len < 4
  · have hs1' : ((len : Int) < 4) := by omega
    go_enter Try.func5, Try.ntmps5
    go_wp2_with fail
    refine (awake_any _).mono ?_
    rintro e w1 ⟨rfl, hb1⟩
    go_wp2_with fail
    refine (awake_any _).mono ?_
    rintro e w2 ⟨rfl, hb2⟩
    go_wp2
    go_ret
    exact ⟨rfl, hb0.trans ((hb1.trans (hb2.mono hb1.size)).mono hb0.size)⟩
  · have hs1' : ¬ ((len : Int) < 4) := by omega
    by_cases hs2 : 3000 < len
    · have hs2' : ((3000 : Int) < (len : Int)) := by omega
      go_enter Try.func5, Try.ntmps5
      go_wp2_with fail
      refine (awake_any _).mono ?_
      rintro e w1 ⟨rfl, hb1⟩
      go_wp2_with fail
      refine (awake_any _).mono ?_
      rintro e w2 ⟨rfl, hb2⟩
      go_wp2
      go_ret
      exact ⟨rfl, hb0.trans ((hb1.trans (hb2.mono hb1.size)).mono hb0.size)⟩
    · have hs2' : ¬ ((3000 : Int) < (len : Int)) := by omega
      obtain ⟨rfl, rfl, rfl, rfl⟩ : a = 0 ∧ b = 0 ∧ c = 0 ∧ e = 0 := by
        rcases hno with h | h | h
        · omega
        · omega
        · exact h
      have hq := eq_four 0 0 0 0
      go_enter Try.func5, Try.ntmps5
      go_wp2_with fail
      refine (awake_any _).mono ?_
      rintro e w1 ⟨rfl, hb1⟩
      have c0 := (hb1.cell (p := ⟨w.heap.size, 0, none⟩) (by simp)).trans (cell_of_row _ _ 0 _ _ _ (heap_alloc_new w _))
      have c1 := (hb1.cell (p := ⟨w.heap.size, 1, none⟩) (by simp)).trans (cell_of_row _ _ 1 _ _ _ (heap_alloc_new w _))
      have c2 := (hb1.cell (p := ⟨w.heap.size, 2, none⟩) (by simp)).trans (cell_of_row _ _ 2 _ _ _ (heap_alloc_new w _))
      have c3 := (hb1.cell (p := ⟨w.heap.size, 3, none⟩) (by simp)).trans (cell_of_row _ _ 3 _ _ _ (heap_alloc_new w _))
      go_wp2_with fail
      refine (awake_any _).mono ?_
      rintro e w2 ⟨rfl, hb2⟩
      go_wp2
      go_ret
      exact ⟨rfl, hb0.trans ((hb1.trans (hb2.mono hb1.size)).mono hb0.size)⟩

set_option maxRecDepth 100000 in
set_option maxHeartbeats 3200000 in
theorem walk_yes (A : Option Addr) (len cap : Nat) (l : List UInt8) (a b c e : UInt8) (m : Nat) (w : World) (h : Lies w A len cap l) (hm : cap ≤ maxLen) (hs1 : 4 ≤ len) (hs2 : len ≤ 3000) (hm16 : m ≤ 65535) (hne : ¬ (a = 0 ∧ b = 0 ∧ c = 0 ∧ e = 0)) :
    Calls Try.prog 5 #[.slice A len cap, .agg #[u8 a, u8 b, u8 c, u8 e], .int .u16 (m : Int)] w fun e w' => e = .returned (.bool true) ∧ Below w.heap.size w w' := by
  have hlm : len ≤ maxLen := Nat.le_trans h.2.1 hm
  clear hm
  have e1 := h.1
  have hb0 : Below w.heap.size w (w.alloc (.cells #[u8 a, u8 b, u8 c, u8 e] 29)) := (Below.refl _ _).alloc (Nat.le_refl _) _
  have hq := eq_four a b c e
  rw [decide_eq_false hne] at hq
  have hs1' : ¬ ((len : Int) < 4) := by omega
  have hs2' : ¬ ((3000 : Int) < (len : Int)) := by omega
  obtain ⟨i0, hi0, hz0, hz1, hz2⟩ := info_parts info_u8
  obtain ⟨n, hn⟩ := Int.eq_ofNat_of_zero_le (show 0 ≤ (m : Int) % ((len : Int) - 3) from Int.emod_nonneg _ (by omega))
  have hnl : n < len - 3 := by have := Int.emod_lt_of_pos (m : Int) (show (0 : Int) < (len : Int) - 3 by omega); omega
  have hsum := over4_sum (l := l) (k := n) a b c e (by omega) hne
  clear hne
  have hbl : [a, b, c, e].length = 4 := rfl
  go_enter Try.func5, Try.ntmps5
  go_wp2_with fail
  refine (awake_any _).mono ?_
  rintro e w1 ⟨rfl, hb1⟩
  have c0 := (hb1.cell (p := ⟨w.heap.size, 0, none⟩) (by simp)).trans (cell_of_row _ _ 0 _ _ _ (heap_alloc_new w _))
  have c1 := (hb1.cell (p := ⟨w.heap.size, 1, none⟩) (by simp)).trans (cell_of_row _ _ 1 _ _ _ (heap_alloc_new w _))
  have c2 := (hb1.cell (p := ⟨w.heap.size, 2, none⟩) (by simp)).trans (cell_of_row _ _ 2 _ _ _ (heap_alloc_new w _))
  have c3 := (hb1.cell (p := ⟨w.heap.size, 3, none⟩) (by simp)).trans (cell_of_row _ _ 3 _ _ _ (heap_alloc_new w _))
  have hw1 := made w1
  have hs1 := hb1.size
  have hb2 := hb1.alloc hs1 (.cells #[] 5)
  have hsz : w1.heap.size ≤ (w1.alloc (.cells #[] 5)).heap.size := by simp
  have f1 := (h.below hb0 (Nat.le_refl _)).below hb2 (Nat.le_refl _)
  go_wp2_with (first
    | (at_builtin; refine wpList_append_bytes _ rfl (.tmp 28) (.tmp 29) 22 rfl 5 i0 Try.underlying22 hi0 hz0 hz1 hz2 w1.heap.size hsz (.slice (some ⟨w1.heap.size, 0, none⟩) 0 0) [] rfl hw1 A len cap l rfl f1 (by simp; omega) ?_
       intro v2 w2 ho2 hg2 _
       have hb3 := hb2.grown hg2 hb2.size (fun k e => by injection e with e; have e' : w1.heap.size = k := e; omega)
       have ho2 : Owns 5 w2 w1.heap.size v2 l := ho2
       obtain ⟨A4, cap4, rfl, f4, _⟩ := lies_of_owns ho2
       rw [e1] at ho2 f4 ⊢)
    | fail)
  rw [hn]
  have hw0 : w.heap.size < w1.heap.size := by have := hb1.size; simp at this; omega
  have hrow : w2.heap[w.heap.size]? = some (.cells #[Go.Proofs.Ytapfbgenioablaa.u8 a, Go.Proofs.Ytapfbgenioablaa.u8 b, Go.Proofs.Ytapfbgenioablaa.u8 c, Go.Proofs.Ytapfbgenioablaa.u8 e] 29 (0, 0)) := (hb3.block _ (by simp)).trans (heap_alloc_new w _)
  have hb4 := hb0.trans (hb3.mono hb0.size)
  have hoM : Owns 5 w2 w1.heap.size (.slice A4 len cap4) (over4 l [a, b, c, e] n 0) := by rw [over4_zero]; exact ho2
  clear hi0 hz0 hz1 hz2 f1 hw1 hb2 hsz hg2 f4 ho2 c0 c1 c2 c3 hq hb1 hs1 hn hb3
  generalize hbs : [a, b, c, e] = bs at hoM hbl hsum
  generalize w1.heap.size = n1 at hoM hw0 ⊢
  go_loopg [37] 4 (fun g x wr => ∃ j : Nat, x = .int .i64 (j : Int) ∧ j + g = 4 ∧ Owns 5 wr n1 (.slice A4 len cap4) (over4 l bs n j) ∧ wr.heap[w.heap.size]? = some (.cells #[Go.Proofs.Ytapfbgenioablaa.u8 a, Go.Proofs.Ytapfbgenioablaa.u8 b, Go.Proofs.Ytapfbgenioablaa.u8 c, Go.Proofs.Ytapfbgenioablaa.u8 e] 29 (0, 0)) ∧ Below w.heap.size w wr)
  case atStart => exact ⟨0, rfl, by omega, hoM, hrow, hb4⟩
  case round =>
    clear hoM hrow hb4
    obtain ⟨j, rfl, hj, hoM, hrow, hb⟩ := hrel
    by_cases hlt : j < 4
    · have hlt' : (j : Int) < 4 := by omega
      have hml := over4_length (l := l) (bs := bs) (k := n) (j := j) (by omega) (by omega)
      obtain ⟨g, rfl, hg1, hg2, c1, c1f⟩ := hoM.at_ (n + j) (by omega)
      rw [over4_at (by omega) (by omega)] at c1
      have hnx := hoM.set (n + j) (by omega) (l[n + j] ^^^ bs[j])
      rw [over4_next (by omega) (by omega)] at hnx
      have hx := xor2 l[n + j] bs[j]
      have hbn := hb.setCell (p := ⟨g, n + j, none⟩) (by show w.heap.size ≤ g; omega) (Go.Proofs.Ytapfbgenioablaa.u8 (l[n + j] ^^^ bs[j]))
      have hrn : (wr.setCell ⟨g, n + j, none⟩ (Go.Proofs.Ytapfbgenioablaa.u8 (l[n + j] ^^^ bs[j]))).heap[w.heap.size]? = _ := (Below.heap_setCell _ _ _ _ (by show w.heap.size ≠ g; omega)).trans hrow
      have c2 : wr.cell? ⟨w.heap.size, j, none⟩ = some (Go.Proofs.Ytapfbgenioablaa.u8 bs[j]) := by
        rw [cell_of_row _ _ j _ _ _ hrow]
        subst hbs
        exact four_cell a b c e j hlt
      have hnj : (n : Int) + (j : Int) < (len : Int) := by omega
      generalize l[n + j] ^^^ bs[j] = y at hnx hx hbn hrn
      generalize l[n + j] = y1 at c1 hx
      generalize bs[j] = y2 at c2 hx
      clear hml hrow hoM hbs
      have hnj0 : (0 : Int) ≤ (n : Int) + (j : Int) := by omega
      have hww : IntKind.i64.wrap ((n : Int) + (j : Int)) = (n : Int) + (j : Int) := IntWalk.i64_in _ (by omega)
      have hnt : ((n : Int) + (j : Int)).toNat = n + j := by omega
      go_wp2
      go_still_tail 11, (by kernel_rfl)
      change wpList _ _ _ _ _ wr.drew
      go_wp2
      go_roundg (gk - 1)
      case measure => omega
      case rel => exact ⟨j + 1, by go_num, by omega, hnx, hrn, hbn.drew⟩
    · obtain rfl : j = 4 := by omega
      have hlen := over4_length (l := l) (bs := bs) (k := n) (j := 4) (by omega) (by omega)
      have f1 := h.below hb (Nat.le_refl _)
      obtain ⟨A5, cap5, e', f4, _⟩ := lies_of_owns hoM
      rw [hlen, e1] at e' f4
      injection e' with ea eb ec
      subst ea ec
      have c1 := of_any A4 _ cap4 _ wr f4 hlm
      have c2 := of_any A _ cap _ wr f1 hlm
      generalize moreN 0 (over4 l bs n 4) = p at c1 hsum
      generalize moreN 0 l = q at c2 hsum
      have hne : ((p : Int) != (q : Int)) = true := by simp; omega
      clear hoM f1 f4 hlen hrow
      go_wp2_with fail
      refine c1.mono ?_; rintro e w' ⟨rfl, rfl⟩
      go_wp2_with fail
      refine c2.mono ?_; rintro e w' ⟨rfl, rfl⟩
      go_wp2_with fail
      go_ret
      exact ⟨rfl, hb⟩

theorem walk (A : Option Addr) (len cap : Nat) (l : List UInt8) (a b c e : UInt8) (z : Int) (w : World) (h : Lies w A len cap l) (hm : cap ≤ maxLen) (hz : (Lit.int .u16 z).wf = true) :
    Calls Try.prog 5 #[.slice A len cap, .agg #[u8 a, u8 b, u8 c, u8 e], .int .u16 z] w fun e w' => e = .returned (.bool true) ∧ Below w.heap.size w w' := by
  have r : 0 ≤ z ∧ z ≤ 65535 := by simpa [Lit.wf, IntKind.min, IntKind.max, IntKind.bits, IntKind.signed] using hz
  obtain ⟨m, rfl⟩ := Int.eq_ofNat_of_zero_le r.1
  by_cases hno : len < 4 ∨ 3000 < len ∨ (a = 0 ∧ b = 0 ∧ c = 0 ∧ e = 0)
  · exact walk_no A len cap a b c e _ w (Nat.le_trans h.2.1 hm) hno
  · exact walk_yes A len cap l a b c e m w h hm (Nat.le_of_not_lt fun h => hno (.inl h)) (Nat.le_of_not_lt fun h => hno (.inr (.inl h))) (by omega) (fun h => hno (.inr (.inr h)))

theorem own : ownKnob Try.prog.godebug = none := by kernel_rfl

set_option maxRecDepth 100000 in
theorem lifted (os : Os) (started : os.Started) (H : Type) (enc : TypeId × Value → H) :
    ReturnsInHanded {} Try.checked os 5 .any (Rows.sumBurstSpec.pre6 enc Try.prog Try.f5 Rows.sumBurstRow.domain false) (Rows.sumBurstSpec.post enc Try.prog Try.f5 false true false false) := by
  refine returnsInHanded_of_change (C := Try.checked) own started (by kernel_rfl) Try.func5
    (ChangeSpec.witness6 (enc := enc) (C := Try.checked) false ⟨#[], #[.slice none 0 0, .agg #[.int .u8 0, .int .u8 0, .int .u8 0, .int .u8 0], .int .u16 0], []⟩ 8 (by kernel_rfl) (by kernel_rfl) (by kernel_rfl) (by kernel_rfl)) ?_
  intro W base args ds gs before hval0 hW hcnd _
  have hval : ∀ (j : Nat) t v, Try.f5.params[j]? = some t → args[j]? = some v → Value.okWide Try.prog W .any base t v := hval0
  have hW' := hW
  obtain ⟨p, q, hA0, hV, rfl, hfz, hnd⟩ := hW
  have hA : DataW.TrodAll enc Try.prog W 0 (fun _ => true) true Try.f5.params.toList args.toList ds p := hA0
  rw [Try.params5] at hA hval
  obtain ⟨v0, vs0, d0, ds0, p0, q0, hargs, rfl, rfl, h0, r0⟩ := trodAll_cons hA
  obtain ⟨v1, vs1, d1, ds1, p1, q1, rfl, rfl, rfl, h1, r1⟩ := trodAll_cons r0
  obtain ⟨v2, vs2, d2, ds2, p2, q2, rfl, rfl, rfl, h2, r2⟩ := trodAll_cons r1
  obtain ⟨rfl, rfl, rfl⟩ := trodAll_nil r2
  obtain rfl : args = #[v0, v1, v2] := by cases args; simp_all
  obtain ⟨rfl, rfl⟩ := trodVars_none hV
  obtain ⟨A0, len0, cap0, L0, rfl, hlc0, hm0, hbl0⟩ := arg_bytes (hval 0 22 v0 rfl rfl) h0 (fun x hx => hW'.lt x (by simp [hx]))
  obtain ⟨x1, y1, z1, t1, rfl⟩ := arg_four (hval 1 29 v1 rfl rfl) h1
  obtain ⟨a2, rfl, rfl, rfl, w2⟩ := open_int Try.underlying30 (hval 2 30 v2 rfl rfl) h2
  have fin : ∀ W', Below W.heap.size W W' → Rows.sumBurstSpec.post enc Try.prog Try.f5 false true false false W #[.slice A0 len0 cap0, .agg #[Go.Proofs.Ytapfbgenioablaa.u8 x1, Go.Proofs.Ytapfbgenioablaa.u8 y1, Go.Proofs.Ytapfbgenioablaa.u8 z1, Go.Proofs.Ytapfbgenioablaa.u8 t1], .int .u16 a2] (.bool true) W' :=
    fun W' hb => law_end (by kernel_rfl) (by decide +kernel) rfl rfl Try.underlying4 hW' rfl rfl rfl hb
  exact (walk A0 len0 cap0 L0 x1 y1 z1 t1 a2 W ⟨hbl0.1, hlc0, hbl0.2⟩ hm0 w2).mono fun e W' ⟨he, hb⟩ => ⟨_, he, fin W' hb⟩

theorem over : Rows.sumBurstRow.holds Try.pinned (OpenSpec.ofChange Rows.sumBurstSpec) :=
  OpenClaim.holds_of_wide 5 Try.f5 rfl rfl rfl rfl rfl rfl rfl ⟨rfl, rfl, rfl, rfl, rfl⟩ rfl rfl rfl rfl rfl (by kernel_rfl) Try.func5 (by kernel_rfl)
    (of_decide_eq_true (by kernel_rfl)) (by unfold Func.isWrapper; first | (rw [if_pos (by decide +kernel)]; kernel_rfl) | (rw [if_neg (by decide +kernel)]; exact ⟨rfl, rfl⟩))
    (fun os started H enc _ => lifted os started H enc)

theorem proved : Rows.SumBurstSaid := over


end Go.Proofs.Ytapfbgenioablaa.sumBurst
