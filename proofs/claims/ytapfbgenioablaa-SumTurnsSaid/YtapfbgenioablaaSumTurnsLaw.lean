/- SumTurns: how a sum changes by what is turned hangs on that, and on how long the text is, alone. For every input. -/
import Derived.Test.YtapfbgenioablaaSumAwake
import Derived.Test.YtapfbgenioablaaLawEnd
import Derived.ChangeMaps5
import Derived.BigQuiet
import Derived.Deep.LoopGhost
import Derived.StillTailTactics
namespace Go.Proofs.Ytapfbgenioablaa.sumTurns
open Go.ChangeShapes Go.WideShapes Go.ChangeAt Go.RowKit Go.Proofs.Ytapfbgenioablaa
set_option linter.unusedVariables false
set_option linter.unusedSimpArgs false

theorem made (w : World) : Owns 5 (w.alloc (.cells #[] 5)) w.heap.size (.slice (some ⟨w.heap.size, 0, none⟩) 0 0) [] := World.ownsRow_made _ #[] 0 (Nat.le_refl _) (Nat.zero_le _) rfl

/-- So many are turned already. -/
def mid (a b c : List UInt8) (j : Nat) : List UInt8 := (turn3 a b c).take j ++ a.drop j

theorem turn3_length (a b c : List UInt8) (h1 : b.length = a.length) (h2 : c.length = a.length) : (turn3 a b c).length = a.length := by simp [turn3, h1, h2]

theorem mid_zero (a b c : List UInt8) : mid a b c 0 = a := by simp [mid]

theorem mid_length (a b c : List UInt8) (h1 : b.length = a.length) (h2 : c.length = a.length) (j : Nat) (hj : j ≤ a.length) : (mid a b c j).length = a.length := by
  have := turn3_length a b c h1 h2
  simp [mid, this]; omega

theorem mid_full (a b c : List UInt8) (h1 : b.length = a.length) (h2 : c.length = a.length) : mid a b c a.length = turn3 a b c := by
  have := turn3_length a b c h1 h2
  simp [mid, List.take_of_length_le (Nat.le_of_eq this)]

theorem mid_at (a b c : List UInt8) (h1 : b.length = a.length) (h2 : c.length = a.length) (j : Nat) (hj : j < a.length) (hm : j < (mid a b c j).length) : (mid a b c j)[j] = a[j] := by
  have := turn3_length a b c h1 h2
  have hl : (List.take j (turn3 a b c)).length = j := by simp; omega
  simp only [mid]
  rw [List.getElem_append_right (by omega)]
  simp [hl]

theorem mid_next (a b c : List UInt8) (h1 : b.length = a.length) (h2 : c.length = a.length) (j : Nat) (hj : j < a.length) : (mid a b c j).set j (a[j] ^^^ b[j] ^^^ c[j]) = mid a b c (j + 1) := by
  have ht := turn3_length a b c h1 h2
  have hl : (List.take j (turn3 a b c)).length = j := by simp; omega
  have e : (turn3 a b c)[j]'(by omega) = a[j] ^^^ b[j] ^^^ c[j] := by simp [turn3]
  simp only [mid]
  rw [List.set_append, if_neg (by omega), hl, Nat.sub_self, List.drop_eq_getElem_cons hj, List.set_cons_zero, List.take_succ_eq_append_getElem (by omega), e, List.append_assoc]
  rfl

theorem xor3 (x y z : UInt8) : bits .xor .u8 (bits .xor .u8 (x.toNat : Int) (y.toNat : Int)) (z.toNat : Int) = ((x ^^^ y ^^^ z).toNat : Int) := by
  have hx := x.toNat_lt
  have hy := y.toNat_lt
  have hz := z.toNat_lt
  rw [u8_xor_nat _ _ (by omega) (by omega), ← UInt8.toNat_xor, u8_xor_nat _ _ (x ^^^ y).toNat_lt (by omega), ← UInt8.toNat_xor]

set_option maxRecDepth 100000 in
set_option maxHeartbeats 3200000 in
theorem walk (A1 : Option Addr) (len1 cap1 : Nat) (l1 : List UInt8) (A2 : Option Addr) (len2 cap2 : Nat) (l2 : List UInt8) (A3 : Option Addr) (len3 cap3 : Nat) (l3 : List UInt8) (w : World) (h1 : Lies w A1 len1 cap1 l1) (hm1 : cap1 ≤ maxLen) (h2 : Lies w A2 len2 cap2 l2) (hm2 : cap2 ≤ maxLen)
    (h3 : Lies w A3 len3 cap3 l3) (hm3 : cap3 ≤ maxLen) :
    Calls Try.prog 6 #[.slice A1 len1 cap1, .slice A2 len2 cap2, .slice A3 len3 cap3] w fun e w' => e = .returned (.bool true) ∧ Below w.heap.size w w' := by
  have hlm1 : len1 ≤ maxLen := Nat.le_trans h1.2.1 hm1
  have hlm2 : len2 ≤ maxLen := Nat.le_trans h2.2.1 hm2
  have hlm3 : len3 ≤ maxLen := Nat.le_trans h3.2.1 hm3
  clear hm1 hm2 hm3
  by_cases hok : len1 ≤ 3000 ∧ len2 = len1 ∧ len3 = len1
  · obtain ⟨hs, rfl, rfl⟩ := hok
    have hs' : ¬ ((3000 : Int) < (len3 : Int)) := by omega
    obtain ⟨i0, hi0, hz0, hz1, hz2⟩ := info_parts info_u8
    have e1 := h1.1
    have e2 := h2.1
    have e3 := h3.1
    go_enter Try.func6, Try.ntmps6
    go_wp2_with fail
    refine (awake_any _).mono ?_
    rintro e w1 ⟨rfl, hb1⟩
    have hs1 := hb1.size
    have hw1 := made w1
    have hb2 : Below w.heap.size w (w1.alloc (.cells #[] 5)) := hb1.alloc hs1 _
    have hsz : w1.heap.size ≤ (w1.alloc (.cells #[] 5)).heap.size := by simp
    have f1 := h1.below hb2 (Nat.le_refl _)
    go_wp2_with (first
      | (at_builtin; refine wpList_append_bytes _ rfl (.tmp 31) (.tmp 32) 22 rfl 5 i0 Try.underlying22 hi0 hz0 hz1 hz2 w1.heap.size hsz (.slice (some ⟨w1.heap.size, 0, none⟩) 0 0) [] rfl hw1 A1 len3 cap1 l1 rfl f1 (by simp; omega) ?_
         intro v2 w2 ho2 hg2 _
         have hb3 := hb2.grown hg2 hb2.size (fun k e => by injection e with e; have e' : w1.heap.size = k := e; omega)
         have ho2 : Owns 5 w2 w1.heap.size v2 l1 := ho2
         obtain ⟨A4, cap4, rfl, f4, _⟩ := lies_of_owns ho2
         rw [e1] at ho2 f4 ⊢)
      | fail)
    have hb4 : w.heap.size ≤ w1.heap.size := hs1
    have hoM : Owns 5 w2 w1.heap.size (.slice A4 len3 cap4) (mid l1 l2 l3 0) := by rw [mid_zero]; exact ho2
    clear hi0 hz0 hz1 hz2 f1 hw1 hb2 hsz hg2 f4 ho2
    generalize w1.heap.size = n1 at hoM hb4
    go_loopg [36] len3 (fun g x wr => ∃ j : Nat, x = .int .i64 (j : Int) ∧ j + g = len3 ∧ Owns 5 wr n1 (.slice A4 len3 cap4) (mid l1 l2 l3 j) ∧ Below w.heap.size w wr)
    case atStart => exact ⟨0, rfl, by omega, hoM, hb3⟩
    case round =>
      clear hoM hb3
      obtain ⟨j, rfl, hj, hoM, hb⟩ := hrel
      by_cases hlt : j < len3
      · have hlt' : (j : Int) < (len3 : Int) := by omega
        have hml := mid_length l1 l2 l3 (by omega) (by omega) j (by omega)
        obtain ⟨g, rfl, hg1, hg2, c1, c1f⟩ := hoM.at_ j (by omega)
        rw [mid_at l1 l2 l3 (by omega) (by omega) j (by omega)] at c1
        obtain ⟨g2, off2, rfl, hl2, c2⟩ := (h2.below hb (Nat.le_refl _)).cell j (by omega)
        obtain ⟨g3, off3, rfl, hl3, c3⟩ := (h3.below hb (Nat.le_refl _)).cell j (by omega)
        have hnx := hoM.set j (by omega) (l1[j] ^^^ l2[j] ^^^ l3[j])
        rw [mid_next l1 l2 l3 (by omega) (by omega) j (by omega)] at hnx
        have hx := xor3 l1[j] l2[j] l3[j]
        have hbn := hb.setCell (p := ⟨g, j, none⟩) (Nat.le_trans hb4 hg1) (Go.Proofs.Ytapfbgenioablaa.u8 (l1[j] ^^^ l2[j] ^^^ l3[j]))
        generalize l1[j] ^^^ l2[j] ^^^ l3[j] = y at hnx hx hbn
        generalize l1[j] = y1 at c1 hx
        generalize l2[j] = y2 at c2 hx
        generalize l3[j] = y3 at c3 hx
        clear hml
        go_wp2
        go_still_tail 17, (by kernel_rfl)
        change wpList _ _ _ _ _ wr.drew
        go_wp2
        go_roundg (gk - 1)
        case measure => omega
        case rel => exact ⟨j + 1, by go_num, by omega, hnx, hbn.drew⟩
      · obtain rfl : j = len3 := by omega
        have hdec : decide ((j : Int) < (j : Int)) = false := decide_eq_false (by omega)
        rw [show j = l1.length from e1.symm] at hoM
        rw [mid_full l1 l2 l3 (by omega) (by omega)] at hoM
        have hlen := turn3_length l1 l2 l3 (by omega) (by omega)
        have f1 := h1.below hb (Nat.le_refl _)
        have f2 := h2.below hb (Nat.le_refl _)
        have f3 := h3.below hb (Nat.le_refl _)
        obtain ⟨A, cap, e, f4, _⟩ := lies_of_owns hoM
        rw [hlen, e1] at e f4
        injection e with ea eb ec
        subst ea ec
        have hX := moreN_xor3 l1 l2 l3 (by omega) (by omega)
        have k1 := moreN_lt 0 l1 (by decide)
        have k2 := moreN_lt 0 l2 (by decide)
        have k3 := moreN_lt 0 l3 (by decide)
        have c1 := of_any A4 _ cap4 _ wr f4 hlm1
        have c2 := of_any A1 _ cap1 _ wr f1 hlm1
        have c3 := of_any A2 _ cap2 _ wr f2 hlm1
        have c4 := of_any A3 _ cap3 _ wr f3 hlm1
        have x1 := u32_xor_nat _ _ k1 k2
        have x2 := u32_xor_nat _ _ (xor_lt _ _ k1 k2) k3
        rw [hX] at c1
        generalize moreN 0 l1 = p at c1 c2 x1 x2 k1 k2
        generalize moreN 0 l2 = q at c1 c3 x1 x2 k1 k2
        generalize moreN 0 l3 = r at c1 c4 x2 k3
        clear hoM f1 f2 f3 f4 hX hlen
        go_wp2_with fail
        refine c1.mono ?_; rintro e w' ⟨rfl, rfl⟩
        go_wp2_with fail
        refine c2.mono ?_; rintro e w' ⟨rfl, rfl⟩
        go_wp2_with fail
        refine c3.mono ?_; rintro e w' ⟨rfl, rfl⟩
        go_wp2_with fail
        refine c4.mono ?_; rintro e w' ⟨rfl, rfl⟩
        go_wp2_with fail
        go_ret
        exact ⟨rfl, hb⟩
  · by_cases hs : len1 ≤ 3000
    · have hs' : ¬ ((3000 : Int) < (len1 : Int)) := by omega
      by_cases hq2 : len2 = len1
      · obtain rfl := hq2
        have hn : len3 ≠ len2 := fun h => hok ⟨hs, rfl, h⟩
        have hn1 : ((len3 : Int) != (len2 : Int)) = true := by simp; omega
        go_enter Try.func6, Try.ntmps6
        go_wp2_with fail
        refine (awake_any _).mono ?_
        rintro e w1 ⟨rfl, hb1⟩
        go_wp2_with fail
        refine (awake_any _).mono ?_
        rintro e w2 ⟨rfl, hb2⟩
        go_wp2
        go_ret
        exact ⟨rfl, hb1.trans (hb2.mono hb1.size)⟩
      · have hn1 : ((len2 : Int) != (len1 : Int)) = true := by simp; omega
        go_enter Try.func6, Try.ntmps6
        go_wp2_with fail
        refine (awake_any _).mono ?_
        rintro e w1 ⟨rfl, hb1⟩
        go_wp2_with fail
        refine (awake_any _).mono ?_
        rintro e w2 ⟨rfl, hb2⟩
        go_wp2
        go_ret
        exact ⟨rfl, hb1.trans (hb2.mono hb1.size)⟩
    · have hs' : ((3000 : Int) < (len1 : Int)) := by omega
      go_enter Try.func6, Try.ntmps6
      go_wp2_with fail
      refine (awake_any _).mono ?_
      rintro e w1 ⟨rfl, hb1⟩
      go_wp2_with fail
      refine (awake_any _).mono ?_
      rintro e w2 ⟨rfl, hb2⟩
      go_wp2
      go_ret
      exact ⟨rfl, hb1.trans (hb2.mono hb1.size)⟩

theorem own : ownKnob Try.prog.godebug = none := by kernel_rfl

set_option maxRecDepth 100000 in
theorem lifted (os : Os) (started : os.Started) (H : Type) (enc : TypeId × Value → H) :
    ReturnsInHanded {} Try.checked os 6 .any (Rows.sumTurnsSpec.pre6 enc Try.prog Try.f6 Rows.sumTurnsRow.domain false) (Rows.sumTurnsSpec.post enc Try.prog Try.f6 false true false false) := by
  refine returnsInHanded_of_change (C := Try.checked) own started (by kernel_rfl) Try.func6
    (ChangeSpec.witness6 (enc := enc) (C := Try.checked) false ⟨#[], #[.slice none 0 0, .slice none 0 0, .slice none 0 0], []⟩ 8 (by kernel_rfl) (by kernel_rfl) (by kernel_rfl) (by kernel_rfl)) ?_
  intro W base args ds gs before hval0 hW hcnd _
  have hval : ∀ (j : Nat) t v, Try.f6.params[j]? = some t → args[j]? = some v → Value.okWide Try.prog W .any base t v := hval0
  have hW' := hW
  obtain ⟨p, q, hA0, hV, rfl, hfz, hnd⟩ := hW
  have hA : DataW.TrodAll enc Try.prog W 0 (fun _ => true) true Try.f6.params.toList args.toList ds p := hA0
  rw [Try.params6] at hA hval
  obtain ⟨v0, vs0, d0, ds0, p0, q0, hargs, rfl, rfl, h0, r0⟩ := trodAll_cons hA
  obtain ⟨v1, vs1, d1, ds1, p1, q1, rfl, rfl, rfl, h1, r1⟩ := trodAll_cons r0
  obtain ⟨v2, vs2, d2, ds2, p2, q2, rfl, rfl, rfl, h2, r2⟩ := trodAll_cons r1
  obtain ⟨rfl, rfl, rfl⟩ := trodAll_nil r2
  obtain rfl : args = #[v0, v1, v2] := by cases args; simp_all
  obtain ⟨rfl, rfl⟩ := trodVars_none hV
  obtain ⟨A0, len0, cap0, L0, rfl, hlc0, hm0, hbl0⟩ := arg_bytes (hval 0 22 v0 rfl rfl) h0 (fun x hx => hW'.lt x (by simp [hx]))
  obtain ⟨A1, len1, cap1, L1, rfl, hlc1, hm1, hbl1⟩ := arg_bytes (hval 1 22 v1 rfl rfl) h1 (fun x hx => hW'.lt x (by simp [hx]))
  obtain ⟨A2, len2, cap2, L2, rfl, hlc2, hm2, hbl2⟩ := arg_bytes (hval 2 22 v2 rfl rfl) h2 (fun x hx => hW'.lt x (by simp [hx]))
  have fin : ∀ W', Below W.heap.size W W' → Rows.sumTurnsSpec.post enc Try.prog Try.f6 false true false false W #[.slice A0 len0 cap0, .slice A1 len1 cap1, .slice A2 len2 cap2] (.bool true) W' :=
    fun W' hb => law_end (by kernel_rfl) (by decide +kernel) rfl rfl Try.underlying4 hW' rfl rfl rfl hb
  exact (walk A0 len0 cap0 L0 A1 len1 cap1 L1 A2 len2 cap2 L2 W ⟨hbl0.1, hlc0, hbl0.2⟩ hm0 ⟨hbl1.1, hlc1, hbl1.2⟩ hm1 ⟨hbl2.1, hlc2, hbl2.2⟩ hm2).mono fun e W' ⟨he, hb⟩ => ⟨_, he, fin W' hb⟩

theorem over : Rows.sumTurnsRow.holds Try.pinned (OpenSpec.ofChange Rows.sumTurnsSpec) :=
  OpenClaim.holds_of_wide 6 Try.f6 rfl rfl rfl rfl rfl rfl rfl ⟨rfl, rfl, rfl, rfl, rfl⟩ rfl rfl rfl rfl rfl (by kernel_rfl) Try.func6 (by kernel_rfl)
    (of_decide_eq_true (by kernel_rfl)) (by unfold Func.isWrapper; first | (rw [if_pos (by decide +kernel)]; kernel_rfl) | (rw [if_neg (by decide +kernel)]; exact ⟨rfl, rfl⟩))
    (fun os started H enc _ => lifted os started H enc)

theorem proved : Rows.SumTurnsSaid := over


end Go.Proofs.Ytapfbgenioablaa.sumTurns
