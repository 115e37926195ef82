/- SumMore: a sum goes on from whatever it was, as the document says; the sum of a text, gone on with another one, is that of both. For every input. -/
import Derived.Test.YtapfbgenioablaaSumAwake
import Derived.Test.YtapfbgenioablaaLawEnd
import Derived.ChangeMaps5
import Derived.BigQuiet
namespace Go.Proofs.Ytapfbgenioablaa.sumMore
open Go.ChangeShapes Go.WideShapes Go.ChangeAt Go.RowKit Go.Proofs.Ytapfbgenioablaa
set_option linter.unusedVariables false
set_option linter.unusedSimpArgs false

theorem made (w : World) : Owns 5 (w.alloc (.cells #[] 5)) w.heap.size (.slice (some ⟨w.heap.size, 0, none⟩) 0 0) [] := World.ownsRow_made _ #[] 0 (Nat.le_refl _) (Nat.zero_le _) rfl

set_option maxRecDepth 100000 in
set_option maxHeartbeats 3200000 in
theorem walk (a0 : Int) (A1 : Option Addr) (len1 cap1 : Nat) (l1 : List UInt8) (A2 : Option Addr) (len2 cap2 : Nat) (l2 : List UInt8) (w : World) (w0 : (Lit.int .u32 a0).wf = true) (h1 : Lies w A1 len1 cap1 l1) (hm1 : cap1 ≤ maxLen) (h2 : Lies w A2 len2 cap2 l2) (hm2 : cap2 ≤ maxLen) :
    Calls Try.prog 4 #[.int .u32 a0, .slice A1 len1 cap1, .slice A2 len2 cap2] w fun e w' => e = .returned (.bool true) ∧ Below w.heap.size w w' := by
  have hlm1 : len1 ≤ maxLen := Nat.le_trans h1.2.1 hm1
  have hlm2 : len2 ≤ maxLen := Nat.le_trans h2.2.1 hm2
  have r0 : 0 ≤ a0 ∧ a0 ≤ 4294967295 := by simpa [Lit.wf, IntKind.min, IntKind.max, IntKind.bits, IntKind.signed] using w0
  obtain ⟨s, rfl⟩ := Int.eq_ofNat_of_zero_le r0.1
  have hs : s < 4294967296 := by omega
  clear hm1 hm2 w0 r0
  by_cases hs1 : len1 ≤ 50000
  · have hs1' : ¬ ((50000 : Int) < (len1 : Int)) := by omega
    by_cases hs2 : len2 ≤ 50000
    · have hs2' : ¬ ((50000 : Int) < (len2 : Int)) := by omega
      obtain ⟨i0, hi0, hz0, hz1, hz2⟩ := info_parts info_u8
      have e1 := h1.1
      have e2 := h2.1
      go_enter Try.func4, Try.ntmps4
      go_wp2_with fail
      refine (awake_any _).mono ?_
      rintro e w1 ⟨rfl, hb1⟩
      have hs1 := hb1.size
      have hw1 := made w1
      have hb2 : Below w.heap.size w (w1.alloc (.cells #[] 5)) := hb1.alloc hs1 _
      have hsz : w1.heap.size ≤ (w1.alloc (.cells #[] 5)).heap.size := by simp
      have f1 := h1.below hb2 (Nat.le_refl _)
      go_wp2_with (first
        | (at_builtin; refine wpList_append_bytes _ rfl (.tmp 21) (.tmp 22) 22 rfl 5 i0 Try.underlying22 hi0 hz0 hz1 hz2 w1.heap.size hsz (.slice (some ⟨w1.heap.size, 0, none⟩) 0 0) [] rfl hw1 A1 len1 cap1 l1 rfl f1 (by simp; omega) ?_
           intro v2 w2 ho2 hg2 _
           have hb3 := hb2.grown hg2 hb2.size (fun k e => by injection e with e; have e' : w1.heap.size = k := e; omega)
           have hsz2 : w1.heap.size ≤ w2.heap.size := Nat.le_trans hsz hg2.size
           have f2 := h2.below hb3 (Nat.le_refl _))
        | (at_builtin; refine wpList_append_bytes _ rfl (.tmp 23) (.tmp 24) 22 rfl 5 i0 Try.underlying22 hi0 hz0 hz1 hz2 w1.heap.size hsz2 v2 l1 rfl ho2 A2 len2 cap2 l2 rfl f2 (by simp; omega) ?_
           intro v3 w3 ho3 hg3 _
           have hb4 := hb3.grown hg3 hb3.size (fun k e => Nat.le_trans hs1 (ho2.lt k e).1)
           have f1 := h1.below hb4 (Nat.le_refl _)
           have f2 := h2.below hb4 (Nat.le_refl _)
           obtain ⟨A3, cap3, rfl, f3, _⟩ := lies_of_owns ho3)
        | fail)
      have hlm3 : (l1 ++ l2).length ≤ maxLen := by unfold maxLen; simp; omega
      clear hw1 hg3 hb3 hsz2 ho2 ho3 h1 h2 hi0 hz0 hz1 hz2
      have k1 := moreN_lt s l1 hs
      have k2 := moreN_lt 0 l1 (by decide)
      have m1 := moreN_append s l1 l2
      have m2 := moreN_append 0 l1 l2
      have c1 := more_any s A1 len1 cap1 l1 w3 hs f1 hlm1
      have c2 := moreR_any s A1 len1 cap1 l1 w3 hs f1 hlm1
      have c3 := of_any A1 len1 cap1 l1 w3 f1 hlm1
      have c4 := more_any (moreN 0 l1) A2 len2 cap2 l2 w3 k2 f2 hlm2
      have c5 := of_any A3 _ cap3 _ w3 f3 hlm3
      have c6 := more_any (moreN s l1) A2 len2 cap2 l2 w3 k1 f2 hlm2
      have c7 := more_any s A3 _ cap3 _ w3 hs f3 hlm3
      rw [m2] at c4
      rw [m1] at c6
      clear m1 m2 f1 f2 f3
      generalize moreN s (l1 ++ l2) = x at c6 c7
      generalize moreN 0 (l1 ++ l2) = y at c4 c5
      generalize moreN s l1 = p at c1 c2 c6 k1
      generalize moreN 0 l1 = q at c3 c4 k2
      have e3 : (l1 ++ l2).length = len1 + len2 := by simp [e1, e2]
      rw [e3] at c5 c7
      clear e1 e2 e3 hlm3
      go_wp2_with fail
      refine c1.mono ?_; rintro e w' ⟨rfl, rfl⟩
      go_wp2_with fail
      refine c2.mono ?_; rintro e w' ⟨rfl, rfl⟩
      go_wp2_with fail
      refine c3.mono ?_; rintro e w' ⟨rfl, rfl⟩
      go_wp2_with fail
      refine c4.mono ?_; rintro e w' ⟨rfl, rfl⟩
      go_wp2_with fail
      refine c5.mono ?_; rintro e w' ⟨rfl, rfl⟩
      go_wp2_with fail
      refine c1.mono ?_; rintro e w' ⟨rfl, rfl⟩
      go_wp2_with fail
      refine c6.mono ?_; rintro e w' ⟨rfl, rfl⟩
      go_wp2_with fail
      refine c7.mono ?_; rintro e w' ⟨rfl, rfl⟩
      go_wp2_with fail
      go_ret
      exact ⟨rfl, hb4⟩
    · have hs2' : ((50000 : Int) < (len2 : Int)) := by omega
      go_enter Try.func4, Try.ntmps4
      go_wp2_with fail
      refine (awake_any _).mono ?_
      rintro e w1 ⟨rfl, hb1⟩
      go_wp2_with fail
      refine (awake_any _).mono ?_
      rintro e w2 ⟨rfl, hb2⟩
      go_wp2
      go_ret
      exact ⟨rfl, hb1.trans (hb2.mono hb1.size)⟩
  · have hs1' : ((50000 : Int) < (len1 : Int)) := by omega
    go_enter Try.func4, Try.ntmps4
    go_wp2_with fail
    refine (awake_any _).mono ?_
    rintro e w1 ⟨rfl, hb1⟩
    go_wp2_with fail
    refine (awake_any _).mono ?_
    rintro e w2 ⟨rfl, hb2⟩
    go_wp2
    go_ret
    exact ⟨rfl, hb1.trans (hb2.mono hb1.size)⟩

theorem own : ownKnob Try.prog.godebug = none := by kernel_rfl

set_option maxRecDepth 100000 in
theorem lifted (os : Os) (started : os.Started) (H : Type) (enc : TypeId × Value → H) :
    ReturnsInHanded {} Try.checked os 4 .any (Rows.sumMoreSpec.pre6 enc Try.prog Try.f4 Rows.sumMoreRow.domain false) (Rows.sumMoreSpec.post enc Try.prog Try.f4 false true false false) := by
  refine returnsInHanded_of_change (C := Try.checked) own started (by kernel_rfl) Try.func4
    (ChangeSpec.witness6 (enc := enc) (C := Try.checked) false ⟨#[], #[.int .u32 0, .slice none 0 0, .slice none 0 0], []⟩ 8 (by kernel_rfl) (by kernel_rfl) (by kernel_rfl) (by kernel_rfl)) ?_
  intro W base args ds gs before hval0 hW hcnd _
  have hval : ∀ (j : Nat) t v, Try.f4.params[j]? = some t → args[j]? = some v → Value.okWide Try.prog W .any base t v := hval0
  have hW' := hW
  obtain ⟨p, q, hA0, hV, rfl, hfz, hnd⟩ := hW
  have hA : DataW.TrodAll enc Try.prog W 0 (fun _ => true) true Try.f4.params.toList args.toList ds p := hA0
  rw [Try.params4] at hA hval
  obtain ⟨v0, vs0, d0, ds0, p0, q0, hargs, rfl, rfl, h0, r0⟩ := trodAll_cons hA
  obtain ⟨v1, vs1, d1, ds1, p1, q1, rfl, rfl, rfl, h1, r1⟩ := trodAll_cons r0
  obtain ⟨v2, vs2, d2, ds2, p2, q2, rfl, rfl, rfl, h2, r2⟩ := trodAll_cons r1
  obtain ⟨rfl, rfl, rfl⟩ := trodAll_nil r2
  obtain rfl : args = #[v0, v1, v2] := by cases args; simp_all
  obtain ⟨rfl, rfl⟩ := trodVars_none hV
  obtain ⟨a0, rfl, rfl, rfl, w0⟩ := open_int Try.underlying24 (hval 0 24 v0 rfl rfl) h0
  obtain ⟨A1, len1, cap1, L1, rfl, hlc1, hm1, hbl1⟩ := arg_bytes (hval 1 22 v1 rfl rfl) h1 (fun x hx => hW'.lt x (by simp [hx]))
  obtain ⟨A2, len2, cap2, L2, rfl, hlc2, hm2, hbl2⟩ := arg_bytes (hval 2 22 v2 rfl rfl) h2 (fun x hx => hW'.lt x (by simp [hx]))
  have fin : ∀ W', Below W.heap.size W W' → Rows.sumMoreSpec.post enc Try.prog Try.f4 false true false false W #[.int .u32 a0, .slice A1 len1 cap1, .slice A2 len2 cap2] (.bool true) W' :=
    fun W' hb => law_end (by kernel_rfl) (by decide +kernel) rfl rfl Try.underlying4 hW' rfl rfl rfl hb
  exact (walk a0 A1 len1 cap1 L1 A2 len2 cap2 L2 W w0 ⟨hbl1.1, hlc1, hbl1.2⟩ hm1 ⟨hbl2.1, hlc2, hbl2.2⟩ hm2).mono fun e W' ⟨he, hb⟩ => ⟨_, he, fin W' hb⟩

theorem over : Rows.sumMoreRow.holds Try.pinned (OpenSpec.ofChange Rows.sumMoreSpec) :=
  OpenClaim.holds_of_wide 4 Try.f4 rfl rfl rfl rfl rfl rfl rfl ⟨rfl, rfl, rfl, rfl, rfl⟩ rfl rfl rfl rfl rfl (by kernel_rfl) Try.func4 (by kernel_rfl)
    (of_decide_eq_true (by kernel_rfl)) (by unfold Func.isWrapper; first | (rw [if_pos (by decide +kernel)]; kernel_rfl) | (rw [if_neg (by decide +kernel)]; exact ⟨rfl, rfl⟩))
    (fun os started H enc _ => lifted os started H enc)

theorem proved : Rows.SumMoreSaid := over


end Go.Proofs.Ytapfbgenioablaa.sumMore
