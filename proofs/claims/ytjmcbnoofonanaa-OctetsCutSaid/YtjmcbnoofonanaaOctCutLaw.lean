/- OctetsCut: of a text's bytes that are cut off anywhere, and of a text longer than it may be, nothing is taken. For every input. -/
import Derived.Test.YtjmcbnoofonanaaOctAwake
import Derived.Test.YtjmcbnoofonanaaOctMath
import Derived.Test.YtjmcbnoofonanaaLawEnd
import Derived.Test.YtjmcbnoofonanaaArgs
import Derived.ChangeMaps5
import Derived.Deep.LoopGhost
import Derived.BigQuiet
namespace Go.Proofs.Ytjmcbnoofonanaa.octetsCut
open Go.ChangeShapes Go.WideShapes Go.ChangeAt Go.RowKit Go.Proofs.Ytjmcbnoofonanaa
set_option linter.unusedVariables false
set_option linter.unusedSimpArgs false

set_option maxRecDepth 100000 in
set_option maxHeartbeats 6400000 in
theorem walk (s : ByteArray) (a1 a2 : Int) (w : World) (w1 : (Lit.int .u16 a1).wf = true) (w2 : (Lit.int .u16 a2).wf = true) :
    Calls Try.prog 6 #[.string s, .int .u16 a1, .int .u16 a2] w fun e w' => e = .returned (.bool true) ∧ Below w.heap.size w w' := by
  by_cases hl : s.size ≤ 3000
  · have hl' : ¬ ((3000 : Int) < (s.size : Int)) := by omega
    have lb : (s.size : Int) ≤ 3000 := by omega
    have r1 : 0 ≤ a1 ∧ a1 ≤ 65535 := by simpa [Lit.wf, IntKind.min, IntKind.max, IntKind.bits, IntKind.signed] using w1
    have r2 : 0 ≤ a2 ∧ a2 ≤ 65535 := by simpa [Lit.wf, IntKind.min, IntKind.max, IntKind.bits, IntKind.signed] using w2
    obtain ⟨c1, rfl⟩ := Int.eq_ofNat_of_zero_le r1.1
    obtain ⟨c2, rfl⟩ := Int.eq_ofNat_of_zero_le r2.1
    clear w1 w2
    have hsz : s.data.toList.length = s.size := by simp
    have hL : (textOf s.data.toList).length = s.size + 4 := by simp [textOf]; omega
    obtain ⟨n, hn⟩ := Int.eq_ofNat_of_zero_le (show 0 ≤ (c1 : Int) % ((s.size : Int) + 4) from Int.emod_nonneg _ (by omega))
    have hn4 : n < s.size + 4 := by have := Int.emod_lt_of_pos (c1 : Int) (show (0 : Int) < (s.size : Int) + 4 by omega); omega
    have hx := textN_short s.data.toList n (by omega) (by omega)
    have hy := textN_less s.data.toList [] ((s.size : Int) - 1 - (c2 : Int)) (by omega) (by omega)
    rw [hsz] at hx
    rw [List.append_nil] at hy
    go_enter Try.func6, Try.ntmps6
    go_wp2_with (go_at_call 8; refine (awake_any _).mono ?_; rintro e w1 ⟨rfl, hb1⟩)
    have ho0 := out_new w1 (· < w.heap.size) (fun k hk => Nat.lt_of_lt_of_le hk hb1.size)
    have hb2 := hb1.alloc hb1.size (.cells #[.slice none 0 0, .bool false] 26)
    generalize hW : w1.alloc (.cells #[.slice none 0 0, .bool false] 26) = W at ho0 hb2 ⊢
    have hs1 := hb1.size
    generalize w1.heap.size = o at ho0 hs1 ⊢
    clear hW hb1
    have hT := text_any s (by omega) W o [] (· < w.heap.size) ho0 (fun k hk => Nat.lt_of_lt_of_le hk hb2.size)
    rw [List.nil_append] at hT
    clear ho0
    go_wp2_with (first
      | (go_at_call 23; refine hT.mono ?_; rintro e w3 ⟨rfl, h3, k3⟩; have hb3 := below_keeps hb2 k3 (fun i hi => hi) hb2.size; clear k3 hT)
      | (go_at_call 11; refine (end_fits _ _ _ _ h3 (by omega)).mono ?_; rintro e w4 ⟨A, cap, rfl, hl4, _, hb4⟩; replace hb4 := hb3.trans (hb4.mono hb3.size); rw [hL] at hl4 ⊢; clear hb3 h3; have hcap := hl4.2.1; have s1 := run_front Try.underlying24 sizeOf_u8 A (s.size + 4) cap n (by omega))
      | (go_at_call_of 12 (Value.slice A n cap); refine (newIn_any A n cap ((textOf s.data.toList).take n) _ (· < w4.heap.size) (fun k hk => hk) (hl4.take n (by omega)) (by simp; omega)).mono ?_; rintro e w5 ⟨i, rfl, h5, hb5⟩)
      | (go_at_call_of 21 (Value.pointer (some ⟨i, 0, none⟩)); refine (textIn_any (s.size : Int) (by omega) _ i _ _ h5 (by simp [left]; omega)).mono ?_; rw [hx]; rintro e w6 ⟨rfl, h6, k6⟩; have k46 : Keeps (· < w4.heap.size) w4 w6 := (keeps_below hb5 (Nat.le_refl _)).trans k6; have hl6 := hl4.keeps k46 (fun h0 g off e => by obtain ⟨g', off', e', hg, _⟩ := hl4.2.2.2 h0; rw [e] at e'; injection e' with e'; injection e' with e1 _ _; subst e1; exact hg))
      | (go_at_call 12; refine (newIn_any A (s.size + 4) cap (textOf s.data.toList) _ (· < w6.heap.size) (fun k hk => hk) hl6 (by omega)).mono ?_; rintro e w7 ⟨j, rfl, h7, hb7⟩)
      | (go_at_call_of 21 (Value.pointer (some ⟨j, 0, none⟩)); refine (textIn_any ((s.size : Int) - 1 - (c2 : Int)) (by omega) _ j _ _ h7 (by simp [left]; omega)).mono ?_; rw [hy]; rintro e w8 ⟨rfl, h8, k8⟩; have k68 : Keeps (· < w6.heap.size) w6 w8 := (keeps_below hb7 (Nat.le_refl _)).trans k8; have hi8 := h6.keeps k68 (fun k hk => hk))
      | (go_at_call_of 14 (Value.pointer (some ⟨i, 0, none⟩)); refine (bad_any _ _ _ _ hi8).mono ?_; rintro e w9 ⟨rfl, rfl⟩)
      | (go_at_call_of 14 (Value.pointer (some ⟨j, 0, none⟩)); refine (bad_any _ _ _ _ h8).mono ?_; rintro e w9 ⟨rfl, rfl⟩)
      | (go_at_call_of 15 (Value.pointer (some ⟨j, 0, none⟩)); refine (left_any _ _ _ _ h8).mono ?_; rintro e w9 ⟨rfl, rfl⟩))
    go_ret
    exact ⟨rfl, below_keeps (below_keeps hb4 k46 (fun i hi => Nat.lt_of_lt_of_le hi hb4.size) hb4.size) k68 (fun i hi => Nat.lt_of_lt_of_le hi (Nat.le_trans hb4.size k46.size)) (Nat.le_trans hb4.size k46.size)⟩
  · have hl' : ((3000 : Int) < (s.size : Int)) := by omega
    go_enter Try.func6, Try.ntmps6
    go_wp2_with fail
    refine (awake_any _).mono ?_
    rintro e w1 ⟨rfl, hb1⟩
    go_wp2_with fail
    refine (awake_any _).mono ?_
    rintro e w2 ⟨rfl, hb2⟩
    go_wp2
    go_ret
    exact ⟨rfl, hb1.trans (hb2.mono hb1.size)⟩

theorem own : ownKnob Try.prog.godebug = none := by kernel_rfl

set_option maxRecDepth 100000 in
theorem lifted (os : Os) (started : os.Started) (H : Type) (enc : TypeId × Value → H) :
    ReturnsInHanded {} Try.checked os 6 .any (Rows.octetsCutSpec.pre6 enc Try.prog Try.f6 Rows.octetsCutRow.domain false) (Rows.octetsCutSpec.post enc Try.prog Try.f6 false true false false) := by
  refine returnsInHanded_of_change (C := Try.checked) own started (by kernel_rfl) Try.func6
    (ChangeSpec.witness6 (enc := enc) (C := Try.checked) false ⟨#[], #[.string ⟨#[]⟩, .int .u16 0, .int .u16 0], []⟩ 8 (by kernel_rfl) (by kernel_rfl) (by kernel_rfl) (by kernel_rfl)) ?_
  intro W base args ds gs before hval0 hW hcnd _
  have hval : ∀ (j : Nat) t v, Try.f6.params[j]? = some t → args[j]? = some v → Value.okWide Try.prog W .any base t v := hval0
  have hW' := hW
  obtain ⟨p, q, hA0, hV, rfl, hfz, hnd⟩ := hW
  have hA : DataW.TrodAll enc Try.prog W 0 (fun _ => true) true Try.f6.params.toList args.toList ds p := hA0
  rw [Try.params6] at hA hval
  obtain ⟨v0, vs0, d0, ds0, p0, q0, hargs, rfl, rfl, h0, r0⟩ := trodAll_cons hA
  obtain ⟨v1, vs1, d1, ds1, p1, q1, rfl, rfl, rfl, h1, r1⟩ := trodAll_cons r0
  obtain ⟨v2, vs2, d2, ds2, p2, q2, rfl, rfl, rfl, h2, r2⟩ := trodAll_cons r1
  obtain ⟨rfl, rfl, rfl⟩ := trodAll_nil r2
  obtain rfl : args = #[v0, v1, v2] := by cases args; simp_all
  obtain ⟨rfl, rfl⟩ := trodVars_none hV
  obtain ⟨s0, rfl, rfl, rfl, ws0⟩ := ChangeMaps.open_string Try.underlying9 (hval 0 9 v0 rfl rfl) h0
  obtain ⟨a1, rfl, rfl, rfl, w1⟩ := open_int Try.underlying51 (hval 1 51 v1 rfl rfl) h1
  obtain ⟨a2, rfl, rfl, rfl, w2⟩ := open_int Try.underlying51 (hval 2 51 v2 rfl rfl) h2
  have fin : ∀ W', Below W.heap.size W W' → Rows.octetsCutSpec.post enc Try.prog Try.f6 false true false false W #[.string s0, .int .u16 a1, .int .u16 a2] (.bool true) W' :=
    fun W' hb => law_end (by kernel_rfl) (by decide +kernel) rfl rfl Try.underlying4 hW' rfl rfl rfl hb
  exact (walk s0 a1 a2 W w1 w2).mono fun e W' ⟨he, hb⟩ => ⟨_, he, fin W' hb⟩

theorem over : Rows.octetsCutRow.holds Try.pinned (OpenSpec.ofChange Rows.octetsCutSpec) :=
  OpenClaim.holds_of_wide 6 Try.f6 rfl rfl rfl rfl rfl rfl rfl ⟨rfl, rfl, rfl, rfl, rfl⟩ rfl rfl rfl rfl rfl (by kernel_rfl) Try.func6 (by kernel_rfl)
    (of_decide_eq_true (by kernel_rfl)) (by unfold Func.isWrapper; first | (rw [if_pos (by decide +kernel)]; kernel_rfl) | (rw [if_neg (by decide +kernel)]; exact ⟨rfl, rfl⟩))
    (fun os started H enc _ => lifted os started H enc)

theorem proved : Rows.OctetsCutSaid := over


end Go.Proofs.Ytjmcbnoofonanaa.octetsCut
