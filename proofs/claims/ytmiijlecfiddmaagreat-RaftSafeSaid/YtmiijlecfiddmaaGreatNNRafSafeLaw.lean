/- RaftSafe: in a cluster in which each node keeps what it has come to ahead of saying it no two lead one term, what is committed is never another one, a snap is of what was committed, a reading is of all that was committed when it was asked for. For every input. -/
import Derived.Test.YtmiijlecfiddmaaGreatNNM46
set_option linter.unusedVariables false
set_option linter.unusedSimpArgs false
set_option maxRecDepth 100000
set_option maxHeartbeats 200000
namespace Go.Proofs.YtmiijlecfiddmaaGreat.raftSafe
open Go.ChangeShapes Go.WideShapes Go.ChangeAt Go.RowKit Go.Proofs.YtmiijlecfiddmaaGreat
theorem own : ownKnob Tryz.prog.godebug = none := by kernel_rfl
theorem lifted (os : Os) (started : os.Started) (H : Type) (enc : TypeId × Value -> H) :
 ReturnsInHanded {} Tryz.checked os 4 .any (Rows.raftSafeSpec.pre6 enc Tryz.prog Tryz.f4 Rows.raftSafeRow.domain false) (Rows.raftSafeSpec.post enc Tryz.prog Tryz.f4 false true false false) := by
 refine returnsInHanded_of_change (C := Tryz.checked) own started (by kernel_rfl) Tryz.func4
  (ChangeSpec.witness6 (enc := enc) (C := Tryz.checked) false ⟨#[],#[.int .u8 0, .slice none 0 0],[]⟩ 8 (by kernel_rfl) (by kernel_rfl) (by kernel_rfl) (by kernel_rfl)) ?_
 intro W base args ds gs before hval0 hW hcnd _;have hval : ∀ (j : Nat) t v,Tryz.f4.params[j]? = some t -> args[j]? = some v -> Value.okWide Tryz.prog W .any base t v := hval0;have hW' := hW;obtain ⟨p,q,hA0,hV,rfl,hfz,hnd⟩ := hW;have hA : DataW.TrodAll enc Tryz.prog W 0 (fun _ => true) true Tryz.f4.params.toList args.toList ds p := hA0;rw [Tryz.params4] at hA hval;obtain ⟨v0,vs0,d0,ds0,p0,q0,hargs,rfl,rfl,h0,r0⟩ := trodAll_cons hA;obtain ⟨v1,vs1,d1,ds1,p1,q1,rfl,rfl,rfl,h1,r1⟩ := trodAll_cons r0;obtain ⟨rfl,rfl,rfl⟩ := trodAll_nil r1
 obtain rfl : args = #[v0,v1] := by cases args; simp_all
 obtain ⟨rfl,rfl⟩ := trodVars_none hV;obtain ⟨a0,rfl,rfl,rfl,w0⟩ := open_int Tryz.underlying5 (hval 0 5 v0 rfl rfl) h0;obtain ⟨A1,len1,cap1,K1,rfl,hlc1,hcm1,hmv1,hok1⟩ := arg_moves (hval 1 57 v1 rfl rfl) h1 (fun x hx => hW'.lt x (by simp [hx]))
 have fin : ∀ W',Below W.heap.size W W' -> Rows.raftSafeSpec.post enc Tryz.prog Tryz.f4 false true false false W #[.int .u8 a0, .slice A1 len1 cap1] (.bool true) W' :=
  fun W' hb => law_end (by kernel_rfl) (by decide +kernel) rfl rfl Tryz.underlying4 hW' rfl rfl rfl hb
 exact (raftSafe.walkSafe a0 A1 len1 cap1 K1 W (qct w0) hlc1 hcm1 hmv1 hok1).mono fun e W' ⟨he,hb⟩ => ⟨_,he,fin W' hb⟩
theorem over : Rows.raftSafeRow.holds Tryz.pinned (OpenSpec.ofChange Rows.raftSafeSpec) :=
 OpenClaim.holds_of_wide 4 Tryz.f4 rfl rfl rfl rfl rfl rfl rfl ⟨rfl,rfl,rfl,rfl,rfl⟩ rfl rfl rfl rfl rfl (by kernel_rfl) Tryz.func4 (by kernel_rfl)
  (of_decide_eq_true (by kernel_rfl)) (by unfold Func.isWrapper; first | (rw [if_pos (by decide +kernel)]; kernel_rfl) | (rw [if_neg (by decide +kernel)]; exact ⟨rfl,rfl⟩))
  (fun os started H enc _ => lifted os started H enc)
theorem proved : Rows.RaftSafeSaid := over
end Go.Proofs.YtmiijlecfiddmaaGreat.raftSafe
