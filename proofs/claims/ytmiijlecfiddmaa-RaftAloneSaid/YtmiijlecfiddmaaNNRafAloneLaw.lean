/- RaftAlone: one of one leads behind six ticks; what is put into its log then is committed at once, in order; a reading is told at once. For every input. -/
import Derived.Test.YtmiijlecfiddmaaNNM29
import Derived.Test.YtmiijlecfiddmaaNNM30
set_option linter.unusedVariables false
set_option linter.unusedSimpArgs false
set_option maxRecDepth 100000
set_option maxHeartbeats 200000
namespace Go.Proofs.Ytmiijlecfiddmaa.raftAlone
open Go.ChangeShapes Go.WideShapes Go.ChangeAt Go.RowKit Go.Proofs.Ytmiijlecfiddmaa
theorem own : ownKnob Try.prog.godebug = none := by kernel_rfl
theorem lifted (os : Os) (started : os.Started) (H : Type) (enc : TypeId × Value -> H) :
 ReturnsInHanded {} Try.checked os 3 .any (Rows.raftAloneSpec.pre6 enc Try.prog Try.f3 Rows.raftAloneRow.domain false) (Rows.raftAloneSpec.post enc Try.prog Try.f3 false true false false) := by
 refine returnsInHanded_of_change (C := Try.checked) own started (by kernel_rfl) Try.func3
  (ChangeSpec.witness6 (enc := enc) (C := Try.checked) false ⟨#[],#[.agg #[.int .i64 0, .int .i64 0], .agg #[.int .i64 0, .int .i64 0, .slice none 0 0], .slice none 0 0, .slice none 0 0],[]⟩ 8 (by kernel_rfl) (by kernel_rfl) (by kernel_rfl) (by kernel_rfl)) ?_
 intro W base args ds gs before hval0 hW hcnd _
 have hval : ∀ (j : Nat) t v,Try.f3.params[j]? = some t -> args[j]? = some v -> Value.okWide Try.prog W .any base t v := hval0
 have hW' := hW
 obtain ⟨p,q,hA0,hV,rfl,hfz,hnd⟩ := hW
 have hA : DataW.TrodAll enc Try.prog W 0 (fun _ => true) true Try.f3.params.toList args.toList ds p := hA0
 rw [Try.params3] at hA hval
 obtain ⟨v0,vs0,d0,ds0,p0,q0,hargs,rfl,rfl,h0,r0⟩ := trodAll_cons hA
 obtain ⟨v1,vs1,d1,ds1,p1,q1,rfl,rfl,rfl,h1,r1⟩ := trodAll_cons r0
 obtain ⟨v2,vs2,d2,ds2,p2,q2,rfl,rfl,rfl,h2,r2⟩ := trodAll_cons r1
 obtain ⟨v3,vs3,d3,ds3,p3,q3,rfl,rfl,rfl,h3,r3⟩ := trodAll_cons r2
 obtain ⟨rfl,rfl,rfl⟩ := trodAll_nil r3
 obtain rfl : args = #[v0,v1,v2,v3] := by cases args; simp_all
 obtain ⟨rfl,rfl⟩ := trodVars_none hV
 obtain ⟨x0,y0,rfl⟩ := arg_hard (hval 0 23 v0 rfl rfl) h0
 obtain ⟨i1,t1,A1,n1,c1,l1,rfl,hm1,hl1,hz1⟩ := arg_ent Try.underlying26 (by kernel_rfl) (by kernel_rfl) rfl rfl rfl (hval 1 26 v1 rfl rfl) h1 (fun x hx => hW'.lt x (by simp [hx]))
 obtain ⟨A2,len2,cap2,ls2,rfl,hm2,hents2,hw2⟩ := arg_ents (hval 2 27 v2 rfl rfl) h2 (fun x hx => hW'.lt x (by simp [hx]))
 obtain ⟨A3,len3,cap3,ls3,rfl,hm3,hrec3⟩ := arg_recs (hval 3 28 v3 rfl rfl) h3 (fun x hx => hW'.lt x (by simp [hx]))
 have fin : ∀ W',Below W.heap.size W W' -> Rows.raftAloneSpec.post enc Try.prog Try.f3 false true false false W #[.agg #[.int .i64 x0, .int .i64 y0], .agg #[.int .i64 i1, .int .i64 t1, .slice A1 n1 c1], .slice A2 len2 cap2, .slice A3 len3 cap3] (.bool true) W' :=
  fun W' hb => law_end (by kernel_rfl) (by decide +kernel) rfl rfl Try.underlying4 hW' rfl rfl rfl hb
 obtain rfl : l1.length = n1 := hl1.1
 obtain rfl : ls2.length = len2 := hents2.1
 exact (raftAlone.walkAlone x0 y0 i1 t1 A1 c1 l1 A2 cap2 ls2 A3 cap3 len3 ls3 W hl1 hz1 hents2 hm2 hrec3 hm3 hm1).mono fun e W' ⟨he,hb⟩ => ⟨_,he,fin W' hb⟩
theorem over : Rows.raftAloneRow.holds Try.pinned (OpenSpec.ofChange Rows.raftAloneSpec) :=
 OpenClaim.holds_of_wide 3 Try.f3 rfl rfl rfl rfl rfl rfl rfl ⟨rfl,rfl,rfl,rfl,rfl⟩ rfl rfl rfl rfl rfl (by kernel_rfl) Try.func3 (by kernel_rfl)
  (of_decide_eq_true (by kernel_rfl)) (by unfold Func.isWrapper; first | (rw [if_pos (by decide +kernel)]; kernel_rfl) | (rw [if_neg (by decide +kernel)]; exact ⟨rfl,rfl⟩))
  (fun os started H enc _ => lifted os started H enc)
theorem proved : Rows.RaftAloneSaid := over
end Go.Proofs.Ytmiijlecfiddmaa.raftAlone
