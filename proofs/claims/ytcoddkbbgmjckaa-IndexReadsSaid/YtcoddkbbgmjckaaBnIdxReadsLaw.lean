/- IndexReads: at each revision a range, and what begins so, are what the document says. For every input. -/
import Derived.Test.YtcoddkbbgmjckaaBn27
import Derived.Test.YtcoddkbbgmjckaaBn18
import Derived.SizedLaws
import Derived.Test.YtcoddkbbgmjckaaBn46
import Derived.ChangeMaps5
import Derived.BigQuiet
namespace Go.Proofs.Ytcoddkbbgmjckaa
open Go.RowKit
set_option linter.unusedVariables false
set_option linter.unusedSimpArgs false
attribute [local go_sem] Oper.semAt_some

set_option maxRecDepth 100000 in
set_option maxHeartbeats 6400000 in
theorem indexReads_walk (S : Says) (A : Option Addr) (len cap : Nat) (K : Nat → Idx.IAct) (q : IAsk) (w : World) (hA : IActs w A len K) (hm : len ≤ maxLen) (hs : ∀ j, j < len → IActWf (K j)) (hq : IAskWf q) (hqs : q.a.size ≤ reachBytes ∧ q.e.size ≤ reachBytes ∧ q.p.size ≤ reachBytes) :
    Calls Try.prog 5 #[.slice A len cap, iaskV q] w fun e w' => e = .returned (.bool true) ∧ Below w.heap.size w w' := by
  dsimp only [iaskV]
  obtain ⟨W1, hW1⟩ : ∃ W1, w.alloc (.cells #[.string q.a, .string q.e, .string q.p, .int .i64 q.r, .int .i64 q.s, .int .i64 q.t, .int .i64 q.n, .int .i64 q.l] 47) = W1 := ⟨_, rfl⟩
  have HE := Lib.hid (show Below w.heap.size w W1 by rw [← hW1]; exact (Below.refl _ _).alloc (Nat.le_refl _) _)
  have RQ := Lib.hid (show W1.heap[w.heap.size]? = some (.cells #[.string q.a, .string q.e, .string q.p, .int .i64 q.r, .int .i64 q.s, .int .i64 q.t, .int .i64 q.n, .int .i64 q.l] 47) by rw [← hW1]; exact heap_alloc_new w _)
  have HV := Lib.hid (And.intro (hA.below HE.out) hs)
  have HW := Lib.hid hW1
  clear hA hs hW1
  have H0 := Lib.hid (show Below W1.heap.size W1 W1 from Below.refl _ _)
  go_enter Try.func5, Try.ntmps5
  go_upto_region 1 with fail
  rw [HW.out]
  clear HW
  have hC := awake15_any S W1
  go_wp2_with fail
  refine hC.mono ?_
  rintro e w1 ⟨rfl, hbq⟩
  replace H0 := Lib.hid (H0.out.trans (hbq.mono H0.out.size))
  replace RQ := Lib.hid ((hbq.block _ (hlt RQ.out)).trans RQ.out)
  clear hC hbq
  have hC := fewI_any A len cap K 60 w1 (HV.out.1.below H0.out) hm HV.out.2 (by omega)
  go_wp2_with fail
  refine hC.mono ?_
  rintro e w1' ⟨b0, rfl, hb40, rfl⟩
  clear hC
  cases b0 with
  | false =>
    have hC := awake15_any S w1
    go_wp2_with fail
    refine hC.mono ?_
    rintro e w2 ⟨rfl, hbq⟩
    replace H0 := Lib.hid (H0.out.trans (hbq.mono H0.out.size))
    replace RQ := Lib.hid ((hbq.block _ (hlt RQ.out)).trans RQ.out)
    clear hC hbq
    have hbz := HE.out.trans (H0.out.mono HE.out.size)
    obtain ⟨q0, q1, q2, q3, q4, q5, q6, q7⟩ := (row8 RQ.out).1
    go_wp2
    go_ret
    exact ⟨rfl, hbz⟩
  | true =>
    obtain ⟨h60, hsh⟩ := hb40 rfl
    have HS := Lib.hid hsh
    clear hb40 hsh
    obtain ⟨n1, y1⟩ : ∃ n1, IntKind.i64.wrap ((q.a.size : Int) + (q.e.size : Int)) = n1 := ⟨_, rfl⟩
    obtain ⟨n2, y2⟩ : ∃ n2, IntKind.i64.wrap (n1 + (q.p.size : Int)) = n2 := ⟨_, rfl⟩
    have HA5 := Lib.hid (show ¬ 500 < n2 → q.a.size ≤ 2000000 from fun h => by
      obtain ⟨r0, r1, r2⟩ := hqs
      unfold reachBytes at r0 r1 r2
      rw [IntWalk.i64_in _ (by omega)] at y1
      subst y1
      rw [IntWalk.i64_in _ (by omega)] at y2
      omega)
    by_cases hg : 500 < n2
    · have e5 : decide (500 < n2) = true := decide_eq_true hg
      clear hg
      have hC := fun W => awake15_any S W
      obtain ⟨q0, q1, q2, q3, q4, q5, q6, q7⟩ := (row8 RQ.out).1
      go_wp2_with fail
      refine (hC _).mono ?_
      rintro e w2 ⟨rfl, hbq⟩
      clear q0 q1 q2 q3 q4 q5 q6 q7
      replace H0 := Lib.hid (H0.out.trans (hbq.mono H0.out.size))
      replace RQ := Lib.hid ((hbq.block _ (hlt RQ.out)).trans RQ.out)
      clear hC hbq
      have hbz := HE.out.trans (H0.out.mono HE.out.size)
      obtain ⟨q0, q1, q2, q3, q4, q5, q6, q7⟩ := (row8 RQ.out).1
      go_wp2
      go_ret
      exact ⟨rfl, hbz⟩
    have e5 : decide (500 < n2) = false := decide_eq_false hg
    have HZ := Lib.hid (show q.a.size ≤ maxLen ∧ q.e.size ≤ maxLen ∧ q.p.size ≤ maxLen from ⟨hq.a, hq.e, hq.p⟩)
    have HA6 := Lib.hid (HA5.out hg)
    clear hg
    have hC := made15_any S A len cap K w1 (HV.out.1.below H0.out) (by omega) HS.out
    obtain ⟨q0, q1, q2, q3, q4, q5, q6, q7⟩ := (row8 RQ.out).1
    go_wp2_with fail
    refine hC.mono ?_
    rintro e w2 ⟨u, R, n, c, xs, rfl, hM, hbq⟩
    clear q0 q1 q2 q3 q4 q5 q6 q7
    replace H0 := Lib.hid (H0.out.trans (hbq.mono H0.out.size))
    replace RQ := Lib.hid ((hbq.block _ (hlt RQ.out)).trans RQ.out)
    have HI := Lib.hid hM
    clear hM
    clear hC hbq
    have HF := Lib.hid (runK_fit K (show len ≤ 100 by omega))
    obtain ⟨l, hl⟩ : ∃ l, runK K len = l := ⟨_, rfl⟩
    rw [hl] at HI HF
    clear hl
    obtain ⟨W3, hW⟩ : ∃ W, w2.alloc (.cells #[.pointer u] 32) = W := ⟨_, rfl⟩
    have hbq : Below w2.heap.size w2 W3 := by rw [← hW]; exact (Below.refl _ _).alloc (Nat.le_refl _) _
    have hrq : Box W3 w2.heap.size u := by rw [← hW]; exact heap_alloc_new _ _
    have HW := Lib.hid hW
    clear hW
    replace H0 := Lib.hid (H0.out.trans (hbq.mono H0.out.size))
    replace RQ := Lib.hid ((hbq.block _ (hlt RQ.out)).trans RQ.out)
    replace HI := Lib.hid (HI.out.below hbq)
    have HX := Lib.hid hrq
    clear hbq hrq
    go_upto_region 4 with fail
    rw [HW.out]
    clear HW
    have hC := S.at_ u l q.a q.e q.r q.n W3 HI.out.ix HF.out HZ.out.1 HZ.out.2.1
    obtain ⟨q0, q1, q2, q3, q4, q5, q6, q7⟩ := (row8 RQ.out).1
    have bHX := HX.out.cell
    go_wp2_with fail
    refine hC.mono ?_
    rintro e w4 ⟨R1, n1, c1, rfl, hO, hbq⟩
    clear q0 q1 q2 q3 q4 q5 q6 q7 bHX
    replace H0 := Lib.hid (H0.out.trans (hbq.mono H0.out.size))
    replace RQ := Lib.hid ((hbq.block _ (hlt RQ.out)).trans RQ.out)
    replace HX := Lib.hid (HX.out.below hbq)
    replace HI := Lib.hid (HI.out.below hbq)
    have HO1 := Lib.hid (show OwnI _ w4 R1 n1 c1 (Idx.atI l q.a q.e q.r q.n).1 from hO)
    clear hO
    clear hC hbq
    have hC := atR15_any R n c xs q.a q.e q.r q.n w4 (HI.out.g HF.out) HZ.out.1 HZ.out.2.1
    rw [HI.out.e] at hC
    obtain ⟨q0, q1, q2, q3, q4, q5, q6, q7⟩ := (row8 RQ.out).1
    have bHX := HX.out.cell
    go_wp2_with fail
    refine hC.mono ?_
    rintro e w5 ⟨R2, n2, c2, rfl, hO, hn, hbq⟩
    clear q0 q1 q2 q3 q4 q5 q6 q7 bHX
    replace H0 := Lib.hid (H0.out.trans (hbq.mono H0.out.size))
    replace RQ := Lib.hid ((hbq.block _ (hlt RQ.out)).trans RQ.out)
    replace HX := Lib.hid (HX.out.below hbq)
    replace HI := Lib.hid (HI.out.below hbq)
    replace HO1 := Lib.hid (HO1.out.next hbq)
    clear hn
    have HO2 := Lib.hid (show OwnI _ w5 R2 n2 c2 (Idx.atI l q.a q.e q.r q.n).1 from hO)
    clear hO
    clear hC hbq
    have hC := S.behind u l q.p q.a q.r q.n w5 HI.out.ix HF.out HZ.out.2.2 HA6.out
    obtain ⟨q0, q1, q2, q3, q4, q5, q6, q7⟩ := (row8 RQ.out).1
    have bHX := HX.out.cell
    go_wp2_with fail
    refine hC.mono ?_
    rintro e w6 ⟨R3, n3, c3, rfl, hO, hbq⟩
    clear q0 q1 q2 q3 q4 q5 q6 q7 bHX
    replace H0 := Lib.hid (H0.out.trans (hbq.mono H0.out.size))
    replace RQ := Lib.hid ((hbq.block _ (hlt RQ.out)).trans RQ.out)
    replace HX := Lib.hid (HX.out.below hbq)
    replace HI := Lib.hid (HI.out.below hbq)
    replace HO1 := Lib.hid (HO1.out.next hbq)
    replace HO2 := Lib.hid (HO2.out.next hbq)
    have HO3 := Lib.hid (show OwnI _ w6 R3 n3 c3 (Idx.behindI l q.p q.a q.r q.n).1 from hO)
    clear hO
    clear hC hbq
    have hC := behindR15_any R n c xs q.p q.a q.r q.n w6 (HI.out.g HF.out) HZ.out.2.2
    rw [HI.out.e] at hC
    obtain ⟨q0, q1, q2, q3, q4, q5, q6, q7⟩ := (row8 RQ.out).1
    have bHX := HX.out.cell
    go_wp2_with fail
    refine hC.mono ?_
    rintro e w7 ⟨R4, n4, c4, rfl, hO, hn, hbq⟩
    clear q0 q1 q2 q3 q4 q5 q6 q7 bHX
    replace H0 := Lib.hid (H0.out.trans (hbq.mono H0.out.size))
    replace RQ := Lib.hid ((hbq.block _ (hlt RQ.out)).trans RQ.out)
    replace HX := Lib.hid (HX.out.below hbq)
    replace HI := Lib.hid (HI.out.below hbq)
    replace HO1 := Lib.hid (HO1.out.next hbq)
    replace HO2 := Lib.hid (HO2.out.next hbq)
    replace HO3 := Lib.hid (HO3.out.next hbq)
    clear hn
    have HO4 := Lib.hid (show OwnI _ w7 R4 n4 c4 (Idx.behindI l q.p q.a q.r q.n).1 from hO)
    clear hO
    clear hC hbq
    have hC := same_items (c1 := c1) (c2 := c2) HO1.out.sp.items HO2.out.sp.items rfl (by have := at_len l q.a q.e q.r q.n; have := HF.out.n; omega)
    go_wp2_with fail
    refine hC.mono ?_
    rintro e w8 ⟨rfl, hbq⟩
    replace H0 := Lib.hid (H0.out.trans (hbq.mono H0.out.size))
    replace RQ := Lib.hid ((hbq.block _ (hlt RQ.out)).trans RQ.out)
    replace HX := Lib.hid (HX.out.below hbq)
    replace HI := Lib.hid (HI.out.below hbq)
    replace HO1 := Lib.hid (HO1.out.next hbq)
    replace HO2 := Lib.hid (HO2.out.next hbq)
    replace HO3 := Lib.hid (HO3.out.next hbq)
    replace HO4 := Lib.hid (HO4.out.next hbq)
    clear hC hbq
    have hC := same_items (c1 := c3) (c2 := c4) HO3.out.sp.items HO4.out.sp.items rfl (by have := beh_len l q.p q.a q.r q.n; have := HF.out.n; omega)
    go_wp2_with fail
    refine hC.mono ?_
    rintro e w9 ⟨rfl, hbq⟩
    replace H0 := Lib.hid (H0.out.trans (hbq.mono H0.out.size))
    replace RQ := Lib.hid ((hbq.block _ (hlt RQ.out)).trans RQ.out)
    replace HX := Lib.hid (HX.out.below hbq)
    replace HI := Lib.hid (HI.out.below hbq)
    replace HO1 := Lib.hid (HO1.out.next hbq)
    replace HO2 := Lib.hid (HO2.out.next hbq)
    replace HO3 := Lib.hid (HO3.out.next hbq)
    replace HO4 := Lib.hid (HO4.out.next hbq)
    clear hC hbq
    have hbz := HE.out.trans (H0.out.mono HE.out.size)
    obtain ⟨q0, q1, q2, q3, q4, q5, q6, q7⟩ := (row8 RQ.out).1
    have bHX := HX.out.cell
    go_wp2
    go_ret
    exact ⟨rfl, hbz⟩


end Go.Proofs.Ytcoddkbbgmjckaa

namespace Go.Proofs.Ytcoddkbbgmjckaa
open Go.RowKit
set_option linter.unusedVariables false
set_option linter.unusedSimpArgs false
section
variable {H : Type} {enc : TypeId × Value → H} {W : World} {sp : Nat → Bool} {hd : Bool}
set_option maxRecDepth 100000 in
theorem iask_reach {a : IAsk} {d : DataW H} {p : List MemPlace} (h : DataW.Trod enc Try.prog W 0 sp hd 47 (iaskV a) d p) (hw : ∀ n ∈ d.weights Try.prog 47, n ≤ reachBytes) : a.a.size ≤ reachBytes ∧ a.e.size ≤ reachBytes ∧ a.p.size ≤ reachBytes := by
  obtain ⟨fuel, hf0⟩ := h
  have hdt : DataW.trod enc Try.prog W 0 sp hd fuel 47 (iaskC a) = some (d, p) := by simpa [Value.cells, iaskV, iaskC] using hf0
  unfold iaskC at hdt
  obtain ⟨ys, m, _, hx, _, hyl, hf⟩ := DataW.trod_struct Try.underlying47 hdt
  have hys : ys.length = 8 := hyl
  have hd' : d = .agg (ys.map (·.1)) := congrArg Prod.fst hx
  have g0 : DataW.trod enc Try.prog W 0 sp hd m 9 (List.take (Try.prog.cellsOf 9) [.string a.a, .string a.e, .string a.p, .int .i64 a.r, .int .i64 a.s, .int .i64 a.t, .int .i64 a.n, .int .i64 a.l]) = ys[0]? := hf 0 _ rfl
  rw [show Try.prog.cellsOf 9 = 1 by kernel_rfl, List.getElem?_eq_getElem (by omega)] at g0
  have g1 : DataW.trod enc Try.prog W 0 sp hd m 9 (List.take (Try.prog.cellsOf 9) [.string a.e, .string a.p, .int .i64 a.r, .int .i64 a.s, .int .i64 a.t, .int .i64 a.n, .int .i64 a.l]) = ys[1]? := hf 1 _ rfl
  rw [show Try.prog.cellsOf 9 = 1 by kernel_rfl, List.getElem?_eq_getElem (by omega)] at g1
  have g2 : DataW.trod enc Try.prog W 0 sp hd m 9 (List.take (Try.prog.cellsOf 9) [.string a.p, .int .i64 a.r, .int .i64 a.s, .int .i64 a.t, .int .i64 a.n, .int .i64 a.l]) = ys[2]? := hf 2 _ rfl
  rw [show Try.prog.cellsOf 9 = 1 by kernel_rfl, List.getElem?_eq_getElem (by omega)] at g2
  have key : ∀ (j : Nat) (hj : j < ys.length) (s : ByteArray) (rest : List Value), (List.map (fun f : Field => f.type) (Try.prog.fieldsOf 47).toList)[j]? = some 9 → DataW.trod enc Try.prog W 0 sp hd m 9 (List.take 1 (.string s :: rest)) = some ys[j] → s.size ≤ reachBytes := by
    intro j hj s rest ht hg
    obtain ⟨s', e1, e2, _⟩ := DataW.trod_string Try.underlying9 hg
    injection e1 with e1
    injection e1 with e1
    subst e1
    refine hw s.size ?_
    rw [hd']
    unfold Program.fieldsOf at ht
    rw [Try.underlying47] at ht
    simp only [DataW.weights, Try.underlying47]
    refine DataW.weights_mem_each (j := j) (t := 9) (d := (ys[j]).1) ht (by rw [List.getElem?_map, List.getElem?_eq_getElem hj]; rfl) _ ?_
    rw [e2]
    simp only [DataW.weights, List.mem_singleton]
    exact Array.length_toList.symm
  exact ⟨key 0 (by omega) a.a _ (by unfold Program.fieldsOf; rw [Try.underlying47]; rfl) g0, key 1 (by omega) a.e _ (by unfold Program.fieldsOf; rw [Try.underlying47]; rfl) g1, key 2 (by omega) a.p _ (by unfold Program.fieldsOf; rw [Try.underlying47]; rfl) g2⟩
end
end Go.Proofs.Ytcoddkbbgmjckaa

namespace Go.Proofs.Ytcoddkbbgmjckaa.indexReads
open Go.ChangeShapes Go.WideShapes Go.ChangeAt Go.RowKit Go.Proofs.Ytcoddkbbgmjckaa
set_option linter.unusedVariables false
set_option linter.unusedSimpArgs false

theorem own : ownKnob Try.prog.godebug = none := by kernel_rfl

set_option maxRecDepth 100000 in
theorem lifted (os : Os) (started : os.Started) (H : Type) (enc : TypeId × Value → H) :
    ReturnsInHanded {} Try.checked os 5 .any (Rows.indexReadsSpec.pre6 enc Try.prog Try.f5 Rows.indexReadsRow.domain false) (Rows.indexReadsSpec.post enc Try.prog Try.f5 false true false false) := by
  refine returnsInHanded_of_change_sized (C := Try.checked) own started (by kernel_rfl) Try.func5
    (ChangeSpec.witness6 (enc := enc) (C := Try.checked) false ⟨#[], #[.slice none 0 0, .agg #[.string ⟨#[]⟩, .string ⟨#[]⟩, .string ⟨#[]⟩, .int .i64 0, .int .i64 0, .int .i64 0, .int .i64 0, .int .i64 0]], []⟩ 8 (by kernel_rfl) (by kernel_rfl) (by kernel_rfl) (by kernel_rfl)) ?_
  intro W base args ds gs before hval0 hW hcnd hsz0 _
  have hsz : (DataW.weightsEach Try.prog (Try.f5.params.toList ++ Rows.indexReadsSpec.plain.varTypes Try.prog) (ds ++ gs)).all (· ≤ reachBytes) = true := hsz0
  have hval : ∀ (j : Nat) t v, Try.f5.params[j]? = some t → args[j]? = some v → Value.okWide Try.prog W .any base t v := hval0
  have hW' := hW
  obtain ⟨p, q, hA0, hV, rfl, hfz, hnd⟩ := hW
  have hA : DataW.TrodAll enc Try.prog W 0 (fun _ => true) true Try.f5.params.toList args.toList ds p := hA0
  rw [Try.params5] at hA hval hsz
  obtain ⟨v0, vs0, d0, ds0, p0, q0, hargs, rfl, rfl, h0, r0⟩ := trodAll_cons hA
  obtain ⟨v1, vs1, d1, ds1, p1, q1, rfl, rfl, rfl, h1, r1⟩ := trodAll_cons r0
  obtain ⟨rfl, rfl, rfl⟩ := trodAll_nil r1
  obtain rfl : args = #[v0, v1] := by cases args; simp_all
  obtain ⟨rfl, rfl⟩ := trodVars_none hV
  obtain ⟨A0, len0, cap0, K0, rfl, hlc0, hm0, ha0, hw0⟩ := arg_iacts (hval 0 26 v0 rfl rfl) h0 (fun x hx => hW'.lt x (by simp [hx]))
  obtain ⟨q1, rfl, hq1⟩ := arg_iask (hval 1 47 v1 rfl rfl) h1 (fun x hx => hW'.lt x (by simp [hx]))
  have fin : ∀ W', Below W.heap.size W W' → Rows.indexReadsSpec.post enc Try.prog Try.f5 false true false false W #[.slice A0 len0 cap0, iaskV q1] (.bool true) W' :=
    fun W' hb => law_end (by kernel_rfl) (by decide +kernel) rfl rfl Try.underlying4 hW' rfl rfl rfl hb
  exact (indexReads_walk says A0 len0 cap0 K0 q1 W ha0 (Nat.le_trans hlc0 hm0) hw0 hq1 (iask_reach h1 fun n hn => by simpa using List.all_eq_true.1 hsz _ (DataW.weights_mem_each (j := 1) rfl rfl n hn))).mono fun e W' ⟨he, hb⟩ => ⟨_, he, fin W' hb⟩

theorem over : Rows.indexReadsRow.holds Try.pinned (OpenSpec.ofChange Rows.indexReadsSpec) :=
  OpenClaim.holds_of_wide 5 Try.f5 rfl rfl rfl rfl rfl rfl rfl ⟨rfl, rfl, rfl, rfl, rfl⟩ rfl rfl rfl rfl rfl (by kernel_rfl) Try.func5 (by kernel_rfl)
    (of_decide_eq_true (by kernel_rfl)) (by unfold Func.isWrapper; first | (rw [if_pos (by decide +kernel)]; kernel_rfl) | (rw [if_neg (by decide +kernel)]; exact ⟨rfl, rfl⟩))
    (fun os started H enc _ => lifted os started H enc)

theorem proved : Rows.IndexReadsSaid := over


end Go.Proofs.Ytcoddkbbgmjckaa.indexReads
