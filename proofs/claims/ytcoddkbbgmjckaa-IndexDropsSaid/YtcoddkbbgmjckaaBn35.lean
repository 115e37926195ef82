/- The program's At and Leased. (Written by mkpi.py.) -/
import Derived.Test.YtcoddkbbgmjckaaBn33
import Derived.Lib.SliceRun
namespace Go.Proofs.Ytcoddkbbgmjckaa
open Go.RowKit
set_option linter.unusedVariables false
set_option linter.unusedSimpArgs false
attribute [local go_sem] Oper.semAt_some

/-- A row of a call's own that grows, beside what was there at w2: of that one block e alone may turn. -/
structure Acc (T : TypeId) (sz : Nat) (w2 wr : World) (e : Nat) (A : Option Addr) (n c : Nat) (vs : List Value) : Prop where
  sp : Sp T sz wr A n c vs
  new : ∀ q, blk A q → q = e ∨ w2.heap.size ≤ q
  g : Grew w2 wr (some ⟨e, 0, none⟩)
  some : A ≠ none
section
variable {T : TypeId} {sz : Nat} {w w2 wr w' X w8 : World} {e n c c8 : Nat} {A A8 : Option Addr} {vs us : List Value}
theorem Acc.next (h : Acc T sz w2 wr e A n c vs) (hb : Below wr.heap.size wr w') : Acc T sz w2 w' e A n c vs := ⟨h.sp.keep fun q hq => hb.block q (h.sp.lt hq), h.new, ⟨h.g.os.trans hb.os.symm, h.g.tape.trans hb.tape.symm, h.g.output.trans hb.output.symm, Nat.le_trans h.g.size hb.size, fun q hq hn => (hb.block q (Nat.lt_of_lt_of_le hq h.g.size)).trans (h.g.block q hq hn)⟩, h.some⟩
theorem Acc.push (h : Acc T sz w2 wr e A n c vs) (hX : Below wr.heap.size wr X) (hg : Grew X w8 A) (hsp : Sp T sz w8 A8 (n + 1) c8 (vs ++ us)) (hA : ∀ q, blk A8 q → blk A q ∨ X.heap.size ≤ q) : Acc T sz w2 w8 e A8 (n + 1) c8 (vs ++ us) := by
  have h1 := (h.next hX).g
  refine ⟨hsp, fun q hq => ?_, ⟨h1.os.trans hg.os, h1.tape.trans hg.tape, h1.output.trans hg.output, Nat.le_trans h1.size hg.size, fun q hq hn => ?_⟩, fun e0 => ?_⟩
  · rcases hA q hq with h3 | h3
    · exact h.new q h3
    · have := h1.size; exact .inr (by omega)
  · refine (hg.block q (Nat.lt_of_lt_of_le hq h1.size) fun hb => ?_).trans (h1.block q hq hn)
    rcases h.new q hb with h3 | h3
    · exact hn ((blk_some e 0 q).2 h3)
    · omega
  · have := hsp.2.2.1 e0
    have := hsp.2.1
    omega
theorem Acc.below {B : Nat} (h : Acc T sz w2 wr e A n c vs) (hb : Below B w w2) (he : B ≤ e) (hs : B ≤ w2.heap.size) : Below B w wr := ⟨h.g.os.symm.trans hb.os, h.g.tape.symm.trans hb.tape, h.g.output.symm.trans hb.output, Nat.le_trans hb.size h.g.size, fun q hq => (h.g.block q (by omega) fun hx => by rw [blk_some] at hx; omega).trans (hb.block q hq)⟩
theorem Acc.own {w0 : World} (h : Acc T sz w2 wr e A n c vs) (hb : w0.heap.size ≤ w2.heap.size) (he : w0.heap.size ≤ e) : OwnR T sz w0 wr A n c vs := ⟨h.sp, fun q hq => by
  rcases h.new q hq with h1 | h1 <;> omega⟩
theorem Grew.of2 (w : World) (A : Option Addr) : Grew w w A := ⟨rfl, rfl, rfl, Nat.le_refl _, fun _ _ _ => rfl⟩
theorem Acc.start {w2 : World} (hz : w2.heap[e]? = Option.some (.cells #[] T)) : Acc T sz w2 w2 e (Option.some ⟨e, 0, none⟩) 0 0 [] := ⟨Sp.empty hz, fun q hq => .inl ((blk_some e 0 q).1 hq), Grew.of2 w2 _, fun h => by cases h⟩
end
theorem Acc.row {T : TypeId} {sz : Nat} {w w2 wr : World} {e n c m d : Nat} {A R : Option Addr} {vs : List Value} {xs : List KLay} (h : Acc T sz w2 wr e A n c vs) (hr : RowP w w2 R m d xs) (hR : ∀ q, blk R q → q ≠ e) : RowP w wr R m d xs :=
  hr.off fun q hq => h.g.block q (hr.sp.lt hq) fun hx => hR q hq ((blk_some e 0 q).1 hx)

theorem items_in {l : List Idx.KH} (a b : ByteArray) (r : Int) : Idx.itemsI l r (Idx.inB a b) = (l.filter fun p => Idx.inB a b p.1).filterMap fun p => (His.atL p.2 r).map fun v => (p.1, v) := by
  unfold Idx.itemsI
  rw [List.filterMap_filter]
  congr 1
  funext p
  unfold Idx.itemO
  by_cases hi : Idx.inB a b p.1 = true
  · rw [if_pos hi]; cases His.atL p.2 r with
    | none => rfl
    | some v => exact if_pos hi
  · rw [if_neg hi]; cases His.atL p.2 r with
    | none => rfl
    | some v => exact if_neg hi

set_option maxRecDepth 100000 in
set_option maxHeartbeats 3200000 in
theorem atP15_any {P : Nat → Prop} (u : Option Addr) (t : MapKh.T) (a b : ByteArray) (r most : Int) (w : World) (hT : IxTP P w u t) (hF : Fit (kht t)) (ha : a.size ≤ maxLen) (hb : b.size ≤ maxLen) :
    Calls Try.prog 27 #[ixV u, .string a, .string b, .int .i64 r, .int .i64 most] w fun e w' => ∃ R m c, e = .returned (.tuple #[.slice R m c, .int .i64 ((Idx.atI (kht t) a b r most).2 : Int)]) ∧ OwnI w w' R m c (Idx.atI (kht t) a b r most).1 ∧ Below w.heap.size w w' := by
  obtain ⟨W1, hW1⟩ : ∃ W1, ((w.alloc (.cells #[.pointer u] 32)).alloc (.cells #[] 62)) = W1 := ⟨_, rfl⟩
  have hb1 : Below w.heap.size w W1 := by rw [← hW1]; exact (((Below.refl _ _).alloc (Nat.le_refl _) _).alloc (by simp) _)
  have hs1 : W1.heap.size = w.heap.size + 2 := by rw [← hW1]; simp
  have hr0 : W1.heap[w.heap.size + 0]? = some (.cells #[.pointer u] 32) := by rw [← hW1]; exact (alloc2_at w _ _).1
  have hr1 : W1.heap[w.heap.size + 1]? = some (.cells #[] 62) := by rw [← hW1]; exact (alloc2_at w _ _).2
  have hWi := withinP_any u t a b W1 (hT.below hb1) hF ha hb
  have HT := Lib.hid (And.intro hT hF)
  have HB := Lib.hid (And.intro hb1 (And.intro hs1 hr1))
  have z0 : W1.cell? ⟨w.heap.size, 0, none⟩ = some (.pointer u) := (row1 hr0).1
  clear hT hF hb1 hs1 hr0 hr1
  obtain ⟨mo, hmo⟩ : ∃ mo, most.toNat = mo := ⟨_, rfl⟩
  have HMo := Lib.hid hmo
  go_enter Try.func27, Try.ntmps27
  go_upto_region 2 with fail
  try rw [hW1]
  go_wp2_with fail
  refine hWi.mono ?_
  rintro e w2 ⟨R, c, xs, rfl, hRow, hks, hin, hb2⟩
  obtain ⟨n, hn⟩ : ∃ n, xs.length = n := ⟨_, rfl⟩
  rw [hn] at hRow ⊢
  have hb2' := HB.out.1.trans (hb2.mono HB.out.1.size)
  have HRow := Lib.hid (show RowP w w2 R n c xs from hRow.tree HB.out.1.size HT.out.1 hin)
  have HSep := Lib.hid (show ∀ q, blk R q → q ≠ w.heap.size + 1 from fun q hq => by have := hRow.new q hq; rw [HB.out.2.1] at this; omega)
  have HS := Lib.hid (show Acc 62 8 w2 w2 (w.heap.size + 1) (some ⟨w.heap.size + 1, 0, none⟩) 0 0 [] from Acc.start ((hb2.block _ (hlq HB.out.2.2)).trans HB.out.2.2))
  have HB2 := Lib.hid hb2'
  obtain ⟨G, hG⟩ : ∃ G : Idx.KH → Option (ByteArray × Ver), G = fun p => (His.atL p.2 r).map fun v => (p.1, v) := ⟨_, rfl⟩
  have HK := Lib.hid (And.intro (show Idx.itemsI (kht t) r (Idx.inB a b) = (khs xs).filterMap G by rw [hks, hG, items_in]) hG)
  have HN := Lib.hid (And.intro hn (show (khs xs).Sublist (kht t) by rw [hks]; exact List.filter_sublist))
  have hn1 : n ≤ 1000 := by
    have h1 := HT.out.2.n
    have h2 := HN.out.2.length_le
    unfold khs at h2
    rw [List.length_map] at h2
    omega
  clear hRow hks hin hb2 hb2' hWi z0 hW1 hn hG hmo
  go_wp2_with fail
  go_loopw [12, 13, 24] (fun v12 v13 v24 wr => ∃ k : Nat, k ≤ n ∧ v24 = .int .i64 (k : Int) ∧ ∃ A m d ls, v12 = .slice A m d ∧ ((khs xs).take k).filterMap G = ls ∧ v13 = .int .i64 (ls.length : Int) ∧ m = (ls.take mo).length ∧ ls.length ≤ k ∧ Acc 62 8 w2 wr (w.heap.size + 1) A m d (rowI (ls.take mo))) (fun _ _ v24 _ => n - (intOf v24).toNat)
  case atStart => exact ⟨0, Nat.zero_le _, rfl, _, 0, 0, [], rfl, rfl, rfl, by simp, Nat.le_refl _, by rw [List.take_nil]; exact HS.out⟩
  case round =>
    obtain ⟨k, hk, rfl, A, m, d, ls, rfl, hls, rfl, hml, hlk, hA⟩ := hrel
    have HA := Lib.hid hA
    have HL := Lib.hid (show RowP w wr R n c xs ∧ Below w.heap.size w wr from ⟨hA.row HRow.out HSep.out, hA.below HB2.out (Nat.le_add_right _ _) HB2.out.size⟩)
    have HM := Lib.hid (And.intro hml hls)
    clear hA hml hls
    by_cases hlt : k < n
    · have l1 : decide ((k : Int) < (n : Int)) = true := decide_eq_true (by omega)
      have k4 : (k : Int) < (n : Int) := by omega
      obtain ⟨g, off, hRe, hg, c0, c1⟩ := HL.out.1.at_ k hlt
      obtain ⟨x, hx⟩ : ∃ x, xs[k]'(by rw [HL.out.1.len]; exact hlt) = x := ⟨_, rfl⟩
      rw [hx] at c0 c1
      have HX := Lib.hid hx
      subst hRe
      obtain ⟨W8, hW8⟩ : ∃ W8, wr.alloc (.cells #[.string x.k, .slice x.B x.h.length x.c] 81) = W8 := ⟨_, rfl⟩
      have hb8 : Below wr.heap.size wr W8 := by rw [← hW8]; exact (Below.refl _ _).alloc (Nat.le_refl _) _
      have hp8 : W8.heap[wr.heap.size]? = some (.cells #[.string x.k, .slice x.B x.h.length x.c] 81) := by rw [← hW8]; exact heap_alloc_new wr _
      have HP8 := Lib.hid (And.intro hb8 hp8)
      have y0 : W8.cell? ⟨wr.heap.size, 0, none⟩ = some (.string x.k) := by have := cells_lit (C := [.string x.k, .slice x.B x.h.length x.c]) hp8 0 _ rfl; simpa [Addr.add_lit] using this
      have y1 : W8.cell? ⟨wr.heap.size, 1, none⟩ = some (.slice x.B x.h.length x.c) := by have := cells_lit (C := [.string x.k, .slice x.B x.h.length x.c]) hp8 1 _ rfl; simpa [Addr.add_lit] using this
      have HW8 := Lib.hid hW8
      clear hx hg hb8 hp8 hW8
      have hkl : k < (khs xs).length := by unfold khs; rw [List.length_map, HN.out.1]; exact hlt
      have hkx : (khs xs)[k] = (x.k, x.h) := by
        rw [← HX.out]
        unfold khs
        rw [List.getElem_map]
        rfl
      have hxm : x ∈ xs := by rw [← HX.out]; exact List.getElem_mem _
      have hxv := HL.out.1.vs x hxm
      have hxl : x.h.length ≤ 900000 := by
        have h1 := len_tot (HN.out.2.subset (List.getElem_mem hkl))
        rw [hkx] at h1
        have h2 := HT.out.2.t
        dsimp only at h1
        omega
      have htf := fm_take G hkl
      rw [hkx, HM.out.2, HK.out.2] at htf
      have HF := Lib.hid htf
      have HXV := Lib.hid hxv
      clear hxm hxv hkx htf
      have HB8 := Lib.hid (HL.out.2.trans (HP8.out.1.mono HL.out.2.size))
      have hLv := atP_any x.B x.h.length x.c x.h r W8 (HXV.out.1.below HB8.out) HXV.out.2 hxl
      obtain ⟨o, ho⟩ : ∃ o, His.atL x.h r = o := ⟨_, rfl⟩
      rw [ho] at hLv
      have HO := Lib.hid ho
      clear ho
      unfold atV at hLv
      dsimp only [verV] at hLv
      obtain ⟨y, hy⟩ : ∃ y, o.getD His.none_ = y := ⟨_, rfl⟩
      obtain ⟨bo, hbo⟩ : ∃ bo, o.isSome = bo := ⟨_, rfl⟩
      rw [hy, hbo] at hLv
      obtain ⟨vr, vk, vm, vv, vs, vl, vg⟩ := y
      dsimp only at hLv
      have HY := Lib.hid (And.intro hy hbo)
      clear hy hbo
      go_upto_region 5 with fail
      rw [HW8.out]
      go_wp2_with fail
      refine hLv.mono ?_
      rintro e w5 ⟨rfl, hb5⟩
      obtain ⟨W9, hW9⟩ : ∃ W9, w5.alloc (.cells #[.int .i64 vr, .int .i64 vk, .int .i64 vm, .int .i64 vv, .string vs, .int .i64 vl, .bool vg] 37) = W9 := ⟨_, rfl⟩
      have hb9 : Below W8.heap.size W8 W9 := by rw [← hW9]; exact hb5.alloc hb5.size _
      have hv9 : W9.heap[w5.heap.size]? = some (.cells #[.int .i64 vr, .int .i64 vk, .int .i64 vm, .int .i64 vv, .string vs, .int .i64 vl, .bool vg] 37) := by rw [← hW9]; exact heap_alloc_new w5 _
      have hp9 := (hb9.block _ (hlq HP8.out.2)).trans HP8.out.2
      have y5 : W9.cell? ⟨wr.heap.size, 0, none⟩ = some (.string x.k) := by have := cells_lit (C := [.string x.k, .slice x.B x.h.length x.c]) hp9 0 _ rfl; simpa [Addr.add_lit] using this
      have y6 : W9.cell? ⟨wr.heap.size, 1, none⟩ = some (.slice x.B x.h.length x.c) := by have := cells_lit (C := [.string x.k, .slice x.B x.h.length x.c]) hp9 1 _ rfl; simpa [Addr.add_lit] using this
      have HW9 := Lib.hid hW9
      have hbr9 : Below wr.heap.size wr W9 := HP8.out.1.trans (hb9.mono HP8.out.1.size)
      clear hLv hb5 hb9 c0 c1 y0 y1 hp9 hW9
      go_upto_region 6 with fail
      rw [HW9.out]
      have HA9 := Lib.hid (HA.out.next hbr9)
      have y1 : IntKind.i64.wrap ((ls.length : Int) + 1) = (ls.length : Int) + 1 := IntWalk.i64_in _ (by omega)
      cases bo with
      | false =>
        have ho : o = none := by
          cases o with
          | none => rfl
          | some y => have := HY.out.2; cases this
        have HF2 := Lib.hid (show ((khs xs).take (k + 1)).filterMap G = ls by
          have h1 := HF.out
          rw [← HK.out.2] at h1
          have h2 := HO.out
          rw [ho] at h2
          rw [h1, h2]
          exact List.append_nil _)
        go_wp2
        go_roundw
        case rel => exact ⟨k + 1, hlt, by go_num, A, m, d, ls, rfl, HF2.out, rfl, HM.out.1, by omega, HA9.out⟩
        case measure =>
          simp [intOf]
          omega
      | true =>
        have ho : o = some ⟨vr, vk, vm, vv, vs, vl, vg⟩ := by
          cases o with
          | none => have := HY.out.2; cases this
          | some y => have := HY.out.1; exact congrArg some this
        have HF2 := Lib.hid (show ((khs xs).take (k + 1)).filterMap G = ls ++ [(x.k, (⟨vr, vk, vm, vv, vs, vl, vg⟩ : Ver))] by
          have h1 := HF.out
          rw [← HK.out.2] at h1
          have h2 := HO.out
          rw [ho] at h2
          rw [h1, h2]
          rfl)
        have HTM := Lib.hid (take_more ls (x.k, (⟨vr, vk, vm, vv, vs, vl, vg⟩ : Ver)) mo)
        have hmt : (ls.take mo).length = min mo ls.length := List.length_take
        clear ho
        by_cases hfull : ls.length < mo
        · have e1 : decide ((ls.length : Int) < most) = true := decide_eq_true (by have := HMo.out; omega)
          have hM := Lib.hid (And.intro hfull hmt)
          have hm6 : m + 1 ≤ 1000000 := by have := HM.out.1; omega
          clear hfull hmt
          obtain ⟨v0, v1, v2, v3, v4, v5, v6⟩ := (row7 hv9).1
          go_upto_region 8 with fail
          go_wp2_with (at_builtin
                       go_loud (refine wpList_append_sp elem_item _ rfl _ _ rfl A m d (rowI (ls.take mo)) rfl (HA9.out.sp.keep fun q hq => (show Below W9.heap.size W9 _ from (by repeat (first | exact Below.refl _ _ | apply Below.drew | apply below_drewN | refine Below.alloc ?_ (by simp) _))).block q (HA9.out.sp.lt hq)) _ 1 1 (itemC (x.k, (⟨vr, vk, vm, vv, vs, vl, vg⟩ : Ver))) rfl (fun e => by cases e) rfl (itemC_one _) (fun b e => by cases e; exact cells_lit (C := itemC (x.k, (⟨vr, vk, vm, vv, vs, vl, vg⟩ : Ver))) (heap_alloc_new _ _)) hm6 ?_)
                       intro A8 c8 w8 hsp8 hA8 hg8
                       have hP := HA9.out.push (show Below W9.heap.size W9 _ from (by repeat (first | exact Below.refl _ _ | apply Below.drew | apply below_drewN | refine Below.alloc ?_ (by simp) _))) hg8 hsp8 hA8)
          have HPP := Lib.hid hP
          clear hP hsp8 hA8 hg8 v0 v1 v2 v3 v4 v5 v6
          go_roundw
          case rel => exact ⟨k + 1, hlt, by go_num, A8, m + 1, c8, ls ++ [(x.k, (⟨vr, vk, vm, vv, vs, vl, vg⟩ : Ver))], rfl, HF2.out, by rw [List.length_append]; rfl, by rw [HTM.out, if_pos hM.out.1, List.length_append, HM.out.1]; rfl, by rw [List.length_append]; simp; omega, by rw [HTM.out, if_pos hM.out.1, rowI_add]; exact HPP.out⟩
          case measure =>
            simp [intOf]
            omega
        · have e1 : decide ((ls.length : Int) < most) = false := decide_eq_false (by have := HMo.out; omega)
          have hM := Lib.hid (And.intro hfull hmt)
          clear hfull hmt
          go_wp2
          go_roundw
          case rel => exact ⟨k + 1, hlt, by go_num, A, m, d, ls ++ [(x.k, (⟨vr, vk, vm, vv, vs, vl, vg⟩ : Ver))], rfl, HF2.out, by rw [List.length_append]; rfl, by rw [HTM.out, if_neg hM.out.1]; exact HM.out.1, by rw [List.length_append]; simp; omega, by rw [HTM.out, if_neg hM.out.1]; exact HA9.out⟩
          case measure =>
            simp [intOf]
            omega
    · obtain rfl : n = k := by omega
      have l1 : decide ((n : Int) < (n : Int)) = false := decide_eq_false (by omega)
      have HE := Lib.hid (show Idx.atI (kht t) a b r most = (ls.take mo, ls.length) by
        have h1 := HM.out.2
        rw [List.take_of_length_le (by unfold khs; rw [List.length_map, HN.out.1]; exact Nat.le_refl _)] at h1
        unfold Idx.atI
        rw [HK.out.1, h1, HMo.out])
      go_wp2
      refine bodyPost_ret (results_tmp2 rfl _ _ _) rfl ?_
      exact ⟨A, m, d, by rw [HE.out]; rfl, by rw [HE.out]; exact (HA.out.own HB2.out.size (Nat.le_add_right _ _)), HL.out.2⟩


end Go.Proofs.Ytcoddkbbgmjckaa

namespace Go.Proofs.Ytcoddkbbgmjckaa
open Go.RowKit
set_option linter.unusedVariables false
set_option linter.unusedSimpArgs false
attribute [local go_sem] Oper.semAt_some

def Idx.lq (le : Int) (p : Idx.KH) : Bool := decide (((His.liveL p.2).getD His.none_).l = le)
theorem leased_is {l : List Idx.KH} (h : Idx.Wf l) {le : Int} (hle : le ≠ 0) : Idx.leasedI l le = (l.filter (Idx.lq le)).map (·.1) := by
  unfold Idx.leasedI
  congr 1
  refine List.filter_congr fun p hp => ?_
  unfold Idx.lq Idx.liveI
  rw [Idx.get_mem h.up hp, top_is, ← His.live_top (h.right p hp)]
  cases His.liveL p.2 with
  | none => exact (decide_eq_false (fun e => hle e.symm)).symm
  | some v => show (decide (le ≠ 0) && decide (v.l = le)) = decide (v.l = le); rw [decide_eq_true hle, Bool.true_and]
theorem leased_zero (l : List Idx.KH) : Idx.leasedI l 0 = [] := by
  unfold Idx.leasedI
  rw [List.filter_eq_nil_iff.2 fun p _ => ?_]
  · rfl
  · split
    · exact Bool.false_ne_true
    · simp

set_option maxRecDepth 100000 in
set_option maxHeartbeats 3200000 in
theorem leasedP_any {P : Nat → Prop} (u : Option Addr) (t : MapKh.T) (le : Int) (w : World) (hT : IxTP P w u t) (hF : Fit (kht t)) :
    Calls Try.prog 37 #[ixV u, .int .i64 le] w fun e w' => ∃ R m c, e = .returned (.slice R m c) ∧ OwnR 9 1 w w' R m c (rowS (Idx.leasedI (kht t) le)) ∧ Below w.heap.size w w' := by
  obtain ⟨W1, hW1⟩ : ∃ W1, ((w.alloc (.cells #[.pointer u] 32)).alloc (.cells #[] 9)) = W1 := ⟨_, rfl⟩
  have hb1 : Below w.heap.size w W1 := by rw [← hW1]; exact (((Below.refl _ _).alloc (Nat.le_refl _) _).alloc (by simp) _)
  have hs1 : W1.heap.size = w.heap.size + 2 := by rw [← hW1]; simp
  have hr0 : W1.heap[w.heap.size + 0]? = some (.cells #[.pointer u] 32) := by rw [← hW1]; exact (alloc2_at w _ _).1
  have hr1 : W1.heap[w.heap.size + 1]? = some (.cells #[] 9) := by rw [← hW1]; exact (alloc2_at w _ _).2
  have hAl := MapKh.all_map t u W1 (hT.1.below hb1 (Nat.le_refl _)) (by have := hF.n; rw [kht_len] at this; omega)
  have HT := Lib.hid (And.intro hT hF)
  have HB := Lib.hid (And.intro hb1 (And.intro hs1 hr1))
  have z0 : W1.cell? ⟨w.heap.size, 0, none⟩ = some (.pointer u) := (row1 hr0).1
  by_cases hle : le = 0
  · subst hle
    have HE := Lib.hid (leased_zero (kht t))
    clear hAl hT hF hb1 hs1 hr0
    have HR1 := Lib.hid hr1
    clear hr1
    go_enter Try.func37, Try.ntmps37
    go_upto_region 2 with fail
    try rw [hW1]
    go_wp2
    go_ret
    exact ⟨_, 0, 0, rfl, by rw [HE.out]; exact ⟨Sp.empty HR1.out, fun q hq => by rw [blk_some] at hq; omega⟩, HB.out.1⟩
  have q0 : (le == 0) = false := beq_eq_false_iff_ne.2 hle
  have q1 : decide (le = 0) = false := decide_eq_false hle
  have HLe := Lib.hid (leased_is HT.out.2.wf hle)
  clear hT hF hb1 hs1 hr0 hr1
  go_enter Try.func37, Try.ntmps37
  go_upto_region 2 with fail
  try rw [hW1]
  go_wp2_with fail
  refine hAl.mono ?_
  rintro e w2 ⟨R, c, rfl, ho, hb2⟩
  obtain ⟨xs, hxs⟩ : ∃ xs, t.list.map klOf = xs := ⟨_, rfl⟩
  obtain ⟨n, hn⟩ : ∃ n, t.list.length = n := ⟨_, rfl⟩
  have hRow := RowP.of ho fun p hp => ⟨(HT.out.1.2.2 p hp).1.below HB.out.1, (HT.out.1.2.2 p hp).2.1⟩
  rw [hn, hxs] at hRow
  rw [hn]
  have hks : khs xs = kht t := by rw [← hxs, khs_of]; rfl
  have hin : ∀ x ∈ xs, ∃ p ∈ t.list, x = klOf p := fun x hx => by
    rw [← hxs] at hx
    obtain ⟨p, hp, e⟩ := List.mem_map.1 hx
    exact ⟨p, hp, e.symm⟩
  have hnl : xs.length = n := by rw [← hxs, List.length_map, hn]
  have hb2' := HB.out.1.trans (hb2.mono HB.out.1.size)
  have HRow := Lib.hid (show RowP w w2 R n c xs from hRow.tree HB.out.1.size HT.out.1 hin)
  have HSep := Lib.hid (show ∀ q, blk R q → q ≠ w.heap.size + 1 from fun q hq => by have := hRow.new q hq; rw [HB.out.2.1] at this; omega)
  have HS := Lib.hid (show Acc 9 1 w2 w2 (w.heap.size + 1) (some ⟨w.heap.size + 1, 0, none⟩) 0 0 [] from Acc.start ((hb2.block _ (hlq HB.out.2.2)).trans HB.out.2.2))
  have HB2 := Lib.hid hb2'
  have HN := Lib.hid (And.intro hnl hks)
  have hn1 : n ≤ 1000 := by
    have h1 := HT.out.2.n
    rw [← hks] at h1
    unfold khs at h1
    rw [List.length_map] at h1
    omega
  clear hRow hks hin hb2 hb2' hAl z0 hW1 hn hnl ho hxs
  go_wp2_with fail
  go_loopw [5, 18] (fun v5 v18 wr => ∃ k : Nat, k ≤ n ∧ v18 = .int .i64 (k : Int) ∧ ∃ A m d ls, v5 = .slice A m d ∧ (((khs xs).take k).filter (Idx.lq le)).map (·.1) = ls ∧ m = ls.length ∧ m ≤ k ∧ Acc 9 1 w2 wr (w.heap.size + 1) A m d (rowS ls)) (fun _ v18 _ => n - (intOf v18).toNat)
  case atStart => exact ⟨0, Nat.zero_le _, rfl, _, 0, 0, [], rfl, rfl, rfl, Nat.le_refl _, HS.out⟩
  case round =>
    obtain ⟨k, hk, rfl, A, m, d, ls, rfl, hls, hml, hlk, hA⟩ := hrel
    have HA := Lib.hid hA
    have HL := Lib.hid (show RowP w wr R n c xs ∧ Below w.heap.size w wr from ⟨hA.row HRow.out HSep.out, hA.below HB2.out (Nat.le_add_right _ _) HB2.out.size⟩)
    have HM := Lib.hid (And.intro hml hls)
    clear hA hml hls
    by_cases hlt : k < n
    · have l1 : decide ((k : Int) < (n : Int)) = true := decide_eq_true (by omega)
      have k4 : (k : Int) < (n : Int) := by omega
      obtain ⟨g, off, hRe, hg, c0, c1⟩ := HL.out.1.at_ k hlt
      obtain ⟨x, hx⟩ : ∃ x, xs[k]'(by rw [HL.out.1.len]; exact hlt) = x := ⟨_, rfl⟩
      rw [hx] at c0 c1
      have HX := Lib.hid hx
      subst hRe
      obtain ⟨W8, hW8⟩ : ∃ W8, wr.alloc (.cells #[.string x.k, .slice x.B x.h.length x.c] 81) = W8 := ⟨_, rfl⟩
      have hb8 : Below wr.heap.size wr W8 := by rw [← hW8]; exact (Below.refl _ _).alloc (Nat.le_refl _) _
      have hp8 : W8.heap[wr.heap.size]? = some (.cells #[.string x.k, .slice x.B x.h.length x.c] 81) := by rw [← hW8]; exact heap_alloc_new wr _
      have HP8 := Lib.hid (And.intro hb8 hp8)
      have y0 : W8.cell? ⟨wr.heap.size, 0, none⟩ = some (.string x.k) := by have := cells_lit (C := [.string x.k, .slice x.B x.h.length x.c]) hp8 0 _ rfl; simpa [Addr.add_lit] using this
      have y1 : W8.cell? ⟨wr.heap.size, 1, none⟩ = some (.slice x.B x.h.length x.c) := by have := cells_lit (C := [.string x.k, .slice x.B x.h.length x.c]) hp8 1 _ rfl; simpa [Addr.add_lit] using this
      have HW8 := Lib.hid hW8
      clear hx hg hb8 hp8 hW8
      have hkl : k < (khs xs).length := by unfold khs; rw [List.length_map, HN.out.1]; exact hlt
      have hkx : (khs xs)[k] = (x.k, x.h) := by
        rw [← HX.out]
        unfold khs
        rw [List.getElem_map]
        rfl
      have hxm : x ∈ xs := by rw [← HX.out]; exact List.getElem_mem _
      have hxv := HL.out.1.vs x hxm
      have hxl : x.h.length ≤ 900000 := by
        have h1 := len_tot (show (khs xs)[k] ∈ kht t by rw [← HN.out.2]; exact List.getElem_mem hkl)
        rw [hkx] at h1
        have h2 := HT.out.2.t
        dsimp only at h1
        omega
      have htf : (((khs xs).take (k + 1)).filter (Idx.lq le)).map (·.1) = ls ++ if Idx.lq le (x.k, x.h) = true then [x.k] else [] := by
        rw [List.take_succ_eq_append_getElem hkl, List.filter_append, List.map_append, HM.out.2, hkx, List.filter_cons]
        split <;> rfl
      have HF := Lib.hid htf
      have HXV := Lib.hid hxv
      clear hxm hxv hkx htf
      have HB8 := Lib.hid (HL.out.2.trans (HP8.out.1.mono HL.out.2.size))
      have hLv := liveP_any x.B x.h.length x.c x.h W8 (HXV.out.1.below HB8.out) HXV.out.2 hxl
      obtain ⟨o, ho⟩ : ∃ o, His.liveL x.h = o := ⟨_, rfl⟩
      rw [ho] at hLv
      have HO := Lib.hid ho
      clear ho
      unfold atV at hLv
      dsimp only [verV] at hLv
      obtain ⟨y, hy⟩ : ∃ y, o.getD His.none_ = y := ⟨_, rfl⟩
      obtain ⟨bo, hbo⟩ : ∃ bo, o.isSome = bo := ⟨_, rfl⟩
      rw [hy, hbo] at hLv
      obtain ⟨vr, vk, vm, vv, vs, vl, vg⟩ := y
      dsimp only at hLv
      have HY := Lib.hid (And.intro hy hbo)
      clear hy hbo
      go_upto_region 7 with fail
      rw [HW8.out]
      go_wp2_with fail
      refine hLv.mono ?_
      rintro e w5 ⟨rfl, hb5⟩
      obtain ⟨W9, hW9⟩ : ∃ W9, w5.alloc (.cells #[.int .i64 vr, .int .i64 vk, .int .i64 vm, .int .i64 vv, .string vs, .int .i64 vl, .bool vg] 37) = W9 := ⟨_, rfl⟩
      have hb9 : Below W8.heap.size W8 W9 := by rw [← hW9]; exact hb5.alloc hb5.size _
      have hv9 : W9.heap[w5.heap.size]? = some (.cells #[.int .i64 vr, .int .i64 vk, .int .i64 vm, .int .i64 vv, .string vs, .int .i64 vl, .bool vg] 37) := by rw [← hW9]; exact heap_alloc_new w5 _
      have hp9 := (hb9.block _ (hlq HP8.out.2)).trans HP8.out.2
      have y5 : W9.cell? ⟨wr.heap.size, 0, none⟩ = some (.string x.k) := by have := cells_lit (C := [.string x.k, .slice x.B x.h.length x.c]) hp9 0 _ rfl; simpa [Addr.add_lit] using this
      have y6 : W9.cell? ⟨wr.heap.size, 1, none⟩ = some (.slice x.B x.h.length x.c) := by have := cells_lit (C := [.string x.k, .slice x.B x.h.length x.c]) hp9 1 _ rfl; simpa [Addr.add_lit] using this
      have HW9 := Lib.hid hW9
      have hbr9 : Below wr.heap.size wr W9 := HP8.out.1.trans (hb9.mono HP8.out.1.size)
      clear hLv hb5 hb9 c0 c1 y0 y1 hp9 hW9
      go_upto_region 8 with fail
      rw [HW9.out]
      have HA9 := Lib.hid (HA.out.next hbr9)
      have hlq2 : Idx.lq le (x.k, x.h) = decide (vl = le) := by
        unfold Idx.lq
        dsimp only
        rw [HO.out, HY.out.1]
      obtain ⟨v0, v1, v2, v3, v4, v5, v6⟩ := (row7 hv9).1
      by_cases hvl : vl = le
      · have p1 : (vl == le) = true := beq_iff_eq.2 hvl
        have p2 : decide (vl = le) = true := decide_eq_true hvl
        rw [p2] at hlq2
        have HF2 := Lib.hid (HF.out.trans (by rw [if_pos hlq2]))
        have hm6 : m + 1 ≤ 1000000 := by omega
        clear hlq2
        have HVl := Lib.hid hvl
        clear hvl
        go_upto_region 9 with fail
        go_wp2_with (at_builtin
                     go_loud (refine wpList_append_sp elem_str _ rfl _ _ rfl A m d (rowS ls) rfl (HA9.out.sp.keep fun q hq => (show Below W9.heap.size W9 _ from (by repeat (first | exact Below.refl _ _ | apply Below.drew | apply below_drewN | refine Below.alloc ?_ (by simp) _))).block q (HA9.out.sp.lt hq)) _ 1 1 [.string x.k] rfl (fun e => by cases e) rfl (fun u hu => by rcases List.mem_singleton.1 hu with rfl; rfl) (fun b e => by cases e; exact cells_lit (C := [.string x.k]) (heap_alloc_new _ _)) hm6 ?_)
                     intro A8 c8 w8 hsp8 hA8 hg8
                     have hP := HA9.out.push (show Below W9.heap.size W9 _ from (by repeat (first | exact Below.refl _ _ | apply Below.drew | apply below_drewN | refine Below.alloc ?_ (by simp) _))) hg8 hsp8 hA8)
        have HPP := Lib.hid hP
        clear hP hsp8 hA8 hg8 v0 v1 v2 v3 v4 v5 v6
        go_roundw
        case rel => exact ⟨k + 1, hlt, by go_num, A8, m + 1, c8, ls ++ [x.k], rfl, HF2.out, by rw [List.length_append, HM.out.1]; rfl, by omega, by rw [rowS_add]; exact HPP.out⟩
        case measure =>
          simp [intOf]
          omega
      · have p1 : (vl == le) = false := beq_eq_false_iff_ne.2 hvl
        have p2 : decide (vl = le) = false := decide_eq_false hvl
        rw [p2] at hlq2
        have HF2 := Lib.hid (HF.out.trans (by rw [if_neg (by rw [hlq2]; exact Bool.false_ne_true), List.append_nil]))
        clear hlq2
        go_wp2
        go_roundw
        case rel => exact ⟨k + 1, hlt, by go_num, A, m, d, ls, rfl, HF2.out, HM.out.1, by omega, HA9.out⟩
        case measure =>
          simp [intOf]
          omega
    · obtain rfl : n = k := by omega
      have l1 : decide ((n : Int) < (n : Int)) = false := decide_eq_false (by omega)
      have HE := Lib.hid (show Idx.leasedI (kht t) le = ls by
        have h1 := HM.out.2
        rw [List.take_of_length_le (by unfold khs; rw [List.length_map, HN.out.1]; exact Nat.le_refl _), HN.out.2] at h1
        rw [HLe.out, h1])
      go_wp2
      go_ret
      exact ⟨A, m, d, rfl, by rw [HE.out]; exact (HA.out.own HB2.out.size (Nat.le_add_right _ _)), HL.out.2⟩


end Go.Proofs.Ytcoddkbbgmjckaa
