/- HistOwn's walk. (Written by mkwalk.py.) -/
import Derived.Test.YtmihijlegacjdaaHisMade
namespace Go.Proofs.Ytmihijlegacjdaa
open Go.RowKit
set_option linter.unusedVariables false
set_option linter.unusedSimpArgs false
attribute [local go_sem] Oper.semAt_some

set_option maxRecDepth 100000 in
set_option maxHeartbeats 6400000 in
theorem histOwn_walk (A : Option Addr) (len cap : Nat) (K : Nat → HAct) (a b : HAct) (w : World) (hA : HActs w A len K) (hm : len ≤ maxLen) (hs : ∀ j, j < len → HActWf (K j)) (ha : HActWf a) (hb : HActWf b) :
    Calls Try.prog 7 #[.slice A len cap, hactV a, hactV b] w fun e w' => e = .returned (.bool true) ∧ Below w.heap.size w w' := by
  dsimp only [hactV]
  obtain ⟨W2, hW2⟩ : ∃ W2, (w.alloc (.cells #[.int .u8 a.kd, .int .i64 a.r, .int .i64 a.m, .string a.s, .int .i64 a.l, .int .i64 a.x.r, .int .i64 a.x.k, .int .i64 a.x.m, .int .i64 a.x.v, .string a.x.s, .int .i64 a.x.l, .bool a.x.g] 37)).alloc (.cells #[.int .u8 b.kd, .int .i64 b.r, .int .i64 b.m, .string b.s, .int .i64 b.l, .int .i64 b.x.r, .int .i64 b.x.k, .int .i64 b.x.m, .int .i64 b.x.v, .string b.x.s, .int .i64 b.x.l, .bool b.x.g] 37) = W2 := ⟨_, rfl⟩
  have hb2 : Below w.heap.size w W2 := by rw [← hW2]; exact ((Below.refl _ _).alloc (Nat.le_refl _) _).alloc (by simp) _
  have hra : W2.heap[w.heap.size]? = some (.cells #[.int .u8 a.kd, .int .i64 a.r, .int .i64 a.m, .string a.s, .int .i64 a.l, .int .i64 a.x.r, .int .i64 a.x.k, .int .i64 a.x.m, .int .i64 a.x.v, .string a.x.s, .int .i64 a.x.l, .bool a.x.g] 37) := by rw [← hW2]; exact (Below.heap_alloc _ _ _ (by simp)).trans (heap_alloc_new w _)
  have hrb : W2.heap[w.heap.size + 1]? = some (.cells #[.int .u8 b.kd, .int .i64 b.r, .int .i64 b.m, .string b.s, .int .i64 b.l, .int .i64 b.x.r, .int .i64 b.x.k, .int .i64 b.x.m, .int .i64 b.x.v, .string b.x.s, .int .i64 b.x.l, .bool b.x.g] 37) := by rw [← hW2]; have := heap_alloc_new (w.alloc (.cells #[.int .u8 a.kd, .int .i64 a.r, .int .i64 a.m, .string a.s, .int .i64 a.l, .int .i64 a.x.r, .int .i64 a.x.k, .int .i64 a.x.m, .int .i64 a.x.v, .string a.x.s, .int .i64 a.x.l, .bool a.x.g] 37)) (.cells #[.int .u8 b.kd, .int .i64 b.r, .int .i64 b.m, .string b.s, .int .i64 b.l, .int .i64 b.x.r, .int .i64 b.x.k, .int .i64 b.x.m, .int .i64 b.x.v, .string b.x.s, .int .i64 b.x.l, .bool b.x.g] 37); simpa using this
  have HW := Lib.hid hW2
  have HV := Lib.hid (And.intro (hA.below hb2) hs)
  have HAB := Lib.hid (And.intro hra (And.intro hrb (And.intro hb2 (And.intro ha hb))))
  clear hA hs hW2 hb2 hra hrb ha hb
  go_enter Try.func7, Try.ntmps7
  go_upto_region 1 with fail
  rw [HW.out]
  clear HW
  go_wp2_with fail
  refine (awake14_any _).mono ?_
  rintro e w1 ⟨rfl, hb1⟩
  have hF := fewActs_any A len cap K w1 (HV.out.1.below hb1) hm HV.out.2
  have HB := Lib.hid hb1
  clear hb1
  go_wp2_with fail
  refine hF.mono ?_
  rintro e w1' ⟨b0, rfl, hb40, rfl⟩
  cases b0 with
  | false =>
    go_wp2_with fail
    refine (awake14_any _).mono ?_
    rintro e w8 ⟨rfl, hb8⟩
    have hbz := HAB.out.2.2.1.trans ((HB.out.trans (hb8.mono HB.out.size)).mono HAB.out.2.2.1.size)
    go_wp2
    go_ret
    exact ⟨rfl, hbz⟩
  | true =>
    have h40 := hb40 rfl
    clear hF hb40
    have hra := (HB.out.block _ (hlq HAB.out.1)).trans HAB.out.1
    have hrb := (HB.out.block _ (hlq HAB.out.2.1)).trans HAB.out.2.1
    obtain ⟨y0, y1, y2, y3, y4, y5, y6, y7, y8, y9, y10, y11⟩ := row12 hra
    obtain ⟨z0, z1, z2, z3, z4, z5, z6, z7, z8, z9, z10, z11⟩ := row12 hrb
    obtain ⟨W3, hW3⟩ : ∃ W3, w1.alloc (.cells #[.int .u8 a.kd, .int .i64 a.r, .int .i64 a.m, .string a.s, .int .i64 a.l, .int .i64 a.x.r, .int .i64 a.x.k, .int .i64 a.x.m, .int .i64 a.x.v, .string a.x.s, .int .i64 a.x.l, .bool a.x.g, .int .u8 b.kd, .int .i64 b.r, .int .i64 b.m, .string b.s, .int .i64 b.l, .int .i64 b.x.r, .int .i64 b.x.k, .int .i64 b.x.m, .int .i64 b.x.v, .string b.x.s, .int .i64 b.x.l, .bool b.x.g] 37) = W3 := ⟨_, rfl⟩
    have hr3 : W3.heap[w1.heap.size]? = some (.cells #[.int .u8 a.kd, .int .i64 a.r, .int .i64 a.m, .string a.s, .int .i64 a.l, .int .i64 a.x.r, .int .i64 a.x.k, .int .i64 a.x.m, .int .i64 a.x.v, .string a.x.s, .int .i64 a.x.l, .bool a.x.g, .int .u8 b.kd, .int .i64 b.r, .int .i64 b.m, .string b.s, .int .i64 b.l, .int .i64 b.x.r, .int .i64 b.x.k, .int .i64 b.x.m, .int .i64 b.x.v, .string b.x.s, .int .i64 b.x.l, .bool b.x.g] 37) := by rw [← hW3]; exact heap_alloc_new w1 _
    have hb3 : Below W2.heap.size W2 W3 := by rw [← hW3]; exact HB.out.alloc HB.out.size _
    have hF2 := fewActs_any (some ⟨w1.heap.size, 0, none⟩) 2 2 (fun j => if j = 0 then a else b) W3 (fun _ => ⟨w1.heap.size, 0, rfl, hlq hr3, fun j hj i u hu => by
      have hcl := cells_lit (C := hactC a ++ hactC b) hr3
      have hi := (List.getElem?_eq_some_iff.1 hu).1
      rcases (by omega : j = 0 ∨ j = 1) with rfl | rfl
      · have hi : i < 12 := hi
        have := hcl i u (by rw [List.getElem?_append_left (by exact hi)]; exact hu)
        rw [Addr.add_lit] at this
        simpa using this
      · have hi : i < 12 := hi
        have := hcl (12 + i) u (by rw [List.getElem?_append_right (by show 12 ≤ 12 + i; omega), show 12 + i - (hactC a).length = i by show 12 + i - 12 = i; omega]; exact hu)
        rw [Addr.add_lit] at this
        simpa [Nat.add_assoc] using this⟩) (by unfold maxLen; omega) (fun j hj => by
      by_cases h0 : j = 0
      · simp only [h0, if_true]; exact HAB.out.2.2.2.1
      · simp only [if_neg h0]; exact HAB.out.2.2.2.2)
    have HW := Lib.hid hW3
    have H3 := Lib.hid hb3
    clear hr3 hb3 hra hrb hW3
    go_wp2_with fail
    rw [HW.out]
    clear HW y0 y1 y2 y3 y4 y5 y6 y7 y8 y9 y10 y11 z0 z1 z2 z3 z4 z5 z6 z7 z8 z9 z10 z11
    refine hF2.mono ?_
    rintro e W3' ⟨b1, rfl, hb41, rfl⟩
    clear hF2 hb41
    cases b1 with
    | false =>
      go_wp2_with fail
      refine (awake14_any _).mono ?_
      rintro e w8 ⟨rfl, hb8⟩
      have hbz := HAB.out.2.2.1.trans ((H3.out.trans (hb8.mono H3.out.size)).mono HAB.out.2.2.1.size)
      go_wp2
      go_ret
      exact ⟨rfl, hbz⟩
    | true =>
      go_wp2_with fail
      go_loopw [7, 32] (fun v7 v32 wr => ∃ k : Nat, k ≤ len ∧ v32 = .int .i64 (k : Int) ∧ ∃ R n c, v7 = .slice R n c ∧ MadeH W2 wr K k R n c) (fun _ v32 _ => len - (intOf v32).toNat)
      case atStart => exact ⟨0, Nat.zero_le _, rfl, none, 0, 0, rfl, MadeH.start K H3.out⟩
      case round =>
        obtain ⟨k, hk, rfl, R, n, c, rfl, hM⟩ := hrel
        by_cases hlt : k < len
        · have l1 : decide ((k : Int) < (len : Int)) = true := decide_eq_true (by omega)
          have k4 : (k : Int) < (len : Int) := by omega
          obtain ⟨g, off, rfl, c0, c1, c2, c3, c4, c5, c6, c7, c8, c9, c10, c11⟩ := (HV.out.1.below hM.b).cells hlt
          have hD := hM.do_ (by omega)
          dsimp only [hactV] at hD
          clear hM
          go_wp2_with fail
          refine hD.mono ?_
          rintro e w2 ⟨R2, n2, c2', rfl, hM2⟩
          have HM := Lib.hid hM2
          clear hM2 hD c0 c1 c2 c3 c4 c5 c6 c7 c8 c9 c10 c11
          go_wp2
          go_roundw
          case rel => exact ⟨k + 1, by omega, by go_num, R2, n2, c2', rfl, HM.out⟩
          case measure =>
            simp [intOf]
            omega
        · obtain rfl : k = len := by omega
          have l1 : decide ((k : Int) < (k : Int)) = false := decide_eq_false (by omega)
          have hn := hM.len
          have HM := Lib.hid hM
          have HR := Lib.hid (His.run_right K k)
          obtain ⟨l, hl⟩ : ∃ l, His.runL K k = l := ⟨_, rfl⟩
          have HM := Lib.hid (show Vers wr R n l ∧ n ≤ c ∧ Below W2.heap.size W2 wr from ⟨by rw [← hl]; exact hM.v, hM.c, hM.b⟩)
          have HR := Lib.hid (show His.Right l by rw [← hl]; exact His.run_right K k)
          clear hM hl
          have Hwr := Lib.hid (show Below wr.heap.size wr wr from Below.refl _ _)
          have HVS := Lib.hid (show ∀ W, Below wr.heap.size wr W → Vers W R n l from fun W hW => HM.out.1.below hW)
          have RA := Lib.hid ((HM.out.2.2.block _ (hlq HAB.out.1)).trans HAB.out.1)
          have RB := Lib.hid ((HM.out.2.2.block _ (hlq HAB.out.2.1)).trans HAB.out.2.1)
          have hll := HM.out.1.1
          obtain ⟨n9, hn9⟩ : ∃ n9, n + 9 = n9 := ⟨_, rfl⟩
          have k3 : IntKind.i64.wrap ((n : Int) + 9) = (n9 : Int) := by rw [IntWalk.i64_in _ (by omega)]; omega
          have hmk := fun W => make_sp elem_ver n9 (by omega) W
          dsimp only [Value.cells] at hmk
          have hn9l : n9 ≤ 49 := by omega
          clear hn9
          go_upto_region 10 with (at_builtin
                                  go_loud (refine wpList_append_sp elem_ver _ rfl _ _ rfl (some ⟨wr.heap.size, 0, none⟩) 0 n9 [] rfl (by exact Sp.made (heap_alloc_new _ _)) R n c (rowH l) rfl HM.out.1.none_ (by rw [rowH_len, hll]) (rowH_ones l) (fun b e => (HM.out.1.below (show Below wr.heap.size wr _ from (by repeat (first | exact Below.refl _ _ | apply Below.drew | apply below_drewN | refine Below.alloc ?_ (by simp) _)))).cells e) (by omega) ?_)
                                  rw [Nat.zero_add, List.nil_append]
                                  intro A1 c1 w8 hsp8 hA8 hg8
                                  have hbq : Below wr.heap.size wr w8 := hg8.below (show Below wr.heap.size wr _ from (by repeat (first | exact Below.refl _ _ | apply Below.drew | apply below_drewN | refine Below.alloc ?_ (by simp) _))) (by simp) (fun q hq => by rw [blk_some] at hq; omega)
                                  have hO : Own14 wr w8 A1 n c1 l := ⟨hsp8, fun q hq => by
                                    rcases hA8 q hq with h1 | h1
                                    · rw [blk_some] at h1; omega
                                    · simp at h1; omega⟩)
          have Hw8 := Lib.hid (Hwr.out.trans (hbq.mono Hwr.out.size))
          replace RA := Lib.hid ((hbq.block _ (hlq RA.out)).trans RA.out)
          replace RB := Lib.hid ((hbq.block _ (hlq RB.out)).trans RB.out)
          have HO1 := Lib.hid (show Own14 wr w8 A1 n c1 l from hO)
          clear hO
          clear hbq hsp8 hA8 hg8 hmk
          obtain ⟨o2, ho2⟩ : ∃ o, His.putL l a.r a.m a.s a.l = o := ⟨_, rfl⟩
          have HL2 := Lib.hid (show ∀ o, o2 = some o → o.length = l.length + 1 from fun o e => His.put_len (ho2.trans e))
          obtain ⟨y0, y1, y2, y3, y4, y5, y6, y7, y8, y9, y10, y11⟩ := row12 RA.out
          have hC := putP_any A1 n c1 l a.r a.m a.s a.l w8 HO1.out.sp.vers HO1.out.sp.2.1 (by omega)
          rw [ho2] at hC
          clear ho2
          go_wp2_with fail
          refine hC.mono ?_
          rintro e wx1 ⟨R2, n2, c2, rfl, hO, hbq⟩
          have Hwx1 := Lib.hid (Hw8.out.trans (hbq.mono Hw8.out.size))
          replace RA := Lib.hid ((hbq.block _ (hlq RA.out)).trans RA.out)
          replace RB := Lib.hid ((hbq.block _ (hlq RB.out)).trans RB.out)
          replace HO1 := Lib.hid (HO1.out.next hbq)
          clear y0 y1 y2 y3 y4 y5 y6 y7 y8 y9 y10 y11
          clear hC hbq
          have HO2 := Lib.hid (show Own14 _ wx1 R2 n2 c2 (o2.getD []) from hO)
          clear hO
          have hn2 : n2 ≤ 100 := by
            have h1 := HO2.out.len
            cases o2 with
            | none => have h1 : 0 = n2 := h1; omega
            | some o => have h1 : o.length = n2 := h1; have := HL2.out o rfl; omega
          go_upto_region 12 with (at_builtin
                                  go_loud (refine wpList_append_sp elem_ver _ rfl _ _ rfl (some ⟨wx1.heap.size, 0, none⟩) 0 0 [] rfl (by exact Sp.empty (heap_alloc_new _ _)) R2 n2 c2 (rowH (o2.getD [])) rfl HO2.out.sp.vers.none_ HO2.out.sp.1 (rowH_ones _) (fun b e => (HO2.out.sp.vers.below (show Below wx1.heap.size wx1 _ from (by repeat (first | exact Below.refl _ _ | apply Below.drew | apply below_drewN | refine Below.alloc ?_ (by simp) _)))).cells e) (by omega) ?_)
                                  rw [Nat.zero_add, List.nil_append]
                                  intro R3 c3 w9 hsp8 hA8 hg8
                                  have hbq : Below wx1.heap.size wx1 w9 := hg8.below (show Below wx1.heap.size wx1 _ from (by repeat (first | exact Below.refl _ _ | apply Below.drew | apply below_drewN | refine Below.alloc ?_ (by simp) _))) (by simp) (fun q hq => by rw [blk_some] at hq; omega)
                                  have hO : Own14 wx1 w9 R3 n2 c3 (o2.getD []) := ⟨hsp8, fun q hq => by
                                    rcases hA8 q hq with h1 | h1
                                    · rw [blk_some] at h1; omega
                                    · simp at h1; omega⟩)
          have Hw9 := Lib.hid (Hwx1.out.trans (hbq.mono Hwx1.out.size))
          replace RA := Lib.hid ((hbq.block _ (hlq RA.out)).trans RA.out)
          replace RB := Lib.hid ((hbq.block _ (hlq RB.out)).trans RB.out)
          replace HO1 := Lib.hid (HO1.out.next hbq)
          replace HO2 := Lib.hid (HO2.out.next hbq)
          have HO3 := Lib.hid (show Own14 _ w9 R3 n2 c3 (o2.getD []) from hO)
          clear hO
          clear hbq hsp8 hA8 hg8
          obtain ⟨o4, ho4⟩ : ∃ o, His.putL l b.r b.m b.s b.l = o := ⟨_, rfl⟩
          have HL4 := Lib.hid (show ∀ o, o4 = some o → o.length = l.length + 1 from fun o e => His.put_len (ho4.trans e))
          obtain ⟨y0, y1, y2, y3, y4, y5, y6, y7, y8, y9, y10, y11⟩ := row12 RB.out
          have hC := putP_any A1 n c1 l b.r b.m b.s b.l w9 HO1.out.sp.vers HO1.out.sp.2.1 (by omega)
          rw [ho4] at hC
          clear ho4
          go_wp2_with fail
          refine hC.mono ?_
          rintro e wx2 ⟨R4, n4, c4, rfl, hO, hbq⟩
          have Hwx2 := Lib.hid (Hw9.out.trans (hbq.mono Hw9.out.size))
          replace RA := Lib.hid ((hbq.block _ (hlq RA.out)).trans RA.out)
          replace RB := Lib.hid ((hbq.block _ (hlq RB.out)).trans RB.out)
          replace HO1 := Lib.hid (HO1.out.next hbq)
          replace HO2 := Lib.hid (HO2.out.next hbq)
          replace HO3 := Lib.hid (HO3.out.next hbq)
          clear y0 y1 y2 y3 y4 y5 y6 y7 y8 y9 y10 y11
          clear hC hbq
          have HO4 := Lib.hid (show Own14 _ wx2 R4 n4 c4 (o4.getD []) from hO)
          clear hO
          have k5 : IntKind.i64.wrap ((n : Int) + 1) = (n : Int) + 1 := IntWalk.i64_in _ (by omega)
          have hla := HO2.out.len
          have hlb := HO4.out.len
          cases o2 with
          | none =>
            rw [show His.errO none = 1 from rfl]
            clear hla hlb
            have hC := same_own (c1 := c1) (c2 := c) HO1.out.sp.vers (HVS.out _ Hwx2.out) rfl (by omega)
            go_wp2_with fail
            refine hC.mono ?_
            rintro e wx3 ⟨rfl, hbq⟩
            have Hwx3 := Lib.hid (Hwx2.out.trans (hbq.mono Hwx2.out.size))
            replace HO1 := Lib.hid (HO1.out.next hbq)
            replace HO2 := Lib.hid (HO2.out.next hbq)
            replace HO3 := Lib.hid (HO3.out.next hbq)
            replace HO4 := Lib.hid (HO4.out.next hbq)
            clear hC hbq
            have hC := same_own (c1 := c2) (c2 := c3) HO2.out.sp.vers HO3.out.sp.vers rfl (by show 0 ≤ _; omega)
            go_wp2_with fail
            refine hC.mono ?_
            rintro e wx4 ⟨rfl, hbq⟩
            have Hwx4 := Lib.hid (Hwx3.out.trans (hbq.mono Hwx3.out.size))
            replace HO1 := Lib.hid (HO1.out.next hbq)
            replace HO2 := Lib.hid (HO2.out.next hbq)
            replace HO3 := Lib.hid (HO3.out.next hbq)
            replace HO4 := Lib.hid (HO4.out.next hbq)
            clear hC hbq
            have hbz := HAB.out.2.2.1.trans ((HM.out.2.2.trans (Hwx4.out.mono HM.out.2.2.size)).mono HAB.out.2.2.1.size)
            go_wp2
            go_ret
            exact ⟨rfl, hbz⟩
          | some o2 =>
            rw [show His.errO (some o2) = 0 from rfl]
            have hla2 : o2.length = n2 := hla
            have hla3 := HL2.out o2 rfl
            have hob : o2.length ≤ 900000 := by omega
            clear hla
            cases o4 with
            | none =>
              rw [show His.errO none = 1 from rfl]
              clear hla2 hla3 hlb
              have hC := same_own (c1 := c1) (c2 := c) HO1.out.sp.vers (HVS.out _ Hwx2.out) rfl (by omega)
              go_wp2_with fail
              refine hC.mono ?_
              rintro e wx3 ⟨rfl, hbq⟩
              have Hwx3 := Lib.hid (Hwx2.out.trans (hbq.mono Hwx2.out.size))
              replace HO1 := Lib.hid (HO1.out.next hbq)
              replace HO2 := Lib.hid (HO2.out.next hbq)
              replace HO3 := Lib.hid (HO3.out.next hbq)
              replace HO4 := Lib.hid (HO4.out.next hbq)
              clear hC hbq
              have hC := same_own (c1 := c2) (c2 := c3) HO2.out.sp.vers HO3.out.sp.vers rfl (by exact hob)
              go_wp2_with fail
              refine hC.mono ?_
              rintro e wx4 ⟨rfl, hbq⟩
              have Hwx4 := Lib.hid (Hwx3.out.trans (hbq.mono Hwx3.out.size))
              replace HO1 := Lib.hid (HO1.out.next hbq)
              replace HO2 := Lib.hid (HO2.out.next hbq)
              replace HO3 := Lib.hid (HO3.out.next hbq)
              replace HO4 := Lib.hid (HO4.out.next hbq)
              clear hC hbq
              have hbz := HAB.out.2.2.1.trans ((HM.out.2.2.trans (Hwx4.out.mono HM.out.2.2.size)).mono HAB.out.2.2.1.size)
              go_wp2
              go_ret
              exact ⟨rfl, hbz⟩
            | some o4 =>
              rw [show His.errO (some o4) = 0 from rfl]
              have hlb2 : o4.length = n4 := hlb
              have hlb3 := HL4.out o4 rfl
              have e5 : ((n2 : Int) != (n : Int) + 1) = false := by simp; omega
              have e6 : ((n4 : Int) != (n : Int) + 1) = false := by simp; omega
              clear hla2 hla3 hlb hlb2 hlb3
              have hC := same_own (c1 := c1) (c2 := c) HO1.out.sp.vers (HVS.out _ Hwx2.out) rfl (by omega)
              go_wp2_with fail
              refine hC.mono ?_
              rintro e wx3 ⟨rfl, hbq⟩
              have Hwx3 := Lib.hid (Hwx2.out.trans (hbq.mono Hwx2.out.size))
              replace HO1 := Lib.hid (HO1.out.next hbq)
              replace HO2 := Lib.hid (HO2.out.next hbq)
              replace HO3 := Lib.hid (HO3.out.next hbq)
              replace HO4 := Lib.hid (HO4.out.next hbq)
              clear hC hbq
              have hC := same_own (c1 := c2) (c2 := c3) HO2.out.sp.vers HO3.out.sp.vers rfl (by exact hob)
              go_wp2_with fail
              refine hC.mono ?_
              rintro e wx4 ⟨rfl, hbq⟩
              have Hwx4 := Lib.hid (Hwx3.out.trans (hbq.mono Hwx3.out.size))
              replace HO1 := Lib.hid (HO1.out.next hbq)
              replace HO2 := Lib.hid (HO2.out.next hbq)
              replace HO3 := Lib.hid (HO3.out.next hbq)
              replace HO4 := Lib.hid (HO4.out.next hbq)
              clear hC hbq
              have hbz := HAB.out.2.2.1.trans ((HM.out.2.2.trans (Hwx4.out.mono HM.out.2.2.size)).mono HAB.out.2.2.1.size)
              go_wp2
              go_ret
              exact ⟨rfl, hbz⟩


end Go.Proofs.Ytmihijlegacjdaa
