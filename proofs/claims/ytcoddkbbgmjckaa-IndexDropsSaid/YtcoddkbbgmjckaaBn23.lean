/- The document's Behind, by its contract. (Written by mkbeh.py.) -/
import Derived.Test.YtcoddkbbgmjckaaBn14
import Derived.Test.YtcoddkbbgmjckaaBn22
namespace Go.Proofs.Ytcoddkbbgmjckaa
open Go.RowKit
set_option linter.unusedVariables false
set_option linter.unusedSimpArgs false
attribute [local go_sem] Oper.semAt_some

theorem le_is (a b : ByteArray) : (Op.bytesLess a.toList b.toList || a.toList == b.toList) = !ltS b a := by
  rw [← gt_is, Bool.not_not]

set_option maxRecDepth 100000 in
set_option maxHeartbeats 6400000 in
theorem behindR15_any (A : Option Addr) (n cap : Nat) (xs : List KLay) (a b : ByteArray) (r most : Int) (w : World) (h : IxG w A n cap xs) (ha : a.size ≤ maxLen) :
    Calls Try.prog 30 #[.slice A n cap, .string a, .string b, .int .i64 r, .int .i64 most] w fun e w' => ∃ R m d, e = .returned (.tuple #[.slice R m d, .bool (Idx.behindI (khs xs) a b r most).2]) ∧ OwnI w w' R m d (Idx.behindI (khs xs) a b r most).1 ∧ m = (Idx.behindI (khs xs) a b r most).1.length ∧ Below w.heap.size w w' := by
  have hll := h.ix.len
  have hfew := h.few
  have hin := fun W x (hx : x ∈ xs) => beginsR_any x.k a (h.key hx) ha W
  have hat := fun W x (hx : x ∈ xs) (hW : Below w.heap.size w W) => atR_any x.B x.h.length x.c x.h r W ((h.ix.vs x hx).below hW) (by have := h.len x hx; omega)
  obtain ⟨g, hg⟩ : ∃ g : KLay → Option (ByteArray × Ver), g = fun x => Idx.itemO r (Idx.behB a b) x.kh := ⟨_, rfl⟩
  have hgx : ∀ x : KLay, g x = match His.atL x.h r with | none => none | some v => if (Idx.begins x.k a && ltS b x.k) = true then some (x.k, v) else none := fun x => by rw [hg]; rfl
  have hit : Idx.itemsI (khs xs) r (Idx.behB a b) = xs.filterMap g := by unfold Idx.itemsI khs; rw [List.filterMap_map, hg]; rfl
  have hend : Idx.behindI (khs xs) a b r most = ((xs.filterMap g).take most.toNat, decide ((xs.filterMap g).length ≤ most.toNat)) := by unfold Idx.behindI; rw [hit]
  obtain ⟨mo, hmo⟩ : ∃ mo, most.toNat = mo := ⟨_, rfl⟩
  rw [hmo] at hend
  have HV := Lib.hid h.ix
  have HI := Lib.hid hin
  have HL := Lib.hid hat
  have HE := Lib.hid (And.intro hend hgx)
  clear h ha hin hat hg hgx hit hend
  go_enter Try.func30, Try.ntmps30
  go_wp2_with fail
  go_loopw [12, 13, 19] (fun v12 v13 v19 wr => ∃ k : Nat, k ≤ n ∧ v19 = .int .i64 (k : Int) ∧ ∃ R m d ls, v12 = .slice R m d ∧ (xs.take k).filterMap g = ls ∧ v13 = .bool (decide (ls.length ≤ mo)) ∧ m = (ls.take mo).length ∧ ls.length ≤ k ∧ OwnI w wr R m d (ls.take mo) ∧ Below w.heap.size w wr) (fun _ _ v19 _ => n - (intOf v19).toNat)
  case atStart => exact ⟨0, Nat.zero_le _, rfl, none, 0, 0, [], rfl, rfl, by simp, by simp, Nat.le_refl _, by rw [List.take_nil]; exact OwnR.none _ _ _ _, Below.refl _ _⟩
  case round =>
    obtain ⟨k, hk, rfl, R, m, d, ls, rfl, hls, rfl, hml, hlk, hO, hb⟩ := hrel
    have HB := Lib.hid (And.intro hO hb)
    have HML := Lib.hid hml
    clear hO hb hml
    by_cases hlt : k < n
    · have l1 : decide ((k : Int) < (n : Int)) = true := decide_eq_true (by omega)
      obtain ⟨G, off, rfl, hG, c0, c1⟩ := (HV.out.at_ k hlt)
      have hGr := Nat.lt_of_lt_of_le hG HB.out.2.size
      have hmem : xs[k]'(by omega) ∈ xs := List.getElem_mem _
      have hI := fun W => HI.out W _ hmem
      have hL := HL.out wr _ hmem HB.out.2
      have htf := fm_take g (show k < xs.length by omega)
      have hgk := HE.out.2 (xs[k]'(by omega))
      obtain ⟨x, hx⟩ : ∃ x, xs[k]'(by omega) = x := ⟨_, rfl⟩
      rw [hx] at c0 c1 htf hL hgk
      have hI : ∀ W, Calls _ _ _ W _ := fun W => by have := hI W; rw [hx] at this; exact this
      rw [hls] at htf
      have HT := Lib.hid htf
      have HC := Lib.hid (And.intro c0 c1)
      have cc0 := (HB.out.2.cell (p := ⟨G, off + k * 2, none⟩) hG).trans c0
      have cc1 := (HB.out.2.cell (p := ⟨G, off + k * 2 + 1, none⟩) hG).trans c1
      unfold atV at hL
      generalize His.atL x.h r = o at *
      clear hx htf hmem hls c0 c1
      cases o with
      | none =>
        dsimp only [verV, His.none_, Option.getD, Option.isSome] at hL hgk
        have HP := Lib.hid hgk
        clear hgk hI
        go_wp2_with fail
        refine hL.mono ?_
        rintro e w1 ⟨rfl, hb1⟩
        have HB2 := Lib.hid (And.intro (HB.out.1.next (hb1.alloc hb1.size (.cells #[.int .i64 0, .int .i64 0, .int .i64 0, .int .i64 0, .string ⟨#[]⟩, .int .i64 0, .bool false] 37))) (HB.out.2.trans ((hb1.alloc hb1.size (.cells #[.int .i64 0, .int .i64 0, .int .i64 0, .int .i64 0, .string ⟨#[]⟩, .int .i64 0, .bool false] 37)).mono HB.out.2.size)))
        clear hL hb1
        go_wp2
        go_roundw
        case rel => exact ⟨k + 1, hlt, by go_num, R, m, d, ls, rfl, by rw [HT.out, HP.out]; exact List.append_nil _, rfl, HML.out, by omega, HB2.out.1, HB2.out.2⟩
        case measure =>
          simp [intOf]
          omega
      | some vv =>
        obtain ⟨vr, vk, vm, vv', vs', vl, vg⟩ := vv
        dsimp only [verV, Option.getD, Option.isSome] at hL hgk
        go_wp2_with fail
        refine hL.mono ?_
        rintro e w1 ⟨rfl, hb1⟩
        obtain ⟨w2, hW2⟩ : ∃ w2, w1.alloc (.cells #[.int .i64 vr, .int .i64 vk, .int .i64 vm, .int .i64 vv', .string vs', .int .i64 vl, .bool vg] 37) = w2 := ⟨_, rfl⟩
        have hb2 : Below wr.heap.size wr w2 := by rw [← hW2]; exact hb1.alloc hb1.size _
        have hrv : w2.heap[w1.heap.size]? = some (.cells #[.int .i64 vr, .int .i64 vk, .int .i64 vm, .int .i64 vv', .string vs', .int .i64 vl, .bool vg] 37) := by rw [← hW2]; exact heap_alloc_new w1 _
        have HW := Lib.hid hW2
        have cc0 := (hb2.cell (p := ⟨G, off + k * 2, none⟩) hGr).trans cc0
        have hbw2 := HB.out.2.trans (hb2.mono HB.out.2.size)
        have HB2 := Lib.hid (And.intro (HB.out.1.next hb2) (And.intro hbw2 (And.intro hrv (And.intro hb1.size (And.intro (fun q hq => HB.out.1.sp.lt (q := q) hq) HB.out.1.new)))))
        clear hL hW2 hb1 hb2 hbw2 hrv
        go_upto_region 7 with fail
        rw [HW.out]
        have hI2 := hI w2
        cases hq : Idx.begins x.k a with
        | false =>
          rw [hq] at hI2 hgk
          rw [Bool.false_and] at hgk
          have HP := Lib.hid hgk
          clear hgk hq hI
          go_wp2_with fail
          refine hI2.mono ?_
          rintro e w3 ⟨rfl, rfl⟩
          go_wp2
          go_roundw
          case rel => exact ⟨k + 1, hlt, by go_num, R, m, d, ls, rfl, by rw [HT.out, HP.out]; exact List.append_nil _, rfl, HML.out, by omega, HB2.out.1, HB2.out.2.1⟩
          case measure =>
            simp [intOf]
            omega
        | true =>
          rw [hq] at hI2 hgk
          rw [Bool.true_and] at hgk
          cases hq2 : ltS b x.k with
          | false =>
            rw [hq2] at hgk
            have e5 : (Op.bytesLess x.k.toList b.toList || x.k.toList == b.toList) = true := by rw [le_is, hq2]; rfl
            have HP := Lib.hid hgk
            clear hgk hq hI hq2
            go_wp2_with fail
            refine hI2.mono ?_
            rintro e w3 ⟨rfl, rfl⟩
            go_wp2
            go_roundw
            case rel => exact ⟨k + 1, hlt, by go_num, R, m, d, ls, rfl, by rw [HT.out, HP.out]; exact List.append_nil _, rfl, HML.out, by omega, HB2.out.1, HB2.out.2.1⟩
            case measure =>
              simp [intOf]
              omega
          | true =>
            rw [hq2] at hgk
            have e5 : (Op.bytesLess x.k.toList b.toList || x.k.toList == b.toList) = false := by rw [le_is, hq2]; rfl
            have HP := Lib.hid hgk
            have HTM := Lib.hid (take_more ls (x.k, (⟨vr, vk, vm, vv', vs', vl, vg⟩ : Ver)) mo)
            have hmt : (ls.take mo).length = min mo ls.length := List.length_take
            clear hgk hq hI hq2
            go_wp2_with fail
            refine hI2.mono ?_
            rintro e w3 ⟨rfl, rfl⟩
            clear hI2
            by_cases hfull : ls.length < mo
            · have e1 : decide ((m : Int) < most) = true := decide_eq_true (by rw [HML.out, hmt]; omega)
              have e6 : decide (ls.length ≤ mo) = true := decide_eq_true (by omega)
              have e7 : decide (ls.length + 1 ≤ mo) = true := decide_eq_true (by omega)
              have hM := Lib.hid (And.intro hfull (And.intro hlk hmt))
              have HE6 := Lib.hid (And.intro e6 e7)
              clear hfull hmt e6 e7
              go_upto_region 9 with fail
              obtain ⟨v0, v1, v2, v3, v4, v5, v6⟩ := (row7 HB2.out.2.2.1).1
              refine wp_region_held_drew (S := (fun w' => w'.cell? ⟨G, off + k * 2, none⟩ = some (.string x.k) ∧ w'.cell? ⟨w1.heap.size, 0, none⟩ = some (.int .i64 vr) ∧ w'.cell? ⟨w1.heap.size, 1, none⟩ = some (.int .i64 vk) ∧ w'.cell? ⟨w1.heap.size, 2, none⟩ = some (.int .i64 vm) ∧ w'.cell? ⟨w1.heap.size, 3, none⟩ = some (.int .i64 vv') ∧ w'.cell? ⟨w1.heap.size, 4, none⟩ = some (.string vs') ∧ w'.cell? ⟨w1.heap.size, 5, none⟩ = some (.int .i64 vl) ∧ w'.cell? ⟨w1.heap.size, 6, none⟩ = some (.bool vg))) (by kernel_rfl) ⟨cc0, v0, v1, v2, v3, v4, v5, v6⟩ (fun hHeld => ?_)
              refine lsq 11 ?_
              refine tkq 0 ?_
              refine tkq 1 ?_
              refine tkq 2 ?_
              refine tkq 3 ?_
              refine tkq 4 ?_
              refine tkq 5 ?_
              refine tkq 6 ?_
              refine tkq 7 ?_
              refine rdq1 8 fun KK hK => ?_
              go_simp
              obtain ⟨w4, hW4⟩ : ∃ w4, (w3.alloc (.cells #[.string x.k, .int .i64 vr, .int .i64 vk, .int .i64 vm, .int .i64 vv', .string vs', .int .i64 vl, .bool vg] 62)).drew = w4 := ⟨_, rfl⟩
              have hb4 : Below w3.heap.size w3 w4 := by rw [← hW4]; exact ((Below.refl _ _).alloc (Nat.le_refl _) _).drew
              have hr4 : w4.heap[w3.heap.size]? = some (.cells #[.string x.k, .int .i64 vr, .int .i64 vk, .int .i64 vm, .int .i64 vv', .string vs', .int .i64 vl, .bool vg] 62) := by rw [← hW4]; exact heap_alloc_new w3 _
              rw [hW4]
              have hS4 : ∀ W, (∀ q, q = G ∨ q = w1.heap.size → W.heap[q]? = w3.heap[q]?) → (fun w' : World => w'.cell? ⟨G, off + k * 2, none⟩ = some (.string x.k) ∧ w'.cell? ⟨w1.heap.size, 0, none⟩ = some (.int .i64 vr) ∧ w'.cell? ⟨w1.heap.size, 1, none⟩ = some (.int .i64 vk) ∧ w'.cell? ⟨w1.heap.size, 2, none⟩ = some (.int .i64 vm) ∧ w'.cell? ⟨w1.heap.size, 3, none⟩ = some (.int .i64 vv') ∧ w'.cell? ⟨w1.heap.size, 4, none⟩ = some (.string vs') ∧ w'.cell? ⟨w1.heap.size, 5, none⟩ = some (.int .i64 vl) ∧ w'.cell? ⟨w1.heap.size, 6, none⟩ = some (.bool vg)) W := fun W hW =>
                ⟨(World.cell?_of_block (hW G (.inl rfl))).trans cc0, (World.cell?_of_block (hW _ (.inr rfl))).trans v0, (World.cell?_of_block (hW _ (.inr rfl))).trans v1, (World.cell?_of_block (hW _ (.inr rfl))).trans v2, (World.cell?_of_block (hW _ (.inr rfl))).trans v3, (World.cell?_of_block (hW _ (.inr rfl))).trans v4, (World.cell?_of_block (hW _ (.inr rfl))).trans v5, (World.cell?_of_block (hW _ (.inr rfl))).trans v6⟩
              have hlo := Go.Proofs.Ytcoddkbbgmjckaa.hlt HB2.out.2.2.1
              have hGw := Nat.lt_of_lt_of_le hG HB2.out.2.1.size
              refine hK.out _ _ (hS4 w4 fun q hq => hb4.block q (by rcases hq with rfl | rfl <;> assumption)) ?_
              clear hK KK hHeld
              intro hHeld
              try simp only [lpq]
              refine rdq1 9 fun KK hK => ?_
              refine step_append_sp elem_item _ (by rfl) _ _ (by rfl) R m d (rowI (ls.take mo)) (by rfl) (HB2.out.1.sp.keep fun q hq => hb4.block q (HB2.out.1.sp.lt hq)) (some ⟨w3.heap.size, 0, none⟩) 1 1 (itemC (x.k, ⟨vr, vk, vm, vv', vs', vl, vg⟩)) (by rfl) (fun e => by cases e) rfl (itemC_one _) (fun b e => by cases e; exact cells_lit (C := itemC (x.k, ⟨vr, vk, vm, vv', vs', vl, vg⟩)) hr4) (by have := HML.out; have := hM.out.2.2; omega) ?_
              intro A8 c8 w8 hsp8 hA8 hg8
              have hP := HB2.out.1.push HB2.out.2.1 hb4 hg8 hsp8 hA8
              refine hK.out _ _ (hS4 w8 fun q hq => (hg8.block q (by have := hb4.size; rcases hq with rfl | rfl <;> omega) (fun e => by
                rcases hq with rfl | rfl
                · have := HB2.out.2.2.2.2.2 _ e; omega
                · have := HB2.out.2.2.2.2.1 _ e; have := HB2.out.2.2.2.1; omega)).trans (hb4.block q (by rcases hq with rfl | rfl <;> assumption))) ?_
              clear hK KK hHeld hS4 hb4 hr4 hW4 hsp8 hA8 hg8
              intro hHeld
              try simp only [lpq]
              refine tkq 10 ?_
              refine dnq ?_
              have HPP := Lib.hid hP
              clear hP hHeld cc0 v0 v1 v2 v3 v4 v5 v6
              go_wp2
              go_roundw
              case rel => exact ⟨k + 1, hlt, by go_num, A8, m + 1, c8, ls ++ [(x.k, ⟨vr, vk, vm, vv', vs', vl, vg⟩)], rfl, by rw [HT.out, HP.out]; rfl, by rw [List.length_append]; show _ = Value.bool (decide (ls.length + 1 ≤ mo)); rw [HE6.out.2, HE6.out.1], by rw [HTM.out, if_pos hM.out.1, List.length_append, HML.out]; rfl, by rw [List.length_append]; have := hM.out.2.1; simp; omega, by rw [HTM.out, if_pos hM.out.1]; unfold OwnI; rw [rowI_add]; exact HPP.out.1, HPP.out.2⟩
              case measure =>
                simp [intOf]
                omega
            · have e1 : decide ((m : Int) < most) = false := decide_eq_false (by rw [HML.out, hmt]; omega)
              have HE7 := Lib.hid (show decide (ls.length + 1 ≤ mo) = false from decide_eq_false (by omega))
              have hM := Lib.hid (And.intro hfull (And.intro hlk hmt))
              clear hfull hmt
              go_wp2
              go_roundw
              case rel => exact ⟨k + 1, hlt, by go_num, R, m, d, ls ++ [(x.k, ⟨vr, vk, vm, vv', vs', vl, vg⟩)], rfl, by rw [HT.out, HP.out]; rfl, by rw [List.length_append]; show _ = Value.bool (decide (ls.length + 1 ≤ mo)); rw [HE7.out], by rw [HTM.out, if_neg hM.out.1]; exact HML.out, by rw [List.length_append]; have := hM.out.2.1; simp; omega, by rw [HTM.out, if_neg hM.out.1]; exact HB2.out.1, HB2.out.2.1⟩
              case measure =>
                simp [intOf]
                omega
    · obtain rfl : n = k := by omega
      rw [List.take_of_length_le (by omega)] at hls
      have HF := Lib.hid (And.intro hls (And.intro HML.out HB.out))
      clear hls
      go_wp2
      refine bodyPost_ret (results_tmp2 rfl _ _ _) rfl ?_
      refine ⟨R, m, d, ?_, ?_, ?_, HF.out.2.2.2⟩
      · rw [HE.out.1, HF.out.1]; rfl
      · rw [HE.out.1, HF.out.1]; exact HF.out.2.2.1
      · rw [HE.out.1, HF.out.1]; exact HF.out.2.1

end Go.Proofs.Ytcoddkbbgmjckaa
