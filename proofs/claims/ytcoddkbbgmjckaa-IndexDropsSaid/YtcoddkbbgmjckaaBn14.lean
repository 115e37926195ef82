/- The document's At, by its contract. (Written by mkat.py.) -/
import Derived.Test.YtcoddkbbgmjckaaBn13
import Derived.Test.YtcoddkbbgmjckaaBn05
import Derived.Test.YtcoddkbbgmjckaaBn02
namespace Go.Proofs.Ytcoddkbbgmjckaa
open Go.RowKit
set_option linter.unusedVariables false
set_option linter.unusedSimpArgs false
attribute [local go_sem] Oper.semAt_some

theorem fm_take {α β : Type} {l : List α} (g : α → Option β) {k : Nat} (hk : k < l.length) : (l.take (k + 1)).filterMap g = (l.take k).filterMap g ++ (g l[k]).toList := by
  have e : [l[k]].filterMap g = (g l[k]).toList := by cases h : g l[k] <;> simp [h]
  rw [List.take_succ_eq_append_getElem hk, List.filterMap_append, e]

theorem take_more {α : Type} (L : List α) (y : α) (mo : Nat) : (L ++ [y]).take mo = if L.length < mo then L.take mo ++ [y] else L.take mo := by
  by_cases h : L.length < mo
  · rw [if_pos h, List.take_of_length_le (by rw [List.length_append]; exact h), List.take_of_length_le (by omega)]
  · rw [if_neg h, List.take_append_of_le_length (by omega)]

/-- Items in a row of a call's own. -/
abbrev OwnI (w0 w : World) (R : Option Addr) (n c : Nat) (ls : List (ByteArray × Ver)) : Prop := OwnR 62 8 w0 w R n c (rowI ls)

set_option maxRecDepth 100000 in
set_option maxHeartbeats 6400000 in
theorem atR15_any (A : Option Addr) (n cap : Nat) (xs : List KLay) (a b : ByteArray) (r most : Int) (w : World) (h : IxG w A n cap xs) (ha : a.size ≤ maxLen) (hb : b.size ≤ maxLen) :
    Calls Try.prog 28 #[.slice A n cap, .string a, .string b, .int .i64 r, .int .i64 most] w fun e w' => ∃ R m d, e = .returned (.tuple #[.slice R m d, .int .i64 ((Idx.atI (khs xs) a b r most).2 : Int)]) ∧ OwnI w w' R m d (Idx.atI (khs xs) a b r most).1 ∧ m = (Idx.atI (khs xs) a b r most).1.length ∧ Below w.heap.size w w' := by
  have hll := h.ix.len
  have hfew := h.few
  have hin := fun W x (hx : x ∈ xs) => inR_any a b x.k ha hb (h.key hx) W
  have hat := fun W x (hx : x ∈ xs) (hW : Below w.heap.size w W) => atR_any x.B x.h.length x.c x.h r W ((h.ix.vs x hx).below hW) (by have := h.len x hx; omega)
  obtain ⟨g, hg⟩ : ∃ g : KLay → Option (ByteArray × Ver), g = fun x => Idx.itemO r (Idx.inB a b) x.kh := ⟨_, rfl⟩
  have hgx : ∀ x : KLay, g x = match His.atL x.h r with | none => none | some v => if Idx.inB a b x.k = true then some (x.k, v) else none := fun x => by rw [hg]; rfl
  have hit : Idx.itemsI (khs xs) r (Idx.inB a b) = xs.filterMap g := by unfold Idx.itemsI khs; rw [List.filterMap_map, hg]; rfl
  have hend : Idx.atI (khs xs) a b r most = ((xs.filterMap g).take most.toNat, (xs.filterMap g).length) := by unfold Idx.atI; rw [hit]
  obtain ⟨mo, hmo⟩ : ∃ mo, most.toNat = mo := ⟨_, rfl⟩
  rw [hmo] at hend
  have HV := Lib.hid h.ix
  have HI := Lib.hid hin
  have HL := Lib.hid hat
  have HE := Lib.hid (And.intro hend hgx)
  clear h ha hb hin hat hg hgx hit hend
  go_enter Try.func28, Try.ntmps28
  go_wp2_with fail
  go_loopw [12, 13, 19] (fun v12 v13 v19 wr => ∃ k : Nat, k ≤ n ∧ v19 = .int .i64 (k : Int) ∧ ∃ R m d ls, v12 = .slice R m d ∧ (xs.take k).filterMap g = ls ∧ v13 = .int .i64 (ls.length : Int) ∧ m = (ls.take mo).length ∧ ls.length ≤ k ∧ OwnI w wr R m d (ls.take mo) ∧ Below w.heap.size w wr) (fun _ _ v19 _ => n - (intOf v19).toNat)
  case atStart => exact ⟨0, Nat.zero_le _, rfl, none, 0, 0, [], rfl, rfl, rfl, by simp, Nat.le_refl _, by rw [List.take_nil]; exact OwnR.none _ _ _ _, Below.refl _ _⟩
  case round =>
    obtain ⟨k, hk, rfl, R, m, d, ls, rfl, hls, rfl, hml, hlk, hO, hb⟩ := hrel
    have HB := Lib.hid (And.intro hO hb)
    have HML := Lib.hid hml
    clear hO hb hml
    by_cases hlt : k < n
    · have l1 : decide ((k : Int) < (n : Int)) = true := decide_eq_true (by omega)
      obtain ⟨G, off, rfl, hG, c0, c1⟩ := (HV.out.at_ k hlt)
      have hGr := Nat.lt_of_lt_of_le hG HB.out.2.size
      have hmem : xs[k]'(by omega) ∈ xs := List.getElem_mem _
      have hI := fun W => HI.out W _ hmem
      have hL := HL.out wr _ hmem HB.out.2
      have htf := fm_take g (show k < xs.length by omega)
      have hgk := HE.out.2 (xs[k]'(by omega))
      obtain ⟨x, hx⟩ : ∃ x, xs[k]'(by omega) = x := ⟨_, rfl⟩
      rw [hx] at c0 c1 htf hL hgk
      have hI : ∀ W, Calls _ _ _ W _ := fun W => by have := hI W; rw [hx] at this; exact this
      rw [hls] at htf
      have HT := Lib.hid htf
      have HC := Lib.hid (And.intro c0 c1)
      have cc0 := (HB.out.2.cell (p := ⟨G, off + k * 2, none⟩) hG).trans c0
      have cc1 := (HB.out.2.cell (p := ⟨G, off + k * 2 + 1, none⟩) hG).trans c1
      unfold atV at hL
      generalize His.atL x.h r = o at *
      clear hx htf hmem hls c0 c1
      cases o with
      | none =>
        dsimp only [verV, His.none_, Option.getD, Option.isSome] at hL hgk
        have HP := Lib.hid hgk
        clear hgk hI
        go_wp2_with fail
        refine hL.mono ?_
        rintro e w1 ⟨rfl, hb1⟩
        have HB2 := Lib.hid (And.intro (HB.out.1.next (hb1.alloc hb1.size (.cells #[.int .i64 0, .int .i64 0, .int .i64 0, .int .i64 0, .string ⟨#[]⟩, .int .i64 0, .bool false] 37))) (HB.out.2.trans ((hb1.alloc hb1.size (.cells #[.int .i64 0, .int .i64 0, .int .i64 0, .int .i64 0, .string ⟨#[]⟩, .int .i64 0, .bool false] 37)).mono HB.out.2.size)))
        clear hL hb1
        go_wp2
        go_roundw
        case rel => exact ⟨k + 1, hlt, by go_num, R, m, d, ls, rfl, by rw [HT.out, HP.out]; exact List.append_nil _, rfl, HML.out, by omega, HB2.out.1, HB2.out.2⟩
        case measure =>
          simp [intOf]
          omega
      | some vv =>
        obtain ⟨vr, vk, vm, vv', vs', vl, vg⟩ := vv
        dsimp only [verV, Option.getD, Option.isSome] at hL hgk
        go_wp2_with fail
        refine hL.mono ?_
        rintro e w1 ⟨rfl, hb1⟩
        obtain ⟨w2, hW2⟩ : ∃ w2, w1.alloc (.cells #[.int .i64 vr, .int .i64 vk, .int .i64 vm, .int .i64 vv', .string vs', .int .i64 vl, .bool vg] 37) = w2 := ⟨_, rfl⟩
        have hb2 : Below wr.heap.size wr w2 := by rw [← hW2]; exact hb1.alloc hb1.size _
        have hrv : w2.heap[w1.heap.size]? = some (.cells #[.int .i64 vr, .int .i64 vk, .int .i64 vm, .int .i64 vv', .string vs', .int .i64 vl, .bool vg] 37) := by rw [← hW2]; exact heap_alloc_new w1 _
        have HW := Lib.hid hW2
        have cc0 := (hb2.cell (p := ⟨G, off + k * 2, none⟩) hGr).trans cc0
        have hbw2 := HB.out.2.trans (hb2.mono HB.out.2.size)
        have HB2 := Lib.hid (And.intro (HB.out.1.next hb2) (And.intro hbw2 (And.intro hrv (And.intro hb1.size (And.intro (fun q hq => HB.out.1.sp.lt (q := q) hq) HB.out.1.new)))))
        clear hL hW2 hb1 hb2 hbw2 hrv
        go_upto_region 7 with fail
        rw [HW.out]
        have hI2 := hI w2
        cases hq : Idx.inB a b x.k with
        | false =>
          rw [hq] at hI2 hgk
          have HP := Lib.hid hgk
          clear hgk hq hI
          go_wp2_with fail
          refine hI2.mono ?_
          rintro e w3 ⟨rfl, rfl⟩
          go_wp2
          go_roundw
          case rel => exact ⟨k + 1, hlt, by go_num, R, m, d, ls, rfl, by rw [HT.out, HP.out]; exact List.append_nil _, rfl, HML.out, by omega, HB2.out.1, HB2.out.2.1⟩
          case measure =>
            simp [intOf]
            omega
        | true =>
          rw [hq] at hI2 hgk
          have HP := Lib.hid hgk
          have HTM := Lib.hid (take_more ls (x.k, (⟨vr, vk, vm, vv', vs', vl, vg⟩ : Ver)) mo)
          have y1 : IntKind.i64.wrap ((ls.length : Int) + 1) = (ls.length : Int) + 1 := IntWalk.i64_in _ (by omega)
          have hmt : (ls.take mo).length = min mo ls.length := List.length_take
          clear hgk hq hI
          go_wp2_with fail
          refine hI2.mono ?_
          rintro e w3 ⟨rfl, rfl⟩
          clear hI2
          by_cases hfull : ls.length < mo
          · have e1 : decide ((m : Int) < most) = true := decide_eq_true (by rw [HML.out, hmt]; omega)
            have hM := Lib.hid (And.intro hfull (And.intro hlk hmt))
            clear hfull hmt
            go_upto_region 10 with fail
            obtain ⟨v0, v1, v2, v3, v4, v5, v6⟩ := (row7 HB2.out.2.2.1).1
            refine wp_region_held_drew (S := (fun w' => w'.cell? ⟨G, off + k * 2, none⟩ = some (.string x.k) ∧ w'.cell? ⟨w1.heap.size, 0, none⟩ = some (.int .i64 vr) ∧ w'.cell? ⟨w1.heap.size, 1, none⟩ = some (.int .i64 vk) ∧ w'.cell? ⟨w1.heap.size, 2, none⟩ = some (.int .i64 vm) ∧ w'.cell? ⟨w1.heap.size, 3, none⟩ = some (.int .i64 vv') ∧ w'.cell? ⟨w1.heap.size, 4, none⟩ = some (.string vs') ∧ w'.cell? ⟨w1.heap.size, 5, none⟩ = some (.int .i64 vl) ∧ w'.cell? ⟨w1.heap.size, 6, none⟩ = some (.bool vg))) (by kernel_rfl) ⟨cc0, v0, v1, v2, v3, v4, v5, v6⟩ (fun hHeld => ?_)
            refine lsq 11 ?_
            refine tkq 0 ?_
            refine tkq 1 ?_
            refine tkq 2 ?_
            refine tkq 3 ?_
            refine tkq 4 ?_
            refine tkq 5 ?_
            refine tkq 6 ?_
            refine tkq 7 ?_
            refine rdq1 8 fun KK hK => ?_
            go_simp
            obtain ⟨w4, hW4⟩ : ∃ w4, (w3.alloc (.cells #[.string x.k, .int .i64 vr, .int .i64 vk, .int .i64 vm, .int .i64 vv', .string vs', .int .i64 vl, .bool vg] 62)).drew = w4 := ⟨_, rfl⟩
            have hb4 : Below w3.heap.size w3 w4 := by rw [← hW4]; exact ((Below.refl _ _).alloc (Nat.le_refl _) _).drew
            have hr4 : w4.heap[w3.heap.size]? = some (.cells #[.string x.k, .int .i64 vr, .int .i64 vk, .int .i64 vm, .int .i64 vv', .string vs', .int .i64 vl, .bool vg] 62) := by rw [← hW4]; exact heap_alloc_new w3 _
            rw [hW4]
            have hS4 : ∀ W, (∀ q, q = G ∨ q = w1.heap.size → W.heap[q]? = w3.heap[q]?) → (fun w' : World => w'.cell? ⟨G, off + k * 2, none⟩ = some (.string x.k) ∧ w'.cell? ⟨w1.heap.size, 0, none⟩ = some (.int .i64 vr) ∧ w'.cell? ⟨w1.heap.size, 1, none⟩ = some (.int .i64 vk) ∧ w'.cell? ⟨w1.heap.size, 2, none⟩ = some (.int .i64 vm) ∧ w'.cell? ⟨w1.heap.size, 3, none⟩ = some (.int .i64 vv') ∧ w'.cell? ⟨w1.heap.size, 4, none⟩ = some (.string vs') ∧ w'.cell? ⟨w1.heap.size, 5, none⟩ = some (.int .i64 vl) ∧ w'.cell? ⟨w1.heap.size, 6, none⟩ = some (.bool vg)) W := fun W hW =>
              ⟨(World.cell?_of_block (hW G (.inl rfl))).trans cc0, (World.cell?_of_block (hW _ (.inr rfl))).trans v0, (World.cell?_of_block (hW _ (.inr rfl))).trans v1, (World.cell?_of_block (hW _ (.inr rfl))).trans v2, (World.cell?_of_block (hW _ (.inr rfl))).trans v3, (World.cell?_of_block (hW _ (.inr rfl))).trans v4, (World.cell?_of_block (hW _ (.inr rfl))).trans v5, (World.cell?_of_block (hW _ (.inr rfl))).trans v6⟩
            have hlo := Go.Proofs.Ytcoddkbbgmjckaa.hlt HB2.out.2.2.1
            have hGw := Nat.lt_of_lt_of_le hG HB2.out.2.1.size
            refine hK.out _ _ (hS4 w4 fun q hq => hb4.block q (by rcases hq with rfl | rfl <;> assumption)) ?_
            clear hK KK hHeld
            intro hHeld
            try simp only [lpq]
            refine rdq1 9 fun KK hK => ?_
            refine step_append_sp elem_item _ (by rfl) _ _ (by rfl) R m d (rowI (ls.take mo)) (by rfl) (HB2.out.1.sp.keep fun q hq => hb4.block q (HB2.out.1.sp.lt hq)) (some ⟨w3.heap.size, 0, none⟩) 1 1 (itemC (x.k, ⟨vr, vk, vm, vv', vs', vl, vg⟩)) (by rfl) (fun e => by cases e) rfl (itemC_one _) (fun b e => by cases e; exact cells_lit (C := itemC (x.k, ⟨vr, vk, vm, vv', vs', vl, vg⟩)) hr4) (by have := HML.out; have := hM.out.2.2; omega) ?_
            intro A8 c8 w8 hsp8 hA8 hg8
            have hP := HB2.out.1.push HB2.out.2.1 hb4 hg8 hsp8 hA8
            refine hK.out _ _ (hS4 w8 fun q hq => (hg8.block q (by have := hb4.size; rcases hq with rfl | rfl <;> omega) (fun e => by
              rcases hq with rfl | rfl
              · have := HB2.out.2.2.2.2.2 _ e; omega
              · have := HB2.out.2.2.2.2.1 _ e; have := HB2.out.2.2.2.1; omega)).trans (hb4.block q (by rcases hq with rfl | rfl <;> assumption))) ?_
            clear hK KK hHeld hS4 hb4 hr4 hW4 hsp8 hA8 hg8
            intro hHeld
            try simp only [lpq]
            refine tkq 10 ?_
            refine dnq ?_
            have HPP := Lib.hid hP
            clear hP hHeld cc0 v0 v1 v2 v3 v4 v5 v6
            go_wp2
            go_roundw
            case rel => exact ⟨k + 1, hlt, by go_num, A8, m + 1, c8, ls ++ [(x.k, ⟨vr, vk, vm, vv', vs', vl, vg⟩)], rfl, by rw [HT.out, HP.out]; rfl, by rw [List.length_append]; rfl, by rw [HTM.out, if_pos hM.out.1, List.length_append, HML.out]; rfl, by rw [List.length_append]; have := hM.out.2.1; simp; omega, by rw [HTM.out, if_pos hM.out.1]; unfold OwnI; rw [rowI_add]; exact HPP.out.1, HPP.out.2⟩
            case measure =>
              simp [intOf]
              omega
          · have e1 : decide ((m : Int) < most) = false := decide_eq_false (by rw [HML.out, hmt]; omega)
            have hM := Lib.hid (And.intro hfull (And.intro hlk hmt))
            clear hfull hmt
            go_wp2
            go_roundw
            case rel => exact ⟨k + 1, hlt, by go_num, R, m, d, ls ++ [(x.k, ⟨vr, vk, vm, vv', vs', vl, vg⟩)], rfl, by rw [HT.out, HP.out]; rfl, by rw [List.length_append]; rfl, by rw [HTM.out, if_neg hM.out.1]; exact HML.out, by rw [List.length_append]; have := hM.out.2.1; simp; omega, by rw [HTM.out, if_neg hM.out.1]; exact HB2.out.1, HB2.out.2.1⟩
            case measure =>
              simp [intOf]
              omega
    · obtain rfl : n = k := by omega
      rw [List.take_of_length_le (by omega)] at hls
      have HF := Lib.hid (And.intro hls (And.intro HML.out HB.out))
      clear hls
      go_wp2
      refine bodyPost_ret (results_tmp2 rfl _ _ _) rfl ?_
      refine ⟨R, m, d, ?_, ?_, ?_, HF.out.2.2.2⟩
      · rw [HE.out.1, HF.out.1]; rfl
      · rw [HE.out.1, HF.out.1]; exact HF.out.2.2.1
      · rw [HE.out.1, HF.out.1]; exact HF.out.2.1

end Go.Proofs.Ytcoddkbbgmjckaa

namespace Go.Proofs.Ytcoddkbbgmjckaa
set_option linter.unusedVariables false

namespace Idx
open His

/-- Sorted lists of the same things are the same. -/
theorem same_sorted {α : Type} (lt : α → α → Prop) (irr : ∀ a, ¬ lt a a) (tr : ∀ {a b c}, lt a b → lt b c → lt a c) : ∀ {a b : List α}, a.Pairwise lt → b.Pairwise lt → (∀ x, x ∈ a ↔ x ∈ b) → a = b
  | [], [], _, _, _ => rfl
  | [], y :: b, _, _, h => absurd ((h y).2 (List.mem_cons_self ..)) (by simp)
  | x :: a, [], _, _, h => absurd ((h x).1 (List.mem_cons_self ..)) (by simp)
  | x :: a, y :: b, ha, hb, h => by
    obtain ⟨xa, ha'⟩ := List.pairwise_cons.1 ha
    obtain ⟨yb, hb'⟩ := List.pairwise_cons.1 hb
    have e : x = y := by
      rcases List.mem_cons.1 ((h x).1 (List.mem_cons_self ..)) with e | h1
      · exact e
      · rcases List.mem_cons.1 ((h y).2 (List.mem_cons_self ..)) with e | h2
        · exact e.symm
        · exact absurd (tr (yb x h1) (xa y h2)) (irr y)
    subst e
    congr 1
    refine same_sorted lt irr tr ha' hb' fun z => ⟨fun hz => ?_, fun hz => ?_⟩
    · rcases List.mem_cons.1 ((h z).1 (List.mem_cons_of_mem _ hz)) with rfl | h1
      · exact absurd (xa z hz) (irr z)
      · exact h1
    · rcases List.mem_cons.1 ((h z).2 (List.mem_cons_of_mem _ hz)) with rfl | h1
      · exact absurd (yb z hz) (irr z)
      · exact h1

def KLt {β : Type} (a b : ByteArray × β) : Prop := ltS a.1 b.1 = true
theorem KLt.irr {β : Type} (a : ByteArray × β) : ¬ KLt a a := fun h => ltS_irr' h
theorem KLt.tr {β : Type} {a b c : ByteArray × β} (h : KLt a b) (k : KLt b c) : KLt a c := ltS_trans h k

theorem same_keys {β : Type} {a b : List (ByteArray × β)} (ha : a.Pairwise KLt) (hb : b.Pairwise KLt) (h : ∀ x, x ∈ a ↔ x ∈ b) : a = b := same_sorted KLt KLt.irr KLt.tr ha hb h

theorem at_nil (r : Int) : atL [] r = none := rfl

theorem mem_of_get {l : List KH} {k : ByteArray} (h : getL l k ≠ []) : (k, getL l k) ∈ l := by
  rcases get_cases (l := l) k with ⟨p, hp, rfl, e⟩ | ⟨_, e⟩
  · rw [e]; exact hp
  · exact absurd e h

/- items -/
theorem items_sorted {l : List KH} (h : Wf l) (r : Int) (f : ByteArray → Bool) : (itemsI l r f).Pairwise KLt := by
  unfold itemsI
  refine List.Pairwise.filterMap (itemO r f) ?_ h.up
  intro a b hab x hx y hy
  unfold itemO at hx hy
  split at hx
  · cases hx
  · split at hx
    · cases hx
      split at hy
      · cases hy
      · split at hy
        · cases hy
          exact hab
        · cases hy
    · cases hx

theorem items_mem {l : List KH} (h : Wf l) (r : Int) (f : ByteArray → Bool) (k : ByteArray) (v : Ver) : (k, v) ∈ itemsI l r f ↔ f k = true ∧ atL (getL l k) r = some v := by
  unfold itemsI
  rw [List.mem_filterMap]
  constructor
  · rintro ⟨p, hp, e⟩
    unfold itemO at e
    split at e
    · cases e
    · rename_i u hu
      split at e
      · injection e with e
        injection e with e1 e2
        subst e1 e2
        rw [get_mem h.up hp]
        exact ⟨by assumption, hu⟩
      · cases e
  · rintro ⟨h1, h2⟩
    have hne : getL l k ≠ [] := fun e => by rw [e] at h2; cases h2
    refine ⟨_, mem_of_get hne, ?_⟩
    unfold itemO
    dsimp only
    rw [h2]
    dsimp only
    rw [if_pos h1]

theorem items_same {a b : List KH} (ha : Wf a) (hb : Wf b) {r s : Int} {f g : ByteArray → Bool} (h : ∀ k v, (f k = true ∧ atL (getL a k) r = some v) ↔ (g k = true ∧ atL (getL b k) s = some v)) : itemsI a r f = itemsI b s g :=
  same_keys (items_sorted ha r f) (items_sorted hb s g) fun ⟨k, v⟩ => by rw [items_mem ha, items_mem hb]; exact h k v

theorem items_len (l : List KH) (r : Int) (f : ByteArray → Bool) : (itemsI l r f).length ≤ l.length := List.length_filterMap_le ..

/- revisions -/
theorem ins_mem (o : List Int) (r x : Int) : x ∈ insR o r ↔ x = r ∨ x ∈ o := by
  unfold insR
  rw [List.mem_append, List.mem_cons, List.mem_filter, List.mem_filter]
  constructor
  · rintro (h | h | h)
    · exact .inr h.1
    · exact .inl h
    · exact .inr h.1
  · rintro (h | h)
    · exact .inr (.inl h)
    · by_cases h1 : x < r
      · exact .inl ⟨h, by simpa using h1⟩
      · by_cases h2 : r < x
        · exact .inr (.inr ⟨h, by simpa using h2⟩)
        · exact .inr (.inl (by omega))

theorem ins_sorted {o : List Int} (h : o.Pairwise (· < ·)) (r : Int) : (insR o r).Pairwise (· < ·) := by
  unfold insR
  refine List.pairwise_append.2 ⟨h.sublist List.filter_sublist, List.pairwise_cons.2 ⟨fun x hx => by simpa using (List.mem_filter.1 hx).2, h.sublist List.filter_sublist⟩, fun a ha b hb => ?_⟩
  have h1 : a < r := by simpa using (List.mem_filter.1 ha).2
  rcases List.mem_cons.1 hb with rfl | hb
  · exact h1
  · have h2 : r < b := by simpa using (List.mem_filter.1 hb).2
    omega

theorem fold_ins : ∀ (l o : List Int), o.Pairwise (· < ·) → (l.foldl insR o).Pairwise (· < ·) ∧ ∀ x, x ∈ l.foldl insR o ↔ x ∈ l ∨ x ∈ o
  | [], o, h => ⟨h, fun x => by simp⟩
  | r :: l, o, h => by
    obtain ⟨h1, h2⟩ := fold_ins l (insR o r) (ins_sorted h r)
    refine ⟨h1, fun x => ?_⟩
    show x ∈ l.foldl insR (insR o r) ↔ _
    rw [h2, ins_mem, List.mem_cons]
    constructor
    · rintro (h | h | h)
      · exact .inl (.inr h)
      · exact .inl (.inl h)
      · exact .inr h
    · rintro ((h | h) | h)
      · exact .inr (.inl h)
      · exact .inl h
      · exact .inr (.inr h)

theorem revs_sorted (l : List KH) : (revsI l).Pairwise (· < ·) := (fold_ins _ [] List.Pairwise.nil).1
theorem revs_mem (l : List KH) (r : Int) : r ∈ revsI l ↔ ∃ p ∈ l, ∃ v ∈ p.2, v.r = r := by
  unfold revsI
  rw [(fold_ins _ [] List.Pairwise.nil).2]
  simp [List.mem_flatMap, List.mem_map]

/- batches -/
theorem bat_mem {l : List KH} (h : Wf l) (f : ByteArray → Bool) (r : Int) (k : ByteArray) (v : Ver) : (k, v) ∈ batL l f r ↔ f k = true ∧ v ∈ getL l k ∧ v.r = r := by
  unfold batL
  rw [List.mem_flatMap]
  constructor
  · rintro ⟨p, hp, h1⟩
    obtain ⟨u, hu, e⟩ := List.mem_map.1 h1
    injection e with e1 e2
    subst e1 e2
    obtain ⟨h2, h3⟩ := List.mem_filter.1 hu
    rw [Bool.and_eq_true, decide_eq_true_eq] at h3
    rw [get_mem h.up hp]
    exact ⟨h3.2, h2, h3.1⟩
  · rintro ⟨h1, h2, h3⟩
    have hne : getL l k ≠ [] := fun e => by rw [e] at h2; cases h2
    refine ⟨_, mem_of_get hne, List.mem_map.2 ⟨v, List.mem_filter.2 ⟨h2, ?_⟩, rfl⟩⟩
    rw [Bool.and_eq_true, decide_eq_true_eq]
    exact ⟨h3, h1⟩

theorem rev_once {l : List Ver} (h : Right l) {u v : Ver} (hu : u ∈ l) (hv : v ∈ l) (e : u.r = v.r) : u = v := by
  obtain ⟨i, hi, rfl⟩ := List.getElem_of_mem hu
  obtain ⟨j, hj, rfl⟩ := List.getElem_of_mem hv
  have hp := List.pairwise_iff_getElem.1 h.up
  rcases Nat.lt_trichotomy i j with hij | hij | hij
  · have := (hp i j hi hj hij).1
    omega
  · subst hij
    rfl
  · have := (hp j i hj hi hij).1
    omega

theorem bat_sorted {l : List KH} (h : Wf l) (f : ByteArray → Bool) (r : Int) : (batL l f r).Pairwise KLt := by
  unfold batL
  induction l with
  | nil => exact List.Pairwise.nil
  | cons p l ih =>
    rw [List.flatMap_cons]
    refine List.pairwise_append.2 ⟨?_, ih h.tail, ?_⟩
    · have hr := h.right p (List.mem_cons_self ..)
      have hs : (p.2.filter fun v => decide (v.r = r) && f p.1).Pairwise Rises := hr.up.sublist List.filter_sublist
      have hall : ∀ v ∈ p.2.filter (fun v => decide (v.r = r) && f p.1), v.r = r := fun v hv => by
        have := (List.mem_filter.1 hv).2
        rw [Bool.and_eq_true, decide_eq_true_eq] at this
        exact this.1
      revert hs hall
      generalize p.2.filter (fun v => decide (v.r = r) && f p.1) = t
      intro hs hall
      cases t with
      | nil => exact List.Pairwise.nil
      | cons x t =>
        cases t with
        | nil => exact List.pairwise_singleton ..
        | cons y t =>
          have h1 := (List.pairwise_cons.1 hs).1 y (List.mem_cons_self ..)
          have h2 := hall x (List.mem_cons_self ..)
          have h3 := hall y (List.mem_cons_of_mem _ (List.mem_cons_self ..))
          have := h1.1
          omega
    · intro a ha b hb
      obtain ⟨u, _, rfl⟩ := List.mem_map.1 ha
      obtain ⟨q, hq, h2⟩ := List.mem_flatMap.1 hb
      obtain ⟨v, _, rfl⟩ := List.mem_map.1 h2
      exact (List.pairwise_cons.1 h.up).1 q hq

theorem bat_same {a b : List KH} (ha : Wf a) (hb : Wf b) {f g : ByteArray → Bool} {r : Int} (h : ∀ k v, v.r = r → ((f k = true ∧ v ∈ getL a k) ↔ (g k = true ∧ v ∈ getL b k))) : batL a f r = batL b g r :=
  same_keys (bat_sorted ha f r) (bat_sorted hb g r) fun ⟨k, v⟩ => by
    rw [bat_mem ha, bat_mem hb]
    constructor
    · rintro ⟨h1, h2, h3⟩
      have := (h k v h3).1 ⟨h1, h2⟩
      exact ⟨this.1, this.2, h3⟩
    · rintro ⟨h1, h2, h3⟩
      have := (h k v h3).2 ⟨h1, h2⟩
      exact ⟨this.1, this.2, h3⟩

def RLt (a b : Bat) : Prop := a.1 < b.1
theorem all_sorted (l : List KH) (f : ByteArray → Bool) (a b : Int) : (allI l f a b).Pairwise RLt := by
  unfold allI
  refine List.Pairwise.filterMap (batO l f a b) ?_ (revs_sorted l)
  intro x y hxy u hu v hv
  unfold batO at hu hv
  split at hu
  · cases hu
  · cases hu
    split at hv
    · cases hv
    · cases hv
      exact hxy

theorem all_mem {l : List KH} (h : Wf l) (f : ByteArray → Bool) (a b r : Int) (L : List (ByteArray × Ver)) : (r, L) ∈ allI l f a b ↔ a ≤ r ∧ r ≤ b ∧ L = batL l f r ∧ L ≠ [] := by
  unfold allI
  rw [List.mem_filterMap]
  constructor
  · rintro ⟨q, hq, e⟩
    unfold batO at e
    split at e
    · cases e
    · rename_i hc
      injection e with e
      injection e with e1 e2
      subst e1 e2
      exact ⟨by omega, by omega, rfl, fun e => hc (.inl e)⟩
  · rintro ⟨h1, h2, rfl, h4⟩
    refine ⟨r, (revs_mem l r).2 ?_, ?_⟩
    · obtain ⟨⟨k, v⟩, hx⟩ := List.exists_mem_of_ne_nil _ h4
      obtain ⟨_, h5, h6⟩ := (bat_mem h f r k v).1 hx
      have hne : getL l k ≠ [] := fun e => by rw [e] at h5; cases h5
      exact ⟨_, mem_of_get hne, v, h5, h6⟩
    · unfold batO
      rw [if_neg]
      rintro (e | e | e)
      · exact h4 e
      · omega
      · omega

theorem all_same {x y : List KH} (hx : Wf x) (hy : Wf y) {f g : ByteArray → Bool} {a b : Int} (h : ∀ r, a ≤ r → r ≤ b → batL x f r = batL y g r) : allI x f a b = allI y g a b :=
  same_sorted RLt (fun a h => Int.lt_irrefl _ h) (fun h k => Int.lt_trans h k) (all_sorted ..) (all_sorted ..) fun ⟨r, L⟩ => by
    rw [all_mem hx, all_mem hy]
    constructor
    · rintro ⟨h1, h2, h3, h4⟩
      exact ⟨h1, h2, h3.trans (h r h1 h2), h4⟩
    · rintro ⟨h1, h2, h3, h4⟩
      exact ⟨h1, h2, h3.trans (h r h1 h2).symm, h4⟩

/- trimmed -/
theorem trim_nil (f : Int) : trimL [] f = [] := rfl

theorem trim_fold {l : List KH} (hw : Wf l) (f : Int) : ∀ (b a o : List KH), l = a ++ b → Wf o → (∀ k, ((∃ p ∈ a, p.1 = k) → getL o k = trimL (getL l k) f) ∧ ((∀ p ∈ a, p.1 ≠ k) → getL o k = getL l k)) →
    Wf (b.foldl (fun o p => setL o p.1 (trimL p.2 f)) o) ∧ ∀ k, getL (b.foldl (fun o p => setL o p.1 (trimL p.2 f)) o) k = trimL (getL l k) f
  | [], a, o, e, ho, h => ⟨ho, fun k => by
    show getL o k = _
    rw [List.append_nil] at e
    subst e
    rcases get_cases (l := l) k with ⟨p, hp, h1, e1⟩ | ⟨h1, e1⟩
    · exact (h k).1 ⟨p, hp, h1⟩
    · rw [(h k).2 h1, e1, trim_nil]⟩
  | p :: b, a, o, e, ho, h => by
    have hp : p ∈ l := by rw [e]; simp
    refine trim_fold hw f b (a ++ [p]) (setL o p.1 (trimL p.2 f)) (by rw [e]; simp) (ho.set (hw.key p hp) (trim_right (hw.right p hp) f)) fun k => ?_
    rw [get_set ho.up]
    by_cases hk : k = p.1
    · subst hk
      rw [if_pos rfl, get_mem hw.up hp]
      exact ⟨fun _ => rfl, fun h1 => absurd rfl (h1 p (by simp))⟩
    · rw [if_neg hk]
      refine ⟨fun ⟨q, hq, h1⟩ => (h k).1 ?_, fun h1 => (h k).2 fun q hq => h1 q (List.mem_append_left _ hq)⟩
      rcases List.mem_append.1 hq with hq | hq
      · exact ⟨q, hq, h1⟩
      · rw [List.mem_singleton] at hq
        subst hq
        exact absurd h1.symm hk

theorem trim_ends {l : List KH} (h : Wf l) (f : Int) : Wf (l.foldl (fun o p => setL o p.1 (trimL p.2 f)) l) ∧ ∀ k, getL (l.foldl (fun o p => setL o p.1 (trimL p.2 f)) l) k = trimL (getL l k) f := trim_fold h f l [] l rfl h fun k => ⟨fun ⟨p, hp, _⟩ => (by cases hp), fun _ => rfl⟩
theorem trim_wf {l : List KH} (h : Wf l) (f : Int) : Wf (trimI l f) := (trim_ends h f).1
theorem trim_get {l : List KH} (h : Wf l) (f : Int) (k : ByteArray) : getL (trimI l f) k = trimL (getL l k) f := (trim_ends h f).2 k

theorem items_trim {l : List KH} (h : Wf l) {fl r : Int} (hr : fl ≤ r) (f : ByteArray → Bool) : itemsI (trimI l fl) r f = itemsI l r f :=
  items_same (trim_wf h fl) h fun k v => by rw [trim_get h, at_trim (h.get k) hr]

theorem trim_mem {l : List Ver} (h : Right l) {f : Int} {v : Ver} (hv : f < v.r) : v ∈ trimL l f ↔ v ∈ l := by
  have e := trim_filter h (Int.le_refl f)
  have h1 : v ∈ (trimL l f).filter (fun x => decide (f < x.r)) ↔ v ∈ trimL l f := by rw [List.mem_filter]; simp [hv]
  have h2 : v ∈ l.filter (fun x => decide (f < x.r)) ↔ v ∈ l := by rw [List.mem_filter]; simp [hv]
  rw [← h1, e, h2]

theorem all_trim {l : List KH} (h : Wf l) {fl a b : Int} (ha : fl < a) (f : ByteArray → Bool) : allI (trimI l fl) f a b = allI l f a b :=
  all_same (trim_wf h fl) h fun r h1 h2 => bat_same (trim_wf h fl) h fun k v hv => by rw [trim_get h, trim_mem (h.get k) (by omega)]

/- dropped -/
theorem drop_wf {l : List KH} (h : Wf l) (a e : ByteArray) : Wf (dropI l a e) := h.sub List.filter_sublist
theorem drop_get {l : List KH} (h : Wf l) (a e k : ByteArray) : getL (dropI l a e) k = if inB a e k = true then [] else getL l k := by
  by_cases hk : inB a e k = true
  · rw [if_pos hk]
    refine get_none fun p hp hpk => ?_
    have := (List.mem_filter.1 hp).2
    rw [hpk, hk] at this
    cases this
  · rw [if_neg hk]
    rcases get_cases (l := l) k with ⟨p, hp, rfl, e1⟩ | ⟨h1, e1⟩
    · rw [e1]
      exact get_mem (drop_wf h a e).up (List.mem_filter.2 ⟨hp, by simpa using hk⟩)
    · rw [e1]
      exact get_none fun p hp => h1 p (List.mem_filter.1 hp).1

theorem items_dropped {l : List KH} (h : Wf l) (a e : ByteArray) (r : Int) : itemsI (dropI l a e) r (inB a e) = [] := by
  refine List.eq_nil_iff_forall_not_mem.2 fun ⟨k, v⟩ hx => ?_
  obtain ⟨h1, h2⟩ := (items_mem (drop_wf h a e) r _ k v).1 hx
  rw [drop_get h, if_pos h1] at h2
  cases h2

theorem all_dropped {l : List KH} (h : Wf l) (a e : ByteArray) (x y : Int) : allI (dropI l a e) (inB a e) x y = [] := by
  refine List.eq_nil_iff_forall_not_mem.2 fun ⟨r, L⟩ hx => ?_
  obtain ⟨_, _, h3, h4⟩ := (all_mem (drop_wf h a e) _ x y r L).1 hx
  refine h4 (h3.trans (List.eq_nil_iff_forall_not_mem.2 fun ⟨k, v⟩ hx => ?_))
  obtain ⟨h1, h2, _⟩ := (bat_mem (drop_wf h a e) _ r k v).1 hx
  rw [drop_get h, if_pos h1] at h2
  cases h2

end Idx
end Go.Proofs.Ytcoddkbbgmjckaa
