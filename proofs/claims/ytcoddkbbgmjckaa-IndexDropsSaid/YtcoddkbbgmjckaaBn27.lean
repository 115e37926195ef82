/- What the laws' walks share: bounds of what is told. -/
import Derived.Test.YtcoddkbbgmjckaaBn22
import Derived.Test.YtcoddkbbgmjckaaBn23
import Derived.Test.YtcoddkbbgmjckaaBn25
import Derived.Test.YtcoddkbbgmjckaaBn26
import Derived.Test.YtcoddkbbgmjckaaBn13
import Derived.Test.YtcoddkbbgmjckaaBn11
import Derived.Test.YtcoddkbbgmjckaaBn01
namespace Go.Proofs.Ytcoddkbbgmjckaa
open Go.RowKit
set_option linter.unusedVariables false
set_option linter.unusedSimpArgs false

/-- What At answers, as a value. -/
theorem at_form15 (o : Option Ver) : ∃ (y : Ver) (b : Bool), atV o = .tuple #[.agg #[.int .i64 y.r, .int .i64 y.k, .int .i64 y.m, .int .i64 y.v, .string y.s, .int .i64 y.l, .bool y.g], .bool b] := ⟨o.getD His.none_, o.isSome, rfl⟩

theorem flat_tot (xs : List KLay) : (xs.flatMap fun x => x.h.map (·.r)).length = Idx.tot (khs xs) := by
  induction xs with
  | nil => rfl
  | cons x xs ih =>
    rw [List.flatMap_cons, List.length_append, ih, List.length_map]
    show _ = Idx.tot (x.kh :: khs xs)
    rw [Idx.tot_cons]
    rfl

theorem at_len (l : List Idx.KH) (a b : ByteArray) (r most : Int) : (Idx.atI l a b r most).1.length ≤ l.length := by
  show (List.take _ _).length ≤ _
  rw [List.length_take]
  have := Idx.items_len l r (Idx.inB a b)
  omega

theorem beh_len (l : List Idx.KH) (a b : ByteArray) (r most : Int) : (Idx.behindI l a b r most).1.length ≤ l.length := by
  show (List.take _ _).length ≤ _
  rw [List.length_take]
  have := Idx.items_len l r (Idx.behB a b)
  omega

theorem lens_mem {A : List Idx.Bat} {y : Idx.Bat} (h : y ∈ A) : y.2.length ≤ Idx.lens A := by
  unfold Idx.lens
  induction A with
  | nil => cases h
  | cons q l ih =>
    rw [List.map_cons, List.sum_cons]
    rcases List.mem_cons.1 h with rfl | h
    · omega
    · have := ih h
      omega

theorem lens_len {A : List Idx.Bat} (h : ∀ y ∈ A, y.2 ≠ []) : A.length ≤ Idx.lens A := by
  unfold Idx.lens
  induction A with
  | nil => exact Nat.le_refl _
  | cons q l ih =>
    rw [List.map_cons, List.sum_cons, List.length_cons]
    have h1 := ih fun y hy => h y (List.mem_cons_of_mem _ hy)
    have h2 := List.length_pos_iff.2 (h q List.mem_cons_self)
    omega

theorem chg_small {l : List Idx.KH} (h : Fit l) (a b : ByteArray) (s t most : Int) : (Idx.changesI l a b s t most).length ≤ 100000 ∧ ∀ y ∈ Idx.changesI l a b s t most, y.2.length ≤ 100000 := by
  obtain ⟨k, hk, e, _⟩ := Idx.cut_take most (Idx.allI l (Idx.inB a b) s t) 0 true
  have hl := Nat.le_trans (Idx.all_lens l (Idx.inB a b) s t) h.t
  have hn := lens_len (A := Idx.allI l (Idx.inB a b) s t) fun y hy => ((Idx.all_mem h.wf (Idx.inB a b) s t y.1 y.2).1 hy).2.2.2
  have e : Idx.changesI l a b s t most = (Idx.allI l (Idx.inB a b) s t).take k := e
  rw [e]
  refine ⟨by rw [List.length_take]; omega, fun y hy => ?_⟩
  have := lens_mem (List.mem_of_mem_take hy)
  omega

theorem bat_lens {xs : List BLay} {B : List Idx.Bat} (e : bats xs = B) (h : ∀ y ∈ B, y.2.length ≤ 100000) : ∀ x ∈ xs, x.ls.length ≤ 900000 := fun x hx => by
  have := h x.b (by rw [← e]; exact List.mem_map.2 ⟨x, hx, rfl⟩)
  have : x.ls.length ≤ 100000 := this
  omega

theorem same_items {W : World} {R1 R2 : Option Addr} {n1 c1 n2 c2 : Nat} {l1 l2 : List (ByteArray × Ver)} (h1 : ItemsR W R1 n1 l1) (h2 : ItemsR W R2 n2 l2) (e : l1 = l2) (hl : l1.length ≤ 900000) :
    Calls Try.prog 31 #[.slice R1 n1 c1, .slice R2 n2 c2] W fun e w' => e = .returned (.bool true) ∧ Below W.heap.size W w' := by
  have hn1 := h1.1
  have hn2 := h2.1
  have hm : l1.length = l2.length := by rw [e]
  have h := sameItemsR_any R1 n1 c1 l1 R2 n2 c2 l2 W h1 h2 (by unfold maxLen; omega) (by unfold maxLen; omega)
  rw [decide_eq_true e] at h
  exact h

theorem same_bats {W : World} {R1 R2 : Option Addr} {n1 c1 n2 c2 : Nat} {x1 x2 : List BLay} {B : List Idx.Bat} (h1 : BatL W R1 n1 c1 x1) (h2 : BatL W R2 n2 c2 x2) (e1 : bats x1 = B) (e2 : bats x2 = B) (hB : B.length ≤ 900000) (hb : ∀ y ∈ B, y.2.length ≤ 100000) :
    Calls Try.prog 33 #[.slice R1 n1 c1, .slice R2 n2 c2] W fun e w' => e = .returned (.bool true) ∧ Below W.heap.size W w' := by
  have hn1 := h1.len
  have hn2 := h2.len
  have q1 := bats_len x1
  have q2 := bats_len x2
  rw [e1] at q1
  rw [e2] at q2
  have h := sameBatchesR_any R1 n1 c1 x1 R2 n2 c2 x2 W h1 h2 (by omega) (by omega) (bat_lens e1 hb) (bat_lens e2 hb)
  rw [decide_eq_true (e1.trans e2.symm)] at h
  exact h

theorem same_keys15 {W : World} {R1 R2 : Option Addr} {n1 c1 n2 c2 : Nat} {x1 x2 : List KLay} {l : List Idx.KH} (h1 : IxL W R1 n1 c1 x1) (h2 : IxL W R2 n2 c2 x2) (e1 : khs x1 = l) (e2 : khs x2 = l) (hf : Fit l) :
    Calls Try.prog 22 #[.slice R1 n1 c1, .slice R2 n2 c2] W fun e w' => e = .returned (.bool true) ∧ Below W.heap.size W w' := by
  have hn1 := h1.len
  have hn2 := h2.len
  have q1 := khs_len2 e1
  have q2 := khs_len2 e2
  have hn := hf.n
  have ht := hf.t
  have hx : ∀ {x : List KLay}, khs x = l → ∀ y ∈ x, y.h.length ≤ 900000 := fun {x} e y hy => by
    have := tot_mem (l := l) (p := y.kh) (by rw [← e]; exact List.mem_map.2 ⟨y, hy, rfl⟩)
    have : y.h.length ≤ Idx.tot l := this
    omega
  have h := sameR15_any R1 n1 c1 x1 R2 n2 c2 x2 W h1 h2 (by omega) (by omega) (hx e1) (hx e2)
  rw [decide_eq_true (e1.trans e2.symm)] at h
  exact h

theorem add_64 {a b : Nat} (ha : a ≤ 140737488355328) (hb : b ≤ 140737488355328 * 2) : IntKind.i64.wrap ((a : Int) + (b : Int)) = (a : Int) + (b : Int) := IntWalk.i64_in _ (by omega)
theorem add3_64 {a b c : Nat} (ha : a ≤ 140737488355328) (hb : b ≤ 140737488355328) (hc : c ≤ 140737488355328) : IntKind.i64.wrap ((a : Int) + (b : Int) + (c : Int)) = (a : Int) + (b : Int) + (c : Int) := IntWalk.i64_in _ (by omega)
theorem chg_rev {l : List Idx.KH} (h : Fit l) (a b : ByteArray) (s t most : Int) : ∀ y ∈ Idx.changesI l a b s t most, 1 ≤ y.1 ∧ y.1 ≤ 1099511627776 := fun y hy => by
  obtain ⟨k, hk, e, _⟩ := Idx.cut_take most (Idx.allI l (Idx.inB a b) s t) 0 true
  have e : Idx.changesI l a b s t most = (Idx.allI l (Idx.inB a b) s t).take k := e
  rw [e] at hy
  obtain ⟨r, L⟩ := y
  have h1 := (Idx.all_mem h.wf (Idx.inB a b) s t r L).1 (List.mem_of_mem_take hy)
  obtain ⟨_, _, h3, h4⟩ := h1
  cases L with
  | nil => exact absurd rfl h4
  | cons p L =>
    have hp : p ∈ Idx.batL l (Idx.inB a b) r := by rw [← h3]; exact List.mem_cons_self
    obtain ⟨_, hv, hr⟩ := (Idx.bat_mem h.wf (Idx.inB a b) r p.1 p.2).1 hp
    have hb := (h.wf.get p.1).ver p.2 hv
    unfold His.verB His.top at hb
    show 1 ≤ r ∧ r ≤ _
    split at hb
    · cases hb
    · omega

/-- Acts behind what is there. -/
def runF (l : List Idx.KH) (K : Nat → Idx.IAct) : Nat → List Idx.KH
  | 0 => l
  | k + 1 => Idx.doI (runF l K k) (K k)

theorem runF_ok {l : List Idx.KH} {n0 : Nat} (h : Idx.Wf l) (hn : l.length ≤ n0) (ht : Idx.tot l ≤ n0 * n0) (K : Nat → Idx.IAct) : ∀ k, Idx.Wf (runF l K k) ∧ (runF l K k).length ≤ n0 + k ∧ Idx.tot (runF l K k) ≤ (n0 + k) * (n0 + k)
  | 0 => ⟨h, hn, ht⟩
  | k + 1 => by
    obtain ⟨h1, h2, h3⟩ := runF_ok h hn ht K k
    obtain ⟨g1, g2, g3⟩ := Idx.do_keeps h1 (K k)
    refine ⟨g1, by show (Idx.doI _ _).length ≤ _; omega, ?_⟩
    show Idx.tot (Idx.doI _ _) ≤ (n0 + k + 1) * (n0 + k + 1)
    have : (n0 + k + 1) * (n0 + k + 1) = (n0 + k) * (n0 + k) + (n0 + k) + (n0 + k) + 1 := by rw [Nat.succ_mul, Nat.mul_succ]; omega
    omega

theorem runF_fit (K K2 : Nat → Idx.IAct) {m k : Nat} (hm : m + k ≤ 100) : Fit (runF (runK K m) K2 k) := by
  obtain ⟨a1, a2, a3⟩ := runK_ok K m
  obtain ⟨h1, h2, h3⟩ := runF_ok a1 a2 a3 K2 k
  exact ⟨h1, by omega, Nat.le_trans h3 (Nat.le_trans (Nat.mul_le_mul hm hm) (by decide))⟩

theorem Room.stored {T : TypeId} {sz : Nat} {w : World} {A : Option Addr} {n : Nat} (h : Room T sz w A n) (p : Addr) (hp : p.spot = none) (v : Value) : Room T sz (w.setCell p v) A n := fun h0 => by
  obtain ⟨g, off, cur, e, hg, hs⟩ := h h0
  by_cases hq : g = p.block
  · obtain ⟨pb, po, ps⟩ := p
    obtain rfl : ps = none := hp
    have hq : g = pb := hq
    subst hq
    exact ⟨g, off, cur.setIfInBounds po v, e, setCell_at w ⟨g, po, none⟩ v cur T (0, 0) rfl hg, by simpa using hs⟩
  · exact ⟨g, off, cur, e, (Below.heap_setCell _ _ _ _ hq).trans hg, hs⟩

/-- What All told, its versions spoilt. -/
structure Spoil (w0 w : World) (R : Option Addr) (n c : Nat) (xs : List KLay) : Prop where
  sp : Sp 81 2 w R n c (rowK xs)
  room : ∀ x ∈ xs, Room 37 7 w x.B x.h.length
  b : Below w0.heap.size w0 w

theorem Spoil.stored {w0 w : World} {R : Option Addr} {n c : Nat} {xs : List KLay} (h : Spoil w0 w R n c xs) {g o : Nat} (hR : ¬ blk R g) (hg : w0.heap.size ≤ g) (v : Value) : Spoil w0 (w.setCell ⟨g, o, none⟩ v) R n c xs :=
  ⟨h.sp.keep fun q hq => Below.heap_setCell _ _ _ _ (fun e => hR (by have e : q = g := e; rw [← e]; exact hq)), fun x hx => (h.room x hx).stored _ rfl v, h.b.setCell (p := ⟨g, o, none⟩) hg v⟩

theorem step_len (now : List (ByteArray × Ver)) (y : ByteArray × Ver) : (now.filter fun p => ltS p.1 y.1).length + (now.filter fun p => ltS y.1 p.1).length ≤ now.length := by
  induction now with
  | nil => exact Nat.le_refl _
  | cons p l ih =>
    cases h1 : ltS p.1 y.1 with
    | true =>
      have h2 : ltS y.1 p.1 = false := linS.as h1
      simp only [List.filter_cons, h1, h2, if_true, List.length_cons]
      have : ((if false = true then p :: l.filter (fun p => ltS y.1 p.1) else l.filter fun p => ltS y.1 p.1).length) = (l.filter fun p => ltS y.1 p.1).length := rfl
      omega
    | false =>
      cases h2 : ltS y.1 p.1 with
      | true =>
        simp only [List.filter_cons, h1, h2, if_true, List.length_cons]
        have : ((if false = true then p :: l.filter (fun p => ltS p.1 y.1) else l.filter fun p => ltS p.1 y.1).length) = (l.filter fun p => ltS p.1 y.1).length := rfl
        omega
      | false =>
        simp only [List.filter_cons, h1, h2, List.length_cons]
        have e1 : ((if false = true then p :: l.filter (fun p => ltS p.1 y.1) else l.filter fun p => ltS p.1 y.1).length) = (l.filter fun p => ltS p.1 y.1).length := rfl
        have e2 : ((if false = true then p :: l.filter (fun p => ltS y.1 p.1) else l.filter fun p => ltS y.1 p.1).length) = (l.filter fun p => ltS y.1 p.1).length := rfl
        omega

theorem stepN_len (now : List (ByteArray × Ver)) (y : ByteArray × Ver) : (Idx.stepN now y).length ≤ now.length + 1 := by
  unfold Idx.stepN
  have := step_len now y
  rw [List.length_append, List.length_append]
  split
  · simp only [List.length_nil]; omega
  · simp only [List.length_singleton]; omega

theorem fold_stepN_len (L now : List (ByteArray × Ver)) : (L.foldl Idx.stepN now).length ≤ now.length + L.length := by
  induction L generalizing now with
  | nil => exact Nat.le_refl _
  | cons y L ih =>
    have h1 := ih (Idx.stepN now y)
    have h2 := stepN_len now y
    rw [List.foldl_cons, List.length_cons]
    omega

theorem replay_len (B : List Idx.Bat) (now : List (ByteArray × Ver)) : (Idx.replay now B).length ≤ now.length + Idx.lens B := by
  unfold Idx.replay
  induction B generalizing now with
  | nil => exact Nat.le_refl _
  | cons b B ih =>
    rw [List.foldl_cons]
    have h1 := ih (b.2.foldl Idx.stepN now)
    have h2 := fold_stepN_len b.2 now
    have h3 : Idx.lens (b :: B) = b.2.length + Idx.lens B := by unfold Idx.lens; rw [List.map_cons, List.sum_cons]
    omega

theorem replay_next (B : List Idx.Bat) (now : List (ByteArray × Ver)) {k : Nat} (hk : k < B.length) : Idx.replay now (B.take (k + 1)) = (B[k].2).foldl Idx.stepN (Idx.replay now (B.take k)) := by
  unfold Idx.replay
  rw [List.take_succ_eq_append_getElem hk, List.foldl_append]
  rfl

theorem fold_next (L now : List (ByteArray × Ver)) {i : Nat} (hi : i < L.length) : (L.take (i + 1)).foldl Idx.stepN now = Idx.stepN ((L.take i).foldl Idx.stepN now) L[i] := by
  rw [List.take_succ_eq_append_getElem hi, List.foldl_append]
  rfl

theorem take_filter_item {l : List (ByteArray × Ver)} (p : (ByteArray × Ver) → Bool) {k : Nat} (hk : k < l.length) : (l.take (k + 1)).filter p = (l.take k).filter p ++ if p l[k] = true then [l[k]] else [] := by
  rw [List.take_succ_eq_append_getElem hk, List.filter_append]
  by_cases h : p l[k] = true <;> simp [h]

theorem rowB_app (a b : List BLay) : rowB (a ++ b) = rowB a ++ rowB b := by unfold rowB; rw [List.flatMap_append]
theorem bats_app (a b : List BLay) : bats (a ++ b) = bats a ++ bats b := by unfold bats; rw [List.map_append]
end Go.Proofs.Ytcoddkbbgmjckaa

namespace Go.Proofs.Ytcoddkbbgmjckaa
open Go.RowKit
set_option linter.unusedVariables false
set_option linter.unusedSimpArgs false
attribute [local go_sem] Oper.semAt_some

set_option maxRecDepth 100000 in
set_option maxHeartbeats 3200000 in
theorem plain_any (s : ByteArray) (mo : Nat) (hmo : mo < 256) (hs : s.size ≤ maxLen) (w : World) : Calls Try.prog 44 #[.string s, .int .u8 (mo : Int)] w fun e w' => e = .returned (.bool (Idx.textB s mo)) ∧ w' = w := by
  have HT := Lib.hid (text_is s mo)
  unfold maxLen at hs
  by_cases h1 : s.size < 1
  · have e1 : decide ((s.size : Int) < 1) = true := decide_eq_true (by omega)
    have HN := Lib.hid (show Idx.textB s mo = false by rw [HT.out, decide_eq_false (by omega), Bool.and_false])
    go_enter Try.func44, Try.ntmps44
    go_wp2
    go_ret
    exact ⟨by rw [HN.out]; rfl, rfl⟩
  · have e1 : decide ((s.size : Int) < 1) = false := decide_eq_false (by omega)
    by_cases h2 : 32 < s.size
    · have e2 : decide ((32 : Int) < (s.size : Int)) = true := decide_eq_true (by omega)
      have HN := Lib.hid (show Idx.textB s mo = false by rw [HT.out, decide_eq_false (by omega), Bool.and_false])
      go_enter Try.func44, Try.ntmps44
      go_wp2
      go_ret
      exact ⟨by rw [HN.out]; rfl, rfl⟩
    · have e2 : decide ((32 : Int) < (s.size : Int)) = false := decide_eq_false (by omega)
      have HT2 := Lib.hid (show Idx.textB s mo = allB s.data.toList mo by rw [HT.out, decide_eq_true (by omega), Bool.and_true])
      go_enter Try.func44, Try.ntmps44
      go_wp2_with fail
      go_loop [16] (fun i => ∃ k : Nat, k ≤ s.size ∧ i = .int .i64 (k : Int) ∧ Hid (allB (s.data.toList.take k) mo = true)) (fun i => s.size - (intOf i).toNat)
      case atStart => exact ⟨0, Nat.zero_le _, rfl, ⟨rfl⟩⟩
      case round =>
        obtain ⟨k, hk, rfl, HK⟩ := hrel
        by_cases hlt : k < s.size
        · have l1 : decide ((k : Int) < (s.size : Int)) = true := decide_eq_true (by omega)
          have HS := Lib.hid (allB_take s mo k hlt)
          by_cases c1 : (s[k]).toNat < 33
          · have c1' : decide (((s[k]).toNat : Int) < 33) = true := decide_eq_true (by omega)
            have HN : Hid (Idx.textB s mo = false) := ⟨by rw [HT2.out, allB_no _ mo (k + 1) (by rw [HS.out, decide_eq_false (by omega), Bool.and_false])]⟩
            go_wp2
            go_ret
            exact ⟨by rw [HN.out]; rfl, rfl⟩
          · have c1' : decide (((s[k]).toNat : Int) < 33) = false := decide_eq_false (by omega)
            by_cases c2 : mo < (s[k]).toNat
            · have c2' : decide ((mo : Int) < ((s[k]).toNat : Int)) = true := decide_eq_true (by omega)
              have HN : Hid (Idx.textB s mo = false) := ⟨by rw [HT2.out, allB_no _ mo (k + 1) (by rw [HS.out, decide_eq_false (by omega), Bool.and_false])]⟩
              go_wp2
              go_ret
              exact ⟨by rw [HN.out]; rfl, rfl⟩
            · have c2' : decide ((mo : Int) < ((s[k]).toNat : Int)) = false := decide_eq_false (by omega)
              have HY : Hid (allB (s.data.toList.take (k + 1)) mo = true) := ⟨by rw [HS.out, HK.out, decide_eq_true (by omega)]; rfl⟩
              go_wp2
              go_round
              case rel => exact ⟨k + 1, by omega, by go_num, HY⟩
              case measure =>
                simp [intOf]
                omega
        · have l1 : decide ((k : Int) < (s.size : Int)) = false := decide_eq_false (by omega)
          have HY : Hid (Idx.textB s mo = true) := ⟨by rw [HT2.out, ← List.take_of_length_le (l := s.data.toList) (i := k) (by simp; omega), HK.out]⟩
          go_wp2
          go_ret
          exact ⟨by rw [HY.out]; rfl, rfl⟩

theorem keyP_any (s : ByteArray) (hs : s.size ≤ maxLen) (w : World) : Calls Try.prog 14 #[.string s] w fun e w' => e = .returned (.bool (Idx.keyB s)) ∧ w' = w := by
  have hT := plain_any s 126 (by omega) hs w
  go_enter Try.func14, Try.ntmps14
  go_wp2_with fail
  refine hT.mono ?_
  rintro e w1 ⟨rfl, rfl⟩
  go_wp2
  go_ret
  exact ⟨rfl, rfl⟩

theorem size_nil (b : ByteArray) (h : b.size = 0) : b = ⟨#[]⟩ := by
  cases b with | mk d => cases d with | mk l => cases l with | nil => rfl | cons x l => simp [ByteArray.size] at h
theorem nil_list : (⟨#[]⟩ : ByteArray).toList = [] := by rw [ByteArray.toList_eq]
theorem size0 (b : ByteArray) : (b.toList == (⟨#[]⟩ : ByteArray).toList) = decide (b.size = 0) := by
  rw [bytes_list b ⟨#[]⟩]
  by_cases h0 : b.size = 0
  · rw [decide_eq_true h0, decide_eq_true (size_nil b h0)]
  · rw [decide_eq_false h0, decide_eq_false]
    intro e
    rw [e] at h0
    exact h0 rfl
theorem size0l (b : ByteArray) : (b.toList == ([] : List UInt8)) = decide (b.size = 0) := by
  rw [← size0 b, nil_list]
theorem size0b (b : ByteArray) : (b == (⟨#[]⟩ : ByteArray)) = decide (b.size = 0) := by
  rw [← size0 b, ← Go.beq_toListBytes]
theorem ltS_gt (a b : ByteArray) : (!(Op.bytesLess b.toList a.toList || b.toList == a.toList)) = ltS a b := by
  rw [bytes_list b a]
  show (!(ltS b a || decide (b = a))) = ltS a b
  cases h1 : ltS a b with
  | true => rw [linS.as h1, decide_eq_false (fun e => by rw [e, ltS_irr] at h1; cases h1)]; rfl
  | false =>
    cases h2 : ltS b a with
    | true => rfl
    | false => rw [decide_eq_true (ltS_con h2 h1)]; rfl

set_option maxRecDepth 100000 in
set_option maxHeartbeats 3200000 in
theorem rangeP_any (a b : ByteArray) (ha : a.size ≤ maxLen) (hb : b.size ≤ maxLen) (w : World) : Calls Try.prog 16 #[.string a, .string b] w fun e w' => e = .returned (.bool (Idx.rangeB a b)) ∧ w' = w := by
  have hK := keyP_any a ha w
  have hT := plain_any b 127 (by omega) hb w
  have HR : Hid (Idx.rangeB a b = (Idx.keyB a && (decide (b.size = 0) || (Idx.textB b 127 && ltS a b)))) := ⟨rfl⟩
  have hl := ltS_gt a b
  have h0 := size0 b
  have h0' := size0b b
  have h0l := size0l b
  generalize Idx.keyB a = q1 at *
  generalize Idx.textB b 127 = q2 at *
  generalize ltS a b = q3 at *
  generalize decide (b.size = 0) = q4 at *
  cases q1 with
  | false =>
    go_enter Try.func16, Try.ntmps16
    go_wp2_with fail
    refine (hK).mono ?_
    rintro e w1 ⟨rfl, rfl⟩
    go_wp2
    go_ret
    exact ⟨by rw [HR.out]; rfl, rfl⟩
  | true =>
    cases q4 with
    | true =>
      go_enter Try.func16, Try.ntmps16
      go_wp2_with fail
      refine (hK).mono ?_
      rintro e w1 ⟨rfl, rfl⟩
      go_wp2
      go_ret
      exact ⟨by rw [HR.out]; rfl, rfl⟩
    | false =>
      cases q3 with
      | false =>
        go_enter Try.func16, Try.ntmps16
        go_wp2_with fail
        refine (hK).mono ?_
        rintro e w1 ⟨rfl, rfl⟩
        go_wp2
        go_ret
        exact ⟨by rw [HR.out, Bool.and_false]; rfl, rfl⟩
      | true =>
        go_enter Try.func16, Try.ntmps16
        go_wp2_with fail
        refine (hK).mono ?_
        rintro e w1 ⟨rfl, rfl⟩
        go_wp2_with fail
        refine (hT).mono ?_
        rintro e w1 ⟨rfl, rfl⟩
        go_wp2
        go_ret
        exact ⟨by rw [HR.out, Bool.and_true]; rfl, rfl⟩

def nextB (s : ByteArray) : ByteArray := s ++ ⟨#[0]⟩
theorem nextP_any (s : ByteArray) (hs : s.size ≤ 4000000) (w : World) : Calls Try.prog 60 #[.string s] w fun e w' => e = .returned (.string (nextB s)) ∧ w' = w := by
  have h1 : (s.size : Int) ≤ 8388608 := by omega
  have h2 : ((⟨#[0]⟩ : ByteArray).size : Int) ≤ 8388608 := by decide
  have hC := fun W => run_string_add (P := Try.prog) W s ⟨#[0]⟩ h1 h2
  go_enter Try.func60, Try.ntmps60
  go_wp2
  go_ret
  exact ⟨rfl, rfl⟩
def borderB (a b : ByteArray) : ByteArray := if b.size = 0 then nextB a else b
theorem borderP_any (a b : ByteArray) (ha : a.size ≤ 4000000) (w : World) : Calls Try.prog 46 #[.string a, .string b] w fun e w' => e = .returned (.string (borderB a b)) ∧ w' = w := by
  have h0 := size0 b
  have h0' := size0b b
  have h0l := size0l b
  have hN := nextP_any a ha w
  by_cases hb : b.size = 0
  · have HB := Lib.hid (show borderB a b = nextB a from if_pos hb)
    rw [decide_eq_true hb] at h0 h0' h0l
    go_enter Try.func46, Try.ntmps46
    go_wp2_with fail
    refine (hN).mono ?_
    rintro e w1 ⟨rfl, rfl⟩
    go_wp2
    go_ret
    exact ⟨by rw [HB.out]; rfl, rfl⟩
  · have HB := Lib.hid (show borderB a b = b from if_neg hb)
    rw [decide_eq_false hb] at h0 h0' h0l
    go_enter Try.func46, Try.ntmps46
    go_wp2
    go_ret
    exact ⟨by rw [HB.out]; rfl, rfl⟩

/-- Between From and the border. -/
theorem less_zero : ∀ a b : List UInt8, Op.bytesLess b (a ++ [0]) = (Op.bytesLess b a || b == a)
  | [], [] => rfl
  | [], x :: b => by
    have h : decide (x < 0) = false := decide_eq_false (by rw [UInt8.lt_iff_toNat_lt]; exact Nat.not_lt_zero _)
    have h2 : ∀ l, Op.bytesLess l [] = false := fun l => by cases l <;> rfl
    show (decide (x < 0) || (x == 0 && Op.bytesLess b [])) = (Op.bytesLess (x :: b) [] || (x :: b) == [])
    rw [h, h2, h2, Bool.and_false]
    rfl
  | y :: a, [] => rfl
  | y :: a, x :: b => by
    have ih := less_zero a b
    show (decide (x < y) || (x == y && Op.bytesLess b (a ++ [0]))) = ((decide (x < y) || (x == y && Op.bytesLess b a)) || (x :: b == y :: a))
    rw [ih, List.cons_beq_cons]
    cases decide (x < y) <;> cases (x == y) <;> cases Op.bytesLess b a <;> rfl
theorem ltS_next (s k : ByteArray) : ltS k (nextB s) = (ltS k s || decide (k = s)) := by
  have h : (nextB s).toList = s.toList ++ [0] := by
    unfold nextB
    rw [ByteArray.toList_eq, ByteArray.toList_eq]
    simp
  unfold ltS
  rw [h, less_zero, bytes_list]
theorem border_in (a b k : ByteArray) : (!ltS k a && ltS k (borderB a b)) = (if b.size = 0 then decide (k = a) else !ltS k a && ltS k b) := by
  unfold borderB
  by_cases h : b.size = 0
  · rw [if_pos h, if_pos h, ltS_next]
    by_cases e : k = a
    · subst e; rw [ltS_irr, decide_eq_true rfl]; rfl
    · rw [decide_eq_false e]; cases ltS k a <;> rfl
  · rw [if_neg h, if_neg h]
theorem key_size {s : ByteArray} (h : Idx.keyB s = true) : s.size ≤ 32 := by
  unfold Idx.keyB Idx.textB at h
  rw [Bool.and_eq_true, decide_eq_true_eq] at h
  exact h.2.2
theorem range_key {a b : ByteArray} (h : Idx.rangeB a b = true) : Idx.keyB a = true := by
  unfold Idx.rangeB at h
  rw [Bool.and_eq_true] at h
  exact h.1
theorem inB_is (a b k : ByteArray) : Idx.inB a b k = (Idx.rangeB a b && (Idx.keyB k && (!ltS k a && ltS k (borderB a b)))) := by
  rw [border_in]
  rfl

set_option maxRecDepth 100000 in
set_option maxHeartbeats 3200000 in
theorem inP_any (a b k : ByteArray) (ha : a.size ≤ maxLen) (hb : b.size ≤ maxLen) (hk : k.size ≤ maxLen) (w : World) : Calls Try.prog 18 #[.string a, .string b, .string k] w fun e w' => e = .returned (.bool (Idx.inB a b k)) ∧ w' = w := by
  have hR := rangeP_any a b ha hb w
  have hK := keyP_any k hk w
  have HI := Lib.hid (inB_is a b k)
  have hl1 : Op.bytesLess k.toList a.toList = ltS k a := rfl
  have hl2 : Op.bytesLess k.toList (borderB a b).toList = ltS k (borderB a b) := rfl
  have hB : Idx.rangeB a b = true → Calls Try.prog 46 #[.string a, .string b] w fun e w' => e = .returned (.string (borderB a b)) ∧ w' = w := fun h => borderP_any a b (by have := key_size (range_key h); omega) w
  generalize borderB a b = bo at *
  generalize Idx.rangeB a b = q1 at *
  generalize Idx.keyB k = q2 at *
  generalize ltS k a = q3 at *
  generalize ltS k bo = q4 at *
  cases q1 with
  | false =>
    go_enter Try.func18, Try.ntmps18
    go_wp2_with fail
    refine (hR).mono ?_
    rintro e w1 ⟨rfl, rfl⟩
    go_wp2
    go_ret
    exact ⟨by rw [HI.out]; rfl, rfl⟩
  | true =>
    replace hB := hB rfl
    cases q2 with
    | false =>
      go_enter Try.func18, Try.ntmps18
      go_wp2_with fail
      refine (hR).mono ?_
      rintro e w1 ⟨rfl, rfl⟩
      go_wp2_with fail
      refine (hK).mono ?_
      rintro e w1 ⟨rfl, rfl⟩
      go_wp2
      go_ret
      exact ⟨by rw [HI.out]; rfl, rfl⟩
    | true =>
      cases q3 with
      | true =>
        go_enter Try.func18, Try.ntmps18
        go_wp2_with fail
        refine (hR).mono ?_
        rintro e w1 ⟨rfl, rfl⟩
        go_wp2_with fail
        refine (hK).mono ?_
        rintro e w1 ⟨rfl, rfl⟩
        go_wp2
        go_ret
        exact ⟨by rw [HI.out]; rfl, rfl⟩
      | false =>
        go_enter Try.func18, Try.ntmps18
        go_wp2_with fail
        refine (hR).mono ?_
        rintro e w1 ⟨rfl, rfl⟩
        go_wp2_with fail
        refine (hK).mono ?_
        rintro e w1 ⟨rfl, rfl⟩
        go_wp2_with fail
        refine (hB).mono ?_
        rintro e w1 ⟨rfl, rfl⟩
        go_wp2
        go_ret
        exact ⟨by rw [HI.out]; rfl, rfl⟩

end Go.Proofs.Ytcoddkbbgmjckaa
