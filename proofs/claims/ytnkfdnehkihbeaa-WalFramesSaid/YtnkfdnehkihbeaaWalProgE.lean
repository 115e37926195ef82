/- Scan of the program, by its contract. -/
import Derived.Test.YtnkfdnehkihbeaaWalProgB
import Derived.Test.YtnkfdnehkihbeaaWalProgC
import Derived.Test.YtnkfdnehkihbeaaWalRecs
import Derived.Test.YtnkfdnehkihbeaaWalPure
import Derived.Test.YtnkfdnehkihbeaaClone
import Derived.Deep.LoopGhost
import Derived.Deep.AppendLies
namespace Go.Proofs.Ytnkfdnehkihbeaa
open Go.RowKit
set_option linter.unusedVariables false
set_option linter.unusedSimpArgs false

theorem info_bytes : (Try.prog.info? 22).map (fun i => (i.zero, i.size, i.bytes)) = some (some (.slice none 0 0), 1, 24) := by kernel_rfl

theorem Told.step {l r : List UInt8} {k : Nat} {ls : List (List UInt8)} (h : Told l k ls) (hs : scan1 (l.drop k) = some r) : Told l (k + (8 + r.length)) (ls ++ [r]) := by
  obtain ⟨e, hr⟩ := scan1_some hs
  have hlen := congrArg List.length e
  rw [List.length_append, frameL_length, List.length_drop] at hlen
  refine ⟨by have := h.le; omega, ?_⟩
  rw [h.all, scanL_some hs, List.drop_drop, List.append_assoc, List.singleton_append]
  have e1 : k + (r.length + 8) = k + (8 + r.length) := by omega
  rw [e1]
  congr 1
  omega

theorem Told.room {l r : List UInt8} {k : Nat} (hs : scan1 (l.drop k) = some r) : k + (8 + r.length) ≤ l.length ∧ r.length ≤ 60000 := by
  obtain ⟨e, hr⟩ := scan1_some hs
  have hlen := congrArg List.length e
  rw [List.length_append, frameL_length, List.length_drop] at hlen
  omega

/-- Records in a row of one's own, each in memory of its own. -/
def RecRow (w : World) (B : Nat) (v : Value) (ts : List (List UInt8)) : Prop :=
  ∃ vs, w.ownsRow B 22 1 v ts.length vs ∧ vs.length = ts.length ∧ ∀ j (hj : j < ts.length), ∃ e, vs[j]? = some e ∧ Rec1 w (fun g => B ≤ g ∧ v.ownBlock ≠ some g) e ts[j]

theorem RecRow.nil (w : World) (B : Nat) : RecRow w B (.slice none 0 0) [] := ⟨[], World.ownsRow_nil _ _ _ _, rfl, fun j hj => by simp at hj⟩

theorem row_keep {w w' : World} {base : Nat} {e : TypeId} {size n : Nat} {v : Value} {xs : List Value} (h : w.ownsRow base e size v n xs) (hk : ∀ g, v.ownBlock = some g → w'.heap[g]? = w.heap[g]?) : w'.ownsRow base e size v n xs := by
  rcases h.2 with ⟨e, h0⟩ | ⟨g, cap, cur, e, hb, hg, r⟩
  · exact ⟨h.1, .inl ⟨e, h0⟩⟩
  · exact ⟨h.1, .inr ⟨g, cap, cur, e, hb, (hk g (by rw [e]; rfl)).trans hg, r⟩⟩

theorem RecRow.below {w w' : World} {B : Nat} {v : Value} {ts : List (List UInt8)} (h : RecRow w B v ts) (hb : Below w.heap.size w w') : RecRow w' B v ts := by
  obtain ⟨vs, ho, hl, he⟩ := h
  refine ⟨vs, row_keep ho fun g hg => hb.block g (ho.lt g hg).2, hl, fun j hj => ?_⟩
  obtain ⟨e, h1, h2⟩ := he j hj
  exact ⟨e, h1, h2.keep hb.size fun k hk _ => hb.block k hk⟩

theorem RecRow.form {w : World} {B : Nat} {v : Value} {ts : List (List UInt8)} (h : RecRow w B v ts) : ∃ A cap, v = .slice A ts.length cap := by
  obtain ⟨vs, ho, hl, he⟩ := h
  rcases ho.2 with ⟨rfl, h0⟩ | ⟨g, cap, cur, rfl, _⟩
  · exact ⟨none, 0, by rw [h0]⟩
  · exact ⟨_, _, rfl⟩

theorem RecRow.recs {w : World} {B : Nat} {A : Option Addr} {n cap : Nat} {ts : List (List UInt8)} (h : RecRow w B (.slice A n cap) ts) : Recs w (B ≤ ·) A ts.length cap ts := by
  obtain ⟨vs, ho, hl, he⟩ := h
  rcases ho.2 with ⟨e, h0⟩ | ⟨g, cap', cur, e, hb, hg, hc, hm, hs, ht⟩
  · injection e with e1 e2 e3
    subst e1 e3
    exact ⟨rfl, by omega, fun _ => rfl, fun h => by omega⟩
  · injection e with e1 e2 e3
    subst e1 e3
    refine ⟨rfl, by omega, (fun h => by cases h), fun h0 => ⟨g, 0, rfl, hlt hg, hb, fun j hj => ?_⟩⟩
    obtain ⟨e, h1, h2⟩ := he j hj
    refine ⟨e, ?_, h2.mono fun k hk => hk.1⟩
    rw [cell_of_row w g _ cur _ (0, 0) hg, Nat.zero_add]
    have := congrArg (fun q => q[j]?) ht
    simp only [List.getElem?_take] at this
    rw [if_pos (by omega), h1] at this
    simpa using this

/-- One more: the row grew by it. -/
theorem RecRow.more {w w1 w' : World} {B g cap : Nat} {v e : Value} {ts : List (List UInt8)} {r : List UInt8} (h : RecRow w B v ts) (hb : Below w.heap.size w w1)
    (he : Rec1 w1 (fun g => w.heap.size ≤ g) e r) (hBw : B ≤ w.heap.size) (vs : List Value) (hvs : vs.length = ts.length)
    (hat : ∀ j (hj : j < ts.length), ∃ e, vs[j]? = some e ∧ Rec1 w (fun g => B ≤ g ∧ v.ownBlock ≠ some g) e ts[j])
    (ho : w'.ownsRow B 22 1 (.slice (some ⟨g, 0, none⟩) (ts.length + 1) cap) (ts.length + 1) (vs ++ [e])) (hg : w1.grownBy w' v.ownBlock) (hv : ∀ k, v.ownBlock = some k → k < w.heap.size) (hq : v.ownBlock = some g ∨ w1.heap.size ≤ g) : RecRow w' B (.slice (some ⟨g, 0, none⟩) (ts.length + 1) cap) (ts ++ [r]) := by
  have hs1 := hb.size
  refine ⟨vs ++ [e], by rw [List.length_append]; exact ho, by simp [hvs], fun j hj => ?_⟩
  have hne : ∀ {Y : Nat → Prop} {x : Value} {t : List UInt8}, Rec1 w1 Y x t → (∀ k, k < w1.heap.size → Y k → B ≤ k ∧ v.ownBlock ≠ some k) → Rec1 w' (fun q => B ≤ q ∧ (Value.slice (some ⟨g, 0, none⟩) (ts.length + 1) cap).ownBlock ≠ some q) x t := by
    intro Y x t hx hY
    obtain ⟨E, c, ex, hc, hl, hz⟩ := hx
    refine ⟨E, c, ex, hc, hl.keep hg.size fun h0 q off eq hlt => hg.block q hlt fun er => (hY q hlt (hz h0 q off eq)).2 er.symm, fun h0 q off eq => ?_⟩
    obtain ⟨q', off', eq', hlt, _⟩ := hl.2.2.2 h0
    have hqq : q' = q := by rw [eq] at eq'; injection eq' with eq'; injection eq' with e1 _; exact e1.symm
    subst hqq
    have h3 := hY q' hlt (hz h0 q' off eq)
    refine ⟨h3.1, fun er => ?_⟩
    injection er with er
    have er : g = q' := er
    subst er
    rcases hq with hq | hq
    · exact h3.2 hq
    · omega
  by_cases hjl : j < ts.length
  · obtain ⟨x, h1, h2⟩ := hat j hjl
    refine ⟨x, by rw [List.getElem?_append_left (by omega)]; exact h1, ?_⟩
    rw [List.getElem_append_left hjl]
    exact hne (h2.keep hs1 fun k hk _ => hb.block k hk) fun k _ hk => hk
  · obtain rfl : j = ts.length := by simp at hj; omega
    refine ⟨e, by rw [← hvs]; simp, ?_⟩
    rw [List.getElem_append_right (Nat.le_refl _)]
    simp only [Nat.sub_self, List.getElem_cons_zero]
    exact hne he fun k _ hk => ⟨Nat.le_trans hBw hk, fun er => by have := hv k er; omega⟩

structure ScanAt (w wr : World) (l : List UInt8) (k : Nat) (ts : List (List UInt8)) (v : Value) : Prop where
  told : Told l k ts
  many : 8 * ts.length ≤ k
  row : RecRow wr w.heap.size v ts
  below : Below w.heap.size w wr

/-- What Scan answers. -/
def ScanP (l : List UInt8) (w : World) (e : Ending) (w' : World) : Prop :=
  ∃ A cap, e = .returned (.tuple #[.slice A (scanL l).1.length cap, .int .i64 (((scanL l).2 : Nat) : Int)]) ∧ Recs w' (w.heap.size ≤ ·) A (scanL l).1.length cap (scanL l).1 ∧ Below w.heap.size w w'

theorem ScanP.of {l : List UInt8} {w wr w' : World} {k : Nat} {ts : List (List UInt8)} {A : Option Addr} {n cap : Nat} (h : ScanAt w wr l k ts (.slice A n cap)) (hn : n = ts.length) (hs : scan1 (l.drop k) = none) (hb : Below wr.heap.size wr w') : ScanP l w (.returned (.tuple #[.slice A n cap, .int .i64 (k : Int)])) w' := by
  have hd := h.told.done (scanL_none hs)
  refine ⟨A, cap, by rw [hd, hn], ?_, h.below.trans (hb.mono h.below.size)⟩
  rw [hd]
  exact h.row.recs.below hb (Nat.le_refl _)

set_option maxRecDepth 100000 in
set_option maxHeartbeats 3200000 in
theorem scan_any (A : Option Addr) (len cap : Nat) (l : List UInt8) (w : World) (hl : Lies w A len cap l) (hm : len ≤ 1000000000) :
    Calls Try.prog 12 #[.slice A len cap] w (ScanP l w) := by
  have hll := hl.1
  have hlc := hl.2.1
  have hT0 : ScanAt w w l 0 [] (.slice none 0 0) := ⟨Told.start _, by simp, RecRow.nil _ _, Below.refl _ _⟩
  obtain ⟨i0, hi0, hz0, hz1, hz2⟩ := info_parts info_bytes
  go_enter Try.func12, Try.ntmps12
  go_wp2
  go_loopg [4, 5, 6, 7] len (fun g v a r o wr => ∃ (k : Nat) (ts : List (List UInt8)), a = .int .i64 (k : Int) ∧ k + g = len ∧ ScanAt w wr l k ts v)
  case atStart => exact ⟨0, [], rfl, by omega, hT0⟩
  case round =>
    clear hT0
    obtain ⟨k, ts, rfl, hk, hT⟩ := hrel
    obtain ⟨A0, cap0, rfl⟩ := hT.row.form
    have s1 := fun W => run_rest (P := Try.prog) Try.underlying22 sizeOf_u8 A len cap k (by omega) hlc W
    have hld := (hl.drop k (by omega)).below hT.below (Nat.le_refl _)
    generalize restAt A cap k = A1 at *
    generalize cap - k = c1 at *
    obtain ⟨m, hmk⟩ : ∃ m, len - k = m := ⟨_, rfl⟩
    rw [hmk] at s1 hld
    have hF := walFirst_any A1 m c1 _ wr hld (by omega)
    have HT := Lib.hid hT
    have HK := Lib.hid hk
    cases hs : scan1 (l.drop k) with
    | none =>
      have HS := Lib.hid hs
      clear hT hk hmk hl hll hlc hm
      go_wp2_with (first
        | (go_at_call 29
           refine hF.mono ?_
           rintro e w1 ⟨hf, hb1⟩
           have he : e = .returned (.tuple #[.slice none 0 0, .bool false]) := by
             rcases hf with ⟨_, he⟩ | ⟨r, B, c, h1, _⟩
             · exact he
             · rw [HS] at h1; cases h1
           subst he
           clear hf)
        | fail)
      refine bodyPost_ret (results_tmp2 rfl _ _ _) rfl ?_
      exact ScanP.of HT rfl HS hb1
    | some r =>
      have HS := Lib.hid hs
      obtain ⟨hrm, hr6⟩ := Told.room hs
      rw [hll] at hrm
      have HTS := Lib.hid (hT.told.step hs)
      have hmany := hT.many
      have hbw := hT.below
      have hs0 := hT.below.size
      obtain ⟨vs, hown, hvl, hvat⟩ := hT.row
      have hof := hown.lt
      have hrow := Lib.hid hT.row
      obtain ⟨n, hn⟩ : ∃ n, Hid (r.length = n) := ⟨_, ⟨rfl⟩⟩
      have HV := Lib.hid hvat
      have HVL := Lib.hid hvl
      rw [hn.out] at hrm hr6
      have e1 : IntKind.i64.wrap (8 + (n : Int)) = ((8 + n : Nat) : Int) := by rw [IntWalk.i64_in _ (by omega)]; omega
      have e2 : IntKind.i64.wrap ((k : Int) + ((8 + n : Nat) : Int)) = ((k + (8 + n) : Nat) : Int) := by rw [IntWalk.i64_in _ (by omega)]; omega
      have hk2 : Hid (k + (8 + n) ≤ len ∧ 8 ≤ n + 8) := ⟨by omega, by omega⟩
      have hmn : Hid (8 * ts.length ≤ k ∧ ts.length ≤ 1000000000) := ⟨by omega, by omega⟩
      have hn6 : Hid (n ≤ 60000) := ⟨hr6⟩
      generalize h8 : 8 + n = n8 at *
      have H8 := Lib.hid h8
      clear hT hk hmk hs hrm hr6 hmany hm hll hlc hl h8 hvat hvl
      go_wp2_with (first
        | (go_at_call 29
           refine hF.mono ?_
           rintro e w1 ⟨hf, hb1⟩
           obtain ⟨B, c, he, hlB⟩ : ∃ B c, e = .returned (.tuple #[.slice B n c, .bool true]) ∧ Lies w1 B n c r := by
             rcases hf with ⟨h1, _⟩ | ⟨r', B, c, h1, he, hlr, _⟩
             · rw [HS] at h1; cases h1
             · rw [HS] at h1
               injection h1 with h1
               subst h1
               rw [hn.out] at he hlr
               exact ⟨B, c, he, hlr⟩
           subst he
           clear hf)
        | fail)
      refine (clone_any _ _ _ r _ hlB (by have := hn.out; have := hn6.out; omega)).mono ?_
      rintro e w2 ⟨v2, rfl, ho2, hb2⟩
      obtain ⟨A2, cap2, he2, hl2, hq2⟩ := lies_of_owns ho2
      have hc2 : cap2 ≤ maxLen := owns_cap (by rw [← he2]; exact ho2)
      rw [hn.out] at he2 hl2
      have hof2 := ho2.lt
      subst he2
      have hb12 : Below wr.heap.size wr w2 := hb1.trans (hb2.mono hb1.size)
      have hown2 := row_keep hown fun g hg => hb12.block g (hof g hg).2
      have htl : ts.length ≤ 1000000000 := hmn.out.2
      go_wp2_with (first
        | (at_builtin; refine wpList_append_lies _ rfl _ _ 29 rfl w.heap.size 22 i0 _ 1 24 Try.underlying29 hi0 hz0 hz1 hz2 rfl (by omega) (.slice A0 ts.length cap0) ts.length vs rfl (hown2.alloc _) ⟨w2.heap.size, 0, none⟩ 1 1 [.slice A2 n cap2] rfl rfl (World.news_of_block (heap_alloc_new w2 _)) (by simp [Value.oneCell']) (by omega) (by unfold maxLen; omega) (by omega) (by have := hb12.size; simp; omega) (w2.heap.size + 1) (by simp) ?_
           intro g2 cap3 w4 ho4 hgr4 hat4 hlt4)
        | fail)
      have hrec : RecRow w4 w.heap.size (.slice (some ⟨g2, 0, none⟩) (ts.length + 1) cap3) (ts ++ [r]) := by
        have hz := hb12.size
        refine RecRow.more (w := wr) (w1 := w2.alloc (.cells #[.slice A2 n cap2] 22)) hrow (hb12.alloc hb12.size _) (e := .slice A2 n cap2) ?_ hs0 vs HVL HV ho4 hgr4 (fun q hq => (hof q hq).2) ?_
        · refine ⟨A2, cap2, by rw [hn.out], hc2, ?_, fun h0 g off e => ?_⟩
          · rw [hn.out]
            exact hl2.below ((Below.refl w2.heap.size w2).alloc (Nat.le_refl _) _) (Nat.le_refl _)
          · have h1 := (hof2 g (hq2 g off e)).1
            have h2 := hb1.size
            omega
        · rcases hat4 with h | h
          · exact .inl h
          · exact .inr (by simp; omega)
      have hbw4 : Below w.heap.size w w4 := (hbw.trans ((hb12.alloc hb12.size _).mono hs0)).grown hgr4 (by have := hb12.size; simp; omega) fun q hq => (hof q hq).1
      have HR := Lib.hid hrec
      have HB := Lib.hid hbw4
      clear hrec hbw4 ho4 hgr4 hat4 hof hof2 hl2 hq2 hown2 hown hb12 hb2 hb1 ho2 hF hlB hmn htl hlt4
      go_wp2
      go_roundg (gk - (8 + n))
      case measure =>
        have a1 : k + gk = len := HK
        have a2 : 8 + n = n8 := H8
        have a3 := hk2.out.1
        omega
      case rel =>
        have a1 : k + gk = len := HK
        have a2 : 8 + n = n8 := H8
        have a3 := hk2.out.1
        refine ⟨k + n8, ts ++ [r], by first | rfl | go_num, by omega, ?_, ?_, HR, HB⟩
        · have h0 : Told l (k + (8 + r.length)) (ts ++ [r]) := HTS
          rw [hn.out, a2] at h0
          exact h0
        · have h0 : ScanAt w wr l k ts _ := HT
          have h1 := h0.many
          rw [List.length_append, List.length_singleton]
          omega

end Go.Proofs.Ytnkfdnehkihbeaa
