/- The document's scan, by its contract. -/
import Derived.Test.YtnkfdnehkihbeaaWalRefF
import Derived.Test.YtnkfdnehkihbeaaWalPure
import Derived.Test.YtnkfdnehkihbeaaWalHelpB
import Derived.Deep.RegionWith
import Derived.Deep.LoopGhost
import Derived.Deep.AppendLies
namespace Go.Proofs.Ytnkfdnehkihbeaa
open Go.RowKit
set_option linter.unusedVariables false
set_option linter.unusedSimpArgs false

theorem strInfo : (Try.prog.info? 9).map (fun i => (i.zero, i.size, i.bytes)) = some (some (.string ⟨#[]⟩), 1, 16) := by kernel_rfl

theorem btl_part (s : ByteArray) (a b : Nat) : btl (s.extract a b) = part (btl s) a b := ext_list s a b

theorem btl_size (s : ByteArray) : (btl s).length = s.size := size_list s

theorem number4_any (A : Option Addr) (cap : Nat) (l : List UInt8) (hl : l.length = 4) (w : World) (h : Lies w A 4 cap l) :
    Calls Try.prog 31 #[.agg #[.slice A 4 cap, .bool false], .int .i64 4] w fun e w' => ∃ A' cap', e = .returned (.tuple #[.int .u64 ((num l : Nat) : Int), .agg #[.slice A' 0 cap', .bool false]]) ∧ Below w.heap.size w w' := by
  have h4 : left (some l) = 4 := hl
  have := numberR_any A cap (some l) w 4 (by omega) (by unfold RLies; rw [h4]; exact h)
  have e1 : takeN (some l) 4 = (l, some []) := by
    simp only [takeN, if_pos (Nat.le_of_eq hl.symm)]
    rw [List.take_of_length_le (by omega), List.drop_eq_nil_of_le (by omega)]
  simp only [inv, h4, numberN, e1, Option.isNone] at this
  exact this.mono fun e w' ⟨A', cap', h1, _, h2⟩ => ⟨A', cap', h1, h2⟩

/-- The records told up to place k, in a row of the call's own. -/
structure TellAt (w wr : World) (s : ByteArray) (k : Nat) (ts : List ByteArray) (v : Value) : Prop where
  told : Told (btl s) k (ts.map btl)
  many : 8 * ts.length ≤ k
  row : wr.ownsRow w.heap.size 9 1 v ts.length (ts.map fun p => .string p)
  below : Below w.heap.size w wr
  form : ∃ A cap, v = .slice A ts.length cap

theorem hidden {p : Prop} (h : p) : Hid p := ⟨h⟩
theorem hidden_out {p : Prop} (h : Hid p) : p := h.out

theorem btl_inj {a b : ByteArray} (h : btl a = btl b) : a = b := by
  obtain ⟨a⟩ := a
  obtain ⟨b⟩ := b
  exact congrArg ByteArray.mk (Array.toList_inj.1 h)

/-- The frame of a text, as one text for every world. -/
theorem frameR_one (s : ByteArray) (hs : s.size ≤ 1000000) : ∃ T : ByteArray, btl T = frameL (btl s) ∧ ∀ W, Calls Try.prog 11 #[.string s] W fun e w' => e = .returned (.string T) ∧ Below W.heap.size W w' := by
  refine ⟨⟨(frameL (btl s)).toArray⟩, rfl, fun W => (frameR_any s hs W).mono ?_⟩
  rintro e w' ⟨t, rfl, ht, hb⟩
  refine ⟨?_, hb⟩
  rw [btl_inj (b := ⟨(frameL (btl s)).toArray⟩) ht]

/-- What the scan answers. -/
def Scans (s : ByteArray) (w : World) (e : Ending) (w' : World) : Prop :=
  ∃ (v : Value) (ts : List ByteArray), e = .returned (.tuple #[v, .int .i64 (((scanL (btl s)).2 : Nat) : Int)]) ∧ w'.ownsRow w.heap.size 9 1 v ts.length (ts.map fun p => .string p) ∧ ts.map btl = (scanL (btl s)).1 ∧ Below w.heap.size w w'

theorem Scans.of {s : ByteArray} {w w' : World} {k : Nat} {ts : List ByteArray} {v : Value} (h : TellAt w w' s k ts v) (hs : scanL ((btl s).drop k) = ([], 0)) : Scans s w (.returned (.tuple #[v, .int .i64 (k : Int)])) w' := by
  have hd := h.told.done hs
  refine ⟨v, ts, ?_, h.row, ?_, h.below⟩
  · rw [hd]
  · rw [hd]

/-- The same behind what leaves the row's blocks as they were. -/
theorem TellAt.keep {w wr w' : World} {s : ByteArray} {k : Nat} {ts : List ByteArray} {v : Value} (h : TellAt w wr s k ts v) (hb : Below wr.heap.size wr w') : TellAt w w' s k ts v := by
  refine ⟨h.told, h.many, ?_, h.below.trans (hb.mono h.below.size), h.form⟩
  rcases h.row.2 with ⟨e, h0⟩ | ⟨g, cap, cur, e, hb', hg, r⟩
  · exact ⟨h.row.1, .inl ⟨e, h0⟩⟩
  · exact ⟨h.row.1, .inr ⟨g, cap, cur, e, hb', (hb.block g (hlt hg)).trans hg, r⟩⟩

set_option maxRecDepth 100000 in
set_option maxHeartbeats 3200000 in
theorem scanR_any (s : ByteArray) (hs : s.size ≤ 1000000) (w : World) :
    Calls Try.prog 13 #[.string s] w (Scans s w) := by
  have hT0 : TellAt w w s 0 [] (.slice none 0 0) := ⟨Told.start _, Nat.le_refl _, World.ownsRow_nil _ _ _ _, Below.refl _ _, ⟨_, _, rfl⟩⟩
  go_enter Try.func13, Try.ntmps13
  go_wp2
  go_loopg [4, 5, 6, 7, 8, 9] s.size (fun g v a x6 x7 x8 x9 wr => ∃ (k : Nat) (ts : List ByteArray), a = .int .i64 (k : Int) ∧ k + g = s.size ∧ TellAt w wr s k ts v)
  case atStart => exact ⟨0, [], rfl, by omega, hT0⟩
  case round =>
    clear hT0
    obtain ⟨k, ts, rfl, hk, hT⟩ := hrel
    obtain ⟨A0, cap0, rfl⟩ := hT.form
    obtain ⟨i0, hi0, hz0, hz1, hz2⟩ := info_parts strInfo
    obtain ⟨m, hm⟩ : ∃ m : Nat, s.size = k + m := ⟨s.size - k, by omega⟩
    have hw1 : IntKind.i64.wrap ((s.size : Int) - (k : Int)) = (m : Int) := by rw [IntWalk.i64_in _ (by omega)]; omega
    by_cases hlt : k + 8 ≤ s.size
    · have hlt' : (8 : Int) ≤ (m : Int) := by omega
      have hw2 : IntKind.i64.wrap ((k : Int) + 4) = (k : Int) + 4 := IntWalk.i64_in _ (by omega)
      have hk0 : (0 : Int) ≤ (k : Int) := by omega
      have hk1 : (k : Int) ≤ (k : Int) + 4 := by omega
      have hk2 : (k : Int) + 4 ≤ (s.size : Int) := by omega
      have hkn : ((k : Int) + 4).toNat = k + 4 := by omega
      obtain ⟨c, W', hcv, hl2, hbW, hsW⟩ := conv_bytes wr (s.extract k (k + 4))
      have hz4 : (s.extract k (k + 4)).size = 4 := by rw [ByteArray.size_extract]; omega
      rw [hz4] at hcv hl2
      have hb4 : (btl (s.extract k (k + 4))).length = 4 := by rw [btl_size, hz4]
      change Lies W' (some ⟨wr.heap.size, 0, none⟩) 4 c (btl (s.extract k (k + 4))) at hl2
      have hN := fun (W : World) (h : Below W'.heap.size W' W) => number4_any _ c _ hb4 W (hl2.below h (Nat.le_refl _))
      have hnum : Hid (num (part (btl s) k (k + 4)) = num (btl (s.extract k (k + 4)))) := ⟨by rw [btl_part]⟩
      have hnlt := num_lt (btl (s.extract k (k + 4)))
      rw [hb4] at hnlt
      generalize num (btl (s.extract k (k + 4))) = n at hN hnum hnlt
      have hnlt2 : (n : Int) < 4294967296 := by omega
      clear hnlt hb4 hz4 hl2
      by_cases h6 : 60000 < n
      · have h6' : (60000 : Int) < (n : Int) := by omega
        have HE := hidden (scan_wrong (btl s) k n (by rw [btl_size]; omega) hnum.out (.inl h6))
        have HT := hidden hT
        clear hT hnum hk hm
        go_wp2_with (first
          | (go_at_call 31
             refine (hN _ (by first | exact (Below.refl _ _).alloc (Nat.le_refl _) _ | exact ((Below.refl _ _).alloc (Nat.le_refl _) _).drew)).mono ?_
             rintro e w3 ⟨A3, cap3, rfl, hb3⟩)
          | fail)
        refine bodyPost_ret (results_tmp2 rfl _ _ _) rfl ?_
        exact Scans.of (HT.out.keep ((hbW.alloc hbW.size _).trans ((hb3.mono (by simp; omega)).alloc (by have := hb3.size; simp at this; omega) _))) HE.out
      · have h6' : ¬ (60000 : Int) < (n : Int) := by omega
        obtain ⟨r, hr⟩ : ∃ r : Nat, m = 8 + r := ⟨m - 8, by omega⟩
        have hw3 : IntKind.i64.wrap ((m : Int) - 8) = (r : Int) := by rw [IntWalk.i64_in _ (by omega)]; omega
        have hw4 : IntKind.u64.wrap (r : Int) = (r : Int) := IntWalk.u64_in _ (by omega)
        by_cases h7 : s.size < k + 8 + n
        · have h7' : (r : Int) < (n : Int) := by omega
          have HE := hidden (scan_wrong (btl s) k n (by rw [btl_size]; omega) hnum.out (.inr (by rw [btl_size]; omega)))
          have HT := hidden hT
          clear hT hnum hk hm hr h7
          go_wp2_with (first
            | (go_at_call 31
               refine (hN _ (by first | exact (Below.refl _ _).alloc (Nat.le_refl _) _ | exact ((Below.refl _ _).alloc (Nat.le_refl _) _).drew)).mono ?_
               rintro e w3 ⟨A3, cap3, rfl, hb3⟩)
            | fail)
          refine bodyPost_ret (results_tmp2 rfl _ _ _) rfl ?_
          exact Scans.of (HT.out.keep ((hbW.alloc hbW.size _).trans ((hb3.mono (by simp; omega)).alloc (by have := hb3.size; simp at this; omega) _))) HE.out
        · have h7' : ¬ ((r : Int) < (n : Int)) := by omega
          have H7 := hidden h7
          have hw5 : IntKind.i64.wrap ((k : Int) + 8) = (k : Int) + 8 := IntWalk.i64_in _ (by omega)
          have hw6 : IntKind.i64.wrap (n : Int) = (n : Int) := IntWalk.i64_in _ (by omega)
          have hw7 : IntKind.i64.wrap ((k : Int) + 8 + (n : Int)) = (k : Int) + 8 + (n : Int) := IntWalk.i64_in _ (by omega)
          have k8 : (0 : Int) ≤ (k : Int) + 8 := by omega
          have k9 : (k : Int) + 8 ≤ (k : Int) + 8 + (n : Int) := by omega
          have k10 : (k : Int) + 8 + (n : Int) ≤ (s.size : Int) := by omega
          have k11 : (k : Int) ≤ (k : Int) + 8 + (n : Int) := by omega
          have t8 : ((k : Int) + 8).toNat = k + 8 := by omega
          have t9 : ((k : Int) + 8 + (n : Int)).toNat = k + 8 + n := by omega
          obtain ⟨T, hTb, hF⟩ := frameR_one (s.extract (k + 8) (k + 8 + n)) (by rw [ByteArray.size_extract]; omega)
          rw [btl_part] at hTb
          have hd6 : ((60000 : Int) < (n : Int)) = False := eq_false h6'
          have hd7 : ((r : Int) < (n : Int)) = False := eq_false h7'
          clear h6' h7'
          by_cases hE : T = s.extract k (k + 8 + n)
          · have HE := hidden (hT.told.next hnum.out (by rw [btl_size]; omega) (by omega) (by rw [← hTb, hE, btl_part]))
            have HT := hidden hT
            have HK := hidden hk
            have HM := hidden hm
            have HR := hidden hr
            subst hE
            clear hT hnum hTb h7 h6 hm hr hk
            go_wp2_with (first
              | (go_at_call 31
                 refine (hN _ (by first | exact (Below.refl _ _).alloc (Nat.le_refl _) _ | exact ((Below.refl _ _).alloc (Nat.le_refl _) _).drew)).mono ?_
                 rintro e w3 ⟨A3, cap3, rfl, hb3⟩)
              | fail)
            have hb5 : Below wr.heap.size wr (w3.alloc (.cells #[.slice A3 0 cap3, .bool false] 66)) := (hbW.alloc hbW.size _).trans ((hb3.mono (by simp; omega)).alloc (by have := hb3.size; simp at this; omega) _)
            go_region_with (go_at_call 11
                            refine (hF _).mono ?_
                            rintro e w4 ⟨rfl, hb4⟩)
            all_goals
              have HB := hidden (hb5.drew.trans (hb4.mono (by have := hb5.size; simpa using this)))
              have hT4 : TellAt w w4 s k ts (.slice A0 ts.length cap0) := TellAt.keep HT.out HB.out
              have hown4 := hT4.row
              have hbl4 := hT4.below
              have hmn : 8 * ts.length ≤ k := hT4.many
              have htl : ts.length ≤ 1000000 := by have := hidden_out HK; omega
              have hsw := hbl4.size
              clear hF hN hcv hlt hlt' hnlt2 hd6 hd7 hw1 hw2 hw3 hw4 hk0 hk1 hk2 hkn hsW hb5 hb4 hb3 hbW hmn
              go_wp2_with (first
                | (at_builtin; refine wpList_append_lies _ rfl _ _ 32 rfl w.heap.size 9 i0 _ 1 16 Try.underlying32 hi0 hz0 hz1 hz2 rfl (by omega) (.slice A0 ts.length cap0) ts.length _ rfl (hown4.alloc _) ⟨w4.heap.size, 0, none⟩ 1 1 [.string (s.extract (k + 8) (k + 8 + n))] rfl rfl (World.news_of_block (heap_alloc_new w4 _)) (by simp [Value.oneCell']) (by omega) (by unfold maxLen; omega) (by omega) (by simp; omega) (w4.heap.size + 1) (by simp) ?_
                   intro g2 cap2 w5 ho5 hgr5 hat5 hlt5)
                | fail)
              have HN := hidden (show TellAt w w5 s (k + 8 + n) (ts ++ [s.extract (k + 8) (k + 8 + n)]) (.slice (some ⟨g2, 0, none⟩) (ts.length + 1) cap2) from
                ⟨by rw [List.map_append, List.map_cons, List.map_nil, btl_part]; exact hidden_out HE, by have := hT4.many; rw [List.length_append, List.length_singleton]; omega, by rw [List.length_append, List.map_append]; exact ho5, (hbl4.alloc hbl4.size _).grown hgr5 (by simp; omega) (fun q hq => (hown4.lt q hq).1), ⟨_, _, by rw [List.length_append]; rfl⟩⟩)
              clear hT4 hown4 hbl4 ho5 hgr5 hat5 hlt5 hw5 hw6 hw7 t8 t9 k8 k9 k10 k11
              go_wp2
              go_roundg (gk - (8 + n))
              case measure => have := hidden_out HK; have := hidden_out H7; omega
              case rel => exact ⟨k + 8 + n, _, by first | rfl | go_num | (congr 1; omega), by have := hidden_out HK; have := hidden_out H7; omega, hidden_out HN⟩
          · have HE := hidden (scan_else (btl s) k n hnum.out (fun e => hE (btl_inj (by rw [hTb, e, btl_part]))))
            have HT := hidden hT
            have hEf := str_ne hE
            clear hT hnum hTb h7 h6 hm hr hk hE
            go_wp2_with (first
              | (go_at_call 31
                 refine (hN _ (by first | exact (Below.refl _ _).alloc (Nat.le_refl _) _ | exact ((Below.refl _ _).alloc (Nat.le_refl _) _).drew)).mono ?_
                 rintro e w3 ⟨A3, cap3, rfl, hb3⟩)
              | fail)
            have hb5 : Below wr.heap.size wr (w3.alloc (.cells #[.slice A3 0 cap3, .bool false] 66)) := (hbW.alloc hbW.size _).trans ((hb3.mono (by simp; omega)).alloc (by have := hb3.size; simp at this; omega) _)
            go_region_with (go_at_call 11
                            refine (hF _).mono ?_
                            rintro e w4 ⟨rfl, hb4⟩)
            all_goals
              clear hF hN hcv hEf hlt hlt' hnlt2 hd6 hd7 hw5 hw6 hw7 hw1 hw2 hw3 hw4 t8 t9 k8 k9 k10 k11 hk0 hk1 hk2 hkn hsW
              have HB := hidden (hb5.drew.trans (hb4.mono (by have := hb5.size; simpa using this)))
              clear hb5 hb4 hb3 hbW
              go_wp2
              refine bodyPost_ret (results_tmp2 rfl _ _ _) rfl ?_
              exact Scans.of (HT.out.keep HB.out) HE.out
    · have hlt' : ¬ ((8 : Int) ≤ (m : Int)) := by omega
      have HE := hidden (scan_short (btl s) k (by rw [btl_size]; omega))
      have HT := hidden hT
      clear hT hk hm
      go_wp2
      refine bodyPost_ret (results_tmp2 rfl _ _ _) rfl ?_
      exact Scans.of HT.out HE.out

end Go.Proofs.Ytnkfdnehkihbeaa
