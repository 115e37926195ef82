/- The call gather of a tree's node: the pairs between two places, behind those that are there already. -/
import Derived.Test.YtnkfdnehkihbeaaMapDFl
import Derived.Deep.AppendLies
import Derived.OwnWalk
namespace Go.Proofs.Ytnkfdnehkihbeaa.MapFl
open Go.RowKit Go.Proofs.Ytnkfdnehkihbeaa
set_option linter.unusedVariables false
variable {P : Nat → Prop}

theorem pairInfo : (Try.prog.info? 85).map (fun i => (i.zero, i.size, i.bytes)) = some (some (.agg #[(Value.string ⟨#[]⟩), (Value.slice none 0 0), (Value.int .i64 0)]), 3, 48) := by kernel_rfl

def cellsL (l : List (ByteArray × FV)) : List Value := l.flatMap fun p => [Value.string p.1, fvS p.2, fvN p.2]
theorem cellsL_nil : cellsL [] = [] := rfl
theorem cellsL_app (a b : List (ByteArray × FV)) : cellsL (a ++ b) = cellsL a ++ cellsL b := List.flatMap_append
theorem cellsL_one (p : ByteArray × FV) : cellsL [p] = [Value.string p.1, fvS p.2, fvN p.2] := rfl

/-- What gather ends in. -/
def Gath (W : World) (n : Nat) (xs : List Value) (l : List (ByteArray × FV)) (e : Ending) (w' : World) : Prop :=
  ∃ g cap, e = .returned (.slice (some ⟨g, 0, none⟩) (n + l.length) cap) ∧ w'.ownsRow W.heap.size 85 3 (.slice (some ⟨g, 0, none⟩) (n + l.length) cap) (n + l.length) (xs ++ cellsL l) ∧ Below W.heap.size W w'

theorem gath_nil {W w : World} {n g cap : Nat} {xs : List Value} {l : List (ByteArray × FV)} (hl : l = []) (ho : w.ownsRow W.heap.size 85 3 (.slice (some ⟨g, 0, none⟩) n cap) n xs) (hb : Below W.heap.size W w) :
    Gath W n xs l (.returned (.slice (some ⟨g, 0, none⟩) n cap)) w := by
  subst hl
  exact ⟨g, cap, rfl, by simpa [cellsL_nil] using ho, hb⟩

theorem gath_fin {W w : World} {n m : Nat} {xs xs1 : List Value} {pre l tot : List (ByteArray × FV)} {e : Ending} (h : Gath W m xs1 l e w) (h1 : RowKit.Hid (xs1 = xs ++ cellsL pre)) (h2 : RowKit.Hid (m = n + pre.length)) (h3 : RowKit.Hid (tot = pre ++ l)) : Gath W n xs tot e w := by
  have h1 := h1.out
  have h2 := h2.out
  have h3 := h3.out
  subst h1 h2 h3
  obtain ⟨g, cap, he, ho, hb⟩ := h
  refine ⟨g, cap, ?_, ?_, hb⟩
  · rw [he, List.length_append, Nat.add_assoc]
  · rw [List.length_append, cellsL_app, ← Nat.add_assoc, ← List.append_assoc]; exact ho

set_option maxRecDepth 100000 in
set_option maxHeartbeats 3200000 in
theorem gather_any (W : World) (t : T) : ∀ (u : Option Addr) (w : World) (g n cap : Nat) (xs : List Value) (f o : Int), Rp P W u t → Below W.heap.size W w →
    w.ownsRow W.heap.size 85 3 (.slice (some ⟨g, 0, none⟩) n cap) n xs → n + t.size ≤ 4000000 → (t.size : Int) ≤ f + 8000000 → (t.size : Int) ≤ o + 8000000 → f ≤ 4000000 → o ≤ 4000000 →
    Calls Try.prog 62 #[.pointer u, .slice (some ⟨g, 0, none⟩) n cap, .int .i64 f, .int .i64 o] w (Gath W n xs (Tr.sub f o t.list)) := by
  induction t with
  | nil =>
    intro u w g n cap xs f o h hb ho _ _ _ _ _
    have h0 := h
    obtain ⟨rfl, hE⟩ := h
    have hg := gath_nil (l := Tr.sub f o ([] : List (ByteArray × FV))) (Tr.sub_nil f o) ho hb
    go_enter Try.func62, Try.ntmps62
    go_wp2
    go_ret
    exact hg
  | node nk nv l r ihl ihr =>
    intro u w g n cap xs f o h hb ho hs hf1 ho1 hf2 ho2
    have hsz := Tr.size_node nk nv l r
    obtain ⟨b, ul, ur, rfl, hPb, c0, c1, c1b, c2, c3, c4, c5, hl, hr⟩ := h
    have hbW : b < W.heap.size := World.block_lt_of_cell? W _ c0
    have lenl : (l.list.length : Int) = l.size := by rw [Tr.length_list]
    by_cases h1 : o ≤ 0
    · have hg := gath_nil (l := Tr.sub f o (Tr.node nk nv l r).list) (Tr.sub_to f o _ h1) ho hb
      go_enter Try.func62, Try.ntmps62
      go_wp2
      go_ret
      exact hg
    · obtain ⟨sz, hsz'⟩ : ∃ sz : Nat, l.size + 1 + r.size = sz := ⟨_, rfl⟩
      rw [hsz'] at c4 hsz
      have d0 : w.cell? ⟨b, 0, none⟩ = some (Value.string nk) := (hb.cell hbW).trans c0
      obtain ⟨d1, d1b⟩ : w.cell? ⟨b, 1, none⟩ = some (fvS nv) ∧ w.cell? ⟨b, 2, none⟩ = some (fvN nv) := ⟨(hb.cell hbW).trans c1, (hb.cell hbW).trans c1b⟩
      have d2 : w.cell? ⟨b, 3, none⟩ = some (.pointer ul) := (hb.cell hbW).trans c2
      have d3 : w.cell? ⟨b, 4, none⟩ = some (.pointer ur) := (hb.cell hbW).trans c3
      have d4 : w.cell? ⟨b, 5, none⟩ = some (.int .i64 (sz : Int)) := (hb.cell hbW).trans c4
      by_cases h2 : (sz : Int) ≤ f
      · have hg := gath_nil (l := Tr.sub f o (Tr.node nk nv l r).list) (Tr.sub_from f o _ (by rw [Tr.length_list, hsz]; exact h2)) ho hb
        clear hsz hsz' lenl
        go_enter Try.func62, Try.ntmps62
        go_wp2
        go_ret
        exact hg
      · have h1' : 0 < o := by omega
        have h2' : f < (sz : Int) := by omega
        have hlb : (l.size : Int) ≤ 4000000 := by omega
        have hrb : (r.size : Int) ≤ 4000000 := by omega
        have bl1 : (l.size : Int) ≤ f + 8000000 := by omega
        have bl2 : (l.size : Int) ≤ o + 8000000 := by omega
        have br1 : (r.size : Int) ≤ (f - l.size - 1) + 8000000 := by omega
        have br2 : (r.size : Int) ≤ (o - l.size - 1) + 8000000 := by omega
        have br3 : f - l.size - 1 ≤ 4000000 := by omega
        have br4 : o - l.size - 1 ≤ 4000000 := by omega
        have bn1 : n + l.size ≤ 4000000 := by omega
        have bn2 : n + l.size + 1 + r.size ≤ 4000000 := by omega
        have hle : (Tr.sub f o l.list).length ≤ l.size := by unfold Tr.sub; rw [← Tr.length_list]; simp; omega
        have HS : RowKit.Hid (Tr.sub f o (Tr.node nk nv l r).list = Tr.sub f o l.list ++ ((if f ≤ l.list.length ∧ (l.list.length : Int) < o then [(nk, nv)] else []) ++ Tr.sub (f - l.list.length - 1) (o - l.list.length - 1) r.list)) := Tr.sub_node f o l.list r.list (nk, nv)
        rw [lenl] at HS
        clear hsz hsz' lenl hs h1 h2
        obtain ⟨i0, hi0, hz0, hz1, hz2⟩ := info_parts pairInfo
        by_cases h3 : f ≤ (l.size : Int) ∧ (l.size : Int) < o
        · obtain ⟨h3a, h3b⟩ := h3
          have HT : RowKit.Hid (Tr.sub f o (Tr.node nk nv l r).list = (Tr.sub f o l.list ++ [(nk, nv)]) ++ Tr.sub (f - l.size - 1) (o - l.size - 1) r.list) := by
            have := HS.out
            rw [if_pos ⟨h3a, h3b⟩] at this
            rw [List.append_assoc]; exact this
          clear HS
          have IH : ∀ w', Below W.heap.size W w' → ∀ g n cap xs, w'.ownsRow W.heap.size 85 3 (.slice (some ⟨g, 0, none⟩) n cap) n xs → n + r.size ≤ 4000000 →
              Calls Try.prog 62 #[.pointer ur, .slice (some ⟨g, 0, none⟩) n cap, .int .i64 (f - l.size - 1), .int .i64 (o - l.size - 1)] w' (Gath W n xs (Tr.sub (f - l.size - 1) (o - l.size - 1) r.list)) :=
            fun w' hb' g n cap xs ho' hn => ihr ur w' g n cap xs _ _ hr hb' ho' hn br1 br2 br3 br4
          go_enter Try.func62, Try.ntmps62
          go_wp2_with (first
            | (go_at_call 63; refine (count_any (P := P) l ul _ (Rp.below hb (Nat.le_refl _) hl)).mono ?_; rintro e w' ⟨rfl, rfl⟩)
            | (go_at_call_of 62 (Value.pointer ul); refine (ihl ul _ g n cap xs f o hl hb ho bn1 bl1 bl2 hf2 ho2).mono ?_; rintro e w1 ⟨g1, cap1, rfl, ho1, hb1⟩
               generalize hm : n + (Tr.sub f o l.list).length = m at ho1 ⊢
               have HM : RowKit.Hid (m = n + (Tr.sub f o l.list).length) := hm.symm
               have hm2 : m + 1 + r.size ≤ 4000000 := by omega
               clear hm
               have e0 : w1.cell? ⟨b, 0, none⟩ = some (Value.string nk) := (hb1.cell hbW).trans c0
               obtain ⟨e1, e1b⟩ : w1.cell? ⟨b, 1, none⟩ = some (fvS nv) ∧ w1.cell? ⟨b, 2, none⟩ = some (fvN nv) := ⟨(hb1.cell hbW).trans c1, (hb1.cell hbW).trans c1b⟩
               have hbw1 : b < w1.heap.size := Nat.lt_of_lt_of_le hbW hb1.size)
            | (at_builtin; refine wpList_append_lies _ rfl _ _ 80 rfl W.heap.size 85 i0 _ 3 48 Try.underlying80 hi0 hz0 hz1 hz2 rfl (by omega) (.slice (some ⟨g1, 0, none⟩) m cap1) m _ rfl (ho1.alloc _) ⟨w1.heap.size, 0, none⟩ 1 1 [Value.string nk, fvS nv, fvN nv] rfl rfl (World.news_of_block (heap_alloc_new w1 _)) (by simp [Value.oneCell']) (by omega) (by unfold maxLen; omega) (by omega) (by have := hb1.size; simp; omega) (w1.heap.size + 1) (by simp) ?_
               intro g2 cap2 w2 ho2 hgr2 hat2 hlt2
               have hb2 : Below W.heap.size W w2 := (hb1.alloc hb1.size _).grown hgr2 (by have := hb1.size; simp; omega) (fun k hk => (ho1.lt k hk).1)
               have e3 : w2.cell? ⟨b, 4, none⟩ = some (.pointer ur) := (hb2.cell hbW).trans c3)
            | (go_at_call_of 62 (Value.pointer ur); refine (IH w2 hb2 g2 (m + 1) cap2 _ ho2 hm2).mono ?_; rintro e w3 ⟨g3, cap3, rfl, ho3, hb3⟩
               have hG : Gath W (m + 1) (xs ++ cellsL (Tr.sub f o l.list) ++ [Value.string nk, fvS nv, fvN nv]) (Tr.sub (f - l.size - 1) (o - l.size - 1) r.list) (.returned (.slice (some ⟨g3, 0, none⟩) (m + 1 + (Tr.sub (f - l.size - 1) (o - l.size - 1) r.list).length) cap3)) w3 := ⟨g3, cap3, rfl, ho3, hb3⟩
               clear ho3 hb3))
          go_ret
          exact gath_fin (pre := Tr.sub f o l.list ++ [(nk, nv)]) hG (show _ = _ by rw [cellsL_app, cellsL_one, List.append_assoc]) (show _ = _ by rw [List.length_append, HM.out, Nat.add_assoc]; rfl) HT
        · have HT : RowKit.Hid (Tr.sub f o (Tr.node nk nv l r).list = Tr.sub f o l.list ++ Tr.sub (f - l.size - 1) (o - l.size - 1) r.list) := by
            have := HS.out
            rw [if_neg h3] at this
            rw [this]; rfl
          clear HS
          have IH : ∀ w', Below W.heap.size W w' → ∀ g n cap xs, w'.ownsRow W.heap.size 85 3 (.slice (some ⟨g, 0, none⟩) n cap) n xs → n + r.size ≤ 4000000 →
              Calls Try.prog 62 #[.pointer ur, .slice (some ⟨g, 0, none⟩) n cap, .int .i64 (f - l.size - 1), .int .i64 (o - l.size - 1)] w' (Gath W n xs (Tr.sub (f - l.size - 1) (o - l.size - 1) r.list)) :=
            fun w' hb' g n cap xs ho' hn => ihr ur w' g n cap xs _ _ hr hb' ho' hn br1 br2 br3 br4
          have h3' : (f ≤ (l.size : Int) ∧ o ≤ (l.size : Int)) ∨ (l.size : Int) < f := by omega
          clear h3
          rcases h3' with ⟨h3a, h3b⟩ | h3a
          all_goals
            go_enter Try.func62, Try.ntmps62
            go_wp2_with (first
              | (go_at_call 63; refine (count_any (P := P) l ul _ (Rp.below hb (Nat.le_refl _) hl)).mono ?_; rintro e w' ⟨rfl, rfl⟩)
              | (go_at_call_of 62 (Value.pointer ul); refine (ihl ul _ g n cap xs f o hl hb ho bn1 bl1 bl2 hf2 ho2).mono ?_; rintro e w1 ⟨g1, cap1, rfl, ho1, hb1⟩
                 generalize hm : n + (Tr.sub f o l.list).length = m at ho1 ⊢
                 have HM : RowKit.Hid (m = n + (Tr.sub f o l.list).length) := hm.symm
                 have hm2 : m + r.size ≤ 4000000 := by omega
                 clear hm
                 have e3 : w1.cell? ⟨b, 4, none⟩ = some (.pointer ur) := (hb1.cell hbW).trans c3)
              | (go_at_call_of 62 (Value.pointer ur); refine (IH w1 hb1 g1 m cap1 _ ho1 hm2).mono ?_; rintro e w3 ⟨g3, cap3, rfl, ho3, hb3⟩
                 have hG : Gath W m (xs ++ cellsL (Tr.sub f o l.list)) (Tr.sub (f - l.size - 1) (o - l.size - 1) r.list) (.returned (.slice (some ⟨g3, 0, none⟩) (m + (Tr.sub (f - l.size - 1) (o - l.size - 1) r.list).length) cap3)) w3 := ⟨g3, cap3, rfl, ho3, hb3⟩
                 clear ho3 hb3))
            go_ret
            exact gath_fin hG rfl HM HT

end Go.Proofs.Ytnkfdnehkihbeaa.MapFl
