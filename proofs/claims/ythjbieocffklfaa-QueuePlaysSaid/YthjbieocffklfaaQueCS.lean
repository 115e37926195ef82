/- The call Drain of a queue of texts, by its contract. -/
import Derived.Test.YthjbieocffklfaaQueBS
import Derived.Deep.AppendLies
import Derived.OwnWalk
import Derived.IntWalk
import Derived.Lib.Hide
import Derived.Deep.LoopGhost
namespace Go.Proofs.Ythjbieocffklfaa.QueS
open Go.RowKit Go.Conc Go.Proofs.Ythjbieocffklfaa
set_option linter.unusedVariables false

theorem info_el : (Try.prog.info? 9).map (fun i => (i.zero, i.size, i.bytes)) = some (some (Value.string ⟨#[]⟩), 1, 16) := by kernel_rfl

theorem drain_nil (m : Int) (w : World) : Calls Try.prog 12 #[.pointer none, .int .i64 m] w fun e w' => e = .returned (.slice none 0 0) ∧ w = w' := by
  by_cases hm : m ≤ 0
  all_goals
    go_enter Try.func12, Try.ntmps12
    go_wp2_with (go_at_call 11; refine (len_nil _).mono ?_; rintro e w1 ⟨rfl, rfl⟩)
    go_ret
    exact ⟨rfl, rfl⟩

theorem drain_none (m : Int) (w : World) (q c cap : Nat) (l : List ByteArray) (Z : Nat → Prop) (h : Q w q c cap l Z) (hm : m ≤ 0 ∨ l = []) : Calls Try.prog 12 #[.pointer (some ⟨q, 0, none⟩), .int .i64 m] w fun e w' => e = .returned (.slice none 0 0) ∧ w = w' := by
  have hl : 0 ≤ (l.length : Int) := by omega
  have hlen := len_any w q c cap l Z h
  by_cases h1 : m ≤ (l.length : Int)
  · have h2 : m < 1 := by
      rcases hm with hm | rfl
      · omega
      · simp at h1; omega
    go_enter Try.func12, Try.ntmps12
    go_wp2_with (go_at_call 11; refine hlen.mono ?_; rintro e w1 ⟨rfl, rfl⟩)
    go_ret
    exact ⟨rfl, rfl⟩
  · obtain rfl : l = [] := by
      rcases hm with hm | rfl
      · omega
      · rfl
    simp only [List.length_nil] at hlen h1
    go_enter Try.func12, Try.ntmps12
    go_wp2_with (go_at_call 11; refine hlen.mono ?_; rintro e w1 ⟨rfl, rfl⟩)
    go_ret
    exact ⟨rfl, rfl⟩

theorem drain_some (m : Int) (n : Nat) (w : World) (q c cap : Nat) (l : List ByteArray) (Z : Nat → Prop) (h : Q w q c cap l Z) (hcap : cap ≤ 64) (h0 : 1 ≤ n) (hn : min m (l.length : Int) = (n : Int)) :
    Calls Try.prog 12 #[.pointer (some ⟨q, 0, none⟩), .int .i64 m] w fun e w' => ∃ v, e = .returned v ∧ w'.ownsRow w.heap.size 9 1 v n ((l.take n).map Value.string) ∧ Q w' q c cap (l.drop n) (fun _ => False) ∧ w.grownBy w' (some c) := by
  obtain ⟨i0, hi0, hz0, hz1, hz2⟩ := info_parts info_el
  have hlen := len_any w q c cap l Z h
  have hfit := h.fits
  have hnl : n ≤ l.length := by omega
  have hnb : (n : Int) ≤ 64 := by omega
  have hmin : (if (l.length : Int) < m then (l.length : Int) else m) = (n : Int) := by split <;> omega
  have hmin2 : (if m < (l.length : Int) then m else (l.length : Int)) = (n : Int) := by split <;> omega
  have hmin3 : (if m ≤ (l.length : Int) then m else (l.length : Int)) = (n : Int) := by split <;> omega
  have hge : ¬ ((n : Int) < 1) := by omega
  go_enter Try.func12, Try.ntmps12
  go_wp2_with (first
    | (go_at_call 11; refine hlen.mono ?_; rintro e w1 ⟨rfl, rfl⟩)
    | (at_make; refine wpList_make_own _ rfl _ _ 28 rfl w.heap.size 9 i0 _ 1 Try.underlying28 hi0 hz0 hz1 _ _ _ n rfl rfl rfl (by rw [hz2]; omega) (by unfold maxLen; omega) (Nat.le_refl _) ?_))
  intro w1 ho1 hg1
  have hq1 : Q w1 q c cap (l.drop 0) (· = w.heap.size) := ((h.out (· = w.heap.size) (fun k hk => .inr (Nat.le_of_eq hk.symm))).grown hg1 (fun _ e => by cases e))
  replace hg1 : w.grownBy w1 (some c) := ⟨hg1.os, hg1.tape, hg1.output, hg1.size, fun k hk _ => hg1.block k hk (by simp)⟩
  have hs1 := hg1.size
  clear hmin hmin2 hmin3 hlen h
  go_wp2_with fail
  go_loopg [5, 17] n (fun g s x wr => ∃ j : Nat, x = .int .i64 (j : Int) ∧ j + g = n ∧ s = .slice (some ⟨w.heap.size, 0, none⟩) j n ∧ Q wr q c cap (l.drop j) (· = w.heap.size) ∧ wr.ownsRow w.heap.size 9 1 (.slice (some ⟨w.heap.size, 0, none⟩) j n) j ((l.take j).map Value.string) ∧ w.grownBy wr (some c))
  case atStart => exact ⟨0, rfl, by omega, rfl, hq1, by simpa using ho1, hg1⟩
  case round =>
    clear hq1 ho1 hg1 hs1
    obtain ⟨j, rfl, hj, rfl, hq, ho, hg⟩ := hrel
    by_cases hlt : j < n
    · have hlt' : (j : Int) < (n : Int) := by omega
      obtain ⟨x, hx⟩ : ∃ x, l[j]? = some x := ⟨_, List.getElem?_eq_getElem (by omega)⟩
      have hd : l.drop j = x :: l.drop (j + 1) := by
        obtain ⟨h1, rfl⟩ := List.getElem?_eq_some_iff.1 hx
        exact List.drop_eq_getElem_cons h1
      have ht : l.take (j + 1) = l.take j ++ [x] := by rw [List.take_add_one, hx]; rfl
      rw [hd] at hq
      have hnc := hq.nc
      have hTake := take_some x _ q c cap _ _ hq
      have hjb : (j : Int) ≤ 64 := by omega
      clear hd hx
      go_wp2_with (first
        | (go_at_call 9; refine hTake.mono ?_; rintro e w2 ⟨rfl, hq2, hg2⟩; have ho2 := ho.kept hg2 (.inr (fun e => hnc (by injection e with e; exact e.symm))))
        | (at_builtin; refine wpList_append_fits _ rfl _ _ 28 rfl w.heap.size 9 i0 1 Try.underlying28 hi0 hz1 w.heap.size j n _ rfl (ho2.alloc _) ⟨w2.heap.size, 0, none⟩ 1 1 [Value.string x] rfl rfl (World.news_of_block (heap_alloc_new w2 _)) (by simp [Value.oneCell']) (by omega) ?_))
      intro w3 ho3 hg3
      go_wp2_with fail
      go_roundg (gk - 1)
      case measure => omega
      case rel =>
        refine ⟨j + 1, by go_num, by omega, rfl, (hq2.alloc _).grown hg3 (fun k e => by injection e with e; exact e.symm), ?_, ?_⟩
        · rw [ht, List.map_append, List.map_take]; exact ho3
        · have hs2 := hg2.size
          have hsz := hg.size
          refine ⟨hg3.os.trans (hg2.os.trans hg.os), hg3.tape.trans (hg2.tape.trans hg.tape), hg3.output.trans (hg2.output.trans hg.output), by have := hg3.size; simp at this; omega, fun k hk hr => ?_⟩
          rw [hg3.block k (by simp; omega) (fun e => by injection e with e; omega), Below.heap_alloc _ _ _ (by omega), hg2.block k (by omega) hr, hg.block k hk hr]
    · obtain rfl : j = n := by omega
      have hge' : ¬ ((j : Int) < (j : Int)) := by omega
      clear hge'
      go_wp2_with fail
      go_ret
      exact ⟨_, rfl, ho, hq.out _ (fun k hk => hk.elim), hg⟩

/-- Whatever waits, and however many are asked for. -/
theorem drain_any (m : Int) (n : Nat) (w : World) (q c cap : Nat) (l : List ByteArray) (Z : Nat → Prop) (h : Q w q c cap l Z) (hcap : cap ≤ 64) (hn : n = min m.toNat l.length) :
    Calls Try.prog 12 #[.pointer (some ⟨q, 0, none⟩), .int .i64 m] w fun e w' => ∃ A cp, e = .returned (.slice A n cp) ∧ w'.ownsRow w.heap.size 9 1 (.slice A n cp) n ((l.take n).map Value.string) ∧ Q w' q c cap (l.drop n) (fun _ => False) ∧ w.grownBy w' (some c) := by
  by_cases h0 : n = 0
  · subst h0
    refine (drain_none m w q c cap l Z h ?_).mono ?_
    · rcases Nat.eq_zero_or_pos l.length with h1 | h1
      · exact .inr (List.eq_nil_of_length_eq_zero h1)
      · exact .inl (by omega)
    · rintro e w' ⟨rfl, rfl⟩
      exact ⟨none, 0, rfl, by simpa using World.ownsRow_nil w _ _ _, h.out _ (fun k hk => hk.elim), World.grownBy.refl _ _⟩
  · refine (drain_some m n w q c cap l Z h hcap (by omega) (by omega)).mono ?_
    rintro e w' ⟨v, rfl, ho, hq, hg⟩
    obtain ⟨g, cp, rfl, _⟩ := ho.form (by omega)
    exact ⟨_, _, rfl, ho, hq, hg⟩

end Go.Proofs.Ythjbieocffklfaa.QueS
