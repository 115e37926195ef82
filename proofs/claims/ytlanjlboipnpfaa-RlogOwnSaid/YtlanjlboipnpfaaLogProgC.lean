/- The program's copied, copies, each by its contract. -/
import Derived.Test.YtlanjlboipnpfaaLogProgB
import Derived.Test.YtlanjlboipnpfaaClone
namespace Go.Proofs.Ytlanjlboipnpfaa
open Go.RowKit
set_option linter.unusedVariables false
set_option linter.unusedSimpArgs false

theorem owns_cap {T : TypeId} {w : World} {base : Nat} {A : Option Addr} {n cap : Nat} {l : List UInt8} (h : Owns T w base (.slice A n cap) l) : cap ≤ maxLen := by
  rcases h.2 with ⟨e, _⟩ | ⟨g, cp, cur, e, _, _, _, hcm, _⟩
  · injection e with _ _ e3; omega
  · injection e with _ _ e3; omega

set_option maxRecDepth 100000 in
set_option maxHeartbeats 1600000 in
theorem copied_any (i t : Int) (A : Option Addr) (n c : Nat) (d : List UInt8) (w : World) (h : Lies w A n c d) (hb : n ≤ 140737488355328) :
    Calls Try.prog 42 #[.agg #[.int .i64 i, .int .i64 t, .slice A n c]] w fun e w' => ∃ E k, e = .returned (.agg #[.int .i64 i, .int .i64 t, .slice E n k]) ∧ LayOk w' (fun q => w.heap.size + 2 ≤ q) ⟨⟨i, t, d⟩, E, k⟩ ∧ (∀ q, blk E q → w.heap.size + 2 ≤ q) ∧ Below w.heap.size w w' := by
  obtain rfl := h.1
  have hA2 : Below w.heap.size w ((w.alloc (.cells #[.int .i64 i, .int .i64 t, .slice A d.length c] 43)).alloc (.cells #[.int .i64 0, .int .i64 0, .slice none 0 0] 43)) := ((Below.refl _ _).alloc (Nat.le_refl _) _).alloc (by simp) _
  have hr1 : ((w.alloc (.cells #[.int .i64 i, .int .i64 t, .slice A d.length c] 43)).alloc (.cells #[.int .i64 0, .int .i64 0, .slice none 0 0] 43)).heap[w.heap.size]? = some (.cells #[.int .i64 i, .int .i64 t, .slice A d.length c] 43) := (Below.heap_alloc _ _ _ (by simp)).trans (heap_alloc_new _ _)
  have hr2 := heap_alloc2_new w (.cells #[.int .i64 i, .int .i64 t, .slice A d.length c] 43) (.cells #[.int .i64 0, .int .i64 0, .slice none 0 0] 43)
  have hC := clone_any A d.length c d _ (h.below hA2 (Nat.le_refl _)) (by omega)
  simp only [World.size_alloc] at hC
  clear h hb
  go_enter Try.func42, Try.ntmps42
  go_wp2_with fail
  refine hC.mono ?_
  rintro e w3 ⟨v, rfl, ho, hb3⟩
  have hb3' : Below ((w.alloc (.cells #[.int .i64 i, .int .i64 t, .slice A d.length c] 43)).alloc (.cells #[.int .i64 0, .int .i64 0, .slice none 0 0] 43)).heap.size ((w.alloc (.cells #[.int .i64 i, .int .i64 t, .slice A d.length c] 43)).alloc (.cells #[.int .i64 0, .int .i64 0, .slice none 0 0] 43)) w3 := by simpa using hb3
  have hs1 := (hb3'.block _ (hlt hr1)).trans hr1
  have hs2 := (hb3'.block _ (hlt hr2)).trans hr2
  have hbw := hA2.trans (hb3'.mono hA2.size)
  obtain ⟨E, k, rfl, hl, hE⟩ := lies_of_owns ho
  have hcap := owns_cap ho
  have hown := Owns.lt ho
  obtain ⟨⟨a0, a1, a2⟩, ⟨f0, f1, f2⟩⟩ := row3 hs1
  obtain ⟨_, ⟨g0, g1, g2⟩⟩ := row3 hs2
  have hne : w.heap.size + 1 ≠ w.heap.size := by omega
  have t1 := (Below.heap_setCell w3 ⟨w.heap.size, 2, none⟩ (.slice E d.length k) (w.heap.size + 1) hne).trans hs2
  have hfin := set3_at _ (w.heap.size + 1) (.int .i64 i) (.int .i64 t) (.slice E d.length k) _ _ _ _ t1
  have t2 : Below w.heap.size w (w3.setCell ⟨w.heap.size, 2, none⟩ (.slice E d.length k)) := hbw.setCell (Nat.le_refl _) _
  have hbf := below_fill3' t2 (w.heap.size + 1) (by omega) (.int .i64 i) (.int .i64 t) (.slice E d.length k)
  have hok : LayOk ((((w3.setCell ⟨w.heap.size, 2, none⟩ (.slice E d.length k)).setCell ⟨w.heap.size + 1, 0, none⟩ (.int .i64 i)).setCell ⟨w.heap.size + 1, 1, none⟩ (.int .i64 t)).setCell ⟨w.heap.size + 1, 2, none⟩ (.slice E d.length k)) (fun q => w.heap.size + 2 ≤ q) ⟨⟨i, t, d⟩, E, k⟩ := by
    have hz : ∀ q o, E = some ⟨q, o, none⟩ → w.heap.size + 2 ≤ q := fun q o e => (hown q (hE q o e)).1
    refine ⟨hcap, ?_, fun _ q o e => hz q o e⟩
    show Lies _ E d.length k d
    refine hl.keep (by simp) fun h0 q o e hq => ?_
    have := hz q o e
    exact (Below.heap_setCell _ _ _ _ (by show q ≠ w.heap.size + 1; omega)).trans ((Below.heap_setCell _ _ _ _ (by show q ≠ w.heap.size + 1; omega)).trans ((Below.heap_setCell _ _ _ _ (by show q ≠ w.heap.size + 1; omega)).trans (Below.heap_setCell _ _ _ _ (by show q ≠ w.heap.size; omega))))
  have HOK := Lib.hid hok
  have HZ := Lib.hid (show ∀ q, blk E q → w.heap.size + 2 ≤ q from fun q ⟨o, e⟩ => (hown q (hE q o e)).1)
  clear hok hl hE hcap hown ho hb3 hb3' hs1 hs2 hr1 hr2 hA2 hC t1 t2 hbw
  go_wp2
  refine bodyPost_ret (res_cell (n := w.heap.size + 1) rfl rfl hfin Try.underlying43 rfl (by kernel_rfl)) rfl ?_
  exact ⟨E, k, rfl, HOK.out, HZ.out, hbf⟩

end Go.Proofs.Ytlanjlboipnpfaa
