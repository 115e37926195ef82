/- The laws' own first question; rows that are stored whole. -/
import Derived.Test.YtlojjodgoeclfaaRmsProgB
import Derived.Test.YtlojjodgoeclfaaRmsRightR
import Derived.Test.YtlojjodgoeclfaaRmsSameR
namespace Go.Proofs.Ytlojjodgoeclfaa
open Go.RowKit
set_option linter.unusedVariables false
set_option linter.unusedSimpArgs false

theorem below_setRow {B : Nat} {w0 W : World} {g : Nat} (h : Below B w0 W) (hg : B ≤ g) (cs : Array Value) : Below B w0 (W.setRow g cs) :=
  h.trans ⟨rfl, rfl, rfl, by simp, fun k hk => setRow_other W g k cs (by omega)⟩

theorem setRow_at {W : World} {g : Nat} {old : Array Value} {T : TypeId} (cs : Array Value) (h : W.heap[g]? = some (.cells old T)) : (W.setRow g cs).heap[g]? = some (.cells cs T) := setRow_heap W g old cs T _ h

def msg0 : Msg := ⟨3, 1, 0, 2, 0, 0, 0, 0, false, [], ⟨0, 0, []⟩⟩
theorem awake_right : rightM msg0 = true := by decide +kernel
theorem awake_wrong : rightM Msg.zero = false := by decide +kernel

set_option maxRecDepth 100000 in
set_option maxHeartbeats 1600000 in
theorem awake_any (w : World) : Calls Try.prog 7 #[] w fun e w' => e = .returned (.bool true) ∧ Below w.heap.size w w' := by
  have hb0 : Below w.heap.size w (w.alloc (.cells (mC 3 1 0 2 0 0 0 0 false none 0 0 0 0 none 0 0) 30)) := (Below.refl _ _).alloc (Nat.le_refl _) _
  have hr0 := heap_alloc_new w (.cells (mC 3 1 0 2 0 0 0 0 false none 0 0 0 0 none 0 0) 30)
  have hI : ∀ W, MsgIn W (fun _ => True) msg0 none 0 none 0 := fun W => MsgIn.of (MsgIn.zero W _) rfl rfl
  have hR1 := fun W => rightMP_any msg0 none 0 none 0 W _ (hI W)
  have hS := fun W => sameMP_any msg0 msg0 none 0 none 0 none 0 none 0 W _ _ (hI W) (hI W)
  have hR2 := fun W => rightMP_any Msg.zero none 0 none 0 W (fun _ => True) (MsgIn.zero W _)
  simp only [awake_right, awake_wrong, sameM_refl] at hR1 hS hR2
  unfold msg0 at hR1 hS
  unfold Msg.zero at hR2
  dsimp only [msgV, List.length_nil] at hR1 hS hR2
  clear hI
  go_enter Try.func7, Try.ntmps7
  go_wp2_with fail
  refine (hR1 _).mono ?_
  rintro e w1 ⟨rfl, hb1⟩
  have hbw1 := hb0.trans (hb1.mono hb0.size)
  have hr1 := (hb1.block _ (hlt hr0)).trans hr0
  obtain ⟨⟨x0, x1, x2, x3, x4, x5, x6, x7, x8, x9, x10, x11, x12⟩, _⟩ := row13 hr1
  clear hr0 hb0 hb1
  go_wp2_with fail
  refine (hS _).mono ?_
  rintro e w2 ⟨rfl, hb2⟩
  have hbw2 := hbw1.trans (hb2.mono hbw1.size)
  go_wp2_with fail
  refine (hR2 _).mono ?_
  rintro e w3 ⟨rfl, hb3⟩
  go_wp2
  go_ret
  exact ⟨rfl, hbw2.trans (hb3.mono hbw2.size)⟩

end Go.Proofs.Ytlojjodgoeclfaa
