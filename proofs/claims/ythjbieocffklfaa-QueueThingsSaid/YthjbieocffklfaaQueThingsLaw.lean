/- QueueThings: whatever things wait, each comes out as it was. For every input. -/
import Derived.Test.YthjbieocffklfaaQueAwake
import Derived.Test.YthjbieocffklfaaQueB2P
import Derived.Test.YthjbieocffklfaaQuePairs
import Derived.Test.YthjbieocffklfaaLawEnd
import Derived.ChangeMaps5
import Derived.Deep.LoopGhost
import Derived.BigQuiet
import Derived.Laws.StructEq
import Derived.Laws.Tables
import Derived.Laws.Cover2
import Derived.Deep.QuietTactic
namespace Go.Proofs.Ythjbieocffklfaa.queueThings
open Go.ChangeShapes Go.WideShapes Go.ChangeAt Go.RowKit Go.Proofs.Ythjbieocffklfaa
set_option linter.unusedVariables false

theorem eq_pair (a b : Int) (w : World) : (Op.equalIn 10000 42 (.agg #[.int .i64 a, .int .i64 b]) (.agg #[.int .i64 a, .int .i64 b])).run Try.prog w = .ok true w := by
  have u3 := Try.underlying2
  have a3 := Try.isAgg2
  have z3 := Try.sizeOf2
  rw [show (10000 : Nat) = 9999 + 1 from rfl, Op.equalIn]
  simp only [Sem.run_bind, run_underlying Try.underlying42, Result.andThen_ok]
  simp only [Std.Legacy.Range.forIn_eq_forIn_range', Std.Legacy.Range.size, Nat.sub_zero, Nat.add_sub_cancel, Nat.div_one, List.range'_succ, List.range'_zero, List.forIn_cons, List.forIn_nil]
  go_simp
theorem neq_pair (x : Int × Int) (w : World) : (binOp .neq 42 (.agg #[.int .i64 x.1, .int .i64 x.2]) (.agg #[.int .i64 x.1, .int .i64 x.2])).run Try.prog w = .ok (.bool false) w := by
  rw [run_neq_struct, eq_pair]
  rfl

theorem below_drewN {B : Nat} {a w : World} (h : Below B a w) (n : Nat) : Below B a (w.drewN n) := ⟨h.os, h.tape, h.output, h.size, h.block⟩

def Pairs (w : World) (A : Option Addr) (len : Nat) (X : Nat → Int × Int) : Prop :=
  0 < len → ∃ b off, A = some ⟨b, off, none⟩ ∧ b < w.heap.size ∧ ∀ j, j < len → w.cell? ⟨b, off + j * 2, none⟩ = some (.int .i64 (X j).1) ∧ w.cell? ⟨b, off + j * 2 + 1, none⟩ = some (.int .i64 (X j).2)

set_option maxRecDepth 100000 in
set_option maxHeartbeats 6400000 in
theorem walk (A : Option Addr) (len cap : Nat) (X : Nat → Int × Int) (w : World) (h1 : Pairs w A len X) (hlc : len ≤ cap) (hm : cap ≤ maxLen) :
    Calls Try.prog 5 #[.slice A len cap] w fun e w' => e = .returned (.bool true) ∧ Below w.heap.size w w' := by
  by_cases hl : len ≤ 64
  · have hl' : ¬ ((64 : Int) < (len : Int)) := by omega
    have hl2 : (len : Int) ≤ 64 := by omega
    clear hm
    obtain ⟨L, hL⟩ : ∃ L, (List.range len).map X = L := ⟨_, rfl⟩
    have hLl : L.length = len := by rw [← hL]; simp
    have hLx : ∀ j, j < len → L[j]? = some (X j) := fun j hj => by rw [← hL]; simp [hj]
    clear hL
    go_enter Try.func5, Try.ntmps5
    go_wp2_with (first
      | (go_at_call 7; refine (QueS.awake_any _).mono ?_; rintro e w1 ⟨rfl, hb1⟩)
      | (go_at_call 13; refine (QueP.new_good 64 (by omega) (by omega) _).mono ?_; rintro e w2 ⟨q, c, rfl, hq2, hb2⟩; have hc1 : w1.heap.size ≤ c := Nat.le_of_not_lt hq2.nc; replace hq2 := hq2.out (fun _ => False) (fun k hk => hk.elim); have hb := hb1.trans (hb2.mono hb1.size); have hc0 : w.heap.size ≤ c := Nat.le_trans hb1.size hc1))
    go_loopg [27] len (fun g x wr => ∃ j : Nat, x = .int .i64 (j : Int) ∧ j + g = len ∧ QueP.Q wr q c 64 (L.take j) (fun _ => False) ∧ Below w.heap.size w wr)
    case atStart => exact ⟨0, rfl, by omega, by simpa using hq2, hb⟩
    case round =>
      clear hq2 hb hb2 hb1
      obtain ⟨j, rfl, hj, hq, hb⟩ := hrel
      by_cases hlt : j < len
      · have hlt' : (j : Int) < (len : Int) := by omega
        obtain ⟨b, off, rfl, hbl, hc⟩ := h1 (by omega)
        obtain ⟨c0, c1⟩ := hc j hlt
        have d0 : wr.cell? ⟨b, off + j * 2, none⟩ = some (.int .i64 (X j).1) := (hb.cell hbl).trans c0
        have d1 : wr.cell? ⟨b, off + j * 2 + 1, none⟩ = some (.int .i64 (X j).2) := (hb.cell (p := ⟨b, off + j * 2 + 1, none⟩) hbl).trans c1
        have ht : L.take (j + 1) = L.take j ++ [X j] := by rw [List.take_add_one, hLx j hlt]; rfl
        have hPut := QueP.put_room (X j) wr q c 64 _ _ hq (by rw [List.length_take]; omega) (fun k hk => hk.elim)
        rw [← ht] at hPut
        have jb : (j : Int) ≤ 64 := by omega
        clear h1 hc c0 c1 ht hLx
        generalize X j = x at *
        go_wp2_with (go_at_call 14; refine hPut.mono ?_; rintro e w3 ⟨rfl, hq3, hg3⟩)
        go_roundg (gk - 1)
        case measure => omega
        case rel => exact ⟨j + 1, by go_num, by omega, hq3, hb.grown hg3 hb.size (fun k e => by injection e with e; omega)⟩
      · obtain rfl : j = len := by omega
        rw [List.take_of_length_le (by omega)] at hq
        have hdec : decide ((j : Int) < (j : Int)) = false := decide_eq_false (by omega)
        have hb0 := hb
        go_wp2_with fail
        go_loopg [40] j (fun g x wz => ∃ i : Nat, x = .int .i64 (i : Int) ∧ i + g = j ∧ QueP.Q wz q c 64 (L.drop i) (fun _ => False) ∧ Below w.heap.size w wz)
        case atStart => exact ⟨0, rfl, by omega, by simpa using hq, hb0⟩
        case round =>
          clear hq hb hb0
          obtain ⟨i, rfl, hi, hq, hb⟩ := hrel
          by_cases hlt : i < j
          · have hlt' : (i : Int) < (j : Int) := by omega
            obtain ⟨b, off, rfl, hbl, hc⟩ := h1 (by omega)
            obtain ⟨c0, c1⟩ := hc i hlt
            have hd : L.drop i = X i :: L.drop (i + 1) := by
              obtain ⟨hh, hx⟩ := List.getElem?_eq_some_iff.1 (hLx i hlt)
              rw [← hx]
              exact List.drop_eq_getElem_cons hh
            rw [hd] at hq
            have hTake := QueP.take_some (X i) _ q c 64 _ _ hq
            have jb : (i : Int) ≤ 64 := by omega
            clear h1 hc hd hLx
            generalize X i = x at *
            go_wp2_with (go_at_call 15; refine hTake.mono ?_; rintro e w3 ⟨rfl, hq3, hg3⟩; have hb3 := hb.grown hg3 hb.size (fun k e => by injection e with e; omega))
            have d0 : w3.cell? ⟨b, off + i * 2, none⟩ = some (.int .i64 x.1) := (hb3.cell hbl).trans c0
            have d1 : w3.cell? ⟨b, off + i * 2 + 1, none⟩ = some (.int .i64 x.2) := (hb3.cell (p := ⟨b, off + i * 2 + 1, none⟩) hbl).trans c1
            have hb4 : b < w3.heap.size := Nat.lt_of_lt_of_le hbl hb3.size
            have hneq := neq_pair x
            clear hTake c0 c1
            go_quiet (fail)
            go_wp2_with fail
            go_roundg (gk - 1)
            case measure => omega
            case rel => exact ⟨i + 1, by go_num, by omega, hq3.below (below_drewN ((Below.refl _ _).alloc (Nat.le_refl _) _) _), below_drewN (hb3.alloc hb3.size _) _⟩
          · obtain rfl : i = j := by omega
            rw [List.drop_of_length_le (by omega)] at hq
            have hTake := QueP.take_none _ q c 64 _ hq
            go_wp2_with (go_at_call 15; refine hTake.mono ?_; rintro e w3 ⟨rfl, hb3⟩)
            go_ret
            exact ⟨rfl, (hb.trans (hb3.mono hb.size)).alloc (Nat.le_trans hb.size hb3.size) _⟩
  · have hl' : ((64 : Int) < (len : Int)) := by omega
    go_enter Try.func5, Try.ntmps5
    go_wp2_with fail
    refine (QueS.awake_any _).mono ?_
    rintro e w1 ⟨rfl, hb1⟩
    go_wp2_with fail
    refine (QueS.awake_any _).mono ?_
    rintro e w2 ⟨rfl, hb2⟩
    go_wp2
    go_ret
    exact ⟨rfl, hb1.trans (hb2.mono hb1.size)⟩

theorem own : ownKnob Try.prog.godebug = none := by kernel_rfl

set_option maxRecDepth 100000 in
theorem lifted (os : Os) (started : os.Started) (H : Type) (enc : TypeId × Value → H) :
    ReturnsInHanded {} Try.checked os 5 .any (Rows.queueThingsSpec.pre6 enc Try.prog Try.f5 Rows.queueThingsRow.domain false) (Rows.queueThingsSpec.post enc Try.prog Try.f5 false true false false) := by
  refine returnsInHanded_of_change (C := Try.checked) own started (by kernel_rfl) Try.func5
    (ChangeSpec.witness6 (enc := enc) (C := Try.checked) false ⟨#[], #[.slice none 0 0], []⟩ 8 (by kernel_rfl) (by kernel_rfl) (by kernel_rfl) (by kernel_rfl)) ?_
  intro W base args ds gs before hval0 hW hcnd _
  have hval : ∀ (j : Nat) t v, Try.f5.params[j]? = some t → args[j]? = some v → Value.okWide Try.prog W .any base t v := hval0
  have hW' := hW
  obtain ⟨p, q, hA0, hV, rfl, hfz, hnd⟩ := hW
  have hA : DataW.TrodAll enc Try.prog W 0 (fun _ => true) true Try.f5.params.toList args.toList ds p := hA0
  rw [Try.params5] at hA hval
  obtain ⟨v0, vs0, d0, ds0, p0, q0, hargs, rfl, rfl, h0, r0⟩ := trodAll_cons hA
  obtain ⟨rfl, rfl, rfl⟩ := trodAll_nil r0
  obtain rfl : args = #[v0] := by cases args; simp_all
  obtain ⟨rfl, rfl⟩ := trodVars_none hV
  obtain ⟨A0, len0, cap0, X0, rfl, hlc0, hm0, hrow0⟩ := arg_pairs Try.underlying38 Try.underlying42 Try.underlying2 (by kernel_rfl) (by kernel_rfl) (hval 0 38 v0 rfl rfl) h0 (fun x hx => hW'.lt x (by simp [hx]))
  have fin : ∀ W', Below W.heap.size W W' → Rows.queueThingsSpec.post enc Try.prog Try.f5 false true false false W #[.slice A0 len0 cap0] (.bool true) W' :=
    fun W' hb => law_end (by kernel_rfl) (by decide +kernel) rfl rfl Try.underlying4 hW' rfl rfl rfl hb
  exact (walk A0 len0 cap0 X0 W hrow0 hlc0 hm0).mono fun e W' ⟨he, hb⟩ => ⟨_, he, fin W' hb⟩

theorem over : Rows.queueThingsRow.holds Try.pinned (OpenSpec.ofChange Rows.queueThingsSpec) :=
  OpenClaim.holds_of_wide 5 Try.f5 rfl rfl rfl rfl rfl rfl rfl ⟨rfl, rfl, rfl, rfl, rfl⟩ rfl rfl rfl rfl rfl (by kernel_rfl) Try.func5 (by kernel_rfl)
    (of_decide_eq_true (by kernel_rfl)) (by unfold Func.isWrapper; first | (rw [if_pos (by decide +kernel)]; kernel_rfl) | (rw [if_neg (by decide +kernel)]; exact ⟨rfl, rfl⟩))
    (fun os started H enc _ => lifted os started H enc)

theorem proved : Rows.QueueThingsSaid := over


end Go.Proofs.Ythjbieocffklfaa.queueThings
