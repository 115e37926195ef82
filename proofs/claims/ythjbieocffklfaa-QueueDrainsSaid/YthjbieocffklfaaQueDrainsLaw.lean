/- QueueDrains: what is drained is the first ones, in order; the others still wait. For every input. -/
import Derived.Test.YthjbieocffklfaaQueAwake
import Derived.Test.YthjbieocffklfaaLawEnd
import Derived.Test.YthjbieocffklfaaArgs
import Derived.ChangeMaps5
import Derived.Deep.LoopGhost
import Derived.BigQuiet
import Derived.Test.YthjbieocffklfaaQueRows
namespace Go.Proofs.Ythjbieocffklfaa.queueDrains
open Go.ChangeShapes Go.WideShapes Go.ChangeAt Go.RowKit Go.Proofs.Ythjbieocffklfaa
set_option linter.unusedVariables false

theorem below_drewN {B : Nat} {a w : World} (h : Below B a w) (n : Nat) : Below B a (w.drewN n) := ⟨h.os, h.tape, h.output, h.size, h.block⟩

def Strs (w : World) (A : Option Addr) (len : Nat) (S : Nat → ByteArray) : Prop :=
  0 < len → ∃ b off, A = some ⟨b, off, none⟩ ∧ b < w.heap.size ∧ ∀ j, j < len → w.cell? ⟨b, off + j, none⟩ = some (.string (S j))

set_option maxRecDepth 100000 in
set_option maxHeartbeats 6400000 in
theorem walk (A : Option Addr) (len cap : Nat) (S : Nat → ByteArray) (m : Int) (w : World) (h1 : Strs w A len S) (hlc : len ≤ cap) (hm : cap ≤ maxLen) :
    Calls Try.prog 4 #[.slice A len cap, .int .i64 m] w fun e w' => e = .returned (.bool true) ∧ Below w.heap.size w w' := by
  by_cases hl : len ≤ 64
  · have hl' : ¬ ((64 : Int) < (len : Int)) := by omega
    have hl2 : (len : Int) ≤ 64 := by omega
    clear hm
    obtain ⟨L, hL⟩ : ∃ L, (List.range len).map S = L := ⟨_, rfl⟩
    have hLl : L.length = len := by rw [← hL]; simp
    have hLx : ∀ j, j < len → L[j]? = some (S j) := fun j hj => by rw [← hL]; simp [hj]
    clear hL
    go_enter Try.func4, Try.ntmps4
    go_wp2_with (first
      | (go_at_call 7; refine (QueS.awake_any _).mono ?_; rintro e w1 ⟨rfl, hb1⟩)
      | (go_at_call 8; refine (QueS.new_good 64 (by omega) (by omega) _).mono ?_; rintro e w2 ⟨q, c, rfl, hq2, hb2⟩; have hc1 : w1.heap.size ≤ c := Nat.le_of_not_lt hq2.nc; replace hq2 := hq2.out (fun _ => False) (fun k hk => hk.elim); have hb := hb1.trans (hb2.mono hb1.size); have hc0 : w.heap.size ≤ c := Nat.le_trans hb1.size hc1))
    go_loopg [27] len (fun g x wr => ∃ j : Nat, x = .int .i64 (j : Int) ∧ j + g = len ∧ QueS.Q wr q c 64 (L.take j) (fun _ => False) ∧ Below w.heap.size w wr)
    case atStart => exact ⟨0, rfl, by omega, by simpa using hq2, hb⟩
    case round =>
      clear hq2 hb hb2 hb1
      obtain ⟨j, rfl, hj, hq, hb⟩ := hrel
      by_cases hlt : j < len
      · have hlt' : (j : Int) < (len : Int) := by omega
        obtain ⟨b, off, rfl, hbl, hc⟩ := h1 (by omega)
        have d0 : wr.cell? ⟨b, off + j, none⟩ = some (.string (S j)) := (hb.cell hbl).trans (hc j hlt)
        have ht : L.take (j + 1) = L.take j ++ [S j] := by rw [List.take_add_one, hLx j hlt]; rfl
        have hPut := QueS.put_room (S j) wr q c 64 _ _ hq (by rw [List.length_take]; omega) (fun k hk => hk.elim)
        rw [← ht] at hPut
        have jb : (j : Int) ≤ 64 := by omega
        clear h1 hc ht hLx
        generalize S j = x at *
        go_wp2_with (go_at_call 10; refine hPut.mono ?_; rintro e w3 ⟨rfl, hq3, hg3⟩)
        go_roundg (gk - 1)
        case measure => omega
        case rel => exact ⟨j + 1, by go_num, by omega, hq3, hb.grown hg3 hb.size (fun k e => by injection e with e; omega)⟩
      · obtain rfl : j = len := by omega
        rw [List.take_of_length_le (by omega)] at hq
        have hdec : decide ((j : Int) < (j : Int)) = false := decide_eq_false (by omega)
        have hb0 := hb
        obtain ⟨n, hn⟩ : ∃ n, n = min m.toNat L.length := ⟨_, rfl⟩
        have nb : n ≤ j := by omega
        have e1 : (L.drop n).drop (j - n) = [] := List.drop_of_length_le (by rw [List.length_drop]; omega)
        have e2 : (L.drop n).take (j - n) = L.drop n := List.take_of_length_le (by rw [List.length_drop]; omega)
        have hD1 := fun w h => QueS.drain_any m n w q c 64 L (fun _ => False) h (by omega) hn
        have hD2 := fun w h => QueS.drain_any 99 (j - n) w q c 64 (L.drop n) (fun _ => False) h (by omega) (by rw [List.length_drop]; omega)
        simp only [e1, e2] at hD2
        have hLen1 := fun w h => QueS.len_any w q c 64 (L.drop n) (fun _ => False) h
        have hLen2 := fun w h => QueS.len_any w q c 64 [] (fun _ => False) h
        have hD3 := fun w h => QueS.drain_none 1 w q c 64 [] (fun _ => False) h (.inr rfl)
        rw [List.length_drop, hLl] at hLen1
        obtain ⟨a, ha⟩ : ∃ a : Nat, m.toNat = a := ⟨_, rfl⟩
        have m1 : (if m < 0 then 0 else m) = (a : Int) := by split <;> omega
        have m2 : (if 0 < m then m else 0) = (a : Int) := by split <;> omega
        have m3 : (if m ≤ 0 then 0 else m) = (a : Int) := by split <;> omega
        have m4 : (if (j : Int) < (a : Int) then (j : Int) else (a : Int)) = (n : Int) := by split <;> omega
        have m5 : (if (a : Int) < (j : Int) then (a : Int) else (j : Int)) = (n : Int) := by split <;> omega
        have m6 : (if (a : Int) ≤ (j : Int) then (a : Int) else (j : Int)) = (n : Int) := by split <;> omega
        have m7 : (if j < a then (j : Int) else (a : Int)) = (n : Int) := by split <;> omega
        have m8 : (if a < j then (a : Int) else (j : Int)) = (n : Int) := by split <;> omega
        have m9 : (if a ≤ j then (a : Int) else (j : Int)) = (n : Int) := by split <;> omega
        have nb' : (n : Int) ≤ (j : Int) := by omega
        have hsub : ((j - n : Nat) : Int) = (j : Int) - (n : Int) := by omega
        clear ha hn e1 e2
        obtain ⟨i0, hi0, hz0, hz1, hz2⟩ := info_parts QueS.info_el
        have hqq := hq.qlt
        have hcc := hq.clt
        have hXS : (L.take n).map Value.string ++ (L.drop n).map Value.string = L.map Value.string := by rw [← List.map_append, List.take_append_drop]
        have hone : ∀ u ∈ (L.drop n).map Value.string, u.oneCell' = true := by
          intro u hu
          obtain ⟨s, _, rfl⟩ := List.mem_map.1 hu
          rfl
        have hN : n + (j - n) = j := by omega
        go_wp2_with (first
          | (go_at_call_of 12 (Value.int .i64 m); refine (hD1 _ hq).mono ?_; rintro e w3 ⟨A3, cp3, rfl, ho3, hq3, hg3⟩)
          | (go_at_call 11; refine (hLen1 _ hq3).mono ?_; rintro e w4 ⟨rfl, rfl⟩)
          | (go_at_call 12; refine (hD2 _ hq3).mono ?_; rintro e w5 ⟨A5, cp5, rfl, ho5, hq5, hg5⟩
             have ho4 := ho3.kept hg5 (.inr (fun e => by have := (ho3.lt c e).1; omega)))
          | (at_builtin; refine wpList_append_two _ rfl _ _ 28 rfl wr.heap.size 9 i0 _ 1 16 Try.underlying28 hi0 hz0 hz1 hz2 rfl (by omega) (.slice A3 n cp3) n _ rfl ho4 w3.heap.size (.slice A5 (j - n) cp5) (j - n) _ rfl ho5 hone (by unfold maxLen; omega) (by omega) (Nat.le_trans hg3.size hg5.size) j hN _ hXS ?_))
        intro A6 cp6 w6 ho6 hg6
        have hs3 := hg3.size
        have hs5 := hg5.size
        have hb5 := (hb.grown hg3 hb.size (fun k e => by injection e with e; omega)).grown hg5 (Nat.le_trans hb.size hs3) (fun k e => by injection e with e; omega)
        have hb6 : Below w.heap.size w w6 := hb5.grown hg6 hb5.size (fun k e => Nat.le_trans hb.size (ho3.lt k e).1)
        have hq6 : QueS.Q w6 q c 64 [] (fun _ => False) := hq5.nil_keep (hg6.block q (by omega) (fun e => by have := (ho3.lt q e.symm).1; omega)) (hg6.block c (by omega) (fun e => by have := (ho3.lt c e.symm).1; omega))
        clear hD1 hD2 hLen1 hXS hone hN hq hq3 hq5 ho3 ho4 ho5 hg3 hg5 hg6 hs3 hs5 hb5 hb hb0
        clear m1 m2 m3 m4 m5 m6 m7 m8 m9 nb nb' hsub
        go_wp2_with fail
        go_loopg [70] j (fun g x wz => ∃ i : Nat, x = .int .i64 (i : Int) ∧ i + g = j ∧ Below w6.heap.size w6 wz)
        case atStart => exact ⟨0, rfl, by omega, Below.refl _ _⟩
        case round =>
          obtain ⟨i, rfl, hi, hbz⟩ := hrel
          by_cases hlt : i < j
          · have hlt' : (i : Int) < (j : Int) := by omega
            obtain ⟨b, off, rfl, hbl, hc⟩ := h1 (by omega)
            have hbz0 : Below w.heap.size w wr := hb6.trans (hbz.mono hb6.size)
            have d0 : wr.cell? ⟨b, off + i, none⟩ = some (.string (S i)) := (hbz0.cell hbl).trans (hc i hlt)
            obtain ⟨g, cg, hA, hg0, hgl⟩ := ho6.form (by omega)
            obtain ⟨rfl, rfl⟩ : A6 = some ⟨g, 0, none⟩ ∧ cp6 = cg := by injection hA with a1 a2 a3; exact ⟨a1, a3⟩
            have d1 : wr.cell? ⟨g, i, none⟩ = some (.string (S i)) := (hbz.cell (p := ⟨g, i, none⟩) hgl).trans ((ho6.cellAt i (by omega)).trans (by rw [List.getElem?_map, hLx i hlt]; rfl))
            have jb : (i : Int) ≤ 64 := by omega
            clear h1 hc hA hLx hLen2 hD3 ho6
            generalize S i = x at *
            go_wp2_with fail
            go_quiet (fail)
            go_wp2_with fail
            go_roundg (gk - 1)
            case measure => omega
            case rel => exact ⟨i + 1, by go_num, by omega, below_drewN hbz _⟩
          · obtain rfl : i = j := by omega
            have hqz := hq6.below hbz
            go_wp2_with (first
              | (go_at_call 11; refine (hLen2 _ hqz).mono ?_; rintro e w7 ⟨rfl, rfl⟩)
              | (go_at_call 12; refine (hD3 _ hqz).mono ?_; rintro e w8 ⟨rfl, rfl⟩))
            go_ret
            exact ⟨rfl, hb6.trans (hbz.mono hb6.size)⟩
  · have hl' : ((64 : Int) < (len : Int)) := by omega
    go_enter Try.func4, Try.ntmps4
    go_wp2_with fail
    refine (QueS.awake_any _).mono ?_
    rintro e w1 ⟨rfl, hb1⟩
    go_wp2_with fail
    refine (QueS.awake_any _).mono ?_
    rintro e w2 ⟨rfl, hb2⟩
    go_wp2
    go_ret
    exact ⟨rfl, hb1.trans (hb2.mono hb1.size)⟩

theorem own : ownKnob Try.prog.godebug = none := by kernel_rfl

set_option maxRecDepth 100000 in
theorem lifted (os : Os) (started : os.Started) (H : Type) (enc : TypeId × Value → H) :
    ReturnsInHanded {} Try.checked os 4 .any (Rows.queueDrainsSpec.pre6 enc Try.prog Try.f4 Rows.queueDrainsRow.domain false) (Rows.queueDrainsSpec.post enc Try.prog Try.f4 false true false false) := by
  refine returnsInHanded_of_change (C := Try.checked) own started (by kernel_rfl) Try.func4
    (ChangeSpec.witness6 (enc := enc) (C := Try.checked) false ⟨#[], #[.slice none 0 0, .int .i64 0], []⟩ 8 (by kernel_rfl) (by kernel_rfl) (by kernel_rfl) (by kernel_rfl)) ?_
  intro W base args ds gs before hval0 hW hcnd _
  have hval : ∀ (j : Nat) t v, Try.f4.params[j]? = some t → args[j]? = some v → Value.okWide Try.prog W .any base t v := hval0
  have hW' := hW
  obtain ⟨p, q, hA0, hV, rfl, hfz, hnd⟩ := hW
  have hA : DataW.TrodAll enc Try.prog W 0 (fun _ => true) true Try.f4.params.toList args.toList ds p := hA0
  rw [Try.params4] at hA hval
  obtain ⟨v0, vs0, d0, ds0, p0, q0, hargs, rfl, rfl, h0, r0⟩ := trodAll_cons hA
  obtain ⟨v1, vs1, d1, ds1, p1, q1, rfl, rfl, rfl, h1, r1⟩ := trodAll_cons r0
  obtain ⟨rfl, rfl, rfl⟩ := trodAll_nil r1
  obtain rfl : args = #[v0, v1] := by cases args; simp_all
  obtain ⟨rfl, rfl⟩ := trodVars_none hV
  obtain ⟨A0, len0, cap0, S0, rfl, hlc0, hm0, hrow0, hws0⟩ := arg_strings Try.underlying28 Try.underlying9 (by kernel_rfl) (hval 0 28 v0 rfl rfl) h0 (fun x hx => hW'.lt x (by simp [hx]))
  obtain ⟨a1, rfl, rfl, rfl, w1⟩ := open_int Try.underlying3 (hval 1 3 v1 rfl rfl) h1
  have fin : ∀ W', Below W.heap.size W W' → Rows.queueDrainsSpec.post enc Try.prog Try.f4 false true false false W #[.slice A0 len0 cap0, .int .i64 a1] (.bool true) W' :=
    fun W' hb => law_end (by kernel_rfl) (by decide +kernel) rfl rfl Try.underlying4 hW' rfl rfl rfl hb
  exact (walk A0 len0 cap0 S0 a1 W hrow0 hlc0 hm0).mono fun e W' ⟨he, hb⟩ => ⟨_, he, fin W' hb⟩

theorem over : Rows.queueDrainsRow.holds Try.pinned (OpenSpec.ofChange Rows.queueDrainsSpec) :=
  OpenClaim.holds_of_wide 4 Try.f4 rfl rfl rfl rfl rfl rfl rfl ⟨rfl, rfl, rfl, rfl, rfl⟩ rfl rfl rfl rfl rfl (by kernel_rfl) Try.func4 (by kernel_rfl)
    (of_decide_eq_true (by kernel_rfl)) (by unfold Func.isWrapper; first | (rw [if_pos (by decide +kernel)]; kernel_rfl) | (rw [if_neg (by decide +kernel)]; exact ⟨rfl, rfl⟩))
    (fun os started H enc _ => lifted os started H enc)

theorem proved : Rows.QueueDrainsSaid := over


end Go.Proofs.Ythjbieocffklfaa.queueDrains
