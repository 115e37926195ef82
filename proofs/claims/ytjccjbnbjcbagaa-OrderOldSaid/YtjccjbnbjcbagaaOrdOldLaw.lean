/- OrderOld: a map answers the same, whatever is made of it. For every input. -/
import Derived.Test.YtjccjbnbjcbagaaOrdAct
import Derived.Test.YtjccjbnbjcbagaaOrdAwake
namespace Go.Proofs.Ytjccjbnbjcbagaa.orderOld
open Go.ChangeShapes Go.WideShapes Go.ChangeAt Go.RowKit Go.Proofs.Ytjccjbnbjcbagaa Go.Proofs.Ytjccjbnbjcbagaa.OrdRef
set_option linter.unusedVariables false

/-- A map's variable, and the document's list beside it. -/
structure St (w : World) (M N : Nat) (u : Option Addr) (t : Tr ByteArray Int) (A : Option Addr) (c : Nat) (wr : World) : Prop where
  var : Var M u wr
  both : Both wr u t A c N
  old : Below w.heap.size w wr
  new : w.heap.size ≤ M

section
variable {w wr w2 : World} {M N : Nat} {u u2 : Option Addr} {t t2 : Tr ByteArray Int} {A A2 : Option Addr} {c c2 : Nat}
theorem St.below (h : St w M N u t A c wr) (hb : Below wr.heap.size wr w2) : St w M N u t A c w2 := ⟨h.var.below hb, h.both.below hb, h.old.trans (hb.mono h.old.size), h.new⟩
theorem St.drew (h : St w M N u t A c wr) : St w M N u t A c wr.drew := ⟨h.var, h.both.drew, h.old.drew, h.new⟩
theorem both_store (h : Both wr u t A c N) (hv : wr.cell? ⟨M, 1, none⟩ = none) (x : Value) : Both (wr.setCell ⟨M, 0, none⟩ x) u t A c N := ⟨h.rep.setCell hv x, h.bst, h.own.setCell hv x, h.size⟩
theorem St.act (h : St w M N u t A c wr) (hB : Both w2 u2 t2 A2 c2 (N + 1)) (hb : Below wr.heap.size wr w2) : St w M (N + 1) u2 t2 A2 c2 (w2.setCell ⟨M, 0, none⟩ (.pointer u2)) :=
  ⟨(h.var.below hb).store u2, both_store hB (h.var.below hb).2.1 _, (h.old.trans (hb.mono h.old.size)).setCell h.new _, h.new⟩
theorem St.other (h : St w M N u t A c wr) {M' : Nat} {u' : Option Addr} (hv : Var M' u' wr) (hM : M ≠ M') (hw : w.heap.size ≤ M') (x : Value) : St w M N u t A c (wr.setCell ⟨M', 0, none⟩ x) :=
  ⟨h.var.other hM x, both_store h.both hv.2.1 x, h.old.setCell hw x, h.new⟩
theorem St.start {wa : World} (hba : Below w.heap.size w wa) (ty : TypeId) : St w wa.heap.size 0 none .nil none 0 (wa.alloc (.cells #[.pointer none] ty)) :=
  ⟨Var.made _ _ _, ⟨rfl, List.Pairwise.nil, Own.nil _, Nat.le_refl _⟩, hba.alloc hba.size _, hba.size⟩
/-- A second variable, made of the first. -/
theorem St.copy (h : St w M N u t A c wr) (ty : TypeId) : St w M N u t A c (wr.alloc (.cells #[.pointer u] ty)) ∧ St w wr.heap.size N u t A c (wr.alloc (.cells #[.pointer u] ty)) := by
  have hb : Below wr.heap.size wr (wr.alloc (.cells #[.pointer u] ty)) := (Below.refl _ _).alloc (Nat.le_refl _) _
  exact ⟨h.below hb, ⟨Var.made _ _ _, h.both.below hb, h.old.trans (hb.mono h.old.size), h.old.size⟩⟩
end

set_option maxRecDepth 100000 in
set_option maxHeartbeats 6400000 in
theorem walk (A : Option Addr) (len cap : Nat) (G : Nat → Bool) (K : Nat → ByteArray) (V : Nat → Int) (A2 : Option Addr) (len2 cap2 : Nat) (G2 : Nat → Bool) (K2 : Nat → ByteArray) (V2 : Nat → Int) (w : World)
    (h1 : Acts w A len G K V) (hlc : len ≤ cap) (hm : cap ≤ maxLen) (hk : ∀ j, j < len → (K j).size ≤ maxLen)
    (h2 : Acts w A2 len2 G2 K2 V2) (hlc2 : len2 ≤ cap2) (hm2 : cap2 ≤ maxLen) (hk2 : ∀ j, j < len2 → (K2 j).size ≤ maxLen) :
    Calls Try.prog 4 #[.slice A len cap, .slice A2 len2 cap2] w fun e w' => e = .returned (.bool true) ∧ Below w.heap.size w w' := by
  have acts_below : ∀ {A : Option Addr} {len : Nat} {G : Nat → Bool} {K : Nat → ByteArray} {V : Nat → Int} {w' : World}, Acts w A len G K V → Below w.heap.size w w' → Acts w' A len G K V := fun {A len G K V w'} h hb hpos => by
    obtain ⟨b, off, hA, hlt, hc⟩ := h hpos
    exact ⟨b, off, hA, Nat.lt_of_lt_of_le hlt hb.size, fun j hj => ⟨(hb.cell hlt).trans (hc j hj).1, (hb.cell (p := ⟨b, off + j * 3 + 1, none⟩) hlt).trans (hc j hj).2.1, (hb.cell (p := ⟨b, off + j * 3 + 2, none⟩) hlt).trans (hc j hj).2.2⟩⟩
  have F1 := fun w' (hb : Below w.heap.size w w') => few_any A len cap G K V w' (acts_below h1 hb) hlc hm hk
  have F2 := fun w' (hb : Below w.heap.size w w') => few_any A2 len2 cap2 G2 K2 V2 w' (acts_below h2 hb) hlc2 hm2 hk2
  clear hm hm2 hk hk2 acts_below
  go_enter Try.func4, Try.ntmps4
  go_wp2_with fail
  refine (OrdS.awake_any _).mono ?_
  rintro e wa ⟨rfl, hba⟩
  go_wp2_with fail
  refine (F1 _ hba).mono ?_
  rintro e wf ⟨r1, rfl, hr1, rfl⟩
  cases r1 with
  | false =>
    clear F1 F2
    go_wp2_with fail
    refine (OrdS.awake_any _).mono ?_
    rintro e wb ⟨rfl, hbb⟩
    go_wp2
    go_ret
    exact ⟨rfl, hba.trans (hbb.mono hba.size)⟩
  | true =>
    go_wp2_with fail
    refine (F2 _ hba).mono ?_
    rintro e wf ⟨r2, rfl, hr2, rfl⟩
    cases r2 with
    | false =>
      clear F1 F2
      go_wp2_with fail
      refine (OrdS.awake_any _).mono ?_
      rintro e wb ⟨rfl, hbb⟩
      go_wp2
      go_ret
      exact ⟨rfl, hba.trans (hbb.mono hba.size)⟩
    | true =>
      have hl1 : len ≤ 300 := by simpa using hr1
      have hl2 : len2 ≤ 300 := by simpa using hr2
      have hl1' : (len : Int) ≤ 300 := by omega
      have hl2' : (len2 : Int) ≤ 300 := by omega
      clear F1 F2 hr1 hr2
      go_wp2
      go_loopg [6, 28] len (fun g s x wr => ∃ j u t C c, s = .slice C t.list.length c ∧ x = .int .i64 ((j : Nat) : Int) ∧ j + g = len ∧ St w wa.heap.size j u t C c wr)
      case atStart => exact ⟨0, none, .nil, none, 0, rfl, rfl, by omega, St.start hba _⟩
      case round =>
        obtain ⟨j, u, t, C, c, rfl, rfl, hj, hS⟩ := hrel
        have k0 := hS.var.1
        by_cases hlt : j < len
        · have hlt' : (j : Int) < (len : Int) := by omega
          have jb : (j : Int) ≤ 300 := by omega
          obtain ⟨b, off, rfl, hb, hc⟩ := h1 (by omega)
          obtain ⟨c0, c1, c2⟩ := hc j hlt
          have d0 : wr.cell? ⟨b, off + j * 3, none⟩ = some (.bool (G j)) := (hS.old.cell hb).trans c0
          have d1 : wr.cell? ⟨b, off + j * 3 + 1, none⟩ = some (.string (K j)) := (hS.old.cell (p := ⟨b, off + j * 3 + 1, none⟩) hb).trans c1
          have d2 : wr.cell? ⟨b, off + j * 3 + 2, none⟩ = some (.int .i64 (V j)) := (hS.old.cell (p := ⟨b, off + j * 3 + 2, none⟩) hb).trans c2
          have hAct := fun w' h => act_any t u C c j (G j) (K j) (V j) w' h (by omega)
          clear h1 h2 hc c0 c1 c2
          go_wp2
          go_region_with (go_at_call 11; refine (hAct _ (by first | exact hS.both | exact hS.drew.both)).mono ?_; rintro e w2 ⟨u2, t2, C2, c2, rfl, hB2, hb2⟩; have k2 := (hS.drew.var.below hb2).1; have k3 := (hS.drew.var.below hb2).2.2.1)
          all_goals
            go_wp2
            go_roundg (gk - 1)
            case measure => omega
            case rel => exact ⟨j + 1, u2, t2, C2, c2, rfl, by go_num, by omega, hS.drew.act hB2 hb2⟩
        · have hge : (len : Int) ≤ (j : Int) := by omega
          have hd1 : decide (j < len) = false := decide_eq_false hlt
          have hj3 : j ≤ 300 := by omega
          obtain ⟨wq, rfl⟩ : ∃ wq : World, wq = wr := ⟨_, rfl⟩
          have hMM := hS.var.2.2.2
          have hne : wa.heap.size ≠ wq.heap.size := by omega
          obtain ⟨s1, s2⟩ := hS.copy 27
          have hAll : ∀ w', OrdS.Rp w' u t → Calls Try.prog 21 #[.agg #[.pointer u]] w' (OrdS.Lst w' t.list) := fun w' h => OrdS.all_map t u w' h (by have := hS.both.size; omega)
          have hSame := fun A3 c3 w' ho hw => same_eq t.list A3 C c3 c w' ho hw (by rw [Tr.length_list]; have := hS.both.size; omega)
          have hn3 : t.list.length ≤ 300 := by rw [Tr.length_list]; have := hS.both.size; omega
          unfold OrdS.Lst at hAll
          clear hS hlt h1
          go_wp2
          go_loopg [9, 46] len2 (fun g s x wr => ∃ i u2 t2 C2 c2, s = .slice C2 t2.list.length c2 ∧ x = .int .i64 ((i : Nat) : Int) ∧ i + g = len2 ∧ St w wa.heap.size j u t C c wr ∧ St w wq.heap.size (j + i) u2 t2 C2 c2 wr)
          case atStart => exact ⟨0, u, t, C, c, rfl, rfl, by omega, s1, s2⟩
          case round =>
            clear s1 s2 k0
            obtain ⟨i, u2, t2, C2, c2, rfl, rfl, hi, hS1, hS2⟩ := hrel
            have k0 := hS2.var.1
            have k1 := hS1.var.1
            have hi3 : i ≤ 300 := by omega
            by_cases hlt : i < len2
            · have hlt' : (i : Int) < (len2 : Int) := by omega
              have ib : (i : Int) ≤ 300 := by omega
              obtain ⟨b, off, rfl, hb, hc⟩ := h2 (by omega)
              obtain ⟨c0', c1', c2'⟩ := hc i hlt
              have d0 : wr.cell? ⟨b, off + i * 3, none⟩ = some (.bool (G2 i)) := (hS1.old.cell hb).trans c0'
              have d1 : wr.cell? ⟨b, off + i * 3 + 1, none⟩ = some (.string (K2 i)) := (hS1.old.cell (p := ⟨b, off + i * 3 + 1, none⟩) hb).trans c1'
              have d2 : wr.cell? ⟨b, off + i * 3 + 2, none⟩ = some (.int .i64 (V2 i)) := (hS1.old.cell (p := ⟨b, off + i * 3 + 2, none⟩) hb).trans c2'
              have hAct := fun w' h => act_any t2 u2 C2 c2 (j + i) (G2 i) (K2 i) (V2 i) w' h (by omega)
              clear h2 hc c0' c1' c2'
              go_wp2
              go_region_with (go_at_call 11; refine (hAct _ (by first | exact hS2.both | exact hS2.drew.both)).mono ?_; rintro e w2 ⟨u3, t3, C3, c3, rfl, hB3, hb3⟩; have k2 := (hS2.drew.var.below hb3).1; have k3 := (hS2.drew.var.below hb3).2.2.1)
              all_goals
                have T1 := (hS1.drew.below hb3).other (hS2.drew.var.below hb3) hne hS2.new (.pointer u3)
                have T2 := hS2.drew.act hB3 hb3
                have k5 := T1.var.1
                go_wp2_with (first
                  | (go_at_call 21; refine (hAll _ T1.both.rep).mono ?_; rintro e w4 ⟨A4, c4, rfl, ho4, hb4⟩)
                  | (go_at_call 17; refine (hSame _ _ _ ⟨_, ho4⟩ (T1.both.own.below hb4)).mono ?_; rintro e w5 ⟨rfl, hb5⟩))
                go_roundg (gk - 1)
                case measure => omega
                case rel => exact ⟨i + 1, u3, t3, C3, c3, rfl, by go_num, by omega, (T1.below hb4).below hb5, (T2.below hb4).below hb5⟩
            · have hge2 : (len2 : Int) ≤ (i : Int) := by omega
              have hd2 : decide (i < len2) = false := decide_eq_false hlt
              obtain ⟨wp, rfl⟩ : ∃ wp : World, wp = wr := ⟨_, rfl⟩
              have hAll2 : ∀ w', OrdS.Rp w' u2 t2 → Calls Try.prog 21 #[.agg #[.pointer u2]] w' (OrdS.Lst w' t2.list) := fun w' h => OrdS.all_map t2 u2 w' h (by have := hS2.both.size; omega)
              have hSame2 := fun A3 c3 w' ho hw => same_eq t2.list A3 C2 c3 c2 w' ho hw (by rw [Tr.length_list]; have := hS2.both.size; omega)
              unfold OrdS.Lst at hAll2
              have hM1 := hS1.var.2.2.2
              have hM2 := hS2.var.2.2.2
              clear h2 hlt
              go_wp2_with (go_at_call 21; refine (hAll _ hS1.both.rep).mono ?_; rintro e w3 ⟨A3, c3, rfl, ho3, hb3⟩)
              go_loopg [69] t.list.length (fun g x w5 => ∃ q, x = .int .i64 ((q : Nat) : Int) ∧ q + g = t.list.length ∧ Below wp.heap.size wp w5 ∧
                  Hid (∀ gA, A3 = some ⟨gA, 0, none⟩ → wp.heap.size ≤ gA ∧ ∀ r, r < t.list.length → ∃ z, w5.cell? ⟨gA, r * 2 + 1, none⟩ = some (.int .i64 z) ∧ w5.frozen? ⟨gA, r * 2 + 1, none⟩ = false))
              case atStart =>
                refine ⟨0, rfl, by omega, hb3, fun gA e => ?_⟩
                subst e
                refine ⟨(ho3.lt gA rfl).1, fun r hr => ?_⟩
                obtain ⟨p, hp⟩ : ∃ p, t.list[r]? = some p := ⟨_, List.getElem?_eq_getElem hr⟩
                have hg : gA < w3.heap.size := (ho3.lt gA rfl).2
                exact ⟨_, cell_val ho3 (Below.refl _ _) hg hp rfl hr, ho3.frozenAt _⟩
              case round =>
                obtain ⟨q, rfl, hq, hb5, HA⟩ := hrel
                by_cases hlt : q < t.list.length
                · have hlt' : (q : Int) < (t.list.length : Int) := by omega
                  have qb : (q : Int) ≤ 300 := by omega
                  have hq0 : (0 : Int) ≤ (q : Int) := by omega
                  obtain ⟨gA, cg, hA3, _, hgl⟩ := ho3.form (by omega)
                  obtain ⟨rfl, rfl⟩ : A3 = some ⟨gA, 0, none⟩ ∧ cg = c3 := by injection hA3 with e1 e2 e3; exact ⟨e1, e3.symm⟩
                  obtain ⟨hgA, hcell⟩ := HA.out gA rfl
                  obtain ⟨z, hz1, hz2⟩ := hcell q hlt
                  have HC := Lib.hid hcell
                  clear hcell hA3 HA
                  go_wp2
                  go_roundg (gk - 1)
                  case measure => omega
                  case rel =>
                    refine ⟨q + 1, by go_num, by omega, hb5.setCell hgA _, fun gA' e => ?_⟩
                    obtain rfl : gA = gA' := by injection e with e; injection e
                    refine ⟨hgA, fun r hr => ?_⟩
                    rw [World.frozen?_setCell]
                    by_cases hrq : r = q
                    · subst hrq
                      exact ⟨_, World.cell?_setCell_same _ _ _ hz1, hz2⟩
                    · obtain ⟨z', hz1', hz2'⟩ := HC.out r hr
                      exact ⟨z', (World.cell?_setCell_other _ _ _ _ (fun e => by injection e with _ e; omega)).trans hz1', hz2'⟩
                · have hge3 : (t.list.length : Int) ≤ (q : Int) := by omega
                  have hd3 : decide (q < t.list.length) = false := decide_eq_false hlt
                  have S1 := hS1.below hb5
                  have S2 := hS2.below hb5
                  have k6 := S1.var.1
                  have k7 := S2.var.1
                  clear HA ho3
                  go_wp2_with (first
                    | (go_at_call_of 21 (Value.agg #[.pointer u2]); refine (hAll2 _ S2.both.rep).mono ?_; rintro e w6 ⟨A6, c6, rfl, ho6, hb6⟩)
                    | (go_at_call_of 17 (Value.slice C2 t2.list.length c2); refine (hSame2 _ _ _ ⟨_, ho6⟩ (S2.both.own.below hb6)).mono ?_; rintro e w7 ⟨rfl, hb7⟩
                       have T1 := (S1.below hb6).below hb7
                       have k8 := T1.var.1)
                    | (go_at_call 21; refine (hAll _ T1.both.rep).mono ?_; rintro e w8 ⟨A8, c8, rfl, ho8, hb8⟩)
                    | (go_at_call 17; refine (hSame _ _ _ ⟨_, ho8⟩ (T1.both.own.below hb8)).mono ?_; rintro e w9 ⟨rfl, hb9⟩))
                  go_ret
                  exact ⟨rfl, ((T1.below hb8).below hb9).old⟩

theorem own : ownKnob Try.prog.godebug = none := by kernel_rfl

set_option maxRecDepth 100000 in
theorem lifted (os : Os) (started : os.Started) (H : Type) (enc : TypeId × Value → H) :
    ReturnsInHanded {} Try.checked os 4 .any (Rows.orderOldSpec.pre6 enc Try.prog Try.f4 Rows.orderOldRow.domain false) (Rows.orderOldSpec.post enc Try.prog Try.f4 false true false false) := by
  refine returnsInHanded_of_change (C := Try.checked) own started (by kernel_rfl) Try.func4
    (ChangeSpec.witness6 (enc := enc) (C := Try.checked) false ⟨#[], #[.slice none 0 0, .slice none 0 0], []⟩ 8 (by kernel_rfl) (by kernel_rfl) (by kernel_rfl) (by kernel_rfl)) ?_
  intro W base args ds gs before hval0 hW hcnd _
  have hval : ∀ (j : Nat) t v, Try.f4.params[j]? = some t → args[j]? = some v → Value.okWide Try.prog W .any base t v := hval0
  have hW' := hW
  obtain ⟨p, q, hA0, hV, rfl, hfz, hnd⟩ := hW
  have hA : DataW.TrodAll enc Try.prog W 0 (fun _ => true) true Try.f4.params.toList args.toList ds p := hA0
  rw [Try.params4] at hA hval
  obtain ⟨v0, vs0, d0, ds0, p0, q0, hargs, rfl, rfl, h0, r0⟩ := trodAll_cons hA
  obtain ⟨v1, vs1, d1, ds1, p1, q1, rfl, rfl, rfl, h1, r1⟩ := trodAll_cons r0
  obtain ⟨rfl, rfl, rfl⟩ := trodAll_nil r1
  obtain rfl : args = #[v0, v1] := by cases args; simp_all
  obtain ⟨rfl, rfl⟩ := trodVars_none hV
  obtain ⟨A0, len0, cap0, G0, K0, V0, rfl, hlc0, hm0, hrow0, hk0⟩ := arg_acts (hval 0 22 v0 rfl rfl) h0 (fun x hx => hW'.lt x (by simp [hx]))
  obtain ⟨A1, len1, cap1, G1, K1, V1, rfl, hlc1, hm1, hrow1, hk1⟩ := arg_acts (hval 1 22 v1 rfl rfl) h1 (fun x hx => hW'.lt x (by simp [hx]))
  have fin : ∀ W', Below W.heap.size W W' → Rows.orderOldSpec.post enc Try.prog Try.f4 false true false false W #[.slice A0 len0 cap0, .slice A1 len1 cap1] (.bool true) W' :=
    fun W' hb => law_end (by kernel_rfl) (by decide +kernel) rfl rfl Try.underlying4 hW' rfl rfl rfl hb
  exact (walk A0 len0 cap0 G0 K0 V0 A1 len1 cap1 G1 K1 V1 W hrow0 hlc0 hm0 hk0 hrow1 hlc1 hm1 hk1).mono fun e W' ⟨he, hb⟩ => ⟨_, he, fin W' hb⟩

theorem over : Rows.orderOldRow.holds Try.pinned (OpenSpec.ofChange Rows.orderOldSpec) :=
  OpenClaim.holds_of_wide 4 Try.f4 rfl rfl rfl rfl rfl rfl rfl ⟨rfl, rfl, rfl, rfl, rfl⟩ rfl rfl rfl rfl rfl (by kernel_rfl) Try.func4 (by kernel_rfl)
    (of_decide_eq_true (by kernel_rfl)) (by unfold Func.isWrapper; first | (rw [if_pos (by decide +kernel)]; kernel_rfl) | (rw [if_neg (by decide +kernel)]; exact ⟨rfl, rfl⟩))
    (fun os started H enc _ => lifted os started H enc)

theorem proved : Rows.OrderOldSaid := over

end Go.Proofs.Ytjccjbnbjcbagaa.orderOld
