/- OrderDeep: however many numbers are put, and some gone again, the tree's depth is at most twice the digits of its size. For every input. -/
import Derived.Test.YtjccjbnbjcbagaaLawEnd
import Derived.Test.YtjccjbnbjcbagaaOrdFU
import Derived.Test.YtjccjbnbjcbagaaOrdAwake
namespace Go.Proofs.Ytjccjbnbjcbagaa.orderDeep
open Go.ChangeShapes Go.WideShapes Go.ChangeAt Go.RowKit Go.Proofs.Ytjccjbnbjcbagaa

abbrev T := Tr Int Bool

/-- A map's variable at block M. -/
def Var (M : Nat) (u : Option Addr) (wr : World) : Prop := wr.cell? ⟨M, 0, none⟩ = some (.pointer u) ∧ wr.cell? ⟨M, 1, none⟩ = none ∧ wr.frozen? ⟨M, 0, none⟩ = false ∧ M < wr.heap.size

theorem Var.below {M : Nat} {u : Option Addr} {w w' : World} (h : Var M u w) (hb : Below w.heap.size w w') : Var M u w' :=
  ⟨(hb.cell h.2.2.2).trans h.1, (hb.cell (p := ⟨M, 1, none⟩) h.2.2.2).trans h.2.1, (hb.frozen (p := ⟨M, 0, none⟩) h.2.2.2).trans h.2.2.1, Nat.lt_of_lt_of_le h.2.2.2 hb.size⟩
theorem Var.store {M : Nat} {u : Option Addr} {w : World} (h : Var M u w) (u' : Option Addr) : Var M u' (w.setCell ⟨M, 0, none⟩ (.pointer u')) :=
  ⟨World.cell?_setCell_same _ _ _ h.1, (World.cell?_setCell_other _ _ _ _ (fun e => by injection e with _ e; cases e)).trans h.2.1, by rw [World.frozen?_setCell]; exact h.2.2.1, by simpa using h.2.2.2⟩

structure Inv (w : World) (M N : Nat) (u : Option Addr) (t : T) (wr : World) : Prop where
  var : Var M u wr
  rep : OrdU.Rp wr u t
  bst : Tr.Bst ltI t
  avl : Tr.Avl t
  size : t.size ≤ N
  old : Below w.heap.size w wr
  new : w.heap.size ≤ M

theorem inv_put {w : World} {M N : Nat} {u : Option Addr} {t : T} {wr : World} (h : Inv w M N u t wr) (k : Int) {w2 : World} {u2 : Option Addr} (hr : OrdU.Rp w2 u2 (Tr.put ltI k true t)) (hb : Below wr.heap.size wr w2) :
    Inv w M (N + 1) u2 (Tr.put ltI k true t) (w2.setCell ⟨M, 0, none⟩ (.pointer u2)) :=
  ⟨(h.var.below hb).store u2, hr.setCell (h.var.below hb).2.1 _, h.bst.put linI k true, (Tr.avl_put k true t h.avl).1, Nat.le_trans (Tr.size_put ltI k true t) (Nat.succ_le_succ h.size),
    (h.old.trans (hb.mono h.old.size)).setCell h.new _, h.new⟩

theorem inv_del {w : World} {M N : Nat} {u : Option Addr} {t : T} {wr : World} (h : Inv w M N u t wr) (k : Int) {w2 : World} {u2 : Option Addr} {t2 : T} (hr : OrdU.Rp w2 u2 t2) (hb : Below wr.heap.size wr w2)
    (ht : t2 = Tr.del ltI t k ∧ Tr.find ltI k t ≠ .nil ∨ t2 = t ∧ Tr.find ltI k t = .nil) : Inv w M N u2 t2 (w2.setCell ⟨M, 0, none⟩ (.pointer u2)) := by
  refine ⟨(h.var.below hb).store u2, hr.setCell (h.var.below hb).2.1 _, ?_, ?_, ?_, (h.old.trans (hb.mono h.old.size)).setCell h.new _, h.new⟩
  · rcases ht with ⟨rfl, _⟩ | ⟨rfl, _⟩
    · exact h.bst.del linI k
    · exact h.bst
  · rcases ht with ⟨rfl, _⟩ | ⟨rfl, _⟩
    · exact (Tr.avl_del t k h.avl).1
    · exact h.avl
  · rcases ht with ⟨rfl, _⟩ | ⟨rfl, _⟩
    · exact Nat.le_trans (Tr.size_del linI k h.bst) h.size
    · exact h.size

set_option maxRecDepth 100000 in
set_option maxHeartbeats 3200000 in
theorem walk (a0 : Int) (a1 : Int) (a2 : Int) (w0 : (Lit.int .u16 a0).wf = true) (w1 : (Lit.int .u16 a1).wf = true) (w2 : (Lit.int .u16 a2).wf = true) (w : World) :
    Calls Try.prog 7 #[.int .u16 a0, .int .u16 a1, .int .u16 a2] w fun e w' => e = .returned (.bool true) ∧ Below w.heap.size w w' := by
  have hx0 : 0 ≤ a0 ∧ a0 ≤ 65535 := by simpa [Lit.wf, IntKind.min, IntKind.max, IntKind.signed, IntKind.bits] using w0
  have hx1 : 0 ≤ a1 ∧ a1 ≤ 65535 := by simpa [Lit.wf, IntKind.min, IntKind.max, IntKind.signed, IntKind.bits] using w1
  have hx2 : 0 ≤ a2 ∧ a2 ≤ 65535 := by simpa [Lit.wf, IntKind.min, IntKind.max, IntKind.signed, IntKind.bits] using w2
  clear w0 w1 w2
  obtain ⟨h0, h0'⟩ := hx0
  obtain ⟨h1, h1'⟩ := hx1
  obtain ⟨h2, h2'⟩ := hx2
  obtain ⟨N, hN, hN'⟩ : ∃ N : Nat, a0 % 3001 = (N : Int) ∧ N ≤ 3000 := ⟨(a0 % 3001).toNat, by omega, by omega⟩
  obtain ⟨G, hG, hG'⟩ : ∃ G : Nat, a2 % 3001 = (G : Int) ∧ G ≤ 3000 := ⟨(a2 % 3001).toNat, by omega, by omega⟩
  have HN : Hid (a0 % 3001 = (N : Int)) := hN
  have HG : Hid (a2 % 3001 = (G : Int)) := hG
  clear hN hG
  go_enter Try.func7, Try.ntmps7
  go_wp2_with (go_at_call 9; refine (OrdS.awake_any _).mono ?_; rintro e wa ⟨rfl, hba⟩)
  go_loopg [8, 13] N (fun g k c wr => ∃ x j u t, k = .int .u16 x ∧ c = .int .u16 ((j : Nat) : Int) ∧ j + g = N ∧ Inv w wa.heap.size j u t wr)
  case atStart =>
    exact ⟨0, 0, none, .nil, rfl, rfl, by omega, ⟨⟨by simp, by simp [go_sem], by simp, by simp⟩, rfl, List.Pairwise.nil, trivial, Nat.le_refl _, hba.alloc hba.size _, hba.size⟩⟩
  case round =>
    obtain ⟨x, j, u, t, rfl, rfl, hj, hI⟩ := hrel
    have k0 := hI.var.1
    have hsz := hI.size
    by_cases hlt : j < N
    · have hlt' : (j : Int) < a0 % 3001 := by have := HN.out; omega
      have jb : (j : Int) ≤ 3000 := by omega
      have P := fun k => OrdU.put_map t u k true wr hI.rep (by omega)
      go_wp2_with (go_at_call 23; refine (P _).mono ?_; rintro e w2 ⟨u2, rfl, hr2, hb2⟩
                   have k2 := (hI.var.below hb2).1
                   have k3 := (hI.var.below hb2).2.2.1)
      go_roundg (gk - 1)
      case measure => omega
      case rel => exact ⟨_, j + 1, u2, _, rfl, by go_num, by omega, inv_put hI _ hr2 hb2⟩
    · have hge : a0 % 3001 ≤ (j : Int) := by have := HN.out; omega
      obtain rfl : j = N := by omega
      clear hlt hj
      go_wp2
      go_loopg [8, 24] G (fun g k c wr => ∃ x i u t, k = .int .u16 x ∧ c = .int .u16 ((i : Nat) : Int) ∧ i + g = G ∧ Inv w wa.heap.size j u t wr)
      case atStart => exact ⟨x, 0, u, t, rfl, rfl, by omega, hI⟩
      case round =>
        clear k0 hsz hI
        clear x u t
        obtain ⟨x, i, u, t, rfl, rfl, hi, hI⟩ := hrel
        have k0 := hI.var.1
        have hsz := hI.size
        by_cases hlt : i < G
        · have hlt' : (i : Int) < a2 % 3001 := by have := HG.out; omega
          have ib : (i : Int) ≤ 3000 := by omega
          have D := fun k => OrdU.del_map t u k wr hI.rep hI.bst (by omega)
          go_wp2_with (go_at_call 24; refine (D _).mono ?_; rintro e w2 ⟨u2, t2, rfl, hr2, ht2, hb2⟩
                       have k2 := (hI.var.below hb2).1
                       have k3 := (hI.var.below hb2).2.2.1
                       have HT : Hid (t2 = Tr.del ltI t x ∧ Tr.find ltI x t ≠ .nil ∨ t2 = t ∧ Tr.find ltI x t = .nil) := ht2
                       clear ht2)
          go_roundg (gk - 1)
          case measure => omega
          case rel => exact ⟨_, i + 1, u2, _, rfl, by go_num, by omega, inv_del hI _ hr2 hb2 HT.out⟩
        · have hge2 : a2 % 3001 ≤ (i : Int) := by have := HG.out; omega
          have e1 : IntKind.i64.wrap (2 * (digits t.size t.size : Int)) = 2 * (digits t.size t.size : Int) := by
            have : digits t.size t.size ≤ t.size := digits_le t.size
            exact IntWalk.i64_in _ (by omega)
          have hd1 : (0 : Int) ≤ (t.deep : Int) := by omega
          have hd2 : (t.deep : Int) ≤ 2 * (digits t.size t.size : Int) := by have := Tr.avl_digits t.size t (Nat.le_refl _) hI.avl; omega
          have hd3 := Tr.deep_pos t
          have hDeep := fun w h => OrdU.deep_map t u w h
          have hLen := fun w h => OrdU.len_map t u w h
          have hDig := fun w => OrdS.digits_any t.size w (by omega)
          have hrep := hI.rep
          have hold := hI.old
          have hM := hI.var.2.2.2
          have hb0 := Below.refl wr.heap.size wr
          have HB : Hid ((decide (0 < t.size) == decide (0 < t.deep)) = true) := (show _ = _ by
            by_cases hp : 0 < t.size
            · rw [decide_eq_true hp, decide_eq_true (hd3.1 hp)]; rfl
            · rw [decide_eq_false hp, decide_eq_false (fun g => hp (hd3.2 g))]; rfl)
          clear hI hlt hd3
          go_wp2
          go_region_held3 (fun w' => w'.cell? ⟨wa.heap.size, 0, none⟩ = some (.pointer u)) (first | go_keep | ((try simp only [World.cell?_drew]); exact (hb0.cell hM).trans k0))
            (first
              | (go_at_call 25; refine (hDeep _ (hrep.below (w := wr) (B := wr.heap.size) (by repeat (first | with_reducible exact hb0 | apply Below.drew)) (Nat.le_refl _))).mono ?_; rintro e wn ⟨rfl, hbn⟩; replace hb0 : Below wr.heap.size wr wn := Tr.below_of hbn (by repeat (first | with_reducible exact hb0 | apply Below.drew)))
              | (go_at_call 27; refine (hLen _ (hrep.below (w := wr) (B := wr.heap.size) (by repeat (first | with_reducible exact hb0 | apply Below.drew)) (Nat.le_refl _))).mono ?_; rintro e wn ⟨rfl, hbn⟩; replace hb0 : Below wr.heap.size wr wn := Tr.below_of hbn (by repeat (first | with_reducible exact hb0 | apply Below.drew)))
              | (go_at_call 26; refine (hDig _).mono ?_; rintro e wn ⟨rfl, rfl⟩))
          go_wp2
          go_ret
          exact ⟨congrArg (fun b => Ending.returned (.bool b)) HB.out, hold.trans (hb0.mono hold.size)⟩

theorem own : ownKnob Try.prog.godebug = none := by kernel_rfl

set_option maxRecDepth 100000 in
theorem lifted (os : Os) (started : os.Started) (H : Type) (enc : TypeId × Value → H) :
    ReturnsInHanded {} Try.checked os 7 .any (Rows.orderDeepSpec.pre6 enc Try.prog Try.f7 Rows.orderDeepRow.domain false) (Rows.orderDeepSpec.post enc Try.prog Try.f7 false true false false) := by
  refine returnsInHanded_of_change (C := Try.checked) own started (by kernel_rfl) Try.func7
    (ChangeSpec.witness6 (enc := enc) (C := Try.checked) false ⟨#[], #[.int .u16 0, .int .u16 0, .int .u16 0], []⟩ 8 (by kernel_rfl) (by kernel_rfl) (by kernel_rfl) (by kernel_rfl)) ?_
  intro W base args ds gs before hval0 hW hcnd _
  have hval : ∀ (j : Nat) t v, Try.f7.params[j]? = some t → args[j]? = some v → Value.okWide Try.prog W .any base t v := hval0
  have hW' := hW
  obtain ⟨p, q, hA0, hV, rfl, hfz, hnd⟩ := hW
  have hA : DataW.TrodAll enc Try.prog W 0 (fun _ => true) true Try.f7.params.toList args.toList ds p := hA0
  rw [Try.params7] at hA hval
  obtain ⟨v0, vs0, d0, ds0, p0, q0, hargs, rfl, rfl, h0, r0⟩ := trodAll_cons hA
  obtain ⟨v1, vs1, d1, ds1, p1, q1, rfl, rfl, rfl, h1, r1⟩ := trodAll_cons r0
  obtain ⟨v2, vs2, d2, ds2, p2, q2, rfl, rfl, rfl, h2, r2⟩ := trodAll_cons r1
  obtain ⟨rfl, rfl, rfl⟩ := trodAll_nil r2
  obtain rfl : args = #[v0, v1, v2] := by cases args; simp_all
  obtain ⟨rfl, rfl⟩ := trodVars_none hV
  obtain ⟨a0, rfl, rfl, rfl, w0⟩ := open_int Try.underlying56 (hval 0 56 v0 rfl rfl) h0
  obtain ⟨a1, rfl, rfl, rfl, w1⟩ := open_int Try.underlying56 (hval 1 56 v1 rfl rfl) h1
  obtain ⟨a2, rfl, rfl, rfl, w2⟩ := open_int Try.underlying56 (hval 2 56 v2 rfl rfl) h2
  exact (walk a0 a1 a2 w0 w1 w2 W).mono fun e W' ⟨he, hb⟩ => ⟨_, he, law_end (by kernel_rfl) (by decide +kernel) rfl rfl Try.underlying4 hW' rfl rfl rfl hb⟩

theorem over : Rows.orderDeepRow.holds Try.pinned (OpenSpec.ofChange Rows.orderDeepSpec) :=
  OpenClaim.holds_of_wide 7 Try.f7 rfl rfl rfl rfl rfl rfl rfl ⟨rfl, rfl, rfl, rfl, rfl⟩ rfl rfl rfl rfl rfl (by kernel_rfl) Try.func7 (by kernel_rfl)
    (of_decide_eq_true (by kernel_rfl)) (by unfold Func.isWrapper; first | (rw [if_pos (by decide +kernel)]; kernel_rfl) | (rw [if_neg (by decide +kernel)]; exact ⟨rfl, rfl⟩))
    (fun os started H enc _ => lifted os started H enc)

theorem proved : Rows.OrderDeepSaid := over
end Go.Proofs.Ytjccjbnbjcbagaa.orderDeep
