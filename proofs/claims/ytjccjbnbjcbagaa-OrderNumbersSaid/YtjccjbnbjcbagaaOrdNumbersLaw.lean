/- OrderNumbers: numbers are in order as numbers are. For every input. -/
import Derived.Test.YtjccjbnbjcbagaaOrdVar
import Derived.Test.YtjccjbnbjcbagaaOrdFI
import Derived.Test.YtjccjbnbjcbagaaOrdAwake
import Derived.Test.YtjccjbnbjcbagaaOrdMath3
import Derived.Lib.Hide
namespace Go.Proofs.Ytjccjbnbjcbagaa.orderNumbers
open Go.ChangeShapes Go.WideShapes Go.ChangeAt Go.RowKit Go.Proofs.Ytjccjbnbjcbagaa
set_option linter.unusedVariables false

abbrev T := Tr Int ByteArray
abbrev Iv := Inv (K := Int) (V := ByteArray) (Value.int .i64) Value.string ltI

theorem below_drewN {B : Nat} {a w : World} (h : Below B a w) (n : Nat) : Below B a (w.drewN n) := ⟨h.os, h.tape, h.output, h.size, h.block⟩

set_option maxRecDepth 100000 in
set_option maxHeartbeats 6400000 in
theorem walk (A : Option Addr) (len cap : Nat) (Z : Nat → Int) (k : Int) (w1 : (Lit.int .i64 k).wf = true) (w : World) (hm : cap ≤ maxLen)
    (hA : 0 < len → ∃ b off, A = some ⟨b, off, none⟩ ∧ b < w.heap.size ∧ ∀ j, j < len → w.cell? ⟨b, off + j, none⟩ = some (.int .i64 (Z j))) (hs : len ≤ 200) :
    Calls Try.prog 8 #[.slice A len cap, .int .i64 k] w fun e w' => e = .returned (.bool true) ∧ Below w.heap.size w w' := by
  unfold maxLen at hm
  have hs' : (len : Int) ≤ 200 := by omega
  go_enter Try.func8, Try.ntmps8
  go_wp2_with (go_at_call 9; refine (OrdS.awake_any _).mono ?_; rintro e wa ⟨rfl, hba⟩)
  go_loopg [6, 7, 25] len (fun g x y c wr => ∃ j u t, c = .int .i64 ((j : Nat) : Int) ∧ x = .int .i64 (Tr.rank ltI k t : Int) ∧ y = .bool (!(Tr.find ltI k t).isNil) ∧ j + g = len ∧ Iv w wa.heap.size j u t wr)
  case atStart => exact ⟨0, none, .nil, rfl, rfl, rfl, by omega, Inv.start hba _⟩
  case round =>
    obtain ⟨j, u, t, rfl, rfl, rfl, hj, hI⟩ := hrel
    have k0 := hI.var.1
    have hsz := hI.size
    have hrk := Tr.rank_le linI k hI.bst
    generalize hR : Tr.rank ltI k t = R at *
    generalize hY : (Tr.find ltI k t).isNil = Y at *
    have HR : Hid (Tr.rank ltI k t = R) := hR
    have HY : Hid ((Tr.find ltI k t).isNil = Y) := hY
    clear hR hY
    by_cases hlt : j < len
    · obtain ⟨b, off, rfl, hb, hc⟩ := hA (by omega)
      have hcj : wr.cell? ⟨b, off + j, none⟩ = some (.int .i64 (Z j)) := (hI.old.cell hb).trans (hc j hlt)
      have hbr : b < wr.heap.size := Nat.lt_of_lt_of_le hb hI.old.size
      have hlt' : (j : Int) < (len : Int) := by omega
      have jb : (j : Int) ≤ 200 := by omega
      have Rb : (R : Int) ≤ 200 := by omega
      generalize Z j = z at *
      have P := fun w u h => OrdI.put_map t u z ⟨#[120]⟩ w h (by omega)
      have hM := hI.var.2.2.2
      clear hA hc
      -- whether it is there already
      have hG : (∃ v, (∀ w u, OrdI.Rp w u t → Calls Try.prog 28 #[.agg #[.pointer u], .int .i64 z] w fun e w' => e = .returned (.tuple #[.string v, .bool true]) ∧ Below w.heap.size w w') ∧ Tr.rank ltI k (Tr.put ltI z ⟨#[120]⟩ t) = R) ∨
          (∀ w u, OrdI.Rp w u t → Calls Try.prog 28 #[.agg #[.pointer u], .int .i64 z] w fun e w' => e = .returned (.tuple #[.string ⟨#[]⟩, .bool false]) ∧ Below w.heap.size w w') ∧ Tr.rank ltI k (Tr.put ltI z ⟨#[120]⟩ t) = R + (if ltI z k then 1 else 0) := by
        have h0 := HR.out
        cases hf : Tr.find ltI z t with
        | nil => exact .inr ⟨fun w u h => OrdI.get_no t u z w h hf, by rw [← h0]; exact Tr.rank_put_new linI hI.bst k z _ hf⟩
        | node k' v' a' b' => exact .inl ⟨v', fun w u h => OrdI.get_yes t u z k' v' a' b' w h hf, by rw [← h0]; exact Tr.rank_put_old linI hI.bst k z _ hf⟩
      have hYY : ((z == k) = true ∧ (Tr.find ltI k (Tr.put ltI z ⟨#[120]⟩ t)).isNil = false) ∨ ((z == k) = false ∧ (Tr.find ltI k (Tr.put ltI z ⟨#[120]⟩ t)).isNil = Y) := by
        by_cases hz : z = k
        · exact .inl ⟨beq_iff_eq.2 hz, by rw [hz]; exact Tr.isNil_put_same linI hI.bst k _⟩
        · exact .inr ⟨by rw [beq_eq_false_iff_ne]; exact hz, by rw [← HY.out]; exact Tr.isNil_put_other linI hI.bst _ hz⟩
      clear HR HY
      have hGG : (∃ v o, (∀ w u, OrdI.Rp w u t → Calls Try.prog 28 #[.agg #[.pointer u], .int .i64 z] w fun e w' => e = .returned (.tuple #[.string v, .bool o]) ∧ Below w.heap.size w w') ∧
          ((o = true ∧ Tr.rank ltI k (Tr.put ltI z ⟨#[120]⟩ t) = R) ∨ (o = false ∧ z < k ∧ Tr.rank ltI k (Tr.put ltI z ⟨#[120]⟩ t) = R + 1) ∨ (o = false ∧ k ≤ z ∧ Tr.rank ltI k (Tr.put ltI z ⟨#[120]⟩ t) = R))) := by
        rcases hG with ⟨v, h1, h2⟩ | ⟨h1, h2⟩
        · exact ⟨v, true, h1, .inl ⟨rfl, h2⟩⟩
        · by_cases hz : z < k
          · exact ⟨_, false, h1, .inr (.inl ⟨rfl, hz, by rw [h2, if_pos (show ltI z k = true from decide_eq_true hz)]⟩)⟩
          · exact ⟨_, false, h1, .inr (.inr ⟨rfl, by omega, by rw [h2, if_neg (by unfold ltI; rw [decide_eq_false hz]; decide)]; rfl⟩)⟩
      clear hG
      obtain ⟨v, o, hGet, hcase⟩ := hGG
      rcases hcase with ⟨rfl, hRk⟩ | ⟨rfl, hzk, hRk⟩ | ⟨rfl, hzk, hRk⟩
      all_goals
        have HR2 := Lib.hid hRk
        clear hRk
        cases Y
        all_goals
          rcases hYY with ⟨hzz, hYk⟩ | ⟨hzz, hYk⟩
          all_goals
            have HY2 := Lib.hid hYk
            clear hYk
            go_wp2
            go_region_held3 (fun w' => w'.cell? ⟨wa.heap.size, 0, none⟩ = some (.pointer u) ∧ w'.cell? ⟨b, off + j, none⟩ = some (.int .i64 z)) (first | go_keep | exact ⟨(HB.cell hM).trans k0, (HB.cell hbr).trans hcj⟩)
              (first
                | (go_at_call 28; refine (hGet _ _ ?_).mono ?_; (first | exact hI.rep | exact hI.rep.drew); rintro e w2 ⟨rfl, hb2⟩; have HB : Below wr.heap.size wr w2 := Tr.below_of hb2 (by repeat (first | exact Below.refl _ _ | apply Below.drew))))
            have hI2 := hI.below HB
            have k2 := hI2.var.1
            have hc2 : w2.cell? ⟨b, off + j, none⟩ = some (.int .i64 z) := (HB.cell hbr).trans hcj
            go_wp2
            go_still_tail 5, (by kernel_rfl)
            change wpList _ _ _ _ _ w2.drew
            go_wp2_with (go_at_call 29; refine (P _ _ hI2.drew.rep).mono ?_; rintro e w3 ⟨u3, rfl, hr3, hb3⟩
                         have k3 := (hI2.drew.var.below hb3).1
                         have k4 := (hI2.drew.var.below hb3).2.2.1)
            go_roundg (gk - 1)
            case measure => omega
            case rel => exact ⟨j + 1, u3, _, by go_num, (by rw [HR2.out] <;> first | rfl | go_num), (by rw [HY2.out] <;> rfl), by omega, hI2.drew.put linI _ _ hr3 hb3⟩
    · have hge : (len : Int) ≤ (j : Int) := by omega
      obtain ⟨wq, rfl⟩ : ∃ wq : World, wq = wr := ⟨_, rfl⟩
      have hrep := hI.rep
      have hold := hI.old
      have hM := hI.var.2.2.2
      have hb0 := Below.refl wq.heap.size wq
      have hsz2 : t.size ≤ 1000000 := by omega
      have hGet : ∀ w u, OrdI.Rp w u t → Calls Try.prog 28 #[.agg #[.pointer u], .int .i64 k] w fun e w' => ∃ v, e = .returned (.tuple #[.string v, .bool (!Y)]) ∧ Below w.heap.size w w' := by
        have h0 := HY.out
        intro w u h
        cases hf : Tr.find ltI k t with
        | nil => rw [hf] at h0; subst h0; exact (OrdI.get_no t u k w h hf).mono fun e w' h => ⟨_, h⟩
        | node k' v' a' b' => rw [hf] at h0; subst h0; exact (OrdI.get_yes t u k k' v' a' b' w h hf).mono fun e w' h => ⟨_, h⟩
      have hAll := fun w u h => OrdI.all_map t u w h hsz2
      have hRank := fun w u h => OrdI.rank_map k t u w h hsz2
      rw [HR.out] at hRank
      have hLen := fun w u h => OrdI.len_map t u w h
      have hDel := fun w u h => OrdI.del_map t u k w h hI.bst hsz2
      have hsort : Tr.Bst ltI t := hI.bst
      have hlen : t.list.length = t.size := Tr.length_list t
      have hdelsz := Tr.size_del linI k hI.bst
      clear hI hlt hA HR HY
      obtain ⟨n, hn⟩ : ∃ n, t.list.length = n := ⟨_, rfl⟩
      have hAll' : ∀ w u, OrdI.Rp w u t → Calls Try.prog 30 #[.agg #[.pointer u]] w fun e w' => ∃ A c, e = .returned (.slice A n c) ∧ w'.ownsRow w.heap.size 74 2 (.slice A n c) n (OrdI.cellsL t.list) ∧ Below w.heap.size w w' := by
        intro w u h; rw [← hn]; exact hAll w u h
      clear hAll
      have hnb : (n : Int) ≤ 200 := by omega
      rw [hlen] at hn
      rw [hn] at hLen
      have HN := Lib.hid hn
      have HL := Lib.hid hlen
      clear hn hlen
      go_wp2_with (first
        | (go_at_call 28; refine (hGet _ _ hrep).mono ?_; rintro e w2 ⟨v2, rfl, hb2⟩
           have kM : w2.cell? ⟨wa.heap.size, 0, none⟩ = some (.pointer u) := (hb2.cell hM).trans k0)
        | (go_at_call 30; refine (hAll' _ _ (hrep.below hb2 (Nat.le_refl _))).mono ?_; rintro e w3 ⟨A3, c3, rfl, ho3, hb3⟩
           replace hb3 := hb2.trans (hb3.mono hb2.size)))
      go_loopg [75] n (fun g c w4 => ∃ i, c = .int .i64 ((i : Nat) : Int) ∧ i + g = n ∧ Below w3.heap.size w3 w4)
      case atStart => exact ⟨0, rfl, by omega, Below.refl _ _⟩
      case round =>
        obtain ⟨i, rfl, hi, hb4⟩ := hrel
        by_cases hlt : i < n
        · have hlt' : (i : Int) < (n : Int) := by omega
          obtain ⟨g, cg, hA3, _, hgl⟩ := ho3.form (by omega)
          have hA3' : A3 = some ⟨g, 0, none⟩ ∧ cg = c3 := by injection hA3 with h1 h2 h3; exact ⟨h1, h3.symm⟩
          obtain ⟨rfl, rfl⟩ := hA3'
          clear hA3
          have hcell : ∀ q, q < n → wr.cell? ⟨g, q * 2, none⟩ = some (.int .i64 ((t.list.map (·.1)).getD q 0)) := fun q hq => by
            have h1 := (hb4.cell (p := ⟨g, q * 2, none⟩) hgl).trans (ho3.cellAt (q * 2) (by omega))
            rw [h1]
            have h2 := Tr.flat_key (fun p : Int × ByteArray => Value.int .i64 p.1) (fun p => Value.string p.2) t.list q
            have hql : q < t.list.length := by rw [HL.out, HN.out]; exact hq
            rw [List.getElem?_eq_getElem hql] at h2
            rw [List.getD_eq_getElem?_getD, List.getElem?_map, List.getElem?_eq_getElem hql]
            exact h2
          have hi0 : (0 : Int) ≤ (i : Int) := by omega
          by_cases h0 : i = 0
          · have hz : (i : Int) ≤ 0 := by omega
            have hd : decide ((0 : Int) < (i : Int)) = false := decide_eq_false (by omega)
            have hd2 : decide (0 < i) = false := decide_eq_false (by omega)
            clear h0 hcell
            go_wp2
            go_quiet (fail)
            go_wp2
            go_roundg (gk - 1)
            case measure => omega
            case rel => exact ⟨i + 1, by go_num, by omega, below_drewN hb4 _⟩
          · obtain ⟨p, hp⟩ : ∃ p, i = p + 1 := ⟨i - 1, by omega⟩
            have e1 : IntKind.i64.wrap ((i : Int) - 1) = (p : Int) := by rw [IntWalk.i64_in _ (by omega)]; omega
            have hp0 : (0 : Int) ≤ (p : Int) := by omega
            have hp1 : (p : Int) < (n : Int) := by omega
            have hz : (0 : Int) < (i : Int) := by omega
            have hz' : 0 < i := by omega
            have hd : decide ((0 : Int) < (i : Int)) = true := decide_eq_true hz
            have hd2 : decide (0 < i) = true := decide_eq_true hz'
            have c1 := hcell p (by omega)
            have c2 := hcell i hlt
            have hlt2 : (t.list.map (·.1)).getD p 0 < (t.list.map (·.1)).getD i 0 := by
              have hql : i < t.list.length := by rw [HL.out, HN.out]; exact hlt
              have hs := List.pairwise_iff_getElem.1 hsort p i (by omega) hql (by omega)
              rw [List.getD_eq_getElem?_getD, List.getElem?_map, List.getElem?_eq_getElem (by omega : p < t.list.length), List.getD_eq_getElem?_getD, List.getElem?_map, List.getElem?_eq_getElem hql]
              exact of_decide_eq_true hs
            generalize (t.list.map (·.1)).getD p 0 = x1 at *
            generalize (t.list.map (·.1)).getD i 0 = x2 at *
            clear h0 hcell hp
            go_wp2
            go_region_held3 (fun w' => w'.cell? ⟨g, p * 2, none⟩ = some (.int .i64 x1) ∧ w'.cell? ⟨g, i * 2, none⟩ = some (.int .i64 x2)) (go_keep) (fail)
            go_wp2
            go_roundg (gk - 1)
            case measure => omega
            case rel => exact ⟨i + 1, by go_num, by omega, by repeat (first | with_reducible exact hb4 | apply Below.drew)⟩
        · have hge2 : (n : Int) ≤ (i : Int) := by omega
          have hb5 : Below wq.heap.size wq wr := hb3.trans (hb4.mono hb3.size)
          have kM5 : wr.cell? ⟨wa.heap.size, 0, none⟩ = some (.pointer u) := (hb5.cell hM).trans k0
          have hLen2 := fun t w u h => OrdI.len_map t u w h
          clear ho3 hb4 hsort HL hAll' hGet
          go_wp2
          go_region_held3 (fun w' => w'.cell? ⟨wa.heap.size, 0, none⟩ = some (.pointer u)) (first | go_keep | ((try simp only [World.cell?_drew]); exact (hb5.cell hM).trans k0))
            (first
              | (go_at_call 31; refine (hRank _ _ (hrep.below (w := wq) (B := wq.heap.size) (by repeat (first | with_reducible exact hb5 | apply Below.drew)) (Nat.le_refl _))).mono ?_; rintro e wn ⟨rfl, hbn⟩; replace hb5 : Below wq.heap.size wq wn := Tr.below_of hbn (by repeat (first | with_reducible exact hb5 | apply Below.drew)))
              | (go_at_call 32; refine (hDel _ _ (hrep.below (w := wq) (B := wq.heap.size) (by repeat (first | with_reducible exact hb5 | apply Below.drew)) (Nat.le_refl _))).mono ?_; rintro e wn ⟨u2, t2, rfl, hr2, ht2, hbn⟩; replace hb5 : Below wq.heap.size wq wn := Tr.below_of hbn (by repeat (first | with_reducible exact hb5 | apply Below.drew))
                 have ht3 : (t2.size : Int) ≤ (n : Int) := by
                   have := HN.out
                   rcases ht2 with ⟨rfl, _⟩ | ⟨rfl, _⟩ <;> omega
                 have ht4 : t2.size ≤ n := by omega
                 have HT := Lib.hid ht2
                 clear ht2)
              | (go_at_call_of 33 (Value.agg #[.pointer u2]); refine (hLen2 t2 _ _ ?_).mono ?_; (first | exact hr2 | exact hr2.drew); rintro e wn ⟨rfl, hbn⟩; replace hb5 : Below wq.heap.size wq wn := Tr.below_of hbn (by repeat (first | with_reducible exact hb5 | apply Below.drew)))
              | (go_at_call 33; refine (hLen _ _ (hrep.below (w := wq) (B := wq.heap.size) (by repeat (first | with_reducible exact hb5 | apply Below.drew)) (Nat.le_refl _))).mono ?_; rintro e wn ⟨rfl, hbn⟩; replace hb5 : Below wq.heap.size wq wn := Tr.below_of hbn (by repeat (first | with_reducible exact hb5 | apply Below.drew))))
          go_wp2
          go_ret
          exact ⟨rfl, hold.trans (hb5.mono hold.size)⟩

theorem walk_long (A : Option Addr) (len cap : Nat) (k : Int) (w : World) (hs : 200 < len) :
    Calls Try.prog 8 #[.slice A len cap, .int .i64 k] w fun e w' => e = .returned (.bool true) ∧ Below w.heap.size w w' := by
  have hs' : (200 : Int) < (len : Int) := by omega
  go_enter Try.func8, Try.ntmps8
  go_wp2_with fail
  refine (OrdS.awake_any _).mono ?_
  rintro e wa ⟨rfl, hba⟩
  go_wp2_with fail
  refine (OrdS.awake_any _).mono ?_
  rintro e wb ⟨rfl, hbb⟩
  go_wp2
  go_ret
  exact ⟨rfl, hba.trans (hbb.mono hba.size)⟩

theorem own : ownKnob Try.prog.godebug = none := by kernel_rfl

set_option maxRecDepth 100000 in
theorem lifted (os : Os) (started : os.Started) (H : Type) (enc : TypeId × Value → H) :
    ReturnsInHanded {} Try.checked os 8 .any (Rows.orderNumbersSpec.pre6 enc Try.prog Try.f8 Rows.orderNumbersRow.domain false) (Rows.orderNumbersSpec.post enc Try.prog Try.f8 false true false false) := by
  refine returnsInHanded_of_change (C := Try.checked) own started (by kernel_rfl) Try.func8
    (ChangeSpec.witness6 (enc := enc) (C := Try.checked) false ⟨#[], #[.slice none 0 0, .int .i64 0], []⟩ 8 (by kernel_rfl) (by kernel_rfl) (by kernel_rfl) (by kernel_rfl)) ?_
  intro W base args ds gs before hval0 hW hcnd _
  have hval : ∀ (j : Nat) t v, Try.f8.params[j]? = some t → args[j]? = some v → Value.okWide Try.prog W .any base t v := hval0
  have hW' := hW
  obtain ⟨p, q, hA0, hV, rfl, hfz, hnd⟩ := hW
  have hA : DataW.TrodAll enc Try.prog W 0 (fun _ => true) true Try.f8.params.toList args.toList ds p := hA0
  rw [Try.params8] at hA hval
  obtain ⟨v0, vs0, d0, ds0, p0, q0, hargs, rfl, rfl, h0, r0⟩ := trodAll_cons hA
  obtain ⟨v1, vs1, d1, ds1, p1, q1, rfl, rfl, rfl, h1, r1⟩ := trodAll_cons r0
  obtain ⟨rfl, rfl, rfl⟩ := trodAll_nil r1
  obtain rfl : args = #[v0, v1] := by cases args; simp_all
  obtain ⟨rfl, rfl⟩ := trodVars_none hV
  obtain ⟨A0, len0, cap0, Z0, rfl, hlc0, hm0, hrow0, hwz0⟩ := arg_ints Try.underlying64 Try.underlying2 (by kernel_rfl) (hval 0 64 v0 rfl rfl) h0 (fun x hx => hW'.lt x (by simp [hx]))
  obtain ⟨a1, rfl, rfl, rfl, w1⟩ := open_int Try.underlying2 (hval 1 2 v1 rfl rfl) h1
  have fin : ∀ W', Below W.heap.size W W' → Rows.orderNumbersSpec.post enc Try.prog Try.f8 false true false false W #[.slice A0 len0 cap0, .int .i64 a1] (.bool true) W' :=
    fun W' hb => law_end (by kernel_rfl) (by decide +kernel) rfl rfl Try.underlying4 hW' rfl rfl rfl hb
  rcases Nat.lt_or_ge 200 len0 with hs | hs
  · exact (walk_long A0 len0 cap0 a1 W hs).mono fun e W' ⟨he, hb⟩ => ⟨_, he, fin W' hb⟩
  · exact (walk A0 len0 cap0 Z0 a1 w1 W hm0 hrow0 hs).mono fun e W' ⟨he, hb⟩ => ⟨_, he, fin W' hb⟩

theorem over : Rows.orderNumbersRow.holds Try.pinned (OpenSpec.ofChange Rows.orderNumbersSpec) :=
  OpenClaim.holds_of_wide 8 Try.f8 rfl rfl rfl rfl rfl rfl rfl ⟨rfl, rfl, rfl, rfl, rfl⟩ rfl rfl rfl rfl rfl (by kernel_rfl) Try.func8 (by kernel_rfl)
    (of_decide_eq_true (by kernel_rfl)) (by unfold Func.isWrapper; first | (rw [if_pos (by decide +kernel)]; kernel_rfl) | (rw [if_neg (by decide +kernel)]; exact ⟨rfl, rfl⟩))
    (fun os started H enc _ => lifted os started H enc)

theorem proved : Rows.OrderNumbersSaid := over

end Go.Proofs.Ytjccjbnbjcbagaa.orderNumbers
