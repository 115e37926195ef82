/- OctetsNil: a nil Out takes nothing, a nil In gives nothing; bytes that are handed in or out are by themselves. For every input. -/
import Derived.Test.YtjmcbnoofonanaaOctAwake
import Derived.Test.YtjmcbnoofonanaaOctMath
import Derived.Test.YtjmcbnoofonanaaOctArgs
import Derived.Test.YtjmcbnoofonanaaLawEnd
import Derived.Test.YtjmcbnoofonanaaArgs
import Derived.ChangeMaps5
import Derived.Deep.LoopGhost
import Derived.Deep.RegionHeld3
import Derived.BigQuiet
namespace Go.Proofs.Ytjmcbnoofonanaa.octetsNil
open Go.ChangeShapes Go.WideShapes Go.ChangeAt Go.RowKit Go.Proofs.Ytjmcbnoofonanaa
set_option linter.unusedVariables false
set_option linter.unusedSimpArgs false

theorem numberN_one (b : UInt8) (r : List UInt8) : numberN (some (b :: r)) 1 = (b.toNat, some r) := by
  simp [numberN, takeN, num]

set_option maxRecDepth 100000 in
set_option maxHeartbeats 6400000 in
theorem walk (A : Option Addr) (len cap : Nat) (K N : Nat → Int) (S : Nat → ByteArray) (A1 : Option Addr) (len1 cap1 : Nat) (L : List UInt8) (most : Int) (w : World) (h1 : Items w A len K N S) (hlc : len ≤ cap) (hm : cap ≤ maxLen)
    (hb : Lies w A1 len1 cap1 L) (hm1 : cap1 ≤ maxLen) (w2 : (Lit.int .i64 most).wf = true) :
    Calls Try.prog 7 #[.slice A len cap, .slice A1 len1 cap1, .int .i64 most] w fun e w' => e = .returned (.bool true) ∧ Below w.heap.size w w' := by
  have hmost := wf_i64' w2
  clear hm hm1 w2
  by_cases hl : len ≤ 20
  · have hl' : ¬ ((20 : Int) < (len : Int)) := by omega
    have lb : (len : Int) ≤ 20 := by omega
    by_cases hl1 : len1 ≤ 1000
    · have hl1' : ¬ ((1000 : Int) < (len1 : Int)) := by omega
      have lb1 : (len1 : Int) ≤ 1000 := by omega
      obtain ⟨i0, hi0, hz0, hz1, hz2⟩ := info_parts info_u8
      obtain ⟨_, h1⟩ := h1
      have hLl := hb.1
      go_enter Try.func7, Try.ntmps7
      go_wp2_with (go_at_call 8; refine (awake_any _).mono ?_; rintro e w1 ⟨rfl, hb1⟩)
      go_loopg [31] len (fun g x wr => ∃ j : Nat, x = .int .i64 (j : Int) ∧ j + g = len ∧ Below w.heap.size w wr)
      case atStart => exact ⟨0, rfl, by omega, hb1⟩
      case round =>
        clear hb1
        obtain ⟨j, rfl, hj, hbw⟩ := hrel
        by_cases hlt : j < len
        · have hlt' : (j : Int) < (len : Int) := by omega
          obtain ⟨b, off, rfl, hbl, hc⟩ := h1 (by omega)
          obtain ⟨c0, c1, c2⟩ := hc j hlt
          have f0 : wr.cell? ⟨b, off + j * 3, none⟩ = some (.int .u8 (K j)) := (hbw.cell (p := ⟨b, off + j * 3, none⟩) hbl).trans c0
          have f1 : wr.cell? ⟨b, off + j * 3 + 1, none⟩ = some (.int .i64 (N j)) := (hbw.cell (p := ⟨b, off + j * 3 + 1, none⟩) hbl).trans c1
          have f2 : wr.cell? ⟨b, off + j * 3 + 2, none⟩ = some (.string (S j)) := (hbw.cell (p := ⟨b, off + j * 3 + 2, none⟩) hbl).trans c2
          have hP := put_nil (K j) (N j) (S j) wr
          clear h1 hc c0 c1 c2 hb
          go_wp2_with (go_at_call 9; refine hP.mono ?_; rintro e w3 ⟨rfl, hb3⟩)
          go_roundg (gk - 1)
          case measure => omega
          case rel => exact ⟨j + 1, by go_num, by omega, hbw.trans (hb3.mono hbw.size)⟩
        · obtain rfl : j = len := by omega
          have hdec : decide ((j : Int) < (j : Int)) = false := decide_eq_false (by omega)
          clear h1
          obtain ⟨wq, rfl⟩ : ∃ wq, wq = wr := ⟨_, rfl⟩
          have hbq := hb.below hbw (Nat.le_refl _)
          go_wp2_with (first
            | (go_at_call 11; refine (end_nil _).mono ?_; rintro e w3 ⟨rfl, rfl⟩)
            | (go_at_call 24; refine (fail_nil _).mono ?_; rintro e w3 ⟨rfl, rfl⟩)
            | (go_at_call 18; refine (byteIn_nil _).mono ?_; rintro e w3 ⟨rfl, rfl⟩)
            | (go_at_call 19; refine (flagIn_nil _).mono ?_; rintro e w3 ⟨rfl, rfl⟩)
            | (go_at_call 25; refine (countIn_nil _ hmost _).mono ?_; rintro e w3 ⟨rfl, rfl⟩)
            | (go_at_call 20; refine (numIn_nil _).mono ?_; rintro e w3 ⟨rfl, rfl⟩)
            | (go_at_call 21; refine (textIn_nil _ hmost _).mono ?_; rintro e w3 ⟨rfl, rfl⟩)
            | (go_at_call 22; refine (bytesIn_nil _ hmost _).mono ?_; rintro e w3 ⟨A3, c3, rfl, hb3⟩)
            | (go_at_call 15; refine (left_nil _).mono ?_; rintro e w4 ⟨rfl, rfl⟩)
            | (go_at_call 14; refine (bad_nil _).mono ?_; rintro e w4 ⟨rfl, rfl⟩)
            | (go_at_call 16; refine (done_nil _).mono ?_; rintro e w4 ⟨rfl, rfl⟩)
            | (at_builtin; refine wpList_append_bytes _ rfl _ _ 24 rfl 5 i0 Try.underlying24 hi0 hz0 hz1 hz2 w3.heap.size (by simp) (.slice (some ⟨w3.heap.size, 0, none⟩) 0 0) [] rfl (World.ownsRow_made _ #[] 0 (Nat.le_refl _) (Nat.zero_le _) rfl) A1 len1 cap1 L rfl ((hbq.below hb3 (Nat.le_refl _)).below ((Below.refl _ _).alloc (Nat.le_refl _) _) (Nat.le_refl _)) (by simp; omega) ?_))
          intro v5 w5 hr5 hg5 _
          have hr5 : Owns 5 w5 w3.heap.size v5 L := by simpa using hr5
          have hb35 : Below w3.heap.size w3 w5 := ((Below.refl w3.heap.size w3).alloc (Nat.le_refl _) (.cells #[] 5)).grown hg5 (by simp) (fun k e => by injection e with e; have e' : w3.heap.size = k := e; omega)
          have hb5 : Below w.heap.size w w5 := hbw.trans ((hb3.trans (hb35.mono hb3.size)).mono hbw.size)
          obtain ⟨C, cc, rfl, hl5, _⟩ := lies_of_owns hr5
          rw [hLl] at hr5 hl5 ⊢
          have hC : 0 < len1 → ∃ g, C = some ⟨g, 0, none⟩ ∧ w.heap.size ≤ g ∧ g < w5.heap.size := fun h0 => by
            obtain ⟨g, c', e, hg, hgl⟩ := World.ownsRow.form hr5 (by omega)
            injection e with e1 e2 e3
            exact ⟨g, e1, Nat.le_trans hbw.size (Nat.le_trans hb3.size hg), hgl⟩
          clear hbq hg5 hb35 hb3 hbw
          have hN := newIn_any C len1 cc L w5 (· < w5.heap.size) (fun k hk => hk) hl5 (by omega)
          go_wp2_with (go_at_call 12; refine hN.mono ?_; rintro e w6 ⟨i, rfl, h6, hb6⟩)
          have hrow6 : w6.ownsRow 0 5 1 (.slice C len1 cc) len1 (cellsOf L) := by
            have h := hr5.keep (w' := w6) fun g e => hb6.block g (hr5.lt g e).2
            have h := h.rebase (base' := 0) (fun k _ => Nat.zero_le _)
            unfold Owns at h
            rw [hLl] at h
            exact h
          have hb6' : Below w.heap.size w w6 := hb5.trans (hb6.mono hb5.size)
          have hC6 : 0 < len1 → ∃ g, C = some ⟨g, 0, none⟩ ∧ w.heap.size ≤ g ∧ g < w5.heap.size := hC
          have hall : ∀ i < len1, ∃ z, (cellsOf L)[i]? = some (.int .u8 z) := fun i hi => ⟨_, by rw [List.getElem?_map, List.getElem?_eq_getElem (by omega)]; rfl⟩
          have hw5 := hb5.size
          clear hr5 hl5 hN hb5
          go_loopg [14, 108] len1 (fun g y x wr => ∃ (k : Nat) (xs : List Value), x = .int .i64 (k : Int) ∧ k + g = len1 ∧ wr.ownsRow 0 5 1 (.slice C len1 cc) len1 xs ∧ (∀ i < len1, ∃ z, xs[i]? = some (.int .u8 z)) ∧ In wr i (some L) (· < w5.heap.size) ∧ Below w.heap.size w wr)
          case atStart => exact ⟨0, _, rfl, by omega, hrow6, hall, h6, hb6'⟩
          case round =>
            clear hrow6 hall h6 hb6' hb6
            obtain ⟨k, xs, rfl, hk, hrow, hall, hi, hbr⟩ := hrel
            by_cases hlt : k < len1
            · have hlt' : (k : Int) < (len1 : Int) := by omega
              obtain ⟨g, rfl, hg1, hg2⟩ := hC6 (by omega)
              obtain ⟨z, hz⟩ := hall k hlt
              have f0 : wr.cell? ⟨g, k, none⟩ = some (.int .u8 z) := by rw [hrow.cellAt k (by omega), hz]
              have f1 : wr.frozen? ⟨g, k, none⟩ = false := hrow.frozenAt k
              have hst := fun u => hrow.stored k u
              go_wp2
              go_roundg (gk - 1)
              case measure => omega
              case rel =>
                refine ⟨k + 1, _, by go_num, by omega, (hst _).1, fun i' hi' => ?_, hi.grown (hst _).2 (fun q e => by injection e with e; omega), hbr.grown (hst _).2 hbr.size (fun q e => by injection e with e; omega)⟩
                rw [List.getElem?_set]
                split
                · rw [if_pos (by have h := hrow.1; rw [h]; omega)]
                  exact ⟨_, rfl⟩
                · exact hall i' hi'
            · obtain rfl : k = len1 := by omega
              have hdec : decide ((k : Int) < (k : Int)) = false := decide_eq_false (by omega)
              clear hall hrow hC6 hC
              go_wp2
              obtain ⟨wq2, rfl⟩ : ∃ wq2, wq2 = wr := ⟨_, rfl⟩
              go_loopg [15, 120] k (fun g y x wr => ∃ m : Nat, x = .int .i64 (m : Int) ∧ m + g = k ∧ In wr i (some (L.drop m)) (· < w.heap.size) ∧ Below w.heap.size w wr)
              case atStart => exact ⟨0, rfl, by omega, hi.out (fun q hq => .inl (Nat.lt_of_lt_of_le hq hw5)), hbr⟩
              case round =>
                clear hi hbr
                obtain ⟨m, rfl, hm, hi, hbr⟩ := hrel
                by_cases hlt : m < k
                · have hlt' : (m : Int) < (k : Int) := by omega
                  obtain ⟨b, off, rfl, hbl, hc⟩ := hb.cell m (by omega)
                  have hd : L.drop m = L[m]'(by omega) :: L.drop (m + 1) := List.drop_eq_getElem_cons (by omega)
                  generalize L[m]'(by omega) = x at hc hd
                  have f0 : wr.cell? ⟨b, off + m, none⟩ = some (.int .u8 (x.toNat : Int)) := (hbr.cell (p := ⟨b, off + m, none⟩) hbl).trans hc
                  rw [hd] at hi
                  have hB := fun (W : World) (h : In W i (some (x :: L.drop (m + 1))) (· < w.heap.size)) => byteIn_any W i _ _ h
                  clear hd
                  go_wp2
                  go_region_held3 (fun w' => w'.cell? ⟨b, off + m, none⟩ = some (.int .u8 (x.toNat : Int)))
                    (first | (go_keep; done) | exact f7)
                    ((go_at_call 18
                      refine (hB _ (hi.below ((Below.refl wr.heap.size wr).drew) (Nat.le_refl _))).mono ?_
                      rw [numberN_one]
                      rintro e w7 ⟨rfl, h7, k7⟩
                      have hb7 := below_keeps hbr.drew k7 (fun i hi => hi) hbr.size
                      have f7 : w7.cell? ⟨b, off + m, none⟩ = some (.int .u8 (x.toNat : Int)) := (hb7.cell (p := ⟨b, off + m, none⟩) hbl).trans hc))
                  go_wp2
                  go_roundg (gk - 1)
                  case measure => omega
                  case rel => exact ⟨m + 1, by go_num, by omega, h7, hb7⟩
                · obtain rfl : m = k := by omega
                  have hdec : decide ((m : Int) < (m : Int)) = false := decide_eq_false (by omega)
                  rw [List.drop_of_length_le (by omega)] at hi
                  go_wp2_with (go_at_call 16; refine (done_any _ _ _ _ hi).mono ?_; rintro e w7 ⟨rfl, rfl⟩)
                  go_ret
                  exact ⟨rfl, hbr⟩
    · have hl1' : ((1000 : Int) < (len1 : Int)) := by omega
      clear h1 hb
      go_enter Try.func7, Try.ntmps7
      go_wp2_with fail
      refine (awake_any _).mono ?_
      rintro e w1 ⟨rfl, hb1⟩
      go_wp2_with fail
      refine (awake_any _).mono ?_
      rintro e w2 ⟨rfl, hb2⟩
      go_wp2
      go_ret
      exact ⟨rfl, hb1.trans (hb2.mono hb1.size)⟩
  · have hl' : ((20 : Int) < (len : Int)) := by omega
    clear h1 hb
    go_enter Try.func7, Try.ntmps7
    go_wp2_with fail
    refine (awake_any _).mono ?_
    rintro e w1 ⟨rfl, hb1⟩
    go_wp2_with fail
    refine (awake_any _).mono ?_
    rintro e w2 ⟨rfl, hb2⟩
    go_wp2
    go_ret
    exact ⟨rfl, hb1.trans (hb2.mono hb1.size)⟩

theorem own : ownKnob Try.prog.godebug = none := by kernel_rfl

set_option maxRecDepth 100000 in
theorem lifted (os : Os) (started : os.Started) (H : Type) (enc : TypeId × Value → H) :
    ReturnsInHanded {} Try.checked os 7 .any (Rows.octetsNilSpec.pre6 enc Try.prog Try.f7 Rows.octetsNilRow.domain false) (Rows.octetsNilSpec.post enc Try.prog Try.f7 false true false false) := by
  refine returnsInHanded_of_change (C := Try.checked) own started (by kernel_rfl) Try.func7
    (ChangeSpec.witness6 (enc := enc) (C := Try.checked) false ⟨#[], #[.slice none 0 0, .slice none 0 0, .int .i64 0], []⟩ 8 (by kernel_rfl) (by kernel_rfl) (by kernel_rfl) (by kernel_rfl)) ?_
  intro W base args ds gs before hval0 hW hcnd _
  have hval : ∀ (j : Nat) t v, Try.f7.params[j]? = some t → args[j]? = some v → Value.okWide Try.prog W .any base t v := hval0
  have hW' := hW
  obtain ⟨p, q, hA0, hV, rfl, hfz, hnd⟩ := hW
  have hA : DataW.TrodAll enc Try.prog W 0 (fun _ => true) true Try.f7.params.toList args.toList ds p := hA0
  rw [Try.params7] at hA hval
  obtain ⟨v0, vs0, d0, ds0, p0, q0, hargs, rfl, rfl, h0, r0⟩ := trodAll_cons hA
  obtain ⟨v1, vs1, d1, ds1, p1, q1, rfl, rfl, rfl, h1, r1⟩ := trodAll_cons r0
  obtain ⟨v2, vs2, d2, ds2, p2, q2, rfl, rfl, rfl, h2, r2⟩ := trodAll_cons r1
  obtain ⟨rfl, rfl, rfl⟩ := trodAll_nil r2
  obtain rfl : args = #[v0, v1, v2] := by cases args; simp_all
  obtain ⟨rfl, rfl⟩ := trodVars_none hV
  obtain ⟨A0, len0, cap0, K0, N0, S0, rfl, hlc0, hm0, hrow0⟩ := arg_items (hval 0 22 v0 rfl rfl) h0 (fun x hx => hW'.lt x (by simp [hx]))
  obtain ⟨A1, len1, cap1, L1, rfl, hlc1, hm1, hbl1⟩ := arg_bytes (hval 1 24 v1 rfl rfl) h1 (fun x hx => hW'.lt x (by simp [hx]))
  obtain ⟨a2, rfl, rfl, rfl, w2⟩ := open_int Try.underlying3 (hval 2 3 v2 rfl rfl) h2
  have fin : ∀ W', Below W.heap.size W W' → Rows.octetsNilSpec.post enc Try.prog Try.f7 false true false false W #[.slice A0 len0 cap0, .slice A1 len1 cap1, .int .i64 a2] (.bool true) W' :=
    fun W' hb => law_end (by kernel_rfl) (by decide +kernel) rfl rfl Try.underlying4 hW' rfl rfl rfl hb
  exact (walk A0 len0 cap0 K0 N0 S0 A1 len1 cap1 L1 a2 W hrow0 hlc0 hm0 ⟨hbl1.1, hlc1, hbl1.2⟩ hm1 w2).mono fun e W' ⟨he, hb⟩ => ⟨_, he, fin W' hb⟩

theorem over : Rows.octetsNilRow.holds Try.pinned (OpenSpec.ofChange Rows.octetsNilSpec) :=
  OpenClaim.holds_of_wide 7 Try.f7 rfl rfl rfl rfl rfl rfl rfl ⟨rfl, rfl, rfl, rfl, rfl⟩ rfl rfl rfl rfl rfl (by kernel_rfl) Try.func7 (by kernel_rfl)
    (of_decide_eq_true (by kernel_rfl)) (by unfold Func.isWrapper; first | (rw [if_pos (by decide +kernel)]; kernel_rfl) | (rw [if_neg (by decide +kernel)]; exact ⟨rfl, rfl⟩))
    (fun os started H enc _ => lifted os started H enc)

theorem proved : Rows.OctetsNilSaid := over


end Go.Proofs.Ytjmcbnoofonanaa.octetsNil
