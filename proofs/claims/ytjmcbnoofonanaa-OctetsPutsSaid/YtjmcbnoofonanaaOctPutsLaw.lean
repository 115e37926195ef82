/- OctetsPuts: what is put has the bytes that the document says, one thing behind the other; more than there may be are refused. For every input. -/
import Derived.Test.YtjmcbnoofonanaaOctAwake
import Derived.Test.YtjmcbnoofonanaaOctArgs
import Derived.Test.YtjmcbnoofonanaaLawEnd
import Derived.Test.YtjmcbnoofonanaaArgs
import Derived.ChangeMaps5
import Derived.Deep.LoopGhost
import Derived.BigQuiet
namespace Go.Proofs.Ytjmcbnoofonanaa.octetsPuts
open Go.ChangeShapes Go.WideShapes Go.ChangeAt Go.RowKit Go.Proofs.Ytjmcbnoofonanaa
set_option linter.unusedVariables false
set_option linter.unusedSimpArgs false

theorem itemOf_len (k n : Int) (s : ByteArray) (h : s.size ≤ 40000) : (itemOf k n s).length ≤ 40004 := by
  unfold itemOf
  split
  · simp
  · split
    · simp
    · split
      · simp
      · split
        · simp
        · simp [textOf]; omega

set_option maxRecDepth 100000 in
set_option maxHeartbeats 6400000 in
theorem walk (A : Option Addr) (len cap : Nat) (K N : Nat → Int) (S : Nat → ByteArray) (w : World) (h1 : Items w A len K N S) (hlc : len ≤ cap) (hm : cap ≤ maxLen) :
    Calls Try.prog 3 #[.slice A len cap] w fun e w' => e = .returned (.bool true) ∧ Below w.heap.size w w' := by
  clear hm
  by_cases hl : len ≤ 200
  · have hl' : ¬ ((200 : Int) < (len : Int)) := by omega
    have lb : (len : Int) ≤ 200 := by omega
    obtain ⟨i0, hi0, hz0, hz1, hz2⟩ := info_parts info_u8
    obtain ⟨hwf, h1⟩ := h1
    go_enter Try.func3, Try.ntmps3
    go_wp2_with (go_at_call 8; refine (awake_any _).mono ?_; rintro e w1 ⟨rfl, hb1⟩)
    have ho0 := out_new w1 (· < w.heap.size) (fun k hk => Nat.lt_of_lt_of_le hk hb1.size)
    have hb2 := hb1.alloc hb1.size (.cells #[.slice none 0 0, .bool false] 26)
    generalize hW : w1.alloc (.cells #[.slice none 0 0, .bool false] 26) = W at ho0 hb2 ⊢
    have hs1 := hb1.size
    generalize w1.heap.size = o at ho0 hs1 ⊢
    clear hW hb1
    go_loopg [4, 18] len (fun g s x wr => ∃ (j : Nat) (B : Option Addr) (bc : Nat) (L : List UInt8), x = .int .i64 (j : Int) ∧ j + g = len ∧ s = .slice B L.length bc ∧ Owns 5 wr w.heap.size (.slice B L.length bc) L ∧ Out wr o L (fun k => k < w.heap.size ∨ (Value.slice B L.length bc).ownBlock = some k) ∧ Below w.heap.size w wr)
    case atStart => exact ⟨0, none, 0, [], rfl, by omega, rfl, Owns.nil _ _ _, ho0.out (fun k hk => hk.elim .inl (fun e => by cases e)), hb2⟩
    case round =>
      clear ho0 hb2
      obtain ⟨j, B, bc, L, rfl, hj, rfl, how, ho, hb⟩ := hrel
      have hlL : Lies wr B L.length bc L := by
        obtain ⟨A1, cap1, e, hl, _⟩ := lies_of_owns how
        injection e with e1 e2 e3
        subst e1 e3
        exact hl
      by_cases hlt : j < len
      · have hlt' : (j : Int) < (len : Int) := by omega
        obtain ⟨b, off, rfl, hbl, hc⟩ := h1 (by omega)
        obtain ⟨c0, c1, c2⟩ := hc j hlt
        obtain ⟨hsz, _⟩ := hwf j hlt
        have f0 : wr.cell? ⟨b, off + j * 3, none⟩ = some (.int .u8 (K j)) := (hb.cell (p := ⟨b, off + j * 3, none⟩) hbl).trans c0
        have f1 : wr.cell? ⟨b, off + j * 3 + 1, none⟩ = some (.int .i64 (N j)) := (hb.cell (p := ⟨b, off + j * 3 + 1, none⟩) hbl).trans c1
        have f2 : wr.cell? ⟨b, off + j * 3 + 2, none⟩ = some (.string (S j)) := (hb.cell (p := ⟨b, off + j * 3 + 2, none⟩) hbl).trans c2
        clear h1 hc c0 c1 c2 hwf
        generalize K j = kk at *
        generalize N j = nn at *
        generalize S j = ss at *
        by_cases hbig : 40000 < ss.size
        · have hbig' : (40000 : Int) < (ss.size : Int) := by omega
          clear ho how hlL
          go_wp2
          go_ret
          exact ⟨rfl, hb⟩
        · have hbig' : ¬ ((40000 : Int) < (ss.size : Int)) := by omega
          by_cases hlong : 100000 < L.length
          · have hlong' : (100000 : Int) < (L.length : Int) := by omega
            clear ho how hlL
            go_wp2
            go_ret
            exact ⟨rfl, hb⟩
          · have hlong' : ¬ ((100000 : Int) < (L.length : Int)) := by omega
            have hP := put_any kk nn ss (by omega) wr o L _ ho (fun k hk => hk.elim (fun h => Nat.lt_of_lt_of_le h hb.size) (fun e => (how.lt k e).2))
            have hR := fun w => putR_any kk nn ss (by omega) w
            have hil := itemOf_len kk nn ss (by omega)
            clear ho
            go_wp2_with (first
              | (go_at_call 9; refine hP.mono ?_; rintro e w3 ⟨rfl, ho3, k3⟩
                 have hb3 := below_keeps hb k3 (fun i hi => .inl hi) hb.size
                 have how3 := how.keep (w' := w3) fun g e => k3.block g (how.lt g e).2 (.inr e)
                 have g0 := (hb3.cell (p := ⟨b, off + j * 3, none⟩) hbl).trans ((hb.cell (p := ⟨b, off + j * 3, none⟩) hbl).symm.trans f0)
                 have g1 := (hb3.cell (p := ⟨b, off + j * 3 + 1, none⟩) hbl).trans ((hb.cell (p := ⟨b, off + j * 3 + 1, none⟩) hbl).symm.trans f1)
                 have g2 := (hb3.cell (p := ⟨b, off + j * 3 + 2, none⟩) hbl).trans ((hb.cell (p := ⟨b, off + j * 3 + 2, none⟩) hbl).symm.trans f2))
              | (go_at_call 10; refine (hR _).mono ?_; rintro e w4 ⟨A4, len4, cap4, rfl, hl4, hb4⟩; have how4 := how3.keep (w' := w4) fun g e => hb4.block g (how3.lt g e).2)
              | (at_builtin; refine wpList_append_bytes _ rfl _ _ 24 rfl 5 i0 Try.underlying24 hi0 hz0 hz1 hz2 w.heap.size (Nat.le_trans hb3.size hb4.size) (.slice B L.length bc) L rfl how4 A4 len4 cap4 (itemOf kk nn ss) rfl hl4 (by simp; omega) ?_))
            intro v5 w5 hr hg hbb
            have hr : Owns 5 w5 w.heap.size v5 (L ++ itemOf kk nn ss) := by simpa using hr
            have ho4 := (ho3.below hb4 (Nat.le_refl _)).out (Z' := fun k => (k < w.heap.size ∨ (Value.slice B L.length bc).ownBlock = some k) ∨ w4.heap.size ≤ k) (fun k hk => hk)
            have ho5 := (ho4.grown hg (fun k e => .inl (.inr e))).out (Z' := fun k => k < w.heap.size ∨ v5.ownBlock = some k) (fun k hk => .inl (by
              rcases hk with hk | hk
              · exact .inl (.inl hk)
              · rcases hbb with h | h
                · exact .inl (.inr (h ▸ hk))
                · rw [h] at hk; injection hk with hk; exact .inr (Nat.le_of_eq hk)))
            have hb5 : Below w.heap.size w w5 := (hb3.trans (hb4.mono hb3.size)).grown hg (Nat.le_trans hb3.size hb4.size) (fun k e => (how.lt k e).1)
            obtain ⟨A5, cap5, rfl, _⟩ := lies_of_owns hr
            clear how how3 how4 ho3 ho4 hP hR hl4 hlL hbb hg hb4 k3 hb3 g0 g1 g2 f0 f1 f2
            go_wp2
            go_roundg (gk - 1)
            case measure => omega
            case rel => exact ⟨j + 1, A5, cap5, L ++ itemOf kk nn ss, by go_num, by omega, rfl, hr, ho5, hb5⟩
      · obtain rfl : j = len := by omega
        have hdec : decide ((j : Int) < (j : Int)) = false := decide_eq_false (by omega)
        clear h1 hwf
        have ht := hlL.text Try.underlying24 Try.underlying5 Try.underlying9
        by_cases hlong : 60000 < L.length
        · have hlong' : (60000 : Int) < (L.length : Int) := by omega
          have hE := end_long _ _ _ _ ho hlong
          clear ho how hlL ht
          go_wp2_with (go_at_call 11; refine hE.mono ?_; rintro e w3 ⟨rfl, rfl⟩)
          go_ret
          exact ⟨rfl, hb⟩
        · have hlong' : ¬ ((60000 : Int) < (L.length : Int)) := by omega
          have hE := end_fits _ _ _ _ ho (by omega)
          clear ho
          go_wp2_with (go_at_call 11; refine hE.mono ?_; rintro e w3 ⟨A3, cap3, rfl, hl3, _, hb3⟩; have ht3 := hl3.text Try.underlying24 Try.underlying5 Try.underlying9; have ht4 := (hlL.below hb3 (Nat.le_refl _)).text Try.underlying24 Try.underlying5 Try.underlying9)
          go_ret
          exact ⟨rfl, hb.trans (hb3.mono hb.size)⟩
  · have hl' : ((200 : Int) < (len : Int)) := by omega
    go_enter Try.func3, Try.ntmps3
    go_wp2_with fail
    refine (awake_any _).mono ?_
    rintro e w1 ⟨rfl, hb1⟩
    go_wp2_with fail
    refine (awake_any _).mono ?_
    rintro e w2 ⟨rfl, hb2⟩
    go_wp2
    go_ret
    exact ⟨rfl, hb1.trans (hb2.mono hb1.size)⟩

theorem own : ownKnob Try.prog.godebug = none := by kernel_rfl

set_option maxRecDepth 100000 in
theorem lifted (os : Os) (started : os.Started) (H : Type) (enc : TypeId × Value → H) :
    ReturnsInHanded {} Try.checked os 3 .any (Rows.octetsPutsSpec.pre6 enc Try.prog Try.f3 Rows.octetsPutsRow.domain false) (Rows.octetsPutsSpec.post enc Try.prog Try.f3 false true false false) := by
  refine returnsInHanded_of_change (C := Try.checked) own started (by kernel_rfl) Try.func3
    (ChangeSpec.witness6 (enc := enc) (C := Try.checked) false ⟨#[], #[.slice none 0 0], []⟩ 8 (by kernel_rfl) (by kernel_rfl) (by kernel_rfl) (by kernel_rfl)) ?_
  intro W base args ds gs before hval0 hW hcnd _
  have hval : ∀ (j : Nat) t v, Try.f3.params[j]? = some t → args[j]? = some v → Value.okWide Try.prog W .any base t v := hval0
  have hW' := hW
  obtain ⟨p, q, hA0, hV, rfl, hfz, hnd⟩ := hW
  have hA : DataW.TrodAll enc Try.prog W 0 (fun _ => true) true Try.f3.params.toList args.toList ds p := hA0
  rw [Try.params3] at hA hval
  obtain ⟨v0, vs0, d0, ds0, p0, q0, hargs, rfl, rfl, h0, r0⟩ := trodAll_cons hA
  obtain ⟨rfl, rfl, rfl⟩ := trodAll_nil r0
  obtain rfl : args = #[v0] := by cases args; simp_all
  obtain ⟨rfl, rfl⟩ := trodVars_none hV
  obtain ⟨A0, len0, cap0, K0, N0, S0, rfl, hlc0, hm0, hrow0⟩ := arg_items (hval 0 22 v0 rfl rfl) h0 (fun x hx => hW'.lt x (by simp [hx]))
  have fin : ∀ W', Below W.heap.size W W' → Rows.octetsPutsSpec.post enc Try.prog Try.f3 false true false false W #[.slice A0 len0 cap0] (.bool true) W' :=
    fun W' hb => law_end (by kernel_rfl) (by decide +kernel) rfl rfl Try.underlying4 hW' rfl rfl rfl hb
  exact (walk A0 len0 cap0 K0 N0 S0 W hrow0 hlc0 hm0).mono fun e W' ⟨he, hb⟩ => ⟨_, he, fin W' hb⟩

theorem over : Rows.octetsPutsRow.holds Try.pinned (OpenSpec.ofChange Rows.octetsPutsSpec) :=
  OpenClaim.holds_of_wide 3 Try.f3 rfl rfl rfl rfl rfl rfl rfl ⟨rfl, rfl, rfl, rfl, rfl⟩ rfl rfl rfl rfl rfl (by kernel_rfl) Try.func3 (by kernel_rfl)
    (of_decide_eq_true (by kernel_rfl)) (by unfold Func.isWrapper; first | (rw [if_pos (by decide +kernel)]; kernel_rfl) | (rw [if_neg (by decide +kernel)]; exact ⟨rfl, rfl⟩))
    (fun os started H enc _ => lifted os started H enc)

theorem proved : Rows.OctetsPutsSaid := over


end Go.Proofs.Ytjmcbnoofonanaa.octetsPuts
