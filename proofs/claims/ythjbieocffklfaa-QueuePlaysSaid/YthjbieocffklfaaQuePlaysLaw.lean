/- QueuePlays: what was put in and not refused comes out, in order, once; so many wait at most. For every input. -/
import Derived.Test.YthjbieocffklfaaQueAwake
import Derived.Test.YthjbieocffklfaaLawEnd
import Derived.Test.YthjbieocffklfaaArgs
import Derived.Test.YthjbieocffklfaaQueRows
import Derived.ChangeMaps5
import Derived.Deep.LoopGhost
import Derived.BigQuiet
namespace Go.Proofs.Ythjbieocffklfaa.queuePlays
open Go.ChangeShapes Go.WideShapes Go.ChangeAt Go.RowKit Go.Proofs.Ythjbieocffklfaa
set_option linter.unusedVariables false

def Acts (w : World) (A : Option Addr) (len : Nat) (G : Nat → Bool) (S : Nat → ByteArray) : Prop :=
  0 < len → ∃ b off, A = some ⟨b, off, none⟩ ∧ b < w.heap.size ∧ ∀ j, j < len → w.cell? ⟨b, off + j * 2, none⟩ = some (.bool (G j)) ∧ w.cell? ⟨b, off + j * 2 + 1, none⟩ = some (.string (S j))

theorem arg_acts {H : Type} {enc : TypeId × Value → H} {W : World} {sp : Nat → Bool} {hd : Bool} {base : Nat} {v : Value} {d : DataW H} {p : List MemPlace}
    (hok : Value.okWide Try.prog W .any base 22 v) (h : DataW.Trod enc Try.prog W 0 sp hd 22 v d p) (hlt : ∀ x ∈ p, x.block < W.heap.size) :
    ∃ (A : Option Addr) (len cap : Nat) (G : Nat → Bool) (S : Nat → ByteArray), v = .slice A len cap ∧ len ≤ cap ∧ cap ≤ maxLen ∧ Acts W A len G S := by
  obtain ⟨A, len, cap, n, Cs, D, rfl, hl, hm, _, hrow, hel⟩ := arg_slice Try.underlying22 (show Try.prog.cellsOf 30 = 2 by kernel_rfl) (by omega) hok h hlt
  obtain ⟨R, hR⟩ := Classical.axiomOfChoice (r := fun j (r : Bool × ByteArray) => j < len → Cs j = [.bool r.1, .string r.2]) (fun j => by
    by_cases hj : j < len
    · obtain ⟨hlen, pl, hd⟩ := hel j hj
      obtain ⟨m, hf⟩ := arg_fields Try.underlying30 (by kernel_rfl) (by rw [hlen]; rfl) hd
      obtain ⟨v0, y0, g0, t0⟩ := hf 0 _ rfl
      obtain ⟨v1, y1, g1, t1⟩ := hf 1 _ rfl
      obtain ⟨b, e0, _⟩ := DataW.trod_bool Try.underlying4 t0
      obtain ⟨s, e1, _, hs⟩ := DataW.trod_string Try.underlying9 t1
      refine ⟨⟨b, s⟩, fun _ => ?_⟩
      have e0' : v0 = .bool b := by injection e0
      have e1' : v1 = .string s := by injection e1
      subst e0' e1'
      match Cs j, hlen, g0, g1 with
      | [a, b'], _, g0, g1 =>
        injection g0 with g0; injection g1 with g1
        subst g0 g1
        rfl
    · exact ⟨⟨false, ByteArray.empty⟩, fun h => absurd h hj⟩)
  refine ⟨A, len, cap, fun j => (R j).1, fun j => (R j).2, rfl, hl, hm, fun hpos => ?_⟩
  obtain ⟨b, off, hA, hb, hc⟩ := hrow hpos
  refine ⟨b, off, hA, hb, fun j hj => ⟨?_, ?_⟩⟩
  · have := hc j hj 0 (.bool (R j).1) (by rw [hR j hj]; rfl)
    rwa [Nat.add_zero] at this
  · exact hc j hj 1 (.string (R j).2) (by rw [hR j hj]; rfl)

set_option maxRecDepth 100000 in
set_option maxHeartbeats 6400000 in
theorem walk (m : Int) (A : Option Addr) (len cap : Nat) (G : Nat → Bool) (S : Nat → ByteArray) (w : World) (h1 : Acts w A len G S) (hlc : len ≤ cap) (hm : cap ≤ maxLen) :
    Calls Try.prog 3 #[.int .i64 m, .slice A len cap] w fun e w' => e = .returned (.bool true) ∧ Below w.heap.size w w' := by
  by_cases hl : len ≤ 300
  · have hl' : ¬ ((300 : Int) < (len : Int)) := by omega
    have hl2 : (len : Int) ≤ 300 := by omega
    clear hm
    by_cases hbad : m < 1 ∨ 64 < m
    · have hN := QueS.new_bad m hbad
      rcases hbad with hbad | hbad
      · clear h1
        go_enter Try.func3, Try.ntmps3
        go_wp2_with (first
          | (go_at_call 7; refine (QueS.awake_any _).mono ?_; rintro e w1 ⟨rfl, hb1⟩)
          | (go_at_call 8; refine (hN _).mono ?_; rintro e w2 ⟨rfl, rfl⟩))
        go_ret
        exact ⟨rfl, hb1⟩
      · have hbad2 : ¬ m < 1 := by omega
        clear h1
        go_enter Try.func3, Try.ntmps3
        go_wp2_with (first
          | (go_at_call 7; refine (QueS.awake_any _).mono ?_; rintro e w1 ⟨rfl, hb1⟩)
          | (go_at_call 8; refine (hN _).mono ?_; rintro e w2 ⟨rfl, rfl⟩))
        go_ret
        exact ⟨rfl, hb1⟩
    · obtain ⟨n, rfl⟩ := Int.eq_ofNat_of_zero_le (show 0 ≤ m by omega)
      have hn1 : 1 ≤ n := by omega
      have hn2 : n ≤ 64 := by omega
      have hm1 : ¬ ((n : Int) < 1) := by omega
      have hm2 : ¬ ((64 : Int) < (n : Int)) := by omega
      have hN := QueS.new_good n hn1 hn2
      clear hbad
      go_enter Try.func3, Try.ntmps3
      go_wp2_with (first
        | (go_at_call 7; refine (QueS.awake_any _).mono ?_; rintro e w1 ⟨rfl, hb1⟩)
        | (go_at_call 8; refine (hN _).mono ?_; rintro e w2 ⟨q, c, rfl, hq2, hb2⟩; have hc1 : w1.heap.size ≤ c := Nat.le_of_not_lt hq2.nc; have hb := hb1.trans (hb2.mono hb1.size); have hc0 : w.heap.size ≤ c := Nat.le_trans hb1.size hc1))
      go_loopg [7, 39] len (fun g s x wr => ∃ (j : Nat) (l : List ByteArray), x = .int .i64 (j : Int) ∧ j + g = len ∧ Slip 9 wr w.heap.size s l ∧ QueS.Q wr q c n l (fun k => s.ownBlock = some k) ∧ Below w.heap.size w wr)
      case atStart => exact ⟨0, [], rfl, by omega, Slip.nil _ _ _, hq2.out _ (fun k hk => by simp [Value.ownBlock] at hk), hb⟩
      case round =>
        clear hq2 hb hb2 hb1 hN
        obtain ⟨j, l, rfl, hj, hsl, hq, hb⟩ := hrel
        have hfit := hq.fits
        have hZ : ∀ k, u7.ownBlock = some k → k < wr.heap.size := fun k e => (hsl.1 k e).2
        have hcZ : ∀ k, u7.ownBlock = some k → some k ≠ some c := fun k e ek => hq.nc (by injection ek with ek; subst ek; exact e)
        by_cases hlt : j < len
        · have hlt' : (j : Int) < (len : Int) := by omega
          have jb : (j : Int) ≤ 300 := by omega
          obtain ⟨b, off, rfl, hbl, hc⟩ := h1 (by omega)
          obtain ⟨c0, c1⟩ := hc j hlt
          have d0 : wr.cell? ⟨b, off + j * 2, none⟩ = some (.bool (G j)) := (hb.cell hbl).trans c0
          have d1 : wr.cell? ⟨b, off + j * 2 + 1, none⟩ = some (.string (S j)) := (hb.cell (p := ⟨b, off + j * 2 + 1, none⟩) hbl).trans c1
          cases hG : G j with
          | true =>
            rw [hG] at d0
            clear h1 hc c0 c1 d1 hG
            cases l with
            | nil =>
              obtain ⟨ao, cp, rfl⟩ := hsl.shape
              have hT := QueS.take_none wr q c n _ hq
              go_wp2_with (go_at_call 9; refine hT.mono ?_; rintro e w3 ⟨rfl, rfl⟩)
              go_roundg (gk - 1)
              case measure => omega
              case rel => exact ⟨j + 1, [], by go_num, by omega, hsl, hq, hb⟩
            | cons x l =>
              have hT := QueS.take_some x wr q c n l _ hq
              obtain ⟨g, o2, cp, rfl, hcp, f0, hsl2⟩ := hsl.first
              simp only [List.length_cons] at hfit
              have lb : (l.length : Int) ≤ 64 := by omega
              have hgc : some g ≠ some c := hcZ g rfl
              by_cases hc1 : cp = 1
              · subst hc1
                rw [if_pos rfl] at hsl2
                obtain rfl : l = [] := List.eq_nil_of_length_eq_zero (by omega)
                go_wp2_with (go_at_call 9; refine hT.mono ?_; rintro e w3 ⟨rfl, hq3, hg3⟩; have f1 : w3.cell? ⟨g, o2, none⟩ = some (.string x) := hg3.cell f0 hgc)
                go_roundg (gk - 1)
                case measure => omega
                case rel => exact ⟨j + 1, [], by go_num, by omega, hsl2.grown hg3 hcZ, hq3, hb.grown hg3 hb.size (fun k e => by injection e with e; omega)⟩
              · rw [if_neg hc1] at hsl2
                go_wp2_with (go_at_call 9; refine hT.mono ?_; rintro e w3 ⟨rfl, hq3, hg3⟩; have f1 : w3.cell? ⟨g, o2, none⟩ = some (.string x) := hg3.cell f0 hgc)
                go_roundg (gk - 1)
                case measure => omega
                case rel => exact ⟨j + 1, l, by go_num, by omega, hsl2.grown hg3 hcZ, hq3, hb.grown hg3 hb.size (fun k e => by injection e with e; omega)⟩
          | false =>
            rw [hG] at d0
            obtain ⟨ao, cp, rfl⟩ := hsl.shape
            generalize S j = x at *
            have lb : (l.length : Int) ≤ 64 := by omega
            by_cases hfull : n ≤ l.length
            · have hfull' : (n : Int) ≤ (l.length : Int) := by omega
              have hP := QueS.put_full x wr q c n l _ hq hfull
              have hLen := fun w h => QueS.len_any w q c n l (fun k => (Value.slice ao l.length cp).ownBlock = some k) h
              clear h1 hc c0 c1 hG
              go_wp2_with (first
                | (go_at_call 10; refine hP.mono ?_; rintro e w3 ⟨rfl, hb3⟩)
                | (go_at_call 11; refine (hLen _ (hq.below hb3)).mono ?_; rintro e w4 ⟨rfl, rfl⟩))
              go_roundg (gk - 1)
              case measure => omega
              case rel => exact ⟨j + 1, l, by go_num, by omega, hsl.grown (grown_below (row := none) hb3) (fun k e => by simp), hq.below hb3, hb.trans (hb3.mono hb.size)⟩
            · have hroom : ¬ (n : Int) ≤ (l.length : Int) := by omega
              have hroom' : (l.length : Int) < (n : Int) := by omega
              have hP := QueS.put_room x wr q c n l _ hq (by omega) hZ
              have hLen := fun w Z h => QueS.len_any w q c n (l ++ [x]) Z h
              have d1' : ∀ w3, wr.grownBy w3 (some c) → w3.cell? ⟨b, off + j * 2 + 1, none⟩ = some (.string x) := fun w3 hg3 => hg3.cell d1 (fun e => by injection e with e; have e' : b = c := e; omega)
              obtain ⟨i0, hi0, hz0, hz1, hz2⟩ := info_parts QueS.info_el
              rw [List.length_append, List.length_singleton] at hLen
              clear h1 hc c0 c1 hG
              go_wp2_with (first
                | (go_at_call 10; refine hP.mono ?_; rintro e w3 ⟨rfl, hq3, hg3⟩; have hsl3 := hsl.grown hg3 hcZ; have d2 := d1' _ hg3; have hb3 := hb.grown hg3 hb.size (fun k e => by injection e with e; omega))
                | (at_builtin; refine wpList_append_slip _ rfl _ _ 28 rfl w.heap.size 9 i0 _ 16 Try.underlying28 hi0 hz0 hz1 hz2 rfl (.slice ao l.length cp) l rfl (hsl3.alloc _) ⟨w3.heap.size, 0, none⟩ x rfl (by simp [go_sem]) (by unfold maxLen; omega) (by omega) (Nat.le_trans hb3.size (by simp)) ?_))
              intro g o3 cp3 w4 hsl4 hg4 hor
              have hq3b := (hq3.alloc (.cells #[.string x] 9)).out (fun k => (Value.slice ao l.length cp).ownBlock = some k ∨ (w3.alloc (.cells #[.string x] 9)).heap.size ≤ k) (fun k hk => hk)
              have hq4 := (hq3b.grown hg4 (fun k e => .inl e)).out (fun k => (Value.slice (some ⟨g, o3, none⟩) (l.length + 1) cp3).ownBlock = some k) (fun k e => .inl (by
                injection e with e
                have e' : g = k := e
                subst e'
                rw [World.size_alloc]
                exact hor))
              have hb4 : Below w.heap.size w w4 := (hb3.alloc hb3.size _).grown hg4 (Nat.le_trans hb3.size (by simp)) (fun k e => (hsl.1 k e).1)
              clear hq3b hP d1' hsl hsl3 hq hq3 hcZ hZ hg4 hg3 hor
              go_wp2_with (go_at_call 11; refine (hLen _ _ hq4).mono ?_; rintro e w7 ⟨rfl, rfl⟩)
              go_roundg (gk - 1)
              case measure => omega
              case rel => exact ⟨j + 1, l ++ [x], by go_num, by omega, hsl4, hq4, hb4⟩
        · obtain rfl : j = len := by omega
          have hdec : decide ((j : Int) < (j : Int)) = false := decide_eq_false (by omega)
          have hLen := QueS.len_any _ q c n l _ hq
          obtain ⟨ao, cp, rfl⟩ := hsl.shape
          clear h1
          go_wp2_with (go_at_call 11; refine hLen.mono ?_; rintro e w7 ⟨rfl, rfl⟩)
          go_ret
          exact ⟨rfl, hb⟩
  · have hl' : ((300 : Int) < (len : Int)) := by omega
    go_enter Try.func3, Try.ntmps3
    go_wp2_with fail
    refine (QueS.awake_any _).mono ?_
    rintro e w1 ⟨rfl, hb1⟩
    go_wp2_with fail
    refine (QueS.awake_any _).mono ?_
    rintro e w2 ⟨rfl, hb2⟩
    go_wp2
    go_ret
    exact ⟨rfl, hb1.trans (hb2.mono hb1.size)⟩

theorem own : ownKnob Try.prog.godebug = none := by kernel_rfl

set_option maxRecDepth 100000 in
theorem lifted (os : Os) (started : os.Started) (H : Type) (enc : TypeId × Value → H) :
    ReturnsInHanded {} Try.checked os 3 .any (Rows.queuePlaysSpec.pre6 enc Try.prog Try.f3 Rows.queuePlaysRow.domain false) (Rows.queuePlaysSpec.post enc Try.prog Try.f3 false true false false) := by
  refine returnsInHanded_of_change (C := Try.checked) own started (by kernel_rfl) Try.func3
    (ChangeSpec.witness6 (enc := enc) (C := Try.checked) false ⟨#[], #[.int .i64 0, .slice none 0 0], []⟩ 8 (by kernel_rfl) (by kernel_rfl) (by kernel_rfl) (by kernel_rfl)) ?_
  intro W base args ds gs before hval0 hW hcnd _
  have hval : ∀ (j : Nat) t v, Try.f3.params[j]? = some t → args[j]? = some v → Value.okWide Try.prog W .any base t v := hval0
  have hW' := hW
  obtain ⟨p, q, hA0, hV, rfl, hfz, hnd⟩ := hW
  have hA : DataW.TrodAll enc Try.prog W 0 (fun _ => true) true Try.f3.params.toList args.toList ds p := hA0
  rw [Try.params3] at hA hval
  obtain ⟨v0, vs0, d0, ds0, p0, q0, hargs, rfl, rfl, h0, r0⟩ := trodAll_cons hA
  obtain ⟨v1, vs1, d1, ds1, p1, q1, rfl, rfl, rfl, h1, r1⟩ := trodAll_cons r0
  obtain ⟨rfl, rfl, rfl⟩ := trodAll_nil r1
  obtain rfl : args = #[v0, v1] := by cases args; simp_all
  obtain ⟨rfl, rfl⟩ := trodVars_none hV
  obtain ⟨a0, rfl, rfl, rfl, w0⟩ := open_int Try.underlying3 (hval 0 3 v0 rfl rfl) h0
  obtain ⟨A1, len1, cap1, G1, S1, rfl, hlc1, hm1, hrow1⟩ := arg_acts (hval 1 22 v1 rfl rfl) h1 (fun x hx => hW'.lt x (by simp [hx]))
  have fin : ∀ W', Below W.heap.size W W' → Rows.queuePlaysSpec.post enc Try.prog Try.f3 false true false false W #[.int .i64 a0, .slice A1 len1 cap1] (.bool true) W' :=
    fun W' hb => law_end (by kernel_rfl) (by decide +kernel) rfl rfl Try.underlying4 hW' rfl rfl rfl hb
  exact (walk a0 A1 len1 cap1 G1 S1 W hrow1 hlc1 hm1).mono fun e W' ⟨he, hb⟩ => ⟨_, he, fin W' hb⟩

theorem over : Rows.queuePlaysRow.holds Try.pinned (OpenSpec.ofChange Rows.queuePlaysSpec) :=
  OpenClaim.holds_of_wide 3 Try.f3 rfl rfl rfl rfl rfl rfl rfl ⟨rfl, rfl, rfl, rfl, rfl⟩ rfl rfl rfl rfl rfl (by kernel_rfl) Try.func3 (by kernel_rfl)
    (of_decide_eq_true (by kernel_rfl)) (by unfold Func.isWrapper; first | (rw [if_pos (by decide +kernel)]; kernel_rfl) | (rw [if_neg (by decide +kernel)]; exact ⟨rfl, rfl⟩))
    (fun os started H enc _ => lifted os started H enc)

theorem proved : Rows.QueuePlaysSaid := over


end Go.Proofs.Ythjbieocffklfaa.queuePlays
