/- VaultNil's walk. -/
import Derived.Test.YtmeoooojmhhahaaGreatVauP5
namespace Go.Proofs.YtmeoooojmhhahaaGreat.vauNil
open Go.ChangeShapes Go.WideShapes Go.ChangeAt Go.RowKit Go.Proofs.YtmeoooojmhhahaaGreat
set_option linter.unusedVariables false
set_option linter.unusedSimpArgs false

theorem used0 : usedF (⟨1048576, [], false, 0, false⟩ : Dsk).l = 0 := rfl

theorem used_pos {D : Dsk} {φ : Option Nat} {was : Hd} {s : Ent} {l : List Ent} {U : Nat} {x : View} {ls : List (List UInt8)} (k : Kept D φ was s l U x ls) (h0 : s.i ≠ 0) : 0 < usedF D.l := by
  have h1 := file_used k.dv nSnap
  rcases k.snap with ⟨rfl, _⟩ | ⟨_, _, e⟩
  · exact absurd rfl h0
  · rw [e] at h1
    dsimp only at h1
    rw [frameL_length] at h1
    omega

set_option maxRecDepth 100000 in
set_option maxHeartbeats 3200000 in
theorem walk_no (h : Hd) (s : Ent) (B : Option Addr) (c : Nat) (A : Option Addr) (len cap : Nat) (l : List Ent) (W : World) (hl : Lies W B s.d.length c s.d) (hE : Ents W (· < W.heap.size) A len cap l) (hm : len ≤ maxLen) (hd : ∀ e ∈ l, e.d.length ≤ 140737488355328) (hno : fewE l 10 = false ∨ (fewE l 10 = true ∧ 2000 < s.d.length)) :
    Calls Tryz.prog 6 #[.agg #[.int .i64 h.t, .int .i64 h.v], entV s.i s.t B s.d.length c, .slice A len cap] W fun e w' => e = .returned (.bool true) ∧ Below W.heap.size W w' := by
  have hb0 : Below W.heap.size W ((W.alloc (.cells #[.int .i64 h.t, .int .i64 h.v] 32)).alloc (.cells #[.int .i64 s.i, .int .i64 s.t, .slice B s.d.length c] 35)) := ((Below.refl _ _).alloc (Nat.le_refl _) _).alloc (by simp) _
  have m1 : ((W.alloc (.cells #[.int .i64 h.t, .int .i64 h.v] 32)).alloc (.cells #[.int .i64 s.i, .int .i64 s.t, .slice B s.d.length c] 35)).heap[W.heap.size + 1]? = some (.cells #[.int .i64 s.i, .int .i64 s.t, .slice B s.d.length c] 35) := heap_alloc2_new _ _ _
  have hF := fun w1 (hb : Below W.heap.size W w1) => fewR_any _ A len cap l 10 w1 (hE.below hb (Nat.le_refl _)) hm (by omega) hd
  clear hl hE hm hd
  rcases hno with h1 | ⟨h1, h2⟩
  · rw [h1] at hF
    go_enter Tryz.func6, Tryz.ntmps6
    go_wp2_with fail
    refine (awake10_any _).mono ?_
    rintro e w1 ⟨rfl, hb1⟩
    have hbw := hb0.trans (hb1.mono hb0.size)
    have hF1 := hF w1 hbw
    go_wp2_with fail
    refine hF1.mono ?_
    rintro e w2 ⟨rfl, rfl⟩
    go_wp2_with fail
    refine (awake10_any _).mono ?_
    rintro e w3 ⟨rfl, hb3⟩
    go_wp2
    go_ret
    exact ⟨rfl, hbw.trans (hb3.mono hbw.size)⟩
  · rw [h1] at hF
    have hc : ((2000 : Int) < (s.d.length : Int)) = True := eq_true (by omega)
    clear h2
    go_enter Tryz.func6, Tryz.ntmps6
    go_wp2_with fail
    refine (awake10_any _).mono ?_
    rintro e w1 ⟨rfl, hb1⟩
    have hbw := hb0.trans (hb1.mono hb0.size)
    have hF1 := hF w1 hbw
    obtain ⟨⟨y0, y1, y2⟩, _⟩ := row3 ((hb1.block _ (hlt m1)).trans m1)
    go_wp2_with fail
    refine hF1.mono ?_
    rintro e w2 ⟨rfl, rfl⟩
    go_wp2_with fail
    refine (awake10_any _).mono ?_
    rintro e w3 ⟨rfl, hb3⟩
    go_wp2
    go_ret
    exact ⟨rfl, hbw.trans (hb3.mono hbw.size)⟩

set_option maxRecDepth 100000 in
set_option maxHeartbeats 6400000 in
theorem walk_yes (h : Hd) (s : Ent) (B : Option Addr) (c : Nat) (A : Option Addr) (len cap : Nat) (l : List Ent) (W : World) (hl : Lies W B s.d.length c s.d) (hE : Ents W (· < W.heap.size) A len cap l) (hf : fewE l 10 = true) (hs : s.d.length ≤ 2000) :
    Calls Tryz.prog 6 #[.agg #[.int .i64 h.t, .int .i64 h.v], entV s.i s.t B s.d.length c, .slice A len cap] W fun e w' => e = .returned (.bool true) ∧ Below W.heap.size W w' := by
  have hb0 : Below W.heap.size W ((W.alloc (.cells #[.int .i64 h.t, .int .i64 h.v] 32)).alloc (.cells #[.int .i64 s.i, .int .i64 s.t, .slice B s.d.length c] 35)) := ((Below.refl _ _).alloc (Nat.le_refl _) _).alloc (by simp) _
  have m0 : ((W.alloc (.cells #[.int .i64 h.t, .int .i64 h.v] 32)).alloc (.cells #[.int .i64 s.i, .int .i64 s.t, .slice B s.d.length c] 35)).heap[W.heap.size]? = some (.cells #[.int .i64 h.t, .int .i64 h.v] 32) := (Below.heap_alloc _ _ _ (by simp)).trans (heap_alloc_new _ _)
  have m1 : ((W.alloc (.cells #[.int .i64 h.t, .int .i64 h.v] 32)).alloc (.cells #[.int .i64 s.i, .int .i64 s.t, .slice B s.d.length c] 35)).heap[W.heap.size + 1]? = some (.cells #[.int .i64 s.i, .int .i64 s.t, .slice B s.d.length c] 35) := heap_alloc2_new _ _ _
  obtain ⟨hf1, hf2, hwl⟩ := few_parts hf
  have hll := hE.1
  have hF := fun w1 (hb : Below W.heap.size W w1) => fewR_any _ A len cap l 10 w1 (hE.below hb (Nat.le_refl _)) (by unfold maxLen; omega) (by omega) hwl
  rw [hf] at hF
  have hc : ((2000 : Int) < (s.d.length : Int)) = False := eq_false (by omega)
  have hRH := fun W => hardR_is h.t h.v W
  have hSP := fun W => snapR_is s.i s.t B s.d.length c W
  have hRN := fun w1 (hb : Below W.heap.size W w1) => runR_any _ A len cap l s.i s.t w1 (hE.below hb (Nat.le_refl _)) (by unfold maxLen; omega)
  have hNS := fun W => vsave_nil W (.agg #[.int .i64 h.t, .int .i64 h.v]) (.slice A len cap) h.t h.v rfl
  have hNK := fun W => vkeep_nil W (.agg #[.int .i64 h.t, .int .i64 h.v]) (entV s.i s.t B s.d.length c) (.slice A len cap) _ _ _ _ _ rfl rfl
  have hK := fun w v j d n Z (C : Ctx W w v j d ⟨1048576, [], false, 0, false⟩ hd0 n Z) (hn : 0 ≤ n ∧ n ≤ 20001) => vkeep_any w v j d ⟨1048576, [], false, 0, false⟩ hd0 n Z C.vt h s B c (C.lies hl).1 (C.lies hl).2 A len cap l (C.ents hE) (by omega) (by omega)
  unfold KeepP at hK
  have hok : keepOk h s l = (snapB s.i s.t s.d.length && (decide (s.i ≠ 0) && (hardB h.t h.v && runB s.i s.t l))) := rfl
  have hyes : keepOk h s l = true → (Dsk.keepV ⟨1048576, [], false, 0, false⟩ hd0 h s l).1.2 = 0 ∧ 0 < usedF (Dsk.keepV ⟨1048576, [], false, 0, false⟩ hd0 h s l).1.1.l := fun ok => by
    have h1 := saveRecs_length hd0 h []
    have h2 := allRecs_length h l
    have h3 := snapFrame_length s
    have h4 : weigh [] = 0 := rfl
    simp only [List.length_nil] at h1
    obtain ⟨k1, k2, x', ls', k3⟩ := kept_new.keep ok rfl (by omega)
    obtain ⟨_, o2, _, _⟩ := keepOk_parts ok
    exact ⟨k1, used_pos k3 o2⟩
  have hno : keepOk h s l = false → (Dsk.keepV ⟨1048576, [], false, 0, false⟩ hd0 h s l).1.2 = 1 ∧ usedF (Dsk.keepV ⟨1048576, [], false, 0, false⟩ hd0 h s l).1.1.l = 0 := fun ok => by
    rw [keepV_no ok]
    exact ⟨rfl, rfl⟩
  generalize Dsk.keepV ⟨1048576, [], false, 0, false⟩ hd0 h s l = R at *
  obtain ⟨⟨DK, eK⟩, wK⟩ := R
  dsimp only at hK hyes hno
  obtain ⟨K, hKK⟩ : ∃ K, Hid (keepOk h s l = K) := ⟨_, ⟨rfl⟩⟩
  rw [hKK.out] at hok hyes hno
  have hU := fun w d D Z (hd : Dk w d D Z) => dsk_used w d D Z hd
  obtain ⟨q1, h1⟩ : ∃ q, Hid (snapB s.i s.t s.d.length = q) := ⟨_, ⟨rfl⟩⟩
  obtain ⟨q3, h3⟩ : ∃ q, Hid (hardB h.t h.v = q) := ⟨_, ⟨rfl⟩⟩
  obtain ⟨q4, h4⟩ : ∃ q, Hid (runB s.i s.t l = q) := ⟨_, ⟨rfl⟩⟩
  rw [h1.out, h3.out, h4.out] at hok
  rw [h1.out] at hSP
  rw [h3.out] at hRH
  rw [h4.out] at hRN
  have HOK := Lib.hid hok
  have HY := Lib.hid hyes
  have HN := Lib.hid hno
  clear hf hf1 hf2 hwl hok hyes hno hll hE hl hs
  go_enter Tryz.func6, Tryz.ntmps6
  go_wp2_with fail
  refine (awake10_any _).mono ?_
  rintro e w1 ⟨rfl, hb1⟩
  have hbw1 := hb0.trans (hb1.mono hb0.size)
  have m0 := (hb1.block _ (hlt m0)).trans m0
  have m1 := (hb1.block _ (hlt m1)).trans m1
  have hF1 := hF w1 hbw1
  obtain ⟨⟨y0, y1, y2⟩, _⟩ := row3 m1
  clear hF hb1 hb0
  go_wp2_with fail
  refine hF1.mono ?_
  rintro e w2 ⟨rfl, rfl⟩
  clear hF1
  go_wp2_with fail
  refine (vopen_nil _).mono ?_
  rintro e w3 ⟨rfl, hb3⟩
  have hlt3 := Nat.lt_of_lt_of_le (hlt m1) hb3.size
  have hbw3 := hbw1.trans (hb3.mono hbw1.size)
  have m0 := (hb3.block _ (hlt m0)).trans m0
  have m1 := (hb3.block _ (hlt m1)).trans m1
  clear hb3 y0 y1 y2
  have hb4 : Below W.heap.size W ((w3.alloc (.cells #[.int .i64 0, .int .i64 0] 32)).alloc (.cells #[.int .i64 0, .int .i64 0, .slice none 0 0] 35)) := (hbw3.alloc hbw3.size _).alloc (by simp; have := hbw3.size; omega) _
  have hN := dsk_new ((w3.alloc (.cells #[.int .i64 0, .int .i64 0] 32)).alloc (.cells #[.int .i64 0, .int .i64 0, .slice none 0 0] 35)) (· < w3.heap.size + 1 + 1) 1048576 (fun k hk => by simpa using hk) (by omega) (by omega)
  go_wp2_with fail
  refine hN.mono ?_
  rintro e w5 ⟨d, rfl, hD5, hb5⟩
  have hz4 : ((w3.alloc (.cells #[.int .i64 0, .int .i64 0] 32)).alloc (.cells #[.int .i64 0, .int .i64 0, .slice none 0 0] 35)).heap.size = w3.heap.size + 1 + 1 := by simp
  have ha4 : Below w3.heap.size w3 ((w3.alloc (.cells #[.int .i64 0, .int .i64 0] 32)).alloc (.cells #[.int .i64 0, .int .i64 0, .slice none 0 0] 35)) := ((Below.refl _ _).alloc (Nat.le_refl _) _).alloc (by simp) _
  have hb35 : Below w3.heap.size w3 w5 := ha4.trans (hb5.mono (by rw [hz4]; omega))
  have m0 := (hb35.block _ (hlt m0)).trans m0
  have m1 := (hb35.block _ (hlt m1)).trans m1
  have hbw5 := hbw3.trans (hb35.mono hbw3.size)
  have hs3 := hbw3.size
  have hs31 := hb35.size
  have hO := open_kept kept_new (by omega) w5 d _ hD5
  clear hN hb5 hb4 hz4 ha4
  go_wp2_with fail
  refine hO.mono ?_
  rintro e w6 ⟨v, j, n, Z, Bs, bc, A6, c6, rfl, ho⟩
  have C6 := Ctx.opd ho hbw5 (fun k hk => by show k < w3.heap.size + 1 + 1; omega)
  have hn6 := ho.num
  have q0 := ho.sub W.heap.size (by show W.heap.size < w3.heap.size + 1 + 1; omega)
  have q1' := ho.sub (W.heap.size + 1) (by show W.heap.size + 1 < w3.heap.size + 1 + 1; omega)
  have m0 := (ho.kp.block _ (hlt m0) (by show W.heap.size < w3.heap.size + 1 + 1; omega)).trans m0
  have m1 := (ho.kp.block _ (hlt m1) (by show W.heap.size + 1 < w3.heap.size + 1 + 1; omega)).trans m1
  have ha8 : Below w6.heap.size w6 ((w6.alloc (.cells #[.int .i64 hd0.t, .int .i64 hd0.v] 32)).alloc (.cells #[.int .i64 snap0.i, .int .i64 snap0.t, .slice Bs snap0.d.length bc] 35)) := ((Below.refl _ _).alloc (Nat.le_refl _) _).alloc (by simp) _
  have C8 := C6.wide ha8
  have l0 := hlt m0
  have l1 := hlt m1
  have m0 := (ha8.block _ (hlt m0)).trans m0
  have m1 := (ha8.block _ (hlt m1)).trans m1
  clear ho hO hD5 C6 hb35 hs31
  obtain ⟨⟨x0, x1⟩, _⟩ := row2 m0
  go_wp2_with fail
  refine (hNS _).mono ?_
  rintro e w9 ⟨rfl, hb9⟩
  have C9 := C8.below hb9
  have m0 := (hb9.block _ (hlt m0)).trans m0
  have m1 := (hb9.block _ (hlt m1)).trans m1
  clear hb9 C8 x0 x1 ha8 hNS
  obtain ⟨⟨x0, x1⟩, _⟩ := row2 m0
  obtain ⟨⟨y0, y1, y2⟩, _⟩ := row3 m1
  go_wp2_with fail
  refine (hNK _).mono ?_
  rintro e w10 ⟨rfl, hb10⟩
  have C10 := C9.below hb10
  have m0 := (hb10.block _ (hlt m0)).trans m0
  have m1 := (hb10.block _ (hlt m1)).trans m1
  clear hb10 C9 x0 x1 y0 y1 y2 hNK
  obtain ⟨⟨x0, x1⟩, _⟩ := row2 m0
  go_wp2_with fail
  refine (hRH _).mono ?_
  rintro e w11 ⟨rfl, hb11⟩
  have C11 := C10.below hb11
  have m0 := (hb11.block _ (hlt m0)).trans m0
  have m1 := (hb11.block _ (hlt m1)).trans m1
  clear hb11 C10 x0 x1
  cases q3 with
  | false =>
    obtain rfl : K = false := by have e : K = _ := HOK; rw [e]; simp []
    obtain ⟨rfl, hu⟩ := (show false = false → _ from HN) rfl
    obtain ⟨⟨x0, x1⟩, _⟩ := row2 m0
    obtain ⟨⟨y0, y1, y2⟩, _⟩ := row3 m1
    have hKc := hK _ v j d n _ C11 hn6
    go_wp2_with fail
    refine hKc.mono ?_
    rintro e wk ⟨rfl, nk, _, _, hdk⟩
    have Ck := C11.vdid hdk
    have hUk := hU wk d DK _ Ck.vt.lg.dk
    rw [hu] at hUk
    clear hKc hK hdk hU hu x0 x1 y0 y1 y2 m0 m1 C11
    go_wp2_with fail
    refine hUk.mono ?_
    rintro e wu ⟨rfl, rfl⟩
    go_wp2
    go_ret
    exact ⟨rfl, Ck.low⟩
  | true =>
    obtain ⟨⟨y0, y1, y2⟩, _⟩ := row3 m1
    go_wp2_with fail
    refine (hSP _).mono ?_
    rintro e w12 ⟨rfl, hbx⟩
    have C12 := C11.below hbx
    have m0 := (hbx.block _ (hlt m0)).trans m0
    have m1 := (hbx.block _ (hlt m1)).trans m1
    clear hbx C11 y0 y1 y2
    cases q1 with
    | false =>
      obtain rfl : K = false := by have e : K = _ := HOK; rw [e]; simp []
      obtain ⟨rfl, hu⟩ := (show false = false → _ from HN) rfl
      obtain ⟨⟨x0, x1⟩, _⟩ := row2 m0
      obtain ⟨⟨y0, y1, y2⟩, _⟩ := row3 m1
      have hKc := hK _ v j d n _ C12 hn6
      go_wp2_with fail
      refine hKc.mono ?_
      rintro e wk ⟨rfl, nk, _, _, hdk⟩
      have Ck := C12.vdid hdk
      have hUk := hU wk d DK _ Ck.vt.lg.dk
      rw [hu] at hUk
      clear hKc hK hdk hU hu x0 x1 y0 y1 y2 m0 m1 C12
      go_wp2_with fail
      refine hUk.mono ?_
      rintro e wu ⟨rfl, rfl⟩
      go_wp2
      go_ret
      exact ⟨rfl, Ck.low⟩
    | true =>
      by_cases hi : s.i = 0
      · have i1 : (s.i == 0) = true := by rw [hi]; rfl
        obtain ⟨⟨y0, y1, y2⟩, _⟩ := row3 m1
        obtain rfl : K = false := by have e : K = _ := HOK; rw [e]; simp [hi]
        clear hi
        obtain ⟨rfl, hu⟩ := (show false = false → _ from HN) rfl
        obtain ⟨⟨x0, x1⟩, _⟩ := row2 m0
        obtain ⟨⟨y0, y1, y2⟩, _⟩ := row3 m1
        have hKc := hK _ v j d n _ C12 hn6
        go_wp2_with fail
        refine hKc.mono ?_
        rintro e wk ⟨rfl, nk, _, _, hdk⟩
        have Ck := C12.vdid hdk
        have hUk := hU wk d DK _ Ck.vt.lg.dk
        rw [hu] at hUk
        clear hKc hK hdk hU hu x0 x1 y0 y1 y2 m0 m1 C12
        go_wp2_with fail
        refine hUk.mono ?_
        rintro e wu ⟨rfl, rfl⟩
        go_wp2
        go_ret
        exact ⟨rfl, Ck.low⟩
      · have i1 : (s.i == 0) = false := beq_eq_false_iff_ne.2 hi
        have i2 : (s.i = 0) = False := eq_false hi
        obtain ⟨⟨y0, y1, y2⟩, _⟩ := row3 m1
        have hRN1 := hRN _ C12.low
        go_wp2_with fail
        refine (hRN1).mono ?_
        rintro e w13 ⟨rfl, hbx⟩
        have C13 := C12.below hbx
        have m0 := (hbx.block _ (hlt m0)).trans m0
        have m1 := (hbx.block _ (hlt m1)).trans m1
        clear hbx C12 y0 y1 y2
        cases q4 with
        | false =>
          obtain rfl : K = false := by have e : K = _ := HOK; rw [e]; simp [hi]
          obtain ⟨rfl, hu⟩ := (show false = false → _ from HN) rfl
          obtain ⟨⟨x0, x1⟩, _⟩ := row2 m0
          obtain ⟨⟨y0, y1, y2⟩, _⟩ := row3 m1
          have hKc := hK _ v j d n _ C13 hn6
          go_wp2_with fail
          refine hKc.mono ?_
          rintro e wk ⟨rfl, nk, _, _, hdk⟩
          have Ck := C13.vdid hdk
          have hUk := hU wk d DK _ Ck.vt.lg.dk
          rw [hu] at hUk
          clear hKc hK hdk hU hu x0 x1 y0 y1 y2 m0 m1 C13
          go_wp2_with fail
          refine hUk.mono ?_
          rintro e wu ⟨rfl, rfl⟩
          go_wp2
          go_ret
          exact ⟨rfl, Ck.low⟩
        | true =>
          obtain rfl : K = true := by have e : K = _ := HOK; rw [e]; simp [hi]
          obtain ⟨rfl, hu⟩ := (show true = true → _ from HY) rfl
          obtain ⟨⟨x0, x1⟩, _⟩ := row2 m0
          obtain ⟨⟨y0, y1, y2⟩, _⟩ := row3 m1
          have hKc := hK _ v j d n _ C13 hn6
          go_wp2_with fail
          refine hKc.mono ?_
          rintro e wk ⟨rfl, nk, _, _, hdk⟩
          have Ck := C13.vdid hdk
          have hUk := hU wk d DK _ Ck.vt.lg.dk
          generalize usedF DK.l = u at *
          have hu1 : decide (0 < u) = true := decide_eq_true hu
          clear hKc hK hdk hU hu x0 x1 y0 y1 y2 m0 m1 C13
          go_wp2_with fail
          refine hUk.mono ?_
          rintro e wu ⟨rfl, rfl⟩
          go_wp2
          go_ret
          exact ⟨rfl, Ck.low⟩

theorem walk (h : Hd) (s : Ent) (B : Option Addr) (c : Nat) (A : Option Addr) (len cap : Nat) (l : List Ent) (W : World) (hl : Lies W B s.d.length c s.d) (hE : Ents W (· < W.heap.size) A len cap l) (hm : len ≤ maxLen) (hd : ∀ e ∈ l, e.d.length ≤ 140737488355328) :
    Calls Tryz.prog 6 #[.agg #[.int .i64 h.t, .int .i64 h.v], entV s.i s.t B s.d.length c, .slice A len cap] W fun e w' => e = .returned (.bool true) ∧ Below W.heap.size W w' := by
  cases hf : fewE l 10 with
  | false => exact walk_no h s B c A len cap l W hl hE hm hd (.inl hf)
  | true =>
    by_cases hs : s.d.length ≤ 2000
    · exact walk_yes h s B c A len cap l W hl hE hf hs
    · exact walk_no h s B c A len cap l W hl hE hm hd (.inr ⟨hf, by omega⟩)
end Go.Proofs.YtmeoooojmhhahaaGreat.vauNil
