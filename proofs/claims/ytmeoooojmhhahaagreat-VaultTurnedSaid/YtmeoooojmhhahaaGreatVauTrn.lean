/- VaultTurned's walk. -/
import Derived.Test.YtmeoooojmhhahaaGreatVauP5
import Derived.Test.YtmeoooojmhhahaaGreatVauTurn
import Derived.Laws.BitsAllLaws
namespace Go.Proofs.YtmeoooojmhhahaaGreat.vauTurned
open Go.ChangeShapes Go.WideShapes Go.ChangeAt Go.RowKit Go.Proofs.YtmeoooojmhhahaaGreat
set_option linter.unusedVariables false
set_option linter.unusedSimpArgs false

theorem xor2 (x y : UInt8) : bits .xor .u8 (x.toNat : Int) (y.toNat : Int) = ((x ^^^ y).toNat : Int) := by
  have h1 := x.toNat_lt
  have h2 := y.toNat_lt
  rw [u8_xor_nat _ _ (by omega) (by omega), ← UInt8.toNat_xor]

theorem lies_set {w : World} {A : Option Addr} {len cap : Nat} {l : List UInt8} (h : Lies w A len cap l) {g off : Nat} (e : A = some ⟨g, off, none⟩) (k : Nat) (hk : k < l.length) (y : UInt8) : Lies (w.setCell ⟨g, off + k, none⟩ (Go.Proofs.YtmeoooojmhhahaaGreat.u8 y)) A len cap (l.set k y) := by
  refine ⟨by rw [List.length_set]; exact h.1, h.2.1, h.2.2.1, fun h0 => ?_⟩
  obtain ⟨g', off', e', hg, hc⟩ := h.2.2.2 h0
  rw [e] at e'
  injection e' with e'
  injection e' with e1 e2 _
  subst e1 e2
  refine ⟨g, off, e, by simpa using hg, fun j hj => ?_⟩
  have hj' : j < l.length := by rw [List.length_set] at hj; exact hj
  by_cases hjk : j = k
  · subst hjk
    rw [List.getElem_set_self]
    exact World.cell?_setCell_same _ _ _ (hc j hj')
  · rw [List.getElem_set_ne (fun e => hjk e.symm)]
    have hne : (⟨g, off + k, none⟩ : Addr) ≠ ⟨g, off + j, none⟩ := fun e => by
      injection e with _ e1 _
      omega
    exact (World.cell?_setCell_other _ _ _ _ hne).trans (hc j hj')

theorem ctx_set {W w : World} {v j d : Nat} {D : Dsk} {was : Hd} {n : Int} {Z : Nat → Prop} (c : Ctx W w v j d D was n Z) {g o : Nat} (hz : Z g) (hv : g ≠ v) (hj : g ≠ j) (hg : W.heap.size ≤ g) (x : Value) : Ctx W (w.setCell ⟨g, o, none⟩ x) v j d D was n Z := by
  have far : ∀ k, k ≠ g → (w.setCell ⟨g, o, none⟩ x).heap[k]? = w.heap[k]? := fun k hk => Below.heap_setCell _ _ _ _ (by exact hk)
  exact ⟨⟨(far _ hv.symm).trans c.vt.box, ⟨(far _ hj.symm).trans c.vt.lg.box, c.vt.lg.dk.keep (by simp) fun k _ hk => far k (fun e => hk (e ▸ hz)), c.vt.lg.own⟩, c.vt.own, c.vt.ne⟩, c.low.setCell hg _, c.all, c.newv, c.newj⟩

theorem wr_sub (N M : Nat) (h : N = M + 4) (hN : N ≤ 6000) : wrap64 ((N : Int) - 4) = (M : Int) ∧ IntKind.i64.wrap ((N : Int) - 4) = (M : Int) := by
  rw [IntWalk.wrap64_in _ (by omega), IntWalk.i64_in _ (by omega)]
  omega
theorem wr_add (r K : Nat) (h : 4 + r = K) (hK : K ≤ 6000) : wrap64 (4 + (r : Int)) = (K : Int) ∧ IntKind.i64.wrap (4 + (r : Int)) = (K : Int) := by
  rw [IntWalk.wrap64_in _ (by omega), IntWalk.i64_in _ (by omega)]
  omega
theorem wr_id (m : Nat) (h : m ≤ 65535) : IntKind.i64.wrap (m : Int) = (m : Int) := IntWalk.i64_in _ (by omega)

theorem ended_sure {r : Dsk × Nat} {U : Nat} {yes no : View → Prop} (h : Ended r none U yes no) : r.2 = 0 ∧ ∃ y, yes y ∧ Dv r.1 y none false U := by
  obtain ⟨ψ, lost, y, hd, h⟩ := h
  rcases h with ⟨h1, rfl, h3, h4⟩ | ⟨_, _, _, h4⟩
  · obtain rfl := h4 rfl
    exact ⟨h1, y, h3, hd⟩
  · exact absurd rfl h4

/-- The snap's file is laid anew with other bytes, which tell no snap. -/
theorem turned_disk {D : Dsk} {was : Hd} {s : Ent} {l : List Ent} {U : Nat} {x : View} {ls : List (List UInt8)} (k : Kept D none was s l U x ls) (h0 : s.i ≠ 0) (F : List UInt8) (hF : frameL (snapRec s) = F) (hU : U + F.length ≤ 160000) :
    D.read nSnap = (⟨F.toArray⟩, 0) ∧ (D.remove nSnap).2 = 0 ∧ ∀ b : List UInt8, b.length = F.length → snapOf b = none →
      ((D.remove nSnap).1.append nSnap ⟨b.toArray⟩).2 = 0 ∧ (((D.remove nSnap).1.append nSnap ⟨b.toArray⟩).1.sync nSnap).2 = 0 ∧
      (((D.remove nSnap).1.append nSnap ⟨b.toArray⟩).1.sync nSnap).1.openV = (((((D.remove nSnap).1.append nSnap ⟨b.toArray⟩).1.sync nSnap).1, 2), held0) ∧ usedF (((D.remove nSnap).1.append nSnap ⟨b.toArray⟩).1.sync nSnap).1.l ≤ 160000 := by
  have e : x nSnap = (F, F.length) := by
    rcases k.snap with ⟨rfl, _⟩ | ⟨_, _, e⟩
    · exact absurd rfl h0
    · rw [e, hF]
  have hne : (x nSnap).1 ≠ [] := by rw [e, ← hF]; exact frameL_ne _
  have hFl : F ≠ [] := by rw [← hF]; exact frameL_ne _
  have hR := k.dv.read nSnap rightS_snap
  rw [if_neg hne, e] at hR
  obtain ⟨r1, y1, hy1, d1⟩ := ended_sure (k.dv.remove nSnap rightS_snap hne).ended
  subst hy1
  refine ⟨hR, r1, fun b hb hno => ?_⟩
  have hbn : b ≠ [] := fun eb => by
    rw [eb] at hb
    exact hFl (List.length_eq_zero_iff.1 hb.symm)
  have hbs : (⟨b.toArray⟩ : ByteArray).size = b.length := by simp [ByteArray.size]
  obtain ⟨r2, y2, hy2, d2⟩ := ended_sure (d1.append nSnap ⟨b.toArray⟩ rightS_snap (by rw [hbs]; omega)).ended
  subst hy2
  have e2 : ((x.set nSnap ([], 0)).set nSnap (((x.set nSnap ([], 0)) nSnap).1 ++ (⟨b.toArray⟩ : ByteArray).data.toList, ((x.set nSnap ([], 0)) nSnap).2)) nSnap = (b, 0) := by
    rw [View.set_get, View.set_get]
    simp
  obtain ⟨r3, y3, hy3, d3⟩ := ended_sure (d2.sync nSnap rightS_snap (by rw [e2]; exact hbn)).ended
  subst hy3
  have hR3 := d3.read nSnap rightS_snap
  rw [View.set_get, e2, if_neg hbn] at hR3
  have hsv : ((((D.remove nSnap).1.append nSnap ⟨b.toArray⟩).1.sync nSnap).1).snapV = (snap0, 2) := by
    unfold Dsk.snapV
    rw [hR3]
    unfold snapRead
    rw [if_neg (by simp), if_neg (by simp)]
    dsimp only
    rw [hno]
  have h3 := d3.used
  refine ⟨r2, r3, ?_, by rw [hbs] at h3; omega⟩
  unfold Dsk.openV
  rw [hsv, if_pos (by simp)]
set_option maxRecDepth 100000 in
set_option maxHeartbeats 3200000 in
theorem walk_no (h : Hd) (s : Ent) (B : Option Addr) (c : Nat) (at_ : Int) (z : UInt8) (W : World) (hno : 5000 < s.d.length ∨ (s.d.length ≤ 5000 ∧ z = 0)) :
    Calls Tryz.prog 7 #[.agg #[.int .i64 h.t, .int .i64 h.v], entV s.i s.t B s.d.length c, .int .u16 at_, .int .u8 (z.toNat : Int)] W fun e w' => e = .returned (.bool true) ∧ Below W.heap.size W w' := by
  have hb0 : Below W.heap.size W ((W.alloc (.cells #[.int .i64 h.t, .int .i64 h.v] 32)).alloc (.cells #[.int .i64 s.i, .int .i64 s.t, .slice B s.d.length c] 35)) := ((Below.refl _ _).alloc (Nat.le_refl _) _).alloc (by simp) _
  have m1 : ((W.alloc (.cells #[.int .i64 h.t, .int .i64 h.v] 32)).alloc (.cells #[.int .i64 s.i, .int .i64 s.t, .slice B s.d.length c] 35)).heap[W.heap.size + 1]? = some (.cells #[.int .i64 s.i, .int .i64 s.t, .slice B s.d.length c] 35) := heap_alloc2_new _ _ _
  rcases hno with h2 | ⟨h2, rfl⟩
  · have hc : ((5000 : Int) < (s.d.length : Int)) = True := eq_true (by omega)
    clear h2
    go_enter Tryz.func7, Tryz.ntmps7
    go_wp2_with fail
    refine (awake10_any _).mono ?_
    rintro e w1 ⟨rfl, hb1⟩
    have hbw := hb0.trans (hb1.mono hb0.size)
    obtain ⟨⟨y0, y1, y2⟩, _⟩ := row3 ((hb1.block _ (hlt m1)).trans m1)
    go_wp2_with fail
    refine (awake10_any _).mono ?_
    rintro e w3 ⟨rfl, hb3⟩
    go_wp2
    go_ret
    exact ⟨rfl, hbw.trans (hb3.mono hbw.size)⟩
  · have hc : ((5000 : Int) < (s.d.length : Int)) = False := eq_false (by omega)
    have hz : (((0 : UInt8).toNat : Nat) : Int) = 0 := rfl
    rw [hz]
    clear h2 hz
    go_enter Tryz.func7, Tryz.ntmps7
    go_wp2_with fail
    refine (awake10_any _).mono ?_
    rintro e w1 ⟨rfl, hb1⟩
    have hbw := hb0.trans (hb1.mono hb0.size)
    obtain ⟨⟨y0, y1, y2⟩, _⟩ := row3 ((hb1.block _ (hlt m1)).trans m1)
    go_wp2_with fail
    refine (awake10_any _).mono ?_
    rintro e w3 ⟨rfl, hb3⟩
    go_wp2
    go_ret
    exact ⟨rfl, hbw.trans (hb3.mono hbw.size)⟩

set_option maxRecDepth 100000 in
set_option maxHeartbeats 6400000 in
theorem walk_yes (h : Hd) (s : Ent) (B : Option Addr) (c : Nat) (m : Nat) (z : UInt8) (W : World) (hl : Lies W B s.d.length c s.d) (hs : s.d.length ≤ 5000) (hz : z ≠ 0) (hm16 : m ≤ 65535) :
    Calls Tryz.prog 7 #[.agg #[.int .i64 h.t, .int .i64 h.v], entV s.i s.t B s.d.length c, .int .u16 (m : Int), .int .u8 (z.toNat : Int)] W fun e w' => e = .returned (.bool true) ∧ Below W.heap.size W w' := by
  have hb0 : Below W.heap.size W ((W.alloc (.cells #[.int .i64 h.t, .int .i64 h.v] 32)).alloc (.cells #[.int .i64 s.i, .int .i64 s.t, .slice B s.d.length c] 35)) := ((Below.refl _ _).alloc (Nat.le_refl _) _).alloc (by simp) _
  have m0 : ((W.alloc (.cells #[.int .i64 h.t, .int .i64 h.v] 32)).alloc (.cells #[.int .i64 s.i, .int .i64 s.t, .slice B s.d.length c] 35)).heap[W.heap.size]? = some (.cells #[.int .i64 h.t, .int .i64 h.v] 32) := (Below.heap_alloc _ _ _ (by simp)).trans (heap_alloc_new _ _)
  have m1 : ((W.alloc (.cells #[.int .i64 h.t, .int .i64 h.v] 32)).alloc (.cells #[.int .i64 s.i, .int .i64 s.t, .slice B s.d.length c] 35)).heap[W.heap.size + 1]? = some (.cells #[.int .i64 s.i, .int .i64 s.t, .slice B s.d.length c] 35) := heap_alloc2_new _ _ _
  have hz4 : ((W.alloc (.cells #[.int .i64 h.t, .int .i64 h.v] 32)).alloc (.cells #[.int .i64 s.i, .int .i64 s.t, .slice B s.d.length c] 35)).heap.size = W.heap.size + 1 + 1 := by simp
  have hc : ((5000 : Int) < (s.d.length : Int)) = False := eq_false (by omega)
  have hz0 : ((z.toNat : Int) == 0) = false := by
    refine beq_eq_false_iff_ne.2 fun e => hz (UInt8.toNat_inj.1 ?_)
    have : z.toNat = 0 := by omega
    exact this
  have hz1 : ((z.toNat : Int) = 0) = False := eq_false fun e => by rw [e] at hz0; cases hz0
  have hz2 : (z.toNat = 0) = False := eq_false fun e => by rw [e] at hz0; cases hz0
  have hRH := fun W => hardR_is h.t h.v W
  have hSP := fun W => snapR_is s.i s.t B s.d.length c W
  have hK := fun w v j d n Z (C : Ctx W w v j d ⟨1048576, [], false, 0, false⟩ hd0 n Z) (hn : 0 ≤ n ∧ n ≤ 20001) => vkeep_any w v j d ⟨1048576, [], false, 0, false⟩ hd0 n Z C.vt h s B c (C.lies hl).1 (C.lies hl).2 none 0 0 [] ⟨rfl, Nat.le_refl _, fun _ => rfl, fun h0 => absurd h0 (by omega)⟩ (by omega) (by omega)
  unfold KeepP at hK
  have hok : keepOk h s [] = (snapB s.i s.t s.d.length && (decide (s.i ≠ 0) && hardB h.t h.v)) := by
    have : runB s.i s.t [] = true := rfl
    unfold keepOk
    rw [this, Bool.and_true]
    rfl
  have hFl := snapFrame_length s
  obtain ⟨F, hF⟩ : ∃ F, Hid (frameL (snapRec s) = F) := ⟨_, ⟨rfl⟩⟩
  have hyes : keepOk h s [] = true → (Dsk.keepV ⟨1048576, [], false, 0, false⟩ hd0 h s []).1.2 = 0 ∧ ∃ x' ls' U, U ≤ 60000 ∧ Kept (Dsk.keepV ⟨1048576, [], false, 0, false⟩ hd0 h s []).1.1 none h s [] U x' ls' := fun ok => by
    have h1 := saveRecs_length hd0 h []
    have h2 := allRecs_length h []
    have h4 : weigh [] = 0 := rfl
    simp only [List.length_nil] at h1 h2
    obtain ⟨k1, k2, x', ls', k3⟩ := kept_new.keep ok rfl (by omega)
    exact ⟨k1, x', ls', _, by omega, k3⟩
  have hno : keepOk h s [] = false → (Dsk.keepV ⟨1048576, [], false, 0, false⟩ hd0 h s []).1.2 = 1 := fun ok => by
    rw [keepV_no ok]
  generalize Dsk.keepV ⟨1048576, [], false, 0, false⟩ hd0 h s [] = R at *
  obtain ⟨⟨D1, eK⟩, wK⟩ := R
  dsimp only at hK hyes hno
  obtain ⟨q1, h1⟩ : ∃ q, Hid (snapB s.i s.t s.d.length = q) := ⟨_, ⟨rfl⟩⟩
  obtain ⟨q3, h3⟩ : ∃ q, Hid (hardB h.t h.v = q) := ⟨_, ⟨rfl⟩⟩
  rw [h1.out, h3.out] at hok
  rw [h1.out] at hSP
  rw [h3.out] at hRH
  rw [hok] at hyes hno
  have HY := Lib.hid hyes
  have HN := Lib.hid hno
  have HL := Lib.hid hl
  have HFL := Lib.hid hFl
  have HSL := Lib.hid hs
  have HZ := Lib.hid hz
  clear hok hyes hno hl hs hFl hz
  go_enter Tryz.func7, Tryz.ntmps7
  go_wp2_with fail
  refine (awake10_any _).mono ?_
  rintro e w1 ⟨rfl, hb1⟩
  have hlt1 := Nat.lt_of_lt_of_le (hlt m1) hb1.size
  have hbw1 := hb0.trans (hb1.mono hb0.size)
  have m0 := (hb1.block _ (hlt m0)).trans m0
  have m1 := (hb1.block _ (hlt m1)).trans m1
  obtain ⟨⟨y0, y1, y2⟩, _⟩ := row3 m1
  have hN := dsk_new w1 (· < w1.heap.size) 1048576 (fun k hk => hk) (by omega) (by omega)
  clear hb1 hb0 hz4
  go_wp2_with fail
  refine hN.mono ?_
  rintro e w5 ⟨d, rfl, hD5, hb5⟩
  have m0 := (hb5.block _ (hlt m0)).trans m0
  have m1 := (hb5.block _ (hlt m1)).trans m1
  have hbw5 := hbw1.trans (hb5.mono hbw1.size)
  have hO := open_kept kept_new (by omega) w5 d _ hD5
  have hs1 := hbw1.size
  clear hN hb5 hbw1 y0 y1 y2
  go_wp2_with fail
  refine hO.mono ?_
  rintro e w6 ⟨v, j, n, Z, Bs, bc, A6, c6, rfl, ho⟩
  have C6 := Ctx.opd ho hbw5 (fun k hk => by show k < w1.heap.size; omega)
  have hn6 := ho.num
  have q0 := ho.sub W.heap.size (by show W.heap.size < w1.heap.size; omega)
  have q1' := ho.sub (W.heap.size + 1) (by show W.heap.size + 1 < w1.heap.size; omega)
  have m0 := (ho.kp.block _ (hlt m0) (by show W.heap.size < w1.heap.size; omega)).trans m0
  have m1 := (ho.kp.block _ (hlt m1) (by show W.heap.size + 1 < w1.heap.size; omega)).trans m1
  have ha8 : Below w6.heap.size w6 ((w6.alloc (.cells #[.int .i64 hd0.t, .int .i64 hd0.v] 32)).alloc (.cells #[.int .i64 snap0.i, .int .i64 snap0.t, .slice Bs snap0.d.length bc] 35)) := ((Below.refl _ _).alloc (Nat.le_refl _) _).alloc (by simp) _
  have C8 := C6.wide ha8
  have l0 := hlt m0
  have l1 := hlt m1
  have m0 := (ha8.block _ (hlt m0)).trans m0
  have m1 := (ha8.block _ (hlt m1)).trans m1
  have hKc := hK _ v j d n _ C8 hn6
  obtain ⟨⟨x0, x1⟩, _⟩ := row2 m0
  obtain ⟨⟨y0, y1, y2⟩, _⟩ := row3 m1
  clear ho hO hD5 C6 hK
  go_wp2_with fail
  refine hKc.mono ?_
  rintro e w9 ⟨rfl, nk, _, _, hdk⟩
  have C9 := C8.vdid hdk
  have m0 := hdk.at m0 (.inl q0.1) q0.2.1 q0.2.2
  have m1 := hdk.at m1 (.inl q1'.1) q1'.2.1 q1'.2.2
  clear hKc hdk x0 x1 y0 y1 y2 C8 ha8
  have hno := fun hk => (show _ → eK = 1 from HN) hk
  obtain ⟨⟨y0, y1, y2⟩, _⟩ := row3 m1
  by_cases hi : s.i = 0
  · have i1 : (s.i == 0) = true := by rw [hi]; rfl
    obtain rfl : eK = 1 := hno (by simp [hi])
    clear hi hno
    go_wp2
    go_ret
    exact ⟨rfl, C9.low⟩
  · have i1 : (s.i == 0) = false := beq_eq_false_iff_ne.2 hi
    have i2 : (s.i = 0) = False := eq_false hi
    cases q1 with
    | false =>
      obtain rfl : eK = 1 := hno (by simp)
      clear hno hi
      go_wp2_with fail
      refine (hSP _).mono ?_
      rintro e w11 ⟨rfl, hb11⟩
      have C11 := C9.below hb11
      go_wp2
      go_ret
      exact ⟨rfl, C11.low⟩
    | true =>
      cases q3 with
      | false =>
        obtain rfl : eK = 1 := hno (by simp)
        clear hno hi
        go_wp2_with fail
        refine (hSP _).mono ?_
        rintro e w11 ⟨rfl, hb11⟩
        have C11 := C9.below hb11
        have m0 := (hb11.block _ (hlt m0)).trans m0
        obtain ⟨⟨x0, x1⟩, _⟩ := row2 m0
        clear hb11 C9 y0 y1 y2
        go_wp2_with fail
        refine (hRH _).mono ?_
        rintro e w12 ⟨rfl, hb12⟩
        have C12 := C11.below hb12
        go_wp2
        go_ret
        exact ⟨rfl, C12.low⟩
      | true =>
        obtain ⟨rfl, x', ls', U, hU, hk⟩ := (show _ → eK = 0 ∧ _ from HY) (by simp [hi])
        have hFn : F.length = 28 + s.d.length := by rw [← hF.out]; exact HFL
        have hsl : s.d.length ≤ 5000 := HSL
        obtain ⟨tR, tRm, tT⟩ := turned_disk hk hi F hF.out (by omega)
        have hRd := read_any w9 d D1 _ _ nSnap C9.vt.lg.dk.dk C9.vt.lg.dk.good
        rw [tR] at hRd
        have hsz : (⟨F.toArray⟩ : ByteArray).size = F.length := by simp [ByteArray.size]
        have hdl : (⟨F.toArray⟩ : ByteArray).data.toList = F := by simp
        dsimp only at hRd
        rw [hsz] at hRd
        have hturn := fun p (h4 : 4 ≤ p) (hp : p < F.length) => snapOf_turned (snapRec s) (snapRec_long s (by omega)).2 (by have := (snapRec_long s (by omega)).1; omega) p h4 (by rw [hF.out]; exact hp) z HZ F[p] (by rw [hF.out]; exact List.getElem?_eq_getElem hp)
        rw [hF.out] at hturn
        obtain ⟨N, hN⟩ : ∃ N, F.length = N := ⟨_, rfl⟩
        rw [hN] at hRd
        have c1 : ((N : Int) < 9) = False := eq_false (by omega)
        clear hno hsz hdl tR hk hi i2 i1 y0 y1 y2 hRH hSP
        go_wp2_with fail
        refine hRd.mono ?_
        rintro e w10 ⟨A, cap, rfl, hlF, hnew, hb10, hfz⟩
        obtain ⟨g, off, rfl, hg, hcell⟩ := hlF.2.2.2 (by omega)
        have hg9 : w9.heap.size ≤ g := hnew _ rfl
        have hfz' := fun o => hfz g off o rfl
        have hv9 := C9.vt.lt
        have hj9 := C9.vt.lg.lt
        have hlo9 := C9.low.size
        have C10 := C9.wide hb10
        have hRm := dsk_remove w10 d D1 _ C10.vt.lg.dk nSnap
        generalize D1.remove nSnap = R2 at *
        obtain ⟨D2, e2⟩ := R2
        dsimp only at hRm tRm tT
        subst tRm
        clear hRd hnew hfz hb10 C9 hcell m0 m1
        go_wp2_with fail
        refine hRm.mono ?_
        rintro e w11 ⟨rfl, hd11⟩
        have hgz : (fun k => ((fun k => Z k ∨ w6.heap.size ≤ k ∧ k < ((w6.alloc (.cells #[.int .i64 hd0.t, .int .i64 hd0.v] 32)).alloc (.cells #[.int .i64 snap0.i, .int .i64 snap0.t, .slice Bs snap0.d.length bc] 35)).heap.size) k) ∨ w9.heap.size ≤ k ∧ k < w10.heap.size) g := .inr ⟨hg9, hg⟩
        have C11 := C10.did hd11
        have hl11 := hlF.keeps hd11.2 fun _ q o e => by
          injection e with e
          injection e with e _ _
          subst e
          exact hgz
        have hf11 : ∀ o, w11.frozen? ⟨g, o, none⟩ = false := fun o => (World.frozen?_of_block (hd11.2.block g hg hgz)).trans (hfz' o)
        obtain ⟨M, hM⟩ : ∃ M, Hid (N = M + 4) := ⟨N - 4, ⟨by omega⟩⟩
        obtain ⟨r, hr⟩ : ∃ r, Hid (m % M = r) := ⟨_, ⟨rfl⟩⟩
        obtain ⟨K, hK⟩ : ∃ K, Hid (4 + r = K) := ⟨_, ⟨rfl⟩⟩
        have hMp := hM.out
        have hKp := hK.out
        have hrM : r < M := by rw [← hr.out]; exact Nat.mod_lt _ (by omega)
        have hKN : K < N := by omega
        have hN9 : N ≤ 6000 := by omega
        have z4 : (M = 0) = False := eq_false (by omega)
        have hNK := Lib.hid hN9
        have hKK := Lib.hid (show K ≤ 6000 by omega)
        have hm16' := Lib.hid hm16
        have hsnap := hturn K (by omega) (by omega)
        obtain ⟨_, _, ec, _, cK⟩ := hl11.cell K (by omega)
        injection ec with ec
        injection ec with ec1 ec2 _
        subst ec1 ec2
        have fK := hf11 (off + K)
        obtain ⟨y0, hy0⟩ : ∃ y0, F[K]'(by omega) = y0 := ⟨_, rfl⟩
        rw [hy0] at cK hsnap
        obtain ⟨b, hb⟩ : ∃ b, F.set K (y0 ^^^ z) = b := ⟨_, rfl⟩
        rw [hb] at hsnap
        have hlb : b.length = N := by rw [← hb, List.length_set]; exact hN
        have hl12 := lies_set hl11 rfl K (by omega) (y0 ^^^ z)
        rw [hb] at hl12
        have C12 := ctx_set (o := off + K) C11 hgz (by omega) (by omega) (by omega) (Go.Proofs.YtmeoooojmhhahaaGreat.u8 (y0 ^^^ z))
        have hx := xor2 y0 z
        have hA := dsk_append _ d D2 _ C12.vt.lg.dk nSnap (some ⟨g, off, none⟩) cap b (by rw [hlb]; exact hl12) (by omega)
        obtain ⟨t1, t2, t3, t4⟩ := tT b (by rw [hlb, hN]) hsnap
        rw [hlb] at hA
        clear hsnap tT hturn hlF hl11 hf11 hfz' hd11 hRm hMp hKp hrM C10 C11 hb hy0
        generalize y0 ^^^ z = y at *
        generalize D2.append nSnap ⟨b.toArray⟩ = R3 at *
        obtain ⟨D3, e3⟩ := R3
        dsimp only at hA t1 t2 t3 t4
        subst t1
        have hSy := fun w d Z (hd : Dk w d D3 Z) => dsk_sync w d D3 Z hd nSnap
        generalize D3.sync nSnap = R4 at *
        obtain ⟨D4, e4⟩ := R4
        dsimp only at hSy t2 t3 t4
        subst t2
        have h8 := told_8 D4 nWal
        have hO := fun w d Z (hd : Dk w d D4 Z) => vopen_any w d D4 Z hd (by omega)
        have HV := Lib.hid t3
        have HC := Lib.hid C12
        clear t3 t4 h8 C12 hFn hN hlb hsl hN9 hlo9 hv9 hj9 hU hgz hm16 hg9
        obtain ⟨z1, z1'⟩ := wr_sub N M hM.out hNK.out
        obtain ⟨z3, z3'⟩ := wr_add r K hK.out hKK.out
        have z5 := wr_id m hm16'.out
        have z2 : (m : Int) % (M : Int) = (r : Int) := by rw [← hr.out, Int.natCast_emod]
        go_wp2_with fail
        refine hA.mono ?_
        rintro e w13 ⟨rfl, hd13⟩
        have C13 := HC.out.did hd13
        have hS13 := hSy w13 d _ C13.vt.lg.dk
        clear hA hd13 hSy cK fK hl12
        go_wp2_with fail
        refine hS13.mono ?_
        rintro e w14 ⟨rfl, hd14⟩
        have C14 := C13.did hd14
        have hO14 := hO w14 d _ C14.vt.lg.dk
        clear hS13 hd14 C13 hO
        go_wp2_with fail
        refine hO14.mono ?_
        rintro e w15 hop
        obtain ⟨rfl, hd15⟩ := OpenP.bad hop HV.out (by simp)
        have C15 := C14.did hd15
        clear hO14 hop hd15 C14
        go_wp2
        go_ret
        exact ⟨rfl, (C15.low.alloc C15.low.size _).alloc (by simp; have := C15.low.size; omega) _⟩

theorem walk (h : Hd) (s : Ent) (B : Option Addr) (c : Nat) (at_ : Int) (by_ : Int) (W : World) (hl : Lies W B s.d.length c s.d) (hm16 : 0 ≤ at_ ∧ at_ ≤ 65535) (hb : 0 ≤ by_ ∧ by_ ≤ 255) :
    Calls Tryz.prog 7 #[.agg #[.int .i64 h.t, .int .i64 h.v], entV s.i s.t B s.d.length c, .int .u16 at_, .int .u8 by_] W fun e w' => e = .returned (.bool true) ∧ Below W.heap.size W w' := by
  obtain ⟨m, rfl⟩ := Int.eq_ofNat_of_zero_le hm16.1
  obtain ⟨k, rfl⟩ := Int.eq_ofNat_of_zero_le hb.1
  have e : (k : Int) = (((UInt8.ofNat k).toNat : Nat) : Int) := by
    rw [UInt8.toNat_ofNat']
    have : k % 2 ^ 8 = k := Nat.mod_eq_of_lt (by omega)
    omega
  rw [e]
  by_cases hs : s.d.length ≤ 5000
  · by_cases hz : UInt8.ofNat k = 0
    · exact walk_no h s B c m _ W (.inr ⟨hs, hz⟩)
    · exact walk_yes h s B c m _ W hl hs hz (by omega)
  · exact walk_no h s B c m _ W (.inl (by omega))

end Go.Proofs.YtmeoooojmhhahaaGreat.vauTurned
