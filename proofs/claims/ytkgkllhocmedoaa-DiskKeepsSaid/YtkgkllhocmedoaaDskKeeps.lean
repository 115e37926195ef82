/- DiskKeeps' walk, over the program's contracts. -/
import Derived.Test.YtkgkllhocmedoaaDskPlays
namespace Go.Proofs.Ytkgkllhocmedoaa
open Go.RowKit
set_option linter.unusedVariables false
set_option linter.unusedSimpArgs false

/-- Behind the restart: the program's disk is D', the document's still D. -/
structure After (O : DiskOps) (w0 wr : World) (B d : Nat) (A : Option Addr) (cap : Nat) (D D' : Dsk) (Z2 : Nat → Prop) : Prop where
  dk : O.Dk wr d D' Z2
  good : Good D'
  lt : ∀ k, Z2 k → k < wr.heap.size
  rf : RF wr A cap D.l
  rz : InZ Z2 A D.l.length
  box : wr.heap[B]? = some (.cells (diskC A cap D) 31)
  bz : Z2 B
  old : ∀ k, k < w0.heap.size → Z2 k
  below : Below w0.heap.size w0 wr

theorem After.next {O : DiskOps} {w0 wr w5 : World} {B d : Nat} {A : Option Addr} {cap : Nat} {D D' : Dsk} {Z2 : Nat → Prop} (h : After O w0 wr B d A cap D D' Z2) (hk : Keeps Z2 wr w5) (hd : O.Dk w5 d D' Z2) : After O w0 w5 B d A cap D D' Z2 :=
  ⟨hd, h.good, fun k hz => Nat.lt_of_lt_of_le (h.lt k hz) hk.size, hk.rf h.rf h.rz, h.rz, (hk.block B (hlt h.box) h.bz).trans h.box, h.bz, h.old, below_keeps h.below hk h.old h.below.size⟩

theorem After.step {O : DiskOps} {w0 wr w5 : World} {B d : Nat} {A : Option Addr} {cap : Nat} {D D' : Dsk} {Z2 : Nat → Prop} (h : After O w0 wr B d A cap D D' Z2) (hb : Below wr.heap.size wr w5) : After O w0 w5 B d A cap D D' Z2 :=
  h.next (keeps_below hb (Nat.le_refl _)) (O.keep h.dk hb.size fun k hk _ => hb.block k hk)

/-- What is read of a file behind a restart: the first n bytes of it. -/
theorem read_back {D : Dsk} (hg : Good D) (Y : Nat → Int) (klen : Nat) {f : Fil} (hf : f ∈ D.l) : ∃ n, f.safe ≤ n ∧ n ≤ f.b.size ∧
    (D.restart Y klen).read f.name = (f.b.extract 0 n, if 0 < n then 0 else 6) ∧ (getF (D.restart Y klen).l f.name).1.safe = n := by
  have hl := restart_l D Y klen hg.fils
  obtain ⟨n, h1, h2, h3⟩ := backL_get Y klen D.l hg.fils 0 f hf
  have hG := backL_good Y klen D.l hg.fils 0
  have hr := (hg.fils.each f hf).2.2
  refine ⟨n, h1, h2, ?_⟩
  rw [← hl] at h3 hG
  rcases h3 with ⟨hp, hm⟩ | ⟨hz, hno⟩
  · have e := getF_mem hG.sort hm
    dsimp only at e
    rw [e, if_pos hp]
    have hread := read_of hm hG
    have hlost : (D.restart Y klen).lost = false := rfl
    rw [hlost] at hread
    exact ⟨hread, rfl⟩
  · subst hz
    have e := getF_none hno
    rw [e, if_neg (by omega)]
    refine ⟨?_, rfl⟩
    have hm : (D.restart Y klen).may f.name f.name = 0 := by
      unfold Dsk.may
      have hlost : (D.restart Y klen).lost = false := rfl
      simp [hlost, hr]
    unfold Dsk.read
    rw [hm, e]
    simp

set_option maxRecDepth 100000 in
set_option maxHeartbeats 3000000 in
theorem walk_keeps (O : DiskOps) (A1 : Option Addr) (len1 cap1 : Nat) (a : Nat → Act) (K : Option Addr) (klen kcap : Nat) (Y : Nat → Int) (w : World) (h1 : ActsIn w A1 len1 a) (hm : len1 ≤ maxLen) (hK : RI w K klen Y) (hkm : klen ≤ maxLen) (hkc : klen ≤ kcap) :
    Calls Try.prog 4 #[.slice A1 len1 cap1, .slice K klen kcap] w fun e w' => e = .returned (.bool true) ∧ Below w.heap.size w w' := by
  have hF := fun w1 h => few_any A1 len1 cap1 a 60 w1 h hm (by omega)
  unfold maxLen at hkm
  cases hfew : fewB a len1 60 with
  | false =>
    rw [hfew] at hF
    go_enter Try.func4, Try.ntmps4
    go_wp2_with fail
    refine (awake_any O _).mono ?_
    rintro e w1 ⟨rfl, hb1⟩
    go_wp2_with fail
    refine (hF _ (h1.below hb1)).mono ?_
    rintro e w2 ⟨rfl, rfl⟩
    go_wp2_with fail
    refine (awake_any O _).mono ?_
    rintro e w3 ⟨rfl, hb3⟩
    go_wp2
    go_ret
    exact ⟨rfl, hb1.trans (hb3.mono hb1.size)⟩
  | true =>
    obtain ⟨hlen, hfit⟩ := few_fit hfew
    rw [hfew] at hF
    clear hfew
    by_cases hbad : 20 < klen
    · have hbad' : (20 : Int) < (klen : Int) := by omega
      go_enter Try.func4, Try.ntmps4
      go_wp2_with fail
      refine (awake_any O _).mono ?_
      rintro e w1 ⟨rfl, hb1⟩
      go_wp2_with fail
      refine (hF _ (h1.below hb1)).mono ?_
      rintro e w2 ⟨rfl, rfl⟩
      go_wp2_with fail
      refine (awake_any O _).mono ?_
      rintro e w3 ⟨rfl, hb3⟩
      go_wp2
      go_ret
      exact ⟨rfl, hb1.trans (hb3.mono hb1.size)⟩
    · have hbad' : ¬ ((20 : Int) < (klen : Int)) := by omega
      have hN := fun w hl => O.new_ok 65536 w (fun k => k < w.heap.size) (by omega) (by omega) hl
      go_enter Try.func4, Try.ntmps4
      go_wp2_with fail
      refine (awake_any O _).mono ?_
      rintro e w1 ⟨rfl, hb1⟩
      go_wp2_with fail
      refine (hF _ (h1.below hb1)).mono ?_
      rintro e w2 ⟨rfl, rfl⟩
      go_wp2_with fail
      refine (hN _ (fun k hk => hk)).mono ?_
      rintro e w3 ⟨d, rfl, hd3, k3⟩
      have hst := doing_start O (room := 65536) hb1 k3 hd3 (by omega) (by omega)
      have hlen' : (len1 : Int) ≤ 60 := by omega
      clear hF hN hd3
      go_wp2
      generalize w3.alloc (.cells (diskC none 0 ⟨65536, [], false, 0, false⟩) 31) = W at hst ⊢
      generalize w3.heap.size = B at hst ⊢
      clear hb1 k3
      go_loopg [5, 8, 34] len1 (fun g x ok i wr => ∃ (k d : Nat) (A : Option Addr) (cap : Nat) (Z2 : Nat → Prop), i = .int .i64 (k : Int) ∧ k + g = len1 ∧ x = dptr d ∧ ok = .bool true ∧ Doing O w wr B d A cap (ons a 65536 k) Z2)
      case atStart => exact ⟨0, d, none, 0, _, rfl, by omega, rfl, rfl, hst⟩
      case round =>
        clear hst
        obtain ⟨k, d2, A, cap, Z2, rfl, hk, rfl, rfl, hS⟩ := hrel
        by_cases hlt : k < len1
        · have hlt' : (k : Int) < (len1 : Int) := by omega
          obtain ⟨b, off, rfl, hb, hc⟩ := h1.2 (by omega)
          obtain ⟨c0, c1, c2, c3, c4, c5⟩ := hc k hlt
          have hx : ∀ o, wr.cell? ⟨b, o, none⟩ = w.cell? ⟨b, o, none⟩ := fun o => hS.below.cell (p := ⟨b, o, none⟩) hb
          have e0 := (hx _).trans c0
          have e1 := (hx _).trans c1
          have e2 := (hx _).trans c2
          have e3 := (hx _).trans c3
          have e4 := (hx _).trans c4
          have e5 := (hx _).trans c5
          have hAct : ActIn wr Z2 (a k) := ((h1.1 k hlt).1.keeps (keeps_below hS.below (Nat.le_refl _))).mono hS.old
          have hft := hfit k hlt
          have hD := do_any O wr.drew d2 A cap (ons a 65536 k) Z2 (a k) (hS.al.keeps (keeps_below (Below.refl _ _).drew (Nat.le_refl _)) (O.keep hS.al.dk (Nat.le_refl _) (fun _ _ _ => rfl))) (hAct.keeps (keeps_below (Below.refl _ _).drew (Nat.le_refl _))) hft.2.2.1 hft.2.2.2 hft.1 hft.2.1
          have hon : (a k).on (ons a 65536 k) = ons a 65536 (k + 1) := rfl
          rw [hon] at hD
          obtain ⟨⟨a0, a1, a2, a3, a4⟩, ⟨b0, b1, b2, b3, b4⟩⟩ := row5 hS.box
          clear hc c0 c1 c2 c3 c4 c5 hx hAct hft hon hK
          have HC := Lib.hid h1
          have HFIT := Lib.hid hfit
          clear h1 hfit
          obtain ⟨D2, hD2⟩ : ∃ D2, ons a 65536 (k + 1) = D2 := ⟨_, rfl⟩
          rw [hD2] at hD
          generalize hD0 : ons a 65536 k = D1 at *
          clear hD0
          obtain ⟨room1, l1, set1, n1, lost1⟩ := D1
          obtain ⟨room2, l2, set2, n2, lost2⟩ := D2
          generalize a k = x at *
          obtain ⟨kind, name, to_, bA, bcap, bL, n, kA, kl, kcp, kY⟩ := x
          dsimp only at *
          go_upto_region 9 with (fail)
          go_cut [5, 8] (fun y ok wx => ∃ d' A' cap' Z', y = dptr d' ∧ ok = .bool true ∧ Doing O w wx B d' A' cap' ⟨room2, l2, set2, n2, lost2⟩ Z')
          case first =>
            go_region_with (first
                | (go_at_call 11
                   refine hD.mono ?_
                   rintro e w5 ⟨d5, A5, cap5, Z5, rfl, ha5, hz5, k5⟩
                   have hb5 := (k5.block B (Go.Proofs.Ytkgkllhocmedoaa.hlt hS.box) hS.bz).trans hS.box
                   obtain ⟨⟨p0, p1, p2, p3, p4⟩, ⟨q0, q1, q2, q3, q4⟩⟩ := row5 hb5
                   have hN5 := hS.next ha5 hz5 (Keeps.trans (keeps_below (Below.refl _ _).drew (Nat.le_refl _)) k5))
                | fail)
            all_goals
              go_wp2_with fail
              go_meet
              exact ⟨d5, A5, cap5, Z5, rfl, rfl, hN5⟩
          case rest =>
            clear e0 e1 e2 e3 e4 e5 a0 a1 a2 a3 a4 b0 b1 b2 b3 b4 hD hS
            obtain ⟨d5, A5, cap5, Z5, rfl, rfl, hN⟩ := hcut
            have HR := Lib.hid hD2
            clear hD2
            go_wp2
            go_roundg (gk - 1)
            case measure => omega
            case rel => exact ⟨k + 1, d5, A5, cap5, Z5, by go_num, by omega, rfl, rfl, by rw [HR.out]; exact hN⟩
        · obtain rfl : k = len1 := by omega
          have hdec : decide ((k : Int) < (k : Int)) = false := decide_eq_false (by omega)
          have hP := O.restart wr d2 _ Z2 K klen kcap Y hS.al.dk hS.al.good hS.al.lt (hK.below hS.below) (by omega) hkc (fun h0 a e q => by
            obtain ⟨b, off, e2, hb, _⟩ := hK.2 h0
            rw [e2] at e
            injection e with e
            subst e
            exact (O.own hS.al.dk).1 (q ▸ hS.old _ hb))
          generalize ons a 65536 k = D at hP hS
          have hback := fun f hf => read_back hS.al.good Y klen (f := f) hf
          have hright := fun f hf => rightS_size (hS.al.good.fils.each f hf).2.2
          have hln := hS.al.good.len
          have hll := (backL_used Y klen D.l (fun f hf => (hS.al.good.fils.each f hf).2.1) 0).2
          rw [← restart_l D Y klen hS.al.good.fils] at hll
          have hlost : (D.restart Y klen).lost = false := rfl
          have hgd := hS.al.good.restart Y klen
          generalize D.restart Y klen = D' at hP hback hll hlost hgd
          clear h1 hfit
          go_wp2_with fail
          refine hP.mono ?_
          rintro e w4 ⟨rfl, hd4, k4⟩
          have hA : After O w w4 B d2 A cap D D' Z2 := ⟨hd4, hgd, fun k hz => Nat.lt_of_lt_of_le (hS.al.lt k hz) k4.size, k4.rf hS.al.rf hS.al.rz, hS.al.rz, (k4.block B (Go.Proofs.Ytkgkllhocmedoaa.hlt hS.box) hS.bz).trans hS.box, hS.bz, hS.old, below_keeps hS.below k4 hS.old hS.below.size⟩
          obtain ⟨⟨a0, a1, a2, a3, a4⟩, _⟩ := row5 hA.box
          clear hP hd4 k4 hS hgd
          obtain ⟨room, l, set, n, lost⟩ := D
          dsimp only at *
          have hlen2 : (l.length : Int) ≤ 1048576 := by omega
          go_wp2
          clear a0 a1 a2 a3 a4
          go_loopg [57] l.length (fun g i wr => ∃ q : Nat, i = .int .i64 (q : Int) ∧ q + g = l.length ∧ After O w wr B d2 A cap ⟨room, l, set, n, lost⟩ D' Z2)
          case atStart => exact ⟨0, rfl, by omega, hA⟩
          case round =>
            clear hA
            obtain ⟨q, rfl, hq, hA⟩ := hrel
            obtain ⟨⟨a0, a1, a2, a3, a4⟩, _⟩ := row5 hA.box
            by_cases hltq : q < l.length
            · have hltq' : (q : Int) < (l.length : Int) := by omega
              obtain ⟨g, off, rfl, hg, hc⟩ := hA.rf.2 (by show 0 < l.length; omega)
              obtain ⟨e0, e1, e2⟩ := hc q hltq
              obtain ⟨nn, hs1, hs2, hread, hsafe⟩ := hback l[q] (List.getElem_mem hltq)
              have hfn := hright l[q] (List.getElem_mem hltq)
              clear hc
              have HB := Lib.hid hback
              have HRt := Lib.hid hright
              clear hback hright
              obtain ⟨f, hlk⟩ : ∃ f, l[q] = f := ⟨_, rfl⟩
              rw [hlk] at hs1 hs2 hread hsafe hfn e0 e1 e2
              clear hlk
              obtain ⟨fn, fb, fs⟩ := f
              dsimp only at *
              have hxb : Below wr.heap.size wr (wr.alloc (.cells #[.string fn, .string fb, .int .i64 (fs : Int)] 43)) := (Below.refl _ _).alloc (Nat.le_refl _) _
              have hX := hA.step hxb
              have hxf : (wr.alloc (.cells #[.string fn, .string fb, .int .i64 (fs : Int)] 43)).heap[wr.heap.size]? = some (.cells #[.string fn, .string fb, .int .i64 (fs : Int)] 43) := heap_alloc_new _ _
              have hdX : O.Dk (wr.alloc (.cells #[.string fn, .string fb, .int .i64 (fs : Int)] 43)) d2 D' (fun k => Z2 k ∨ k = wr.heap.size) := O.keep (O.out hA.dk (fun k hk => hk.imp id (fun e => Nat.le_of_eq e.symm))) hxb.size (fun k hk _ => hxb.block k hk)
              have hR := O.read _ d2 D' _ fn hdX hA.good (fun k hk => by
                rcases hk with hk | hk
                · exact hX.lt k hk
                · simp; omega) (by omega)
              have hsz : (fb.extract 0 nn).size = nn := extract_size _ _ hs2
              rw [hread] at hR
              dsimp only at hR
              rw [hsz] at hR
              clear hread
              go_wp2_with fail
              refine hR.mono ?_
              rintro e w5 ⟨rA, rcap, rfl, hl5, _, hd5, k5⟩
              have hA5 := hX.next (k5.mono fun k hk => .inl hk) (O.out hd5 (fun k hk => .inl (.inl (.inl hk))))
              have y0 := (k5.block wr.heap.size (by simp) (.inr rfl)).trans hxf
              have hSafe : ∀ wx, Below w5.heap.size w5 wx → Calls Try.prog 16 #[dptr d2, .string fn] wx fun e w' => e = .returned (.int .i64 (nn : Int)) ∧ Below w5.heap.size w5 w' := fun wx hb => by
                have := (O.safe wx d2 _ _ fn (O.keep hA5.dk hb.size (fun k hk _ => hb.block k hk)) hA5.good (fun k hk => Nat.lt_of_lt_of_le (hA5.lt k hk) hb.size) (by omega)).mono fun e w' h => And.intro h.1 (hb.trans (h.2.mono hb.size))
                rw [hsafe] at this
                exact this
              have hcv : ∀ wx, Below w5.heap.size w5 wx → (convert 34 9 (.slice rA nn rcap)).run Try.prog wx = .ok (.string (fb.extract 0 nn)) wx := fun wx hb => by
                have := Lies.text (w := wx) (hl5.below hb (Nat.le_refl _)) Try.underlying34 Try.underlying5 Try.underlying9
                have e : ∀ s : ByteArray, (⟨s.data.toList.toArray⟩ : ByteArray) = s := fun s => by simp
                rwa [e (fb.extract 0 nn)] at this
              have hcv5 := hcv w5.drew (Below.refl _ _).drew
              obtain ⟨⟨b0, b1, b2⟩, _⟩ := row3 y0
              have hs5 : wr.heap.size < w5.heap.size := Go.Proofs.Ytkgkllhocmedoaa.hlt y0
              have HA := Lib.hid (fun wx (hb : Below w5.heap.size w5 wx) => hA5.step hb)
              clear hX hxf hR hd5 k5 hl5 hdX hxb hA a0 a1 a2 a3 a4 e0 e1 e2 y0 hA5 hsafe hsz
              have q1 : ¬ ((nn : Int) < (fs : Int)) := by omega
              have q1d : decide ((nn : Int) < (fs : Int)) = false := decide_eq_false q1
              have q2d : decide ((fb.size : Int) < (nn : Int)) = false := decide_eq_false (by omega)
              have q1n : decide (nn < fs) = false := decide_eq_false (by omega)
              have q2n : decide (fb.size < nn) = false := decide_eq_false (by omega)
              have q2 : ¬ ((fb.size : Int) < (nn : Int)) := by omega
              by_cases hp : 0 < nn
              · rw [if_pos hp]
                go_wp2
                refine wp_region_held_drew (S := fun w' => (w'.cell? ⟨wr.heap.size, 0, none⟩ = some (.string fn) ∧ w'.cell? ⟨wr.heap.size, 1, none⟩ = some (.string fb) ∧ w'.cell? ⟨wr.heap.size, 2, none⟩ = some (.int .i64 (fs : Int))) ∧ (convert 34 9 (.slice rA nn rcap)).run Try.prog w' = .ok (.string (fb.extract 0 nn)) w') (by kernel_rfl) ?_ (fun hHeld => ?_)
                · exact ⟨⟨b0, b1, b2⟩, hcv5⟩
                change wpAnyH _ _ _ _ _ 41 #[false, false, false, false, false, false, false, false, false, false, false, false, false, false, false, false, false, false, false, false, false, false, false, false, false, false, false, false, false, false, false, false, false, false, false, false, false, false, false, false, false] _ _
                refine wpAnyH_take (i := 0) (oi := { dst := some 72, op := Go.Op.move (Go.Operand.tmp 13), type := 26, pos := "law.go:130", after := #[], guard := none }) (v := ?_) rfl (by kernel_rfl) (by kernel_rfl) (by kernel_rfl) (fun _ _ _ h => h) (Or.inl ⟨by rfl, ?_⟩) (by assumption) ?_
                rotate_left
                · ((intro w hSw; (try dsimp only at hSw); go_simp); (try with_reducible rfl))
                try simp only [Act.put, List.setIfInBounds_toArray, List.set_cons_zero, List.set_cons_succ]
                refine wpAnyH_take (i := 1) (oi := { dst := some 73, op := Go.Op.binOp Go.BinOp.neq 26 (Go.Operand.tmp 72) (Go.Operand.const (Go.Value.int Go.IntKind.i64 0)) 26, type := 4, pos := "law.go:130", after := #[{ on := 0, ground := Go.Ground.data }], guard := none }) (v := ?_) rfl (by kernel_rfl) (by kernel_rfl) (by kernel_rfl) (fun _ _ _ h => h) (Or.inl ⟨by rfl, ?_⟩) (by assumption) ?_
                rotate_left
                · ((intro w hSw; (try dsimp only at hSw); go_simp); (try with_reducible rfl))
                try simp only [Act.put, List.setIfInBounds_toArray, List.set_cons_zero, List.set_cons_succ]
                refine wpAnyH_take (i := 2) (oi := { dst := some 74, op := Go.Op.move (Go.Operand.tmp 73), type := 4, pos := "law.go:130", after := #[{ on := 1, ground := Go.Ground.data }], guard := none }) (v := ?_) rfl (by kernel_rfl) (by kernel_rfl) (by kernel_rfl) (fun _ _ _ h => h) (Or.inl ⟨by rfl, ?_⟩) (by assumption) ?_
                rotate_left
                · ((intro w hSw; (try dsimp only at hSw); go_simp); (try with_reducible rfl))
                try simp only [Act.put, List.setIfInBounds_toArray, List.set_cons_zero, List.set_cons_succ]
                refine wpAnyH_take (i := 3) (oi := { dst := some 75, op := Go.Op.fieldAddr 43 (Go.Operand.tmp 11) 2, type := 0, pos := "law.go:130", after := #[{ on := 2, ground := Go.Ground.guard }], guard := some (2, true) }) (v := undef) rfl (by kernel_rfl) (by kernel_rfl) (by kernel_rfl) (fun _ _ _ h => h) (Or.inr ⟨by rfl, rfl⟩) (by assumption) ?_
                try simp only [Act.put, List.setIfInBounds_toArray, List.set_cons_zero, List.set_cons_succ]
                refine wpAnyH_take (i := 4) (oi := { dst := some 76, op := Go.Op.load 3 (Go.Operand.tmp 75), type := 3, pos := "law.go:130", after := #[{ on := 3, ground := Go.Ground.data }, { on := 2, ground := Go.Ground.guard }], guard := some (2, true) }) (v := undef) rfl (by kernel_rfl) (by kernel_rfl) (by kernel_rfl) (fun _ _ _ h => h) (Or.inr ⟨by rfl, rfl⟩) (by assumption) ?_
                try simp only [Act.put, List.setIfInBounds_toArray, List.set_cons_zero, List.set_cons_succ]
                refine wpAnyH_take (i := 5) (oi := { dst := some 77, op := Go.Op.binOp Go.BinOp.gtr 3 (Go.Operand.tmp 76) (Go.Operand.const (Go.Value.int Go.IntKind.i64 0)) 3, type := 4, pos := "law.go:130", after := #[{ on := 4, ground := Go.Ground.data }, { on := 2, ground := Go.Ground.guard }], guard := some (2, true) }) (v := undef) rfl (by kernel_rfl) (by kernel_rfl) (by kernel_rfl) (fun _ _ _ h => h) (Or.inr ⟨by rfl, rfl⟩) (by assumption) ?_
                try simp only [Act.put, List.setIfInBounds_toArray, List.set_cons_zero, List.set_cons_succ]
                refine wpAnyH_take (i := 6) (oi := { dst := some 78, op := Go.Op.pick (Go.Operand.tmp 74) (Go.Operand.tmp 77) (Go.Operand.const (Go.Value.bool false)), type := 4, pos := "law.go:130", after := #[{ on := 2, ground := Go.Ground.data }, { on := 5, ground := Go.Ground.data }], guard := none }) (v := ?_) rfl (by kernel_rfl) (by kernel_rfl) (by kernel_rfl) (fun _ _ _ h => h) (Or.inl ⟨by rfl, ?_⟩) (by assumption) ?_
                rotate_left
                · ((intro w hSw; (try dsimp only at hSw); go_simp); (try with_reducible rfl))
                try simp only [Act.put, List.setIfInBounds_toArray, List.set_cons_zero, List.set_cons_succ, q1d, q2d, q1n, q2n]
                refine wpAnyH_take (i := 7) (oi := { dst := some 79, op := Go.Op.move (Go.Operand.tmp 78), type := 4, pos := "law.go:130", after := #[{ on := 6, ground := Go.Ground.data }, { on := 2, ground := Go.Ground.chain }], guard := none }) (v := ?_) rfl (by kernel_rfl) (by kernel_rfl) (by kernel_rfl) (fun _ _ _ h => h) (Or.inl ⟨by rfl, ?_⟩) (by assumption) ?_
                rotate_left
                · ((intro w hSw; (try dsimp only at hSw); go_simp); (try with_reducible rfl))
                try simp only [Act.put, List.setIfInBounds_toArray, List.set_cons_zero, List.set_cons_succ, q1d, q2d, q1n, q2n]
                refine wpAnyH_take (i := 8) (oi := { dst := some 80, op := Go.Op.move (Go.Operand.tmp 12), type := 34, pos := "law.go:130", after := #[{ on := 7, ground := Go.Ground.guard }], guard := some (7, false) }) (v := ?_) rfl (by kernel_rfl) (by kernel_rfl) (by kernel_rfl) (fun _ _ _ h => h) (Or.inl ⟨by rfl, ?_⟩) (by assumption) ?_
                rotate_left
                · ((intro w hSw; (try dsimp only at hSw); go_simp); (try with_reducible rfl))
                try simp only [Act.put, List.setIfInBounds_toArray, List.set_cons_zero, List.set_cons_succ, q1d, q2d, q1n, q2n]
                refine wpAnyH_take (i := 9) (oi := { dst := some 81, op := Go.Op.call { callee := Go.Callee.builtin Go.Builtin.len, args := #[Go.Operand.tmp 80], argTypes := #[34] }, type := 3, pos := "law.go:130", after := #[{ on := 8, ground := Go.Ground.data }, { on := 7, ground := Go.Ground.guard }], guard := some (7, false) }) (v := ?_) rfl (by kernel_rfl) (by kernel_rfl) (by kernel_rfl) (fun _ _ _ h => h) (Or.inl ⟨by rfl, ?_⟩) (by assumption) ?_
                rotate_left
                · ((intro w hSw; (try dsimp only at hSw); go_simp); (try with_reducible rfl))
                try simp only [Act.put, List.setIfInBounds_toArray, List.set_cons_zero, List.set_cons_succ, q1d, q2d, q1n, q2n]
                refine wpAnyH_take (i := 10) (oi := { dst := some 82, op := Go.Op.fieldAddr 43 (Go.Operand.tmp 11) 2, type := 0, pos := "law.go:130", after := #[{ on := 7, ground := Go.Ground.guard }], guard := some (7, false) }) (v := ?_) rfl (by kernel_rfl) (by kernel_rfl) (by kernel_rfl) (fun _ _ _ h => h) (Or.inl ⟨by rfl, ?_⟩) (by assumption) ?_
                rotate_left
                · ((intro w hSw; (try dsimp only at hSw); go_simp); (try with_reducible rfl))
                try simp only [Act.put, List.setIfInBounds_toArray, List.set_cons_zero, List.set_cons_succ, q1d, q2d, q1n, q2n]
                refine wpAnyH_take (i := 11) (oi := { dst := some 83, op := Go.Op.load 3 (Go.Operand.tmp 82), type := 3, pos := "law.go:130", after := #[{ on := 10, ground := Go.Ground.data }, { on := 7, ground := Go.Ground.guard }], guard := some (7, false) }) (v := ?_) rfl (by kernel_rfl) (by kernel_rfl) (by kernel_rfl) (fun _ _ _ h => h) (Or.inl ⟨by rfl, ?_⟩) (by assumption) ?_
                rotate_left
                · ((intro w hSw; (try dsimp only at hSw); go_simp); (try with_reducible rfl))
                try simp only [Act.put, List.setIfInBounds_toArray, List.set_cons_zero, List.set_cons_succ, q1d, q2d, q1n, q2n]
                refine wpAnyH_take (i := 12) (oi := { dst := some 84, op := Go.Op.binOp Go.BinOp.lss 3 (Go.Operand.tmp 81) (Go.Operand.tmp 83) 3, type := 4, pos := "law.go:130", after := #[{ on := 9, ground := Go.Ground.data }, { on := 11, ground := Go.Ground.data }, { on := 7, ground := Go.Ground.guard }], guard := some (7, false) }) (v := ?_) rfl (by kernel_rfl) (by kernel_rfl) (by kernel_rfl) (fun _ _ _ h => h) (Or.inl ⟨by rfl, ?_⟩) (by assumption) ?_
                rotate_left
                · ((intro w hSw; (try dsimp only at hSw); go_simp); (try with_reducible rfl))
                try simp only [Act.put, List.setIfInBounds_toArray, List.set_cons_zero, List.set_cons_succ, q1d, q2d, q1n, q2n]
                refine wpAnyH_take (i := 13) (oi := { dst := some 85, op := Go.Op.pick (Go.Operand.tmp 79) (Go.Operand.const (Go.Value.bool true)) (Go.Operand.tmp 84), type := 4, pos := "law.go:130", after := #[{ on := 7, ground := Go.Ground.data }, { on := 12, ground := Go.Ground.data }], guard := none }) (v := ?_) rfl (by kernel_rfl) (by kernel_rfl) (by kernel_rfl) (fun _ _ _ h => h) (Or.inl ⟨by rfl, ?_⟩) (by assumption) ?_
                rotate_left
                · ((intro w hSw; (try dsimp only at hSw); go_simp); (try with_reducible rfl))
                try simp only [Act.put, List.setIfInBounds_toArray, List.set_cons_zero, List.set_cons_succ, q1d, q2d, q1n, q2n]
                refine wpAnyH_take (i := 14) (oi := { dst := some 86, op := Go.Op.move (Go.Operand.tmp 85), type := 4, pos := "law.go:130", after := #[{ on := 13, ground := Go.Ground.data }, { on := 7, ground := Go.Ground.chain }], guard := none }) (v := ?_) rfl (by kernel_rfl) (by kernel_rfl) (by kernel_rfl) (fun _ _ _ h => h) (Or.inl ⟨by rfl, ?_⟩) (by assumption) ?_
                rotate_left
                · ((intro w hSw; (try dsimp only at hSw); go_simp); (try with_reducible rfl))
                try simp only [Act.put, List.setIfInBounds_toArray, List.set_cons_zero, List.set_cons_succ, q1d, q2d, q1n, q2n]
                refine wpAnyH_take (i := 15) (oi := { dst := some 87, op := Go.Op.move (Go.Operand.tmp 12), type := 34, pos := "law.go:130", after := #[{ on := 14, ground := Go.Ground.guard }], guard := some (14, false) }) (v := ?_) rfl (by kernel_rfl) (by kernel_rfl) (by kernel_rfl) (fun _ _ _ h => h) (Or.inl ⟨by rfl, ?_⟩) (by assumption) ?_
                rotate_left
                · ((intro w hSw; (try dsimp only at hSw); go_simp); (try with_reducible rfl))
                try simp only [Act.put, List.setIfInBounds_toArray, List.set_cons_zero, List.set_cons_succ, q1d, q2d, q1n, q2n]
                refine wpAnyH_take (i := 16) (oi := { dst := some 88, op := Go.Op.call { callee := Go.Callee.builtin Go.Builtin.len, args := #[Go.Operand.tmp 87], argTypes := #[34] }, type := 3, pos := "law.go:130", after := #[{ on := 15, ground := Go.Ground.data }, { on := 14, ground := Go.Ground.guard }], guard := some (14, false) }) (v := ?_) rfl (by kernel_rfl) (by kernel_rfl) (by kernel_rfl) (fun _ _ _ h => h) (Or.inl ⟨by rfl, ?_⟩) (by assumption) ?_
                rotate_left
                · ((intro w hSw; (try dsimp only at hSw); go_simp); (try with_reducible rfl))
                try simp only [Act.put, List.setIfInBounds_toArray, List.set_cons_zero, List.set_cons_succ, q1d, q2d, q1n, q2n]
                refine wpAnyH_take (i := 17) (oi := { dst := some 89, op := Go.Op.fieldAddr 43 (Go.Operand.tmp 11) 1, type := 0, pos := "law.go:130", after := #[{ on := 14, ground := Go.Ground.guard }], guard := some (14, false) }) (v := ?_) rfl (by kernel_rfl) (by kernel_rfl) (by kernel_rfl) (fun _ _ _ h => h) (Or.inl ⟨by rfl, ?_⟩) (by assumption) ?_
                rotate_left
                · ((intro w hSw; (try dsimp only at hSw); go_simp); (try with_reducible rfl))
                try simp only [Act.put, List.setIfInBounds_toArray, List.set_cons_zero, List.set_cons_succ, q1d, q2d, q1n, q2n]
                refine wpAnyH_take (i := 18) (oi := { dst := some 90, op := Go.Op.load 9 (Go.Operand.tmp 89), type := 9, pos := "law.go:130", after := #[{ on := 17, ground := Go.Ground.data }, { on := 14, ground := Go.Ground.guard }], guard := some (14, false) }) (v := ?_) rfl (by kernel_rfl) (by kernel_rfl) (by kernel_rfl) (fun _ _ _ h => h) (Or.inl ⟨by rfl, ?_⟩) (by assumption) ?_
                rotate_left
                · ((intro w hSw; (try dsimp only at hSw); go_simp); (try with_reducible rfl))
                try simp only [Act.put, List.setIfInBounds_toArray, List.set_cons_zero, List.set_cons_succ, q1d, q2d, q1n, q2n]
                refine wpAnyH_take (i := 19) (oi := { dst := some 91, op := Go.Op.call { callee := Go.Callee.builtin Go.Builtin.len, args := #[Go.Operand.tmp 90], argTypes := #[9] }, type := 3, pos := "law.go:130", after := #[{ on := 18, ground := Go.Ground.data }, { on := 14, ground := Go.Ground.guard }], guard := some (14, false) }) (v := ?_) rfl (by kernel_rfl) (by kernel_rfl) (by kernel_rfl) (fun _ _ _ h => h) (Or.inl ⟨by rfl, ?_⟩) (by assumption) ?_
                rotate_left
                · ((intro w hSw; (try dsimp only at hSw); go_simp); (try with_reducible rfl))
                try simp only [Act.put, List.setIfInBounds_toArray, List.set_cons_zero, List.set_cons_succ, q1d, q2d, q1n, q2n]
                refine wpAnyH_take (i := 20) (oi := { dst := some 92, op := Go.Op.binOp Go.BinOp.gtr 3 (Go.Operand.tmp 88) (Go.Operand.tmp 91) 3, type := 4, pos := "law.go:130", after := #[{ on := 16, ground := Go.Ground.data }, { on := 19, ground := Go.Ground.data }, { on := 14, ground := Go.Ground.guard }], guard := some (14, false) }) (v := ?_) rfl (by kernel_rfl) (by kernel_rfl) (by kernel_rfl) (fun _ _ _ h => h) (Or.inl ⟨by rfl, ?_⟩) (by assumption) ?_
                rotate_left
                · ((intro w hSw; (try dsimp only at hSw); go_simp); (try with_reducible rfl))
                try simp only [Act.put, List.setIfInBounds_toArray, List.set_cons_zero, List.set_cons_succ, q1d, q2d, q1n, q2n]
                refine wpAnyH_take (i := 21) (oi := { dst := some 93, op := Go.Op.pick (Go.Operand.tmp 86) (Go.Operand.const (Go.Value.bool true)) (Go.Operand.tmp 92), type := 4, pos := "law.go:130", after := #[{ on := 14, ground := Go.Ground.data }, { on := 20, ground := Go.Ground.data }], guard := none }) (v := ?_) rfl (by kernel_rfl) (by kernel_rfl) (by kernel_rfl) (fun _ _ _ h => h) (Or.inl ⟨by rfl, ?_⟩) (by assumption) ?_
                rotate_left
                · ((intro w hSw; (try dsimp only at hSw); go_simp); (try with_reducible rfl))
                try simp only [Act.put, List.setIfInBounds_toArray, List.set_cons_zero, List.set_cons_succ, q1d, q2d, q1n, q2n]
                refine wpAnyH_take (i := 22) (oi := { dst := some 94, op := Go.Op.move (Go.Operand.tmp 93), type := 4, pos := "law.go:130", after := #[{ on := 21, ground := Go.Ground.data }, { on := 14, ground := Go.Ground.chain }], guard := none }) (v := ?_) rfl (by kernel_rfl) (by kernel_rfl) (by kernel_rfl) (fun _ _ _ h => h) (Or.inl ⟨by rfl, ?_⟩) (by assumption) ?_
                rotate_left
                · ((intro w hSw; (try dsimp only at hSw); go_simp); (try with_reducible rfl))
                try simp only [Act.put, List.setIfInBounds_toArray, List.set_cons_zero, List.set_cons_succ, q1d, q2d, q1n, q2n]
                refine wpAnyH_take (i := 23) (oi := { dst := some 95, op := Go.Op.move (Go.Operand.tmp 12), type := 34, pos := "law.go:130", after := #[{ on := 22, ground := Go.Ground.guard }], guard := some (22, false) }) (v := ?_) rfl (by kernel_rfl) (by kernel_rfl) (by kernel_rfl) (fun _ _ _ h => h) (Or.inl ⟨by rfl, ?_⟩) (by assumption) ?_
                rotate_left
                · ((intro w hSw; (try dsimp only at hSw); go_simp); (try with_reducible rfl))
                try simp only [Act.put, List.setIfInBounds_toArray, List.set_cons_zero, List.set_cons_succ, q1d, q2d, q1n, q2n]
                refine wpAnyH_take (i := 24) (oi := { dst := some 96, op := Go.Op.convert 34 9 (Go.Operand.tmp 95), type := 9, pos := "law.go:130", after := #[{ on := 23, ground := Go.Ground.data }, { on := 22, ground := Go.Ground.guard }], guard := some (22, false) }) (v := ?_) rfl (by kernel_rfl) (by kernel_rfl) (by kernel_rfl) (fun _ _ _ h => h) (Or.inl ⟨by rfl, ?_⟩) (by assumption) ?_
                rotate_left
                · ((intro w hSw; (try dsimp only at hSw); go_simp); (try with_reducible rfl))
                try simp only [Act.put, List.setIfInBounds_toArray, List.set_cons_zero, List.set_cons_succ, q1d, q2d, q1n, q2n]
                refine wpAnyH_take (i := 25) (oi := { dst := some 97, op := Go.Op.fieldAddr 43 (Go.Operand.tmp 11) 1, type := 0, pos := "law.go:130", after := #[{ on := 22, ground := Go.Ground.guard }], guard := some (22, false) }) (v := ?_) rfl (by kernel_rfl) (by kernel_rfl) (by kernel_rfl) (fun _ _ _ h => h) (Or.inl ⟨by rfl, ?_⟩) (by assumption) ?_
                rotate_left
                · ((intro w hSw; (try dsimp only at hSw); go_simp); (try with_reducible rfl))
                try simp only [Act.put, List.setIfInBounds_toArray, List.set_cons_zero, List.set_cons_succ, q1d, q2d, q1n, q2n]
                refine wpAnyH_take (i := 26) (oi := { dst := some 98, op := Go.Op.load 9 (Go.Operand.tmp 97), type := 9, pos := "law.go:130", after := #[{ on := 25, ground := Go.Ground.data }, { on := 22, ground := Go.Ground.guard }], guard := some (22, false) }) (v := ?_) rfl (by kernel_rfl) (by kernel_rfl) (by kernel_rfl) (fun _ _ _ h => h) (Or.inl ⟨by rfl, ?_⟩) (by assumption) ?_
                rotate_left
                · ((intro w hSw; (try dsimp only at hSw); go_simp); (try with_reducible rfl))
                try simp only [Act.put, List.setIfInBounds_toArray, List.set_cons_zero, List.set_cons_succ, q1d, q2d, q1n, q2n]
                refine wpAnyH_take (i := 27) (oi := { dst := some 99, op := Go.Op.move (Go.Operand.tmp 12), type := 34, pos := "law.go:130", after := #[{ on := 22, ground := Go.Ground.guard }], guard := some (22, false) }) (v := ?_) rfl (by kernel_rfl) (by kernel_rfl) (by kernel_rfl) (fun _ _ _ h => h) (Or.inl ⟨by rfl, ?_⟩) (by assumption) ?_
                rotate_left
                · ((intro w hSw; (try dsimp only at hSw); go_simp); (try with_reducible rfl))
                try simp only [Act.put, List.setIfInBounds_toArray, List.set_cons_zero, List.set_cons_succ, q1d, q2d, q1n, q2n]
                refine wpAnyH_take (i := 28) (oi := { dst := some 100, op := Go.Op.call { callee := Go.Callee.builtin Go.Builtin.len, args := #[Go.Operand.tmp 99], argTypes := #[34] }, type := 3, pos := "law.go:130", after := #[{ on := 27, ground := Go.Ground.data }, { on := 22, ground := Go.Ground.guard }], guard := some (22, false) }) (v := ?_) rfl (by kernel_rfl) (by kernel_rfl) (by kernel_rfl) (fun _ _ _ h => h) (Or.inl ⟨by rfl, ?_⟩) (by assumption) ?_
                rotate_left
                · ((intro w hSw; (try dsimp only at hSw); go_simp); (try with_reducible rfl))
                try simp only [Act.put, List.setIfInBounds_toArray, List.set_cons_zero, List.set_cons_succ, q1d, q2d, q1n, q2n]
                refine wpAnyH_take (i := 29) (oi := { dst := some 101, op := Go.Op.slice 9 (Go.Operand.tmp 98) none (some (Go.Operand.tmp 100)) none, type := 9, pos := "law.go:130", after := #[{ on := 26, ground := Go.Ground.data }, { on := 28, ground := Go.Ground.data }, { on := 22, ground := Go.Ground.guard }], guard := some (22, false) }) (v := ?_) rfl (by kernel_rfl) (by kernel_rfl) (by kernel_rfl) (fun _ _ _ h => h) (Or.inl ⟨by rfl, ?_⟩) (by assumption) ?_
                rotate_left
                · ((intro w hSw; (try dsimp only at hSw); go_simp); (try with_reducible rfl))
                try simp only [Act.put, List.setIfInBounds_toArray, List.set_cons_zero, List.set_cons_succ, q1d, q2d, q1n, q2n]
                refine wpAnyH_take (i := 30) (oi := { dst := some 102, op := Go.Op.binOp Go.BinOp.neq 9 (Go.Operand.tmp 96) (Go.Operand.tmp 101) 9, type := 4, pos := "law.go:130", after := #[{ on := 24, ground := Go.Ground.data }, { on := 29, ground := Go.Ground.data }, { on := 22, ground := Go.Ground.guard }], guard := some (22, false) }) (v := ?_) rfl (by kernel_rfl) (by kernel_rfl) (by kernel_rfl) (fun _ _ _ h => h) (Or.inl ⟨by rfl, ?_⟩) (by assumption) ?_
                rotate_left
                · ((intro w hSw; (try dsimp only at hSw); go_simp); (try with_reducible rfl))
                try simp only [Act.put, List.setIfInBounds_toArray, List.set_cons_zero, List.set_cons_succ, q1d, q2d, q1n, q2n]
                refine wpAnyH_take (i := 31) (oi := { dst := some 103, op := Go.Op.pick (Go.Operand.tmp 94) (Go.Operand.const (Go.Value.bool true)) (Go.Operand.tmp 102), type := 4, pos := "law.go:130", after := #[{ on := 22, ground := Go.Ground.data }, { on := 30, ground := Go.Ground.data }], guard := none }) (v := ?_) rfl (by kernel_rfl) (by kernel_rfl) (by kernel_rfl) (fun _ _ _ h => h) (Or.inl ⟨by rfl, ?_⟩) (by assumption) ?_
                rotate_left
                · ((intro w hSw; (try dsimp only at hSw); go_simp); (try with_reducible rfl))
                try simp only [Act.put, List.setIfInBounds_toArray, List.set_cons_zero, List.set_cons_succ, q1d, q2d, q1n, q2n]
                refine wpAnyH_take (i := 32) (oi := { dst := some 104, op := Go.Op.move (Go.Operand.tmp 103), type := 4, pos := "law.go:130", after := #[{ on := 31, ground := Go.Ground.data }, { on := 22, ground := Go.Ground.chain }], guard := none }) (v := ?_) rfl (by kernel_rfl) (by kernel_rfl) (by kernel_rfl) (fun _ _ _ h => h) (Or.inl ⟨by rfl, ?_⟩) (by assumption) ?_
                rotate_left
                · ((intro w hSw; (try dsimp only at hSw); go_simp); (try with_reducible rfl))
                try simp only [Act.put, List.setIfInBounds_toArray, List.set_cons_zero, List.set_cons_succ, q1d, q2d, q1n, q2n]
                refine wpAnyH_take (i := 33) (oi := { dst := some 105, op := Go.Op.move (Go.Operand.tmp 5), type := 25, pos := "law.go:130", after := #[{ on := 32, ground := Go.Ground.guard }], guard := some (32, false) }) (v := ?_) rfl (by kernel_rfl) (by kernel_rfl) (by kernel_rfl) (fun _ _ _ h => h) (Or.inl ⟨by rfl, ?_⟩) (by assumption) ?_
                rotate_left
                · ((intro w hSw; (try dsimp only at hSw); go_simp); (try with_reducible rfl))
                try simp only [Act.put, List.setIfInBounds_toArray, List.set_cons_zero, List.set_cons_succ, q1d, q2d, q1n, q2n]
                refine wpAnyH_take (i := 34) (oi := { dst := some 106, op := Go.Op.fieldAddr 43 (Go.Operand.tmp 11) 0, type := 0, pos := "law.go:130", after := #[{ on := 32, ground := Go.Ground.guard }], guard := some (32, false) }) (v := ?_) rfl (by kernel_rfl) (by kernel_rfl) (by kernel_rfl) (fun _ _ _ h => h) (Or.inl ⟨by rfl, ?_⟩) (by assumption) ?_
                rotate_left
                · ((intro w hSw; (try dsimp only at hSw); go_simp); (try with_reducible rfl))
                try simp only [Act.put, List.setIfInBounds_toArray, List.set_cons_zero, List.set_cons_succ, q1d, q2d, q1n, q2n]
                refine wpAnyH_take (i := 35) (oi := { dst := some 107, op := Go.Op.load 9 (Go.Operand.tmp 106), type := 9, pos := "law.go:130", after := #[{ on := 34, ground := Go.Ground.data }, { on := 32, ground := Go.Ground.guard }], guard := some (32, false) }) (v := ?_) rfl (by kernel_rfl) (by kernel_rfl) (by kernel_rfl) (fun _ _ _ h => h) (Or.inl ⟨by rfl, ?_⟩) (by assumption) ?_
                rotate_left
                · ((intro w hSw; (try dsimp only at hSw); go_simp); (try with_reducible rfl))
                try simp only [Act.put, List.setIfInBounds_toArray, List.set_cons_zero, List.set_cons_succ, q1d, q2d, q1n, q2n]
                refine wpAnyH_take (i := 37) (oi := { dst := some 109, op := Go.Op.move (Go.Operand.tmp 12), type := 34, pos := "law.go:130", after := #[{ on := 32, ground := Go.Ground.guard }], guard := some (32, false) }) (v := ?_) rfl (by kernel_rfl) (by kernel_rfl) (by kernel_rfl) (fun _ _ _ h => h) (Or.inl ⟨by rfl, ?_⟩) (by assumption) ?_
                rotate_left
                · ((intro w hSw; (try dsimp only at hSw); go_simp); (try with_reducible rfl))
                try simp only [Act.put, List.setIfInBounds_toArray, List.set_cons_zero, List.set_cons_succ, q1d, q2d, q1n, q2n]
                refine wpAnyH_take (i := 38) (oi := { dst := some 110, op := Go.Op.call { callee := Go.Callee.builtin Go.Builtin.len, args := #[Go.Operand.tmp 109], argTypes := #[34] }, type := 3, pos := "law.go:130", after := #[{ on := 37, ground := Go.Ground.data }, { on := 32, ground := Go.Ground.guard }], guard := some (32, false) }) (v := ?_) rfl (by kernel_rfl) (by kernel_rfl) (by kernel_rfl) (fun _ _ _ h => h) (Or.inl ⟨by rfl, ?_⟩) (by assumption) ?_
                rotate_left
                · ((intro w hSw; (try dsimp only at hSw); go_simp); (try with_reducible rfl))
                try simp only [Act.put, List.setIfInBounds_toArray, List.set_cons_zero, List.set_cons_succ, q1d, q2d, q1n, q2n]
                refine wpAnyH_ready (rs := [36]) (by kernel_rfl) (by simp) ?_
                refine AllReadyH.cons rfl (fun K hK => ?_) AllReadyH.nil
                go_simp
                refine (hSafe _ (by repeat (first | exact Below.refl _ _ | apply Below.drew))).mono ?_
                rintro e w6 ⟨rfl, hb6⟩
                have s0 := (hb6.cell (p := ⟨wr.heap.size, 0, none⟩) hs5).trans b0
                have s1 := (hb6.cell (p := ⟨wr.heap.size, 1, none⟩) hs5).trans b1
                have s2 := (hb6.cell (p := ⟨wr.heap.size, 2, none⟩) hs5).trans b2
                refine hK.out _ _ ⟨⟨s0, s1, s2⟩, hcv w6 hb6⟩ (fun hHeld6 => ?_)
                clear hK K hHeld
                try simp only [Act.put, List.setIfInBounds_toArray, List.set_cons_zero, List.set_cons_succ]
                refine wpAnyH_take (i := 39) (oi := { dst := some 111, op := Go.Op.binOp Go.BinOp.neq 3 (Go.Operand.tmp 108) (Go.Operand.tmp 110) 3, type := 4, pos := "law.go:130", after := #[{ on := 36, ground := Go.Ground.data }, { on := 38, ground := Go.Ground.data }, { on := 32, ground := Go.Ground.guard }], guard := some (32, false) }) (v := ?_) rfl (by kernel_rfl) (by kernel_rfl) (by kernel_rfl) (fun _ _ _ h => h) (Or.inl ⟨by rfl, ?_⟩) (by assumption) ?_
                rotate_left
                · ((intro w hSw; (try dsimp only at hSw); go_simp); (try with_reducible rfl))
                try simp only [Act.put, List.setIfInBounds_toArray, List.set_cons_zero, List.set_cons_succ]
                refine wpAnyH_take (i := 40) (oi := { dst := some 112, op := Go.Op.pick (Go.Operand.tmp 104) (Go.Operand.const (Go.Value.bool true)) (Go.Operand.tmp 111), type := 4, pos := "law.go:130", after := #[{ on := 32, ground := Go.Ground.data }, { on := 39, ground := Go.Ground.data }], guard := none }) (v := ?_) rfl (by kernel_rfl) (by kernel_rfl) (by kernel_rfl) (fun _ _ _ h => h) (Or.inl ⟨by rfl, ?_⟩) (by assumption) ?_
                rotate_left
                · ((intro w hSw; (try dsimp only at hSw); go_simp); (try with_reducible rfl))
                try simp only [Act.put, List.setIfInBounds_toArray, List.set_cons_zero, List.set_cons_succ]
                refine wpAnyH_done (by kernel_rfl) ?_ _
                go_wp2
                go_roundg (gk - 1)
                case measure => omega
                case rel => exact ⟨q + 1, by go_num, by omega, HA.out _ hb6⟩
              · rw [if_neg hp]
                obtain rfl : fs = 0 := by omega
                obtain rfl : nn = 0 := by omega
                go_wp2
                refine wp_region_held_drew (S := fun w' => (w'.cell? ⟨wr.heap.size, 0, none⟩ = some (.string fn) ∧ w'.cell? ⟨wr.heap.size, 1, none⟩ = some (.string fb) ∧ w'.cell? ⟨wr.heap.size, 2, none⟩ = some (.int .i64 ((0 : Nat) : Int))) ∧ (convert 34 9 (.slice rA 0 rcap)).run Try.prog w' = .ok (.string (fb.extract 0 0)) w') (by kernel_rfl) ?_ (fun hHeld => ?_)
                · exact ⟨⟨b0, b1, b2⟩, hcv5⟩
                change wpAnyH _ _ _ _ _ 41 #[false, false, false, false, false, false, false, false, false, false, false, false, false, false, false, false, false, false, false, false, false, false, false, false, false, false, false, false, false, false, false, false, false, false, false, false, false, false, false, false, false] _ _
                refine wpAnyH_take (i := 0) (oi := { dst := some 72, op := Go.Op.move (Go.Operand.tmp 13), type := 26, pos := "law.go:130", after := #[], guard := none }) (v := ?_) rfl (by kernel_rfl) (by kernel_rfl) (by kernel_rfl) (fun _ _ _ h => h) (Or.inl ⟨by rfl, ?_⟩) (by assumption) ?_
                rotate_left
                · ((intro w hSw; (try dsimp only at hSw); go_simp); (try with_reducible rfl))
                try simp only [Act.put, List.setIfInBounds_toArray, List.set_cons_zero, List.set_cons_succ]
                refine wpAnyH_take (i := 1) (oi := { dst := some 73, op := Go.Op.binOp Go.BinOp.neq 26 (Go.Operand.tmp 72) (Go.Operand.const (Go.Value.int Go.IntKind.i64 0)) 26, type := 4, pos := "law.go:130", after := #[{ on := 0, ground := Go.Ground.data }], guard := none }) (v := ?_) rfl (by kernel_rfl) (by kernel_rfl) (by kernel_rfl) (fun _ _ _ h => h) (Or.inl ⟨by rfl, ?_⟩) (by assumption) ?_
                rotate_left
                · ((intro w hSw; (try dsimp only at hSw); go_simp); (try with_reducible rfl))
                try simp only [Act.put, List.setIfInBounds_toArray, List.set_cons_zero, List.set_cons_succ]
                refine wpAnyH_take (i := 2) (oi := { dst := some 74, op := Go.Op.move (Go.Operand.tmp 73), type := 4, pos := "law.go:130", after := #[{ on := 1, ground := Go.Ground.data }], guard := none }) (v := ?_) rfl (by kernel_rfl) (by kernel_rfl) (by kernel_rfl) (fun _ _ _ h => h) (Or.inl ⟨by rfl, ?_⟩) (by assumption) ?_
                rotate_left
                · ((intro w hSw; (try dsimp only at hSw); go_simp); (try with_reducible rfl))
                try simp only [Act.put, List.setIfInBounds_toArray, List.set_cons_zero, List.set_cons_succ]
                refine wpAnyH_take (i := 3) (oi := { dst := some 75, op := Go.Op.fieldAddr 43 (Go.Operand.tmp 11) 2, type := 0, pos := "law.go:130", after := #[{ on := 2, ground := Go.Ground.guard }], guard := some (2, true) }) (v := ?_) rfl (by kernel_rfl) (by kernel_rfl) (by kernel_rfl) (fun _ _ _ h => h) (Or.inl ⟨by rfl, ?_⟩) (by assumption) ?_
                rotate_left
                · ((intro w hSw; (try dsimp only at hSw); go_simp); (try with_reducible rfl))
                try simp only [Act.put, List.setIfInBounds_toArray, List.set_cons_zero, List.set_cons_succ]
                refine wpAnyH_take (i := 4) (oi := { dst := some 76, op := Go.Op.load 3 (Go.Operand.tmp 75), type := 3, pos := "law.go:130", after := #[{ on := 3, ground := Go.Ground.data }, { on := 2, ground := Go.Ground.guard }], guard := some (2, true) }) (v := ?_) rfl (by kernel_rfl) (by kernel_rfl) (by kernel_rfl) (fun _ _ _ h => h) (Or.inl ⟨by rfl, ?_⟩) (by assumption) ?_
                rotate_left
                · ((intro w hSw; (try dsimp only at hSw); go_simp); (try with_reducible rfl))
                try simp only [Act.put, List.setIfInBounds_toArray, List.set_cons_zero, List.set_cons_succ]
                refine wpAnyH_take (i := 5) (oi := { dst := some 77, op := Go.Op.binOp Go.BinOp.gtr 3 (Go.Operand.tmp 76) (Go.Operand.const (Go.Value.int Go.IntKind.i64 0)) 3, type := 4, pos := "law.go:130", after := #[{ on := 4, ground := Go.Ground.data }, { on := 2, ground := Go.Ground.guard }], guard := some (2, true) }) (v := ?_) rfl (by kernel_rfl) (by kernel_rfl) (by kernel_rfl) (fun _ _ _ h => h) (Or.inl ⟨by rfl, ?_⟩) (by assumption) ?_
                rotate_left
                · ((intro w hSw; (try dsimp only at hSw); go_simp); (try with_reducible rfl))
                try simp only [Act.put, List.setIfInBounds_toArray, List.set_cons_zero, List.set_cons_succ]
                refine wpAnyH_take (i := 6) (oi := { dst := some 78, op := Go.Op.pick (Go.Operand.tmp 74) (Go.Operand.tmp 77) (Go.Operand.const (Go.Value.bool false)), type := 4, pos := "law.go:130", after := #[{ on := 2, ground := Go.Ground.data }, { on := 5, ground := Go.Ground.data }], guard := none }) (v := ?_) rfl (by kernel_rfl) (by kernel_rfl) (by kernel_rfl) (fun _ _ _ h => h) (Or.inl ⟨by rfl, ?_⟩) (by assumption) ?_
                rotate_left
                · ((intro w hSw; (try dsimp only at hSw); go_simp); (try with_reducible rfl))
                try simp only [Act.put, List.setIfInBounds_toArray, List.set_cons_zero, List.set_cons_succ]
                refine wpAnyH_take (i := 7) (oi := { dst := some 79, op := Go.Op.move (Go.Operand.tmp 78), type := 4, pos := "law.go:130", after := #[{ on := 6, ground := Go.Ground.data }, { on := 2, ground := Go.Ground.chain }], guard := none }) (v := ?_) rfl (by kernel_rfl) (by kernel_rfl) (by kernel_rfl) (fun _ _ _ h => h) (Or.inl ⟨by rfl, ?_⟩) (by assumption) ?_
                rotate_left
                · ((intro w hSw; (try dsimp only at hSw); go_simp); (try with_reducible rfl))
                try simp only [Act.put, List.setIfInBounds_toArray, List.set_cons_zero, List.set_cons_succ]
                refine wpAnyH_take (i := 8) (oi := { dst := some 80, op := Go.Op.move (Go.Operand.tmp 12), type := 34, pos := "law.go:130", after := #[{ on := 7, ground := Go.Ground.guard }], guard := some (7, false) }) (v := ?_) rfl (by kernel_rfl) (by kernel_rfl) (by kernel_rfl) (fun _ _ _ h => h) (Or.inl ⟨by rfl, ?_⟩) (by assumption) ?_
                rotate_left
                · ((intro w hSw; (try dsimp only at hSw); go_simp); (try with_reducible rfl))
                try simp only [Act.put, List.setIfInBounds_toArray, List.set_cons_zero, List.set_cons_succ]
                refine wpAnyH_take (i := 9) (oi := { dst := some 81, op := Go.Op.call { callee := Go.Callee.builtin Go.Builtin.len, args := #[Go.Operand.tmp 80], argTypes := #[34] }, type := 3, pos := "law.go:130", after := #[{ on := 8, ground := Go.Ground.data }, { on := 7, ground := Go.Ground.guard }], guard := some (7, false) }) (v := ?_) rfl (by kernel_rfl) (by kernel_rfl) (by kernel_rfl) (fun _ _ _ h => h) (Or.inl ⟨by rfl, ?_⟩) (by assumption) ?_
                rotate_left
                · ((intro w hSw; (try dsimp only at hSw); go_simp); (try with_reducible rfl))
                try simp only [Act.put, List.setIfInBounds_toArray, List.set_cons_zero, List.set_cons_succ]
                refine wpAnyH_take (i := 10) (oi := { dst := some 82, op := Go.Op.fieldAddr 43 (Go.Operand.tmp 11) 2, type := 0, pos := "law.go:130", after := #[{ on := 7, ground := Go.Ground.guard }], guard := some (7, false) }) (v := ?_) rfl (by kernel_rfl) (by kernel_rfl) (by kernel_rfl) (fun _ _ _ h => h) (Or.inl ⟨by rfl, ?_⟩) (by assumption) ?_
                rotate_left
                · ((intro w hSw; (try dsimp only at hSw); go_simp); (try with_reducible rfl))
                try simp only [Act.put, List.setIfInBounds_toArray, List.set_cons_zero, List.set_cons_succ]
                refine wpAnyH_take (i := 11) (oi := { dst := some 83, op := Go.Op.load 3 (Go.Operand.tmp 82), type := 3, pos := "law.go:130", after := #[{ on := 10, ground := Go.Ground.data }, { on := 7, ground := Go.Ground.guard }], guard := some (7, false) }) (v := ?_) rfl (by kernel_rfl) (by kernel_rfl) (by kernel_rfl) (fun _ _ _ h => h) (Or.inl ⟨by rfl, ?_⟩) (by assumption) ?_
                rotate_left
                · ((intro w hSw; (try dsimp only at hSw); go_simp); (try with_reducible rfl))
                try simp only [Act.put, List.setIfInBounds_toArray, List.set_cons_zero, List.set_cons_succ]
                refine wpAnyH_take (i := 12) (oi := { dst := some 84, op := Go.Op.binOp Go.BinOp.lss 3 (Go.Operand.tmp 81) (Go.Operand.tmp 83) 3, type := 4, pos := "law.go:130", after := #[{ on := 9, ground := Go.Ground.data }, { on := 11, ground := Go.Ground.data }, { on := 7, ground := Go.Ground.guard }], guard := some (7, false) }) (v := ?_) rfl (by kernel_rfl) (by kernel_rfl) (by kernel_rfl) (fun _ _ _ h => h) (Or.inl ⟨by rfl, ?_⟩) (by assumption) ?_
                rotate_left
                · ((intro w hSw; (try dsimp only at hSw); go_simp); (try with_reducible rfl))
                try simp only [Act.put, List.setIfInBounds_toArray, List.set_cons_zero, List.set_cons_succ]
                refine wpAnyH_take (i := 13) (oi := { dst := some 85, op := Go.Op.pick (Go.Operand.tmp 79) (Go.Operand.const (Go.Value.bool true)) (Go.Operand.tmp 84), type := 4, pos := "law.go:130", after := #[{ on := 7, ground := Go.Ground.data }, { on := 12, ground := Go.Ground.data }], guard := none }) (v := ?_) rfl (by kernel_rfl) (by kernel_rfl) (by kernel_rfl) (fun _ _ _ h => h) (Or.inl ⟨by rfl, ?_⟩) (by assumption) ?_
                rotate_left
                · ((intro w hSw; (try dsimp only at hSw); go_simp); (try with_reducible rfl))
                try simp only [Act.put, List.setIfInBounds_toArray, List.set_cons_zero, List.set_cons_succ]
                refine wpAnyH_take (i := 14) (oi := { dst := some 86, op := Go.Op.move (Go.Operand.tmp 85), type := 4, pos := "law.go:130", after := #[{ on := 13, ground := Go.Ground.data }, { on := 7, ground := Go.Ground.chain }], guard := none }) (v := ?_) rfl (by kernel_rfl) (by kernel_rfl) (by kernel_rfl) (fun _ _ _ h => h) (Or.inl ⟨by rfl, ?_⟩) (by assumption) ?_
                rotate_left
                · ((intro w hSw; (try dsimp only at hSw); go_simp); (try with_reducible rfl))
                try simp only [Act.put, List.setIfInBounds_toArray, List.set_cons_zero, List.set_cons_succ]
                refine wpAnyH_take (i := 15) (oi := { dst := some 87, op := Go.Op.move (Go.Operand.tmp 12), type := 34, pos := "law.go:130", after := #[{ on := 14, ground := Go.Ground.guard }], guard := some (14, false) }) (v := ?_) rfl (by kernel_rfl) (by kernel_rfl) (by kernel_rfl) (fun _ _ _ h => h) (Or.inl ⟨by rfl, ?_⟩) (by assumption) ?_
                rotate_left
                · ((intro w hSw; (try dsimp only at hSw); go_simp); (try with_reducible rfl))
                try simp only [Act.put, List.setIfInBounds_toArray, List.set_cons_zero, List.set_cons_succ]
                refine wpAnyH_take (i := 16) (oi := { dst := some 88, op := Go.Op.call { callee := Go.Callee.builtin Go.Builtin.len, args := #[Go.Operand.tmp 87], argTypes := #[34] }, type := 3, pos := "law.go:130", after := #[{ on := 15, ground := Go.Ground.data }, { on := 14, ground := Go.Ground.guard }], guard := some (14, false) }) (v := ?_) rfl (by kernel_rfl) (by kernel_rfl) (by kernel_rfl) (fun _ _ _ h => h) (Or.inl ⟨by rfl, ?_⟩) (by assumption) ?_
                rotate_left
                · ((intro w hSw; (try dsimp only at hSw); go_simp); (try with_reducible rfl))
                try simp only [Act.put, List.setIfInBounds_toArray, List.set_cons_zero, List.set_cons_succ]
                refine wpAnyH_take (i := 17) (oi := { dst := some 89, op := Go.Op.fieldAddr 43 (Go.Operand.tmp 11) 1, type := 0, pos := "law.go:130", after := #[{ on := 14, ground := Go.Ground.guard }], guard := some (14, false) }) (v := ?_) rfl (by kernel_rfl) (by kernel_rfl) (by kernel_rfl) (fun _ _ _ h => h) (Or.inl ⟨by rfl, ?_⟩) (by assumption) ?_
                rotate_left
                · ((intro w hSw; (try dsimp only at hSw); go_simp); (try with_reducible rfl))
                try simp only [Act.put, List.setIfInBounds_toArray, List.set_cons_zero, List.set_cons_succ]
                refine wpAnyH_take (i := 18) (oi := { dst := some 90, op := Go.Op.load 9 (Go.Operand.tmp 89), type := 9, pos := "law.go:130", after := #[{ on := 17, ground := Go.Ground.data }, { on := 14, ground := Go.Ground.guard }], guard := some (14, false) }) (v := ?_) rfl (by kernel_rfl) (by kernel_rfl) (by kernel_rfl) (fun _ _ _ h => h) (Or.inl ⟨by rfl, ?_⟩) (by assumption) ?_
                rotate_left
                · ((intro w hSw; (try dsimp only at hSw); go_simp); (try with_reducible rfl))
                try simp only [Act.put, List.setIfInBounds_toArray, List.set_cons_zero, List.set_cons_succ]
                refine wpAnyH_take (i := 19) (oi := { dst := some 91, op := Go.Op.call { callee := Go.Callee.builtin Go.Builtin.len, args := #[Go.Operand.tmp 90], argTypes := #[9] }, type := 3, pos := "law.go:130", after := #[{ on := 18, ground := Go.Ground.data }, { on := 14, ground := Go.Ground.guard }], guard := some (14, false) }) (v := ?_) rfl (by kernel_rfl) (by kernel_rfl) (by kernel_rfl) (fun _ _ _ h => h) (Or.inl ⟨by rfl, ?_⟩) (by assumption) ?_
                rotate_left
                · ((intro w hSw; (try dsimp only at hSw); go_simp); (try with_reducible rfl))
                try simp only [Act.put, List.setIfInBounds_toArray, List.set_cons_zero, List.set_cons_succ]
                refine wpAnyH_take (i := 20) (oi := { dst := some 92, op := Go.Op.binOp Go.BinOp.gtr 3 (Go.Operand.tmp 88) (Go.Operand.tmp 91) 3, type := 4, pos := "law.go:130", after := #[{ on := 16, ground := Go.Ground.data }, { on := 19, ground := Go.Ground.data }, { on := 14, ground := Go.Ground.guard }], guard := some (14, false) }) (v := ?_) rfl (by kernel_rfl) (by kernel_rfl) (by kernel_rfl) (fun _ _ _ h => h) (Or.inl ⟨by rfl, ?_⟩) (by assumption) ?_
                rotate_left
                · ((intro w hSw; (try dsimp only at hSw); go_simp); (try with_reducible rfl))
                try simp only [Act.put, List.setIfInBounds_toArray, List.set_cons_zero, List.set_cons_succ]
                refine wpAnyH_take (i := 21) (oi := { dst := some 93, op := Go.Op.pick (Go.Operand.tmp 86) (Go.Operand.const (Go.Value.bool true)) (Go.Operand.tmp 92), type := 4, pos := "law.go:130", after := #[{ on := 14, ground := Go.Ground.data }, { on := 20, ground := Go.Ground.data }], guard := none }) (v := ?_) rfl (by kernel_rfl) (by kernel_rfl) (by kernel_rfl) (fun _ _ _ h => h) (Or.inl ⟨by rfl, ?_⟩) (by assumption) ?_
                rotate_left
                · ((intro w hSw; (try dsimp only at hSw); go_simp); (try with_reducible rfl))
                try simp only [Act.put, List.setIfInBounds_toArray, List.set_cons_zero, List.set_cons_succ]
                refine wpAnyH_take (i := 22) (oi := { dst := some 94, op := Go.Op.move (Go.Operand.tmp 93), type := 4, pos := "law.go:130", after := #[{ on := 21, ground := Go.Ground.data }, { on := 14, ground := Go.Ground.chain }], guard := none }) (v := ?_) rfl (by kernel_rfl) (by kernel_rfl) (by kernel_rfl) (fun _ _ _ h => h) (Or.inl ⟨by rfl, ?_⟩) (by assumption) ?_
                rotate_left
                · ((intro w hSw; (try dsimp only at hSw); go_simp); (try with_reducible rfl))
                try simp only [Act.put, List.setIfInBounds_toArray, List.set_cons_zero, List.set_cons_succ]
                refine wpAnyH_take (i := 23) (oi := { dst := some 95, op := Go.Op.move (Go.Operand.tmp 12), type := 34, pos := "law.go:130", after := #[{ on := 22, ground := Go.Ground.guard }], guard := some (22, false) }) (v := ?_) rfl (by kernel_rfl) (by kernel_rfl) (by kernel_rfl) (fun _ _ _ h => h) (Or.inl ⟨by rfl, ?_⟩) (by assumption) ?_
                rotate_left
                · ((intro w hSw; (try dsimp only at hSw); go_simp); (try with_reducible rfl))
                try simp only [Act.put, List.setIfInBounds_toArray, List.set_cons_zero, List.set_cons_succ]
                refine wpAnyH_take (i := 24) (oi := { dst := some 96, op := Go.Op.convert 34 9 (Go.Operand.tmp 95), type := 9, pos := "law.go:130", after := #[{ on := 23, ground := Go.Ground.data }, { on := 22, ground := Go.Ground.guard }], guard := some (22, false) }) (v := ?_) rfl (by kernel_rfl) (by kernel_rfl) (by kernel_rfl) (fun _ _ _ h => h) (Or.inl ⟨by rfl, ?_⟩) (by assumption) ?_
                rotate_left
                · ((intro w hSw; (try dsimp only at hSw); go_simp); (try with_reducible rfl))
                try simp only [Act.put, List.setIfInBounds_toArray, List.set_cons_zero, List.set_cons_succ]
                refine wpAnyH_take (i := 25) (oi := { dst := some 97, op := Go.Op.fieldAddr 43 (Go.Operand.tmp 11) 1, type := 0, pos := "law.go:130", after := #[{ on := 22, ground := Go.Ground.guard }], guard := some (22, false) }) (v := ?_) rfl (by kernel_rfl) (by kernel_rfl) (by kernel_rfl) (fun _ _ _ h => h) (Or.inl ⟨by rfl, ?_⟩) (by assumption) ?_
                rotate_left
                · ((intro w hSw; (try dsimp only at hSw); go_simp); (try with_reducible rfl))
                try simp only [Act.put, List.setIfInBounds_toArray, List.set_cons_zero, List.set_cons_succ]
                refine wpAnyH_take (i := 26) (oi := { dst := some 98, op := Go.Op.load 9 (Go.Operand.tmp 97), type := 9, pos := "law.go:130", after := #[{ on := 25, ground := Go.Ground.data }, { on := 22, ground := Go.Ground.guard }], guard := some (22, false) }) (v := ?_) rfl (by kernel_rfl) (by kernel_rfl) (by kernel_rfl) (fun _ _ _ h => h) (Or.inl ⟨by rfl, ?_⟩) (by assumption) ?_
                rotate_left
                · ((intro w hSw; (try dsimp only at hSw); go_simp); (try with_reducible rfl))
                try simp only [Act.put, List.setIfInBounds_toArray, List.set_cons_zero, List.set_cons_succ]
                refine wpAnyH_take (i := 27) (oi := { dst := some 99, op := Go.Op.move (Go.Operand.tmp 12), type := 34, pos := "law.go:130", after := #[{ on := 22, ground := Go.Ground.guard }], guard := some (22, false) }) (v := ?_) rfl (by kernel_rfl) (by kernel_rfl) (by kernel_rfl) (fun _ _ _ h => h) (Or.inl ⟨by rfl, ?_⟩) (by assumption) ?_
                rotate_left
                · ((intro w hSw; (try dsimp only at hSw); go_simp); (try with_reducible rfl))
                try simp only [Act.put, List.setIfInBounds_toArray, List.set_cons_zero, List.set_cons_succ]
                refine wpAnyH_take (i := 28) (oi := { dst := some 100, op := Go.Op.call { callee := Go.Callee.builtin Go.Builtin.len, args := #[Go.Operand.tmp 99], argTypes := #[34] }, type := 3, pos := "law.go:130", after := #[{ on := 27, ground := Go.Ground.data }, { on := 22, ground := Go.Ground.guard }], guard := some (22, false) }) (v := ?_) rfl (by kernel_rfl) (by kernel_rfl) (by kernel_rfl) (fun _ _ _ h => h) (Or.inl ⟨by rfl, ?_⟩) (by assumption) ?_
                rotate_left
                · ((intro w hSw; (try dsimp only at hSw); go_simp); (try with_reducible rfl))
                try simp only [Act.put, List.setIfInBounds_toArray, List.set_cons_zero, List.set_cons_succ]
                refine wpAnyH_take (i := 29) (oi := { dst := some 101, op := Go.Op.slice 9 (Go.Operand.tmp 98) none (some (Go.Operand.tmp 100)) none, type := 9, pos := "law.go:130", after := #[{ on := 26, ground := Go.Ground.data }, { on := 28, ground := Go.Ground.data }, { on := 22, ground := Go.Ground.guard }], guard := some (22, false) }) (v := ?_) rfl (by kernel_rfl) (by kernel_rfl) (by kernel_rfl) (fun _ _ _ h => h) (Or.inl ⟨by rfl, ?_⟩) (by assumption) ?_
                rotate_left
                · ((intro w hSw; (try dsimp only at hSw); go_simp); (try with_reducible rfl))
                try simp only [Act.put, List.setIfInBounds_toArray, List.set_cons_zero, List.set_cons_succ]
                refine wpAnyH_take (i := 30) (oi := { dst := some 102, op := Go.Op.binOp Go.BinOp.neq 9 (Go.Operand.tmp 96) (Go.Operand.tmp 101) 9, type := 4, pos := "law.go:130", after := #[{ on := 24, ground := Go.Ground.data }, { on := 29, ground := Go.Ground.data }, { on := 22, ground := Go.Ground.guard }], guard := some (22, false) }) (v := ?_) rfl (by kernel_rfl) (by kernel_rfl) (by kernel_rfl) (fun _ _ _ h => h) (Or.inl ⟨by rfl, ?_⟩) (by assumption) ?_
                rotate_left
                · ((intro w hSw; (try dsimp only at hSw); go_simp); (try with_reducible rfl))
                try simp only [Act.put, List.setIfInBounds_toArray, List.set_cons_zero, List.set_cons_succ]
                refine wpAnyH_take (i := 31) (oi := { dst := some 103, op := Go.Op.pick (Go.Operand.tmp 94) (Go.Operand.const (Go.Value.bool true)) (Go.Operand.tmp 102), type := 4, pos := "law.go:130", after := #[{ on := 22, ground := Go.Ground.data }, { on := 30, ground := Go.Ground.data }], guard := none }) (v := ?_) rfl (by kernel_rfl) (by kernel_rfl) (by kernel_rfl) (fun _ _ _ h => h) (Or.inl ⟨by rfl, ?_⟩) (by assumption) ?_
                rotate_left
                · ((intro w hSw; (try dsimp only at hSw); go_simp); (try with_reducible rfl))
                try simp only [Act.put, List.setIfInBounds_toArray, List.set_cons_zero, List.set_cons_succ]
                refine wpAnyH_take (i := 32) (oi := { dst := some 104, op := Go.Op.move (Go.Operand.tmp 103), type := 4, pos := "law.go:130", after := #[{ on := 31, ground := Go.Ground.data }, { on := 22, ground := Go.Ground.chain }], guard := none }) (v := ?_) rfl (by kernel_rfl) (by kernel_rfl) (by kernel_rfl) (fun _ _ _ h => h) (Or.inl ⟨by rfl, ?_⟩) (by assumption) ?_
                rotate_left
                · ((intro w hSw; (try dsimp only at hSw); go_simp); (try with_reducible rfl))
                try simp only [Act.put, List.setIfInBounds_toArray, List.set_cons_zero, List.set_cons_succ]
                refine wpAnyH_take (i := 33) (oi := { dst := some 105, op := Go.Op.move (Go.Operand.tmp 5), type := 25, pos := "law.go:130", after := #[{ on := 32, ground := Go.Ground.guard }], guard := some (32, false) }) (v := ?_) rfl (by kernel_rfl) (by kernel_rfl) (by kernel_rfl) (fun _ _ _ h => h) (Or.inl ⟨by rfl, ?_⟩) (by assumption) ?_
                rotate_left
                · ((intro w hSw; (try dsimp only at hSw); go_simp); (try with_reducible rfl))
                try simp only [Act.put, List.setIfInBounds_toArray, List.set_cons_zero, List.set_cons_succ]
                refine wpAnyH_take (i := 34) (oi := { dst := some 106, op := Go.Op.fieldAddr 43 (Go.Operand.tmp 11) 0, type := 0, pos := "law.go:130", after := #[{ on := 32, ground := Go.Ground.guard }], guard := some (32, false) }) (v := ?_) rfl (by kernel_rfl) (by kernel_rfl) (by kernel_rfl) (fun _ _ _ h => h) (Or.inl ⟨by rfl, ?_⟩) (by assumption) ?_
                rotate_left
                · ((intro w hSw; (try dsimp only at hSw); go_simp); (try with_reducible rfl))
                try simp only [Act.put, List.setIfInBounds_toArray, List.set_cons_zero, List.set_cons_succ]
                refine wpAnyH_take (i := 35) (oi := { dst := some 107, op := Go.Op.load 9 (Go.Operand.tmp 106), type := 9, pos := "law.go:130", after := #[{ on := 34, ground := Go.Ground.data }, { on := 32, ground := Go.Ground.guard }], guard := some (32, false) }) (v := ?_) rfl (by kernel_rfl) (by kernel_rfl) (by kernel_rfl) (fun _ _ _ h => h) (Or.inl ⟨by rfl, ?_⟩) (by assumption) ?_
                rotate_left
                · ((intro w hSw; (try dsimp only at hSw); go_simp); (try with_reducible rfl))
                try simp only [Act.put, List.setIfInBounds_toArray, List.set_cons_zero, List.set_cons_succ]
                refine wpAnyH_take (i := 37) (oi := { dst := some 109, op := Go.Op.move (Go.Operand.tmp 12), type := 34, pos := "law.go:130", after := #[{ on := 32, ground := Go.Ground.guard }], guard := some (32, false) }) (v := ?_) rfl (by kernel_rfl) (by kernel_rfl) (by kernel_rfl) (fun _ _ _ h => h) (Or.inl ⟨by rfl, ?_⟩) (by assumption) ?_
                rotate_left
                · ((intro w hSw; (try dsimp only at hSw); go_simp); (try with_reducible rfl))
                try simp only [Act.put, List.setIfInBounds_toArray, List.set_cons_zero, List.set_cons_succ]
                refine wpAnyH_take (i := 38) (oi := { dst := some 110, op := Go.Op.call { callee := Go.Callee.builtin Go.Builtin.len, args := #[Go.Operand.tmp 109], argTypes := #[34] }, type := 3, pos := "law.go:130", after := #[{ on := 37, ground := Go.Ground.data }, { on := 32, ground := Go.Ground.guard }], guard := some (32, false) }) (v := ?_) rfl (by kernel_rfl) (by kernel_rfl) (by kernel_rfl) (fun _ _ _ h => h) (Or.inl ⟨by rfl, ?_⟩) (by assumption) ?_
                rotate_left
                · ((intro w hSw; (try dsimp only at hSw); go_simp); (try with_reducible rfl))
                try simp only [Act.put, List.setIfInBounds_toArray, List.set_cons_zero, List.set_cons_succ]
                refine wpAnyH_ready (rs := [36]) (by kernel_rfl) (by simp) ?_
                refine AllReadyH.cons rfl (fun K hK => ?_) AllReadyH.nil
                go_simp
                refine (hSafe _ (by repeat (first | exact Below.refl _ _ | apply Below.drew))).mono ?_
                rintro e w6 ⟨rfl, hb6⟩
                have s0 := (hb6.cell (p := ⟨wr.heap.size, 0, none⟩) hs5).trans b0
                have s1 := (hb6.cell (p := ⟨wr.heap.size, 1, none⟩) hs5).trans b1
                have s2 := (hb6.cell (p := ⟨wr.heap.size, 2, none⟩) hs5).trans b2
                refine hK.out _ _ ⟨⟨s0, s1, s2⟩, hcv w6 hb6⟩ (fun hHeld6 => ?_)
                clear hK K hHeld
                try simp only [Act.put, List.setIfInBounds_toArray, List.set_cons_zero, List.set_cons_succ]
                refine wpAnyH_take (i := 39) (oi := { dst := some 111, op := Go.Op.binOp Go.BinOp.neq 3 (Go.Operand.tmp 108) (Go.Operand.tmp 110) 3, type := 4, pos := "law.go:130", after := #[{ on := 36, ground := Go.Ground.data }, { on := 38, ground := Go.Ground.data }, { on := 32, ground := Go.Ground.guard }], guard := some (32, false) }) (v := ?_) rfl (by kernel_rfl) (by kernel_rfl) (by kernel_rfl) (fun _ _ _ h => h) (Or.inl ⟨by rfl, ?_⟩) (by assumption) ?_
                rotate_left
                · ((intro w hSw; (try dsimp only at hSw); go_simp); (try with_reducible rfl))
                try simp only [Act.put, List.setIfInBounds_toArray, List.set_cons_zero, List.set_cons_succ]
                refine wpAnyH_take (i := 40) (oi := { dst := some 112, op := Go.Op.pick (Go.Operand.tmp 104) (Go.Operand.const (Go.Value.bool true)) (Go.Operand.tmp 111), type := 4, pos := "law.go:130", after := #[{ on := 32, ground := Go.Ground.data }, { on := 39, ground := Go.Ground.data }], guard := none }) (v := ?_) rfl (by kernel_rfl) (by kernel_rfl) (by kernel_rfl) (fun _ _ _ h => h) (Or.inl ⟨by rfl, ?_⟩) (by assumption) ?_
                rotate_left
                · ((intro w hSw; (try dsimp only at hSw); go_simp); (try with_reducible rfl))
                try simp only [Act.put, List.setIfInBounds_toArray, List.set_cons_zero, List.set_cons_succ]
                refine wpAnyH_done (by kernel_rfl) ?_ _
                go_wp2
                go_roundg (gk - 1)
                case measure => omega
                case rel => exact ⟨q + 1, by go_num, by omega, HA.out _ hb6⟩
            · obtain rfl : q = l.length := by omega
              have hdec2 : decide ((l.length : Int) < (l.length : Int)) = false := decide_eq_false (by omega)
              have hL := O.lost wr.drew d2 D' Z2 (O.keep hA.dk (Nat.le_refl _) (fun _ _ _ => rfl))
              have hNm := O.names wr.drew d2 D' Z2 (O.keep hA.dk (Nat.le_refl _) (fun _ _ _ => rfl)) hA.good hA.lt
              rw [hlost] at hL
              have hle : (D'.l.length : Int) ≤ (l.length : Int) := by omega
              have hbx := Lib.hid hA.box
              have hbz := Lib.hid hA.bz
              have hold := Lib.hid hA.old
              have hbw := Lib.hid hA.below
              have hbs := Go.Proofs.Ytkgkllhocmedoaa.hlt hA.box
              clear hA hback hright hlost hll
              generalize D'.l.length = ln at hNm hle
              go_wp2
              go_region_with (first
                | (go_at_call 17; refine hL.mono ?_; rintro e w6 ⟨rfl, rfl⟩)
                | (go_at_call 18
                   refine hNm.mono ?_
                   rintro e w7 ⟨A7, cap7, rfl, _, _, _, k7⟩
                   have z0 := (k7.block B hbs hbz.out).trans hbx.out
                   obtain ⟨⟨f0, f1, f2, f3, f4⟩, _⟩ := row5 z0))
              all_goals
                go_wp2
                go_ret
                exact ⟨rfl, below_keeps hbw.out.drew k7 hold.out hbw.out.size⟩

end Go.Proofs.Ytkgkllhocmedoaa
