/- DiskPlays' walk, over the program's contracts. -/
import Derived.Test.YtkgkllhocmedoaaDskAwake
import Derived.Test.YtkgkllhocmedoaaDskActs
import Derived.Test.YtkgkllhocmedoaaDskSame
import Derived.Deep.RegionHeld3
import Derived.Deep.RegionWith
import Derived.Deep.Cut
import Derived.Deep.DeepCutAuto
namespace Go.Proofs.Ytkgkllhocmedoaa
open Go.RowKit
set_option linter.unusedVariables false
set_option linter.unusedSimpArgs false

/-- Where a disk's cells lie no files lie. -/
theorem RF.ne {w : World} {A : Option Addr} {cap : Nat} {l : List Fil} (h : RF w A cap l) (h0 : 0 < l.length) {B : Nat} {a : Int} {c : Bool} {n : Int} {e : Bool} {T : TypeId} {A2 : Option Addr} {len2 cap2 : Nat}
    (hB : w.heap[B]? = some (.cells #[.int .i64 a, .slice A2 len2 cap2, .bool c, .int .i64 n, .bool e] T)) : ∀ x, A = some x → x.block ≠ B := by
  intro x e1
  obtain ⟨g, off, e2, hg, hc⟩ := h.2 h0
  rw [e2] at e1
  injection e1 with e1
  subst e1
  intro e3
  dsimp only at e3
  subst e3
  have c0 := (hc 0 h0).1
  simp only [World.cell?, hB, Nat.zero_mul, Nat.add_zero] at c0
  match off with
  | 0 | 1 | 2 | 3 | 4 => simp at c0
  | k + 5 => simp at c0

/-- A store of a disk's cells into a block that is neither the program's disk's nor where the files lie. -/
theorem Alike.set5 {O : DiskOps} {w : World} {d : Nat} {A : Option Addr} {cap : Nat} {D : Dsk} {Z : Nat → Prop} (h : Alike O w d A cap D Z) {B : Nat} (hz : Z B) (hne : 0 < D.l.length → ∀ x, A = some x → x.block ≠ B) (a b c e f : Value) :
    Alike O (((((w.setCell ⟨B, 0, none⟩ a).setCell ⟨B, 1, none⟩ b).setCell ⟨B, 2, none⟩ c).setCell ⟨B, 3, none⟩ e).setCell ⟨B, 4, none⟩ f) d A cap D Z := by
  refine ⟨O.keep h.dk (by simp) (fun k _ hk => far_set5 w (fun e => hk (by rw [e]; exact hz)) _ _ _ _ _), h.good, fun k hk => by simpa using h.lt k hk, ⟨h.rf.1, fun h0 => ?_⟩, h.rz⟩
  obtain ⟨g, off, e1, hg, hc⟩ := h.rf.2 h0
  refine ⟨g, off, e1, by simpa using hg, fun j hj => ?_⟩
  obtain ⟨c0, c1, c2⟩ := hc j hj
  have hgB : g ≠ B := hne h0 _ e1
  have hx : ∀ o, (((((w.setCell ⟨B, 0, none⟩ a).setCell ⟨B, 1, none⟩ b).setCell ⟨B, 2, none⟩ c).setCell ⟨B, 3, none⟩ e).setCell ⟨B, 4, none⟩ f).cell? ⟨g, o, none⟩ = w.cell? ⟨g, o, none⟩ := fun o => World.cell?_of_block (far_set5 w hgB _ _ _ _ _)
  exact ⟨(hx _).trans c0, (hx _).trans c1, (hx _).trans c2⟩

theorem Act.on_room (a : Act) (D : Dsk) : (a.on D).room = D.room := by
  have hb : ∀ D : Dsk, D.burn.room = D.room := fun D => by unfold Dsk.burn; split <;> (try split) <;> rfl
  have hd : ∀ (D : Dsk) f g, (D.done f g).1.room = D.room := fun D f g => by unfold Dsk.done; split <;> exact hb D
  unfold Act.on
  split
  · unfold Dsk.append; split
    · rfl
    split
    · rfl
    · dsimp only; split <;> exact hb _
  split
  · unfold Dsk.sync; split
    · rfl
    split
    · rfl
    · exact hd _ _ _
  split
  · unfold Dsk.cut; split
    · rfl
    split
    · rfl
    split
    · rfl
    · exact hd _ _ _
  split
  · unfold Dsk.rename; split
    · rfl
    split
    · rfl
    split
    · rfl
    · exact hd _ _ _
  split
  · unfold Dsk.remove; split
    · rfl
    split
    · rfl
    · exact hd _ _ _
  split
  · rfl
  split
  · unfold Dsk.fuse; split
    · rfl
    split <;> rfl
  split <;> rfl

/-- So many acts. -/
def ons (a : Nat → Act) (room : Int) : Nat → Dsk
  | 0 => ⟨room, [], false, 0, false⟩
  | k + 1 => (a k).on (ons a room k)

theorem ons_room (a : Nat → Act) (room : Int) : ∀ k, (ons a room k).room = room
  | 0 => rfl
  | k + 1 => by rw [ons, Act.on_room, ons_room a room k]

/-- The state of a law that does acts: the document's disk lies in block B. -/
structure Doing (O : DiskOps) (w0 wr : World) (B d : Nat) (A : Option Addr) (cap : Nat) (D : Dsk) (Z2 : Nat → Prop) : Prop where
  al : Alike O wr d A cap D Z2
  box : wr.heap[B]? = some (.cells (diskC A cap D) 31)
  bz : Z2 B
  old : ∀ k, k < w0.heap.size → Z2 k
  bB : w0.heap.size ≤ B
  below : Below w0.heap.size w0 wr

theorem Doing.next {O : DiskOps} {w0 wr w5 : World} {B d d' : Nat} {A A' : Option Addr} {cap cap' : Nat} {D D' : Dsk} {Z2 Z' : Nat → Prop} (h : Doing O w0 wr B d A cap D Z2) (ha : Alike O w5 d' A' cap' D' Z') (hz : ∀ k, Z2 k → Z' k) (hk : Keeps Z2 wr w5) :
    Doing O w0 (((((w5.setCell ⟨B, 0, none⟩ (.int .i64 D'.room)).setCell ⟨B, 1, none⟩ (.slice A' D'.l.length cap')).setCell ⟨B, 2, none⟩ (.bool D'.set)).setCell ⟨B, 3, none⟩ (.int .i64 D'.n)).setCell ⟨B, 4, none⟩ (.bool D'.lost)) B d' A' cap' D' Z' := by
  have hb5 := (hk.block B (hlt h.box) h.bz).trans h.box
  have hbel : Below w0.heap.size w0 w5 := below_keeps h.below hk h.old h.below.size
  exact ⟨ha.set5 (hz _ h.bz) (fun h0 => ha.rf.ne h0 hb5) _ _ _ _ _, set5_at _ _ _ _ _ _ _ _ _ _ _ _ _ hb5, hz _ h.bz, fun k hk => hz k (h.old k hk), h.bB, below_set5 hbel h.bB _ _ _ _ _⟩

theorem Doing.keeps {O : DiskOps} {w0 wr w5 : World} {B d : Nat} {A : Option Addr} {cap : Nat} {D : Dsk} {Z2 : Nat → Prop} (h : Doing O w0 wr B d A cap D Z2) (ha : Alike O w5 d A cap D Z2) (hk : Keeps Z2 wr w5) : Doing O w0 w5 B d A cap D Z2 :=
  ⟨ha, (hk.block B (hlt h.box) h.bz).trans h.box, h.bz, h.old, h.bB, below_keeps h.below hk h.old h.below.size⟩

/-- A new disk, and the document's in a block of its own. -/
theorem doing_start (O : DiskOps) {w w1 w3 : World} {d : Nat} {room : Int} (hb1 : Below w.heap.size w w1) (k3 : Keeps (fun k => k < w1.heap.size) w1 w3) (hd3 : O.Dk w3 d ⟨room, [], false, 0, false⟩ (fun k => k < w1.heap.size)) (h0 : 0 ≤ room) (h1 : room ≤ 1048576) :
    Doing O w (w3.alloc (.cells (diskC none 0 ⟨room, [], false, 0, false⟩) 31)) w3.heap.size d none 0 ⟨room, [], false, 0, false⟩ (fun k => k < w.heap.size ∨ k = w3.heap.size) := by
  have hb3 : Below w3.heap.size w3 (w3.alloc (.cells (diskC none 0 ⟨room, [], false, 0, false⟩) 31)) := (Below.refl _ _).alloc (Nat.le_refl _) _
  have hw3 : w.heap.size ≤ w3.heap.size := Nat.le_trans hb1.size k3.size
  refine ⟨⟨O.keep (O.out hd3 ?_) hb3.size (fun k hk _ => hb3.block k hk), good_new room h0 h1, ?_, RF.nil _, fun h0 => absurd h0 (by simp)⟩, heap_alloc_new _ _, .inr rfl, fun k hk => .inl hk, hw3, ?_⟩
  · rintro k (hk | hk)
    · exact .inl (Nat.lt_of_lt_of_le hk hb1.size)
    · exact .inr (Nat.le_of_eq hk.symm)
  · rintro k (hk | hk) <;> simp <;> omega
  · exact (below_keeps hb1 k3 (fun k hk => Nat.lt_of_lt_of_le hk hb1.size) hb1.size).alloc hw3 _

set_option maxRecDepth 100000 in
set_option maxHeartbeats 2000000 in
theorem walk_plays (O : DiskOps) (room : Int) (A1 : Option Addr) (len1 cap1 : Nat) (a : Nat → Act) (w : World) (hr : -9223372036854775808 ≤ room ∧ room ≤ 9223372036854775807) (h1 : ActsIn w A1 len1 a) (hm : len1 ≤ maxLen) :
    Calls Try.prog 3 #[.int .i64 room, .slice A1 len1 cap1] w fun e w' => e = .returned (.bool true) ∧ Below w.heap.size w w' := by
  have hF := fun w1 h => few_any A1 len1 cap1 a 100 w1 h hm (by omega)
  cases hfew : fewB a len1 100 with
  | false =>
    rw [hfew] at hF
    go_enter Try.func3, Try.ntmps3
    go_wp2_with fail
    refine (awake_any O _).mono ?_
    rintro e w1 ⟨rfl, hb1⟩
    go_wp2_with fail
    refine (hF _ (h1.below hb1)).mono ?_
    rintro e w2 ⟨rfl, rfl⟩
    go_wp2_with fail
    refine (awake_any O _).mono ?_
    rintro e w3 ⟨rfl, hb3⟩
    go_wp2
    go_ret
    exact ⟨rfl, hb1.trans (hb3.mono hb1.size)⟩
  | true =>
    obtain ⟨hlen, hfit⟩ := few_fit hfew
    rw [hfew] at hF
    clear hfew
    by_cases hbad : room < 0 ∨ 1048576 < room
    · have hN := fun w => O.new_bad room w hbad
      go_enter Try.func3, Try.ntmps3
      go_wp2_with fail
      refine (awake_any O _).mono ?_
      rintro e w1 ⟨rfl, hb1⟩
      go_wp2_with fail
      refine (hF _ (h1.below hb1)).mono ?_
      rintro e w2 ⟨rfl, rfl⟩
      go_wp2_with fail
      refine (hN _).mono ?_
      rintro e w3 ⟨rfl, hb3⟩
      by_cases hn : room < 0
      · go_wp2
        go_ret
        exact ⟨rfl, hb1.trans (hb3.mono hb1.size)⟩
      · have hp : 1048576 < room := hbad.resolve_left hn
        clear hbad
        go_wp2
        go_ret
        exact ⟨rfl, hb1.trans (hb3.mono hb1.size)⟩
    · have hr0 : ¬ room < 0 := fun h => hbad (.inl h)
      have hr1 : ¬ 1048576 < room := fun h => hbad (.inr h)
      clear hbad
      have hN := fun w hl => O.new_ok room w (fun k => k < w.heap.size) (by omega) (by omega) hl
      go_enter Try.func3, Try.ntmps3
      go_wp2_with fail
      refine (awake_any O _).mono ?_
      rintro e w1 ⟨rfl, hb1⟩
      go_wp2_with fail
      refine (hF _ (h1.below hb1)).mono ?_
      rintro e w2 ⟨rfl, rfl⟩
      go_wp2_with fail
      refine (hN _ (fun k hk => hk)).mono ?_
      rintro e w3 ⟨d, rfl, hd3, k3⟩
      have hst := doing_start O (room := room) hb1 k3 hd3 (by omega) (by omega)
      have hlen' : (len1 : Int) ≤ 100 := by omega
      clear hF hN hd3
      go_wp2
      generalize w3.alloc (.cells (diskC none 0 ⟨room, [], false, 0, false⟩) 31) = W at hst ⊢
      generalize w3.heap.size = B at hst ⊢
      clear hb1 k3
      go_loopg [5, 8, 41] len1 (fun g x ok i wr => ∃ (k d : Nat) (A : Option Addr) (cap : Nat) (Z2 : Nat → Prop), i = .int .i64 (k : Int) ∧ k + g = len1 ∧ x = dptr d ∧ ok = .bool true ∧ Doing O w wr B d A cap (ons a room k) Z2)
      case atStart => exact ⟨0, d, none, 0, _, rfl, by omega, rfl, rfl, hst⟩
      case round =>
        clear hst
        obtain ⟨k, d2, A, cap, Z2, rfl, hk, rfl, rfl, hS⟩ := hrel
        by_cases hlt : k < len1
        · have hlt' : (k : Int) < (len1 : Int) := by omega
          obtain ⟨b, off, rfl, hb, hc⟩ := h1.2 (by omega)
          obtain ⟨c0, c1, c2, c3, c4, c5⟩ := hc k hlt
          have hx : ∀ o, wr.cell? ⟨b, o, none⟩ = w.cell? ⟨b, o, none⟩ := fun o => hS.below.cell (p := ⟨b, o, none⟩) hb
          have e0 := (hx _).trans c0
          have e1 := (hx _).trans c1
          have e2 := (hx _).trans c2
          have e3 := (hx _).trans c3
          have e4 := (hx _).trans c4
          have e5 := (hx _).trans c5
          have hAct : ActIn wr Z2 (a k) := ((h1.1 k hlt).1.keeps (keeps_below hS.below (Nat.le_refl _))).mono hS.old
          have hft := hfit k hlt
          have hD := do_any O wr.drew d2 A cap (ons a room k) Z2 (a k) (hS.al.keeps (keeps_below (Below.refl _ _).drew (Nat.le_refl _)) (O.keep hS.al.dk (Nat.le_refl _) (fun _ _ _ => rfl))) (hAct.keeps (keeps_below (Below.refl _ _).drew (Nat.le_refl _))) hft.2.2.1 hft.2.2.2 hft.1 hft.2.1
          have hon : (a k).on (ons a room k) = ons a room (k + 1) := rfl
          rw [hon] at hD
          obtain ⟨⟨a0, a1, a2, a3, a4⟩, ⟨b0, b1, b2, b3, b4⟩⟩ := row5 hS.box
          clear hc c0 c1 c2 c3 c4 c5 hx hAct hft hon
          have HC := Lib.hid h1
          have HFIT := Lib.hid hfit
          clear h1 hfit
          have hSame := fun wx d' A' cap' Z' (hs : Doing O w wx B d' A' cap' (ons a room (k + 1)) Z') => same_any O wx d' A' cap' (ons a room (k + 1)) Z' hs.al
          obtain ⟨D2, hD2⟩ : ∃ D2, ons a room (k + 1) = D2 := ⟨_, rfl⟩
          rw [hD2] at hD hSame
          generalize hD0 : ons a room k = D1 at *
          clear hD0
          obtain ⟨room1, l1, set1, n1, lost1⟩ := D1
          obtain ⟨room2, l2, set2, n2, lost2⟩ := D2
          generalize a k = x at *
          obtain ⟨kind, name, to_, bA, bcap, bL, n, kA, klen, kcap, kY⟩ := x
          dsimp only at *
          go_upto_region 11 with (fail)
          go_cut [5, 8] (fun y ok wx => ∃ d' A' cap' Z', y = dptr d' ∧ ok = .bool true ∧ Doing O w wx B d' A' cap' ⟨room2, l2, set2, n2, lost2⟩ Z')
          case first =>
            go_region_with (first
                | (go_at_call 11
                   refine hD.mono ?_
                   rintro e w5 ⟨d5, A5, cap5, Z5, rfl, ha5, hz5, k5⟩
                   have hb5 := (k5.block B (Go.Proofs.Ytkgkllhocmedoaa.hlt hS.box) hS.bz).trans hS.box
                   obtain ⟨⟨p0, p1, p2, p3, p4⟩, ⟨q0, q1, q2, q3, q4⟩⟩ := row5 hb5
                   have hN5 := hS.next ha5 hz5 (Keeps.trans (keeps_below (Below.refl _ _).drew (Nat.le_refl _)) k5))
                | fail)
            all_goals
              go_wp2_with fail
              go_meet
              exact ⟨d5, A5, cap5, Z5, rfl, rfl, hN5⟩
          case rest =>
            clear e0 e1 e2 e3 e4 e5 a0 a1 a2 a3 a4 b0 b1 b2 b3 b4 hD hS
            obtain ⟨d5, A5, cap5, Z5, rfl, rfl, hN⟩ := hcut
            obtain ⟨⟨a0, a1, a2, a3, a4⟩, _⟩ := row5 hN.box
            have hQ := hSame wc d5 A5 cap5 Z5 hN
            clear hSame
            go_wp2_with fail
            refine hQ.mono ?_
            rintro e w6 ⟨rfl, ha6, k6⟩
            have hN6 := hN.keeps ha6 k6
            clear hQ a0 a1 a2 a3 a4
            have HR := Lib.hid hD2
            clear hD2
            go_wp2
            go_roundg (gk - 1)
            case measure => omega
            case rel => exact ⟨k + 1, d5, A5, cap5, Z5, by go_num, by omega, rfl, rfl, by rw [HR.out]; exact hN6⟩
        · obtain rfl : k = len1 := by omega
          have hdec : decide ((k : Int) < (k : Int)) = false := decide_eq_false (by omega)
          have hU := O.used wr d2 _ Z2 hS.al.dk hS.al.good hS.al.lt
          have hus := hS.al.good.used
          have hrm : (ons a room k).room = room := ons_room a room k
          rw [hrm] at hus
          have hbl := below_keeps hS.below (Keeps.refl Z2 wr) hS.old hS.below.size
          have hu' : (usedF (ons a room k).l : Int) ≤ room := hus
          generalize usedF (ons a room k).l = u at hU hu'
          have hold := Lib.hid hS.old
          have hbw := Lib.hid hS.below
          clear hus hrm hS h1 hfit hbl
          go_wp2_with fail
          refine hU.mono ?_
          rintro e w5 ⟨rfl, _, k5⟩
          go_wp2
          go_ret
          exact ⟨rfl, below_keeps hbw.out k5 hold.out hbw.out.size⟩

end Go.Proofs.Ytkgkllhocmedoaa
