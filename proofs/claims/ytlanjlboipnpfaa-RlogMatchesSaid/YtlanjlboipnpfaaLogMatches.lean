/- RlogMatches' walk. -/
import Derived.Test.YtlanjlboipnpfaaLogMaking
import Derived.Test.YtlanjlboipnpfaaEntSame
namespace Go.Proofs.Ytlanjlboipnpfaa.rlogMatches
open Go.ChangeShapes Go.WideShapes Go.ChangeAt Go.RowKit Go.Proofs.Ytlanjlboipnpfaa
set_option linter.unusedVariables false
set_option linter.unusedSimpArgs false

theorem info_row : (Try.prog.info? 22).map (fun i => (i.zero, i.size, i.bytes)) = some (some (.slice none 0 0), 1, 24) := by kernel_rfl

set_option maxRecDepth 100000 in
set_option maxHeartbeats 1600000 in
theorem walk_out (A0 : Option Addr) (n0 c0 : Nat) (A1 : Option Addr) (n1 c1 : Nat) (A2 : Option Addr) (n2 c2 : Nat) (w : World) (h0 : n0 ≤ maxLen) (h1 : n1 ≤ maxLen) (h2 : n2 ≤ maxLen) (hno : 6 < n0 ∨ 30 < n1 ∨ 30 < n2) :
    Calls Try.prog 4 #[.slice A0 n0 c0, .slice A1 n1 c1, .slice A2 n2 c2] w fun e w' => e = .returned (.bool true) ∧ Below w.heap.size w w' := by
  unfold maxLen at h0 h1 h2
  go_enter Try.func4, Try.ntmps4
  go_wp2_with fail
  refine (awake8_any _).mono ?_
  rintro e w1 ⟨rfl, hb1⟩
  have hA := awake8_any w1
  by_cases g0 : 6 < n0
  · have q0 : (6 : Int) < (n0 : Int) := by omega
    clear hno g0
    go_wp2_with fail
    refine hA.mono ?_
    rintro e w2 ⟨rfl, hb2⟩
    go_wp2
    go_ret
    exact ⟨rfl, hb1.trans (hb2.mono hb1.size)⟩
  · have q0 : ((6 : Int) < (n0 : Int)) = False := eq_false (by omega)
    have q0d : decide ((6 : Int) < (n0 : Int)) = false := decide_eq_false (by omega)
    by_cases g1 : 30 < n1
    · have q1 : (30 : Int) < (n1 : Int) := by omega
      clear hno g0 g1
      go_wp2_with fail
      refine hA.mono ?_
      rintro e w2 ⟨rfl, hb2⟩
      go_wp2
      go_ret
      exact ⟨rfl, hb1.trans (hb2.mono hb1.size)⟩
    · have q1 : ((30 : Int) < (n1 : Int)) = False := eq_false (by omega)
      have q1d : decide ((30 : Int) < (n1 : Int)) = false := decide_eq_false (by omega)
      have q2 : (30 : Int) < (n2 : Int) := by omega
      clear hno g0 g1
      go_wp2_with fail
      refine hA.mono ?_
      rintro e w2 ⟨rfl, hb2⟩
      go_wp2
      go_ret
      exact ⟨rfl, hb1.trans (hb2.mono hb1.size)⟩

theorem part_le (b n : Nat) : b % 16 * n / 16 ≤ n := by
  have h : b % 16 < 16 := Nat.mod_lt _ (by omega)
  have h2 : b % 16 * n ≤ 16 * n := Nat.mul_le_mul_right n (by omega)
  omega
theorem part_int (b n pm p : Nat) (hn : n ≤ 1000) (hpm : pm = b % 16 * n) (hp : p = pm / 16) : wrap64 ((b : Int) % 16 * (n : Int)) = (pm : Int) ∧ (pm : Int) / 16 = (p : Int) := by
  have h : b % 16 < 16 := Nat.mod_lt _ (by omega)
  have h2 : pm ≤ 15 * n := by rw [hpm]; exact Nat.mul_le_mul_right n (by omega)
  have e : (b : Int) % 16 * (n : Int) = (pm : Int) := by rw [hpm, Int.natCast_mul, Int.natCast_emod]; rfl
  refine ⟨by rw [e, ← IntWalk.i64_left, IntWalk.i64_in _ (by omega)], by rw [hp, Int.natCast_ediv]; rfl⟩
theorem count_int (b cnt : Nat) (hb : b < 256) (hc : cnt = 1 + b / 64) : wrap64 (1 + (b : Int) / 64) = (cnt : Int) ∧ 1 + (b : Int) / 64 = (cnt : Int) ∧ 1 ≤ cnt ∧ cnt ≤ 4 := by
  have e : 1 + (b : Int) / 64 = (cnt : Int) := by omega
  refine ⟨by rw [e, ← IntWalk.i64_left, IntWalk.i64_in _ (by omega)], e, by omega, by omega⟩

/-- Where the leaders' logs stand. -/
def LogsE (w W : World) (k : Nat) (v7 v8 : Value) : Prop := ∃ AL nl cl Al n c X l, v7 = .slice AL nl cl ∧ v8 = .slice Al n c ∧ LogsAt w W k AL nl cl Al n c X l

def MakingE (W0 W : World) (N : Nat → Prop) (logs : List (List Ent)) (k n : Nat) (v8 : Value) : Prop := ∃ A c ys, v8 = .slice A n c ∧ Making W0 W N logs k A n c ys

theorem Making.start {wr w2 : World} {N : Nat → Prop} {logs : List (List Ent)} {k p cq : Nat} {Aq : Option Addr} {xs : List Lay} (hxp : xs.length = p) (hok : ∀ y ∈ xs, LayOk wr (fun q => q < wr.heap.size ∧ ¬ N q) y) (hn : Next logs k (xs.map (·.e)))
    (ho : w2.ownsRow wr.heap.size 43 3 (.slice Aq p cq) p (rowOf xs)) (hg : (wr.alloc (.cells #[] 43)).grownBy w2 (Value.slice (some ⟨wr.heap.size, 0, none⟩) 0 0).ownBlock) : Making wr w2 N logs k Aq p cq xs := by
  have hb : Below wr.heap.size wr w2 := ((Below.refl wr.heap.size wr).alloc (Nat.le_refl _) _).grown hg (by simp) (fun q e => by injection e with e; have e' : wr.heap.size = q := e; omega)
  have hs := hb.size
  refine ⟨ho, hxp, fun y hy => ((hok y hy).keep hs fun q hq _ => hb.block q hq).mono fun q hq => ⟨by omega, fun e => ?_, hq.2⟩, hn, hb⟩
  have := (own_of_blk ho e).1
  omega

theorem u8_small (k : Nat) (h : k < 256) : IntKind.u8.wrap (k : Int) = (k : Int) := IntWalk.u8_in _ (by omega)
theorem one_more (k : Nat) (h : k < 1000) : wrap64 ((k : Int) + 1) = (k : Int) + 1 := by rw [← IntWalk.i64_left, IntWalk.i64_in _ (by omega)]
theorem nat_more (k : Nat) : (k : Int) + 1 = ((k + 1 : Nat) : Int) := by omega

theorem bytes_two (W : World) (a b : Nat) (ha : a < 256) (hb : b < 256) : Lies (W.alloc (.cells #[.int .u8 (a : Int), .int .u8 (b : Int)] 5)) (some ⟨W.heap.size, 0, none⟩) 2 2 [UInt8.ofNat a, UInt8.ofNat b] := by
  refine lies_row W [UInt8.ofNat a, UInt8.ofNat b] _ _ _ 2 rfl fun j hj => ?_
  match j, hj with
  | 0, _ => simp; omega
  | 1, _ => simp; omega

set_option maxRecDepth 100000 in
set_option maxHeartbeats 6400000 in
theorem walk_in (A0 : Option Addr) (n0 c0 : Nat) (l0 : List UInt8) (A1 : Option Addr) (n1 c1 : Nat) (l1 : List UInt8) (A2 : Option Addr) (n2 c2 : Nat) (l2 : List UInt8) (w : World) (h0 : Lies w A0 n0 c0 l0) (h1 : Lies w A1 n1 c1 l1) (h2 : Lies w A2 n2 c2 l2) (g0 : n0 ≤ 6) (g1 : n1 ≤ 30) (g2 : n2 ≤ 30) :
    Calls Try.prog 4 #[.slice A0 n0 c0, .slice A1 n1 c1, .slice A2 n2 c2] w fun e w' => e = .returned (.bool true) ∧ Below w.heap.size w w' := by
  obtain ⟨i0, hi0, hz0, hz1, hz2⟩ := info_parts info_row
  have q0 : ((6 : Int) < (n0 : Int)) = False := eq_false (by omega)
  have q0d : decide ((6 : Int) < (n0 : Int)) = false := decide_eq_false (by omega)
  have q1 : ((30 : Int) < (n1 : Int)) = False := eq_false (by omega)
  have q1d : decide ((30 : Int) < (n1 : Int)) = false := decide_eq_false (by omega)
  have q2 : ((30 : Int) < (n2 : Int)) = False := eq_false (by omega)
  have q2d : decide ((30 : Int) < (n2 : Int)) = false := decide_eq_false (by omega)
  have hl0 := h0.1
  go_enter Try.func4, Try.ntmps4
  go_wp2_with fail
  refine (awake8_any _).mono ?_
  rintro e w1 ⟨rfl, hb1⟩
  have hS := LogsAt.start w1
  clear q0 q0d q1 q1d q2 q2d
  have q0 : ((6 : Int) < (n0 : Int)) = False := eq_false (by omega)
  have q0d : decide ((6 : Int) < (n0 : Int)) = false := decide_eq_false (by omega)
  have q1 : ((30 : Int) < (n1 : Int)) = False := eq_false (by omega)
  have q1d : decide ((30 : Int) < (n1 : Int)) = false := decide_eq_false (by omega)
  have q2 : ((30 : Int) < (n2 : Int)) = False := eq_false (by omega)
  have q2d : decide ((30 : Int) < (n2 : Int)) = false := decide_eq_false (by omega)
  go_wp2
  go_loopg [7, 8, 9, 39] n0 (fun g v7 v8 s9 kk wr => ∃ k : Nat, k + g = n0 ∧ kk = .int .i64 (k : Int) ∧ LogsE w1 wr k v7 v8)
  case atStart => exact ⟨0, by omega, rfl, none, 0, 0, none, 0, 0, [], [], rfl, rfl, hS⟩
  case round =>
    clear hS
    obtain ⟨k, hk, rfl, AL, nl, cl, Al, n, c, X, l, rfl, rfl, hL⟩ := hrel
    have HK := Lib.hid hk
    by_cases hkn : k < n0
    · have hkn' : (k : Int) < (n0 : Int) := by omega
      have hbw := hb1.trans (hL.below.mono hb1.size)
      obtain ⟨gB, oB, e, hgB, hcB⟩ := h0.2.2.2 (by omega)
      subst e
      have hy : wr.cell? ⟨gB, oB + k, none⟩ = some (.int .u8 ((l0[k]'(by omega)).toNat : Int)) := (hbw.cell (p := ⟨gB, oB + k, none⟩) hgB).trans (hcB k (by omega))
      have hby := (l0[k]'(by omega)).toNat_lt
      generalize (l0[k]'(by omega)) = b at *
      generalize b.toNat = bn at *
      have hns := hL.small
      -- so many of the last one
      obtain ⟨pm, hpm⟩ : ∃ pm, pm = bn % 16 * n := ⟨_, rfl⟩
      obtain ⟨p, hp⟩ : ∃ p, p = pm / 16 := ⟨_, rfl⟩
      have hpn : p ≤ n := by rw [hp, hpm]; exact part_le bn n
      obtain ⟨m1, m2⟩ := part_int bn n pm p (by omega) hpm hp
      obtain ⟨cnt, hcnt⟩ : ∃ cnt, cnt = 1 + bn / 64 := ⟨_, rfl⟩
      obtain ⟨m3, m4, hc1, hc4⟩ := count_int bn cnt hby hcnt
      have hsf := fun W => slice_front (A := Al) (n := n) (cap := c) (k := p) (Nat.le_trans hpn hL.cur.2.1) W
      obtain ⟨xs, hxs, hok, hcell⟩ := hL.cur.lays
      have hxl : xs.length = n := by rw [← hL.cur.1, ← hxs, List.length_map]
      have hxm : (xs.take p).map (·.e) = l.take p := by rw [List.map_take, hxs]
      have hxp : (xs.take p).length = p := by rw [List.length_take]; omega
      have hnone : Al = none → c = 0 ∧ p = 0 := fun e => by
        have h3 := hL.cur.2.2.1 e
        have h4 := hL.cur.2.1
        omega
      have hA1 := (Below.refl wr.heap.size wr).alloc (Nat.le_refl _) (.cells #[] 43)
      have hcell3 : ∀ b, Al = some b → ∀ j u, (rowOf (xs.take p))[j]? = some u → (wr.alloc (.cells #[] 43)).cell? (b.add j) = some u := fun b e j u hu => by
        rw [rowOf_take, List.getElem?_take] at hu
        split at hu
        · have hu2 := hcell b e j u hu
          have hlt := World.block_lt_of_cell? _ _ hu2
          exact (hA1.cell (p := b.add j) hlt).trans hu2
        · cases hu
      have hp1 : 0 + p ≤ 1000000 := by omega
      have hok3 : ∀ y ∈ xs.take p, LayOk wr (fun q => q < wr.heap.size ∧ ¬ blk AL q) y := fun y hy => hok y (List.mem_of_mem_take hy)
      have hNx := Next.start hL.fam hL.mem p
      rw [← hxm] at hNx
      have hpc : (p : Int) ≤ (c : Int) := by have := hL.cur.2.1; omega
      have hpc2 : p ≤ c := by have := hL.cur.2.1; omega
      have hgw : gB < wr.heap.size := Nat.lt_of_lt_of_le hgB hbw.size
      clear hcell hok hcB h0 hxs hp hpm hcnt hxm
      go_wp2_with (at_builtin; refine wpList_append_lays _ rfl _ _ rfl wr.heap.size (by rw [World.size_alloc]; omega) (.slice (some ⟨wr.heap.size, 0, none⟩) 0 0) 0 [] rfl (World.ownsRow_made _ #[] 0 (Nat.le_refl _) (Nat.zero_le _) rfl) Al p c (xs.take p) rfl hxp hnone hcell3 hp1 ?_)
      intro v1 w2 ho2 hg2 hq2
      obtain ⟨Aq, cq, rfl⟩ := row_form ho2
      have hM := Making.start hxp hok3 hNx ho2 hg2
      have hy2 := (hM.below.cell (p := ⟨gB, oB + k, none⟩) hgw).trans hy
      have HL := Lib.hid hL
      have HBW := Lib.hid hbw
      have HN := Lib.hid (And.intro hpn (And.intro hns (And.intro hc1 hc4)))
      have hMS : MakingE wr w2 (blk AL) (X.map (·.ls)) k (p + 0) (.slice Aq p cq) := ⟨Aq, cq, _, rfl, hM⟩
      clear hL ho2 hg2 hq2 hM hok3 hNx hxp hxl hnone hcell3 hA1 hy hbw hsf m1 m2
      go_wp2
      clear m3 m4
      obtain ⟨W0, rfl⟩ : ∃ W0, W0 = wr := ⟨_, rfl⟩
      obtain ⟨G0, rfl⟩ : ∃ G0, G0 = gk := ⟨_, rfl⟩
      go_loopg [8, 63] cnt (fun g v8 jj wq => ∃ j : Nat, j + g = cnt ∧ jj = .int .i64 (j : Int) ∧ MakingE W0 wq (blk AL) (X.map (·.ls)) k (p + j) v8)
      case atStart => exact ⟨0, by omega, rfl, hMS⟩
      case round =>
        clear hMS hy2
        obtain ⟨j, hj, rfl, A, c', ys, rfl, hM⟩ := hrel
        have HJ := Lib.hid hj
        by_cases hjc : j < cnt
        · have hjc' : (j : Int) < (cnt : Int) := by omega
          have hn24 : p + j < 64 := by have := HN.out; omega
          have hlim : k < 6 := by omega
          generalize hn : p + j = n at *
          have Hn := Lib.hid hn
          have hyl : (ys.map (·.e)).length = n := by rw [List.length_map]; exact hM.len
          have hNx := hM.next.more HL.out.fam [UInt8.ofNat k, UInt8.ofNat n] (by simp) (by omega) (by omega)
          unfold own at hNx
          rw [hyl] at hNx
          have hA1 := (Below.refl wr.heap.size wr).alloc (Nat.le_refl _) (.cells #[.int .u8 (k : Int), .int .u8 (n : Int)] 5)
          have hA2 := hA1.alloc (by simp) (.cells #[.int .i64 ((n : Int) + 1), .int .i64 ((k : Int) + 1), .slice (some ⟨wr.heap.size, 0, none⟩) 2 2] 43)
          have hlb := (bytes_two wr k n (by omega) (by omega)).below ((Below.refl _ _).alloc (Nat.le_refl _) (.cells #[.int .i64 ((n : Int) + 1), .int .i64 ((k : Int) + 1), .slice (some ⟨wr.heap.size, 0, none⟩) 2 2] 43)) (Nat.le_refl _)
          have hx : LayOk ((wr.alloc (.cells #[.int .u8 (k : Int), .int .u8 (n : Int)] 5)).alloc (.cells #[.int .i64 ((n : Int) + 1), .int .i64 ((k : Int) + 1), .slice (some ⟨wr.heap.size, 0, none⟩) 2 2] 43)) (fun q => wr.heap.size ≤ q ∧ q < ((wr.alloc (.cells #[.int .u8 (k : Int), .int .u8 (n : Int)] 5)).alloc (.cells #[.int .i64 ((n : Int) + 1), .int .i64 ((k : Int) + 1), .slice (some ⟨wr.heap.size, 0, none⟩) 2 2] 43)).heap.size) ⟨⟨(n : Int) + 1, (k : Int) + 1, [UInt8.ofNat k, UInt8.ofNat n]⟩, some ⟨wr.heap.size, 0, none⟩, 2⟩ :=
            ⟨by unfold maxLen; show 2 ≤ _; omega, hlb, fun _ q o e => by injection e with e; injection e with e; subst e; exact ⟨Nat.le_refl _, by simp; omega⟩⟩
          have hone := one_cells (wr.alloc (.cells #[.int .u8 (k : Int), .int .u8 (n : Int)] 5)) ⟨⟨(n : Int) + 1, (k : Int) + 1, [UInt8.ofNat k, UInt8.ofNat n]⟩, some ⟨wr.heap.size, 0, none⟩, 2⟩ 43
          simp only [World.size_alloc] at hone
          have hbz := hM.below.size
          have ho2 := (hM.row.alloc (.cells #[.int .u8 (k : Int), .int .u8 (n : Int)] 5)).alloc (.cells #[.int .i64 ((n : Int) + 1), .int .i64 ((k : Int) + 1), .slice (some ⟨wr.heap.size, 0, none⟩) 2 2] 43)
          have hyb : n + 1 ≤ 1000000 := by omega
          have HM := Lib.hid hM
          have hbs : W0.heap.size ≤ ((wr.alloc (.cells #[.int .u8 (k : Int), .int .u8 (n : Int)] 5)).alloc (.cells #[.int .i64 ((n : Int) + 1), .int .i64 ((k : Int) + 1), .slice (some ⟨wr.heap.size, 0, none⟩) 2 2] 43)).heap.size := by simp; omega
          have u1 : IntKind.u8.wrap (k : Int) = (k : Int) := u8_small k (by omega)
          have u2 : IntKind.u8.wrap (n : Int) = (n : Int) := u8_small n (by omega)
          have S3 := Lib.hid (one_more j (by omega))
          clear hM hlb hn hj h1 h2 hyl hbz hjc hc1 hc4 hkn g0 g1 g2 hl0
          go_wp2_with (at_builtin; refine wpList_append_ents _ rfl _ _ rfl W0.heap.size hbs (.slice A n c') n (rowOf ys) rfl ho2 ⟨wr.heap.size + 1, 0, none⟩ 1 1 [⟨⟨(n : Int) + 1, (k : Int) + 1, [UInt8.ofNat k, UInt8.ofNat n]⟩, some ⟨wr.heap.size, 0, none⟩, 2⟩] rfl rfl hone hyb ?_)
          intro v3 w3 ho3 hg3 hq3
          clear u1 u2
          obtain ⟨A3, c3, rfl⟩ := row_form ho3
          have HMM := Lib.hid (show MakingE W0 w3 (blk AL) (X.map (·.ls)) k (p + (j + 1)) (.slice A3 (n + 1) c3) by
            have := HM.out.more (fun q hq => (own_of_blk HL.out.row hq).2) hA2 hx ho3 hg3 (by simpa using hq3) hNx
            rw [show p + (j + 1) = n + 1 by have := Hn.out; omega]
            exact ⟨A3, c3, _, rfl, this⟩)
          clear ho3 hg3 hq3 ho2 hone hx hA1 hA2 hNx hbs
          go_wp2
          go_roundg (gk - 1)
          case measure => have : j + gk = cnt := HJ.out; omega
          case rel => exact ⟨j + 1, by have : j + gk = cnt := HJ.out; omega, by rw [S3.out, nat_more], HMM.out⟩
        · obtain rfl : j = cnt := by omega
          have hdec : decide ((j : Int) < (j : Int)) = false := decide_eq_false (by omega)
          generalize hn : p + j = n at *
          have Hn := Lib.hid (And.intro hn (And.intro hc1 (And.intro hc4 (And.intro hpn hns))))
          have hrow := owns_heap HL.out.row (w' := wr) (fun g e => hM.below.block g (own_of_blk HL.out.row (blk_own HL.out.row e)).2)
          have hbs : w1.heap.size ≤ (wr.alloc (.cells #[.slice A n c'] 22)).heap.size := by
            have a1 := HL.out.below.size
            have a2 := hM.below.size
            rw [World.size_alloc]
            omega
          have hnl : nl + 1 ≤ 100 := by have := HL.out.lk; omega
          have HM := Lib.hid hM
          clear hM hn hj hjc hc1 hc4 hpn hns h1 h2
          go_wp2_with (at_builtin; refine wpList_append_lies _ rfl _ _ 41 rfl w1.heap.size 22 i0 _ 1 24 Try.underlying41 hi0 hz0 hz1 hz2 rfl (by omega) (.slice AL nl cl) nl _ rfl (hrow.alloc _) ⟨wr.heap.size, 0, none⟩ 1 1 [.slice A n c'] rfl rfl (World.news_of_block (heap_alloc_new wr _)) (by simp [Value.oneCell']) (by omega) (by unfold maxLen; omega) (by omega) hbs (wr.heap.size + 1) (by simp) ?_)
          intro g cap9 w9 ho9 hg9 hat9 hlt9
          have HLL := Lib.hid (show LogsE w1 w9 (k + 1) (.slice (some ⟨g, 0, none⟩) (nl + 1) cap9) (.slice A n c') from ⟨_, _, _, _, _, _, _, _, rfl, rfl, HL.out.more HM.out (by have := Hn.out; omega) (by have := Hn.out; omega) ho9 hg9 hat9⟩)
          clear ho9 hg9 hat9 hlt9 hrow hbs hnl
          go_wp2
          go_roundg (G0 - 1)
          case measure => have : k + G0 = n0 := HK.out; omega
          case rel => exact ⟨k + 1, by have : k + G0 = n0 := HK.out; omega, by go_num, HLL.out⟩
    · obtain rfl : k = n0 := by omega
      have hdec : decide ((k : Int) < (k : Int)) = false := decide_eq_false (by omega)
      have hbw := hb1.trans (hL.below.mono hb1.size)
      have hsm : ∀ x ∈ X, x.n ≤ 1000 := fun x hx => by have := (hL.ents x hx).2; omega
      have hT1 := taken_any (fun q => q < wr.heap.size) AL nl cl X hL.len A1 n1 c1 l1 wr hL.in_ (h1.below hbw (Nat.le_refl _)) k hL.fam hsm (by omega) (by have := hL.lk; omega) (fun q hq => hq)
      have hT2 := fun W (hW : Below wr.heap.size wr W) => taken_any (fun q => q < wr.heap.size) AL nl cl X hL.len A2 n2 c2 l2 W (hL.in_.below hW) ((h2.below hbw (Nat.le_refl _)).below hW (Nat.le_refl _)) k hL.fam hsm (by omega) (by have := hL.lk; omega) (fun q hq => Nat.lt_of_lt_of_le hq hW.size)
      have HF := Lib.hid hL.fam
      generalize X.map (·.ls) = LS at *
      clear hL hsm h0 h1 h2 hk
      go_wp2_with fail
      refine hT1.mono ?_
      rintro e w3 ⟨p, r, s, rfl, hx, hTx, hrx, hb3⟩
      have hT2 := hT2 w3 hb3
      clear hT1
      go_wp2_with fail
      refine hT2.mono ?_
      rintro e w4 ⟨p2, r2, s2, rfl, hy, hTy, hry, hb4⟩
      have hx4 := hx.below hb4
      have hbw4 := hbw.trans ((hb3.trans (hb4.mono hb3.size)).mono hbw.size)
      obtain ⟨Ax, cx, xsx, hxa⟩ := hx4
      obtain ⟨Ay, cy, xsy, hya⟩ := hy
      have hLp := lastP_any hxa.rd (by omega)
      have hlast : ∃ m : Nat, r.lastI = (m : Int) ∧ m ≤ 1000 := ⟨r.l.length, by rw [hTx.1.lastI, hTx.2.1]; omega, hrx⟩
      have HX := Lib.hid (And.intro hTx (And.intro hrx hxa))
      have HY := Lib.hid (And.intro hTy (And.intro hry hya))
      obtain ⟨m, hm, hm1⟩ := hlast
      rw [hm] at hLp
      clear hT2 hx hm hTx hTy hrx hry hxa hya
      go_wp2_with fail
      refine hLp.mono ?_
      rintro e w5 ⟨rfl, hb5⟩
      clear hLp
      go_wp2
      go_loopg [14, 15, 16, 17, 18] m (fun g v14 s15 s16 s17 s18 wq => v14 = .int .i64 (g : Int) ∧ g ≤ m ∧ Below w4.heap.size w4 wq)
      case atStart => exact ⟨rfl, Nat.le_refl _, hb5⟩
      case round =>
        clear hb5
        obtain ⟨rfl, hgm, hbr⟩ := hrel
        by_cases hg0 : gk = 0
        · subst hg0
          have HB := Lib.hid (hbw4.trans (hbr.mono hbw4.size))
          clear hbr hgm
          go_wp2
          go_ret
          exact ⟨rfl, HB.out⟩
        · have q9 : (0 : Int) < (gk : Int) := by omega
          have hkx := fun W (hW : Below w4.heap.size w4 W) => HX.out.2.2.keep hW.size fun q hq _ => hW.block q hq
          have hky := fun W (hW : Below w4.heap.size w4 W) => HY.out.2.2.keep hW.size fun q hq _ => hW.block q hq
          have htx := fun W (hW : Below w4.heap.size w4 W) => termP_any (hkx W hW).rd (by have := HX.out.2.1; omega) HX.out.1.1 (gk : Int)
          have hty := fun W (hW : Below w4.heap.size w4 W) => termP_any (hky W hW).rd (by have := HY.out.2.1; omega) HY.out.1.1 (gk : Int)
          have hfx := fun W (hW : Below w4.heap.size w4 W) => fromP_any (hkx W hW) (by have := HX.out.2.1; omega) HX.out.1.1 1 (gk : Int)
          have hfy := fun W (hW : Below w4.heap.size w4 W) => fromP_any (hky W hW) (by have := HY.out.2.1; omega) HY.out.1.1 1 (gk : Int)
          have hfm : (r.fromL 1 (gk : Int)).length ≤ maxLen := by
            rw [HX.out.1.1.from_]
            unfold RL.sub maxLen
            split
            · simp
            · rw [List.length_take, List.length_drop]; omega
          have hsame := fun t (e1 : r.at_ (gk : Int) = some t) (e2 : r2.at_ (gk : Int) = some t) => took_same HF.out HX.out.1 HY.out.1 (x := (gk : Int)) (t := t) (by omega) e1 e2
          have HGM := Lib.hid hgm
          have s3 : wrap64 ((gk : Int) - 1) = ((gk - 1 : Nat) : Int) := by rw [← IntWalk.i64_left, IntWalk.i64_in _ (by omega)]; omega
          have HS3 := Lib.hid s3
          have HBR := Lib.hid hbr
          clear hkx hky hgm s3
          generalize r.at_ (gk : Int) = o1 at *
          generalize r2.at_ (gk : Int) = o2 at *
          generalize r.fromL 1 (gk : Int) = F1 at *
          generalize r2.fromL 1 (gk : Int) = F2 at *
          by_cases hboth : ∃ t, o1 = some t ∧ o2 = some t
          · obtain ⟨t, rfl, rfl⟩ := hboth
            obtain rfl := hsame t rfl rfl
            clear hsame
            go_wp2_with fail
            refine (htx _ hbr).mono ?_
            rintro e w6 ⟨rfl, hb6⟩
            have hz := hbr.trans (hb6.mono hbr.size)
            clear htx
            go_wp2_with fail
            refine (hty _ hz).mono ?_
            rintro e w7 ⟨rfl, hb7⟩
            have hz := hz.trans (hb7.mono hz.size)
            clear hty
            go_wp2_with fail
            refine (hfx _ hz).mono ?_
            rintro e w8 ⟨A8, c8, rfl, hE8, hb8⟩
            have hz := hz.trans (hb8.mono hz.size)
            clear hfx
            go_wp2_with fail
            refine (hfy _ hz).mono ?_
            rintro e w9 ⟨A9, c9, rfl, hE9, hb9⟩
            have hz := hz.trans (hb9.mono hz.size)
            have hSm := sameR_any _ _ A8 _ c8 F1 A9 _ c9 F1 w9 (hE8.below hb9 (Nat.le_refl _)) hE9 hfm
            rw [sameE_refl] at hSm
            clear hfy hE8 hE9
            go_wp2_with fail
            refine hSm.mono ?_
            rintro e w10 ⟨rfl, hb10⟩
            go_wp2
            go_ret
            exact ⟨rfl, hbw4.trans ((hz.trans (hb10.mono hz.size)).mono hbw4.size)⟩
          · have hcase : (o1.isSome = false) ∨ (o1.isSome = true ∧ o2.isSome = false) ∨ (o1.isSome = true ∧ o2.isSome = true ∧ o1.getD 0 ≠ o2.getD 0) := by
              cases o1 with
              | none => exact .inl rfl
              | some a =>
                cases o2 with
                | none => exact .inr (.inl ⟨rfl, rfl⟩)
                | some b => exact .inr (.inr ⟨rfl, rfl, fun e => hboth ⟨a, rfl, congrArg some (show b = a from e.symm)⟩⟩)
            clear hsame hboth hfx hfy hfm
            unfold atV at htx hty
            generalize o1.isSome = b1 at *
            generalize o2.isSome = b2 at *
            generalize o1.getD 0 = t1 at *
            generalize o2.getD 0 = t2 at *
            have hcase2 : (b1 = false) ∨ (b1 = true ∧ b2 = false) ∨ (b1 = true ∧ b2 = true ∧ (t1 == t2) = false ∧ (t1 = t2) = False) := hcase.imp id (Or.imp id fun h => ⟨h.1, h.2.1, beq_eq_false_iff_ne.2 h.2.2, eq_false h.2.2⟩)
            clear hcase
            rcases hcase2 with rfl | ⟨rfl, rfl⟩ | ⟨rfl, rfl, z1, z2⟩
            all_goals
              go_wp2_with fail
              refine (htx _ hbr).mono ?_
              rintro e w6 ⟨rfl, hb6⟩
              have hz := hbr.trans (hb6.mono hbr.size)
              clear htx
              go_wp2_with fail
              refine (hty _ hz).mono ?_
              rintro e w7 ⟨rfl, hb7⟩
              have hz := hz.trans (hb7.mono hz.size)
              clear hty
              go_wp2
              go_roundg (gk - 1)
              case measure => omega
              case rel => exact ⟨by rw [HS3.out], by have := HGM.out; omega, hz⟩

theorem walk (A0 : Option Addr) (n0 c0 : Nat) (l0 : List UInt8) (A1 : Option Addr) (n1 c1 : Nat) (l1 : List UInt8) (A2 : Option Addr) (n2 c2 : Nat) (l2 : List UInt8) (w : World) (h0 : Lies w A0 n0 c0 l0) (h1 : Lies w A1 n1 c1 l1) (h2 : Lies w A2 n2 c2 l2) (m0 : n0 ≤ maxLen) (m1 : n1 ≤ maxLen) (m2 : n2 ≤ maxLen) :
    Calls Try.prog 4 #[.slice A0 n0 c0, .slice A1 n1 c1, .slice A2 n2 c2] w fun e w' => e = .returned (.bool true) ∧ Below w.heap.size w w' := by
  by_cases hno : 6 < n0 ∨ 30 < n1 ∨ 30 < n2
  · exact walk_out A0 n0 c0 A1 n1 c1 A2 n2 c2 w m0 m1 m2 hno
  · exact walk_in A0 n0 c0 l0 A1 n1 c1 l1 A2 n2 c2 l2 w h0 h1 h2 (Nat.le_of_not_lt fun h => hno (.inl h)) (Nat.le_of_not_lt fun h => hno (.inr (.inl h))) (Nat.le_of_not_lt fun h => hno (.inr (.inr h)))

end Go.Proofs.Ytlanjlboipnpfaa.rlogMatches
