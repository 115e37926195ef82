/- What is handed in or out is by itself, and so is a clone: the law's walk. -/
import Derived.Test.YtkgkllhocmedoaaDskInst
import Derived.Test.YtkgkllhocmedoaaDskAwake
namespace Go.Proofs.Ytkgkllhocmedoaa
open Go.RowKit
set_option linter.unusedVariables false
set_option linter.unusedSimpArgs false

def oA : ByteArray := ⟨#[97]⟩
def oB : ByteArray := ⟨#[98]⟩
theorem oA_lt : ltS oA oB = true := by unfold ltS oA oB; rw [ByteArray.toList_eq, ByteArray.toList_eq]; decide
theorem oA_ne : ltS oB oA = false := ltS_asymm oA_lt

/-- A disk of these files. -/
def oD (l : List Fil) : Dsk := ⟨65536, l, false, 0, false⟩

theorem oD_may (l : List Fil) : (oD l).may oA oA = 0 := by
  have : rightS oA = true := right_a
  simp [Dsk.may, this, oD]
theorem oD_mayB (l : List Fil) : (oD l).may oB oB = 0 := by
  have : rightS oB = true := right_b
  simp [Dsk.may, this, oD]

theorem oD_burn (l : List Fil) : (oD l).burn = oD l := by simp [Dsk.burn, oD]

theorem get_nil : getF [] oA = (⟨oA, ByteArray.empty, 0⟩, false) := getF_none fun g hg => by cases hg
theorem get_one (b : ByteArray) (s : Nat) : getF [⟨oA, b, s⟩] oA = (⟨oA, b, s⟩, true) := getF_mem (f := ⟨oA, b, s⟩) (List.pairwise_singleton _ _) (by simp)
theorem get_oneB (b : ByteArray) (s : Nat) : getF [⟨oA, b, s⟩] oB = (⟨oB, ByteArray.empty, 0⟩, false) := getF_none fun g hg => by
  obtain rfl : g = ⟨oA, b, s⟩ := by simpa using hg
  intro e
  have := oA_lt
  have e : oA = oB := e
  rw [e, ltS_irr] at this
  cases this

theorem put_nil (b : ByteArray) (s : Nat) (h : 0 < b.size) : putF [] ⟨oA, b, s⟩ = [⟨oA, b, s⟩] := by simp [putF, h]
theorem put_one (b c : ByteArray) (s r : Nat) (h : 0 < c.size) : putF [⟨oA, b, s⟩] ⟨oA, c, r⟩ = [⟨oA, c, r⟩] := by simp [putF, h, ltS_irr]
theorem put_oneB (b c : ByteArray) (s r : Nat) (h : 0 < c.size) : putF [⟨oA, b, s⟩] ⟨oB, c, r⟩ = [⟨oA, b, s⟩, ⟨oB, c, r⟩] := by simp [putF, h, oA_lt, oA_ne]

theorem own_app0 (b : ByteArray) (h : 0 < b.size) (h2 : b.size ≤ 1000) : (oD []).append oA b = (oD [⟨oA, b, 0⟩], 0) := by
  have hr : ¬ (oD []).room < ((usedF (oD []).l : Nat) : Int) + (b.size : Int) := by
    show ¬ (65536 : Int) < ((0 : Nat) : Int) + (b.size : Int)
    omega
  have hg : getF (oD []).l oA = _ := get_nil
  unfold Dsk.append
  rw [oD_may, if_neg (by simp), if_neg hr, hg]
  dsimp only
  have e : ByteArray.empty ++ b = b := by simp
  rw [e, burn_with, oD_burn]
  have hp : putF (oD []).l ⟨oA, b, 0⟩ = _ := put_nil b 0 h
  rw [hp]
  rfl

theorem own_sync (b : ByteArray) (s : Nat) (h : 0 < b.size) : (oD [⟨oA, b, s⟩]).sync oA = (oD [⟨oA, b, b.size⟩], 0) := by
  have hg : getF (oD [⟨oA, b, s⟩]).l oA = _ := get_one b s
  unfold Dsk.sync
  rw [oD_may, if_neg (by simp), hg, if_neg (by simp), done_ok _ _ _ (by rw [oD_burn]; simp [oD]) rfl, oD_burn]
  have hp : putF (oD [⟨oA, b, s⟩]).l ⟨oA, b, b.size⟩ = _ := put_one b b s b.size h
  rw [hp]
  rfl

theorem own_read (b : ByteArray) (s : Nat) : (oD [⟨oA, b, s⟩]).read oA = (b, 0) := by
  have hg : getF (oD [⟨oA, b, s⟩]).l oA = _ := get_one b s
  unfold Dsk.read
  rw [oD_may, if_neg (by simp), hg, if_neg (by simp)]

theorem own_app1 (b : ByteArray) (s : Nat) (h : 0 < b.size) (h2 : b.size ≤ 1000) : (oD [⟨oA, b, s⟩]).append oA b = (oD [⟨oA, b ++ b, s⟩], 0) := by
  have hr : ¬ (oD [⟨oA, b, s⟩]).room < ((usedF (oD [⟨oA, b, s⟩]).l : Nat) : Int) + (b.size : Int) := by
    have : usedF (oD [⟨oA, b, s⟩]).l = b.size := by simp [oD, usedF]
    rw [this]
    show ¬ (65536 : Int) < (b.size : Int) + (b.size : Int)
    omega
  have hg : getF (oD [⟨oA, b, s⟩]).l oA = _ := get_one b s
  unfold Dsk.append
  rw [oD_may, if_neg (by simp), if_neg hr, hg]
  dsimp only
  rw [burn_with, oD_burn]
  have hp : putF (oD [⟨oA, b, s⟩]).l ⟨oA, b ++ b, s⟩ = _ := put_one b (b ++ b) s s (by simp; omega)
  rw [hp]
  rfl

theorem own_app2 (c b : ByteArray) (s : Nat) (h : 0 < b.size) (h2 : b.size ≤ 1000) (h3 : c.size ≤ 2000) : (oD [⟨oA, c, s⟩]).append oB b = (oD [⟨oA, c, s⟩, ⟨oB, b, 0⟩], 0) := by
  have hr : ¬ (oD [⟨oA, c, s⟩]).room < ((usedF (oD [⟨oA, c, s⟩]).l : Nat) : Int) + (b.size : Int) := by
    have : usedF (oD [⟨oA, c, s⟩]).l = c.size := by simp [oD, usedF]
    rw [this]
    show ¬ (65536 : Int) < (c.size : Int) + (b.size : Int)
    omega
  have hg : getF (oD [⟨oA, c, s⟩]).l oB = _ := get_oneB c s
  unfold Dsk.append
  rw [oD_mayB, if_neg (by simp), if_neg hr, hg]
  dsimp only
  have e : ByteArray.empty ++ b = b := by simp
  rw [e, burn_with, oD_burn]
  have hp : putF (oD [⟨oA, c, s⟩]).l ⟨oB, b, 0⟩ = _ := put_oneB c b s 0 h
  rw [hp]
  rfl

theorem own_used (b c : ByteArray) (s r : Nat) : usedF (oD [⟨oA, b, s⟩, ⟨oB, c, r⟩]).l = b.size + c.size := by simp [oD, usedF]

theorem good_own : Good (oD []) := good_new 65536 (by omega) (by omega)

theorem bsize (q : List UInt8) : (⟨q.toArray⟩ : ByteArray).size = q.length := rfl

theorem xor_ff (x : UInt8) : ∃ y : UInt8, bits .xor .u8 (x.toNat : Int) 255 = (y.toNat : Int) := by
  refine ⟨x ^^^ 255, ?_⟩
  have := x.toNat_lt
  have h := u8_xor_nat x.toNat 255 (by omega) (by omega)
  rw [UInt8.toNat_xor]
  exact h

set_option maxRecDepth 100000 in
set_option maxHeartbeats 4000000 in
theorem walk_own (A : Option Addr) (len cap : Nat) (l : List UInt8) (w : World) (hl : Lies w A len cap l) (hm : cap ≤ maxLen) :
    Calls Try.prog 6 #[.slice A len cap] w fun e w' => e = .returned (.bool true) ∧ Below w.heap.size w w' := by
  have hlm : len ≤ maxLen := Nat.le_trans hl.2.1 hm
  by_cases hbad : len < 1 ∨ 1000 < len
  · have hb' : (len : Int) < 1 ∨ (1 ≤ (len : Int) ∧ (1000 : Int) < (len : Int)) := by omega
    clear hl hm
    rcases hb' with h1 | ⟨h1, h2⟩
    all_goals
      go_enter Try.func6, Try.ntmps6
      go_wp2_with fail
      refine (awake_any diskOps w).mono ?_
      rintro e w1 ⟨rfl, hb1⟩
      go_wp2_with fail
      refine (awake_any diskOps w1).mono ?_
      rintro e w2 ⟨rfl, hb2⟩
      go_wp2
      go_ret
      exact ⟨rfl, hb1.trans (hb2.mono hb1.size)⟩
  · have h1 : ¬ ((len : Int) < 1) := by omega
    have h2 : ¬ ((1000 : Int) < (len : Int)) := by omega
    obtain rfl : l.length = len := hl.1
    have hl0 : 0 < l.length := by omega
    have hl3 : l.length ≤ 1000 := by omega
    have hsz : (⟨l.toArray⟩ : ByteArray).size = l.length := rfl
    have q1 := own_app0 ⟨l.toArray⟩ (by rw [hsz]; exact hl0) (by rw [hsz]; exact hl3)
    have q2 := own_sync ⟨l.toArray⟩ 0 (by rw [hsz]; exact hl0)
    have q3 := own_read ⟨l.toArray⟩ (⟨l.toArray⟩ : ByteArray).size
    have q4 := own_app1 ⟨l.toArray⟩ (⟨l.toArray⟩ : ByteArray).size (by rw [hsz]; exact hl0) (by rw [hsz]; exact hl3)
    have q5 := own_app2 ((⟨l.toArray⟩ : ByteArray) ++ ⟨l.toArray⟩) ⟨l.toArray⟩ (⟨l.toArray⟩ : ByteArray).size (by rw [hsz]; exact hl0) (by rw [hsz]; exact hl3) (by rw [ByteArray.size_append, hsz]; omega)
    have g0 := good_own
    have g1 := g0.append oA ⟨l.toArray⟩
    rw [q1] at g1
    have g2 := g1.sync oA
    rw [q2] at g2
    have g3 := g2.append oA ⟨l.toArray⟩
    rw [q4] at g3
    obtain ⟨i0, hi0, hz0, hz1, hz2⟩ := info_parts info_u8
    go_enter Try.func6, Try.ntmps6
    go_wp2_with fail
    refine (awake_any diskOps w).mono ?_
    rintro e w1 ⟨rfl, hb1⟩
    go_wp2_with fail
    refine (new_any 65536 w1 (· < w1.heap.size) (· < w1.heap.size) (by omega) (by omega) (fun k hk => hk) (fun k hk => hk)).mono ?_
    rintro e w2 ⟨d, rfl, hD2, hb2⟩
    have hb02 : Below w.heap.size w w2 := hb1.trans (hb2.mono hb1.size)
    have hl2 := hl.below hb02 (Nat.le_refl _)
    have hs12 := hb2.size
    go_wp2_with (first
      | (at_builtin; refine wpList_append_bytes _ rfl _ _ 34 rfl 5 i0 Try.underlying34 hi0 hz0 hz1 hz2 w2.heap.size (by simp) (.slice (some ⟨w2.heap.size, 0, none⟩) 0 0) [] rfl (World.ownsRow_made _ #[] 0 (Nat.le_refl _) (Nat.zero_le _) rfl) A l.length cap l rfl (hl2.below ((Below.refl _ _).alloc (Nat.le_refl _) _) (Nat.le_refl _)) (by simp; omega) ?_
         intro vx w3 hox hgx hvx
         have hb3 := ((Below.refl w2.heap.size w2).alloc (Nat.le_refl _) (.cells #[] 5)).grown hgx (by simp) (fun k e => by injection e with e; have e' : w2.heap.size = k := e; omega)
         obtain ⟨Ax, cx, rfl, hlx, hax⟩ := lies_of_owns hox)
      | fail)
    have hs23 := hb3.size
    obtain ⟨Z1, hZ1⟩ : ∃ Z1 : Nat → Prop, (fun k => k < w1.heap.size ∨ (w2.heap.size ≤ k ∧ k < w3.heap.size)) = Z1 := ⟨_, rfl⟩
    have hz1 : ∀ k, k < w1.heap.size → Z1 k := fun k hk => by rw [← hZ1]; exact .inl hk
    have hz2' : ∀ k, w2.heap.size ≤ k → k < w3.heap.size → Z1 k := fun k hk hk' => by rw [← hZ1]; exact .inr ⟨hk, hk'⟩
    have hz3 : ∀ k, Z1 k → k < w3.heap.size := fun k hk => by
      rw [← hZ1] at hk
      rcases hk with hk | hk
      · have hk : k < w1.heap.size := hk
        omega
      · exact hk.2
    have hD3 : DkG w3 d (oD []) Z1 Z1 := by
      refine DkG.carry (w := w2) hD2 hb3.size (fun k hk => ?_) (fun k hk => ?_) fun k hk _ => hb3.block k hk
      all_goals
        rw [← hZ1] at hk
        rcases hk with hk | hk
        · exact .inl hk
        · exact .inr hk.1
    clear hZ1
    have hb03 : Below w.heap.size w w3 := hb02.trans (hb3.mono hb02.size)
    have hwz : ∀ k, k < w.heap.size → Z1 k := fun k hk => hz1 k (Nat.lt_of_lt_of_le hk hb1.size)
    have hxl := hlx.2.2.2 hl0
    obtain ⟨gx, ox, rfl, hgx3, _⟩ := hxl
    obtain ⟨gx', hgx', hgb, _, hxc0, hxf0⟩ := Owns.at_ hox 0 hl0
    injection hgx' with hgx'
    injection hgx' with e1 e2
    subst e1 e2
    have hzx : Z1 gx := hz2' gx hgb hgx3
    have hA := append_any w3 d (oD []) Z1 Z1 oA (some ⟨gx, 0, none⟩) cx l hD3 g0 hz3 hz3 hlx (by omega)
    rw [q1] at hA
    clear hD2 hD3 hl2 hi0 hz0 hz1 hax hvx hgx
    go_wp2_with fail
    refine hA.mono ?_
    rintro e w4 ⟨rfl, hD4, k4⟩
    have hs4 := k4.size
    have hz4 : ∀ k, Z1 k → k < w4.heap.size := fun k hk => Nat.lt_of_lt_of_le (hz3 k hk) hs4
    have hS := sync_any w4 d _ Z1 Z1 oA hD4 g1 hz4 hz4
    rw [q2] at hS
    clear hA
    go_wp2_with fail
    refine hS.mono ?_
    rintro e w5 ⟨rfl, hD5, k5⟩
    have k35 : Keeps Z1 w3 w5 := k4.trans (keeps_own hD4 k5)
    have hs5 := k35.size
    have x0 : w5.cell? ⟨gx, 0, none⟩ = some (Go.Proofs.Ytkgkllhocmedoaa.u8 l[0]) := k35.cell hxc0 hzx
    have x1 : w5.frozen? ⟨gx, 0, none⟩ = false := (World.frozen?_of_block (k35.block gx hgx3 hzx)).trans hxf0
    have hgx5 : gx < w5.heap.size := Nat.lt_of_lt_of_le hgx3 hs5
    obtain ⟨xb, hxb⟩ := xor_ff l[0]
    clear hS hxc0 hxf0 hD4
    go_wp2_with fail
    have hD6 : DkG (w5.setCell ⟨gx, 0, none⟩ (.int .u8 (xb.toNat : Int))) d (oD [⟨oA, ⟨l.toArray⟩, (⟨l.toArray⟩ : ByteArray).size⟩]) Z1 Z1 := hD5.carry (by simp) (fun k hk => .inl hk) (fun k hk => .inl hk) fun k _ hk => Below.heap_setCell _ _ _ _ (fun e => by subst e; exact hk hzx)
    have hgx0 : w1.heap.size ≤ gx := by omega
    have hb06 : Below w.heap.size w (w5.setCell ⟨gx, 0, none⟩ (.int .u8 (xb.toNat : Int))) := (below_keeps hb03 k35 hwz hb03.size).setCell (by have := hb1.size; show w.heap.size ≤ gx; omega) _
    have hz6 : ∀ k, Z1 k → k < (w5.setCell ⟨gx, 0, none⟩ (.int .u8 (xb.toNat : Int))).heap.size := fun k hk => by
      have := hz3 k hk
      simp
      omega
    generalize w5.setCell ⟨gx, 0, none⟩ (.int .u8 (xb.toNat : Int)) = w6 at hD6 hb06 hz6 ⊢
    clear hD5 k35 k4 k5 x0 x1 hxb
    have hC := clone_disk w6 d _ Z1 Z1 hD6 g2 hz6
    go_wp2_with fail
    refine hC.mono ?_
    rintro e w7 ⟨rfl, hC7, hb67⟩
    clear hC
    have hb07 : Below w.heap.size w w7 := hb06.trans (hb67.mono hb06.size)
    have hR := read_any w7 d _ Z1 Z1 oA (hD6.below hb67) g2
    rw [q3] at hR
    go_wp2_with fail
    refine hR.mono ?_
    rintro e w8 ⟨Ay, cy, rfl, hly, hny, hb78, hfy⟩
    clear hR
    have hb08 : Below w.heap.size w w8 := hb07.trans (hb78.mono hb07.size)
    have hly' : Lies w8 Ay l.length cy l := hly
    obtain ⟨gy, oy, rfl, hgy8, hyc⟩ := hly'.2.2.2 hl0
    have hyc0 := hyc 0 hl0
    rw [Nat.add_zero] at hyc0
    have hgy7 : w7.heap.size ≤ gy := hny _ rfl
    have hyf := hfy gy oy oy rfl
    have t1 : (convert 34 9 (.slice (some ⟨gy, oy, none⟩) l.length cy)).run Try.prog w8 = .ok (.string ⟨l.toArray⟩) w8 := hly'.text Try.underlying34 Try.underlying5 Try.underlying9
    have t2 : (convert 34 9 (.slice A l.length cap)).run Try.prog w8 = .ok (.string ⟨l.toArray⟩) w8 := (hl.below hb08 (Nat.le_refl _)).text Try.underlying34 Try.underlying5 Try.underlying9
    obtain ⟨yb, hyb⟩ := xor_ff l[0]
    rw [hsz] at *
    go_wp2_with fail
    have hs67 := hb67.size
    have hs78 := hb78.size
    have hblk6 : ∀ k, k < w6.heap.size → (w8.setCell ⟨gy, oy, none⟩ (.int .u8 (yb.toNat : Int))).heap[k]? = w6.heap[k]? := fun k hk =>
      (Below.heap_setCell _ _ _ _ (by show k ≠ gy; omega)).trans ((hb78.block k (by omega)).trans (hb67.block k hk))
    have hb09 : Below w.heap.size w (w8.setCell ⟨gy, oy, none⟩ (.int .u8 (yb.toNat : Int))) := hb08.setCell (by have := hb07.size; show w.heap.size ≤ gy; omega) _
    obtain ⟨Z2, hZ2⟩ : ∃ Z2 : Nat → Prop, (fun k => Z1 k ∨ (w7.heap.size ≤ k ∧ k < (w8.setCell ⟨gy, oy, none⟩ (.int .u8 (yb.toNat : Int))).heap.size)) = Z2 := ⟨_, rfl⟩
    have hC9 : DkG (w8.setCell ⟨gy, oy, none⟩ (.int .u8 (yb.toNat : Int))) w6.heap.size (oD [⟨oA, ⟨l.toArray⟩, l.length⟩]) Z2 (· < w6.heap.size) := by
      refine hC7.carry (by simp; omega) (fun k hk => ?_) (fun k hk => .inl hk) fun k hk _ => (Below.heap_setCell _ _ _ _ (by show k ≠ gy; omega)).trans (hb78.block k hk)
      rw [← hZ2] at hk
      exact hk.imp id And.left
    have hz9 : ∀ k, Z2 k → k < (w8.setCell ⟨gy, oy, none⟩ (.int .u8 (yb.toNat : Int))).heap.size := fun k hk => by
      rw [← hZ2] at hk
      rcases hk with hk | hk
      · have := hz6 k hk
        simp
        omega
      · exact hk.2
    have hz69 : ∀ k, k < w6.heap.size → k < (w8.setCell ⟨gy, oy, none⟩ (.int .u8 (yb.toNat : Int))).heap.size := fun k hk => by simp; omega
    clear hZ2 hC7 t1 t2 hly hly' hyc hyc0 hyf hfy hny hyb
    generalize w8.setCell ⟨gy, oy, none⟩ (.int .u8 (yb.toNat : Int)) = w9 at hblk6 hb09 hC9 hz9 hz69 ⊢
    have hs9 : w6.heap.size < w9.heap.size := hC9.own.2
    have hA := append_any w9 w6.heap.size _ Z2 (· < w6.heap.size) oA A cap l hC9 g2 hz9 hz69 (hl.below hb09 (Nat.le_refl _)) (by omega)
    rw [q4] at hA
    refine hA.mono ?_
    rintro e w10 ⟨rfl, hC10, k10⟩
    have hb010 : Below w.heap.size w w10 := below_keeps hb09 k10 (fun k hk => Nat.lt_of_lt_of_le hk hb06.size) hb09.size
    have hs10 := k10.size
    have hB := append_any w10 w6.heap.size _ Z2 (· < w6.heap.size) oB A cap l hC10 g3 (fun k hk => Nat.lt_of_lt_of_le (hz9 k hk) hs10) (fun k hk => Nat.lt_of_lt_of_le (hz69 k hk) hs10) (hl.below hb010 (Nat.le_refl _)) (by omega)
    rw [q5] at hB
    clear hA hC9
    go_wp2_with fail
    refine hB.mono ?_
    rintro e w11 ⟨rfl, hC11, k11⟩
    have k911 := k10.trans k11
    have hb011 : Below w.heap.size w w11 := below_keeps hb09 k911 (fun k hk => Nat.lt_of_lt_of_le hk hb06.size) hb09.size
    have hD11 : DkG w11 d (oD [⟨oA, ⟨l.toArray⟩, l.length⟩]) Z1 Z1 := hD6.carry (by have := k911.size; omega) (fun k hk => .inl hk) (fun k hk => .inl hk) fun k hk _ => (k911.block k (by omega) hk).trans (hblk6 k hk)
    have hR := read_any w11 d _ Z1 Z1 oA hD11 g2
    rw [q3] at hR
    clear hB hC10 hD6 k10 k11
    go_wp2_with fail
    refine hR.mono ?_
    rintro e w12 ⟨Az, cz, rfl, hlz, _, hb12, _⟩
    clear hR
    have hb012 : Below w.heap.size w w12 := hb011.trans (hb12.mono hb011.size)
    have hlz' : Lies w12 Az l.length cz l := hlz
    have t1 : (convert 34 9 (.slice Az l.length cz)).run Try.prog w12 = .ok (.string ⟨l.toArray⟩) w12 := hlz'.text Try.underlying34 Try.underlying5 Try.underlying9
    have t2 : (convert 34 9 (.slice A l.length cap)).run Try.prog w12 = .ok (.string ⟨l.toArray⟩) w12 := (hl.below hb012 (Nat.le_refl _)).text Try.underlying34 Try.underlying5 Try.underlying9
    have hN := names_any w12 d _ Z1 Z1 (hD11.below hb12) g2
    have hU := fun w' hb => used_any w' w6.heap.size _ Z2 (· < w6.heap.size) ((hC11.below hb12).below (w' := w') hb)
    rw [own_used, ByteArray.size_append, bsize l] at hU
    clear hD11 hC11 hlz hlz'
    dsimp only
    rw [bsize l]
    clear q1 q2 q3 q4 q5 g0 g1 g2 g3 hblk6
    have e3 : IntKind.i64.wrap (3 * (l.length : Int)) = 3 * (l.length : Int) := IntWalk.i64_in _ (by omega)
    have e4 : ((l.length + l.length + l.length : Nat) : Int) = 3 * (l.length : Int) := by omega
    simp only [e4] at hU
    go_wp2_with fail
    refine hN.mono ?_
    rintro e w13 ⟨An, cn, rfl, _, _, hb13⟩
    clear hN
    go_wp2_with fail
    refine (hU w13 hb13).mono ?_
    rintro e w14 ⟨rfl, rfl⟩
    clear hU
    go_wp2
    go_ret
    exact ⟨rfl, hb012.trans (hb13.mono hb012.size)⟩

end Go.Proofs.Ytkgkllhocmedoaa
