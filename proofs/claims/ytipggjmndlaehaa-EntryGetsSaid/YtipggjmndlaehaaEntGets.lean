/- EntryGets' walk. -/
import Derived.Test.YtipggjmndlaehaaEntAwake
import Derived.Test.YtipggjmndlaehaaEntEq
import Derived.Deep.LoopGhost
import Derived.Deep.QuietTactic
import Derived.BigQuiet
namespace Go.Proofs.Ytipggjmndlaehaa.entryGets
open Go.ChangeShapes Go.WideShapes Go.ChangeAt Go.RowKit Go.Proofs.Ytipggjmndlaehaa
set_option linter.unusedVariables false
set_option linter.unusedSimpArgs false

theorem left_taken (s : St) (most : Int) {b : Nat} (h : left s ≤ b) : left (takenN s most).s ≤ b :=
  left_text _ most (left_number _ 8 (left_number s 8 h))

theorem left_from (ok : Int → Int → Nat → Bool) (s : St) (most : Int) {b : Nat} (h : left s ≤ b) : left (fromN ok s most).s ≤ b := by
  have := left_taken s most h
  unfold fromN
  split
  · simp [left]
  · split
    · exact this
    · simp [left]

theorem left_hard (s : St) {b : Nat} (h : left s ≤ b) : left (hardFromN s).s ≤ b := by
  have := left_number _ 8 (left_number s 8 h)
  unfold hardFromN
  split
  · simp [left]
  · split
    · exact this
    · simp [left]

/-- Two cells of one block are stored: all else is as it was. -/
theorem set2_off (W : World) (b : Nat) (u v : Value) (k : Nat) (h : k ≠ b) : ((W.setCell ⟨b, 0, none⟩ u).setCell ⟨b, 1, none⟩ v).heap[k]? = W.heap[k]? :=
  (Below.heap_setCell _ _ _ _ (by exact h)).trans (Below.heap_setCell _ _ _ _ (by exact h))

theorem set2_cell (W : World) (b : Nat) (u v : Value) (k o : Nat) (h : k ≠ b) : ((W.setCell ⟨b, 0, none⟩ u).setCell ⟨b, 1, none⟩ v).cell? ⟨k, o, none⟩ = W.cell? ⟨k, o, none⟩ :=
  World.cell?_of_block (set2_off W b u v k h)

theorem below_set2 {B : Nat} {w0 W : World} (h : Below B w0 W) (b : Nat) (hb : B ≤ b) (u v : Value) : Below B w0 ((W.setCell ⟨b, 0, none⟩ u).setCell ⟨b, 1, none⟩ v) :=
  (h.setCell (by exact hb) u).setCell (by exact hb) v

theorem in_set2 {W : World} {i : Nat} {s : St} {Z : Nat → Prop} (h : In W i s Z) (b : Nat) (hb : Z b) (u v : Value) : In ((W.setCell ⟨b, 0, none⟩ u).setCell ⟨b, 1, none⟩ v) i s Z :=
  h.keep (by simp) fun k _ hnz => set2_off W b u v k fun e => hnz (e ▸ hb)

abbrev dIn (A : Option Addr) (cap : Nat) (s : St) : Array Value := #[.slice A (left s) cap, .bool s.isNone]

/-- What holds at a round's head: the program's In, the document's. -/
structure Both (w wr : World) (i q : Nat) (Z : Nat → Prop) (s : St) (A : Option Addr) (cap : Nat) : Prop where
  inn : In wr i s Z
  row : wr.heap[q]? = some (.cells (dIn A cap s) 57)
  lies : RLies w A cap s
  few : left s ≤ 5000
  below : Below w.heap.size w wr

set_option maxRecDepth 100000 in
set_option maxHeartbeats 1600000 in
theorem walk_out (A0 : Option Addr) (len0 cap0 : Nat) (A1 : Option Addr) (len1 cap1 : Nat) (w : World) (hm0 : len0 ≤ maxLen) (hm1 : len1 ≤ maxLen) (hno : 5000 < len0 ∨ 20 < len1) :
    Calls Try.prog 5 #[.slice A0 len0 cap0, .slice A1 len1 cap1] w fun e w' => e = .returned (.bool true) ∧ Below w.heap.size w w' := by
  unfold maxLen at hm0 hm1
  by_cases h1 : 5000 < len0
  · have h1' : (5000 : Int) < (len0 : Int) := by omega
    clear hno h1
    go_enter Try.func5, Try.ntmps5
    go_wp2_with fail
    refine (awake_any _).mono ?_
    rintro e w1 ⟨rfl, hb1⟩
    go_wp2_with fail
    refine (awake_any _).mono ?_
    rintro e w3 ⟨rfl, hb3⟩
    go_wp2
    go_ret
    exact ⟨rfl, hb1.trans (hb3.mono hb1.size)⟩
  · have h1' : ((5000 : Int) < (len0 : Int)) = False := eq_false (by omega)
    have h2' : (20 : Int) < (len1 : Int) := by omega
    clear hno h1
    go_enter Try.func5, Try.ntmps5
    go_wp2_with fail
    refine (awake_any _).mono ?_
    rintro e w1 ⟨rfl, hb1⟩
    go_wp2_with fail
    refine (awake_any _).mono ?_
    rintro e w3 ⟨rfl, hb3⟩
    go_wp2
    go_ret
    exact ⟨rfl, hb1.trans (hb3.mono hb1.size)⟩

set_option maxRecDepth 100000 in
set_option maxHeartbeats 6400000 in
theorem walk_in (A0 : Option Addr) (len0 cap0 : Nat) (L : List UInt8) (A1 : Option Addr) (len1 cap1 : Nat) (K : List UInt8) (w : World) (hb : Lies w A0 len0 cap0 L) (hk : Lies w A1 len1 cap1 K) (h0 : len0 ≤ 5000) (h1 : len1 ≤ 20) :
    Calls Try.prog 5 #[.slice A0 len0 cap0, .slice A1 len1 cap1] w fun e w' => e = .returned (.bool true) ∧ Below w.heap.size w w' := by
  have h0' : ((5000 : Int) < (len0 : Int)) = False := eq_false (by omega)
  have h1' : ((20 : Int) < (len1 : Int)) = False := eq_false (by omega)
  obtain rfl : L.length = len0 := hb.1
  have hKl : K.length = len1 := hk.1
  go_enter Try.func5, Try.ntmps5
  go_wp2_with fail
  refine (awake_any _).mono ?_
  rintro e w1 ⟨rfl, hb1⟩
  have hN := newIn_any A0 L.length cap0 L w1 (· < w1.heap.size) (fun k hk => hk) (hb.below hb1 (Nat.le_refl _)) (by omega)
  go_wp2_with fail
  refine hN.mono ?_
  rintro e w2 ⟨i, rfl, h2, hb2⟩
  have hb02 := hb1.trans (hb2.mono hb1.size)
  have hA3 := (Below.refl w2.heap.size w2).alloc (Nat.le_refl _) (.cells #[.slice A0 L.length cap0, .bool false] 57)
  have hB3 : Both w (w2.alloc (.cells #[.slice A0 L.length cap0, .bool false] 57)) i w2.heap.size (fun q => q < w1.heap.size ∨ w2.heap.size ≤ q) (some L) A0 cap0 :=
    ⟨(h2.out fun q hq => hq).below hA3 (Nat.le_refl _), heap_alloc_new _ _, hb, h0, hb02.trans (hA3.mono hb02.size)⟩
  have hs12 := hb2.size
  clear hN h2 hb02 hA3 hb2 h0' h1' h0
  go_wp2
  go_loopg [35] len1 (fun g x wr => ∃ (j : Nat) (s : St) (A : Option Addr) (cap : Nat), x = .int .i64 (j : Int) ∧ j + g = len1 ∧ Both w wr i w2.heap.size (fun q => q < w1.heap.size ∨ w2.heap.size ≤ q) s A cap)
  case atStart => exact ⟨0, some L, A0, cap0, rfl, by omega, hB3⟩
  case round =>
    clear hB3
    obtain ⟨j, s, A, cap, rfl, hj, hB⟩ := hrel
    by_cases hjl : j < len1
    · have hlt' : (j : Int) < (len1 : Int) := by omega
      obtain ⟨b, off, rfl, hbl, hc⟩ := hk.cell j (by omega)
      have f0 : wr.cell? ⟨b, off + j, none⟩ = some (.int .u8 ((K[j]'(by omega)).toNat : Int)) := (hB.below.cell (p := ⟨b, off + j, none⟩) hbl).trans hc
      have hz : (K[j]'(by omega)).toNat < 256 := UInt8.toNat_lt _
      generalize (K[j]'(by omega)).toNat = z at *
      have hzi : (z : Int) < 256 := by omega
      obtain ⟨⟨g0, g1⟩, ⟨m0, m1⟩⟩ := row2 hB.row
      have hq6 := hlt hB.row
      have hbwr : b < wr.heap.size := Nat.lt_of_lt_of_le hbl hB.below.size
      have hl5 : left s ≤ 140737488355328 := by have := hB.few; omega
      have hA1 := (Below.refl wr.heap.size wr).alloc (Nat.le_refl _) (.cells (dIn A cap s) 57)
      have hbW1 := hB.below.trans (hA1.mono hB.below.size)
      have hI1 := hB.inn.below hA1 (Nat.le_refl _)
      have hr9 := heap_alloc_new wr (.cells (dIn A cap s) 57)
      have hr6 := (hA1.block _ hq6).trans hB.row
      have hs1 : wr.heap.size < (wr.alloc (.cells (dIn A cap s) 57)).heap.size := by simp
      unfold dIn at *
      have HJ := Lib.hid hj
      clear hc hj
      rcases (show z % 3 = 0 ∨ z % 3 = 1 ∨ z % 3 = 2 by omega) with h3 | h3 | h3
      · have e3 : ((z : Int) % 3 == 0) = true := beq_iff_eq.2 (by omega)
        clear h3
        have hF := fromR_any A cap s _ hl5 (hB.lies.below hbW1 (Nat.le_refl _))
        have hG := fun W h hz => getE_any W i s (fun q => q < w1.heap.size ∨ w2.heap.size ≤ q) h hz hl5
        have hleft := left_from rightB s 12000 hB.few
        generalize fromN rightB s 12000 = F at *
        obtain ⟨fi, ft, fd, fs⟩ := F
        dsimp only at hF hG hleft
        simp only [inv] at hF
        have hO := fun W D n' c' D' m' c'' (h : Lies W D n' c' fd) (h' : Lies W D' m' c'' fd) => oneR_any fi ft D n' c' fd fi ft D' m' c'' fd W h h'
        rw [oneB_self] at hO
        have HBL := Lib.hid hB.below
        have HLI := Lib.hid hB.lies
        clear hB
        generalize hnS : left s = nS at *
        generalize hbS : s.isNone = bS at *
        generalize hnF : left fs = nF at *
        generalize hbF : fs.isNone = bF at *
        have HNF := Lib.hid hnF
        have HBF := Lib.hid hbF
        clear hnS hbS hnF hbF
        go_wp2_with fail
        refine hF.mono ?_
        rintro e w3 ⟨D, n, c, A', cap', rfl, hl3, hD3, hr3, hb3⟩
        have hsz13 : wr.heap.size < w3.heap.size := Nat.lt_of_lt_of_le hs1 hb3.size
        have hw26 : w2.heap.size < w3.heap.size := Nat.lt_trans hq6 hsz13
        have hI3 := hI1.below hb3 (Nat.le_refl _)
        have hr93 := (hb3.block _ hs1).trans hr9
        have hr63 := (hb3.block _ (Nat.lt_trans hq6 hs1)).trans hr6
        have hbw3 := hbW1.trans (hb3.mono hbW1.size)
        have hA4 : Below w3.heap.size w3 ((w3.alloc (.cells #[.int .i64 fi, .int .i64 ft, .slice D n c] 31)).alloc (.cells #[.slice A' nF cap', .bool bF] 57)) := ((Below.refl _ _).alloc (Nat.le_refl _) _).alloc (by simp) _
        have hq10 : ((w3.alloc (.cells #[.int .i64 fi, .int .i64 ft, .slice D n c] 31)).alloc (.cells #[.slice A' nF cap', .bool bF] 57)).heap[w3.heap.size]? = some (.cells #[.int .i64 fi, .int .i64 ft, .slice D n c] 31) := (Below.heap_alloc _ _ _ (by simp)).trans (heap_alloc_new _ _)
        have hq11 : ((w3.alloc (.cells #[.int .i64 fi, .int .i64 ft, .slice D n c] 31)).alloc (.cells #[.slice A' nF cap', .bool bF] 57)).heap[w3.heap.size + 1]? = some (.cells #[.slice A' nF cap', .bool bF] 57) := heap_alloc2_new _ _ _
        have hI4 := hI3.below hA4 (Nat.le_refl _)
        have hr94 := (hA4.block _ hsz13).trans hr93
        have hr64 := (hA4.block _ hw26).trans hr63
        have hl4 := hl3.below hA4 (Nat.le_refl _)
        have hbw4 := hbw3.trans (hA4.mono hbw3.size)
        have hDz : 0 < n → ∀ g off, D = some ⟨g, off, none⟩ → (g < w1.heap.size ∨ w2.heap.size ≤ g) := fun h0 g off e => .inr (by have := hD3 h0 g off e; omega)
        have hsz4 : w3.heap.size ≤ ((w3.alloc (.cells #[.int .i64 fi, .int .i64 ft, .slice D n c] 31)).alloc (.cells #[.slice A' nF cap', .bool bF] 57)).heap.size := hA4.size
        have hG := hG _ (hI4.below (Below.refl _ _).drew (Nat.le_refl _)) (fun q hq => .inr (Nat.le_trans (Nat.le_of_lt hw26) (Nat.le_trans hsz4 hq)))
        have hS4 : ((w3.alloc (.cells #[.int .i64 fi, .int .i64 ft, .slice D n c] 31)).alloc (.cells #[.slice A' nF cap', .bool bF] 57)).drew.cell? ⟨w3.heap.size, 0, none⟩ = some (.int .i64 fi) ∧ ((w3.alloc (.cells #[.int .i64 fi, .int .i64 ft, .slice D n c] 31)).alloc (.cells #[.slice A' nF cap', .bool bF] 57)).drew.cell? ⟨w3.heap.size, 1, none⟩ = some (.int .i64 ft) ∧ ((w3.alloc (.cells #[.int .i64 fi, .int .i64 ft, .slice D n c] 31)).alloc (.cells #[.slice A' nF cap', .bool bF] 57)).drew.cell? ⟨w3.heap.size, 2, none⟩ = some (.slice D n c) ∧ ((w3.alloc (.cells #[.int .i64 fi, .int .i64 ft, .slice D n c] 31)).alloc (.cells #[.slice A' nF cap', .bool bF] 57)).drew.cell? ⟨w3.heap.size + 1, 0, none⟩ = some (.slice A' nF cap') ∧ ((w3.alloc (.cells #[.int .i64 fi, .int .i64 ft, .slice D n c] 31)).alloc (.cells #[.slice A' nF cap', .bool bF] 57)).drew.cell? ⟨w3.heap.size + 1, 1, none⟩ = some (.bool bF) ∧ ((w3.alloc (.cells #[.int .i64 fi, .int .i64 ft, .slice D n c] 31)).alloc (.cells #[.slice A' nF cap', .bool bF] 57)).drew.frozen? ⟨wr.heap.size, 0, none⟩ = false ∧ ((w3.alloc (.cells #[.int .i64 fi, .int .i64 ft, .slice D n c] 31)).alloc (.cells #[.slice A' nF cap', .bool bF] 57)).drew.frozen? ⟨wr.heap.size, 1, none⟩ = false := by
          obtain ⟨⟨x0, x1, x2⟩, _⟩ := row3 hq10
          obtain ⟨⟨x3, x4⟩, _⟩ := row2 hq11
          obtain ⟨_, ⟨x5, x6⟩⟩ := row2 hr94
          exact ⟨x0, x1, x2, x3, x4, x5, x6⟩
        have hne9 : w3.heap.size ≠ wr.heap.size := by omega
        have hne8 : w3.heap.size + 1 ≠ wr.heap.size := by omega
        have hne6 : w2.heap.size ≠ wr.heap.size := by omega
        have HDZ := Lib.hid hDz
        clear hF hI1 hb3 hr9 hr6 hbW1 hI3 hr93 hr63 hbw3 hl3 hD3 hDz g0 g1 m0 m1 f0 hA1 hs1 hsz4 hA4
        go_wp2
        go_region_held3 (fun w' => w'.cell? ⟨w3.heap.size, 0, none⟩ = some (.int .i64 fi) ∧ w'.cell? ⟨w3.heap.size, 1, none⟩ = some (.int .i64 ft) ∧ w'.cell? ⟨w3.heap.size, 2, none⟩ = some (.slice D n c) ∧ w'.cell? ⟨w3.heap.size + 1, 0, none⟩ = some (.slice A' nF cap') ∧ w'.cell? ⟨w3.heap.size + 1, 1, none⟩ = some (.bool bF) ∧ w'.frozen? ⟨wr.heap.size, 0, none⟩ = false ∧ w'.frozen? ⟨wr.heap.size, 1, none⟩ = false)
          (first | exact hS7 | exact hS6 | exact hS5 | exact hS4)
          (first
            | (go_at_call 26
               refine hG.mono ?_
               rintro e w5 ⟨D2, n2, c2, rfl, hl52, _, hI5, k5⟩
               have hq105 := (k5.block _ (hlt hq10) (.inr (Nat.le_of_lt hw26))).trans hq10
               have hq115 := (k5.block _ (hlt hq11) (.inr (by omega))).trans hq11
               have hr95 := (k5.block _ (hlt hr94) (.inr (Nat.le_of_lt hq6))).trans hr94
               have hr65 := (k5.block _ (hlt hr64) (.inr (Nat.le_refl _))).trans hr64
               have hlD5 := hl4.drew.keeps k5 HDZ.out
               have hbw5 := below_keeps hbw4.drew k5 (fun q hq => .inl (Nat.lt_of_lt_of_le hq hb1.size)) hbw4.size
               have hS5 : w5.cell? ⟨w3.heap.size, 0, none⟩ = some (.int .i64 fi) ∧ w5.cell? ⟨w3.heap.size, 1, none⟩ = some (.int .i64 ft) ∧ w5.cell? ⟨w3.heap.size, 2, none⟩ = some (.slice D n c) ∧ w5.cell? ⟨w3.heap.size + 1, 0, none⟩ = some (.slice A' nF cap') ∧ w5.cell? ⟨w3.heap.size + 1, 1, none⟩ = some (.bool bF) ∧ w5.frozen? ⟨wr.heap.size, 0, none⟩ = false ∧ w5.frozen? ⟨wr.heap.size, 1, none⟩ = false := by
                 obtain ⟨⟨x0, x1, x2⟩, _⟩ := row3 hq105
                 obtain ⟨⟨x3, x4⟩, _⟩ := row2 hq115
                 obtain ⟨_, ⟨x5, x6⟩⟩ := row2 hr95
                 exact ⟨x0, x1, x2, x3, x4, x5, x6⟩)
            | (go_at_call 25
               refine (hO _ _ _ _ _ _ _ hl52 hlD5).mono ?_
               rintro e w6 ⟨rfl, hb6⟩
               have hI6 := hI5.below hb6 (Nat.le_refl _)
               have hq106 := (hb6.block _ (hlt hq105)).trans hq105
               have hq116 := (hb6.block _ (hlt hq115)).trans hq115
               have hr96 := (hb6.block _ (hlt hr95)).trans hr95
               have hr66 := (hb6.block _ (hlt hr65)).trans hr65
               have hbw6 := hbw5.trans (hb6.mono hbw5.size)
               have hS6 : w6.cell? ⟨w3.heap.size, 0, none⟩ = some (.int .i64 fi) ∧ w6.cell? ⟨w3.heap.size, 1, none⟩ = some (.int .i64 ft) ∧ w6.cell? ⟨w3.heap.size, 2, none⟩ = some (.slice D n c) ∧ w6.cell? ⟨w3.heap.size + 1, 0, none⟩ = some (.slice A' nF cap') ∧ w6.cell? ⟨w3.heap.size + 1, 1, none⟩ = some (.bool bF) ∧ w6.frozen? ⟨wr.heap.size, 0, none⟩ = false ∧ w6.frozen? ⟨wr.heap.size, 1, none⟩ = false := by
                 obtain ⟨⟨x0, x1, x2⟩, _⟩ := row3 hq106
                 obtain ⟨⟨x3, x4⟩, _⟩ := row2 hq116
                 obtain ⟨_, ⟨x5, x6⟩⟩ := row2 hr96
                 exact ⟨x0, x1, x2, x3, x4, x5, x6⟩
               obtain ⟨⟨y0, y1⟩, ⟨y2, y3⟩⟩ := row2 hr96
               have hr97 := two_set w6 wr.heap.size (.slice A' nF cap') (.bool bF) _ _ _ hr96
               have hS7 : ((w6.setCell ⟨wr.heap.size, 0, none⟩ (.slice A' nF cap')).setCell ⟨wr.heap.size, 1, none⟩ (.bool bF)).cell? ⟨w3.heap.size, 0, none⟩ = some (.int .i64 fi) ∧ ((w6.setCell ⟨wr.heap.size, 0, none⟩ (.slice A' nF cap')).setCell ⟨wr.heap.size, 1, none⟩ (.bool bF)).cell? ⟨w3.heap.size, 1, none⟩ = some (.int .i64 ft) ∧ ((w6.setCell ⟨wr.heap.size, 0, none⟩ (.slice A' nF cap')).setCell ⟨wr.heap.size, 1, none⟩ (.bool bF)).cell? ⟨w3.heap.size, 2, none⟩ = some (.slice D n c) ∧ ((w6.setCell ⟨wr.heap.size, 0, none⟩ (.slice A' nF cap')).setCell ⟨wr.heap.size, 1, none⟩ (.bool bF)).cell? ⟨w3.heap.size + 1, 0, none⟩ = some (.slice A' nF cap') ∧ ((w6.setCell ⟨wr.heap.size, 0, none⟩ (.slice A' nF cap')).setCell ⟨wr.heap.size, 1, none⟩ (.bool bF)).cell? ⟨w3.heap.size + 1, 1, none⟩ = some (.bool bF) ∧ ((w6.setCell ⟨wr.heap.size, 0, none⟩ (.slice A' nF cap')).setCell ⟨wr.heap.size, 1, none⟩ (.bool bF)).frozen? ⟨wr.heap.size, 0, none⟩ = false ∧ ((w6.setCell ⟨wr.heap.size, 0, none⟩ (.slice A' nF cap')).setCell ⟨wr.heap.size, 1, none⟩ (.bool bF)).frozen? ⟨wr.heap.size, 1, none⟩ = false := by
                 obtain ⟨⟨x0, x1, x2⟩, _⟩ := row3 ((set2_off w6 wr.heap.size (.slice A' nF cap') (.bool bF) _ hne9).trans hq106)
                 obtain ⟨⟨x3, x4⟩, _⟩ := row2 ((set2_off w6 wr.heap.size (.slice A' nF cap') (.bool bF) _ hne8).trans hq116)
                 obtain ⟨_, ⟨x5, x6⟩⟩ := row2 hr97
                 exact ⟨x0, x1, x2, x3, x4, x5, x6⟩))
        have hI7 := in_set2 (i := i) (s := fs) (Z := fun q => q < w1.heap.size ∨ w2.heap.size ≤ q) hI6 wr.heap.size (.inr (Nat.le_of_lt hq6)) (.slice A' nF cap') (.bool bF)
        have hr67 := (set2_off w6 wr.heap.size (.slice A' nF cap') (.bool bF) _ hne6).trans hr66
        have hwle : w.heap.size ≤ w2.heap.size := Nat.le_trans hb1.size hs12
        have hbw7 := below_set2 hbw6 wr.heap.size (by omega) (.slice A' nF cap') (.bool bF)
        generalize hX : (w6.setCell ⟨wr.heap.size, 0, none⟩ (.slice A' nF cap')).setCell ⟨wr.heap.size, 1, none⟩ (.bool bF) = X at *
        clear hX hS7 hS6 hS5 hS4 hq10 hq11 hq105 hq115 hq106 hq116 hr94 hr64 hr95 hr65 hr96 hr66 hI4 hI5 hI6 hbw4 hbw5 hbw6 hl4 hl52 hlD5 k5 hb6 hG hO y0 y1 y2 y3
        obtain ⟨⟨x0, x1⟩, _⟩ := row2 hr97
        obtain ⟨⟨x2, x3⟩, ⟨x4, x5⟩⟩ := row2 hr67
        have hI8 := in_set2 (i := i) (s := fs) (Z := fun q => q < w1.heap.size ∨ w2.heap.size ≤ q) hI7 w2.heap.size (.inr (Nat.le_refl _)) (.slice A' nF cap') (.bool bF)
        have hr68 := two_set X w2.heap.size (.slice A' nF cap') (.bool bF) _ _ _ hr67
        have hbw8 := below_set2 hbw7 w2.heap.size hwle (.slice A' nF cap') (.bool bF)
        go_upto_region 20 with fail
        generalize hY : (X.setCell ⟨w2.heap.size, 0, none⟩ (.slice A' nF cap')).setCell ⟨w2.heap.size, 1, none⟩ (.bool bF) = Y at *
        clear hY hI7 hr97 hr67 hbw7 x0 x1 x2 x3 x4 x5
        have hbad : ∀ p, Calls Try.prog 34 #[.pointer (some ⟨i, 0, none⟩)] (Y.drewN p) fun e w' => e = .returned (.bool bF) ∧ w' = Y.drewN p := fun p => by
          have := bad_any (Y.drewN p) i fs _ (hI8.below (below_drewN (Below.refl Y.heap.size Y) p) (Nat.le_refl _))
          rw [show fs.isNone = bF from HBF] at this
          exact this.mono fun e w' ⟨h1, h2⟩ => ⟨h1, h2.symm⟩
        have hlef : ∀ p, Calls Try.prog 35 #[.pointer (some ⟨i, 0, none⟩)] (Y.drewN p) fun e w' => e = .returned (.int .i64 (nF : Int)) ∧ w' = Y.drewN p := fun p => by
          have := left_any (Y.drewN p) i fs _ (hI8.below (below_drewN (Below.refl Y.heap.size Y) p) (Nat.le_refl _))
          rw [show left fs = nF from HNF] at this
          exact this.mono fun e w' ⟨h1, h2⟩ => ⟨h1, h2.symm⟩
        obtain ⟨⟨x0, x1⟩, _⟩ := row2 hr68
        have hbb : (bF != bF) = false := by simp
        have hnn : ((nF : Int) != (nF : Int)) = false := by simp
        have HR68 := Lib.hid hr68
        have HI8 := Lib.hid hI8
        have HB8 := Lib.hid hbw8
        clear hr68 hI8 hbw8
        go_big_quiet ((first | (go_at_call 34; exact Calls.quiet_of_same (hbad _)) | (go_at_call 35; exact Calls.quiet_of_same (hlef _))))
        go_wp2
        go_roundg (gk - 1)
        case measure => have : j + gk = len1 := HJ; omega
        case rel => exact ⟨j + 1, fs, A', cap', by go_num, by have : j + gk = len1 := HJ; omega, by
          refine ⟨(show In Y i fs (fun q => q < w1.heap.size ∨ w2.heap.size ≤ q) from HI8).below (below_drewN (Below.refl Y.heap.size Y) _) (Nat.le_refl _), ?_, hr3 w HLI, by rw [show left fs = nF from HNF]; exact hleft, below_drewN (show Below w.heap.size w Y from HB8) _⟩
          unfold dIn
          rw [show left fs = nF from HNF, show fs.isNone = bF from HBF]
          exact HR68⟩
      · have e3 : ((z : Int) % 3 == 0) = false := beq_eq_false_iff_ne.2 (by omega)
        have e4 : ((z : Int) % 3 == 1) = true := beq_iff_eq.2 (by omega)
        have e5 : ((z : Int) % 3 = 0) = False := eq_false (by omega)
        clear h3
        have hF := hardFromR_any A cap s _ (hB.lies.below hbW1 (Nat.le_refl _))
        have hG := fun W h hz => getH_any W i s (fun q => q < w1.heap.size ∨ w2.heap.size ≤ q) h hz
        have hleft := left_hard s hB.few
        generalize hardFromN s = F at *
        obtain ⟨fi, ft, fs⟩ := F
        dsimp only at hF hG hleft
        simp only [inv] at hF
        have heq := fun W => eq_hard fi ft W
        have HBL := Lib.hid hB.below
        have HLI := Lib.hid hB.lies
        clear hB
        generalize hnS : left s = nS at *
        generalize hbS : s.isNone = bS at *
        generalize hnF : left fs = nF at *
        generalize hbF : fs.isNone = bF at *
        have HNF := Lib.hid hnF
        have HBF := Lib.hid hbF
        clear hnS hbS hnF hbF
        go_wp2_with fail
        refine hF.mono ?_
        rintro e w3 ⟨A', cap', rfl, hr3, hb3⟩
        have hsz13 : wr.heap.size < w3.heap.size := Nat.lt_of_lt_of_le hs1 hb3.size
        have hw26 : w2.heap.size < w3.heap.size := Nat.lt_trans hq6 hsz13
        have hI3 := hI1.below hb3 (Nat.le_refl _)
        have hr93 := (hb3.block _ hs1).trans hr9
        have hr63 := (hb3.block _ (Nat.lt_trans hq6 hs1)).trans hr6
        have hbw3 := hbW1.trans (hb3.mono hbW1.size)
        have hA4 : Below w3.heap.size w3 ((w3.alloc (.cells #[.int .i64 fi, .int .i64 ft] 24)).alloc (.cells #[.slice A' nF cap', .bool bF] 57)) := ((Below.refl _ _).alloc (Nat.le_refl _) _).alloc (by simp) _
        have hq10 : ((w3.alloc (.cells #[.int .i64 fi, .int .i64 ft] 24)).alloc (.cells #[.slice A' nF cap', .bool bF] 57)).heap[w3.heap.size]? = some (.cells #[.int .i64 fi, .int .i64 ft] 24) := (Below.heap_alloc _ _ _ (by simp)).trans (heap_alloc_new _ _)
        have hq11 : ((w3.alloc (.cells #[.int .i64 fi, .int .i64 ft] 24)).alloc (.cells #[.slice A' nF cap', .bool bF] 57)).heap[w3.heap.size + 1]? = some (.cells #[.slice A' nF cap', .bool bF] 57) := heap_alloc2_new _ _ _
        have hI4 := hI3.below hA4 (Nat.le_refl _)
        have hr94 := (hA4.block _ hsz13).trans hr93
        have hr64 := (hA4.block _ hw26).trans hr63
        have hbw4 := hbw3.trans (hA4.mono hbw3.size)
        have hsz4 : w3.heap.size ≤ ((w3.alloc (.cells #[.int .i64 fi, .int .i64 ft] 24)).alloc (.cells #[.slice A' nF cap', .bool bF] 57)).heap.size := hA4.size
        have hG := hG _ (hI4.below (Below.refl _ _).drew (Nat.le_refl _)) (fun q hq => .inr (Nat.le_trans (Nat.le_of_lt hw26) (Nat.le_trans hsz4 hq)))
        have hS4 : ((w3.alloc (.cells #[.int .i64 fi, .int .i64 ft] 24)).alloc (.cells #[.slice A' nF cap', .bool bF] 57)).drew.cell? ⟨w3.heap.size, 0, none⟩ = some (.int .i64 fi) ∧ ((w3.alloc (.cells #[.int .i64 fi, .int .i64 ft] 24)).alloc (.cells #[.slice A' nF cap', .bool bF] 57)).drew.cell? ⟨w3.heap.size, 1, none⟩ = some (.int .i64 ft) ∧ ((w3.alloc (.cells #[.int .i64 fi, .int .i64 ft] 24)).alloc (.cells #[.slice A' nF cap', .bool bF] 57)).drew.cell? ⟨w3.heap.size + 1, 0, none⟩ = some (.slice A' nF cap') ∧ ((w3.alloc (.cells #[.int .i64 fi, .int .i64 ft] 24)).alloc (.cells #[.slice A' nF cap', .bool bF] 57)).drew.cell? ⟨w3.heap.size + 1, 1, none⟩ = some (.bool bF) ∧ ((w3.alloc (.cells #[.int .i64 fi, .int .i64 ft] 24)).alloc (.cells #[.slice A' nF cap', .bool bF] 57)).drew.frozen? ⟨wr.heap.size, 0, none⟩ = false ∧ ((w3.alloc (.cells #[.int .i64 fi, .int .i64 ft] 24)).alloc (.cells #[.slice A' nF cap', .bool bF] 57)).drew.frozen? ⟨wr.heap.size, 1, none⟩ = false := by
          obtain ⟨⟨x0, x1⟩, _⟩ := row2 hq10
          obtain ⟨⟨x3, x4⟩, _⟩ := row2 hq11
          obtain ⟨_, ⟨x5, x6⟩⟩ := row2 hr94
          exact ⟨x0, x1, x3, x4, x5, x6⟩
        have hne9 : w3.heap.size ≠ wr.heap.size := by omega
        have hne8 : w3.heap.size + 1 ≠ wr.heap.size := by omega
        have hne6 : w2.heap.size ≠ wr.heap.size := by omega
        clear hF hI1 hb3 hr9 hr6 hbW1 hI3 hr93 hr63 hbw3 g0 g1 m0 m1 f0 hA1 hs1 hsz4 hA4
        go_wp2
        go_region_held3 (fun w' => w'.cell? ⟨w3.heap.size, 0, none⟩ = some (.int .i64 fi) ∧ w'.cell? ⟨w3.heap.size, 1, none⟩ = some (.int .i64 ft) ∧ w'.cell? ⟨w3.heap.size + 1, 0, none⟩ = some (.slice A' nF cap') ∧ w'.cell? ⟨w3.heap.size + 1, 1, none⟩ = some (.bool bF) ∧ w'.frozen? ⟨wr.heap.size, 0, none⟩ = false ∧ w'.frozen? ⟨wr.heap.size, 1, none⟩ = false)
          (first | exact hS7 | exact hS6 | exact hS4)
          (first
            | (go_at_call 27
               refine hG.mono ?_
               rintro e w6 ⟨rfl, hI6, k5⟩
               have hq106 := (k5.block _ (hlt hq10) (.inr (Nat.le_of_lt hw26))).trans hq10
               have hq116 := (k5.block _ (hlt hq11) (.inr (by omega))).trans hq11
               have hr96 := (k5.block _ (hlt hr94) (.inr (Nat.le_of_lt hq6))).trans hr94
               have hr66 := (k5.block _ (hlt hr64) (.inr (Nat.le_refl _))).trans hr64
               have hbw6 := below_keeps hbw4.drew k5 (fun q hq => .inl (Nat.lt_of_lt_of_le hq hb1.size)) hbw4.size
               have hS6 : w6.cell? ⟨w3.heap.size, 0, none⟩ = some (.int .i64 fi) ∧ w6.cell? ⟨w3.heap.size, 1, none⟩ = some (.int .i64 ft) ∧ w6.cell? ⟨w3.heap.size + 1, 0, none⟩ = some (.slice A' nF cap') ∧ w6.cell? ⟨w3.heap.size + 1, 1, none⟩ = some (.bool bF) ∧ w6.frozen? ⟨wr.heap.size, 0, none⟩ = false ∧ w6.frozen? ⟨wr.heap.size, 1, none⟩ = false := by
                 obtain ⟨⟨x0, x1⟩, _⟩ := row2 hq106
                 obtain ⟨⟨x3, x4⟩, _⟩ := row2 hq116
                 obtain ⟨_, ⟨x5, x6⟩⟩ := row2 hr96
                 exact ⟨x0, x1, x3, x4, x5, x6⟩
               obtain ⟨⟨y0, y1⟩, ⟨y2, y3⟩⟩ := row2 hr96
               have hr97 := two_set w6 wr.heap.size (.slice A' nF cap') (.bool bF) _ _ _ hr96
               have hS7 : ((w6.setCell ⟨wr.heap.size, 0, none⟩ (.slice A' nF cap')).setCell ⟨wr.heap.size, 1, none⟩ (.bool bF)).cell? ⟨w3.heap.size, 0, none⟩ = some (.int .i64 fi) ∧ ((w6.setCell ⟨wr.heap.size, 0, none⟩ (.slice A' nF cap')).setCell ⟨wr.heap.size, 1, none⟩ (.bool bF)).cell? ⟨w3.heap.size, 1, none⟩ = some (.int .i64 ft) ∧ ((w6.setCell ⟨wr.heap.size, 0, none⟩ (.slice A' nF cap')).setCell ⟨wr.heap.size, 1, none⟩ (.bool bF)).cell? ⟨w3.heap.size + 1, 0, none⟩ = some (.slice A' nF cap') ∧ ((w6.setCell ⟨wr.heap.size, 0, none⟩ (.slice A' nF cap')).setCell ⟨wr.heap.size, 1, none⟩ (.bool bF)).cell? ⟨w3.heap.size + 1, 1, none⟩ = some (.bool bF) ∧ ((w6.setCell ⟨wr.heap.size, 0, none⟩ (.slice A' nF cap')).setCell ⟨wr.heap.size, 1, none⟩ (.bool bF)).frozen? ⟨wr.heap.size, 0, none⟩ = false ∧ ((w6.setCell ⟨wr.heap.size, 0, none⟩ (.slice A' nF cap')).setCell ⟨wr.heap.size, 1, none⟩ (.bool bF)).frozen? ⟨wr.heap.size, 1, none⟩ = false := by
                 obtain ⟨⟨x0, x1⟩, _⟩ := row2 ((set2_off w6 wr.heap.size (.slice A' nF cap') (.bool bF) _ hne9).trans hq106)
                 obtain ⟨⟨x3, x4⟩, _⟩ := row2 ((set2_off w6 wr.heap.size (.slice A' nF cap') (.bool bF) _ hne8).trans hq116)
                 obtain ⟨_, ⟨x5, x6⟩⟩ := row2 hr97
                 exact ⟨x0, x1, x3, x4, x5, x6⟩))
        have hI7 := in_set2 (i := i) (s := fs) (Z := fun q => q < w1.heap.size ∨ w2.heap.size ≤ q) hI6 wr.heap.size (.inr (Nat.le_of_lt hq6)) (.slice A' nF cap') (.bool bF)
        have hr67 := (set2_off w6 wr.heap.size (.slice A' nF cap') (.bool bF) _ hne6).trans hr66
        have hwle : w.heap.size ≤ w2.heap.size := Nat.le_trans hb1.size hs12
        have hbw7 := below_set2 hbw6 wr.heap.size (by omega) (.slice A' nF cap') (.bool bF)
        generalize hX : (w6.setCell ⟨wr.heap.size, 0, none⟩ (.slice A' nF cap')).setCell ⟨wr.heap.size, 1, none⟩ (.bool bF) = X at *
        clear hX hS7 hS6 hS4 hq10 hq11 hq106 hq116 hr94 hr64 hr96 hr66 hI4 hI6 hbw4 hbw6 k5 hG heq y0 y1 y2 y3
        obtain ⟨⟨x0, x1⟩, _⟩ := row2 hr97
        obtain ⟨⟨x2, x3⟩, ⟨x4, x5⟩⟩ := row2 hr67
        have hI8 := in_set2 (i := i) (s := fs) (Z := fun q => q < w1.heap.size ∨ w2.heap.size ≤ q) hI7 w2.heap.size (.inr (Nat.le_refl _)) (.slice A' nF cap') (.bool bF)
        have hr68 := two_set X w2.heap.size (.slice A' nF cap') (.bool bF) _ _ _ hr67
        have hbw8 := below_set2 hbw7 w2.heap.size hwle (.slice A' nF cap') (.bool bF)
        go_upto_region 20 with fail
        generalize hY : (X.setCell ⟨w2.heap.size, 0, none⟩ (.slice A' nF cap')).setCell ⟨w2.heap.size, 1, none⟩ (.bool bF) = Y at *
        clear hY hI7 hr97 hr67 hbw7 x0 x1 x2 x3 x4 x5
        have hbad : ∀ p, Calls Try.prog 34 #[.pointer (some ⟨i, 0, none⟩)] (Y.drewN p) fun e w' => e = .returned (.bool bF) ∧ w' = Y.drewN p := fun p => by
          have := bad_any (Y.drewN p) i fs _ (hI8.below (below_drewN (Below.refl Y.heap.size Y) p) (Nat.le_refl _))
          rw [show fs.isNone = bF from HBF] at this
          exact this.mono fun e w' ⟨h1, h2⟩ => ⟨h1, h2.symm⟩
        have hlef : ∀ p, Calls Try.prog 35 #[.pointer (some ⟨i, 0, none⟩)] (Y.drewN p) fun e w' => e = .returned (.int .i64 (nF : Int)) ∧ w' = Y.drewN p := fun p => by
          have := left_any (Y.drewN p) i fs _ (hI8.below (below_drewN (Below.refl Y.heap.size Y) p) (Nat.le_refl _))
          rw [show left fs = nF from HNF] at this
          exact this.mono fun e w' ⟨h1, h2⟩ => ⟨h1, h2.symm⟩
        obtain ⟨⟨x0, x1⟩, _⟩ := row2 hr68
        have hbb : (bF != bF) = false := by simp
        have hnn : ((nF : Int) != (nF : Int)) = false := by simp
        have HR68 := Lib.hid hr68
        have HI8 := Lib.hid hI8
        have HB8 := Lib.hid hbw8
        clear hr68 hI8 hbw8
        go_big_quiet ((first | (go_at_call 34; exact Calls.quiet_of_same (hbad _)) | (go_at_call 35; exact Calls.quiet_of_same (hlef _))))
        go_wp2
        go_roundg (gk - 1)
        case measure => have : j + gk = len1 := HJ; omega
        case rel => exact ⟨j + 1, fs, A', cap', by go_num, by have : j + gk = len1 := HJ; omega, by
          refine ⟨(show In Y i fs (fun q => q < w1.heap.size ∨ w2.heap.size ≤ q) from HI8).below (below_drewN (Below.refl Y.heap.size Y) _) (Nat.le_refl _), ?_, hr3 w HLI, by rw [show left fs = nF from HNF]; exact hleft, below_drewN (show Below w.heap.size w Y from HB8) _⟩
          unfold dIn
          rw [show left fs = nF from HNF, show fs.isNone = bF from HBF]
          exact HR68⟩
      · have e3 : ((z : Int) % 3 == 0) = false := beq_eq_false_iff_ne.2 (by omega)
        have e4 : ((z : Int) % 3 == 1) = false := beq_eq_false_iff_ne.2 (by omega)
        have e5 : ((z : Int) % 3 = 0) = False := eq_false (by omega)
        have e6 : ((z : Int) % 3 = 1) = False := eq_false (by omega)
        clear h3
        have hF := snapFromR_any A cap s _ hl5 (hB.lies.below hbW1 (Nat.le_refl _))
        have hG := fun W h hz => getS_any W i s (fun q => q < w1.heap.size ∨ w2.heap.size ≤ q) h hz hl5
        have hleft := left_from snapB s 50000 hB.few
        generalize fromN snapB s 50000 = F at *
        obtain ⟨fi, ft, fd, fs⟩ := F
        dsimp only at hF hG hleft
        simp only [inv] at hF
        have hO := fun W D n' c' D' m' c'' (h : Lies W D n' c' fd) (h' : Lies W D' m' c'' fd) => sameSnapR_any fi ft D n' c' fd fi ft D' m' c'' fd W h h'
        rw [oneB_self] at hO
        have HBL := Lib.hid hB.below
        have HLI := Lib.hid hB.lies
        clear hB
        generalize hnS : left s = nS at *
        generalize hbS : s.isNone = bS at *
        generalize hnF : left fs = nF at *
        generalize hbF : fs.isNone = bF at *
        have HNF := Lib.hid hnF
        have HBF := Lib.hid hbF
        clear hnS hbS hnF hbF
        go_wp2_with fail
        refine hF.mono ?_
        rintro e w3 ⟨D, n, c, A', cap', rfl, hl3, hD3, hr3, hb3⟩
        have hsz13 : wr.heap.size < w3.heap.size := Nat.lt_of_lt_of_le hs1 hb3.size
        have hw26 : w2.heap.size < w3.heap.size := Nat.lt_trans hq6 hsz13
        have hI3 := hI1.below hb3 (Nat.le_refl _)
        have hr93 := (hb3.block _ hs1).trans hr9
        have hr63 := (hb3.block _ (Nat.lt_trans hq6 hs1)).trans hr6
        have hbw3 := hbW1.trans (hb3.mono hbW1.size)
        have hA4 : Below w3.heap.size w3 ((w3.alloc (.cells #[.int .i64 fi, .int .i64 ft, .slice D n c] 27)).alloc (.cells #[.slice A' nF cap', .bool bF] 57)) := ((Below.refl _ _).alloc (Nat.le_refl _) _).alloc (by simp) _
        have hq10 : ((w3.alloc (.cells #[.int .i64 fi, .int .i64 ft, .slice D n c] 27)).alloc (.cells #[.slice A' nF cap', .bool bF] 57)).heap[w3.heap.size]? = some (.cells #[.int .i64 fi, .int .i64 ft, .slice D n c] 27) := (Below.heap_alloc _ _ _ (by simp)).trans (heap_alloc_new _ _)
        have hq11 : ((w3.alloc (.cells #[.int .i64 fi, .int .i64 ft, .slice D n c] 27)).alloc (.cells #[.slice A' nF cap', .bool bF] 57)).heap[w3.heap.size + 1]? = some (.cells #[.slice A' nF cap', .bool bF] 57) := heap_alloc2_new _ _ _
        have hI4 := hI3.below hA4 (Nat.le_refl _)
        have hr94 := (hA4.block _ hsz13).trans hr93
        have hr64 := (hA4.block _ hw26).trans hr63
        have hl4 := hl3.below hA4 (Nat.le_refl _)
        have hbw4 := hbw3.trans (hA4.mono hbw3.size)
        have hDz : 0 < n → ∀ g off, D = some ⟨g, off, none⟩ → (g < w1.heap.size ∨ w2.heap.size ≤ g) := fun h0 g off e => .inr (by have := hD3 h0 g off e; omega)
        have hsz4 : w3.heap.size ≤ ((w3.alloc (.cells #[.int .i64 fi, .int .i64 ft, .slice D n c] 27)).alloc (.cells #[.slice A' nF cap', .bool bF] 57)).heap.size := hA4.size
        have hG := hG _ (hI4.below (Below.refl _ _).drew (Nat.le_refl _)) (fun q hq => .inr (Nat.le_trans (Nat.le_of_lt hw26) (Nat.le_trans hsz4 hq)))
        have hS4 : ((w3.alloc (.cells #[.int .i64 fi, .int .i64 ft, .slice D n c] 27)).alloc (.cells #[.slice A' nF cap', .bool bF] 57)).drew.cell? ⟨w3.heap.size, 0, none⟩ = some (.int .i64 fi) ∧ ((w3.alloc (.cells #[.int .i64 fi, .int .i64 ft, .slice D n c] 27)).alloc (.cells #[.slice A' nF cap', .bool bF] 57)).drew.cell? ⟨w3.heap.size, 1, none⟩ = some (.int .i64 ft) ∧ ((w3.alloc (.cells #[.int .i64 fi, .int .i64 ft, .slice D n c] 27)).alloc (.cells #[.slice A' nF cap', .bool bF] 57)).drew.cell? ⟨w3.heap.size, 2, none⟩ = some (.slice D n c) ∧ ((w3.alloc (.cells #[.int .i64 fi, .int .i64 ft, .slice D n c] 27)).alloc (.cells #[.slice A' nF cap', .bool bF] 57)).drew.cell? ⟨w3.heap.size + 1, 0, none⟩ = some (.slice A' nF cap') ∧ ((w3.alloc (.cells #[.int .i64 fi, .int .i64 ft, .slice D n c] 27)).alloc (.cells #[.slice A' nF cap', .bool bF] 57)).drew.cell? ⟨w3.heap.size + 1, 1, none⟩ = some (.bool bF) ∧ ((w3.alloc (.cells #[.int .i64 fi, .int .i64 ft, .slice D n c] 27)).alloc (.cells #[.slice A' nF cap', .bool bF] 57)).drew.frozen? ⟨wr.heap.size, 0, none⟩ = false ∧ ((w3.alloc (.cells #[.int .i64 fi, .int .i64 ft, .slice D n c] 27)).alloc (.cells #[.slice A' nF cap', .bool bF] 57)).drew.frozen? ⟨wr.heap.size, 1, none⟩ = false := by
          obtain ⟨⟨x0, x1, x2⟩, _⟩ := row3 hq10
          obtain ⟨⟨x3, x4⟩, _⟩ := row2 hq11
          obtain ⟨_, ⟨x5, x6⟩⟩ := row2 hr94
          exact ⟨x0, x1, x2, x3, x4, x5, x6⟩
        have hne9 : w3.heap.size ≠ wr.heap.size := by omega
        have hne8 : w3.heap.size + 1 ≠ wr.heap.size := by omega
        have hne6 : w2.heap.size ≠ wr.heap.size := by omega
        have HDZ := Lib.hid hDz
        clear hF hI1 hb3 hr9 hr6 hbW1 hI3 hr93 hr63 hbw3 hl3 hD3 hDz g0 g1 m0 m1 f0 hA1 hs1 hsz4 hA4
        go_wp2
        go_region_held3 (fun w' => w'.cell? ⟨w3.heap.size, 0, none⟩ = some (.int .i64 fi) ∧ w'.cell? ⟨w3.heap.size, 1, none⟩ = some (.int .i64 ft) ∧ w'.cell? ⟨w3.heap.size, 2, none⟩ = some (.slice D n c) ∧ w'.cell? ⟨w3.heap.size + 1, 0, none⟩ = some (.slice A' nF cap') ∧ w'.cell? ⟨w3.heap.size + 1, 1, none⟩ = some (.bool bF) ∧ w'.frozen? ⟨wr.heap.size, 0, none⟩ = false ∧ w'.frozen? ⟨wr.heap.size, 1, none⟩ = false)
          (first | exact hS7 | exact hS6 | exact hS5 | exact hS4)
          (first
            | (go_at_call 29
               refine hG.mono ?_
               rintro e w5 ⟨D2, n2, c2, rfl, hl52, _, hI5, k5⟩
               have hq105 := (k5.block _ (hlt hq10) (.inr (Nat.le_of_lt hw26))).trans hq10
               have hq115 := (k5.block _ (hlt hq11) (.inr (by omega))).trans hq11
               have hr95 := (k5.block _ (hlt hr94) (.inr (Nat.le_of_lt hq6))).trans hr94
               have hr65 := (k5.block _ (hlt hr64) (.inr (Nat.le_refl _))).trans hr64
               have hlD5 := hl4.drew.keeps k5 HDZ.out
               have hbw5 := below_keeps hbw4.drew k5 (fun q hq => .inl (Nat.lt_of_lt_of_le hq hb1.size)) hbw4.size
               have hS5 : w5.cell? ⟨w3.heap.size, 0, none⟩ = some (.int .i64 fi) ∧ w5.cell? ⟨w3.heap.size, 1, none⟩ = some (.int .i64 ft) ∧ w5.cell? ⟨w3.heap.size, 2, none⟩ = some (.slice D n c) ∧ w5.cell? ⟨w3.heap.size + 1, 0, none⟩ = some (.slice A' nF cap') ∧ w5.cell? ⟨w3.heap.size + 1, 1, none⟩ = some (.bool bF) ∧ w5.frozen? ⟨wr.heap.size, 0, none⟩ = false ∧ w5.frozen? ⟨wr.heap.size, 1, none⟩ = false := by
                 obtain ⟨⟨x0, x1, x2⟩, _⟩ := row3 hq105
                 obtain ⟨⟨x3, x4⟩, _⟩ := row2 hq115
                 obtain ⟨_, ⟨x5, x6⟩⟩ := row2 hr95
                 exact ⟨x0, x1, x2, x3, x4, x5, x6⟩)
            | (go_at_call 28
               refine (hO _ _ _ _ _ _ _ hl52 hlD5).mono ?_
               rintro e w6 ⟨rfl, hb6⟩
               have hI6 := hI5.below hb6 (Nat.le_refl _)
               have hq106 := (hb6.block _ (hlt hq105)).trans hq105
               have hq116 := (hb6.block _ (hlt hq115)).trans hq115
               have hr96 := (hb6.block _ (hlt hr95)).trans hr95
               have hr66 := (hb6.block _ (hlt hr65)).trans hr65
               have hbw6 := hbw5.trans (hb6.mono hbw5.size)
               have hS6 : w6.cell? ⟨w3.heap.size, 0, none⟩ = some (.int .i64 fi) ∧ w6.cell? ⟨w3.heap.size, 1, none⟩ = some (.int .i64 ft) ∧ w6.cell? ⟨w3.heap.size, 2, none⟩ = some (.slice D n c) ∧ w6.cell? ⟨w3.heap.size + 1, 0, none⟩ = some (.slice A' nF cap') ∧ w6.cell? ⟨w3.heap.size + 1, 1, none⟩ = some (.bool bF) ∧ w6.frozen? ⟨wr.heap.size, 0, none⟩ = false ∧ w6.frozen? ⟨wr.heap.size, 1, none⟩ = false := by
                 obtain ⟨⟨x0, x1, x2⟩, _⟩ := row3 hq106
                 obtain ⟨⟨x3, x4⟩, _⟩ := row2 hq116
                 obtain ⟨_, ⟨x5, x6⟩⟩ := row2 hr96
                 exact ⟨x0, x1, x2, x3, x4, x5, x6⟩
               obtain ⟨⟨y0, y1⟩, ⟨y2, y3⟩⟩ := row2 hr96
               have hr97 := two_set w6 wr.heap.size (.slice A' nF cap') (.bool bF) _ _ _ hr96
               have hS7 : ((w6.setCell ⟨wr.heap.size, 0, none⟩ (.slice A' nF cap')).setCell ⟨wr.heap.size, 1, none⟩ (.bool bF)).cell? ⟨w3.heap.size, 0, none⟩ = some (.int .i64 fi) ∧ ((w6.setCell ⟨wr.heap.size, 0, none⟩ (.slice A' nF cap')).setCell ⟨wr.heap.size, 1, none⟩ (.bool bF)).cell? ⟨w3.heap.size, 1, none⟩ = some (.int .i64 ft) ∧ ((w6.setCell ⟨wr.heap.size, 0, none⟩ (.slice A' nF cap')).setCell ⟨wr.heap.size, 1, none⟩ (.bool bF)).cell? ⟨w3.heap.size, 2, none⟩ = some (.slice D n c) ∧ ((w6.setCell ⟨wr.heap.size, 0, none⟩ (.slice A' nF cap')).setCell ⟨wr.heap.size, 1, none⟩ (.bool bF)).cell? ⟨w3.heap.size + 1, 0, none⟩ = some (.slice A' nF cap') ∧ ((w6.setCell ⟨wr.heap.size, 0, none⟩ (.slice A' nF cap')).setCell ⟨wr.heap.size, 1, none⟩ (.bool bF)).cell? ⟨w3.heap.size + 1, 1, none⟩ = some (.bool bF) ∧ ((w6.setCell ⟨wr.heap.size, 0, none⟩ (.slice A' nF cap')).setCell ⟨wr.heap.size, 1, none⟩ (.bool bF)).frozen? ⟨wr.heap.size, 0, none⟩ = false ∧ ((w6.setCell ⟨wr.heap.size, 0, none⟩ (.slice A' nF cap')).setCell ⟨wr.heap.size, 1, none⟩ (.bool bF)).frozen? ⟨wr.heap.size, 1, none⟩ = false := by
                 obtain ⟨⟨x0, x1, x2⟩, _⟩ := row3 ((set2_off w6 wr.heap.size (.slice A' nF cap') (.bool bF) _ hne9).trans hq106)
                 obtain ⟨⟨x3, x4⟩, _⟩ := row2 ((set2_off w6 wr.heap.size (.slice A' nF cap') (.bool bF) _ hne8).trans hq116)
                 obtain ⟨_, ⟨x5, x6⟩⟩ := row2 hr97
                 exact ⟨x0, x1, x2, x3, x4, x5, x6⟩))
        have hI7 := in_set2 (i := i) (s := fs) (Z := fun q => q < w1.heap.size ∨ w2.heap.size ≤ q) hI6 wr.heap.size (.inr (Nat.le_of_lt hq6)) (.slice A' nF cap') (.bool bF)
        have hr67 := (set2_off w6 wr.heap.size (.slice A' nF cap') (.bool bF) _ hne6).trans hr66
        have hwle : w.heap.size ≤ w2.heap.size := Nat.le_trans hb1.size hs12
        have hbw7 := below_set2 hbw6 wr.heap.size (by omega) (.slice A' nF cap') (.bool bF)
        generalize hX : (w6.setCell ⟨wr.heap.size, 0, none⟩ (.slice A' nF cap')).setCell ⟨wr.heap.size, 1, none⟩ (.bool bF) = X at *
        clear hX hS7 hS6 hS5 hS4 hq10 hq11 hq105 hq115 hq106 hq116 hr94 hr64 hr95 hr65 hr96 hr66 hI4 hI5 hI6 hbw4 hbw5 hbw6 hl4 hl52 hlD5 k5 hb6 hG hO y0 y1 y2 y3
        obtain ⟨⟨x0, x1⟩, _⟩ := row2 hr97
        obtain ⟨⟨x2, x3⟩, ⟨x4, x5⟩⟩ := row2 hr67
        have hI8 := in_set2 (i := i) (s := fs) (Z := fun q => q < w1.heap.size ∨ w2.heap.size ≤ q) hI7 w2.heap.size (.inr (Nat.le_refl _)) (.slice A' nF cap') (.bool bF)
        have hr68 := two_set X w2.heap.size (.slice A' nF cap') (.bool bF) _ _ _ hr67
        have hbw8 := below_set2 hbw7 w2.heap.size hwle (.slice A' nF cap') (.bool bF)
        go_upto_region 20 with fail
        generalize hY : (X.setCell ⟨w2.heap.size, 0, none⟩ (.slice A' nF cap')).setCell ⟨w2.heap.size, 1, none⟩ (.bool bF) = Y at *
        clear hY hI7 hr97 hr67 hbw7 x0 x1 x2 x3 x4 x5
        have hbad : ∀ p, Calls Try.prog 34 #[.pointer (some ⟨i, 0, none⟩)] (Y.drewN p) fun e w' => e = .returned (.bool bF) ∧ w' = Y.drewN p := fun p => by
          have := bad_any (Y.drewN p) i fs _ (hI8.below (below_drewN (Below.refl Y.heap.size Y) p) (Nat.le_refl _))
          rw [show fs.isNone = bF from HBF] at this
          exact this.mono fun e w' ⟨h1, h2⟩ => ⟨h1, h2.symm⟩
        have hlef : ∀ p, Calls Try.prog 35 #[.pointer (some ⟨i, 0, none⟩)] (Y.drewN p) fun e w' => e = .returned (.int .i64 (nF : Int)) ∧ w' = Y.drewN p := fun p => by
          have := left_any (Y.drewN p) i fs _ (hI8.below (below_drewN (Below.refl Y.heap.size Y) p) (Nat.le_refl _))
          rw [show left fs = nF from HNF] at this
          exact this.mono fun e w' ⟨h1, h2⟩ => ⟨h1, h2.symm⟩
        obtain ⟨⟨x0, x1⟩, _⟩ := row2 hr68
        have hbb : (bF != bF) = false := by simp
        have hnn : ((nF : Int) != (nF : Int)) = false := by simp
        have HR68 := Lib.hid hr68
        have HI8 := Lib.hid hI8
        have HB8 := Lib.hid hbw8
        clear hr68 hI8 hbw8
        go_big_quiet ((first | (go_at_call 34; exact Calls.quiet_of_same (hbad _)) | (go_at_call 35; exact Calls.quiet_of_same (hlef _))))
        go_wp2
        go_roundg (gk - 1)
        case measure => have : j + gk = len1 := HJ; omega
        case rel => exact ⟨j + 1, fs, A', cap', by go_num, by have : j + gk = len1 := HJ; omega, by
          refine ⟨(show In Y i fs (fun q => q < w1.heap.size ∨ w2.heap.size ≤ q) from HI8).below (below_drewN (Below.refl Y.heap.size Y) _) (Nat.le_refl _), ?_, hr3 w HLI, by rw [show left fs = nF from HNF]; exact hleft, below_drewN (show Below w.heap.size w Y from HB8) _⟩
          unfold dIn
          rw [show left fs = nF from HNF, show fs.isNone = bF from HBF]
          exact HR68⟩
    · obtain rfl : j = len1 := by omega
      have hdec : decide ((j : Int) < (j : Int)) = false := decide_eq_false (by omega)
      have hbw := hB.below
      clear hk hB hb
      go_wp2
      go_ret
      exact ⟨rfl, hbw⟩

theorem walk (A0 : Option Addr) (len0 cap0 : Nat) (L : List UInt8) (A1 : Option Addr) (len1 cap1 : Nat) (K : List UInt8) (w : World) (hm0 : len0 ≤ maxLen) (hm1 : len1 ≤ maxLen) (hb : Lies w A0 len0 cap0 L) (hk : Lies w A1 len1 cap1 K) :
    Calls Try.prog 5 #[.slice A0 len0 cap0, .slice A1 len1 cap1] w fun e w' => e = .returned (.bool true) ∧ Below w.heap.size w w' := by
  by_cases hno : 5000 < len0 ∨ 20 < len1
  · exact walk_out A0 len0 cap0 A1 len1 cap1 w hm0 hm1 hno
  · exact walk_in A0 len0 cap0 L A1 len1 cap1 K w hb hk (by omega) (by omega)

end Go.Proofs.Ytipggjmndlaehaa.entryGets
