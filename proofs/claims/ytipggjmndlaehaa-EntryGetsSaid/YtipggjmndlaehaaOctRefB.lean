/- The document's bytes that are taken apart: each call by its contract. -/
import Derived.Test.YtipggjmndlaehaaRes
import Derived.Test.YtipggjmndlaehaaOctInB
import Derived.Test.YtipggjmndlaehaaOctRefA
import Derived.RegionTactic
import Derived.BigRegion
import Derived.ChangeAlike
namespace Go.Proofs.Ytipggjmndlaehaa
open Go.RowKit
set_option linter.unusedVariables false
set_option linter.unusedSimpArgs false

/-- Bytes that are taken apart, as a value. -/
abbrev inv (A : Option Addr) (cap : Nat) (s : St) : Value := .agg #[.slice A (left s) cap, .bool s.isNone]

/-- Where they lie. -/
def RLies (w : World) (A : Option Addr) (cap : Nat) (s : St) : Prop := Lies w A (left s) cap (s.getD [])

theorem RLies.below {w w' : World} {A : Option Addr} {cap : Nat} {s : St} (h : RLies w A cap s) {B : Nat} (hb : Below B w w') (hB : w.heap.size ≤ B) : RLies w' A cap s := Lies.below h hb hB
theorem RLies.bad (w : World) : RLies w none 0 none := Lies.nil w

theorem res_tmp_cell {fn : Func} {u p : Tmp} (h : fn.results = #[.tmp u, .cell p 57]) (tmps : Array Value) (W : World) (n : Nat) (x y : Value) (fr : Nat × Nat) (h1 : tmps.getD p undef = .pointer (some ⟨n, 0, none⟩))
    (hW : W.heap[n]? = some (.cells #[x, y] 57 fr)) : (results fn tmps).run Try.prog W = .ok (.tuple #[tmps.getD u undef, .agg #[x, y]]) W := by
  rw [results_tmp_cell h, h1]
  simp [asAddr, run_loadVar_row W n 57 57 #[x, y] fr _ hW Try.underlying57 rfl (by kernel_rfl)]

theorem bytesR_bad (A : Option Addr) (cap : Nat) (s : St) (w : World) (k : Nat) (hk : s = none ∨ left s < k) :
    Calls Try.prog 68 #[inv A cap s, .int .i64 (k : Int)] w fun e w' => e = .returned (.tuple #[.slice none 0 0, inv none 0 none]) ∧ Below w.heap.size w w' := by
  have hb : ∀ a b, Below w.heap.size w ((w.alloc a).alloc b) := fun a b => ((Below.refl _ _).alloc (Nat.le_refl _) _).alloc (by simp) _
  cases s with
  | none =>
    go_enter Try.func68, Try.ntmps68
    go_wp2
    refine bodyPost_ret (res_tmp_cell rfl _ _ (w.heap.size + 1) _ _ _ rfl (heap_alloc2_new _ _ _)) rfl ?_
    exact ⟨rfl, hb _ _⟩
  | some l =>
    have hk' : (l.length : Int) < (k : Int) := by
      rcases hk with h | h
      · cases h
      · simp only [left] at h; omega
    simp only [inv, left, Option.isNone]
    go_enter Try.func68, Try.ntmps68
    go_wp2
    refine bodyPost_ret (res_tmp_cell rfl _ _ (w.heap.size + 1) _ _ _ rfl (heap_alloc2_new _ _ _)) rfl ?_
    exact ⟨rfl, hb _ _⟩

theorem bytesR_good (A : Option Addr) (cap : Nat) (l : List UInt8) (w : World) (k : Nat) (hk : k ≤ l.length) (h : Lies w A l.length cap l) :
    Calls Try.prog 68 #[.agg #[.slice A l.length cap, .bool false], .int .i64 (k : Int)] w fun e w' => e = .returned (.tuple #[.slice A k cap, .agg #[.slice (restAt A cap k) (l.length - k) (cap - k), .bool false]]) ∧ Below w.heap.size w w' := by
  have hc := h.2.1
  have s1 := run_front Try.underlying25 sizeOf_u8 A l.length cap k (by omega)
  have s2 := run_rest Try.underlying25 sizeOf_u8 A l.length cap k hk hc
  have hk' : ¬ ((l.length : Int) < (k : Int)) := by omega
  have hb : ∀ a b, Below w.heap.size w ((w.alloc a).alloc b).drew := fun a b => (((Below.refl _ _).alloc (Nat.le_refl _) _).alloc (by simp) _).drew
  clear h
  go_enter Try.func68, Try.ntmps68
  go_wp2
  go_region
  all_goals
    go_wp2
    refine bodyPost_ret (res_tmp_cell rfl _ _ (w.heap.size + 1) _ _ _ rfl (heap_alloc2_new _ _ _)) rfl ?_
    exact ⟨rfl, hb _ _⟩

/-- So many bytes: where the bytes lie, there lie these. -/
theorem bytesR_any (A : Option Addr) (cap : Nat) (s : St) (w : World) (k : Nat) (h : RLies w A cap s) :
    Calls Try.prog 68 #[inv A cap s, .int .i64 (k : Int)] w fun e w' => ∃ B bl bc A' cap', e = .returned (.tuple #[.slice B bl bc, inv A' cap' (takeN s k).2]) ∧ (∀ w0, RLies w0 A cap s → Lies w0 B bl bc (takeN s k).1 ∧ RLies w0 A' cap' (takeN s k).2) ∧ Below w.heap.size w w' := by
  cases s with
  | none => exact (bytesR_bad A cap none w k (.inl rfl)).mono fun e w' ⟨h1, h2⟩ => ⟨none, 0, 0, none, 0, h1, fun w0 _ => ⟨Lies.nil _, RLies.bad _⟩, h2⟩
  | some l =>
    by_cases hk : k ≤ l.length
    · refine (bytesR_good A cap l w k hk h).mono fun e w' ⟨h1, h2⟩ => ?_
      have e1 : takeN (some l) k = (l.take k, some (l.drop k)) := by simp only [takeN, if_pos hk]
      rw [e1]
      refine ⟨A, k, cap, restAt A cap k, cap - k, ?_, fun w0 h0 => ⟨Lies.take h0 k hk, ?_⟩, h2⟩
      · rw [h1]; simp [inv, left]
      · have hd := Lies.drop h0 k hk
        show Lies w0 _ (left (some (l.drop k))) _ _
        simp only [left, List.length_drop, Option.getD_some]
        exact hd
    · refine (bytesR_bad A cap (some l) w k (.inr (by simp only [left]; omega))).mono fun e w' ⟨h1, h2⟩ => ?_
      have e1 : takeN (some l) k = ([], none) := by simp only [takeN, if_neg hk]
      rw [e1]
      exact ⟨none, 0, 0, none, 0, h1, fun w0 _ => ⟨Lies.nil _, RLies.bad _⟩, h2⟩

theorem two_set (X : World) (n : Nat) (u v u0 v0 : Value) (T : TypeId) (h : X.heap[n]? = some (.cells #[u0, v0] T)) : ((X.setCell ⟨n, 0, none⟩ u).setCell ⟨n, 1, none⟩ v).heap[n]? = some (.cells #[u, v] T) := by
  simp only [World.setCell, Array.getElem?_modify, if_true, h, Option.map_some]
  simp

set_option maxRecDepth 100000 in
set_option maxHeartbeats 6400000 in
/-- A number of so many bytes. -/
theorem numberR_any (A : Option Addr) (cap : Nat) (s : St) (w : World) (k : Nat) (hk8 : k ≤ 8) (h : RLies w A cap s) :
    Calls Try.prog 60 #[inv A cap s, .int .i64 (k : Int)] w fun e w' => ∃ A' cap', e = .returned (.tuple #[.int .u64 ((numberN s k).1 : Int), inv A' cap' (numberN s k).2]) ∧ (∀ w0, RLies w0 A cap s → RLies w0 A' cap' (numberN s k).2) ∧ Below w.heap.size w w' := by
  have hb0 : Below w.heap.size w ((w.alloc (.cells #[.slice A (left s) cap, .bool s.isNone] 57)).alloc (.cells #[.slice none 0 0, .bool false] 57)) := ((Below.refl _ _).alloc (Nat.le_refl _) _).alloc (by simp) _
  have hm0 : ((w.alloc (.cells #[.slice A (left s) cap, .bool s.isNone] 57)).alloc (.cells #[.slice none 0 0, .bool false] 57)).heap[w.heap.size + 1]? = some (.cells #[.slice none 0 0, .bool false] 57) := heap_alloc2_new _ _ _
  have hB := bytesR_any A cap s _ k (h.below hb0 (Nat.le_refl _))
  have hlen := takeN_len s k
  unfold numberN
  generalize takeN s k = t at hB hlen ⊢
  obtain ⟨l, s'⟩ := t
  simp only at hB hlen ⊢
  simp only [inv] at hB ⊢
  have f0 : ((w.alloc (.cells #[.slice A (left s) cap, .bool s.isNone] 57)).alloc (.cells #[.slice none 0 0, .bool false] 57)).cell? ⟨w.heap.size, 0, none⟩ = some (.slice A (left s) cap) := by simp [go_sem]
  have f1 : ((w.alloc (.cells #[.slice A (left s) cap, .bool s.isNone] 57)).alloc (.cells #[.slice none 0 0, .bool false] 57)).cell? ⟨w.heap.size, 1, none⟩ = some (.bool s.isNone) := by simp [go_sem]
  generalize hW : ((w.alloc (.cells #[.slice A (left s) cap, .bool s.isNone] 57)).alloc (.cells #[.slice none 0 0, .bool false] 57)) = W at hb0 hm0 hB f0 f1
  go_enter Try.func60, Try.ntmps60
  go_wp2_with (go_at_call 68; refine hB.mono ?_; rintro e w1 ⟨B, bl, bc, A', cap', rfl, hlr, hb⟩)
  have hq : w.heap.size + 1 < w1.heap.size := Nat.lt_of_lt_of_le (hlt hm0) hb.size
  have hbX : Below w.heap.size w (w1.alloc (.cells #[.slice A' (left s') cap', .bool s'.isNone] 57)) := (hb0.trans (hb.mono hb0.size)).alloc (by omega) _
  have hmX : (w1.alloc (.cells #[.slice A' (left s') cap', .bool s'.isNone] 57)).heap[w.heap.size + 1]? = some (.cells #[.slice none 0 0, .bool false] 57) := (Below.heap_alloc _ _ _ hq).trans ((hb.block _ (hlt hm0)).trans hm0)
  have hmY : (w1.alloc (.cells #[.slice A' (left s') cap', .bool s'.isNone] 57)).heap[w1.heap.size]? = some (.cells #[.slice A' (left s') cap', .bool s'.isNone] 57) := heap_alloc_new _ _
  have hlX := (((hlr w h).1.below hb0 (Nat.le_refl _)).below hb (Nat.le_refl _)).below ((Below.refl w1.heap.size w1).alloc (Nat.le_refl _) (.cells #[.slice A' (left s') cap', .bool s'.isNone] 57)) (Nat.le_refl _)
  generalize (w1.alloc (.cells #[.slice A' (left s') cap', .bool s'.isNone] 57)) = X at hbX hmX hmY hlX ⊢
  generalize w1.heap.size = q at hq hmY ⊢
  have hfin : ∀ w0, RLies w0 A cap s → RLies w0 A' cap' s' := fun w0 h0 => (hlr w0 h0).2
  clear hb0 hm0 hB f0 f1 hW hlr hb h
  obtain rfl : l.length = bl := hlX.1
  go_loopg [8, 9, 18] l.length (fun g v u x wr => ∃ j : Nat, v = .int .u64 ((num (l.take j) : Nat) : Int) ∧ x = .int .i64 (j : Int) ∧ j + g = l.length ∧ wr = X)
  case atStart => exact ⟨0, by simp [num], rfl, by omega, rfl⟩
  case round =>
    obtain ⟨j, rfl, rfl, hj, rfl⟩ := hrel
    have jb : (j : Int) ≤ 8 := by omega
    by_cases hlt' : j < l.length
    · have hlt2 : (j : Int) < (l.length : Int) := by omega
      obtain ⟨g, off, rfl, hg, hc⟩ := hlX.cell j hlt'
      have hx : num (l.take j) < 72057594037927936 := by
        have h1 := num_lt (l.take j)
        have h2 : 256 ^ (l.take j).length ≤ 256 ^ 7 := Nat.pow_le_pow_right (by omega) (by simp; omega)
        have h3 : (256 : Nat) ^ 7 = 72057594037927936 := by decide
        omega
      have hb8 : l[j].toNat < 256 := l[j].toNat_lt
      have hnx : Hid (num (l.take j) * 256 + l[j].toNat = num (l.take (j + 1))) := ⟨by rw [take_get l j hlt', num_snoc]⟩
      generalize l[j] = b at hc hb8 hnx
      generalize num (l.take j) = v at hx hnx ⊢
      go_wp2
      go_roundg (gk - 1)
      case measure => omega
      case rel => exact ⟨j + 1, by rw [← hnx.out]; simp, by go_num, by omega, rfl⟩
    · obtain rfl : j = l.length := by omega
      have hdec : decide ((l.length : Int) < (l.length : Int)) = false := decide_eq_false (by omega)
      have f2 : wr.cell? ⟨q, 0, none⟩ = some (.slice A' (left s') cap') := by simp [World.cell?, hmY]
      have f3 : wr.cell? ⟨q, 1, none⟩ = some (.bool s'.isNone) := by simp [World.cell?, hmY]
      have f4 : wr.cell? ⟨w.heap.size + 1, 0, none⟩ = some (.slice none 0 0) := by simp [World.cell?, hmX]
      have f5 : wr.cell? ⟨w.heap.size + 1, 1, none⟩ = some (.bool false) := by simp [World.cell?, hmX]
      have f6 : wr.frozen? ⟨w.heap.size + 1, 0, none⟩ = false := by simp [World.frozen?, hmX]
      have f7 : wr.frozen? ⟨w.heap.size + 1, 1, none⟩ = false := by simp [World.frozen?, hmX]
      rw [List.take_length]
      go_wp2
      go_region
      all_goals
        go_wp2
        refine bodyPost_ret (res_tmp_cell rfl _ _ (w.heap.size + 1) _ _ _ rfl (two_set _ _ _ _ _ _ _ hmX)) rfl ?_
        exact ⟨A', cap', rfl, hfin, ((hbX.setCell (by simp) _).setCell (by simp) _).drew⟩

end Go.Proofs.Ytipggjmndlaehaa
