/- The document's bytes of what is put, and what is put into an Out: each by its contract. -/
import Derived.Test.YtlojjodgoeclfaaOctO
import Derived.Test.YtlojjodgoeclfaaCmn
import Derived.Test.YtlojjodgoeclfaaOctI
import Derived.RegionTactic
import Derived.BigRegion
import Derived.ChangeAlike
namespace Go.Proofs.Ytlojjodgoeclfaa
open Go.RowKit
set_option linter.unusedVariables false
set_option linter.unusedSimpArgs false

theorem Owns.lit {T : TypeId} (w : World) (z : Int) (b : UInt8) (h : z = (b.toNat : Int)) : Owns T (w.alloc (.cells #[.int .u8 z] T)) w.heap.size (.slice (some ⟨w.heap.size, 0, none⟩) 1 1) [b] := by
  subst h
  exact World.ownsRow_lit w #[u8 b] 1 (Nat.le_refl _) (by unfold maxLen; omega) rfl

theorem set_wide (v n j : Nat) (hj : j < n) : (List.replicate (n - j) (0 : UInt8) ++ wide v j).set (n - 1 - j) (UInt8.ofNat (v / 256 ^ j)) = List.replicate (n - (j + 1)) 0 ++ wide v (j + 1) := by
  have e : n - j = (n - 1 - j) + 1 := by omega
  have e2 : n - (j + 1) = n - 1 - j := by omega
  rw [e, e2, List.replicate_succ', List.append_assoc, List.set_append_right _ _ (by simp)]
  simp [wide]

theorem Owns.putAt {T : TypeId} {w : World} {base g n cap : Nat} {l : List UInt8} (h : Owns T w base (.slice (some ⟨g, 0, none⟩) n cap) l) (hn : l.length = n) (j : Nat) (b : UInt8) :
    Owns T (w.setCell ⟨g, j, none⟩ (u8 b)) base (.slice (some ⟨g, 0, none⟩) n cap) (l.set j b) ∧ w.grownBy (w.setCell ⟨g, j, none⟩ (u8 b)) (some g) := by
  subst hn
  have := World.ownsRow.stored h j (u8 b)
  refine ⟨?_, this.2⟩
  unfold Owns
  rw [List.length_set]
  have e : cellsOf (l.set j b) = (cellsOf l).set j (u8 b) := by simp [cellsOf, List.map_set]
  rw [e]
  exact this.1

theorem quo_256 (x : Nat) (hv : x < 18446744073709551616) : IntKind.u64.wrap ((x : Int).tdiv 256) = (x : Int) / 256 := IntWalk.u64_quo _ _ (by omega)

set_option maxHeartbeats 6400000 in
theorem wideR_any (v : Nat) (hv : v < 18446744073709551616) (n : Nat) (hn : n ≤ 8) (w : World) :
    Calls Try.prog 69 #[.int .u64 (v : Int), .int .i64 (n : Int)] w fun e w' => ∃ A cap, e = .returned (.slice A n cap) ∧ Owns 5 w' w.heap.size (.slice A n cap) (wide v n) ∧ Below w.heap.size w w' := by
  obtain ⟨i0, hi0, hz0, hz1, hz2⟩ := info_parts info_u8
  have nb : (n : Int) ≤ 8 := by omega
  have e1 : IntKind.i64.wrap ((n : Int) - 1) = (n : Int) - 1 := IntWalk.i64_in _ (by omega)
  go_enter Try.func69, Try.ntmps69
  go_wp2_with (at_make; refine wpList_make_full _ rfl _ _ 23 rfl w.heap.size 5 i0 _ 1 Try.underlying23 hi0 hz0 hz1 _ _ _ _ n rfl rfl rfl rfl (by rw [hz2]; omega) (by unfold maxLen; omega) (Nat.le_refl _) ?_)
  intro w1 ho hg
  have hb1 := (Below.refl w.heap.size w).grown hg (Nat.le_refl _) (fun k e => by cases e)
  have ho1 : Owns 5 w1 w.heap.size (.slice (some ⟨w.heap.size, 0, none⟩) n n) (List.replicate n 0) := by
    unfold Owns
    have e : cellsOf (List.replicate n 0) = (madeCells #[.int .u8 0] n).toList := by rw [toList_madeCells_one]; simp [cellsOf]
    rw [e, List.length_replicate]
    simpa using ho
  clear ho hg
  go_wp2
  go_loopg [0, 6, 10] n (fun g x k z wr => ∃ j y : Nat, x = .int .u64 (y : Int) ∧ Hid (v / 256 ^ j = y) ∧ z = .int .i64 (j : Int) ∧ j + g = n ∧ Owns 5 wr w.heap.size (.slice (some ⟨w.heap.size, 0, none⟩) n n) (List.replicate (n - j) 0 ++ wide v j) ∧ Below w.heap.size w wr)
  case atStart => exact ⟨0, v, rfl, ⟨by simp⟩, rfl, by omega, by simpa [wide] using ho1, hb1⟩
  case round =>
    obtain ⟨j, y, rfl, hy, rfl, hj, ho, hb⟩ := hrel
    clear ho1 hb1
    by_cases hlt : j < n
    · have hlt' : (j : Int) < (n : Int) := by omega
      have hlen : (List.replicate (n - j) (0 : UInt8) ++ wide v j).length = n := by simp; omega
      have hcell := World.ownsRow.cellAt (h := by have := ho; unfold Owns at this; rw [hlen] at this; exact this) (n - 1 - j) (by omega)
      have hfr := World.ownsRow.frozenAt (h := by have := ho; unfold Owns at this; rw [hlen] at this; exact this) (n - 1 - j)
      have hset := ho.putAt hlen (n - 1 - j) (UInt8.ofNat (v / 256 ^ j))
      rw [set_wide v n j hlt, hy.out] at hset
      have hyv : y < 18446744073709551616 := Nat.lt_of_le_of_lt (hy.out ▸ Nat.div_le_self _ _) hv
      have hq := quo_256 y hyv
      have hy1 : Hid (v / 256 ^ (j + 1) = y / 256) := ⟨by rw [Nat.pow_succ, ← Nat.div_div_eq_div_mul, hy.out]⟩
      have hby : Hid ((y : Int) % 256 = ((UInt8.ofNat y).toNat : Int)) := ⟨by simp⟩
      have e2 : IntKind.i64.wrap ((n : Int) - 1 - (j : Int)) = ((n - 1 - j : Nat) : Int) := by rw [IntWalk.i64_in _ (by omega)]; omega
      have hc2 : (cellsOf (List.replicate (n - j) (0 : UInt8) ++ wide v j))[n - 1 - j]? = some (u8 ((List.replicate (n - j) (0 : UInt8) ++ wide v j)[n - 1 - j]'(by rw [hlen]; omega))) := by
        rw [List.getElem?_map, List.getElem?_eq_getElem (by rw [hlen]; omega)]
        rfl
      rw [hc2] at hcell
      generalize (List.replicate (n - j) (0 : UInt8) ++ wide v j)[n - 1 - j]'(by rw [hlen]; omega) = b at hcell
      clear hc2 ho
      go_wp2
      go_roundg (gk - 1)
      case measure => omega
      case rel =>
        refine ⟨j + 1, y / 256, by simp, hy1, by go_num, by omega, ?_, ?_⟩
        · rw [hby.out]; exact hset.1
        · rw [hby.out]; exact hb.grown hset.2 hb.size (fun k e => by injection e with e; omega)
    · obtain rfl : j = n := by omega
      have hdec : decide ((j : Int) < (j : Int)) = false := decide_eq_false (by omega)
      go_wp2
      go_ret
      exact ⟨_, _, rfl, by simpa using ho, hb⟩

/-- What an item's bytes are. -/
def itemOf (k n : Int) (s : ByteArray) : List UInt8 :=
  if k = 0 then [UInt8.ofNat (n % 256).toNat] else if k = 1 then [if n.tmod 2 = 0 then 0 else 1] else if k = 2 then wide (IntKind.u64.wrap n).toNat 4 else if k = 3 then wide (IntKind.u64.wrap n).toNat 8 else textOf s.data.toList

theorem u64_wrap (n : Int) : 0 ≤ IntKind.u64.wrap n ∧ IntKind.u64.wrap n < 18446744073709551616 := by rw [IntKind.wrap_u64]; omega
theorem u8_wrap (n : Int) : 0 ≤ IntKind.u8.wrap n ∧ IntKind.u8.wrap n < 256 := by simp [IntKind.wrap, IntKind.bits, IntKind.signed]; omega

theorem countR_any (n : Int) (u : Nat) (hu : IntKind.u64.wrap n = (u : Int)) (w : World) :
    Calls Try.prog 46 #[.int .i64 n] w fun e w' => ∃ A cap, e = .returned (.slice A 4 cap) ∧ Owns 5 w' w.heap.size (.slice A 4 cap) (wide u 4) ∧ Below w.heap.size w w' := by
  have hW := wideR_any u (by have := u64_wrap n; omega) 4 (by omega) w
  go_enter Try.func46, Try.ntmps46
  go_wp2_with (go_at_call 69; refine hW.mono ?_; rintro e w1 ⟨A, cap, rfl, ho, hb⟩)
  go_ret
  exact ⟨A, cap, rfl, ho, hb⟩

theorem numR_any (n : Int) (u : Nat) (hu : IntKind.u64.wrap n = (u : Int)) (w : World) :
    Calls Try.prog 44 #[.int .i64 n] w fun e w' => ∃ A cap, e = .returned (.slice A 8 cap) ∧ Owns 5 w' w.heap.size (.slice A 8 cap) (wide u 8) ∧ Below w.heap.size w w' := by
  have hW := wideR_any u (by have := u64_wrap n; omega) 8 (by omega) w
  go_enter Try.func44, Try.ntmps44
  go_wp2_with (go_at_call 69; refine hW.mono ?_; rintro e w1 ⟨A, cap, rfl, ho, hb⟩)
  go_ret
  exact ⟨A, cap, rfl, ho, hb⟩

theorem flagR_any (b : Bool) (w : World) :
    Calls Try.prog 45 #[.bool b] w fun e w' => ∃ A cap, e = .returned (.slice A 1 cap) ∧ Owns 5 w' w.heap.size (.slice A 1 cap) [if b then 1 else 0] ∧ Below w.heap.size w w' := by
  have h1 := Owns.lit (T := 5) w 1 1 rfl
  have h0 := Owns.lit (T := 5) w 0 0 rfl
  cases b
  all_goals
    go_enter Try.func45, Try.ntmps45
    go_wp2
    go_ret
    exact ⟨_, _, rfl, by first | exact h1 | exact h0, (Below.refl _ _).alloc (Nat.le_refl _) _⟩

theorem textR_any (s : ByteArray) (hs : s.size ≤ 50000) (w : World) :
    Calls Try.prog 83 #[.string s] w fun e w' => ∃ A cap, e = .returned (.slice A (4 + s.size) cap) ∧ Owns 5 w' w.heap.size (.slice A (4 + s.size) cap) (textOf s.data.toList) ∧ Below w.heap.size w w' := by
  obtain ⟨i0, hi0, hz0, hz1, hz2⟩ := info_parts info_u8
  have hC := countR_any (s.size : Int) s.size (IntWalk.u64_in _ (by omega)) w
  have hsz : s.data.toList.length = s.size := by simp
  have hto : wide s.size 4 ++ s.data.toList = textOf s.data.toList := by simp [textOf]
  have hle : (wide s.size 4 ++ s.data.toList).length = 4 + s.size := by simp
  go_enter Try.func83, Try.ntmps83
  go_wp2_with (first
    | (go_at_call 46; refine hC.mono ?_; rintro e w1 ⟨A, cap, rfl, ho, hb⟩)
    | (at_builtin; refine wpList_append_text _ rfl _ _ 23 9 rfl 5 i0 Try.underlying23 Try.underlying9 hi0 hz0 hz1 hz2 (.slice A 4 cap) (wide s.size 4) rfl (ho.rebase (fun k e => Nat.zero_le _)) s rfl (by omega) ?_))
  intro v1 w2 hr hg hbb
  rw [← hto] at hr
  have hlt := ho.lt
  have hsz1 := hb.size
  have hr2 : Owns 5 w2 w.heap.size v1 (wide s.size 4 ++ s.data.toList) := hr.rebase fun k e => by
    rcases hbb with h | h
    · exact (hlt k (h ▸ e)).1
    · rw [h] at e; injection e with e; omega
  have hb2 : Below w.heap.size w w2 := hb.grown hg hb.size fun k e => (hlt k e).1
  obtain ⟨A1, cap1, rfl, _⟩ := lies_of_owns hr2
  rw [hle] at hr2 ⊢
  rw [hto] at hr2
  clear hr hg hbb ho
  go_wp2
  go_ret
  exact ⟨_, _, rfl, hr2, hb2⟩

/-- '[]byte(s)'. -/
theorem conv_bytes (W : World) (s : ByteArray) : ∃ c W', (convert 9 23 (.string s)).run Try.prog W = .ok (.slice (some ⟨W.heap.size, 0, none⟩) s.size c) W' ∧ Lies W' (some ⟨W.heap.size, 0, none⟩) s.size c s.data.toList ∧ Below W.heap.size W W' ∧ W.heap.size < W'.heap.size := by
  refine ⟨_, _, run_bytes_of_string W _ _ _ s Try.underlying9 Try.underlying23 Try.underlying5, ⟨by simp, grownCap_ge _ _ _ _, (fun h => by cases h), fun _ => ⟨_, _, rfl, by simp, fun j hj => ?_⟩⟩, (Below.refl _ _).drew.alloc (Nat.le_refl _) _, by simp⟩
  have hj' : j < s.size := by simpa using hj
  have := World.cell?_alloc_mark W.drew (bytesRow s (grownCap W s.size 0 5)) 5 ((bytesRow s (grownCap W s.size 0 5)).size, (bytesRow s (grownCap W s.size 0 5)).size + 1) j
  rw [Nat.zero_add]
  refine this.trans ?_
  have hj2 : j < s.data.size := hj'
  simp only [bytesRow, Array.getElem?_append, Array.size_map, Array.getElem?_map]
  rw [if_pos hj2, Array.getElem?_eq_getElem hj2]
  rfl

/- The laws' own 'put' -/
abbrev item (k n : Int) (s : ByteArray) : Value := .agg #[.int .u8 k, .int .i64 n, .string s]

end Go.Proofs.Ytlojjodgoeclfaa

namespace Go.Proofs.Ytlojjodgoeclfaa
open Go.RowKit
set_option linter.unusedVariables false
set_option linter.unusedSimpArgs false

/-- Bytes that are taken apart, as a value. -/
abbrev inv (A : Option Addr) (cap : Nat) (s : St) : Value := .agg #[.slice A (left s) cap, .bool s.isNone]

/-- Where they lie. -/
def RLies (w : World) (A : Option Addr) (cap : Nat) (s : St) : Prop := Lies w A (left s) cap (s.getD [])

theorem RLies.below {w w' : World} {A : Option Addr} {cap : Nat} {s : St} (h : RLies w A cap s) {B : Nat} (hb : Below B w w') (hB : w.heap.size ≤ B) : RLies w' A cap s := Lies.below h hb hB
theorem RLies.bad (w : World) : RLies w none 0 none := Lies.nil w

theorem res_tmp_cell {fn : Func} {u p : Tmp} (h : fn.results = #[.tmp u, .cell p 48]) (tmps : Array Value) (W : World) (n : Nat) (x y : Value) (fr : Nat × Nat) (h1 : tmps.getD p undef = .pointer (some ⟨n, 0, none⟩))
    (hW : W.heap[n]? = some (.cells #[x, y] 48 fr)) : (results fn tmps).run Try.prog W = .ok (.tuple #[tmps.getD u undef, .agg #[x, y]]) W := by
  rw [results_tmp_cell h, h1]
  simp [asAddr, run_loadVar_row W n 48 48 #[x, y] fr _ hW Try.underlying48 rfl (by kernel_rfl)]

theorem bytesR_bad (A : Option Addr) (cap : Nat) (s : St) (w : World) (k : Nat) (hk : s = none ∨ left s < k) :
    Calls Try.prog 87 #[inv A cap s, .int .i64 (k : Int)] w fun e w' => e = .returned (.tuple #[.slice none 0 0, inv none 0 none]) ∧ Below w.heap.size w w' := by
  have hb : ∀ a b, Below w.heap.size w ((w.alloc a).alloc b) := fun a b => ((Below.refl _ _).alloc (Nat.le_refl _) _).alloc (by simp) _
  cases s with
  | none =>
    go_enter Try.func87, Try.ntmps87
    go_wp2
    refine bodyPost_ret (res_tmp_cell rfl _ _ (w.heap.size + 1) _ _ _ rfl (heap_alloc2_new _ _ _)) rfl ?_
    exact ⟨rfl, hb _ _⟩
  | some l =>
    have hk' : (l.length : Int) < (k : Int) := by
      rcases hk with h | h
      · cases h
      · simp only [left] at h; omega
    simp only [inv, left, Option.isNone]
    go_enter Try.func87, Try.ntmps87
    go_wp2
    refine bodyPost_ret (res_tmp_cell rfl _ _ (w.heap.size + 1) _ _ _ rfl (heap_alloc2_new _ _ _)) rfl ?_
    exact ⟨rfl, hb _ _⟩

theorem bytesR_good (A : Option Addr) (cap : Nat) (l : List UInt8) (w : World) (k : Nat) (hk : k ≤ l.length) (h : Lies w A l.length cap l) :
    Calls Try.prog 87 #[.agg #[.slice A l.length cap, .bool false], .int .i64 (k : Int)] w fun e w' => e = .returned (.tuple #[.slice A k cap, .agg #[.slice (restAt A cap k) (l.length - k) (cap - k), .bool false]]) ∧ Below w.heap.size w w' := by
  have hc := h.2.1
  have s1 := run_front Try.underlying23 sizeOf_u8 A l.length cap k (by omega)
  have s2 := run_rest Try.underlying23 sizeOf_u8 A l.length cap k hk hc
  have hk' : ¬ ((l.length : Int) < (k : Int)) := by omega
  have hb : ∀ a b, Below w.heap.size w ((w.alloc a).alloc b).drew := fun a b => (((Below.refl _ _).alloc (Nat.le_refl _) _).alloc (by simp) _).drew
  clear h
  go_enter Try.func87, Try.ntmps87
  go_wp2
  go_region
  all_goals
    go_wp2
    refine bodyPost_ret (res_tmp_cell rfl _ _ (w.heap.size + 1) _ _ _ rfl (heap_alloc2_new _ _ _)) rfl ?_
    exact ⟨rfl, hb _ _⟩

/-- So many bytes: where the bytes lie, there lie these. -/
theorem bytesR_any (A : Option Addr) (cap : Nat) (s : St) (w : World) (k : Nat) (h : RLies w A cap s) :
    Calls Try.prog 87 #[inv A cap s, .int .i64 (k : Int)] w fun e w' => ∃ B bl bc A' cap', e = .returned (.tuple #[.slice B bl bc, inv A' cap' (takeN s k).2]) ∧ (∀ w0, RLies w0 A cap s → Lies w0 B bl bc (takeN s k).1 ∧ RLies w0 A' cap' (takeN s k).2) ∧ Below w.heap.size w w' := by
  cases s with
  | none => exact (bytesR_bad A cap none w k (.inl rfl)).mono fun e w' ⟨h1, h2⟩ => ⟨none, 0, 0, none, 0, h1, fun w0 _ => ⟨Lies.nil _, RLies.bad _⟩, h2⟩
  | some l =>
    by_cases hk : k ≤ l.length
    · refine (bytesR_good A cap l w k hk h).mono fun e w' ⟨h1, h2⟩ => ?_
      have e1 : takeN (some l) k = (l.take k, some (l.drop k)) := by simp only [takeN, if_pos hk]
      rw [e1]
      refine ⟨A, k, cap, restAt A cap k, cap - k, ?_, fun w0 h0 => ⟨Lies.take h0 k hk, ?_⟩, h2⟩
      · rw [h1]; simp [inv, left]
      · have hd := Lies.drop h0 k hk
        show Lies w0 _ (left (some (l.drop k))) _ _
        simp only [left, List.length_drop, Option.getD_some]
        exact hd
    · refine (bytesR_bad A cap (some l) w k (.inr (by simp only [left]; omega))).mono fun e w' ⟨h1, h2⟩ => ?_
      have e1 : takeN (some l) k = ([], none) := by simp only [takeN, if_neg hk]
      rw [e1]
      exact ⟨none, 0, 0, none, 0, h1, fun w0 _ => ⟨Lies.nil _, RLies.bad _⟩, h2⟩

theorem two_set (X : World) (n : Nat) (u v u0 v0 : Value) (T : TypeId) (h : X.heap[n]? = some (.cells #[u0, v0] T)) : ((X.setCell ⟨n, 0, none⟩ u).setCell ⟨n, 1, none⟩ v).heap[n]? = some (.cells #[u, v] T) := by
  simp only [World.setCell, Array.getElem?_modify, if_true, h, Option.map_some]
  simp

set_option maxRecDepth 100000 in
set_option maxHeartbeats 6400000 in
/-- A number of so many bytes. -/
theorem numberR_any (A : Option Addr) (cap : Nat) (s : St) (w : World) (k : Nat) (hk8 : k ≤ 8) (h : RLies w A cap s) :
    Calls Try.prog 77 #[inv A cap s, .int .i64 (k : Int)] w fun e w' => ∃ A' cap', e = .returned (.tuple #[.int .u64 ((numberN s k).1 : Int), inv A' cap' (numberN s k).2]) ∧ (∀ w0, RLies w0 A cap s → RLies w0 A' cap' (numberN s k).2) ∧ Below w.heap.size w w' := by
  have hb0 : Below w.heap.size w ((w.alloc (.cells #[.slice A (left s) cap, .bool s.isNone] 48)).alloc (.cells #[.slice none 0 0, .bool false] 48)) := ((Below.refl _ _).alloc (Nat.le_refl _) _).alloc (by simp) _
  have hm0 : ((w.alloc (.cells #[.slice A (left s) cap, .bool s.isNone] 48)).alloc (.cells #[.slice none 0 0, .bool false] 48)).heap[w.heap.size + 1]? = some (.cells #[.slice none 0 0, .bool false] 48) := heap_alloc2_new _ _ _
  have hB := bytesR_any A cap s _ k (h.below hb0 (Nat.le_refl _))
  have hlen := takeN_len s k
  unfold numberN
  generalize takeN s k = t at hB hlen ⊢
  obtain ⟨l, s'⟩ := t
  simp only at hB hlen ⊢
  simp only [inv] at hB ⊢
  have f0 : ((w.alloc (.cells #[.slice A (left s) cap, .bool s.isNone] 48)).alloc (.cells #[.slice none 0 0, .bool false] 48)).cell? ⟨w.heap.size, 0, none⟩ = some (.slice A (left s) cap) := by simp [go_sem]
  have f1 : ((w.alloc (.cells #[.slice A (left s) cap, .bool s.isNone] 48)).alloc (.cells #[.slice none 0 0, .bool false] 48)).cell? ⟨w.heap.size, 1, none⟩ = some (.bool s.isNone) := by simp [go_sem]
  generalize hW : ((w.alloc (.cells #[.slice A (left s) cap, .bool s.isNone] 48)).alloc (.cells #[.slice none 0 0, .bool false] 48)) = W at hb0 hm0 hB f0 f1
  go_enter Try.func77, Try.ntmps77
  go_wp2_with (go_at_call 87; refine hB.mono ?_; rintro e w1 ⟨B, bl, bc, A', cap', rfl, hlr, hb⟩)
  have hq : w.heap.size + 1 < w1.heap.size := Nat.lt_of_lt_of_le (hlt hm0) hb.size
  have hbX : Below w.heap.size w (w1.alloc (.cells #[.slice A' (left s') cap', .bool s'.isNone] 48)) := (hb0.trans (hb.mono hb0.size)).alloc (by omega) _
  have hmX : (w1.alloc (.cells #[.slice A' (left s') cap', .bool s'.isNone] 48)).heap[w.heap.size + 1]? = some (.cells #[.slice none 0 0, .bool false] 48) := (Below.heap_alloc _ _ _ hq).trans ((hb.block _ (hlt hm0)).trans hm0)
  have hmY : (w1.alloc (.cells #[.slice A' (left s') cap', .bool s'.isNone] 48)).heap[w1.heap.size]? = some (.cells #[.slice A' (left s') cap', .bool s'.isNone] 48) := heap_alloc_new _ _
  have hlX := (((hlr w h).1.below hb0 (Nat.le_refl _)).below hb (Nat.le_refl _)).below ((Below.refl w1.heap.size w1).alloc (Nat.le_refl _) (.cells #[.slice A' (left s') cap', .bool s'.isNone] 48)) (Nat.le_refl _)
  generalize (w1.alloc (.cells #[.slice A' (left s') cap', .bool s'.isNone] 48)) = X at hbX hmX hmY hlX ⊢
  generalize w1.heap.size = q at hq hmY ⊢
  have hfin : ∀ w0, RLies w0 A cap s → RLies w0 A' cap' s' := fun w0 h0 => (hlr w0 h0).2
  clear hb0 hm0 hB f0 f1 hW hlr hb h
  obtain rfl : l.length = bl := hlX.1
  go_loopg [8, 9, 18] l.length (fun g v u x wr => ∃ j : Nat, v = .int .u64 ((num (l.take j) : Nat) : Int) ∧ x = .int .i64 (j : Int) ∧ j + g = l.length ∧ wr = X)
  case atStart => exact ⟨0, by simp [num], rfl, by omega, rfl⟩
  case round =>
    obtain ⟨j, rfl, rfl, hj, rfl⟩ := hrel
    have jb : (j : Int) ≤ 8 := by omega
    by_cases hlt' : j < l.length
    · have hlt2 : (j : Int) < (l.length : Int) := by omega
      obtain ⟨g, off, rfl, hg, hc⟩ := hlX.cell j hlt'
      have hx : num (l.take j) < 72057594037927936 := by
        have h1 := num_lt (l.take j)
        have h2 : 256 ^ (l.take j).length ≤ 256 ^ 7 := Nat.pow_le_pow_right (by omega) (by simp; omega)
        have h3 : (256 : Nat) ^ 7 = 72057594037927936 := by decide
        omega
      have hb8 : l[j].toNat < 256 := l[j].toNat_lt
      have hnx : Hid (num (l.take j) * 256 + l[j].toNat = num (l.take (j + 1))) := ⟨by rw [take_get l j hlt', num_snoc]⟩
      generalize l[j] = b at hc hb8 hnx
      generalize num (l.take j) = v at hx hnx ⊢
      go_wp2
      go_roundg (gk - 1)
      case measure => omega
      case rel => exact ⟨j + 1, by rw [← hnx.out]; simp, by go_num, by omega, rfl⟩
    · obtain rfl : j = l.length := by omega
      have hdec : decide ((l.length : Int) < (l.length : Int)) = false := decide_eq_false (by omega)
      have f2 : wr.cell? ⟨q, 0, none⟩ = some (.slice A' (left s') cap') := by simp [World.cell?, hmY]
      have f3 : wr.cell? ⟨q, 1, none⟩ = some (.bool s'.isNone) := by simp [World.cell?, hmY]
      have f4 : wr.cell? ⟨w.heap.size + 1, 0, none⟩ = some (.slice none 0 0) := by simp [World.cell?, hmX]
      have f5 : wr.cell? ⟨w.heap.size + 1, 1, none⟩ = some (.bool false) := by simp [World.cell?, hmX]
      have f6 : wr.frozen? ⟨w.heap.size + 1, 0, none⟩ = false := by simp [World.frozen?, hmX]
      have f7 : wr.frozen? ⟨w.heap.size + 1, 1, none⟩ = false := by simp [World.frozen?, hmX]
      rw [List.take_length]
      go_wp2
      go_region
      all_goals
        go_wp2
        refine bodyPost_ret (res_tmp_cell rfl _ _ (w.heap.size + 1) _ _ _ rfl (two_set _ _ _ _ _ _ _ hmX)) rfl ?_
        exact ⟨A', cap', rfl, hfin, ((hbX.setCell (by simp) _).setCell (by simp) _).drew⟩

end Go.Proofs.Ytlojjodgoeclfaa

namespace Go.Proofs.Ytlojjodgoeclfaa
open Go.RowKit
set_option linter.unusedVariables false
set_option linter.unusedSimpArgs false

theorem left_number (s : St) (n : Nat) {b : Nat} (h : left s ≤ b) : left (numberN s n).2 ≤ b := by
  unfold numberN takeN
  cases s with
  | none => simp [left]
  | some l =>
    simp only [left] at h
    simp only
    split
    · simp [left]; omega
    · simp [left]

set_option maxRecDepth 100000 in
set_option maxHeartbeats 6400000 in
theorem byteR_any (A : Option Addr) (cap : Nat) (s : St) (w : World) (h : RLies w A cap s) :
    Calls Try.prog 51 #[inv A cap s] w fun e w' => ∃ A' cap', e = .returned (.tuple #[.int .u8 ((numberN s 1).1 : Int), inv A' cap' (numberN s 1).2]) ∧ (∀ w0, RLies w0 A cap s → RLies w0 A' cap' (numberN s 1).2) ∧ Below w.heap.size w w' := by
  have hb0 : Below w.heap.size w ((w.alloc (.cells #[.slice A (left s) cap, .bool s.isNone] 48)).alloc (.cells #[.slice none 0 0, .bool false] 48)) := ((Below.refl _ _).alloc (Nat.le_refl _) _).alloc (by simp) _
  have hm0 : ((w.alloc (.cells #[.slice A (left s) cap, .bool s.isNone] 48)).alloc (.cells #[.slice none 0 0, .bool false] 48)).heap[w.heap.size + 1]? = some (.cells #[.slice none 0 0, .bool false] 48) := heap_alloc2_new _ _ _
  have f0 : ((w.alloc (.cells #[.slice A (left s) cap, .bool s.isNone] 48)).alloc (.cells #[.slice none 0 0, .bool false] 48)).cell? ⟨w.heap.size, 0, none⟩ = some (.slice A (left s) cap) := by simp [go_sem]
  have f1 : ((w.alloc (.cells #[.slice A (left s) cap, .bool s.isNone] 48)).alloc (.cells #[.slice none 0 0, .bool false] 48)).cell? ⟨w.heap.size, 1, none⟩ = some (.bool s.isNone) := by simp [go_sem]
  have hN := numberR_any A cap s _ 1 (by omega) (h.below hb0 (Nat.le_refl _))
  have hlt8 := numberN_lt s 1
  generalize numberN s 1 = t at hN hlt8 ⊢
  obtain ⟨v, s'⟩ := t
  simp only [inv] at hN hlt8 ⊢
  have hv : (v : Int) < 256 := by omega
  generalize hW : ((w.alloc (.cells #[.slice A (left s) cap, .bool s.isNone] 48)).alloc (.cells #[.slice none 0 0, .bool false] 48)) = W at hb0 hm0 hN f0 f1
  go_enter Try.func51, Try.ntmps51
  go_wp2_with (
      go_at_call 77
      refine hN.mono ?_
      rintro e w1 ⟨A', cap', rfl, hr, hb⟩
      have hq : w.heap.size + 1 < w1.heap.size := Nat.lt_of_lt_of_le (hlt hm0) hb.size
      have hm1 : w1.heap[w.heap.size + 1]? = some (.cells #[.slice none 0 0, .bool false] 48) := (hb.block _ (hlt hm0)).trans hm0
      have hb1 : Below w.heap.size w w1 := hb0.trans (hb.mono hb0.size)
      have f4 : w1.cell? ⟨w.heap.size + 1, 0, none⟩ = some (.slice none 0 0) := by simp [World.cell?, hm1]
      have f5 : w1.cell? ⟨w.heap.size + 1, 1, none⟩ = some (.bool false) := by simp [World.cell?, hm1]
      have f6 : w1.frozen? ⟨w.heap.size + 1, 0, none⟩ = false := by simp [World.frozen?, hm1]
      have f7 : w1.frozen? ⟨w.heap.size + 1, 1, none⟩ = false := by simp [World.frozen?, hm1]
      clear hb hb0 hm0)
  go_region
  all_goals
    go_wp2
    refine bodyPost_ret (res_tmp_cell rfl _ _ (w.heap.size + 1) _ _ _ rfl ((Below.heap_alloc _ _ _ (by simpa using hq)).trans (two_set _ _ _ _ _ _ _ hm1))) rfl ?_
    exact ⟨A', cap', by first | rfl | (simp [IntKind.wrap, IntKind.bits, IntKind.signed]; done) | (simp [IntKind.wrap, IntKind.bits, IntKind.signed]; omega), hr, (((hb1.setCell (by simp) _).setCell (by simp) _).alloc (by simp; omega) _).drew⟩

set_option maxRecDepth 100000 in
set_option maxHeartbeats 6400000 in
theorem numR2_any (A : Option Addr) (cap : Nat) (s : St) (w : World) (h : RLies w A cap s) :
    Calls Try.prog 52 #[inv A cap s] w fun e w' => ∃ A' cap', e = .returned (.tuple #[.int .i64 (IntKind.i64.wrap ((numberN s 8).1 : Int)), inv A' cap' (numberN s 8).2]) ∧ (∀ w0, RLies w0 A cap s → RLies w0 A' cap' (numberN s 8).2) ∧ Below w.heap.size w w' := by
  have hb0 : Below w.heap.size w ((w.alloc (.cells #[.slice A (left s) cap, .bool s.isNone] 48)).alloc (.cells #[.slice none 0 0, .bool false] 48)) := ((Below.refl _ _).alloc (Nat.le_refl _) _).alloc (by simp) _
  have hm0 : ((w.alloc (.cells #[.slice A (left s) cap, .bool s.isNone] 48)).alloc (.cells #[.slice none 0 0, .bool false] 48)).heap[w.heap.size + 1]? = some (.cells #[.slice none 0 0, .bool false] 48) := heap_alloc2_new _ _ _
  have f0 : ((w.alloc (.cells #[.slice A (left s) cap, .bool s.isNone] 48)).alloc (.cells #[.slice none 0 0, .bool false] 48)).cell? ⟨w.heap.size, 0, none⟩ = some (.slice A (left s) cap) := by simp [go_sem]
  have f1 : ((w.alloc (.cells #[.slice A (left s) cap, .bool s.isNone] 48)).alloc (.cells #[.slice none 0 0, .bool false] 48)).cell? ⟨w.heap.size, 1, none⟩ = some (.bool s.isNone) := by simp [go_sem]
  have hN := numberR_any A cap s _ 8 (by omega) (h.below hb0 (Nat.le_refl _))
  generalize numberN s 8 = t at hN ⊢
  obtain ⟨v, s'⟩ := t
  simp only [inv] at hN ⊢
  generalize hW : ((w.alloc (.cells #[.slice A (left s) cap, .bool s.isNone] 48)).alloc (.cells #[.slice none 0 0, .bool false] 48)) = W at hb0 hm0 hN f0 f1
  go_enter Try.func52, Try.ntmps52
  go_wp2_with (
      go_at_call 77
      refine hN.mono ?_
      rintro e w1 ⟨A', cap', rfl, hr, hb⟩
      have hq : w.heap.size + 1 < w1.heap.size := Nat.lt_of_lt_of_le (hlt hm0) hb.size
      have hm1 : w1.heap[w.heap.size + 1]? = some (.cells #[.slice none 0 0, .bool false] 48) := (hb.block _ (hlt hm0)).trans hm0
      have hb1 : Below w.heap.size w w1 := hb0.trans (hb.mono hb0.size)
      have f4 : w1.cell? ⟨w.heap.size + 1, 0, none⟩ = some (.slice none 0 0) := by simp [World.cell?, hm1]
      have f5 : w1.cell? ⟨w.heap.size + 1, 1, none⟩ = some (.bool false) := by simp [World.cell?, hm1]
      have f6 : w1.frozen? ⟨w.heap.size + 1, 0, none⟩ = false := by simp [World.frozen?, hm1]
      have f7 : w1.frozen? ⟨w.heap.size + 1, 1, none⟩ = false := by simp [World.frozen?, hm1]
      clear hb hb0 hm0)
  go_region
  all_goals
    go_wp2
    refine bodyPost_ret (res_tmp_cell rfl _ _ (w.heap.size + 1) _ _ _ rfl ((Below.heap_alloc _ _ _ (by simpa using hq)).trans (two_set _ _ _ _ _ _ _ hm1))) rfl ?_
    exact ⟨A', cap', by rw [IntWalk.i64_left]; rfl, hr, (((hb1.setCell (by simp) _).setCell (by simp) _).alloc (by simp; omega) _).drew⟩

set_option maxRecDepth 100000 in
set_option maxHeartbeats 6400000 in
theorem flagR2_any (A : Option Addr) (cap : Nat) (s : St) (w : World) (h : RLies w A cap s) :
    Calls Try.prog 53 #[inv A cap s] w fun e w' => ∃ A' cap', e = .returned (.tuple #[.bool (flagN s).1, inv A' cap' (flagN s).2]) ∧ (∀ w0, RLies w0 A cap s → RLies w0 A' cap' (flagN s).2) ∧ Below w.heap.size w w' := by
  have hb0 : Below w.heap.size w ((w.alloc (.cells #[.slice A (left s) cap, .bool s.isNone] 48)).alloc (.cells #[.slice none 0 0, .bool false] 48)) := ((Below.refl _ _).alloc (Nat.le_refl _) _).alloc (by simp) _
  have hm0 : ((w.alloc (.cells #[.slice A (left s) cap, .bool s.isNone] 48)).alloc (.cells #[.slice none 0 0, .bool false] 48)).heap[w.heap.size + 1]? = some (.cells #[.slice none 0 0, .bool false] 48) := heap_alloc2_new _ _ _
  have f0 : ((w.alloc (.cells #[.slice A (left s) cap, .bool s.isNone] 48)).alloc (.cells #[.slice none 0 0, .bool false] 48)).cell? ⟨w.heap.size, 0, none⟩ = some (.slice A (left s) cap) := by simp [go_sem]
  have f1 : ((w.alloc (.cells #[.slice A (left s) cap, .bool s.isNone] 48)).alloc (.cells #[.slice none 0 0, .bool false] 48)).cell? ⟨w.heap.size, 1, none⟩ = some (.bool s.isNone) := by simp [go_sem]
  have hN := numberR_any A cap s _ 1 (by omega) (h.below hb0 (Nat.le_refl _))
  unfold flagN
  generalize numberN s 1 = t at hN ⊢
  obtain ⟨v, s'⟩ := t
  simp only [inv] at hN ⊢
  generalize hW : ((w.alloc (.cells #[.slice A (left s) cap, .bool s.isNone] 48)).alloc (.cells #[.slice none 0 0, .bool false] 48)) = W at hb0 hm0 hN f0 f1
  by_cases hv : 1 < v
  · have hv' : (1 : Int) < (v : Int) := by omega
    rw [if_pos hv]
    go_enter Try.func53, Try.ntmps53
    go_wp2_with (
        go_at_call 77
        refine hN.mono ?_
        rintro e w1 ⟨A', cap', rfl, hr, hb⟩
        have hq : w.heap.size + 1 < w1.heap.size := Nat.lt_of_lt_of_le (hlt hm0) hb.size
        have hm1 : w1.heap[w.heap.size + 1]? = some (.cells #[.slice none 0 0, .bool false] 48) := (hb.block _ (hlt hm0)).trans hm0
        have hb1 : Below w.heap.size w w1 := hb0.trans (hb.mono hb0.size)
        have f4 : w1.cell? ⟨w.heap.size + 1, 0, none⟩ = some (.slice none 0 0) := by simp [World.cell?, hm1]
        have f5 : w1.cell? ⟨w.heap.size + 1, 1, none⟩ = some (.bool false) := by simp [World.cell?, hm1]
        have f6 : w1.frozen? ⟨w.heap.size + 1, 0, none⟩ = false := by simp [World.frozen?, hm1]
        have f7 : w1.frozen? ⟨w.heap.size + 1, 1, none⟩ = false := by simp [World.frozen?, hm1]
        clear hb hb0 hm0)
    refine bodyPost_ret (res_tmp_cell rfl _ _ (w.heap.size + 1) _ _ _ rfl ((Below.heap_alloc _ _ _ (by simpa using hq)).trans (two_set _ _ _ _ _ _ _ hm1))) rfl ?_
    exact ⟨none, 0, rfl, fun w0 _ => RLies.bad w0, ((hb1.setCell (by simp) _).setCell (by simp) _).alloc (by simp; omega) _⟩
  · have hv' : ¬ ((1 : Int) < (v : Int)) := by omega
    rw [if_neg hv]
    go_enter Try.func53, Try.ntmps53
    go_wp2_with (
        go_at_call 77
        refine hN.mono ?_
        rintro e w1 ⟨A', cap', rfl, hr, hb⟩
        have hq : w.heap.size + 1 < w1.heap.size := Nat.lt_of_lt_of_le (hlt hm0) hb.size
        have hm1 : w1.heap[w.heap.size + 1]? = some (.cells #[.slice none 0 0, .bool false] 48) := (hb.block _ (hlt hm0)).trans hm0
        have hb1 : Below w.heap.size w w1 := hb0.trans (hb.mono hb0.size)
        have f4 : w1.cell? ⟨w.heap.size + 1, 0, none⟩ = some (.slice none 0 0) := by simp [World.cell?, hm1]
        have f5 : w1.cell? ⟨w.heap.size + 1, 1, none⟩ = some (.bool false) := by simp [World.cell?, hm1]
        have f6 : w1.frozen? ⟨w.heap.size + 1, 0, none⟩ = false := by simp [World.frozen?, hm1]
        have f7 : w1.frozen? ⟨w.heap.size + 1, 1, none⟩ = false := by simp [World.frozen?, hm1]
        clear hb hb0 hm0)
    go_region
    all_goals
      go_wp2
      refine bodyPost_ret (res_tmp_cell rfl _ _ (w.heap.size + 1) _ _ _ rfl ((Below.heap_alloc _ _ _ (by simpa using hq)).trans (two_set _ _ _ _ _ _ _ hm1))) rfl ?_
      exact ⟨A', cap', by
        rcases Nat.lt_or_ge v 1 with h0 | h0
        · obtain rfl : v = 0 := by omega
          rfl
        · obtain rfl : v = 1 := by omega
          rfl, hr, (((hb1.setCell (by simp) _).setCell (by simp) _).alloc (by simp; omega) _).drew⟩

set_option maxRecDepth 100000 in
set_option maxHeartbeats 6400000 in
theorem countR2_any (A : Option Addr) (cap : Nat) (s : St) (w : World) (most : Int) (hm : -9223372036854775808 ≤ most ∧ most ≤ 9223372036854775807) (hL : left s ≤ 140737488355328) (h : RLies w A cap s) :
    Calls Try.prog 54 #[inv A cap s, .int .i64 most] w fun e w' => ∃ A' cap', e = .returned (.tuple #[.int .i64 ((countN s most).1 : Int), inv A' cap' (countN s most).2]) ∧ (∀ w0, RLies w0 A cap s → RLies w0 A' cap' (countN s most).2) ∧ Below w.heap.size w w' := by
  have hb0 : Below w.heap.size w ((w.alloc (.cells #[.slice A (left s) cap, .bool s.isNone] 48)).alloc (.cells #[.slice none 0 0, .bool false] 48)) := ((Below.refl _ _).alloc (Nat.le_refl _) _).alloc (by simp) _
  have hm0 : ((w.alloc (.cells #[.slice A (left s) cap, .bool s.isNone] 48)).alloc (.cells #[.slice none 0 0, .bool false] 48)).heap[w.heap.size + 1]? = some (.cells #[.slice none 0 0, .bool false] 48) := heap_alloc2_new _ _ _
  have f0 : ((w.alloc (.cells #[.slice A (left s) cap, .bool s.isNone] 48)).alloc (.cells #[.slice none 0 0, .bool false] 48)).cell? ⟨w.heap.size, 0, none⟩ = some (.slice A (left s) cap) := by simp [go_sem]
  have f1 : ((w.alloc (.cells #[.slice A (left s) cap, .bool s.isNone] 48)).alloc (.cells #[.slice none 0 0, .bool false] 48)).cell? ⟨w.heap.size, 1, none⟩ = some (.bool s.isNone) := by simp [go_sem]
  have hN := numberR_any A cap s _ 4 (by omega) (h.below hb0 (Nat.le_refl _))
  have hlt4 : (numberN s 4).1 < 4294967296 := numberN_lt s 4
  have hle := left_number s 4 hL
  unfold countN
  generalize numberN s 4 = t at hN hlt4 hle ⊢
  obtain ⟨v, s'⟩ := t
  simp only [inv] at hN hlt4 hle ⊢
  have vb : (v : Int) < 4294967296 := by omega
  have lb : (left s' : Int) ≤ 140737488355328 := by omega
  have e2 : IntKind.u64.wrap (left s' : Int) = (left s' : Int) := IntWalk.u64_in _ (by omega)
  generalize hW : ((w.alloc (.cells #[.slice A (left s) cap, .bool s.isNone] 48)).alloc (.cells #[.slice none 0 0, .bool false] 48)) = W at hb0 hm0 hN f0 f1
  by_cases c0 : most < 0
  · rw [if_pos (.inl c0)]
    go_enter Try.func54, Try.ntmps54
    go_wp2_with (
        go_at_call 77
        refine hN.mono ?_
        rintro e w1 ⟨A', cap', rfl, hr, hb⟩
        have hq : w.heap.size + 1 < w1.heap.size := Nat.lt_of_lt_of_le (hlt hm0) hb.size
        have hm1 : w1.heap[w.heap.size + 1]? = some (.cells #[.slice none 0 0, .bool false] 48) := (hb.block _ (hlt hm0)).trans hm0
        have hb1 : Below w.heap.size w w1 := hb0.trans (hb.mono hb0.size)
        have f4 : w1.cell? ⟨w.heap.size + 1, 0, none⟩ = some (.slice none 0 0) := by simp [World.cell?, hm1]
        have f5 : w1.cell? ⟨w.heap.size + 1, 1, none⟩ = some (.bool false) := by simp [World.cell?, hm1]
        have f6 : w1.frozen? ⟨w.heap.size + 1, 0, none⟩ = false := by simp [World.frozen?, hm1]
        have f7 : w1.frozen? ⟨w.heap.size + 1, 1, none⟩ = false := by simp [World.frozen?, hm1]
        clear hb hb0 hm0)
    refine bodyPost_ret (res_tmp_cell rfl _ _ (w.heap.size + 1) _ _ _ rfl ((Below.heap_alloc _ _ _ (by simpa using hq)).trans (two_set _ _ _ _ _ _ _ hm1))) rfl ?_
    exact ⟨none, 0, rfl, fun w0 _ => RLies.bad w0, ((hb1.setCell (by simp) _).setCell (by simp) _).alloc (by simp; omega) _⟩
  have e1 : IntKind.u64.wrap most = most := IntWalk.u64_in _ (by omega)
  by_cases c1 : most < (v : Int)
  · rw [if_pos (.inr (.inl c1))]
    go_enter Try.func54, Try.ntmps54
    go_wp2_with (
        go_at_call 77
        refine hN.mono ?_
        rintro e w1 ⟨A', cap', rfl, hr, hb⟩
        have hq : w.heap.size + 1 < w1.heap.size := Nat.lt_of_lt_of_le (hlt hm0) hb.size
        have hm1 : w1.heap[w.heap.size + 1]? = some (.cells #[.slice none 0 0, .bool false] 48) := (hb.block _ (hlt hm0)).trans hm0
        have hb1 : Below w.heap.size w w1 := hb0.trans (hb.mono hb0.size)
        have f4 : w1.cell? ⟨w.heap.size + 1, 0, none⟩ = some (.slice none 0 0) := by simp [World.cell?, hm1]
        have f5 : w1.cell? ⟨w.heap.size + 1, 1, none⟩ = some (.bool false) := by simp [World.cell?, hm1]
        have f6 : w1.frozen? ⟨w.heap.size + 1, 0, none⟩ = false := by simp [World.frozen?, hm1]
        have f7 : w1.frozen? ⟨w.heap.size + 1, 1, none⟩ = false := by simp [World.frozen?, hm1]
        clear hb hb0 hm0)
    refine bodyPost_ret (res_tmp_cell rfl _ _ (w.heap.size + 1) _ _ _ rfl ((Below.heap_alloc _ _ _ (by simpa using hq)).trans (two_set _ _ _ _ _ _ _ hm1))) rfl ?_
    exact ⟨none, 0, rfl, fun w0 _ => RLies.bad w0, ((hb1.setCell (by simp) _).setCell (by simp) _).alloc (by simp; omega) _⟩
  by_cases c2 : left s' < v
  · rw [if_pos (.inr (.inr c2))]
    have c2' : (left s' : Int) < (v : Int) := by omega
    go_enter Try.func54, Try.ntmps54
    go_wp2_with (
        go_at_call 77
        refine hN.mono ?_
        rintro e w1 ⟨A', cap', rfl, hr, hb⟩
        have hq : w.heap.size + 1 < w1.heap.size := Nat.lt_of_lt_of_le (hlt hm0) hb.size
        have hm1 : w1.heap[w.heap.size + 1]? = some (.cells #[.slice none 0 0, .bool false] 48) := (hb.block _ (hlt hm0)).trans hm0
        have hb1 : Below w.heap.size w w1 := hb0.trans (hb.mono hb0.size)
        have f4 : w1.cell? ⟨w.heap.size + 1, 0, none⟩ = some (.slice none 0 0) := by simp [World.cell?, hm1]
        have f5 : w1.cell? ⟨w.heap.size + 1, 1, none⟩ = some (.bool false) := by simp [World.cell?, hm1]
        have f6 : w1.frozen? ⟨w.heap.size + 1, 0, none⟩ = false := by simp [World.frozen?, hm1]
        have f7 : w1.frozen? ⟨w.heap.size + 1, 1, none⟩ = false := by simp [World.frozen?, hm1]
        clear hb hb0 hm0)
    refine bodyPost_ret (res_tmp_cell rfl _ _ (w.heap.size + 1) _ _ _ rfl ((Below.heap_alloc _ _ _ (by simpa using hq)).trans (two_set _ _ _ _ _ _ _ hm1))) rfl ?_
    exact ⟨none, 0, rfl, fun w0 _ => RLies.bad w0, ((hb1.setCell (by simp) _).setCell (by simp) _).alloc (by simp; omega) _⟩
  · rw [if_neg (by omega)]
    have d0 : decide (most < 0) = false := decide_eq_false c0
    have d1 : decide (most < (v : Int)) = false := decide_eq_false c1
    have d2 : decide (left s' < v) = false := decide_eq_false c2
    clear c0 c1 c2 hlt4 hle hL
    go_enter Try.func54, Try.ntmps54
    go_wp2_with (
        go_at_call 77
        refine hN.mono ?_
        rintro e w1 ⟨A', cap', rfl, hr, hb⟩
        have hq : w.heap.size + 1 < w1.heap.size := Nat.lt_of_lt_of_le (hlt hm0) hb.size
        have hm1 : w1.heap[w.heap.size + 1]? = some (.cells #[.slice none 0 0, .bool false] 48) := (hb.block _ (hlt hm0)).trans hm0
        have hb1 : Below w.heap.size w w1 := hb0.trans (hb.mono hb0.size)
        have f4 : w1.cell? ⟨w.heap.size + 1, 0, none⟩ = some (.slice none 0 0) := by simp [World.cell?, hm1]
        have f5 : w1.cell? ⟨w.heap.size + 1, 1, none⟩ = some (.bool false) := by simp [World.cell?, hm1]
        have f6 : w1.frozen? ⟨w.heap.size + 1, 0, none⟩ = false := by simp [World.frozen?, hm1]
        have f7 : w1.frozen? ⟨w.heap.size + 1, 1, none⟩ = false := by simp [World.frozen?, hm1]
        clear hb hb0 hm0)
    go_region
    all_goals
      go_wp2
      refine bodyPost_ret (res_tmp_cell rfl _ _ (w.heap.size + 1) _ _ _ rfl ((Below.heap_alloc _ _ _ (by simpa using hq)).trans (two_set _ _ _ _ _ _ _ hm1))) rfl ?_
      exact ⟨A', cap', rfl, hr, (((hb1.setCell (by simp) _).setCell (by simp) _).alloc (by simp; omega) _).drew⟩

set_option maxRecDepth 100000 in
set_option maxHeartbeats 6400000 in
theorem textR2_any (A : Option Addr) (cap : Nat) (s : St) (w : World) (most : Int) (hm : -9223372036854775808 ≤ most ∧ most ≤ 9223372036854775807) (hL : left s ≤ 140737488355328) (h : RLies w A cap s) :
    Calls Try.prog 88 #[inv A cap s, .int .i64 most] w fun e w' => ∃ A' cap', e = .returned (.tuple #[.string ⟨(textN s most).1.toArray⟩, inv A' cap' (textN s most).2]) ∧ (∀ w0, RLies w0 A cap s → RLies w0 A' cap' (textN s most).2) ∧ Below w.heap.size w w' := by
  have hb0 : Below w.heap.size w ((w.alloc (.cells #[.slice A (left s) cap, .bool s.isNone] 48)).alloc (.cells #[.slice none 0 0, .bool false] 48)) := ((Below.refl _ _).alloc (Nat.le_refl _) _).alloc (by simp) _
  have hm0 : ((w.alloc (.cells #[.slice A (left s) cap, .bool s.isNone] 48)).alloc (.cells #[.slice none 0 0, .bool false] 48)).heap[w.heap.size + 1]? = some (.cells #[.slice none 0 0, .bool false] 48) := heap_alloc2_new _ _ _
  have f0 : ((w.alloc (.cells #[.slice A (left s) cap, .bool s.isNone] 48)).alloc (.cells #[.slice none 0 0, .bool false] 48)).cell? ⟨w.heap.size, 0, none⟩ = some (.slice A (left s) cap) := by simp [go_sem]
  have f1 : ((w.alloc (.cells #[.slice A (left s) cap, .bool s.isNone] 48)).alloc (.cells #[.slice none 0 0, .bool false] 48)).cell? ⟨w.heap.size, 1, none⟩ = some (.bool s.isNone) := by simp [go_sem]
  have hN := countR2_any A cap s _ most hm hL (h.below hb0 (Nat.le_refl _))
  unfold textN
  generalize countN s most = t at hN ⊢
  obtain ⟨v, s1⟩ := t
  simp only at hN ⊢
  have hM := fun A1 cap1 w h => bytesR_any A1 cap1 s1 w v h
  generalize takeN s1 v = t at hM ⊢
  obtain ⟨l, s2⟩ := t
  simp only [inv] at hN hM ⊢
  generalize hW : ((w.alloc (.cells #[.slice A (left s) cap, .bool s.isNone] 48)).alloc (.cells #[.slice none 0 0, .bool false] 48)) = W at hb0 hm0 hN f0 f1
  go_enter Try.func88, Try.ntmps88
  go_wp2_with (
      go_at_call 54
      refine hN.mono ?_
      rintro e w1 ⟨A', cap', rfl, hr, hb⟩
      have hq : w.heap.size + 1 < w1.heap.size := Nat.lt_of_lt_of_le (hlt hm0) hb.size
      have hm1 : w1.heap[w.heap.size + 1]? = some (.cells #[.slice none 0 0, .bool false] 48) := (hb.block _ (hlt hm0)).trans hm0
      have hb1 : Below w.heap.size w w1 := hb0.trans (hb.mono hb0.size)
      have f4 : w1.cell? ⟨w.heap.size + 1, 0, none⟩ = some (.slice none 0 0) := by simp [World.cell?, hm1]
      have f5 : w1.cell? ⟨w.heap.size + 1, 1, none⟩ = some (.bool false) := by simp [World.cell?, hm1]
      have f6 : w1.frozen? ⟨w.heap.size + 1, 0, none⟩ = false := by simp [World.frozen?, hm1]
      have f7 : w1.frozen? ⟨w.heap.size + 1, 1, none⟩ = false := by simp [World.frozen?, hm1]
      clear hb hb0 hm0)
  refine (hM A' cap' _ ((hr w h).below (hb1.alloc (by omega) _) (Nat.le_refl _))).mono ?_
  rintro e w2 ⟨B, bl, bc, A2, cap2, rfl, hlr, hb2⟩
  have hX : (w1.alloc (.cells #[.slice A' (left s1) cap', .bool s1.isNone] 48)).heap[w1.heap.size]? = some (.cells #[.slice A' (left s1) cap', .bool s1.isNone] 48) := heap_alloc_new _ _
  have hq2 : w2.heap[w1.heap.size]? = some (.cells #[.slice A' (left s1) cap', .bool s1.isNone] 48) := (hb2.block _ (hlt hX)).trans hX
  have hm2 : w2.heap[w.heap.size + 1]? = some (.cells #[.slice none 0 0, .bool false] 48) := (hb2.block _ (Nat.lt_trans hq (hlt hX))).trans ((Below.heap_alloc _ _ _ hq).trans hm1)
  have hbw2 : Below w.heap.size w w2 := (hb1.alloc (by omega) _).trans (hb2.mono (by simp; omega))
  have hrr : ∀ w0, RLies w0 A cap s → Lies w0 B bl bc l ∧ RLies w0 A2 cap2 s2 := fun w0 h0 => hlr w0 (hr w0 h0)
  have g0 : w2.cell? ⟨w1.heap.size, 0, none⟩ = some (.slice A' (left s1) cap') := by simp [World.cell?, hq2]
  have g1 : w2.cell? ⟨w1.heap.size, 1, none⟩ = some (.bool s1.isNone) := by simp [World.cell?, hq2]
  have g2 : w2.frozen? ⟨w1.heap.size, 0, none⟩ = false := by simp [World.frozen?, hq2]
  have g3 : w2.frozen? ⟨w1.heap.size, 1, none⟩ = false := by simp [World.frozen?, hq2]
  have hm3 : ((w2.setCell ⟨w1.heap.size, 0, none⟩ (.slice A2 (left s2) cap2)).setCell ⟨w1.heap.size, 1, none⟩ (.bool s2.isNone)).heap[w.heap.size + 1]? = some (.cells #[.slice none 0 0, .bool false] 48) := (Below.heap_setCell _ _ _ _ (by simp; omega)).trans ((Below.heap_setCell _ _ _ _ (by simp; omega)).trans hm2)
  have hq3 : ((w2.setCell ⟨w1.heap.size, 0, none⟩ (.slice A2 (left s2) cap2)).setCell ⟨w1.heap.size, 1, none⟩ (.bool s2.isNone)).heap[w1.heap.size]? = some (.cells #[.slice A2 (left s2) cap2, .bool s2.isNone] 48) := two_set _ _ _ _ _ _ _ hq2
  have hb3 : Below w.heap.size w ((w2.setCell ⟨w1.heap.size, 0, none⟩ (.slice A2 (left s2) cap2)).setCell ⟨w1.heap.size, 1, none⟩ (.bool s2.isNone)) := (hbw2.setCell (by simp; omega) _).setCell (by simp; omega) _
  clear hb2 hX hlr hr hM hN hm2 hq2 hbw2 hb1 hm1 f4 f5 f6 f7
  go_wp2
  generalize ((w2.setCell ⟨w1.heap.size, 0, none⟩ (.slice A2 (left s2) cap2)).setCell ⟨w1.heap.size, 1, none⟩ (.bool s2.isNone)) = X at hm3 hq3 hb3 ⊢
  generalize w1.heap.size = q at hq hq3 g0 g1 g2 g3 ⊢
  have f2 : X.cell? ⟨q, 0, none⟩ = some (.slice A2 (left s2) cap2) := by simp [World.cell?, hq3]
  have f3 : X.cell? ⟨q, 1, none⟩ = some (.bool s2.isNone) := by simp [World.cell?, hq3]
  have f4 : X.cell? ⟨w.heap.size + 1, 0, none⟩ = some (.slice none 0 0) := by simp [World.cell?, hm3]
  have f5 : X.cell? ⟨w.heap.size + 1, 1, none⟩ = some (.bool false) := by simp [World.cell?, hm3]
  have f6 : X.frozen? ⟨w.heap.size + 1, 0, none⟩ = false := by simp [World.frozen?, hm3]
  have f7 : X.frozen? ⟨w.heap.size + 1, 1, none⟩ = false := by simp [World.frozen?, hm3]
  have ht := ((hrr w h).1.below hb3.drew (Nat.le_refl _)).text Try.underlying23 Try.underlying5 Try.underlying9
  go_region
  all_goals
    go_wp2
    refine bodyPost_ret (res_tmp_cell rfl _ _ (w.heap.size + 1) _ _ _ rfl (two_set _ _ _ _ _ _ _ hm3)) rfl ?_
    exact ⟨A2, cap2, rfl, fun w0 h0 => (hrr w0 h0).2, ((hb3.setCell (by simp) _).setCell (by simp) _).drew⟩

end Go.Proofs.Ytlojjodgoeclfaa
