/- The document's bytes of what is put, and what is put into an Out: each by its contract. -/
import Derived.Test.YtipggjmndlaehaaOctOutC
namespace Go.Proofs.Ytipggjmndlaehaa
open Go.RowKit
set_option linter.unusedVariables false
set_option linter.unusedSimpArgs false

theorem Owns.lit {T : TypeId} (w : World) (z : Int) (b : UInt8) (h : z = (b.toNat : Int)) : Owns T (w.alloc (.cells #[.int .u8 z] T)) w.heap.size (.slice (some ⟨w.heap.size, 0, none⟩) 1 1) [b] := by
  subst h
  exact World.ownsRow_lit w #[u8 b] 1 (Nat.le_refl _) (by unfold maxLen; omega) rfl

theorem set_wide (v n j : Nat) (hj : j < n) : (List.replicate (n - j) (0 : UInt8) ++ wide v j).set (n - 1 - j) (UInt8.ofNat (v / 256 ^ j)) = List.replicate (n - (j + 1)) 0 ++ wide v (j + 1) := by
  have e : n - j = (n - 1 - j) + 1 := by omega
  have e2 : n - (j + 1) = n - 1 - j := by omega
  rw [e, e2, List.replicate_succ', List.append_assoc, List.set_append_right _ _ (by simp)]
  simp [wide]

theorem Owns.putAt {T : TypeId} {w : World} {base g n cap : Nat} {l : List UInt8} (h : Owns T w base (.slice (some ⟨g, 0, none⟩) n cap) l) (hn : l.length = n) (j : Nat) (b : UInt8) :
    Owns T (w.setCell ⟨g, j, none⟩ (u8 b)) base (.slice (some ⟨g, 0, none⟩) n cap) (l.set j b) ∧ w.grownBy (w.setCell ⟨g, j, none⟩ (u8 b)) (some g) := by
  subst hn
  have := World.ownsRow.stored h j (u8 b)
  refine ⟨?_, this.2⟩
  unfold Owns
  rw [List.length_set]
  have e : cellsOf (l.set j b) = (cellsOf l).set j (u8 b) := by simp [cellsOf, List.map_set]
  rw [e]
  exact this.1

theorem quo_256 (x : Nat) (hv : x < 18446744073709551616) : IntKind.u64.wrap ((x : Int).tdiv 256) = (x : Int) / 256 := IntWalk.u64_quo _ _ (by omega)

set_option maxHeartbeats 6400000 in
theorem wideR_any (v : Nat) (hv : v < 18446744073709551616) (n : Nat) (hn : n ≤ 8) (w : World) :
    Calls Try.prog 55 #[.int .u64 (v : Int), .int .i64 (n : Int)] w fun e w' => ∃ A cap, e = .returned (.slice A n cap) ∧ Owns 5 w' w.heap.size (.slice A n cap) (wide v n) ∧ Below w.heap.size w w' := by
  obtain ⟨i0, hi0, hz0, hz1, hz2⟩ := info_parts info_u8
  have nb : (n : Int) ≤ 8 := by omega
  have e1 : IntKind.i64.wrap ((n : Int) - 1) = (n : Int) - 1 := IntWalk.i64_in _ (by omega)
  go_enter Try.func55, Try.ntmps55
  go_wp2_with (at_make; refine wpList_make_full _ rfl _ _ 25 rfl w.heap.size 5 i0 _ 1 Try.underlying25 hi0 hz0 hz1 _ _ _ _ n rfl rfl rfl rfl (by rw [hz2]; omega) (by unfold maxLen; omega) (Nat.le_refl _) ?_)
  intro w1 ho hg
  have hb1 := (Below.refl w.heap.size w).grown hg (Nat.le_refl _) (fun k e => by cases e)
  have ho1 : Owns 5 w1 w.heap.size (.slice (some ⟨w.heap.size, 0, none⟩) n n) (List.replicate n 0) := by
    unfold Owns
    have e : cellsOf (List.replicate n 0) = (madeCells #[.int .u8 0] n).toList := by rw [toList_madeCells_one]; simp [cellsOf]
    rw [e, List.length_replicate]
    simpa using ho
  clear ho hg
  go_wp2
  go_loopg [0, 6, 10] n (fun g x k z wr => ∃ j y : Nat, x = .int .u64 (y : Int) ∧ Hid (v / 256 ^ j = y) ∧ z = .int .i64 (j : Int) ∧ j + g = n ∧ Owns 5 wr w.heap.size (.slice (some ⟨w.heap.size, 0, none⟩) n n) (List.replicate (n - j) 0 ++ wide v j) ∧ Below w.heap.size w wr)
  case atStart => exact ⟨0, v, rfl, ⟨by simp⟩, rfl, by omega, by simpa [wide] using ho1, hb1⟩
  case round =>
    obtain ⟨j, y, rfl, hy, rfl, hj, ho, hb⟩ := hrel
    clear ho1 hb1
    by_cases hlt : j < n
    · have hlt' : (j : Int) < (n : Int) := by omega
      have hlen : (List.replicate (n - j) (0 : UInt8) ++ wide v j).length = n := by simp; omega
      have hcell := World.ownsRow.cellAt (h := by have := ho; unfold Owns at this; rw [hlen] at this; exact this) (n - 1 - j) (by omega)
      have hfr := World.ownsRow.frozenAt (h := by have := ho; unfold Owns at this; rw [hlen] at this; exact this) (n - 1 - j)
      have hset := ho.putAt hlen (n - 1 - j) (UInt8.ofNat (v / 256 ^ j))
      rw [set_wide v n j hlt, hy.out] at hset
      have hyv : y < 18446744073709551616 := Nat.lt_of_le_of_lt (hy.out ▸ Nat.div_le_self _ _) hv
      have hq := quo_256 y hyv
      have hy1 : Hid (v / 256 ^ (j + 1) = y / 256) := ⟨by rw [Nat.pow_succ, ← Nat.div_div_eq_div_mul, hy.out]⟩
      have hby : Hid ((y : Int) % 256 = ((UInt8.ofNat y).toNat : Int)) := ⟨by simp⟩
      have e2 : IntKind.i64.wrap ((n : Int) - 1 - (j : Int)) = ((n - 1 - j : Nat) : Int) := by rw [IntWalk.i64_in _ (by omega)]; omega
      have hc2 : (cellsOf (List.replicate (n - j) (0 : UInt8) ++ wide v j))[n - 1 - j]? = some (u8 ((List.replicate (n - j) (0 : UInt8) ++ wide v j)[n - 1 - j]'(by rw [hlen]; omega))) := by
        rw [List.getElem?_map, List.getElem?_eq_getElem (by rw [hlen]; omega)]
        rfl
      rw [hc2] at hcell
      generalize (List.replicate (n - j) (0 : UInt8) ++ wide v j)[n - 1 - j]'(by rw [hlen]; omega) = b at hcell
      clear hc2 ho
      go_wp2
      go_roundg (gk - 1)
      case measure => omega
      case rel =>
        refine ⟨j + 1, y / 256, by simp, hy1, by go_num, by omega, ?_, ?_⟩
        · rw [hby.out]; exact hset.1
        · rw [hby.out]; exact hb.grown hset.2 hb.size (fun k e => by injection e with e; omega)
    · obtain rfl : j = n := by omega
      have hdec : decide ((j : Int) < (j : Int)) = false := decide_eq_false (by omega)
      go_wp2
      go_ret
      exact ⟨_, _, rfl, by simpa using ho, hb⟩

/-- What an item's bytes are. -/
def itemOf (k n : Int) (s : ByteArray) : List UInt8 :=
  if k = 0 then [UInt8.ofNat (n % 256).toNat] else if k = 1 then [if n.tmod 2 = 0 then 0 else 1] else if k = 2 then wide (IntKind.u64.wrap n).toNat 4 else if k = 3 then wide (IntKind.u64.wrap n).toNat 8 else textOf s.data.toList

theorem u64_wrap (n : Int) : 0 ≤ IntKind.u64.wrap n ∧ IntKind.u64.wrap n < 18446744073709551616 := by rw [IntKind.wrap_u64]; omega
theorem u8_wrap (n : Int) : 0 ≤ IntKind.u8.wrap n ∧ IntKind.u8.wrap n < 256 := by simp [IntKind.wrap, IntKind.bits, IntKind.signed]; omega

theorem countR_any (n : Int) (u : Nat) (hu : IntKind.u64.wrap n = (u : Int)) (w : World) :
    Calls Try.prog 64 #[.int .i64 n] w fun e w' => ∃ A cap, e = .returned (.slice A 4 cap) ∧ Owns 5 w' w.heap.size (.slice A 4 cap) (wide u 4) ∧ Below w.heap.size w w' := by
  have hW := wideR_any u (by have := u64_wrap n; omega) 4 (by omega) w
  go_enter Try.func64, Try.ntmps64
  go_wp2_with (go_at_call 55; refine hW.mono ?_; rintro e w1 ⟨A, cap, rfl, ho, hb⟩)
  go_ret
  exact ⟨A, cap, rfl, ho, hb⟩

theorem numR_any (n : Int) (u : Nat) (hu : IntKind.u64.wrap n = (u : Int)) (w : World) :
    Calls Try.prog 44 #[.int .i64 n] w fun e w' => ∃ A cap, e = .returned (.slice A 8 cap) ∧ Owns 5 w' w.heap.size (.slice A 8 cap) (wide u 8) ∧ Below w.heap.size w w' := by
  have hW := wideR_any u (by have := u64_wrap n; omega) 8 (by omega) w
  go_enter Try.func44, Try.ntmps44
  go_wp2_with (go_at_call 55; refine hW.mono ?_; rintro e w1 ⟨A, cap, rfl, ho, hb⟩)
  go_ret
  exact ⟨A, cap, rfl, ho, hb⟩

theorem textR_any (s : ByteArray) (hs : s.size ≤ 50000) (w : World) :
    Calls Try.prog 54 #[.string s] w fun e w' => ∃ A cap, e = .returned (.slice A (4 + s.size) cap) ∧ Owns 5 w' w.heap.size (.slice A (4 + s.size) cap) (textOf s.data.toList) ∧ Below w.heap.size w w' := by
  obtain ⟨i0, hi0, hz0, hz1, hz2⟩ := info_parts info_u8
  have hC := countR_any (s.size : Int) s.size (IntWalk.u64_in _ (by omega)) w
  have hsz : s.data.toList.length = s.size := by simp
  have hto : wide s.size 4 ++ s.data.toList = textOf s.data.toList := by simp [textOf]
  have hle : (wide s.size 4 ++ s.data.toList).length = 4 + s.size := by simp
  go_enter Try.func54, Try.ntmps54
  go_wp2_with (first
    | (go_at_call 64; refine hC.mono ?_; rintro e w1 ⟨A, cap, rfl, ho, hb⟩)
    | (at_builtin; refine wpList_append_text _ rfl _ _ 25 9 rfl 5 i0 Try.underlying25 Try.underlying9 hi0 hz0 hz1 hz2 (.slice A 4 cap) (wide s.size 4) rfl (ho.rebase (fun k e => Nat.zero_le _)) s rfl (by omega) ?_))
  intro v1 w2 hr hg hbb
  rw [← hto] at hr
  have hlt := ho.lt
  have hsz1 := hb.size
  have hr2 : Owns 5 w2 w.heap.size v1 (wide s.size 4 ++ s.data.toList) := hr.rebase fun k e => by
    rcases hbb with h | h
    · exact (hlt k (h ▸ e)).1
    · rw [h] at e; injection e with e; omega
  have hb2 : Below w.heap.size w w2 := hb.grown hg hb.size fun k e => (hlt k e).1
  obtain ⟨A1, cap1, rfl, _⟩ := lies_of_owns hr2
  rw [hle] at hr2 ⊢
  rw [hto] at hr2
  clear hr hg hbb ho
  go_wp2
  go_ret
  exact ⟨_, _, rfl, hr2, hb2⟩

/-- '[]byte(s)'. -/
theorem conv_bytes (W : World) (s : ByteArray) : ∃ c W', (convert 9 25 (.string s)).run Try.prog W = .ok (.slice (some ⟨W.heap.size, 0, none⟩) s.size c) W' ∧ Lies W' (some ⟨W.heap.size, 0, none⟩) s.size c s.data.toList ∧ Below W.heap.size W W' ∧ W.heap.size < W'.heap.size := by
  refine ⟨_, _, run_bytes_of_string W _ _ _ s Try.underlying9 Try.underlying25 Try.underlying5, ⟨by simp, grownCap_ge _ _ _ _, (fun h => by cases h), fun _ => ⟨_, _, rfl, by simp, fun j hj => ?_⟩⟩, (Below.refl _ _).drew.alloc (Nat.le_refl _) _, by simp⟩
  have hj' : j < s.size := by simpa using hj
  have := World.cell?_alloc_mark W.drew (bytesRow s (grownCap W s.size 0 5)) 5 ((bytesRow s (grownCap W s.size 0 5)).size, (bytesRow s (grownCap W s.size 0 5)).size + 1) j
  rw [Nat.zero_add]
  refine this.trans ?_
  have hj2 : j < s.data.size := hj'
  simp only [bytesRow, Array.getElem?_append, Array.size_map, Array.getElem?_map]
  rw [if_pos hj2, Array.getElem?_eq_getElem hj2]
  rfl

/- The laws' own 'put' -/
abbrev item (k n : Int) (s : ByteArray) : Value := .agg #[.int .u8 k, .int .i64 n, .string s]

end Go.Proofs.Ytipggjmndlaehaa
