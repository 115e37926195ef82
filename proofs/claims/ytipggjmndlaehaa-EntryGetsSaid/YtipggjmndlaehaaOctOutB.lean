/- The calls of an Out, each by its contract. -/
import Derived.Test.YtipggjmndlaehaaOctOutA
import Derived.Deep.RegionLaw
import Derived.Deep.RegionWith
namespace Go.Proofs.Ytipggjmndlaehaa
open Go.RowKit
set_option linter.unusedVariables false
set_option linter.unusedSimpArgs false

theorem number_nil (v n : Int) (w : World) : Calls Try.prog 53 #[.pointer none, .int .u64 v, .int .i64 n] w fun e w' => e = .returned (.tuple #[]) ∧ w = w' := by
  go_enter Try.func53, Try.ntmps53
  go_wp2_with (go_at_call 63; refine (room_nil _ _).mono ?_; rintro e w1 ⟨rfl, rfl⟩)
  refine bodyPost_ret (results_none rfl _ _ _) rfl ?_
  exact ⟨rfl, rfl⟩

theorem byte_of (v : Int) (k : Nat) (h : 0 ≤ v) : v / 2 ^ (8 * k) % 256 = ((UInt8.ofNat (v.toNat / 256 ^ k)).toNat : Int) := by
  obtain ⟨n, rfl⟩ := Int.eq_ofNat_of_zero_le h
  have e : (2 : Nat) ^ (8 * k) = 256 ^ k := by rw [Nat.pow_mul]
  have e' : (2 : Int) ^ (8 * k) = ((256 ^ k : Nat) : Int) := by rw [← e]; simp
  rw [e']
  simp

theorem byte_of' (v : Int) (k : Nat) (h : 0 ≤ v) : IntKind.u8.wrap (v / 2 ^ (8 * (k : Int)).toNat) = ((UInt8.ofNat (v.toNat / 256 ^ k)).toNat : Int) := by
  rw [← byte_of v k h]
  have : (8 * (k : Int)).toNat = 8 * k := by omega
  rw [this]
  simp [IntKind.wrap, IntKind.bits, IntKind.signed]

set_option maxHeartbeats 6400000 in
theorem number_fits (v : Int) (n : Nat) (hv : 0 ≤ v ∧ v < 18446744073709551616) (hn : n ≤ 8) (w : World) (o : Nat) (s : Value) (l : List UInt8) (Z : Nat → Prop) (h : OutAt w o s l Z) (hZ : ∀ k, Z k → k < w.heap.size) (hf : l.length + n ≤ 60000) :
    Calls Try.prog 53 #[.pointer (some ⟨o, 0, none⟩), .int .u64 v, .int .i64 (n : Int)] w fun e w' => e = .returned (.tuple #[]) ∧ (∃ s', OutAt w' o s' (l ++ wide v.toNat n) Z) ∧ Keeps Z w w' := by
  obtain ⟨i0, hi0, hz0, hz1, hz2⟩ := info_parts info_u8
  have e1 : IntKind.i64.wrap ((n : Int) - 1) = (n : Int) - 1 := IntWalk.i64_in _ (by omega)
  have nb : (n : Int) ≤ 8 := by omega
  go_enter Try.func53, Try.ntmps53
  go_wp2_with (go_at_call 63; refine (room_fits n _ _ _ _ _ h hf).mono ?_; rintro e w1 ⟨rfl, rfl⟩)
  go_loopg [6] n (fun g x wr => ∃ (done : List UInt8) (s' : Value), x = .int .i64 ((g : Int) - 1) ∧ g ≤ n ∧ done ++ wide v.toNat g = wide v.toNat n ∧ OutAt wr o s' (l ++ done) Z ∧ Keeps Z w wr)
  case atStart => exact ⟨[], s, rfl, Nat.le_refl _, rfl, by simpa using h, Keeps.refl _ _⟩
  case round =>
    obtain ⟨done, s', rfl, hg, hd, ho, hk⟩ := hrel
    cases gk with
    | zero =>
      go_wp2
      refine bodyPost_end (results_none rfl _ _ _) rfl ?_
      rw [show done = wide v.toNat n by simpa [wide] using hd] at ho
      exact ⟨rfl, ⟨_, ho⟩, hk⟩
    | succ k =>
      rw [show ((k + 1 : Nat) : Int) - 1 = (k : Int) by omega]
      obtain ⟨A, cap, rfl, hlies⟩ := ho.shape
      have f0 : wr.cell? ⟨o, 0, none⟩ = some (.slice A (l ++ done).length cap) := by simp [World.cell?, ho.head]
      have e2 : IntKind.i64.wrap (8 * (k : Int)) = 8 * (k : Int) := IntWalk.i64_in _ (by omega)
      have kb : (k : Int) ≤ 7 := by omega
      have hlen : (l ++ done).length = l.length + done.length := List.length_append
      rw [hlen] at f0
      have hlo := ho.lt
      have z0 : wr.frozen? ⟨o, 0, none⟩ = false := by simp [World.frozen?, ho.head]
      have hZ0 : ∀ z : Int, OutAt (wr.alloc (.cells #[.int .u8 z] 5)).drew o (.slice A (l.length + done.length) cap) (l ++ done) Z := fun z => by
        have := (ho.keep (w' := (wr.alloc (.cells #[.int .u8 z] 5)).drew) (by simp) (fun i hi _ => Below.heap_alloc _ _ _ hi))
        rwa [hlen] at this
      have hk1 : ∀ z : Int, Keeps Z w (wr.alloc (.cells #[.int .u8 z] 5)).drew := fun z => (hk.trans (keeps_alloc wr (.cells #[.int .u8 z] 5))).drew
      have hl : (l ++ done).length + (k + 1) = l.length + n := by have := congrArg List.length hd; simp at this; simp; omega
      have hl1 : (l ++ done ++ [UInt8.ofNat (v.toNat / 256 ^ k)]).length ≤ 60000 := by rw [List.length_append]; simp only [List.length_singleton]; omega
      have hl2 : (l ++ done ++ [UInt8.ofNat (v.toNat / 256 ^ k)]).length ≤ 140737488355328 := by omega
      go_wp2
      go_region_law
        ((refine step_append_bytes _ (by rfl) _ _ 25 (by rfl) 5 i0 Try.underlying25 hi0 hz0 hz1 hz2 0 (Nat.zero_le _) (.slice A (l.length + done.length) cap) (l ++ done) (by rfl) (hZ0 _).row (some ⟨wr.heap.size, 0, none⟩) 1 1 [UInt8.ofNat (v.toNat / 256 ^ k)] (by rfl) (Lies.lit _ _ _ _ (byte_of' v k hv.1)).drew hl2 ?_
          intro v1 w1 hr hg hb
          obtain ⟨A1, cap1, rfl, c0, c1, hput1, hput2⟩ := (hZ0 _).puts (hk1 _) hZ [UInt8.ofNat (v.toNat / 256 ^ k)] hr hg hb hl1 (l.length + (done.length + 1)) (by simp)
          clear hr hg hb))
      all_goals
       go_wp2
       go_roundg k
       case measure => omega
       case rel =>
        refine ⟨done ++ [UInt8.ofNat (v.toNat / 256 ^ k)], _, by go_num, by omega, by rw [← hd, wide, List.append_assoc]; rfl, by rw [← List.append_assoc]; exact hput1, hput2⟩

theorem number_over (v : Int) (n : Nat) (w : World) (o : Nat) (s : Value) (l : List UInt8) (Z : Nat → Prop) (h : OutAt w o s l Z) (hf : 60000 < l.length + n) :
    Calls Try.prog 53 #[.pointer (some ⟨o, 0, none⟩), .int .u64 v, .int .i64 (n : Int)] w fun e w' => e = .returned (.tuple #[]) ∧ OutLong w' o Z ∧ Keeps Z w w' := by
  go_enter Try.func53, Try.ntmps53
  go_wp2_with (go_at_call 63; refine (room_over n _ _ _ _ _ h hf).mono ?_; rintro e w1 ⟨rfl, h1, h2⟩)
  refine bodyPost_ret (results_none rfl _ _ _) rfl ?_
  exact ⟨rfl, h1, h2⟩

theorem number_long (v n : Int) (w : World) (o : Nat) (Z : Nat → Prop) (h : OutLong w o Z) :
    Calls Try.prog 53 #[.pointer (some ⟨o, 0, none⟩), .int .u64 v, .int .i64 n] w fun e w' => e = .returned (.tuple #[]) ∧ w = w' := by
  go_enter Try.func53, Try.ntmps53
  go_wp2_with (go_at_call 63; refine (room_long n _ _ _ h).mono ?_; rintro e w1 ⟨rfl, rfl⟩)
  refine bodyPost_ret (results_none rfl _ _ _) rfl ?_
  exact ⟨rfl, rfl⟩

/-- A number is put. -/
theorem number_any (v : Int) (n : Nat) (hv : 0 ≤ v ∧ v < 18446744073709551616) (hn : n ≤ 8) (w : World) (o : Nat) (l : List UInt8) (Z : Nat → Prop) (h : Out w o l Z) (hZ : ∀ k, Z k → k < w.heap.size) :
    Calls Try.prog 53 #[.pointer (some ⟨o, 0, none⟩), .int .u64 v, .int .i64 (n : Int)] w fun e w' => e = .returned (.tuple #[]) ∧ Out w' o (l ++ wide v.toNat n) Z ∧ Keeps Z w w' := by
  rcases h with ⟨s, h⟩ | ⟨h0, h⟩
  · by_cases hf : l.length + n ≤ 60000
    · exact (number_fits v n hv hn w o s l Z h hZ hf).mono fun e w' ⟨h1, h2, h3⟩ => ⟨h1, .inl h2, h3⟩
    · exact (number_over v n w o s l Z h (by omega)).mono fun e w' ⟨h1, h2, h3⟩ => ⟨h1, .inr ⟨by simp; omega, h2⟩, h3⟩
  · refine (number_long v n w o Z h).mono ?_
    rintro e w' ⟨h1, rfl⟩
    exact ⟨h1, .inr ⟨by simp; omega, h⟩, Keeps.refl _ _⟩

/- Byte, Flag, Count, Num -/
theorem count_nil (n : Int) (w : World) : Calls Try.prog 62 #[.pointer none, .int .i64 n] w fun e w' => e = .returned (.tuple #[]) ∧ w = w' := by
  generalize hu : IntKind.u64.wrap n = u
  go_enter Try.func62, Try.ntmps62
  go_wp2_with (go_at_call 53; refine (number_nil _ _ _).mono ?_; rintro e w1 ⟨rfl, rfl⟩)
  refine bodyPost_end (results_none rfl _ _ _) rfl ?_
  exact ⟨rfl, rfl⟩

/-- A count is put modulo 2^32. -/
theorem count_any (n u : Int) (hu : IntKind.u64.wrap n = u) (w : World) (o : Nat) (l : List UInt8) (Z : Nat → Prop) (h : Out w o l Z) (hZ : ∀ k, Z k → k < w.heap.size) :
    Calls Try.prog 62 #[.pointer (some ⟨o, 0, none⟩), .int .i64 n] w fun e w' => e = .returned (.tuple #[]) ∧ Out w' o (l ++ wide u.toNat 4) Z ∧ Keeps Z w w' := by
  have hu' := hu
  rw [IntKind.wrap_u64] at hu'
  have hc := number_any u 4 (by omega) (by omega) w o l Z h hZ
  clear hu'
  go_enter Try.func62, Try.ntmps62
  go_wp2_with (go_at_call 53; refine hc.mono ?_; rintro e w1 ⟨rfl, h1, h2⟩)
  refine bodyPost_end (results_none rfl _ _ _) rfl ?_
  exact ⟨rfl, h1, h2⟩

theorem num_nil (n : Int) (w : World) : Calls Try.prog 41 #[.pointer none, .int .i64 n] w fun e w' => e = .returned (.tuple #[]) ∧ w = w' := by
  generalize hu : IntKind.u64.wrap n = u
  go_enter Try.func41, Try.ntmps41
  go_wp2_with (go_at_call 53; refine (number_nil _ _ _).mono ?_; rintro e w1 ⟨rfl, rfl⟩)
  refine bodyPost_end (results_none rfl _ _ _) rfl ?_
  exact ⟨rfl, rfl⟩

theorem num_any (n u : Int) (hu : IntKind.u64.wrap n = u) (w : World) (o : Nat) (l : List UInt8) (Z : Nat → Prop) (h : Out w o l Z) (hZ : ∀ k, Z k → k < w.heap.size) :
    Calls Try.prog 41 #[.pointer (some ⟨o, 0, none⟩), .int .i64 n] w fun e w' => e = .returned (.tuple #[]) ∧ Out w' o (l ++ wide u.toNat 8) Z ∧ Keeps Z w w' := by
  have hu' := hu
  rw [IntKind.wrap_u64] at hu'
  have hc := number_any u 8 (by omega) (by omega) w o l Z h hZ
  clear hu'
  go_enter Try.func41, Try.ntmps41
  go_wp2_with (go_at_call 53; refine hc.mono ?_; rintro e w1 ⟨rfl, h1, h2⟩)
  refine bodyPost_end (results_none rfl _ _ _) rfl ?_
  exact ⟨rfl, h1, h2⟩

end Go.Proofs.Ytipggjmndlaehaa
