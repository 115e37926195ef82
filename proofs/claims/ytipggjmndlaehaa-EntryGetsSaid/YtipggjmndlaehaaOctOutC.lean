/- The calls Text, Bytes and End of an Out, each by its contract. -/
import Derived.Test.YtipggjmndlaehaaOctOutB
namespace Go.Proofs.Ytipggjmndlaehaa
open Go.RowKit
set_option linter.unusedVariables false
set_option linter.unusedSimpArgs false

/-- A text's bytes. -/
def textOf (l : List UInt8) : List UInt8 := wide l.length 4 ++ l

theorem bytes_nil (A : Option Addr) (len cap : Nat) (w : World) : Calls Try.prog 52 #[.pointer none, .slice A len cap] w fun e w' => e = .returned (.tuple #[]) ∧ w = w' := by
  go_enter Try.func52, Try.ntmps52
  go_wp2_with (first
    | (go_at_call 62; refine (count_nil _ _).mono ?_; rintro e w1 ⟨rfl, rfl⟩)
    | (go_at_call 63; refine (room_nil _ _).mono ?_; rintro e w1 ⟨rfl, rfl⟩))
  refine bodyPost_end (results_none rfl _ _ _) rfl ?_
  exact ⟨rfl, rfl⟩

/-- Bytes that lie where the Out keeps what is there. -/
theorem bytes_any (A0 : Option Addr) (len0 cap0 : Nat) (s : List UInt8) (hs : len0 ≤ 1099511627776) (w : World) (o : Nat) (l : List UInt8) (Z : Nat → Prop) (h : Out w o l Z) (hZ : ∀ k, Z k → k < w.heap.size)
    (hx : Lies w A0 len0 cap0 s) (hxz : 0 < len0 → ∀ g off, A0 = some ⟨g, off, none⟩ → Z g) :
    Calls Try.prog 52 #[.pointer (some ⟨o, 0, none⟩), .slice A0 len0 cap0] w fun e w' => e = .returned (.tuple #[]) ∧ Out w' o (l ++ textOf s) Z ∧ Keeps Z w w' := by
  obtain ⟨i0, hi0, hz0, hz1, hz2⟩ := info_parts info_u8
  have hC := count_any (len0 : Int) (len0 : Int) (IntWalk.u64_in _ (by omega)) w o l Z h hZ
  have hsz : s.length = len0 := hx.1
  have hto : l ++ wide (len0 : Int).toNat 4 ++ s = l ++ textOf s := by simp [textOf, hsz]
  go_enter Try.func52, Try.ntmps52
  go_wp2_with (go_at_call 62; refine hC.mono ?_; rintro e w1 ⟨rfl, h1, k1⟩)
  replace hx := hx.keeps k1 hxz
  generalize hL : l ++ wide (len0 : Int).toNat 4 = L at h1 hto
  rcases h1 with ⟨v, h1⟩ | ⟨h0, h1⟩
  · by_cases hf : L.length + len0 ≤ 60000
    · obtain ⟨A, cap, rfl, hlies⟩ := h1.shape
      have f0 : w1.cell? ⟨o, 0, none⟩ = some (.slice A L.length cap) := by simp [World.cell?, h1.head]
      have hl1 : (L ++ s).length ≤ 60000 := by rw [List.length_append, hsz]; exact hf
      go_wp2_with (first
        | (go_at_call 63; refine (room_fits len0 _ _ _ _ _ h1 hf).mono ?_; rintro e w2 ⟨rfl, rfl⟩)
        | (at_builtin; refine wpList_append_bytes _ rfl _ _ 25 rfl 5 i0 Try.underlying25 hi0 hz0 hz1 hz2 0 (Nat.zero_le _) (.slice A L.length cap) L rfl h1.row A0 len0 cap0 s rfl hx (by omega) ?_))
      intro v1 w2 hr hg hb
      rw [← hto] at hr
      obtain ⟨A1, cap1, rfl, c0, c1, hput1, hput2⟩ := h1.puts k1 hZ s hr hg hb hl1 (L.length + len0) (by rw [List.length_append, hsz])
      clear hr hg hb f0 hlies
      go_wp2
      refine bodyPost_end (results_none rfl _ _ _) rfl ?_
      rw [hto] at hput1
      exact ⟨rfl, .inl ⟨_, hput1⟩, hput2⟩
    · go_wp2_with (go_at_call 63; refine (room_over len0 _ _ _ _ _ h1 (by omega)).mono ?_; rintro e w2 ⟨rfl, h2, k2⟩)
      refine bodyPost_end (results_none rfl _ _ _) rfl ?_
      exact ⟨rfl, .inr ⟨by rw [← hto, List.length_append]; omega, h2⟩, k1.trans k2⟩
  · go_wp2_with (go_at_call 63; refine (room_long _ _ _ _ h1).mono ?_; rintro e w2 ⟨rfl, rfl⟩)
    refine bodyPost_end (results_none rfl _ _ _) rfl ?_
    exact ⟨rfl, .inr ⟨by rw [← hto, List.length_append]; omega, h1⟩, k1⟩

theorem end_nil (w : World) : Calls Try.prog 20 #[.pointer none] w fun e w' => e = .returned (.tuple #[.slice none 0 0, .int .i64 1]) ∧ w = w' := by
  go_enter Try.func20, Try.ntmps20
  go_wp2
  go_ret2
  exact ⟨rfl, rfl⟩

theorem end_long (w : World) (o : Nat) (l : List UInt8) (Z : Nat → Prop) (h : Out w o l Z) (hl : 60000 < l.length) : Calls Try.prog 20 #[.pointer (some ⟨o, 0, none⟩)] w fun e w' => e = .returned (.tuple #[.slice none 0 0, .int .i64 3]) ∧ w = w' := by
  rcases h with ⟨v, h⟩ | ⟨h0, h⟩
  · exact absurd h.fits (by omega)
  · have f1 : w.cell? ⟨o, 1, none⟩ = some (.bool true) := by simp [World.cell?, h.head]
    go_enter Try.func20, Try.ntmps20
    go_wp2
    go_ret2
    exact ⟨rfl, rfl⟩

/-- All so far, in memory of its own. -/
theorem end_fits (w : World) (o : Nat) (l : List UInt8) (Z : Nat → Prop) (h : Out w o l Z) (hl : l.length ≤ 60000) :
    Calls Try.prog 20 #[.pointer (some ⟨o, 0, none⟩)] w fun e w' => ∃ A cap, e = .returned (.tuple #[.slice A l.length cap, .int .i64 0]) ∧ Lies w' A l.length cap l ∧ Owns 5 w' w.heap.size (.slice A l.length cap) l ∧ Below w.heap.size w w' := by
  rcases h with ⟨v, h⟩ | ⟨h0, h⟩
  · obtain ⟨A, cap, rfl, hlies⟩ := h.shape
    have f0 : w.cell? ⟨o, 0, none⟩ = some (.slice A l.length cap) := by simp [World.cell?, h.head]
    have f1 : w.cell? ⟨o, 1, none⟩ = some (.bool false) := by simp [World.cell?, h.head]
    have hC := clone_any A l.length cap l w hlies (by omega)
    clear hlies h
    go_enter Try.func20, Try.ntmps20
    go_wp2_with (go_at_call 42; refine hC.mono ?_; rintro e w1 ⟨v1, rfl, ho, hb⟩)
    go_ret2
    obtain ⟨A1, cap1, rfl, hl1, _⟩ := lies_of_owns ho
    exact ⟨A1, cap1, rfl, hl1, ho, hb⟩
  · omega

end Go.Proofs.Ytipggjmndlaehaa
