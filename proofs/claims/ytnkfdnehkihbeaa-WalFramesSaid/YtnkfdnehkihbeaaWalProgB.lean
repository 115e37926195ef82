/- first of the program, by its contract. -/
import Derived.Test.YtnkfdnehkihbeaaWalProgA
import Derived.Test.YtnkfdnehkihbeaaWalPure
import Derived.BigQuiet
import Derived.Lib.Hide
namespace Go.Proofs.Ytnkfdnehkihbeaa
open Go.RowKit
set_option linter.unusedVariables false
set_option linter.unusedSimpArgs false

theorem run_frontk {P : Program} {t e : TypeId} (ht : P.underlying t = some (.slice e)) (hz : ∀ w, (Go.sizeOf e).run P w = .ok 1 w) (kd : IntKind) (A : Option Addr) (len cap n : Nat) (hn : n ≤ cap) (W : World) :
    (Instr.slice t (.slice A len cap) none (some (.int kd (n : Int))) none).run P W = .ok (.slice A n cap) W := by
  have ht' : P.underlying t = some (.slice (P.elem t)) := by simp [Program.elem, ht]
  have he : P.elem t = e := by simp [Program.elem, ht]
  rw [run_slice_h W t _ _ _ ht' kd _ (by omega) (by omega), he, hz]
  cases A <;> simp [Result.andThen, sliced, Addr.add]

theorem run_mid {P : Program} {t e : TypeId} (ht : P.underlying t = some (.slice e)) (hz : ∀ w, (Go.sizeOf e).run P w = .ok 1 w) (A : Option Addr) (len cap a b : Nat) (h1 : a ≤ b) (h2 : b ≤ cap) (W : World) :
    (Instr.slice t (.slice A len cap) (some (.int .i64 (a : Int))) (some (.int .i64 (b : Int))) none).run P W = .ok (.slice (restAt A cap a) (b - a) (cap - a)) W := by
  have ht' : P.underlying t = some (.slice (P.elem t)) := by simp [Program.elem, ht]
  have he : P.elem t = e := by simp [Program.elem, ht]
  rw [run_slice_lh W t _ _ _ ht' .i64 .i64 _ _ (by omega) (by omega) (by omega), he, hz]
  cases A <;> simp [Result.andThen, sliced, restAt] <;> (split <;> simp_all)

theorem restAt_blk {A : Option Addr} {cap n : Nat} {a : Addr} (h : restAt A cap n = some a) : ∃ b, A = some b ∧ b.block = a.block := by
  unfold restAt at h
  split at h
  · exact ⟨a, h, rfl⟩
  · cases A with
    | none => cases h
    | some b =>
      injection h with h
      subst h
      refine ⟨b, rfl, ?_⟩
      unfold Addr.add
      split <;> rfl

/-- What first answers. -/
def Firsts (l : List UInt8) (A : Option Addr) (w : World) (e : Ending) : Prop :=
  (scan1 l = none ∧ e = .returned (.tuple #[.slice none 0 0, .bool false])) ∨
  ∃ r B c, scan1 l = some r ∧ e = .returned (.tuple #[.slice B r.length c, .bool true]) ∧ Lies w B r.length c r ∧ ∀ b, B = some b → ∃ a, A = some a ∧ a.block = b.block

theorem Firsts.no {l : List UInt8} {A : Option Addr} {w : World} (h : scan1 l = none) : Firsts l A w (.returned (.tuple #[.slice none 0 0, .bool false])) := .inl ⟨h, rfl⟩

set_option maxHeartbeats 2000000 in
theorem walFirst_any (A : Option Addr) (len cap : Nat) (l : List UInt8) (w : World) (hl : Lies w A len cap l) (hm : len ≤ 1000000000) :
    Calls Try.prog 29 #[.slice A len cap] w fun e w' => Firsts l A w' e ∧ Below w.heap.size w w' := by
  have hll := hl.1
  have hlc := hl.2.1
  by_cases h8 : len < 8
  · have HE := Lib.hid (scan1_little l (by omega))
    clear hl
    go_enter Try.func29, Try.ntmps29
    go_wp2
    refine bodyPost_ret (results_tmp2 rfl _ _ _) rfl ?_
    exact ⟨.no HE, by first | exact Below.refl _ _ | exact below_drewN (Below.refl _ _) _⟩
  · obtain ⟨m, hm8⟩ : ∃ m, len = 8 + m := ⟨len - 8, by omega⟩
    obtain ⟨c8, hc8⟩ : ∃ c, cap = 8 + c := ⟨cap - 8, by omega⟩
    obtain ⟨c4, hc4⟩ : ∃ c, cap = 4 + c := ⟨cap - 4, by omega⟩
    have hl4 := hl.take 4 (by omega)
    have hl8 := hl.drop 8 (by omega)
    have hl44 := (hl.drop 4 (by omega)).take 4 (by omega)
    have s1 := fun W => run_frontk (P := Try.prog) Try.underlying22 sizeOf_u8 .i64 A len cap 4 (by omega) W
    have s2 := fun W => run_rest (P := Try.prog) Try.underlying22 sizeOf_u8 A len cap 8 (by omega) (by omega) W
    have s3 := fun W => run_mid (P := Try.prog) Try.underlying22 sizeOf_u8 A len cap 4 8 (by omega) (by omega) W
    have hA8 : ∀ b, restAt A cap 8 = some b → ∃ a, A = some a ∧ a.block = b.block := fun b h => restAt_blk h
    rw [show len - 8 = m by omega, show cap - 8 = c8 by omega] at s2 hl8
    rw [show cap - 4 = c4 by omega] at s3 hl44
    have e84 : (8 : Nat) - 4 = 4 := rfl
    rw [e84] at s3
    generalize restAt A cap 8 = A8 at s2 hl8 hA8
    generalize restAt A cap 4 = A4 at s3 hl44
    change ∀ W, (Instr.slice 22 (.slice A len cap) none (some (.int .i64 4)) none).run Try.prog W = .ok (.slice A 4 cap) W at s1
    change ∀ W, (Instr.slice 22 (.slice A len cap) (some (.int .i64 8)) none none).run Try.prog W = .ok (.slice A8 m c8) W at s2
    change ∀ W, (Instr.slice 22 (.slice A len cap) (some (.int .i64 4)) (some (.int .i64 8)) none).run Try.prog W = .ok (.slice A4 4 c4) W at s3
    have hd8 : ((len : Int) < 8) = False := eq_false (by omega)
    have hN1 := fun nq => number_any A 4 _ _ (w.drewN nq) (hl4.below (below_drewN (Below.refl w.heap.size w) nq) (Nat.le_refl _)) (by omega)
    have hN2 := fun nq => number_any A4 4 _ _ (w.drewN nq) (hl44.below (below_drewN (Below.refl w.heap.size w) nq) (Nat.le_refl _)) (by omega)
    obtain ⟨n, hn⟩ : ∃ n, Hid (num (l.take 4) = n) := ⟨_, ⟨rfl⟩⟩
    rw [hn.out] at hN1
    have hnlt : n < 4294967296 := by
      have := num_lt (l.take 4)
      have e : (l.take 4).length = 4 := hl4.1
      rw [e, hn.out] at this
      exact this
    have hnlt' : (n : Int) < 4294967296 := by omega
    clear e84
    by_cases h6 : 60000 < n
    · have h6' : (60000 : Int) < (n : Int) := by omega
      have HE := Lib.hid (scan1_big l n hn.out (.inl h6))
      clear hl hl4 hl8 hl44 hA8 hn hN2 s3 hm8 hc8 hc4 h8 hll hlc hm hnlt h6
      go_enter Try.func29, Try.ntmps29
      go_wp2
      go_quiet (fail)
      go_wp2_with (first | (go_at_call 44; refine (hN1 _).mono ?_; rintro e w1 ⟨rfl, rfl⟩) | fail)
      refine bodyPost_ret (results_tmp2 rfl _ _ _) rfl ?_
      exact ⟨.no HE, by first | exact Below.refl _ _ | exact below_drewN (Below.refl _ _) _⟩
    · have h6' : ((60000 : Int) < (n : Int)) = False := eq_false (by omega)
      have hcv : IntKind.i64.wrap (n : Int) = (n : Int) := IntWalk.i64_in _ (by omega)
      by_cases h7 : m < n
      · have h7' : (m : Int) < (n : Int) := by omega
        have HE := Lib.hid (scan1_big l n hn.out (.inr (by omega)))
        clear hl hl4 hl8 hl44 hA8 hn hN2 s3 h6 hm8 hc8 hc4 h8 hll hlc hm hnlt h7
        go_enter Try.func29, Try.ntmps29
        go_wp2
        go_quiet (fail)
        go_wp2_with (first | (go_at_call 44; refine (hN1 _).mono ?_; rintro e w1 ⟨rfl, rfl⟩) | fail)
        refine bodyPost_ret (results_tmp2 rfl _ _ _) rfl ?_
        exact ⟨.no HE, by first | exact Below.refl _ _ | exact below_drewN (Below.refl _ _) _⟩
      · have h7' : ((m : Int) < (n : Int)) = False := eq_false (by omega)
        have s4 := fun W => run_frontk (P := Try.prog) Try.underlying22 sizeOf_u8 .u32 A8 m c8 n (by omega) W
        have hlr := hl8.take n (by omega)
        have hrl : ((l.drop 8).take n).length = n := hlr.1
        have hS := fun nq => seal_any A A8 4 cap n c8 _ _ (w.drewN nq) (hl4.below (below_drewN (Below.refl w.heap.size w) nq) (Nat.le_refl _)) (hlr.below (below_drewN (Below.refl w.heap.size w) nq) (Nat.le_refl _)) (by unfold maxLen; omega) (by unfold maxLen; omega)
        have HI := Lib.hid (scan1_is l n hn.out (by omega) (by omega))
        generalize num ((l.drop 4).take 4) = p at hN2 HI
        generalize moreN (moreN 0 (l.take 4)) ((l.drop 8).take n) = q at hS HI
        have hLR := Lib.hid hlr
        clear hl hl4 hl8 hl44 hn h6 h7 hlr hll hlc hm8 hc8 hc4 h8 hm hnlt
        have HA8 := Lib.hid hA8
        clear hA8
        have HRL := Lib.hid hrl
        clear hrl
        by_cases hpq : p = q
        · have HE := Lib.hid (show scan1 l = some _ by rw [HI, if_pos hpq])
          clear HI
          subst hpq
          go_enter Try.func29, Try.ntmps29
          go_wp2
          go_quiet (fail)
          go_wp2_with fail
          refine (hN1 _).mono ?_
          rintro e w1 ⟨rfl, rfl⟩
          go_wp2_with fail
          refine (hN2 _).mono ?_
          rintro e w1 ⟨rfl, rfl⟩
          go_wp2_with fail
          refine (hS _).mono ?_
          rintro e w1 ⟨rfl, rfl⟩
          go_wp2
          refine bodyPost_ret (results_tmp2 rfl _ _ _) rfl ?_
          refine ⟨.inr ⟨_, A8, c8, HE, (by rw [HRL]; rfl), (by rw [HRL]; exact hLR.below (below_drewN (Below.refl w.heap.size w) _) (Nat.le_refl _)), HA8⟩, below_drewN (Below.refl _ _) _⟩
        · have HE := Lib.hid (show scan1 l = none by rw [HI, if_neg hpq])
          have hne : ((p : Int) = (q : Int)) = False := eq_false (by omega)
          have hne2 : ((p : Int) != (q : Int)) = true := by simp [hne]
          clear HI hpq
          go_enter Try.func29, Try.ntmps29
          go_wp2
          go_quiet (fail)
          go_wp2_with fail
          refine (hN1 _).mono ?_
          rintro e w1 ⟨rfl, rfl⟩
          go_wp2_with fail
          refine (hN2 _).mono ?_
          rintro e w1 ⟨rfl, rfl⟩
          go_wp2_with fail
          refine (hS _).mono ?_
          rintro e w1 ⟨rfl, rfl⟩
          go_wp2
          refine bodyPost_ret (results_tmp2 rfl _ _ _) rfl ?_
          exact ⟨.no HE, below_drewN (Below.refl _ _) _⟩

end Go.Proofs.Ytnkfdnehkihbeaa
