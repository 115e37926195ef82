/- The acts that a law is called with; whether they are few. -/
import Derived.Test.YtkgkllhocmedoaaDskOps
import Derived.ChangeMaps5
namespace Go.Proofs.Ytkgkllhocmedoaa
open Go.ChangeShapes Go.WideShapes Go.ChangeAt Go.RowKit Go.Deep
set_option linter.unusedVariables false
set_option linter.unusedSimpArgs false

/-- A slice of acts. -/
def ActsIn (w : World) (A : Option Addr) (len : Nat) (a : Nat → Act) : Prop :=
  (∀ j, j < len → ActIn w (· < w.heap.size) (a j) ∧ (a j).name.size ≤ maxLen ∧ (a j).to_.size ≤ maxLen ∧ (a j).klen ≤ maxLen) ∧
  (0 < len → ∃ b off, A = some ⟨b, off, none⟩ ∧ b < w.heap.size ∧ ∀ j, j < len →
    w.cell? ⟨b, off + j * 6, none⟩ = some (.int .u8 ((a j).kind : Int)) ∧ w.cell? ⟨b, off + j * 6 + 1, none⟩ = some (.string (a j).name) ∧ w.cell? ⟨b, off + j * 6 + 2, none⟩ = some (.string (a j).to_) ∧
    w.cell? ⟨b, off + j * 6 + 3, none⟩ = some (.slice (a j).bA (a j).bL.length (a j).bcap) ∧ w.cell? ⟨b, off + j * 6 + 4, none⟩ = some (.int .i64 (a j).n) ∧ w.cell? ⟨b, off + j * 6 + 5, none⟩ = some (.slice (a j).kA (a j).klen (a j).kcap))

section
variable {H : Type} {enc : TypeId × Value → H} {W : World} {sp : Nat → Bool} {hd : Bool}

def noAct : Act := ⟨0, ByteArray.empty, ByteArray.empty, none, 0, [], 0, none, 0, 0, fun _ => 0⟩

set_option maxRecDepth 100000 in
theorem arg_acts {base : Nat} {v : Value} {d : DataW H} {p : List MemPlace}
    (hok : Value.okWide Try.prog W .any base 22 v) (h : DataW.Trod enc Try.prog W 0 sp hd 22 v d p) (hlt : ∀ x ∈ p, x.block < W.heap.size) :
    ∃ (A : Option Addr) (len cap : Nat) (a : Nat → Act), v = .slice A len cap ∧ len ≤ cap ∧ cap ≤ maxLen ∧ ActsIn W A len a := by
  obtain ⟨A, len, cap, n, Cs, D, rfl, hl, hm, hrow, hel⟩ := arg_slice_in Try.underlying22 (show Try.prog.cellsOf 37 = 6 by kernel_rfl) (by omega) hok h hlt
  obtain ⟨R, hR⟩ := Classical.axiomOfChoice (r := fun j (r : Act) => j < len → Cs j = [.int .u8 (r.kind : Int), .string r.name, .string r.to_, .slice r.bA r.bL.length r.bcap, .int .i64 r.n, .slice r.kA r.klen r.kcap] ∧
      ActIn W (· < W.heap.size) r ∧ r.name.size ≤ maxLen ∧ r.to_.size ≤ maxLen ∧ r.klen ≤ maxLen) (fun j => by
    by_cases hj : j < len
    · obtain ⟨hlen, pl, hd, hpl⟩ := hel j hj
      obtain ⟨m, hf⟩ := arg_fields_in (W := W) Try.underlying37 (by kernel_rfl) (by rw [hlen]; rfl) hd hpl
      obtain ⟨v0, y0, g0, t0, _⟩ := hf 0 _ rfl
      obtain ⟨v1, y1, g1, t1, _⟩ := hf 1 _ rfl
      obtain ⟨v2, y2, g2, t2, _⟩ := hf 2 _ rfl
      obtain ⟨v3, y3, g3, t3, l3⟩ := hf 3 _ rfl
      obtain ⟨v4, y4, g4, t4, _⟩ := hf 4 _ rfl
      obtain ⟨v5, y5, g5, t5, l5⟩ := hf 5 _ rfl
      obtain ⟨k, e0, _, hk⟩ := DataW.trod_int Try.underlying5 t0
      obtain ⟨s1, e1, _, hs1⟩ := DataW.trod_string Try.underlying9 t1
      obtain ⟨s2, e2, _, hs2⟩ := DataW.trod_string Try.underlying9 t2
      obtain ⟨bA, blen, bcap, bL, e3, hbc, hbl, hbz⟩ := in_bytes Try.underlying34 Try.underlying5 (by kernel_rfl) t3 l3
      obtain ⟨nn, e4, _, hn⟩ := DataW.trod_int Try.underlying3 t4
      obtain ⟨kA, klen, kcap, kY, e5, hkl, hkc, _, hkr, hkw⟩ := in_ints Try.underlying35 Try.underlying3 (by kernel_rfl) t5 l5
      have hk2 := wf_u8' hk
      have hn2 := wf_i64' hn
      obtain ⟨kn, rfl⟩ := Int.eq_ofNat_of_zero_le hk2.1
      obtain rfl : bL.length = blen := hbl.1
      refine ⟨⟨kn, s1, s2, bA, bcap, bL, nn, kA, klen, kcap, kY⟩, fun _ => ⟨?_, ⟨hbl, hbz, ⟨fun j hj => wf_i64' (hkw j hj), hkr⟩, fun h0 x e => ?_, hn2, by dsimp only; omega, hbc, hkl⟩, hs1, hs2, Nat.le_trans hkl hkc⟩⟩
      · have e0' : v0 = .int .u8 (kn : Int) := by injection e0
        have e1' : v1 = .string s1 := by injection e1
        have e2' : v2 = .string s2 := by injection e2
        have e4' : v4 = .int .i64 nn := by injection e4
        subst e0' e1' e2' e3 e4' e5
        match Cs j, hlen, g0, g1, g2, g3, g4, g5 with
        | [a, b', c', d', f', g'], _, g0, g1, g2, g3, g4, g5 =>
          injection g0 with g0; injection g1 with g1; injection g2 with g2; injection g3 with g3; injection g4 with g4; injection g5 with g5
          subst g0 g1 g2 g3 g4 g5
          rfl
      · obtain ⟨b, off, e6, hb, _⟩ := hkr h0
        dsimp only at e
        rw [e6] at e
        injection e with e
        subst e
        exact hb
    · exact ⟨noAct, fun h => absurd h hj⟩)
  refine ⟨A, len, cap, R, rfl, hl, hm, fun j hj => (hR j hj).2, fun hpos => ?_⟩
  obtain ⟨b, off, hA, hb, hc⟩ := hrow hpos
  refine ⟨b, off, hA, hb, fun j hj => ⟨?_, ?_, ?_, ?_, ?_, ?_⟩⟩
  · have := hc j hj 0 (.int .u8 ((R j).kind : Int)) (by rw [(hR j hj).1]; rfl)
    rwa [Nat.add_zero] at this
  · exact hc j hj 1 _ (by rw [(hR j hj).1]; rfl)
  · exact hc j hj 2 _ (by rw [(hR j hj).1]; rfl)
  · exact hc j hj 3 _ (by rw [(hR j hj).1]; rfl)
  · exact hc j hj 4 _ (by rw [(hR j hj).1]; rfl)
  · exact hc j hj 5 _ (by rw [(hR j hj).1]; rfl)
end

theorem ActsIn.below {w w' : World} {A : Option Addr} {len : Nat} {a : Nat → Act} (h : ActsIn w A len a) (hb : Below w.heap.size w w') : ActsIn w' A len a := by
  refine ⟨fun j hj => ?_, fun h0 => ?_⟩
  · obtain ⟨h1, h2⟩ := h.1 j hj
    exact ⟨(h1.keeps (keeps_below hb (Nat.le_refl _))).mono fun k hk => Nat.lt_of_lt_of_le hk hb.size, h2⟩
  · obtain ⟨b, off, e, hg, hc⟩ := h.2 h0
    refine ⟨b, off, e, Nat.lt_of_lt_of_le hg hb.size, fun j hj => ?_⟩
    have hx : ∀ o, w'.cell? ⟨b, o, none⟩ = w.cell? ⟨b, o, none⟩ := fun o => hb.cell (p := ⟨b, o, none⟩) hg
    simp only [hx]
    exact hc j hj

/-- A fit act. -/
def fitB (a : Act) : Bool := decide (a.bL.length ≤ 300) && (decide (a.klen ≤ 20) && (decide (a.name.size ≤ 20) && decide (a.to_.size ≤ 20)))
def fewB (a : Nat → Act) (len most : Nat) : Bool := decide (len ≤ most) && (List.range len).all fun j => fitB (a j)

theorem few_fit {a : Nat → Act} {len most : Nat} (h : fewB a len most = true) : len ≤ most ∧ ∀ j, j < len → (a j).bL.length ≤ 300 ∧ (a j).klen ≤ 20 ∧ (a j).name.size ≤ 20 ∧ (a j).to_.size ≤ 20 := by
  simp only [fewB, Bool.and_eq_true, decide_eq_true_eq, List.all_eq_true, List.mem_range, fitB] at h
  exact ⟨h.1, h.2⟩

theorem few_no {a : Nat → Act} {len most k : Nat} (hk : k < len) (h : most ≤ k ∨ fitB (a k) = false) : fewB a len most = false := by
  cases hq : fewB a len most with
  | false => rfl
  | true =>
    simp only [fewB, Bool.and_eq_true, decide_eq_true_eq, List.all_eq_true, List.mem_range] at hq
    rcases h with h | h
    · omega
    · rw [hq.2 k hk] at h; cases h

set_option maxRecDepth 100000 in
set_option maxHeartbeats 1000000 in
theorem few_any (A : Option Addr) (len cap : Nat) (a : Nat → Act) (most : Nat) (w : World) (h : ActsIn w A len a) (hm : len ≤ maxLen) (hmost : most ≤ 1000) :
    Calls Try.prog 9 #[.slice A len cap, .int .i64 (most : Int)] w fun e w' => e = .returned (.bool (fewB a len most)) ∧ w = w' := by
  unfold maxLen at hm
  have hm' : (len : Int) ≤ 9223372036854775807 := by omega
  have HB : Hid (∀ k, k < len → most ≤ k ∨ fitB (a k) = false → fewB a len most = false) := ⟨fun k hk h => few_no hk h⟩
  have HY : Hid ((∀ j, j < len → j < most ∧ fitB (a j) = true) → fewB a len most = true) := ⟨fun hall => by
    simp only [fewB, Bool.and_eq_true, decide_eq_true_eq, List.all_eq_true, List.mem_range]
    refine ⟨?_, fun j hj => (hall j hj).2⟩
    rcases Nat.lt_or_ge most len with hl | hl
    · have := (hall most hl).1; omega
    · exact hl⟩
  obtain ⟨F, hF⟩ : ∃ F, fewB a len most = F := ⟨_, rfl⟩
  rw [hF] at HB HY ⊢
  clear hF
  go_enter Try.func9, Try.ntmps9
  go_wp2
  go_loop [8] (fun i => ∃ k : Nat, k ≤ len ∧ i = .int .i64 (k : Int) ∧ Hid (∀ j, j < k → j < most ∧ fitB (a j) = true)) (fun i => len - (intOf i).toNat)
  case atStart => exact ⟨0, Nat.zero_le _, rfl, ⟨fun j h => absurd h (by omega)⟩⟩
  case round =>
    obtain ⟨k, hk, rfl, HK⟩ := hrel
    by_cases hlt : k < len
    · have hlt' : (k : Int) < (len : Int) := by omega
      obtain ⟨b, off, rfl, hb, hc⟩ := h.2 (by omega)
      obtain ⟨_, c1, c2, c3, _, c5⟩ := hc k hlt
      obtain ⟨_, hn1, hn2, hn3⟩ := h.1 k hlt
      unfold maxLen at hn1 hn2 hn3
      have HN := Lib.hid (HB.out k hlt)
      have HF : Hid (fitB (a k) = (decide ((a k).bL.length ≤ 300) && (decide ((a k).klen ≤ 20) && (decide ((a k).name.size ≤ 20) && decide ((a k).to_.size ≤ 20))))) := ⟨rfl⟩
      have HS : Hid (k < most → fitB (a k) = true → ∀ j, j < k + 1 → j < most ∧ fitB (a j) = true) := ⟨fun h1 h2 j hj => by
        rcases Nat.lt_or_ge j k with h' | h'
        · exact HK.out j h'
        · obtain rfl : j = k := by omega
          exact ⟨h1, h2⟩⟩
      clear hc h HB HY HK
      generalize hfit : fitB (a k) = ft at HN HF
      have HFT := Lib.hid hfit
      clear hfit
      generalize a k = x at c1 c2 c3 c5 hn1 hn2 hn3 HF
      obtain ⟨kind, name, to_, bA, bcap, bL, n, kA, klen, kcap, kY⟩ := x
      dsimp only at *
      generalize bL.length = blen at *
      by_cases k1 : most ≤ k
      · have k1' : (most : Int) ≤ (k : Int) := by omega
        have HE := Lib.hid (HN.out (.inl k1))
        go_wp2
        go_ret
        exact ⟨by rw [HE.out]; rfl, rfl⟩
      · have k1' : ¬ ((most : Int) ≤ (k : Int)) := by omega
        by_cases k2 : 300 < blen
        · have k2' : (300 : Int) < (blen : Int) := by omega
          have HE := Lib.hid (HN.out (.inr (by rw [HF.out]; simp; omega)))
          go_wp2
          go_ret
          exact ⟨by rw [HE.out]; rfl, rfl⟩
        · have k2' : ¬ ((300 : Int) < (blen : Int)) := by omega
          by_cases k3 : 20 < klen
          · have k3' : (20 : Int) < (klen : Int) := by omega
            have HE := Lib.hid (HN.out (.inr (by rw [HF.out]; simp; omega)))
            go_wp2
            go_ret
            exact ⟨by rw [HE.out]; rfl, rfl⟩
          · have k3' : ¬ ((20 : Int) < (klen : Int)) := by omega
            by_cases k4 : 20 < name.size
            · have k4' : (20 : Int) < (name.size : Int) := by omega
              have HE := Lib.hid (HN.out (.inr (by rw [HF.out]; simp; omega)))
              go_wp2
              go_ret
              exact ⟨by rw [HE.out]; rfl, rfl⟩
            · have k4' : ¬ ((20 : Int) < (name.size : Int)) := by omega
              by_cases k5 : 20 < to_.size
              · have k5' : (20 : Int) < (to_.size : Int) := by omega
                have HE := Lib.hid (HN.out (.inr (by rw [HF.out]; simp; omega)))
                go_wp2
                go_ret
                exact ⟨by rw [HE.out]; rfl, rfl⟩
              · have k5' : ¬ ((20 : Int) < (to_.size : Int)) := by omega
                have HG := Lib.hid (HS.out (by omega) (by rw [HFT.out, HF.out]; simp; omega))
                go_wp2
                go_round
                case rel => exact ⟨k + 1, by omega, by go_num, ⟨HG.out⟩⟩
                case measure => simp [intOf]; omega
    · obtain rfl : k = len := by omega
      have HE := Lib.hid (HY.out HK.out)
      clear h
      go_wp2
      go_ret
      exact ⟨by rw [HE.out]; rfl, rfl⟩

end Go.Proofs.Ytkgkllhocmedoaa
