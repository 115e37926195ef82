/- Arguments of the laws: items, things to be taken, bytes. -/
import Derived.Test.YtjmcbnoofonanaaArgs
import Derived.Test.YtjmcbnoofonanaaOctRefA
import Derived.WalkLawsBesides
import Derived.ChangeMaps5
namespace Go.Proofs.Ytjmcbnoofonanaa
open Go.ChangeShapes Go.WideShapes Go.ChangeAt Go.RowKit Go.Deep
set_option linter.unusedVariables false

def Items (w : World) (A : Option Addr) (len : Nat) (K N : Nat → Int) (S : Nat → ByteArray) : Prop :=
  (∀ j, j < len → (S j).size ≤ maxLen ∧ -9223372036854775808 ≤ N j ∧ N j ≤ 9223372036854775807 ∧ 0 ≤ K j ∧ K j < 256) ∧
  (0 < len → ∃ b off, A = some ⟨b, off, none⟩ ∧ b < w.heap.size ∧ ∀ j, j < len → w.cell? ⟨b, off + j * 3, none⟩ = some (.int .u8 (K j)) ∧ w.cell? ⟨b, off + j * 3 + 1, none⟩ = some (.int .i64 (N j)) ∧ w.cell? ⟨b, off + j * 3 + 2, none⟩ = some (.string (S j)))

theorem wf_i64' {n : Int} (h : (Lit.int .i64 n).wf = true) : -9223372036854775808 ≤ n ∧ n ≤ 9223372036854775807 := by
  simpa [Lit.wf, IntKind.min, IntKind.max, IntKind.bits, IntKind.signed] using h

theorem wf_u8' {n : Int} (h : (Lit.int .u8 n).wf = true) : 0 ≤ n ∧ n < 256 := by
  have : 0 ≤ n ∧ n ≤ 255 := by simpa [Lit.wf, IntKind.min, IntKind.max, IntKind.bits, IntKind.signed] using h
  omega

section
variable {H : Type} {enc : TypeId × Value → H} {W : World} {sp : Nat → Bool} {hd : Bool}

theorem arg_items {base : Nat} {v : Value} {d : DataW H} {p : List MemPlace}
    (hok : Value.okWide Try.prog W .any base 22 v) (h : DataW.Trod enc Try.prog W 0 sp hd 22 v d p) (hlt : ∀ x ∈ p, x.block < W.heap.size) :
    ∃ (A : Option Addr) (len cap : Nat) (K N : Nat → Int) (S : Nat → ByteArray), v = .slice A len cap ∧ len ≤ cap ∧ cap ≤ maxLen ∧ Items W A len K N S := by
  obtain ⟨A, len, cap, n, Cs, D, rfl, hl, hm, _, hrow, hel⟩ := arg_slice Try.underlying22 (show Try.prog.cellsOf 28 = 3 by kernel_rfl) (by omega) hok h hlt
  obtain ⟨R, hR⟩ := Classical.axiomOfChoice (r := fun j (r : (Int × Int) × ByteArray) => j < len → Cs j = [.int .u8 r.1.1, .int .i64 r.1.2, .string r.2] ∧ r.2.size ≤ maxLen ∧ -9223372036854775808 ≤ r.1.2 ∧ r.1.2 ≤ 9223372036854775807 ∧ 0 ≤ r.1.1 ∧ r.1.1 < 256) (fun j => by
    by_cases hj : j < len
    · obtain ⟨hlen, pl, hd⟩ := hel j hj
      obtain ⟨m, hf⟩ := arg_fields Try.underlying28 (by kernel_rfl) (by rw [hlen]; rfl) hd
      obtain ⟨v0, y0, g0, t0⟩ := hf 0 _ rfl
      obtain ⟨v1, y1, g1, t1⟩ := hf 1 _ rfl
      obtain ⟨v2, y2, g2, t2⟩ := hf 2 _ rfl
      obtain ⟨k, e0, _, hk⟩ := DataW.trod_int Try.underlying5 t0
      obtain ⟨n, e1, _, hn⟩ := DataW.trod_int Try.underlying2 t1
      obtain ⟨s, e2, _, hs⟩ := DataW.trod_string Try.underlying9 t2
      refine ⟨⟨⟨k, n⟩, s⟩, fun _ => ⟨?_, hs, (wf_i64' hn).1, (wf_i64' hn).2, (wf_u8' hk).1, (wf_u8' hk).2⟩⟩
      have e0' : v0 = .int .u8 k := by injection e0
      have e1' : v1 = .int .i64 n := by injection e1
      have e2' : v2 = .string s := by injection e2
      subst e0' e1' e2'
      match Cs j, hlen, g0, g1, g2 with
      | [a, b', c'], _, g0, g1, g2 =>
        injection g0 with g0; injection g1 with g1; injection g2 with g2
        subst g0 g1 g2
        rfl
    · exact ⟨⟨⟨0, 0⟩, ByteArray.empty⟩, fun h => absurd h hj⟩)
  refine ⟨A, len, cap, fun j => (R j).1.1, fun j => (R j).1.2, fun j => (R j).2, rfl, hl, hm, fun j hj => (hR j hj).2, fun hpos => ?_⟩
  obtain ⟨b, off, hA, hb, hc⟩ := hrow hpos
  refine ⟨b, off, hA, hb, fun j hj => ⟨?_, ?_, ?_⟩⟩
  · have := hc j hj 0 (.int .u8 (R j).1.1) (by rw [(hR j hj).1]; rfl)
    rwa [Nat.add_zero] at this
  · exact hc j hj 1 (.int .i64 (R j).1.2) (by rw [(hR j hj).1]; rfl)
  · exact hc j hj 2 (.string (R j).2) (by rw [(hR j hj).1]; rfl)

def Takes (w : World) (A : Option Addr) (len : Nat) (K M : Nat → Int) : Prop :=
  (∀ j, j < len → -9223372036854775808 ≤ M j ∧ M j ≤ 9223372036854775807) ∧
  (0 < len → ∃ b off, A = some ⟨b, off, none⟩ ∧ b < w.heap.size ∧ ∀ j, j < len → w.cell? ⟨b, off + j * 2, none⟩ = some (.int .u8 (K j)) ∧ w.cell? ⟨b, off + j * 2 + 1, none⟩ = some (.int .i64 (M j)))

theorem arg_takes {base : Nat} {v : Value} {d : DataW H} {p : List MemPlace}
    (hok : Value.okWide Try.prog W .any base 36 v) (h : DataW.Trod enc Try.prog W 0 sp hd 36 v d p) (hlt : ∀ x ∈ p, x.block < W.heap.size) :
    ∃ (A : Option Addr) (len cap : Nat) (K M : Nat → Int), v = .slice A len cap ∧ len ≤ cap ∧ cap ≤ maxLen ∧ Takes W A len K M := by
  obtain ⟨A, len, cap, n, Cs, D, rfl, hl, hm, _, hrow, hel⟩ := arg_slice Try.underlying36 (show Try.prog.cellsOf 44 = 2 by kernel_rfl) (by omega) hok h hlt
  obtain ⟨R, hR⟩ := Classical.axiomOfChoice (r := fun j (r : Int × Int) => j < len → Cs j = [.int .u8 r.1, .int .i64 r.2] ∧ -9223372036854775808 ≤ r.2 ∧ r.2 ≤ 9223372036854775807) (fun j => by
    by_cases hj : j < len
    · obtain ⟨hlen, pl, hd⟩ := hel j hj
      obtain ⟨m, hf⟩ := arg_fields Try.underlying44 (by kernel_rfl) (by rw [hlen]; rfl) hd
      obtain ⟨v0, y0, g0, t0⟩ := hf 0 _ rfl
      obtain ⟨v1, y1, g1, t1⟩ := hf 1 _ rfl
      obtain ⟨k, e0, _, hk⟩ := DataW.trod_int Try.underlying5 t0
      obtain ⟨n, e1, _, hn⟩ := DataW.trod_int Try.underlying3 t1
      refine ⟨⟨k, n⟩, fun _ => ⟨?_, (wf_i64' hn).1, (wf_i64' hn).2⟩⟩
      have e0' : v0 = .int .u8 k := by injection e0
      have e1' : v1 = .int .i64 n := by injection e1
      subst e0' e1'
      match Cs j, hlen, g0, g1 with
      | [a, b'], _, g0, g1 =>
        injection g0 with g0; injection g1 with g1
        subst g0 g1
        rfl
    · exact ⟨⟨0, 0⟩, fun h => absurd h hj⟩)
  refine ⟨A, len, cap, fun j => (R j).1, fun j => (R j).2, rfl, hl, hm, fun j hj => (hR j hj).2, fun hpos => ?_⟩
  obtain ⟨b, off, hA, hb, hc⟩ := hrow hpos
  refine ⟨b, off, hA, hb, fun j hj => ⟨?_, ?_⟩⟩
  · have := hc j hj 0 (.int .u8 (R j).1) (by rw [(hR j hj).1]; rfl)
    rwa [Nat.add_zero] at this
  · exact hc j hj 1 (.int .i64 (R j).2) (by rw [(hR j hj).1]; rfl)

/-- Bytes that came in; or what fails of them is that they are nil with room. -/
theorem arg_bytes {base : Nat} {v : Value} {d : DataW H} {p : List MemPlace}
    (hok : Value.okWide Try.prog W .any base 24 v) (h : DataW.Trod enc Try.prog W 0 sp hd 24 v d p) (hlt : ∀ x ∈ p, x.block < W.heap.size) :
    ∃ (A : Option Addr) (len cap : Nat) (l : List UInt8), v = .slice A len cap ∧ len ≤ cap ∧ cap ≤ maxLen ∧ l.length = len ∧ (A = none → cap = 0) ∧
      (0 < len → ∃ g off, A = some ⟨g, off, none⟩ ∧ g < W.heap.size ∧ ∀ j (hj : j < l.length), W.cell? ⟨g, off + j, none⟩ = some (u8 l[j])) := by
  have hnone : ∀ (c : Nat) (len : Nat), v = .slice none len c → c = 0 := fun c len e => by
    subst e
    obtain ⟨fuel, hf⟩ := h
    rcases open_slice Try.underlying24 hf with ⟨hcs, hx⟩ | ⟨a, len', cap', m, n, D, Pl, hcs, _⟩
    · simp [Value.cells] at hcs; omega
    · simp [Value.cells] at hcs
  obtain ⟨A, len, cap, Z, rfl, hl, hm, hrow, hwf⟩ := arg_ints Try.underlying24 Try.underlying5 (by kernel_rfl) hok h hlt
  refine ⟨A, len, cap, (List.range len).map (fun j => UInt8.ofNat (Z j).toNat), rfl, hl, hm, by simp, fun e => hnone cap len (by rw [e]), fun hpos => ?_⟩
  obtain ⟨g, off, e, hg, hc⟩ := hrow hpos
  refine ⟨g, off, e, hg, fun j hj => ?_⟩
  have hj' : j < len := by simpa using hj
  rw [hc j hj']
  have := wf_u8' (hwf j hj')
  simp only [List.getElem_map, List.getElem_range]
  have e2 : ((UInt8.ofNat (Z j).toNat).toNat : Int) = Z j := by simp; omega
  simp only [u8, e2]
theorem arg_bytes_len {A : Option Addr} {len cap : Nat} {d : DataW H} {p : List MemPlace} (h : DataW.Trod enc Try.prog W 0 sp hd 24 (.slice A len cap) d p) : len = 0 ∨ ∃ el sr, d = .slice el sr ∧ el.length = len := by
  obtain ⟨fuel, hf⟩ := h
  rcases open_slice Try.underlying24 hf with ⟨hcs, hx⟩ | ⟨a, len', cap', m, n, D, Pl, hcs, hb, hl, hm, hmm, hx, hi⟩
  · simp [Value.cells] at hcs
    exact .inl hcs.2.1
  · simp [Value.cells] at hcs
    obtain ⟨rfl, rfl, rfl⟩ := hcs
    simp only [Prod.mk.injEq] at hx
    exact .inr ⟨_, _, hx.1, by simp⟩
end

end Go.Proofs.Ytjmcbnoofonanaa
