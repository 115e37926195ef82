/- Entries in memory: a slice of them; Few of the document, by its contract. -/
import Derived.Test.YtlojjodgoeclfaaEntR1
import Derived.Deep.LoopGhost
namespace Go.Proofs.Ytlojjodgoeclfaa
open Go.RowKit
set_option linter.unusedVariables false
set_option linter.unusedSimpArgs false

/-- A slice of entries that reads as these; all of it lies in Z. -/
def Ents (w : World) (Z : Nat → Prop) (A : Option Addr) (len cap : Nat) (ls : List Ent) : Prop :=
  ls.length = len ∧ len ≤ cap ∧ (A = none → cap = 0) ∧ (0 < len → ∃ g off, A = some ⟨g, off, none⟩ ∧ g < w.heap.size ∧ Z g ∧
    ∀ j (hj : j < ls.length), ∃ E c, w.cell? ⟨g, off + j * 3, none⟩ = some (.int .i64 ls[j].i) ∧ w.cell? ⟨g, off + j * 3 + 1, none⟩ = some (.int .i64 ls[j].t) ∧ w.cell? ⟨g, off + j * 3 + 2, none⟩ = some (.slice E ls[j].d.length c) ∧ c ≤ c ∧ Lies w E ls[j].d.length c ls[j].d ∧ (0 < ls[j].d.length → ∀ q o, E = some ⟨q, o, none⟩ → Z q))

section
variable {w w' : World} {Z Z' : Nat → Prop} {A : Option Addr} {len cap : Nat} {ls : List Ent}

theorem Ents.keep (h : Ents w Z A len cap ls) (hs : w.heap.size ≤ w'.heap.size) (hk : ∀ k, k < w.heap.size → Z k → w'.heap[k]? = w.heap[k]?) : Ents w' Z A len cap ls := by
  refine ⟨h.1, h.2.1, h.2.2.1, fun h0 => ?_⟩
  obtain ⟨g, off, e, hg, hz, hc⟩ := h.2.2.2 h0
  refine ⟨g, off, e, Nat.lt_of_lt_of_le hg hs, hz, fun j hj => ?_⟩
  obtain ⟨E, c, c0, c1, c2, hm, hl, hzE⟩ := hc j hj
  have hx : ∀ o, w'.cell? ⟨g, o, none⟩ = w.cell? ⟨g, o, none⟩ := fun o => World.cell?_of_block (hk g hg hz)
  exact ⟨E, c, (hx _).trans c0, (hx _).trans c1, (hx _).trans c2, hm, hl.keep hs fun h1 q o eq hq => hk q hq (hzE h1 q o eq), hzE⟩

theorem Ents.below (h : Ents w Z A len cap ls) {B : Nat} (hb : Below B w w') (hB : w.heap.size ≤ B) : Ents w' Z A len cap ls :=
  h.keep hb.size fun k hk _ => hb.block k (Nat.lt_of_lt_of_le hk hB)

theorem Ents.mono (h : Ents w Z A len cap ls) (hz : ∀ k, Z k → Z' k) : Ents w Z' A len cap ls := by
  refine ⟨h.1, h.2.1, h.2.2.1, fun h0 => ?_⟩
  obtain ⟨g, off, e, hg, hzg, hc⟩ := h.2.2.2 h0
  refine ⟨g, off, e, hg, hz _ hzg, fun j hj => ?_⟩
  obtain ⟨E, c, c0, c1, c2, hm, hl, hzE⟩ := hc j hj
  exact ⟨E, c, c0, c1, c2, hm, hl, fun h1 q o eq => hz _ (hzE h1 q o eq)⟩

theorem Ents.at_ (h : Ents w Z A len cap ls) (j : Nat) (hj : j < len) : ∃ g off E c, A = some ⟨g, off, none⟩ ∧ g < w.heap.size ∧ w.cell? ⟨g, off + j * 3, none⟩ = some (.int .i64 (ls[j]'(by rw [h.1]; exact hj)).i) ∧ w.cell? ⟨g, off + j * 3 + 1, none⟩ = some (.int .i64 (ls[j]'(by rw [h.1]; exact hj)).t) ∧
    w.cell? ⟨g, off + j * 3 + 2, none⟩ = some (.slice E (ls[j]'(by rw [h.1]; exact hj)).d.length c) ∧ Lies w E (ls[j]'(by rw [h.1]; exact hj)).d.length c (ls[j]'(by rw [h.1]; exact hj)).d := by
  obtain ⟨g, off, e, hg, _, hc⟩ := h.2.2.2 (by omega)
  obtain ⟨E, c, c0, c1, c2, _, hl, _⟩ := hc j (by rw [h.1]; exact hj)
  exact ⟨g, off, E, c, e, hg, c0, c1, c2, hl⟩
end

/-- How many bytes entries have. -/
def weigh (ls : List Ent) : Nat := (ls.map fun e => e.d.length).sum

theorem weigh_take (ls : List Ent) (k : Nat) (hk : k < ls.length) : weigh (ls.take (k + 1)) = weigh (ls.take k) + ls[k].d.length := by
  unfold weigh
  rw [List.take_succ_eq_append_getElem hk, List.map_append, List.sum_append]
  simp

theorem weigh_le (ls : List Ent) (k : Nat) : weigh (ls.take k) ≤ weigh ls := by
  unfold weigh
  rw [List.map_take]
  generalize ls.map (fun e => e.d.length) = q
  have := List.take_append_drop k q
  calc (q.take k).sum ≤ (q.take k).sum + (q.drop k).sum := Nat.le_add_right _ _
    _ = (q.take k ++ q.drop k).sum := by rw [List.sum_append]
    _ = q.sum := by rw [this]

def fewE (ls : List Ent) (many : Nat) : Bool := decide (ls.length ≤ many) && decide (weigh ls ≤ 40000)

set_option maxHeartbeats 1000000 in
theorem fewR_any (Z : Nat → Prop) (A : Option Addr) (len cap : Nat) (ls : List Ent) (many : Nat) (w : World) (h : Ents w Z A len cap ls) (hm : len ≤ maxLen) (hmany : many ≤ 1000) (hd : ∀ e ∈ ls, e.d.length ≤ 140737488355328) :
    Calls Try.prog 24 #[.slice A len cap, .int .i64 (many : Int)] w fun e w' => e = .returned (.bool (fewE ls many)) ∧ w = w' := by
  unfold maxLen at hm
  have hll := h.1
  go_enter Try.func24, Try.ntmps24
  go_wp2
  go_loop [5, 6, 9] (fun z r i => ∃ k : Nat, k ≤ len ∧ k ≤ many ∧ i = .int .i64 (k : Int) ∧ z = .int .i64 ((weigh (ls.take k) : Nat) : Int) ∧ weigh (ls.take k) ≤ 40000) (fun _ _ i => len - (intOf i).toNat)
  case atStart => exact ⟨0, by omega, by omega, rfl, by simp [weigh], by simp [weigh]⟩
  case round =>
    obtain ⟨k, hk, hkm, rfl, rfl, hz⟩ := hrel
    by_cases hlt : k < len
    · have hlt' : (k : Int) < (len : Int) := by omega
      obtain ⟨g, off, E, c, rfl, hg, _, _, hcell, _⟩ := h.at_ k hlt
      have hw := weigh_take ls k (by omega)
      have hwl := weigh_le ls (k + 1)
      have hdk := hd _ (List.getElem_mem (show k < ls.length by omega))
      generalize (ls[k]'(by omega)).d.length = n at *
      generalize weigh (ls.take k) = z at *
      obtain ⟨z2, hz2⟩ : ∃ z2, weigh (ls.take (k + 1)) = z2 := ⟨_, rfl⟩
      rw [hz2] at hw hwl
      have e2 : (z : Int) + (n : Int) = (z2 : Int) := by omega
      have HZ := Lib.hid hz2
      · have e3 : IntKind.i64.wrap (z2 : Int) = (z2 : Int) := IntWalk.i64_in _ (by omega)
        by_cases hkm2 : many ≤ k
        · have HE := Lib.hid (show fewE ls many = false by unfold fewE; rw [decide_eq_false (by omega), Bool.false_and])
          have q1 : (many : Int) ≤ (k : Int) := by omega
          clear hz2 hw hwl hz hd hdk hkm2 hkm hk hm
          go_wp2
          go_ret
          exact ⟨by have e : fewE ls many = false := HE; rw [e]; rfl, rfl⟩
        · have q1 : ((many : Int) ≤ (k : Int)) = False := eq_false (by omega)
          by_cases h4 : 40000 < z2
          · have HE := Lib.hid (show fewE ls many = false by unfold fewE; rw [decide_eq_false (show ¬ weigh ls ≤ 40000 by omega), Bool.and_false])
            have q2 : (40000 : Int) < (z2 : Int) := by omega
            clear hz2 hw hwl hz hd hdk hkm2 hkm hk hm h4
            go_wp2
            go_ret
            exact ⟨by have e : fewE ls many = false := HE; rw [e]; rfl, rfl⟩
          · have q2 : ((40000 : Int) < (z2 : Int)) = False := eq_false (by omega)
            have e5 : IntKind.i64.wrap ((k : Int) + 1) = ((k + 1 : Nat) : Int) := by rw [IntWalk.i64_in _ (by omega)]; omega
            have hnn : Hid (k + 1 ≤ many ∧ k < len ∧ z2 ≤ 40000) := ⟨by omega, by omega, by omega⟩
            clear hz2 hw hwl hz hd hdk hkm2 hkm hk hm h4
            go_wp2
            go_round
            case rel => exact ⟨k + 1, by have := hnn.out; omega, hnn.out.1, by go_num, by have e : weigh (ls.take (k + 1)) = z2 := HZ; rw [e], by have e : weigh (ls.take (k + 1)) = z2 := HZ; rw [e]; exact hnn.out.2.2⟩
            case measure => have := hnn.out; simp [intOf]; omega
    · obtain rfl : k = len := by omega
      have HE := Lib.hid (show fewE ls many = true by
        unfold fewE
        rw [List.take_of_length_le (by omega)] at hz
        rw [decide_eq_true (by omega), decide_eq_true hz]
        rfl)
      clear h hz hd hm hk hkm
      go_wp2
      go_ret
      exact ⟨by have e : fewE ls many = true := HE; rw [e]; rfl, rfl⟩

end Go.Proofs.Ytlojjodgoeclfaa
