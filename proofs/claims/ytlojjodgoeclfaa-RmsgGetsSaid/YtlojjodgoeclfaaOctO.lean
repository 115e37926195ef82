/- An Out in memory; bytes.Clone and room, each by its contract. -/
import Derived.Test.YtlojjodgoeclfaaCmn
import Derived.Test.YtlojjodgoeclfaaOctBase
import Derived.Test.YtlojjodgoeclfaaRows
import Derived.WalkSpells
import Derived.WalkLawsBesides
import Derived.KernelRfl
import Derived.BigQuiet
import Derived.IntWalk
import Derived.Laws.ResultCell
import Derived.Deep.LoopGhost
import Derived.Deep.RegionLaw
import Derived.Deep.RegionWith
namespace Go.Proofs.Ytlojjodgoeclfaa
open Go.RowKit
set_option linter.unusedVariables false
set_option linter.unusedSimpArgs false

/-- An Out whose bytes are l, in the row v. -/
structure OutAt (w : World) (o : Nat) (v : Value) (l : List UInt8) (Z : Nat → Prop) : Prop where
  head : w.heap[o]? = some (.cells #[v, .bool false] 36)
  row : Owns 5 w 0 v l
  off : ∀ k, v.ownBlock = some k → k ≠ o ∧ ¬ Z k
  nz : ¬ Z o
  fits : l.length ≤ 60000

/-- An Out that was too long once. -/
structure OutLong (w : World) (o : Nat) (Z : Nat → Prop) : Prop where
  head : w.heap[o]? = some (.cells #[.slice none 0 0, .bool true] 36)
  nz : ¬ Z o

/-- An Out in which l was put. -/
def Out (w : World) (o : Nat) (l : List UInt8) (Z : Nat → Prop) : Prop := (∃ v, OutAt w o v l Z) ∨ (60000 < l.length ∧ OutLong w o Z)

section
variable {w w' : World} {o : Nat} {v v' : Value} {l new : List UInt8} {Z Z' : Nat → Prop}

theorem OutAt.keep (h : OutAt w o v l Z) (hs : w.heap.size ≤ w'.heap.size) (hk : ∀ k, k < w.heap.size → ¬ Z k → w'.heap[k]? = w.heap[k]?) : OutAt w' o v l Z := by
  exact ⟨(hk o (hlt h.head) h.nz).trans h.head, h.row.keep fun g e => hk g (h.row.lt g e).2 (h.off g e).2, h.off, h.nz, h.fits⟩

theorem OutLong.keep (h : OutLong w o Z) (hk : ∀ k, k < w.heap.size → ¬ Z k → w'.heap[k]? = w.heap[k]?) : OutLong w' o Z := ⟨(hk o (hlt h.head) h.nz).trans h.head, h.nz⟩

theorem Out.keep (h : Out w o l Z) (hs : w.heap.size ≤ w'.heap.size) (hk : ∀ k, k < w.heap.size → ¬ Z k → w'.heap[k]? = w.heap[k]?) : Out w' o l Z := by
  rcases h with ⟨v, h⟩ | ⟨h0, h⟩
  · exact .inl ⟨v, h.keep hs hk⟩
  · exact .inr ⟨h0, h.keep hk⟩

theorem Out.below (h : Out w o l Z) {B : Nat} (hb : Below B w w') (hB : w.heap.size ≤ B) : Out w' o l Z := h.keep hb.size fun k hk _ => hb.block k (Nat.lt_of_lt_of_le hk hB)

theorem Out.grown (h : Out w o l Z) {row : Option Nat} (hg : w.grownBy w' row) (hr : ∀ k, row = some k → Z k) : Out w' o l Z :=
  h.keep hg.size fun k hk hz => hg.block k hk fun e => hz (hr k e.symm)

theorem OutAt.lt (h : OutAt w o v l Z) : o < w.heap.size := hlt h.head

/-- What is not there yet is none of it. -/
theorem Out.out (h : Out w o l Z) (hZ : ∀ k, Z' k → Z k ∨ w.heap.size ≤ k) : Out w o l Z' := by
  have nz : ∀ k, k < w.heap.size → ¬ Z k → ¬ Z' k := fun k hk hz hz' => by
    rcases hZ k hz' with h | h
    · exact hz h
    · omega
  rcases h with ⟨v, h⟩ | ⟨h0, h⟩
  · exact .inl ⟨v, h.head, h.row, fun k e => ⟨(h.off k e).1, nz k (h.row.lt k e).2 (h.off k e).2⟩, nz o (hlt h.head) h.nz, h.fits⟩
  · exact .inr ⟨h0, h.head, nz o (hlt h.head) h.nz⟩

theorem OutAt.put (h : OutAt w o v l Z) (hZ : ∀ k, Z k → k < w.heap.size) (hr : Owns 5 w' 0 v' (l ++ new)) (hg : w.grownBy w' v.ownBlock) (hb : v'.ownBlock = v.ownBlock ∨ v'.ownBlock = some w.heap.size)
    (hf : (l ++ new).length ≤ 60000) : OutAt (w'.setCell ⟨o, 0, none⟩ v') o v' (l ++ new) Z ∧ Keeps Z w (w'.setCell ⟨o, 0, none⟩ v') := by
  have hlo := h.lt
  have ho : w'.heap[o]? = some (.cells #[v, .bool false] 36) := (hg.block o hlo fun e => (h.off o e.symm).1 rfl).trans h.head
  have hoff : ∀ k, v'.ownBlock = some k → k ≠ o ∧ ¬ Z k := fun k e => by
    rcases hb with hb | hb
    · exact h.off k (hb ▸ e)
    · rw [hb] at e
      injection e with e
      subst e
      exact ⟨by omega, fun hz => Nat.lt_irrefl _ (hZ _ hz)⟩
  exact ⟨⟨by rw [setCell_at _ ⟨o, 0, none⟩ _ _ _ _ rfl ho]; rfl, hr.keep fun g e => Below.heap_setCell _ _ _ _ (hoff g e).1, hoff, h.nz, hf⟩, (keeps_grown hg fun k e => (h.off k e).2).trans (keeps_setCell _ _ _ h.nz)⟩
end

theorem OutAt.puts {w : World} {o : Nat} {v : Value} {l : List UInt8} {Z : Nat → Prop} (h : OutAt w o v l Z) {w0 : World} (hk : Keeps Z w0 w) (hZ : ∀ k, Z k → k < w0.heap.size) (new : List UInt8) {w1 : World} {v1 : Value} (hr : Owns 5 w1 0 v1 (l ++ new)) (hg : w.grownBy w1 v.ownBlock)
    (hb : v1.ownBlock = v.ownBlock ∨ v1.ownBlock = some w.heap.size) (hf : (l ++ new).length ≤ 60000) (N : Nat) (hN : (l ++ new).length = N) :
    ∃ A1 cap1, v1 = .slice A1 N cap1 ∧ w1.cell? ⟨o, 0, none⟩ = some v ∧ w1.frozen? ⟨o, 0, none⟩ = false ∧ OutAt (w1.setCell ⟨o, 0, none⟩ v1) o v1 (l ++ new) Z ∧ Keeps Z w0 (w1.setCell ⟨o, 0, none⟩ v1) := by
  have hput := h.put (fun i hi => Nat.lt_of_lt_of_le (hZ i hi) hk.size) hr hg hb hf
  have ho2 : w1.heap[o]? = some (.cells #[v, .bool false] 36) := (hg.block o h.lt fun e => (h.off o e.symm).1 rfl).trans h.head
  obtain ⟨A1, cap1, e, _⟩ := lies_of_owns hr
  rw [hN] at e
  exact ⟨A1, cap1, e, by simp [World.cell?, ho2], by simp [World.frozen?, ho2], hput.1, hk.trans hput.2⟩

/-- A new Out. -/
theorem out_new (w : World) (Z : Nat → Prop) (hZ : ∀ k, Z k → k < w.heap.size) : Out (w.alloc (.cells #[.slice none 0 0, .bool false] 36)) w.heap.size [] Z :=
  .inl ⟨.slice none 0 0, heap_alloc_new _ _, Owns.nil _ _ _, (fun k e => by cases e), fun hz => Nat.lt_irrefl _ (hZ _ hz), by simp⟩

theorem own_string_at {P : Program} (w : World) (t u ty e : TypeId) (i : TypeInfo) (ht : P.underlying t = some (.slice e)) (hu : P.underlying u = some .string) (hi : P.info? e = some i) (hz : i.zero = some (.int .u8 0))
    (hsize : i.size = 1) (hby : i.bytes = 1) (v : Value) (n : Nat) (xs : List Value) (hown : w.ownsRow 0 e 1 v n xs) (s : ByteArray) (h63 : n + s.size ≤ 60000) :
    ∃ v' w', (Builtin.append_ #[t, u] ty #[v, .string s]).run P w = .ok v' w' ∧ w'.ownsRow 0 e 1 v' (n + s.size) (xs ++ Go.Lib.strCells s) ∧ w.grownBy w' v.ownBlock ∧ (v'.ownBlock = v.ownBlock ∨ v'.ownBlock = some w.heap.size) := by
  obtain ⟨v', w', hr, h2, h3, h4⟩ := Go.Lib.run_append_own_string (P := P) w 0 t u ty e i ht hu hi hz hsize hby v n xs hown s (by unfold maxLen; omega) (by omega) (Nat.zero_le _)
  refine ⟨v', w', hr, h2, h3, ?_⟩
  have hxl : xs.length = n := by simpa using hown.1
  rcases hown.2 with ⟨rfl, rfl⟩ | ⟨g, cap, cur, rfl, hbg, hg, hnc, hcm, hcs, htake⟩
  · by_cases hm : s.size = 0
    · rw [h4.2 ⟨rfl, hm⟩]; exact .inl rfl
    · have hr2 := run_append_nil_string (P := P) w t u ty e i (.int .u8 0) ht hu hi hz s (by omega) (by omega) (by rw [hby]; omega)
      rw [hr2] at hr
      injection hr with e1 _
      rw [← e1]
      exact .inr rfl
  · by_cases hroom : n + s.size ≤ cap
    · have hcs' : cur.size = cap := by simpa using hcs
      have hr2 := Go.Lib.run_append_room_string (P := P) w t u ty e i ht hu hi hsize g n cap cur hg s hroom (by omega)
      rw [hr2] at hr
      injection hr with e1 _
      rw [← e1]
      exact .inl rfl
    · have holds : ∀ j u, xs[j]? = some u → w.cell? ((⟨g, 0, none⟩ : Addr).add j) = some u := hown.cells (g := g) rfl
      have hr2 := Go.Lib.run_append_grow_string (P := P) w t u ty e i (.int .u8 0) ht hu hi hz ⟨g, 0, none⟩ n cap xs (by rw [hsize]; simpa using hxl) holds s (by omega) (by omega) (by rw [hby]; exact growslice_fits (by omega) (by omega))
      rw [hr2] at hr
      injection hr with e1 _
      rw [← e1]
      exact .inr rfl

/-- 'append(x, s...)', s a text. -/
theorem wpList_append_text {P : Program} (w : World) {ops : Array Oper} {rest : List Oper} {o : Oper} {a : Act} {Q : Exit → Act → World → Prop} (hgd : o.guard = none) (sl x : Operand) (t u : TypeId)
    (ho : o.op = .call { callee := .builtin .append, args := #[sl, x], argTypes := #[t, u] })
    (e : TypeId) (i : TypeInfo) (ht : P.underlying t = some (.slice e)) (hu : P.underlying u = some .string) (hi : P.info? e = some i) (hz : i.zero = some (.int .u8 0)) (hsize : i.size = 1) (hby : i.bytes = 1)
    (v : Value) (l : List UInt8) (hs : a.eval sl = v) (hown : Owns e w 0 v l) (s : ByteArray) (hx : a.eval x = .string s) (hf : (l ++ s.data.toList).length ≤ 60000)
    (h : ∀ v' w', Owns e w' 0 v' (l ++ s.data.toList) → w.grownBy w' v.ownBlock → (v'.ownBlock = v.ownBlock ∨ v'.ownBlock = some w.heap.size) → wpList P ops Q rest (a.put o.dst v') w') : wpList P ops Q (o :: rest) a w := by
  have hsz : s.data.toList.length = s.size := by simp
  have hl : l.length + s.size = (l ++ s.data.toList).length := by simp
  refine wpList_plain hgd fun K hK => ?_
  obtain ⟨v', w', hr, h2, h3, h4⟩ := own_string_at (P := P) w t u o.type e i ht hu hi hz hsize hby v l.length (cellsOf l) hown s (by omega)
  unfold Oper.wp execOp
  simp only [ho, resolve, invoke, builtin, Sem.run_bind, Sem.run_pure, Result.andThen_ok, List.map_toArray, List.map_cons, List.map_nil, hs, hx, hr]
  rw [hl] at h2
  rw [strCells_eq, ← List.map_append] at h2
  exact hK _ _ (h v' w' h2 h3 h4)

theorem step_append_text {P : Program} (w : World) {ops : Array Oper} {o : Oper} {a : Act} {K : Act → World → Prop} {Q : Exit → Act → World → Prop} {E : Prop} (hgd : o.guard = none) (sl x : Operand) (t u : TypeId)
    (ho : o.op = .call { callee := .builtin .append, args := #[sl, x], argTypes := #[t, u] })
    (e : TypeId) (i : TypeInfo) (ht : P.underlying t = some (.slice e)) (hu : P.underlying u = some .string) (hi : P.info? e = some i) (hz : i.zero = some (.int .u8 0)) (hsize : i.size = 1) (hby : i.bytes = 1)
    (v : Value) (l : List UInt8) (hs : a.eval sl = v) (hown : Owns e w 0 v l) (s : ByteArray) (hx : a.eval x = .string s) (hf : (l ++ s.data.toList).length ≤ 60000)
    (h : ∀ v' w', Owns e w' 0 v' (l ++ s.data.toList) → w.grownBy w' v.ownBlock → (v'.ownBlock = v.ownBlock ∨ v'.ownBlock = some w.heap.size) → K (a.put o.dst v') w') :
    if Region.wanted o (yielded ops a.tmps) = true then Oper.wp P o a w K Q else E := by
  have hsz : s.data.toList.length = s.size := by simp
  have hl : l.length + s.size = (l ++ s.data.toList).length := by simp
  have hw : Region.wanted o (yielded ops a.tmps) = true := by simp [Region.wanted, hgd]
  rw [if_pos hw]
  obtain ⟨v', w', hr, h2, h3, h4⟩ := own_string_at (P := P) w t u o.type e i ht hu hi hz hsize hby v l.length (cellsOf l) hown s (by omega)
  unfold Oper.wp execOp
  simp only [ho, resolve, invoke, builtin, Sem.run_bind, Sem.run_pure, Result.andThen_ok, List.map_toArray, List.map_cons, List.map_nil, hs, hx, hr]
  rw [hl] at h2
  rw [strCells_eq, ← List.map_append] at h2
  exact h v' w' h2 h3 h4

/- bytes.Clone -/
/- room -/
theorem room_nil (n : Int) (w : World) : Calls Try.prog 81 #[.pointer none, .int .i64 n] w fun e w' => e = .returned (.bool false) ∧ w = w' := by
  go_enter Try.func81, Try.ntmps81
  go_wp2
  go_ret
  exact ⟨rfl, rfl⟩

theorem room_long (n : Int) (w : World) (o : Nat) (Z : Nat → Prop) (h : OutLong w o Z) : Calls Try.prog 81 #[.pointer (some ⟨o, 0, none⟩), .int .i64 n] w fun e w' => e = .returned (.bool false) ∧ w = w' := by
  have f1 : w.cell? ⟨o, 1, none⟩ = some (.bool true) := by simp [World.cell?, h.head]
  go_enter Try.func81, Try.ntmps81
  go_wp2
  go_ret
  exact ⟨rfl, rfl⟩

theorem OutAt.shape {w : World} {o : Nat} {v : Value} {l : List UInt8} {Z : Nat → Prop} (h : OutAt w o v l Z) : ∃ A cap, v = .slice A l.length cap ∧ Lies w A l.length cap l := by
  obtain ⟨A, cap, e, h1, _⟩ := lies_of_owns h.row
  exact ⟨A, cap, e, h1⟩

theorem room_fits (n : Nat) (w : World) (o : Nat) (v : Value) (l : List UInt8) (Z : Nat → Prop) (h : OutAt w o v l Z) (hn : l.length + n ≤ 60000) :
    Calls Try.prog 81 #[.pointer (some ⟨o, 0, none⟩), .int .i64 (n : Int)] w fun e w' => e = .returned (.bool true) ∧ w = w' := by
  obtain ⟨A, cap, rfl, _⟩ := h.shape
  have hf := h.fits
  have f0 : w.cell? ⟨o, 0, none⟩ = some (.slice A l.length cap) := by simp [World.cell?, h.head]
  have f1 : w.cell? ⟨o, 1, none⟩ = some (.bool false) := by simp [World.cell?, h.head]
  have hw : IntKind.i64.wrap (60000 - (l.length : Int)) = 60000 - (l.length : Int) := IntWalk.i64_in _ (by omega)
  have hle : ¬ (60000 - (l.length : Int) < (n : Int)) := by omega
  go_enter Try.func81, Try.ntmps81
  go_wp2
  go_ret
  exact ⟨rfl, rfl⟩

theorem room_over (n : Nat) (w : World) (o : Nat) (v : Value) (l : List UInt8) (Z : Nat → Prop) (h : OutAt w o v l Z) (hn : 60000 < l.length + n) :
    Calls Try.prog 81 #[.pointer (some ⟨o, 0, none⟩), .int .i64 (n : Int)] w fun e w' => e = .returned (.bool false) ∧ OutLong w' o Z ∧ Keeps Z w w' := by
  obtain ⟨A, cap, rfl, _⟩ := h.shape
  have hf := h.fits
  have f0 : w.cell? ⟨o, 0, none⟩ = some (.slice A l.length cap) := by simp [World.cell?, h.head]
  have f1 : w.cell? ⟨o, 1, none⟩ = some (.bool false) := by simp [World.cell?, h.head]
  have g0 : w.frozen? ⟨o, 0, none⟩ = false := by simp [World.frozen?, h.head]
  have g1 : w.frozen? ⟨o, 1, none⟩ = false := by simp [World.frozen?, h.head]
  have hw : IntKind.i64.wrap (60000 - (l.length : Int)) = 60000 - (l.length : Int) := IntWalk.i64_in _ (by omega)
  have hle : (60000 - (l.length : Int) < (n : Int)) := by omega
  have hend : OutLong ((w.setCell ⟨o, 0, none⟩ (.slice none 0 0)).setCell ⟨o, 1, none⟩ (.bool true)) o Z := ⟨by
    rw [setCell_at _ ⟨o, 1, none⟩ _ _ _ _ rfl (setCell_at _ ⟨o, 0, none⟩ _ _ _ _ rfl h.head)]
    rfl, h.nz⟩
  have hk : Keeps Z w ((w.setCell ⟨o, 0, none⟩ (.slice none 0 0)).setCell ⟨o, 1, none⟩ (.bool true)) := (keeps_setCell _ _ _ h.nz).trans (keeps_setCell _ _ _ h.nz)
  go_enter Try.func81, Try.ntmps81
  go_wp2
  all_goals
    go_ret
    exact ⟨rfl, hend, hk⟩

end Go.Proofs.Ytlojjodgoeclfaa

namespace Go.Proofs.Ytlojjodgoeclfaa
open Go.RowKit
set_option linter.unusedVariables false
set_option linter.unusedSimpArgs false

theorem number_nil (v n : Int) (w : World) : Calls Try.prog 66 #[.pointer none, .int .u64 v, .int .i64 n] w fun e w' => e = .returned (.tuple #[]) ∧ w = w' := by
  go_enter Try.func66, Try.ntmps66
  go_wp2_with (go_at_call 81; refine (room_nil _ _).mono ?_; rintro e w1 ⟨rfl, rfl⟩)
  refine bodyPost_ret (results_none rfl _ _ _) rfl ?_
  exact ⟨rfl, rfl⟩

theorem byte_of (v : Int) (k : Nat) (h : 0 ≤ v) : v / 2 ^ (8 * k) % 256 = ((UInt8.ofNat (v.toNat / 256 ^ k)).toNat : Int) := by
  obtain ⟨n, rfl⟩ := Int.eq_ofNat_of_zero_le h
  have e : (2 : Nat) ^ (8 * k) = 256 ^ k := by rw [Nat.pow_mul]
  have e' : (2 : Int) ^ (8 * k) = ((256 ^ k : Nat) : Int) := by rw [← e]; simp
  rw [e']
  simp

theorem byte_of' (v : Int) (k : Nat) (h : 0 ≤ v) : IntKind.u8.wrap (v / 2 ^ (8 * (k : Int)).toNat) = ((UInt8.ofNat (v.toNat / 256 ^ k)).toNat : Int) := by
  rw [← byte_of v k h]
  have : (8 * (k : Int)).toNat = 8 * k := by omega
  rw [this]
  simp [IntKind.wrap, IntKind.bits, IntKind.signed]

set_option maxHeartbeats 6400000 in
theorem number_fits (v : Int) (n : Nat) (hv : 0 ≤ v ∧ v < 18446744073709551616) (hn : n ≤ 8) (w : World) (o : Nat) (s : Value) (l : List UInt8) (Z : Nat → Prop) (h : OutAt w o s l Z) (hZ : ∀ k, Z k → k < w.heap.size) (hf : l.length + n ≤ 60000) :
    Calls Try.prog 66 #[.pointer (some ⟨o, 0, none⟩), .int .u64 v, .int .i64 (n : Int)] w fun e w' => e = .returned (.tuple #[]) ∧ (∃ s', OutAt w' o s' (l ++ wide v.toNat n) Z) ∧ Keeps Z w w' := by
  obtain ⟨i0, hi0, hz0, hz1, hz2⟩ := info_parts info_u8
  have e1 : IntKind.i64.wrap ((n : Int) - 1) = (n : Int) - 1 := IntWalk.i64_in _ (by omega)
  have nb : (n : Int) ≤ 8 := by omega
  go_enter Try.func66, Try.ntmps66
  go_wp2_with (go_at_call 81; refine (room_fits n _ _ _ _ _ h hf).mono ?_; rintro e w1 ⟨rfl, rfl⟩)
  go_loopg [6] n (fun g x wr => ∃ (done : List UInt8) (s' : Value), x = .int .i64 ((g : Int) - 1) ∧ g ≤ n ∧ done ++ wide v.toNat g = wide v.toNat n ∧ OutAt wr o s' (l ++ done) Z ∧ Keeps Z w wr)
  case atStart => exact ⟨[], s, rfl, Nat.le_refl _, rfl, by simpa using h, Keeps.refl _ _⟩
  case round =>
    obtain ⟨done, s', rfl, hg, hd, ho, hk⟩ := hrel
    cases gk with
    | zero =>
      go_wp2
      refine bodyPost_end (results_none rfl _ _ _) rfl ?_
      rw [show done = wide v.toNat n by simpa [wide] using hd] at ho
      exact ⟨rfl, ⟨_, ho⟩, hk⟩
    | succ k =>
      rw [show ((k + 1 : Nat) : Int) - 1 = (k : Int) by omega]
      obtain ⟨A, cap, rfl, hlies⟩ := ho.shape
      have f0 : wr.cell? ⟨o, 0, none⟩ = some (.slice A (l ++ done).length cap) := by simp [World.cell?, ho.head]
      have e2 : IntKind.i64.wrap (8 * (k : Int)) = 8 * (k : Int) := IntWalk.i64_in _ (by omega)
      have kb : (k : Int) ≤ 7 := by omega
      have hlen : (l ++ done).length = l.length + done.length := List.length_append
      rw [hlen] at f0
      have hlo := ho.lt
      have z0 : wr.frozen? ⟨o, 0, none⟩ = false := by simp [World.frozen?, ho.head]
      have hZ0 : ∀ z : Int, OutAt (wr.alloc (.cells #[.int .u8 z] 5)).drew o (.slice A (l.length + done.length) cap) (l ++ done) Z := fun z => by
        have := (ho.keep (w' := (wr.alloc (.cells #[.int .u8 z] 5)).drew) (by simp) (fun i hi _ => Below.heap_alloc _ _ _ hi))
        rwa [hlen] at this
      have hk1 : ∀ z : Int, Keeps Z w (wr.alloc (.cells #[.int .u8 z] 5)).drew := fun z => (hk.trans (keeps_alloc wr (.cells #[.int .u8 z] 5))).drew
      have hl : (l ++ done).length + (k + 1) = l.length + n := by have := congrArg List.length hd; simp at this; simp; omega
      have hl1 : (l ++ done ++ [UInt8.ofNat (v.toNat / 256 ^ k)]).length ≤ 60000 := by rw [List.length_append]; simp only [List.length_singleton]; omega
      have hl2 : (l ++ done ++ [UInt8.ofNat (v.toNat / 256 ^ k)]).length ≤ 140737488355328 := by omega
      go_wp2
      go_region_law
        ((refine step_append_bytes _ (by rfl) _ _ 23 (by rfl) 5 i0 Try.underlying23 hi0 hz0 hz1 hz2 0 (Nat.zero_le _) (.slice A (l.length + done.length) cap) (l ++ done) (by rfl) (hZ0 _).row (some ⟨wr.heap.size, 0, none⟩) 1 1 [UInt8.ofNat (v.toNat / 256 ^ k)] (by rfl) (Lies.lit _ _ _ _ (byte_of' v k hv.1)).drew hl2 ?_
          intro v1 w1 hr hg hb
          obtain ⟨A1, cap1, rfl, c0, c1, hput1, hput2⟩ := (hZ0 _).puts (hk1 _) hZ [UInt8.ofNat (v.toNat / 256 ^ k)] hr hg hb hl1 (l.length + (done.length + 1)) (by simp)
          clear hr hg hb))
      all_goals
       go_wp2
       go_roundg k
       case measure => omega
       case rel =>
        refine ⟨done ++ [UInt8.ofNat (v.toNat / 256 ^ k)], _, by go_num, by omega, by rw [← hd, wide, List.append_assoc]; rfl, by rw [← List.append_assoc]; exact hput1, hput2⟩

theorem number_over (v : Int) (n : Nat) (w : World) (o : Nat) (s : Value) (l : List UInt8) (Z : Nat → Prop) (h : OutAt w o s l Z) (hf : 60000 < l.length + n) :
    Calls Try.prog 66 #[.pointer (some ⟨o, 0, none⟩), .int .u64 v, .int .i64 (n : Int)] w fun e w' => e = .returned (.tuple #[]) ∧ OutLong w' o Z ∧ Keeps Z w w' := by
  go_enter Try.func66, Try.ntmps66
  go_wp2_with (go_at_call 81; refine (room_over n _ _ _ _ _ h hf).mono ?_; rintro e w1 ⟨rfl, h1, h2⟩)
  refine bodyPost_ret (results_none rfl _ _ _) rfl ?_
  exact ⟨rfl, h1, h2⟩

theorem number_long (v n : Int) (w : World) (o : Nat) (Z : Nat → Prop) (h : OutLong w o Z) :
    Calls Try.prog 66 #[.pointer (some ⟨o, 0, none⟩), .int .u64 v, .int .i64 n] w fun e w' => e = .returned (.tuple #[]) ∧ w = w' := by
  go_enter Try.func66, Try.ntmps66
  go_wp2_with (go_at_call 81; refine (room_long n _ _ _ h).mono ?_; rintro e w1 ⟨rfl, rfl⟩)
  refine bodyPost_ret (results_none rfl _ _ _) rfl ?_
  exact ⟨rfl, rfl⟩

/-- A number is put. -/
theorem number_any (v : Int) (n : Nat) (hv : 0 ≤ v ∧ v < 18446744073709551616) (hn : n ≤ 8) (w : World) (o : Nat) (l : List UInt8) (Z : Nat → Prop) (h : Out w o l Z) (hZ : ∀ k, Z k → k < w.heap.size) :
    Calls Try.prog 66 #[.pointer (some ⟨o, 0, none⟩), .int .u64 v, .int .i64 (n : Int)] w fun e w' => e = .returned (.tuple #[]) ∧ Out w' o (l ++ wide v.toNat n) Z ∧ Keeps Z w w' := by
  rcases h with ⟨s, h⟩ | ⟨h0, h⟩
  · by_cases hf : l.length + n ≤ 60000
    · exact (number_fits v n hv hn w o s l Z h hZ hf).mono fun e w' ⟨h1, h2, h3⟩ => ⟨h1, .inl h2, h3⟩
    · exact (number_over v n w o s l Z h (by omega)).mono fun e w' ⟨h1, h2, h3⟩ => ⟨h1, .inr ⟨by simp; omega, h2⟩, h3⟩
  · refine (number_long v n w o Z h).mono ?_
    rintro e w' ⟨h1, rfl⟩
    exact ⟨h1, .inr ⟨by simp; omega, h⟩, Keeps.refl _ _⟩

/- Byte, Flag, Count, Num -/
theorem byte_nil (v : Int) (hv : 0 ≤ v ∧ v < 256) (w : World) : Calls Try.prog 37 #[.pointer none, .int .u8 v] w fun e w' => e = .returned (.tuple #[]) ∧ w = w' := by
  have e1 : IntKind.u64.wrap v = v := IntWalk.u64_in _ (by omega)
  go_enter Try.func37, Try.ntmps37
  go_wp2_with (go_at_call 66; refine (number_nil _ _ _).mono ?_; rintro e w1 ⟨rfl, rfl⟩)
  refine bodyPost_end (results_none rfl _ _ _) rfl ?_
  exact ⟨rfl, rfl⟩

theorem byte_any (v : Int) (hv : 0 ≤ v ∧ v < 256) (w : World) (o : Nat) (l : List UInt8) (Z : Nat → Prop) (h : Out w o l Z) (hZ : ∀ k, Z k → k < w.heap.size) :
    Calls Try.prog 37 #[.pointer (some ⟨o, 0, none⟩), .int .u8 v] w fun e w' => e = .returned (.tuple #[]) ∧ Out w' o (l ++ [UInt8.ofNat v.toNat]) Z ∧ Keeps Z w w' := by
  have e1 : IntKind.u64.wrap v = v := IntWalk.u64_in _ (by omega)
  have hc := number_any v 1 (by omega) (by omega) w o l Z h hZ
  go_enter Try.func37, Try.ntmps37
  go_wp2_with (go_at_call 66; refine hc.mono ?_; rintro e w1 ⟨rfl, h1, h2⟩)
  refine bodyPost_end (results_none rfl _ _ _) rfl ?_
  exact ⟨rfl, by simpa [wide] using h1, h2⟩

theorem flag_nil (b : Bool) (w : World) : Calls Try.prog 39 #[.pointer none, .bool b] w fun e w' => e = .returned (.tuple #[]) ∧ w = w' := by
  cases b
  all_goals
    go_enter Try.func39, Try.ntmps39
    go_wp2_with (go_at_call 37; refine (byte_nil _ (by omega) _).mono ?_; rintro e w1 ⟨rfl, rfl⟩)
    refine bodyPost_end (results_none rfl _ _ _) rfl ?_
    exact ⟨rfl, rfl⟩

theorem flag_any (b : Bool) (w : World) (o : Nat) (l : List UInt8) (Z : Nat → Prop) (h : Out w o l Z) (hZ : ∀ k, Z k → k < w.heap.size) :
    Calls Try.prog 39 #[.pointer (some ⟨o, 0, none⟩), .bool b] w fun e w' => e = .returned (.tuple #[]) ∧ Out w' o (l ++ [if b then 1 else 0]) Z ∧ Keeps Z w w' := by
  have h1 := byte_any 1 (by omega) w o l Z h hZ
  have h0 := byte_any 0 (by omega) w o l Z h hZ
  cases b
  all_goals
    go_enter Try.func39, Try.ntmps39
    go_wp2_with (first
      | (go_at_call_of 37 (Value.int .u8 1); refine h1.mono ?_; rintro e w1 ⟨rfl, k1, k2⟩)
      | (go_at_call_of 37 (Value.int .u8 0); refine h0.mono ?_; rintro e w1 ⟨rfl, k1, k2⟩))
    refine bodyPost_end (results_none rfl _ _ _) rfl ?_
    exact ⟨rfl, k1, k2⟩

theorem count_nil (n : Int) (w : World) : Calls Try.prog 40 #[.pointer none, .int .i64 n] w fun e w' => e = .returned (.tuple #[]) ∧ w = w' := by
  generalize hu : IntKind.u64.wrap n = u
  go_enter Try.func40, Try.ntmps40
  go_wp2_with (go_at_call 66; refine (number_nil _ _ _).mono ?_; rintro e w1 ⟨rfl, rfl⟩)
  refine bodyPost_end (results_none rfl _ _ _) rfl ?_
  exact ⟨rfl, rfl⟩

/-- A count is put modulo 2^32. -/
theorem count_any (n u : Int) (hu : IntKind.u64.wrap n = u) (w : World) (o : Nat) (l : List UInt8) (Z : Nat → Prop) (h : Out w o l Z) (hZ : ∀ k, Z k → k < w.heap.size) :
    Calls Try.prog 40 #[.pointer (some ⟨o, 0, none⟩), .int .i64 n] w fun e w' => e = .returned (.tuple #[]) ∧ Out w' o (l ++ wide u.toNat 4) Z ∧ Keeps Z w w' := by
  have hu' := hu
  rw [IntKind.wrap_u64] at hu'
  have hc := number_any u 4 (by omega) (by omega) w o l Z h hZ
  clear hu'
  go_enter Try.func40, Try.ntmps40
  go_wp2_with (go_at_call 66; refine hc.mono ?_; rintro e w1 ⟨rfl, h1, h2⟩)
  refine bodyPost_end (results_none rfl _ _ _) rfl ?_
  exact ⟨rfl, h1, h2⟩

theorem num_nil (n : Int) (w : World) : Calls Try.prog 38 #[.pointer none, .int .i64 n] w fun e w' => e = .returned (.tuple #[]) ∧ w = w' := by
  generalize hu : IntKind.u64.wrap n = u
  go_enter Try.func38, Try.ntmps38
  go_wp2_with (go_at_call 66; refine (number_nil _ _ _).mono ?_; rintro e w1 ⟨rfl, rfl⟩)
  refine bodyPost_end (results_none rfl _ _ _) rfl ?_
  exact ⟨rfl, rfl⟩

theorem num_any (n u : Int) (hu : IntKind.u64.wrap n = u) (w : World) (o : Nat) (l : List UInt8) (Z : Nat → Prop) (h : Out w o l Z) (hZ : ∀ k, Z k → k < w.heap.size) :
    Calls Try.prog 38 #[.pointer (some ⟨o, 0, none⟩), .int .i64 n] w fun e w' => e = .returned (.tuple #[]) ∧ Out w' o (l ++ wide u.toNat 8) Z ∧ Keeps Z w w' := by
  have hu' := hu
  rw [IntKind.wrap_u64] at hu'
  have hc := number_any u 8 (by omega) (by omega) w o l Z h hZ
  clear hu'
  go_enter Try.func38, Try.ntmps38
  go_wp2_with (go_at_call 66; refine hc.mono ?_; rintro e w1 ⟨rfl, h1, h2⟩)
  refine bodyPost_end (results_none rfl _ _ _) rfl ?_
  exact ⟨rfl, h1, h2⟩

end Go.Proofs.Ytlojjodgoeclfaa

namespace Go.Proofs.Ytlojjodgoeclfaa
open Go.RowKit
set_option linter.unusedVariables false
set_option linter.unusedSimpArgs false

/-- A text's bytes. -/
def textOf (l : List UInt8) : List UInt8 := wide l.length 4 ++ l

theorem bytes_nil (A : Option Addr) (len cap : Nat) (w : World) : Calls Try.prog 82 #[.pointer none, .slice A len cap] w fun e w' => e = .returned (.tuple #[]) ∧ w = w' := by
  go_enter Try.func82, Try.ntmps82
  go_wp2_with (first
    | (go_at_call 40; refine (count_nil _ _).mono ?_; rintro e w1 ⟨rfl, rfl⟩)
    | (go_at_call 81; refine (room_nil _ _).mono ?_; rintro e w1 ⟨rfl, rfl⟩))
  refine bodyPost_end (results_none rfl _ _ _) rfl ?_
  exact ⟨rfl, rfl⟩

/-- Bytes that lie where the Out keeps what is there. -/
theorem bytes_any (A0 : Option Addr) (len0 cap0 : Nat) (s : List UInt8) (hs : len0 ≤ 1099511627776) (w : World) (o : Nat) (l : List UInt8) (Z : Nat → Prop) (h : Out w o l Z) (hZ : ∀ k, Z k → k < w.heap.size)
    (hx : Lies w A0 len0 cap0 s) (hxz : 0 < len0 → ∀ g off, A0 = some ⟨g, off, none⟩ → Z g) :
    Calls Try.prog 82 #[.pointer (some ⟨o, 0, none⟩), .slice A0 len0 cap0] w fun e w' => e = .returned (.tuple #[]) ∧ Out w' o (l ++ textOf s) Z ∧ Keeps Z w w' := by
  obtain ⟨i0, hi0, hz0, hz1, hz2⟩ := info_parts info_u8
  have hC := count_any (len0 : Int) (len0 : Int) (IntWalk.u64_in _ (by omega)) w o l Z h hZ
  have hsz : s.length = len0 := hx.1
  have hto : l ++ wide (len0 : Int).toNat 4 ++ s = l ++ textOf s := by simp [textOf, hsz]
  go_enter Try.func82, Try.ntmps82
  go_wp2_with (go_at_call 40; refine hC.mono ?_; rintro e w1 ⟨rfl, h1, k1⟩)
  replace hx := hx.keeps k1 hxz
  generalize hL : l ++ wide (len0 : Int).toNat 4 = L at h1 hto
  rcases h1 with ⟨v, h1⟩ | ⟨h0, h1⟩
  · by_cases hf : L.length + len0 ≤ 60000
    · obtain ⟨A, cap, rfl, hlies⟩ := h1.shape
      have f0 : w1.cell? ⟨o, 0, none⟩ = some (.slice A L.length cap) := by simp [World.cell?, h1.head]
      have hl1 : (L ++ s).length ≤ 60000 := by rw [List.length_append, hsz]; exact hf
      go_wp2_with (first
        | (go_at_call 81; refine (room_fits len0 _ _ _ _ _ h1 hf).mono ?_; rintro e w2 ⟨rfl, rfl⟩)
        | (at_builtin; refine wpList_append_bytes _ rfl _ _ 23 rfl 5 i0 Try.underlying23 hi0 hz0 hz1 hz2 0 (Nat.zero_le _) (.slice A L.length cap) L rfl h1.row A0 len0 cap0 s rfl hx (by omega) ?_))
      intro v1 w2 hr hg hb
      rw [← hto] at hr
      obtain ⟨A1, cap1, rfl, c0, c1, hput1, hput2⟩ := h1.puts k1 hZ s hr hg hb hl1 (L.length + len0) (by rw [List.length_append, hsz])
      clear hr hg hb f0 hlies
      go_wp2
      refine bodyPost_end (results_none rfl _ _ _) rfl ?_
      rw [hto] at hput1
      exact ⟨rfl, .inl ⟨_, hput1⟩, hput2⟩
    · go_wp2_with (go_at_call 81; refine (room_over len0 _ _ _ _ _ h1 (by omega)).mono ?_; rintro e w2 ⟨rfl, h2, k2⟩)
      refine bodyPost_end (results_none rfl _ _ _) rfl ?_
      exact ⟨rfl, .inr ⟨by rw [← hto, List.length_append]; omega, h2⟩, k1.trans k2⟩
  · go_wp2_with (go_at_call 81; refine (room_long _ _ _ _ h1).mono ?_; rintro e w2 ⟨rfl, rfl⟩)
    refine bodyPost_end (results_none rfl _ _ _) rfl ?_
    exact ⟨rfl, .inr ⟨by rw [← hto, List.length_append]; omega, h1⟩, k1⟩

theorem end_nil (w : World) : Calls Try.prog 15 #[.pointer none] w fun e w' => e = .returned (.tuple #[.slice none 0 0, .int .i64 1]) ∧ w = w' := by
  go_enter Try.func15, Try.ntmps15
  go_wp2
  go_ret2
  exact ⟨rfl, rfl⟩

theorem end_long (w : World) (o : Nat) (l : List UInt8) (Z : Nat → Prop) (h : Out w o l Z) (hl : 60000 < l.length) : Calls Try.prog 15 #[.pointer (some ⟨o, 0, none⟩)] w fun e w' => e = .returned (.tuple #[.slice none 0 0, .int .i64 3]) ∧ w = w' := by
  rcases h with ⟨v, h⟩ | ⟨h0, h⟩
  · exact absurd h.fits (by omega)
  · have f1 : w.cell? ⟨o, 1, none⟩ = some (.bool true) := by simp [World.cell?, h.head]
    go_enter Try.func15, Try.ntmps15
    go_wp2
    go_ret2
    exact ⟨rfl, rfl⟩

/-- All so far, in memory of its own. -/
theorem end_fits (w : World) (o : Nat) (l : List UInt8) (Z : Nat → Prop) (h : Out w o l Z) (hl : l.length ≤ 60000) :
    Calls Try.prog 15 #[.pointer (some ⟨o, 0, none⟩)] w fun e w' => ∃ A cap, e = .returned (.tuple #[.slice A l.length cap, .int .i64 0]) ∧ Lies w' A l.length cap l ∧ Owns 5 w' w.heap.size (.slice A l.length cap) l ∧ Below w.heap.size w w' := by
  rcases h with ⟨v, h⟩ | ⟨h0, h⟩
  · obtain ⟨A, cap, rfl, hlies⟩ := h.shape
    have f0 : w.cell? ⟨o, 0, none⟩ = some (.slice A l.length cap) := by simp [World.cell?, h.head]
    have f1 : w.cell? ⟨o, 1, none⟩ = some (.bool false) := by simp [World.cell?, h.head]
    have hC := clone_any A l.length cap l w hlies (by omega)
    clear hlies h
    go_enter Try.func15, Try.ntmps15
    go_wp2_with (go_at_call 43; refine hC.mono ?_; rintro e w1 ⟨v1, rfl, ho, hb⟩)
    go_ret2
    obtain ⟨A1, cap1, rfl, hl1, _⟩ := lies_of_owns ho
    exact ⟨A1, cap1, rfl, hl1, ho, hb⟩
  · omega

end Go.Proofs.Ytlojjodgoeclfaa
