/- An Out in memory; bytes.Clone and room, each by its contract. -/
import Derived.Test.YtipggjmndlaehaaBytArgs
import Derived.Test.YtipggjmndlaehaaClone
import Derived.Test.YtipggjmndlaehaaOctBase
import Derived.Test.YtipggjmndlaehaaRows
import Derived.WalkSpells
import Derived.WalkLawsBesides
import Derived.KernelRfl
import Derived.BigQuiet
import Derived.IntWalk
import Derived.Laws.ResultCell
import Derived.Deep.LoopGhost
namespace Go.Proofs.Ytipggjmndlaehaa
open Go.RowKit
set_option linter.unusedVariables false
set_option linter.unusedSimpArgs false

/-- An Out whose bytes are l, in the row v. -/
structure OutAt (w : World) (o : Nat) (v : Value) (l : List UInt8) (Z : Nat → Prop) : Prop where
  head : w.heap[o]? = some (.cells #[v, .bool false] 37)
  row : Owns 5 w 0 v l
  off : ∀ k, v.ownBlock = some k → k ≠ o ∧ ¬ Z k
  nz : ¬ Z o
  fits : l.length ≤ 60000

/-- An Out that was too long once. -/
structure OutLong (w : World) (o : Nat) (Z : Nat → Prop) : Prop where
  head : w.heap[o]? = some (.cells #[.slice none 0 0, .bool true] 37)
  nz : ¬ Z o

/-- An Out in which l was put. -/
def Out (w : World) (o : Nat) (l : List UInt8) (Z : Nat → Prop) : Prop := (∃ v, OutAt w o v l Z) ∨ (60000 < l.length ∧ OutLong w o Z)

section
variable {w w' : World} {o : Nat} {v v' : Value} {l new : List UInt8} {Z Z' : Nat → Prop}

theorem OutAt.keep (h : OutAt w o v l Z) (hs : w.heap.size ≤ w'.heap.size) (hk : ∀ k, k < w.heap.size → ¬ Z k → w'.heap[k]? = w.heap[k]?) : OutAt w' o v l Z := by
  exact ⟨(hk o (hlt h.head) h.nz).trans h.head, h.row.keep fun g e => hk g (h.row.lt g e).2 (h.off g e).2, h.off, h.nz, h.fits⟩

theorem OutLong.keep (h : OutLong w o Z) (hk : ∀ k, k < w.heap.size → ¬ Z k → w'.heap[k]? = w.heap[k]?) : OutLong w' o Z := ⟨(hk o (hlt h.head) h.nz).trans h.head, h.nz⟩

theorem Out.keep (h : Out w o l Z) (hs : w.heap.size ≤ w'.heap.size) (hk : ∀ k, k < w.heap.size → ¬ Z k → w'.heap[k]? = w.heap[k]?) : Out w' o l Z := by
  rcases h with ⟨v, h⟩ | ⟨h0, h⟩
  · exact .inl ⟨v, h.keep hs hk⟩
  · exact .inr ⟨h0, h.keep hk⟩

theorem Out.below (h : Out w o l Z) {B : Nat} (hb : Below B w w') (hB : w.heap.size ≤ B) : Out w' o l Z := h.keep hb.size fun k hk _ => hb.block k (Nat.lt_of_lt_of_le hk hB)

theorem Out.grown (h : Out w o l Z) {row : Option Nat} (hg : w.grownBy w' row) (hr : ∀ k, row = some k → Z k) : Out w' o l Z :=
  h.keep hg.size fun k hk hz => hg.block k hk fun e => hz (hr k e.symm)

theorem OutAt.lt (h : OutAt w o v l Z) : o < w.heap.size := hlt h.head

/-- What is not there yet is none of it. -/
theorem Out.out (h : Out w o l Z) (hZ : ∀ k, Z' k → Z k ∨ w.heap.size ≤ k) : Out w o l Z' := by
  have nz : ∀ k, k < w.heap.size → ¬ Z k → ¬ Z' k := fun k hk hz hz' => by
    rcases hZ k hz' with h | h
    · exact hz h
    · omega
  rcases h with ⟨v, h⟩ | ⟨h0, h⟩
  · exact .inl ⟨v, h.head, h.row, fun k e => ⟨(h.off k e).1, nz k (h.row.lt k e).2 (h.off k e).2⟩, nz o (hlt h.head) h.nz, h.fits⟩
  · exact .inr ⟨h0, h.head, nz o (hlt h.head) h.nz⟩

theorem OutAt.put (h : OutAt w o v l Z) (hZ : ∀ k, Z k → k < w.heap.size) (hr : Owns 5 w' 0 v' (l ++ new)) (hg : w.grownBy w' v.ownBlock) (hb : v'.ownBlock = v.ownBlock ∨ v'.ownBlock = some w.heap.size)
    (hf : (l ++ new).length ≤ 60000) : OutAt (w'.setCell ⟨o, 0, none⟩ v') o v' (l ++ new) Z ∧ Keeps Z w (w'.setCell ⟨o, 0, none⟩ v') := by
  have hlo := h.lt
  have ho : w'.heap[o]? = some (.cells #[v, .bool false] 37) := (hg.block o hlo fun e => (h.off o e.symm).1 rfl).trans h.head
  have hoff : ∀ k, v'.ownBlock = some k → k ≠ o ∧ ¬ Z k := fun k e => by
    rcases hb with hb | hb
    · exact h.off k (hb ▸ e)
    · rw [hb] at e
      injection e with e
      subst e
      exact ⟨by omega, fun hz => Nat.lt_irrefl _ (hZ _ hz)⟩
  exact ⟨⟨by rw [setCell_at _ ⟨o, 0, none⟩ _ _ _ _ rfl ho]; rfl, hr.keep fun g e => Below.heap_setCell _ _ _ _ (hoff g e).1, hoff, h.nz, hf⟩, (keeps_grown hg fun k e => (h.off k e).2).trans (keeps_setCell _ _ _ h.nz)⟩
end

theorem OutAt.puts {w : World} {o : Nat} {v : Value} {l : List UInt8} {Z : Nat → Prop} (h : OutAt w o v l Z) {w0 : World} (hk : Keeps Z w0 w) (hZ : ∀ k, Z k → k < w0.heap.size) (new : List UInt8) {w1 : World} {v1 : Value} (hr : Owns 5 w1 0 v1 (l ++ new)) (hg : w.grownBy w1 v.ownBlock)
    (hb : v1.ownBlock = v.ownBlock ∨ v1.ownBlock = some w.heap.size) (hf : (l ++ new).length ≤ 60000) (N : Nat) (hN : (l ++ new).length = N) :
    ∃ A1 cap1, v1 = .slice A1 N cap1 ∧ w1.cell? ⟨o, 0, none⟩ = some v ∧ w1.frozen? ⟨o, 0, none⟩ = false ∧ OutAt (w1.setCell ⟨o, 0, none⟩ v1) o v1 (l ++ new) Z ∧ Keeps Z w0 (w1.setCell ⟨o, 0, none⟩ v1) := by
  have hput := h.put (fun i hi => Nat.lt_of_lt_of_le (hZ i hi) hk.size) hr hg hb hf
  have ho2 : w1.heap[o]? = some (.cells #[v, .bool false] 37) := (hg.block o h.lt fun e => (h.off o e.symm).1 rfl).trans h.head
  obtain ⟨A1, cap1, e, _⟩ := lies_of_owns hr
  rw [hN] at e
  exact ⟨A1, cap1, e, by simp [World.cell?, ho2], by simp [World.frozen?, ho2], hput.1, hk.trans hput.2⟩

/-- A new Out. -/
theorem out_new (w : World) (Z : Nat → Prop) (hZ : ∀ k, Z k → k < w.heap.size) : Out (w.alloc (.cells #[.slice none 0 0, .bool false] 37)) w.heap.size [] Z :=
  .inl ⟨.slice none 0 0, heap_alloc_new _ _, Owns.nil _ _ _, (fun k e => by cases e), fun hz => Nat.lt_irrefl _ (hZ _ hz), by simp⟩

theorem own_string_at {P : Program} (w : World) (t u ty e : TypeId) (i : TypeInfo) (ht : P.underlying t = some (.slice e)) (hu : P.underlying u = some .string) (hi : P.info? e = some i) (hz : i.zero = some (.int .u8 0))
    (hsize : i.size = 1) (hby : i.bytes = 1) (v : Value) (n : Nat) (xs : List Value) (hown : w.ownsRow 0 e 1 v n xs) (s : ByteArray) (h63 : n + s.size ≤ 60000) :
    ∃ v' w', (Builtin.append_ #[t, u] ty #[v, .string s]).run P w = .ok v' w' ∧ w'.ownsRow 0 e 1 v' (n + s.size) (xs ++ Go.Lib.strCells s) ∧ w.grownBy w' v.ownBlock ∧ (v'.ownBlock = v.ownBlock ∨ v'.ownBlock = some w.heap.size) := by
  obtain ⟨v', w', hr, h2, h3, h4⟩ := Go.Lib.run_append_own_string (P := P) w 0 t u ty e i ht hu hi hz hsize hby v n xs hown s (by unfold maxLen; omega) (by omega) (Nat.zero_le _)
  refine ⟨v', w', hr, h2, h3, ?_⟩
  have hxl : xs.length = n := by simpa using hown.1
  rcases hown.2 with ⟨rfl, rfl⟩ | ⟨g, cap, cur, rfl, hbg, hg, hnc, hcm, hcs, htake⟩
  · by_cases hm : s.size = 0
    · rw [h4.2 ⟨rfl, hm⟩]; exact .inl rfl
    · have hr2 := run_append_nil_string (P := P) w t u ty e i (.int .u8 0) ht hu hi hz s (by omega) (by omega) (by rw [hby]; omega)
      rw [hr2] at hr
      injection hr with e1 _
      rw [← e1]
      exact .inr rfl
  · by_cases hroom : n + s.size ≤ cap
    · have hcs' : cur.size = cap := by simpa using hcs
      have hr2 := Go.Lib.run_append_room_string (P := P) w t u ty e i ht hu hi hsize g n cap cur hg s hroom (by omega)
      rw [hr2] at hr
      injection hr with e1 _
      rw [← e1]
      exact .inl rfl
    · have holds : ∀ j u, xs[j]? = some u → w.cell? ((⟨g, 0, none⟩ : Addr).add j) = some u := hown.cells (g := g) rfl
      have hr2 := Go.Lib.run_append_grow_string (P := P) w t u ty e i (.int .u8 0) ht hu hi hz ⟨g, 0, none⟩ n cap xs (by rw [hsize]; simpa using hxl) holds s (by omega) (by omega) (by rw [hby]; exact growslice_fits (by omega) (by omega))
      rw [hr2] at hr
      injection hr with e1 _
      rw [← e1]
      exact .inr rfl

/-- 'append(x, s...)', s a text. -/
theorem wpList_append_text {P : Program} (w : World) {ops : Array Oper} {rest : List Oper} {o : Oper} {a : Act} {Q : Exit → Act → World → Prop} (hgd : o.guard = none) (sl x : Operand) (t u : TypeId)
    (ho : o.op = .call { callee := .builtin .append, args := #[sl, x], argTypes := #[t, u] })
    (e : TypeId) (i : TypeInfo) (ht : P.underlying t = some (.slice e)) (hu : P.underlying u = some .string) (hi : P.info? e = some i) (hz : i.zero = some (.int .u8 0)) (hsize : i.size = 1) (hby : i.bytes = 1)
    (v : Value) (l : List UInt8) (hs : a.eval sl = v) (hown : Owns e w 0 v l) (s : ByteArray) (hx : a.eval x = .string s) (hf : (l ++ s.data.toList).length ≤ 60000)
    (h : ∀ v' w', Owns e w' 0 v' (l ++ s.data.toList) → w.grownBy w' v.ownBlock → (v'.ownBlock = v.ownBlock ∨ v'.ownBlock = some w.heap.size) → wpList P ops Q rest (a.put o.dst v') w') : wpList P ops Q (o :: rest) a w := by
  have hsz : s.data.toList.length = s.size := by simp
  have hl : l.length + s.size = (l ++ s.data.toList).length := by simp
  refine wpList_plain hgd fun K hK => ?_
  obtain ⟨v', w', hr, h2, h3, h4⟩ := own_string_at (P := P) w t u o.type e i ht hu hi hz hsize hby v l.length (cellsOf l) hown s (by omega)
  unfold Oper.wp execOp
  simp only [ho, resolve, invoke, builtin, Sem.run_bind, Sem.run_pure, Result.andThen_ok, List.map_toArray, List.map_cons, List.map_nil, hs, hx, hr]
  rw [hl] at h2
  rw [strCells_eq, ← List.map_append] at h2
  exact hK _ _ (h v' w' h2 h3 h4)

theorem step_append_text {P : Program} (w : World) {ops : Array Oper} {o : Oper} {a : Act} {K : Act → World → Prop} {Q : Exit → Act → World → Prop} {E : Prop} (hgd : o.guard = none) (sl x : Operand) (t u : TypeId)
    (ho : o.op = .call { callee := .builtin .append, args := #[sl, x], argTypes := #[t, u] })
    (e : TypeId) (i : TypeInfo) (ht : P.underlying t = some (.slice e)) (hu : P.underlying u = some .string) (hi : P.info? e = some i) (hz : i.zero = some (.int .u8 0)) (hsize : i.size = 1) (hby : i.bytes = 1)
    (v : Value) (l : List UInt8) (hs : a.eval sl = v) (hown : Owns e w 0 v l) (s : ByteArray) (hx : a.eval x = .string s) (hf : (l ++ s.data.toList).length ≤ 60000)
    (h : ∀ v' w', Owns e w' 0 v' (l ++ s.data.toList) → w.grownBy w' v.ownBlock → (v'.ownBlock = v.ownBlock ∨ v'.ownBlock = some w.heap.size) → K (a.put o.dst v') w') :
    if Region.wanted o (yielded ops a.tmps) = true then Oper.wp P o a w K Q else E := by
  have hsz : s.data.toList.length = s.size := by simp
  have hl : l.length + s.size = (l ++ s.data.toList).length := by simp
  have hw : Region.wanted o (yielded ops a.tmps) = true := by simp [Region.wanted, hgd]
  rw [if_pos hw]
  obtain ⟨v', w', hr, h2, h3, h4⟩ := own_string_at (P := P) w t u o.type e i ht hu hi hz hsize hby v l.length (cellsOf l) hown s (by omega)
  unfold Oper.wp execOp
  simp only [ho, resolve, invoke, builtin, Sem.run_bind, Sem.run_pure, Result.andThen_ok, List.map_toArray, List.map_cons, List.map_nil, hs, hx, hr]
  rw [hl] at h2
  rw [strCells_eq, ← List.map_append] at h2
  exact h v' w' h2 h3 h4

/- bytes.Clone -/
/- room -/
theorem room_nil (n : Int) (w : World) : Calls Try.prog 63 #[.pointer none, .int .i64 n] w fun e w' => e = .returned (.bool false) ∧ w = w' := by
  go_enter Try.func63, Try.ntmps63
  go_wp2
  go_ret
  exact ⟨rfl, rfl⟩

theorem room_long (n : Int) (w : World) (o : Nat) (Z : Nat → Prop) (h : OutLong w o Z) : Calls Try.prog 63 #[.pointer (some ⟨o, 0, none⟩), .int .i64 n] w fun e w' => e = .returned (.bool false) ∧ w = w' := by
  have f1 : w.cell? ⟨o, 1, none⟩ = some (.bool true) := by simp [World.cell?, h.head]
  go_enter Try.func63, Try.ntmps63
  go_wp2
  go_ret
  exact ⟨rfl, rfl⟩

theorem OutAt.shape {w : World} {o : Nat} {v : Value} {l : List UInt8} {Z : Nat → Prop} (h : OutAt w o v l Z) : ∃ A cap, v = .slice A l.length cap ∧ Lies w A l.length cap l := by
  obtain ⟨A, cap, e, h1, _⟩ := lies_of_owns h.row
  exact ⟨A, cap, e, h1⟩

theorem room_fits (n : Nat) (w : World) (o : Nat) (v : Value) (l : List UInt8) (Z : Nat → Prop) (h : OutAt w o v l Z) (hn : l.length + n ≤ 60000) :
    Calls Try.prog 63 #[.pointer (some ⟨o, 0, none⟩), .int .i64 (n : Int)] w fun e w' => e = .returned (.bool true) ∧ w = w' := by
  obtain ⟨A, cap, rfl, _⟩ := h.shape
  have hf := h.fits
  have f0 : w.cell? ⟨o, 0, none⟩ = some (.slice A l.length cap) := by simp [World.cell?, h.head]
  have f1 : w.cell? ⟨o, 1, none⟩ = some (.bool false) := by simp [World.cell?, h.head]
  have hw : IntKind.i64.wrap (60000 - (l.length : Int)) = 60000 - (l.length : Int) := IntWalk.i64_in _ (by omega)
  have hle : ¬ (60000 - (l.length : Int) < (n : Int)) := by omega
  go_enter Try.func63, Try.ntmps63
  go_wp2
  go_ret
  exact ⟨rfl, rfl⟩

theorem room_over (n : Nat) (w : World) (o : Nat) (v : Value) (l : List UInt8) (Z : Nat → Prop) (h : OutAt w o v l Z) (hn : 60000 < l.length + n) :
    Calls Try.prog 63 #[.pointer (some ⟨o, 0, none⟩), .int .i64 (n : Int)] w fun e w' => e = .returned (.bool false) ∧ OutLong w' o Z ∧ Keeps Z w w' := by
  obtain ⟨A, cap, rfl, _⟩ := h.shape
  have hf := h.fits
  have f0 : w.cell? ⟨o, 0, none⟩ = some (.slice A l.length cap) := by simp [World.cell?, h.head]
  have f1 : w.cell? ⟨o, 1, none⟩ = some (.bool false) := by simp [World.cell?, h.head]
  have g0 : w.frozen? ⟨o, 0, none⟩ = false := by simp [World.frozen?, h.head]
  have g1 : w.frozen? ⟨o, 1, none⟩ = false := by simp [World.frozen?, h.head]
  have hw : IntKind.i64.wrap (60000 - (l.length : Int)) = 60000 - (l.length : Int) := IntWalk.i64_in _ (by omega)
  have hle : (60000 - (l.length : Int) < (n : Int)) := by omega
  have hend : OutLong ((w.setCell ⟨o, 0, none⟩ (.slice none 0 0)).setCell ⟨o, 1, none⟩ (.bool true)) o Z := ⟨by
    rw [setCell_at _ ⟨o, 1, none⟩ _ _ _ _ rfl (setCell_at _ ⟨o, 0, none⟩ _ _ _ _ rfl h.head)]
    rfl, h.nz⟩
  have hk : Keeps Z w ((w.setCell ⟨o, 0, none⟩ (.slice none 0 0)).setCell ⟨o, 1, none⟩ (.bool true)) := (keeps_setCell _ _ _ h.nz).trans (keeps_setCell _ _ _ h.nz)
  go_enter Try.func63, Try.ntmps63
  go_wp2
  all_goals
    go_ret
    exact ⟨rfl, hend, hk⟩

end Go.Proofs.Ytipggjmndlaehaa
