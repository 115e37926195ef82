/- What bytes messages are, what is taken of bytes; entries that a call reads into a row of its own. -/
import Derived.Test.YtlojjodgoeclfaaRmsRow
import Derived.Test.YtlojjodgoeclfaaEntBack
import Derived.Test.YtlojjodgoeclfaaEntRow
import Derived.Test.YtlojjodgoeclfaaOctMath
namespace Go.Proofs.Ytlojjodgoeclfaa
open Go.RowKit
set_option linter.unusedVariables false
set_option linter.unusedSimpArgs false

def entsBytes (ls : List Ent) : List UInt8 := ls.flatMap fun e => entBytes e.i e.t e.d

def flagL (b : Bool) : List UInt8 := [if b then 1 else 0]

/-- A message's bytes. -/
def msgL (m : Msg) : List UInt8 :=
  wide m.k.toNat 1 ++ (wide m.f.toNat 1 ++ (wide m.o.toNat 1 ++ (num8 m.t ++ (num8 m.i ++ (num8 m.l ++ (num8 m.c ++ (num8 m.x ++ (flagL m.b ++ (wide m.es.length 4 ++ (entsBytes m.es ++ if m.k = 7 then snapBytes m.s.i m.s.t m.s.d else []))))))))))

def msgBytes (m : Msg) : List UInt8 := if rightM m = true then msgL m else [0]

/-- So many entries, taken one behind the other. -/
def stepsN (s : St) : Nat → List Ent × St
  | 0 => ([], s)
  | j + 1 => ((stepsN s j).1 ++ [⟨(fromN rightB (stepsN s j).2 12000).i, (fromN rightB (stepsN s j).2 12000).t, (fromN rightB (stepsN s j).2 12000).d⟩], (fromN rightB (stepsN s j).2 12000).s)

def lastN (k : Int) (s : St) : FromL := if k = 7 then fromN snapB s 50000 else ⟨0, 0, [], s⟩

def takeM (s : St) : Msg × St :=
  let k := numberN s 1
  let f := numberN k.2 1
  let o := numberN f.2 1
  let t := numberN o.2 8
  let i := numberN t.2 8
  let l := numberN i.2 8
  let c := numberN l.2 8
  let x := numberN c.2 8
  let b := flagN x.2
  let n := countN b.2 4
  let es := stepsN n.2 n.1
  let q := lastN (k.1 : Int) es.2
  (⟨(k.1 : Int), (f.1 : Int), (o.1 : Int), IntKind.i64.wrap (t.1 : Int), IntKind.i64.wrap (i.1 : Int), IntKind.i64.wrap (l.1 : Int), IntKind.i64.wrap (c.1 : Int), IntKind.i64.wrap (x.1 : Int), b.1, es.1, ⟨q.i, q.t, q.d⟩⟩, q.s)

def fromM (s : St) : Msg × St := if (takeM s).2 ≠ none ∧ rightM (takeM s).1 = true then takeM s else (Msg.zero, none)

theorem left_from (ok : Int → Int → Nat → Bool) (s : St) (most : Int) {b : Nat} (h : left s ≤ b) : left (fromN ok s most).s ≤ b := by
  have h2 : left (takenN s most).s ≤ b := left_text _ most (left_number _ 8 (left_number s 8 h))
  unfold fromN
  split
  · simp [left]
  · split
    · exact h2
    · simp [left]

theorem left_flag (s : St) {b : Nat} (h : left s ≤ b) : left (flagN s).2 ≤ b := by
  unfold flagN
  split
  · simp [left]
  · exact left_number s 1 h

theorem left_count (s : St) (m : Int) {b : Nat} (h : left s ≤ b) : left (countN s m).2 ≤ b := by
  unfold countN
  split
  · simp [left]
  · exact left_number s 4 h

theorem left_steps (s : St) {b : Nat} (h : left s ≤ b) : ∀ j, left (stepsN s j).2 ≤ b
  | 0 => h
  | j + 1 => left_from _ _ _ (left_steps s h j)

theorem left_last (k : Int) (s : St) {b : Nat} (h : left s ≤ b) : left (lastN k s).s ≤ b := by
  unfold lastN
  split
  · exact left_from _ _ _ h
  · exact h

theorem left_takeM (s : St) {b : Nat} (h : left s ≤ b) : left (takeM s).2 ≤ b :=
  left_last _ _ (left_steps _ (left_count _ _ (left_flag _ (left_number _ 8 (left_number _ 8 (left_number _ 8 (left_number _ 8 (left_number _ 8 (left_number _ 1 (left_number _ 1 (left_number s 1 h))))))))))  _)

theorem left_fromM (s : St) {b : Nat} (h : left s ≤ b) : left (fromM s).2 ≤ b := by
  unfold fromM
  split
  · exact left_takeM s h
  · simp [left]

theorem steps_len (s : St) : ∀ j, (stepsN s j).1.length = j
  | 0 => rfl
  | j + 1 => by simp [stepsN, steps_len s j]

theorem count_le (s : St) : (countN s 4).1 ≤ 4 := by
  unfold countN
  split
  · simp
  · omega

/- there and back -/
theorem right_nums {m : Msg} (h : rightM m = true) : (1 ≤ m.k ∧ m.k ≤ 7) ∧ (0 ≤ m.f ∧ m.f ≤ 2) ∧ (0 ≤ m.o ∧ m.o ≤ 2) ∧ (1 ≤ m.t ∧ m.t ≤ 1099511627776) ∧ (0 ≤ m.i ∧ m.i ≤ 1099511627776) ∧ (0 ≤ m.l ∧ m.l ≤ 1099511627776) ∧ (0 ≤ m.c ∧ m.c ≤ 1099511627776) ∧ (0 ≤ m.x ∧ m.x ≤ 1099511627776) ∧
    m.es.length ≤ 4 ∧ runB m.i m.l m.es = true ∧ (m.k = 7 → snapB m.s.i m.s.t m.s.d.length = true) ∧ (m.k ≠ 7 → m.s.i = 0 ∧ m.s.t = 0 ∧ m.s.d = []) ∧ (m.k ≠ 5 → m.es.length = 0) := by
  unfold rightM at h
  simp only [Bool.and_eq_true, decide_eq_true_eq] at h
  obtain ⟨hh, ⟨hn, hb⟩, ⟨h4, hr⟩, _, hw⟩ := h
  have hh := (headB_iff _ _ _ _).1 hh
  unfold numsB at hn
  simp only [Bool.and_eq_true] at hn
  obtain ⟨n1, n2, n3, n4, n5⟩ := hn
  have n1 := (numZ_iff _).1 n1
  have n2 := (numZ_iff _).1 n2
  have n3 := (numZ_iff _).1 n3
  have n4 := (numZ_iff _).1 n4
  have n5 := (numZ_iff _).1 n5
  refine ⟨by omega, by omega, by omega, by omega, n2, n3, n4, n5, h4, hr, fun h7 => ?_, fun h7 => ?_, fun h5 => ?_⟩
  · unfold wholeB at hw
    rw [Bool.or_eq_true, Bool.and_eq_true, decide_eq_true_eq] at hw
    rcases hw with q | q
    · exact absurd h7 q
    · exact q.1
  · unfold bareB at hb
    simp only [Bool.and_eq_true, Bool.or_eq_true, decide_eq_true_eq] at hb
    rcases hb.2.2.2.2.2 with q | q
    · exact absurd q h7
    · exact ⟨q.1, q.2.1, List.eq_nil_of_length_eq_zero q.2.2⟩
  · unfold bareB at hb
    simp only [Bool.and_eq_true, Bool.or_eq_true, decide_eq_true_eq] at hb
    rcases hb.2.2.1 with q | q
    · exact absurd q h5
    · exact q.2

theorem byte_back (n : Int) (h : 0 ≤ n ∧ n < 256) (r : List UInt8) : numberN (some (wide n.toNat 1 ++ r)) 1 = (n.toNat, some r) := by
  rw [numberN_wide, Nat.mod_eq_of_lt (by omega)]

theorem flag_back (b : Bool) (r : List UInt8) : flagN (some (flagL b ++ r)) = (b, some r) := by
  cases b <;> simp [flagN, flagL, numberN, takeN, num]

theorem ents_cons (e : Ent) (ls : List Ent) : entsBytes (e :: ls) = entBytes e.i e.t e.d ++ entsBytes ls := rfl

theorem ents_len (ls : List Ent) : ls.length ≤ (entsBytes ls).length := by
  induction ls with
  | nil => exact Nat.le_refl _
  | cons e ls ih =>
    rw [ents_cons, List.length_append, List.length_cons]
    have : 20 ≤ (entBytes e.i e.t e.d).length := by
      unfold entBytes
      split
      · rw [threeL_length]; omega
      · simp
    omega

theorem count_back (n : Nat) (r : List UInt8) (h4 : n ≤ 4) (hr : n ≤ r.length) : countN (some (wide n 4 ++ r)) 4 = (n, some r) := by
  refine countN_yes (s' := some r) ?_ (by omega) hr
  rw [numberN_wide, Nat.mod_eq_of_lt (by omega)]

theorem steps_back (ls : List Ent) (r : List UInt8) (h : ∀ e ∈ ls, rightB e.i e.t e.d.length = true) : ∀ j, j ≤ ls.length → stepsN (some (entsBytes ls ++ r)) j = (ls.take j, some (entsBytes (ls.drop j) ++ r))
  | 0, _ => by simp [stepsN]
  | j + 1, hj => by
    have ih := steps_back ls r h j (by omega)
    have hlt : j < ls.length := by omega
    have hd : ls.drop j = ls[j] :: ls.drop (j + 1) := List.drop_eq_getElem_cons hlt
    have hr := h _ (List.getElem_mem hlt)
    have hn := rightB_nums hr
    have hf : fromN rightB (some (entsBytes (ls.drop j) ++ r)) 12000 = ⟨ls[j].i, ls[j].t, ls[j].d, some (entsBytes (ls.drop (j + 1)) ++ r)⟩ := by
      rw [hd, ents_cons, List.append_assoc]
      rw [show entBytes ls[j].i ls[j].t ls[j].d = threeL ls[j].i ls[j].t ls[j].d from by rw [entBytes_of, if_pos hr]]
      exact from_back rightB _ _ _ _ 12000 hn.1 hn.2.1 (by omega) (by omega) hr
    simp only [stepsN, ih, hf]
    rw [← List.take_append_getElem hlt]

theorem run_all {i t : Int} {ls : List Ent} (h : runB i t ls = true) : ∀ e ∈ ls, rightB e.i e.t e.d.length = true := by
  intro e he
  obtain ⟨j, hj, rfl⟩ := List.getElem_of_mem he
  have := runB_at h j hj
  rw [stepB_at i t ls j hj, Bool.and_eq_true] at this
  exact this.1

theorem take_back (m : Msg) (r : List UInt8) (h : rightM m = true) : takeM (some (msgL m ++ r)) = (m, some r) := by
  obtain ⟨hk, hf, ho, ht, hi, hl, hc, hx, h4, hr, h7, h8, _⟩ := right_nums h
  unfold msgL
  simp only [List.append_assoc]
  have a1 := fun r => byte_back m.k (by omega) r
  have a2 := fun r => byte_back m.f (by omega) r
  have a3 := fun r => byte_back m.o (by omega) r
  have b1 := fun r => num8_back m.t (by omega) r
  have b2 := fun r => num8_back m.i (by omega) r
  have b3 := fun r => num8_back m.l (by omega) r
  have b4 := fun r => num8_back m.c (by omega) r
  have b5 := fun r => num8_back m.x (by omega) r
  have c1 := fun r => flag_back m.b r
  have c2 := fun r hr => count_back m.es.length r h4 hr
  have c3 := fun r => steps_back m.es r (run_all hr) m.es.length (Nat.le_refl _)
  have e1 := (b1 []).2
  have e2 := (b2 []).2
  have e3 := (b3 []).2
  have e4 := (b4 []).2
  have e5 := (b5 []).2
  have hlast : lastN m.k (some ((if m.k = 7 then snapBytes m.s.i m.s.t m.s.d else []) ++ r)) = ⟨m.s.i, m.s.t, m.s.d, some r⟩ := by
    unfold lastN
    by_cases q : m.k = 7
    · rw [if_pos q, if_pos q]
      have hs := h7 q
      have hn := snapB_nums hs
      rw [show snapBytes m.s.i m.s.t m.s.d = threeL m.s.i m.s.t m.s.d from by rw [snapBytes_of, if_pos hs]]
      exact from_back snapB _ _ _ _ 50000 hn.1 hn.2.1 (by omega) (by omega) hs
    · rw [if_neg q, if_neg q]
      obtain ⟨q1, q2, q3⟩ := h8 q
      rw [q1, q2, q3]
      rfl
  have k1 : ((m.k.toNat : Nat) : Int) = m.k := Int.toNat_of_nonneg (by omega)
  have k2 : ((m.f.toNat : Nat) : Int) = m.f := Int.toNat_of_nonneg (by omega)
  have k3 : ((m.o.toNat : Nat) : Int) = m.o := Int.toNat_of_nonneg (by omega)
  unfold takeM
  rw [a1]
  dsimp only
  rw [a2]
  dsimp only
  rw [a3]
  dsimp only
  rw [(b1 _).1]
  dsimp only
  rw [(b2 _).1]
  dsimp only
  rw [(b3 _).1]
  dsimp only
  rw [(b4 _).1]
  dsimp only
  rw [(b5 _).1]
  dsimp only
  rw [c1]
  dsimp only
  rw [c2 _ (by have := ents_len m.es; rw [List.length_append]; omega)]
  dsimp only
  rw [c3]
  dsimp only
  rw [List.drop_length, show entsBytes [] = [] from rfl, List.nil_append, k1, hlast, k2, k3, e1, e2, e3, e4, e5, List.take_length]

theorem from_backM (m : Msg) (r : List UInt8) (h : rightM m = true) : fromM (some (msgL m ++ r)) = (m, some r) := by
  unfold fromM
  rw [take_back m r h, if_pos ⟨by simp, h⟩]

theorem weigh_sum (ls : List Ent) : (entsBytes ls).length ≤ 20 * ls.length + weigh ls := by
  induction ls with
  | nil => exact Nat.le_refl _
  | cons e ls ih =>
    rw [ents_cons, List.length_append, List.length_cons]
    have h1 := entBytes_length (i := e.i) (t := e.t) (d := e.d)
    have h2 : weigh (e :: ls) = e.d.length + weigh ls := rfl
    omega

theorem from_zero : (takeM (some [0])).2 = none := by decide +kernel

theorem from_zeroM : fromM (some [0]) = (Msg.zero, none) := by
  unfold fromM
  rw [if_neg (by rw [from_zero]; simp)]

theorem fromM_right (s : St) (h : (fromM s).2 ≠ none) : rightM (fromM s).1 = true := by
  unfold fromM at *
  split at h
  · rename_i q
    rw [if_pos q]
    exact q.2
  · exact absurd rfl h

/- entries that are read into a row -/
def Taken (w : World) (base : Nat) (v : Value) (ls : List Ent) : Prop :=
  ∃ xs : List Lay, xs.map (·.e) = ls ∧ w.ownsRow base 58 3 v ls.length (rowOf xs) ∧ ∀ x ∈ xs, LayOk w (fun k => base ≤ k ∧ k < w.heap.size ∧ v.ownBlock ≠ some k) x

theorem Taken.nil (w : World) (base : Nat) : Taken w base (.slice none 0 0) [] := ⟨[], rfl, World.ownsRow_nil _ _ _ _, fun x hx => by simp at hx⟩

theorem Taken.keep {w w' : World} {base : Nat} {v : Value} {ls : List Ent} (h : Taken w base v ls) (hs : w.heap.size ≤ w'.heap.size) (hk : ∀ k, base ≤ k → k < w.heap.size → w'.heap[k]? = w.heap[k]?) : Taken w' base v ls := by
  obtain ⟨xs, h1, h2, h3⟩ := h
  refine ⟨xs, h1, owns_heap h2 (fun g hg => hk g (World.ownsRow.lt h2 g hg).1 (World.ownsRow.lt h2 g hg).2), fun x hx => ?_⟩
  exact ((h3 x hx).keep hs fun k hk1 hk2 => hk k hk2.1 hk1).mono fun k hk => ⟨hk.1, Nat.lt_of_lt_of_le hk.2.1 hs, hk.2.2⟩

theorem Taken.ents {w : World} {base : Nat} {v : Value} {ls : List Ent} (h : Taken w base v ls) : ∃ A cA, v = .slice A ls.length cA ∧ cA ≤ maxLen ∧ Ents w (fun k => base ≤ k) A ls.length cA ls := by
  obtain ⟨xs, h1, h2, h3⟩ := h
  have h4 : xs.length = ls.length := by rw [← h1, List.length_map]
  rcases h2.2 with ⟨hv, hn⟩ | ⟨g, cap, cur, hv, hb, hg, hnc, hcm, _⟩
  · have hl : ls.length = 0 := hn
    obtain rfl := List.eq_nil_of_length_eq_zero hl
    exact ⟨none, 0, by rw [hv]; rfl, Nat.zero_le _, ents_nil w _⟩
  · subst hv
    refine ⟨some ⟨g, 0, none⟩, cap, rfl, hcm, ?_⟩
    have := Ents.ofRow (Z := fun k => base ≤ k) h2 h4 hb (fun x hx => (h3 x hx).mono fun k hk => hk.1)
    rw [h1] at this
    exact this

theorem Taken.grow {w w' : World} {base : Nat} {v v' : Value} {ls : List Ent} {xs : List Lay} (h1 : xs.map (·.e) = ls) (hlt : ∀ k, v.ownBlock = some k → k < w.heap.size) (h3 : ∀ x ∈ xs, LayOk w (fun k => base ≤ k ∧ k < w.heap.size ∧ v.ownBlock ≠ some k) x) (y : Lay) (hy : LayOk w (fun k => base ≤ k ∧ k < w.heap.size ∧ v.ownBlock ≠ some k) y)
    (ho : w'.ownsRow base 58 3 v' (ls.length + 1) (rowOf xs ++ rowOf [y])) (hg : w.grownBy w' v.ownBlock) (hq : v'.ownBlock = v.ownBlock ∨ v'.ownBlock = some w.heap.size) : Taken w' base v' (ls ++ [y.e]) := by
  refine ⟨xs ++ [y], by simp [h1], ?_, fun x hx => ?_⟩
  · rw [List.length_append, List.length_singleton, show rowOf (xs ++ [y]) = rowOf xs ++ rowOf [y] from by simp [rowOf]]
    exact ho
  · have hx' : LayOk w (fun k => base ≤ k ∧ k < w.heap.size ∧ v.ownBlock ≠ some k) x := by
      rcases List.mem_append.1 hx with h | h
      · exact h3 x h
      · obtain rfl : x = y := by simpa using h
        exact hy
    refine (hx'.keep hg.size fun k hk1 hk2 => hg.block k hk1 fun e => hk2.2.2 e.symm).mono fun k hk => ⟨hk.1, Nat.lt_of_lt_of_le hk.2.1 hg.size, fun e => ?_⟩
    rcases hq with q | q
    · exact hk.2.2 (q.symm.trans e)
    · rw [q] at e
      injection e with e
      have := hk.2.1
      omega

theorem step_append_ents (w : World) {ops : Array Oper} {o : Oper} {a : Act} {K : Act → World → Prop} {Q : Exit → Act → World → Prop} {E : Prop} (hgd : o.guard = none) (sl x : Operand)
    (ho : o.op = .call { callee := .builtin .append, args := #[sl, x], argTypes := #[22, 22] })
    (base : Nat) (hbase : base ≤ w.heap.size) (v : Value) (n : Nat) (row : List Value) (hs : a.eval sl = v) (hown : w.ownsRow base 58 3 v n row) (b : Addr) (len cap : Nat) (xs : List Lay) (hx : a.eval x = .slice (some b) len cap) (hl : xs.length = len)
    (hcell : ∀ j u, (rowOf xs)[j]? = some u → w.cell? (b.add j) = some u) (hf : n + len ≤ 1000000)
    (h : ∀ v' w', w'.ownsRow base 58 3 v' (n + len) (row ++ rowOf xs) → w.grownBy w' v.ownBlock → (v'.ownBlock = v.ownBlock ∨ v'.ownBlock = some w.heap.size) → K (a.put o.dst v') w') :
    if Region.wanted o (yielded ops a.tmps) = true then Oper.wp Try.prog o a w K Q else E := by
  have hw : Region.wanted o (yielded ops a.tmps) = true := by simp [Region.wanted, hgd]
  rw [if_pos hw]
  obtain ⟨i0, hi0, hz0, hz1, hz2⟩ := info_parts info_ent
  obtain ⟨v', w', hr, h2, h3, _, h4⟩ := run_append_own_at (P := Try.prog) w base 22 o.type 58 i0 _ 3 40 Try.underlying22 hi0 hz0 hz1 hz2 rfl (by omega) v n row hown b len cap (rowOf xs) (by rw [rowOf_length, hl]) hcell (rowOf_one xs) (by unfold maxLen; omega) (by omega) hbase
  unfold Oper.wp execOp
  simp only [ho, resolve, invoke, builtin, Sem.run_bind, Sem.run_pure, Result.andThen_ok, List.map_toArray, List.map_cons, List.map_nil, hs, hx, hr]
  exact h v' w' h2 h3 h4

theorem cells_oneE {w : World} {g : Nat} {T : TypeId} (x : Lay) (h : w.heap[g]? = some (.cells #[.int .i64 x.e.i, .int .i64 x.e.t, .slice x.A x.e.d.length x.c] T)) : ∀ j u, (rowOf [x])[j]? = some u → w.cell? ((⟨g, 0, none⟩ : Addr).add j) = some u := by
  intro j u hu
  rw [Addr.add_lit, Nat.zero_add, cell_of_row _ _ _ _ _ _ h]
  simpa [rowOf, cells3] using hu

end Go.Proofs.Ytlojjodgoeclfaa
