/- VaultGoesOn's mathematics: entries made behind what is last, and that they go on. -/
import Derived.Test.YtmeoooojmhhahaaGreatVauKeeA
namespace Go.Proofs.YtmeoooojmhhahaaGreat
open Go.RowKit
set_option linter.unusedVariables false
set_option linter.unusedSimpArgs false

/-- So many entries behind an index, of one term, without bytes. -/
def moreE (i T : Int) (m : Nat) : List Ent := (List.range m).map fun (k : Nat) => ⟨i + 1 + (k : Int), T, []⟩

theorem moreE_length (i T : Int) (m : Nat) : (moreE i T m).length = m := by simp [moreE]
theorem moreE_zero (i T : Int) : moreE i T 0 = [] := rfl
theorem moreE_next (i T : Int) (m : Nat) : moreE i T (m + 1) = moreE i T m ++ [⟨i + 1 + (m : Int), T, []⟩] := by
  unfold moreE
  rw [List.range_succ, List.map_append]
  rfl
theorem moreE_at (i T : Int) (m k : Nat) (hk : k < (moreE i T m).length) : (moreE i T m)[k] = ⟨i + 1 + (k : Int), T, []⟩ := by
  simp [moreE]
theorem moreE_weigh (i T : Int) : ∀ m, weigh (moreE i T m) = 0
  | 0 => rfl
  | m + 1 => by
    rw [moreE_next, weigh_app, moreE_weigh i T m]
    rfl
theorem moreE_run {i t T : Int} {m : Nat} (hi : 0 ≤ i) (him : i + (m : Int) ≤ 1099511627776) (ht : t ≤ T) (hT : 1 ≤ T ∧ T ≤ 1099511627776) : runB i t (moreE i T m) = true := by
  refine runB_yes fun k hk => ?_
  rw [stepB_at _ _ _ _ hk, moreE_at i T m k hk]
  have hk' : k < m := by rwa [moreE_length] at hk
  have h1 : rightB (i + 1 + (k : Int)) T 0 = true := (rightB_iff _ _ _).2 ⟨by omega, by omega, by omega⟩
  have h2 : prevT t (moreE i T m) k ≤ T ∧ i + 1 + (k : Int) = prevI i (moreE i T m) k + 1 := by
    cases k with
    | zero => exact ⟨ht, by show i + 1 + ((0 : Nat) : Int) = i + 1; omega⟩
    | succ k =>
      have hk2 : k < (moreE i T m).length := by omega
      rw [(prev_next i t _ k hk2).1, (prev_next i t _ k hk2).2, moreE_at i T m k hk2]
      exact ⟨Int.le_refl _, by push_cast; omega⟩
  simp only [List.length_nil, h1, Bool.true_and, Bool.and_eq_true, decide_eq_true_eq]
  exact h2

theorem last_cases (i t : Int) (l : List Ent) : (lastI i l = i ∧ lastT t l = t ∧ l = []) ∨ ∃ e ∈ l, lastI i l = e.i ∧ lastT t l = e.t := by
  rcases List.eq_nil_or_concat l with rfl | ⟨q, f, rfl⟩
  · exact .inl ⟨rfl, rfl, rfl⟩
  · exact .inr ⟨f, by simp, by simp [lastI], by simp [lastT]⟩

/-- What is last behind a Keep that the power may have cut, opened again: below 2^39, and its term is one. -/
structure Fits (b : Ent) (out : List Ent) : Prop where
  len : out.length ≤ 10
  wei : weigh out ≤ 40000
  i0 : 0 ≤ lastI b.i out ∧ lastI b.i out ≤ 549755813888
  t0 : 0 ≤ lastT b.t out ∧ lastT b.t out ≤ 1099511627776

theorem fits_of {b : Ent} {out : List Ent} (hl : out.length ≤ 10) (hw : weigh out ≤ 40000) (hr : runB b.i b.t out = true) (hi : 0 ≤ b.i ∧ b.i ≤ 549755813888) (ht : 0 ≤ b.t ∧ b.t ≤ 1099511627776) (hm : ∀ e ∈ out, e.i ≤ 549755813888) : Fits b out := by
  refine ⟨hl, hw, ?_, ?_⟩
  · rcases last_cases b.i b.t out with ⟨e, _, _⟩ | ⟨e, he, h1, _⟩
    · rw [e]; exact hi
    · rw [h1]
      have := run_right hr e he
      have := (rightB_iff _ _ _).1 this
      exact ⟨by omega, hm e he⟩
  · rcases last_cases b.i b.t out with ⟨_, e, _⟩ | ⟨e, he, _, h1⟩
    · rw [e]; exact ht
    · rw [h1]
      have := run_right hr e he
      have := (rightB_iff _ _ _).1 this
      omega

/-- All that stand in a run behind nothing are below its last one. -/
theorem run_below {l : List Ent} (h : runB 0 0 l = true) (hl : lastI 0 l ≤ 549755813888) : ∀ e ∈ l, e.i ≤ 549755813888 := fun e he => by
  obtain ⟨k, hk, rfl⟩ := List.getElem_of_mem he
  have h1 := last_at 0 0 (l := l) (by omega)
  have h2 := run_at h k hk
  have h3 := run_at h (l.length - 1) (by omega)
  rw [← h1.1] at h3
  omega

/-- What the three ways out of a Keep leave. -/
theorem crash_fits {nx h a b : Hd} {s c : Ent} {L out : List Ent} (hL : runB 0 0 L = true) (hl : L.length ≤ 10) (hw : weigh L ≤ 40000) (hm : lastI 0 L ≤ 549755813888) (hs : 1 ≤ s.i ∧ s.i ≤ 549755813888) (ht : 1 ≤ s.t ∧ s.t ≤ 1099511627776)
    (hc : (c = s ∧ out = []) ∨ (c = snap0 ∧ out = L) ∨ (c = s ∧ out = leftE s L)) : Fits c out := by
  have hmm := run_below hL hm
  rcases hc with ⟨rfl, rfl⟩ | ⟨rfl, rfl⟩ | ⟨rfl, rfl⟩
  · exact fits_of (Nat.zero_le _) (Nat.zero_le _) rfl ⟨by omega, hs.2⟩ ⟨by omega, ht.2⟩ (fun e he => by cases he)
  · exact fits_of hl hw hL ⟨Int.le_refl 0, by decide⟩ ⟨Int.le_refl 0, by decide⟩ hmm
  · exact fits_of (Nat.le_trans (leftE_len _ _) hl) (Nat.le_trans (weigh_sub (leftE_sub _ _)) hw) (leftE_runs hL hs.1) ⟨by omega, hs.2⟩ ⟨by omega, ht.2⟩ (fun e he => hmm e (leftE_mem _ _ e he))

/-- 'append(x, y...)' onto entries that begin anywhere, as an operation. -/
theorem wpList_append_spotE (w : World) {ops : Array Oper} {rest : List Oper} {o : Oper} {a : Act} {Q : Exit → Act → World → Prop} (hgd : Region.wanted o (yielded ops a.tmps) = true) (sl x : Operand)
    (ho : o.op = .call { callee := .builtin .append, args := #[sl, x], argTypes := #[36, 36] })
    (Y : Nat → Prop) (A : Option Addr) (n cap : Nat) (l : List Ent) (h : EntSpot w Y A n cap l) (hs : a.eval sl = .slice A n cap) (B : Option Addr) (m c : Nat) (l2 : List Ent) (hE : Ents w (fun q => ¬ blkS A q) B m c l2) (hx : a.eval x = .slice B m c) (hf : n + m ≤ 1000000)
    (K : ∀ A' c' w', Ents w' (fun _ => True) A' (n + m) c' (l ++ l2) → w.os = w'.os → w.tape = w'.tape → w.output = w'.output → w.heap.size ≤ w'.heap.size → (∀ q, q < w.heap.size → ¬ blkS A q → w'.heap[q]? = w.heap[q]?) → wpList Tryz.prog ops Q rest (a.put o.dst (.slice A' (n + m) c')) w') : wpList Tryz.prog ops Q (o :: rest) a w := by
  obtain ⟨xs, ho1, hy, hxs, hok⟩ := h
  have hl2 := hE.1
  obtain ⟨ys, hys, hyok, hycell⟩ := hE.lays
  have hyl : ys.length = m := by rw [← hl2, ← hys, List.length_map]
  obtain ⟨A', c', w', hr, hsp, hq, q1, q2, q3, q4, q5⟩ := run_append_spot o.type ho1 B m c (fun e => by have := hE.2.2.1 e; have := hE.2.1; omega) hyl hycell hf
  refine wpList_step fun KK hK => ?_
  rw [if_pos hgd]
  unfold Oper.wp execOp
  simp only [ho, resolve, invoke, builtin, Sem.run_bind, Sem.run_pure, Result.andThen_ok, List.map_toArray, List.map_cons, List.map_nil, hs, hx, hr]
  refine hK _ _ (K A' c' w' ?_ q1 q2 q3 q4 q5)
  have := hsp.ents (Z := fun _ => True) (fun _ _ => trivial) (fun y hy => by
    rcases List.mem_append.1 hy with hy | hy
    · have h1 := hok y hy
      exact (h1.keep q4 fun k hk hz => q5 k hk hz.2).mono fun _ _ => trivial
    · have h1 := hyok y hy
      exact (h1.keep q4 fun k hk hz => q5 k hk hz).mono fun _ _ => trivial)
  rw [List.map_append, hxs, hys] at this
  exact this

/-- Behind an Open: the vault, and the boxes of what is hard, the snap; the entries. -/
structure GAt (G w : World) (v j d : Nat) (D : Dsk) (was : Hd) (n : Int) (Q : Nat → Prop) (pa ps : Nat) (a : Hd) (b : Ent) (Bs : Option Addr) (bc : Nat) (A : Option Addr) (c : Nat) (out : List Ent) : Prop where
  ctx : Ctx G w v j d D was n Q
  ra : w.heap[pa]? = some (.cells #[.int .i64 a.t, .int .i64 a.v] 32)
  rs : w.heap[ps]? = some (.cells #[.int .i64 b.i, .int .i64 b.t, .slice Bs b.d.length bc] 35)
  sp : EntSpot w (fun k => Q k ∧ k ≠ j ∧ k ≠ v ∧ G.heap.size ≤ k) A out.length c out
  lies : Lies w Bs b.d.length bc b.d
  lz : 0 < b.d.length → ∀ g off, Bs = some ⟨g, off, none⟩ → Q g ∧ g ≠ j ∧ g ≠ v
  qa : Q pa ∧ pa ≠ j ∧ pa ≠ v
  qs : Q ps ∧ ps ≠ j ∧ ps ≠ v

section
variable {G w w' : World} {v j d : Nat} {D D' : Dsk} {was was' : Hd} {n n' : Int} {Q : Nat → Prop} {pa ps : Nat} {a : Hd} {b : Ent} {Bs : Option Addr} {bc : Nat} {A : Option Addr} {c : Nat} {out : List Ent}
theorem GAt.below (h : GAt G w v j d D was n Q pa ps a b Bs bc A c out) (hb : Below w.heap.size w w') : GAt G w' v j d D was n Q pa ps a b Bs bc A c out :=
  ⟨h.ctx.below hb, (hb.block _ (hlt h.ra)).trans h.ra, (hb.block _ (hlt h.rs)).trans h.rs, h.sp.below hb, h.lies.below hb (Nat.le_refl _), h.lz, h.qa, h.qs⟩
theorem GAt.vdid (h : GAt G w v j d D was n Q pa ps a b Bs bc A c out) (hd : VDid w w' v j d D' was' n' Q) : GAt G w' v j d D' was' n' Q pa ps a b Bs bc A c out :=
  ⟨h.ctx.vdid hd, hd.at h.ra h.qa.1 h.qa.2.1 h.qa.2.2, hd.at h.rs h.qs.1 h.qs.2.1 h.qs.2.2, h.sp.keep hd.2.size fun k hk hy => hd.2.block k hk ⟨hy.1, hy.2.1, hy.2.2.1⟩, h.lies.keep hd.2.size fun h0 g off e hg => hd.2.block g hg (h.lz h0 g off e), h.lz, h.qa, h.qs⟩
theorem GAt.wide (h : GAt G w v j d D was n Q pa ps a b Bs bc A c out) (hb : Below w.heap.size w w') : GAt G w' v j d D was n (fun k => Q k ∨ w.heap.size ≤ k ∧ k < w'.heap.size) pa ps a b Bs bc A c out :=
  ⟨h.ctx.wide hb, (hb.block _ (hlt h.ra)).trans h.ra, (hb.block _ (hlt h.rs)).trans h.rs, (h.sp.below hb).mono fun k hk => ⟨.inl hk.1, hk.2⟩, h.lies.below hb (Nat.le_refl _), fun h0 g off e => ⟨.inl (h.lz h0 g off e).1, (h.lz h0 g off e).2⟩, ⟨.inl h.qa.1, h.qa.2⟩, ⟨.inl h.qs.1, h.qs.2⟩⟩
theorem GAt.made {w0 : World} {Z : Nat → Prop} {hd : Held} (hc : Ctx G w0 v j d D was n' Z) {v2 j2 : Nat} {Q2 : Nat → Prop} {D2 : Dsk} (ho : Opd w0 w d D2 v2 j2 hd n Z Q2 Bs bc A c) (hb : Below w.heap.size w w') (ra : w'.heap[pa]? = some (.cells #[.int .i64 hd.h.t, .int .i64 hd.h.v] 32)) (rs : w'.heap[ps]? = some (.cells #[.int .i64 hd.s.i, .int .i64 hd.s.t, .slice Bs hd.s.d.length bc] 35)) (h1 : w.heap.size ≤ pa) (h2 : w.heap.size ≤ ps) :
    GAt G w' v2 j2 d D2 hd.h n (fun k => Q2 k ∨ w.heap.size ≤ k ∧ k < w'.heap.size) pa ps hd.h hd.s Bs bc A c hd.l := by
  have hC := Ctx.opd ho hc.low hc.all
  have hj := hC.vt.lg.lt
  have hv := hC.vt.lt
  have hG := hc.low.size
  exact ⟨hC.wide hb, ra, rs, (ho.ents.below hb).mono fun k hk => ⟨.inl hk.1, hk.2.1, hk.2.2.1, by have := hk.2.2.2; omega⟩, ho.lies.below hb (Nat.le_refl _), fun h0 g off e => by have := ho.lz h0 g off e; exact ⟨.inl this.1, this.2.1, this.2.2.1⟩, ⟨.inr ⟨h1, hlt ra⟩, by omega, by omega⟩, ⟨.inr ⟨h2, hlt rs⟩, by omega, by omega⟩⟩
end

/-- The term that a law makes. -/
def termE (t term : Int) : Int := max (max t (min term 1099511627776)) 1
theorem termE_ok {t term : Int} (ht : t ≤ 1099511627776) : t ≤ termE t term ∧ 1 ≤ termE t term ∧ termE t term ≤ 1099511627776 := by
  unfold termE
  omega

theorem Ents.old {w : World} {Z : Nat → Prop} {A : Option Addr} {len cap : Nat} {l : List Ent} (h : Ents w Z A len cap l) : Ents w (fun q => Z q ∧ q < w.heap.size) A len cap l := by
  obtain ⟨h1, h2, h3, h4⟩ := h
  refine ⟨h1, h2, h3, fun h0 => ?_⟩
  obtain ⟨g, off, e, hg, hz, hc⟩ := h4 h0
  refine ⟨g, off, e, hg, ⟨hz, hg⟩, fun j hj => ?_⟩
  obtain ⟨E, c, c0, c1, c2, hm, hl, hzE⟩ := hc j hj
  exact ⟨E, c, c0, c1, c2, hm, hl, fun h0 q o eq => ⟨hzE h0 q o eq, hl.lt h0 eq⟩⟩

end Go.Proofs.YtmeoooojmhhahaaGreat
