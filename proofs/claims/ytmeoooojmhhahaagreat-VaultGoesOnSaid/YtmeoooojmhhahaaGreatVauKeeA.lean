/- What VaultKeeps and VaultGoesOn share: which entries go with a snap; a law's three boxes on its way; Has of what is the same. -/
import Derived.Test.YtmeoooojmhhahaaGreatVauSavA
namespace Go.Proofs.YtmeoooojmhhahaaGreat
open Go.RowKit
set_option linter.unusedVariables false
set_option linter.unusedSimpArgs false

/-- Is it the snap's? -/
def matchB (i t : Int) (g : Ent) : Bool := decide (g.i = i) && decide (g.t = t)
/-- Those behind a snap, if it goes with them. -/
def restE2 (q : Bool) (i : Int) (l : List Ent) : List Ent := if q = true then l.filter (fun g => decide (i < g.i)) else []

theorem any_next {l : List Ent} {k : Nat} (hk : k < l.length) (f : Ent → Bool) : (l.take (k + 1)).any f = ((l.take k).any f || f l[k]) := by
  rw [List.take_succ_eq_append_getElem hk, List.any_append]
  simp
theorem rest_next {l : List Ent} {k : Nat} (hk : k < l.length) (q : Bool) (i : Int) : restE2 q i (l.take (k + 1)) = restE2 q i (l.take k) ++ (if q = true ∧ i < l[k].i then [l[k]] else []) := by
  unfold restE2
  cases q with
  | false => simp
  | true =>
    rw [if_pos rfl, if_pos rfl, List.take_succ_eq_append_getElem hk, List.filter_append]
    congr 1
    by_cases h : i < l[k].i
    · rw [if_pos ⟨rfl, h⟩]; simp [h]
    · rw [if_neg (fun q => h q.2)]; simp [h]

theorem seed0 : seedS snap0 = snap0 := by unfold seedS; split <;> rfl

/-- Behind no snap the first index is 1: what goes with a snap is what has its match. -/
theorem leftE_any {l : List Ent} (h : runB 0 0 l = true) {s : Ent} (hs : 1 ≤ s.i) : leftE s l = restE2 (l.any (matchB s.i s.t)) s.i l := by
  have hw : withB s l = l.any (matchB s.i s.t) := by
    unfold withB
    cases l with
    | nil => rfl
    | cons f r =>
      have := run_at h 0 (by simp)
      simp only [List.getElem_cons_zero] at this
      have e : decide (f.i = s.i + 1) = false := decide_eq_false (by omega)
      dsimp only
      rw [e, Bool.false_or]
      rfl
  unfold leftE restE2
  rw [hw]

theorem leftE_runs {l : List Ent} (h : runB 0 0 l = true) {s : Ent} (hs : 1 ≤ s.i) : runB s.i s.t (leftE s l) = true := by
  by_cases hm : ∃ n, ∃ hn : n < l.length, l[n].i = s.i ∧ l[n].t = s.t
  · obtain ⟨n, hn, h1, h2⟩ := hm
    rw [leftE_match (run_goesOn h) n hn h1 h2]
    have e : l.take (n + 1) ++ l.drop (n + 1) = l := List.take_append_drop _ _
    have hr : runB (lastI 0 (l.take (n + 1))) (lastT 0 (l.take (n + 1))) (l.drop (n + 1)) = true := runB_tail (by rw [e]; exact h)
    have hl := last_at 0 0 (l := l.take (n + 1)) (by rw [List.length_take]; omega)
    have e2 : (l.take (n + 1))[(l.take (n + 1)).length - 1]'(by rw [List.length_take]; omega) = l[n] := by
      rw [List.getElem_take]
      congr 1
      rw [List.length_take]
      omega
    rw [e2] at hl
    rw [hl.1, hl.2, h1, h2] at hr
    exact hr
  · rw [leftE_nomatch (run_goesOn h) (fun n hn q => hm ⟨n, hn, q⟩)]
    split
    · rename_i hc
      exfalso
      cases l with
      | nil => cases hc
      | cons f r =>
        have := run_at h 0 (by simp)
        simp only [List.getElem_cons_zero] at this
        have : f.i = s.i + 1 := of_decide_eq_true hc
        omega
    · rfl

/-- A law's boxes on its way: what it kept, what is hard, the snap. -/
structure KAt (G w : World) (v j d : Nat) (D : Dsk) (was : Hd) (n : Int) (Q : Nat → Prop) (pb pn ps : Nat) (Cb Cn Cs : Array Value) : Prop where
  ctx : Ctx G w v j d D was n Q
  b : w.heap[pb]? = some (.cells Cb 47)
  m : w.heap[pn]? = some (.cells Cn 32)
  s : w.heap[ps]? = some (.cells Cs 35)
  qb : Q pb ∧ pb ≠ j ∧ pb ≠ v
  qm : Q pn ∧ pn ≠ j ∧ pn ≠ v
  qs : Q ps ∧ ps ≠ j ∧ ps ≠ v

section
variable {G w w' : World} {v j d : Nat} {D D' : Dsk} {was was' : Hd} {n n' : Int} {Q : Nat → Prop} {pb pn ps : Nat} {Cb Cn Cs : Array Value}
theorem KAt.below (h : KAt G w v j d D was n Q pb pn ps Cb Cn Cs) (hb : Below w.heap.size w w') : KAt G w' v j d D was n Q pb pn ps Cb Cn Cs :=
  ⟨h.ctx.below hb, (hb.block _ (hlt h.b)).trans h.b, (hb.block _ (hlt h.m)).trans h.m, (hb.block _ (hlt h.s)).trans h.s, h.qb, h.qm, h.qs⟩
theorem KAt.did (h : KAt G w v j d D was n Q pb pn ps Cb Cn Cs) (hd : Did w w' d D' Q) : KAt G w' v j d D' was n Q pb pn ps Cb Cn Cs :=
  ⟨h.ctx.did hd, (hd.2.block _ (hlt h.b) h.qb.1).trans h.b, (hd.2.block _ (hlt h.m) h.qm.1).trans h.m, (hd.2.block _ (hlt h.s) h.qs.1).trans h.s, h.qb, h.qm, h.qs⟩
theorem KAt.vdid (h : KAt G w v j d D was n Q pb pn ps Cb Cn Cs) (hd : VDid w w' v j d D' was' n' Q) : KAt G w' v j d D' was' n' Q pb pn ps Cb Cn Cs :=
  ⟨h.ctx.vdid hd, hd.at h.b h.qb.1 h.qb.2.1 h.qb.2.2, hd.at h.m h.qm.1 h.qm.2.1 h.qm.2.2, hd.at h.s h.qs.1 h.qs.2.1 h.qs.2.2, h.qb, h.qm, h.qs⟩
/-- More blocks are set apart. -/
theorem KAt.wide (h : KAt G w v j d D was n Q pb pn ps Cb Cn Cs) (hb : Below w.heap.size w w') : KAt G w' v j d D was n (fun k => Q k ∨ w.heap.size ≤ k ∧ k < w'.heap.size) pb pn ps Cb Cn Cs :=
  ⟨h.ctx.wide hb, (hb.block _ (hlt h.b)).trans h.b, (hb.block _ (hlt h.m)).trans h.m, (hb.block _ (hlt h.s)).trans h.s, ⟨.inl h.qb.1, h.qb.2⟩, ⟨.inl h.qm.1, h.qm.2⟩, ⟨.inl h.qs.1, h.qs.2⟩⟩
/-- Behind an Open: another vault. -/
theorem KAt.opd (h : KAt G w v j d D was n Q pb pn ps Cb Cn Cs) {D2 : Dsk} {v2 j2 : Nat} {hd : Held} {n2 : Int} {Q2 : Nat → Prop} {Bs : Option Addr} {bc : Nat} {A : Option Addr} {c : Nat} (ho : Opd w w' d D2 v2 j2 hd n2 Q Q2 Bs bc A c) : KAt G w' v2 j2 d D2 hd.h n2 Q2 pb pn ps Cb Cn Cs :=
  ⟨Ctx.opd ho h.ctx.low h.ctx.all, (ho.kp.block _ (hlt h.b) h.qb.1).trans h.b, (ho.kp.block _ (hlt h.m) h.qm.1).trans h.m, (ho.kp.block _ (hlt h.s) h.qs.1).trans h.s, ho.sub _ h.qb.1, ho.sub _ h.qm.1, ho.sub _ h.qs.1⟩
end

/-- One entry in a box of its own. -/
theorem ents_boxed {w : World} {Y : Nat → Prop} {i t : Int} {D : Option Addr} {c : Nat} {d : List UInt8} (hl : Lies w D d.length c d) (hc : c ≤ maxLen) (hz : 0 < d.length → ∀ q o, D = some ⟨q, o, none⟩ → Y q) (hy : Y w.heap.size) :
    Ents (w.alloc (.cells #[.int .i64 i, .int .i64 t, .slice D d.length c] 69)) Y (some ⟨w.heap.size, 0, none⟩) 1 1 [⟨i, t, d⟩] := by
  obtain ⟨⟨c0, c1, c2⟩, _⟩ := row3 (heap_alloc_new w (.cells #[.int .i64 i, .int .i64 t, .slice D d.length c] 69))
  refine ⟨rfl, Nat.le_refl _, (fun e => by cases e), fun _ => ⟨w.heap.size, 0, rfl, by simp, hy, fun k hk => ?_⟩⟩
  obtain rfl : k = 0 := by simpa using hk
  exact ⟨D, c, c0, c1, c2, hc, hl.below ((Below.refl w.heap.size w).alloc (Nat.le_refl _) _) (Nat.le_refl _), hz⟩

set_option maxRecDepth 100000 in
set_option maxHeartbeats 3200000 in
/-- Has of what is the same. -/
theorem has_same (w : World) (h : Hd) (s : Ent) (B : Option Addr) (c : Nat) (B2 : Option Addr) (c2 : Nat) (Z Y : Nat → Prop) (A : Option Addr) (cap : Nat) (A2 : Option Addr) (cap2 : Nat) (l : List Ent) (hl : Lies w B s.d.length c s.d) (hl2 : Lies w B2 s.d.length c2 s.d) (hE : Ents w Z A l.length cap l) (hE2 : Ents w Y A2 l.length cap2 l) (hm : l.length ≤ maxLen) :
    Calls Tryz.prog 14 #[.agg #[.int .i64 h.t, .int .i64 h.v], entV s.i s.t B s.d.length c, .slice A l.length cap, .agg #[.int .i64 h.t, .int .i64 h.v, .int .i64 s.i, .int .i64 s.t, .slice B2 s.d.length c2, .slice A2 l.length cap2]] w fun e w' => e = .returned (.bool true) ∧ Below w.heap.size w w' := by
  have hb0 : Below w.heap.size w (((w.alloc (.cells #[.int .i64 h.t, .int .i64 h.v] 32)).alloc (.cells #[.int .i64 s.i, .int .i64 s.t, .slice B s.d.length c] 35)).alloc (.cells #[.int .i64 h.t, .int .i64 h.v, .int .i64 s.i, .int .i64 s.t, .slice B2 s.d.length c2, .slice A2 l.length cap2] 47)) := (((Below.refl _ _).alloc (Nat.le_refl _) _).alloc (by simp) _).alloc (by simp; omega) _
  have m0 : (((w.alloc (.cells #[.int .i64 h.t, .int .i64 h.v] 32)).alloc (.cells #[.int .i64 s.i, .int .i64 s.t, .slice B s.d.length c] 35)).alloc (.cells #[.int .i64 h.t, .int .i64 h.v, .int .i64 s.i, .int .i64 s.t, .slice B2 s.d.length c2, .slice A2 l.length cap2] 47)).heap[w.heap.size]? = some (.cells #[.int .i64 h.t, .int .i64 h.v] 32) := (Below.heap_alloc _ _ _ (by simp; omega)).trans ((Below.heap_alloc _ _ _ (by simp)).trans (heap_alloc_new _ _))
  have m1 : (((w.alloc (.cells #[.int .i64 h.t, .int .i64 h.v] 32)).alloc (.cells #[.int .i64 s.i, .int .i64 s.t, .slice B s.d.length c] 35)).alloc (.cells #[.int .i64 h.t, .int .i64 h.v, .int .i64 s.i, .int .i64 s.t, .slice B2 s.d.length c2, .slice A2 l.length cap2] 47)).heap[w.heap.size + 1]? = some (.cells #[.int .i64 s.i, .int .i64 s.t, .slice B s.d.length c] 35) := (Below.heap_alloc _ _ _ (by simp)).trans (heap_alloc2_new _ _ _)
  have m2 : (((w.alloc (.cells #[.int .i64 h.t, .int .i64 h.v] 32)).alloc (.cells #[.int .i64 s.i, .int .i64 s.t, .slice B s.d.length c] 35)).alloc (.cells #[.int .i64 h.t, .int .i64 h.v, .int .i64 s.i, .int .i64 s.t, .slice B2 s.d.length c2, .slice A2 l.length cap2] 47)).heap[w.heap.size + 1 + 1]? = some (.cells #[.int .i64 h.t, .int .i64 h.v, .int .i64 s.i, .int .i64 s.t, .slice B2 s.d.length c2, .slice A2 l.length cap2] 47) := by
    have := heap_alloc_new ((w.alloc (.cells #[.int .i64 h.t, .int .i64 h.v] 32)).alloc (.cells #[.int .i64 s.i, .int .i64 s.t, .slice B s.d.length c] 35)) (.cells #[.int .i64 h.t, .int .i64 h.v, .int .i64 s.i, .int .i64 s.t, .slice B2 s.d.length c2, .slice A2 l.length cap2] 47)
    simp only [World.size_alloc] at this
    exact this
  have hS := sameSnapR_any s.i s.t B s.d.length c s.d s.i s.t B2 s.d.length c2 s.d (((w.alloc (.cells #[.int .i64 h.t, .int .i64 h.v] 32)).alloc (.cells #[.int .i64 s.i, .int .i64 s.t, .slice B s.d.length c] 35)).alloc (.cells #[.int .i64 h.t, .int .i64 h.v, .int .i64 s.i, .int .i64 s.t, .slice B2 s.d.length c2, .slice A2 l.length cap2] 47)) (hl.below hb0 (Nat.le_refl _)) (hl2.below hb0 (Nat.le_refl _))
  rw [oneB_self] at hS
  have hE1 := fun w1 (hb : Below w.heap.size w w1) => sameR_any Z Y A l.length cap l A2 l.length cap2 l w1 (hE.below hb (Nat.le_refl _)) (hE2.below hb (Nat.le_refl _)) hm
  rw [sameE_refl] at hE1
  have hq := eq_hardC h.t h.v h.t h.v
  rw [show (h.t == h.t && h.v == h.v) = true by simp] at hq
  obtain ⟨⟨x0, x1⟩, _⟩ := row2 m0
  obtain ⟨⟨y0, y1, y2⟩, _⟩ := row3 m1
  obtain ⟨⟨z0, z1, z2, z3, z4, z5⟩, _⟩ := row6 m2
  clear hl hl2 hE hE2
  go_enter Tryz.func14, Tryz.ntmps14
  go_wp2_with fail
  refine hS.mono ?_
  rintro e w1 ⟨rfl, hb1⟩
  have hbw := hb0.trans (hb1.mono hb0.size)
  have m2 := (hb1.block _ (hlt m2)).trans m2
  have hE3 := hE1 w1 hbw
  clear x0 x1 y0 y1 y2 z0 z1 z2 z3 z4 z5 hS hb1 hb0
  obtain ⟨⟨z0, z1, z2, z3, z4, z5⟩, _⟩ := row6 m2
  go_wp2_with fail
  refine hE3.mono ?_
  rintro e w2 ⟨rfl, hb2⟩
  go_wp2
  go_ret
  exact ⟨rfl, hbw.trans (hb2.mono hbw.size)⟩
end Go.Proofs.YtmeoooojmhhahaaGreat
