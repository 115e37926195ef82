/- filled: a disk with a vault in which a snap was kept, and entries saved behind it, by its contract. (Written by mkfil.py.) -/
import Derived.Test.YtmeoooojmhhahaaGreatVauP5
namespace Go.Proofs.YtmeoooojmhhahaaGreat
open Go.RowKit
set_option linter.unusedVariables false
set_option linter.unusedSimpArgs false

section
variable {P : Program} {fn : Func} {p q u r s : Tmp} {T : TypeId} {W : World} {n : Nat} {cs : Array Value} {fr : Nat × Nat} {d : TypeDesc} {tmps : Array Value}
theorem resultsV_ttc (h : fn.results = #[.tmp u, .tmp r, .cell p T]) (tmps : Array Value) (P : Program) (w : World) :
    (results fn tmps).run P w = ((asAddr (tmps.getD p undef)).run P w).andThen fun a w₁ => ((loadVar T a).run P w₁).andThen fun v w₂ => .ok (.tuple #[tmps.getD u undef, tmps.getD r undef, v]) w₂ := by
  simp only [results, h]
  simp [Sem.run_bind, Result.andThen]
theorem res_tmp_tmp_cell (h : fn.results = #[.tmp u, .tmp r, .cell p T]) (h1 : tmps.getD p undef = .pointer (some ⟨n, 0, none⟩)) (hW : W.heap[n]? = some (.cells cs T fr)) (hu : P.underlying T = some d)
    (hd : (match d with | .struct _ | .array _ _ => true | _ => false) = true) (hi : (P.info? T).map (·.size) = some cs.size) : (results fn tmps).run P W = .ok (.tuple #[tmps.getD u undef, tmps.getD r undef, .agg cs]) W := by
  rw [resultsV_ttc h, h1]
  simp [asAddr, run_loadVar_row W n T T cs fr d hW hu hd hi]
end

theorem ents_none (w : World) (Z : Nat → Prop) : Ents w Z none 0 0 [] := ⟨rfl, Nat.le_refl _, fun _ => rfl, fun h0 => absurd h0 (by omega)⟩

theorem ctx_set {W w : World} {v j d : Nat} {D : Dsk} {was : Hd} {n : Int} {Z : Nat → Prop} (c : Ctx W w v j d D was n Z) {g o : Nat} (hz : Z g) (hv : g ≠ v) (hj : g ≠ j) (hg : W.heap.size ≤ g) (x : Value) : Ctx W (w.setCell ⟨g, o, none⟩ x) v j d D was n Z := by
  have far : ∀ k, k ≠ g → (w.setCell ⟨g, o, none⟩ x).heap[k]? = w.heap[k]? := fun k hk => Below.heap_setCell _ _ _ _ (by exact hk)
  exact ⟨⟨(far _ hv.symm).trans c.vt.box, ⟨(far _ hj.symm).trans c.vt.lg.box, c.vt.lg.dk.keep (by simp) fun k _ hk => far k (fun e => hk (e ▸ hz)), c.vt.lg.own⟩, c.vt.own, c.vt.ne⟩, c.low.setCell hg _, c.all, c.newv, c.newj⟩

theorem ctx_row {W w X : World} {v j d : Nat} {D : Dsk} {was : Hd} {n : Int} {Z : Nat → Prop} (c : Ctx W w v j d D was n Z) {g : Nat} (hz : Z g) (hv : g ≠ v) (hj : g ≠ j) (hg : W.heap.size ≤ g) (hX : Below W.heap.size w X) (hs : X.heap.size = w.heap.size) (far : ∀ k, k ≠ g → X.heap[k]? = w.heap[k]?) : Ctx W X v j d D was n Z :=
  ⟨⟨(far _ hv.symm).trans c.vt.box, ⟨(far _ hj.symm).trans c.vt.lg.box, c.vt.lg.dk.keep (Nat.le_of_eq hs.symm) fun k _ hk => far k (fun e => hk (e ▸ hz)), c.vt.lg.own⟩, c.vt.own, c.vt.ne⟩, c.low.trans hX, c.all, c.newv, c.newj⟩

theorem fil_rows {X : World} {pb pr : Nat} {a0 a1 a2 a3 a4 a5 c0 c1 c2 c3 c4 c5 : Value} {T1 T2 : TypeId} (rb : X.heap[pb]? = some (.cells #[a0, a1, a2, a3, a4, a5] T1)) (rr : X.heap[pr]? = some (.cells #[c0, c1, c2, c3, c4, c5] T2)) :
    X.cell? ⟨pb, 0, none⟩ = some a0 ∧ X.cell? ⟨pb, 1, none⟩ = some a1 ∧ X.cell? ⟨pb, 2, none⟩ = some a2 ∧ X.cell? ⟨pb, 3, none⟩ = some a3 ∧ X.cell? ⟨pb, 4, none⟩ = some a4 ∧ X.cell? ⟨pb, 5, none⟩ = some a5 ∧
    X.frozen? ⟨pr, 0, none⟩ = false ∧ X.frozen? ⟨pr, 1, none⟩ = false ∧ X.frozen? ⟨pr, 2, none⟩ = false ∧ X.frozen? ⟨pr, 3, none⟩ = false ∧ X.frozen? ⟨pr, 4, none⟩ = false ∧ X.frozen? ⟨pr, 5, none⟩ = false := by
  obtain ⟨⟨x0, x1, x2, x3, x4, x5⟩, _⟩ := row6 rb
  obtain ⟨_, ⟨f0, f1, f2, f3, f4, f5⟩⟩ := row6 rr
  exact ⟨x0, x1, x2, x3, x4, x5, f0, f1, f2, f3, f4, f5⟩

/-- The answer is stored. -/
theorem fil_last {W w : World} {v j d : Nat} {D : Dsk} {was : Hd} {n : Int} {Z : Nat → Prop} {pb pr : Nat} {C0 C1 : Array Value} {T1 T2 : TypeId} (c : Ctx W w v j d D was n Z) (b0 : w.heap[pb]? = some (.cells C0 T1)) (r0 : w.heap[pr]? = some (.cells C1 T2)) (hz : Z pr) (hv : pr ≠ v) (hj : pr ≠ j) (hp : pb ≠ pr) (hg : W.heap.size ≤ pr) (cv : Array Value) :
    (w.drew.setRow pr cv).heap[pr]? = some (.cells cv T2) ∧ (w.drew.setRow pr cv).heap[pb]? = some (.cells C0 T1) ∧ Ctx W (w.drew.setRow pr cv) v j d D was n Z :=
  ⟨setRow_heap _ _ _ _ _ _ r0, (setRow_other _ _ _ _ hp).trans b0, ctx_row c hz hv hj hg (below_setRow (Below.refl _ _).drew hg _) (by rw [setRow_size]; rfl) fun k hk => setRow_other _ _ _ _ hk⟩

/-- What filled keeps: the snap, and the entries. -/
def seedS (s : Ent) : Ent := if snapB s.i s.t s.d.length = true ∧ 0 < s.i then s else snap0
def seedL (s : Ent) (l : List Ent) : List Ent := if runB s.i s.t l = true then l else []

def FilledP (W : World) (h : Hd) (s : Ent) (l : List Ent) (e : Ending) (w : World) : Prop :=
  ∃ d v j D n Z x ls B c A cap S L, S = seedS s ∧ L = seedL S l ∧ e = .returned (.tuple #[dptr d, .pointer (some ⟨v, 0, none⟩), .agg #[.int .i64 h.t, .int .i64 h.v, .int .i64 S.i, .int .i64 S.t, .slice B S.d.length c, .slice A L.length cap]]) ∧
    Ctx W w v j d D h n Z ∧ (0 ≤ n ∧ n ≤ 20100) ∧ Kept D none h S L 60000 x ls ∧ Lies w B S.d.length c S.d ∧ (0 < S.d.length → ∀ g off, B = some ⟨g, off, none⟩ → g < W.heap.size) ∧ Ents w (· < W.heap.size) A L.length cap L

set_option maxRecDepth 100000 in
set_option maxHeartbeats 16000000 in
theorem filled_any (W : World) (h : Hd) (hh : rightH h = true) (s : Ent) (B : Option Addr) (c : Nat) (A : Option Addr) (len cap : Nat) (l : List Ent) (hl : Lies W B s.d.length c s.d) (hE : Ents W (· < W.heap.size) A len cap l) (hs : s.d.length ≤ 2000) (hf : fewE l 10 = true) :
    Calls Tryz.prog 23 #[.agg #[.int .i64 h.t, .int .i64 h.v], entV s.i s.t B s.d.length c, .slice A len cap] W (FilledP W h s l) := by
  obtain rfl := hE.1
  obtain ⟨hf1, hf2, _⟩ := few_parts hf
  have hb0 : Below W.heap.size W (((W.alloc (.cells #[.int .i64 h.t, .int .i64 h.v] 32)).alloc (.cells #[.int .i64 s.i, .int .i64 s.t, .slice B s.d.length c] 35)).alloc (.cells #[.int .i64 0, .int .i64 0, .int .i64 0, .int .i64 0, .slice none 0 0, .slice none 0 0] 47)) := (((Below.refl _ _).alloc (Nat.le_refl _) _).alloc (by simp) _).alloc (by simp; omega) _
  have m0 : (((W.alloc (.cells #[.int .i64 h.t, .int .i64 h.v] 32)).alloc (.cells #[.int .i64 s.i, .int .i64 s.t, .slice B s.d.length c] 35)).alloc (.cells #[.int .i64 0, .int .i64 0, .int .i64 0, .int .i64 0, .slice none 0 0, .slice none 0 0] 47)).heap[W.heap.size]? = some (.cells #[.int .i64 h.t, .int .i64 h.v] 32) := (Below.heap_alloc _ _ _ (by simp; omega)).trans ((Below.heap_alloc _ _ _ (by simp)).trans (heap_alloc_new _ _))
  have m1 : (((W.alloc (.cells #[.int .i64 h.t, .int .i64 h.v] 32)).alloc (.cells #[.int .i64 s.i, .int .i64 s.t, .slice B s.d.length c] 35)).alloc (.cells #[.int .i64 0, .int .i64 0, .int .i64 0, .int .i64 0, .slice none 0 0, .slice none 0 0] 47)).heap[W.heap.size + 1]? = some (.cells #[.int .i64 s.i, .int .i64 s.t, .slice B s.d.length c] 35) := (Below.heap_alloc _ _ _ (by simp)).trans (heap_alloc2_new _ _ _)
  have r0 : (((W.alloc (.cells #[.int .i64 h.t, .int .i64 h.v] 32)).alloc (.cells #[.int .i64 s.i, .int .i64 s.t, .slice B s.d.length c] 35)).alloc (.cells #[.int .i64 0, .int .i64 0, .int .i64 0, .int .i64 0, .slice none 0 0, .slice none 0 0] 47)).heap[W.heap.size + 1 + 1]? = some (.cells #[.int .i64 0, .int .i64 0, .int .i64 0, .int .i64 0, .slice none 0 0, .slice none 0 0] 47) := by
    have := heap_alloc_new ((W.alloc (.cells #[.int .i64 h.t, .int .i64 h.v] 32)).alloc (.cells #[.int .i64 s.i, .int .i64 s.t, .slice B s.d.length c] 35)) (.cells #[.int .i64 0, .int .i64 0, .int .i64 0, .int .i64 0, .slice none 0 0, .slice none 0 0] 47)
    simp only [World.size_alloc] at this
    exact this
  have hzs : (((W.alloc (.cells #[.int .i64 h.t, .int .i64 h.v] 32)).alloc (.cells #[.int .i64 s.i, .int .i64 s.t, .slice B s.d.length c] 35)).alloc (.cells #[.int .i64 0, .int .i64 0, .int .i64 0, .int .i64 0, .slice none 0 0, .slice none 0 0] 47)).heap.size = W.heap.size + 3 := by simp
  have hN := dsk_new (((W.alloc (.cells #[.int .i64 h.t, .int .i64 h.v] 32)).alloc (.cells #[.int .i64 s.i, .int .i64 s.t, .slice B s.d.length c] 35)).alloc (.cells #[.int .i64 0, .int .i64 0, .int .i64 0, .int .i64 0, .slice none 0 0, .slice none 0 0] 47)) (· < W.heap.size + 3) 1048576 (fun k hk => by rw [hzs]; exact hk) (by omega) (by omega)
  have hSP := fun W => snapR_is s.i s.t B s.d.length c W
  have hK := fun w v j d n Z (C : Ctx W w v j d ⟨1048576, [], false, 0, false⟩ hd0 n Z) (hn : 0 ≤ n ∧ n ≤ 20001) => vkeep_any w v j d ⟨1048576, [], false, 0, false⟩ hd0 n Z C.vt h s B c (C.lies hl).1 (C.lies hl).2 none 0 0 [] (ents_none _ _) (by omega) (by omega)
  unfold KeepP at hK
  go_enter Tryz.func23, Tryz.ntmps23
  go_wp2_with fail
  refine hN.mono ?_
  rintro e w5 ⟨d, rfl, hD5, hb5⟩
  have hbw5 := hb0.trans (hb5.mono hb0.size)
  have m0 := (hb5.block _ (hlt m0)).trans m0
  have m1 := (hb5.block _ (hlt m1)).trans m1
  have r0 := (hb5.block _ (hlt r0)).trans r0
  have hO := open_kept kept_new (by omega) w5 d _ hD5
  clear hN hb5 hb0 hzs
  go_wp2_with fail
  refine hO.mono ?_
  rintro e w6 ⟨v, j, n, Z, Bs, bc, A6, c6, rfl, ho⟩
  have C6 := Ctx.opd ho hbw5 (fun k hk => by show k < W.heap.size + 3; omega)
  have hn6 := ho.num
  have q0 := ho.sub W.heap.size (by show W.heap.size < W.heap.size + 3; omega)
  have q1 := ho.sub (W.heap.size + 1) (by show W.heap.size + 1 < W.heap.size + 3; omega)
  obtain ⟨hzr6, hrj, hrv⟩ := ho.sub (W.heap.size + 1 + 1) (by show W.heap.size + 1 + 1 < W.heap.size + 3; omega)
  have m0 := (ho.kp.block _ (hlt m0) (by show W.heap.size < W.heap.size + 3; omega)).trans m0
  have m1 := (ho.kp.block _ (hlt m1) (by show W.heap.size + 1 < W.heap.size + 3; omega)).trans m1
  have r0 := (ho.kp.block _ (hlt r0) (by show W.heap.size + 1 + 1 < W.heap.size + 3; omega)).trans r0
  have ha8 : Below w6.heap.size w6 (((w6.alloc (.cells #[.int .i64 hd0.t, .int .i64 hd0.v] 32)).alloc (.cells #[.int .i64 snap0.i, .int .i64 snap0.t, .slice Bs snap0.d.length bc] 35)).alloc (.cells #[.int .i64 h.t, .int .i64 h.v, .int .i64 0, .int .i64 0, .slice none 0 0, .slice none 0 0] 47)) := (((Below.refl _ _).alloc (Nat.le_refl _) _).alloc (by simp) _).alloc (by simp; omega) _
  have C8 := C6.wide ha8
  have l0 := hlt m0
  have l1 := hlt m1
  have l2 := hlt r0
  have hv6 := C6.vt.lt
  have hj6 := C6.vt.lg.lt
  obtain ⟨⟨x0, x1⟩, _⟩ := row2 m0
  have m0 := (ha8.block _ (hlt m0)).trans m0
  have m1 := (ha8.block _ (hlt m1)).trans m1
  have r0 := (ha8.block _ (hlt r0)).trans r0
  have b0 : (((w6.alloc (.cells #[.int .i64 hd0.t, .int .i64 hd0.v] 32)).alloc (.cells #[.int .i64 snap0.i, .int .i64 snap0.t, .slice Bs snap0.d.length bc] 35)).alloc (.cells #[.int .i64 h.t, .int .i64 h.v, .int .i64 0, .int .i64 0, .slice none 0 0, .slice none 0 0] 47)).heap[w6.heap.size + 1 + 1]? = some (.cells #[.int .i64 h.t, .int .i64 h.v, .int .i64 0, .int .i64 0, .slice none 0 0, .slice none 0 0] 47) := by
    have := heap_alloc_new ((w6.alloc (.cells #[.int .i64 hd0.t, .int .i64 hd0.v] 32)).alloc (.cells #[.int .i64 snap0.i, .int .i64 snap0.t, .slice Bs snap0.d.length bc] 35)) (.cells #[.int .i64 h.t, .int .i64 h.v, .int .i64 0, .int .i64 0, .slice none 0 0, .slice none 0 0] 47)
    simp only [World.size_alloc] at this
    exact this
  have hz8 : (((w6.alloc (.cells #[.int .i64 hd0.t, .int .i64 hd0.v] 32)).alloc (.cells #[.int .i64 snap0.i, .int .i64 snap0.t, .slice Bs snap0.d.length bc] 35)).alloc (.cells #[.int .i64 h.t, .int .i64 h.v, .int .i64 0, .int .i64 0, .slice none 0 0, .slice none 0 0] 47)).heap.size = w6.heap.size + 3 := by simp
  have hzb : (fun k => Z k ∨ w6.heap.size ≤ k ∧ k < (((w6.alloc (.cells #[.int .i64 hd0.t, .int .i64 hd0.v] 32)).alloc (.cells #[.int .i64 snap0.i, .int .i64 snap0.t, .slice Bs snap0.d.length bc] 35)).alloc (.cells #[.int .i64 h.t, .int .i64 h.v, .int .i64 0, .int .i64 0, .slice none 0 0, .slice none 0 0] 47)).heap.size) (w6.heap.size + 1 + 1) := .inr ⟨by omega, by rw [hz8]; omega⟩
  have hzr : (fun k => Z k ∨ w6.heap.size ≤ k ∧ k < (((w6.alloc (.cells #[.int .i64 hd0.t, .int .i64 hd0.v] 32)).alloc (.cells #[.int .i64 snap0.i, .int .i64 snap0.t, .slice Bs snap0.d.length bc] 35)).alloc (.cells #[.int .i64 h.t, .int .i64 h.v, .int .i64 0, .int .i64 0, .slice none 0 0, .slice none 0 0] 47)).heap.size) (W.heap.size + 1 + 1) := .inl hzr6
  have hbv : w6.heap.size + 1 + 1 ≠ v := by omega
  have hbj : w6.heap.size + 1 + 1 ≠ j := by omega
  have hlo6 := C6.low.size
  have hq0 : (fun k => Z k ∨ w6.heap.size ≤ k ∧ k < (((w6.alloc (.cells #[.int .i64 hd0.t, .int .i64 hd0.v] 32)).alloc (.cells #[.int .i64 snap0.i, .int .i64 snap0.t, .slice Bs snap0.d.length bc] 35)).alloc (.cells #[.int .i64 h.t, .int .i64 h.v, .int .i64 0, .int .i64 0, .slice none 0 0, .slice none 0 0] 47)).heap.size) W.heap.size := .inl q0.1
  have hq1 : (fun k => Z k ∨ w6.heap.size ≤ k ∧ k < (((w6.alloc (.cells #[.int .i64 hd0.t, .int .i64 hd0.v] 32)).alloc (.cells #[.int .i64 snap0.i, .int .i64 snap0.t, .slice Bs snap0.d.length bc] 35)).alloc (.cells #[.int .i64 h.t, .int .i64 h.v, .int .i64 0, .int .i64 0, .slice none 0 0, .slice none 0 0] 47)).heap.size) (W.heap.size + 1) := .inl q1.1
  have hWQ : ∃ Q, Q = (fun k => Z k ∨ w6.heap.size ≤ k ∧ k < (((w6.alloc (.cells #[.int .i64 hd0.t, .int .i64 hd0.v] 32)).alloc (.cells #[.int .i64 snap0.i, .int .i64 snap0.t, .slice Bs snap0.d.length bc] 35)).alloc (.cells #[.int .i64 h.t, .int .i64 h.v, .int .i64 0, .int .i64 0, .slice none 0 0, .slice none 0 0] 47)).heap.size) := ⟨_, rfl⟩
  obtain ⟨Q, hQ⟩ := hWQ
  rw [← hQ] at C8 hzb hzr hq0 hq1
  clear ho hO hD5 C6 hz8 hQ hzr6
  go_upto_region 4 with fail
  generalize (((w6.alloc (.cells #[.int .i64 hd0.t, .int .i64 hd0.v] 32)).alloc (.cells #[.int .i64 snap0.i, .int .i64 snap0.t, .slice Bs snap0.d.length bc] 35)).alloc (.cells #[.int .i64 h.t, .int .i64 h.v, .int .i64 0, .int .i64 0, .slice none 0 0, .slice none 0 0] 47)) = w8 at *
  clear x0 x1 ha8
  obtain ⟨⟨y0, y1, y2⟩, _⟩ := row3 m1
  cases hsn : snapB s.i s.t s.d.length with
  | false =>
    have hS : seedS s = snap0 := by unfold seedS; rw [if_neg (by rw [hsn]; simp)]
    rw [hsn] at hSP
    have hk1 := kept_new
    have hn1a := hn6.1
    have hn1b := hn6.2
    have hv1 : ∃ n1 : Int, n1 = n := ⟨n, rfl⟩
    obtain ⟨n1, rfl⟩ := hv1
    clear hK
    go_wp2_with fail
    refine (hSP _).mono ?_
    rintro e w1 ⟨rfl, hb1⟩
    have C1 := C8.below hb1
    have b0 := (hb1.block _ (hlt b0)).trans b0
    have r0 := (hb1.block _ (hlt r0)).trans r0
    have m0 := (hb1.block _ (hlt m0)).trans m0
    clear hb1 C8 y0 y1 y2 m1 hSP
    have hRN1 := runR_any _ A l.length cap l (0) (0) _ (hE.below C1.low (Nat.le_refl _)) (by unfold maxLen; omega)
    obtain ⟨⟨y0, y1, y2, y3, y4, y5⟩, _⟩ := row6 b0
    cases hrun : runB (snap0).i (snap0).t l with
    | true =>
      have hL : seedL snap0 l = l := by unfold seedL; rw [if_pos hrun]
      rw [show runB (0) (0) l = true from hrun] at hRN1
      go_wp2_with fail
      refine hRN1.mono ?_
      rintro e w2 ⟨rfl, hb2⟩
      have C2 := C1.below hb2
      have b0 := (hb2.block _ (hlt b0)).trans b0
      have r0 := (hb2.block _ (hlt r0)).trans r0
      have m0 := (hb2.block _ (hlt m0)).trans m0
      clear y0 y1 y2 y3 y4 y5 hRN1 hb2 C1
      have hSv := vsave_any w2 v j d ⟨1048576, [], false, 0, false⟩ hd0 n1 _ C2.vt h _ A l.length cap l (C2.ents hE) (by omega) (by omega)
      unfold SaveP at hSv
      obtain ⟨k1, k2, x2, ls2, hk2⟩ := hk1.save (h := h) (more := l) hh (by exact hrun) (by have := saveRecs_length hd0 h l; have w0 : weigh [] = 0 := rfl; (try simp only [List.length_nil] at *); omega)
      have hk3 := hk2.more (V := 60000) (by have := saveRecs_length hd0 h l; have w0 : weigh [] = 0 := rfl; (try simp only [List.length_nil] at *); omega)
      have hnl : (l : List Ent).length ≤ 10 := by first | exact hf1 | exact Nat.zero_le _
      generalize Dsk.saveV ⟨1048576, [], false, 0, false⟩ hd0 h l = R2 at *
      obtain ⟨⟨D2, e2⟩, was2⟩ := R2
      dsimp only at hSv k1 k2 hk3
      subst k1
      have k3 := k2.symm
      subst k3
      clear k2
      obtain ⟨⟨x0, x1⟩, _⟩ := row2 m0
      clear hk2 hk1
      go_wp2_with fail
      refine hSv.mono ?_
      rintro e w3 ⟨rfl, n3, hn3, hn3', hd3⟩
      have C3 := C2.vdid hd3
      have b0 := hd3.at b0 hzb hbj hbv
      have r0 := hd3.at r0 hzr hrj hrv
      clear hSv hd3 x0 x1 C2 m0
      obtain ⟨⟨c0, c1, c2, c3, c4, c5⟩, ⟨f0, f1, f2, f3, f4, f5⟩⟩ := row6 b0
      have Cz := ctx_set (o := 5) C3 hzb hbv hbj (by omega) (.slice A l.length cap)
      have b1 := setCell_at w3 ⟨w6.heap.size + 1 + 1, 5, none⟩ (.slice A l.length cap) _ _ _ rfl b0
      have r1 := (Below.heap_setCell w3 ⟨w6.heap.size + 1 + 1, 5, none⟩ (.slice A l.length cap) (W.heap.size + 1 + 1) (by show W.heap.size + 1 + 1 ≠ w6.heap.size + 1 + 1; omega)).trans r0
      have hkz := hk3
      clear b0 r0 C3 hk3
      go_upto_region 11 with fail
      clear c0 c1 c2 c3 c4 c5 f0 f1 f2 f3 f4 f5
      generalize w3.setCell ⟨w6.heap.size + 1 + 1, 5, none⟩ (.slice A l.length cap) = wz at *
      have b0 := b1
      have r0 := r1
      clear b1 r1
      have hS0 : wz.drew.cell? ⟨w6.heap.size + 1 + 1, 0, none⟩ = some (.int .i64 h.t) ∧ wz.drew.cell? ⟨w6.heap.size + 1 + 1, 1, none⟩ = some (.int .i64 h.v) ∧ wz.drew.cell? ⟨w6.heap.size + 1 + 1, 2, none⟩ = some (.int .i64 0) ∧ wz.drew.cell? ⟨w6.heap.size + 1 + 1, 3, none⟩ = some (.int .i64 0) ∧ wz.drew.cell? ⟨w6.heap.size + 1 + 1, 4, none⟩ = some (.slice none 0 0) ∧ wz.drew.cell? ⟨w6.heap.size + 1 + 1, 5, none⟩ = some (.slice A l.length cap) ∧ wz.drew.frozen? ⟨W.heap.size + 1 + 1, 0, none⟩ = false ∧ wz.drew.frozen? ⟨W.heap.size + 1 + 1, 1, none⟩ = false ∧ wz.drew.frozen? ⟨W.heap.size + 1 + 1, 2, none⟩ = false ∧ wz.drew.frozen? ⟨W.heap.size + 1 + 1, 3, none⟩ = false ∧ wz.drew.frozen? ⟨W.heap.size + 1 + 1, 4, none⟩ = false ∧ wz.drew.frozen? ⟨W.heap.size + 1 + 1, 5, none⟩ = false := fil_rows (X := wz.drew) b0 r0
      have hT := fil_last Cz b0 r0 hzr hrv hrj (by omega) (by omega) #[.int .i64 h.t, .int .i64 h.v, .int .i64 0, .int .i64 0, .slice none 0 0, .slice A l.length cap]
      have hSv : (wz.drew.setRow (W.heap.size + 1 + 1) #[.int .i64 h.t, .int .i64 h.v, .int .i64 0, .int .i64 0, .slice none 0 0, .slice A l.length cap]).cell? ⟨w6.heap.size + 1 + 1, 0, none⟩ = some (.int .i64 h.t) ∧ (wz.drew.setRow (W.heap.size + 1 + 1) #[.int .i64 h.t, .int .i64 h.v, .int .i64 0, .int .i64 0, .slice none 0 0, .slice A l.length cap]).cell? ⟨w6.heap.size + 1 + 1, 1, none⟩ = some (.int .i64 h.v) ∧ (wz.drew.setRow (W.heap.size + 1 + 1) #[.int .i64 h.t, .int .i64 h.v, .int .i64 0, .int .i64 0, .slice none 0 0, .slice A l.length cap]).cell? ⟨w6.heap.size + 1 + 1, 2, none⟩ = some (.int .i64 0) ∧ (wz.drew.setRow (W.heap.size + 1 + 1) #[.int .i64 h.t, .int .i64 h.v, .int .i64 0, .int .i64 0, .slice none 0 0, .slice A l.length cap]).cell? ⟨w6.heap.size + 1 + 1, 3, none⟩ = some (.int .i64 0) ∧ (wz.drew.setRow (W.heap.size + 1 + 1) #[.int .i64 h.t, .int .i64 h.v, .int .i64 0, .int .i64 0, .slice none 0 0, .slice A l.length cap]).cell? ⟨w6.heap.size + 1 + 1, 4, none⟩ = some (.slice none 0 0) ∧ (wz.drew.setRow (W.heap.size + 1 + 1) #[.int .i64 h.t, .int .i64 h.v, .int .i64 0, .int .i64 0, .slice none 0 0, .slice A l.length cap]).cell? ⟨w6.heap.size + 1 + 1, 5, none⟩ = some (.slice A l.length cap) ∧ (wz.drew.setRow (W.heap.size + 1 + 1) #[.int .i64 h.t, .int .i64 h.v, .int .i64 0, .int .i64 0, .slice none 0 0, .slice A l.length cap]).frozen? ⟨W.heap.size + 1 + 1, 0, none⟩ = false ∧ (wz.drew.setRow (W.heap.size + 1 + 1) #[.int .i64 h.t, .int .i64 h.v, .int .i64 0, .int .i64 0, .slice none 0 0, .slice A l.length cap]).frozen? ⟨W.heap.size + 1 + 1, 1, none⟩ = false ∧ (wz.drew.setRow (W.heap.size + 1 + 1) #[.int .i64 h.t, .int .i64 h.v, .int .i64 0, .int .i64 0, .slice none 0 0, .slice A l.length cap]).frozen? ⟨W.heap.size + 1 + 1, 2, none⟩ = false ∧ (wz.drew.setRow (W.heap.size + 1 + 1) #[.int .i64 h.t, .int .i64 h.v, .int .i64 0, .int .i64 0, .slice none 0 0, .slice A l.length cap]).frozen? ⟨W.heap.size + 1 + 1, 3, none⟩ = false ∧ (wz.drew.setRow (W.heap.size + 1 + 1) #[.int .i64 h.t, .int .i64 h.v, .int .i64 0, .int .i64 0, .slice none 0 0, .slice A l.length cap]).frozen? ⟨W.heap.size + 1 + 1, 4, none⟩ = false ∧ (wz.drew.setRow (W.heap.size + 1 + 1) #[.int .i64 h.t, .int .i64 h.v, .int .i64 0, .int .i64 0, .slice none 0 0, .slice A l.length cap]).frozen? ⟨W.heap.size + 1 + 1, 5, none⟩ = false := fil_rows hT.2.1 hT.1
      have HM := Lib.hid r0
      have HT := Lib.hid hT
      have HSv := Lib.hid hSv
      have HK := Lib.hid hkz
      clear hT hSv r0 b0 Cz hkz
      go_upto_region 11 with fail
      refine wp_region_held_drew (S := (fun w' => w'.cell? ⟨w6.heap.size + 1 + 1, 0, none⟩ = some (.int .i64 h.t) ∧ w'.cell? ⟨w6.heap.size + 1 + 1, 1, none⟩ = some (.int .i64 h.v) ∧ w'.cell? ⟨w6.heap.size + 1 + 1, 2, none⟩ = some (.int .i64 0) ∧ w'.cell? ⟨w6.heap.size + 1 + 1, 3, none⟩ = some (.int .i64 0) ∧ w'.cell? ⟨w6.heap.size + 1 + 1, 4, none⟩ = some (.slice none 0 0) ∧ w'.cell? ⟨w6.heap.size + 1 + 1, 5, none⟩ = some (.slice A l.length cap) ∧ w'.frozen? ⟨W.heap.size + 1 + 1, 0, none⟩ = false ∧ w'.frozen? ⟨W.heap.size + 1 + 1, 1, none⟩ = false ∧ w'.frozen? ⟨W.heap.size + 1 + 1, 2, none⟩ = false ∧ w'.frozen? ⟨W.heap.size + 1 + 1, 3, none⟩ = false ∧ w'.frozen? ⟨W.heap.size + 1 + 1, 4, none⟩ = false ∧ w'.frozen? ⟨W.heap.size + 1 + 1, 5, none⟩ = false)) (by kernel_rfl) hS0 (fun hHeld => ?_)
      change wpAnyH _ _ _ _ _ 6 #[false, false, false, false, false, false] _ _
      refine wpAnyH_take (i := 0) (oi := { dst := some 61, op := Go.Op.move (Go.Operand.tmp 9), type := 26, pos := "law.go:111", after := #[], guard := none }) (v := ?_) rfl (by kernel_rfl) (by kernel_rfl) (by kernel_rfl) (fun _ _ _ h => h) (Or.inl ⟨by rfl, ?_⟩) (by assumption) ?_
      rotate_left
      · ((intro w hSw; (try dsimp only at hSw); go_simp); (try with_reducible rfl))
      try simp only [Act.put, List.setIfInBounds_toArray, List.set_cons_zero, List.set_cons_succ]
      refine wpAnyH_take (i := 1) (oi := { dst := some 62, op := Go.Op.move (Go.Operand.tmp 11), type := 30, pos := "law.go:111", after := #[{ on := 3, ground := Go.Ground.gcOnly Go.Departure.lateStores }], guard := none }) (v := ?_) rfl (by kernel_rfl) (by kernel_rfl) (by kernel_rfl) (fun _ _ _ h => h) (Or.inl ⟨by rfl, ?_⟩) (by assumption) ?_
      rotate_left
      · ((intro w hSw; (try dsimp only at hSw); go_simp); (try with_reducible rfl))
      try simp only [Act.put, List.setIfInBounds_toArray, List.set_cons_zero, List.set_cons_succ]
      refine wpAnyH_take (i := 2) (oi := { dst := some 63, op := Go.Op.load 47 (Go.Operand.tmp 16), type := 47, pos := "law.go:111", after := #[{ on := 4, ground := Go.Ground.gcOnly Go.Departure.lateStores }], guard := none }) (v := ?_) rfl (by kernel_rfl) (by kernel_rfl) (by kernel_rfl) (fun _ _ _ h => h) (Or.inl ⟨by rfl, ?_⟩) (by assumption) ?_
      rotate_left
      · ((intro w hSw; (try dsimp only at hSw); go_simp); (try with_reducible rfl))
      try simp only [Act.put, List.setIfInBounds_toArray, List.set_cons_zero, List.set_cons_succ]
      refine wpAnyH_take (i := 3) (oi := { dst := some 6, op := Go.Op.assign (Go.Operand.tmp 61), type := 26, pos := "law.go:111", after := #[{ on := 0, ground := Go.Ground.data }, { on := 0, ground := Go.Ground.phase }, { on := 1, ground := Go.Ground.textOnly Go.Departure.lateStores }, { on := 2, ground := Go.Ground.textOnly Go.Departure.lateStores }], guard := none }) (v := ?_) rfl (by kernel_rfl) (by kernel_rfl) (by kernel_rfl) (fun _ _ _ h => h) (Or.inl ⟨by rfl, ?_⟩) (by assumption) ?_
      rotate_left
      · ((intro w hSw; (try dsimp only at hSw); go_simp); (try with_reducible rfl))
      try simp only [Act.put, List.setIfInBounds_toArray, List.set_cons_zero, List.set_cons_succ]
      refine wpAnyH_take (i := 4) (oi := { dst := some 7, op := Go.Op.assign (Go.Operand.tmp 62), type := 30, pos := "law.go:111", after := #[{ on := 1, ground := Go.Ground.data }, { on := 3, ground := Go.Ground.chain }, { on := 0, ground := Go.Ground.phase }, { on := 1, ground := Go.Ground.phase }, { on := 2, ground := Go.Ground.textOnly Go.Departure.lateStores }, { on := 3, ground := Go.Ground.phase }], guard := none }) (v := ?_) rfl (by kernel_rfl) (by kernel_rfl) (by kernel_rfl) (fun _ _ _ h => h) (Or.inl ⟨by rfl, ?_⟩) (by assumption) ?_
      rotate_left
      · ((intro w hSw; (try dsimp only at hSw); go_simp); (try with_reducible rfl))
      try simp only [Act.put, List.setIfInBounds_toArray, List.set_cons_zero, List.set_cons_succ]
      refine wpAnyH_ready (rs := [5]) (by kernel_rfl) (by simp) ?_
      refine AllReadyH.cons rfl (fun KK hK => ?_) AllReadyH.nil
      rw [if_pos (by rfl)]
      refine wp_store_row _ _ _ rfl (W.heap.size + 1 + 1) #[.int .i64 h.t, .int .i64 h.v, .int .i64 0, .int .i64 0, .slice none 0 0, .slice A l.length cap] (by rfl) (by rfl) _ _ HM.out (by kernel_rfl) rfl (by first | rfl | kernel_rfl | simp [Value.oneCell']) ?_
      refine hK.out _ _ HSv.out (fun hHeld7 => ?_)
      clear hK KK hHeld hS0 HSv HM
      try simp only [Act.put, List.setIfInBounds_toArray, List.set_cons_zero, List.set_cons_succ]
      refine wpAnyH_done (by kernel_rfl) ?_ _
      clear hHeld7
      generalize (wz.drew.setRow (W.heap.size + 1 + 1) #[.int .i64 h.t, .int .i64 h.v, .int .i64 0, .int .i64 0, .slice none 0 0, .slice A l.length cap]) = XF at *
      all_goals
        go_wp2
        refine bodyPost_ret (res_tmp_tmp_cell (n := W.heap.size + 1 + 1) rfl rfl HT.out.1 Tryz.underlying47 rfl (by kernel_rfl)) rfl ?_
        exact ⟨d, v, j, _, _, _, _, _, none, 0, A, cap, snap0, l, hS.symm, hL.symm, rfl, HT.out.2.2, ⟨by omega, by omega⟩, HK.out, Lies.nil _, fun h0 => absurd h0 (by simp [snap0]), hE.below HT.out.2.2.low (Nat.le_refl _)⟩
    | false =>
      have hL : seedL snap0 l = [] := by unfold seedL; rw [if_neg (by rw [hrun]; simp)]
      rw [show runB (0) (0) l = false from hrun] at hRN1
      go_wp2_with fail
      refine hRN1.mono ?_
      rintro e w2 ⟨rfl, hb2⟩
      have C2 := C1.below hb2
      have b0 := (hb2.block _ (hlt b0)).trans b0
      have r0 := (hb2.block _ (hlt r0)).trans r0
      have m0 := (hb2.block _ (hlt m0)).trans m0
      clear y0 y1 y2 y3 y4 y5 hRN1 hb2 C1
      have hSv := vsave_any w2 v j d ⟨1048576, [], false, 0, false⟩ hd0 n1 _ C2.vt h (fun _ => False) none 0 0 [] (ents_none _ _) (by omega) (by omega)
      unfold SaveP at hSv
      obtain ⟨k1, k2, x2, ls2, hk2⟩ := hk1.save (h := h) (more := []) hh (by exact rfl) (by have := saveRecs_length hd0 h []; have w0 : weigh [] = 0 := rfl; (try simp only [List.length_nil] at *); omega)
      have hk3 := hk2.more (V := 60000) (by have := saveRecs_length hd0 h []; have w0 : weigh [] = 0 := rfl; (try simp only [List.length_nil] at *); omega)
      have hnl : ([] : List Ent).length ≤ 10 := by first | exact hf1 | exact Nat.zero_le _
      generalize Dsk.saveV ⟨1048576, [], false, 0, false⟩ hd0 h [] = R2 at *
      obtain ⟨⟨D2, e2⟩, was2⟩ := R2
      dsimp only at hSv k1 k2 hk3
      subst k1
      have k3 := k2.symm
      subst k3
      clear k2
      obtain ⟨⟨x0, x1⟩, _⟩ := row2 m0
      clear hk2 hk1
      go_wp2_with fail
      refine hSv.mono ?_
      rintro e w3 ⟨rfl, n3, hn3, hn3', hd3⟩
      have C3 := C2.vdid hd3
      have b0 := hd3.at b0 hzb hbj hbv
      have r0 := hd3.at r0 hzr hrj hrv
      clear hSv hd3 x0 x1 C2 m0
      have Cz := C3
      have hkz := hk3
      clear C3 hk3
      generalize w3 = wz at *
      have hS0 : wz.drew.cell? ⟨w6.heap.size + 1 + 1, 0, none⟩ = some (.int .i64 h.t) ∧ wz.drew.cell? ⟨w6.heap.size + 1 + 1, 1, none⟩ = some (.int .i64 h.v) ∧ wz.drew.cell? ⟨w6.heap.size + 1 + 1, 2, none⟩ = some (.int .i64 0) ∧ wz.drew.cell? ⟨w6.heap.size + 1 + 1, 3, none⟩ = some (.int .i64 0) ∧ wz.drew.cell? ⟨w6.heap.size + 1 + 1, 4, none⟩ = some (.slice none 0 0) ∧ wz.drew.cell? ⟨w6.heap.size + 1 + 1, 5, none⟩ = some (.slice none 0 0) ∧ wz.drew.frozen? ⟨W.heap.size + 1 + 1, 0, none⟩ = false ∧ wz.drew.frozen? ⟨W.heap.size + 1 + 1, 1, none⟩ = false ∧ wz.drew.frozen? ⟨W.heap.size + 1 + 1, 2, none⟩ = false ∧ wz.drew.frozen? ⟨W.heap.size + 1 + 1, 3, none⟩ = false ∧ wz.drew.frozen? ⟨W.heap.size + 1 + 1, 4, none⟩ = false ∧ wz.drew.frozen? ⟨W.heap.size + 1 + 1, 5, none⟩ = false := fil_rows (X := wz.drew) b0 r0
      have hT := fil_last Cz b0 r0 hzr hrv hrj (by omega) (by omega) #[.int .i64 h.t, .int .i64 h.v, .int .i64 0, .int .i64 0, .slice none 0 0, .slice none 0 0]
      have hSv : (wz.drew.setRow (W.heap.size + 1 + 1) #[.int .i64 h.t, .int .i64 h.v, .int .i64 0, .int .i64 0, .slice none 0 0, .slice none 0 0]).cell? ⟨w6.heap.size + 1 + 1, 0, none⟩ = some (.int .i64 h.t) ∧ (wz.drew.setRow (W.heap.size + 1 + 1) #[.int .i64 h.t, .int .i64 h.v, .int .i64 0, .int .i64 0, .slice none 0 0, .slice none 0 0]).cell? ⟨w6.heap.size + 1 + 1, 1, none⟩ = some (.int .i64 h.v) ∧ (wz.drew.setRow (W.heap.size + 1 + 1) #[.int .i64 h.t, .int .i64 h.v, .int .i64 0, .int .i64 0, .slice none 0 0, .slice none 0 0]).cell? ⟨w6.heap.size + 1 + 1, 2, none⟩ = some (.int .i64 0) ∧ (wz.drew.setRow (W.heap.size + 1 + 1) #[.int .i64 h.t, .int .i64 h.v, .int .i64 0, .int .i64 0, .slice none 0 0, .slice none 0 0]).cell? ⟨w6.heap.size + 1 + 1, 3, none⟩ = some (.int .i64 0) ∧ (wz.drew.setRow (W.heap.size + 1 + 1) #[.int .i64 h.t, .int .i64 h.v, .int .i64 0, .int .i64 0, .slice none 0 0, .slice none 0 0]).cell? ⟨w6.heap.size + 1 + 1, 4, none⟩ = some (.slice none 0 0) ∧ (wz.drew.setRow (W.heap.size + 1 + 1) #[.int .i64 h.t, .int .i64 h.v, .int .i64 0, .int .i64 0, .slice none 0 0, .slice none 0 0]).cell? ⟨w6.heap.size + 1 + 1, 5, none⟩ = some (.slice none 0 0) ∧ (wz.drew.setRow (W.heap.size + 1 + 1) #[.int .i64 h.t, .int .i64 h.v, .int .i64 0, .int .i64 0, .slice none 0 0, .slice none 0 0]).frozen? ⟨W.heap.size + 1 + 1, 0, none⟩ = false ∧ (wz.drew.setRow (W.heap.size + 1 + 1) #[.int .i64 h.t, .int .i64 h.v, .int .i64 0, .int .i64 0, .slice none 0 0, .slice none 0 0]).frozen? ⟨W.heap.size + 1 + 1, 1, none⟩ = false ∧ (wz.drew.setRow (W.heap.size + 1 + 1) #[.int .i64 h.t, .int .i64 h.v, .int .i64 0, .int .i64 0, .slice none 0 0, .slice none 0 0]).frozen? ⟨W.heap.size + 1 + 1, 2, none⟩ = false ∧ (wz.drew.setRow (W.heap.size + 1 + 1) #[.int .i64 h.t, .int .i64 h.v, .int .i64 0, .int .i64 0, .slice none 0 0, .slice none 0 0]).frozen? ⟨W.heap.size + 1 + 1, 3, none⟩ = false ∧ (wz.drew.setRow (W.heap.size + 1 + 1) #[.int .i64 h.t, .int .i64 h.v, .int .i64 0, .int .i64 0, .slice none 0 0, .slice none 0 0]).frozen? ⟨W.heap.size + 1 + 1, 4, none⟩ = false ∧ (wz.drew.setRow (W.heap.size + 1 + 1) #[.int .i64 h.t, .int .i64 h.v, .int .i64 0, .int .i64 0, .slice none 0 0, .slice none 0 0]).frozen? ⟨W.heap.size + 1 + 1, 5, none⟩ = false := fil_rows hT.2.1 hT.1
      have HM := Lib.hid r0
      have HT := Lib.hid hT
      have HSv := Lib.hid hSv
      have HK := Lib.hid hkz
      clear hT hSv r0 b0 Cz hkz
      go_upto_region 11 with fail
      refine wp_region_held_drew (S := (fun w' => w'.cell? ⟨w6.heap.size + 1 + 1, 0, none⟩ = some (.int .i64 h.t) ∧ w'.cell? ⟨w6.heap.size + 1 + 1, 1, none⟩ = some (.int .i64 h.v) ∧ w'.cell? ⟨w6.heap.size + 1 + 1, 2, none⟩ = some (.int .i64 0) ∧ w'.cell? ⟨w6.heap.size + 1 + 1, 3, none⟩ = some (.int .i64 0) ∧ w'.cell? ⟨w6.heap.size + 1 + 1, 4, none⟩ = some (.slice none 0 0) ∧ w'.cell? ⟨w6.heap.size + 1 + 1, 5, none⟩ = some (.slice none 0 0) ∧ w'.frozen? ⟨W.heap.size + 1 + 1, 0, none⟩ = false ∧ w'.frozen? ⟨W.heap.size + 1 + 1, 1, none⟩ = false ∧ w'.frozen? ⟨W.heap.size + 1 + 1, 2, none⟩ = false ∧ w'.frozen? ⟨W.heap.size + 1 + 1, 3, none⟩ = false ∧ w'.frozen? ⟨W.heap.size + 1 + 1, 4, none⟩ = false ∧ w'.frozen? ⟨W.heap.size + 1 + 1, 5, none⟩ = false)) (by kernel_rfl) hS0 (fun hHeld => ?_)
      change wpAnyH _ _ _ _ _ 6 #[false, false, false, false, false, false] _ _
      refine wpAnyH_take (i := 0) (oi := { dst := some 61, op := Go.Op.move (Go.Operand.tmp 9), type := 26, pos := "law.go:111", after := #[], guard := none }) (v := ?_) rfl (by kernel_rfl) (by kernel_rfl) (by kernel_rfl) (fun _ _ _ h => h) (Or.inl ⟨by rfl, ?_⟩) (by assumption) ?_
      rotate_left
      · ((intro w hSw; (try dsimp only at hSw); go_simp); (try with_reducible rfl))
      try simp only [Act.put, List.setIfInBounds_toArray, List.set_cons_zero, List.set_cons_succ]
      refine wpAnyH_take (i := 1) (oi := { dst := some 62, op := Go.Op.move (Go.Operand.tmp 11), type := 30, pos := "law.go:111", after := #[{ on := 3, ground := Go.Ground.gcOnly Go.Departure.lateStores }], guard := none }) (v := ?_) rfl (by kernel_rfl) (by kernel_rfl) (by kernel_rfl) (fun _ _ _ h => h) (Or.inl ⟨by rfl, ?_⟩) (by assumption) ?_
      rotate_left
      · ((intro w hSw; (try dsimp only at hSw); go_simp); (try with_reducible rfl))
      try simp only [Act.put, List.setIfInBounds_toArray, List.set_cons_zero, List.set_cons_succ]
      refine wpAnyH_take (i := 2) (oi := { dst := some 63, op := Go.Op.load 47 (Go.Operand.tmp 16), type := 47, pos := "law.go:111", after := #[{ on := 4, ground := Go.Ground.gcOnly Go.Departure.lateStores }], guard := none }) (v := ?_) rfl (by kernel_rfl) (by kernel_rfl) (by kernel_rfl) (fun _ _ _ h => h) (Or.inl ⟨by rfl, ?_⟩) (by assumption) ?_
      rotate_left
      · ((intro w hSw; (try dsimp only at hSw); go_simp); (try with_reducible rfl))
      try simp only [Act.put, List.setIfInBounds_toArray, List.set_cons_zero, List.set_cons_succ]
      refine wpAnyH_take (i := 3) (oi := { dst := some 6, op := Go.Op.assign (Go.Operand.tmp 61), type := 26, pos := "law.go:111", after := #[{ on := 0, ground := Go.Ground.data }, { on := 0, ground := Go.Ground.phase }, { on := 1, ground := Go.Ground.textOnly Go.Departure.lateStores }, { on := 2, ground := Go.Ground.textOnly Go.Departure.lateStores }], guard := none }) (v := ?_) rfl (by kernel_rfl) (by kernel_rfl) (by kernel_rfl) (fun _ _ _ h => h) (Or.inl ⟨by rfl, ?_⟩) (by assumption) ?_
      rotate_left
      · ((intro w hSw; (try dsimp only at hSw); go_simp); (try with_reducible rfl))
      try simp only [Act.put, List.setIfInBounds_toArray, List.set_cons_zero, List.set_cons_succ]
      refine wpAnyH_take (i := 4) (oi := { dst := some 7, op := Go.Op.assign (Go.Operand.tmp 62), type := 30, pos := "law.go:111", after := #[{ on := 1, ground := Go.Ground.data }, { on := 3, ground := Go.Ground.chain }, { on := 0, ground := Go.Ground.phase }, { on := 1, ground := Go.Ground.phase }, { on := 2, ground := Go.Ground.textOnly Go.Departure.lateStores }, { on := 3, ground := Go.Ground.phase }], guard := none }) (v := ?_) rfl (by kernel_rfl) (by kernel_rfl) (by kernel_rfl) (fun _ _ _ h => h) (Or.inl ⟨by rfl, ?_⟩) (by assumption) ?_
      rotate_left
      · ((intro w hSw; (try dsimp only at hSw); go_simp); (try with_reducible rfl))
      try simp only [Act.put, List.setIfInBounds_toArray, List.set_cons_zero, List.set_cons_succ]
      refine wpAnyH_ready (rs := [5]) (by kernel_rfl) (by simp) ?_
      refine AllReadyH.cons rfl (fun KK hK => ?_) AllReadyH.nil
      rw [if_pos (by rfl)]
      refine wp_store_row _ _ _ rfl (W.heap.size + 1 + 1) #[.int .i64 h.t, .int .i64 h.v, .int .i64 0, .int .i64 0, .slice none 0 0, .slice none 0 0] (by rfl) (by rfl) _ _ HM.out (by kernel_rfl) rfl (by first | rfl | kernel_rfl | simp [Value.oneCell']) ?_
      refine hK.out _ _ HSv.out (fun hHeld7 => ?_)
      clear hK KK hHeld hS0 HSv HM
      try simp only [Act.put, List.setIfInBounds_toArray, List.set_cons_zero, List.set_cons_succ]
      refine wpAnyH_done (by kernel_rfl) ?_ _
      clear hHeld7
      generalize (wz.drew.setRow (W.heap.size + 1 + 1) #[.int .i64 h.t, .int .i64 h.v, .int .i64 0, .int .i64 0, .slice none 0 0, .slice none 0 0]) = XF at *
      all_goals
        go_wp2
        refine bodyPost_ret (res_tmp_tmp_cell (n := W.heap.size + 1 + 1) rfl rfl HT.out.1 Tryz.underlying47 rfl (by kernel_rfl)) rfl ?_
        exact ⟨d, v, j, _, _, _, _, _, none, 0, none, 0, snap0, [], hS.symm, hL.symm, rfl, HT.out.2.2, ⟨by omega, by omega⟩, HK.out, Lies.nil _, fun h0 => absurd h0 (by simp [snap0]), ents_none _ _⟩
  | true =>
    by_cases hi : 0 < s.i
    · have hS : seedS s = s := by unfold seedS; rw [if_pos ⟨hsn, hi⟩]
      rw [hsn] at hSP
      have hi1 : ((0 : Int) < s.i) = True := eq_true hi
      have hok : keepOk h s [] = true := by
        have : runB s.i s.t [] = true := rfl
        unfold keepOk
        rw [this, hsn, hh, decide_eq_true (by omega)]
        rfl
      obtain ⟨k1, k2, x1, ls1, hk0⟩ := kept_new.keep hok rfl (by have := saveRecs_length hd0 h []; have := allRecs_length h []; have := snapFrame_length s; have w0 : weigh [] = 0 := rfl; (try simp only [List.length_nil] at *); omega)
      have hk1 := hk0.more (V := 3000) (by have := saveRecs_length hd0 h []; have := allRecs_length h []; have := snapFrame_length s; have w0 : weigh [] = 0 := rfl; (try simp only [List.length_nil] at *); omega)
      clear hk0 hok
      generalize Dsk.keepV ⟨1048576, [], false, 0, false⟩ hd0 h s [] = R1 at *
      obtain ⟨⟨D1, e1⟩, was1⟩ := R1
      dsimp only at hK k1 k2 hk1
      subst k1
      have k3 := k2.symm
      subst k3
      clear k2 hi
      go_wp2_with fail
      refine (hSP _).mono ?_
      rintro e w7 ⟨rfl, hb7⟩
      have C7 := C8.below hb7
      have b0 := (hb7.block _ (hlt b0)).trans b0
      have r0 := (hb7.block _ (hlt r0)).trans r0
      have m0 := (hb7.block _ (hlt m0)).trans m0
      have m1 := (hb7.block _ (hlt m1)).trans m1
      clear hb7 C8 y0 y1 y2 hSP
      obtain ⟨⟨x0, x1⟩, _⟩ := row2 m0
      obtain ⟨⟨y0, y1, y2⟩, _⟩ := row3 m1
      have hKc := hK _ v j d n _ C7 hn6
      go_wp2_with fail
      refine hKc.mono ?_
      rintro e wk ⟨rfl, n1, hn1a, hn1b, hdk⟩
      have hn1b : n1 ≤ n + 1 := by simpa using hn1b
      have Ck := C7.vdid hdk
      have b0 := hdk.at b0 hzb hbj hbv
      have r0 := hdk.at r0 hzr hrj hrv
      have m0 := hdk.at m0 hq0 q0.2.1 q0.2.2
      have m1 := hdk.at m1 hq1 q1.2.1 q1.2.2
      clear hKc hdk hK x0 x1 y0 y1 y2 C7
      obtain ⟨⟨y0, y1, y2⟩, _⟩ := row3 m1
      obtain ⟨⟨c0, c1, c2, c3, c4, c5⟩, ⟨f0, f1, f2, f3, f4, f5⟩⟩ := row6 b0
      have Ca := ctx_set (o := 2) Ck hzb hbv hbj (by omega) (.int .i64 s.i)
      have Cb := ctx_set (o := 3) Ca hzb hbv hbj (by omega) (.int .i64 s.t)
      have C1 := ctx_set (o := 4) Cb hzb hbv hbj (by omega) (.slice B s.d.length c)
      have b1 := setCell_at wk ⟨w6.heap.size + 1 + 1, 2, none⟩ (.int .i64 s.i) _ _ _ rfl b0
      have b2 := setCell_at _ ⟨w6.heap.size + 1 + 1, 3, none⟩ (.int .i64 s.t) _ _ _ rfl b1
      have b3 := setCell_at _ ⟨w6.heap.size + 1 + 1, 4, none⟩ (.slice B s.d.length c) _ _ _ rfl b2
      have hfar : ∀ k, k ≠ w6.heap.size + 1 + 1 → (((wk.setCell ⟨w6.heap.size + 1 + 1, 2, none⟩ (.int .i64 s.i)).setCell ⟨w6.heap.size + 1 + 1, 3, none⟩ (.int .i64 s.t)).setCell ⟨w6.heap.size + 1 + 1, 4, none⟩ (.slice B s.d.length c)).heap[k]? = wk.heap[k]? := fun k hk => (Below.heap_setCell _ _ _ _ (by exact hk)).trans ((Below.heap_setCell _ _ _ _ (by exact hk)).trans (Below.heap_setCell _ _ _ _ (by exact hk)))
      have r1 := (hfar (W.heap.size + 1 + 1) (by omega)).trans r0
      have m2 := (hfar W.heap.size (by omega)).trans m0
      clear b0 b1 b2 r0 m0 Ck Ca Cb hfar m1
      go_upto_region 7 with fail
      clear c0 c1 c2 c3 c4 c5 f0 f1 f2 f3 f4 f5 y0 y1 y2
      generalize (((wk.setCell ⟨w6.heap.size + 1 + 1, 2, none⟩ (.int .i64 s.i)).setCell ⟨w6.heap.size + 1 + 1, 3, none⟩ (.int .i64 s.t)).setCell ⟨w6.heap.size + 1 + 1, 4, none⟩ (.slice B s.d.length c)) = w1 at *
      have b0 : w1.heap[w6.heap.size + 1 + 1]? = some (.cells #[.int .i64 h.t, .int .i64 h.v, .int .i64 s.i, .int .i64 s.t, .slice B s.d.length c, .slice none 0 0] 47) := b3
      have r0 := r1
      have m0 := m2
      clear b3 r1 m2
      have hRN1 := runR_any _ A l.length cap l (s.i) (s.t) _ (hE.below C1.low (Nat.le_refl _)) (by unfold maxLen; omega)
      obtain ⟨⟨y0, y1, y2, y3, y4, y5⟩, _⟩ := row6 b0
      cases hrun : runB (s).i (s).t l with
      | true =>
        have hL : seedL s l = l := by unfold seedL; rw [if_pos hrun]
        rw [show runB (s.i) (s.t) l = true from hrun] at hRN1
        go_wp2_with fail
        refine hRN1.mono ?_
        rintro e w2 ⟨rfl, hb2⟩
        have C2 := C1.below hb2
        have b0 := (hb2.block _ (hlt b0)).trans b0
        have r0 := (hb2.block _ (hlt r0)).trans r0
        have m0 := (hb2.block _ (hlt m0)).trans m0
        clear y0 y1 y2 y3 y4 y5 hRN1 hb2 C1
        have hSv := vsave_any w2 v j d D1 h n1 _ C2.vt h _ A l.length cap l (C2.ents hE) (by omega) (by omega)
        unfold SaveP at hSv
        obtain ⟨k1, k2, x2, ls2, hk2⟩ := hk1.save (h := h) (more := l) hh (by exact hrun) (by have := saveRecs_length h h l; have w0 : weigh [] = 0 := rfl; (try simp only [List.length_nil] at *); omega)
        have hk3 := hk2.more (V := 60000) (by have := saveRecs_length h h l; have w0 : weigh [] = 0 := rfl; (try simp only [List.length_nil] at *); omega)
        have hnl : (l : List Ent).length ≤ 10 := by first | exact hf1 | exact Nat.zero_le _
        generalize Dsk.saveV D1 h h l = R2 at *
        obtain ⟨⟨D2, e2⟩, was2⟩ := R2
        dsimp only at hSv k1 k2 hk3
        subst k1
        have k3 := k2.symm
        subst k3
        clear k2
        obtain ⟨⟨x0, x1⟩, _⟩ := row2 m0
        clear hk2 hk1
        go_wp2_with fail
        refine hSv.mono ?_
        rintro e w3 ⟨rfl, n3, hn3, hn3', hd3⟩
        have C3 := C2.vdid hd3
        have b0 := hd3.at b0 hzb hbj hbv
        have r0 := hd3.at r0 hzr hrj hrv
        clear hSv hd3 x0 x1 C2 m0
        obtain ⟨⟨c0, c1, c2, c3, c4, c5⟩, ⟨f0, f1, f2, f3, f4, f5⟩⟩ := row6 b0
        have Cz := ctx_set (o := 5) C3 hzb hbv hbj (by omega) (.slice A l.length cap)
        have b1 := setCell_at w3 ⟨w6.heap.size + 1 + 1, 5, none⟩ (.slice A l.length cap) _ _ _ rfl b0
        have r1 := (Below.heap_setCell w3 ⟨w6.heap.size + 1 + 1, 5, none⟩ (.slice A l.length cap) (W.heap.size + 1 + 1) (by show W.heap.size + 1 + 1 ≠ w6.heap.size + 1 + 1; omega)).trans r0
        have hkz := hk3
        clear b0 r0 C3 hk3
        go_upto_region 11 with fail
        clear c0 c1 c2 c3 c4 c5 f0 f1 f2 f3 f4 f5
        generalize w3.setCell ⟨w6.heap.size + 1 + 1, 5, none⟩ (.slice A l.length cap) = wz at *
        have b0 := b1
        have r0 := r1
        clear b1 r1
        have hS0 : wz.drew.cell? ⟨w6.heap.size + 1 + 1, 0, none⟩ = some (.int .i64 h.t) ∧ wz.drew.cell? ⟨w6.heap.size + 1 + 1, 1, none⟩ = some (.int .i64 h.v) ∧ wz.drew.cell? ⟨w6.heap.size + 1 + 1, 2, none⟩ = some (.int .i64 s.i) ∧ wz.drew.cell? ⟨w6.heap.size + 1 + 1, 3, none⟩ = some (.int .i64 s.t) ∧ wz.drew.cell? ⟨w6.heap.size + 1 + 1, 4, none⟩ = some (.slice B s.d.length c) ∧ wz.drew.cell? ⟨w6.heap.size + 1 + 1, 5, none⟩ = some (.slice A l.length cap) ∧ wz.drew.frozen? ⟨W.heap.size + 1 + 1, 0, none⟩ = false ∧ wz.drew.frozen? ⟨W.heap.size + 1 + 1, 1, none⟩ = false ∧ wz.drew.frozen? ⟨W.heap.size + 1 + 1, 2, none⟩ = false ∧ wz.drew.frozen? ⟨W.heap.size + 1 + 1, 3, none⟩ = false ∧ wz.drew.frozen? ⟨W.heap.size + 1 + 1, 4, none⟩ = false ∧ wz.drew.frozen? ⟨W.heap.size + 1 + 1, 5, none⟩ = false := fil_rows (X := wz.drew) b0 r0
        have hT := fil_last Cz b0 r0 hzr hrv hrj (by omega) (by omega) #[.int .i64 h.t, .int .i64 h.v, .int .i64 s.i, .int .i64 s.t, .slice B s.d.length c, .slice A l.length cap]
        have hSv : (wz.drew.setRow (W.heap.size + 1 + 1) #[.int .i64 h.t, .int .i64 h.v, .int .i64 s.i, .int .i64 s.t, .slice B s.d.length c, .slice A l.length cap]).cell? ⟨w6.heap.size + 1 + 1, 0, none⟩ = some (.int .i64 h.t) ∧ (wz.drew.setRow (W.heap.size + 1 + 1) #[.int .i64 h.t, .int .i64 h.v, .int .i64 s.i, .int .i64 s.t, .slice B s.d.length c, .slice A l.length cap]).cell? ⟨w6.heap.size + 1 + 1, 1, none⟩ = some (.int .i64 h.v) ∧ (wz.drew.setRow (W.heap.size + 1 + 1) #[.int .i64 h.t, .int .i64 h.v, .int .i64 s.i, .int .i64 s.t, .slice B s.d.length c, .slice A l.length cap]).cell? ⟨w6.heap.size + 1 + 1, 2, none⟩ = some (.int .i64 s.i) ∧ (wz.drew.setRow (W.heap.size + 1 + 1) #[.int .i64 h.t, .int .i64 h.v, .int .i64 s.i, .int .i64 s.t, .slice B s.d.length c, .slice A l.length cap]).cell? ⟨w6.heap.size + 1 + 1, 3, none⟩ = some (.int .i64 s.t) ∧ (wz.drew.setRow (W.heap.size + 1 + 1) #[.int .i64 h.t, .int .i64 h.v, .int .i64 s.i, .int .i64 s.t, .slice B s.d.length c, .slice A l.length cap]).cell? ⟨w6.heap.size + 1 + 1, 4, none⟩ = some (.slice B s.d.length c) ∧ (wz.drew.setRow (W.heap.size + 1 + 1) #[.int .i64 h.t, .int .i64 h.v, .int .i64 s.i, .int .i64 s.t, .slice B s.d.length c, .slice A l.length cap]).cell? ⟨w6.heap.size + 1 + 1, 5, none⟩ = some (.slice A l.length cap) ∧ (wz.drew.setRow (W.heap.size + 1 + 1) #[.int .i64 h.t, .int .i64 h.v, .int .i64 s.i, .int .i64 s.t, .slice B s.d.length c, .slice A l.length cap]).frozen? ⟨W.heap.size + 1 + 1, 0, none⟩ = false ∧ (wz.drew.setRow (W.heap.size + 1 + 1) #[.int .i64 h.t, .int .i64 h.v, .int .i64 s.i, .int .i64 s.t, .slice B s.d.length c, .slice A l.length cap]).frozen? ⟨W.heap.size + 1 + 1, 1, none⟩ = false ∧ (wz.drew.setRow (W.heap.size + 1 + 1) #[.int .i64 h.t, .int .i64 h.v, .int .i64 s.i, .int .i64 s.t, .slice B s.d.length c, .slice A l.length cap]).frozen? ⟨W.heap.size + 1 + 1, 2, none⟩ = false ∧ (wz.drew.setRow (W.heap.size + 1 + 1) #[.int .i64 h.t, .int .i64 h.v, .int .i64 s.i, .int .i64 s.t, .slice B s.d.length c, .slice A l.length cap]).frozen? ⟨W.heap.size + 1 + 1, 3, none⟩ = false ∧ (wz.drew.setRow (W.heap.size + 1 + 1) #[.int .i64 h.t, .int .i64 h.v, .int .i64 s.i, .int .i64 s.t, .slice B s.d.length c, .slice A l.length cap]).frozen? ⟨W.heap.size + 1 + 1, 4, none⟩ = false ∧ (wz.drew.setRow (W.heap.size + 1 + 1) #[.int .i64 h.t, .int .i64 h.v, .int .i64 s.i, .int .i64 s.t, .slice B s.d.length c, .slice A l.length cap]).frozen? ⟨W.heap.size + 1 + 1, 5, none⟩ = false := fil_rows hT.2.1 hT.1
        have HM := Lib.hid r0
        have HT := Lib.hid hT
        have HSv := Lib.hid hSv
        have HK := Lib.hid hkz
        clear hT hSv r0 b0 Cz hkz
        go_upto_region 11 with fail
        refine wp_region_held_drew (S := (fun w' => w'.cell? ⟨w6.heap.size + 1 + 1, 0, none⟩ = some (.int .i64 h.t) ∧ w'.cell? ⟨w6.heap.size + 1 + 1, 1, none⟩ = some (.int .i64 h.v) ∧ w'.cell? ⟨w6.heap.size + 1 + 1, 2, none⟩ = some (.int .i64 s.i) ∧ w'.cell? ⟨w6.heap.size + 1 + 1, 3, none⟩ = some (.int .i64 s.t) ∧ w'.cell? ⟨w6.heap.size + 1 + 1, 4, none⟩ = some (.slice B s.d.length c) ∧ w'.cell? ⟨w6.heap.size + 1 + 1, 5, none⟩ = some (.slice A l.length cap) ∧ w'.frozen? ⟨W.heap.size + 1 + 1, 0, none⟩ = false ∧ w'.frozen? ⟨W.heap.size + 1 + 1, 1, none⟩ = false ∧ w'.frozen? ⟨W.heap.size + 1 + 1, 2, none⟩ = false ∧ w'.frozen? ⟨W.heap.size + 1 + 1, 3, none⟩ = false ∧ w'.frozen? ⟨W.heap.size + 1 + 1, 4, none⟩ = false ∧ w'.frozen? ⟨W.heap.size + 1 + 1, 5, none⟩ = false)) (by kernel_rfl) hS0 (fun hHeld => ?_)
        change wpAnyH _ _ _ _ _ 6 #[false, false, false, false, false, false] _ _
        refine wpAnyH_take (i := 0) (oi := { dst := some 61, op := Go.Op.move (Go.Operand.tmp 9), type := 26, pos := "law.go:111", after := #[], guard := none }) (v := ?_) rfl (by kernel_rfl) (by kernel_rfl) (by kernel_rfl) (fun _ _ _ h => h) (Or.inl ⟨by rfl, ?_⟩) (by assumption) ?_
        rotate_left
        · ((intro w hSw; (try dsimp only at hSw); go_simp); (try with_reducible rfl))
        try simp only [Act.put, List.setIfInBounds_toArray, List.set_cons_zero, List.set_cons_succ]
        refine wpAnyH_take (i := 1) (oi := { dst := some 62, op := Go.Op.move (Go.Operand.tmp 11), type := 30, pos := "law.go:111", after := #[{ on := 3, ground := Go.Ground.gcOnly Go.Departure.lateStores }], guard := none }) (v := ?_) rfl (by kernel_rfl) (by kernel_rfl) (by kernel_rfl) (fun _ _ _ h => h) (Or.inl ⟨by rfl, ?_⟩) (by assumption) ?_
        rotate_left
        · ((intro w hSw; (try dsimp only at hSw); go_simp); (try with_reducible rfl))
        try simp only [Act.put, List.setIfInBounds_toArray, List.set_cons_zero, List.set_cons_succ]
        refine wpAnyH_take (i := 2) (oi := { dst := some 63, op := Go.Op.load 47 (Go.Operand.tmp 16), type := 47, pos := "law.go:111", after := #[{ on := 4, ground := Go.Ground.gcOnly Go.Departure.lateStores }], guard := none }) (v := ?_) rfl (by kernel_rfl) (by kernel_rfl) (by kernel_rfl) (fun _ _ _ h => h) (Or.inl ⟨by rfl, ?_⟩) (by assumption) ?_
        rotate_left
        · ((intro w hSw; (try dsimp only at hSw); go_simp); (try with_reducible rfl))
        try simp only [Act.put, List.setIfInBounds_toArray, List.set_cons_zero, List.set_cons_succ]
        refine wpAnyH_take (i := 3) (oi := { dst := some 6, op := Go.Op.assign (Go.Operand.tmp 61), type := 26, pos := "law.go:111", after := #[{ on := 0, ground := Go.Ground.data }, { on := 0, ground := Go.Ground.phase }, { on := 1, ground := Go.Ground.textOnly Go.Departure.lateStores }, { on := 2, ground := Go.Ground.textOnly Go.Departure.lateStores }], guard := none }) (v := ?_) rfl (by kernel_rfl) (by kernel_rfl) (by kernel_rfl) (fun _ _ _ h => h) (Or.inl ⟨by rfl, ?_⟩) (by assumption) ?_
        rotate_left
        · ((intro w hSw; (try dsimp only at hSw); go_simp); (try with_reducible rfl))
        try simp only [Act.put, List.setIfInBounds_toArray, List.set_cons_zero, List.set_cons_succ]
        refine wpAnyH_take (i := 4) (oi := { dst := some 7, op := Go.Op.assign (Go.Operand.tmp 62), type := 30, pos := "law.go:111", after := #[{ on := 1, ground := Go.Ground.data }, { on := 3, ground := Go.Ground.chain }, { on := 0, ground := Go.Ground.phase }, { on := 1, ground := Go.Ground.phase }, { on := 2, ground := Go.Ground.textOnly Go.Departure.lateStores }, { on := 3, ground := Go.Ground.phase }], guard := none }) (v := ?_) rfl (by kernel_rfl) (by kernel_rfl) (by kernel_rfl) (fun _ _ _ h => h) (Or.inl ⟨by rfl, ?_⟩) (by assumption) ?_
        rotate_left
        · ((intro w hSw; (try dsimp only at hSw); go_simp); (try with_reducible rfl))
        try simp only [Act.put, List.setIfInBounds_toArray, List.set_cons_zero, List.set_cons_succ]
        refine wpAnyH_ready (rs := [5]) (by kernel_rfl) (by simp) ?_
        refine AllReadyH.cons rfl (fun KK hK => ?_) AllReadyH.nil
        rw [if_pos (by rfl)]
        refine wp_store_row _ _ _ rfl (W.heap.size + 1 + 1) #[.int .i64 h.t, .int .i64 h.v, .int .i64 s.i, .int .i64 s.t, .slice B s.d.length c, .slice A l.length cap] (by rfl) (by rfl) _ _ HM.out (by kernel_rfl) rfl (by first | rfl | kernel_rfl | simp [Value.oneCell']) ?_
        refine hK.out _ _ HSv.out (fun hHeld7 => ?_)
        clear hK KK hHeld hS0 HSv HM
        try simp only [Act.put, List.setIfInBounds_toArray, List.set_cons_zero, List.set_cons_succ]
        refine wpAnyH_done (by kernel_rfl) ?_ _
        clear hHeld7
        generalize (wz.drew.setRow (W.heap.size + 1 + 1) #[.int .i64 h.t, .int .i64 h.v, .int .i64 s.i, .int .i64 s.t, .slice B s.d.length c, .slice A l.length cap]) = XF at *
        all_goals
          go_wp2
          refine bodyPost_ret (res_tmp_tmp_cell (n := W.heap.size + 1 + 1) rfl rfl HT.out.1 Tryz.underlying47 rfl (by kernel_rfl)) rfl ?_
          exact ⟨d, v, j, _, _, _, _, _, B, c, A, cap, s, l, hS.symm, hL.symm, rfl, HT.out.2.2, ⟨by omega, by omega⟩, HK.out, hl.below HT.out.2.2.low (Nat.le_refl _), fun h0 g off e => hl.lt h0 e, hE.below HT.out.2.2.low (Nat.le_refl _)⟩
      | false =>
        have hL : seedL s l = [] := by unfold seedL; rw [if_neg (by rw [hrun]; simp)]
        rw [show runB (s.i) (s.t) l = false from hrun] at hRN1
        go_wp2_with fail
        refine hRN1.mono ?_
        rintro e w2 ⟨rfl, hb2⟩
        have C2 := C1.below hb2
        have b0 := (hb2.block _ (hlt b0)).trans b0
        have r0 := (hb2.block _ (hlt r0)).trans r0
        have m0 := (hb2.block _ (hlt m0)).trans m0
        clear y0 y1 y2 y3 y4 y5 hRN1 hb2 C1
        have hSv := vsave_any w2 v j d D1 h n1 _ C2.vt h (fun _ => False) none 0 0 [] (ents_none _ _) (by omega) (by omega)
        unfold SaveP at hSv
        obtain ⟨k1, k2, x2, ls2, hk2⟩ := hk1.save (h := h) (more := []) hh (by exact rfl) (by have := saveRecs_length h h []; have w0 : weigh [] = 0 := rfl; (try simp only [List.length_nil] at *); omega)
        have hk3 := hk2.more (V := 60000) (by have := saveRecs_length h h []; have w0 : weigh [] = 0 := rfl; (try simp only [List.length_nil] at *); omega)
        have hnl : ([] : List Ent).length ≤ 10 := by first | exact hf1 | exact Nat.zero_le _
        generalize Dsk.saveV D1 h h [] = R2 at *
        obtain ⟨⟨D2, e2⟩, was2⟩ := R2
        dsimp only at hSv k1 k2 hk3
        subst k1
        have k3 := k2.symm
        subst k3
        clear k2
        obtain ⟨⟨x0, x1⟩, _⟩ := row2 m0
        clear hk2 hk1
        go_wp2_with fail
        refine hSv.mono ?_
        rintro e w3 ⟨rfl, n3, hn3, hn3', hd3⟩
        have C3 := C2.vdid hd3
        have b0 := hd3.at b0 hzb hbj hbv
        have r0 := hd3.at r0 hzr hrj hrv
        clear hSv hd3 x0 x1 C2 m0
        have Cz := C3
        have hkz := hk3
        clear C3 hk3
        generalize w3 = wz at *
        have hS0 : wz.drew.cell? ⟨w6.heap.size + 1 + 1, 0, none⟩ = some (.int .i64 h.t) ∧ wz.drew.cell? ⟨w6.heap.size + 1 + 1, 1, none⟩ = some (.int .i64 h.v) ∧ wz.drew.cell? ⟨w6.heap.size + 1 + 1, 2, none⟩ = some (.int .i64 s.i) ∧ wz.drew.cell? ⟨w6.heap.size + 1 + 1, 3, none⟩ = some (.int .i64 s.t) ∧ wz.drew.cell? ⟨w6.heap.size + 1 + 1, 4, none⟩ = some (.slice B s.d.length c) ∧ wz.drew.cell? ⟨w6.heap.size + 1 + 1, 5, none⟩ = some (.slice none 0 0) ∧ wz.drew.frozen? ⟨W.heap.size + 1 + 1, 0, none⟩ = false ∧ wz.drew.frozen? ⟨W.heap.size + 1 + 1, 1, none⟩ = false ∧ wz.drew.frozen? ⟨W.heap.size + 1 + 1, 2, none⟩ = false ∧ wz.drew.frozen? ⟨W.heap.size + 1 + 1, 3, none⟩ = false ∧ wz.drew.frozen? ⟨W.heap.size + 1 + 1, 4, none⟩ = false ∧ wz.drew.frozen? ⟨W.heap.size + 1 + 1, 5, none⟩ = false := fil_rows (X := wz.drew) b0 r0
        have hT := fil_last Cz b0 r0 hzr hrv hrj (by omega) (by omega) #[.int .i64 h.t, .int .i64 h.v, .int .i64 s.i, .int .i64 s.t, .slice B s.d.length c, .slice none 0 0]
        have hSv : (wz.drew.setRow (W.heap.size + 1 + 1) #[.int .i64 h.t, .int .i64 h.v, .int .i64 s.i, .int .i64 s.t, .slice B s.d.length c, .slice none 0 0]).cell? ⟨w6.heap.size + 1 + 1, 0, none⟩ = some (.int .i64 h.t) ∧ (wz.drew.setRow (W.heap.size + 1 + 1) #[.int .i64 h.t, .int .i64 h.v, .int .i64 s.i, .int .i64 s.t, .slice B s.d.length c, .slice none 0 0]).cell? ⟨w6.heap.size + 1 + 1, 1, none⟩ = some (.int .i64 h.v) ∧ (wz.drew.setRow (W.heap.size + 1 + 1) #[.int .i64 h.t, .int .i64 h.v, .int .i64 s.i, .int .i64 s.t, .slice B s.d.length c, .slice none 0 0]).cell? ⟨w6.heap.size + 1 + 1, 2, none⟩ = some (.int .i64 s.i) ∧ (wz.drew.setRow (W.heap.size + 1 + 1) #[.int .i64 h.t, .int .i64 h.v, .int .i64 s.i, .int .i64 s.t, .slice B s.d.length c, .slice none 0 0]).cell? ⟨w6.heap.size + 1 + 1, 3, none⟩ = some (.int .i64 s.t) ∧ (wz.drew.setRow (W.heap.size + 1 + 1) #[.int .i64 h.t, .int .i64 h.v, .int .i64 s.i, .int .i64 s.t, .slice B s.d.length c, .slice none 0 0]).cell? ⟨w6.heap.size + 1 + 1, 4, none⟩ = some (.slice B s.d.length c) ∧ (wz.drew.setRow (W.heap.size + 1 + 1) #[.int .i64 h.t, .int .i64 h.v, .int .i64 s.i, .int .i64 s.t, .slice B s.d.length c, .slice none 0 0]).cell? ⟨w6.heap.size + 1 + 1, 5, none⟩ = some (.slice none 0 0) ∧ (wz.drew.setRow (W.heap.size + 1 + 1) #[.int .i64 h.t, .int .i64 h.v, .int .i64 s.i, .int .i64 s.t, .slice B s.d.length c, .slice none 0 0]).frozen? ⟨W.heap.size + 1 + 1, 0, none⟩ = false ∧ (wz.drew.setRow (W.heap.size + 1 + 1) #[.int .i64 h.t, .int .i64 h.v, .int .i64 s.i, .int .i64 s.t, .slice B s.d.length c, .slice none 0 0]).frozen? ⟨W.heap.size + 1 + 1, 1, none⟩ = false ∧ (wz.drew.setRow (W.heap.size + 1 + 1) #[.int .i64 h.t, .int .i64 h.v, .int .i64 s.i, .int .i64 s.t, .slice B s.d.length c, .slice none 0 0]).frozen? ⟨W.heap.size + 1 + 1, 2, none⟩ = false ∧ (wz.drew.setRow (W.heap.size + 1 + 1) #[.int .i64 h.t, .int .i64 h.v, .int .i64 s.i, .int .i64 s.t, .slice B s.d.length c, .slice none 0 0]).frozen? ⟨W.heap.size + 1 + 1, 3, none⟩ = false ∧ (wz.drew.setRow (W.heap.size + 1 + 1) #[.int .i64 h.t, .int .i64 h.v, .int .i64 s.i, .int .i64 s.t, .slice B s.d.length c, .slice none 0 0]).frozen? ⟨W.heap.size + 1 + 1, 4, none⟩ = false ∧ (wz.drew.setRow (W.heap.size + 1 + 1) #[.int .i64 h.t, .int .i64 h.v, .int .i64 s.i, .int .i64 s.t, .slice B s.d.length c, .slice none 0 0]).frozen? ⟨W.heap.size + 1 + 1, 5, none⟩ = false := fil_rows hT.2.1 hT.1
        have HM := Lib.hid r0
        have HT := Lib.hid hT
        have HSv := Lib.hid hSv
        have HK := Lib.hid hkz
        clear hT hSv r0 b0 Cz hkz
        go_upto_region 11 with fail
        refine wp_region_held_drew (S := (fun w' => w'.cell? ⟨w6.heap.size + 1 + 1, 0, none⟩ = some (.int .i64 h.t) ∧ w'.cell? ⟨w6.heap.size + 1 + 1, 1, none⟩ = some (.int .i64 h.v) ∧ w'.cell? ⟨w6.heap.size + 1 + 1, 2, none⟩ = some (.int .i64 s.i) ∧ w'.cell? ⟨w6.heap.size + 1 + 1, 3, none⟩ = some (.int .i64 s.t) ∧ w'.cell? ⟨w6.heap.size + 1 + 1, 4, none⟩ = some (.slice B s.d.length c) ∧ w'.cell? ⟨w6.heap.size + 1 + 1, 5, none⟩ = some (.slice none 0 0) ∧ w'.frozen? ⟨W.heap.size + 1 + 1, 0, none⟩ = false ∧ w'.frozen? ⟨W.heap.size + 1 + 1, 1, none⟩ = false ∧ w'.frozen? ⟨W.heap.size + 1 + 1, 2, none⟩ = false ∧ w'.frozen? ⟨W.heap.size + 1 + 1, 3, none⟩ = false ∧ w'.frozen? ⟨W.heap.size + 1 + 1, 4, none⟩ = false ∧ w'.frozen? ⟨W.heap.size + 1 + 1, 5, none⟩ = false)) (by kernel_rfl) hS0 (fun hHeld => ?_)
        change wpAnyH _ _ _ _ _ 6 #[false, false, false, false, false, false] _ _
        refine wpAnyH_take (i := 0) (oi := { dst := some 61, op := Go.Op.move (Go.Operand.tmp 9), type := 26, pos := "law.go:111", after := #[], guard := none }) (v := ?_) rfl (by kernel_rfl) (by kernel_rfl) (by kernel_rfl) (fun _ _ _ h => h) (Or.inl ⟨by rfl, ?_⟩) (by assumption) ?_
        rotate_left
        · ((intro w hSw; (try dsimp only at hSw); go_simp); (try with_reducible rfl))
        try simp only [Act.put, List.setIfInBounds_toArray, List.set_cons_zero, List.set_cons_succ]
        refine wpAnyH_take (i := 1) (oi := { dst := some 62, op := Go.Op.move (Go.Operand.tmp 11), type := 30, pos := "law.go:111", after := #[{ on := 3, ground := Go.Ground.gcOnly Go.Departure.lateStores }], guard := none }) (v := ?_) rfl (by kernel_rfl) (by kernel_rfl) (by kernel_rfl) (fun _ _ _ h => h) (Or.inl ⟨by rfl, ?_⟩) (by assumption) ?_
        rotate_left
        · ((intro w hSw; (try dsimp only at hSw); go_simp); (try with_reducible rfl))
        try simp only [Act.put, List.setIfInBounds_toArray, List.set_cons_zero, List.set_cons_succ]
        refine wpAnyH_take (i := 2) (oi := { dst := some 63, op := Go.Op.load 47 (Go.Operand.tmp 16), type := 47, pos := "law.go:111", after := #[{ on := 4, ground := Go.Ground.gcOnly Go.Departure.lateStores }], guard := none }) (v := ?_) rfl (by kernel_rfl) (by kernel_rfl) (by kernel_rfl) (fun _ _ _ h => h) (Or.inl ⟨by rfl, ?_⟩) (by assumption) ?_
        rotate_left
        · ((intro w hSw; (try dsimp only at hSw); go_simp); (try with_reducible rfl))
        try simp only [Act.put, List.setIfInBounds_toArray, List.set_cons_zero, List.set_cons_succ]
        refine wpAnyH_take (i := 3) (oi := { dst := some 6, op := Go.Op.assign (Go.Operand.tmp 61), type := 26, pos := "law.go:111", after := #[{ on := 0, ground := Go.Ground.data }, { on := 0, ground := Go.Ground.phase }, { on := 1, ground := Go.Ground.textOnly Go.Departure.lateStores }, { on := 2, ground := Go.Ground.textOnly Go.Departure.lateStores }], guard := none }) (v := ?_) rfl (by kernel_rfl) (by kernel_rfl) (by kernel_rfl) (fun _ _ _ h => h) (Or.inl ⟨by rfl, ?_⟩) (by assumption) ?_
        rotate_left
        · ((intro w hSw; (try dsimp only at hSw); go_simp); (try with_reducible rfl))
        try simp only [Act.put, List.setIfInBounds_toArray, List.set_cons_zero, List.set_cons_succ]
        refine wpAnyH_take (i := 4) (oi := { dst := some 7, op := Go.Op.assign (Go.Operand.tmp 62), type := 30, pos := "law.go:111", after := #[{ on := 1, ground := Go.Ground.data }, { on := 3, ground := Go.Ground.chain }, { on := 0, ground := Go.Ground.phase }, { on := 1, ground := Go.Ground.phase }, { on := 2, ground := Go.Ground.textOnly Go.Departure.lateStores }, { on := 3, ground := Go.Ground.phase }], guard := none }) (v := ?_) rfl (by kernel_rfl) (by kernel_rfl) (by kernel_rfl) (fun _ _ _ h => h) (Or.inl ⟨by rfl, ?_⟩) (by assumption) ?_
        rotate_left
        · ((intro w hSw; (try dsimp only at hSw); go_simp); (try with_reducible rfl))
        try simp only [Act.put, List.setIfInBounds_toArray, List.set_cons_zero, List.set_cons_succ]
        refine wpAnyH_ready (rs := [5]) (by kernel_rfl) (by simp) ?_
        refine AllReadyH.cons rfl (fun KK hK => ?_) AllReadyH.nil
        rw [if_pos (by rfl)]
        refine wp_store_row _ _ _ rfl (W.heap.size + 1 + 1) #[.int .i64 h.t, .int .i64 h.v, .int .i64 s.i, .int .i64 s.t, .slice B s.d.length c, .slice none 0 0] (by rfl) (by rfl) _ _ HM.out (by kernel_rfl) rfl (by first | rfl | kernel_rfl | simp [Value.oneCell']) ?_
        refine hK.out _ _ HSv.out (fun hHeld7 => ?_)
        clear hK KK hHeld hS0 HSv HM
        try simp only [Act.put, List.setIfInBounds_toArray, List.set_cons_zero, List.set_cons_succ]
        refine wpAnyH_done (by kernel_rfl) ?_ _
        clear hHeld7
        generalize (wz.drew.setRow (W.heap.size + 1 + 1) #[.int .i64 h.t, .int .i64 h.v, .int .i64 s.i, .int .i64 s.t, .slice B s.d.length c, .slice none 0 0]) = XF at *
        all_goals
          go_wp2
          refine bodyPost_ret (res_tmp_tmp_cell (n := W.heap.size + 1 + 1) rfl rfl HT.out.1 Tryz.underlying47 rfl (by kernel_rfl)) rfl ?_
          exact ⟨d, v, j, _, _, _, _, _, B, c, none, 0, s, [], hS.symm, hL.symm, rfl, HT.out.2.2, ⟨by omega, by omega⟩, HK.out, hl.below HT.out.2.2.low (Nat.le_refl _), fun h0 g off e => hl.lt h0 e, ents_none _ _⟩
    · have hS : seedS s = snap0 := by unfold seedS; rw [if_neg (fun h => hi h.2)]
      rw [hsn] at hSP
      have hi1 : ((0 : Int) < s.i) = False := eq_false hi
      have hk1 := kept_new
      have hn1a := hn6.1
      have hn1b := hn6.2
      have hv1 : ∃ n1 : Int, n1 = n := ⟨n, rfl⟩
      obtain ⟨n1, rfl⟩ := hv1
      clear hK hi
      go_wp2_with fail
      refine (hSP _).mono ?_
      rintro e w1 ⟨rfl, hb1⟩
      have C1 := C8.below hb1
      have b0 := (hb1.block _ (hlt b0)).trans b0
      have r0 := (hb1.block _ (hlt r0)).trans r0
      have m0 := (hb1.block _ (hlt m0)).trans m0
      have m1 := (hb1.block _ (hlt m1)).trans m1
      clear hb1 C8 y0 y1 y2 hSP
      obtain ⟨⟨y0, y1, y2⟩, _⟩ := row3 m1
      have hRN1 := runR_any _ A l.length cap l (0) (0) _ (hE.below C1.low (Nat.le_refl _)) (by unfold maxLen; omega)
      obtain ⟨⟨y0, y1, y2, y3, y4, y5⟩, _⟩ := row6 b0
      cases hrun : runB (snap0).i (snap0).t l with
      | true =>
        have hL : seedL snap0 l = l := by unfold seedL; rw [if_pos hrun]
        rw [show runB (0) (0) l = true from hrun] at hRN1
        go_wp2_with fail
        refine hRN1.mono ?_
        rintro e w2 ⟨rfl, hb2⟩
        have C2 := C1.below hb2
        have b0 := (hb2.block _ (hlt b0)).trans b0
        have r0 := (hb2.block _ (hlt r0)).trans r0
        have m0 := (hb2.block _ (hlt m0)).trans m0
        clear y0 y1 y2 y3 y4 y5 hRN1 hb2 C1
        have hSv := vsave_any w2 v j d ⟨1048576, [], false, 0, false⟩ hd0 n1 _ C2.vt h _ A l.length cap l (C2.ents hE) (by omega) (by omega)
        unfold SaveP at hSv
        obtain ⟨k1, k2, x2, ls2, hk2⟩ := hk1.save (h := h) (more := l) hh (by exact hrun) (by have := saveRecs_length hd0 h l; have w0 : weigh [] = 0 := rfl; (try simp only [List.length_nil] at *); omega)
        have hk3 := hk2.more (V := 60000) (by have := saveRecs_length hd0 h l; have w0 : weigh [] = 0 := rfl; (try simp only [List.length_nil] at *); omega)
        have hnl : (l : List Ent).length ≤ 10 := by first | exact hf1 | exact Nat.zero_le _
        generalize Dsk.saveV ⟨1048576, [], false, 0, false⟩ hd0 h l = R2 at *
        obtain ⟨⟨D2, e2⟩, was2⟩ := R2
        dsimp only at hSv k1 k2 hk3
        subst k1
        have k3 := k2.symm
        subst k3
        clear k2
        obtain ⟨⟨x0, x1⟩, _⟩ := row2 m0
        clear hk2 hk1
        go_wp2_with fail
        refine hSv.mono ?_
        rintro e w3 ⟨rfl, n3, hn3, hn3', hd3⟩
        have C3 := C2.vdid hd3
        have b0 := hd3.at b0 hzb hbj hbv
        have r0 := hd3.at r0 hzr hrj hrv
        clear hSv hd3 x0 x1 C2 m0
        obtain ⟨⟨c0, c1, c2, c3, c4, c5⟩, ⟨f0, f1, f2, f3, f4, f5⟩⟩ := row6 b0
        have Cz := ctx_set (o := 5) C3 hzb hbv hbj (by omega) (.slice A l.length cap)
        have b1 := setCell_at w3 ⟨w6.heap.size + 1 + 1, 5, none⟩ (.slice A l.length cap) _ _ _ rfl b0
        have r1 := (Below.heap_setCell w3 ⟨w6.heap.size + 1 + 1, 5, none⟩ (.slice A l.length cap) (W.heap.size + 1 + 1) (by show W.heap.size + 1 + 1 ≠ w6.heap.size + 1 + 1; omega)).trans r0
        have hkz := hk3
        clear b0 r0 C3 hk3
        go_upto_region 11 with fail
        clear c0 c1 c2 c3 c4 c5 f0 f1 f2 f3 f4 f5
        generalize w3.setCell ⟨w6.heap.size + 1 + 1, 5, none⟩ (.slice A l.length cap) = wz at *
        have b0 := b1
        have r0 := r1
        clear b1 r1
        have hS0 : wz.drew.cell? ⟨w6.heap.size + 1 + 1, 0, none⟩ = some (.int .i64 h.t) ∧ wz.drew.cell? ⟨w6.heap.size + 1 + 1, 1, none⟩ = some (.int .i64 h.v) ∧ wz.drew.cell? ⟨w6.heap.size + 1 + 1, 2, none⟩ = some (.int .i64 0) ∧ wz.drew.cell? ⟨w6.heap.size + 1 + 1, 3, none⟩ = some (.int .i64 0) ∧ wz.drew.cell? ⟨w6.heap.size + 1 + 1, 4, none⟩ = some (.slice none 0 0) ∧ wz.drew.cell? ⟨w6.heap.size + 1 + 1, 5, none⟩ = some (.slice A l.length cap) ∧ wz.drew.frozen? ⟨W.heap.size + 1 + 1, 0, none⟩ = false ∧ wz.drew.frozen? ⟨W.heap.size + 1 + 1, 1, none⟩ = false ∧ wz.drew.frozen? ⟨W.heap.size + 1 + 1, 2, none⟩ = false ∧ wz.drew.frozen? ⟨W.heap.size + 1 + 1, 3, none⟩ = false ∧ wz.drew.frozen? ⟨W.heap.size + 1 + 1, 4, none⟩ = false ∧ wz.drew.frozen? ⟨W.heap.size + 1 + 1, 5, none⟩ = false := fil_rows (X := wz.drew) b0 r0
        have hT := fil_last Cz b0 r0 hzr hrv hrj (by omega) (by omega) #[.int .i64 h.t, .int .i64 h.v, .int .i64 0, .int .i64 0, .slice none 0 0, .slice A l.length cap]
        have hSv : (wz.drew.setRow (W.heap.size + 1 + 1) #[.int .i64 h.t, .int .i64 h.v, .int .i64 0, .int .i64 0, .slice none 0 0, .slice A l.length cap]).cell? ⟨w6.heap.size + 1 + 1, 0, none⟩ = some (.int .i64 h.t) ∧ (wz.drew.setRow (W.heap.size + 1 + 1) #[.int .i64 h.t, .int .i64 h.v, .int .i64 0, .int .i64 0, .slice none 0 0, .slice A l.length cap]).cell? ⟨w6.heap.size + 1 + 1, 1, none⟩ = some (.int .i64 h.v) ∧ (wz.drew.setRow (W.heap.size + 1 + 1) #[.int .i64 h.t, .int .i64 h.v, .int .i64 0, .int .i64 0, .slice none 0 0, .slice A l.length cap]).cell? ⟨w6.heap.size + 1 + 1, 2, none⟩ = some (.int .i64 0) ∧ (wz.drew.setRow (W.heap.size + 1 + 1) #[.int .i64 h.t, .int .i64 h.v, .int .i64 0, .int .i64 0, .slice none 0 0, .slice A l.length cap]).cell? ⟨w6.heap.size + 1 + 1, 3, none⟩ = some (.int .i64 0) ∧ (wz.drew.setRow (W.heap.size + 1 + 1) #[.int .i64 h.t, .int .i64 h.v, .int .i64 0, .int .i64 0, .slice none 0 0, .slice A l.length cap]).cell? ⟨w6.heap.size + 1 + 1, 4, none⟩ = some (.slice none 0 0) ∧ (wz.drew.setRow (W.heap.size + 1 + 1) #[.int .i64 h.t, .int .i64 h.v, .int .i64 0, .int .i64 0, .slice none 0 0, .slice A l.length cap]).cell? ⟨w6.heap.size + 1 + 1, 5, none⟩ = some (.slice A l.length cap) ∧ (wz.drew.setRow (W.heap.size + 1 + 1) #[.int .i64 h.t, .int .i64 h.v, .int .i64 0, .int .i64 0, .slice none 0 0, .slice A l.length cap]).frozen? ⟨W.heap.size + 1 + 1, 0, none⟩ = false ∧ (wz.drew.setRow (W.heap.size + 1 + 1) #[.int .i64 h.t, .int .i64 h.v, .int .i64 0, .int .i64 0, .slice none 0 0, .slice A l.length cap]).frozen? ⟨W.heap.size + 1 + 1, 1, none⟩ = false ∧ (wz.drew.setRow (W.heap.size + 1 + 1) #[.int .i64 h.t, .int .i64 h.v, .int .i64 0, .int .i64 0, .slice none 0 0, .slice A l.length cap]).frozen? ⟨W.heap.size + 1 + 1, 2, none⟩ = false ∧ (wz.drew.setRow (W.heap.size + 1 + 1) #[.int .i64 h.t, .int .i64 h.v, .int .i64 0, .int .i64 0, .slice none 0 0, .slice A l.length cap]).frozen? ⟨W.heap.size + 1 + 1, 3, none⟩ = false ∧ (wz.drew.setRow (W.heap.size + 1 + 1) #[.int .i64 h.t, .int .i64 h.v, .int .i64 0, .int .i64 0, .slice none 0 0, .slice A l.length cap]).frozen? ⟨W.heap.size + 1 + 1, 4, none⟩ = false ∧ (wz.drew.setRow (W.heap.size + 1 + 1) #[.int .i64 h.t, .int .i64 h.v, .int .i64 0, .int .i64 0, .slice none 0 0, .slice A l.length cap]).frozen? ⟨W.heap.size + 1 + 1, 5, none⟩ = false := fil_rows hT.2.1 hT.1
        have HM := Lib.hid r0
        have HT := Lib.hid hT
        have HSv := Lib.hid hSv
        have HK := Lib.hid hkz
        clear hT hSv r0 b0 Cz hkz
        go_upto_region 11 with fail
        refine wp_region_held_drew (S := (fun w' => w'.cell? ⟨w6.heap.size + 1 + 1, 0, none⟩ = some (.int .i64 h.t) ∧ w'.cell? ⟨w6.heap.size + 1 + 1, 1, none⟩ = some (.int .i64 h.v) ∧ w'.cell? ⟨w6.heap.size + 1 + 1, 2, none⟩ = some (.int .i64 0) ∧ w'.cell? ⟨w6.heap.size + 1 + 1, 3, none⟩ = some (.int .i64 0) ∧ w'.cell? ⟨w6.heap.size + 1 + 1, 4, none⟩ = some (.slice none 0 0) ∧ w'.cell? ⟨w6.heap.size + 1 + 1, 5, none⟩ = some (.slice A l.length cap) ∧ w'.frozen? ⟨W.heap.size + 1 + 1, 0, none⟩ = false ∧ w'.frozen? ⟨W.heap.size + 1 + 1, 1, none⟩ = false ∧ w'.frozen? ⟨W.heap.size + 1 + 1, 2, none⟩ = false ∧ w'.frozen? ⟨W.heap.size + 1 + 1, 3, none⟩ = false ∧ w'.frozen? ⟨W.heap.size + 1 + 1, 4, none⟩ = false ∧ w'.frozen? ⟨W.heap.size + 1 + 1, 5, none⟩ = false)) (by kernel_rfl) hS0 (fun hHeld => ?_)
        change wpAnyH _ _ _ _ _ 6 #[false, false, false, false, false, false] _ _
        refine wpAnyH_take (i := 0) (oi := { dst := some 61, op := Go.Op.move (Go.Operand.tmp 9), type := 26, pos := "law.go:111", after := #[], guard := none }) (v := ?_) rfl (by kernel_rfl) (by kernel_rfl) (by kernel_rfl) (fun _ _ _ h => h) (Or.inl ⟨by rfl, ?_⟩) (by assumption) ?_
        rotate_left
        · ((intro w hSw; (try dsimp only at hSw); go_simp); (try with_reducible rfl))
        try simp only [Act.put, List.setIfInBounds_toArray, List.set_cons_zero, List.set_cons_succ]
        refine wpAnyH_take (i := 1) (oi := { dst := some 62, op := Go.Op.move (Go.Operand.tmp 11), type := 30, pos := "law.go:111", after := #[{ on := 3, ground := Go.Ground.gcOnly Go.Departure.lateStores }], guard := none }) (v := ?_) rfl (by kernel_rfl) (by kernel_rfl) (by kernel_rfl) (fun _ _ _ h => h) (Or.inl ⟨by rfl, ?_⟩) (by assumption) ?_
        rotate_left
        · ((intro w hSw; (try dsimp only at hSw); go_simp); (try with_reducible rfl))
        try simp only [Act.put, List.setIfInBounds_toArray, List.set_cons_zero, List.set_cons_succ]
        refine wpAnyH_take (i := 2) (oi := { dst := some 63, op := Go.Op.load 47 (Go.Operand.tmp 16), type := 47, pos := "law.go:111", after := #[{ on := 4, ground := Go.Ground.gcOnly Go.Departure.lateStores }], guard := none }) (v := ?_) rfl (by kernel_rfl) (by kernel_rfl) (by kernel_rfl) (fun _ _ _ h => h) (Or.inl ⟨by rfl, ?_⟩) (by assumption) ?_
        rotate_left
        · ((intro w hSw; (try dsimp only at hSw); go_simp); (try with_reducible rfl))
        try simp only [Act.put, List.setIfInBounds_toArray, List.set_cons_zero, List.set_cons_succ]
        refine wpAnyH_take (i := 3) (oi := { dst := some 6, op := Go.Op.assign (Go.Operand.tmp 61), type := 26, pos := "law.go:111", after := #[{ on := 0, ground := Go.Ground.data }, { on := 0, ground := Go.Ground.phase }, { on := 1, ground := Go.Ground.textOnly Go.Departure.lateStores }, { on := 2, ground := Go.Ground.textOnly Go.Departure.lateStores }], guard := none }) (v := ?_) rfl (by kernel_rfl) (by kernel_rfl) (by kernel_rfl) (fun _ _ _ h => h) (Or.inl ⟨by rfl, ?_⟩) (by assumption) ?_
        rotate_left
        · ((intro w hSw; (try dsimp only at hSw); go_simp); (try with_reducible rfl))
        try simp only [Act.put, List.setIfInBounds_toArray, List.set_cons_zero, List.set_cons_succ]
        refine wpAnyH_take (i := 4) (oi := { dst := some 7, op := Go.Op.assign (Go.Operand.tmp 62), type := 30, pos := "law.go:111", after := #[{ on := 1, ground := Go.Ground.data }, { on := 3, ground := Go.Ground.chain }, { on := 0, ground := Go.Ground.phase }, { on := 1, ground := Go.Ground.phase }, { on := 2, ground := Go.Ground.textOnly Go.Departure.lateStores }, { on := 3, ground := Go.Ground.phase }], guard := none }) (v := ?_) rfl (by kernel_rfl) (by kernel_rfl) (by kernel_rfl) (fun _ _ _ h => h) (Or.inl ⟨by rfl, ?_⟩) (by assumption) ?_
        rotate_left
        · ((intro w hSw; (try dsimp only at hSw); go_simp); (try with_reducible rfl))
        try simp only [Act.put, List.setIfInBounds_toArray, List.set_cons_zero, List.set_cons_succ]
        refine wpAnyH_ready (rs := [5]) (by kernel_rfl) (by simp) ?_
        refine AllReadyH.cons rfl (fun KK hK => ?_) AllReadyH.nil
        rw [if_pos (by rfl)]
        refine wp_store_row _ _ _ rfl (W.heap.size + 1 + 1) #[.int .i64 h.t, .int .i64 h.v, .int .i64 0, .int .i64 0, .slice none 0 0, .slice A l.length cap] (by rfl) (by rfl) _ _ HM.out (by kernel_rfl) rfl (by first | rfl | kernel_rfl | simp [Value.oneCell']) ?_
        refine hK.out _ _ HSv.out (fun hHeld7 => ?_)
        clear hK KK hHeld hS0 HSv HM
        try simp only [Act.put, List.setIfInBounds_toArray, List.set_cons_zero, List.set_cons_succ]
        refine wpAnyH_done (by kernel_rfl) ?_ _
        clear hHeld7
        generalize (wz.drew.setRow (W.heap.size + 1 + 1) #[.int .i64 h.t, .int .i64 h.v, .int .i64 0, .int .i64 0, .slice none 0 0, .slice A l.length cap]) = XF at *
        all_goals
          go_wp2
          refine bodyPost_ret (res_tmp_tmp_cell (n := W.heap.size + 1 + 1) rfl rfl HT.out.1 Tryz.underlying47 rfl (by kernel_rfl)) rfl ?_
          exact ⟨d, v, j, _, _, _, _, _, none, 0, A, cap, snap0, l, hS.symm, hL.symm, rfl, HT.out.2.2, ⟨by omega, by omega⟩, HK.out, Lies.nil _, fun h0 => absurd h0 (by simp [snap0]), hE.below HT.out.2.2.low (Nat.le_refl _)⟩
      | false =>
        have hL : seedL snap0 l = [] := by unfold seedL; rw [if_neg (by rw [hrun]; simp)]
        rw [show runB (0) (0) l = false from hrun] at hRN1
        go_wp2_with fail
        refine hRN1.mono ?_
        rintro e w2 ⟨rfl, hb2⟩
        have C2 := C1.below hb2
        have b0 := (hb2.block _ (hlt b0)).trans b0
        have r0 := (hb2.block _ (hlt r0)).trans r0
        have m0 := (hb2.block _ (hlt m0)).trans m0
        clear y0 y1 y2 y3 y4 y5 hRN1 hb2 C1
        have hSv := vsave_any w2 v j d ⟨1048576, [], false, 0, false⟩ hd0 n1 _ C2.vt h (fun _ => False) none 0 0 [] (ents_none _ _) (by omega) (by omega)
        unfold SaveP at hSv
        obtain ⟨k1, k2, x2, ls2, hk2⟩ := hk1.save (h := h) (more := []) hh (by exact rfl) (by have := saveRecs_length hd0 h []; have w0 : weigh [] = 0 := rfl; (try simp only [List.length_nil] at *); omega)
        have hk3 := hk2.more (V := 60000) (by have := saveRecs_length hd0 h []; have w0 : weigh [] = 0 := rfl; (try simp only [List.length_nil] at *); omega)
        have hnl : ([] : List Ent).length ≤ 10 := by first | exact hf1 | exact Nat.zero_le _
        generalize Dsk.saveV ⟨1048576, [], false, 0, false⟩ hd0 h [] = R2 at *
        obtain ⟨⟨D2, e2⟩, was2⟩ := R2
        dsimp only at hSv k1 k2 hk3
        subst k1
        have k3 := k2.symm
        subst k3
        clear k2
        obtain ⟨⟨x0, x1⟩, _⟩ := row2 m0
        clear hk2 hk1
        go_wp2_with fail
        refine hSv.mono ?_
        rintro e w3 ⟨rfl, n3, hn3, hn3', hd3⟩
        have C3 := C2.vdid hd3
        have b0 := hd3.at b0 hzb hbj hbv
        have r0 := hd3.at r0 hzr hrj hrv
        clear hSv hd3 x0 x1 C2 m0
        have Cz := C3
        have hkz := hk3
        clear C3 hk3
        generalize w3 = wz at *
        have hS0 : wz.drew.cell? ⟨w6.heap.size + 1 + 1, 0, none⟩ = some (.int .i64 h.t) ∧ wz.drew.cell? ⟨w6.heap.size + 1 + 1, 1, none⟩ = some (.int .i64 h.v) ∧ wz.drew.cell? ⟨w6.heap.size + 1 + 1, 2, none⟩ = some (.int .i64 0) ∧ wz.drew.cell? ⟨w6.heap.size + 1 + 1, 3, none⟩ = some (.int .i64 0) ∧ wz.drew.cell? ⟨w6.heap.size + 1 + 1, 4, none⟩ = some (.slice none 0 0) ∧ wz.drew.cell? ⟨w6.heap.size + 1 + 1, 5, none⟩ = some (.slice none 0 0) ∧ wz.drew.frozen? ⟨W.heap.size + 1 + 1, 0, none⟩ = false ∧ wz.drew.frozen? ⟨W.heap.size + 1 + 1, 1, none⟩ = false ∧ wz.drew.frozen? ⟨W.heap.size + 1 + 1, 2, none⟩ = false ∧ wz.drew.frozen? ⟨W.heap.size + 1 + 1, 3, none⟩ = false ∧ wz.drew.frozen? ⟨W.heap.size + 1 + 1, 4, none⟩ = false ∧ wz.drew.frozen? ⟨W.heap.size + 1 + 1, 5, none⟩ = false := fil_rows (X := wz.drew) b0 r0
        have hT := fil_last Cz b0 r0 hzr hrv hrj (by omega) (by omega) #[.int .i64 h.t, .int .i64 h.v, .int .i64 0, .int .i64 0, .slice none 0 0, .slice none 0 0]
        have hSv : (wz.drew.setRow (W.heap.size + 1 + 1) #[.int .i64 h.t, .int .i64 h.v, .int .i64 0, .int .i64 0, .slice none 0 0, .slice none 0 0]).cell? ⟨w6.heap.size + 1 + 1, 0, none⟩ = some (.int .i64 h.t) ∧ (wz.drew.setRow (W.heap.size + 1 + 1) #[.int .i64 h.t, .int .i64 h.v, .int .i64 0, .int .i64 0, .slice none 0 0, .slice none 0 0]).cell? ⟨w6.heap.size + 1 + 1, 1, none⟩ = some (.int .i64 h.v) ∧ (wz.drew.setRow (W.heap.size + 1 + 1) #[.int .i64 h.t, .int .i64 h.v, .int .i64 0, .int .i64 0, .slice none 0 0, .slice none 0 0]).cell? ⟨w6.heap.size + 1 + 1, 2, none⟩ = some (.int .i64 0) ∧ (wz.drew.setRow (W.heap.size + 1 + 1) #[.int .i64 h.t, .int .i64 h.v, .int .i64 0, .int .i64 0, .slice none 0 0, .slice none 0 0]).cell? ⟨w6.heap.size + 1 + 1, 3, none⟩ = some (.int .i64 0) ∧ (wz.drew.setRow (W.heap.size + 1 + 1) #[.int .i64 h.t, .int .i64 h.v, .int .i64 0, .int .i64 0, .slice none 0 0, .slice none 0 0]).cell? ⟨w6.heap.size + 1 + 1, 4, none⟩ = some (.slice none 0 0) ∧ (wz.drew.setRow (W.heap.size + 1 + 1) #[.int .i64 h.t, .int .i64 h.v, .int .i64 0, .int .i64 0, .slice none 0 0, .slice none 0 0]).cell? ⟨w6.heap.size + 1 + 1, 5, none⟩ = some (.slice none 0 0) ∧ (wz.drew.setRow (W.heap.size + 1 + 1) #[.int .i64 h.t, .int .i64 h.v, .int .i64 0, .int .i64 0, .slice none 0 0, .slice none 0 0]).frozen? ⟨W.heap.size + 1 + 1, 0, none⟩ = false ∧ (wz.drew.setRow (W.heap.size + 1 + 1) #[.int .i64 h.t, .int .i64 h.v, .int .i64 0, .int .i64 0, .slice none 0 0, .slice none 0 0]).frozen? ⟨W.heap.size + 1 + 1, 1, none⟩ = false ∧ (wz.drew.setRow (W.heap.size + 1 + 1) #[.int .i64 h.t, .int .i64 h.v, .int .i64 0, .int .i64 0, .slice none 0 0, .slice none 0 0]).frozen? ⟨W.heap.size + 1 + 1, 2, none⟩ = false ∧ (wz.drew.setRow (W.heap.size + 1 + 1) #[.int .i64 h.t, .int .i64 h.v, .int .i64 0, .int .i64 0, .slice none 0 0, .slice none 0 0]).frozen? ⟨W.heap.size + 1 + 1, 3, none⟩ = false ∧ (wz.drew.setRow (W.heap.size + 1 + 1) #[.int .i64 h.t, .int .i64 h.v, .int .i64 0, .int .i64 0, .slice none 0 0, .slice none 0 0]).frozen? ⟨W.heap.size + 1 + 1, 4, none⟩ = false ∧ (wz.drew.setRow (W.heap.size + 1 + 1) #[.int .i64 h.t, .int .i64 h.v, .int .i64 0, .int .i64 0, .slice none 0 0, .slice none 0 0]).frozen? ⟨W.heap.size + 1 + 1, 5, none⟩ = false := fil_rows hT.2.1 hT.1
        have HM := Lib.hid r0
        have HT := Lib.hid hT
        have HSv := Lib.hid hSv
        have HK := Lib.hid hkz
        clear hT hSv r0 b0 Cz hkz
        go_upto_region 11 with fail
        refine wp_region_held_drew (S := (fun w' => w'.cell? ⟨w6.heap.size + 1 + 1, 0, none⟩ = some (.int .i64 h.t) ∧ w'.cell? ⟨w6.heap.size + 1 + 1, 1, none⟩ = some (.int .i64 h.v) ∧ w'.cell? ⟨w6.heap.size + 1 + 1, 2, none⟩ = some (.int .i64 0) ∧ w'.cell? ⟨w6.heap.size + 1 + 1, 3, none⟩ = some (.int .i64 0) ∧ w'.cell? ⟨w6.heap.size + 1 + 1, 4, none⟩ = some (.slice none 0 0) ∧ w'.cell? ⟨w6.heap.size + 1 + 1, 5, none⟩ = some (.slice none 0 0) ∧ w'.frozen? ⟨W.heap.size + 1 + 1, 0, none⟩ = false ∧ w'.frozen? ⟨W.heap.size + 1 + 1, 1, none⟩ = false ∧ w'.frozen? ⟨W.heap.size + 1 + 1, 2, none⟩ = false ∧ w'.frozen? ⟨W.heap.size + 1 + 1, 3, none⟩ = false ∧ w'.frozen? ⟨W.heap.size + 1 + 1, 4, none⟩ = false ∧ w'.frozen? ⟨W.heap.size + 1 + 1, 5, none⟩ = false)) (by kernel_rfl) hS0 (fun hHeld => ?_)
        change wpAnyH _ _ _ _ _ 6 #[false, false, false, false, false, false] _ _
        refine wpAnyH_take (i := 0) (oi := { dst := some 61, op := Go.Op.move (Go.Operand.tmp 9), type := 26, pos := "law.go:111", after := #[], guard := none }) (v := ?_) rfl (by kernel_rfl) (by kernel_rfl) (by kernel_rfl) (fun _ _ _ h => h) (Or.inl ⟨by rfl, ?_⟩) (by assumption) ?_
        rotate_left
        · ((intro w hSw; (try dsimp only at hSw); go_simp); (try with_reducible rfl))
        try simp only [Act.put, List.setIfInBounds_toArray, List.set_cons_zero, List.set_cons_succ]
        refine wpAnyH_take (i := 1) (oi := { dst := some 62, op := Go.Op.move (Go.Operand.tmp 11), type := 30, pos := "law.go:111", after := #[{ on := 3, ground := Go.Ground.gcOnly Go.Departure.lateStores }], guard := none }) (v := ?_) rfl (by kernel_rfl) (by kernel_rfl) (by kernel_rfl) (fun _ _ _ h => h) (Or.inl ⟨by rfl, ?_⟩) (by assumption) ?_
        rotate_left
        · ((intro w hSw; (try dsimp only at hSw); go_simp); (try with_reducible rfl))
        try simp only [Act.put, List.setIfInBounds_toArray, List.set_cons_zero, List.set_cons_succ]
        refine wpAnyH_take (i := 2) (oi := { dst := some 63, op := Go.Op.load 47 (Go.Operand.tmp 16), type := 47, pos := "law.go:111", after := #[{ on := 4, ground := Go.Ground.gcOnly Go.Departure.lateStores }], guard := none }) (v := ?_) rfl (by kernel_rfl) (by kernel_rfl) (by kernel_rfl) (fun _ _ _ h => h) (Or.inl ⟨by rfl, ?_⟩) (by assumption) ?_
        rotate_left
        · ((intro w hSw; (try dsimp only at hSw); go_simp); (try with_reducible rfl))
        try simp only [Act.put, List.setIfInBounds_toArray, List.set_cons_zero, List.set_cons_succ]
        refine wpAnyH_take (i := 3) (oi := { dst := some 6, op := Go.Op.assign (Go.Operand.tmp 61), type := 26, pos := "law.go:111", after := #[{ on := 0, ground := Go.Ground.data }, { on := 0, ground := Go.Ground.phase }, { on := 1, ground := Go.Ground.textOnly Go.Departure.lateStores }, { on := 2, ground := Go.Ground.textOnly Go.Departure.lateStores }], guard := none }) (v := ?_) rfl (by kernel_rfl) (by kernel_rfl) (by kernel_rfl) (fun _ _ _ h => h) (Or.inl ⟨by rfl, ?_⟩) (by assumption) ?_
        rotate_left
        · ((intro w hSw; (try dsimp only at hSw); go_simp); (try with_reducible rfl))
        try simp only [Act.put, List.setIfInBounds_toArray, List.set_cons_zero, List.set_cons_succ]
        refine wpAnyH_take (i := 4) (oi := { dst := some 7, op := Go.Op.assign (Go.Operand.tmp 62), type := 30, pos := "law.go:111", after := #[{ on := 1, ground := Go.Ground.data }, { on := 3, ground := Go.Ground.chain }, { on := 0, ground := Go.Ground.phase }, { on := 1, ground := Go.Ground.phase }, { on := 2, ground := Go.Ground.textOnly Go.Departure.lateStores }, { on := 3, ground := Go.Ground.phase }], guard := none }) (v := ?_) rfl (by kernel_rfl) (by kernel_rfl) (by kernel_rfl) (fun _ _ _ h => h) (Or.inl ⟨by rfl, ?_⟩) (by assumption) ?_
        rotate_left
        · ((intro w hSw; (try dsimp only at hSw); go_simp); (try with_reducible rfl))
        try simp only [Act.put, List.setIfInBounds_toArray, List.set_cons_zero, List.set_cons_succ]
        refine wpAnyH_ready (rs := [5]) (by kernel_rfl) (by simp) ?_
        refine AllReadyH.cons rfl (fun KK hK => ?_) AllReadyH.nil
        rw [if_pos (by rfl)]
        refine wp_store_row _ _ _ rfl (W.heap.size + 1 + 1) #[.int .i64 h.t, .int .i64 h.v, .int .i64 0, .int .i64 0, .slice none 0 0, .slice none 0 0] (by rfl) (by rfl) _ _ HM.out (by kernel_rfl) rfl (by first | rfl | kernel_rfl | simp [Value.oneCell']) ?_
        refine hK.out _ _ HSv.out (fun hHeld7 => ?_)
        clear hK KK hHeld hS0 HSv HM
        try simp only [Act.put, List.setIfInBounds_toArray, List.set_cons_zero, List.set_cons_succ]
        refine wpAnyH_done (by kernel_rfl) ?_ _
        clear hHeld7
        generalize (wz.drew.setRow (W.heap.size + 1 + 1) #[.int .i64 h.t, .int .i64 h.v, .int .i64 0, .int .i64 0, .slice none 0 0, .slice none 0 0]) = XF at *
        all_goals
          go_wp2
          refine bodyPost_ret (res_tmp_tmp_cell (n := W.heap.size + 1 + 1) rfl rfl HT.out.1 Tryz.underlying47 rfl (by kernel_rfl)) rfl ?_
          exact ⟨d, v, j, _, _, _, _, _, none, 0, none, 0, snap0, [], hS.symm, hL.symm, rfl, HT.out.2.2, ⟨by omega, by omega⟩, HK.out, Lies.nil _, fun h0 => absurd h0 (by simp [snap0]), ents_none _ _⟩
end Go.Proofs.YtmeoooojmhhahaaGreat
