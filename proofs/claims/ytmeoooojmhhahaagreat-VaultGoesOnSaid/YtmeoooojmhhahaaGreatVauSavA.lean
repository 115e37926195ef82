/- What the laws of a crash share: what is last, entries appended to a row of the law's own, how many bytes there are behind a crash. -/
import Derived.Test.YtmeoooojmhhahaaGreatVauFil
import Derived.Laws.AppendOwn
namespace Go.Proofs.YtmeoooojmhhahaaGreat
open Go.RowKit
set_option linter.unusedVariables false
set_option linter.unusedSimpArgs false

theorem last_nil (i t : Int) : lastI i [] = i ∧ lastT t [] = t := ⟨rfl, rfl⟩
theorem last_at (i t : Int) {l : List Ent} (h : 0 < l.length) : lastI i l = (l[l.length - 1]'(by omega)).i ∧ lastT t l = (l[l.length - 1]'(by omega)).t := by
  have e : l.getLast? = some (l[l.length - 1]'(by omega)) := by
    rw [List.getLast?_eq_getElem?, List.getElem?_eq_getElem (by omega)]
  unfold lastI lastT
  rw [e]
  exact ⟨rfl, rfl⟩

/-- 'append(x, y...)' of entries, y nil or not. -/
theorem wpList_append_laysV (w : World) {ops : Array Oper} {rest : List Oper} {o : Oper} {a : Act} {Q : Exit → Act → World → Prop} (hgd : o.guard = none) (sl x : Operand)
    (ho : o.op = .call { callee := .builtin .append, args := #[sl, x], argTypes := #[36, 36] })
    (base : Nat) (hbase : base ≤ w.heap.size) (v : Value) (n : Nat) (row : List Value) (hs : a.eval sl = v) (hown : w.ownsRow base 69 3 v n row) (A : Option Addr) (len cap : Nat) (xs : List Lay) (hx : a.eval x = .slice A len cap) (hl : xs.length = len)
    (hnone : A = none → cap = 0 ∧ len = 0) (hcell : ∀ b, A = some b → ∀ j u, (rowOf xs)[j]? = some u → w.cell? (b.add j) = some u) (hf : n + len ≤ 1000000)
    (h : ∀ v' w', w'.ownsRow base 69 3 v' (n + len) (row ++ rowOf xs) → w.grownBy w' v.ownBlock → (v'.ownBlock = v.ownBlock ∨ v'.ownBlock = some w.heap.size) → wpList Tryz.prog ops Q rest (a.put o.dst v') w') : wpList Tryz.prog ops Q (o :: rest) a w := by
  cases A with
  | some b => exact wpList_append_ents w hgd sl x ho base hbase v n row hs hown b len cap xs hx hl (hcell b rfl) hf h
  | none =>
    obtain ⟨rfl, rfl⟩ := hnone rfl
    obtain rfl : xs = [] := List.eq_nil_of_length_eq_zero hl
    obtain ⟨i0, hi0, hz0, hz1, hz2⟩ := info_parts info_ent
    refine wpList_plain hgd fun K hK => ?_
    have hr := run_append_owned_none (P := Tryz.prog) (w := w) base 36 o.type 69 i0 3 Tryz.underlying36 hi0 v _ _ hown
    unfold Oper.wp execOp
    simp only [ho, resolve, invoke, builtin, Sem.run_bind, Sem.run_pure, Result.andThen_ok, List.map_toArray, List.map_cons, List.map_nil, hs, hx, hr]
    exact hK _ _ (h v w (by simpa [rowOf] using hown) (World.grownBy.refl _ _) (.inl rfl))

/-- Entries appended to a row of the law's own. -/
theorem wpList_append_entrow (w : World) {ops : Array Oper} {rest : List Oper} {o : Oper} {a : Act} {Q : Exit → Act → World → Prop} (hgd : o.guard = none) (sl x : Operand)
    (ho : o.op = .call { callee := .builtin .append, args := #[sl, x], argTypes := #[36, 36] })
    (B : Nat) (hB : B ≤ w.heap.size) (Y : Nat → Prop) (v : Value) (l : List Ent) (h : EntRow w B Y v l) (hs : a.eval sl = v) (A : Option Addr) (m c : Nat) (l2 : List Ent) (hE : Ents w (fun q => Y q ∧ v.ownBlock ≠ some q) A m c l2) (hx : a.eval x = .slice A m c) (hY : ∀ k, w.heap.size ≤ k → Y k) (hf : l.length + m ≤ 1000000) (n : Nat) (hn : l.length + m = n) (ll : List Ent) (hll : l ++ l2 = ll)
    (K : ∀ A' c' w', EntRow w' B Y (.slice A' n c') ll → w.grownBy w' v.ownBlock → wpList Tryz.prog ops Q rest (a.put o.dst (.slice A' n c')) w') : wpList Tryz.prog ops Q (o :: rest) a w := by
  subst hn hll
  have hl2 := hE.1
  have hcap := hE.2.1
  have hnone := hE.2.2.1
  obtain ⟨ys, hys, hyok, hycell⟩ := hE.lays
  obtain ⟨xs, hown, hyv, hxs, hok⟩ := h
  have hyl : ys.length = m := by rw [← hl2, ← hys, List.length_map]
  refine wpList_append_laysV w hgd sl x ho B hB v l.length (rowOf xs) hs hown A m c ys hx hyl (fun e => ⟨hnone e, by have := hnone e; omega⟩) hycell hf ?_
  intro v' w' hown' hg hq
  have hlt : ∀ y : Lay, LayOk w (fun q => Y q ∧ v.ownBlock ≠ some q) y → LayOk w' (fun q => Y q ∧ v'.ownBlock ≠ some q) y := fun y hy => by
    refine ⟨hy.1, hy.2.1.keep hg.size fun h0 q o e hq1 => hg.block q hq1 fun er => (hy.2.2 h0 q o e).2 er.symm, fun h0 q o e => ⟨(hy.2.2 h0 q o e).1, fun er => ?_⟩⟩
    rcases hq with hq | hq
    · exact (hy.2.2 h0 q o e).2 (hq ▸ er)
    · have := hy.2.1.lt h0 e
      rw [hq] at er
      injection er with er
      omega
  have hrow : EntRow w' B Y v' (l ++ l2) := by
    refine ⟨xs ++ ys, ?_, fun k hk => ?_, by rw [List.map_append, hxs, hys], fun y hy => ?_⟩
    · rw [rowOf_append, List.length_append, hl2]
      exact hown'
    · rcases hq with hq | hq
      · exact hyv k (hq ▸ hk)
      · rw [hq] at hk
        injection hk with hk
        subst hk
        exact hY _ (Nat.le_refl _)
    · rcases List.mem_append.1 hy with hy | hy
      · exact hlt y (hok y hy)
      · exact hlt y (hyok y hy)
  obtain ⟨A', c', e⟩ := hrow.form
  have e2 : (l ++ l2).length = l.length + m := by rw [List.length_append, hl2]
  rw [e2] at e
  subst e
  exact K A' c' w' hrow hg

theorem EntRow.made (w : World) (B : Nat) (hB : B ≤ w.heap.size) (Y : Nat → Prop) (hY : Y w.heap.size) : EntRow (w.alloc (.cells #[] 69)) B Y (.slice (some ⟨w.heap.size, 0, none⟩) 0 0) [] :=
  ⟨[], World.ownsRow_made (base := B) (e := 69) (size := 3) w #[] 0 hB (Nat.zero_le _) rfl, fun g e => by injection e with e; have e : w.heap.size = g := e; exact e ▸ hY, rfl, fun x hx => by cases hx⟩

/-- The first ones of entries that lie somewhere. -/
theorem Ents.front {w : World} {Z : Nat → Prop} {A : Option Addr} {len cap : Nat} {l : List Ent} (h : Ents w Z A len cap l) (k : Nat) (hk : k ≤ len) : Ents w Z A k cap (l.take k) := by
  obtain ⟨h1, h2, h3, h4⟩ := h
  refine ⟨by rw [List.length_take]; omega, by omega, h3, fun h0 => ?_⟩
  obtain ⟨g, off, e, hg, hz, hc⟩ := h4 (by omega)
  refine ⟨g, off, e, hg, hz, fun j hj => ?_⟩
  rw [List.length_take] at hj
  obtain ⟨E, c, q⟩ := hc j (by omega)
  refine ⟨E, c, ?_⟩
  rw [List.getElem_take]
  exact q

theorem saved_used {D : Dsk} {φ : Option Nat} {was : Hd} {s : Ent} {l : List Ent} {U : Nat} {x : View} {ls : List (List UInt8)} (k : Kept D φ was s l U x ls) {h : Hd} {more : List Ent} (hh : rightH h = true) (hrun : runB s.i s.t (l ++ more) = true) (hr : U + (framesL (saveRecs was h more)).length ≤ 160000) (Y : Nat → Int) (len : Nat) :
    usedF ((D.saveV was h more).1.1.restart Y len).l ≤ 160000 := by
  obtain ⟨ψ, lost, y, hd, _⟩ := k.saved hh hrun (by omega)
  obtain ⟨q, _, hd2⟩ := hd.restart Y len
  have := hd2.used
  omega

theorem keeps_used {D : Dsk} {φ : Option Nat} {was : Hd} {s0 : Ent} {l0 : List Ent} {U : Nat} {x : View} {ls : List (List UInt8)} (k : Kept D φ was s0 l0 U x ls) {h : Hd} {s : Ent} {l : List Ent} (ok : keepOk h s l = true) {V : Nat} (hV : V = U + (framesL (saveRecs was h [])).length + (frameL (snapRec s)).length + (framesL (allRecs h l)).length) (hr : V ≤ 160000) (Y : Nat → Int) (len : Nat) :
    usedF ((D.keepV was h s l).1.1.restart Y len).l ≤ 160000 := by
  obtain ⟨ψ, lost, y, hd, _⟩ := k.keeps ok hV (by omega)
  obtain ⟨q, _, hd2⟩ := hd.restart Y len
  have := hd2.used
  omega
end Go.Proofs.YtmeoooojmhhahaaGreat
