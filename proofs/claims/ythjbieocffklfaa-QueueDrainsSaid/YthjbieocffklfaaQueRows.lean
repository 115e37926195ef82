/- 'append(x, y...)' of two rows that the call owns. -/
import Derived.Test.YthjbieocffklfaaRows
import Derived.Deep.AppendLies
import Derived.Laws.OwnMore
import Derived.OwnWalk
import Derived.WalkKit
namespace Go.Proofs.Ythjbieocffklfaa
open Go.RowKit

theorem owns_shape {w : World} {base : Nat} {e : TypeId} {size : Nat} {v : Value} {n : Nat} {xs : List Value} (h : w.ownsRow base e size v n xs) : (v = .slice none 0 0 ∧ n = 0) ∨ ∃ g c, v = .slice (some ⟨g, 0, none⟩) n c := by
  rcases h.2 with ⟨rfl, rfl⟩ | ⟨g, cap, cur, rfl, _⟩
  · exact .inl ⟨rfl, rfl⟩
  · exact .inr ⟨_, _, rfl⟩

theorem wpList_append_two {P : Program} (w : World) {ops : Array Oper} {rest : List Oper} {o : Oper} {a : Act} {Q : Exit → Act → World → Prop} (hgd : o.guard = none) (s x : Operand) (t : TypeId)
    (ho : o.op = .call { callee := .builtin .append, args := #[s, x], argTypes := #[t, t] })
    (base : Nat) (e : TypeId) (i : TypeInfo) (z : Value) (size bytes : Nat) (ht : P.underlying t = some (.slice e)) (hi : P.info? e = some i) (hz : i.zero = some z)
    (hsize : i.size = size) (hby : i.bytes = bytes) (hzs : z.cells.size = size) (hsz : 0 < size)
    (v : Value) (n : Nat) (xs : List Value) (hs : a.eval s = v) (hown : w.ownsRow base e size v n xs)
    (base2 : Nat) (v2 : Value) (m : Nat) (news : List Value) (hx : a.eval x = v2) (hown2 : w.ownsRow base2 e size v2 m news) (h1 : ∀ u ∈ news, u.oneCell' = true)
    (h63 : n + m ≤ maxLen) (hbytes : (n + m) * bytes ≤ 140737488355328) (hbase : base ≤ w.heap.size) (N : Nat) (hN : n + m = N) (XS : List Value) (hXS : xs ++ news = XS)
    (h : ∀ A cap w', w'.ownsRow base e size (.slice A N cap) N XS → w.grownBy w' v.ownBlock → wpList P ops Q rest (a.put o.dst (.slice A N cap)) w') : wpList P ops Q (o :: rest) a w := by
  subst hN hXS
  refine wpList_plain hgd fun K hK => ?_
  have key : ∃ A cap w', (Builtin.append_ #[t, t] o.type #[v, v2]).run P w = .ok (.slice A (n + m) cap) w' ∧ w'.ownsRow base e size (.slice A (n + m) cap) (n + m) (xs ++ news) ∧ w.grownBy w' v.ownBlock := by
    rcases owns_shape hown2 with ⟨rfl, rfl⟩ | ⟨g, c, rfl⟩
    · have hn : news = [] := List.eq_nil_of_length_eq_zero (by have := hown2.1; simpa using this)
      subst hn
      have hrun := run_append_owned_none (P := P) (w := w) base t o.type e i size ht hi v n xs hown
      rcases owns_shape hown with ⟨rfl, rfl⟩ | ⟨g, c, rfl⟩
      · exact ⟨_, _, _, hrun, by simpa using hown, World.grownBy.refl _ _⟩
      · exact ⟨_, _, _, hrun, by simpa using hown, World.grownBy.refl _ _⟩
    · obtain ⟨v', w', hr, h2, h3, _⟩ := run_append_own_at (P := P) w base t o.type e i z size bytes ht hi hz hsize hby hzs hsz v n xs hown ⟨g, 0, none⟩ m c news hown2.1 (hown2.cells rfl) h1 h63 hbytes hbase
      rcases owns_shape h2 with ⟨rfl, h0⟩ | ⟨g', c', rfl⟩
      · rw [h0] at h2 ⊢
        exact ⟨_, _, _, hr, h2, h3⟩
      · exact ⟨_, _, _, hr, h2, h3⟩
  obtain ⟨A, cap, w', hr, h2, h3⟩ := key
  unfold Oper.wp execOp
  simp only [ho, resolve, invoke, builtin, Sem.run_bind, Sem.run_pure, Result.andThen_ok, List.map_toArray, List.map_cons, List.map_nil, hs, hx, hr]
  exact hK _ _ (h A cap w' h2 h3)

end Go.Proofs.Ythjbieocffklfaa
