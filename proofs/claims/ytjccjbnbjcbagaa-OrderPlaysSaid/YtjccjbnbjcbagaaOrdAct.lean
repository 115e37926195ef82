/- The laws' acts: whether there are few, and what one does to a map and to the document's list. -/
import Derived.Test.YtjccjbnbjcbagaaOrdRef
import Derived.Test.YtjccjbnbjcbagaaOrdMath4
namespace Go.Proofs.Ytjccjbnbjcbagaa.OrdRef
open Go.RowKit Go.Proofs.Ytjccjbnbjcbagaa
set_option linter.unusedVariables false

/-- A slice of acts lies in a row of three cells each. -/
def Acts (w : World) (A : Option Addr) (len : Nat) (G : Nat → Bool) (K : Nat → ByteArray) (V : Nat → Int) : Prop :=
  0 < len → ∃ b off, A = some ⟨b, off, none⟩ ∧ b < w.heap.size ∧ ∀ j, j < len → w.cell? ⟨b, off + j * 3, none⟩ = some (.bool (G j)) ∧ w.cell? ⟨b, off + j * 3 + 1, none⟩ = some (.string (K j)) ∧ w.cell? ⟨b, off + j * 3 + 2, none⟩ = some (.int .i64 (V j))

def FewPost (w : World) (len : Nat) (e : Ending) (w' : World) : Prop := ∃ r : Bool, e = .returned (.bool r) ∧ (r = true → len ≤ 300) ∧ w = w'

set_option maxRecDepth 100000 in
theorem few_any (A : Option Addr) (len cap : Nat) (G : Nat → Bool) (K : Nat → ByteArray) (V : Nat → Int) (w : World) (h : Acts w A len G K V) (hlc : len ≤ cap) (hm : cap ≤ maxLen) (hk : ∀ j, j < len → (K j).size ≤ maxLen) :
    Calls Try.prog 10 #[.slice A len cap] w (FewPost w len) := by
  unfold maxLen at hm hk
  have hlb : (len : Int) ≤ 9223372036854775807 := by omega
  go_enter Try.func10, Try.ntmps10
  go_wp2
  go_loopg [6] len (fun g x wr => w = wr ∧ ∃ i, x = .int .i64 ((i : Nat) : Int) ∧ i + g = len ∧ i ≤ 300)
  case atStart => exact ⟨rfl, 0, rfl, by omega, by omega⟩
  case round =>
    obtain ⟨rfl, i, rfl, hi, hi3⟩ := hrel
    have ib : (i : Int) ≤ 300 := by omega
    have hi0 : (0 : Int) ≤ (i : Int) := by omega
    by_cases hlt : i < len
    · have hlt' : (i : Int) < (len : Int) := by omega
      obtain ⟨b, off, rfl, hb, hc⟩ := h (by omega)
      obtain ⟨_, c1, _⟩ := hc i hlt
      have hki := hk i hlt
      clear hc h hk
      generalize K i = s at *
      have hsb : (s.size : Int) ≤ 9223372036854775807 := by omega
      clear hki hm
      have HF : Hid (FewPost w len (.returned (.bool false)) w) := ⟨false, rfl, fun h => (by cases h), rfl⟩
      by_cases h3 : i < 300
      · have h3' : (i : Int) < 300 := by omega
        by_cases hs : s.size ≤ 200
        · have hs' : (s.size : Int) ≤ 200 := by omega
          clear HF
          go_wp2
          go_roundg (gk - 1)
          case measure => omega
          case rel => exact ⟨rfl, i + 1, by go_num, by omega, by omega⟩
        · have hs' : (200 : Int) < (s.size : Int) := by omega
          go_wp2
          go_ret
          exact HF.out
      · have h3' : (300 : Int) ≤ (i : Int) := by omega
        go_wp2
        go_ret
        exact HF.out
    · have hge : (len : Int) ≤ (i : Int) := by omega
      have HF : Hid (FewPost w len (.returned (.bool true)) w) := ⟨true, rfl, fun _ => by omega, rfl⟩
      clear h hk
      go_wp2
      go_ret
      exact HF.out

/-- What an act makes of a list. -/
def actL (g : Bool) (k : ByteArray) (v : Int) (l : List (ByteArray × Int)) : List (ByteArray × Int) := if g then Tr.delL ltS k l else Tr.insL ltS k v l

/-- A map and the document's list say the same. -/
structure Both (w : World) (u : Option Addr) (t : Tr ByteArray Int) (A : Option Addr) (c : Nat) (N : Nat) : Prop where
  rep : OrdS.Rp w u t
  bst : Tr.Bst ltS t
  own : Own w A c t.list
  size : t.size ≤ N

theorem Both.below {w w' : World} {u : Option Addr} {t : Tr ByteArray Int} {A : Option Addr} {c N : Nat} (h : Both w u t A c N) (hb : Below w.heap.size w w') : Both w' u t A c N :=
  ⟨h.rep.below hb (Nat.le_refl _), h.bst, h.own.below hb, h.size⟩
theorem Both.drew {w : World} {u : Option Addr} {t : Tr ByteArray Int} {A : Option Addr} {c N : Nat} (h : Both w u t A c N) : Both w.drew u t A c N := ⟨h.rep.drew, h.bst, h.own, h.size⟩

theorem own_of {w : World} {A : Option Addr} {c B : Nat} {l : List (ByteArray × Int)} (h : w.ownsRow B 48 2 (.slice A l.length c) l.length (OrdS.cellsL l)) : Own w A c l := ⟨B, h⟩

def ActPost (w : World) (N : Nat) (e : Ending) (w' : World) : Prop :=
  ∃ u t A c, e = .returned (.tuple #[.agg #[.pointer u], .slice A t.list.length c]) ∧ Both w' u t A c (N + 1) ∧ Below w.heap.size w w'

/-- A list of whatever it is, and a store that hits none of its cells. -/
theorem Own.setCell {w : World} {A : Option Addr} {c : Nat} {l : List (ByteArray × Int)} (h : Own w A c l) {M : Nat} (hM : w.cell? ⟨M, 1, none⟩ = none) (x : Value) : Own (w.setCell ⟨M, 0, none⟩ x) A c l := by
  obtain ⟨B, h1, h2⟩ := h
  rcases h2 with h2 | ⟨g, cap, cur, a, b, d, e, f, k, m⟩
  · exact ⟨B, h1, .inl h2⟩
  · by_cases hg : g = M
    · subst hg
      refine ⟨B, h1, .inr ⟨g, cap, cur.setIfInBounds 0 x, a, b, ?_, e, f, by simp [k], ?_⟩⟩
      · simp [World.setCell, Array.getElem?_modify, d]
      · -- a block whose second cell is none holds no element
        have h3 : cur[1]? = none := by
          have := hM
          simp only [World.cell?, d] at this
          simpa using this
        have h4 : cur.size ≤ 1 := by simpa using h3
        have h5 : l.length = 0 := by omega
        rw [h5] at m ⊢
        have h6 : l = [] := List.eq_nil_of_length_eq_zero h5
        subst h6
        rfl
    · exact ⟨B, h1, .inr ⟨g, cap, cur, a, b, by rw [Below.heap_setCell _ _ _ _ hg]; exact d, e, f, k, m⟩⟩

set_option maxRecDepth 100000 in
set_option maxHeartbeats 3200000 in
theorem act_put (t : Tr ByteArray Int) (u : Option Addr) (A : Option Addr) (c N : Nat) (k : ByteArray) (v : Int) (w : World) (h : Both w u t A c N) (hN : N ≤ 900) :
    Calls Try.prog 11 #[.agg #[.pointer u], .slice A t.list.length c, .agg #[.bool false, .string k, .int .i64 v]] w (ActPost w N) := by
  have hP := fun w h2 => OrdS.put_map t u k v w h2 (by have := h.size; omega)
  have hR := fun w h2 => ref_put t.list A c k v w h2 (by rw [Tr.length_list]; have := h.size; omega)
  have hput : Hid ((Tr.put ltS k v t).list = Tr.insL ltS k v t.list) := Tr.list_put linS k v t h.bst
  unfold LstP at hR
  rw [← hput.out] at hR
  obtain ⟨n, hn⟩ : ∃ n, t.list.length = n := ⟨_, rfl⟩
  rw [hn] at hR ⊢
  have HN := Lib.hid hn
  obtain ⟨n2, hn2⟩ : ∃ n2, (Tr.put ltS k v t).list.length = n2 := ⟨_, rfl⟩
  rw [hn2] at hR
  have HN2 := Lib.hid hn2
  clear hn hn2
  have hb0 := Below.refl w.heap.size w
  go_enter Try.func11, Try.ntmps11
  go_wp2
  go_region_held3 (fun w' => w'.cell? ⟨w.heap.size, 0, none⟩ = some (.pointer u) ∧ w'.cell? ⟨w.heap.size + 1, 1, none⟩ = some (.string k) ∧ w'.cell? ⟨w.heap.size + 1, 2, none⟩ = some (.int .i64 v))
    (first | (go_keep; done) | exact ⟨j0, j1, j2⟩ | ((try dsimp only); (repeat' apply And.intro) <;> (first | (go_keep; done) | (refine (World.cell?_setCell_other _ _ _ _ ?_).trans (by assumption); intro e; injection e with e; omega))))
    (first
      | (go_at_call 22; refine (hP _ (h.rep.below (by repeat (first | with_reducible exact hb0 | apply Below.drew | refine Below.alloc ?_ (by first | (simp; done) | (simp; omega)) _)) (Nat.le_refl _))).mono ?_; rintro e w1 ⟨u1, rfl, hr1, hb1⟩
         have j0 : w1.cell? ⟨w.heap.size, 0, none⟩ = some (.pointer u) := (hb1.cell (by first | (simp; done) | (simp; omega))).trans (by simp [go_sem])
         have j1 : w1.cell? ⟨w.heap.size + 1, 1, none⟩ = some (.string k) := (hb1.cell (by first | (simp; done) | (simp; omega))).trans (by simp [go_sem])
         have j2 : w1.cell? ⟨w.heap.size + 1, 2, none⟩ = some (.int .i64 v) := (hb1.cell (by first | (simp; done) | (simp; omega))).trans (by simp [go_sem])
         have k0 : w1.cell? ⟨w.heap.size + 1 + 1, 0, none⟩ = some (.pointer none) := (hb1.cell (by first | (simp; done) | (simp; omega))).trans (by simp [go_sem])
         have k1 : w1.cell? ⟨w.heap.size + 1 + 1, 1, none⟩ = none := (hb1.cell (by first | (simp; done) | (simp; omega))).trans (by simp [go_sem])
         have k2 : w1.frozen? ⟨w.heap.size + 1 + 1, 0, none⟩ = false := (hb1.frozen (by first | (simp; done) | (simp; omega))).trans (by simp [go_sem])
         have hz : w.heap.size + 1 + 1 < w1.heap.size := by have := hb1.size; simp at this; omega
         replace hb1 : Below w.heap.size w w1 := Tr.below_of hb1 (by repeat (first | with_reducible exact hb0 | apply Below.drew | refine Below.alloc ?_ (by first | (simp; done) | (simp; omega)) _)))
      | (go_at_call 36; refine (hR _ (h.own.below hb1)).mono ?_; rintro e w2 ⟨A2, c2, rfl, ho2, hb2⟩
         replace j0 := (hb2.cell (p := ⟨w.heap.size, 0, none⟩) (by show w.heap.size < _; omega)).trans j0
         replace j1 := (hb2.cell (p := ⟨w.heap.size + 1, 1, none⟩) (by show w.heap.size + 1 < _; omega)).trans j1
         replace j2 := (hb2.cell (p := ⟨w.heap.size + 1, 2, none⟩) (by show w.heap.size + 1 < _; omega)).trans j2
         replace k0 := (hb2.cell (p := ⟨w.heap.size + 1 + 1, 0, none⟩) hz).trans k0
         replace k1 := (hb2.cell (p := ⟨w.heap.size + 1 + 1, 1, none⟩) hz).trans k1
         replace k2 := (hb2.frozen (p := ⟨w.heap.size + 1 + 1, 0, none⟩) hz).trans k2
         replace hr1 := hr1.below hb2 (Nat.le_refl _)
         replace hb1 := hb1.trans (hb2.mono hb1.size)))
  go_wp2
  have ks : (w2.setCell ⟨w.heap.size + 1 + 1, 0, none⟩ (.pointer u1)).cell? ⟨w.heap.size + 1 + 1, 0, none⟩ = some (.pointer u1) := World.cell?_setCell_same _ _ _ k0
  have HO : ActPost w N (.returned (.tuple #[.agg #[.pointer u1], .slice A2 n2 c2])) (w2.setCell ⟨w.heap.size + 1 + 1, 0, none⟩ (.pointer u1)) := by
    have e2 := HN2.out
    subst e2
    exact ⟨u1, Tr.put ltS k v t, A2, c2, rfl, ⟨hr1.setCell k1 _, h.bst.put linS k v, (own_of ho2).setCell k1 _, Nat.le_trans (Tr.size_put ltS k v t) (Nat.succ_le_succ h.size)⟩, hb1.setCell (p := ⟨w.heap.size + 1 + 1, 0, none⟩) (show w.heap.size ≤ w.heap.size + 1 + 1 by omega) _⟩
  clear HN2
  exact bodyPost_ret (v := .tuple #[.agg #[.pointer u1], .slice A2 n2 c2]) (by simp [results, Try.results11, go_sem, ks]) rfl HO

set_option maxRecDepth 100000 in
set_option maxHeartbeats 3200000 in
theorem act_del (t : Tr ByteArray Int) (u : Option Addr) (A : Option Addr) (c N : Nat) (k : ByteArray) (v : Int) (w : World) (h : Both w u t A c N) (hN : N ≤ 900) :
    Calls Try.prog 11 #[.agg #[.pointer u], .slice A t.list.length c, .agg #[.bool true, .string k, .int .i64 v]] w (ActPost w N) := by
  have hP := fun w h2 => OrdS.del_map t u k w h2 h.bst (by have := h.size; omega)
  have hR := fun w h2 => ref_del t.list A c k w h2 (by rw [Tr.length_list]; have := h.size; omega)
  unfold LstP at hR
  obtain ⟨L2, hL2⟩ : ∃ L2, (t.list.filter fun p => ltS p.1 k || ltS k p.1) = L2 := ⟨_, rfl⟩
  rw [hL2] at hR
  have HL2 := Lib.hid hL2
  clear hL2
  obtain ⟨n, hn⟩ : ∃ n, t.list.length = n := ⟨_, rfl⟩
  rw [hn] at hR ⊢
  have HN := Lib.hid hn
  obtain ⟨n2, hn2⟩ : ∃ n2, L2.length = n2 := ⟨_, rfl⟩
  rw [hn2] at hR
  have HN2 := Lib.hid hn2
  clear hn hn2
  have hb0 := Below.refl w.heap.size w
  go_enter Try.func11, Try.ntmps11
  go_wp2
  go_region_held3 (fun w' => w'.cell? ⟨w.heap.size, 0, none⟩ = some (.pointer u) ∧ w'.cell? ⟨w.heap.size + 1, 1, none⟩ = some (.string k))
    (first | (go_keep; done) | exact ⟨j0, j1⟩ | ((try dsimp only); (repeat' apply And.intro) <;> (first | (go_keep; done) | (refine (World.cell?_setCell_other _ _ _ _ ?_).trans (by assumption); intro e; injection e with e; omega))))
    (first
      | (go_at_call 34; refine (hP _ (h.rep.below (by repeat (first | with_reducible exact hb0 | apply Below.drew | refine Below.alloc ?_ (by first | (simp; done) | (simp; omega)) _)) (Nat.le_refl _))).mono ?_; rintro e w1 ⟨u1, t1, rfl, hr1, ht1, hb1⟩; have HT1 := Lib.hid ht1; clear ht1
         have j0 : w1.cell? ⟨w.heap.size, 0, none⟩ = some (.pointer u) := (hb1.cell (by first | (simp; done) | (simp; omega))).trans (by simp [go_sem])
         have j1 : w1.cell? ⟨w.heap.size + 1, 1, none⟩ = some (.string k) := (hb1.cell (by first | (simp; done) | (simp; omega))).trans (by simp [go_sem])
         have j2 : w1.cell? ⟨w.heap.size + 1, 2, none⟩ = some (.int .i64 v) := (hb1.cell (by first | (simp; done) | (simp; omega))).trans (by simp [go_sem])
         have k0 : w1.cell? ⟨w.heap.size + 1 + 1, 0, none⟩ = some (.pointer none) := (hb1.cell (by first | (simp; done) | (simp; omega))).trans (by simp [go_sem])
         have k1 : w1.cell? ⟨w.heap.size + 1 + 1, 1, none⟩ = none := (hb1.cell (by first | (simp; done) | (simp; omega))).trans (by simp [go_sem])
         have k2 : w1.frozen? ⟨w.heap.size + 1 + 1, 0, none⟩ = false := (hb1.frozen (by first | (simp; done) | (simp; omega))).trans (by simp [go_sem])
         have hz : w.heap.size + 1 + 1 < w1.heap.size := by have := hb1.size; simp at this; omega
         replace hb1 : Below w.heap.size w w1 := Tr.below_of hb1 (by repeat (first | with_reducible exact hb0 | apply Below.drew | refine Below.alloc ?_ (by first | (simp; done) | (simp; omega)) _)))
      | (go_at_call 35; refine (hR _ (h.own.below hb1)).mono ?_; rintro e w2 ⟨A2, c2, rfl, ho2, hb2⟩
         replace j0 := (hb2.cell (p := ⟨w.heap.size, 0, none⟩) (by show w.heap.size < _; omega)).trans j0
         replace j1 := (hb2.cell (p := ⟨w.heap.size + 1, 1, none⟩) (by show w.heap.size + 1 < _; omega)).trans j1
         replace j2 := (hb2.cell (p := ⟨w.heap.size + 1, 2, none⟩) (by show w.heap.size + 1 < _; omega)).trans j2
         replace k0 := (hb2.cell (p := ⟨w.heap.size + 1 + 1, 0, none⟩) hz).trans k0
         replace k1 := (hb2.cell (p := ⟨w.heap.size + 1 + 1, 1, none⟩) hz).trans k1
         replace k2 := (hb2.frozen (p := ⟨w.heap.size + 1 + 1, 0, none⟩) hz).trans k2
         replace hr1 := hr1.below hb2 (Nat.le_refl _)
         replace hb1 := hb1.trans (hb2.mono hb1.size)))
  go_wp2
  have ks : (w2.setCell ⟨w.heap.size + 1 + 1, 0, none⟩ (.pointer u1)).cell? ⟨w.heap.size + 1 + 1, 0, none⟩ = some (.pointer u1) := World.cell?_setCell_same _ _ _ k0
  have HO : ActPost w N (.returned (.tuple #[.agg #[.pointer u1], .slice A2 n2 c2])) (w2.setCell ⟨w.heap.size + 1 + 1, 0, none⟩ (.pointer u1)) := by
    have e2 := HN2.out
    have e3 := HL2.out
    have hx : t1.list = L2 ∧ Tr.Bst ltS t1 ∧ t1.size ≤ N + 1 := by
      rcases HT1.out with ⟨rfl, _⟩ | ⟨rfl, hf⟩
      · exact ⟨by rw [Tr.list_del linS t k h.bst]; exact e3, h.bst.del linS k, Nat.le_trans (Tr.size_del linS k h.bst) (Nat.le_succ_of_le h.size)⟩
      · refine ⟨?_, h.bst, Nat.le_succ_of_le h.size⟩
        rw [← e3]
        exact (Tr.filter_all fun p hp => by
          have hne := Tr.find_mem linS k t1 h.bst hf p hp
          cases ea : ltS p.1 k with
          | true => rfl
          | false =>
            cases eb : ltS k p.1 with
            | true => rfl
            | false => exact absurd (ltS_con ea eb) hne).symm
    rw [← hx.1] at e2 ho2
    subst e2
    exact ⟨u1, t1, A2, c2, rfl, ⟨hr1.setCell k1 _, (hx.2.1), (own_of ho2).setCell k1 _, (hx.2.2)⟩, hb1.setCell (p := ⟨w.heap.size + 1 + 1, 0, none⟩) (show w.heap.size ≤ w.heap.size + 1 + 1 by omega) _⟩
  clear HN2
  exact bodyPost_ret (v := .tuple #[.agg #[.pointer u1], .slice A2 n2 c2]) (by simp [results, Try.results11, go_sem, ks]) rfl HO

theorem act_any (t : Tr ByteArray Int) (u : Option Addr) (A : Option Addr) (c N : Nat) (g : Bool) (k : ByteArray) (v : Int) (w : World) (h : Both w u t A c N) (hN : N ≤ 900) :
    Calls Try.prog 11 #[.agg #[.pointer u], .slice A t.list.length c, .agg #[.bool g, .string k, .int .i64 v]] w (ActPost w N) := by
  cases g with
  | true => exact act_del t u A c N k v w h hN
  | false => exact act_put t u A c N k v w h hN

set_option maxRecDepth 100000 in
open Go.ChangeShapes Go.WideShapes Go.ChangeAt Go.Deep in
/-- The law's acts, as the walk wants them. -/
theorem arg_acts {H : Type} {enc : TypeId × Value → H} {W : World} {sp : Nat → Bool} {hd : Bool} {base : Nat} {v : Value} {d : DataW H} {p : List MemPlace}
    (hok : Value.okWide Try.prog W .any base 22 v) (h : DataW.Trod enc Try.prog W 0 sp hd 22 v d p) (hlt : ∀ x ∈ p, x.block < W.heap.size) :
    ∃ (A : Option Addr) (len cap : Nat) (G : Nat → Bool) (K : Nat → ByteArray) (V : Nat → Int), v = .slice A len cap ∧ len ≤ cap ∧ cap ≤ maxLen ∧ Acts W A len G K V ∧ ∀ j, j < len → (K j).size ≤ maxLen := by
  obtain ⟨A, len, cap, n, Cs, D, rfl, hl, hm, _, hrow, hel⟩ := arg_slice Try.underlying22 (show Try.prog.cellsOf 32 = 3 by kernel_rfl) (by omega) hok h hlt
  obtain ⟨R, hR⟩ := Classical.axiomOfChoice (r := fun j (r : Bool × ByteArray × Int) => j < len → Cs j = [.bool r.1, .string r.2.1, .int .i64 r.2.2] ∧ r.2.1.size ≤ maxLen) (fun j => by
    by_cases hj : j < len
    · obtain ⟨hlen, pl, hd⟩ := hel j hj
      obtain ⟨m, hf⟩ := arg_fields Try.underlying32 (by kernel_rfl) (by rw [hlen]; rfl) hd
      obtain ⟨v0, y0, g0, t0⟩ := hf 0 _ rfl
      obtain ⟨v1, y1, g1, t1⟩ := hf 1 _ rfl
      obtain ⟨v2, y2, g2, t2⟩ := hf 2 _ rfl
      obtain ⟨b, e0, _⟩ := DataW.trod_bool Try.underlying4 t0
      obtain ⟨s, e1, _, hs⟩ := DataW.trod_string Try.underlying9 t1
      obtain ⟨z, e2, _⟩ := DataW.trod_int Try.underlying2 t2
      refine ⟨⟨b, s, z⟩, fun _ => ⟨?_, hs⟩⟩
      have e0' : v0 = .bool b := by injection e0
      have e1' : v1 = .string s := by injection e1
      have e2' : v2 = .int .i64 z := by injection e2
      subst e0' e1' e2'
      match Cs j, hlen, g0, g1, g2 with
      | [a, b', c], _, g0, g1, g2 =>
        injection g0 with g0; injection g1 with g1; injection g2 with g2
        subst g0 g1 g2
        rfl
    · exact ⟨⟨false, ByteArray.empty, 0⟩, fun h => absurd h hj⟩)
  refine ⟨A, len, cap, fun j => (R j).1, fun j => (R j).2.1, fun j => (R j).2.2, rfl, hl, hm, fun hpos => ?_, fun j hj => (hR j hj).2⟩
  obtain ⟨b, off, hA, hb, hc⟩ := hrow hpos
  refine ⟨b, off, hA, hb, fun j hj => ⟨?_, ?_, ?_⟩⟩
  · have := hc j hj 0 (.bool (R j).1) (by rw [(hR j hj).1]; rfl)
    rwa [Nat.add_zero] at this
  · exact hc j hj 1 (.string (R j).2.1) (by rw [(hR j hj).1]; rfl)
  · exact hc j hj 2 (.int .i64 (R j).2.2) (by rw [(hR j hj).1]; rfl)

end Go.Proofs.Ytjccjbnbjcbagaa.OrdRef
