/- Batches in memory: rows of a revision and a slice of items. -/
import Derived.Test.YtcoddkbbgmjckaaBn12
namespace Go.Proofs.Ytcoddkbbgmjckaa
open Go.RowKit
set_option linter.unusedVariables false
set_option linter.unusedSimpArgs false

/-- A batch, and where its items lie. -/
structure BLay where
  r : Int
  ls : List (ByteArray × Ver)
  B : Option Addr
  c : Nat

namespace BLay
def cells (x : BLay) : List Value := [.int .i64 x.r, .slice x.B x.ls.length x.c]
def b (x : BLay) : Idx.Bat := (x.r, x.ls)
end BLay
def rowB (xs : List BLay) : List Value := xs.flatMap BLay.cells
def bats (xs : List BLay) : List Idx.Bat := xs.map BLay.b
theorem bats_len (xs : List BLay) : (bats xs).length = xs.length := by unfold bats; rw [List.length_map]
theorem bats_get (xs : List BLay) (k : Nat) (hk : k < xs.length) : (bats xs)[k]'(by rw [bats_len]; exact hk) = xs[k].b := by unfold bats; rw [List.getElem_map]
theorem bats_add (xs : List BLay) (x : BLay) : bats (xs ++ [x]) = bats xs ++ [x.b] := by unfold bats; rw [List.map_append]; rfl

theorem elem_batch : Elem 64 69 (.agg #[.int .i64 0, .slice none 0 0]) 2 32 := ⟨Try.underlying64, by kernel_rfl, rfl, by omega, by omega⟩

theorem rowB_len (xs : List BLay) : (rowB xs).length = xs.length * 2 := by
  unfold rowB
  induction xs with
  | nil => rfl
  | cons x xs ih =>
    rw [List.flatMap_cons, List.length_append, ih, List.length_cons]
    show 2 + _ = _
    omega
theorem rowB_add (xs : List BLay) (x : BLay) : rowB (xs ++ [x]) = rowB xs ++ x.cells := by unfold rowB; rw [List.flatMap_append]; simp
theorem rowB_one (x : BLay) : ∀ u ∈ x.cells, u.oneCell' = true := by
  intro u h
  unfold BLay.cells at h
  simp only [List.mem_cons, List.not_mem_nil, or_false] at h
  rcases h with rfl | rfl <;> rfl
theorem rowB_at (xs : List BLay) (k : Nat) (hk : k < xs.length) (j : Nat) (hj : j < 2) : (rowB xs)[k * 2 + j]? = (xs[k].cells)[j]? := by
  unfold rowB
  induction xs generalizing k with
  | nil => cases hk
  | cons x xs ih =>
    have hx : x.cells.length = 2 := rfl
    rw [List.flatMap_cons]
    cases k with
    | zero => rw [List.getElem?_append_left (by omega)]; simp
    | succ k =>
      rw [List.getElem?_append_right (by omega), hx, show (k + 1) * 2 + j - 2 = k * 2 + j by omega, ih k (by simpa using hk)]
      rfl

/-- Batches that can be read. -/
structure BatL (w : World) (A : Option Addr) (n cap : Nat) (xs : List BLay) : Prop where
  sp : Sp 69 2 w A n cap (rowB xs)
  its : ∀ x ∈ xs, ItemsR w x.B x.ls.length x.ls

theorem ItemsR.keep {w w' : World} {A : Option Addr} {n : Nat} {ls : List (ByteArray × Ver)} (h : ItemsR w A n ls) (hs : w.heap.size ≤ w'.heap.size) (hk : 0 < n → ∀ q, blk A q → q < w.heap.size → w'.heap[q]? = w.heap[q]?) : ItemsR w' A n ls := ⟨h.1, fun k hlt => by
  obtain ⟨g, off, e, hg, hc⟩ := h.2 k hlt
  have hx : ∀ o, w'.cell? ⟨g, o, none⟩ = w.cell? ⟨g, o, none⟩ := fun o => World.cell?_of_block (hk (by have := h.1; omega) g ⟨off, e⟩ hg)
  refine ⟨g, off, e, Nat.lt_of_lt_of_le hg hs, ?_⟩
  rw [hx, hx, hx, hx, hx, hx, hx, hx]
  exact hc⟩

section
variable {w w' : World} {A : Option Addr} {n cap : Nat} {xs : List BLay}

theorem BatL.len (h : BatL w A n cap xs) : xs.length = n := by
  have := h.sp.1
  rw [rowB_len] at this
  omega
theorem BatL.below (h : BatL w A n cap xs) (hb : Below w.heap.size w w') : BatL w' A n cap xs := ⟨h.sp.keep fun q hq => hb.block q (h.sp.lt hq), fun x hx => (h.its x hx).below hb⟩
theorem BatL.nil (w : World) : BatL w none 0 0 [] := ⟨Sp.nil _ _ _, fun x hx => by cases hx⟩

/-- Where one of them lies. -/
theorem BatL.at_ (h : BatL w A n cap xs) (k : Nat) (hk : k < n) : ∃ g off, A = some ⟨g, off, none⟩ ∧ g < w.heap.size ∧ w.cell? ⟨g, off + k * 2, none⟩ = some (.int .i64 (xs[k]'(by rw [h.len]; exact hk)).r) ∧ w.cell? ⟨g, off + k * 2 + 1, none⟩ = some (.slice (xs[k]'(by rw [h.len]; exact hk)).B (xs[k]'(by rw [h.len]; exact hk)).ls.length (xs[k]'(by rw [h.len]; exact hk)).c) := by
  have hl := h.len
  obtain ⟨g, off, e, hg, hc, _⟩ := h.sp.at_ (by omega) k hk
  refine ⟨g, off, e, hg, ?_, ?_⟩
  · have := hc 0 (by omega) (.int .i64 (xs[k]'(by omega)).r) (by rw [rowB_at xs k (by omega) 0 (by omega)]; rfl)
    simpa using this
  · exact hc 1 (by omega) _ (by rw [rowB_at xs k (by omega) 1 (by omega)]; rfl)
end

/-- Batches in a row of a call's own; the items of each lie in rows of the call's own too, none of the row itself. -/
structure OwnB (w0 w : World) (R : Option Addr) (n c : Nat) (xs : List BLay) : Prop where
  ba : BatL w R n c xs
  new : ∀ q, blk R q → w0.heap.size ≤ q
  own : ∀ x ∈ xs, ∀ q, blk x.B q → w0.heap.size ≤ q ∧ ¬ blk R q

theorem OwnB.none (w0 w : World) : OwnB w0 w none 0 0 [] := ⟨BatL.nil w, fun q h => absurd h (blk_none q), fun x hx => by cases hx⟩
theorem OwnB.next {w0 w w' : World} {R : Option Addr} {n c : Nat} {xs : List BLay} (h : OwnB w0 w R n c xs) (hb : Below w.heap.size w w') : OwnB w0 w' R n c xs := ⟨h.ba.below hb, h.new, h.own⟩
theorem OwnB.from {w w1 w' : World} {R : Option Addr} {n c : Nat} {xs : List BLay} (h : OwnB w1 w' R n c xs) (hs : w.heap.size ≤ w1.heap.size) : OwnB w w' R n c xs := ⟨h.ba, fun q hq => Nat.le_trans hs (h.new q hq), fun x hx q hq => ⟨Nat.le_trans hs (h.own x hx q hq).1, (h.own x hx q hq).2⟩⟩

/-- One more: X is the world that the append began in, nothing but Below of wr. -/
theorem OwnB.push {w0 wr X w8 : World} {R A8 : Option Addr} {n c c8 : Nat} {xs : List BLay} {x : BLay} (h : OwnB w0 wr R n c xs) (hb : Below w0.heap.size w0 wr) (hX : Below wr.heap.size wr X) (hg : Grew X w8 R) (hsp : Sp 69 2 w8 A8 (n + 1) c8 (rowB xs ++ x.cells)) (hA : ∀ q, blk A8 q → blk R q ∨ X.heap.size ≤ q)
    (hv : ItemsR wr x.B x.ls.length x.ls) (hn : ∀ q, blk x.B q → w0.heap.size ≤ q ∧ q < wr.heap.size ∧ ¬ blk R q) (hl : ∀ y ∈ xs, ∀ q, blk y.B q → q < wr.heap.size) :
    OwnB w0 w8 A8 (n + 1) c8 (xs ++ [x]) ∧ Below w0.heap.size w0 w8 := by
  have h1 := hb.size
  have h2 := hX.size
  have hb8 : Below w0.heap.size w0 w8 := hg.below (hb.trans (hX.mono h1)) (by omega) h.new
  have keepN : ∀ {B : Option Addr} {m : Nat} {l : List (ByteArray × Ver)}, ItemsR wr B m l → (∀ q, blk B q → ¬ blk R q) → ItemsR w8 B m l := fun {B m l} hV hn =>
    hV.keep (Nat.le_trans h2 hg.size) fun h0 q hq hlt => (hg.block q (by omega) (hn q hq)).trans (hX.block q hlt)
  refine ⟨⟨⟨by rw [rowB_add]; exact hsp, fun y hy => ?_⟩, fun q hq => ?_, fun y hy q hq => ?_⟩, hb8⟩
  · rcases List.mem_append.1 hy with hy | hy
    · exact keepN (h.ba.its y hy) fun q hq => (h.own y hy q hq).2
    · rw [List.mem_singleton] at hy
      subst hy
      exact keepN hv fun q hq => (hn q hq).2.2
  · rcases hA q hq with h3 | h3
    · exact h.new q h3
    · omega
  · rcases List.mem_append.1 hy with hy | hy
    · refine ⟨(h.own y hy q hq).1, fun h3 => ?_⟩
      rcases hA q h3 with h4 | h4
      · exact (h.own y hy q hq).2 h4
      · have := hl y hy q hq; omega
    · rw [List.mem_singleton] at hy
      subst hy
      refine ⟨(hn q hq).1, fun h3 => ?_⟩
      rcases hA q h3 with h4 | h4
      · exact (hn q hq).2.2 h4
      · have := (hn q hq).2.1; omega

end Go.Proofs.Ytcoddkbbgmjckaa

namespace Go.Proofs.Ytcoddkbbgmjckaa
open Go.RowKit
set_option linter.unusedVariables false
set_option linter.unusedSimpArgs false
attribute [local go_sem] Oper.semAt_some

set_option maxRecDepth 100000 in
set_option maxHeartbeats 3200000 in
theorem liveR15_any (A : Option Addr) (n cap : Nat) (xs : List KLay) (key : ByteArray) (w : World) (h : IxG w A n cap xs) :
    Calls Try.prog 25 #[.slice A n cap, .string key] w fun e w' => e = .returned (atV (Idx.liveI (khs xs) key)) ∧ Below w.heap.size w w' := by
  obtain ⟨W1, hW1⟩ : ∃ W1, w.alloc (.cells #[.int .i64 0, .int .i64 0, .int .i64 0, .int .i64 0, .string ⟨#[]⟩, .int .i64 0, .bool false] 37) = W1 := ⟨_, rfl⟩
  have hb1 : Below w.heap.size w W1 := by rw [← hW1]; exact (Below.refl _ _).alloc (Nat.le_refl _) _
  have hr1 : W1.heap[w.heap.size]? = some (.cells #[.int .i64 0, .int .i64 0, .int .i64 0, .int .i64 0, .string ⟨#[]⟩, .int .i64 0, .bool false] 37) := by rw [← hW1]; exact heap_alloc_new w _
  have hG := getR15_any A n cap xs key W1 (h.below hb1).ix (by have := h.few; omega)
  have hlen := h.get_len key
  have hA := fun W B c (hv : Vers W B (Idx.getL (khs xs) key).length (Idx.getL (khs xs) key)) => atR_any B (Idx.getL (khs xs) key).length c (Idx.getL (khs xs) key) 1099511627776 W hv (by omega)
  have hL : Idx.liveI (khs xs) key = His.atL (Idx.getL (khs xs) key) 1099511627776 := rfl
  rw [hL]
  generalize His.atL (Idx.getL (khs xs) key) 1099511627776 = o at *
  generalize Idx.getL (khs xs) key = gl at *
  unfold atV at hA ⊢
  generalize o.getD His.none_ = x at *
  obtain ⟨xr, xk, xm, xv, xs', xl, xg⟩ := x
  dsimp only [verV] at hA ⊢
  have HH := Lib.hid (And.intro hb1 (And.intro hr1 hW1))
  have HA := Lib.hid hA
  clear h hb1 hr1 hW1 hlen hL hA
  go_enter Try.func25, Try.ntmps25
  go_upto_region 1 with fail
  rw [HH.out.2.2]
  go_wp2_with fail
  refine hG.mono ?_
  rintro e w2 ⟨B1, c1, rfl, hv1, hb2⟩
  have hA1 := HA.out w2 B1 c1 hv1
  have hbw2 := HH.out.1.trans (hb2.mono HH.out.1.size)
  have hr2 := (hb2.block _ (hlt HH.out.2.1)).trans HH.out.2.1
  clear hG hv1 hb2
  go_wp2_with fail
  refine hA1.mono ?_
  rintro e w3 ⟨rfl, hb3⟩
  have hbw3 := hbw2.trans (hb3.mono hbw2.size)
  have hr3 := (hb3.block _ (hlt hr2)).trans hr2
  have hz : (w3.setRow w.heap.size #[.int .i64 xr, .int .i64 xk, .int .i64 xm, .int .i64 xv, .string xs', .int .i64 xl, .bool xg]).heap[w.heap.size]? = some (.cells #[.int .i64 xr, .int .i64 xk, .int .i64 xm, .int .i64 xv, .string xs', .int .i64 xl, .bool xg] 37) := setRow_heap w3 _ _ _ _ _ hr3
  have HZ := Lib.hid (And.intro hz (below_setRow hbw3 (Nat.le_refl _) #[.int .i64 xr, .int .i64 xk, .int .i64 xm, .int .i64 xv, .string xs', .int .i64 xl, .bool xg]))
  clear hA1 hbw2 hr2 hbw3 hb3 hz
  go_wp2_with (refine wpList_store_row rfl _ _ _ rfl w.heap.size #[.int .i64 xr, .int .i64 xk, .int .i64 xm, .int .i64 xv, .string xs', .int .i64 xl, .bool xg] (by rfl) (by rfl) _ _ hr3 (by kernel_rfl) rfl (by first | rfl | kernel_rfl) ?_)
  refine bodyPost_ret (res_cell_tmp' (n := w.heap.size) rfl rfl HZ.out.1 Try.underlying37 rfl (by kernel_rfl)) rfl ?_
  exact ⟨rfl, HZ.out.2⟩

end Go.Proofs.Ytcoddkbbgmjckaa

namespace Go.Proofs.Ytcoddkbbgmjckaa
open Go.RowKit
set_option linter.unusedVariables false
set_option linter.unusedSimpArgs false
attribute [local go_sem] Oper.semAt_some

theorem khs_filter (xs : List KLay) (p : ByteArray → Bool) : khs (xs.filter fun x => p x.k) = (khs xs).filter fun q => p q.1 := by
  unfold khs
  rw [List.filter_map]
  rfl

set_option maxRecDepth 100000 in
set_option maxHeartbeats 3200000 in
theorem dropR15_any (A : Option Addr) (n cap : Nat) (xs : List KLay) (a b : ByteArray) (w : World) (h : IxG w A n cap xs) (ha : a.size ≤ maxLen) (hb : b.size ≤ maxLen) :
    Calls Try.prog 42 #[.slice A n cap, .string a, .string b] w fun e w' => ∃ R m d, e = .returned (.slice R m d) ∧ OwnK w w' R m d (xs.filter fun x => !Idx.inB a b x.k) ∧ Below w.heap.size w w' := by
  have hll := h.ix.len
  have hfew := h.few
  have hin := fun W x (hx : x ∈ xs) => inR_any a b x.k ha hb (h.key hx) W
  have HV := Lib.hid h.ix
  have HI := Lib.hid hin
  clear h ha hb hin
  go_enter Try.func42, Try.ntmps42
  go_wp2_with fail
  go_loopw [7, 11] (fun v7 v11 wr => ∃ k : Nat, k ≤ n ∧ v11 = .int .i64 (k : Int) ∧ ∃ R m d, v7 = .slice R m d ∧ m ≤ k ∧ OwnK w wr R m d ((xs.take k).filter fun x => !Idx.inB a b x.k) ∧ Below w.heap.size w wr) (fun _ v11 _ => n - (intOf v11).toNat)
  case atStart => exact ⟨0, Nat.zero_le _, rfl, none, 0, 0, rfl, Nat.le_refl _, OwnK.none _ _, Below.refl _ _⟩
  case round =>
    obtain ⟨k, hk, rfl, R, m, d, rfl, hmk, hO, hb⟩ := hrel
    have HB := Lib.hid (And.intro hO hb)
    clear hO hb
    by_cases hlt : k < n
    · have l1 : decide ((k : Int) < (n : Int)) = true := decide_eq_true (by omega)
      obtain ⟨g, off, rfl, hg, c0, c1⟩ := (HV.out.below HB.out.2).at_ k hlt
      have hmem : xs[k]'(by omega) ∈ xs := List.getElem_mem _
      have HX := Lib.hid (HV.out.vs _ hmem)
      have hI := HI.out wr _ hmem
      have htf := filter_take (fun x : KLay => !Idx.inB a b x.k) (show k < xs.length by omega)
      obtain ⟨x, hx⟩ : ∃ x, xs[k]'(by omega) = x := ⟨_, rfl⟩
      rw [hx] at c0 c1 htf hI
      have HT := Lib.hid (And.intro htf hx)
      clear hx htf hmem
      cases hq : Idx.inB a b x.k with
      | true =>
        rw [hq] at hI
        have HQ := Lib.hid hq
        clear hq
        go_wp2_with fail
        refine hI.mono ?_
        rintro e w1 ⟨rfl, rfl⟩
        go_wp2
        go_roundw
        case rel => exact ⟨k + 1, hlt, by go_num, R, m, d, rfl, by omega, by rw [HT.out.1, HQ.out, Bool.not_true, if_neg (by decide), List.append_nil]; exact HB.out.1, HB.out.2⟩
        case measure =>
          simp [intOf]
          omega
      | false =>
        rw [hq] at hI
        have HQ := Lib.hid hq
        have h1c : ∀ u ∈ ([.string x.k, .slice x.B x.h.length x.c] : List Value), u.oneCell' = true := fun u hu => rowK_one x u hu
        have HM := Lib.hid (show ∀ y ∈ (xs.take k).filter (fun x => !Idx.inB a b x.k), Vers w y.B y.h.length y.h from fun y hy => HV.out.vs y (List.mem_of_mem_take (List.mem_filter.1 hy).1))
        obtain ⟨ys, hys⟩ : ∃ ys, (xs.take k).filter (fun x => !Idx.inB a b x.k) = ys := ⟨_, rfl⟩
        rw [hys] at HB HM
        have HYS := Lib.hid hys
        clear hq hys
        go_wp2_with fail
        refine hI.mono ?_
        rintro e w1 ⟨rfl, rfl⟩
        go_wp2_with (at_builtin
                     go_loud (refine wpList_append_sp elem_hist _ rfl _ _ rfl R m d (rowK ys) rfl (HB.out.1.ix.sp.keep fun q hq => (show Below w1.heap.size w1 _ from (by repeat (first | exact Below.refl _ _ | apply Below.drew | apply below_drewN | refine Below.alloc ?_ (by simp) _))).block q (HB.out.1.ix.sp.lt hq)) _ 1 1 [.string x.k, .slice x.B x.h.length x.c] rfl (fun e => by cases e) rfl h1c (fun b e => by cases e; exact cells_lit (C := [.string x.k, .slice x.B x.h.length x.c]) (heap_alloc_new _ _)) (by omega) ?_)
                     intro A8 c8 w8 hsp8 hA8 hg8
                     have hP := HB.out.1.push (x := x) HB.out.2 (show Below w1.heap.size w1 _ from (by repeat (first | exact Below.refl _ _ | apply Below.drew | apply below_drewN | refine Below.alloc ?_ (by simp) _))) hg8 hsp8 hA8 (.inl (by have := HX.out; rw [HT.out.2] at this; exact this)) (fun y hy => .inl (HM.out y hy)))
        go_roundw
        case rel => exact ⟨k + 1, hlt, by go_num, A8, m + 1, c8, rfl, by omega, by rw [HT.out.1, HYS.out, HQ.out, Bool.not_false, if_pos rfl]; exact hP.1, hP.2⟩
        case measure =>
          simp [intOf]
          omega
    · obtain rfl : n = k := by omega
      have hfin := HB.out
      rw [List.take_of_length_le (by omega)] at hfin
      have HF := Lib.hid hfin
      clear hfin
      go_wp2
      go_ret
      exact ⟨R, m, d, rfl, HF.out.1, HF.out.2⟩

end Go.Proofs.Ytcoddkbbgmjckaa

namespace Go.Proofs.Ytcoddkbbgmjckaa
open Go.RowKit
set_option linter.unusedVariables false
set_option linter.unusedSimpArgs false
attribute [local go_sem] Oper.semAt_some

theorem khs_names (xs : List KLay) (p : ByteArray → Bool) : (xs.filter fun x => p x.k).map (·.k) = ((khs xs).filter fun q => p q.1).map (·.1) := by
  rw [← khs_filter, List.map_map]
  rfl

set_option maxRecDepth 100000 in
set_option maxHeartbeats 3200000 in
theorem keysR15_any (A : Option Addr) (n cap : Nat) (xs : List KLay) (a b : ByteArray) (w : World) (h : IxG w A n cap xs) (ha : a.size ≤ maxLen) (hb : b.size ≤ maxLen) :
    Calls Try.prog 79 #[.slice A n cap, .string a, .string b] w fun e w' => ∃ R m d, e = .returned (.slice R m d) ∧ OwnR 9 1 w w' R m d (rowS (Idx.keysI (khs xs) a b)) ∧ m = (Idx.keysI (khs xs) a b).length ∧ Below w.heap.size w w' := by
  have hll := h.ix.len
  have hfew := h.few
  have hin := fun W x (hx : x ∈ xs) => inR_any a b x.k ha hb (h.key hx) W
  have hlv := fun W key (hW : Below w.heap.size w W) => liveR15_any A n cap xs key W (h.below hW)
  obtain ⟨p, hp⟩ : ∃ p : ByteArray → Bool, p = fun k => (Idx.liveI (khs xs) k).isSome && Idx.inB a b k := ⟨_, rfl⟩
  have hpx : ∀ k, p k = ((Idx.liveI (khs xs) k).isSome && Idx.inB a b k) := fun k => by rw [hp]
  have hend : Idx.keysI (khs xs) a b = (xs.filter fun x => p x.k).map (·.k) := by rw [khs_names, hp]; rfl
  have HV := Lib.hid h.ix
  have HI := Lib.hid hin
  have HL := Lib.hid hlv
  have HE := Lib.hid (And.intro hend hpx)
  clear h ha hb hin hlv hp hpx hend
  go_enter Try.func79, Try.ntmps79
  go_wp2_with fail
  go_loopw [7, 13] (fun v7 v13 wr => ∃ k : Nat, k ≤ n ∧ v13 = .int .i64 (k : Int) ∧ ∃ R m d, v7 = .slice R m d ∧ m ≤ k ∧ m = ((xs.take k).filter fun x => p x.k).length ∧ OwnR 9 1 w wr R m d (rowS (((xs.take k).filter fun x => p x.k).map (·.k))) ∧ Below w.heap.size w wr) (fun _ v13 _ => n - (intOf v13).toNat)
  case atStart => exact ⟨0, Nat.zero_le _, rfl, none, 0, 0, rfl, Nat.le_refl _, rfl, OwnR.none _ _ _ _, Below.refl _ _⟩
  case round =>
    obtain ⟨k, hk, rfl, R, m, d, rfl, hmk, hml, hO, hb⟩ := hrel
    have HB := Lib.hid (And.intro hO hb)
    clear hO hb
    by_cases hlt : k < n
    · have l1 : decide ((k : Int) < (n : Int)) = true := decide_eq_true (by omega)
      obtain ⟨g, off, rfl, hg, c0, c1⟩ := (HV.out.below HB.out.2).at_ k hlt
      have hmem : xs[k]'(by omega) ∈ xs := List.getElem_mem _
      have hI := fun W => HI.out W _ hmem
      have hL := HL.out wr (xs[k]'(by omega)).k HB.out.2
      have htf := filter_take (fun x : KLay => p x.k) (show k < xs.length by omega)
      have hpk := HE.out.2 (xs[k]'(by omega)).k
      obtain ⟨x, hx⟩ : ∃ x, xs[k]'(by omega) = x := ⟨_, rfl⟩
      rw [hx] at c0 c1 htf hL hpk
      have hI : ∀ W, Calls _ _ _ W _ := fun W => by have := hI W; rw [hx] at this; exact this
      obtain ⟨ys, hys⟩ : ∃ ys, (xs.take k).filter (fun x => p x.k) = ys := ⟨_, rfl⟩
      rw [hys] at HB hml htf
      unfold atV at hL
      generalize (Idx.liveI (khs xs) x.k).isSome = ok at *
      generalize (Idx.liveI (khs xs) x.k).getD His.none_ = vv at *
      obtain ⟨vr, vk, vm, vv', vs', vl, vg⟩ := vv
      dsimp only [verV] at hL
      generalize p x.k = pk at *
      have HT := Lib.hid (And.intro htf (And.intro hml hx))
      have HC := Lib.hid (And.intro c0 c1)
      clear hx htf hmem hml hys
      go_wp2_with fail
      refine hL.mono ?_
      rintro e w1 ⟨rfl, hb1⟩
      obtain ⟨w2, hW2⟩ : ∃ w2, w1.alloc (.cells #[.int .i64 vr, .int .i64 vk, .int .i64 vm, .int .i64 vv', .string vs', .int .i64 vl, .bool vg] 37) = w2 := ⟨_, rfl⟩
      have hb2 : Below wr.heap.size wr w2 := by rw [← hW2]; exact hb1.alloc hb1.size _
      have HW := Lib.hid hW2
      have c0 := (hb2.cell (p := ⟨g, off + k * 2, none⟩) hg).trans HC.out.1
      have hbw2 := HB.out.2.trans (hb2.mono HB.out.2.size)
      have HB2 := Lib.hid (And.intro (HB.out.1.next hb2) hbw2)
      clear hL hW2 hb1 hb2 hbw2
      go_upto_region 6 with fail
      rw [HW.out]
      cases ok with
      | false =>
        rw [Bool.false_and] at hpk
        have HP := Lib.hid hpk
        clear hpk
        go_wp2
        go_roundw
        case rel => exact ⟨k + 1, hlt, by go_num, R, m, d, rfl, by omega, by rw [HT.out.1, HP.out, if_neg (by decide), List.append_nil]; exact HT.out.2.1, by rw [HT.out.1, HP.out, if_neg (by decide), List.append_nil]; exact HB2.out.1, HB2.out.2⟩
        case measure =>
          simp [intOf]
          omega
      | true =>
        rw [Bool.true_and] at hpk
        have hI2 := hI w2
        cases hq : Idx.inB a b x.k with
        | false =>
          rw [hq] at hI2 hpk
          have HP := Lib.hid hpk
          clear hpk hq hI
          go_wp2_with fail
          refine hI2.mono ?_
          rintro e w3 ⟨rfl, rfl⟩
          go_wp2
          go_roundw
          case rel => exact ⟨k + 1, hlt, by go_num, R, m, d, rfl, by omega, by rw [HT.out.1, HP.out, if_neg (by decide), List.append_nil]; exact HT.out.2.1, by rw [HT.out.1, HP.out, if_neg (by decide), List.append_nil]; exact HB2.out.1, HB2.out.2⟩
          case measure =>
            simp [intOf]
            omega
        | true =>
          rw [hq] at hI2 hpk
          have HP := Lib.hid hpk
          have h1c : ∀ u ∈ ([.string x.k] : List Value), u.oneCell' = true := fun u hu => by rw [List.mem_singleton] at hu; subst hu; rfl
          clear hpk hq hI
          go_wp2_with fail
          refine hI2.mono ?_
          rintro e w3 ⟨rfl, rfl⟩
          go_wp2_with (at_builtin
                       go_loud (refine wpList_append_sp elem_str _ rfl _ _ rfl R m d (rowS (ys.map (·.k))) rfl (HB2.out.1.sp.keep fun q hq => (show Below w3.heap.size w3 _ from (by repeat (first | exact Below.refl _ _ | apply Below.drew | apply below_drewN | refine Below.alloc ?_ (by simp) _))).block q (HB2.out.1.sp.lt hq)) _ 1 1 [.string x.k] rfl (fun e => by cases e) rfl h1c (fun b e => by cases e; exact cells_lit (C := [.string x.k]) (heap_alloc_new _ _)) (by omega) ?_)
                       intro A8 c8 w8 hsp8 hA8 hg8
                       have hP := HB2.out.1.push HB2.out.2 (show Below w3.heap.size w3 _ from (by repeat (first | exact Below.refl _ _ | apply Below.drew | apply below_drewN | refine Below.alloc ?_ (by simp) _))) hg8 hsp8 hA8)
          go_roundw
          case rel => exact ⟨k + 1, hlt, by go_num, A8, m + 1, c8, rfl, by omega, by rw [HT.out.1, HP.out, if_pos rfl, List.length_append, ← HT.out.2.1]; rfl, by rw [HT.out.1, HP.out, if_pos rfl, List.map_append]; exact (rowS_add (ys.map (·.k)) x.k) ▸ hP.1, hP.2⟩
          case measure =>
            simp [intOf]
            omega
    · obtain rfl : n = k := by omega
      have hfin := And.intro hml HB.out
      rw [List.take_of_length_le (by omega)] at hfin
      have HF := Lib.hid hfin
      clear hfin hml
      go_wp2
      go_ret
      exact ⟨R, m, d, rfl, by rw [HE.out.1]; exact HF.out.2.1, by rw [HE.out.1, List.length_map]; exact HF.out.1, HF.out.2.2⟩

end Go.Proofs.Ytcoddkbbgmjckaa
