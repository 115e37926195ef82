/- EntrySame's walk. -/
import Derived.Test.YtipggjmndlaehaaEntAwake
import Derived.Test.YtipggjmndlaehaaEntSameP
import Derived.Test.YtipggjmndlaehaaEntRow
namespace Go.Proofs.Ytipggjmndlaehaa.entrySame
open Go.ChangeShapes Go.WideShapes Go.ChangeAt Go.RowKit Go.Proofs.Ytipggjmndlaehaa
set_option linter.unusedVariables false
set_option linter.unusedSimpArgs false

theorem few_le {ls : List Ent} {m : Nat} (h : fewE ls m = true) : ls.length ≤ m ∧ weigh ls ≤ 40000 := by
  unfold fewE at h
  simpa only [Bool.and_eq_true, decide_eq_true_eq] using h

theorem weigh_mem {ls : List Ent} {e : Ent} (h : e ∈ ls) : e.d.length ≤ weigh ls := by
  induction ls with
  | nil => simp at h
  | cons x xs ih =>
    unfold weigh at *
    simp only [List.map_cons, List.sum_cons]
    rcases List.mem_cons.1 h with rfl | h
    · omega
    · have := ih h
      omega

set_option maxRecDepth 100000 in
set_option maxHeartbeats 1600000 in
theorem walk_out (A : Option Addr) (len cap : Nat) (ls : List Ent) (B : Option Addr) (n capB : Nat) (ts : List Ent) (z : Int) (w : World) (h : Ents w (· < w.heap.size) A len cap ls) (hm : len ≤ maxLen) (hd : ∀ e ∈ ls, e.d.length ≤ 140737488355328)
    (h' : Ents w (· < w.heap.size) B n capB ts) (hm' : n ≤ maxLen) (hd' : ∀ e ∈ ts, e.d.length ≤ 140737488355328) (hno : fewE ls 40 = false ∨ fewE ts 40 = false) :
    Calls Try.prog 6 #[.slice A len cap, .slice B n capB, .int .u8 z] w fun e w' => e = .returned (.bool true) ∧ Below w.heap.size w w' := by
  have hF := fun W (hW : Below w.heap.size w W) => fewR_any _ A len cap ls 40 W (h.below hW (Nat.le_refl _)) hm (by omega) hd
  have hG := fun W (hW : Below w.heap.size w W) => fewR_any _ B n capB ts 40 W (h'.below hW (Nat.le_refl _)) hm' (by omega) hd'
  clear h hd h' hd' hm hm'
  generalize fewE ls 40 = q at *
  generalize fewE ts 40 = r at *
  go_enter Try.func6, Try.ntmps6
  go_wp2_with fail
  refine (awake_any _).mono ?_
  rintro e w1 ⟨rfl, hb1⟩
  have hF1 := hF w1 hb1
  have hG1 := hG w1 hb1
  have hA := awake_any w1
  clear hF hG
  go_wp2_with fail
  refine hF1.mono ?_
  rintro e w2 ⟨rfl, rfl⟩
  clear hF1
  cases q with
  | false =>
    clear hno hG1
    go_wp2_with fail
    refine hA.mono ?_
    rintro e w3 ⟨rfl, hb3⟩
    go_wp2
    go_ret
    exact ⟨rfl, hb1.trans (hb3.mono hb1.size)⟩
  | true =>
    obtain rfl : r = false := by
      rcases hno with h | h
      · cases h
      · exact h
    clear hno
    go_wp2_with fail
    refine hG1.mono ?_
    rintro e w2 ⟨rfl, rfl⟩
    clear hG1
    go_wp2_with fail
    refine hA.mono ?_
    rintro e w3 ⟨rfl, hb3⟩
    go_wp2
    go_ret
    exact ⟨rfl, hb1.trans (hb3.mono hb1.size)⟩

set_option maxRecDepth 100000 in
set_option maxHeartbeats 6400000 in
theorem walk_in (A : Option Addr) (len cap : Nat) (ls : List Ent) (B : Option Addr) (n capB : Nat) (ts : List Ent) (z : Nat) (hz : z < 256) (w : World) (h : Ents w (· < w.heap.size) A len cap ls) (hm : len ≤ maxLen) (hd : ∀ e ∈ ls, e.d.length ≤ 140737488355328)
    (h' : Ents w (· < w.heap.size) B n capB ts) (hm' : n ≤ maxLen) (hd' : ∀ e ∈ ts, e.d.length ≤ 140737488355328) (hf : fewE ls 40 = true) (hf' : fewE ts 40 = true) :
    Calls Try.prog 6 #[.slice A len cap, .slice B n capB, .int .u8 (z : Int)] w fun e w' => e = .returned (.bool true) ∧ Below w.heap.size w w' := by
  have hF := fun W (hW : Below w.heap.size w W) => fewR_any _ A len cap ls 40 W (h.below hW (Nat.le_refl _)) hm (by omega) hd
  have hG := fun W (hW : Below w.heap.size w W) => fewR_any _ B n capB ts 40 W (h'.below hW (Nat.le_refl _)) hm' (by omega) hd'
  have hS1 := fun W (hW : Below w.heap.size w W) => sameP_any _ _ A len cap ls B n capB ts W (h.below hW (Nat.le_refl _)) (h'.below hW (Nat.le_refl _)) hm
  have hS2 := fun W (hW : Below w.heap.size w W) => sameR_any _ _ A len cap ls B n capB ts W (h.below hW (Nat.le_refl _)) (h'.below hW (Nat.le_refl _)) hm
  have hS3 := fun W (hW : Below w.heap.size w W) => sameP_any _ _ A len cap ls A len cap ls W (h.below hW (Nat.le_refl _)) (h.below hW (Nat.le_refl _)) hm
  rw [sameE_refl] at hS3
  have hlen := few_le hf
  have hll := h.1
  rw [hf] at hF
  rw [hf'] at hG
  generalize sameE ls ts = q at *
  clear hd hd' h' hm' hf hf'
  go_enter Try.func6, Try.ntmps6
  go_wp2_with fail
  refine (awake_any _).mono ?_
  rintro e w1 ⟨rfl, hb1⟩
  have hF1 := hF w1 hb1
  have hG1 := hG w1 hb1
  have hS := hS1 w1 hb1
  clear hF hG hS1
  go_wp2_with fail
  refine hF1.mono ?_
  rintro e w2 ⟨rfl, rfl⟩
  clear hF1
  go_wp2_with fail
  refine hG1.mono ?_
  rintro e w2 ⟨rfl, rfl⟩
  clear hG1
  go_wp2_with fail
  refine hS.mono ?_
  rintro e w2 ⟨rfl, hb2⟩
  have hbw2 := hb1.trans (hb2.mono hb1.size)
  have hS := hS2 w2 hbw2
  clear hS2 hb1 hb2
  go_wp2_with fail
  refine hS.mono ?_
  rintro e w3 ⟨rfl, hb3⟩
  have hbw3 := hbw2.trans (hb3.mono hbw2.size)
  have hS := hS3 w3 hbw3
  have hqq : (q != q) = false := by simp
  clear hS3 hbw2 hb3
  go_wp2_with fail
  refine hS.mono ?_
  rintro e w4 ⟨rfl, hb4⟩
  have hbw4 := hbw3.trans (hb4.mono hbw3.size)
  clear hS hbw3 hb4
  by_cases h0 : len = 0
  · subst h0
    clear hll hlen h
    go_wp2
    go_ret
    exact ⟨rfl, hbw4⟩
  · have hne : ((len : Int) == 0) = false := beq_eq_false_iff_ne.2 (by omega)
    have hne2 : ((len : Int) = 0) = False := eq_false (by omega)
    obtain ⟨g0, off0, rfl, hg0, _, _⟩ := h.2.2.2 (by omega)
    obtain ⟨xs, hxs, hok, hcell⟩ := h.lays
    have hcell := hcell _ rfl
    have hxl : xs.length = len := by rw [← hll, ← hxs, List.length_map]
    obtain ⟨k, hk⟩ := Int.eq_ofNat_of_zero_le (show 0 ≤ (z : Int) % (len : Int) from Int.emod_nonneg _ (by omega))
    have hkl : k < len := by have := Int.emod_lt_of_pos (z : Int) (show (0 : Int) < (len : Int) by omega); omega
    have hk' : (z : Int) % (len : Int) = (k : Int) := hk
    have hzi : (z : Int) < 256 := by omega
    have hlp : (0 : Int) < (len : Int) := by omega
    obtain ⟨i0, hi0, hz0, hz1, hz2⟩ := info_parts info_u8
    have hA5 := (Below.refl w4.heap.size w4).alloc (Nat.le_refl _) (.cells #[] 31)
    have hbw5 := hbw4.trans (hA5.mono hbw4.size)
    have hcell5 : ∀ j u, (rowOf xs)[j]? = some u → (w4.alloc (.cells #[] 31)).cell? ((⟨g0, off0, none⟩ : Addr).add j) = some u := fun j u hu => by
      have := hcell j u hu
      rw [Addr.add_lit] at this ⊢
      exact (hbw5.cell (p := ⟨g0, off0 + j, none⟩) hg0).trans this
    have hl40 : len ≤ 40 := by omega
    have HX := Lib.hid hxs
    have HLL := Lib.hid hll
    clear hk h0 hcell hxs hll
    go_wp2_with (at_builtin; refine wpList_append_ents _ rfl _ _ rfl w4.heap.size (by simp) (.slice (some ⟨w4.heap.size, 0, none⟩) 0 0) 0 [] rfl (World.ownsRow_made _ #[] 0 (Nat.le_refl _) (Nat.zero_le _) rfl) ⟨g0, off0, none⟩ len cap xs rfl hxl hcell5 (by omega) ?_)
    intro v6 w6 ho6 hg6 hb6
    obtain ⟨g6, cap6, rfl⟩ : ∃ g6 cap6, v6 = .slice (some ⟨g6, 0, none⟩) len cap6 := by
      rcases ho6.2 with ⟨_, h00⟩ | ⟨g, cp, cur, e, _⟩
      · omega
      · exact ⟨g, cp, e⟩
    have hlt6 := World.ownsRow.lt ho6 g6 rfl
    have hbw6 : Below w.heap.size w w6 := hbw5.grown hg6 hbw5.size (fun q e => by injection e with e; have e' : w4.heap.size = q := e; have := hbw4.size; omega)
    have hbs6 := hbw6.size
    have hg6w : w.heap.size ≤ g6 := Nat.le_trans hbw4.size hlt6.1
    have hkx : k < xs.length := by omega
    obtain ⟨x, hx⟩ : ∃ x, x = xs[k] := ⟨_, rfl⟩
    have hxo := hok x (hx ▸ List.getElem_mem hkx)
    have hxd : x.e.d.length ≤ 40000 := by
      have := weigh_mem (ls := ls) (e := x.e) (by rw [← show xs.map (·.e) = ls from HX]; exact List.mem_map.2 ⟨x, hx ▸ List.getElem_mem hkx, rfl⟩)
      omega
    have c6 : w6.cell? ⟨g6, k * 3 + 2, none⟩ = some (.slice x.A x.e.d.length x.c) := by
      rw [World.ownsRow.cellAt ho6 (k * 3 + 2) (by omega), rowOf_at xs k 2 hkx (by omega), ← hx]
      rfl
    have hA7 := (Below.refl w6.heap.size w6).alloc (Nat.le_refl _) (.cells #[] 5)
    have hlx7 : Lies (w6.alloc (.cells #[] 5)) x.A x.e.d.length x.c x.e.d := hxo.2.1.below (hbw6.trans (hA7.mono hbs6)) (Nat.le_refl _)
    have HXK := Lib.hid hx
    have HO6 := Lib.hid ho6
    obtain ⟨xa, xc, xd, xe⟩ : ∃ (xa : Option Addr) (xc : Nat) (xd : List UInt8), x.A = xa ∧ x.c = xc ∧ x.e.d = xd := ⟨_, _, _, rfl, rfl, rfl⟩
    obtain ⟨xe1, xe2, xe3⟩ := xe
    rw [xe1, xe2, xe3] at c6 hlx7
    rw [xe3] at hxd
    obtain ⟨xl, hxl2⟩ : ∃ xl, xl = xd.length := ⟨_, rfl⟩
    rw [← hxl2] at c6 hlx7
    have HXL := Lib.hid hxl2
    have HXA := Lib.hid xe1
    have HXC := Lib.hid xe2
    have HXD := Lib.hid xe3
    have hxl3 : xl ≤ 40000 := by omega
    have hxb : ([] ++ xd).length ≤ 140737488355328 := by rw [List.nil_append, ← hxl2]; omega
    have hxb2 : (([] ++ xd) ++ [UInt8.ofNat z]).length ≤ 140737488355328 := by rw [List.nil_append, List.length_append, ← hxl2]; simp only [List.length_singleton]; omega
    have HBZ := Lib.hid (show (z : Int) = ((UInt8.ofNat z).toNat : Int) by simp; omega)
    have hlt6' := hlt6.2
    have HOK := Lib.hid hok
    clear hb6 hg6 hbw5 hA5 hcell5 ho6 hx hxo hxd xe1 xe2 xe3 hxl2 hok hz
    go_wp2_with (first
      | (at_builtin; refine wpList_append_bytes _ rfl _ _ 25 rfl 5 i0 Try.underlying25 hi0 hz0 hz1 hz2 w6.heap.size (by simp) (.slice (some ⟨w6.heap.size, 0, none⟩) 0 0) [] rfl (World.ownsRow_made _ #[] 0 (Nat.le_refl _) (Nat.zero_le _) rfl) xa xl xc xd rfl hlx7 hxb ?_
         intro v8 w8 ho8 hg8 hb8
         have hbw8 : Below w6.heap.size w6 w8 := hA7.grown hg8 (by simp) (fun q e => by injection e with e; have e' : w6.heap.size = q := e; omega)
         have hA9 := (Below.refl w8.heap.size w8).alloc (Nat.le_refl _) (.cells #[.int .u8 (z : Int)] 5)
         have hbw9 := hbw8.trans (hA9.mono hbw8.size)
         have ho9 : Owns 5 (w8.alloc (.cells #[.int .u8 (z : Int)] 5)) w6.heap.size v8 ([] ++ xd) := Owns.keep ho8 (fun g e => hA9.block g (Owns.lt ho8 g e).2)
         have hl9 := Lies.lit w8 (z : Int) (UInt8.ofNat z) 5 HBZ.out
         have ho8lt := Owns.lt ho8
         clear hg8 hb8 ho8)
      | (at_builtin; refine wpList_append_bytes _ rfl _ _ 25 rfl 5 i0 Try.underlying25 hi0 hz0 hz1 hz2 w6.heap.size hbw9.size v8 ([] ++ xd) rfl ho9 (some ⟨w8.heap.size, 0, none⟩) 1 1 [UInt8.ofNat z] rfl hl9 hxb2 ?_
         intro v10 w10 ho10 hg10 hb10
         have hbw10 : Below w6.heap.size w6 w10 := hbw9.grown hg10 hbw9.size (fun q e => (ho8lt q e).1)
         have c10 : w10.cell? ⟨g6, k * 3 + 2, none⟩ = some (.slice xa xl xc) := (hbw10.cell (p := ⟨g6, k * 3 + 2, none⟩) hlt6').trans c6
         have f10 : w10.frozen? ⟨g6, k * 3 + 2, none⟩ = false := (hbw10.frozen (p := ⟨g6, k * 3 + 2, none⟩) hlt6').trans (World.ownsRow.frozenAt HO6.out _)
         obtain ⟨A10, cap10, hv10, hl10, _⟩ := lies_of_owns ho10
         subst hv10
         have hm10 : cap10 ≤ maxLen := by
           rcases ho10.2 with ⟨e, _⟩ | ⟨g, cp, cur, e, _, _, _, hcm, _⟩
           · injection e with _ _ e3; omega
           · injection e with _ _ e3; omega
         have ho10lt := Owns.lt ho10
         clear hg10 hb10 ho10 hl9 ho9))
    have hxs := HX.out
    have hll := HLL.out
    have hx : x = xs[k] := HXK.out
    have hxd : x.e.d = xd := HXD.out
    obtain ⟨b, hb⟩ : ∃ b, b = UInt8.ofNat z := ⟨_, rfl⟩
    have hl10' : Lies w10 A10 (xd ++ [b]).length cap10 (xd ++ [b]) := by rw [hb]; simpa using hl10
    have hd2 : (xd ++ [b]).length = xd.length + 1 := by simp
    have ho10r := owns_heap HO6.out (w' := w10) (fun g e => hbw10.block g (World.ownsRow.lt HO6.out g e).2)
    have hst := (World.ownsRow.stored ho10r (k * 3 + 2) (.slice A10 (xd ++ [b]).length cap10)).1
    rw [rowOf_set xs k hkx (xd ++ [b]) A10 cap10, hd2] at hst
    have hbw10w := hbw6.trans (hbw10.mono hbs6)
    have hbw11 : Below w.heap.size w (w10.setCell ⟨g6, k * 3 + 2, none⟩ (.slice A10 (xd.length + 1) cap10)) := hbw10w.setCell hg6w _
    have hl11 : Lies (w10.setCell ⟨g6, k * 3 + 2, none⟩ (.slice A10 (xd.length + 1) cap10)) A10 (xd ++ [b]).length cap10 (xd ++ [b]) := hl10'.keep (by simp) fun _ g off e _ => Below.heap_setCell _ _ _ _ (by
      show g ≠ g6
      have := (ho10lt g (by rw [e]; rfl)).1
      omega)
    have hE11 := Ents.ofRow (Z := fun _ => True) hst (by rw [List.length_set]; exact hxl) trivial (fun y hy => by
      rcases List.mem_or_eq_of_mem_set hy with hy | rfl
      · exact ((HOK.out y hy).keep hbw11.size (fun q hq _ => hbw11.block q hq)).mono fun _ _ => trivial
      · exact ⟨hm10, hl11, fun _ _ _ _ => trivial⟩)
    have hkl' : k < ls.length := by omega
    have hlsk : ls[k] = x.e := by
      have : ls[k]? = some x.e := by rw [← hxs, List.getElem?_map, List.getElem?_eq_getElem hkx, hx]; rfl
      rw [List.getElem?_eq_getElem hkl'] at this
      exact Option.some.inj this
    have hls' : (xs.set k ⟨⟨xs[k].e.i, xs[k].e.t, xd ++ [b]⟩, A10, cap10⟩).map (·.e) = ls.set k ⟨ls[k].i, ls[k].t, ls[k].d ++ [b]⟩ := by
      rw [List.map_set, hxs, hlsk, hxd, ← hx]
    rw [hls'] at hE11
    have hC1 := sameP_any _ _ (some ⟨g0, off0, none⟩) len cap ls _ len cap6 _ _ (h.below hbw11 (Nat.le_refl _)) hE11 hm
    rw [sameE_turned ls k hkl' b] at hC1
    have hC2 := fun W (hW : Below (w10.setCell ⟨g6, k * 3 + 2, none⟩ (.slice A10 (xd.length + 1) cap10)).heap.size (w10.setCell ⟨g6, k * 3 + 2, none⟩ (.slice A10 (xd.length + 1) cap10)) W) => sameP_any _ _ (some ⟨g0, off0, none⟩) len cap ls _ (len - 1) (cap6 - 1) _ W (h.below (hbw11.trans (hW.mono hbw11.size)) (Nat.le_refl _)) ((hE11.rest (by omega)).below hW (Nat.le_refl _)) hm
    rw [sameE_len (by rw [List.length_drop, List.length_set]; omega)] at hC2
    have hC3 := fun W (hW : Below (w10.setCell ⟨g6, k * 3 + 2, none⟩ (.slice A10 (xd.length + 1) cap10)).heap.size (w10.setCell ⟨g6, k * 3 + 2, none⟩ (.slice A10 (xd.length + 1) cap10)) W) => sameP_any _ _ (some ⟨g6, 0, none⟩) len cap6 _ (some ⟨g6, 0, none⟩) len cap6 _ W (hE11.below hW (Nat.le_refl _)) (hE11.below hW (Nat.le_refl _)) hm
    rw [sameE_refl] at hC3
    have hrs := fun W => run_restE g6 0 len cap6 (by omega) hE11.2.1 W
    clear hls' hlsk hE11 hl11 hst ho10r hd2 hl10' hb hx hxd hll hxs hl10 c10 f10 c6 hlx7 ho10lt hbw10w hbw9 hbw8 hA9 hA7 ho8lt h
    go_wp2_with fail
    refine hC1.mono ?_
    rintro e w12 ⟨rfl, hb12⟩
    have hbw12 := hbw11.trans (hb12.mono hbw11.size)
    have hC2 := hC2 w12 hb12
    clear hC1
    go_wp2_with fail
    refine hC2.mono ?_
    rintro e w13 ⟨rfl, hb13⟩
    have hb13' := hb12.trans (hb13.mono hb12.size)
    have hbw13 := hbw12.trans (hb13.mono hbw12.size)
    have hC3 := hC3 w13 hb13'
    clear hC2
    go_wp2_with fail
    refine hC3.mono ?_
    rintro e w14 ⟨rfl, hb14⟩
    go_wp2
    go_ret
    exact ⟨rfl, hbw13.trans (hb14.mono hbw13.size)⟩

theorem walk (A : Option Addr) (len cap : Nat) (ls : List Ent) (B : Option Addr) (n capB : Nat) (ts : List Ent) (a : Int) (ha : 0 ≤ a ∧ a < 256) (w : World) (h : Ents w (· < w.heap.size) A len cap ls) (hm : len ≤ maxLen) (hd : ∀ e ∈ ls, e.d.length ≤ 140737488355328)
    (h' : Ents w (· < w.heap.size) B n capB ts) (hm' : n ≤ maxLen) (hd' : ∀ e ∈ ts, e.d.length ≤ 140737488355328) :
    Calls Try.prog 6 #[.slice A len cap, .slice B n capB, .int .u8 a] w fun e w' => e = .returned (.bool true) ∧ Below w.heap.size w w' := by
  obtain ⟨z, rfl⟩ := Int.eq_ofNat_of_zero_le ha.1
  by_cases hno : fewE ls 40 = false ∨ fewE ts 40 = false
  · exact walk_out A len cap ls B n capB ts _ w h hm hd h' hm' hd' hno
  · refine walk_in A len cap ls B n capB ts z (by omega) w h hm hd h' hm' hd' ?_ ?_
    · cases hq : fewE ls 40 with
      | true => rfl
      | false => exact absurd (.inl hq) hno
    · cases hq : fewE ts 40 with
      | true => rfl
      | false => exact absurd (.inr hq) hno

end Go.Proofs.Ytipggjmndlaehaa.entrySame
