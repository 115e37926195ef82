/- Clone of the program's disk, by its contract. -/
import Derived.Test.YtkgkllhocmedoaaDskDeedF
namespace Go.Proofs.Ytkgkllhocmedoaa
open Go.RowKit
set_option linter.unusedVariables false
set_option linter.unusedSimpArgs false

/-- The disk with another file of a name: among names of which some are vouched for. -/
theorem Dt.fin2 {w w4 : World} {d : Nat} {D : Dsk} {M Z : Nat → Prop} {X X' : ByteArray → Prop} {t t' : FT} {name : ByteArray} {v : FV} {u1 : Option Addr} (h : Dt w d D M Z X t) (hk : Keeps (· ≠ d) w w4) (hM : ∀ k, M k → k < w.heap.size)
    (hX : ∀ n, ¬ X' n → n ≠ name → ¬ X n)
    (hb : w4.heap[d]? = some (.cells #[.int .i64 D.room, .int .i64 ((usedF D.l : Nat) : Int), .pointer u1, .int .i64 (fuseOf D), .bool D.lost] 63)) (hr : MapFl.Rp (Pn M w) w4 u1 t') (hbst : Tr.Bst ltS t') (hfil : t'.list.map filOf = D.l)
    (hmem : ∀ p ∈ t'.list, p = (name, v) ∨ (p ∈ t.list ∧ p.1 ≠ name)) (hv : FRow w4 w.heap.size v) (hZ : ∀ k, Z k → k < w.heap.size) : Dt w4 d D M Z X' t' := by
  obtain ⟨u, hbx, _⟩ := h.box
  have hr4 : MapFl.Rp (Pn M w4) w4 u1 t' := hr.carry (fun k hk => .inr hk) fun b hlt hP _ => ⟨.inl fun e => by
    rcases hP with hP | hP
    · exact hP e
    · have := hM b e; omega, rfl⟩
  have hrow : ∀ p ∈ t'.list, ¬ X' p.1 → RowIn w4 M Z p.2 := by
    intro p hp hx
    rcases hmem p hp with rfl | ⟨hp, hne⟩
    · exact ⟨Owns.rebase hv (fun k _ => Nat.zero_le _), fun g hg => ⟨fun e => by have := hM g e; have := (hv.lt g hg).1; omega, fun e => by have := hZ g e; have := (hv.lt g hg).1; omega⟩⟩
    · have hrw := h.row p hp (hX _ hx hne)
      exact ⟨hrw.own.keep fun g hg => hk.block g (hrw.lt hg) fun e => hrw.ne hbx (e ▸ hg), hrw.out⟩
  have hap : ∀ a ∈ t'.list, ∀ b ∈ t'.list, a.1 ≠ b.1 → ¬ X' a.1 → ¬ X' b.1 → ∀ g, blk a.2 = some g → blk b.2 ≠ some g := by
    intro a ha b hb' hab hxa hxb g hg e
    rcases hmem a ha with rfl | ⟨ha, hna⟩
    · rcases hmem b hb' with rfl | ⟨hb', hnb⟩
      · exact hab rfl
      · have := (hv.lt g hg).1
        have := (h.row b hb' (hX _ hxb hnb)).lt e
        omega
    · rcases hmem b hb' with rfl | ⟨hb', hnb⟩
      · have := (hv.lt g e).1
        have := (h.row a ha (hX _ hxa hna)).lt hg
        omega
      · exact h.apart a ha b hb' hab (hX _ hxa hna) (hX _ hxb hnb) g hg e
  exact ⟨⟨u1, hb, hr4⟩, hbst, hfil, hrow, hap, h.own⟩

theorem putF_self {l : List Fil} (h : l.Pairwise fun a b => ltS a.name b.name = true) {f : Fil} (hf : f ∈ l) (h0 : 0 < f.b.size) : putF l f = l := by
  obtain ⟨p, q, rfl⟩ := List.append_of_mem hf
  rw [List.pairwise_append, List.pairwise_cons] at h
  rw [putF_mid p q f f (fun a ha => h.2.2 a ha f List.mem_cons_self) h.2.1.1 rfl, if_pos h0]
  rfl

/-- So many files are copied. -/
structure CloneAt (w : World) (D : Dsk) (M : Nat → Prop) (l : List (ByteArray × FV)) (A : Option Addr) (k : Nat) (wr : World) : Prop where
  dk : ∃ t', Dt wr w.heap.size D M (· < w.heap.size) (fun x => x ∉ (l.take k).map fun p => p.1) t'
  row : RP wr A l
  ra : ∀ g, A = some ⟨g, 0, none⟩ → w.heap.size < g
  below : Below w.heap.size w wr

theorem CloneAt.put {w : World} {D : Dsk} {M : Nat → Prop} {l : List (ByteArray × FV)} {A : Option Addr} {k : Nat} {wr w1 w3 : World} {t' : FT} {v' : FV} {u' u3 : Option Addr} (h : CloneAt w D M l A k wr) (hk : k < l.length) (hM : ∀ k, M k → k < w.heap.size)
    (hl : l.map filOf = D.l) (hsort : D.l.Pairwise fun a b => ltS a.name b.name = true) (h0 : 0 < l[k].2.l.length) (hD : Dt wr w.heap.size D M (· < w.heap.size) (fun x => x ∉ (l.take k).map fun p => p.1) t')
    (hl' : v'.l = l[k].2.l) (hs' : v'.safe = l[k].2.safe) (hv : FRow w1 wr.heap.size v') (hb01 : Below wr.heap.size wr w1) (hb3 : Below w1.heap.size w1 w3) (hr3 : MapFl.Rp (Pn M wr) w3 u3 (Tr.put ltS l[k].1 v' t'))
    (hbx3 : w3.heap[w.heap.size]? = some (.cells #[.int .i64 D.room, .int .i64 ((usedF D.l : Nat) : Int), .pointer u', .int .i64 (fuseOf D), .bool D.lost] 63)) : CloneAt w D M l A (k + 1) (w3.setCell ⟨w.heap.size, 2, none⟩ (.pointer u3)) := by
  have hb03 : Below wr.heap.size wr w3 := hb01.trans (hb3.mono hb01.size)
  have hkk : Keeps (· ≠ w.heap.size) wr (w3.setCell ⟨w.heap.size, 2, none⟩ (.pointer u3)) := (keeps_below hb03 (Nat.le_refl _)).trans (keeps_store _)
  have hcw := hD.lt
  have hff : filOf (l[k].1, v') = filOf l[k] := by simp only [filOf, hl', hs']
  have hin : filOf l[k] ∈ D.l := by rw [← hl]; exact List.mem_map_of_mem (List.getElem_mem hk)
  have hlp := Tr.list_put linS l[k].1 v' t' hD.bst
  refine ⟨⟨Tr.put ltS l[k].1 v' t', ?_⟩, h.row.keep hkk.size fun g e hg => hkk.block g hg (by have := h.ra g e; omega), h.ra, ?_⟩
  · refine hD.fin2 (name := l[k].1) (v := v') hkk (fun k hk => Nat.lt_trans (hM k hk) hcw) (fun n hx hne => ?_) (by rw [setCell_at w3 ⟨w.heap.size, 2, none⟩ _ _ _ _ rfl hbx3]; rfl) (hr3.setCell' hbx3) (hD.bst.put linS _ _) ?_ (fun p hp => mem_insL (hlp ▸ hp)) ?_ (fun k hk => Nat.lt_trans hk hcw)
    · intro hno
      apply hx
      rw [List.take_succ_eq_append_getElem hk, List.map_append]
      intro hm
      rcases List.mem_append.1 hm with hm | hm
      · exact hno hm
      · exact hne (by simpa using hm)
    · rw [hlp, map_insL _ _ _ (by rw [hl']; exact h0), hff, hD.fil]
      exact putF_self hsort hin h0
    · exact Owns.keep (Owns.keep hv fun g hg => hb3.block g (hv.lt g hg).2) fun g hg => Below.heap_setCell _ _ _ _ (by have := (hv.lt g hg).1; show g ≠ w.heap.size; omega)
  · have h1 := h.below.trans (hb03.mono h.below.size)
    exact h1.setCell (Nat.le_refl _) _

set_option maxRecDepth 100000 in
set_option maxHeartbeats 4000000 in
theorem clone_disk (w : World) (d : Nat) (D : Dsk) (M Z : Nat → Prop) (h : DkG w d D M Z) (hg : Good D) (hM : ∀ k, M k → k < w.heap.size) :
    Calls Try.prog 25 #[.pointer (some ⟨d, 0, none⟩)] w fun e w' => e = .returned (.pointer (some ⟨w.heap.size, 0, none⟩)) ∧ DkG w' w.heap.size D M (· < w.heap.size) ∧ Below w.heap.size w w' := by
  obtain ⟨t, h⟩ := h
  obtain ⟨u, hbx, hr⟩ := h.box
  have hd := h.lt
  obtain ⟨⟨a0, a1, a2, a3, a4⟩, _⟩ := row5 hbx
  have hlen := hg.len
  have hsz := h.size
  have hfil := Lib.hid h.fil
  have hl1 : t.list.length = t.size := Tr.length_list t
  have hbC : Below w.heap.size w (w.alloc (.cells #[.int .i64 D.room, .int .i64 ((usedF D.l : Nat) : Int), .pointer u, .int .i64 (fuseOf D), .bool D.lost] 63)) := (Below.refl _ _).alloc (Nat.le_refl _) _
  have hAll := MapFl.all_map t u _ (hr.below hbC (Nat.le_refl _)) (by omega)
  have hdat : ∀ k (hk : k < t.list.length), t.list[k].2.l.length ≤ 1048576 ∧ 0 < t.list[k].2.l.length ∧ (∀ w', Below w.heap.size w w' → FRow w' 0 t.list[k].2) := fun k hk => by
    have hm : t.list[k] ∈ t.list := List.getElem_mem hk
    have h1 := hg.fils.each (filOf t.list[k]) (by rw [← h.fil]; exact List.mem_map_of_mem hm)
    have h2 := h.len (name := t.list[k].1) (v := t.list[k].2) hm
    have h3 := hg.usedN
    have h4 := h.row _ hm (fun h => h)
    exact ⟨by omega, h1.1, fun w' hb => h4.own.keep fun g hg => hb.block g (h4.lt hg)⟩
  have hS0 : ∀ w2 A, Below (w.heap.size + 1) (w.alloc (.cells #[.int .i64 D.room, .int .i64 ((usedF D.l : Nat) : Int), .pointer u, .int .i64 (fuseOf D), .bool D.lost] 63)) w2 → RP w2 A t.list → (∀ g, A = some ⟨g, 0, none⟩ → w.heap.size + 1 ≤ g) → Hid (CloneAt w D M t.list A 0 w2) := fun w2 A hb hrp hra => ⟨by
    have hbx1 : w2.heap[w.heap.size]? = _ := (hb.block w.heap.size (by omega)).trans (heap_alloc_new _ _)
    refine ⟨⟨t, ⟨⟨u, hbx1, ?_⟩, h.bst, h.fil, fun p _ hx => absurd (by simp) hx, fun a _ b _ _ hx => absurd (by simp) hx, fun e => by have := hM _ e; omega, by omega⟩⟩, hrp, fun g e => hra g e, hbC.trans (hb.mono (by omega))⟩
    have h1 : MapFl.Rp (Pn M w) w2 u t := (hr.below hbC (Nat.le_refl _)).below hb (by simp)
    exact h1.carry (fun k hk => .inr hk) fun b hlt hP _ => ⟨.inl fun e => by
      rcases hP with hP | hP
      · exact hP e
      · have := hM b e; omega, rfl⟩⟩
  have hsrt := h.sort
  have hgf := Lib.hid hg.fils
  generalize t.list = l at *
  generalize t.size = n at *
  have hlD : D.l.length = n := by omega
  have hn' : (n : Int) ≤ 1048576 := by omega
  have hb2' := (hbC.cell (p := ⟨d, 2, none⟩) hd).trans a2
  clear h hbx hr hlen hg hsz
  go_enter Try.func25, Try.ntmps25
  go_wp2_with (first
    | (go_at_call 35
       refine hAll.mono ?_
       rintro e w2 ⟨A, c, rfl, ho2, hb2⟩)
    | fail)
  have hrp := RP.of_own ho2
  have hS := hS0 w2 A (by simpa using hb2) hrp.1 (fun g e => by have := hrp.2 g e; simpa using this)
  clear ho2 hrp hb2 hS0 hAll a2 hb2' a0 a1 a3 a4 hbC
  go_wp2
  go_loopg [17] n (fun g i wr => ∃ k : Nat, i = .int .i64 (k : Int) ∧ k + g = n ∧ CloneAt w D M l A k wr)
  case atStart => exact ⟨0, rfl, by omega, hS.out⟩
  case round =>
    clear hS
    obtain ⟨k, rfl, hk, hS⟩ := hrel
    by_cases hlt : k < n
    · have hlt' : (k : Int) < (n : Int) := by omega
      obtain ⟨gA, rfl, hgA, hc⟩ := hS.row (by omega)
      obtain ⟨c0, c1, c2⟩ := hc k (by omega)
      obtain ⟨hl2, hl0, hrow⟩ := hdat k (by omega)
      obtain ⟨t', hD⟩ := hS.dk
      obtain ⟨u', hbx', hr'⟩ := hD.box
      obtain ⟨⟨a0, a1, a2, a3, a4⟩, ⟨f0, f1, f2, f3, f4⟩⟩ := row5 hbx'
      have hcw : w.heap.size < wr.heap.size := hD.lt
      have hsz' := hD.size
      have hbw : Below wr.heap.size wr (wr.alloc (.cells #[.string l[k].1, fvS l[k].2, fvN l[k].2] 77)) := (Below.refl _ _).alloc (Nat.le_refl _) _
      have hkl : k < l.length := by omega
      have hCo := fun w' (hb : Below wr.heap.size wr w') => copy_any l[k].2 w' (hrow w' (hS.below.trans (hb.mono (Nat.le_of_lt hcw)))) (by omega)
      have hPu := fun w' (v' : FV) (hb : Below wr.heap.size wr w') => MapFl.put_map t' u' l[k].1 v' w' (hr'.below hb (Nat.le_refl _)) (by rw [hsz', hlD]; omega)
      have HP := Lib.hid (fun (w1 w3 : World) (v' : FV) (u3 : Option Addr) hl' hs' hv hb01 hb3 hr3 (hbx3 : w3.heap[w.heap.size]? = some (.cells #[.int .i64 D.room, .int .i64 ((usedF D.l : Nat) : Int), .pointer u', .int .i64 (fuseOf D), .bool D.lost] 63)) => CloneAt.put (w1 := w1) (w3 := w3) (v' := v') (u3 := u3) hS hkl hM hfil.out hsrt hl0 hD hl' hs' hv hb01 hb3 hr3 hbx3)
      have HBX := Lib.hid hbx'
      clear hS hD hbx' hr' hdat hsz' hrow
      go_wp2_with fail
      go_region_with (first
        | (go_at_call 41
           refine (hCo _ (by repeat (first | exact hbw | apply Below.drew))).mono ?_
           rintro e w1 ⟨v', rfl, hl', hs', hv', hb1⟩
           have hb01 : Below wr.heap.size wr w1 := Tr.below_of hb1 (by repeat (first | exact hbw | apply Below.drew))
           have hrr := (hb1.block wr.heap.size (by simp)).trans (heap_alloc_new _ _)
           obtain ⟨⟨j0, j1, j2⟩, _⟩ := row3 hrr
           have b2 := (hb01.cell (p := ⟨w.heap.size, 2, none⟩) hcw).trans a2
           have hz1 : wr.heap.size < w1.heap.size := Go.Proofs.Ytkgkllhocmedoaa.hlt hrr
           have hcw1 : w.heap.size < w1.heap.size := Nat.lt_trans hcw hz1)
        | (go_at_call 47
           refine (hPu _ v' hb01).mono ?_
           rintro e w3 ⟨u3, rfl, hr3, hb3⟩
           have hbx3 := ((hb01.trans (hb3.mono hb01.size)).block w.heap.size hcw).trans HBX.out
           obtain ⟨⟨p0, p1, p2, p3, p4⟩, ⟨m0, m1, m2, m3, m4⟩⟩ := row5 hbx3
           have HQ := Lib.hid (HP.out w1 w3 v' u3 hl' hs' (Owns.rebase hv' (fun q hq => by have := (hv'.lt q hq).1; simp at this; omega)) hb01 hb3 hr3 hbx3)
           have hcw3 : w.heap.size < w3.heap.size := Nat.lt_of_lt_of_le hcw1 hb3.size)
        | fail)
      all_goals
        go_wp2
        go_roundg (gk - 1)
        case measure => omega
        case rel => exact ⟨k + 1, by go_num, by omega, HQ.out⟩
    · obtain rfl : k = n := by omega
      have hdec : decide ((k : Int) < (k : Int)) = false := decide_eq_false (by omega)
      have HF : Hid (DkG wr w.heap.size D M (· < w.heap.size)) := ⟨by
        obtain ⟨t', hD⟩ := hS.dk
        refine ⟨t', ⟨hD.box, hD.bst, hD.fil, fun p hp _ => hD.row p hp ?_, fun a ha b hb hab _ _ => hD.apart a ha b hb hab ?_ ?_, hD.own⟩⟩
        all_goals
          rw [List.take_of_length_le (by omega)]
          intro hno
          apply hno
        · have : (filOf p) ∈ l.map filOf := by rw [hfil.out, ← hD.fil]; exact List.mem_map_of_mem hp
          obtain ⟨q, hq, e⟩ := List.mem_map.1 this
          exact List.mem_map.2 ⟨q, hq, congrArg Fil.name e⟩
        · have : (filOf a) ∈ l.map filOf := by rw [hfil.out, ← hD.fil]; exact List.mem_map_of_mem ha
          obtain ⟨q, hq, e⟩ := List.mem_map.1 this
          exact List.mem_map.2 ⟨q, hq, congrArg Fil.name e⟩
        · have : (filOf b) ∈ l.map filOf := by rw [hfil.out, ← hD.fil]; exact List.mem_map_of_mem hb
          obtain ⟨q, hq, e⟩ := List.mem_map.1 this
          exact List.mem_map.2 ⟨q, hq, congrArg Fil.name e⟩⟩
      have hb := hS.below
      clear hS hdat
      go_wp2
      go_ret
      exact ⟨rfl, HF.out, hb⟩

end Go.Proofs.Ytkgkllhocmedoaa
