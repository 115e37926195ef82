/- The program's copies, by its contract. -/
import Derived.Test.YtmiijlecfiddmaaNNM06
import Derived.Test.YtmiijlecfiddmaaNNM02
import Derived.Test.YtmiijlecfiddmaaNNM04
set_option linter.unusedVariables false
set_option linter.unusedSimpArgs false
set_option maxRecDepth 100000
set_option maxHeartbeats 3200000
namespace Go.Proofs.Ytmiijlecfiddmaa
open Go.RowKit
structure qE (w W : World) (n k : Nat) (ys : List Lay) : Prop where
 row : ∃ cur : Array Value,W.heap[w.heap.size]? = some (.cells cur 31 (0,0)) /\ cur.size = n * 3 /\ ∀ (j : Nat) (u : Value),(rowOf ys)[j]? = some u -> cur[j]? = some u
 len : ys.length = k
 lays : ∀ y ∈ ys,qh W (fun q => w.heap.size < q) y
 below : Below w.heap.size w W
section
variable {w W W2 : World} {n k : Nat} {ys : List Lay}
theorem qE.step (h : qE w W n k ys) (hb : Below W.heap.size W W2) : qE w W2 n k ys := by
 obtain ⟨cur,h1,h2⟩ := h.row
 exact ⟨⟨cur,(hb.block _ (hlt h1)).trans h1,h2⟩,h.len,fun y hy => (h.lays y hy).keep hb.size fun q hq _ => hb.block q hq,h.below.trans (hb.mono h.below.size)⟩
theorem qE.seen (h : qE w W n k ys) (hk : k < n) : ∃ u0 u1 u2,W.cell? ⟨w.heap.size,k * 3,none⟩ = some u0 /\ W.cell? ⟨w.heap.size,k * 3 + 1,none⟩ = some u1 /\ W.cell? ⟨w.heap.size,k * 3 + 2,none⟩ = some u2 ∧
 W.frozen? ⟨w.heap.size,k * 3,none⟩ = false /\ W.frozen? ⟨w.heap.size,k * 3 + 1,none⟩ = false /\ W.frozen? ⟨w.heap.size,k * 3 + 2,none⟩ = false := by
 obtain ⟨cur,h1,h2,_⟩ := h.row
 have hc : ∀ o,W.cell? ⟨w.heap.size,o,none⟩ = cur[o]? := fun o => cell_of_row W _ o cur _ _ h1
 have hf : ∀ o,W.frozen? ⟨w.heap.size,o,none⟩ = false := fun o => frozen_of_row W _ o cur _ h1
 exact ⟨cur[k * 3]'(by omega),cur[k * 3 + 1]'(by omega),cur[k * 3 + 2]'(by omega),by rw [hc,Array.getElem?_eq_getElem],by rw [hc,Array.getElem?_eq_getElem],by rw [hc,Array.getElem?_eq_getElem],hf _,hf _,hf _⟩
theorem qE.store (h : qE w W n k ys) (hk : k < n) (x : Lay) (hx : qh W (fun q => w.heap.size < q) x) :
 qE w (((W.setCell ⟨w.heap.size,k * 3,none⟩ (.int .i64 x.e.i)).setCell ⟨w.heap.size,k * 3 + 1,none⟩ (.int .i64 x.e.t)).setCell ⟨w.heap.size,k * 3 + 2,none⟩ (.slice x.A x.e.d.length x.c)) n (k + 1) (ys ++ [x]) := by
 obtain ⟨cur,h1,h2,h3⟩ := h.row
 have e1 := setCell_at W ⟨w.heap.size,k * 3,none⟩ (.int .i64 x.e.i) cur _ _ rfl h1
 have e2 := setCell_at _ ⟨w.heap.size,k * 3 + 1,none⟩ (.int .i64 x.e.t) _ _ _ rfl e1
 have e3 := setCell_at _ ⟨w.heap.size,k * 3 + 2,none⟩ (.slice x.A x.e.d.length x.c) _ _ _ rfl e2
 have hoff : ∀ q,q ≠ w.heap.size -> (((W.setCell ⟨w.heap.size,k * 3,none⟩ (.int .i64 x.e.i)).setCell ⟨w.heap.size,k * 3 + 1,none⟩ (.int .i64 x.e.t)).setCell ⟨w.heap.size,k * 3 + 2,none⟩ (.slice x.A x.e.d.length x.c)).heap[q]? = W.heap[q]? := fun q hq =>
  (Below.heap_setCell _ _ _ _ (by exact hq)).trans ((Below.heap_setCell _ _ _ _ (by exact hq)).trans (Below.heap_setCell _ _ _ _ (by exact hq)))
 have hkeep : ∀ y,qh W (fun q => w.heap.size < q) y -> qh (((W.setCell ⟨w.heap.size,k * 3,none⟩ (.int .i64 x.e.i)).setCell ⟨w.heap.size,k * 3 + 1,none⟩ (.int .i64 x.e.t)).setCell ⟨w.heap.size,k * 3 + 2,none⟩ (.slice x.A x.e.d.length x.c)) (fun q => w.heap.size < q) y := fun y hy => hy.keep (by simp) fun q _ hq => hoff q (by omega)
 refine ⟨⟨_,e3,by simpa using h2,fun j u hu => ?_⟩,by rw [List.length_append,h.len]; rfl,fun y hy => ?_,((h.below.setCell (Nat.le_refl _) _).setCell (Nat.le_refl _) _).setCell (Nat.le_refl _) _⟩
 · have hl : (rowOf ys).length = k * 3 := by rw [ql,h.len]
   rw [qH] at hu
   rcases Nat.lt_or_ge j (k * 3) with hj | hj
   · rw [List.getElem?_append_left (by omega)] at hu
     rw [Array.getElem?_setIfInBounds_ne (by show k * 3 + 2 ≠ j; omega),Array.getElem?_setIfInBounds_ne (by show k * 3 + 1 ≠ j; omega),Array.getElem?_setIfInBounds_ne (by show k * 3 ≠ j; omega)]
     exact h3 j u hu
   · rw [List.getElem?_append_right (by omega),hl] at hu
     have e : rowOf [x] = [.int .i64 x.e.i, .int .i64 x.e.t, .slice x.A x.e.d.length x.c] := by simp [rowOf,cells3]
     rw [e] at hu
     have hj3 : j - k * 3 < 3 := by
      have := (List.getElem?_eq_some_iff.1 hu).1
      simpa using this
     have hc : j = k * 3 \/ j = k * 3 + 1 \/ j = k * 3 + 2 := by omega
     rcases hc with rfl | rfl | rfl
     · rw [show k * 3 - k * 3 = 0 by omega] at hu
       rw [Array.getElem?_setIfInBounds_ne (by show k * 3 + 2 ≠ k * 3; omega),Array.getElem?_setIfInBounds_ne (by show k * 3 + 1 ≠ k * 3; omega),Array.getElem?_setIfInBounds_self]
       rw [if_pos (by show k * 3 < cur.size; omega)]
       exact hu
     · rw [show k * 3 + 1 - k * 3 = 1 by omega] at hu
       rw [Array.getElem?_setIfInBounds_ne (by show k * 3 + 2 ≠ k * 3 + 1; omega),Array.getElem?_setIfInBounds_self]
       rw [if_pos (by simp; omega)]
       exact hu
     · rw [show k * 3 + 2 - k * 3 = 2 by omega] at hu
       rw [Array.getElem?_setIfInBounds_self]
       rw [if_pos (by simp; omega)]
       exact hu
 · rcases List.mem_append.1 hy with hy | hy
   · exact hkeep y (h.lays y hy)
   · rw [List.mem_singleton.1 hy]
     exact hkeep x hx
theorem qE.spot (h : qE w W n n ys) (hn : n <= maxLen) : Spot W (some ⟨w.heap.size,0,none⟩) n n ys := by
 obtain ⟨cur,h1,h2,h3⟩ := h.row
 exact ⟨h.len,Nat.le_refl _,hn,(fun e => by cases e),fun a e => by
  injection e with e
  subst e
  exact ⟨_,0,cur,rfl,h1,by omega,fun j u hu => by rw [Nat.zero_add]; exact h3 j u hu⟩⟩
end
def Copies (w : World) (n : Nat) (ls : List Ent) (e : Ending) (w' : World) : Prop :=
 ∃ ys : List Lay,e = .returned (.slice (some ⟨w.heap.size,0,none⟩) n n) /\ Spot w' (some ⟨w.heap.size,0,none⟩) n n ys /\ ys.map (·.e) = ls /\ (∀ y ∈ ys,qh w' (fun q => w.heap.size < q) y) /\ Below w.heap.size w w'
theorem qav (Z : Nat -> Prop) (A : Option Addr) (n c : Nat) (ls : List Ent) (w : World) (h : Ents w Z A n c ls) (hm : n <= 1000000) (hd : ∀ e ∈ ls,e.d.length <= 140737488355328) :
 Calls Try.prog 35 #[.slice A n c] w (Copies w n ls) := by
 obtain ⟨i0,hi0,hz0,hz1,hz2⟩ := info_parts qaZ
 have hmk : ∀ w1 : World,(Instr.makeSlice 27 (.int .i64 (n : Int)) (.int .i64 (n : Int))).run Try.prog w1 = .ok (.slice (some ⟨w1.heap.size,0,none⟩) n n) (w1.alloc (.cells (madeCells #[.int .i64 0, .int .i64 0, .slice none 0 0] (n * 3)) 31)) := fun w1 => by
  have := run_make (P := Try.prog) w1 27 31 i0 _ Try.underlying27 hi0 hz0 .i64 .i64 (n : Int) (n : Int) (by omega) (Int.le_refl _) (by rw [hz2]; omega) (by omega)
  rw [hz1] at this
  exact this
 have h0 : qE w (w.alloc (.cells (madeCells #[.int .i64 0, .int .i64 0, .slice none 0 0] (n * 3)) 31)) n 0 [] :=
  ⟨⟨_,heap_alloc_new _ _,size_madeCells _ _,fun j u hu => by simp [rowOf] at hu⟩,rfl,fun y hy => by simp at hy,(Below.refl _ _).alloc (Nat.le_refl _) _⟩
 have hll := h.1
 obtain ⟨xs,hxs,hok,hcell⟩ := h.lays
 have hxl : xs.length = n := by rw [<- hll,<- hxs,List.length_map]
 have hg0 : 0 < n -> ∃ g0 off0,A = some ⟨g0,off0,none⟩ /\ g0 < w.heap.size := fun h0 => by
  obtain ⟨g0,off0,e,hg,_⟩ := h.2.2.2 h0
  exact ⟨g0,off0,e,hg⟩
 have hdx : ∀ x ∈ xs,x.e.d.length <= 140737488355328 := fun x hx => hd _ (by rw [<- hxs]; exact List.mem_map.2 ⟨x,hx,rfl⟩)
 have HXS := Lib.hid hxs
 clear h hi0 hz0 hz1 hz2 hxs hd hll
 go_enter Try.func35,Try.ntmps35
 go_wp2
 go_loopg [4,5,11] n (fun g s4 s5 kk wr => ∃ (k : Nat) (ys : List Lay),k + g = n /\ kk = .int .i64 (k : Int) /\ qE w wr n k ys /\ ys.map (·.e) = (xs.take k).map (·.e))
 case atStart => exact ⟨0,[],by omega,rfl,h0,by simp⟩
 case round =>
  clear h0 hmk
  obtain ⟨k,ys,hk,rfl,hcp,hmap⟩ := hrel
  have HK := Lib.hid hk
  have HMAP := Lib.hid hmap
  by_cases hkn : k < n
  · have hkn' : (k : Int) < (n : Int) := by omega
    obtain ⟨g0,off0,rfl,hgb⟩ := hg0 (by omega)
    obtain ⟨y0,y1,y2⟩ := qc0 (hcell _ rfl) k (by omega)
    have y0 := (hcp.below.cell (p := ⟨g0,off0 + k * 3,none⟩) hgb).trans y0
    have y1 := (hcp.below.cell (p := ⟨g0,off0 + k * 3 + 1,none⟩) hgb).trans y1
    have y2 := (hcp.below.cell (p := ⟨g0,off0 + k * 3 + 2,none⟩) hgb).trans y2
    have hq := hok _ (List.getElem_mem (show k < xs.length by omega))
    have hqd := hdx _ (List.getElem_mem (show k < xs.length by omega))
    have hsn := List.take_succ_eq_append_getElem (show k < xs.length by omega)
    generalize (xs[k]'(by omega)) = q at *
    have hlies := (hq.keep hcp.below.size fun z hz _ => hcp.below.block z hz).2.1
    obtain ⟨⟨qi,qt,qd⟩,qA,qc⟩ := q
    dsimp only at *
    have hA2 := (Below.refl wr.heap.size wr).alloc (Nat.le_refl _) (.cells #[.int .i64 qi, .int .i64 qt, .slice qA qd.length qc] 31)
    have hC := qau qi qt qA qd.length qc qd _ (hlies.below hA2 (Nat.le_refl _)) hqd
    have hcp2 := hcp.step hA2
    have hbs := hcp.below.size
    have HSN := Lib.hid hsn
    clear hcell hok hdx hq hqd hsn hlies hg0 hmap hk
    go_wp2_with fail
    refine hC.mono ?_
    rintro e w3 ⟨E,k',rfl,hok3,_,hb3⟩
    have hcp3 := hcp2.step hb3
    obtain ⟨u0,u1,u2,d0,d1,d2,f0,f1,f2⟩ := hcp3.seen hkn
    have hfin := hcp3.store hkn _ (hok3.mono fun z hz => by rw [World.size_alloc] at hz; omega)
    dsimp only at hfin
    have HF := Lib.hid hfin
    clear hcp hcp2 hcp3 hC hA2 hok3 hb3 hfin
    go_wp2
    go_roundg (gk - 1)
    case measure => have : k + gk = n := HK; omega
    case rel => exact ⟨k + 1,ys ++ [⟨⟨qi,qt,qd⟩,E,k'⟩],by have : k + gk = n := HK; omega,by go_num,HF.out,by
     rw [show xs.take (k + 1) = xs.take k ++ [⟨⟨qi,qt,qd⟩,qA,qc⟩] from HSN,List.map_append,List.map_append,show ys.map (·.e) = (xs.take k).map (·.e) from HMAP]
     rfl⟩
  · obtain rfl : k = n := by omega
    have hdec : decide ((k : Int) < (k : Int)) = false := decide_eq_false (by omega)
    have hm' : k <= maxLen := by unfold maxLen; omega
    have HE := Lib.hid (show ys.map (·.e) = ls by rw [hmap,List.take_of_length_le (by omega)]; exact HXS)
    clear hcell hok hk hm hmap hdx hg0
    go_wp2
    go_ret
    exact ⟨ys,rfl,hcp.spot hm',HE,hcp.lays,hcp.below⟩
end Go.Proofs.Ytmiijlecfiddmaa
set_option linter.unusedVariables false
set_option linter.unusedSimpArgs false
set_option maxRecDepth 100000
set_option maxHeartbeats 200000
namespace Go.Proofs.Ytmiijlecfiddmaa
open Go.RowKit
def qaa (i t : Int) : Bool := numB i && numB t
theorem qbB (i t : Int) (n : Nat) : qv i t n = (qaa i t && decide (n <= 12000)) := rfl
theorem qbo (i t : Int) (w : World) : Calls Try.prog 32 #[.int .i64 i, .int .i64 t] w fun e w' => e = .returned (.bool (qaa i t)) /\ w = w' := by
 unfold qaa numB
 by_cases h1 : 1 <= i
 · rw [decide_eq_true h1,Bool.true_and]
   by_cases h2 : i <= 1099511627776
   · rw [decide_eq_true h2,Bool.true_and]
     by_cases h3 : 1 <= t
     · rw [decide_eq_true h3,Bool.true_and]
       go_enter Try.func32,Try.ntmps32
       go_wp2
       go_ret
       exact ⟨rfl,rfl⟩
     · have e1 : decide (1 <= t) = false := decide_eq_false h3
       have e2 : (1 <= t) = False := eq_false h3
       rw [e1,Bool.false_and]
       clear h3
       go_enter Try.func32,Try.ntmps32
       go_wp2
       go_ret
       exact ⟨rfl,rfl⟩
   · have e1 : decide (i <= 1099511627776) = false := decide_eq_false h2
     have e2 : (i <= 1099511627776) = False := eq_false h2
     rw [e1,Bool.false_and]
     clear h2
     go_enter Try.func32,Try.ntmps32
     go_wp2
     go_ret
     exact ⟨rfl,rfl⟩
 · have e1 : decide (1 <= i) = false := decide_eq_false h1
   have e2 : (1 <= i) = False := eq_false h1
   rw [e1,Bool.false_and,Bool.false_and]
   clear h1
   go_enter Try.func32,Try.ntmps32
   go_wp2
   go_ret
   exact ⟨rfl,rfl⟩
theorem qbp (i t : Int) (A : Option Addr) (n c : Nat) (w : World) : Calls Try.prog 43 #[entV i t A n c] w fun e w' => e = .returned (.bool (qv i t n)) /\ Below w.heap.size w w' := by
 have hi := fun W => qbo i t W
 have hb : Below w.heap.size w (w.alloc (.cells #[.int .i64 i, .int .i64 t, .slice A n c] 31)) := (Below.refl _ _).alloc (Nat.le_refl _) _
 rw [qbB]
 generalize qaa i t = bi at *
 cases bi with
 | false =>
   go_enter Try.func43,Try.ntmps43
   go_wp2_with fail
   refine (hi _).mono ?_
   rintro e w1 ⟨rfl,rfl⟩
   go_wp2
   go_ret
   exact ⟨rfl,hb⟩
 | true =>
   go_enter Try.func43,Try.ntmps43
   go_wp2_with fail
   refine (hi _).mono ?_
   rintro e w1 ⟨rfl,rfl⟩
   go_wp2
   go_ret
   refine ⟨?_,hb⟩
   show Ending.returned (.bool (decide ((n : Int) <= 12000))) = _
   rw [qbI n 12000 12000 rfl]
   rfl
theorem qbN (t v : Int) (w : World) : Calls Try.prog 14 #[.agg #[.int .i64 t, .int .i64 v]] w fun e w' => e = .returned (.bool (qF t v)) /\ Below w.heap.size w w' := by
 have hb : Below w.heap.size w (w.alloc (.cells #[.int .i64 t, .int .i64 v] 23)) := (Below.refl _ _).alloc (Nat.le_refl _) _
 unfold qF
 have hv : decide (v <= 2) = decide (v < 3) := by
  apply Bool.eq_iff_iff.2
  simp
  omega
 rw [hv]
 clear hv
 by_cases h1 : 0 <= t
 · rw [decide_eq_true h1,Bool.true_and]
   by_cases h2 : t <= 1099511627776
   · rw [decide_eq_true h2,Bool.true_and]
     by_cases h3 : -1 <= v
     · rw [decide_eq_true h3,Bool.true_and]
       go_enter Try.func14,Try.ntmps14
       go_wp2
       go_ret
       exact ⟨rfl,hb⟩
     · have e1 : decide (-1 <= v) = false := decide_eq_false h3
       have e2 : (-1 <= v) = False := eq_false h3
       rw [e1,Bool.false_and]
       clear h3
       go_enter Try.func14,Try.ntmps14
       go_wp2
       go_ret
       exact ⟨rfl,hb⟩
   · have e1 : decide (t <= 1099511627776) = false := decide_eq_false h2
     have e2 : (t <= 1099511627776) = False := eq_false h2
     rw [e1,Bool.false_and]
     clear h2
     go_enter Try.func14,Try.ntmps14
     go_wp2
     go_ret
     exact ⟨rfl,hb⟩
 · have e1 : decide (0 <= t) = false := decide_eq_false h1
   have e2 : (0 <= t) = False := eq_false h1
   rw [e1,Bool.false_and]
   clear h1
   go_enter Try.func14,Try.ntmps14
   go_wp2
   go_ret
   exact ⟨rfl,hb⟩
theorem qbO (i t : Int) (A : Option Addr) (n c : Nat) (w : World) : Calls Try.prog 15 #[entV i t A n c] w fun e w' => e = .returned (.bool (qG i t n)) /\ Below w.heap.size w w' := by
 have hi := fun W => qbo i t W
 have hb : Below w.heap.size w (w.alloc (.cells #[.int .i64 i, .int .i64 t, .slice A n c] 26)) := (Below.refl _ _).alloc (Nat.le_refl _) _
 have hs : qG i t n = if i = 0 /\ t = 0 then decide (n = 0) else qaa i t && decide (n <= 50000) := rfl
 rw [hs]
 clear hs
 by_cases h0 : i = 0 /\ t = 0
 · rw [if_pos h0]
   obtain ⟨rfl,rfl⟩ := h0
   clear hi
   go_enter Try.func15,Try.ntmps15
   go_wp2
   go_ret
   refine ⟨?_,hb⟩
   show Ending.returned (.bool ((n : Int) == 0)) = _
   rw [qdN]
 · rw [if_neg h0]
   generalize qaa i t = bi at *
   have hif : (i == 0) = false \/ (i = 0 /\ (t == 0) = false /\ (t = 0) = False) := by
    by_cases h : i = 0
    · refine .inr ⟨h,?_,eq_false fun e => h0 ⟨h,e⟩⟩
      exact beq_eq_false_iff_ne.2 fun e => h0 ⟨h,e⟩
    · exact .inl (beq_eq_false_iff_ne.2 h)
   clear h0
   rcases hif with hif | ⟨rfl,htf,htf2⟩
   all_goals
    cases bi
    · go_enter Try.func15,Try.ntmps15
      go_wp2_with fail
      refine (hi _).mono ?_
      rintro e w1 ⟨rfl,rfl⟩
      go_wp2
      go_ret
      exact ⟨rfl,hb⟩
    · go_enter Try.func15,Try.ntmps15
      go_wp2_with fail
      refine (hi _).mono ?_
      rintro e w1 ⟨rfl,rfl⟩
      go_wp2
      go_ret
      refine ⟨?_,hb⟩
      show Ending.returned (.bool (decide ((n : Int) <= 50000))) = _
      rw [qbI n 50000 50000 rfl]
      rfl
end Go.Proofs.Ytmiijlecfiddmaa
set_option linter.unusedVariables false
set_option linter.unusedSimpArgs false
set_option maxRecDepth 100000
set_option maxHeartbeats 3200000
namespace Go.Proofs.Ytmiijlecfiddmaa
open Go.RowKit
theorem qdz (Z : Nat -> Prop) (A : Option Addr) (len cap : Nat) (ls : List Ent) (i t : Int) (w : World) (h : Ents w Z A len cap ls) (hm : len <= maxLen) :
 Calls Try.prog 34 #[.int .i64 i, .int .i64 t, .slice A len cap] w fun e w' => e = .returned (.bool (runB i t ls)) /\ Below w.heap.size w w' := by
 unfold maxLen at hm
 have hll := h.1
 go_enter Try.func34,Try.ntmps34
 go_wp2
 go_loopg [0,1,8,11] len (fun g ii tt r kk wr => ∃ k : Nat,k + g = len /\ kk = .int .i64 (k : Int) /\ ii = .int .i64 (qJ i ls k) /\ tt = .int .i64 (qM t ls k) /\ (∀ j,j < k -> qK i t ls j = true) /\ Below w.heap.size w wr)
 case atStart => exact ⟨0,by omega,rfl,rfl,rfl,fun j hj => absurd hj (by omega),Below.refl _ _⟩
 case round =>
  obtain ⟨k,hk,rfl,rfl,rfl,hall,hb⟩ := hrel
  by_cases hlt : k < len
  · have hlt' : (k : Int) < (len : Int) := by omega
    have hbelow := h.below hb (Nat.le_refl _)
    obtain ⟨g,off,E,c,rfl,hg,x0,x1,x2,hl⟩ := hbelow.at_ k hlt
    have hst := qaW i t ls k (by omega)
    have hnx := qaE i t ls k (by omega)
    have HNI := Lib.hid hnx.1
    have HNT := Lib.hid hnx.2
    clear hnx
    generalize hpT : qM t ls k = T at *
    generalize hpI : qJ i ls k = I at *
    generalize (ls[k]'(by omega)) = a at *
    obtain ⟨ai,at_,ad⟩ := a
    dsimp only at *
    have hR := fun W => qbp ai at_ E ad.length c W
    have hri := qw ai at_ ad.length
    have hA1 := (Below.refl wr.heap.size wr).alloc (Nat.le_refl _) (.cells #[.int .i64 ai, .int .i64 at_, .slice E ad.length c] 31)
    have hr1 := heap_alloc_new wr (.cells #[.int .i64 ai, .int .i64 at_, .slice E ad.length c] 31)
    have hbA : Below w.heap.size w (wr.alloc (.cells #[.int .i64 ai, .int .i64 at_, .slice E ad.length c] 31)) := hb.trans (hA1.mono hb.size)
    generalize ad.length = n at *
    obtain ⟨⟨y0,y1,y2⟩,_⟩ := row3 hr1
    have HALL := Lib.hid hall
    have HK := Lib.hid hk
    have hsz : wr.heap.size < (wr.alloc (.cells #[.int .i64 ai, .int .i64 at_, .slice E n c] 31)).heap.size := by simp
    cases hb2 : qv ai at_ n with
    | false =>
      rw [hb2] at hR hst
      rw [Bool.false_and] at hst
      have HF := Lib.hid (qW (i := i) (t := t) (l := ls) k (by omega) hst)
      clear hst hpT hpI hri hall hk hbelow h hl hb2
      go_wp2_with fail
      refine (hR _).mono ?_
      rintro e w1 ⟨rfl,hb1⟩
      have hbw : Below w.heap.size w w1 := hbA.trans (hb1.mono hbA.size)
      go_wp2
      go_ret
      exact ⟨by have e : runB i t ls = false := HF; rw [e]; rfl,hbw⟩
    | true =>
      rw [hb2,Bool.true_and] at hst
      rw [hb2] at hR
      have hrr := hri.1 hb2
      clear hpT hpI hri hall hk hbelow h hl hb2 hb
      go_wp2_with fail
      refine (hR _).mono ?_
      rintro e w1 ⟨rfl,hb1⟩
      have hbw : Below w.heap.size w w1 := hbA.trans (hb1.mono hbA.size)
      obtain ⟨⟨z0,z1,z2⟩,_⟩ := row3 ((hb1.block _ hsz).trans hr1)
      obtain ⟨J,hJ⟩ : ∃ J,ai - 1 = J := ⟨_,rfl⟩
      have q4 : wrap64 (ai - 1) = J := by rw [<- hJ,<- IntWalk.i64_left]; exact IntWalk.i64_in _ (by omega)
      clear hR x0 x1 x2 y0 y1 y2 hr1 hA1 hb1 hbA hsz
      by_cases hI : ai = I + 1
      · have hJI : J = I := by omega
        subst hJI
        rw [decide_eq_true hI,Bool.and_true] at hst
        clear hI hJ
        by_cases hT : T <= at_
        · have q1 : (at_ < T) = False := eq_false (by omega)
          have HST := Lib.hid (hst.trans (decide_eq_true hT))
          clear hst hT hrr
          go_wp2
          go_big_quiet (fail)
          go_wp2
          go_roundg (gk - 1)
          case measure => have : k + gk = len := HK; omega
          case rel => exact ⟨k + 1,by have : k + gk = len := HK; omega,by go_num,by have e : qJ i ls (k + 1) = ai := HNI; rw [e],by have e : qM t ls (k + 1) = at_ := HNT; rw [e],fun j hj => by
           rcases Nat.lt_or_ge j k with h1 | h1
           · exact (HALL : ∀ j,j < k -> qK i t ls j = true) j h1
           · have e : j = k := by omega
             rw [e]; exact HST,below_drewN hbw _⟩
        · have q1 : at_ < T := by omega
          have HF := Lib.hid (qW (i := i) (t := t) (l := ls) k (by omega) (by rw [hst,decide_eq_false hT]))
          clear hst hT hrr
          go_wp2
          go_ret
          exact ⟨by have e : runB i t ls = false := HF; rw [e]; rfl,hbw⟩
      · have hJI : ¬ J = I := by omega
        have q5 : (J != I) = true := by simp [hJI]
        have q6 : (J = I) = False := eq_false hJI
        have HF := Lib.hid (qW (i := i) (t := t) (l := ls) k (by omega) (by rw [hst,decide_eq_false hI,Bool.and_false]))
        clear hst hrr hI hJ hJI
        go_wp2
        go_ret
        exact ⟨by have e : runB i t ls = false := HF; rw [e]; rfl,hbw⟩
  · obtain rfl : k = len := by omega
    have hdec : decide ((k : Int) < (k : Int)) = false := decide_eq_false (by omega)
    have HT := Lib.hid (qbF (i := i) (t := t) (l := ls) (fun j hj => hall j (by omega)))
    clear h hall hk hm
    go_wp2
    go_ret
    exact ⟨by have e : runB i t ls = true := HT; rw [e]; rfl,hb⟩
end Go.Proofs.Ytmiijlecfiddmaa
