/- The program's copies, by its contract. -/
import Derived.Test.YtmiijlecfiddmaaGreatNNM08
import Derived.Test.YtmiijlecfiddmaaGreatNNM03
import Derived.Test.YtmiijlecfiddmaaGreatNNM07
import Derived.Test.YtmiijlecfiddmaaGreatNNM05
set_option linter.unusedVariables false
set_option linter.unusedSimpArgs false
set_option maxRecDepth 100000
set_option maxHeartbeats 3200000
namespace Go.Proofs.YtmiijlecfiddmaaGreat
open Go.RowKit
structure qv (w W : World) (n k : Nat) (ys : List Lay) : Prop where
 row : ∃ cur : Array Value,W.heap[w.heap.size]? = some (.cells cur 78 (0,0)) /\ cur.size = n * 3 /\ ∀ (j : Nat) (u : Value),(rowOf ys)[j]? = some u -> cur[j]? = some u
 len : ys.length = k
 lays : ∀ y ∈ ys,qj W (fun q => w.heap.size < q) y
 below : Below w.heap.size w W
section
variable {w W W2 : World} {n k : Nat} {ys : List Lay}
theorem qv.step (h : qv w W n k ys) (hb : Below W.heap.size W W2) : qv w W2 n k ys := by
 obtain ⟨cur,h1,h2⟩ := h.row
 exact ⟨⟨cur,(hb.block _ (hlt h1)).trans h1,h2⟩,h.len,fun y hy => (h.lays y hy).keep hb.size fun q hq _ => hb.block q hq,h.below.trans (hb.mono h.below.size)⟩
theorem qv.seen (h : qv w W n k ys) (hk : k < n) : ∃ u0 u1 u2,W.cell? ⟨w.heap.size,k * 3,none⟩ = some u0 /\ W.cell? ⟨w.heap.size,k * 3 + 1,none⟩ = some u1 /\ W.cell? ⟨w.heap.size,k * 3 + 2,none⟩ = some u2 ∧
 W.frozen? ⟨w.heap.size,k * 3,none⟩ = false /\ W.frozen? ⟨w.heap.size,k * 3 + 1,none⟩ = false /\ W.frozen? ⟨w.heap.size,k * 3 + 2,none⟩ = false := by
 obtain ⟨cur,h1,h2,_⟩ := h.row
 have hc : ∀ o,W.cell? ⟨w.heap.size,o,none⟩ = cur[o]? := fun o => cell_of_row W _ o cur _ _ h1
 have hf : ∀ o,W.frozen? ⟨w.heap.size,o,none⟩ = false := fun o => frozen_of_row W _ o cur _ h1
 exact ⟨cur[k * 3]'(by omega),cur[k * 3 + 1]'(by omega),cur[k * 3 + 2]'(by omega),by rw [hc,Array.getElem?_eq_getElem],by rw [hc,Array.getElem?_eq_getElem],by rw [hc,Array.getElem?_eq_getElem],hf _,hf _,hf _⟩
theorem qv.store (h : qv w W n k ys) (hk : k < n) (x : Lay) (hx : qj W (fun q => w.heap.size < q) x) :
 qv w (((W.setCell ⟨w.heap.size,k * 3,none⟩ (.int .i64 x.e.i)).setCell ⟨w.heap.size,k * 3 + 1,none⟩ (.int .i64 x.e.t)).setCell ⟨w.heap.size,k * 3 + 2,none⟩ (.slice x.A x.e.d.length x.c)) n (k + 1) (ys ++ [x]) := by
 obtain ⟨cur,h1,h2,h3⟩ := h.row
 have e1 := setCell_at W ⟨w.heap.size,k * 3,none⟩ (.int .i64 x.e.i) cur _ _ rfl h1
 have e2 := setCell_at _ ⟨w.heap.size,k * 3 + 1,none⟩ (.int .i64 x.e.t) _ _ _ rfl e1
 have e3 := setCell_at _ ⟨w.heap.size,k * 3 + 2,none⟩ (.slice x.A x.e.d.length x.c) _ _ _ rfl e2
 have hoff : ∀ q,q ≠ w.heap.size -> (((W.setCell ⟨w.heap.size,k * 3,none⟩ (.int .i64 x.e.i)).setCell ⟨w.heap.size,k * 3 + 1,none⟩ (.int .i64 x.e.t)).setCell ⟨w.heap.size,k * 3 + 2,none⟩ (.slice x.A x.e.d.length x.c)).heap[q]? = W.heap[q]? := fun q hq =>
  (Below.heap_setCell _ _ _ _ (by exact hq)).trans ((Below.heap_setCell _ _ _ _ (by exact hq)).trans (Below.heap_setCell _ _ _ _ (by exact hq)))
 have hkeep : ∀ y,qj W (fun q => w.heap.size < q) y -> qj (((W.setCell ⟨w.heap.size,k * 3,none⟩ (.int .i64 x.e.i)).setCell ⟨w.heap.size,k * 3 + 1,none⟩ (.int .i64 x.e.t)).setCell ⟨w.heap.size,k * 3 + 2,none⟩ (.slice x.A x.e.d.length x.c)) (fun q => w.heap.size < q) y := fun y hy => hy.keep (by simp) fun q _ hq => hoff q (by omega)
 refine ⟨⟨_,e3,by simpa using h2,fun j u hu => ?_⟩,by rw [List.length_append,h.len]; rfl,fun y hy => ?_,((h.below.setCell (Nat.le_refl _) _).setCell (Nat.le_refl _) _).setCell (Nat.le_refl _) _⟩
 · have hl : (rowOf ys).length = k * 3 := by rw [qk,h.len]
   rw [qx] at hu
   rcases Nat.lt_or_ge j (k * 3) with hj | hj
   · rw [List.getElem?_append_left (by omega)] at hu
     rw [Array.getElem?_setIfInBounds_ne (by show k * 3 + 2 ≠ j; omega),Array.getElem?_setIfInBounds_ne (by show k * 3 + 1 ≠ j; omega),Array.getElem?_setIfInBounds_ne (by show k * 3 ≠ j; omega)]
     exact h3 j u hu
   · rw [List.getElem?_append_right (by omega),hl] at hu
     have e : rowOf [x] = [.int .i64 x.e.i, .int .i64 x.e.t, .slice x.A x.e.d.length x.c] := by simp [rowOf,cells3]
     rw [e] at hu
     have hj3 : j - k * 3 < 3 := by
      have := (List.getElem?_eq_some_iff.1 hu).1
      simpa using this
     have hc : j = k * 3 \/ j = k * 3 + 1 \/ j = k * 3 + 2 := by omega
     rcases hc with rfl | rfl | rfl
     · rw [show k * 3 - k * 3 = 0 by omega] at hu
       rw [Array.getElem?_setIfInBounds_ne (by show k * 3 + 2 ≠ k * 3; omega),Array.getElem?_setIfInBounds_ne (by show k * 3 + 1 ≠ k * 3; omega),Array.getElem?_setIfInBounds_self]
       rw [if_pos (by show k * 3 < cur.size; omega)]
       exact hu
     · rw [show k * 3 + 1 - k * 3 = 1 by omega] at hu
       rw [Array.getElem?_setIfInBounds_ne (by show k * 3 + 2 ≠ k * 3 + 1; omega),Array.getElem?_setIfInBounds_self]
       rw [if_pos (by simp; omega)]
       exact hu
     · rw [show k * 3 + 2 - k * 3 = 2 by omega] at hu
       rw [Array.getElem?_setIfInBounds_self]
       rw [if_pos (by simp; omega)]
       exact hu
 · rcases List.mem_append.1 hy with hy | hy
   · exact hkeep y (h.lays y hy)
   · rw [List.mem_singleton.1 hy]
     exact hkeep x hx
theorem qv.spot (h : qv w W n n ys) (hn : n <= maxLen) : Spot W (some ⟨w.heap.size,0,none⟩) n n ys := by
 obtain ⟨cur,h1,h2,h3⟩ := h.row
 exact ⟨h.len,Nat.le_refl _,hn,(fun e => by cases e),fun a e => by
  injection e with e
  subst e
  exact ⟨_,0,cur,rfl,h1,by omega,fun j u hu => by rw [Nat.zero_add]; exact h3 j u hu⟩⟩
end
def Copies (w : World) (n : Nat) (ls : List Ent) (e : Ending) (w' : World) : Prop :=
 ∃ ys : List Lay,e = .returned (.slice (some ⟨w.heap.size,0,none⟩) n n) /\ Spot w' (some ⟨w.heap.size,0,none⟩) n n ys /\ ys.map (·.e) = ls /\ (∀ y ∈ ys,qj w' (fun q => w.heap.size < q) y) /\ Below w.heap.size w w'
theorem qaO (Z : Nat -> Prop) (A : Option Addr) (n c : Nat) (ls : List Ent) (w : World) (h : Ents w Z A n c ls) (hm : n <= 1000000) (hd : ∀ e ∈ ls,e.d.length <= 140737488355328) :
 Calls Tryz.prog 68 #[.slice A n c] w (Copies w n ls) := by
 obtain ⟨i0,hi0,hz0,hz1,hz2⟩ := info_parts qaD
 have hmk : ∀ w1 : World,(Instr.makeSlice 22 (.int .i64 (n : Int)) (.int .i64 (n : Int))).run Tryz.prog w1 = .ok (.slice (some ⟨w1.heap.size,0,none⟩) n n) (w1.alloc (.cells (madeCells #[.int .i64 0, .int .i64 0, .slice none 0 0] (n * 3)) 78)) := fun w1 => by
  have := run_make (P := Tryz.prog) w1 22 78 i0 _ Tryz.underlying22 hi0 hz0 .i64 .i64 (n : Int) (n : Int) (by omega) (Int.le_refl _) (by rw [hz2]; omega) (by omega)
  rw [hz1] at this
  exact this
 have h0 : qv w (w.alloc (.cells (madeCells #[.int .i64 0, .int .i64 0, .slice none 0 0] (n * 3)) 78)) n 0 [] :=
  ⟨⟨_,heap_alloc_new _ _,size_madeCells _ _,fun j u hu => by simp [rowOf] at hu⟩,rfl,fun y hy => by simp at hy,(Below.refl _ _).alloc (Nat.le_refl _) _⟩
 have hll := h.1
 obtain ⟨xs,hxs,hok,hcell⟩ := h.lays
 have hxl : xs.length = n := by rw [<- hll,<- hxs,List.length_map]
 have hg0 : 0 < n -> ∃ g0 off0,A = some ⟨g0,off0,none⟩ /\ g0 < w.heap.size := fun h0 => by
  obtain ⟨g0,off0,e,hg,_⟩ := h.2.2.2 h0
  exact ⟨g0,off0,e,hg⟩
 have hdx : ∀ x ∈ xs,x.e.d.length <= 140737488355328 := fun x hx => hd _ (by rw [<- hxs]; exact List.mem_map.2 ⟨x,hx,rfl⟩)
 have HXS := Lib.hid hxs
 clear h hi0 hz0 hz1 hz2 hxs hd hll
 go_enter Tryz.func68,Tryz.ntmps68
 go_wp2
 go_loopg [4,5,11] n (fun g s4 s5 kk wr => ∃ (k : Nat) (ys : List Lay),k + g = n /\ kk = .int .i64 (k : Int) /\ qv w wr n k ys /\ ys.map (·.e) = (xs.take k).map (·.e))
 case atStart => exact ⟨0,[],by omega,rfl,h0,by simp⟩
 case round =>
  clear h0 hmk
  obtain ⟨k,ys,hk,rfl,hcp,hmap⟩ := hrel
  have HK := Lib.hid hk
  have HMAP := Lib.hid hmap
  by_cases hkn : k < n
  · have hkn' : (k : Int) < (n : Int) := by omega
    obtain ⟨g0,off0,rfl,hgb⟩ := hg0 (by omega)
    obtain ⟨y0,y1,y2⟩ := qch (hcell _ rfl) k (by omega)
    have y0 := (hcp.below.cell (p := ⟨g0,off0 + k * 3,none⟩) hgb).trans y0
    have y1 := (hcp.below.cell (p := ⟨g0,off0 + k * 3 + 1,none⟩) hgb).trans y1
    have y2 := (hcp.below.cell (p := ⟨g0,off0 + k * 3 + 2,none⟩) hgb).trans y2
    have hq := hok _ (List.getElem_mem (show k < xs.length by omega))
    have hqd := hdx _ (List.getElem_mem (show k < xs.length by omega))
    have hsn := List.take_succ_eq_append_getElem (show k < xs.length by omega)
    generalize (xs[k]'(by omega)) = q at *
    have hlies := (hq.keep hcp.below.size fun z hz _ => hcp.below.block z hz).2.1
    obtain ⟨⟨qi,qt,qd⟩,qA,qc⟩ := q
    dsimp only at *
    have hA2 := (Below.refl wr.heap.size wr).alloc (Nat.le_refl _) (.cells #[.int .i64 qi, .int .i64 qt, .slice qA qd.length qc] 78)
    have hC := qae qi qt qA qd.length qc qd _ (hlies.below hA2 (Nat.le_refl _)) hqd
    have hcp2 := hcp.step hA2
    have hbs := hcp.below.size
    have HSN := Lib.hid hsn
    clear hcell hok hdx hq hqd hsn hlies hg0 hmap hk
    go_wp2_with fail
    refine hC.mono ?_
    rintro e w3 ⟨E,k',rfl,hok3,_,hb3⟩
    have hcp3 := hcp2.step hb3
    obtain ⟨u0,u1,u2,d0,d1,d2,f0,f1,f2⟩ := hcp3.seen hkn
    have hfin := hcp3.store hkn _ (hok3.mono fun z hz => by rw [World.size_alloc] at hz; omega)
    dsimp only at hfin
    have HF := Lib.hid hfin
    clear hcp hcp2 hcp3 hC hA2 hok3 hb3 hfin
    go_wp2
    go_roundg (gk - 1)
    case measure => have : k + gk = n := HK; omega
    case rel => exact ⟨k + 1,ys ++ [⟨⟨qi,qt,qd⟩,E,k'⟩],by have : k + gk = n := HK; omega,by go_num,HF.out,by
     rw [show xs.take (k + 1) = xs.take k ++ [⟨⟨qi,qt,qd⟩,qA,qc⟩] from HSN,List.map_append,List.map_append,show ys.map (·.e) = (xs.take k).map (·.e) from HMAP]
     rfl⟩
  · obtain rfl : k = n := by omega
    have hdec : decide ((k : Int) < (k : Int)) = false := decide_eq_false (by omega)
    have hm' : k <= maxLen := by unfold maxLen; omega
    have HE := Lib.hid (show ys.map (·.e) = ls by rw [hmap,List.take_of_length_le (by omega)]; exact HXS)
    clear hcell hok hk hm hmap hdx hg0
    go_wp2
    go_ret
    exact ⟨ys,rfl,hcp.spot hm',HE,hcp.lays,hcp.below⟩
end Go.Proofs.YtmiijlecfiddmaaGreat
set_option linter.unusedVariables false
set_option linter.unusedSimpArgs false
set_option maxRecDepth 100000
set_option maxHeartbeats 1600000
namespace Go.Proofs.YtmiijlecfiddmaaGreat
open Go.RowKit
theorem qa1 {i t : Int} {ls : List Ent} (h : runB i t ls = true) : ∀ e ∈ ls,e.d.length <= 140737488355328 := fun e he => by
 have := (qs _ _ _).1 (qT h e he)
 omega
theorem qcW (i t : Int) (Z : Nat -> Prop) (A : Option Addr) (n c : Nat) (ls : List Ent) (w : World) (h : Ents w Z A n c ls) (hm : n <= 1000000) (h1 : RL.base i t = true) (h2 : runB i t ls = true) :
 Calls Tryz.prog 55 #[.int .i64 i, .int .i64 t, .slice A n c] w fun e w' => ∃ p,e = .returned (.tuple #[ptrV p, .int .i64 0]) /\ Lg w' p ⟨i,t,ls,0⟩ n (fun q => q < w.heap.size) /\ Below w.heap.size w w' := by
 have hB := fun W => qba i t W
 have hR := qcS Z A n c ls i t w h (by unfold maxLen; omega)
 rw [h1] at hB
 rw [h2] at hR
 have hC := fun W (hW : Below w.heap.size w W) => qaO Z A n c ls W (h.below hW (Nat.le_refl _)) hm (qa1 h2)
 obtain rfl := h.1
 clear h h1 h2
 go_enter Tryz.func55,Tryz.ntmps55
 go_wp2_with fail
 refine (hB _).mono ?_
 rintro e w1 ⟨rfl,rfl⟩
 go_wp2_with fail
 refine hR.mono ?_
 rintro e w2 ⟨rfl,hb2⟩
 have hC := hC w2 hb2
 clear hR hB
 go_wp2_with fail
 refine hC.mono ?_
 rintro e w3 ⟨ys,rfl,hsp,hmap,hok,hb3⟩
 have hbw3 := hb2.trans (hb3.mono hb2.size)
 have hA4 := (Below.refl w3.heap.size w3).alloc (Nat.le_refl _) (.cells #[.int .i64 i, .int .i64 t, .slice (some ⟨w2.heap.size,0,none⟩) ls.length ls.length, .int .i64 (ls.length : Int)] 123)
 have hs2 := hb2.size
 have hL : Lg (w3.alloc (.cells #[.int .i64 i, .int .i64 t, .slice (some ⟨w2.heap.size,0,none⟩) ls.length ls.length, .int .i64 (ls.length : Int)] 123)) w3.heap.size ⟨i,t,ls,0⟩ ls.length (fun q => q < w.heap.size) := by
  have hs3 := hbw3.size
  refine ⟨some ⟨w2.heap.size,0,none⟩,ls.length,ys,heap_alloc_new _ _,hsp.keep fun q hq => hA4.block q (hsp.lt hq),hmap,by omega,fun q hq => ?_,fun x hx => ?_⟩
  · have := hsp.lt hq
    rw [qu] at hq
    omega
  · refine ((hok x hx).old.keep hA4.size fun q hq _ => hA4.block q hq).mono fun q hq => ⟨by omega,?_,by omega⟩
    rw [qu]
    omega
 have HL := Lib.hid hL
 have hbf := hbw3.alloc hbw3.size (.cells #[.int .i64 i, .int .i64 t, .slice (some ⟨w2.heap.size,0,none⟩) ls.length ls.length, .int .i64 (ls.length : Int)] 123)
 clear hC hsp hmap hok hb3 hbw3 hA4 hL hb2 hs2
 go_wp2
 go_ret2
 exact ⟨w3.heap.size,rfl,HL.out,hbf⟩
theorem qar {w : World} {p : Nat} {r : RL} {s : Nat} {Z : Nat -> Prop} {A : Option Addr} {c : Nat} {xs : List Lay} (h : LgAt w p r s Z A c xs) (hm : r.l.length <= 1000000) (hg : Good r) (x many : Int) :
 Calls Tryz.prog 47 #[ptrV p, .int .i64 x, .int .i64 many] w fun e w' => ∃ A' c',e = .returned (.slice A' (r.fromL x many).length c') /\ Ents w' (fun q => w.heap.size <= q) A' (r.fromL x many).length c' (r.fromL x many) /\ c' = (r.fromL x many).length /\ Below w.heap.size w w' := by
 have hnil : ∀ w',Ents w' (fun q => w.heap.size <= q) none 0 0 [] := fun w' => ⟨rfl,Nat.le_refl _,fun _ => rfl,fun h => absurd h (by simp)⟩
 rw [hg.from_]
 by_cases hma : many <= 0
 · rw [show many.toNat = 0 by omega,sub_zero]
   clear h hg
   go_enter Tryz.func47,Tryz.ntmps47
   go_wp2
   go_ret
   exact ⟨none,0,rfl,hnil _,rfl,Below.refl _ _⟩
 · have q1 : (many <= 0) = False := eq_false hma
   have q1d : decide (many <= 0) = false := decide_eq_false hma
   have hP := qaN h.rd hm hg x
   have hpk : ∀ k,r.place x = some k -> k < r.l.length := fun k e => by
    unfold RL.place at e
    split at e
    · injection e with e
      omega
    · cases e
   cases hp : r.place x with
   | none =>
     rw [hp] at hP
     rw [qcT hp]
     clear h hg hpk hp hma
     go_enter Tryz.func47,Tryz.ntmps47
     go_wp2_with fail
     refine hP.mono ?_
     rintro e w1 ⟨rfl,hb1⟩
     go_wp2
     go_ret
     exact ⟨none,0,rfl,hnil _,rfl,hb1⟩
   | some k =>
     rw [hp] at hP
     have hk := hpk k hp
     rw [qcU hp]
     clear hnil hpk hp
     have h1 := fun w1 (hb : Below w.heap.size w w1) => h.keep hb.size fun q hq _ => hb.block q hq
     have hs1 := fun W => qbY (A := A) (n := r.l.length) (cap := c) (k := k) (by omega) h.spot.2.1 W
     have hnc := h.spot.2.1
     obtain ⟨mm,hmm⟩ : ∃ mm,mm = min many.toNat (r.l.length - k) := ⟨_,rfl⟩
     have hs2 := fun W => qbL (A := qy A c k) (n := r.l.length - k) (cap := c - k) (k := mm) (by omega) W
     have hC := fun w1 (hb : Below w.heap.size w w1) => qaO (fun _ => True) (qy A c k) mm (c - k) (((xs.drop k).take mm).map (·.e)) w1 ((((h1 w1 hb).spot.drop (k := k) (by omega)).take (k := mm) (by omega)).ents (fun _ _ => trivial) (fun y hy => ((h1 w1 hb).lays y (List.mem_of_mem_drop (List.mem_of_mem_take hy))).mono fun _ _ => trivial)) (by omega) (fun e he => by
      obtain ⟨y,hy,rfl⟩ := List.mem_map.1 he
      refine qa1 hg.run y.e ?_
      rw [<- h.map]
      exact List.mem_map.2 ⟨y,List.mem_of_mem_drop (List.mem_of_mem_take hy),rfl⟩)
     have e1 : ((xs.drop k).take mm).map (·.e) = (r.l.drop k).take many.toNat := by
      rw [List.map_take,List.map_drop,h.map,hmm]
      by_cases hc : many.toNat <= r.l.length - k
      · rw [Nat.min_eq_left hc]
      · rw [Nat.min_eq_right (by omega),List.take_of_length_le (by rw [List.length_drop]; omega),List.take_of_length_le (by rw [List.length_drop]; omega)]
     have e2 : ((r.l.drop k).take many.toNat).length = mm := by rw [List.length_take,List.length_drop,hmm]
     have hrow := fun w1 (hb : Below w.heap.size w w1) => (row4 (h1 w1 hb).row).1
     rw [e1] at hC
     rw [e2]
     have hmi : ((r.l.length - k : Nat) : Int) < many /\ mm = r.l.length - k \/ many = (mm : Int) /\ mm <= r.l.length - k := by omega
     have HM := Lib.hid hma
     clear h hg e1 e2 hmm h1 hma hm q1 q1d
     generalize (r.l.drop k).take many.toNat = out at *
     generalize r.l.length = n at *
     obtain ⟨d,hd⟩ : ∃ d,n - k = d := ⟨_,rfl⟩
     rw [hd] at hs1 hs2 hmi
     have hk2 : (k : Int) < (n : Int) := by omega
     have hdc : d <= c - k := by omega
     clear hd
     rcases hmi with ⟨m1,m2⟩ | ⟨m1,m2⟩
     · subst m2
       have q1 : (many <= 0) = False := eq_false HM.out
       have q1d : decide (many <= 0) = false := decide_eq_false HM.out
       have q2 : (many < (mm : Int)) = False := eq_false (by omega)
       have q3 : (many <= (mm : Int)) = False := eq_false (by omega)
       clear HM
       go_enter Tryz.func47,Tryz.ntmps47
       go_wp2_with fail
       refine hP.mono ?_
       rintro e w1 ⟨rfl,hb1⟩
       obtain ⟨c0,c1,c2,c3⟩ := hrow w1 hb1
       have hC := hC w1 hb1
       have hcs : (mm : Int) <= ((c - k : Nat) : Int) := by omega
       have hcs2 : mm <= c - k := by omega
       have hbz := hb1.size
       clear hP hrow
       go_wp2_with fail
       refine hC.mono ?_
       rintro e w2 ⟨ys,rfl,hsp,hmap,hok,hb2⟩
       have hE := hsp.ents (Z := fun q => w.heap.size <= q) (fun q hq => by rw [qu] at hq; omega) (fun y hy => (hok y hy).mono fun q hq => by omega)
       rw [hmap] at hE
       have HE := Lib.hid hE
       clear hC hsp hmap hok hE
       go_wp2
       go_ret
       exact ⟨_,_,rfl,HE.out,rfl,hb1.trans (hb2.mono hb1.size)⟩
     · subst m1
       have q1 : ((mm : Int) <= 0) = False := eq_false HM.out
       have q1d : decide ((mm : Int) <= 0) = false := decide_eq_false HM.out
       have q2 : (mm : Int) <= (d : Int) := by omega
       have q3 : (mm = 0) = False := eq_false (by have := HM.out; omega)
       have q4 : decide (mm = 0) = false := decide_eq_false (by have := HM.out; omega)
       clear HM
       go_enter Tryz.func47,Tryz.ntmps47
       go_wp2_with fail
       refine hP.mono ?_
       rintro e w1 ⟨rfl,hb1⟩
       obtain ⟨c0,c1,c2,c3⟩ := hrow w1 hb1
       have hC := hC w1 hb1
       have hcs : (mm : Int) <= ((c - k : Nat) : Int) := by omega
       have hcs2 : mm <= c - k := by omega
       have hbz := hb1.size
       clear hP hrow
       go_wp2_with fail
       refine hC.mono ?_
       rintro e w2 ⟨ys,rfl,hsp,hmap,hok,hb2⟩
       have hE := hsp.ents (Z := fun q => w.heap.size <= q) (fun q hq => by rw [qu] at hq; omega) (fun y hy => (hok y hy).mono fun q hq => by omega)
       rw [hmap] at hE
       have HE := Lib.hid hE
       clear hC hsp hmap hok hE
       go_wp2
       go_ret
       exact ⟨_,_,rfl,HE.out,rfl,hb1.trans (hb2.mono hb1.size)⟩
end Go.Proofs.YtmiijlecfiddmaaGreat
set_option linter.unusedVariables false
set_option linter.unusedSimpArgs false
set_option maxRecDepth 100000
set_option maxHeartbeats 200000
namespace Go.Proofs.YtmiijlecfiddmaaGreat
open Go.RowKit
theorem LgAt.turn {w w' : World} {p : Nat} {r : RL} {s s' : Nat} {Z : Nat -> Prop} {A : Option Addr} {c : Nat} {xs : List Lay} (h : LgAt w p r s Z A c xs) (hs : w.heap.size <= w'.heap.size) (hrow : w'.heap[p]? = some (.cells (plC r A r.l.length c s') 123)) (hk : ∀ q,q < w.heap.size -> q ≠ p -> w'.heap[q]? = w.heap[q]?) : LgAt w' p r s' Z A c xs :=
 ⟨hrow,h.spot.keep fun q hq => hk q (h.spot.lt hq) (h.own q hq).1,h.map,h.away,h.own,fun x hx => (h.lays x hx).keep hs fun q hq hz => hk q hq hz.1⟩
end Go.Proofs.YtmiijlecfiddmaaGreat
set_option linter.unusedVariables false
set_option linter.unusedSimpArgs false
set_option maxRecDepth 100000
set_option maxHeartbeats 200000
namespace Go.Proofs.YtmiijlecfiddmaaGreat
open Go.RowKit
end Go.Proofs.YtmiijlecfiddmaaGreat
set_option linter.unusedVariables false
set_option linter.unusedSimpArgs false
set_option maxRecDepth 100000
set_option maxHeartbeats 200000
namespace Go.Proofs.YtmiijlecfiddmaaGreat
open Go.RowKit
end Go.Proofs.YtmiijlecfiddmaaGreat
set_option linter.unusedVariables false
set_option linter.unusedSimpArgs false
set_option maxRecDepth 100000
set_option maxHeartbeats 200000
namespace Go.Proofs.YtmiijlecfiddmaaGreat
open Go.RowKit
section
variable {P : Program} {fn : Func} {p q u : Tmp} {T T2 : TypeId} {W : World} {n m : Nat} {cs cs2 : Array Value} {fr fr2 : Nat × Nat} {d d2 : TypeDesc} {tmps : Array Value}
end
abbrev zE : Array Value := #[.int .i64 0, .int .i64 0, .slice none 0 0]
theorem qci (X : World) (b : Nat) (a0 a1 a2 : Value) (q : Nat) (h : q ≠ b) : (((X.setCell ⟨b,0,none⟩ a0).setCell ⟨b,1,none⟩ a1).setCell ⟨b,2,none⟩ a2).heap[q]? = X.heap[q]? :=
 (Below.heap_setCell _ _ _ _ (by exact h)).trans ((Below.heap_setCell _ _ _ _ (by exact h)).trans (Below.heap_setCell _ _ _ _ (by exact h)))
end Go.Proofs.YtmiijlecfiddmaaGreat
