/- The program's replace, by its contract. -/
import Derived.Test.YtmiijlecfiddmaaGreatNNM01
import Derived.Test.YtmiijlecfiddmaaGreatNNM06
set_option linter.unusedVariables false
set_option linter.unusedSimpArgs false
set_option maxRecDepth 100000
set_option maxHeartbeats 6400000
namespace Go.Proofs.YtmiijlecfiddmaaGreat
open Go.RowKit
theorem LgAt.swapped {w w2 w3 w4 : World} {p : Nat} {r : RL} {s0 keep m : Nat} {g : Int} {Z : Nat -> Prop} {A A' : Option Addr} {c c' : Nat} {xs ys : List Lay} {ms : List Ent} (h : LgAt w p r s0 Z A c xs) (hZ : ∀ q,Z q -> q < w.heap.size) (hkl : keep <= r.l.length)
 (hg2 : Grew w w2 A) (hb3 : Below w2.heap.size w2 w3) (hys : ∀ y ∈ ys,qs w3 (fun q => w2.heap.size <= q) y) (hmap : ys.map (·.e) = ms) (hml : ms.length = m) (hsp : Spot w4 A' (keep + m) c' (xs.take keep ++ ys)) (hA : ∀ q,blk A' q -> blk A q \/ w3.heap.size <= q) (hg : Grew w3 w4 A) :
 Lg (w4.setCell ⟨p,2,none⟩ (.slice A' (keep + m) c')) p ⟨r.i,r.t,r.l.take keep ++ ms,g⟩ s0 Z /\ qf Z w (w4.setCell ⟨p,2,none⟩ (.slice A' (keep + m) c')) := by
 have hnA : ¬ blk A p := fun e => (h.own p e).1 rfl
 have hs2 := hg2.size;have hs3 := hb3.size;have hp := hlt h.row;have hrow4 : w4.heap[p]? = some (.cells (plC r A r.l.length c s0) 123) := (hg.block p (by omega) hnA).trans ((hb3.block p (by omega)).trans ((hg2.block p hp hnA).trans h.row))
 have hll : (r.l.take keep ++ ms).length = keep + m := by rw [List.length_append,List.length_take]; omega
 have hrow : (w4.setCell ⟨p,2,none⟩ (.slice A' (keep + m) c')).heap[p]? = some (.cells #[.int .i64 r.i, .int .i64 r.t, .slice A' (keep + m) c', .int .i64 (s0 : Int)] 123) := by
  have := setCell_at w4 ⟨p,2,none⟩ (.slice A' (keep + m) c') _ _ _ rfl hrow4
  simpa using this
 have hoff : ∀ q,q ≠ p -> (w4.setCell ⟨p,2,none⟩ (.slice A' (keep + m) c')).heap[q]? = w4.heap[q]? := fun q hq => Below.heap_setCell _ _ _ _ (by exact hq)
 have hA'p : ∀ q,blk A' q -> q ≠ p /\ ¬ Z q := fun q hq => by
  rcases hA q hq with h1 | h1
  · exact h.own q h1
  · exact ⟨by omega,fun e => by have := hZ q e; omega⟩
 have hkeep : ∀ y : Lay,qs w3 (fun q => q ≠ p /\ ¬ blk A q /\ ¬ Z q /\ q < w3.heap.size) y -> qs (w4.setCell ⟨p,2,none⟩ (.slice A' (keep + m) c')) (fun q => q ≠ p /\ ¬ blk A' q /\ ¬ Z q) y := fun y hy => by
  refine (hy.keep (by rw [World.size_setCell]; exact hg.size) fun q hq hz => (hoff q hz.1).trans (hg.block q hq hz.2.1)).mono fun q hq => ⟨hq.1,fun e => ?_,hq.2.2.1⟩
  rcases hA q e with h1 | h1
  · exact hq.2.1 h1
  · omega
 constructor
 · refine ⟨A',c',xs.take keep ++ ys,?_,?_,?_,h.away,hA'p,fun y hy => ?_⟩
   · show _ = some (Obj.cells #[.int .i64 r.i, .int .i64 r.t, .slice A' (r.l.take keep ++ ms).length c', .int .i64 (s0 : Int)] 123);rw [hll];exact hrow
   · show Spot _ A' (r.l.take keep ++ ms).length c' _;rw [hll]
     exact hsp.keep fun q hq => hoff q (hA'p q hq).1
   · show _ = r.l.take keep ++ ms;rw [List.map_append,List.map_take,h.map,hmap]
   · rcases List.mem_append.1 hy with hy | hy
     · have hy' := (h.lays y (List.mem_of_mem_take hy)).old
       have hy2 := (hy'.keep hg2.size fun q hq hz => hg2.block q hq hz.1.2.1).keep hs3 fun q hq hz => hb3.block q hq
       exact hkeep y (hy2.mono fun q hq => ⟨hq.1.1,hq.1.2.1,hq.1.2.2,by omega⟩)
     · refine hkeep y ((hys y hy).old.mono fun q hq => ⟨by omega,fun e => ?_,fun e => ?_,by omega⟩)
       · have := h.spot.lt e; omega
       · have := hZ q e; omega
 · have k1 := hg2.keeps (Z := Z) fun q hq => (h.own q hq).2;have k2 := keeps_below (Z := Z) hb3 (Nat.le_refl _);have k3 := hg.keeps (Z := Z) fun q hq => (h.own q hq).2;exact ((k1.trans k2).trans k3).trans (qk _ ⟨p,2,none⟩ _ h.away)
theorem Lg.fourth {w : World} {p : Nat} {r : RL} {s s' : Nat} {Z : Nat -> Prop} (h : Lg w p r s Z) (v : Int) (hv : v = (s' : Int)) : Lg (w.setCell ⟨p,3,none⟩ (.int .i64 v)) p r s' Z /\ qf Z w (w.setCell ⟨p,3,none⟩ (.int .i64 v)) := by
 subst hv;obtain ⟨A,c,xs,h⟩ := h;exact ⟨⟨A,c,xs,h.turn (by simp) (qds h.row) fun q _ hq => Below.heap_setCell _ _ _ _ (by exact hq)⟩,qk w ⟨p,3,none⟩ _ h.away⟩
theorem Lg.row4 {w : World} {p : Nat} {r : RL} {s : Nat} {Z : Nat -> Prop} (h : Lg w p r s Z) : w.cell? ⟨p,3,none⟩ = some (.int .i64 (s : Int)) /\ w.frozen? ⟨p,3,none⟩ = false := by
 obtain ⟨A,c,xs,h⟩ := h;obtain ⟨⟨_,_,_,c3⟩,⟨_,_,_,f3⟩⟩ := Proofs.YtmiijlecfiddmaaGreat.row4 h.row;exact ⟨c3,f3⟩
theorem qe6 {w : World} {p : Nat} {r : RL} {s : Nat} {Z : Nat -> Prop} (h : Lg w p r s Z) (hZ : ∀ q,Z q -> q < w.heap.size) (hg : Good r) (B : Option Addr) (m cB : Nat) (ms : List Ent) (hB : Ents w Z B m cB ms) (hmm : r.l.length + m <= 1000000) (hj : Joins r ms) :
 Calls Tryz.prog 111 #[ptrV p, .slice B m cB] w fun e w' => e = .returned (.tuple #[]) /\ Lg w' p (r.swap ms) (min s (r.keep ms)) Z /\ qf Z w w' := by
 obtain ⟨A,c,xs,h⟩ := h;obtain ⟨e1,e2,e3⟩ := qeW hg hj;obtain ⟨k1,k2⟩ := qcP hj;have hrun := qbH hj.run;have h0 := hj.h0;have hlo := hj.lo;have hhi := hj.hi;have hlim := hg.lim;have hml := hB.1;obtain ⟨gB,oB,E,ce,rfl,hgb,x0,x1,x2,hlE⟩ := hB.at_ 0 (by omega);clear hlE x1 x2;generalize r.keep ms = keep at *;obtain ⟨K1,hK1⟩ : ∃ K1 : Int,K1 = ((keep + 1 : Nat) : Int) := ⟨_,rfl⟩
 have hw1 : IntKind.i64.wrap ((ms[0]'h0).i - r.i) = (K1 : Int) := by rw [IntWalk.i64_in _ (by omega)]; omega
 have hw2 : IntKind.i64.wrap ((K1 : Int) - 1) = (keep : Int) := by rw [IntWalk.i64_in _ (by omega)]; omega
 generalize hi0 : (ms[0]'h0).i = i0 at *
 have x0' : w.cell? ⟨gB,oB,none⟩ = some (.int .i64 i0) := by simpa using x0
 have hR := hdq3 e1 e2 e3;generalize r.swap ms = r' at *;obtain ⟨⟨c0,c1,c2,c3⟩,_⟩ := row4 h.row
 have hm0 : (0 : Int) < (m : Int) := by omega
 have hm0d : 0 < m := by omega
 have hnc := h.spot.2.1
 have hsb := fun W => qaU (A := A) (n := r.l.length) (cap := c) (k := keep) k1 hnc W
 have hsf := fun W => qbS (A := A) (n := r.l.length) (cap := c) (k := keep) (Nat.le_trans k1 hnc) W
 have hkc : (keep : Int) <= (c : Int) := by omega
 have hkn : (keep : Int) <= (r.l.length : Int) := by omega
 have hkc2 : keep <= c := by omega
 have hm1 : 1 <= m := by omega
 have hdl : ∀ n,w.drewN n = w.drewN n := fun _ => rfl
 clear k2 hK1 x0 hi0 e1 e2 e3 hj hlim hlo hhi hg hdl
 go_enter Tryz.func111,Tryz.ntmps111
 go_wp2
 go_big_quiet (fail)
 have h1 : LgAt (w.drewN nq) p r s Z A c xs := h.keep (Nat.le_refl _) fun q _ _ => rfl
 have hB1 : Ents (w.drewN nq) Z (some ⟨gB,oB,none⟩) m cB ms := hB.keep (Nat.le_refl _) fun q _ _ => rfl
 have hZ1 : ∀ q,Z q -> q < (w.drewN nq).heap.size := hZ;have hK1 : qf Z w (w.drewN nq) := keeps_below (below_drewN (Below.refl _ _) nq) (Nat.le_refl _);have c0 : (w.drewN nq).cell? ⟨p,0,none⟩ = _ := c0;have c2 : (w.drewN nq).cell? ⟨p,2,none⟩ = _ := c2;generalize w.drewN nq = w1 at *;clear h hB x0' hw1 hw2 c1 c3;obtain ⟨w2,hcl,hsp2,g1,g2,g3,g4,g5⟩ := qdP (w := w1) 0 h1.spot k1;have hgr : Grew w1 w2 A := ⟨g1,g2,g3,g4,g5⟩
 have hnA : ¬ blk A p := fun e => (h1.own p e).1 rfl
 have hplt := hlt h1.row;have hr2 := (hgr.block p hplt hnA).trans h1.row;have hpl2 := hlt hr2;have hB2 : Ents w2 Z (some ⟨gB,oB,none⟩) m cB ms := hB1.keep g4 fun q hq hz => g5 q hq fun e => (h1.own q e).2 hz;obtain ⟨⟨d0,d1,d2,d3⟩,⟨f0,f1,f2,f3⟩⟩ := row4 hr2
 have hC := fun W (hW : Below w2.heap.size w2 W) => qbh Z (some ⟨gB,oB,none⟩) m cB ms W (hB2.below hW (Nat.le_refl _)) (by omega) hrun
 have hSX : ∀ X,Below w2.heap.size w2 X -> Spot X A keep c (xs.take keep) := fun X hX => hsp2.keep fun q hq => hX.block q (hsp2.lt hq);clear hB1 hB2
 go_upto_region 2 with fail
 go_cut [30] (fun v wx => Lg wx p ⟨r.i,r.t,r.l.take keep ++ ms,0⟩ s Z /\ qf Z w1 wx)
 case first =>
  go_region_law (first
   | (go_simp
      go_at_call 68
      refine (hC _ (by first | exact Below.refl _ _ | exact (Below.refl _ _).drew)).mono ?_;rintro e w3 ⟨ys,rfl,hsp3,hmap,hok3,hb3⟩
      have hb3' : Below w2.heap.size w2 w3 := by first | exact hb3 | exact (Below.refl _ _).drew.trans hb3
      obtain ⟨⟨y0,y1,y2,y3⟩,_⟩ := row4 ((hb3'.block _ hpl2).trans hr2))
   | (refine qbu _ (by rfl) _ _ (by rfl) A keep c (xs.take keep) (by rfl) (hSX _ (by first | exact hb3' | exact hb3'.drew)) (some ⟨w2.heap.size,0,none⟩) m m ys (by rfl) (fun e => by cases e) hsp3.1 (fun b e => by cases e; exact hsp3.cells rfl) (by omega) ?_
      intro A' c' w4 hsp hA hgr4
      obtain ⟨⟨e0,e1,e2,e3⟩,⟨z0,z1,z2,z3⟩⟩ := row4 ((hgr4.block p (Nat.lt_of_lt_of_le hpl2 hb3'.size) hnA).trans ((hb3'.block _ hpl2).trans hr2))))
  all_goals
   have hfin := h1.swapped (g := 0) hZ1 k1 hgr hb3' (fun y hy => (hok3 y hy).mono fun q hq => Nat.le_of_lt (show w2.heap.size < q from hq)) hmap hml hsp hA hgr4;have HF := Lib.hid hfin;clear hfin hsp hA hgr4 hok3 hb3 hb3' hsp3 hmap
   go_wp2_with fail
   go_meet
   exact HF.out
 case rest =>
  obtain ⟨hlg,hk⟩ := hcut;obtain ⟨c3,f3⟩ := hlg.row4
  have HE := fun v hv => Lib.hid (Lg.fourth (s' := min s keep) hlg v hv)
  have HK := Lib.hid (hK1.trans hk);clear hlg hk hSX hsp2 hgr hC h1 hcl hr2
  go_wp2_with fail
  all_goals
   refine bodyPost_end (results_none rfl _ _ _) rfl ?_;have hr := hR.out;exact ⟨rfl,(HE _ (by omega)).out.1.same hr.2.1 hr.2.2 hr.1,HK.out.trans (HE _ (by omega)).out.2⟩
end Go.Proofs.YtmiijlecfiddmaaGreat
set_option linter.unusedVariables false
set_option linter.unusedSimpArgs false
set_option maxRecDepth 100000
set_option maxHeartbeats 3200000
namespace Go.Proofs.YtmiijlecfiddmaaGreat
open Go.RowKit
theorem Ents.back {w : World} {Z : Nat -> Prop} {A : Option Addr} {n cap : Nat} {ls : List Ent} (h : Ents w Z A n cap ls) {k : Nat} (hk : k <= n) : Ents w Z (tailAt A cap k) (n - k) (cap - k) (ls.drop k) := by
 have hl := h.1;have hc := h.2.1;refine ⟨by rw [List.length_drop]; omega,by omega,fun e => ?_,fun h0 => ?_⟩
 · unfold tailAt at e
   split at e
   · omega
   · cases A with
     | none => have := h.2.2.1 rfl; omega
     | some a => cases e
 · obtain ⟨g,off,e,hg,hz,hcell⟩ := h.2.2.2 (by omega);subst e;refine ⟨g,off + k * 3,by unfold tailAt; rw [if_neg (by omega),Option.map_some,Addr.add_lit],hg,hz,fun j hj => ?_⟩
   have hj' : k + j < ls.length := by rw [List.length_drop] at hj; omega
   obtain ⟨E,c,c0,c1,c2,r⟩ := hcell (k + j) hj';simp only [List.getElem_drop];exact ⟨E,c,by rw [show off + k * 3 + j * 3 = off + (k + j) * 3 by omega]; exact c0,by rw [show off + k * 3 + j * 3 + 1 = off + (k + j) * 3 + 1 by omega]; exact c1,by rw [show off + k * 3 + j * 3 + 2 = off + (k + j) * 3 + 2 by omega]; exact c2,r⟩
def Taken (w : World) (p : Nat) (r : RL) (s : Nat) (x t : Int) (ms : List Ent) (Z : Nat -> Prop) (e : Ending) (w' : World) : Prop :=
 e = .returned (.tuple #[.int .i64 (r.take x t ms).2.1, .bool (r.take x t ms).2.2]) /\ (∃ s',Lg w' p (r.take x t ms).1 s' Z /\ (frel r s -> frel (r.take x t ms).1 s')) /\ qf Z w w'
theorem qhQ {w : World} {p : Nat} {r : RL} {s : Nat} {Z : Nat -> Prop} (h : Lg w p r s Z) (hZ : ∀ q,Z q -> q < w.heap.size) (hg : Good r) (x t : Int) (hx2 : x <= 9223372036854775807) (B : Option Addr) (m cB : Nat) (ms : List Ent) (hB : Ents w Z B m cB ms) (hmm : r.l.length + m <= 1000000) :
 Calls Tryz.prog 100 #[ptrV p, .int .i64 x, .int .i64 t, .slice B m cB] w (Taken w p r s x t ms Z) := by
 have hR := qc9 Z B m cB ms x t w hB (by unfold maxLen; omega)
 have hsame : ∀ w',Below w.heap.size w w' -> Lg w' p r s Z := fun w' hb => h.below hb
 have hkb : ∀ w',Below w.heap.size w w' -> qf Z w w' := fun w' hb => keeps_below hb (Nat.le_refl _)
 by_cases hr : runB x t ms = true
 · rw [hr] at hR;obtain ⟨A,c,hrd⟩ := h.rd
   have hT := fun w1 (hb : Below w.heap.size w w1) => qaf (hrd.below hb) (by omega) hg x
   by_cases ha : r.at_ x = some t
   · have e1 : r.take x t ms = (r.swap (ms.drop (r.known ms)),x + ms.length,true) := by unfold RL.take; rw [if_pos hr,if_pos ha]
     rw [ha] at hT
     have hK := fun w1 (hb : Below w.heap.size w w1) => qgQ (hrd.below hb) (by omega) hg Z B m cB ms (hB.below hb (Nat.le_refl _)) (by omega)
     have hml := hB.1;have hkn := qeU r ms;obtain ⟨a1,a2,_,_⟩ := hg.at_some ha;have hlim := hg.lim
     have hw1 : wrap64 (x + (m : Int)) = x + (m : Int) := by rw [<- IntWalk.i64_left,IntWalk.i64_in _ (by omega)]
     have q1 : (t != t) = false := by simp
     by_cases hk : r.known ms < m
     · have hj := hg.joins hr ha (by omega)
       have hP := fun w1 (hb : Below w.heap.size w w1) => qe6 (h.below hb) (fun q hq => Nat.lt_of_lt_of_le (hZ q hq) hb.size) hg (tailAt B cB (r.known ms)) (m - r.known ms) (cB - r.known ms) (ms.drop (r.known ms)) ((hB.below hb (Nat.le_refl _)).back (by omega)) (by omega) hj
       have hsl := fun W => qaU (A := B) (n := m) (cap := cB) (k := r.known ms) (by omega) hB.2.1 W
       have hfr : frel r s -> frel (r.swap (ms.drop (r.known ms))) (min s (r.keep (ms.drop (r.known ms)))) := fun hs => qhB hg hj hs
       unfold Taken;rw [e1];dsimp only;have HE := Lib.hid (show x + (ms.length : Int) = x + (m : Int) by rw [hml]);generalize r.swap (ms.drop (r.known ms)) = r' at *;generalize min s (r.keep (ms.drop (r.known ms))) = s' at *;generalize hkk : r.known ms = k at *;have HFR := Lib.hid hfr
       have hk2 : (k : Int) < (m : Int) := by omega
       have hk3 : (k : Int) <= (m : Int) := by omega
       clear hj hB h hg hr ha hrd hsame e1 hfr hkk hml hlim hkn a1 a2
       go_enter Tryz.func100,Tryz.ntmps100
       go_wp2_with fail
       refine hR.mono ?_;rintro e w1 ⟨rfl,hb1⟩;have hT := hT w1 hb1
       go_wp2_with fail
       refine hT.mono ?_;rintro e w2 ⟨rfl,hb2⟩;have hbw2 := hb1.trans (hb2.mono hb1.size);have hK := hK w2 hbw2;clear hT hR
       go_wp2_with fail
       refine hK.mono ?_;rintro e w3 ⟨rfl,hb3⟩;have hbw3 := hbw2.trans (hb3.mono hbw2.size);have hP := hP w3 hbw3;have hkb := hkb w3 hbw3;clear hK
       go_wp2_with fail
       refine hP.mono ?_;rintro e w4 ⟨rfl,hl4,hk4⟩;go_wp2
       go_ret2
       refine ⟨?_,⟨s',hl4,HFR.out⟩,hkb.trans hk4⟩;rw [HE.out];show Ending.returned (.tuple #[.int .i64 (wrap64 (x + (m : Int))), .bool true]) = _;rw [hw1]
     · have hsw : r.swap (ms.drop (r.known ms)) = r := by rw [List.drop_of_length_le (by omega)]; rfl
       unfold Taken;rw [e1,hsw];dsimp only;have HE := Lib.hid (show x + (ms.length : Int) = x + (m : Int) by rw [hml])
       have hkm : r.known ms = m := by omega
       rw [hkm] at hK;clear hsw e1 hB h hg hr ha hrd hkm hml hlim hkn a1 a2 hk
       go_enter Tryz.func100,Tryz.ntmps100
       go_wp2_with fail
       refine hR.mono ?_;rintro e w1 ⟨rfl,hb1⟩;have hT := hT w1 hb1
       go_wp2_with fail
       refine hT.mono ?_;rintro e w2 ⟨rfl,hb2⟩;have hbw2 := hb1.trans (hb2.mono hb1.size);have hK := hK w2 hbw2;have hdec : decide ((m : Int) < (m : Int)) = false := decide_eq_false (by omega);clear hT hR
       go_wp2_with fail
       refine hK.mono ?_;rintro e w3 ⟨rfl,hb3⟩;have hbw3 := hbw2.trans (hb3.mono hbw2.size);clear hK;go_wp2
       go_ret2
       refine ⟨?_,⟨s,hsame _ hbw3,fun hs => hs⟩,hkb _ hbw3⟩;rw [HE.out];show Ending.returned (.tuple #[.int .i64 (wrap64 (x + (m : Int))), .bool true]) = _;rw [hw1]
   · have e1 : r.take x t ms = (r,r.retry x,false) := by unfold RL.take; rw [if_pos hr,if_neg ha]
     have hY := fun w1 (hb : Below w.heap.size w w1) => qgM (hrd.below hb) (by omega) hg x hx2
     unfold Taken;rw [e1];dsimp only;clear hB h hg hr hrd e1;generalize r.retry x = y at *
     cases ho : r.at_ x with
     | none =>
       rw [ho] at hT;clear ha ho
       go_enter Tryz.func100,Tryz.ntmps100
       go_wp2_with fail
       refine hR.mono ?_;rintro e w1 ⟨rfl,hb1⟩;have hT := hT w1 hb1
       go_wp2_with fail
       refine hT.mono ?_;rintro e w2 ⟨rfl,hb2⟩;have hbw2 := hb1.trans (hb2.mono hb1.size);have hY := hY w2 hbw2;clear hT hR
       go_wp2_with fail
       refine hY.mono ?_;rintro e w3 ⟨rfl,hb3⟩;have hbw3 := hbw2.trans (hb3.mono hbw2.size);go_wp2
       go_ret2
       exact ⟨rfl,⟨s,hsame _ hbw3,fun hs => hs⟩,hkb _ hbw3⟩
     | some v =>
       rw [ho] at hT
       have hv : v ≠ t := fun e => ha (by rw [ho,e])
       have q1 : (v != t) = true := by simp [hv]
       have q2 : (v = t) = False := eq_false hv;clear ha ho hv
       go_enter Tryz.func100,Tryz.ntmps100
       go_wp2_with fail
       refine hR.mono ?_;rintro e w1 ⟨rfl,hb1⟩;have hT := hT w1 hb1
       go_wp2_with fail
       refine hT.mono ?_;rintro e w2 ⟨rfl,hb2⟩;have hbw2 := hb1.trans (hb2.mono hb1.size);have hY := hY w2 hbw2;clear hT hR
       go_wp2_with fail
       refine hY.mono ?_;rintro e w3 ⟨rfl,hb3⟩;have hbw3 := hbw2.trans (hb3.mono hbw2.size);go_wp2
       go_ret2
       exact ⟨rfl,⟨s,hsame _ hbw3,fun hs => hs⟩,hkb _ hbw3⟩
 · have e1 : r.take x t ms = (r,0,false) := by unfold RL.take; rw [if_neg hr]
   have hf : runB x t ms = false := by simpa using hr
   rw [hf] at hR;unfold Taken;rw [e1];dsimp only;clear hB h hg hr hf e1
   go_enter Tryz.func100,Tryz.ntmps100
   go_wp2_with fail
   refine hR.mono ?_;rintro e w1 ⟨rfl,hb1⟩;go_wp2
   go_ret2
   exact ⟨rfl,⟨s,hsame _ hb1,fun hs => hs⟩,hkb _ hb1⟩
end Go.Proofs.YtmiijlecfiddmaaGreat
