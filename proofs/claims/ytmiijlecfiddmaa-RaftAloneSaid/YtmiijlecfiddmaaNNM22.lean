/- The program's node tells the readings. -/
import Derived.Test.YtmiijlecfiddmaaNNM21
import Derived.Test.YtmiijlecfiddmaaNNM10
import Derived.Test.YtmiijlecfiddmaaNNM09
set_option linter.unusedVariables false
set_option linter.unusedSimpArgs false
set_option maxRecDepth 100000
set_option maxHeartbeats 1600000
namespace Go.Proofs.Ytmiijlecfiddmaa
open Go.RowKit Go.Shelf
attribute [local go_sem] Oper.semAt_some
theorem qb9 {α : Type} (f : α -> Bool) : ∀ (l : List α) (k : Nat),(∀ y ∈ l.take k,f y = true) -> (∀ y r,l.drop k = y :: r -> f y = false) -> l.takeWhile f = l.take k /\ l.dropWhile f = l.drop k
 | [],k,_,_ => by simp
 | x :: l,0,_,h2 => by
   have := h2 x l rfl
   simp [List.takeWhile,List.dropWhile,this]
 | x :: l,k + 1,h1,h2 => by
   have hx := h1 x (by simp)
   have := qb9 f l k (fun y hy => h1 y (by simp [hy])) (fun y r e => h2 y r (by simpa using e))
   simp [List.takeWhile,List.dropWhile,hx,this]
section
variable {w w' : World} {p : Nat} {N : Node} {Z : Nat → Prop} {q : Ptrs} {s : Nat} {xs : List MLay} {K : Nat → Prop}
theorem RfAt.cast {N' : Node} (h : RfAt w p N Z q s xs K) (e : N' = N) : RfAt w p N' Z q s xs K := by rw [e]; exact h
theorem RfAt.tell (h : RfAt w p N Z q s xs K) (hZ : ∀ b,Z b -> b < w.heap.size) {X : World} (hX : Below w.heap.size w X) {A' : Option Addr} {c' : Nat} {y : Int × Int} (hsp : Sp 51 2 w' A' (N.td.length + 1) c' (rrow N.td ++ rrow [y])) (hA : ∀ b,blk A' b -> blk q.T b \/ X.heap.size <= b) (hg : Grew X w' q.T) :
 RfAt (w'.setCell ⟨p,28,none⟩ (.slice A' (N.td.length + 1) c')) p { N with td := N.td ++ [y] } Z { q with T := A',cT := c' } s xs K /\ qf Z w (w'.setCell ⟨p,28,none⟩ (.slice A' (N.td.length + 1) c')) := by
 have hs1 := hX.size
 have hs2 := hg.size
 have hp := h.lt
 have hnm : ¬ blk q.T p := fun e => (h.tz p e).2.1 rfl
 have hrow : w'.heap[p]? = some (.cells (rfC N q) 68) := (hg.block p (by omega) hnm).trans ((hX.block p hp).trans h.row)
 have hset := setCell_at w' ⟨p,28,none⟩ (.slice A' (N.td.length + 1) c') _ _ _ rfl hrow
 have hoff : ∀ b,b ≠ p -> (w'.setCell ⟨p,28,none⟩ (.slice A' (N.td.length + 1) c')).heap[b]? = w'.heap[b]? := fun b hb => Below.heap_setCell _ _ _ _ (by exact hb)
 have hkk : ∀ b,b < w.heap.size -> b ≠ p -> ¬ blk q.T b -> (w'.setCell ⟨p,28,none⟩ (.slice A' (N.td.length + 1) c')).heap[b]? = w.heap[b]? := fun b h1 h2 h3 => (hoff b h2).trans ((hg.block b (by omega) h3).trans (hX.block b h1))
 have hsz : w.heap.size <= (w'.setCell ⟨p,28,none⟩ (.slice A' (N.td.length + 1) c')).heap.size := by simp; omega
 have hnew : ∀ b,blk A' b -> blk q.T b \/ w.heap.size <= b := fun b hb => (hA b hb).imp_right fun e => by omega
 have hA' : ∀ b,blk A' b -> ¬ Z b /\ b ≠ p /\ ¬ K b /\ ¬ blk q.R b /\ ¬ blk q.M b := fun b hb => by
  rcases hnew b hb with hb | hb
  · exact h.tz b hb
  · exact ⟨fun e => by have := hZ b e; omega,by omega,fun e => by have := (h.kz b e).2.2; omega,fun e => by have := h.rds.lt e; omega,fun e => by have := h.mss.lt e; omega⟩
 constructor
 · exact {
    row := by
     have e : N.td.length + 1 = (N.td ++ [y]).length := by simp
     rw [hset,e]
     rfl
    away := h.away
    kz := fun b hb => ⟨(h.kz b hb).1,(h.kz b hb).2.1,Nat.lt_of_lt_of_le (h.kz b hb).2.2 hsz⟩
    rz := h.rz
    mz := h.mz
    tz := hA'
    log := by
     refine (h.log.grow.keep (w' := w'.setCell ⟨p,28,none⟩ (.slice A' (N.td.length + 1) c')) hsz fun b hb hz => hkk b hb (fun e => hz (.inl (.inr (.inl e)))) fun e => hz (.inl (.inr (.inr (.inr (.inr (.inr e))))))).mono fun b hb => ?_
     rcases hb with hb | hb | hb | hb | hb | hb
     · exact .inl (.inl hb)
     · exact .inl (.inr (.inl hb))
     · exact .inl (.inr (.inr (.inl hb)))
     · exact .inl (.inr (.inr (.inr (.inl hb))))
     · exact .inl (.inr (.inr (.inr (.inr (.inl hb)))))
     · rcases hnew b hb with hb | hb
       · exact .inl (.inr (.inr (.inr (.inr (.inr hb)))))
       · exact .inr hb
    rds := h.rds.keep fun b hb => hkk b (h.rds.lt hb) (h.rz b hb).2.1 fun e => (h.tz b e).2.2.2.1 hb
    mss := h.mss.keep fun b hb => hkk b (h.mss.lt hb) (h.mz b hb).2.1 fun e => (h.tz b e).2.2.2.2 hb
    tds := by
     rw [show ({ N with td := N.td ++ [y] } : Node).td.length = N.td.length + 1 by simp,qaT]
     exact hsp.keep fun b hb => hoff b (hA' b hb).2.1
    map := h.map
    msg := fun y hy => (h.msg y hy).keep hsz fun b hb hkb => hkk b hb (h.kz b hkb.1).2.1 fun e => (h.tz b e).2.2.1 hkb.1
    snp := h.snp.keep hsz fun h0 g off e hg' => hkk g hg' (h.kz g (h.snk h0 g off e)).2.1 fun e' => (h.tz g e').2.2.1 (h.snk h0 g off e)
    snk := h.snk }
 · have k1 := qe (Z := Z) hX nlq
   have k2 := hg.keeps (Z := Z) fun b hb => (h.tz b hb).1
   exact (k1.trans k2).trans (qg _ ⟨p,28,none⟩ _ h.away)
theorem RfAt.shift (h : RfAt w p N Z q s xs K) {y : Int × Int} {r : List (Int × Int)} (hr : N.rd = y :: r) :
 RfAt (w.setCell ⟨p,26,none⟩ (.slice (qC 2 q.R q.cR 1) r.length (q.cR - 1))) p { N with rd := r } Z { q with R := qC 2 q.R q.cR 1,cR := q.cR - 1 } s xs K /\ qf Z w (w.setCell ⟨p,26,none⟩ (.slice (qC 2 q.R q.cR 1) r.length (q.cR - 1))) := by
 have hset := setCell_at w ⟨p,26,none⟩ (.slice (qC 2 q.R q.cR 1) r.length (q.cR - 1)) _ _ _ rfl h.row
 have hoff : ∀ b,b ≠ p -> (w.setCell ⟨p,26,none⟩ (.slice (qC 2 q.R q.cR 1) r.length (q.cR - 1))).heap[b]? = w.heap[b]? := fun b hb => Below.heap_setCell _ _ _ _ (by exact hb)
 have hsz : w.heap.size <= (w.setCell ⟨p,26,none⟩ (.slice (qC 2 q.R q.cR 1) r.length (q.cR - 1))).heap.size := by simp
 have hb : ∀ b,blk (qC 2 q.R q.cR 1) b ↔ blk q.R b := fun b => qc5 b h.rds.spotless
 have hd := h.rds.drop (k := 1) (by rw [hr]; simp)
 constructor
 · exact {
    row := hset
    away := h.away
    kz := fun b hb => ⟨(h.kz b hb).1,(h.kz b hb).2.1,Nat.lt_of_lt_of_le (h.kz b hb).2.2 hsz⟩
    rz := fun b e => h.rz b ((hb b).1 e)
    mz := fun b e => ⟨(h.mz b e).1,(h.mz b e).2.1,(h.mz b e).2.2.1,fun e' => (h.mz b e).2.2.2 ((hb b).1 e')⟩
    tz := fun b e => ⟨(h.tz b e).1,(h.tz b e).2.1,(h.tz b e).2.2.1,fun e' => (h.tz b e).2.2.2.1 ((hb b).1 e'),(h.tz b e).2.2.2.2⟩
    log := (h.log.keep hsz fun b hb hz => hoff b fun e => hz (.inr (.inl e))).mono fun b e => by
     rcases e with e | e | e | e | e
     · exact .inl e
     · exact .inr (.inl e)
     · exact .inr (.inr (.inl e))
     · exact .inr (.inr (.inr (.inl ((hb b).1 e))))
     · exact .inr (.inr (.inr (.inr e)))
    rds := by
     have e1 : N.rd.length - 1 = r.length := by rw [hr]; simp
     have e2 : (rrow N.rd).drop (1 * 2) = rrow r := by rw [hr]; rfl
     rw [e1,e2] at hd
     exact hd.keep fun b e => hoff b (h.rz b ((hb b).1 e)).2.1
    tds := h.tds.keep fun b hb => hoff b (h.tz b hb).2.1
    mss := h.mss.keep fun b hb => hoff b (h.mz b hb).2.1
    map := h.map
    msg := fun x hx => (h.msg x hx).keep hsz fun b hb hkb => hoff b (h.kz b hkb.1).2.1
    snp := h.snp.keep hsz fun h0 g off e hg => hoff g (h.kz g (h.snk h0 g off e)).2.1
    snk := h.snk }
 · exact qg _ ⟨p,26,none⟩ _ h.away
end
def lenAt (w : World) (p : Nat) : Nat := match w.cell? ⟨p,26,none⟩ with | some (.slice _ n _) => n | _ => 0
theorem RfAt.lenAt {w : World} {p : Nat} {N : Node} {Z : Nat -> Prop} {q : Ptrs} {s : Nat} {xs : List MLay} {K : Nat -> Prop} (h : RfAt w p N Z q s xs K) : lenAt w p = N.rd.length := by
 unfold Go.Proofs.Ytmiijlecfiddmaa.lenAt
 rw [h.c26]
def qx (N : Node) (k : Nat) : Node := { N with td := N.td ++ N.rd.take k,rd := N.rd.drop k }
def qaS (w wr : World) (p : Nat) (N : Node) (Z : Nat -> Prop) (q : Ptrs) (s : Nat) (xs : List MLay) (K : Nat -> Prop) (k : Nat) : Prop :=
 k <= N.rd.length /\ (∀ y ∈ N.rd.take k,N.known y.1 = true) /\ ∃ q',RfAt wr p (qx N k) Z q' s xs K /\ q'.l = q.l /\ qf Z w wr
theorem qcP {N : Node} {k : Nat} {y : Int × Int} {r : List (Int × Int)} (h : N.rd.drop k = y :: r) : qx N (k + 1) = { qx N k with td := (qx N k).td ++ [y],rd := r } /\ k + 1 <= N.rd.length /\ N.rd.take (k + 1) = N.rd.take k ++ [y] := by
 have hk : k < N.rd.length := by
  apply Nat.lt_of_not_le
  intro e
  rw [List.drop_eq_nil_of_le e] at h
  cases h
 have e1 := List.drop_eq_getElem_cons hk
 rw [h] at e1
 injection e1 with e1 e2
 have e3 : N.rd.take (k + 1) = N.rd.take k ++ [y] := by rw [List.take_add_one,List.getElem?_eq_getElem hk,<- e1]; rfl
 refine ⟨?_,hk,e3⟩
 unfold qx
 rw [e3,<- e2,List.append_assoc]
theorem qaS.ends {w : World} {p : Nat} {N : Node} {Z : Nat -> Prop} {q : Ptrs} {s : Nat} {xs : List MLay} {K : Nat -> Prop} {wr : World} {k : Nat} (h : qaS w wr p N Z q s xs K k) (he : ∀ y r,N.rd.drop k = y :: r -> N.known y.1 = false) : ∃ q',RfAt wr p N.tell Z q' s xs K /\ q'.l = q.l /\ qf Z w wr := by
 obtain ⟨h1,h2,q',h3,h4,h5⟩ := h
 obtain ⟨e1,e2⟩ := qb9 (fun x : Int × Int => N.known x.1) N.rd k h2 he
 refine ⟨q',?_,h4,h5⟩
 unfold Node.tell
 rw [e1,e2]
 exact h3
theorem qdm {w : World} {p : Nat} {N : Node} {Z : Nat -> Prop} {q : Ptrs} {s : Nat} {xs : List MLay} {K : Nat -> Prop} (h : RfAt w p N Z q s xs K) (hZ : ∀ b,Z b -> b < w.heap.size) (hn : N.n <= 3 /\ N.id < 3) (hlen : N.td.length + N.rd.length <= 900000) :
 Calls Try.prog 27 #[ptrV p] w fun e w' => e = .returned (.tuple #[]) /\ ∃ q',RfAt w' p N.tell Z q' s xs K /\ q'.l = q.l /\ qf Z w w' := by
 have hi : qaS w w p N Z q s xs K 0 := ⟨Nat.zero_le _,fun y hy => by simp at hy,q,by unfold qx; simpa using h,rfl,qf.refl _ _⟩
 have HI := Lib.hid hi
 clear hi h
 go_enter Try.func27,Try.ntmps27
 go_wp2
 go_loopw [] (fun wr => ∃ k : Nat,qaS w wr p N Z q s xs K k) (fun wr => lenAt wr p)
 case atStart => exact ⟨0,HI.out⟩
 case round =>
  obtain ⟨k,hT⟩ := hrel
  have HT := Lib.hid hT
  obtain ⟨hk,hkn,q',h1,hq,hks⟩ := hT
  have c26 := h1.c26
  have hlast := h1.lenAt
  rcases hd : N.rd.drop k with _ | ⟨y,r⟩
  · have e0 : (qx N k).rd = [] := hd
    rw [e0] at c26
    have HE := Lib.hid hd
    clear hd h1 hkn hq hks hk e0 hlast
    go_wp2
    refine bodyPost_end (results_none rfl _ _ _) rfl ?_
    exact ⟨rfl,HT.out.ends fun y r e => by rw [HE.out] at e; cases e⟩
  · have e0 : (qx N k).rd = y :: r := hd
    have hR := h1.rds
    rw [e0] at c26 hR
    obtain ⟨g,off,hqR,hg,hcells,hfz⟩ := hR.at_ (by omega) 0 (by simp)
    have b0 : wr.cell? ⟨g,off,none⟩ = some (.int .i64 y.1) := by have := hcells 0 (by omega) (.int .i64 y.1) rfl; simpa using this
    have b1 : wr.cell? ⟨g,off + 1,none⟩ = some (.int .i64 y.2) := by have := hcells 1 (by omega) (.int .i64 y.2) rfl; simpa using this
    have hF := qbC h1 hn y.1
    rw [hqR] at c26
    have hkw : N.known y.1 = (qx N k).known y.1 := rfl
    rw [<- hkw] at hF
    obtain ⟨bb,hbb⟩ : ∃ b,N.known y.1 = b := ⟨_,rfl⟩
    rw [hbb] at hF
    have HB := Lib.hid (And.intro hbb (And.intro hd (And.intro hlast (And.intro hqR (And.intro h1 (And.intro hq (And.intro hks (And.intro hg (And.intro hkn hk)))))))))
    clear hbb hd hlast h1 hkn hq hks hk e0 hkw hR hcells hqR
    go_wp2_with fail
    refine hF.mono ?_
    rintro e w2 ⟨rfl,hb2⟩
    cases bb with
    | false =>
      have HB2 := Lib.hid hb2
      clear hb2 hF hfz b0 b1
      go_wp2
      refine bodyPost_end (results_none rfl _ _ _) rfl ?_
      obtain ⟨hkn,hd,h0⟩ := HB.out
      obtain ⟨q1,h1,h2,h3⟩ := HT.out.ends fun y' r' e => by rw [hd] at e; cases e; exact hkn
      exact ⟨rfl,q1,h1.below HB2.out,h2,h3.trans (qe HB2.out nlq)⟩
    | true =>
      obtain ⟨hkn,hd,hlast,hqR,h1,hq,hks,hg,hkn',hk⟩ := HB.out
      have h2 := h1.below hb2
      have hks2 : qf Z w w2 := hks.trans (qe hb2 nlq)
      have c26' : w2.cell? ⟨p,26,none⟩ = some (.slice (some ⟨g,off,none⟩) (r.length + 1) q'.cR) := (hb2.cell (p := ⟨p,26,none⟩) h1.lt).trans c26
      have c28 := h2.c28
      have d0 : w2.cell? ⟨g,off,none⟩ = some (.int .i64 y.1) := (hb2.cell (p := ⟨g,off,none⟩) hg).trans b0
      have d1 : w2.cell? ⟨g,off + 1,none⟩ = some (.int .i64 y.2) := (hb2.cell (p := ⟨g,off + 1,none⟩) hg).trans b1
      have hg2 : g < w2.heap.size := Nat.lt_of_lt_of_le hg hb2.size
      have hp2 := h2.lt
      have hZ2 : ∀ b,Z b -> b < w2.heap.size := fun b hb => Nat.lt_of_lt_of_le (hZ b hb) hks2.size
      have hnt : ¬ blk q'.T p := fun e => (h2.tz p e).2.1 rfl
      have HS : ∀ X,Below w2.heap.size w2 X -> Sp 51 2 X q'.T (qx N k).td.length q'.cT (rrow (qx N k).td) := fun X hX => h2.tds.keep fun b hb => hX.block b (h2.tds.lt hb)
      have HR : ∀ X,Below w2.heap.size w2 X -> X.heap[p]? = some (.cells (rfC (qx N k) q') 68) := fun X hX => (hX.block p hp2).trans h2.row
      have hlen' : (qx N k).td.length + 1 <= 1000000 := by
       show (N.td ++ N.rd.take k).length + 1 <= 1000000
       rw [List.length_append,List.length_take]
       omega
      generalize htd : (qx N k).td = td at *
      have H2 := Lib.hid (And.intro h2 (And.intro hks2 (And.intro hZ2 htd)))
      have HBB := HB
      clear htd h2 hks2 hZ2 hkn hd hlast h1 hq hks hkn' hk HB b0 b1 c26 hF hfz hqR hb2 HT HI
      go_upto_region 1 with fail
      go_region_law (refine qj qaJ _ (by rfl) _ _ (by rfl) q'.T td.length q'.cT (rrow td) (by rfl) (HS _ (by repeat (first | exact blq | apply Below.drew | refine Below.alloc ?_ (by simp) _))) (some ⟨w2.heap.size,0,none⟩) 1 1 (rrow [y]) (by rfl) (fun e => by cases e) (by rfl) (qbR _) (fun b e => by cases e; exact qq (heap_alloc_new _ _)) hlen' ?_
                     intro A' c' w4 hsp hA hgr
                     have hr4 := (hgr.block p (by simp; omega) hnt).trans (HR _ (by repeat (first | exact blq | apply Below.drew | refine Below.alloc ?_ (by simp) _)))
                     have e28 : w4.cell? ⟨p,28,none⟩ = some (.slice q'.T td.length q'.cT) := by rw [<- H2.out.2.2.2]; exact qa hr4 28 _ rfl
                     have e26 : w4.cell? ⟨p,26,none⟩ = some (.slice q'.R (qx N k).rd.length q'.cR) := qa hr4 26 _ rfl
                     have f28 := qb hr4 28)
      all_goals
       obtain ⟨h2,hks2,hZ2,htd⟩ := H2.out
       rw [<- htd] at hsp
       obtain ⟨k1,k2⟩ := h2.tell hZ2 (by repeat (first | exact blq | apply Below.drew | refine Below.alloc ?_ (by simp) _)) hsp hA hgr
       rw [htd] at k1 k2
       have hsz2 := k2.size
       obtain ⟨hkn,hd,hlast,hqR,h1,hq,hks,hg0,hkn',hk⟩ := HBB.out
       have hrd : (qx N k).rd = y :: r := hd
       have x26 := k1.c26
       rw [show (({ qx N k with td := td ++ [y] } : Node).rd) = y :: r from hrd] at x26
       have x26' : (w4.setCell ⟨p,28,none⟩ (.slice A' (td.length + 1) c')).cell? ⟨p,26,none⟩ = some (.slice (some ⟨g,off,none⟩) (r.length + 1) q'.cR) := by rw [<- hqR]; exact x26
       have y26 := k1.fz 26
       have hcap : r.length + 1 <= q'.cR := by have := k1.rds.2.1; rw [show (({ qx N k with td := td ++ [y] } : Node).rd) = y :: r from hrd] at this; exact this
       have hcut : ∀ W : World,(Instr.slice 45 (.slice (some ⟨g,off,none⟩) (r.length + 1) q'.cR) (some (.int .i64 1)) none none).run Try.prog W = .ok (.slice (qC 2 (some ⟨g,off,none⟩) q'.cR 1) r.length (q'.cR - 1)) W := fun W => qcG qaJ (k := 1) (n := r.length + 1) (by omega) hcap W
       obtain ⟨m1,m2⟩ := k1.shift (y := y) (r := r) hrd
       rw [hqR] at m1 m2
       have HF := Lib.hid (And.intro m1 (And.intro (hks2.trans (k2.trans m2)) (And.intro hd (And.intro hq (And.intro hlast (And.intro hkn (And.intro hkn' htd)))))))
       clear h2 hks2 hZ2 htd hsp hA hgr k1 k2 hkn hd hlast hqR h1 hq hks hg0 hkn' hk hrd x26 hcap m1 m2 hr4 e28 e26 f28 HS HR
       go_wp2
       go_roundw
       case rel =>
        obtain ⟨m1,m2,hd,hq,hlast,hkn,hkn',htd⟩ := HF.out
        obtain ⟨n1,n2,n3⟩ := qcP hd
        rw [htd] at n1
        refine ⟨k + 1,n2,?_,_,m1.cast n1,hq,m2⟩
        rw [n3]
        intro z hz
        rcases List.mem_append.1 hz with hz | hz
        · exact hkn' z hz
        · rw [List.mem_singleton.1 hz]; exact hkn
       case measure =>
        obtain ⟨m1,m2,hd,hq,hlast,hkn,hkn',htd⟩ := HF.out
        have e1 := m1.lenAt
        have e2 : (qx N k).rd.length = r.length + 1 := by show (N.rd.drop k).length = _; rw [hd]; rfl
        rw [e1,hlast,e2]
        exact Nat.lt_succ_self _
end Go.Proofs.Ytmiijlecfiddmaa
set_option linter.unusedVariables false
set_option linter.unusedSimpArgs false
set_option maxRecDepth 100000
set_option maxHeartbeats 200000
namespace Go.Proofs.Ytmiijlecfiddmaa
open Go.RowKit Go.Shelf
attribute [local go_sem] Oper.semAt_some
end Go.Proofs.Ytmiijlecfiddmaa
set_option linter.unusedVariables false
set_option linter.unusedSimpArgs false
set_option maxRecDepth 100000
set_option maxHeartbeats 200000
namespace Go.Proofs.Ytmiijlecfiddmaa
open Go.RowKit Go.Shelf
attribute [local go_sem] Oper.semAt_some
end Go.Proofs.Ytmiijlecfiddmaa
set_option linter.unusedVariables false
set_option linter.unusedSimpArgs false
set_option maxRecDepth 100000
set_option maxHeartbeats 200000
namespace Go.Proofs.Ytmiijlecfiddmaa
open Go.RowKit Go.Shelf
attribute [local go_sem] Oper.semAt_some
end Go.Proofs.Ytmiijlecfiddmaa
set_option linter.unusedVariables false
set_option linter.unusedSimpArgs false
set_option maxRecDepth 100000
set_option maxHeartbeats 200000
namespace Go.Proofs.Ytmiijlecfiddmaa
open Go.RowKit Go.Shelf
attribute [local go_sem] Oper.semAt_some
structure Able (N : Node) : Prop where
 n : N.n <= 3 /\ N.id < N.n
 ms : N.ms.length <= 900000
 len : N.lg.l.length <= 300000
 good : Good N.lg
 sd : N.sn.d.length <= 50000
 idle : N.ro ≠ 3 -> N.cx = 0 /\ N.rd = [] /\ N.nx = Node.zeroF /\ N.ma = Node.zeroF /\ N.ac = Node.zeroF
 ht : 0 <= N.ht /\ N.ht <= 1099511627776
 lt : N.lg.lastT <= N.ht
 li : N.lg.lastI < 1099511627776
 wk : 0 <= N.wk /\ N.wk <= 2199023255552
 cx : 0 <= N.cx /\ N.cx <= 2199023255552
 cm : 0 <= N.cm /\ N.cm <= 2199023255552
 nx : ∀ j,0 <= N.nx j /\ N.nx j <= 2199023255552
 ma : ∀ j,0 <= N.ma j /\ N.ma j <= 2199023255552
 td : N.td.length + N.rd.length <= 800000
 up : N.ro = 2 \/ N.ro = 3 -> 1 <= N.ht
 r1 : N.ro = 1 -> N.ht < 1099511627776
end Go.Proofs.Ytmiijlecfiddmaa
set_option linter.unusedVariables false
set_option linter.unusedSimpArgs false
set_option maxRecDepth 100000
set_option maxHeartbeats 200000
namespace Go.Proofs.Ytmiijlecfiddmaa
open Go.RowKit Go.Shelf
attribute [local go_sem] Oper.semAt_some
def qcw (w w' : World) (p : Nat) (N N' : Node) (Z : Nat -> Prop) (q : Ptrs) (s : Nat) : Prop := ∃ s',Turned w w' p N' Z q s' /\ (frel N.lg s -> frel N'.lg s')
end Go.Proofs.Ytmiijlecfiddmaa
set_option linter.unusedVariables false
set_option linter.unusedSimpArgs false
set_option maxRecDepth 100000
set_option maxHeartbeats 200000
namespace Go.Proofs.Ytmiijlecfiddmaa
open Go.RowKit Go.Shelf
attribute [local go_sem] Oper.semAt_some
end Go.Proofs.Ytmiijlecfiddmaa
set_option linter.unusedVariables false
set_option linter.unusedSimpArgs false
set_option maxRecDepth 100000
set_option maxHeartbeats 200000
namespace Go.Proofs.Ytmiijlecfiddmaa
open Go.RowKit Go.Shelf
attribute [local go_sem] Oper.semAt_some
end Go.Proofs.Ytmiijlecfiddmaa
set_option linter.unusedVariables false
set_option linter.unusedSimpArgs false
set_option maxRecDepth 100000
set_option maxHeartbeats 200000
namespace Go.Proofs.Ytmiijlecfiddmaa
open Go.RowKit Go.Shelf
attribute [local go_sem] Oper.semAt_some
end Go.Proofs.Ytmiijlecfiddmaa
set_option linter.unusedVariables false
set_option linter.unusedSimpArgs false
set_option maxRecDepth 100000
set_option maxHeartbeats 200000
namespace Go.Proofs.Ytmiijlecfiddmaa
open Go.RowKit Go.Shelf
attribute [local go_sem] Oper.semAt_some
section
variable {w : World} {p : Nat} {N : Node} {Z : Nat → Prop} {q : Ptrs} {s : Nat} {xs : List MLay} {K : Nat → Prop}
end
end Go.Proofs.Ytmiijlecfiddmaa
set_option linter.unusedVariables false
set_option linter.unusedSimpArgs false
set_option maxRecDepth 100000
set_option maxHeartbeats 200000
namespace Go.Proofs.Ytmiijlecfiddmaa
open Go.RowKit
end Go.Proofs.Ytmiijlecfiddmaa
set_option linter.unusedVariables false
set_option linter.unusedSimpArgs false
set_option maxRecDepth 100000
set_option maxHeartbeats 200000
namespace Go.Proofs.Ytmiijlecfiddmaa
open Go.RowKit
theorem Ents.one {w : World} {Z : Nat -> Prop} (i t : Int) (E : Option Addr) (n c : Nat) (d : List UInt8) (T : TypeId) (hl : Lies w E n c d) (hz : ∀ k,Z k) :
 Ents (w.alloc (.cells #[.int .i64 i, .int .i64 t, .slice E n c] T)) Z (some ⟨w.heap.size,0,none⟩) 1 1 [⟨i,t,d⟩] := by
 have hb := (Below.refl w.heap.size w).alloc (Nat.le_refl _) (.cells #[.int .i64 i, .int .i64 t, .slice E n c] T)
 obtain ⟨⟨a0,a1,a2⟩,_⟩ := row3 (heap_alloc_new w (.cells #[.int .i64 i, .int .i64 t, .slice E n c] T))
 have hd := hl.1
 subst hd
 refine ⟨rfl,Nat.le_refl _,(fun e => by cases e),fun _ => ⟨w.heap.size,0,rfl,by simp,hz _,fun j hj => ?_⟩⟩
 obtain rfl : j = 0 := by simpa using hj
 exact ⟨E,c,a0,a1,a2,Nat.le_refl _,hl.below hb (Nat.le_refl _),fun _ _ _ _ => hz _⟩
end Go.Proofs.Ytmiijlecfiddmaa
set_option linter.unusedVariables false
set_option linter.unusedSimpArgs false
set_option maxRecDepth 100000
set_option maxHeartbeats 200000
namespace Go.Proofs.Ytmiijlecfiddmaa
open Go.RowKit
end Go.Proofs.Ytmiijlecfiddmaa
set_option linter.unusedVariables false
set_option linter.unusedSimpArgs false
set_option maxRecDepth 100000
set_option maxHeartbeats 200000
namespace Go.Proofs.Ytmiijlecfiddmaa
open Go.RowKit Go.Shelf
attribute [local go_sem] Oper.semAt_some
end Go.Proofs.Ytmiijlecfiddmaa
set_option linter.unusedVariables false
set_option linter.unusedSimpArgs false
set_option maxRecDepth 100000
set_option maxHeartbeats 200000
namespace Go.Proofs.Ytmiijlecfiddmaa
open Go.RowKit Go.Shelf
attribute [local go_sem] Oper.semAt_some
theorem Able.fall {N : Node} (a : Able N) {t : Int} (x : Int) (h0 : 0 <= t) (h1 : t <= 1099511627776) : Able (N.fall t x) where
 n := a.n
 ms := a.ms
 len := a.len
 good := a.good
 sd := a.sd
 idle _ := ⟨rfl,rfl,rfl,rfl,by
  show Node.zeroF = _
  rfl⟩
 ht := by
  have := a.ht
  show 0 <= (if N.ht < t then t else N.ht) /\ (if N.ht < t then t else N.ht) <= _
  split <;> omega
 lt := by
  have := a.lt
  show N.lg.lastT <= (if N.ht < t then t else N.ht)
  split <;> omega
 li := a.li
 wk := ⟨by show (0 : Int) <= 0; decide,by show (0 : Int) <= 2199023255552; decide⟩
 cx := ⟨by show (0 : Int) <= 0; decide,by show (0 : Int) <= 2199023255552; decide⟩
 cm := a.cm
 nx _ := ⟨by show (0 : Int) <= 0; decide,by show (0 : Int) <= 2199023255552; decide⟩
 ma _ := ⟨by show (0 : Int) <= 0; decide,by show (0 : Int) <= 2199023255552; decide⟩
 td := by have := a.td; show N.td.length + ([] : List (Int × Int)).length <= 800000; simp; omega
 up h := absurd h (by show ¬ ((0 : Int) = 2 \/ (0 : Int) = 3); decide)
 r1 h := absurd h (by show ¬ (0 : Int) = 1; decide)
end Go.Proofs.Ytmiijlecfiddmaa
