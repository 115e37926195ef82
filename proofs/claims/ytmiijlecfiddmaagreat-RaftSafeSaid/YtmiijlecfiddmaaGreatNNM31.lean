/- A cluster is made. (Written by mkmade.py.) -/
import Derived.Test.YtmiijlecfiddmaaGreatNNM01
import Derived.Test.YtmiijlecfiddmaaGreatNNM30
import Derived.Test.YtmiijlecfiddmaaGreatNNM23
set_option linter.unusedVariables false
set_option linter.unusedSimpArgs false
set_option maxRecDepth 100000
set_option maxHeartbeats 6400000
namespace Go.Proofs.YtmiijlecfiddmaaGreat
open Go.RowKit Go.Shelf
attribute [local go_sem] Oper.semAt_some
theorem qan (T : TypeId) (sz i : Nat) (w : World) (lab : Nat -> Nat) : Row w lab i T sz none 0 0 [] := ⟨Sp.nil T sz w,fun b hb => by obtain ⟨o,e⟩ := hb; cases e⟩
theorem qhb (w : World) (n : Nat) : qh (w.alloc (.cells #[.slice none 0 0, .slice none 0 0, .slice none 0 0, .slice none 0 0, .slice none 0 0, .slice none 0 0, .slice none 0 0, .slice none 0 0, .slice none 0 0] 73)) (qa8 n 0) ⟨w.heap.size,fun _ => 0,none,0,none,0,none,0,none,0,none,0,none,0,none,0,none,0,none,0,fun _ => none,fun _ => 0,fun _ => none,fun _ => 0,[],[]⟩ (fun b => if b = w.heap.size then 1 else 0) where
 lim b hb := if_neg (by simp at hb; omega)
 row := heap_alloc_new w _
 me := if_pos rfl
 r := qan _ _ _ _ _
 h := qan _ _ _ _ _
 s := qan _ _ _ _ _
 sd k hk := absurd hk (Nat.not_lt_zero _)
 l := qan _ _ _ _ _
 ld k hk := absurd hk (Nat.not_lt_zero _)
 n := qan _ _ _ _ _
 nm := rfl
 nd x hx := by cases hx
 t := qan _ _ _ _ _
 d := qan _ _ _ _ _
 a := qan _ _ _ _ _
 am := rfl
 ad x hx := by cases hx
 q := qan _ _ _ _ _
 nodes k hk := absurd hk (Nat.not_lt_zero _)
namespace RegW
theorem madeP_any (w : World) (n : Nat) (h1 : 1 <= n) (h3 : n <= 3) :
 Calls Tryz.prog 19 #[.int .i64 (n : Int)] w fun e w' => ∃ L lab,e = .returned (ptrV L.g) /\ qh w' (Sim.made n) L lab /\ Below w.heap.size w w' /\ ∀ b,b < w.heap.size -> lab b = 0 := by
 have HS := Lib.hid (qhb w n);have hb0 : Below w.heap.size w (w.alloc (.cells #[.slice none 0 0, .slice none 0 0, .slice none 0 0, .slice none 0 0, .slice none 0 0, .slice none 0 0, .slice none 0 0, .slice none 0 0, .slice none 0 0] 73)) := blq.alloc nlq _;obtain ⟨W1,hW1⟩ := exq (w.alloc (.cells #[.slice none 0 0, .slice none 0 0, .slice none 0 0, .slice none 0 0, .slice none 0 0, .slice none 0 0, .slice none 0 0, .slice none 0 0, .slice none 0 0] 73));obtain ⟨g,hg⟩ := exq (w.heap.size);have HB0 := Lib.hid hb0;rw [hW1] at HS HB0;clear hb0
 go_enter Tryz.func19,Tryz.ntmps19
 go_wp2_with fail
 try rw [hW1]
 try rw [hg]
 have HG := Lib.hid hg;clear hW1 hg
 go_loopw [10] (fun v10 wr => ∃ k : Nat,k <= n /\ v10 = .int .i64 (k : Int) /\ ∃ L lab,qh wr (qa8 n k) L lab /\ L.g = g /\ Below w.heap.size w wr /\ ∀ b,b < w.heap.size -> lab b = 0) (fun v10 _ => n - (intOf v10).toNat)
 case atStart => exact ⟨0,Nat.zero_le _,rfl,_,_,HS.out,HG.out,HB0.out,fun b hb => if_neg (by omega)⟩
 case round =>
  obtain ⟨k,hk,rfl,L,lab,hS,hLg,hB,hL0⟩ := hrel;have HR := hdq4 hS hLg hB hL0;clear hS hLg hB hL0
  by_cases hkn : k < n
  · have l1 : decide ((k : Int) < (n : Int)) = true := decide_eq_true (by omega);have hN := qdh k n 0 (-1) Node.noEnt [] none 0 none 0 (fun _ => False) wr ⟨h1,h3,hkn⟩ (by decide) (by decide) (by decide) (by decide) (by decide) (Lies.nil _) (fun h0 => absurd h0 (by decide)) (by decide) (qY _ _) (by decide)
    go_wp2_with fail
    refine hN.mono ?_;rintro e w2 ⟨p,q,s,K,rfl,R2,hf2,hb2⟩;clear hN;have t1 : Turn (fun i => i = 11 + k) wr w2 lab (relab wr (11 + k) lab w2.heap.size) := Turn.made ⟨hb2.os,hb2.tape,hb2.output,hb2.size,fun b hb _ => hb2.block b hb⟩ HR.out.1.lim rfl;have S2 : qh w2 (qa8 n k) L (relab wr (11 + k) lab w2.heap.size) := HR.out.1.move t1 (fun i hi e => by omega) (fun j hj e => by have : j < k := hj; omega)
    have N2 : qaj w2 (relab wr (11 + k) lab w2.heap.size) (11 + k) p (Node.fresh k n 0 (-1) Node.noEnt []) := ⟨q,s,[],K,R2.less fun b hb => by
     obtain ⟨x1,x2⟩ := hb;unfold relab at x2
     by_cases x3 : wr.heap.size <= b
     · rw [if_pos ⟨x3,x1⟩] at x2;exact absurd rfl x2
     · omega,hf2⟩
    have S3 : qh w2.drew (qa8 n k) L (relab wr (11 + k) lab w2.heap.size) := S2.below blq.drew;have N3 : qaj w2.drew (relab wr (11 + k) lab w2.heap.size) (11 + k) p (Node.fresh k n 0 (-1) Node.noEnt []) := N2.move (J := fun _ => False) (Turn.below blq.drew S2.lim) (fun e => e) (by omega)
    have hL3 : ∀ b,b < w.heap.size -> relab wr (11 + k) lab w2.heap.size b = 0 := fun b hb => by
     have := HR.out.2.2.1.size;unfold relab;rw [if_neg (by omega)];exact HR.out.2.2.2 b hb
    have hB3 : Below w.heap.size w w2.drew := HR.out.2.2.1.trans ((hb2.mono HR.out.2.2.1.size).drew);obtain ⟨lab1,hlab1⟩ := exq (relab wr (11 + k) lab w2.heap.size);rw [hlab1] at S3 N3 hL3
    have hSS : ∀ (W : World) r o,Mid4 w2.drew lab1 p W r o -> W.heap[g]? = some (.cells (simC (qa8 n k) L) 73) := fun W r o M => by
     have hg := HR.out.2.1;rw [<- hg];exact (M.same (hlt S3.row) (by rw [S3.me]; decide)).trans S3.row
    have hS4 : ∀ (W : World),W.heap[g]? = some (.cells (simC (qa8 n k) L) 73) -> W.cell? ⟨g,0,none⟩ = some (.slice L.Ar k L.cr) /\ W.cell? ⟨g,1,none⟩ = some (.slice L.Ah k L.ch) /\ W.cell? ⟨g,2,none⟩ = some (.slice L.As k L.cs) /\ W.cell? ⟨g,3,none⟩ = some (.slice L.Al k L.cl) := fun W hW => ⟨qb hW 0 _ rfl,qb hW 1 _ rfl,qb hW 2 _ rfl,qb hW 3 _ rfl⟩
    have M0 : Mid4 w2.drew lab1 p w2.drew (q4 ⟨L.Ar,k,L.cr,ptrs L.ps k⟩ ⟨L.Ah,k,L.ch,qal (fun _ => 0) (fun _ => -1) k⟩ ⟨L.As,k,L.cs,qac (fun _ => Node.noEnt) L.sE L.sc k⟩ ⟨L.Al,k,L.cl,logs (fun _ => []) L.lA L.lc k⟩) (q4 none none none none) := Mid4.start S3.lim fun i hi => by
     have : i = 0 \/ i = 1 \/ i = 2 \/ i = 3 := by omega
     rcases this with rfl | rfl | rfl | rfl
     · exact S3.r
     · exact S3.h
     · exact S3.s
     · exact S3.l
    have HH := hdq7 S3 N3 hL3 hB3 hSS hS4 M0;have hs0 := hS4 _ (hSS _ _ _ M0);have HS0 := Lib.hid hs0;clear S2 S3 N2 N3 hL3 hB3 hSS hS4 M0 t1 hlab1 R2 hf2 hb2 hs0
    go_wp2_with fail
    go_upto_region 8 with fail
    refine wp_region_held_drew ⟨(fun w' : World => w'.cell? ⟨g,0,none⟩ = some (.slice L.Ar k L.cr) /\ w'.cell? ⟨g,1,none⟩ = some (.slice L.Ah k L.ch) /\ w'.cell? ⟨g,2,none⟩ = some (.slice L.As k L.cs) /\ w'.cell? ⟨g,3,none⟩ = some (.slice L.Al k L.cl)),[33,36,39,42]⟩ (by kernel_rfl) (HS0.out) (fun hHeld => ?_);refine lsq 43 ?_;refine puq 0 ?_;refine puq 1 ?_;refine puq 2 ?_;refine puq 3 ?_;refine puq 4 ?_;refine puq 5 ?_;refine puq 6 ?_;refine tkq 7 ?_;refine puq 8 ?_;refine puq 11 ?_;refine puq 12 ?_;refine puq 13 ?_;refine tkq 14 ?_;refine puq 15 ?_;refine puq 18 ?_;refine puq 19 ?_;refine puq 20 ?_;refine tkq 21 ?_;refine puq 22 ?_;refine puq 25 ?_;refine puq 26 ?_;refine puq 27 ?_;refine tkq 28 ?_;refine qlj (p := p) (k := k) (lab0 := lab1) (X0 := w2.drew) (fun W r o M => HH.out.2.2.2.2.2.1 W (HH.out.2.2.2.2.1 W r o M)) (by omega) HH.out.2.2.2.2.2.2 ?_;intro W5 E0 E1 E2 E3 d0 d1 d2 d3 b0 b1 b2 b3 M5;unfold bxV;have hr5 := HH.out.2.2.2.2.1 _ _ _ M5;have hHeld := HH.out.2.2.2.2.2.1 W5 hr5;have HM5 := Lib.hid M5;clear M5;refine puq 31 ?_;refine puq 32 ?_;have e0 : (W5).cell? ⟨g,0,none⟩ = some (.slice L.Ar k L.cr) := qb hr5 0 _ rfl;have f0 := qg hr5 0;refine ltq 33 fun KK hK => ?_;go_simp;refine hK.out _ _ ?_;clear hK KK
    try simp only [lpq]
    clear e0 f0;have hr6 := setCell_at (W5) ⟨g,0,none⟩ (.slice E0 (k + 1) d0) _ _ _ rfl hr5;refine plq 34 ?_;refine plq 35 ?_;have e1 : ((W5).setCell ⟨g,0,none⟩ (.slice E0 (k + 1) d0)).cell? ⟨g,1,none⟩ = some (.slice L.Ah k L.ch) := qb hr6 1 _ rfl;have f1 := qg hr6 1;refine ltq 36 fun KK hK => ?_;go_simp;refine hK.out _ _ ?_;clear hK KK
    try simp only [lpq]
    clear e1 f1;have hr7 := setCell_at ((W5).setCell ⟨g,0,none⟩ (.slice E0 (k + 1) d0)) ⟨g,1,none⟩ (.slice E1 (k + 1) d1) _ _ _ rfl hr6;refine plq 37 ?_;refine plq 38 ?_;have e2 : (((W5).setCell ⟨g,0,none⟩ (.slice E0 (k + 1) d0)).setCell ⟨g,1,none⟩ (.slice E1 (k + 1) d1)).cell? ⟨g,2,none⟩ = some (.slice L.As k L.cs) := qb hr7 2 _ rfl;have f2 := qg hr7 2;refine ltq 39 fun KK hK => ?_;go_simp;refine hK.out _ _ ?_;clear hK KK
    try simp only [lpq]
    clear e2 f2;have hr8 := setCell_at (((W5).setCell ⟨g,0,none⟩ (.slice E0 (k + 1) d0)).setCell ⟨g,1,none⟩ (.slice E1 (k + 1) d1)) ⟨g,2,none⟩ (.slice E2 (k + 1) d2) _ _ _ rfl hr7;refine plq 40 ?_;refine plq 41 ?_;have e3 : ((((W5).setCell ⟨g,0,none⟩ (.slice E0 (k + 1) d0)).setCell ⟨g,1,none⟩ (.slice E1 (k + 1) d1)).setCell ⟨g,2,none⟩ (.slice E2 (k + 1) d2)).cell? ⟨g,3,none⟩ = some (.slice L.Al k L.cl) := qb hr8 3 _ rfl;have f3 := qg hr8 3;refine ltq 42 fun KK hK => ?_;go_simp;refine hK.out _ _ ?_;clear hK KK
    try simp only [lpq]
    clear e3 f3;have hr9 := setCell_at ((((W5).setCell ⟨g,0,none⟩ (.slice E0 (k + 1) d0)).setCell ⟨g,1,none⟩ (.slice E1 (k + 1) d1)).setCell ⟨g,2,none⟩ (.slice E2 (k + 1) d2)) ⟨g,3,none⟩ (.slice E3 (k + 1) d3) _ _ _ rfl hr8;refine dnq ?_;obtain ⟨L9,lab9,x1,x2,x3⟩ := HH.out.1.one HH.out.2.1 HM5.out;rw [HR.out.2.1] at x1 x2 x3;have HX := hdq3 x1 x2 x3;clear x1 x2 x3 hr5 hr6 hr7 hr8 hr9 hHeld;go_wp2
    go_roundw
    case rel =>
     refine ⟨k + 1,hkn,by go_num,L9,lab9,HX.out.1,HX.out.2.1,?_,fun b hb => ?_⟩
     · exact HH.out.2.2.2.1.trans ⟨HX.out.2.2.os,HX.out.2.2.tape,HX.out.2.2.output,HX.out.2.2.size,fun b hb => HX.out.2.2.same b (Nat.lt_of_lt_of_le hb HH.out.2.2.2.1.size) (by rw [HH.out.2.2.1 b hb]; decide)⟩
     · rw [HX.out.2.2.old b (Nat.lt_of_lt_of_le hb HH.out.2.2.2.1.size) (by rw [HH.out.2.2.1 b hb]; decide)];exact HH.out.2.2.1 b hb
    case measure =>
     simp [intOf]
     omega
  · obtain rfl : k = n := by omega
    go_wp2;go_ret;refine ⟨L,lab,?_,HR.out.1,HR.out.2.2.1,HR.out.2.2.2⟩;rw [HR.out.2.1]
    rfl
end RegW
end Go.Proofs.YtmiijlecfiddmaaGreat
set_option linter.unusedVariables false
set_option linter.unusedSimpArgs false
set_option maxRecDepth 100000
set_option maxHeartbeats 200000
namespace Go.Proofs.YtmiijlecfiddmaaGreat
namespace Node
def pr (r : Node) : Int × Int × (Nat -> Int) × (Nat -> Int) × (Nat -> Int) := (r.ro,r.cx,r.nx,r.ma,r.ac)
def Idle (r : Node) : Prop := r.ro ≠ 3 -> r.cx = 0 /\ r.nx = zeroF /\ r.ma = zeroF /\ r.ac = zeroF
theorem Idle.of {r r' : Node} (e : r'.pr = r.pr) (h : r.Idle) : r'.Idle := by
 unfold pr at e;injection e with e1 e;injection e with e2 e;injection e with e3 e;injection e with e4 e5;unfold Idle at *;rw [e1,e2,e3,e4,e5];exact h
theorem qcW (r : Node) (a : Nat) : (r.send a).pr = r.pr := by
 unfold send
 split <;> rfl
theorem qQ (r : Node) : r.sendAll.pr = r.pr := by
 obtain ⟨ls,_,e⟩ := qU r r.others;unfold sendAll;rw [e]
 rfl
theorem qkT (l : List Nat) (f : Node -> Nat -> Msg) : ∀ r : Node,(l.foldl (fun r a => r.say (f r a)) r).pr = r.pr := by
 induction l with
 | nil => intro r; rfl
 | cons a l ih => intro r; exact ih _
theorem qdG (r : Node) (k t : Int) : (r.ask k t).pr = r.pr := qkT _ _ _
theorem qbZ (r : Node) : r.tell.pr = r.pr := rfl
theorem qV (r : Node) : r.settle.1.pr = r.pr := by
 unfold settle;dsimp only
 split <;> rfl
theorem qao {r r' : Node} (e : r'.pr = r.pr) : r'.ro = r.ro := congrArg Prod.fst e
theorem qaR {r : Node} (h : r.ro = 3) : r.Idle := fun e => absurd h e
theorem qen (r : Node) (t l : Int) : (r.fall t l).Idle := fun _ => ⟨rfl,rfl,rfl,rfl⟩
theorem qck {r : Node} (h : r.Idle) (h3 : r.ro ≠ 3) (k : Int) : (r.count k).Idle := fun _ => h h3
theorem qgB (r : Node) : r.rise.ro = 3 := by
 unfold rise;dsimp only;rw [qao (qQ _),qao (qV _)]
theorem qfV {r : Node} (h : r.Idle) (h3 : r.ro ≠ 3) : r.run.Idle := by
 unfold run;dsimp only
 split
 · exact qaR (qgB _)
 · exact Idle.of (qdG _ _ _) (qck (r := { r with ht := r.ht + 1,hv := r.id }) h h3 2)
theorem idle_fresh (id n : Nat) (ht hv : Int) (s : Ent) (l : List Ent) : (fresh id n ht hv s l).Idle := fun _ => ⟨rfl,rfl,rfl,rfl⟩
theorem idle_tick {r : Node} (h : r.Idle) : r.tick.Idle := by
 unfold tick;dsimp only
 split
 · rename_i h1;exact qaR ((qao (qQ _)).trans h1.1)
 · split
   · exact h
   · rename_i h2
     have h3 : r.ro ≠ 3 := fun e => h2 (.inl e)
     split
     · exact qfV (qck (r := { r with wk := r.wk + 1 }) h h3 1) (show (1 : Int) ≠ 3 by decide)
     · exact Idle.of (qdG _ _ _) (qck (r := { r with wk := r.wk + 1 }) h h3 1)
theorem qiK {r : Node} (h : r.Idle) (m : Msg) : (r.said m).Idle := by
 unfold said
 split
 · exact h
 · rename_i h1
   split
   · exact h
   · dsimp only;generalize (if m.b = true then (1 : Int) else 2) = v
     split
     · split
       · rename_i h4;exact qfV (r := { r with sy := put r.sy m.f.toNat v }) h (by show r.ro ≠ 3; have : r.ro = 1 := h4; omega)
       · exact qaR (qgB _)
     · split
       · exact qen _ _ _
       · exact h
theorem qjT {r : Node} (h : r.Idle) (m : Msg) : (r.app m).Idle := by
 unfold app
 split
 · exact h
 · dsimp only
   split
   · exact fun _ => ⟨rfl,rfl,rfl,rfl⟩
   · exact fun _ => ⟨rfl,rfl,rfl,rfl⟩
theorem qhg {r : Node} (h : r.Idle) (m : Msg) : (r.whole m).Idle := by
 unfold whole
 split
 · exact h
 · dsimp only
   split
   · split
     · exact fun _ => ⟨rfl,rfl,rfl,rfl⟩
     · exact fun _ => ⟨rfl,rfl,rfl,rfl⟩
   · exact fun _ => ⟨rfl,rfl,rfl,rfl⟩
theorem qiL {r : Node} (h : r.Idle) (m : Msg) : (r.poll m).Idle := by
 unfold poll
 split
 · exact h
 · exact h
theorem qiM {r : Node} (h : r.Idle) (m : Msg) : (r.vote m).Idle := by
 unfold vote
 split
 · exact h
 · exact h
theorem qjU (r : Node) (m : Msg) : (r.apped m).ro = r.ro := by
 unfold apped
 split
 · rfl
 · dsimp only
   have hx : (if m.x <= r.cx /\ r.ac m.f.toNat < m.x then { r with ac := put r.ac m.f.toNat m.x } else r).ro = r.ro := by split <;> rfl
   generalize (if m.x <= r.cx /\ r.ac m.f.toNat < m.x then { r with ac := put r.ac m.f.toNat m.x } else r) = R at hx ⊢
   split
   · rw [qao (qbZ _),qao (qcW _ _)];exact hx
   · rw [qao (qbZ _)]
     split
     · rw [qao (qQ _),qao (qV _)];exact hx
     · split
       · rw [qao (qcW _ _),qao (qV _)];exact hx
       · rw [qao (qV _)];exact hx
theorem qhh {r : Node} (h : r.Idle) (m : Msg) : (r.apped m).Idle := by
 by_cases h3 : r.ro = 3
 · exact qaR ((qjU r m).trans h3)
 · have e : r.apped m = r := by
    unfold apped;exact if_pos h3
   rw [e];exact h
theorem idle_step {r : Node} (h : r.Idle) (m : Msg) : (r.step m).Idle := by
 unfold step
 split
 · split
   · exact h
   · split <;> exact h
 · dsimp only
   have hx : (if r.ht < m.t /\ m.k ≠ 1 /\ (m.k ≠ 2 \/ m.b = false) then r.fall m.t (if m.k = 5 \/ m.k = 7 then m.f else -1) else r).Idle := by
    split
    · exact qen _ _ _
    · exact h
   split
   · exact qiL hx m
   · split
     · exact qiK hx m
     · split
       · exact qiM hx m
       · split
         · exact qjT hx m
         · split
           · exact qhh hx m
           · exact qhg hx m
theorem idle_propose {r : Node} (h : r.Idle) (d : List UInt8) : (r.propose d).1.Idle := by
 unfold propose
 split
 · exact h
 · rename_i h1;have h3 : r.ro = 3 := Classical.not_not.1 h1
   split
   · exact h
   · split
     · exact h
     · exact qaR (by show (sendAll _).ro = 3; rw [qao (qQ _),qao (qV _)]; exact h3)
theorem idle_read {r : Node} (h : r.Idle) : r.read.1.Idle := by
 unfold read
 split
 · exact h
 · rename_i h1;have h3 : r.ro = 3 := Classical.not_not.1 h1
   split
   · exact h
   · exact qaR (by show (sendAll _).ro = 3; rw [qao (qQ _),qao (qbZ _)]; exact h3)
theorem idle_compact {r : Node} (h : r.Idle) (x : Int) (d : List UInt8) : (r.compact x d).1.Idle := by
 unfold compact
 split
 · exact h
 · split
   · exact h
   · exact h
theorem idle_took {r : Node} (h : r.Idle) : r.took.1.Idle := h
end Node
end Go.Proofs.YtmiijlecfiddmaaGreat
set_option linter.unusedVariables false
set_option linter.unusedSimpArgs false
set_option maxRecDepth 100000
set_option maxHeartbeats 200000
namespace Go.Proofs.YtmiijlecfiddmaaGreat
namespace Node
def Bnd (r : Node) : Prop := ∀ j,(0 <= r.ma j /\ r.ma j <= 1099511627776) /\ (0 <= r.nx j /\ r.nx j <= 1099511627777)
theorem Bnd.of {r r' : Node} (e : r'.pr = r.pr) (h : r.Bnd) : r'.Bnd := by
 unfold pr at e;injection e with e1 e;injection e with e2 e;injection e with e3 e;injection e with e4 e5;unfold Bnd at *;rw [e3,e4];exact h
theorem qay {r : Node} (h1 : r.nx = zeroF) (h2 : r.ma = zeroF) : r.Bnd := fun j => by
 rw [h1,h2];show (0 <= (0 : Int) /\ (0 : Int) <= 1099511627776) /\ (0 <= (0 : Int) /\ (0 : Int) <= 1099511627777);omega
theorem qfW {r : Node} (h : 0 <= r.lg.lastI /\ r.lg.lastI <= 1099511627776) : r.rise.Bnd := by
 unfold rise;dsimp only;refine Bnd.of ((qQ _).trans (qV _)) fun j => ?_;show (0 <= (0 : Int) /\ (0 : Int) <= 1099511627776) /\ (0 <= (if j < r.n /\ j ≠ r.id then r.lg.lastI + 1 else 0) /\ (if j < r.n /\ j ≠ r.id then r.lg.lastI + 1 else 0) <= 1099511627777)
 split <;> omega
theorem qgC {r : Node} (h : r.Bnd) (hl : 0 <= r.lg.lastI /\ r.lg.lastI <= 1099511627776) : r.run.Bnd := by
 unfold run;dsimp only
 split
 · exact qfW hl
 · exact Bnd.of (qdG _ _ _) h
theorem bnd_tick {r : Node} (h : r.Bnd) (hl : 0 <= r.lg.lastI /\ r.lg.lastI <= 1099511627776) : r.tick.Bnd := by
 unfold tick;dsimp only
 split
 · exact Bnd.of (qQ _) h
 · split
   · exact h
   · split
     · exact qgC h hl
     · exact Bnd.of (qdG _ _ _) h
theorem qjV {r : Node} (h : r.Bnd) (hl : 0 <= r.lg.lastI /\ r.lg.lastI <= 1099511627776) (m : Msg) : (r.said m).Bnd := by
 unfold said
 split
 · exact h
 · split
   · exact h
   · dsimp only;generalize (if m.b = true then (1 : Int) else 2) = v
     split
     · split
       · exact qgC (r := { r with sy := put r.sy m.f.toNat v }) h hl
       · exact qfW (r := { r with sy := put r.sy m.f.toNat v }) hl
     · split
       · exact qay rfl rfl
       · exact h
theorem qkU {r : Node} (h : r.Bnd) (m : Msg) : (r.app m).Bnd := by
 unfold app
 split
 · exact h
 · dsimp only
   split
   · exact qay rfl rfl
   · exact qay rfl rfl
theorem qiN {r : Node} (h : r.Bnd) (m : Msg) : (r.whole m).Bnd := by
 unfold whole
 split
 · exact h
 · dsimp only
   split
   · split
     · exact qay rfl rfl
     · exact qay rfl rfl
   · exact qay rfl rfl
theorem put_same (f : Nat -> Int) (a : Nat) (v : Int) : put f a v a = v := if_pos rfl
theorem qkV {r : Node} (h : r.Bnd) (k : Nat) {a b : Int} (ha : 0 <= a /\ a <= 1099511627776) (hb : 0 <= b /\ b <= 1099511627777) : ∀ j,(0 <= put r.ma k a j /\ put r.ma k a j <= 1099511627776) /\ (0 <= put r.nx k b j /\ put r.nx k b j <= 1099511627777) := fun j => by
 unfold put
 split
 · exact ⟨ha,hb⟩
 · exact h j
theorem qiO {r : Node} (h : r.Bnd) (hl : 0 <= r.lg.lastI /\ r.lg.lastI <= 1099511627776) (m : Msg) (hi : 0 <= m.i) : (r.apped m).Bnd := by
 unfold apped
 split
 · exact h
 · dsimp only
   have hx : (if m.x <= r.cx /\ r.ac m.f.toNat < m.x then { r with ac := put r.ac m.f.toNat m.x } else r).Bnd := by split <;> exact h
   have hy : (if m.x <= r.cx /\ r.ac m.f.toNat < m.x then { r with ac := put r.ac m.f.toNat m.x } else r).lg = r.lg := by split <;> rfl
   generalize (if m.x <= r.cx /\ r.ac m.f.toNat < m.x then { r with ac := put r.ac m.f.toNat m.x } else r) = R at hx hy ⊢;rw [<- hy] at hl
   have h1 := hx m.f.toNat
   split
   · refine Bnd.of ((qbZ _).trans (qcW _ _)) ?_;intro j;refine ⟨(hx j).1,?_⟩;show 0 <= put R.nx m.f.toNat _ j /\ put R.nx m.f.toNat _ j <= 1099511627777;unfold put
     split
     · omega
     · exact (hx j).2
   · have hz : ∀ (M : Node),M = { R with ma := put R.ma m.f.toNat (max (R.ma m.f.toNat) (min m.i R.lg.lastI)),nx := put R.nx m.f.toNat (max (R.nx m.f.toNat) (put R.ma m.f.toNat (max (R.ma m.f.toNat) (min m.i R.lg.lastI)) m.f.toNat + 1)) } -> M.Bnd := fun M e => by
      subst e;rw [put_same];exact qkV hx m.f.toNat (by omega) (by omega)
     have hz2 := hz _ rfl;refine Bnd.of (qbZ _) ?_
     split
     · exact Bnd.of ((qQ _).trans (qV _)) hz2
     · split
       · exact Bnd.of ((qcW _ _).trans (qV _)) hz2
       · exact Bnd.of (qV _) hz2
theorem bnd_step {r : Node} (h : r.Bnd) (hl : 0 <= r.lg.lastI /\ r.lg.lastI <= 1099511627776) (m : Msg) (hi : 0 <= m.i) : (r.step m).Bnd := by
 unfold step
 split
 · split
   · exact h
   · split <;> exact h
 · dsimp only
   have hx : (if r.ht < m.t /\ m.k ≠ 1 /\ (m.k ≠ 2 \/ m.b = false) then r.fall m.t (if m.k = 5 \/ m.k = 7 then m.f else -1) else r).Bnd := by
    split
    · exact qay rfl rfl
    · exact h
   have hy : (if r.ht < m.t /\ m.k ≠ 1 /\ (m.k ≠ 2 \/ m.b = false) then r.fall m.t (if m.k = 5 \/ m.k = 7 then m.f else -1) else r).lg = r.lg := by split <;> rfl
   generalize (if r.ht < m.t /\ m.k ≠ 1 /\ (m.k ≠ 2 \/ m.b = false) then r.fall m.t (if m.k = 5 \/ m.k = 7 then m.f else -1) else r) = R at hx hy ⊢;rw [<- hy] at hl
   split
   · unfold poll
     split <;> exact hx
   · split
     · exact qjV hx hl m
     · split
       · unfold vote
         split <;> exact hx
       · split
         · exact qkU hx m
         · split
           · exact qiO hx hl m hi
           · exact qiN hx m
theorem bnd_propose {r : Node} (h : r.Bnd) (d : List UInt8) : (r.propose d).1.Bnd := by
 unfold propose
 split
 · exact h
 · split
   · exact h
   · split
     · exact h
     · exact Bnd.of ((qQ _).trans (qV _)) h
theorem bnd_read {r : Node} (h : r.Bnd) : r.read.1.Bnd := by
 unfold read
 split
 · exact h
 · split
   · exact h
   · exact Bnd.of (qQ _) h
theorem bnd_compact {r : Node} (h : r.Bnd) (x : Int) (d : List UInt8) : (r.compact x d).1.Bnd := by
 unfold compact
 split
 · exact h
 · split
   · exact h
   · exact h
theorem bnd_took {r : Node} (h : r.Bnd) : r.took.1.Bnd := h
theorem bnd_fresh (id n : Nat) (ht hv : Int) (s : Ent) (l : List Ent) : (fresh id n ht hv s l).Bnd := qay rfl rfl
end Node
end Go.Proofs.YtmiijlecfiddmaaGreat
set_option linter.unusedVariables false
set_option linter.unusedSimpArgs false
set_option maxRecDepth 100000
set_option maxHeartbeats 200000
namespace Go.Proofs.YtmiijlecfiddmaaGreat
namespace Node
def pq (r : Node) : Int × List (Int × Int) × List (Int × Int) := (r.wk,r.td,r.rd)
def Small (K : Nat) (r : Node) : Prop := (0 <= r.wk /\ r.wk <= (K : Int)) /\ r.td.length + r.rd.length <= K
theorem Small.mono {K K' : Nat} {r : Node} (h : r.Small K) (hk : K <= K') : r.Small K' := by
 obtain ⟨h1,h2⟩ := h;exact ⟨by omega,by omega⟩
theorem Small.of {K : Nat} {r r' : Node} (e : r'.pq = r.pq) (h : r.Small K) : r'.Small K := by
 unfold pq at e;injection e with e1 e;injection e with e2 e3;unfold Small at *;rw [e1,e2,e3];exact h
theorem qgD (r : Node) (a : Nat) : (r.send a).pq = r.pq := by
 unfold send
 split <;> rfl
theorem qaX (r : Node) : r.sendAll.pq = r.pq := by
 obtain ⟨ls,_,e⟩ := qU r r.others;unfold sendAll;rw [e]
 rfl
theorem qkW (l : List Nat) (f : Node -> Nat -> Msg) : ∀ r : Node,(l.foldl (fun r a => r.say (f r a)) r).pq = r.pq := by
 induction l with
 | nil => intro r; rfl
 | cons a l ih => intro r; exact ih _
theorem qiP (r : Node) (k t : Int) : (r.ask k t).pq = r.pq := qkW _ _ _
theorem qbe (r : Node) : r.settle.1.pq = r.pq := by
 unfold settle;dsimp only
 split <;> rfl
theorem qcl {K : Nat} {r : Node} (h : r.Small K) : r.tell.Small K := by
 refine ⟨h.1,?_⟩;have h2 := h.2;show (r.td ++ r.rd.takeWhile (fun x => r.known x.1)).length + (r.rd.dropWhile (fun x => r.known x.1)).length <= K
 have h3 : (r.rd.takeWhile (fun x => r.known x.1) ++ r.rd.dropWhile (fun x => r.known x.1)).length = r.rd.length := by rw [List.takeWhile_append_dropWhile]
 rw [List.length_append] at h3 ⊢;omega
theorem qbi {K : Nat} {r : Node} (h : r.Small K) (t l : Int) : (r.fall t l).Small K := by
 have h2 := h.2;refine ⟨⟨Int.le_refl 0,Int.natCast_nonneg K⟩,?_⟩;show r.td.length + 0 <= K;omega
theorem qa9 {K : Nat} {r : Node} (h : r.Small K) (k : Int) : (r.count k).Small K := ⟨⟨Int.le_refl 0,Int.natCast_nonneg K⟩,h.2⟩
theorem qdH {K : Nat} {r : Node} (h : r.Small K) : r.rise.Small K := by
 have h2 := h.2;unfold rise;dsimp only;refine Small.of ((qaX _).trans (qbe _)) ⟨⟨Int.le_refl 0,Int.natCast_nonneg K⟩,?_⟩;show r.td.length + 0 <= K;omega
theorem qeo {K : Nat} {r : Node} (h : r.Small K) : r.run.Small K := by
 unfold run;dsimp only
 split
 · exact qdH (qa9 (r := { r with ht := r.ht + 1,hv := r.id }) h 2)
 · exact Small.of (qiP _ _ _) (qa9 (r := { r with ht := r.ht + 1,hv := r.id }) h 2)
theorem small_tick {K : Nat} {r : Node} (h : r.Small K) : r.tick.Small (K + 1) := by
 have h1 : ({ r with wk := r.wk + 1 } : Node).Small (K + 1) := by
  obtain ⟨h1,h2⟩ := h;refine ⟨?_,by show r.td.length + r.rd.length <= K + 1; omega⟩;show 0 <= r.wk + 1 /\ r.wk + 1 <= ((K + 1 : Nat) : Int);omega
 unfold tick;dsimp only
 split
 · refine Small.of (qaX _) ⟨⟨Int.le_refl 0,Int.natCast_nonneg (K + 1)⟩,h1.2⟩
 · split
   · exact h1
   · split
     · exact qeo (qa9 h1 1)
     · exact Small.of (qiP _ _ _) (qa9 h1 1)
theorem qhi {K : Nat} {r : Node} (h : r.Small K) (m : Msg) : (r.said m).Small K := by
 unfold said
 split
 · exact h
 · split
   · exact h
   · dsimp only;generalize (if m.b = true then (1 : Int) else 2) = v
     split
     · split
       · exact qeo (r := { r with sy := put r.sy m.f.toNat v }) h
       · exact qdH (r := { r with sy := put r.sy m.f.toNat v }) h
     · split
       · exact qbi (r := { r with sy := put r.sy m.f.toNat v }) h _ _
       · exact h
theorem qiQ {K : Nat} {r : Node} (h : r.Small K) (m : Msg) : (r.app m).Small K := by
 have hf := qbi h m.t m.f;unfold app
 split
 · exact h
 · dsimp only
   split
   · exact hf
   · exact hf
theorem qgk {K : Nat} {r : Node} (h : r.Small K) (m : Msg) : (r.whole m).Small K := by
 have hf := qbi h m.t m.f;unfold whole
 split
 · exact h
 · dsimp only
   split
   · split
     · exact hf
     · exact hf
   · exact hf
theorem qgl {K : Nat} {r : Node} (h : r.Small K) (m : Msg) : (r.apped m).Small K := by
 unfold apped
 split
 · exact h
 · dsimp only
   have hx : (if m.x <= r.cx /\ r.ac m.f.toNat < m.x then { r with ac := put r.ac m.f.toNat m.x } else r).Small K := by split <;> exact h
   generalize (if m.x <= r.cx /\ r.ac m.f.toNat < m.x then { r with ac := put r.ac m.f.toNat m.x } else r) = R at hx ⊢
   split
   · exact qcl (Small.of (qgD _ _) hx)
   · refine qcl ?_
     split
     · exact Small.of ((qaX _).trans (qbe _)) hx
     · split
       · exact Small.of ((qgD _ _).trans (qbe _)) hx
       · exact Small.of (qbe _) hx
theorem small_step {K : Nat} {r : Node} (h : r.Small K) (m : Msg) : (r.step m).Small K := by
 unfold step
 split
 · split
   · exact h
   · split <;> exact h
 · dsimp only
   have hx : (if r.ht < m.t /\ m.k ≠ 1 /\ (m.k ≠ 2 \/ m.b = false) then r.fall m.t (if m.k = 5 \/ m.k = 7 then m.f else -1) else r).Small K := by
    split
    · exact qbi h _ _
    · exact h
   generalize (if r.ht < m.t /\ m.k ≠ 1 /\ (m.k ≠ 2 \/ m.b = false) then r.fall m.t (if m.k = 5 \/ m.k = 7 then m.f else -1) else r) = R at hx ⊢
   split
   · unfold poll
     split <;> exact hx
   · split
     · exact qhi hx m
     · split
       · unfold vote
         split
         · exact ⟨⟨Int.le_refl 0,Int.natCast_nonneg K⟩,hx.2⟩
         · exact hx
       · split
         · exact qiQ hx m
         · split
           · exact qgl hx m
           · exact qgk hx m
theorem small_propose {K : Nat} {r : Node} (h : r.Small K) (d : List UInt8) : (r.propose d).1.Small K := by
 unfold propose
 split
 · exact h
 · split
   · exact h
   · split
     · exact h
     · exact Small.of ((qaX _).trans (qbe _)) h
theorem small_read {K : Nat} {r : Node} (h : r.Small K) : r.read.1.Small (K + 1) := by
 unfold read
 split
 · exact h.mono (by omega)
 · split
   · exact h.mono (by omega)
   · refine Small.of (qaX _) (qcl ⟨⟨h.1.1,by have := h.1.2; show r.wk <= ((K + 1 : Nat) : Int); omega⟩,?_⟩);have h2 := h.2;show r.td.length + (r.rd ++ [(r.cx + 1,r.cm)]).length <= K + 1;rw [List.length_append];show r.td.length + (r.rd.length + 1) <= K + 1;omega
theorem small_compact {K : Nat} {r : Node} (h : r.Small K) (x : Int) (d : List UInt8) : (r.compact x d).1.Small K := by
 unfold compact
 split
 · exact h
 · split
   · exact h
   · exact h
theorem small_took {K : Nat} {r : Node} (h : r.Small K) : r.took.1.Small K := by
 have h2 := h.2;refine ⟨h.1,?_⟩;show 0 + r.rd.length <= K;omega
theorem small_fresh (id n : Nat) (ht hv : Int) (s : Ent) (l : List Ent) (K : Nat) : (fresh id n ht hv s l).Small K := ⟨⟨Int.le_refl 0,Int.natCast_nonneg K⟩,by show 0 + 0 <= K; omega⟩
end Node
end Go.Proofs.YtmiijlecfiddmaaGreat
set_option linter.unusedVariables false
set_option linter.unusedSimpArgs false
set_option maxRecDepth 100000
set_option maxHeartbeats 200000
namespace Go.Proofs.YtmiijlecfiddmaaGreat
namespace Node
def More (B : Nat) (r r' : Node) : Prop := r'.n = r.n /\ r'.ms.length <= r.ms.length + B
theorem More.refl (r : Node) (B : Nat) : More B r r := ⟨rfl,by omega⟩
theorem More.same {B : Nat} {r r' : Node} (h1 : r'.n = r.n) (h2 : r'.ms = r.ms) : More B r r' := ⟨h1,by rw [h2]; omega⟩
theorem More.mono {B B' : Nat} {r r' : Node} (h : More B r r') (hB : B <= B') : More B' r r' := ⟨h.1,by have := h.2; omega⟩
theorem More.trans {B B' : Nat} {r r' r'' : Node} (h : More B r r') (h' : More B' r' r'') : More (B + B') r r'' := ⟨h'.1.trans h.1,by have := h.2; have := h'.2; omega⟩
theorem More.from {B : Nat} {r r0 r' : Node} (h1 : r0.n = r.n) (h2 : r0.ms = r.ms) (h : More B r0 r') : More B r r' := ⟨h.1.trans h1,by have := h.2; rw [h2] at this; exact this⟩
theorem more_say (r : Node) (m : Msg) : More 1 r (r.say m) := ⟨rfl,by show (r.ms ++ [_]).length <= _; rw [List.length_append]; exact nlq⟩
theorem qep (r : Node) (a : Nat) : More 1 r (r.send a) := by
 unfold send
 split <;> exact more_say _ _
theorem qeq (r : Node) : r.others.length <= r.n := by
 unfold others;have := List.length_filter_le (fun k => decide (k ≠ r.id)) (List.range r.n)
 rwa [List.length_range] at this
theorem qby (r : Node) : More r.n r r.sendAll := by
 obtain ⟨ls,h,e⟩ := qU r r.others;have := qeq r;unfold sendAll;rw [e];exact ⟨rfl,by show (r.ms ++ ls).length <= _; rw [List.length_append]; omega⟩
theorem qiR (l : List Nat) (f : Node -> Nat -> Msg) : ∀ r : Node,More l.length r (l.foldl (fun r a => r.say (f r a)) r) := by
 induction l with
 | nil => intro r; exact More.refl _ _
 | cons a l ih => intro r; exact ((more_say r (f r a)).trans (ih _)).mono (by show 1 + l.length <= l.length + 1; omega)
theorem qfX (r : Node) (k t : Int) : More r.n r (r.ask k t) := (qiR _ _ _).mono (qeq r)
theorem qbV (r : Node) : More 0 r r.settle.1 := by
 unfold settle;dsimp only
 split
 · exact More.refl _ _
 · exact More.same rfl rfl
theorem qbz (r : Node) : More r.n r r.settle.1.sendAll := by
 have h := qbV r;exact (h.trans (qby _)).mono (by rw [h.1]; omega)
theorem qer (r : Node) : More r.n r r.rise := by
 unfold rise;dsimp only;exact More.from (r0 := { r with ro := 3,ld := r.id,wk := 0,cx := 0,rd := [],ma := zeroF,ac := zeroF,nx := fun k => if k < r.n /\ k ≠ r.id then r.lg.lastI + 1 else 0,lg := _ }) rfl rfl (qbz _)
theorem qfY (r : Node) : More r.n r r.run := by
 unfold run;dsimp only
 split
 · exact More.from (r0 := ({ r with ht := r.ht + 1,hv := r.id } : Node).count 2) rfl rfl (qer _)
 · exact More.from (r0 := ({ r with ht := r.ht + 1,hv := r.id } : Node).count 2) rfl rfl (qfX _ _ _)
theorem more_tick (r : Node) : More r.n r r.tick := by
 unfold tick;dsimp only
 split
 · exact More.from (r0 := { r with wk := 0 }) rfl rfl (qby _)
 · split
   · exact More.same rfl rfl
   · split
     · exact More.from (r0 := ({ r with wk := r.wk + 1 } : Node).count 1) rfl rfl (qfY _)
     · exact More.from (r0 := ({ r with wk := r.wk + 1 } : Node).count 1) rfl rfl (qfX _ _ _)
theorem qiS (r : Node) (m : Msg) : More r.n r (r.said m) := by
 unfold said
 split
 · exact More.refl _ _
 · split
   · exact More.refl _ _
   · dsimp only;generalize (if m.b = true then (1 : Int) else 2) = v
     split
     · split
       · exact More.from (r0 := { r with sy := put r.sy m.f.toNat v }) rfl rfl (qfY _)
       · exact More.from (r0 := { r with sy := put r.sy m.f.toNat v }) rfl rfl (qer _)
     · split
       · exact More.same rfl rfl
       · exact More.same rfl rfl
theorem qjW (r : Node) (m : Msg) : More 1 r (r.app m) := by
 unfold app
 split
 · exact More.refl _ _
 · dsimp only
   split
   · exact More.from (r0 := r.fall m.t m.f) rfl rfl (more_say _ _)
   · exact More.from (r0 := { r.fall m.t m.f with lg := _,cm := _ }) rfl rfl (more_say _ _)
theorem qhj (r : Node) (m : Msg) : More 1 r (r.whole m) := by
 unfold whole
 split
 · exact More.refl _ _
 · dsimp only
   split
   · split
     · exact More.from (r0 := { r.fall m.t m.f with cm := m.s.i }) rfl rfl (more_say _ _)
     · exact More.from (r0 := { r.fall m.t m.f with lg := _,sn := m.s,kp := true,cm := m.s.i }) rfl rfl (more_say _ _)
   · exact More.from (r0 := r.fall m.t m.f) rfl rfl (more_say _ _)
theorem qhk (r : Node) (m : Msg) : More (r.n + 1) r (r.apped m) := by
 unfold apped
 split
 · exact More.refl _ _
 · dsimp only
   have hx : (if m.x <= r.cx /\ r.ac m.f.toNat < m.x then { r with ac := put r.ac m.f.toNat m.x } else r).n = r.n /\ (if m.x <= r.cx /\ r.ac m.f.toNat < m.x then { r with ac := put r.ac m.f.toNat m.x } else r).ms = r.ms := by split <;> exact ⟨rfl,rfl⟩
   generalize (if m.x <= r.cx /\ r.ac m.f.toNat < m.x then { r with ac := put r.ac m.f.toNat m.x } else r) = R at hx ⊢;refine More.from hx.1 hx.2 ?_;rw [<- hx.1]
   split
   · exact ((More.from (r0 := { R with nx := _ }) rfl rfl (qep _ _)).trans (More.same (B := 0) rfl rfl)).mono (by omega)
   · refine More.trans (B := R.n + 1) (B' := 0) ?_ (More.same rfl rfl)
     split
     · exact (More.from (r0 := { R with ma := _,nx := _ }) rfl rfl (qbz _)).mono (by show R.n <= R.n + 1; omega)
     · split
       · exact (More.from (r0 := { R with ma := _,nx := _ }) rfl rfl ((qbV _).trans (qep _ _))).mono (by omega)
       · exact (More.from (r0 := { R with ma := _,nx := _ }) rfl rfl (qbV _)).mono (by omega)
theorem more_step (r : Node) (m : Msg) : More (r.n + 1) r (r.step m) := by
 unfold step
 split
 · split
   · exact (more_say _ _).mono (by omega)
   · split
     · exact (more_say _ _).mono (by omega)
     · exact More.refl _ _
 · dsimp only
   have hx : (if r.ht < m.t /\ m.k ≠ 1 /\ (m.k ≠ 2 \/ m.b = false) then r.fall m.t (if m.k = 5 \/ m.k = 7 then m.f else -1) else r).n = r.n /\ (if r.ht < m.t /\ m.k ≠ 1 /\ (m.k ≠ 2 \/ m.b = false) then r.fall m.t (if m.k = 5 \/ m.k = 7 then m.f else -1) else r).ms = r.ms := by split <;> exact ⟨rfl,rfl⟩
   generalize (if r.ht < m.t /\ m.k ≠ 1 /\ (m.k ≠ 2 \/ m.b = false) then r.fall m.t (if m.k = 5 \/ m.k = 7 then m.f else -1) else r) = R at hx ⊢;refine More.from hx.1 hx.2 ?_;rw [<- hx.1]
   split
   · unfold poll
     split <;> exact (more_say _ _).mono (by omega)
   · split
     · exact (qiS _ _).mono (by omega)
     · split
       · unfold vote
         split
         · exact (More.from (r0 := { R with hv := m.f,wk := 0 }) rfl rfl (more_say _ _)).mono (by omega)
         · exact (more_say _ _).mono (by omega)
       · split
         · exact (qjW _ _).mono (by omega)
         · split
           · exact qhk _ _
           · exact (qhj _ _).mono (by omega)
theorem more_propose (r : Node) (d : List UInt8) : More r.n r (r.propose d).1 := by
 unfold propose
 split
 · exact More.refl _ _
 · split
   · exact More.refl _ _
   · split
     · exact More.refl _ _
     · exact More.from (r0 := { r with lg := r.grown d }) rfl rfl (qbz _)
theorem more_read (r : Node) : More r.n r r.read.1 := by
 unfold read
 split
 · exact More.refl _ _
 · split
   · exact More.refl _ _
   · exact More.from (r0 := ({ r with cx := r.cx + 1,rd := r.rd ++ [(r.cx + 1,r.cm)] } : Node).tell) rfl rfl (qby _)
theorem more_compact (r : Node) (x : Int) (d : List UInt8) : More 0 r (r.compact x d).1 := by
 unfold compact
 split
 · exact More.refl _ _
 · split
   · exact More.refl _ _
   · exact More.same rfl rfl
end Node
end Go.Proofs.YtmiijlecfiddmaaGreat
