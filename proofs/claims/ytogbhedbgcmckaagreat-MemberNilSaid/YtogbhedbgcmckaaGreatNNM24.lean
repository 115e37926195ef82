/- The program's New, From, Fresh, Saved, Reset, each by its contract. -/
import Derived.Test.YtogbhedbgcmckaaGreatNNM01
import Derived.Test.YtogbhedbgcmckaaGreatNNM23
import Derived.Test.YtogbhedbgcmckaaGreatNNM15
import Derived.Test.YtogbhedbgcmckaaGreatNNM21
import Derived.Deep.RegionLaw
import Derived.Deep.RegionHeld3
set_option linter.unusedVariables false
set_option linter.unusedSimpArgs false
set_option maxRecDepth 100000
set_option maxHeartbeats 1600000
namespace Go.Proofs.YtogbhedbgcmckaaGreat
open Go.RowKit
theorem qcS {i t : Int} {ls : List Ent} (h : runB i t ls = true) : ∀ e ∈ ls,e.d.length <= 140737488355328 := fun e he => by
 have := (qaj _ _ _).1 (qbw h e he);omega
theorem qj8 (i t : Int) (Z : Nat -> Prop) (A : Option Addr) (n c : Nat) (ls : List Ent) (w : World) (h : Ents w Z A n c ls) (hm : n <= 1000000) (h1 : RL.base i t = true) (h2 : runB i t ls = true) :
 Calls Tryz.prog 64 #[.int .i64 i, .int .i64 t, .slice A n c] w fun e w' => ∃ p,e = .returned (.tuple #[ptrV p, .int .i64 0]) /\ LgR w' p ⟨i,t,ls,0⟩ n (fun q => q < w.heap.size) /\ Below w.heap.size w w' := by
 have hB := fun W => qeP i t W
 have hR := qdv Z A n c ls i t w h (by unfold maxLen; omega);rw [h1] at hB;rw [h2] at hR
 have hC := fun W (hW : Below w.heap.size w W) => qcr Z A n c ls W (h.below hW (Nat.le_refl _)) hm (qcS h2)
 obtain rfl := h.1;clear h h1 h2
 go_enter Tryz.func64,Tryz.ntmps64
 go_wp2_with fail
 refine (hB _).mono ?_;rintro e w1 ⟨rfl,rfl⟩
 go_wp2_with fail
 refine hR.mono ?_;rintro e w2 ⟨rfl,hb2⟩;have hC := hC w2 hb2;clear hR hB
 go_wp2_with fail
 refine hC.mono ?_;rintro e w3 ⟨ys,rfl,hsp,hmap,hok,hb3⟩;have hbw3 := hb2.trans (hb3.mono hb2.size);have hA4 := (Below.refl w3.heap.size w3).alloc (Nat.le_refl _) (.cells #[.int .i64 i, .int .i64 t, .slice (some ⟨w2.heap.size,0,none⟩) ls.length ls.length, .int .i64 (ls.length : Int)] 169);have hs2 := hb2.size
 have hL : LgR (w3.alloc (.cells #[.int .i64 i, .int .i64 t, .slice (some ⟨w2.heap.size,0,none⟩) ls.length ls.length, .int .i64 (ls.length : Int)] 169)) w3.heap.size ⟨i,t,ls,0⟩ ls.length (fun q => q < w.heap.size) := by
  have hs3 := hbw3.size;refine ⟨some ⟨w2.heap.size,0,none⟩,ls.length,ys,heap_alloc_new _ _,hsp.keep fun q hq => hA4.block q (hsp.lt hq),hmap,by omega,fun q hq => ?_,fun x hx => ?_⟩
  · have := hsp.lt hq;rw [qao] at hq;omega
  · refine ((hok x hx).old.keep hA4.size fun q hq _ => hA4.block q hq).mono fun q hq => ⟨by omega,?_,by omega⟩
    rw [qao];omega
 have HL := Lib.hid hL;have hbf := hbw3.alloc hbw3.size (.cells #[.int .i64 i, .int .i64 t, .slice (some ⟨w2.heap.size,0,none⟩) ls.length ls.length, .int .i64 (ls.length : Int)] 169);clear hC hsp hmap hok hb3 hbw3 hA4 hL hb2 hs2;go_wp2
 go_ret2
 exact ⟨w3.heap.size,rfl,HL.out,hbf⟩
theorem qbZ {w : World} {p : Nat} {r : RL} {s : Nat} {Z : Nat -> Prop} {A : Option Addr} {c : Nat} {xs : List Lay} (h : LgAt w p r s Z A c xs) (hm : r.l.length <= 1000000) (hg : qk r) (x many : Int) :
 Calls Tryz.prog 87 #[ptrV p, .int .i64 x, .int .i64 many] w fun e w' => ∃ A' c',e = .returned (.slice A' (r.fromL x many).length c') /\ Ents w' (fun q => w.heap.size <= q) A' (r.fromL x many).length c' (r.fromL x many) /\ c' = (r.fromL x many).length /\ Below w.heap.size w w' := by
 have hnil : ∀ w',Ents w' (fun q => w.heap.size <= q) none 0 0 [] := fun w' => ⟨rfl,Nat.le_refl _,fun _ => rfl,fun h => absurd h (by simp)⟩;rw [hg.from_]
 by_cases hma : many <= 0
 · rw [show many.toNat = 0 by omega,sub_zero];clear h hg
   go_enter Tryz.func87,Tryz.ntmps87
   go_wp2;go_ret;exact ⟨none,0,rfl,hnil _,rfl,Below.refl _ _⟩
 · have q1 : (many <= 0) = False := eq_false hma;have q1d : decide (many <= 0) = false := decide_eq_false hma;have hP := qdQ h.rd hm hg x
   have hpk : ∀ k,r.place x = some k -> k < r.l.length := fun k e => by
    unfold RL.place at e
    split at e
    · injection e with e;omega
    · cases e
   cases hp : r.place x with
   | none =>
     rw [hp] at hP;rw [sub_none hp];clear h hg hpk hp hma
     go_enter Tryz.func87,Tryz.ntmps87
     go_wp2_with fail
     refine hP.mono ?_;rintro e w1 ⟨rfl,hb1⟩;go_wp2;go_ret;exact ⟨none,0,rfl,hnil _,rfl,hb1⟩
   | some k =>
     rw [hp] at hP;have hk := hpk k hp;rw [qj6 hp];clear hnil hpk hp
     have h1 := fun w1 (hb : Below w.heap.size w w1) => h.keep hb.size fun q hq _ => hb.block q hq
     have hs1 := fun W => qdi (A := A) (n := r.l.length) (cap := c) (k := k) (by omega) h.spot.2.1 W
     have hnc := h.spot.2.1;obtain ⟨mm,hmm⟩ : ∃ mm,mm = min many.toNat (r.l.length - k) := ⟨_,rfl⟩
     have hs2 := fun W => qgy (A := qai A c k) (n := r.l.length - k) (cap := c - k) (k := mm) (by omega) W
     have hC := fun w1 (hb : Below w.heap.size w w1) => qcr (fun _ => True) (qai A c k) mm (c - k) (((xs.drop k).take mm).map (·.e)) w1 ((((h1 w1 hb).spot.drop (k := k) (by omega)).take (k := mm) (by omega)).ents (fun _ _ => trivial) (fun y hy => ((h1 w1 hb).lays y (List.mem_of_mem_drop (List.mem_of_mem_take hy))).mono fun _ _ => trivial)) (by omega) (fun e he => by
      obtain ⟨y,hy,rfl⟩ := List.mem_map.1 he;refine qcS hg.run y.e ?_;rw [<- h.map]
      exact List.mem_map.2 ⟨y,List.mem_of_mem_drop (List.mem_of_mem_take hy),rfl⟩)
     have e1 : ((xs.drop k).take mm).map (·.e) = (r.l.drop k).take many.toNat := by
      rw [List.map_take,List.map_drop,h.map,hmm]
      by_cases hc : many.toNat <= r.l.length - k
      · rw [Nat.min_eq_left hc]
      · rw [Nat.min_eq_right (by omega),List.take_of_length_le (by rw [List.length_drop]; omega),List.take_of_length_le (by rw [List.length_drop]; omega)]
     have e2 : ((r.l.drop k).take many.toNat).length = mm := by rw [List.length_take,List.length_drop,hmm]
     have hrow := fun w1 (hb : Below w.heap.size w w1) => (row4 (h1 w1 hb).row).1
     rw [e1] at hC;rw [e2]
     have hmi : ((r.l.length - k : Nat) : Int) < many /\ mm = r.l.length - k \/ many = (mm : Int) /\ mm <= r.l.length - k := by omega
     have HM := Lib.hid hma;clear h hg e1 e2 hmm h1 hma hm q1 q1d;generalize (r.l.drop k).take many.toNat = out at *;generalize r.l.length = n at *;obtain ⟨d,hd⟩ := exq (n - k);rw [hd] at hs1 hs2 hmi
     have hk2 : (k : Int) < (n : Int) := by omega
     have hdc : d <= c - k := by omega
     clear hd;rcases hmi with ⟨m1,m2⟩ | ⟨m1,m2⟩
     · subst m2;have q1 : (many <= 0) = False := eq_false HM.out;have q1d : decide (many <= 0) = false := decide_eq_false HM.out;have q2 : (many < (mm : Int)) = False := eq_false (by omega);have q3 : (many <= (mm : Int)) = False := eq_false (by omega);clear HM
       go_enter Tryz.func87,Tryz.ntmps87
       go_wp2_with fail
       refine hP.mono ?_;rintro e w1 ⟨rfl,hb1⟩;obtain ⟨c0,c1,c2,c3⟩ := hrow w1 hb1;have hC := hC w1 hb1
       have hcs : (mm : Int) <= ((c - k : Nat) : Int) := by omega
       have hcs2 : mm <= c - k := by omega
       have hbz := hb1.size;clear hP hrow
       go_wp2_with fail
       refine hC.mono ?_;rintro e w2 ⟨ys,rfl,hsp,hmap,hok,hb2⟩;have hE := hsp.ents (Z := fun q => w.heap.size <= q) (fun q hq => by rw [qao] at hq; omega) (fun y hy => (hok y hy).mono fun q hq => by omega);rw [hmap] at hE;have HE := Lib.hid hE;clear hC hsp hmap hok hE;go_wp2;go_ret;exact ⟨_,_,rfl,HE.out,rfl,hb1.trans (hb2.mono hb1.size)⟩
     · subst m1;have q1 : ((mm : Int) <= 0) = False := eq_false HM.out;have q1d : decide ((mm : Int) <= 0) = false := decide_eq_false HM.out
       have q2 : (mm : Int) <= (d : Int) := by omega
       have q3 : (mm = 0) = False := eq_false (by have := HM.out; omega);have q4 : decide (mm = 0) = false := decide_eq_false (by have := HM.out; omega);clear HM
       go_enter Tryz.func87,Tryz.ntmps87
       go_wp2_with fail
       refine hP.mono ?_;rintro e w1 ⟨rfl,hb1⟩;obtain ⟨c0,c1,c2,c3⟩ := hrow w1 hb1;have hC := hC w1 hb1
       have hcs : (mm : Int) <= ((c - k : Nat) : Int) := by omega
       have hcs2 : mm <= c - k := by omega
       have hbz := hb1.size;clear hP hrow
       go_wp2_with fail
       refine hC.mono ?_;rintro e w2 ⟨ys,rfl,hsp,hmap,hok,hb2⟩;have hE := hsp.ents (Z := fun q => w.heap.size <= q) (fun q hq => by rw [qao] at hq; omega) (fun y hy => (hok y hy).mono fun q hq => by omega);rw [hmap] at hE;have HE := Lib.hid hE;clear hC hsp hmap hok hE;go_wp2;go_ret;exact ⟨_,_,rfl,HE.out,rfl,hb1.trans (hb2.mono hb1.size)⟩
end Go.Proofs.YtogbhedbgcmckaaGreat
set_option linter.unusedVariables false
set_option linter.unusedSimpArgs false
set_option maxRecDepth 100000
set_option maxHeartbeats 1600000
namespace Go.Proofs.YtogbhedbgcmckaaGreat
open Go.RowKit
theorem qhJ {w : World} {p : Nat} {r : RL} {s : Nat} {Z : Nat -> Prop} {A : Option Addr} {c : Nat} {xs : List Lay} (h : LgAt w p r s Z A c xs) (hm : r.l.length <= 1000000) (hg : qk r) (hs : s <= r.l.length) :
 Calls Tryz.prog 84 #[ptrV p] w fun e w' => ∃ A' c',e = .returned (.slice A' (r.l.drop s).length c') /\ Ents w' (fun q => w.heap.size <= q) A' (r.l.drop s).length c' (r.l.drop s) /\ Below w.heap.size w w' := by
 have hs1 := fun W => qdi (A := A) (n := r.l.length) (cap := c) (k := s) hs h.spot.2.1 W
 have hC := fun w1 (hb : Below w.heap.size w w1) => qcr (fun _ => True) (qai A c s) (r.l.length - s) (c - s) ((xs.drop s).map (·.e)) w1 (((h.keep hb.size fun q hq _ => hb.block q hq).spot.drop (k := s) hs).ents (fun _ _ => trivial) (fun y hy => ((h.keep hb.size fun q hq _ => hb.block q hq).lays y (List.mem_of_mem_drop hy)).mono fun _ _ => trivial)) (by omega) (fun e he => by
  obtain ⟨y,hy,rfl⟩ := List.mem_map.1 he;refine qcS hg.run y.e ?_;rw [<- h.map]
  exact List.mem_map.2 ⟨y,List.mem_of_mem_drop hy,rfl⟩)
 have e1 : (xs.drop s).map (·.e) = r.l.drop s := by rw [List.map_drop,h.map]
 rw [e1] at hC;rw [List.length_drop];obtain ⟨c0,c1,c2,c3⟩ := (row4 h.row).1
 have hsn : (s : Int) <= (r.l.length : Int) := by omega
 have hC := hC w.drew (Below.refl _ _).drew;clear h hg e1 hm;generalize r.l.drop s = out at *;generalize r.l.length = n at *;obtain ⟨d,hd⟩ := exq (n - s);rw [hd] at hs1 hC ⊢;clear hd
 go_enter Tryz.func84,Tryz.ntmps84
 go_wp2
 go_still_tail 9,(by kernel_rfl)
 go_wp2_with fail
 refine hC.mono ?_;rintro e w2 ⟨ys,rfl,hsp,hmap,hok,hb2⟩;have hE := hsp.ents (Z := fun q => w.heap.size <= q) (fun q hq => by rw [qao] at hq; rw [hq]; exact Nat.le_refl _) (fun y hy => (hok y hy).mono fun q hq => Nat.le_of_lt hq);rw [hmap] at hE;have HE := Lib.hid hE;have hbw : Below w.heap.size w w2 := (Below.refl _ _).drew.trans hb2;clear hC hsp hmap hok hE;go_wp2;go_ret;exact ⟨_,_,rfl,HE.out,hbw⟩
theorem LgAt.turn {w w' : World} {p : Nat} {r : RL} {s s' : Nat} {Z : Nat -> Prop} {A : Option Addr} {c : Nat} {xs : List Lay} (h : LgAt w p r s Z A c xs) (hs : w.heap.size <= w'.heap.size) (hrow : w'.heap[p]? = some (.cells (plC r A r.l.length c s') 169)) (hk : ∀ q,q < w.heap.size -> q ≠ p -> w'.heap[q]? = w.heap[q]?) : LgAt w' p r s' Z A c xs :=
 ⟨hrow,h.spot.keep fun q hq => hk q (h.spot.lt hq) (h.own q hq).1,h.map,h.away,h.own,fun x hx => (h.lays x hx).keep hs fun q hq hz => hk q hq hz.1⟩
theorem qhK {w : World} {p : Nat} {a b c d e : Value} {T : TypeId} (h : w.heap[p]? = some (.cells #[a,b,c,d] T)) : (w.setCell ⟨p,3,none⟩ e).heap[p]? = some (.cells #[a,b,c,e] T) := by
 have := setCell_at w ⟨p,3,none⟩ e _ _ _ rfl h
 simpa using this
theorem qhL {w : World} {p : Nat} {r : RL} {s : Nat} {Z : Nat -> Prop} (h : LgR w p r s Z) :
 Calls Tryz.prog 85 #[ptrV p] w fun e w' => e = .returned (.tuple #[]) /\ LgR w' p r r.l.length Z /\ qa Z w w' := by
 obtain ⟨A,c,xs,h⟩ := h;have hr := h.row;have hfin : LgR (w.setCell ⟨p,3,none⟩ (.int .i64 (r.l.length : Int))) p r r.l.length Z := ⟨A,c,xs,h.turn (by simp) (qhK hr) fun q _ hq => Below.heap_setCell _ _ _ _ (by exact hq)⟩;have hk := qg w ⟨p,3,none⟩ (.int .i64 (r.l.length : Int)) (Z := Z) h.away;obtain ⟨⟨c0,c1,c2,c3⟩,⟨f0,f1,f2,f3⟩⟩ := row4 hr;have HF := Lib.hid hfin;clear h hfin hr;generalize r.l.length = n at *
 go_enter Tryz.func85,Tryz.ntmps85
 go_wp2;refine bodyPost_end (results_none rfl _ _ _) rfl ?_;exact ⟨rfl,HF.out,hk⟩
end Go.Proofs.YtogbhedbgcmckaaGreat
set_option linter.unusedVariables false
set_option linter.unusedSimpArgs false
set_option maxRecDepth 100000
set_option maxHeartbeats 200000
namespace Go.Proofs.YtogbhedbgcmckaaGreat
open Go.RowKit
end Go.Proofs.YtogbhedbgcmckaaGreat
set_option linter.unusedVariables false
set_option linter.unusedSimpArgs false
set_option maxRecDepth 100000
set_option maxHeartbeats 200000
namespace Go.Proofs.YtogbhedbgcmckaaGreat
open Go.RowKit
end Go.Proofs.YtogbhedbgcmckaaGreat
set_option linter.unusedVariables false
set_option linter.unusedSimpArgs false
set_option maxRecDepth 100000
set_option maxHeartbeats 200000
namespace Go.Proofs.YtogbhedbgcmckaaGreat
open Go.RowKit
section
variable {P : Program} {fn : Func} {p q u : Tmp} {T T2 : TypeId} {W : World} {n m : Nat} {cs cs2 : Array Value} {fr fr2 : Nat × Nat} {d d2 : TypeDesc} {tmps : Array Value}
end
abbrev zE : Array Value := #[.int .i64 0, .int .i64 0, .slice none 0 0]
theorem qiR (X : World) (b : Nat) (a0 a1 a2 : Value) (q : Nat) (h : q ≠ b) : (((X.setCell ⟨b,0,none⟩ a0).setCell ⟨b,1,none⟩ a1).setCell ⟨b,2,none⟩ a2).heap[q]? = X.heap[q]? :=
 (Below.heap_setCell _ _ _ _ (by exact h)).trans ((Below.heap_setCell _ _ _ _ (by exact h)).trans (Below.heap_setCell _ _ _ _ (by exact h)))
end Go.Proofs.YtogbhedbgcmckaaGreat
set_option linter.unusedVariables false
set_option linter.unusedSimpArgs false
set_option maxRecDepth 100000
set_option maxHeartbeats 200000
namespace Go.Proofs.YtogbhedbgcmckaaGreat
open Go.RowKit
structure Grew (w w' : World) (A : Option Addr) : Prop where
 os : w.os = w'.os
 tape : w.tape = w'.tape
 output : w.output = w'.output
 size : w.heap.size <= w'.heap.size
 block : ∀ q,q < w.heap.size -> ¬ blkR A q -> w'.heap[q]? = w.heap[q]?
theorem Grew.keeps {w w' : World} {A : Option Addr} {Z : Nat -> Prop} (h : Grew w w' A) (hz : ∀ q,blkR A q -> ¬ Z q) : qa Z w w' :=
 ⟨h.os.symm,h.tape.symm,h.output.symm,h.size,fun q hq hz' => h.block q hq fun hb => hz q hb hz'⟩
theorem qdy (w : World) {ops : Array Oper} {o : Oper} {a : Act} {K : Act -> World -> Prop} {Q : Exit -> Act -> World -> Prop} {E : Prop} (hgd : o.guard = none) (sl x : Operand)
 (ho : o.op = .call { callee := .builtin .append,args := #[sl,x],argTypes := #[22,22] })
 (A : Option Addr) (n cap : Nat) (xs : List Lay) (hs : a.eval sl = .slice A n cap) (hsp : qL w A n cap xs) (B : Option Addr) (m c : Nat) (ys : List Lay) (hx : a.eval x = .slice B m c) (hB : B = none -> m = 0) (hl : ys.length = m)
 (hcell : ∀ b,B = some b -> ∀ j u,(rowOf ys)[j]? = some u -> w.cell? (b.add j) = some u) (hf : n + m <= 1000000)
 (h : ∀ A' cap' w',qL w' A' (n + m) cap' (xs ++ ys) -> (∀ q,blkR A' q -> blkR A q \/ w.heap.size <= q) -> Grew w w' A -> K (a.put o.dst (.slice A' (n + m) cap')) w') :
 if Region.wanted o (yielded ops a.tmps) = true then Oper.wp Tryz.prog o a w K Q else E := by
 have hw : Region.wanted o (yielded ops a.tmps) = true := by simp [Region.wanted,hgd]
 rw [if_pos hw];obtain ⟨A',cap',w',hr,h1,h2,h3,h4,h5,h6,h7⟩ := qdx (w := w) o.type hsp B m c hB hl hcell hf;unfold Oper.wp execOp;simp only [ho,resolve,invoke,builtin,Sem.run_bind,Sem.run_pure,Result.andThen_ok,List.map_toArray,List.map_cons,List.map_nil,hs,hx,hr];exact h A' cap' w' h1 h2 ⟨h3,h4,h5,h6,h7⟩
theorem LgAt.added {w2 w3 X w4 : World} {p : Nat} {r : RL} {s0 : Nat} {g : Int} {Z : Nat -> Prop} {A A' : Option Addr} {c c' : Nat} {xs : List Lay} {x : Lay} (h : LgAt w2 p r s0 Z A c xs) (hZ : ∀ q,Z q -> q < w2.heap.size)
 (hb3 : Below w2.heap.size w2 w3) (hx : qs w3 (fun q => w2.heap.size <= q) x) (hbX : Below w3.heap.size w3 X) (hsp : qL w4 A' (r.l.length + 1) c' (xs ++ [x])) (hA : ∀ q,blkR A' q -> blkR A q \/ X.heap.size <= q) (hg : Grew X w4 A) :
 LgR (w4.setCell ⟨p,2,none⟩ (.slice A' (r.l.length + 1) c')) p ⟨r.i,r.t,r.l ++ [x.e],g⟩ s0 Z /\ qa Z w2 (w4.setCell ⟨p,2,none⟩ (.slice A' (r.l.length + 1) c')) := by
 have hbw := hb3.trans (hbX.mono hb3.size)
 have hX := h.keep hbw.size fun q hq _ => hbw.block q hq
 have hs3 := hb3.size;have hsX := hbX.size;have hp2 := hlt h.row
 have hnA : ¬ blkR A p := fun e => (h.own p e).1 rfl
 have hrow4 : w4.heap[p]? = some (.cells (plC r A r.l.length c s0) 169) := (hg.block p (hlt hX.row) hnA).trans hX.row
 have hrow : (w4.setCell ⟨p,2,none⟩ (.slice A' (r.l.length + 1) c')).heap[p]? = some (.cells #[.int .i64 r.i, .int .i64 r.t, .slice A' (r.l.length + 1) c', .int .i64 (s0 : Int)] 169) := by
  have := setCell_at w4 ⟨p,2,none⟩ (.slice A' (r.l.length + 1) c') _ _ _ rfl hrow4
  simpa using this
 have hoff : ∀ q,q ≠ p -> (w4.setCell ⟨p,2,none⟩ (.slice A' (r.l.length + 1) c')).heap[q]? = w4.heap[q]? := fun q hq => Below.heap_setCell _ _ _ _ (by exact hq)
 have hA'p : ∀ q,blkR A' q -> q ≠ p /\ ¬ Z q := fun q hq => by
  rcases hA q hq with h1 | h1
  · exact h.own q h1
  · exact ⟨by omega,fun e => by have := hZ q e; omega⟩
 have hkeep : ∀ y : Lay,qs X (fun q => q ≠ p /\ ¬ blkR A q /\ ¬ Z q /\ q < X.heap.size) y -> qs (w4.setCell ⟨p,2,none⟩ (.slice A' (r.l.length + 1) c')) (fun q => q ≠ p /\ ¬ blkR A' q /\ ¬ Z q) y := fun y hy => by
  refine (hy.keep (by rw [World.size_setCell]; exact hg.size) fun q hq hz => (hoff q hz.1).trans (hg.block q hq hz.2.1)).mono fun q hq => ⟨hq.1,fun e => ?_,hq.2.2.1⟩
  rcases hA q e with h1 | h1
  · exact hq.2.1 h1
  · omega
 constructor
 · refine ⟨A',c',xs ++ [x],?_,?_,?_,h.away,hA'p,fun y hy => ?_⟩
   · show _ = some (Obj.cells #[.int .i64 r.i, .int .i64 r.t, .slice A' (r.l ++ [x.e]).length c', .int .i64 (s0 : Int)] 169);rw [List.length_append];exact hrow
   · show qL _ A' (r.l ++ [x.e]).length c' _;rw [List.length_append]
     exact hsp.keep fun q hq => hoff q (hA'p q hq).1
   · show _ = r.l ++ [x.e];rw [List.map_append,h.map]
     rfl
   · rcases List.mem_append.1 hy with hy | hy
     · exact hkeep y ((hX.lays y hy).old.mono fun q hq => ⟨hq.1.1,hq.1.2.1,hq.1.2.2,hq.2⟩)
     · rw [List.mem_singleton.1 hy]
       have hx3 := hx.old.keep hbX.size fun q hq _ => hbX.block q hq
       refine hkeep x (hx3.mono fun q hq => ⟨by omega,fun e => ?_,fun e => ?_,by omega⟩)
       · have := h.spot.lt e; omega
       · have := hZ q e; omega
 · have k1 := qb (Z := Z) hbw (Nat.le_refl _);have k2 := hg.keeps (Z := Z) fun q hq => (h.own q hq).2;exact (k1.trans k2).trans (qg _ ⟨p,2,none⟩ _ h.away)
theorem qiS (li lt t : Int) (d : List UInt8) : runB li lt [⟨li + 1,t,d⟩] = (rightB (li + 1) t d.length && decide (lt <= t)) := by
 rw [qbi]
 simp [qfF]
end Go.Proofs.YtogbhedbgcmckaaGreat
set_option linter.unusedVariables false
set_option linter.unusedSimpArgs false
set_option maxRecDepth 100000
set_option maxHeartbeats 200000
namespace Go.Proofs.YtogbhedbgcmckaaGreat
open Go.RowKit
end Go.Proofs.YtogbhedbgcmckaaGreat
set_option linter.unusedVariables false
set_option linter.unusedSimpArgs false
set_option maxRecDepth 100000
set_option maxHeartbeats 200000
namespace Go.Proofs.YtogbhedbgcmckaaGreat
open Go.RowKit
theorem cells_one {W : World} {k : Nat} {T : TypeId} (x : Lay) {n : Nat} (hn : x.e.d.length = n) (h : W.heap[k]? = some (.cells #[.int .i64 x.e.i, .int .i64 x.e.t, .slice x.A n x.c] T)) : ∀ j u,(rowOf [x])[j]? = some u -> W.cell? ((⟨k,0,none⟩ : Addr).add j) = some u := by
 intro j u hu;rw [Addr.add_lit,Nat.zero_add,cell_of_row _ _ _ _ _ _ h]
 have e : rowOf [x] = [.int .i64 x.e.i, .int .i64 x.e.t, .slice x.A n x.c] := by simp [rowOf,cells3,hn]
 rw [e] at hu
 simpa using hu
end Go.Proofs.YtogbhedbgcmckaaGreat
set_option linter.unusedVariables false
set_option linter.unusedSimpArgs false
set_option maxRecDepth 100000
set_option maxHeartbeats 200000
namespace Go.Proofs.YtogbhedbgcmckaaGreat
open Go.RowKit
end Go.Proofs.YtogbhedbgcmckaaGreat
set_option linter.unusedVariables false
set_option linter.unusedSimpArgs false
set_option maxRecDepth 100000
set_option maxHeartbeats 200000
namespace Go.Proofs.YtogbhedbgcmckaaGreat
open Go.RowKit
theorem LgR.row4 {w : World} {p : Nat} {r : RL} {s : Nat} {Z : Nat -> Prop} (h : LgR w p r s Z) : w.cell? ⟨p,3,none⟩ = some (.int .i64 (s : Int)) /\ w.frozen? ⟨p,3,none⟩ = false := by
 obtain ⟨A,c,xs,h⟩ := h;obtain ⟨⟨_,_,_,c3⟩,⟨_,_,_,f3⟩⟩ := Proofs.YtogbhedbgcmckaaGreat.row4 h.row;exact ⟨c3,f3⟩
end Go.Proofs.YtogbhedbgcmckaaGreat
set_option linter.unusedVariables false
set_option linter.unusedSimpArgs false
set_option maxRecDepth 100000
set_option maxHeartbeats 200000
namespace Go.Proofs.YtogbhedbgcmckaaGreat
open Go.RowKit
theorem Ents.back {w : World} {Z : Nat -> Prop} {A : Option Addr} {n cap : Nat} {ls : List Ent} (h : Ents w Z A n cap ls) {k : Nat} (hk : k <= n) : Ents w Z (qai A cap k) (n - k) (cap - k) (ls.drop k) := by
 have hl := h.1;have hc := h.2.1;refine ⟨by rw [List.length_drop]; omega,by omega,fun e => ?_,fun h0 => ?_⟩
 · unfold qai at e
   split at e
   · omega
   · cases A with
     | none => have := h.2.2.1 rfl; omega
     | some a => cases e
 · obtain ⟨g,off,e,hg,hz,hcell⟩ := h.2.2.2 (by omega);subst e;refine ⟨g,off + k * 3,by unfold qai; rw [if_neg (by omega),Option.map_some,Addr.add_lit],hg,hz,fun j hj => ?_⟩
   have hj' : k + j < ls.length := by rw [List.length_drop] at hj; omega
   obtain ⟨E,c,c0,c1,c2,r⟩ := hcell (k + j) hj';simp only [List.getElem_drop];exact ⟨E,c,by rw [show off + k * 3 + j * 3 = off + (k + j) * 3 by omega]; exact c0,by rw [show off + k * 3 + j * 3 + 1 = off + (k + j) * 3 + 1 by omega]; exact c1,by rw [show off + k * 3 + j * 3 + 2 = off + (k + j) * 3 + 2 by omega]; exact c2,r⟩
end Go.Proofs.YtogbhedbgcmckaaGreat
