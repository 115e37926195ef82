/- A node is made. -/
import Derived.Test.YtogbhedbgcmckaaGreatNNM01
import Derived.Test.YtogbhedbgcmckaaGreatNNM32
set_option linter.unusedVariables false
set_option linter.unusedSimpArgs false
set_option maxRecDepth 100000
set_option maxHeartbeats 3200000
namespace Go.Proofs.YtogbhedbgcmckaaGreat
open Go.RowKit Go.Shelf
attribute [local go_sem] Oper.semAt_some
theorem qi9 (id n : Nat) (ht hv : Int) (sn : Ent) (l : List Ent) (E4 : Option Addr) (k4 pl : Nat) : rfC (Node.fresh id n ht hv sn l) ⟨E4,k4,pl,none,0,none,0,none,0⟩ = #[.int .i64 (id : Int), .int .i64 (n : Int), .int .i64 ht, .int .i64 hv, .int .i64 sn.i, .int .i64 sn.t, .slice E4 sn.d.length k4, .bool false,ptrV pl, .int .i64 sn.i, .int .i64 0, .int .i64 (-1), .int .i64 0,
 .int .i64 0, .int .i64 0, .int .i64 0, .int .i64 0, .int .i64 0, .int .i64 0, .int .i64 0, .int .i64 0, .int .i64 0, .int .i64 0, .int .i64 0, .int .i64 0, .int .i64 0, .slice none 0 0, .slice none 0 0, .slice none 0 0] := rfl
theorem qkk (id n : Nat) (ht hv : Int) (sn : Ent) (l : List Ent) (E : Option Addr) (c : Nat) (A : Option Addr) (cA : Nat) (Z : Nat -> Prop) (w : World)
 (hn : 1 <= n /\ n <= 3 /\ id < n) (hh : hardB ht hv = true) (hsb : snapB sn.i sn.t sn.d.length = true) (hbase : RL.base sn.i sn.t = true) (hrun : runB sn.i sn.t l = true) (hlt : (⟨sn.i,sn.t,l,0⟩ : RL).lastT <= ht)
 (hE : Lies w E sn.d.length c sn.d) (hEz : 0 < sn.d.length -> ∀ g o,E = some ⟨g,o,none⟩ -> g < w.heap.size) (hsd : sn.d.length <= 50000) (hA : Ents w Z A l.length cA l) (hl : l.length <= 1000000) :
 Calls Tryz.prog 27 #[.int .i64 (id : Int), .int .i64 (n : Int), .agg #[.int .i64 ht, .int .i64 hv], .agg #[.int .i64 sn.i, .int .i64 sn.t, .slice E sn.d.length c], .slice A l.length cA] w
  fun e w' => ∃ p q s K,e = .returned (.tuple #[ptrV p, .int .i64 0]) /\ RfAt w' p (Node.fresh id n ht hv sn l) (fun b => b < w.heap.size) q s [] K /\ frel (⟨sn.i,sn.t,l,0⟩ : RL) s /\ Below w.heap.size w w' := by
 have hHard := fun W => qcg ht hv W
 have hSnap := fun W => qe1 sn.i sn.t E sn.d.length c W
 rw [hh] at hHard;rw [hsb] at hSnap;obtain ⟨W1,hW1⟩ := exq ((w.alloc (.cells #[.int .i64 ht, .int .i64 hv] 54)).alloc (.cells #[.int .i64 sn.i, .int .i64 sn.t, .slice E sn.d.length c] 25))
 have hb1 : Below w.heap.size w W1 := by rw [<- hW1]; exact (blq.alloc nlq _).alloc (by simp) _
 have hr1 : W1.heap[w.heap.size]? = some (.cells #[.int .i64 ht, .int .i64 hv] 54) := by rw [<- hW1]; exact (Below.heap_alloc _ _ _ (by simp)).trans (heap_alloc_new w _)
 have hr2 : W1.heap[w.heap.size + 1]? = some (.cells #[.int .i64 sn.i, .int .i64 sn.t, .slice E sn.d.length c] 25) := by rw [<- hW1]; exact heap_alloc2_new w _ _
 have hsz : W1.heap.size = w.heap.size + 2 := by rw [<- hW1]; simp
 have h0 : ∀ W,Below W1.heap.size W1 W -> W.cell? ⟨w.heap.size,0,none⟩ = some (.int .i64 ht) /\ W.cell? ⟨w.heap.size,1,none⟩ = some (.int .i64 hv) /\ W.cell? ⟨w.heap.size + 1,0,none⟩ = some (.int .i64 sn.i) /\ W.cell? ⟨w.heap.size + 1,1,none⟩ = some (.int .i64 sn.t) /\ W.cell? ⟨w.heap.size + 1,2,none⟩ = some (.slice E sn.d.length c) := fun W hW => by
  have x1 := (hW.block _ (by omega)).trans hr1;have x2 := (hW.block _ (by omega)).trans hr2;exact ⟨qe x1 0 _ rfl,qe x1 1 _ rfl,qe x2 0 _ rfl,qe x2 1 _ rfl,qe x2 2 _ rfl⟩
 have e1 : decide ((n : Int) < 1) = false := decide_eq_false (by omega);have e2 : decide (3 < (n : Int)) = false := decide_eq_false (by omega);have e3 : decide ((id : Int) < 0) = false := decide_eq_false (by omega);have e4 : decide ((n : Int) <= (id : Int)) = false := decide_eq_false (by omega);have e4' : decide (n <= id) = false := decide_eq_false (by omega)
 have hNew := fun W (hW : Below w.heap.size w W) => qj8 sn.i sn.t Z A l.length cA l W (hA.below hW nlq) hl hbase hrun
 obtain ⟨a0,a1,a2,a3,a4⟩ := h0 W1 blq;have HH := hdq7 hb1 h0 hE hEz hsd hl hlt;clear hb1 h0 hE hEz hsd hl hlt hn hh hsb hbase hrun hA hr1 hr2
 go_enter Tryz.func27,Tryz.ntmps27
 go_wp2_with fail
 refine (hHard _).mono ?_;rintro e w2 ⟨rfl,hb2⟩;obtain ⟨b0,b1,b2,b3,b4⟩ := HH.out.2.1 w2 hb2;have HB2 := Lib.hid hb2;clear hHard a0 a1 a2 a3 a4 hb2
 go_wp2_with fail
 refine (hSnap _).mono ?_;rintro e w3 ⟨rfl,hb3⟩;have hb13 := HB2.out.trans (hb3.mono HB2.out.size);obtain ⟨a0,a1,a2,a3,a4⟩ := HH.out.2.1 w3 hb13;have hN := hNew w3 (HH.out.1.trans (hb13.mono (by omega)));have HB3 := Lib.hid hb13;clear hSnap b0 b1 b2 b3 b4 hb3 hb13 hNew
 go_wp2_with fail
 refine hN.mono ?_;rintro e w4 ⟨pl,rfl,hlg,hb4⟩;have hb14 := HB3.out.trans (hb4.mono HB3.out.size);obtain ⟨b0,b1,b2,b3,b4⟩ := HH.out.2.1 w4 hb14;obtain ⟨AA,cc,hrd⟩ := hlg.rd;have hLa := qaZ hrd HH.out.2.2.2.2.2.1;have HB4 := hdq3 hb14 hlg hb4;clear a0 a1 a2 a3 a4 hb4 hb14 hN hlg hrd
 go_wp2_with fail
 refine hLa.mono ?_;rintro e w5 ⟨rfl,hb5⟩;have hb15 := HB4.out.1.trans (hb5.mono HB4.out.1.size);obtain ⟨a0,a1,a2,a3,a4⟩ := HH.out.2.1 w5 hb15;have e5 : decide (ht < (⟨sn.i,sn.t,l,0⟩ : RL).lastT) = false := decide_eq_false (by have := HH.out.2.2.2.2.2.2; omega);have HB5 := hdq2 hb15 hb5
 have hCo := fun W (hW : Below W1.heap.size W1 W) => qaM sn.i sn.t E sn.d.length c sn.d W (HH.out.2.2.1.below (HH.out.1.trans (hW.mono (by omega))) nlq) (by have := HH.out.2.2.2.2.1; omega)
 have hKS : ∀ W,Below W1.heap.size W1 W -> (fun w' : World => w'.cell? ⟨w.heap.size,0,none⟩ = some (.int .i64 ht) /\ w'.cell? ⟨w.heap.size,1,none⟩ = some (.int .i64 hv) /\ w'.cell? ⟨w.heap.size + 1,0,none⟩ = some (.int .i64 sn.i) /\ w'.cell? ⟨w.heap.size + 1,1,none⟩ = some (.int .i64 sn.t) /\ w'.cell? ⟨w.heap.size + 1,2,none⟩ = some (.slice E sn.d.length c) /\ Below W1.heap.size W1 w') W := fun W hW => ⟨(HH.out.2.1 W hW).1,(HH.out.2.1 W hW).2.1,(HH.out.2.1 W hW).2.2.1,(HH.out.2.1 W hW).2.2.2.1,(HH.out.2.1 W hW).2.2.2.2,hW⟩;have HK := Lib.hid hKS;clear b0 b1 b2 b3 b4 hb5 hb15 hLa hKS;generalize (⟨sn.i,sn.t,l,0⟩ : RL).lastT = LT at *;generalize (⟨sn.i,sn.t,l,0⟩ : RL).lastI = LI at *
 go_wp2_with fail
 refine wp_region_held_drew (S := (fun w' => w'.cell? ⟨w.heap.size,0,none⟩ = some (.int .i64 ht) /\ w'.cell? ⟨w.heap.size,1,none⟩ = some (.int .i64 hv) /\ w'.cell? ⟨w.heap.size + 1,0,none⟩ = some (.int .i64 sn.i) /\ w'.cell? ⟨w.heap.size + 1,1,none⟩ = some (.int .i64 sn.t) /\ w'.cell? ⟨w.heap.size + 1,2,none⟩ = some (.slice E sn.d.length c) /\ Below W1.heap.size W1 w')) (by kernel_rfl) (HK.out _ (HB5.out.1.drew)) (fun hHeld => ?_);refine lsq 12 ?_;refine tkq 0 ?_;refine tkq 1 ?_;refine tkq 2 ?_;refine tkq 3 ?_;refine tkq 5 ?_;refine tkq 6 ?_;refine tkq 7 ?_;refine rdq1 4 fun KK hK => ?_;go_simp;refine (hCo _ hHeld.2.2.2.2.2).mono ?_;rintro e w6 ⟨E4,k4,rfl,hlay,hblk,hb6⟩;have hb16 := hHeld.2.2.2.2.2.trans (hb6.mono hHeld.2.2.2.2.2.size);have HL := hdq4 hlay hblk hb6 hb16;refine hK.out _ _ (HK.out _ hb16) ?_;clear hK KK hHeld;intro hHeld
 try simp only [lpq]
 clear hlay hblk hb6 hCo;refine tkq 8 ?_;refine rdq1 9 fun KK hK => ?_;go_simp;refine hK.out _ _ (HK.out _ (hb16.alloc hb16.size _)) ?_;clear hK KK hHeld;intro hHeld
 try simp only [lpq]
 clear hb16;refine tkq 10 ?_;refine tkq 11 ?_;refine dnq ?_;clear hHeld;go_wp2
 go_ret2
 obtain ⟨hlay,hblk,hb6,hb16⟩ := HL.out;obtain ⟨hb14,hlg,hb4⟩ := HB4.out;obtain ⟨hb15,hb5⟩ := HB5.out;have z3 := HB3.out.size;have z5 := hb5.size;have z6 := hb6.size;have z4 := hb4.size;have zd : w5.drew.heap.size = w5.heap.size := rfl;have hb46 : Below w4.heap.size w4 (w6.alloc (.cells #[.int .i64 (id : Int), .int .i64 (n : Int), .int .i64 ht, .int .i64 hv, .int .i64 sn.i, .int .i64 sn.t, .slice E4 sn.d.length k4, .bool false,ptrV pl, .int .i64 sn.i, .int .i64 0, .int .i64 (-1), .int .i64 0, .int .i64 0, .int .i64 0, .int .i64 0, .int .i64 0, .int .i64 0, .int .i64 0, .int .i64 0, .int .i64 0, .int .i64 0, .int .i64 0, .int .i64 0, .int .i64 0, .int .i64 0, .slice none 0 0, .slice none 0 0, .slice none 0 0] 108)) := (hb5.trans (blq.drew.trans (hb6.mono (by omega)))).alloc (by omega) _;have hla := heap_alloc_new w6 (.cells #[.int .i64 (id : Int), .int .i64 (n : Int), .int .i64 ht, .int .i64 hv, .int .i64 sn.i, .int .i64 sn.t, .slice E4 sn.d.length k4, .bool false,ptrV pl, .int .i64 sn.i, .int .i64 0, .int .i64 (-1), .int .i64 0, .int .i64 0, .int .i64 0, .int .i64 0, .int .i64 0, .int .i64 0, .int .i64 0, .int .i64 0, .int .i64 0, .int .i64 0, .int .i64 0, .int .i64 0, .int .i64 0, .int .i64 0, .slice none 0 0, .slice none 0 0, .slice none 0 0] 108)
 have hsz7 : (w6.alloc (.cells #[.int .i64 (id : Int), .int .i64 (n : Int), .int .i64 ht, .int .i64 hv, .int .i64 sn.i, .int .i64 sn.t, .slice E4 sn.d.length k4, .bool false,ptrV pl, .int .i64 sn.i, .int .i64 0, .int .i64 (-1), .int .i64 0, .int .i64 0, .int .i64 0, .int .i64 0, .int .i64 0, .int .i64 0, .int .i64 0, .int .i64 0, .int .i64 0, .int .i64 0, .int .i64 0, .int .i64 0, .int .i64 0, .int .i64 0, .slice none 0 0, .slice none 0 0, .slice none 0 0] 108)).heap.size = w6.heap.size + 1 := by simp
 have hEL : 0 < sn.d.length -> ∀ b,blkR E4 b -> b < w6.heap.size := fun h0 b ⟨o,e⟩ => by
  obtain ⟨g',o',e',hg',_⟩ := hlay.2.1.2.2.2 h0
  cases (Option.some.inj (e.symm.trans e'))
  exact hg'
 refine ⟨w6.heap.size,⟨E4,k4,pl,none,0,none,0,none,0⟩,l.length,fun b => 0 < sn.d.length /\ blkR E4 b,rfl,?_, .inl ⟨rfl,rfl⟩,?_⟩
 · exact {
    row := by rw [qi9]; exact hla
    away := by show ¬ w6.heap.size < w.heap.size; omega
    kz := fun b hb => by
     have h1 := hblk b hb.2;have h2 := hEL hb.1 b hb.2;exact ⟨by show ¬ b < w.heap.size; omega,by omega,by rw [hsz7]; omega⟩
    rz := fun b hb => absurd hb (qaa b)
    mz := fun b hb => absurd hb (qaa b)
    tz := fun b hb => absurd hb (qaa b)
    log := (hlg.grow.below hb46).mono fun b hb => by
     rcases hb with hb | hb | hb | hb | hb | hb
     · exact .inl (by show b < w3.heap.size; have : b < w.heap.size := hb; omega)
     · exact .inr (by show w4.heap.size <= b; omega)
     · exact .inr (by have := hblk b hb.2; show w4.heap.size <= b; omega)
     · exact absurd hb (qaa b)
     · exact absurd hb (qaa b)
     · exact absurd hb (qaa b)
    rds := Sp.nil _ _ _
    tds := Sp.nil _ _ _
    mss := Sp.nil _ _ _
    map := rfl
    msg := fun x hx => by cases hx
    snp := hlay.2.1.below ((Below.refl w6.heap.size w6).alloc nlq _) nlq
    snk := fun h0 g o e => ⟨h0,o,e⟩ }
 · exact HH.out.1.trans ((hb16.alloc hb16.size _).mono (by omega))
end Go.Proofs.YtogbhedbgcmckaaGreat
set_option linter.unusedVariables false
set_option linter.unusedSimpArgs false
set_option maxRecDepth 100000
set_option maxHeartbeats 3200000
namespace Go.Proofs.YtogbhedbgcmckaaGreat
open Go.RowKit Go.Shelf
attribute [local go_sem] Oper.semAt_some
theorem qdS {W : World} {g : Nat} {T : TypeId} {x0 x1 x2 x3 x4 x5 x6 x7 x8 x9 a0 a1 a2 a3 a4 a5 a6 a7 a8 a9 : Value} (h : W.heap[g]? = some (.cells #[x0,x1,x2,x3,x4,x5,x6,x7,x8,x9] T)) :
 ((((((((((W.setCell ⟨g,0,none⟩ a0).setCell ⟨g,1,none⟩ a1).setCell ⟨g,2,none⟩ a2).setCell ⟨g,3,none⟩ a3).setCell ⟨g,4,none⟩ a4).setCell ⟨g,5,none⟩ a5).setCell ⟨g,6,none⟩ a6).setCell ⟨g,7,none⟩ a7).setCell ⟨g,8,none⟩ a8).setCell ⟨g,9,none⟩ a9).heap[g]? = some (.cells #[a0,a1,a2,a3,a4,a5,a6,a7,a8,a9] T) /\ (∀ B,B <= g -> Below B W ((((((((((W.setCell ⟨g,0,none⟩ a0).setCell ⟨g,1,none⟩ a1).setCell ⟨g,2,none⟩ a2).setCell ⟨g,3,none⟩ a3).setCell ⟨g,4,none⟩ a4).setCell ⟨g,5,none⟩ a5).setCell ⟨g,6,none⟩ a6).setCell ⟨g,7,none⟩ a7).setCell ⟨g,8,none⟩ a8).setCell ⟨g,9,none⟩ a9)) /\ ∀ k,k ≠ g -> ((((((((((W.setCell ⟨g,0,none⟩ a0).setCell ⟨g,1,none⟩ a1).setCell ⟨g,2,none⟩ a2).setCell ⟨g,3,none⟩ a3).setCell ⟨g,4,none⟩ a4).setCell ⟨g,5,none⟩ a5).setCell ⟨g,6,none⟩ a6).setCell ⟨g,7,none⟩ a7).setCell ⟨g,8,none⟩ a8).setCell ⟨g,9,none⟩ a9).heap[k]? = W.heap[k]? := by
 have r0 := stq 0 a0 h;have r1 := stq 1 a1 r0;have r2 := stq 2 a2 r1;have r3 := stq 3 a3 r2;have r4 := stq 4 a4 r3;have r5 := stq 5 a5 r4;have r6 := stq 6 a6 r5;have r7 := stq 7 a7 r6;have r8 := stq 8 a8 r7;have r9 := stq 9 a9 r8;exact ⟨r9,fun B hB => ((((((((((Below.refl B W).setCell (p := ⟨g,0,none⟩) hB a0).setCell (p := ⟨g,1,none⟩) hB a1).setCell (p := ⟨g,2,none⟩) hB a2).setCell (p := ⟨g,3,none⟩) hB a3).setCell (p := ⟨g,4,none⟩) hB a4).setCell (p := ⟨g,5,none⟩) hB a5).setCell (p := ⟨g,6,none⟩) hB a6).setCell (p := ⟨g,7,none⟩) hB a7).setCell (p := ⟨g,8,none⟩) hB a8).setCell (p := ⟨g,9,none⟩) hB a9,fun k hk => (Below.heap_setCell _ _ _ _ (by exact hk)).trans ((Below.heap_setCell _ _ _ _ (by exact hk)).trans ((Below.heap_setCell _ _ _ _ (by exact hk)).trans ((Below.heap_setCell _ _ _ _ (by exact hk)).trans ((Below.heap_setCell _ _ _ _ (by exact hk)).trans ((Below.heap_setCell _ _ _ _ (by exact hk)).trans ((Below.heap_setCell _ _ _ _ (by exact hk)).trans ((Below.heap_setCell _ _ _ _ (by exact hk)).trans ((Below.heap_setCell _ _ _ _ (by exact hk)).trans (Below.heap_setCell _ _ _ _ (by exact hk))))))))))⟩
def qkl (w wx : World) (N : Node) (v3 : Value) : Prop :=
 ∃ g,v3 = .pointer (some ⟨g,0,none⟩) /\ wx.heap[g]? = some (.cells #[.int .i64 N.ro, .int .i64 N.ld, .int .i64 N.wk, .int .i64 N.ht, .int .i64 N.hv, .int .i64 N.cm, .int .i64 0, .int .i64 N.lg.lastI, .slice none 0 0, .slice none 0 0] 57) /\ Below w.heap.size w wx /\ w.heap.size < g /\ wx.heap[w.heap.size]? = some (.cells #[.int .i64 0, .int .i64 0, .int .i64 0, .int .i64 0, .int .i64 0, .int .i64 0, .int .i64 0, .int .i64 0, .slice none 0 0, .slice none 0 0] 57)
theorem qja (p k : Nat) (hk : k <= 3) (W : World) : (Instr.sliceAt 106 (.pointer (some ⟨p,16,none⟩)) none (some (.int .i64 (k : Int))) none).run Tryz.prog W = .ok (.slice (some ⟨p,16,none⟩) k 3) W := by
 have hl : Tryz.prog.arrayLen 106 = 3 := by kernel_rfl
 rw [run_sliceAt_array_h W 106 _ (by kernel_rfl) .i64 _ (by omega) (by rw [hl]; omega),hl];rw [show Tryz.prog.elem 106 = 105 by kernel_rfl];obtain ⟨i,hi,hs⟩ := Option.map_eq_some_iff.1 (show (Tryz.prog.info? 105).map (fun i => i.size) = some 3 by kernel_rfl)
 simp [Go.sizeOf,typeInfo,hi,Result.andThen,slicedAt,Addr.add]
def ints (f : Nat -> Int) (k : Nat) : List Value := (List.range k).map fun j => .int .i64 (f j)
theorem qeA (f : Nat -> Int) (k : Nat) : ints f (k + 1) = ints f k ++ [.int .i64 (f k)] := by
 unfold ints;rw [List.range_succ,List.map_append]
 rfl
def qfZ (w wr : World) (N : Node) (g k : Nat) : Prop := ∃ NA nc MA mc,wr.heap[g]? = some (.cells #[.int .i64 N.ro, .int .i64 N.ld, .int .i64 N.wk, .int .i64 N.ht, .int .i64 N.hv, .int .i64 N.cm, .int .i64 N.lg.i, .int .i64 N.lg.lastI, .slice NA k nc, .slice MA k mc] 57) /\ Sp 2 1 wr NA k nc (ints N.nx k) /\ Sp 2 1 wr MA k mc (ints N.ma k) ∧
 (∀ b,blkR NA b -> w.heap.size < b /\ b ≠ g /\ ¬ blkR MA b) /\ (∀ b,blkR MA b -> w.heap.size < b /\ b ≠ g) /\ Below w.heap.size w wr /\ wr.heap[w.heap.size]? = some (.cells #[.int .i64 0, .int .i64 0, .int .i64 0, .int .i64 0, .int .i64 0, .int .i64 0, .int .i64 0, .int .i64 0, .slice none 0 0, .slice none 0 0] 57)
theorem qdT {B : Nat} {X w' : World} {A : Option Addr} (hg : Grew X w' A) (hB : B <= X.heap.size) (hA : ∀ b,blkR A b -> B <= b) : Below B X w' := by
 have k := hg.keeps (Z := fun b => b < B) fun b hb => by have := hA b hb; show ¬ b < B; omega
 exact ⟨k.os,k.tape,k.output,k.size,fun b hb => k.block b (by omega) hb⟩
theorem qjb {w wr X w8 : World} {N : Node} {g k : Nat} {NA MA : Option Addr} {nc mc : Nat} (a1 : wr.heap[g]? = some (.cells #[.int .i64 N.ro, .int .i64 N.ld, .int .i64 N.wk, .int .i64 N.ht, .int .i64 N.hv, .int .i64 N.cm, .int .i64 N.lg.i, .int .i64 N.lg.lastI, .slice NA k nc, .slice MA k mc] 57)) (a2 : Sp 2 1 wr NA k nc (ints N.nx k)) (a3 : Sp 2 1 wr MA k mc (ints N.ma k))
 (a4 : ∀ b,blkR NA b -> w.heap.size < b /\ b ≠ g /\ ¬ blkR MA b) (a5 : ∀ b,blkR MA b -> w.heap.size < b /\ b ≠ g) (hX : Below wr.heap.size wr X) (hg : Grew X w8 NA) :
 w8.heap[g]? = some (.cells #[.int .i64 N.ro, .int .i64 N.ld, .int .i64 N.wk, .int .i64 N.ht, .int .i64 N.hv, .int .i64 N.cm, .int .i64 N.lg.i, .int .i64 N.lg.lastI, .slice NA k nc, .slice MA k mc] 57) /\ (∀ b,b < X.heap.size -> wr.heap.size <= b -> w8.heap[b]? = X.heap[b]?) /\ Sp 2 1 w8 MA k mc (ints N.ma k) := by
 have hs := hX.size;refine ⟨(hg.block g (by have := hlt a1; omega) fun e => (a4 g e).2.1 rfl).trans ((hX.block g (hlt a1)).trans a1),fun b h1 h2 => hg.block b h1 fun e => by have := a2.lt e; omega,?_⟩
 exact a3.keep fun b hb => (hg.block b (by have := a3.lt hb; omega) fun e => (a4 b e).2.2 hb).trans (hX.block b (a3.lt hb))
theorem qk1 {w wr X w8 w9 : World} {N : Node} {g k : Nat} {NA MA A1 A2 : Option Addr} {nc mc c1 c2 : Nat} {o9 : Obj} (a1 : wr.heap[g]? = some (.cells #[.int .i64 N.ro, .int .i64 N.ld, .int .i64 N.wk, .int .i64 N.ht, .int .i64 N.hv, .int .i64 N.cm, .int .i64 N.lg.i, .int .i64 N.lg.lastI, .slice NA k nc, .slice MA k mc] 57)) (a2 : Sp 2 1 wr NA k nc (ints N.nx k)) (a3 : Sp 2 1 wr MA k mc (ints N.ma k))
 (a4 : ∀ b,blkR NA b -> w.heap.size < b /\ b ≠ g /\ ¬ blkR MA b) (a5 : ∀ b,blkR MA b -> w.heap.size < b /\ b ≠ g) (a6 : Below w.heap.size w wr) (a7 : wr.heap[w.heap.size]? = some (.cells #[.int .i64 0, .int .i64 0, .int .i64 0, .int .i64 0, .int .i64 0, .int .i64 0, .int .i64 0, .int .i64 0, .slice none 0 0, .slice none 0 0] 57)) (hgw : w.heap.size < g) (hX : Below wr.heap.size wr X) (hg : Grew X w8 NA)
 (s8 : Sp 2 1 w8 A1 (k + 1) c1 (ints N.nx k ++ [.int .i64 (N.nx k)])) (b8 : ∀ b,blkR A1 b -> blkR NA b \/ X.heap.size <= b)
 (hg9 : Grew ((w8.setCell ⟨g,8,none⟩ (.slice A1 (k + 1) c1)).alloc o9) w9 MA) (s9 : Sp 2 1 w9 A2 (k + 1) c2 (ints N.ma k ++ [.int .i64 (N.ma k)])) (b9 : ∀ b,blkR A2 b -> blkR MA b \/ ((w8.setCell ⟨g,8,none⟩ (.slice A1 (k + 1) c1)).alloc o9).heap.size <= b) :
 qfZ w (w9.setCell ⟨g,9,none⟩ (.slice A2 (k + 1) c2)) N g (k + 1) := by
 obtain ⟨m1,m2,m3⟩ := qjb a1 a2 a3 a4 a5 hX hg;have hs := hX.size;have hs8 := hg.size;have hgs := hlt a1;have hsw := a6.size;have hs7 := hlt a7
 have e9 : ((w8.setCell ⟨g,8,none⟩ (.slice A1 (k + 1) c1)).alloc o9).heap.size = w8.heap.size + 1 := by simp
 have q1 : ∀ b,b ≠ g -> b < w8.heap.size -> ((w8.setCell ⟨g,8,none⟩ (.slice A1 (k + 1) c1)).alloc o9).heap[b]? = w8.heap[b]? := fun b h1 h2 => (Below.heap_alloc _ _ _ (by simpa using h2)).trans (Below.heap_setCell _ _ _ _ (by exact h1));have t1 := setCell_at w8 ⟨g,8,none⟩ (.slice A1 (k + 1) c1) _ _ _ rfl m1;have t2 : ((w8.setCell ⟨g,8,none⟩ (.slice A1 (k + 1) c1)).alloc o9).heap[g]? = _ := (Below.heap_alloc _ _ _ (by simp; omega)).trans t1;have t3 := (hg9.block g (by rw [e9]; omega) fun e => (a5 g e).2 rfl).trans t2;have t4 := setCell_at w9 ⟨g,9,none⟩ (.slice A2 (k + 1) c2) _ _ _ rfl t3
 have hM : ∀ b,blkR MA b -> b < wr.heap.size := fun b hb => a3.lt hb
 have hA1 : ∀ b,blkR A1 b -> w.heap.size < b /\ b ≠ g /\ ¬ blkR MA b /\ b < w8.heap.size := fun b hb => by
  have h4 := s8.lt hb;rcases b8 b hb with h | h
  · exact ⟨(a4 b h).1,(a4 b h).2.1,(a4 b h).2.2,h4⟩
  · exact ⟨by omega,by omega,fun e => by have := hM b e; omega,h4⟩
 have hA2 : ∀ b,blkR A2 b -> w.heap.size < b /\ b ≠ g := fun b hb => by
  rcases b9 b hb with h | h
  · exact a5 b h
  · rw [e9] at h;exact ⟨by omega,by omega⟩
 refine ⟨A1,c1,A2,c2,t4,?_,?_,?_,hA2,?_,?_⟩
 · rw [qeA]
   exact s8.keep fun b hb => (Below.heap_setCell _ _ _ _ (by exact (hA1 b hb).2.1)).trans ((hg9.block b (by rw [e9]; have := (hA1 b hb).2.2.2; omega) (hA1 b hb).2.2.1).trans (q1 b (hA1 b hb).2.1 (hA1 b hb).2.2.2))
 · rw [qeA]
   exact s9.keep fun b hb => Below.heap_setCell _ _ _ _ (by exact (hA2 b hb).2)
 · intro b hb;refine ⟨(hA1 b hb).1,(hA1 b hb).2.1,fun e => ?_⟩;rcases b9 b e with h | h
   · exact (hA1 b hb).2.2.1 h
   · rw [e9] at h;have := (hA1 b hb).2.2.2;omega
 · refine (((a6.trans (hX.mono hsw)).trans (qdT hg (by omega) fun b hb => Nat.le_of_lt (a4 b hb).1)).trans ?_).trans ((qdT hg9 (by rw [e9]; omega) fun b hb => Nat.le_of_lt (a5 b hb).1).setCell (p := ⟨g,9,none⟩) (Nat.le_of_lt hgw) _);exact (blq.setCell (p := ⟨g,8,none⟩) (Nat.le_of_lt hgw) _).alloc (by simp; omega) _
 · have n7 : w.heap.size ≠ g := by omega
   refine (Below.heap_setCell _ _ _ _ (by exact n7)).trans ((hg9.block _ (by rw [e9]; omega) fun e => by have := (a5 _ e).1; omega).trans ((q1 _ n7 (by omega)).trans ((hg.block _ (by omega) fun e => by have := (a4 _ e).1; omega).trans ((hX.block _ hs7).trans a7))))
theorem qdU {w : World} {p : Nat} {N : Node} {Z : Nat -> Prop} {q : Ptrs} {s : Nat} {xs : List MLay} {K : Nat -> Prop} (h : RfAt w p N Z q s xs K) (hl : N.lg.l.length <= 1000000) (hn : N.n <= 3) :
 Calls Tryz.prog 28 #[ptrV p] w fun e w' => ∃ NA nc MA mc,e = .returned (.agg #[.int .i64 N.ro, .int .i64 N.ld, .int .i64 N.wk, .int .i64 N.ht, .int .i64 N.hv, .int .i64 N.cm, .int .i64 N.lg.i, .int .i64 N.lg.lastI, .slice NA N.n nc, .slice MA N.n mc]) /\ Sp 2 1 w' NA N.n nc (ints N.nx N.n) /\ Sp 2 1 w' MA N.n mc (ints N.ma N.n) /\ (∀ b,blkR NA b -> w.heap.size < b) /\ (∀ b,blkR MA b -> w.heap.size < b) /\ Below w.heap.size w w' := by
 have hp := h.lt;obtain ⟨Wa,hWa⟩ := exq (w.alloc (.cells #[.int .i64 0, .int .i64 0, .int .i64 0, .int .i64 0, .int .i64 0, .int .i64 0, .int .i64 0, .int .i64 0, .slice none 0 0, .slice none 0 0] 57))
 have hb1 : Below w.heap.size w Wa := by rw [<- hWa]; exact blq.alloc nlq _
 have hres : Wa.heap[w.heap.size]? = some (.cells #[.int .i64 0, .int .i64 0, .int .i64 0, .int .i64 0, .int .i64 0, .int .i64 0, .int .i64 0, .int .i64 0, .slice none 0 0, .slice none 0 0] 57) := by rw [<- hWa]; exact heap_alloc_new w _
 have hsz : Wa.heap.size = w.heap.size + 1 := by rw [<- hWa]; simp
 obtain ⟨B0,hB0⟩ : ∃ B,B = Wa.heap.size := ⟨_,rfl⟩
 have hup : ∀ W,Below B0 Wa W -> Below w.heap.size w W := fun W hW => hb1.trans (hW.mono (by omega))
 have hmo : ∀ X,Below B0 Wa X -> B0 <= X.heap.size := fun X hX => by rw [hB0]; exact hX.size
 have hLast := fun X (hX : Below w.heap.size w X) => qbj (h.below hX) hl
 have hC : ∀ W,Below B0 Wa W -> (fun w' : World => w'.cell? ⟨p,10,none⟩ = some (.int .i64 N.ro) /\ w'.cell? ⟨p,11,none⟩ = some (.int .i64 N.ld) /\ w'.cell? ⟨p,12,none⟩ = some (.int .i64 N.wk) /\ w'.cell? ⟨p,2,none⟩ = some (.int .i64 N.ht) /\ w'.cell? ⟨p,3,none⟩ = some (.int .i64 N.hv) /\ w'.cell? ⟨p,9,none⟩ = some (.int .i64 N.cm) /\ Below B0 Wa w') W := fun W hW => ⟨(h.below (hup W hW)).c10,(h.below (hup W hW)).c11,(h.below (hup W hW)).c12,(h.below (hup W hW)).c2,(h.below (hup W hW)).c3,(h.below (hup W hW)).c9,hW⟩;have HK := Lib.hid hC;have HU := hdq5 hup hres hb1 hmo hB0;have H := hdq3 h hl hn;clear h hl hn hC hb1 hup hres hmo hB0
 go_enter Tryz.func28,Tryz.ntmps28
 go_wp2_with fail
 go_upto_region 3 with fail
 go_cut [3] (fun v3 wx => qkl w wx N v3)
 case first =>
  refine wp_region_held_drew (S := (fun w' => w'.cell? ⟨p,10,none⟩ = some (.int .i64 N.ro) /\ w'.cell? ⟨p,11,none⟩ = some (.int .i64 N.ld) /\ w'.cell? ⟨p,12,none⟩ = some (.int .i64 N.wk) /\ w'.cell? ⟨p,2,none⟩ = some (.int .i64 N.ht) /\ w'.cell? ⟨p,3,none⟩ = some (.int .i64 N.hv) /\ w'.cell? ⟨p,9,none⟩ = some (.int .i64 N.cm) /\ Below B0 Wa w')) (by kernel_rfl) (HK.out _ blq.drew) (fun hHeld => ?_);refine lsq 25 ?_;refine tkq 0 ?_;refine tkq 1 ?_;refine tkq 2 ?_;refine tkq 3 ?_;refine tkq 4 ?_;refine tkq 5 ?_;refine tkq 6 ?_;refine tkq 7 ?_;refine tkq 8 ?_;refine tkq 9 ?_;refine tkq 10 ?_;refine tkq 11 ?_;refine tkq 12 ?_;refine tkq 13 ?_;refine tkq 14 ?_;refine tkq 15 ?_;refine tkq 16 ?_;refine tkq 17 ?_;refine tkq 18 ?_;refine tkq 19 ?_;refine tkq 20 ?_;refine rdq2 21 23 (fun KK hK => ?_) (fun KK hK => ?_)
  · go_simp;refine (hLast _ (HU.out.1 _ hHeld.2.2.2.2.2.2)).mono ?_;rintro e w4 ⟨rfl,hb4⟩;have hbb := hHeld.2.2.2.2.2.2.trans (hb4.mono (HU.out.2.2.2.1 _ hHeld.2.2.2.2.2.2));refine hK.out _ _ (HK.out _ hbb) ?_;clear hK KK hHeld;intro hHeld
    try simp only [lpq]
    clear hb4 hLast;refine tkq 22 ?_;refine rdq1 23 fun KK hK => ?_;go_simp;refine hK.out _ _ (HK.out _ (hbb.alloc (HU.out.2.2.2.1 _ hbb) _)) ?_;clear hK KK hHeld;intro hHeld
    try simp only [lpq]
    have hb5 := heap_alloc_new w4 (.cells #[.int .i64 0, .int .i64 0, .int .i64 0, .int .i64 0, .int .i64 0, .int .i64 0, .int .i64 0, .int .i64 0, .slice none 0 0, .slice none 0 0] 57);have hs5 := HU.out.2.2.2.1 _ hbb;have hbl : Below B0 Wa (w4.alloc (.cells #[.int .i64 0, .int .i64 0, .int .i64 0, .int .i64 0, .int .i64 0, .int .i64 0, .int .i64 0, .int .i64 0, .slice none 0 0, .slice none 0 0] 57)) := hbb.alloc hs5 _;generalize w4.alloc (.cells #[.int .i64 0, .int .i64 0, .int .i64 0, .int .i64 0, .int .i64 0, .int .i64 0, .int .i64 0, .int .i64 0, .slice none 0 0, .slice none 0 0] 57) = w5 at *;obtain ⟨g,hg⟩ : ∃ g,g = w4.heap.size := ⟨_,rfl⟩;rw [<- hg] at hb5 hs5;rw [<- hg];have HGE := Lib.hid hs5;clear hg hs5;have x0 : w5.cell? ⟨g,0,none⟩ = some (.int .i64 0) := qe hb5 0 _ rfl;have x1 : w5.cell? ⟨g,1,none⟩ = some (.int .i64 0) := qe hb5 1 _ rfl;have x2 : w5.cell? ⟨g,2,none⟩ = some (.int .i64 0) := qe hb5 2 _ rfl;have x3 : w5.cell? ⟨g,3,none⟩ = some (.int .i64 0) := qe hb5 3 _ rfl;have x4 : w5.cell? ⟨g,4,none⟩ = some (.int .i64 0) := qe hb5 4 _ rfl;have x5 : w5.cell? ⟨g,5,none⟩ = some (.int .i64 0) := qe hb5 5 _ rfl;have x6 : w5.cell? ⟨g,6,none⟩ = some (.int .i64 0) := qe hb5 6 _ rfl;have x7 : w5.cell? ⟨g,7,none⟩ = some (.int .i64 0) := qe hb5 7 _ rfl;have x8 : w5.cell? ⟨g,8,none⟩ = some (.slice none 0 0) := qe hb5 8 _ rfl;have x9 : w5.cell? ⟨g,9,none⟩ = some (.slice none 0 0) := qe hb5 9 _ rfl;have y0 := qf hb5 0;have y1 := qf hb5 1;have y2 := qf hb5 2;have y3 := qf hb5 3;have y4 := qf hb5 4;have y5 := qf hb5 5;have y6 := qf hb5 6;have y7 := qf hb5 7;have y8 := qf hb5 8;have y9 := qf hb5 9;refine rdq1 24 fun KK hK => ?_;go_simp;refine hK.out _ _ (HK.out _ (hbl.trans ((qdS hb5).2.1 _ HGE.out))) ?_;clear hK KK hHeld;intro hHeld
    try simp only [lpq]
    refine dnq ?_;clear x0 y0 x1 y1 x2 y2 x3 y3 x4 y4 x5 y5 x6 y6 x7 y7 x8 y8 x9 y9;go_wp2
    go_meet
    have hbx := qdS (a0 := .int .i64 N.ro) (a1 := .int .i64 N.ld) (a2 := .int .i64 N.wk) (a3 := .int .i64 N.ht) (a4 := .int .i64 N.hv) (a5 := .int .i64 N.cm) (a6 := .int .i64 0) (a7 := .int .i64 N.lg.lastI) (a8 := .slice none 0 0) (a9 := .slice none 0 0) hb5;have hge := HGE.out;have hB := HU.out.2.2.2.2;exact ⟨g,rfl,hbx.1,HU.out.1 _ (hbl.trans (hbx.2.1 _ hge)),by omega,((hbl.trans (hbx.2.1 _ hge)).block _ (by omega)).trans HU.out.2.1⟩
  · go_simp;have hbA : Below B0 Wa ((Wa.alloc (.cells #[.int .i64 0, .int .i64 0, .int .i64 0, .int .i64 0, .int .i64 0, .int .i64 0, .int .i64 0, .int .i64 0, .slice none 0 0, .slice none 0 0] 57)).drew) := (blq.alloc (by rw [HU.out.2.2.2.2]; exact nlq) _).drew;refine hK.out _ _ (HK.out _ hbA) ?_;clear hK KK hHeld;intro hHeld
    try simp only [lpq]
    have hb5x : (Wa.alloc (.cells #[.int .i64 0, .int .i64 0, .int .i64 0, .int .i64 0, .int .i64 0, .int .i64 0, .int .i64 0, .int .i64 0, .slice none 0 0, .slice none 0 0] 57)).drew.heap[Wa.heap.size]? = some (.cells #[.int .i64 0, .int .i64 0, .int .i64 0, .int .i64 0, .int .i64 0, .int .i64 0, .int .i64 0, .int .i64 0, .slice none 0 0, .slice none 0 0] 57) := heap_alloc_new Wa _;have hbA : Below B0 Wa ((Wa.alloc (.cells #[.int .i64 0, .int .i64 0, .int .i64 0, .int .i64 0, .int .i64 0, .int .i64 0, .int .i64 0, .int .i64 0, .slice none 0 0, .slice none 0 0] 57)).drew) := (blq.alloc (by rw [HU.out.2.2.2.2]; exact nlq) _).drew;have hAd := hLast _ (HU.out.1 _ hbA);clear hLast;generalize (Wa.alloc (.cells #[.int .i64 0, .int .i64 0, .int .i64 0, .int .i64 0, .int .i64 0, .int .i64 0, .int .i64 0, .int .i64 0, .slice none 0 0, .slice none 0 0] 57)).drew = wX at *;refine rdq1 21 fun KK hK => ?_;go_simp;refine hAd.mono ?_;rintro e w5 ⟨rfl,hb4⟩;have hbl := hbA.trans (hb4.mono (HU.out.2.2.2.1 _ hbA));have hb5 := (hb4.block _ (hlt hb5x)).trans hb5x;refine hK.out _ _ (HK.out _ hbl) ?_;clear hK KK hHeld;intro hHeld
    try simp only [lpq]
    clear hb4 hAd;refine tkq 22 ?_;obtain ⟨g,hg⟩ : ∃ g,g = w.heap.size + 1 := ⟨_,rfl⟩;rw [hsz,<- hg] at hb5;rw [<- hg];have HGE := Lib.hid (show B0 <= g by rw [hg,HU.out.2.2.2.2,hsz]; exact nlq);clear hg;have x0 : w5.cell? ⟨g,0,none⟩ = some (.int .i64 0) := qe hb5 0 _ rfl;have x1 : w5.cell? ⟨g,1,none⟩ = some (.int .i64 0) := qe hb5 1 _ rfl;have x2 : w5.cell? ⟨g,2,none⟩ = some (.int .i64 0) := qe hb5 2 _ rfl;have x3 : w5.cell? ⟨g,3,none⟩ = some (.int .i64 0) := qe hb5 3 _ rfl;have x4 : w5.cell? ⟨g,4,none⟩ = some (.int .i64 0) := qe hb5 4 _ rfl;have x5 : w5.cell? ⟨g,5,none⟩ = some (.int .i64 0) := qe hb5 5 _ rfl;have x6 : w5.cell? ⟨g,6,none⟩ = some (.int .i64 0) := qe hb5 6 _ rfl;have x7 : w5.cell? ⟨g,7,none⟩ = some (.int .i64 0) := qe hb5 7 _ rfl;have x8 : w5.cell? ⟨g,8,none⟩ = some (.slice none 0 0) := qe hb5 8 _ rfl;have x9 : w5.cell? ⟨g,9,none⟩ = some (.slice none 0 0) := qe hb5 9 _ rfl;have y0 := qf hb5 0;have y1 := qf hb5 1;have y2 := qf hb5 2;have y3 := qf hb5 3;have y4 := qf hb5 4;have y5 := qf hb5 5;have y6 := qf hb5 6;have y7 := qf hb5 7;have y8 := qf hb5 8;have y9 := qf hb5 9;refine rdq1 24 fun KK hK => ?_;go_simp;refine hK.out _ _ (HK.out _ (hbl.trans ((qdS hb5).2.1 _ HGE.out))) ?_;clear hK KK hHeld;intro hHeld
    try simp only [lpq]
    refine dnq ?_;clear x0 y0 x1 y1 x2 y2 x3 y3 x4 y4 x5 y5 x6 y6 x7 y7 x8 y8 x9 y9;go_wp2
    go_meet
    have hbx := qdS (a0 := .int .i64 N.ro) (a1 := .int .i64 N.ld) (a2 := .int .i64 N.wk) (a3 := .int .i64 N.ht) (a4 := .int .i64 N.hv) (a5 := .int .i64 N.cm) (a6 := .int .i64 0) (a7 := .int .i64 N.lg.lastI) (a8 := .slice none 0 0) (a9 := .slice none 0 0) hb5;have hge := HGE.out;have hB := HU.out.2.2.2.2;exact ⟨g,rfl,hbx.1,HU.out.1 _ (hbl.trans (hbx.2.1 _ hge)),by omega,((hbl.trans (hbx.2.1 _ hge)).block _ (by omega)).trans HU.out.2.1⟩
 case rest =>
  obtain ⟨g,rfl,hbox,hbw,hgw,hres⟩ := hcut;obtain ⟨h,hl,hn⟩ := H.out;have Rc := h.below hbw;obtain ⟨AA,cc,hrd⟩ := Rc.log.rd;have hBase := qaY hrd;have c8 := Rc.c8;have HC := hdq4 hbox hbw hgw hres;clear h hl hn Rc hrd hbox hbw hres HK hLast
  go_wp2_with fail
  refine hBase.mono ?_;rintro e w4 ⟨rfl,hb4⟩;obtain ⟨hbox,hbw,hgw,hres⟩ := HC.out;have hbox4 := (hb4.block _ (hlt hbox)).trans hbox;have hres4 := (hb4.block _ (hlt hres)).trans hres;have o6 : w4.cell? ⟨g,6,none⟩ = some (.int .i64 0) := qe hbox4 6 _ rfl;have z6 := qf hbox4 6;obtain ⟨W5,hW5⟩ := exq (w4.setCell ⟨g,6,none⟩ (.int .i64 N.lg.i))
  have hb45 : Below w.heap.size w4 W5 := by rw [<- hW5]; exact blq.setCell (p := ⟨g,6,none⟩) (Nat.le_of_lt hgw) _
  have hbox5 : W5.heap[g]? = some (.cells #[.int .i64 N.ro, .int .i64 N.ld, .int .i64 N.wk, .int .i64 N.ht, .int .i64 N.hv, .int .i64 N.cm, .int .i64 N.lg.i, .int .i64 N.lg.lastI, .slice none 0 0, .slice none 0 0] 57) := by rw [<- hW5]; exact setCell_at w4 ⟨g,6,none⟩ _ _ _ _ rfl hbox4
  have hres5 : W5.heap[w.heap.size]? = some (.cells #[.int .i64 0, .int .i64 0, .int .i64 0, .int .i64 0, .int .i64 0, .int .i64 0, .int .i64 0, .int .i64 0, .slice none 0 0, .slice none 0 0] 57) := by rw [<- hW5]; exact (Below.heap_setCell _ _ _ _ (by show w.heap.size ≠ g; omega)).trans hres4
  have hbw5 := (hbw.trans (hb4.mono hbw.size)).trans hb45;have R5 := H.out.1.below hbw5;have c1 := R5.c1;have hp5 := R5.lt
  have hcut := fun W => qja p N.n H.out.2.2 W
  have hlp : qfZ w W5 N g 0 := ⟨none,0,none,0,hbox5,Sp.nil _ _ _,Sp.nil _ _ _,fun b hb => absurd hb (qaa b),fun b hb => absurd hb (qaa b),hbw5,hres5⟩;have HLP := Lib.hid hlp;clear hbox hbw hres hbox4 hres4 hb45 hbox5 hres5 hbw5 R5 hlp hb4 hBase c8
  go_wp2_with fail
  clear hW5
  go_quiet (fail)
  go_wp2_with fail
  go_loopw [50] (fun v50 wr => ∃ k : Nat,k <= N.n /\ v50 = .int .i64 (k : Int) /\ qfZ w wr N g k) (fun v50 _ => N.n - (intOf v50).toNat)
  case atStart =>
   obtain ⟨NA,nc,MA,mc,a1,a2,a3,a4,a5,a6,a7⟩ := HLP.out;exact ⟨0,Nat.zero_le _,rfl,NA,nc,MA,mc,a1,a2.keep fun _ _ => rfl,a3.keep fun _ _ => rfl,a4,a5,qw a6 _,a7⟩
  case round =>
   obtain ⟨k,hk,rfl,hst⟩ := hrel
   by_cases hlt2 : k < N.n
   · obtain ⟨h,hl,hn⟩ := H.out;obtain ⟨NA,nc,MA,mc,a1,a2,a3,a4,a5,a6,a7⟩ := hst;have Rr := h.below a6;obtain ⟨x,hx⟩ := exq (N.nx k);obtain ⟨y,hy⟩ := exq (N.ma k);obtain ⟨z,hz⟩ := exq (N.ac k)
     have hcl : wr.cell? ⟨p,16 + 3 * k,none⟩ = some (.int .i64 x) /\ wr.cell? ⟨p,17 + 3 * k,none⟩ = some (.int .i64 y) /\ wr.cell? ⟨p,18 + 3 * k,none⟩ = some (.int .i64 z) := by
      rw [<- hx,<- hy,<- hz]
      obtain rfl | rfl | rfl : k = 0 \/ k = 1 \/ k = 2 := by omega
      · exact ⟨Rr.c16,Rr.c17,Rr.c18⟩
      · exact ⟨Rr.c19,Rr.c20,Rr.c21⟩
      · exact ⟨Rr.c22,Rr.c23,Rr.c24⟩
     obtain ⟨d0,d1,d2⟩ := hcl;have hpr := Rr.lt;have hgs := hlt a1;have HX := hdq3 hx hy hn;have HF := hdq7 a1 a2 a3 a4 a5 a6 a7;clear a1 a2 a3 a4 a5 a6 a7 Rr h hl hn hx hy hz
     obtain rfl | rfl | rfl : k = 0 \/ k = 1 \/ k = 2 := by have := HX.out.2.2; omega
     all_goals
      simp only [Nat.mul_zero,Nat.mul_one,Nat.reduceMul,Nat.add_zero,Nat.reduceAdd] at d0 d1 d2
      go_upto_region 8 with fail
      obtain ⟨a1,a2,a3,a4,a5,a6,a7⟩ := HF.out;have hb7 : Below wr.heap.size wr (wr.alloc (.cells #[.int .i64 x, .int .i64 y, .int .i64 z] 105)) := blq.alloc nlq _;have pb := heap_alloc_new wr (.cells #[.int .i64 x, .int .i64 y, .int .i64 z] 105)
      have s7 : (wr.alloc (.cells #[.int .i64 x, .int .i64 y, .int .i64 z] 105)).heap.size = wr.heap.size + 1 := by simp
      generalize wr.alloc (.cells #[.int .i64 x, .int .i64 y, .int .i64 z] 105) = W7 at *;have p0 : W7.cell? ⟨wr.heap.size,0,none⟩ = some (.int .i64 x) := qe pb 0 _ rfl;have rg := (hb7.block _ (hlt a1)).trans a1;have g8 := qe rg 8 _ rfl;have fg8 := qf rg 8;have hspN : ∀ X,Below W7.heap.size W7 X -> Sp 2 1 X NA _ nc (ints N.nx _) := fun X hX => a2.keep fun b hb => (hX.block b (by have := a2.lt hb; omega)).trans (hb7.block b (a2.lt hb));have hbX : Below W7.heap.size W7 (W7.alloc (.cells #[.int .i64 x] 2)) := blq.alloc nlq _;have hspX := hspN _ hbX;have HP := hdq4 hb7 pb s7 hbX;clear a1 a2 a3 a4 a5 a6 a7 hb7 pb rg hspN hbX s7
      go_wp2_with (first
       | (at_builtin
          go_loud (refine qbK qaE _ rfl _ _ rfl NA _ nc (ints N.nx _) rfl hspX (some ⟨W7.heap.size,0,none⟩) 1 1 [.int .i64 x] rfl (fun e => by cases e) rfl (fun u hu => by rw [List.mem_singleton.1 hu]; rfl) (fun b e => by cases e; exact qac (heap_alloc_new _ _)) (by decide) ?_)
          intro A1 c1q w8 hsp8 hA8 hg8;obtain ⟨m1,m2,m3⟩ := qjb HF.out.1 HF.out.2.1 HF.out.2.2.1 HF.out.2.2.2.1 HF.out.2.2.2.2.1 (HP.out.1.trans (HP.out.2.2.2.mono (by have := HP.out.2.2.1; omega))) hg8;have pb8 := (m2 wr.heap.size (by simp; have := HP.out.2.2.1; omega) nlq).trans ((Below.heap_alloc _ _ _ (hlt HP.out.2.1)).trans HP.out.2.1);have e8 := qe m1 8 _ rfl;have e9 := qe m1 9 _ rfl;have fe8 := qf m1 8;have fe9 := qf m1 9;have p1 : w8.cell? ⟨wr.heap.size,1,none⟩ = some (.int .i64 y) := qe pb8 1 _ rfl;have HQ := hdq5 hsp8 hA8 hg8 m1 m3;have hsp9X : ∀ v o,Sp 2 1 ((w8.setCell ⟨g,8,none⟩ v).alloc o) MA _ mc (ints N.ma _) := fun v o => m3.keep fun b hb => (Below.heap_alloc _ _ _ (by simpa using m3.lt hb)).trans (Below.heap_setCell _ _ _ _ (by exact (HF.out.2.2.2.2.1 b hb).2))
          have hnew9 : ∀ v,((w8.setCell ⟨g,8,none⟩ v).alloc (.cells #[.int .i64 y] 2)).heap[w8.heap.size]? = some (.cells #[.int .i64 y] 2) := fun v => by
           have := heap_alloc_new (w8.setCell ⟨g,8,none⟩ v) (.cells #[.int .i64 y] 2)
           simpa using this
          have hg8lt := hlt m1
          clear hsp8 hA8 hg8 m1 m2 m3 pb8 hspX)
       | (at_builtin
          go_loud (refine qbK qaE _ rfl _ _ rfl MA _ mc (ints N.ma _) rfl (hsp9X _ _) (some ⟨w8.heap.size,0,none⟩) 1 1 [.int .i64 y] rfl (fun e => by cases e) rfl (fun u hu => by rw [List.mem_singleton.1 hu]; rfl) (fun b e => by cases e; exact qac (hnew9 _)) (by decide) ?_)
          intro A2 c2q w9 hsp9 hA9 hg9;have rr9 := (hg9.block g (by simp; omega) fun e => (HF.out.2.2.2.2.1 g e).2 rfl).trans ((Below.heap_alloc _ _ _ (by simpa using hg8lt)).trans (setCell_at w8 ⟨g,8,none⟩ _ _ _ _ rfl HQ.out.2.2.2.1));have e9b := qe rr9 9 _ rfl;have fe9b := qf rr9 9;have HR := hdq3 hsp9 hA9 hg9
          clear hsp9 hA9 hg9 rr9 hsp9X hnew9 e9 fe9 e8 fe8 p1))
      go_roundw
      case rel =>
       obtain ⟨a1,a2,a3,a4,a5,a6,a7⟩ := HF.out;obtain ⟨hsp8,hA8,hg8,m1,m3⟩ := HQ.out;obtain ⟨hsp9,hA9,hg9⟩ := HR.out;obtain ⟨hx,hy,hn⟩ := HX.out;rw [<- hx] at hsp8;rw [<- hy] at hsp9;refine ⟨_,?_,?_,qk1 a1 a2 a3 a4 a5 a6 a7 hgw (HP.out.1.trans (HP.out.2.2.2.mono (by have := HP.out.2.2.1; omega))) hg8 hsp8 hA8 hg9 hsp9 hA9⟩
       · omega
       · rfl
      case measure =>
       simp [intOf]
       omega
   · obtain rfl : k = N.n := by omega
     obtain ⟨NA,nc,MA,mc,a1,a2,a3,a4,a5,a6,a7⟩ := hst;have g0 : wr.cell? ⟨g,0,none⟩ = some (.int .i64 N.ro) := qe a1 0 _ rfl;have x0 : wr.cell? ⟨w.heap.size,0,none⟩ = some (.int .i64 0) := qe a7 0 _ rfl;have y0 := qf a7 0;have g1 : wr.cell? ⟨g,1,none⟩ = some (.int .i64 N.ld) := qe a1 1 _ rfl;have x1 : wr.cell? ⟨w.heap.size,1,none⟩ = some (.int .i64 0) := qe a7 1 _ rfl;have y1 := qf a7 1;have g2 : wr.cell? ⟨g,2,none⟩ = some (.int .i64 N.wk) := qe a1 2 _ rfl;have x2 : wr.cell? ⟨w.heap.size,2,none⟩ = some (.int .i64 0) := qe a7 2 _ rfl;have y2 := qf a7 2;have g3 : wr.cell? ⟨g,3,none⟩ = some (.int .i64 N.ht) := qe a1 3 _ rfl;have x3 : wr.cell? ⟨w.heap.size,3,none⟩ = some (.int .i64 0) := qe a7 3 _ rfl;have y3 := qf a7 3;have g4 : wr.cell? ⟨g,4,none⟩ = some (.int .i64 N.hv) := qe a1 4 _ rfl;have x4 : wr.cell? ⟨w.heap.size,4,none⟩ = some (.int .i64 0) := qe a7 4 _ rfl;have y4 := qf a7 4;have g5 : wr.cell? ⟨g,5,none⟩ = some (.int .i64 N.cm) := qe a1 5 _ rfl;have x5 : wr.cell? ⟨w.heap.size,5,none⟩ = some (.int .i64 0) := qe a7 5 _ rfl;have y5 := qf a7 5;have g6 : wr.cell? ⟨g,6,none⟩ = some (.int .i64 N.lg.i) := qe a1 6 _ rfl;have x6 : wr.cell? ⟨w.heap.size,6,none⟩ = some (.int .i64 0) := qe a7 6 _ rfl;have y6 := qf a7 6;have g7 : wr.cell? ⟨g,7,none⟩ = some (.int .i64 N.lg.lastI) := qe a1 7 _ rfl;have x7 : wr.cell? ⟨w.heap.size,7,none⟩ = some (.int .i64 0) := qe a7 7 _ rfl;have y7 := qf a7 7;have g8 : wr.cell? ⟨g,8,none⟩ = some (.slice NA N.n nc) := qe a1 8 _ rfl;have x8 : wr.cell? ⟨w.heap.size,8,none⟩ = some (.slice none 0 0) := qe a7 8 _ rfl;have y8 := qf a7 8;have g9 : wr.cell? ⟨g,9,none⟩ = some (.slice MA N.n mc) := qe a1 9 _ rfl;have x9 : wr.cell? ⟨w.heap.size,9,none⟩ = some (.slice none 0 0) := qe a7 9 _ rfl;have y9 := qf a7 9;have HF := hdq7 a1 a2 a3 a4 a5 a6 a7;clear a1 a2 a3 a4 a5 a6 a7;go_wp2;obtain ⟨a1,a2,a3,a4,a5,a6,a7⟩ := HF.out;have hbx := qdS (a0 := .int .i64 N.ro) (a1 := .int .i64 N.ld) (a2 := .int .i64 N.wk) (a3 := .int .i64 N.ht) (a4 := .int .i64 N.hv) (a5 := .int .i64 N.cm) (a6 := .int .i64 N.lg.i) (a7 := .int .i64 N.lg.lastI) (a8 := .slice NA N.n nc) (a9 := .slice MA N.n mc) a7;refine bodyPost_ret (qE (n := w.heap.size) rfl rfl hbx.1 Tryz.underlying57 rfl (by kernel_rfl)) rfl ?_;exact ⟨NA,nc,MA,mc,rfl,a2.keep fun b hb => hbx.2.2 b (by have := (a4 b hb).1; omega),a3.keep fun b hb => hbx.2.2 b (by have := (a5 b hb).1; omega),fun b hb => (a4 b hb).1,fun b hb => (a5 b hb).1,a6.trans (hbx.2.1 _ nlq)⟩
end Go.Proofs.YtogbhedbgcmckaaGreat
set_option linter.unusedVariables false
set_option linter.unusedSimpArgs false
set_option maxRecDepth 100000
set_option maxHeartbeats 200000
namespace Go.Proofs.YtogbhedbgcmckaaGreat
open Go.RowKit Go.Shelf
attribute [local go_sem] Oper.semAt_some
end Go.Proofs.YtogbhedbgcmckaaGreat
