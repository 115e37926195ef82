/- A node that is nil. -/
import Derived.Test.YtmiijlecfiddmaaGreatNNM23
import Derived.Test.YtmiijlecfiddmaaGreatNNM12
import Derived.Test.YtmiijlecfiddmaaGreatRows
import Derived.WalkKit
import Derived.ProofKit
import Derived.OpenShut
import Derived.Carry
set_option linter.unusedVariables false
set_option linter.unusedSimpArgs false
set_option maxRecDepth 100000
set_option maxHeartbeats 200000
namespace Go.Proofs.YtmiijlecfiddmaaGreat
open Go.RowKit Go.Shelf
attribute [local go_sem] Oper.semAt_some
theorem qcC (w : World) : Calls Tryz.prog 8 #[.pointer none] w fun e w' => e = .returned (.tuple #[]) /\ w' = w := by
 go_enter Tryz.func8,Tryz.ntmps8
 go_wp2
 first | refine bodyPost_ret (results_none rfl _ _ _) rfl ?_ | refine bodyPost_end (results_none rfl _ _ _) rfl ?_
 exact ⟨rfl,rfl⟩
theorem qcD (w : World) : Calls Tryz.prog 10 #[.pointer none] w fun e w' => e = .returned (.tuple #[.int .i64 0, .int .i64 1]) /\ w' = w := by
 go_enter Tryz.func10,Tryz.ntmps10
 go_wp2
 go_ret2
 exact ⟨rfl,rfl⟩
theorem qbF (D : Option Addr) (n c : Nat) (w : World) : Calls Tryz.prog 9 #[.pointer none, .slice D n c] w fun e w' => e = .returned (.tuple #[.int .i64 0, .int .i64 0, .int .i64 1]) /\ w' = w := by
 go_enter Tryz.func9,Tryz.ntmps9
 go_wp2
 go_ret3
 exact ⟨rfl,rfl⟩
theorem qbG (x : Int) (D : Option Addr) (n c : Nat) (w : World) : Calls Tryz.prog 15 #[.pointer none, .int .i64 x, .slice D n c] w fun e w' => e = .returned (.int .i64 1) /\ w' = w := by
 go_enter Tryz.func15,Tryz.ntmps15
 go_wp2
 go_ret
 exact ⟨rfl,rfl⟩
theorem qbH (a b : Int) (w : World) : Calls Tryz.prog 17 #[.pointer none, .int .i64 a, .int .i64 b] w fun e w' => e = .returned (.slice none 0 0) /\ w' = w := by
 go_enter Tryz.func17,Tryz.ntmps17
 go_wp2
 go_ret
 exact ⟨rfl,rfl⟩
theorem qcE (w : World) : Calls Tryz.prog 16 #[.pointer none] w fun e w' => e = .returned (.agg #[.int .i64 0, .int .i64 0, .slice none 0 0]) /\ Below w.heap.size w w' := by
 go_enter Tryz.func16,Tryz.ntmps16
 go_wp2
 refine bodyPost_ret (qB (n := w.heap.size) rfl rfl (heap_alloc_new w _) Tryz.underlying25 rfl (by kernel_rfl)) rfl ?_
 exact ⟨rfl,blq.alloc nlq _⟩
theorem qcF (w : World) : Calls Tryz.prog 11 #[.pointer none] w fun e w' => e = .returned (.agg #[.int .i64 0, .int .i64 0, .slice none 0 0, .int .i64 0, .int .i64 0, .slice none 0 0, .slice none 0 0, .slice none 0 0]) /\ Below w.heap.size w w' := by
 go_enter Tryz.func11,Tryz.ntmps11
 go_wp2
 refine bodyPost_ret (qB (n := w.heap.size) rfl rfl (heap_alloc_new w _) Tryz.underlying44 rfl (by kernel_rfl)) rfl ?_
 exact ⟨rfl,blq.alloc nlq _⟩
theorem qb8 (w : World) : Calls Tryz.prog 12 #[.pointer none] w fun e w' => e = .returned (.agg #[.int .i64 0, .int .i64 0, .int .i64 0, .int .i64 0, .int .i64 0, .int .i64 0, .int .i64 0, .int .i64 0, .slice none 0 0, .slice none 0 0]) /\ Below w.heap.size w w' := by
 go_enter Tryz.func12,Tryz.ntmps12
 go_wp2
 refine bodyPost_ret (qB (n := w.heap.size) rfl rfl (heap_alloc_new w _) Tryz.underlying48 rfl (by kernel_rfl)) rfl ?_
 exact ⟨rfl,blq.alloc nlq _⟩
theorem qcG (m : Msg) (A : Option Addr) (cA : Nat) (E : Option Addr) (cE : Nat) (w : World) : Calls Tryz.prog 13 #[.pointer none,msgV m A cA E cE] w fun e w' => e = .returned (.int .i64 1) /\ Below w.heap.size w w' := by
 go_enter Tryz.func13,Tryz.ntmps13
 go_wp2_with fail
 go_quiet (fail)
 go_wp2
 go_ret
 exact ⟨rfl,below_drewN (blq.alloc nlq _) _⟩
end Go.Proofs.YtmiijlecfiddmaaGreat
set_option linter.unusedVariables false
set_option linter.unusedSimpArgs false
set_option maxRecDepth 100000
set_option maxHeartbeats 3200000
namespace Go.Proofs.YtmiijlecfiddmaaGreat
open Go.RowKit Go.Shelf
attribute [local go_sem] Oper.semAt_some
def oneN : Nat -> Node
 | 0 => Node.fresh 0 1 0 (-1) Node.noEnt []
 | k + 1 => (oneN k).tick
theorem qZ : (oneN 6).ro = 3 /\ (oneN 6).cm = 1 := by decide
theorem qbI : ∀ k : Nat,k <= 5 -> oneN k = { Node.fresh 0 1 0 (-1) Node.noEnt [] with wk := (k : Int) }
 | 0,_ => rfl
 | k + 1,hk => by
   show (oneN k).tick = _
   rw [qbI k (by omega),qbD (by show ¬ (0 : Int) = 3; decide) (.inl (by show (k : Int) + 1 < 6 + 3 * ((0 : Nat) : Int); omega))]
   rfl
theorem qcH (a0 a1 a2 a3 a4 a5 a6 a7 a8 a9 : Value) (w : World) : (Instr.field 48 (.agg #[a0,a1,a2,a3,a4,a5,a6,a7,a8,a9]) 0).run Tryz.prog w = .ok a0 w := by kernel_rfl
theorem qcI (a0 a1 a2 a3 a4 a5 a6 a7 a8 a9 : Value) (w : World) : (Instr.field 48 (.agg #[a0,a1,a2,a3,a4,a5,a6,a7,a8,a9]) 4).run Tryz.prog w = .ok a5 w := by kernel_rfl
theorem qcJ : Good (⟨0,0,[],0⟩ : RL) := ⟨rfl,rfl⟩
theorem qcK {w : World} {p : Nat} {Z : Nat -> Prop} {q : Ptrs} {s : Nat} {xs : List MLay} {K : Nat -> Prop} (k : Nat) (hk : k <= 5) (h : RfAt w p (oneN k) Z q s xs K) (hZ : ∀ b,Z b -> b < w.heap.size) :
 Calls Tryz.prog 8 #[ptrV p] w fun e w' => e = .returned (.tuple #[]) /\ Turned w w' p (oneN (k + 1)) Z q s := by
 show Calls _ _ _ _ fun e w' => _ /\ Turned w w' p (oneN k).tick Z q s
 have e := qbI k hk
 rw [e] at h ⊢
 exact qcy h hZ (by show (0 : Nat) < 999990; decide) (by show (0 : Nat) <= 400000; decide) qcJ ⟨by show 1 <= 3; decide,by show 0 < 1; decide⟩ (by show (0 : Nat) <= 50000; decide) (fun _ => ⟨rfl,rfl,rfl,rfl,rfl⟩) ⟨by show (0 : Int) <= 0; decide,by show (0 : Int) <= 2199023255552; decide⟩
  ⟨by show (0 : Int) <= (k : Int); omega,by show (k : Int) <= 2199023255552; omega⟩ (fun _ => ⟨by show (-4611686018427387904 : Int) <= 0; decide,by show (0 : Int) <= 4611686018427387904; decide⟩) (by show (0 : Int) <= 0; decide)
theorem qaj : (oneN 6).lg.l.length <= 1000000 /\ (oneN 6).n <= 3 := by decide
theorem qaB (w : World) : Calls Tryz.prog 6 #[] w fun e w' => e = .returned (.bool true) /\ Below w.heap.size w w' := by
 have hN := qc9 0 1 0 (-1) Node.noEnt [] none 0 none 0 (fun _ => False) w ⟨by decide,by decide,by decide⟩ (by decide) (by decide) (by decide) (by decide) (by decide) (Lies.nil _) (fun h0 => absurd h0 (by decide)) (by decide) (qG _ _) (by decide)
 go_enter Tryz.func6,Tryz.ntmps6
 go_wp2_with fail
 refine hN.mono ?_
 rintro e w2 ⟨p,q,s,K,rfl,R2,_,hb2⟩
 have HR := Lib.hid (And.intro R2 hb2)
 clear R2 hb2 hN
 go_wp2_with fail
 go_loopw [11] (fun v11 wr => ∃ k : Nat,k <= 6 /\ v11 = .int .i64 (k : Int) /\ ∃ q s xs K,RfAt wr p (oneN k) (fun b => b < w.heap.size) q s xs K /\ qe (fun b => b < w.heap.size) w wr) (fun v11 _ => 6 - (intOf v11).toNat)
 case atStart => exact ⟨0,Nat.zero_le _,rfl,q,s,[],K,HR.out.1,qf HR.out.2 nlq⟩
 case round =>
  obtain ⟨k,hk,rfl,q',s',xs',K',R,hkk⟩ := hrel
  by_cases hlt2 : k < 6
  · have e1 : decide ((k : Int) < 6) = true := decide_eq_true (by omega)
    have hT := qcK k (by omega) R (fun b hb => Nat.lt_of_lt_of_le hb hkk.size)
    have HK := Lib.hid hkk
    clear R hkk
    go_wp2_with fail
    refine hT.mono ?_
    rintro e w3 ⟨rfl,hTd⟩
    have HT := Lib.hid hTd
    clear hTd hT
    go_wp2
    go_roundw
    case rel =>
     obtain ⟨q3,xs3,K3,R3,_,k3⟩ := HT.out
     exact ⟨k + 1,by omega,by go_num,q3,s',xs3,K3,R3,HK.out.trans k3⟩
    case measure =>
     simp [intOf]
     omega
  · obtain rfl : k = 6 := by omega
    have hS := qaS R qaj.1 qaj.2
    rw [qZ.1,qZ.2] at hS
    have HK := Lib.hid (And.intro R hkk)
    clear R hkk
    have hf0 := qcH
    have hf4 := qcI
    go_wp2_with fail
    refine hS.mono ?_
    rintro e w3 ⟨NA,nc,MA,mc,rfl,_,_,_,_,hb3⟩
    obtain ⟨R,hkk⟩ := HK.out
    have hS2 := qaS (R.below hb3) qaj.1 qaj.2
    rw [qZ.1,qZ.2] at hS2
    have HB := Lib.hid hb3
    clear R hkk hb3 hS
    go_wp2_with fail
    refine hS2.mono ?_
    rintro e w4 ⟨NA',nc',MA',mc',rfl,_,_,_,_,hb4⟩
    go_wp2
    go_ret
    have z := HK.out.2.size
    have z2 := HB.out.size
    have h0 : Below w.heap.size w wr := ⟨HK.out.2.os,HK.out.2.tape,HK.out.2.output,z,fun b hb => HK.out.2.block b hb hb⟩
    exact ⟨rfl,(h0.trans (HB.out.mono z)).trans (hb4.mono (by omega))⟩
end Go.Proofs.YtmiijlecfiddmaaGreat
set_option linter.unusedVariables false
set_option linter.unusedSimpArgs false
set_option maxRecDepth 100000
set_option maxHeartbeats 6400000
namespace Go.Proofs.YtmiijlecfiddmaaGreat.raftNil
open Go.RowKit Go.Shelf Go.Proofs.YtmiijlecfiddmaaGreat
attribute [local go_sem] Oper.semAt_some
theorem qcL (a0 a1 a2 : Value) (w : World) : (Instr.field 25 (.agg #[a0,a1,a2]) 0).run Tryz.prog w = .ok a0 w := by kernel_rfl
theorem walkNil (k : Int) (m : Msg) (A : Option Addr) (cA : Nat) (E : Option Addr) (cE : Nat) (D : Option Addr) (dn dc : Nat) (i : Int) (w : World) (hM : qh w (· < w.heap.size) m A cA E cE) (hdc : dc <= maxLen) (hdn : dn <= dc) (hd : ∀ e ∈ m.es,e.d.length <= 140737488355328) :
 Calls Tryz.prog 3 #[actV k m A cA E cE D dn dc i] w fun e w' => e = .returned (.bool true) /\ Below w.heap.size w w' := by
 have hdn2 : dn <= maxLen := Nat.le_trans hdn hdc
 clear hdn hdc
 have hF := fun W (hW : Below w.heap.size w W) g T o hrow => qcY k m A cA E cE D dn dc i g T o _ W hrow (hM.below hW nlq) hd hdn2
 clear hM hd hdn2
 have hSt := fun W => qcG m A cA E cE W
 obtain ⟨mk,mf,mo,mt,mi,ml,mc,mx,mb,es,⟨si,st,sd⟩⟩ := m
 dsimp only [actV,msgV] at hF hSt ⊢
 generalize es.length = en at *
 generalize sd.length = sn at *
 obtain ⟨W0,hW0⟩ : ∃ W0,w.alloc (.cells #[.int .u8 k, .int .i64 mk, .int .i64 mf, .int .i64 mo, .int .i64 mt, .int .i64 mi, .int .i64 ml, .int .i64 mc, .int .i64 mx, .bool mb, .slice A en cA, .int .i64 si, .int .i64 st, .slice E sn cE, .slice D dn dc, .int .i64 i] 29) = W0 := ⟨_,rfl⟩
 have hb0 : Below w.heap.size w W0 := by rw [<- hW0]; exact blq.alloc nlq _
 have hr0 : W0.heap[w.heap.size]? = some (.cells #[.int .u8 k, .int .i64 mk, .int .i64 mf, .int .i64 mo, .int .i64 mt, .int .i64 mi, .int .i64 ml, .int .i64 mc, .int .i64 mx, .bool mb, .slice A en cA, .int .i64 si, .int .i64 st, .slice E sn cE, .slice D dn dc, .int .i64 i] 29) := by rw [<- hW0]; exact heap_alloc_new w _
 go_enter Tryz.func3,Tryz.ntmps3
 go_wp2_with fail
 refine (qaB _).mono ?_
 rintro e w1 ⟨rfl,hb1⟩
 have hbw1 := hb0.trans (hb1.mono hb0.size)
 have hr1 := (hb1.block _ (hlt hr0)).trans hr0
 have hlt1 := hlt hr1
 obtain ⟨x0,x1,x2,x3,x4,x5,x6,x7,x8,x9,x10,x11,x12,x13,x14,x15⟩ := qay hr1
 clear hb1 hr0 hb0
 go_wp2_with fail
 refine (hF _ (hbw1.alloc hbw1.size _) w1.heap.size _ _ (heap_alloc_new w1 _)).mono ?_
 rintro e w2 ⟨b,rfl,hb2⟩
 have hbw2 := (hbw1.alloc hbw1.size _).trans (hb2.mono (by have := hbw1.size; simp; omega))
 have hr2 := (hb2.block _ (by simp; omega)).trans ((Below.heap_alloc _ _ _ hlt1).trans hr1)
 clear x0 x1 x2 x3 x4 x5 x6 x7 x8 x9 x10 x11 x12 x13 x14 x15 hF hbw1 hr1 hb2 hlt1
 cases b with
 | false =>
   go_wp2_with fail
   refine (qaB _).mono ?_
   rintro e w3 ⟨rfl,hb3⟩
   go_wp2
   go_ret
   exact ⟨rfl,hbw2.trans (hb3.mono hbw2.size)⟩
 | true =>
 obtain ⟨x0,x1,x2,x3,x4,x5,x6,x7,x8,x9,x10,x11,x12,x13,x14,x15⟩ := qay hr2
 go_wp2_with fail
 refine (qcC _).mono ?_
 rintro e w3 ⟨rfl,rfl⟩
 go_wp2_with fail
 refine (qbF _ _ _ _).mono ?_
 rintro e w4 ⟨rfl,rfl⟩
 go_wp2_with fail
 refine (qcD _).mono ?_
 rintro e w5 ⟨rfl,rfl⟩
 go_wp2_with fail
 refine (qcF _).mono ?_
 rintro e w6 ⟨rfl,hb6⟩
 go_wp2_with fail
 refine (qb8 _).mono ?_
 rintro e w7 ⟨rfl,hb7⟩
 have hA6 : ∀ o,Below w5.heap.size w5 (w6.alloc o) := fun o => hb6.alloc hb6.size _
 have hl2 := hlt hr2
 have hrA := (hb7.block _ (by have := hb6.size; simp; omega)).trans ((Below.heap_alloc _ _ _ (by have := hb6.size; omega)).trans ((hb6.block _ hl2).trans hr2))
 have hrO := (hb7.block w6.heap.size (by simp)).trans (heap_alloc_new w6 _)
 have hbw7 : Below w.heap.size w w7 := hbw2.trans (((hA6 _).trans (hb7.mono (by have := hb6.size; simp; omega))).mono hbw2.size)
 have hrA8 := (Below.heap_alloc _ (Obj.cells #[.int .i64 0, .int .i64 0, .int .i64 0, .int .i64 0, .int .i64 0, .int .i64 0, .int .i64 0, .int .i64 0, .slice none 0 0, .slice none 0 0] 48) _ (hlt hrA)).trans hrA
 have hrO8 := (Below.heap_alloc _ (Obj.cells #[.int .i64 0, .int .i64 0, .int .i64 0, .int .i64 0, .int .i64 0, .int .i64 0, .int .i64 0, .int .i64 0, .slice none 0 0, .slice none 0 0] 48) _ (hlt hrO)).trans hrO
 have hrS8 := heap_alloc_new w7 (Obj.cells #[.int .i64 0, .int .i64 0, .int .i64 0, .int .i64 0, .int .i64 0, .int .i64 0, .int .i64 0, .int .i64 0, .slice none 0 0, .slice none 0 0] 48)
 have hbw8 := hbw7.alloc (o := Obj.cells #[.int .i64 0, .int .i64 0, .int .i64 0, .int .i64 0, .int .i64 0, .int .i64 0, .int .i64 0, .int .i64 0, .slice none 0 0, .slice none 0 0] 48) hbw7.size
 clear x0 x1 x2 x3 x4 x5 x6 x7 x8 x9 x10 x11 x12 x13 x14 x15 hbw7 hrA hrO hA6 hr2 hbw2
 obtain ⟨x0,x1,x2,x3,x4,x5,x6,x7,x8,x9,x10,x11,x12,x13,x14,x15⟩ := qay hrA8
 go_wp2_with fail
 refine (qdJ _ _ _ _ _ _ _ _ _ _ _ _ _ _ _ _ _ _).mono ?_
 rintro e w9 ⟨rfl,hb9⟩
 have hl8 := hbw8.size
 have hrA9 := (hb9.block _ (hlt hrA8)).trans hrA8
 have hrO9 := (hb9.block _ (hlt hrO8)).trans hrO8
 have hrS9 := (hb9.block _ (hlt hrS8)).trans hrS8
 have hbw9 := hbw8.trans (hb9.mono hl8)
 clear x0 x1 x2 x3 x4 x5 x6 x7 x8 x9 x10 x11 x12 x13 x14 x15 hrA8 hrO8 hrS8 hb9 hl8 hbw8
 have hSt := hSt w9
 go_wp2_with fail
 refine hSt.mono ?_
 rintro e w10 ⟨rfl,hb10⟩
 have hrA10 := (hb10.block _ (hlt hrA9)).trans hrA9
 have hrO10 := (hb10.block _ (hlt hrO9)).trans hrO9
 have hrS10 := (hb10.block _ (hlt hrS9)).trans hrS9
 have hbw10 := hbw9.trans (hb10.mono hbw9.size)
 clear hrA9 hrO9 hrS9 hb10 hbw9 hSt
 obtain ⟨x0,x1,x2,x3,x4,x5,x6,x7,x8,x9,x10,x11,x12,x13,x14,x15⟩ := qay hrA10
 have o0 := qa hrO10 0 _ rfl
 have o1 := qa hrO10 1 _ rfl
 have o2 := qa hrO10 2 _ rfl
 have o6 := qa hrO10 6 _ rfl
 have o7 := qa hrO10 7 _ rfl
 go_wp2_with fail
 refine (qbG _ _ _ _ _).mono ?_
 rintro e w11 ⟨rfl,rfl⟩
 go_wp2_with fail
 refine (qcE _).mono ?_
 rintro e w12 ⟨rfl,hb12⟩
 have hrS12 := (hb12.block _ (hlt hrS10)).trans hrS10
 have hbw12 := hbw10.trans (hb12.mono hbw10.size)
 clear hrS10 hb12 hbw10 x0 x1 x2 x3 x4 x5 x6 x7 x8 x9 x10 x11 x12 x13 x14 x15 hrA10 hrO10 o0 o1 o2 o6 o7
 have s0 := qa hrS12 0 _ rfl
 have s3 := qa hrS12 3 _ rfl
 have s4 := qa hrS12 4 _ rfl
 have s8 := qa hrS12 8 _ rfl
 have hfs := qcL
 go_wp2_with fail
 refine (qbH _ _ _).mono ?_
 rintro e w13 ⟨rfl,rfl⟩
 go_wp2
 go_ret
 exact ⟨rfl,hbw12⟩
end Go.Proofs.YtmiijlecfiddmaaGreat.raftNil
set_option linter.unusedVariables false
set_option linter.unusedSimpArgs false
set_option maxRecDepth 100000
set_option maxHeartbeats 200000
namespace Go.Proofs.YtmiijlecfiddmaaGreat
open Go.ChangeShapes Go.WideShapes Go.ChangeAt Go.RowKit
section
variable {H : Type} {enc : TypeId × Value → H} {P : Program}
theorem qa5 (hl : laidOutB P = true) {W W' : World} {sp : Nat -> Bool} : ∀ {ts : List TypeId} {vs : List Value} {ds : List (DataW H)} {ps : List MemPlace},(∀ t ∈ ts,P.readableRec t = true /\ t < P.types.size) →
 DataW.TrodAll enc P W 0 (fun _ => true) true ts vs ds ps -> (∀ x ∈ ps,W.sameAt W' x) -> (∀ x ∈ ps,sp x.block = true) -> DataW.TrodAll enc P W' 0 sp true ts vs ds ps
 | [],[],[],_,_,h,_,_ => h
 | t :: _,_ :: _,_ :: _,_,hT,⟨p,q,h1,h2,e⟩,hs,hp =>
   ⟨p,q,WideElems.Trod_stays hl (hT t List.mem_cons_self).1 (hT t List.mem_cons_self).2 h1 (fun x hx => hs x (by rw [e]; exact List.mem_append_left _ hx)) (fun x hx => hp x (by rw [e]; exact List.mem_append_left _ hx)),
     qa5 hl (fun t ht => hT t (List.mem_cons_of_mem _ ht)) h2 (fun x hx => hs x (by rw [e]; exact List.mem_append_right _ hx)) (fun x hx => hp x (by rw [e]; exact List.mem_append_right _ hx)),e⟩
theorem law_end (hl : laidOutB P = true) {f : Func} {s : ChangeSpec} {T : TypeId} {W W' : World} {args : Array Value} {ds gs : List (DataW H)} {before : List MemPlace}
 (hT : ∀ t ∈ f.params.toList,P.readableRec t = true /\ t < P.types.size) (hvars : s.vars = []) (hres : f.resultTypes = #[T]) (hb : P.underlying T = some .bool)
 (hW : DataW.Whole enc P f.params.toList s.vars false W args.toList ds gs before)
 (hr : (s.fn H (ds ++ gs)).results = [.lit (.bool true)]) (ha : (s.fn H (ds ++ gs)).args = ds) (hv : (s.fn H (ds ++ gs)).vars = [])
 (hbel : Below W.heap.size W W') : s.post enc P f false true false false W args (.bool true) W' := by
 have hW' := hW
 obtain ⟨p,q,hA,hV,hps,hfz,_⟩ := hW
 rw [hvars] at hV
 obtain ⟨rfl,rfl⟩ := trodVars_none hV
 rw [List.append_nil] at hps
 subst hps
 have hlt : ∀ x ∈ before,x.block < W.heap.size := fun x hx => hW'.lt x hx
 have harg : ∀ sp : Nat -> Bool,(∀ x ∈ before,sp x.block = true) -> DataW.TrodAll enc P W' 0 sp true f.params.toList args.toList (s.fn H (ds ++ [])).args before := fun sp hsp => by
  rw [ha]
  exact qa5 hl hT hA (fun x hx => hbel.same (hlt x hx)) hsp
 have hvar : ∀ sp : Nat -> Bool,DataW.TrodVars enc P W' sp s.vars (s.fn H (ds ++ [])).vars [] := fun sp => by
  rw [hvars,hv]
  exact rfl
 have hresult : ∀ (b : Nat) (sp : Nat -> Bool) (hd : Bool),DataW.TrodAll enc P W' b sp hd f.resultTypes.toList ((Value.bool true).resultList f.resultTypes.size) (s.fn H (ds ++ [])).results [] := fun b sp hd => by
  rw [hr,hres]
  exact trodAll_cons_mk (shut_bool hb _) trodAll_mk0
 refine ⟨ds,[],before,[],before,[],hW',hresult _ _ _,harg _ (fun x hx => by simpa using hlt x hx),hvar _,World.keptBut_mono (fun x hx => ⟨hx,Or.inr (Or.inl hx)⟩) (hbel.frame (· ∈ before)),fun h => by cases h⟩
end
end Go.Proofs.YtmiijlecfiddmaaGreat
