/- The program's GetSnap and GetHard, each by its contract. -/
import Derived.Test.YtogbhedbgcmckaaGreatNNM13
import Derived.Test.YtogbhedbgcmckaaGreatNNM04
import Derived.Test.YtogbhedbgcmckaaGreatNNM11
import Derived.Test.YtogbhedbgcmckaaGreatNNM02
set_option linter.unusedVariables false
set_option linter.unusedSimpArgs false
set_option maxRecDepth 100000
set_option maxHeartbeats 3200000
namespace Go.Proofs.YtogbhedbgcmckaaGreat
open Go.RowKit
theorem qj1 (w : World) (i : Nat) (s : St) (Z : Nat -> Prop) (h : In w i s Z) (hZ : ∀ k,w.heap.size <= k -> Z k) (hL : left s <= 140737488355328) :
 Calls Tryz.prog 144 #[.pointer (some ⟨i,0,none⟩)] w fun e w' => ∃ D n c,e = .returned (entV (fromN snapB s 50000).i (fromN snapB s 50000).t D n c) /\ Lies w' D n c (fromN snapB s 50000).d /\ (0 < n -> ∀ g off,D = some ⟨g,off,none⟩ -> w.heap.size <= g) /\ In w' i (fromN snapB s 50000).s Z /\ qa Z w w' := by
 have h1 := h.below ((Below.refl w.heap.size w).alloc (Nat.le_refl _) (.cells #[.int .i64 0, .int .i64 0, .slice none 0 0] 25)) (Nat.le_refl _);have hr1 := heap_alloc_new w (.cells #[.int .i64 0, .int .i64 0, .slice none 0 0] 25);have hk1 : qa Z w (w.alloc (.cells #[.int .i64 0, .int .i64 0, .slice none 0 0] 25)) := qv _ _
 have hs1 : (w.alloc (.cells #[.int .i64 0, .int .i64 0, .slice none 0 0] 25)).heap.size = w.heap.size + 1 := by simp
 have hzb : Z w.heap.size := hZ _ (Nat.le_refl _);have hib : i ≠ w.heap.size := Nat.ne_of_lt h.lt
 have hT := fun W (hW : In W i s Z) (hZ : ∀ k,W.heap.size <= k -> Z k) => qh9 W i s Z 50000 (by omega) hW hZ hL
 unfold fromN;generalize qQ s 50000 = T at *;obtain ⟨ti,tt,td,ts⟩ := T;dsimp only at *;obtain ⟨R,hR⟩ : ∃ R : FromL,R = if ts = none then ⟨0,0,[],none⟩ else if snapB ti tt td.length = true then ⟨ti,tt,td,ts⟩ else ⟨0,0,[],none⟩ := ⟨_,rfl⟩;rw [<- hR];clear hL h
 go_enter Tryz.func144,Tryz.ntmps144
 go_wp2_with fail
 refine (hT _ h1 (fun k hk => hZ k (by omega))).mono ?_;rintro e w1 ⟨D,n,c,rfl,hl1,hD1,h2,k2⟩;have hr2 := (k2.block w.heap.size (by omega) hzb).trans hr1;have hlb : w.heap.size < w1.heap.size := hlt hr2
 have hD0 : 0 < n -> ∀ g off,D = some ⟨g,off,none⟩ -> w.heap.size < g := fun h0 g off e => by have := hD1 h0 g off e; omega
 have hDz : 0 < n -> ∀ g off,D = some ⟨g,off,none⟩ -> Z g := fun h0 g off e => hZ g (Nat.le_of_lt (hD0 h0 g off e))
 have hkw1 : qa Z w w1 := hk1.trans k2;have hn := hl1.1;rw [hn] at hR;have hZ1 : Z w1.heap.size := hZ _ (Nat.le_of_lt hlb);clear hT h1 k2 hk1 hr1 hs1 hD1 hn
 -- the entry in a block of its own
 have hA1 := (Below.refl w1.heap.size w1).alloc (Nat.le_refl _) (.cells #[.int .i64 ti, .int .i64 tt, .slice D n c] 25);have h3 := h2.below hA1 (Nat.le_refl _);have hr3 := (hA1.block w.heap.size hlb).trans hr2;have hq3 := heap_alloc_new w1 (.cells #[.int .i64 ti, .int .i64 tt, .slice D n c] 25);have hl3 := hl1.below hA1 (Nat.le_refl _);have hkw3 : qa Z w (w1.alloc (.cells #[.int .i64 ti, .int .i64 tt, .slice D n c] 25)) := hkw1.trans (qv _ _);clear h2 hl1 hA1 hr2 hkw1
 have hP := fun W => qe1 ti tt D n c W
 generalize snapB ti tt n = r at *;obtain ⟨⟨a0,a1,a2⟩,_⟩ := row3 hq3
 go_wp2_with fail
 refine (hP _).mono ?_;rintro e w2 ⟨rfl,hb2⟩;have h4 := h3.below hb2 (Nat.le_refl _);have hr4 := (hb2.block _ (hlt hr3)).trans hr3;have hq4 := (hb2.block _ (hlt hq3)).trans hq3;have hl4 := hl3.below hb2 (Nat.le_refl _);have hkw4 : qa Z w w2 := hkw3.trans (qb hb2 (Nat.le_refl _));clear h3 hr3 hq3 hl3 hkw3 hb2 a0 a1 a2 hP;have hS := qcG r w2 i ts Z h4
 go_wp2_with fail
 refine hS.mono ?_;rintro e w3 ⟨rfl,h5,k5⟩;have hr5 := (k5.block _ (hlt hr4) hzb).trans hr4;have hq5 := (k5.block _ (hlt hq4) hZ1).trans hq4;have hl5 := hl4.keeps k5 hDz;have hkw5 : qa Z w w3 := hkw4.trans k5;clear hS h4 hr4 hq4 hl4 hkw4 k5;obtain ⟨⟨a0,a1,a2⟩,⟨f0,f1,f2⟩⟩ := row3 hr5;obtain ⟨⟨b0,b1,b2⟩,_⟩ := row3 hq5
 by_cases hyes : r = true /\ ∃ sl,ts = some sl
 · obtain ⟨rfl,sl,rfl⟩ := hyes;rw [if_neg (by simp),if_pos rfl] at hR;rw [if_pos rfl] at h5;have hfin := Set3.fin (.int .i64 ti) (.int .i64 tt) (.slice D n c) hib hr5 h5 hzb hl5 hD0;have HR := Lib.hid hR;clear hR hr5 hq5 h5 hl5;simp only [Option.isSome,Bool.true_and] at *;go_wp2;generalize hX : ((w3.setCell ⟨w.heap.size,0,none⟩ (.int .i64 ti)).setCell ⟨w.heap.size,1,none⟩ (.int .i64 tt)).setCell ⟨w.heap.size,2,none⟩ (.slice D n c) = X at *;refine bodyPost_ret (qE (n := w.heap.size) rfl rfl hfin.row Tryz.underlying25 rfl (by kernel_rfl)) rfl ?_;have e : R = _ := HR;rw [e];exact ⟨D,n,c,rfl,hfin.lies,fun h0 g off e => Nat.le_of_lt (hD0 h0 g off e),hfin.inn,hkw5.own3 hfin.keeps⟩
 · have hno : (r && ts.isSome) = false := by
    cases r with
    | false => rfl
    | true =>
      cases ts with
      | none => rfl
      | some l => exact absurd ⟨rfl,l,rfl⟩ hyes
   have hRz : R = ⟨0,0,[],none⟩ := by
    rw [hR]
    cases r with
    | false => split <;> rfl
    | true =>
      cases ts with
      | none => rfl
      | some l => exact absurd ⟨rfl,l,rfl⟩ hyes
   have hsz : (if r = true then ts else none) = none := by
    cases r with
    | false => rfl
    | true =>
      cases ts with
      | none => rfl
      | some l => exact absurd ⟨rfl,l,rfl⟩ hyes
   rw [hsz] at h5;have hfin := Set3.fin (.int .i64 0) (.int .i64 0) (.slice none 0 0) hib hr5 h5 hzb (Lies.nil w3) (fun h0 => absurd h0 (by omega));have HR := Lib.hid hRz;clear hR hr5 hq5 h5 hl5 hyes hsz hRz;generalize (r && ts.isSome) = q at *;subst hno;go_wp2;generalize hX : ((w3.setCell ⟨w.heap.size,0,none⟩ (.int .i64 0)).setCell ⟨w.heap.size,1,none⟩ (.int .i64 0)).setCell ⟨w.heap.size,2,none⟩ (.slice none 0 0) = X at *;refine bodyPost_ret (qE (n := w.heap.size) rfl rfl hfin.row Tryz.underlying25 rfl (by kernel_rfl)) rfl ?_;have e : R = _ := HR;rw [e];exact ⟨none,0,0,rfl,hfin.lies,fun h0 => absurd h0 (by omega),hfin.inn,hkw5.own3 hfin.keeps⟩
end Go.Proofs.YtogbhedbgcmckaaGreat
set_option linter.unusedVariables false
set_option linter.unusedSimpArgs false
set_option maxRecDepth 100000
set_option maxHeartbeats 3200000
namespace Go.Proofs.YtogbhedbgcmckaaGreat
open Go.RowKit
def snapC (o : Option Ent) : Ent × Nat := match o with | some s => (s,0) | none => (qaA,2)
def qaB (w : World) (R : Ent × Nat) (e : Ending) (w' : World) : Prop :=
 ∃ B c,e = .returned (.tuple #[entV R.1.i R.1.t B R.1.d.length c, .int .i64 ((R.2 : Nat) : Int)]) /\ Lies w' B R.1.d.length c R.1.d /\ (0 < R.1.d.length -> ∀ g off,B = some ⟨g,off,none⟩ -> w.heap.size <= g) /\ Below w.heap.size w w'
theorem qaB.zero {w w' : World} (n : Nat) (hb : Below w.heap.size w w') : qaB w (qaA,n) (.returned (.tuple #[entV 0 0 none 0 0, .int .i64 ((n : Nat) : Int)])) w' :=
 ⟨none,0,rfl,Lies.nil _,fun h => absurd h (by simp [qaA]),hb⟩
theorem qP {B : Nat} {w w' : World} (h : Below B w w') {n : Nat} (hn : B <= n) (a b c : Value) : Below B w (((w'.setCell ⟨n,0,none⟩ a).setCell ⟨n,1,none⟩ b).setCell ⟨n,2,none⟩ c) := ((h.setCell hn _).setCell hn _).setCell hn _
theorem qbI (w : World) {n k : Nat} (hk : k ≠ n) (a b c : Value) : (((w.setCell ⟨n,0,none⟩ a).setCell ⟨n,1,none⟩ b).setCell ⟨n,2,none⟩ c).heap[k]? = w.heap[k]? :=
 (Below.heap_setCell _ _ _ _ (by exact hk)).trans ((Below.heap_setCell _ _ _ _ (by exact hk)).trans (Below.heap_setCell _ _ _ _ (by exact hk)))
theorem Lies.lt {w : World} {A : Option Addr} {len cap : Nat} {l : List UInt8} (h : Lies w A len cap l) {g off : Nat} (h0 : 0 < len) (e : A = some ⟨g,off,none⟩) : g < w.heap.size := by
 obtain ⟨g',off',e',hg,_⟩ := h.2.2.2 h0;rw [e] at e';injection e' with e';injection e' with e1 _;omega
theorem qhu (A : Option Addr) (len cap : Nat) (l : List UInt8) (w : World) (hl : Lies w A len cap l) (hm : len <= 1000000000) :
 Calls Tryz.prog 107 #[.slice A len cap] w (qaB w (snapC (snapOf l))) := by
 have hll := hl.1;have hb0 : Below w.heap.size w (w.alloc (.cells #[.int .i64 0, .int .i64 0, .slice none 0 0] 25)) := (Below.refl _ _).alloc (Nat.le_refl _) _;have hr0 := heap_alloc_new w (.cells #[.int .i64 0, .int .i64 0, .slice none 0 0] 25)
 have hz0 : (w.alloc (.cells #[.int .i64 0, .int .i64 0, .slice none 0 0] 25)).heap.size = w.heap.size + 1 := by simp
 have hS := qdu A len cap l _ (hl.below hb0 (Nat.le_refl _)) hm;unfold qcn at hS;rw [hz0] at hS;have hse := qcM l;have hfit := (qfm l).2;obtain ⟨R,hR⟩ : ∃ R,R = snapC (snapOf l) := ⟨_,rfl⟩;rw [<- hR];unfold snapOf at hR;generalize qB l = sc at *;obtain ⟨ls,en⟩ := sc;dsimp only at *
 have hlt0 : w.heap.size < (w.alloc (.cells #[.int .i64 0, .int .i64 0, .slice none 0 0] 25)).heap.size := by omega
 have hfin : ∀ w2,Below (w.heap.size + 1) (w.alloc (.cells #[.int .i64 0, .int .i64 0, .slice none 0 0] 25)) w2 -> w2.heap[w.heap.size]? = some (.cells #[.int .i64 0, .int .i64 0, .slice none 0 0] 25) /\ Below w.heap.size w w2 := fun w2 hb2 => ⟨(hb2.block _ (by omega)).trans hr0,hb0.trans (hb2.mono (by omega))⟩;clear hl hr0 hb0 hlt0
 by_cases h1 : ls.length = 1
 · match ls,h1 with
   | [r],_ =>
     dsimp only [List.length_cons,List.length_nil] at *
     by_cases h2 : en = len
     · subst h2;have hr6 : r.length <= 60000 := hfit r (List.mem_singleton_self r)
       have hL : left (some r) <= 140737488355328 := by show r.length <= _; omega
       have hG := fun W i Z h hZ => qj1 W i (some r) Z h hZ hL
       generalize fromN snapB (some r) 50000 = F at *;obtain ⟨fi,ft,fd,fs⟩ := F;dsimp only at *;have e1 : 0 + 1 = 1 := rfl;rw [e1] at hS;have HR := Lib.hid hR;have HLL := Lib.hid hll;clear hR hll hse hfit hL hz0
       go_enter Tryz.func107,Tryz.ntmps107
       go_wp2_with fail
       refine hS.mono ?_;rintro e w2 ⟨A2,c2,rfl,hrec,hb2⟩;obtain ⟨hr2,hbw2⟩ := hfin w2 hb2;obtain ⟨g,off,rfl,hg,_,hcell⟩ := hrec.2.2.2 (by omega);obtain ⟨v,hv,E,cE,rfl,hcE,hlE,_⟩ := hcell 0 (by simp);have hv' : w2.cell? ⟨g,off,none⟩ = some (.slice E r.length cE) := hv;have hN := qeb E r.length cE r w2 (· < w2.heap.size) (fun k hk => hk) hlE (by omega);clear hS hrec hb2 hfin hcell hv e1
       go_wp2_with fail
       refine hN.mono ?_;rintro e w3 ⟨i,rfl,hin3,hb3⟩;have hr3 := (hb3.block _ (hlt hr2)).trans hr2;have hin3' := hin3.out (Z' := fun k => k < w2.heap.size \/ w3.heap.size <= k) (fun k hk => hk);have hG3 := hG w3 i _ hin3' (fun k hk => .inr hk);have hs23 := hb3.size;have hlt2 : w.heap.size < w2.heap.size := hlt hr2;clear hN hG hin3 hv' hlE hg
       go_wp2_with fail
       refine hG3.mono ?_;rintro e w4 ⟨D,n,c,rfl,hlD,hDn,hin4,k4⟩;have hn := hlD.1;subst hn;have hr4 := (k4.block _ (hlt hr3) (.inl hlt2)).trans hr3;have hbw4 : Below w.heap.size w w4 := (hbw2.trans (hb3.mono hbw2.size)).trans ⟨k4.os,k4.tape,k4.output,k4.size,fun k hk => k4.block k (by omega) (.inl (by omega))⟩;have hA5 : Below w4.heap.size w4 (w4.alloc (.cells #[.int .i64 fi, .int .i64 ft, .slice D fd.length c] 25)) := (Below.refl _ _).alloc (Nat.le_refl _) _;have hq5 := heap_alloc_new w4 (.cells #[.int .i64 fi, .int .i64 ft, .slice D fd.length c] 25);have hin5 := hin4.below hA5 (Nat.le_refl _);have hr5 := (hA5.block _ (hlt hr4)).trans hr4;have hl5 := hlD.below hA5 (Nat.le_refl _);have hbw5 := hbw4.trans (hA5.mono hbw4.size)
       have hDw : 0 < fd.length -> ∀ g off,D = some ⟨g,off,none⟩ -> w.heap.size < g := fun h0 g off e => by have := hDn h0 g off e; omega
       have hDone := qdo _ i fs _ hin5;clear hG3 hin3' hr3 k4 hin4 hA5 hr4 hlD hDn hin5 hb3 hbw4 hbw2 hr2
       by_cases hd : fs = some []
       · rw [decide_eq_true hd] at hDone;obtain ⟨⟨a0,a1,a2⟩,_⟩ := row3 hq5
         have hZ := fun W => qhs fi ft D fd.length c W
         by_cases hi : fi = 0
         · rw [decide_eq_true hi] at hZ
           have HRZ := Lib.hid (show R = (qaA,2) by
            have e : R = _ := HR
            rw [e,if_neg (fun h => h.2.2 hi)]; rfl)
           clear HR hd hi
           go_wp2_with fail
           refine hDone.mono ?_;rintro e w5 ⟨rfl,rfl⟩
           go_wp2_with fail
           refine (hZ _).mono ?_;rintro e w6 ⟨rfl,hb6⟩;have hr6' := (hb6.block _ (hlt hr5)).trans hr5;have HB := Lib.hid (hbw5.trans (hb6.mono hbw5.size));obtain ⟨⟨b0,b1,b2⟩,⟨f0,f1,f2⟩⟩ := row3 hr6';have HQ := Lib.hid hr6';clear hr6' hr5 hq5 hb6 hbw5 hZ a0 a1 a2 hl5;go_wp2;refine bodyPost_ret (qm (n := w.heap.size) rfl rfl (qN _ _ _ _ _ _ _ _ _ HQ.out) Tryz.underlying25 rfl (by kernel_rfl)) rfl ?_;rw [HRZ.out];exact qaB.zero 2 (qP HB.out (Nat.le_refl _) _ _ _)
         · rw [decide_eq_false hi] at hZ
           have HRZ := Lib.hid (show R = (⟨fi,ft,fd⟩,0) by
            have e : R = _ := HR;have e2 : l.length = en := HLL
            rw [e,if_pos ⟨e2.symm,hd,hi⟩]; rfl)
           clear HR hd hi
           go_wp2_with fail
           refine hDone.mono ?_;rintro e w5 ⟨rfl,rfl⟩
           go_wp2_with fail
           refine (hZ _).mono ?_;rintro e w6 ⟨rfl,hb6⟩;have hr6' := (hb6.block _ (hlt hr5)).trans hr5;have hq6 := (hb6.block _ (hlt hq5)).trans hq5;have hl6 := hl5.below hb6 (Nat.le_refl _);have HB := Lib.hid (hbw5.trans (hb6.mono hbw5.size));obtain ⟨⟨b0,b1,b2⟩,⟨f0,f1,f2⟩⟩ := row3 hr6';obtain ⟨⟨c0,c1,c2⟩,_⟩ := row3 hq6;have HQ := Lib.hid hr6';have HL := Lib.hid hl6;have HDW := Lib.hid hDw;clear hr6' hr5 hq5 hq6 hb6 hbw5 hZ a0 a1 a2 hl5 hl6 hDw;go_wp2;refine bodyPost_ret (qm (n := w.heap.size) rfl rfl (qN _ _ _ _ _ _ _ _ _ HQ.out) Tryz.underlying25 rfl (by kernel_rfl)) rfl ?_;rw [HRZ.out];refine ⟨D,c,rfl,HL.out.keep (by simp) fun h0 g off e _ => qbI _ (by have := HDW.out h0 g off e; omega) _ _ _,fun h0 g off e => Nat.le_of_lt (HDW.out h0 g off e),qP HB.out (Nat.le_refl _) _ _ _⟩
       · rw [decide_eq_false hd] at hDone
         have HRZ := Lib.hid (show R = (qaA,2) by
          have e : R = _ := HR
          rw [e,if_neg (fun h => hd h.2.1)]; rfl)
         have HB := Lib.hid hbw5;have HQ := Lib.hid hr5;obtain ⟨⟨b0,b1,b2⟩,⟨f0,f1,f2⟩⟩ := row3 hr5;clear HR hd hr5 hq5 hbw5 hl5
         go_wp2_with fail
         refine hDone.mono ?_;rintro e w5 ⟨rfl,rfl⟩;go_wp2;refine bodyPost_ret (qm (n := w.heap.size) rfl rfl (qN _ _ _ _ _ _ _ _ _ HQ.out) Tryz.underlying25 rfl (by kernel_rfl)) rfl ?_;rw [HRZ.out];exact qaB.zero 2 (qP HB.out (Nat.le_refl _) _ _ _)
     · have h2b : ((en : Int) != (len : Int)) = true := by simp; omega
       have h2c : ((en : Int) = (len : Int)) = False := eq_false (by omega);have HR := Lib.hid (show R = (qaA,2) by rw [hR,if_neg (fun h => h2 (by rw [h.1,hll]))]; rfl);clear hR h2 hll hse
       go_enter Tryz.func107,Tryz.ntmps107
       go_wp2_with fail
       refine hS.mono ?_;rintro e w2 ⟨A2,c2,rfl,_,hb2⟩;obtain ⟨hr2,hbw⟩ := hfin w2 hb2;obtain ⟨⟨a0,a1,a2⟩,⟨f0,f1,f2⟩⟩ := row3 hr2;have HB := Lib.hid hbw;have HQ := Lib.hid hr2;clear hS hb2 hr2 hbw;go_wp2;refine bodyPost_ret (qm (n := w.heap.size) rfl rfl (qN _ _ _ _ _ _ _ _ _ HQ.out) Tryz.underlying25 rfl (by kernel_rfl)) rfl ?_;rw [HR.out];exact qaB.zero 2 (qP HB.out (Nat.le_refl _) _ _ _)
 · have h1b : ((ls.length : Int) != 1) = true := by simp; omega
   have h1c : ((ls.length : Int) = 1) = False := eq_false (by omega)
   have HR := Lib.hid (show R = (qaA,2) by
    rw [hR]
    match ls,h1 with
    | [],_ => rfl
    | [a],h => exact absurd rfl h
    | a :: b :: t,_ => rfl)
   clear hR h1 hll hse
   go_enter Tryz.func107,Tryz.ntmps107
   go_wp2_with fail
   refine hS.mono ?_;rintro e w2 ⟨A2,c2,rfl,_,hb2⟩;obtain ⟨hr2,hbw⟩ := hfin w2 hb2;obtain ⟨⟨a0,a1,a2⟩,⟨f0,f1,f2⟩⟩ := row3 hr2;have HB := Lib.hid hbw;have HQ := Lib.hid hr2;clear hS hb2 hr2 hbw;go_wp2;refine bodyPost_ret (qm (n := w.heap.size) rfl rfl (qN _ _ _ _ _ _ _ _ _ HQ.out) Tryz.underlying25 rfl (by kernel_rfl)) rfl ?_;rw [HR.out];exact qaB.zero 2 (qP HB.out (Nat.le_refl _) _ _ _)
theorem qeq {D : Dsk} (hg : Good D) (n : ByteArray) : (D.read n).1.size <= 1048576 := by
 have h1 := hg.usedN;have h2 := qaW D.l n;have h3 := qb5 D.l n;unfold Dsk.read
 split
 · exact Nat.zero_le _
 · split
   · exact Nat.zero_le _
   · dsimp only; omega
theorem qeM (bb : ByteArray) : qaS (bb,0) = snapC (snapOf bb.data.toList) := by
 unfold qaS snapC;rw [if_neg (by simp),if_neg (by simp)]
 split <;> rename_i h <;> rw [h]
theorem qfA (w : World) (d : Nat) (D : Dsk) (Z : Nat -> Prop) (h : Dk w d D Z) :
 Calls Tryz.prog 55 #[dptr d] w (qaB w D.snapV) := by
 have hb0 : Below w.heap.size w (w.alloc (.cells #[.int .i64 0, .int .i64 0, .slice none 0 0] 25)) := (Below.refl _ _).alloc (Nat.le_refl _) _;have hr0 := heap_alloc_new w (.cells #[.int .i64 0, .int .i64 0, .slice none 0 0] 25)
 have hz0 : (w.alloc (.cells #[.int .i64 0, .int .i64 0, .slice none 0 0] 25)).heap.size = w.heap.size + 1 := by simp
 have hA := qcj _ d D Z (h.below hb0) qc2;rw [hz0] at hA;have hsz := qeq h.good qc2;unfold Dsk.snapV;generalize D.read qc2 = r at *;obtain ⟨bb,er⟩ := r;dsimp only at *;have hfin : ∀ w2,Below (w.heap.size + 1) (w.alloc (.cells #[.int .i64 0, .int .i64 0, .slice none 0 0] 25)) w2 -> w2.heap[w.heap.size]? = some (.cells #[.int .i64 0, .int .i64 0, .slice none 0 0] 25) /\ Below w.heap.size w w2 := fun w2 hb2 => ⟨(hb2.block _ (by omega)).trans hr0,hb0.trans (hb2.mono (by omega))⟩;clear hb0 hr0 h hz0
 by_cases h0 : er = 0
 · subst h0;rw [qeM]
   have hF := fun A cap w1 (hl : Lies w1 A bb.size cap bb.data.toList) => qhu A bb.size cap bb.data.toList w1 hl (by omega)
   generalize snapC (snapOf bb.data.toList) = R at *
   go_enter Tryz.func55,Tryz.ntmps55
   go_wp2_with fail
   refine hA.mono ?_;rintro e w1 ⟨A,cap,rfl,hl,hb1⟩;obtain ⟨hr1,hbw1⟩ := hfin w1 hb1;have hF1 := hF A cap w1 hl;clear hA hb1 hl hF hsz
   go_wp2_with fail
   refine hF1.mono ?_;rintro e w2 ⟨B,c,rfl,hlB,hB,hb2⟩;have hr2 := (hb2.block _ (hlt hr1)).trans hr1;have hlt1 : w.heap.size < w1.heap.size := hlt hr1;have HB := Lib.hid (hbw1.trans (hb2.mono hbw1.size));have HQ := Lib.hid hr2;have HL := Lib.hid hlB;have HN := Lib.hid hB;obtain ⟨⟨a0,a1,a2⟩,⟨f0,f1,f2⟩⟩ := row3 hr2;obtain ⟨⟨ri,rt,rd⟩,rc⟩ := R;dsimp only at *;clear hF1 hr2 hlB hB hb2 hbw1 hr1 hfin;go_wp2;refine bodyPost_ret (qm (n := w.heap.size) rfl rfl (qN _ _ _ _ _ _ _ _ _ HQ.out) Tryz.underlying25 rfl (by kernel_rfl)) rfl ?_;exact ⟨B,c,rfl,HL.out.keep (by simp) fun h0 g off e _ => qbI _ (by have := HN.out h0 g off e; omega) _ _ _,fun h0 g off e => by have := HN.out h0 g off e; omega,qP HB.out (Nat.le_refl _) _ _ _⟩
 · by_cases h6 : er = 6
   · subst h6;have HR : qaS (bb,6) = (qaA,0) := rfl;rw [HR]
     go_enter Tryz.func55,Tryz.ntmps55
     go_wp2_with fail
     refine hA.mono ?_;rintro e w1 ⟨A,cap,rfl,hl,hb1⟩;obtain ⟨hr1,hbw1⟩ := hfin w1 hb1;obtain ⟨⟨a0,a1,a2⟩,⟨f0,f1,f2⟩⟩ := row3 hr1;have HB := Lib.hid hbw1;have HQ := Lib.hid hr1;clear hA hb1 hl hsz hr1 hbw1 hfin h0 HR;go_wp2;refine bodyPost_ret (qm (n := w.heap.size) rfl rfl (qN _ _ _ _ _ _ _ _ _ HQ.out) Tryz.underlying25 rfl (by kernel_rfl)) rfl ?_;exact qaB.zero 0 (qP HB.out (Nat.le_refl _) _ _ _)
   · have HR : qaS (bb,er) = (qaA,er) := by unfold qaS; rw [if_neg h6,if_pos h0]
     rw [HR]
     have e6 : ((er : Int) == 6) = false := by simp; omega
     have e6' : ((er : Int) = 6) = False := eq_false (by omega)
     have e0 : ((er : Int) != 0) = true := by simp; omega
     have e0' : ((er : Int) = 0) = False := eq_false (by omega);clear HR h0 h6
     go_enter Tryz.func55,Tryz.ntmps55
     go_wp2_with fail
     refine hA.mono ?_;rintro e w1 ⟨A,cap,rfl,hl,hb1⟩;obtain ⟨hr1,hbw1⟩ := hfin w1 hb1;obtain ⟨⟨a0,a1,a2⟩,⟨f0,f1,f2⟩⟩ := row3 hr1;have HB := Lib.hid hbw1;have HQ := Lib.hid hr1;clear hA hb1 hl hsz hr1 hbw1 hfin;go_wp2;refine bodyPost_ret (qm (n := w.heap.size) rfl rfl (qN _ _ _ _ _ _ _ _ _ HQ.out) Tryz.underlying25 rfl (by kernel_rfl)) rfl ?_;exact qaB.zero er (qP HB.out (Nat.le_refl _) _ _ _)
end Go.Proofs.YtogbhedbgcmckaaGreat
set_option linter.unusedVariables false
set_option linter.unusedSimpArgs false
set_option maxRecDepth 100000
set_option maxHeartbeats 200000
namespace Go.Proofs.YtogbhedbgcmckaaGreat
open Go.RowKit
end Go.Proofs.YtogbhedbgcmckaaGreat
set_option linter.unusedVariables false
set_option linter.unusedSimpArgs false
set_option maxRecDepth 100000
set_option maxHeartbeats 200000
namespace Go.Proofs.YtogbhedbgcmckaaGreat
open Go.RowKit
structure Vt (w : World) (v j d : Nat) (D : Dsk) (was : Hd) (n : Int) (Z : Nat -> Prop) : Prop where
 box : w.heap[v]? = some (.cells #[dptr d,jptr j, .int .i64 was.t, .int .i64 was.v] 137)
 lg : Lg w j d D nWal n Z
 own : Z v
 ne : v ≠ j
section
variable {w w' : World} {v j d : Nat} {D D' : Dsk} {was : Hd} {n : Int} {Z : Nat → Prop}
theorem Vt.lt (h : Vt w v j d D was n Z) : v < w.heap.size := hlt h.box
theorem Vt.did (h : Vt w v j d D was n Z) (hd : Did w w' d D' Z) : Vt w' v j d D' was n Z :=
 ⟨(hd.2.block v h.lt h.own).trans h.box,h.lg.did hd,h.own,h.ne⟩
theorem Vt.below (h : Vt w v j d D was n Z) (hb : Below w.heap.size w w') : Vt w' v j d D was n Z :=
 ⟨(hb.block v h.lt).trans h.box,h.lg.below hb,h.own,h.ne⟩
theorem Vt.wide (h : Vt w v j d D was n Z) (hb : Below w.heap.size w w') : Vt w' v j d D was n (fun k => Z k \/ w.heap.size <= k /\ k < w'.heap.size) :=
 ⟨(hb.block v h.lt).trans h.box,⟨(hb.block j h.lg.lt).trans h.lg.box,h.lg.dk.wide hb, .inl h.lg.own⟩, .inl h.own,h.ne⟩
theorem Vt.cells (h : Vt w v j d D was n Z) : w.cell? ⟨v,0,none⟩ = some (dptr d) /\ w.cell? ⟨v,1,none⟩ = some (jptr j) /\ w.cell? ⟨v,2,none⟩ = some (.int .i64 was.t) /\ w.cell? ⟨v,3,none⟩ = some (.int .i64 was.v) := (row4 h.box).1
end
end Go.Proofs.YtogbhedbgcmckaaGreat
set_option linter.unusedVariables false
set_option linter.unusedSimpArgs false
set_option maxRecDepth 100000
set_option maxHeartbeats 200000
namespace Go.Proofs.YtogbhedbgcmckaaGreat
open Go.RowKit
theorem Recs.cellsZ {w : World} {Z : Nat -> Prop} {A : Option Addr} {len cap : Nat} {ls : List (List UInt8)} (h : Recs w Z A len cap ls) : ∃ cs : List Value,cs.length = ls.length /\ (∀ j (hj : j < ls.length),∃ e,cs[j]? = some e /\ Rec1 w Z e ls[j]) /\ ∀ g off,A = some ⟨g,off,none⟩ -> ∀ j u,cs[j]? = some u -> w.cell? ⟨g,off + j,none⟩ = some u := by
 obtain ⟨V,hV⟩ := Classical.axiomOfChoice (r := fun (j : Nat) (v : Value) => ∀ hj : j < ls.length,(∀ g off,A = some ⟨g,off,none⟩ -> w.cell? ⟨g,off + j,none⟩ = some v) /\ Rec1 w Z v ls[j]) (fun j => by
  by_cases hj : j < ls.length
  · obtain ⟨g,off,e,hg,_,hc⟩ := h.2.2.2 (by rw [<- h.1]; omega);obtain ⟨v,hv,hr⟩ := hc j hj;refine ⟨v,fun _ => ⟨fun g' off' e' => ?_,hr⟩⟩;rw [e] at e';injection e' with e';injection e' with e1 e2;subst e1 e2;exact hv
  · exact ⟨.bool false,fun h => absurd h hj⟩)
 refine ⟨(List.range ls.length).map V,by simp,fun j hj => ⟨V j,by simp [hj],(hV j hj).2⟩,fun g off e j u hu => ?_⟩
 have hj : j < ls.length := by
  have := (List.getElem?_eq_some_iff.1 hu).1
  simpa using this
 have : u = V j := by simpa [hj] using hu.symm
 rw [this];exact (hV j hj).1 g off e
theorem qiy {w : World} {Z : Nat -> Prop} {v : Value} {l : List UInt8} (h : Rec1 w Z v l) : v.oneCell' = true := by
 obtain ⟨E,c,rfl,_⟩ := h
 rfl
/-- 'append(x,y...)',y records in memory,x a row of records of the call's own. -/
theorem qbV (w : World) (ty : TypeId) (B : Nat) (hB : B <= w.heap.size) (v : Value) (ts : List (List UInt8)) (h : qn w B v ts) (A : Option Addr) (len cap : Nat) (ls : List (List UInt8)) (hr : Recs w (fun g => B <= g /\ v.ownBlock ≠ some g) A len cap ls) (hf : ts.length + len <= 1000000) :
 ∃ A' cap' w',(Builtin.append_ #[127,127] ty #[v, .slice A len cap]).run Tryz.prog w = .ok (.slice A' (ts.length + len) cap') w' /\ qn w' B (.slice A' (ts.length + len) cap') (ts ++ ls) /\ w.grownBy w' v.ownBlock := by
 obtain ⟨i0,hi0,hz0,hz1,hz2⟩ := info_parts qcm;obtain ⟨vs,ho,hvl,hvat⟩ := h;obtain ⟨cs,hcl,hcat,hat⟩ := hr.cellsZ
 have hll : cs.length = len := by rw [hcl,hr.1]
 have hones : ∀ u ∈ cs,u.oneCell' = true := by
  intro u hu;obtain ⟨j,hj,rfl⟩ := List.getElem_of_mem hu;obtain ⟨e,he,hr1⟩ := hcat j (by omega);rw [List.getElem?_eq_getElem hj] at he;injection he with he;rw [he];exact qiy hr1
 have key : ∀ v' w',(Builtin.append_ #[127,127] ty #[v, .slice A len cap]).run Tryz.prog w = .ok v' w' -> w'.ownsRow B 23 1 v' (ts.length + len) (vs ++ cs) -> w.grownBy w' v.ownBlock -> (v'.ownBlock = v.ownBlock \/ v'.ownBlock = some w.heap.size) →
  ∃ A' cap' w',(Builtin.append_ #[127,127] ty #[v, .slice A len cap]).run Tryz.prog w = .ok (.slice A' (ts.length + len) cap') w' /\ qn w' B (.slice A' (ts.length + len) cap') (ts ++ ls) /\ w.grownBy w' v.ownBlock := by
  intro v' w' hrun h2 h3 h4
  have hlen : (ts ++ ls).length = ts.length + len := by rw [List.length_append,hr.1]
  have hne : ∀ {x : Value} {t : List UInt8},Rec1 w (fun g => B <= g /\ v.ownBlock ≠ some g) x t -> Rec1 w' (fun q => B <= q /\ v'.ownBlock ≠ some q) x t := by
   intro x t hx;obtain ⟨E,c,ex,hc,hl,hz⟩ := hx;refine ⟨E,c,ex,hc,hl.keep h3.size fun h0 q off eq hlt => h3.block q hlt fun er => (hz h0 q off eq).2 er.symm,fun h0 q off eq => ⟨(hz h0 q off eq).1,fun er => ?_⟩⟩;obtain ⟨q',off',eq',hlt,_⟩ := hl.2.2.2 h0;rw [eq] at eq';injection eq' with eq';injection eq' with e1 _;subst e1;rcases h4 with h4 | h4
   · exact (hz h0 q off eq).2 (by rw [<- h4]; exact er)
   · rw [h4] at er;injection er with er;omega
  have hrow : qn w' B v' (ts ++ ls) := by
   refine ⟨vs ++ cs,by rw [hlen]; exact h2,by rw [List.length_append,hvl,hcl,List.length_append],fun j hj => ?_⟩
   by_cases hjl : j < ts.length
   · obtain ⟨x,h5,h6⟩ := hvat j hjl;refine ⟨x,by rw [List.getElem?_append_left (by omega)]; exact h5,?_⟩;rw [List.getElem_append_left hjl];exact hne h6
   · rw [List.length_append] at hj;obtain ⟨x,h5,h6⟩ := hcat (j - ts.length) (by omega);refine ⟨x,by rw [List.getElem?_append_right (by omega),hvl]; exact h5,?_⟩;rw [List.getElem_append_right (by omega)];exact hne h6
  obtain ⟨A',cap',rfl⟩ := hrow.form;rw [hlen] at hrun hrow;exact ⟨A',cap',w',hrun,hrow,h3⟩
 cases A with
 | none =>
   have hc0 := hr.2.2.1 rfl;have hl0 := hr.2.1;obtain rfl : cap = 0 := hc0
   obtain rfl : len = 0 := by omega
   have hls : cs = [] := List.eq_nil_of_length_eq_zero hll;subst hls;exact key v w (run_append_owned_none (P := Tryz.prog) (w := w) B 127 ty 23 i0 1 Tryz.underlying127 hi0 v _ _ ho) (by simpa using ho) (World.grownBy.refl _ _) (.inl rfl)
 | some a =>
   have hcell : ∀ j u,cs[j]? = some u -> w.cell? (a.add j) = some u := fun j u hj => by
    have hjl : j < cs.length := (List.getElem?_eq_some_iff.1 hj).1;obtain ⟨g,off,e,_,_,hc⟩ := hr.2.2.2 (by omega);injection e with e;subst e;rw [Addr.add_lit];exact hat g off rfl j u hj
   obtain ⟨v',w',hrun,p2,p3,_,p5⟩ := run_append_own_at (P := Tryz.prog) w B 127 ty 23 i0 (.slice none 0 0) 1 24 Tryz.underlying127 hi0 hz0 hz1 hz2 rfl (by omega) v ts.length vs ho a len cap cs (by rw [hll]; simp) hcell hones (by unfold maxLen; omega) (by omega) hB;exact key v' w' hrun p2 p3 p5
theorem qam (w : World) {ops : Array Oper} {o : Oper} {a : Act} {K : Act -> World -> Prop} {Q : Exit -> Act -> World -> Prop} {E : Prop} (hgd : o.guard = none) (sl x : Operand)
 (ho : o.op = .call { callee := .builtin .append,args := #[sl,x],argTypes := #[127,127] })
 (B : Nat) (v : Value) (ts : List (List UInt8)) (A : Option Addr) (len cap : Nat) (ls : List (List UInt8)) (hx : a.eval x = .slice A len cap) (hs : a.eval sl = v) (hB : B <= w.heap.size) (h : qn w B v ts) (hr : Recs w (fun g => B <= g /\ v.ownBlock ≠ some g) A len cap ls) (m : Nat) (hm : ts.length + len = m) (hf : m <= 1000000)
 (hK : ∀ A' cap' w',qn w' B (.slice A' m cap') (ts ++ ls) -> w.grownBy w' v.ownBlock -> K (a.put o.dst (.slice A' m cap')) w') :
 if Region.wanted o (yielded ops a.tmps) = true then Oper.wp Tryz.prog o a w K Q else E := by
 have hw : Region.wanted o (yielded ops a.tmps) = true := by simp [Region.wanted,hgd]
 rw [if_pos hw];subst hm;obtain ⟨A',cap',w',hrun,h1,h2⟩ := qbV w o.type B hB v ts h A len cap ls hr hf;unfold Oper.wp execOp;simp only [ho,resolve,invoke,builtin,Sem.run_bind,Sem.run_pure,Result.andThen_ok,List.map_toArray,List.map_cons,List.map_nil,hs,hx,hrun];exact hK A' cap' w' h1 h2
theorem qbm (w : World) {ops : Array Oper} {rest : List Oper} {o : Oper} {a : Act} {Q : Exit -> Act -> World -> Prop} (hgd : o.guard = none) (sl x : Operand)
 (ho : o.op = .call { callee := .builtin .append,args := #[sl,x],argTypes := #[127,127] })
 (B : Nat) (v : Value) (ts : List (List UInt8)) (A : Option Addr) (len cap : Nat) (ls : List (List UInt8)) (hx : a.eval x = .slice A len cap) (hs : a.eval sl = v) (hB : B <= w.heap.size) (h : qn w B v ts) (hr : Recs w (fun g => B <= g /\ v.ownBlock ≠ some g) A len cap ls) (m : Nat) (hm : ts.length + len = m) (hf : m <= 1000000)
 (hK : ∀ A' cap' w',qn w' B (.slice A' m cap') (ts ++ ls) -> w.grownBy w' v.ownBlock -> wpList Tryz.prog ops Q rest (a.put o.dst (.slice A' m cap')) w') : wpList Tryz.prog ops Q (o :: rest) a w := by
 refine wpList_plain hgd fun K hKK => ?_;subst hm;obtain ⟨A',cap',w',hrun,h1,h2⟩ := qbV w o.type B hB v ts h A len cap ls hr hf;unfold Oper.wp execOp;simp only [ho,resolve,invoke,builtin,Sem.run_bind,Sem.run_pure,Result.andThen_ok,List.map_toArray,List.map_cons,List.map_nil,hs,hx,hrun];exact hKK _ _ (hK A' cap' w' h1 h2)
theorem qn.one {w W : World} {B n c : Nat} {A : Option Addr} {r : List UInt8} (ho : Owns 5 w B (.slice A n c) r) (hn : r.length = n) (hb : Below w.heap.size w W) (hB : B <= w.heap.size) :
 qn (W.alloc (.cells #[.slice A n c] 23)) B (.slice (some ⟨W.heap.size,0,none⟩) 1 1) [r] := by
 subst hn;have hs := hb.size;obtain ⟨A',c',e,hl,hq⟩ := qp ho;have hc := qcl ho;injection e with e1 e2 e3;subst e1 e3;have hA : Below w.heap.size w (W.alloc (.cells #[.slice A r.length c] 23)) := hb.alloc hs _;refine ⟨[.slice A r.length c],World.ownsRow_lit W #[.slice A r.length c] 1 (by omega) (by unfold maxLen; omega) rfl,rfl,fun j hj => ?_⟩
 obtain rfl : j = 0 := by simpa using hj
 refine ⟨_,rfl,A,c,rfl,hc,hl.below hA (Nat.le_refl _),fun h0 g off e => ?_⟩;have := ho.lt g (hq g off e);refine ⟨this.1,fun er => ?_⟩;injection er with er;have er : W.heap.size = g := er;omega
theorem qj2 {w7 w8 : World} {B n c7 m c8 : Nat} {A7 A8 : Option Addr} {r : List UInt8} {ts : List (List UInt8)} (ho : Owns 5 w7 B (.slice A7 n c7) r) (hn : r.length = n) (hB : B <= w7.heap.size)
 (hb : Below (w7.alloc (.cells #[.slice A7 n c7] 23)).heap.size (w7.alloc (.cells #[.slice A7 n c7] 23)) w8) (hrow : qn w8 (w7.alloc (.cells #[.slice A7 n c7] 23)).heap.size (.slice A8 m c8) ts) (hm : ts.length = m) :
 qn w8 B (.slice (some ⟨w7.heap.size,0,none⟩) 1 1) [r] /\ Recs w8 (fun g => B <= g /\ (Value.slice (some ⟨w7.heap.size,0,none⟩) 1 1).ownBlock ≠ some g) A8 m c8 ts := by
 subst hm;refine ⟨(qn.one ho hn (Below.refl _ _) hB).below hb,hrow.recs.mono fun k hk => ?_⟩
 have hk' : w7.heap.size + 1 <= k := by simpa using hk
 refine ⟨by omega,fun er => ?_⟩;injection er with er;have er : w7.heap.size = k := er;omega
theorem qj3 {w7 w8 : World} {B n c7 m c8 : Nat} {A7 A8 : Option Addr} {r : List UInt8} {ts : List (List UInt8)} (ho : Owns 5 w7 B (.slice A7 n c7) r) (hn : r.length = n) (hB : B <= w7.heap.size)
 (hb : Below w7.heap.size w7 w8) (hrow : qn w8 w7.heap.size (.slice A8 m c8) ts) (hm : ts.length = m) :
 qn (w8.alloc (.cells #[.slice A7 n c7] 23)) B (.slice (some ⟨w8.heap.size,0,none⟩) 1 1) [r] /\ Recs (w8.alloc (.cells #[.slice A7 n c7] 23)) (fun g => B <= g /\ (Value.slice (some ⟨w8.heap.size,0,none⟩) 1 1).ownBlock ≠ some g) A8 m c8 ts := by
 subst hm;refine ⟨qn.one ho hn hb hB,?_⟩
 have hw : Recs w8 (fun k => w7.heap.size <= k /\ k < w8.heap.size) A8 ts.length c8 ts := by
  have h := hrow.recs;refine ⟨h.1,h.2.1,h.2.2.1,fun h0 => ?_⟩;obtain ⟨g,off,e,hg,hz,hc⟩ := h.2.2.2 h0;refine ⟨g,off,e,hg,⟨hz,hg⟩,fun j hj => ?_⟩;obtain ⟨v,hv,E,c,ev,hc,hl,hz2⟩ := hc j hj;refine ⟨v,hv,E,c,ev,hc,hl,fun h1 q o eq => ⟨hz2 h1 q o eq,?_⟩⟩;obtain ⟨q',o',eq',hlt,_⟩ := hl.2.2.2 h1;rw [eq] at eq';injection eq' with eq';injection eq' with e1 _;omega
 refine (hw.below ((Below.refl w8.heap.size w8).alloc (Nat.le_refl _) _) (Nat.le_refl _)).mono fun k hk => ⟨by omega,fun er => ?_⟩
 injection er with er;have er : w8.heap.size = k := er;omega
end Go.Proofs.YtogbhedbgcmckaaGreat
